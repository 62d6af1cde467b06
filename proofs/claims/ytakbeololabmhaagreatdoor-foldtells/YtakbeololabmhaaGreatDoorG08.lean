/-
  Of: LoudG, LoudA, RRef, RApp, RRows, RFind.
-/
import Derived.Test.YtakbeololabmhaaGreatDoorLoudE
import Derived.Test.YtakbeololabmhaaGreatDoorG03
import Derived.Test.YtakbeololabmhaaGreatDoorG04
import Derived.Test.YtakbeololabmhaaGreatDoorRMayC
section
-- LoudG
namespace Go.SeqLib
open Go Go.RowKit
section
variable {P : Program} {n : Nat}

/-- What is asked of the operations. -/
def quietG (mask : Nat → Bool) (l : List Oper) : Bool := (List.range l.length).all fun i => match l[i]? with
  | none => true
  | some o => if mask i then ((List.range l.length).all fun j => match dstAt l.toArray j with
      | none => true
      | some d => !(o.looksAt l.toArray).contains d || waitsOn o j) else plainE o

set_option maxHeartbeats 1000000 in
/-- **The law.** mask: which operations are loud; dflt: what they are held to be till they have come up; Inv: what holds when some of them have come up, by their values; C: what the others lean on. -/
theorem any_loudG {l : List Oper} {mask : Nat → Bool} {Q : Exit → Act → World → Prop} {a : Act} {w : World} {C : World → Prop} {Inv : (Nat → Bool) → (Nat → Value) → World → Prop}
    (dflt : Nat → Value) (hs : seesW l.toArray = true) (hqb : quietG mask l = true) (hIC : ∀ d u w, Inv d u w → C w) (h0 : Inv (fun _ => false) dflt w)
    (hq : ∀ u, (∃ d w, Inv d u w) → wpQuietIn Fence.wide n P (hush (loudVals mask u l.length) l).toArray C (fun a' =>
      (∀ i o, l[i]? = some o → mask i = true → Region.wanted o (yielded l.toArray a'.tmps) = true) ∧
      (∀ i o d w, l[i]? = some o → mask i = true → d i = false → (∀ j, mask j = true → waitsOn o j = true → d j = true) → Inv d u w → LeadsV P n o a' (fun v w' => Inv (fun j => if j = i then true else d j) (fun j => if j = i then v else u j) w') w) ∧
      ∀ d w', (∀ j, mask j = true → j < l.length → d j = true) → Inv d u w' → Q .normal a' w') (hush (loudVals mask u l.length) l) a) :
    wpAnyIn Fence.wide n P .any l.toArray Q l.length (Array.replicate l.length false) a w := by
  have hCw : C w := hIC _ _ _ h0
  have hdd : ∀ i j d, i ≠ j → dstAt l.toArray i = some d → dstAt l.toArray j ≠ some d := by
    intro i j d hij hi hj
    unfold dstAt at hi
    cases ho : l.toArray[i]? with
    | none => rw [ho] at hi; cases hi
    | some o =>
      rw [ho] at hi
      exact ((seesW_at hs ho).2.2.2 j d hj).1 hij hi
  -- the lexical walk for given values of the loud ones
  have hlex : ∀ u : Nat → Value, (∃ d w, Inv d u w) → ∃ V : Nat → Value, (∀ i, i < l.length → mask i = true → V i = u i) ∧
      (∀ i o, l[i]? = some o → mask i = true → Region.wanted o (yielded l.toArray (putAll l.toArray V (List.range l.length) a).tmps) = true) ∧
      (∀ i o, l[i]? = some o → mask i = false → YieldsQuiet Fence.wide n P l.toArray C o (V i) (putAll l.toArray V (List.range' 0 i) a)) ∧
      (∀ i o d w, l[i]? = some o → mask i = true → d i = false → (∀ j, mask j = true → waitsOn o j = true → d j = true) → Inv d u w → LeadsV P n o (putAll l.toArray V (List.range l.length) a) (fun v w' => Inv (fun j => if j = i then true else d j) (fun j => if j = i then v else u j) w') w) ∧
      ∀ d w', (∀ j, mask j = true → j < l.length → d j = true) → Inv d u w' → Q .normal (putAll l.toArray V (List.range l.length) a) w' := by
    intro u hu
    obtain ⟨V, ⟨hwant, hloud, hend⟩, hV⟩ := lex_final (hush (loudVals mask u l.length) l) 0 a (fun j => by simp) (hq u hu)
    rw [hush_put] at hwant hloud hend
    have hrange : List.range' 0 (hush (loudVals mask u l.length) l).length = List.range l.length := by rw [hush_length, List.range_eq_range']
    rw [hrange] at hwant hloud hend
    refine ⟨V, fun i hi hm => ?_, hwant, fun i o ho hm => ?_, hloud, hend⟩
    · have hat : (hush (loudVals mask u l.length) l)[i]? = some { l[i] with op := .assign (.const (u i)) } := by
        rw [hush_at, List.getElem?_eq_getElem hi, loudVals_at _ _ _ _ hi, if_pos hm]; rfl
      have hy := hV i _ hat
      rw [Nat.zero_add] at hy
      have ho : l[i]? = some l[i] := List.getElem?_eq_getElem hi
      have ho' : l.toArray[i]? = some l[i] := by simp
      obtain ⟨hlt, hsel, _, hsee⟩ := seesW_at hs ho'
      have hwt : ∀ j, waitsOn l[i] j = true → j < i := fun j hj => by
        obtain ⟨e, he, hb, rfl⟩ := waitsOn_iff.1 hj
        exact hlt e he hb
      have hq2 := List.all_eq_true.1 hqb i (List.mem_range.2 hi)
      rw [ho] at hq2
      simp only [hm, if_true] at hq2
      have hfr := frames_same (V := V) (V' := V) hsel ((List.range i).filter (fun j => waitsOn l[i] j)) (List.range' 0 i) (List.range l.length) hdd
        (fun j hj => by
          have := List.mem_range.1 (List.mem_filter.1 hj).1
          exact List.mem_range'_1.2 ⟨Nat.zero_le _, by omega⟩)
        (fun j hj => by
          have := List.mem_range.1 (List.mem_filter.1 hj).1
          exact List.mem_range.2 (by omega))
        List.nodup_range' List.nodup_range (List.nodup_range.filter _)
        (fun _ _ => rfl)
        (fun j hj hn d hd hk => by
          rcases (hsee j d hd).2 hk with h1 | ⟨h1, _⟩
          · exact hn (List.mem_filter.2 ⟨List.mem_range.2 (hwt j h1), h1⟩)
          · have := (List.mem_range'_1.1 hj).2; omega)
        (fun j hj hn d hd hk => by
          have := List.all_eq_true.1 hq2 j hj
          rw [hd] at this
          simp only [Bool.or_eq_true] at this
          rcases this with h1 | h1
          · have h5 : (l[i].looksAt l.toArray).contains d = false := by simpa using h1
            rw [List.contains_eq_mem, decide_eq_false_iff_not] at h5
            exact h5 hk
          · exact hn (List.mem_filter.2 ⟨List.mem_range.2 (hwt j h1), h1⟩))
        a
      have hwi := hwant i _ ho hm
      rw [← hfr.2] at hwi
      rcases hy.2 with ⟨_, h1⟩ | ⟨h1, _⟩
      · have := h1 w hCw
        simp [Oper.quietAtIn, execOp, Oper.quietUponIn, Act.eval] at this
        exact this.symm
      · rw [hush_yielded, hush_put] at h1
        have h2 : Region.wanted l[i] (yielded l.toArray (putAll l.toArray V (List.range' 0 i) a).tmps) = false := h1
        rw [hwi] at h2
        cases h2
    · have hi : i < l.length := (List.getElem?_eq_some_iff.1 ho).1
      have hat : (hush (loudVals mask u l.length) l)[i]? = some o := by
        rw [hush_at, ho, loudVals_at _ _ _ _ hi, if_neg (by rw [hm]; simp)]; rfl
      have hy := hV i _ hat
      rw [Nat.zero_add, hush_put] at hy
      unfold YieldsQuiet at hy ⊢
      rw [hush_yielded] at hy
      exact hy
  -- one value alone
  have hdet : ∀ (o : Oper) (v v' : Value) (b b' : Act), plainE o = true → execOp b.eval o = execOp b'.eval o → Region.wanted o (yielded l.toArray b.tmps) = Region.wanted o (yielded l.toArray b'.tmps) →
      YieldsQuiet Fence.wide n P l.toArray C o v b → YieldsQuiet Fence.wide n P l.toArray C o v' b' → v = v' := by
    intro o v v' b b' hp he hw h h'
    rcases h.2 with ⟨hw1, h1⟩ | ⟨hw1, h1⟩
    · rcases h'.2 with ⟨hw2, h2⟩ | ⟨hw2, h2⟩
      · have q1 := h1 w hCw
        have q2 := h2 w hCw
        unfold Oper.quietAtIn at q1 q2
        rw [← he] at q2
        generalize hr : (execOp b.eval o).run P w = r at q1 q2
        cases r with
        | ok x w' =>
          cases x <;> simp only [Oper.quietUponIn] at q1 q2
          case value x => exact q1.2.symm.trans q2.2
          case skip => exact q1.2.trans q2.2.symm
          case enter f args => exact absurd hr (plainE_noEnter hp)
        | halt x w' => simp only [Oper.quietUponIn] at q1
      · rw [hw, hw2] at hw1; cases hw1
    · rcases h'.2 with ⟨hw2, h2⟩ | ⟨hw2, h2⟩
      · rw [hw, hw2] at hw1; cases hw1
      · rw [h1, h2]
  have hplain : ∀ i o, l[i]? = some o → mask i = false → plainE o = true := by
    intro i o ho hm
    have hi : i < l.length := (List.getElem?_eq_some_iff.1 ho).1
    have := List.all_eq_true.1 hqb i (List.mem_range.2 hi)
    rw [ho] at this
    simpa [hm] using this
  -- the frames that an operation sees, by two lists of values that agree where it waits
  have hpre : ∀ i o (V V' : Nat → Value), l[i]? = some o → (∀ j, waitsOn o j = true → V j = V' j) →
      execOp (putAll l.toArray V (List.range' 0 i) a).eval o = execOp (putAll l.toArray V' (List.range' 0 i) a).eval o ∧ Region.wanted o (yielded l.toArray (putAll l.toArray V (List.range' 0 i) a).tmps) = Region.wanted o (yielded l.toArray (putAll l.toArray V' (List.range' 0 i) a).tmps) := by
    intro i o V V' ho hV
    have ho' : l.toArray[i]? = some o := by simpa using ho
    obtain ⟨hlt, hsel, _, hsee⟩ := seesW_at hs ho'
    have hw : ∀ j, waitsOn o j = true → j < i := fun j hj => by
      obtain ⟨e, he, hb, rfl⟩ := waitsOn_iff.1 hj
      exact hlt e he hb
    have hrest : ∀ j ∈ List.range' 0 i, j ∉ (List.range i).filter (fun j => waitsOn o j) → ∀ d, dstAt l.toArray j = some d → d ∉ o.looksAt l.toArray := fun j hj hn d hd hk => by
      have hj1 := (List.mem_range'_1.1 hj).2
      rcases (hsee j d hd).2 hk with h1 | ⟨h1, _⟩
      · exact hn (List.mem_filter.2 ⟨List.mem_range.2 (hw j h1), h1⟩)
      · omega
    have hin : ∀ j ∈ (List.range i).filter (fun j => waitsOn o j), j ∈ List.range' 0 i := fun j hj => by
      have := List.mem_range.1 (List.mem_filter.1 hj).1
      exact List.mem_range'_1.2 ⟨Nat.zero_le _, by omega⟩
    exact frames_same hsel ((List.range i).filter (fun j => waitsOn o j)) _ _ hdd hin hin List.nodup_range' List.nodup_range' (List.nodup_range.filter _) (fun j hj => hV j (List.mem_filter.1 hj).2) hrest hrest a
  -- what holds of the values when some are listed
  have hsame : ∀ (V V' : Nat → Value) (listed : Array Bool), Shut l.toArray listed → (∀ i, mask i = true → listed.getD i false = true → i < l.length → V i = V' i) →
      (∀ i o, l[i]? = some o → mask i = false → listed.getD i false = true → YieldsQuiet Fence.wide n P l.toArray C o (V i) (putAll l.toArray V (List.range' 0 i) a)) →
      (∀ i o, l[i]? = some o → mask i = false → YieldsQuiet Fence.wide n P l.toArray C o (V' i) (putAll l.toArray V' (List.range' 0 i) a)) →
      ∀ i, i < l.length → listed.getD i false = true → V i = V' i := by
    intro V V' listed hsh hm hy hy' i
    induction i using Nat.strongRecOn with
    | _ i ih =>
      intro hi hl
      cases hmi : mask i with
      | true => exact hm i hmi hl hi
      | false =>
        have ho : l[i]? = some l[i] := List.getElem?_eq_getElem hi
        have ho' : l.toArray[i]? = some l[i] := by simp
        have hp := hpre i l[i] V V' ho (fun j hj => by
          obtain ⟨e, he, hb, rfl⟩ := waitsOn_iff.1 hj
          have h1 := (seesW_at hs ho').1 e he hb
          exact ih e.on h1 (by omega) (hsh i _ ho' hl e he hb))
        exact hdet l[i] _ _ _ _ (hplain i _ ho hmi) hp.1 hp.2 (hy i _ ho hmi hl) (hy' i _ ho hmi)
  -- the state
  have key := any_rel (P := P) (n := n) (ops := l.toArray) (Q := Q) (a0 := a) (D := fun V listed w => Inv (fun j => mask j && listed.getD j false) (fun j => if (mask j && listed.getD j false) = true then V j else dflt j) w ∧
      ∀ i o, l[i]? = some o → mask i = false → listed.getD i false = true → YieldsQuiet Fence.wide n P l.toArray C o (V i) (putAll l.toArray V (List.range' 0 i) a)) hs ?_ ?_ l.length (Array.replicate l.length false) (fun _ => undef) w (by simp) ?_ ?_ ?_
  · have e : listOf (Array.replicate l.length false) l.toArray.size = [] := by
      unfold listOf
      rw [List.filter_eq_nil_iff]
      intro j _
      rw [getD_replicate_f]; simp
    rw [e] at key
    exact key
  · intro i o V listed w1 ho hi hsh hD
    obtain ⟨hI, hY⟩ := hD
    have ho' : l[i]? = some o := by simpa using ho
    have hil : i < l.length := (List.getElem?_eq_some_iff.1 ho').1
    obtain ⟨hl, o2, ho2, hall⟩ := mem_ready.1 hi
    obtain rfl : o = o2 := Option.some.inj (ho.symm.trans ho2)
    have hlf := getD_true_false hl
    obtain ⟨V2, hm2, hwant2, hy2, hloud2, _⟩ := hlex (fun j => if (mask j && listed.getD j false) = true then V j else dflt j) ⟨_, _, hI⟩
    have hag := hsame V V2 listed hsh (fun j hj hl hjl => by have := hm2 j hjl hj; rw [if_pos (by rw [hj, hl]; rfl)] at this; exact this.symm) hY hy2
    obtain ⟨hlt, hsel, _, hsee⟩ := seesW_at hs ho
    have hwt : ∀ j, waitsOn o j = true → listed.getD j false = true ∧ j < i := fun j hj => by
      obtain ⟨e, he, hb, rfl⟩ := waitsOn_iff.1 hj
      exact ⟨hall e he hb, hlt e he hb⟩
    have hp := hpre i o V V2 ho' (fun j hj => hag j (by have := (hwt j hj).2; omega) (hwt j hj).1)
    -- what was shown of the quiet ones stays
    have hstay : ∀ (v : Value), ∀ k p, l[k]? = some p → mask k = false → listed.getD k false = true → YieldsQuiet Fence.wide n P l.toArray C p ((fun j => if j = i then v else V j) k) (putAll l.toArray (fun j => if j = i then v else V j) (List.range' 0 k) a) := by
      intro v k p hk hmk hlk
      have hne : k ≠ i := by rintro rfl; rw [hlf] at hlk; cases hlk
      show YieldsQuiet _ _ _ _ _ _ (if k = i then v else V k) _
      rw [if_neg hne]
      have hk' : l.toArray[k]? = some p := by simpa using hk
      have hpk := hpre k p V (fun j => if j = i then v else V j) hk (fun j hj => by
        obtain ⟨e, he, hb, rfl⟩ := waitsOn_iff.1 hj
        have := hsh k p hk' hlk e he hb
        have hne2 : e.on ≠ i := by intro e2; rw [e2, hlf] at this; cases this
        rw [if_neg hne2])
      have hyk := hY k p hk hmk hlk
      unfold YieldsQuiet Oper.quietAtIn at hyk ⊢
      rw [← hpk.1, ← hpk.2]
      exact ⟨fun _ _ _ _ => trivial, hyk.2⟩
    cases hmi : mask i with
    | false =>
      have hyi := hy2 i o ho' hmi
      -- the mask does not see it
      have hdm : (fun j => mask j && (listed.setIfInBounds i true).getD j false) = (fun j => mask j && listed.getD j false) := by
        funext j
        by_cases e : i = j
        · subst e; rw [hmi]; rfl
        · rw [getD_set_ne false e]
      have hdv : (fun j => if (mask j && (listed.setIfInBounds i true).getD j false) = true then (fun j => if j = i then V2 i else V j) j else dflt j) = (fun j => if (mask j && listed.getD j false) = true then V j else dflt j) := by
        funext j
        by_cases e : i = j
        · subst e; rw [hmi]; rfl
        · rw [getD_set_ne false e]
          simp only [if_neg (show ¬ j = i from fun h => e h.symm)]
      have fin : (Inv (fun j => mask j && (listed.setIfInBounds i true).getD j false) (fun j => if (mask j && (listed.setIfInBounds i true).getD j false) = true then (fun j => if j = i then V2 i else V j) j else dflt j) w1 ∧
          ∀ k p, l[k]? = some p → mask k = false → (listed.setIfInBounds i true).getD k false = true → YieldsQuiet Fence.wide n P l.toArray C p ((fun j => if j = i then V2 i else V j) k) (putAll l.toArray (fun j => if j = i then V2 i else V j) (List.range' 0 k) a)) := by
        refine ⟨by rw [hdm, hdv]; exact hI, fun k p hk hmk hlk => ?_⟩
        by_cases e : i = k
        · subst e
          obtain rfl : o = p := Option.some.inj (ho'.symm.trans hk)
          show YieldsQuiet _ _ _ _ _ _ (if i = i then V2 i else V i) _
          rw [if_pos rfl]
          have hpk := hpre i o V2 (fun j => if j = i then V2 i else V j) hk (fun j hj => by
            have hne2 : j ≠ i := by have := (hwt j hj).2; omega
            rw [if_neg hne2]
            exact (hag j (by have := (hwt j hj).2; omega) (hwt j hj).1).symm)
          unfold YieldsQuiet Oper.quietAtIn at hyi ⊢
          rw [← hpk.1, ← hpk.2]
          exact ⟨fun _ _ _ _ => trivial, hyi.2⟩
        · rw [getD_set_ne false e] at hlk
          exact hstay _ k p hk hmk hlk
      have hC1 := hIC _ _ _ hI
      rcases hyi.2 with ⟨hw, h1⟩ | ⟨hw, h1⟩
      · rw [hp.2, if_pos hw]
        unfold LeadsV
        rw [hp.1]
        have h2 := h1 w1 hC1
        unfold Oper.quietAtIn at h2
        generalize hrun : (execOp (putAll l.toArray V2 (List.range' 0 i) a).eval o).run P w1 = r at h2
        cases r with
        | ok x w' =>
          cases x <;> simp only [Oper.quietUponIn] at h2
          case value x => obtain ⟨rfl, rfl⟩ := h2; exact fin
          case skip => obtain ⟨rfl, h3⟩ := h2; rw [h3] at fin; exact fin
          case enter f args => exact absurd hrun (plainE_noEnter (hplain i o ho' hmi))
        | halt x w' => simp only [Oper.quietUponIn] at h2
      · rw [hp.2, if_neg (by rw [hw]; simp)]
        rw [h1] at fin
        exact fin
    | true =>
      have hq2 := List.all_eq_true.1 hqb i (List.mem_range.2 hil)
      rw [ho'] at hq2
      simp only [hmi, if_true] at hq2
      have hld := hloud2 i o (fun j => mask j && listed.getD j false) w1 ho' hmi (by simp [hlf]) (fun j hj hwj => by simp [hj, (hwt j hwj).1]) hI
      -- the whole frame, and the one ahead of it
      have hfr := frames_same (V := V) (V' := V2) hsel ((List.range i).filter (fun j => waitsOn o j)) (List.range' 0 i) (List.range l.length) hdd
        (fun j hj => by
          have := List.mem_range.1 (List.mem_filter.1 hj).1
          exact List.mem_range'_1.2 ⟨Nat.zero_le _, by omega⟩)
        (fun j hj => by
          have := List.mem_range.1 (List.mem_filter.1 hj).1
          exact List.mem_range.2 (by omega))
        List.nodup_range' List.nodup_range (List.nodup_range.filter _)
        (fun j hj => by
          have h1 := List.mem_filter.1 hj
          exact hag j (by have := List.mem_range.1 h1.1; omega) (hwt j h1.2).1)
        (fun j hj hn d hd hk => by
          rcases (hsee j d hd).2 hk with h1 | ⟨h1, _⟩
          · exact hn (List.mem_filter.2 ⟨List.mem_range.2 (hwt j h1).2, h1⟩)
          · have := (List.mem_range'_1.1 hj).2; omega)
        (fun j hj hn d hd hk => by
          have := List.all_eq_true.1 hq2 j hj
          rw [hd] at this
          simp only [Bool.or_eq_true] at this
          rcases this with h1 | h1
          · have h5 : (o.looksAt l.toArray).contains d = false := by simpa using h1
            rw [List.contains_eq_mem, decide_eq_false_iff_not] at h5
            exact h5 hk
          · exact hn (List.mem_filter.2 ⟨List.mem_range.2 (hwt j h1).2, h1⟩))
        a
      have hw : Region.wanted o (yielded l.toArray (putAll l.toArray V (List.range' 0 i) a).tmps) = true := by rw [hfr.2]; exact hwant2 i o ho' hmi
      rw [if_pos hw]
      have hld2 : LeadsV P n o (putAll l.toArray V (List.range' 0 i) a) (fun v w' => Inv (fun j => if j = i then true else mask j && listed.getD j false) (fun j => if j = i then v else (if (mask j && listed.getD j false) = true then V j else dflt j)) w') w1 := by
        unfold LeadsV at hld ⊢
        rw [hfr.1]
        exact hld
      refine hld2.mono (fun v w' hI' => ⟨?_, fun k p hk hmk hlk => ?_⟩)
      · have hdm : (fun j => mask j && (listed.setIfInBounds i true).getD j false) = (fun j => if j = i then true else mask j && listed.getD j false) := by
          funext j
          by_cases e : i = j
          · subst e
            have his : i < listed.size := by
              rcases Nat.lt_or_ge i listed.size with h | h
              · exact h
              · simp [Array.getElem?_eq_none h] at hl
            rw [hmi, getD_set_self his, if_pos rfl]; rfl
          · rw [getD_set_ne false e, if_neg (fun h => e h.symm)]
        have hdv : (fun j => if (mask j && (listed.setIfInBounds i true).getD j false) = true then (fun j => if j = i then v else V j) j else dflt j) = (fun j => if j = i then v else (if (mask j && listed.getD j false) = true then V j else dflt j)) := by
          funext j
          by_cases e : i = j
          · subst e
            have his : i < listed.size := by
              rcases Nat.lt_or_ge i listed.size with h | h
              · exact h
              · simp [Array.getElem?_eq_none h] at hl
            rw [hmi, getD_set_self his, if_pos rfl]; simp only [if_true, Bool.true_and]
          · rw [getD_set_ne false e]
            simp only [if_neg (show ¬ j = i from fun h => e h.symm)]
        rw [hdm, hdv]
        exact hI'
      · have hne : i ≠ k := by rintro rfl; rw [hmi] at hmk; cases hmk
        rw [getD_set_ne false hne] at hlk
        exact hstay v k p hk hmk hlk
  · intro V listed w1 hsz hsh hD hall
    obtain ⟨hI, hY⟩ := hD
    have hlt : ∀ j, j < l.length → listed.getD j false = true := fun j hj => getD_true_in (by rw [hsz]; simpa using hj) (hall j (by simpa using hj))
    obtain ⟨V2, hm2, _, hy2, _, hend2⟩ := hlex (fun j => if (mask j && listed.getD j false) = true then V j else dflt j) ⟨_, _, hI⟩
    have hag := hsame V V2 listed hsh (fun j hj hl hjl => by have := hm2 j hjl hj; rw [if_pos (by rw [hj, hl]; rfl)] at this; exact this.symm) hY hy2
    have hfr : putAll l.toArray V (List.range l.toArray.size) a = putAll l.toArray V2 (List.range l.length) a := by
      rw [List.size_toArray]
      exact putAll_cong _ _ (fun j hj => hag j (List.mem_range.1 hj) (hlt j (List.mem_range.1 hj)))
    rw [hfr]
    exact hend2 _ w1 (fun j hj hjl => by simp [hj, hlt j hjl]) hI
  · have e : listOf (Array.replicate l.length false) l.toArray.size = [] := by
      unfold listOf
      rw [List.filter_eq_nil_iff]
      intro j _
      rw [getD_replicate_f]; simp
    rw [e]
    simp
  · intro j o _ hl
    rw [getD_replicate_f] at hl
    cases hl
  · have e : (fun j => mask j && (Array.replicate l.length false).getD j false) = (fun _ => false) := by
      funext j
      rw [getD_replicate_f, Bool.and_false]
    have e2 : (fun j => if (mask j && (Array.replicate l.length false).getD j false) = true then undef else dflt j) = dflt := by
      funext j
      rw [getD_replicate_f, Bool.and_false]
      rfl
    refine ⟨by rw [e, e2]; exact h0, fun i o _ _ hl => ?_⟩
    rw [getD_replicate_f] at hl
    cases hl

/-- What is asked behind the quiet walk. -/
def LoudPostG (P : Program) (n : Nat) (l : List Oper) (mask : Nat → Bool) (Q : Exit → Act → World → Prop) (Inv : (Nat → Bool) → (Nat → Value) → World → Prop) (u : Nat → Value) (a' : Act) : Prop :=
  (∀ i o, l[i]? = some o → mask i = true → Region.wanted o (yielded l.toArray a'.tmps) = true) ∧
  (∀ i o d w, l[i]? = some o → mask i = true → d i = false → (∀ j, mask j = true → waitsOn o j = true → d j = true) → Inv d u w → LeadsV P n o a' (fun v w' => Inv (fun j => if j = i then true else d j) (fun j => if j = i then v else u j) w') w) ∧
      ∀ d w', (∀ j, mask j = true → j < l.length → d j = true) → Inv d u w' → Q .normal a' w'
theorem region_loudG {id : Nat} {l : List Oper} (mask : Nat → Bool) (C : World → Prop) (Inv : (Nat → Bool) → (Nat → Value) → World → Prop) (dflt : Nat → Value) {Q : Exit → Act → World → Prop} {a : Act} {w : World} (hm : P.follows .mixedOrders = true)
    (hs : seesW l.toArray = true) (hqb : quietG mask l = true) (hIC : ∀ d u w, Inv d u w → C w) (h0 : Inv (fun _ => false) dflt w.drew)
    (hq : ∀ u, (∃ d w, Inv d u w) → wpQuietIn Fence.wide n P (hushE mask u 0 l).toArray C (LoudPostG P n l mask Q Inv u) (hushE mask u 0 l) a) :
    (Code.region id l.toArray true).wpIn Fence.wide n P Q a w := by
  refine wpIn_region_any hm ?_
  have := any_loudG (Q := Q) (w := w.drew) dflt hs hqb hIC h0 (fun u hu => by have := hq u hu; rw [hushE_vals] at this; exact this)
  simpa using this
end
end Go.SeqLib

end
section
-- LoudA
namespace Go.Proofs.YtakbeololabmhaaGreatDoor
open Go.RowKit Go.Shelf Go.SeqLib

theorem LeadsV.append {n : Nat} {P : Program} {o : Oper} {a : Act} {R : Value → World → Prop} {w : World}
    (s x : Operand) (t : TypeId) (hop : o.op = Op.call { callee := Callee.builtin Builtin.append, args := #[s, x], argTypes := #[t, t] })
    (base : Nat) (e : TypeId) (i : TypeInfo) (z : Value) (size bytes : Nat) (h1 : P.underlying t = some (.slice e)) (h2 : P.info? e = some i) (h3 : i.zero = some z) (h4 : i.size = size) (h5 : i.bytes = bytes) (h6 : z.cells.size = size) (h7 : 0 < size)
    (v : Value) (k : Nat) (xs : List Value) (hs : a.eval s = v) (hown : w.ownsRow base e size v k xs) (ad : Addr) (m c : Nat) (news : List Value) (hx : a.eval x = .slice (some ad) m c) (hn : news.length = m * size)
    (hc : ∀ j u, news[j]? = some u → w.cell? (ad.add j) = some u) (h1c : ∀ u ∈ news, u.oneCell' = true) (b1 : k + m ≤ maxLen) (b2 : (k + m) * bytes ≤ 140737488355328) (b3 : base ≤ w.heap.size)
    (hK : ∀ v' w', w'.ownsRow base e size v' (k + m) (xs ++ news) → w.grownBy w' v.ownBlock → (v'.ownBlock = v.ownBlock ∨ v'.ownBlock = some w.heap.size) → R v' w') : LeadsV P n o a R w := by
  obtain ⟨v', w', hrun, r1, r2, r3, r4⟩ := run_append_own_at (P := P) w base t o.type e i z size bytes h1 h2 h3 h4 h5 h6 h7 v k xs hown ad m c news hn hc h1c b1 b2 b3
  refine LeadsV.value (v := v') (w' := w') ?_ (hK v' w' r1 r2 r4)
  simp [execOp, hop, resolve, invoke, builtin, hs, hx, hrun, Result.andThen]

theorem LeadsV.append_sv {n : Nat} {o : Oper} {a : Act} {R : Value → World → Prop} {w : World}
    (s x : Operand) (hop : o.op = Op.call { callee := Callee.builtin Builtin.append, args := #[s, x], argTypes := #[86, 86] })
    (base : Nat) (v : Value) (k : Nat) (vals : List Value) (hs : a.eval s = v) (hown : w.ownsRow base 9 1 v k vals) (p : Option Addr) (m c : Nat) (zs : List ByteArray) (hx : a.eval x = .slice p m c) (hsl : SlV w (.slice p m c) (zs.map Value.string))
    (b1 : k + m ≤ 1000000) (b3 : base ≤ w.heap.size)
    (hK : ∀ v' w', w'.ownsRow base 9 1 v' (k + m) (vals ++ zs.map Value.string) → w.grownBy w' v.ownBlock → (v'.ownBlock = v.ownBlock ∨ v'.ownBlock = some w.heap.size) → R v' w') : LeadsV Tryz.prog n o a R w := by
  obtain ⟨i0, hi, hz0, hz1, hz2⟩ := info_parts info9
  have hlen : m = zs.length := by obtain ⟨p', c', e, _⟩ := hsl; cases e; simp
  obtain ⟨p', c', e, h1, h2, hc⟩ := hsl
  cases e
  cases p with
  | none =>
    have hz : zs = [] := by
      cases zs with
      | nil => rfl
      | cons x r => obtain ⟨b, off, h, _⟩ := hc 0 (.string x) rfl; cases h
    subst hz
    obtain ⟨pv, cv, rfl⟩ := row_slice hown
    have hkc : k ≤ cv ∧ (pv = none → k = 0 ∧ cv = 0) := by
      rcases hown.2 with ⟨h, rfl⟩ | ⟨g, cap, cur, h, _, _, h3, _⟩
      · cases h; exact ⟨Nat.le_refl _, fun _ => ⟨rfl, rfl⟩⟩
      · cases h; exact ⟨h3, fun h => by cases h⟩
    have hrun := run_append_nothing (P := Tryz.prog) w (ty := o.type) Tryz.underlying86 hi pv k cv c hkc.1 hkc.2
    have hx' : a.eval x = .slice none 0 c := hx
    refine LeadsV.value (v := .slice pv k cv) (w' := w) ?_ (hK _ w (by simpa using hown) ⟨rfl, rfl, rfl, Nat.le_refl _, fun _ _ _ => rfl⟩ (.inl rfl))
    simp [execOp, hop, resolve, invoke, builtin, hs, hx', hrun, Result.andThen]
  | some ad =>
    refine LeadsV.append s x 86 hop base 9 i0 (.string ⟨#[]⟩) 1 16 Tryz.underlying86 hi hz0 hz1 hz2 rfl (by decide) v k vals hs hown ad _ c (zs.map Value.string) hx (by simp) ?_ ?_ (by unfold maxLen; omega) (by omega) b3 hK
    · intro j u hj
      obtain ⟨b, off, e, hcell⟩ := hc j u hj
      cases e
      have ea : (⟨b, off, none⟩ : Addr).add j = ⟨b, off + j, none⟩ := by unfold Addr.add; split <;> simp_all
      rw [ea]; exact hcell
    · intro u hu
      obtain ⟨y, _, rfl⟩ := List.mem_map.1 hu
      rfl
end Go.Proofs.YtakbeololabmhaaGreatDoor

end
section
-- RRef
namespace Go.Proofs.YtakbeololabmhaaGreatDoor
open Go.RowKit Go.Shelf Go.SeqLib Go.DiffLib Go.TreeLib Go.RepoLib Go.BigFrame
attribute [local go_sem] Oper.semAt_some

abbrev OwnM (W : World) (base : Nat) (v : Value) (rows : List Rw) : Prop := W.ownsRow base 43 3 v rows.length (rows.flatMap eM)
theorem OwnM.kept {W W' : World} {base : Nat} {v : Value} {rows : List Rw} (h : OwnM W base v rows) (hk : ∀ k, v.ownBlock = some k → W'.heap[k]? = W.heap[k]?) : OwnM W' base v rows := by
  refine ⟨h.1, ?_⟩
  rcases h.2 with hn | ⟨g, cap, cur, rfl, hb, hgg, rest⟩
  · exact .inl hn
  · exact .inr ⟨g, cap, cur, rfl, hb, (hk g rfl).trans hgg, rest⟩
/-- The rows read as these commits, whose own lists lie below b. -/
structure RowsM (b : Nat) (W : World) (rows : List Rw) (L : List Cm) : Prop where
  len : rows.length = L.length
  at_ : ∀ (i : Nat) (r : Rw) (c : Cm), rows[i]? = some r → L[i]? = some c → CmD (fun k => k < b) W (.agg #[r.1, r.2.1, .string r.2.2]) c
/-- The document's repo at block B: its commits and its room. -/
structure RefRep (b B : Nat) (s : Rp) (lv : Value) (rows : List Rw) (W : World) : Prop where
  box : W.heap[B]? = some (.cells #[lv, iv (s.2 : Nat)] 61 (0, 0))
  own : OwnM W b lv rows
  red : RowsM b W rows s.1
  ne : ¬ lv.ownBlock = some B
  lowB : b ≤ B
def refS (B : Nat) (lv : Value) : Blk := fun k => k = B ∨ lv.ownBlock = some k
set_option maxHeartbeats 1000000 in
theorem refNew_in (b : Nat) (room : Int) (h0 : -1000 ≤ room) (h1 : room ≤ 1000) (w : World) (hb : b ≤ w.heap.size) : CallsIn Fence.wide 0 Tryz.prog 24 #[iv room] w fun e w' => ∃ B, e = .returned (ptr B) ∧ RefRep b B (newC room) (.slice none 0 0) [] w' ∧ w.heap.size ≤ B ∧ Chg No w w' := by
  obtain ⟨m, hm⟩ : ∃ m, clip room = m := ⟨_, rfl⟩
  have hm2 : ((m : Nat) : Int) = min (max room 0) 120 := by rw [← hm]; unfold clip; omega
  refine callsIn_of_wp Tryz.func24 rfl trivial ?_
  simp only [Tryz.ntmps24, List.size_toArray, List.length_cons, List.length_nil, Nat.reduceAdd, Nat.reduceSub, Array.replicate_succ, Array.replicate_zero, List.push_toArray, List.append_toArray, List.nil_append, List.cons_append]
  gi_wp2
  go_ret
  refine ⟨w.heap.size, rfl, ⟨?_, World.ownsRow_nil _ _ _ _, ⟨rfl, fun i r c h => by simp at h⟩, (fun h => by cases h), hb⟩, Nat.le_refl _, (Chg.refl _ w).alloc _⟩
  have := World.alloc_heap_new w (.cells #[.slice none 0 0, .int .i64 (min (max room 0) 120)] 61 (0, 0))
  show _ = some (Obj.cells #[.slice none 0 0, iv ((clip room : Nat) : Int)] _ _)
  rw [hm, hm2]
  exact this

end Go.Proofs.YtakbeololabmhaaGreatDoor

end
section
-- RApp
namespace Go.Proofs.YtakbeololabmhaaGreatDoor
open Go.RowKit Go.Shelf Go.SeqLib Go.DiffLib Go.TreeLib Go.RepoLib Go.BigFrame
attribute [local go_sem] Oper.semAt_some

theorem infoCommit : (Tryz.prog.info? 43).map (fun i => (i.zero, i.size, i.bytes)) = some (some (.agg #[.slice none 0 0, .slice none 0 0, .string ⟨#[]⟩]), 3, 64) := by kernel_rfl
theorem flatM_length (zs : List Rw) : (zs.flatMap eM).length = zs.length * 3 := flat_length eM_len zs
theorem flatM_cells {W : World} {ad : Addr} {m cap : Nat} {zs : List Rw} (h : SlE 3 eM W (.slice (some ad) m cap) zs) : ∀ j u, (zs.flatMap eM)[j]? = some u → W.cell? (ad.add j) = some u := by
  obtain ⟨p, c, e, _, _, hc⟩ := h
  cases e
  intro j u hj
  have hj3 : j = j / 3 * 3 + j % 3 := by omega
  have hlt : j % 3 < 3 := Nat.mod_lt _ (by omega)
  rw [hj3, flat_get eM_len _ _ _ hlt] at hj
  cases hz : zs[j / 3]? with
  | none => rw [hz] at hj; cases hj
  | some x =>
    rw [hz] at hj
    obtain ⟨b, off, e, h1⟩ := hc _ x hz
    cases e
    rw [addr_add]
    have := h1 _ u hj
    rw [show off + j / 3 * 3 + j % 3 = off + j by omega] at this
    exact this
/-- Rows whose lists are slices: each cell is one. -/
def OneM (zs : List Rw) : Prop := ∀ r ∈ zs, r.1.oneCell' = true ∧ r.2.1.oneCell' = true
theorem OneM.flat {zs : List Rw} (h : OneM zs) : ∀ u ∈ zs.flatMap eM, u.oneCell' = true := by
  intro u hu
  obtain ⟨r, hr, hy⟩ := List.mem_flatMap.1 hu
  simp [eM] at hy
  rcases hy with rfl | rfl | rfl
  · exact (h r hr).1
  · exact (h r hr).2
  · rfl
theorem CmD.one {D : Blk} {W : World} {pv tv : Value} {x : ByteArray} {c : Cm} (h : CmD D W (.agg #[pv, tv, .string x]) c) : pv.oneCell' = true ∧ tv.oneCell' = true ∧ x = c.2.2 := by
  obtain ⟨p, n, k, q, m, l, e, _⟩ := h
  cases e
  exact ⟨rfl, rfl, rfl⟩
theorem LeadsV.append_sm {n : Nat} {o : Oper} {a : Act} {R : Value → World → Prop} {w : World}
    (s x : Operand) (hop : o.op = Op.call { callee := Callee.builtin Builtin.append, args := #[s, x], argTypes := #[22, 22] })
    (base : Nat) (v : Value) (ys : List Rw) (hs : a.eval s = v) (hown : OwnM w base v ys) (p : Option Addr) (m c : Nat) (zs : List Rw) (hx : a.eval x = .slice p m c) (hsl : SlE 3 eM w (.slice p m c) zs) (hone : OneM zs)
    (b1 : ys.length + m ≤ 1000000) (b3 : base ≤ w.heap.size)
    (hK : ∀ v' w', OwnM w' base v' (ys ++ zs) → w.grownBy w' v.ownBlock → (v'.ownBlock = v.ownBlock ∨ v'.ownBlock = some w.heap.size) → R v' w') : LeadsV Tryz.prog n o a R w := by
  obtain ⟨i0, hi, hz0, hz1, hz2⟩ := info_parts infoCommit
  have hlen : zs.length = m := by obtain ⟨_, _, e, _⟩ := hsl; rw [Value.slice.injEq] at e; exact e.2.1.symm
  cases p with
  | none =>
    have hz : zs = [] := by
      obtain ⟨p', c', e, h1, h2, hc⟩ := hsl
      cases e
      cases zs with
      | nil => rfl
      | cons x r => obtain ⟨b, off, h, _⟩ := hc 0 x rfl; cases h
    subst hz
    obtain rfl : m = 0 := hlen.symm
    obtain ⟨pv, cv, rfl⟩ := row_slice hown
    have hkc : ys.length ≤ cv ∧ (pv = none → ys.length = 0 ∧ cv = 0) := by
      rcases hown.2 with ⟨h, h0⟩ | ⟨g, cap, cur, h, _, _, h3, _⟩
      · rw [Value.slice.injEq] at h
        obtain ⟨rfl, _, rfl⟩ := h
        exact ⟨by omega, fun _ => ⟨h0, rfl⟩⟩
      · rw [Value.slice.injEq] at h
        obtain ⟨rfl, _, rfl⟩ := h
        exact ⟨h3, fun h => by cases h⟩
    have hrun := run_append_nothing (P := Tryz.prog) w (ty := o.type) Tryz.underlying22 hi pv ys.length cv c hkc.1 hkc.2
    refine LeadsV.value (v := .slice pv ys.length cv) (w' := w) ?_ (hK _ w (by rw [List.append_nil]; exact hown) ⟨rfl, rfl, rfl, Nat.le_refl _, fun _ _ _ => rfl⟩ (.inl rfl))
    simp [execOp, hop, resolve, invoke, builtin, hs, hx, hrun, Result.andThen]
  | some ad =>
    have hcl := flatM_cells hsl
    refine LeadsV.append s x 22 hop base 43 i0 (.agg #[.slice none 0 0, .slice none 0 0, .string ⟨#[]⟩]) 3 64 Tryz.underlying22 hi hz0 hz1 hz2 rfl (by decide) v ys.length (ys.flatMap eM) hs hown ad m c (zs.flatMap eM) hx (by rw [flatM_length, hlen]) hcl hone.flat (by unfold maxLen; omega) (by omega) b3 (fun v' w' r1 r2 r4 => hK v' w' ?_ r2 r4)
    show w'.ownsRow base 43 3 v' (ys ++ zs).length ((ys ++ zs).flatMap eM)
    rw [List.flatMap_append, List.length_append, hlen]
    exact r1
theorem SlM.one (w : World) (x : Rw) : SlE 3 eM (w.alloc (.cells #[x.1, x.2.1, .string x.2.2] 43)) (.slice (some ⟨w.heap.size, 0, none⟩) 1 1) [x] := by
  refine ⟨_, 1, rfl, Nat.le_refl _, by unfold maxLen; omega, fun i y hi => ⟨w.heap.size, 0, rfl, fun q u hu => ?_⟩⟩
  have hi0 : i = 0 := by
    have := (List.getElem?_eq_some_iff.1 hi).1
    simp at this
    exact this
  subst hi0
  obtain rfl : x = y := by simpa using hi
  have h : (w.alloc (.cells #[x.1, x.2.1, .string x.2.2] 43)).heap[w.heap.size]? = some (.cells #[x.1, x.2.1, .string x.2.2] 43 (0, 0)) := World.alloc_heap_new w _
  have hq : q < 3 := by rw [← eM_len x]; exact (List.getElem?_eq_some_iff.1 hu).1
  rw [Nat.zero_add]
  unfold World.cell?
  show (match (w.alloc (.cells #[x.1, x.2.1, .string x.2.2] 43)).heap[w.heap.size]? with | some (.cells c _ _) => if false = true then none else c[q]? | _ => none) = some u
  rw [h]
  have hq3 : q = 0 ∨ q = 1 ∨ q = 2 := by omega
  rcases hq3 with rfl | rfl | rfl <;> exact hu

/-- What holds while the document's repo takes one commit more. -/
structure AddInv (W0 : World) (B : Nat) (lv : Value) (rv : Value) (rows : List Rw) (x : Rw) (d : Nat → Bool) (u : Nat → Value) (W : World) : Prop where
  chg : Chg (fun k => k = B) W0 W
  v2 : u 2 = ptr B
  v4 : u 4 = lv
  v9 : u 9 = ptr B
  v8 : ∃ q m k, u 8 = .slice q m k
  o5 : d 5 = true → d 4 = true
  o8 : d 8 = true → d 5 = true ∧ d 7 = true
  o11 : d 11 = true → d 8 = true
  f5 : d 5 = true → d 8 = false → OwnM W W0.heap.size (u 5) rows
  f7 : d 7 = true → d 8 = false → SlE 3 eM W (u 7) [x] ∧ ∀ k, (u 7).ownBlock = some k → W0.heap.size ≤ k
  a57 : d 5 = true → d 7 = true → d 8 = false → ∀ k, (u 5).ownBlock = some k → ¬ (u 7).ownBlock = some k
  f8 : d 8 = true → OwnM W W0.heap.size (u 8) (rows ++ [x])
  box : W.heap[B]? = some (.cells #[if d 11 = true then u 8 else lv, rv] 61 (0, 0))

end Go.Proofs.YtakbeololabmhaaGreatDoor

end
section
-- RRows
namespace Go.Proofs.YtakbeololabmhaaGreatDoor
open Go.RowKit Go.Shelf Go.SeqLib Go.DiffLib Go.TreeLib Go.RepoLib Go.BigFrame
attribute [local go_sem] Oper.semAt_some

theorem CmD.kept {D : Blk} {W W' : World} {v : Value} {c : Cm} (h : CmD D W v c) (hk : ∀ k, D k → W'.heap[k]? = W.heap[k]?) : CmD D W' v c := by
  obtain ⟨p, n, cap, q, m, l, rfl, h1, h2, h3, h4⟩ := h
  exact ⟨p, n, cap, q, m, l, rfl, h1.kept (fun j hj => hk j (h3 j hj)), SlE.kept h2 (fun j hj => hk j (h4 j hj)), h3, h4⟩
/-- The rows read as these commits, whose own lists lie in D. -/
structure RowsD (D : Blk) (W : World) (rows : List Rw) (L : List Cm) : Prop where
  len : rows.length = L.length
  at_ : ∀ (i : Nat) (r : Rw) (c : Cm), rows[i]? = some r → L[i]? = some c → CmD D W (.agg #[r.1, r.2.1, .string r.2.2]) c
theorem RowsD.chg {D T : Blk} {W W' : World} {rows : List Rw} {L : List Cm} (h : RowsD D W rows L) (c : Chg T W W') (hd : ∀ k, D k → ¬ T k) : RowsD D W' rows L :=
  ⟨h.len, fun i r x hr hx => (h.at_ i r x hr hx).chg c hd⟩
theorem RowsD.mono {D D' : Blk} {W : World} {rows : List Rw} {L : List Cm} (h : RowsD D W rows L) (hd : ∀ k, D k → D' k) : RowsD D' W rows L :=
  ⟨h.len, fun i r x hr hx => (h.at_ i r x hr hx).mono hd⟩
theorem RowsD.one {D : Blk} {W : World} {rows : List Rw} {L : List Cm} (h : RowsD D W rows L) : OneM rows := by
  intro r hr
  obtain ⟨i, hi, rfl⟩ := List.mem_iff_getElem.1 hr
  have := h.at_ i rows[i] (L[i]'(by rw [← h.len]; exact hi)) (List.getElem?_eq_getElem hi) (List.getElem?_eq_getElem _)
  exact ⟨(CmD.one this).1, (CmD.one this).2.1⟩
/-- One commit more, whose lists lie in T. -/
theorem RowsD.snoc {D T : Blk} {W : World} {rows : List Rw} {L : List Cm} (h : RowsD D W rows L) {x : Rw} {c : Cm} (hx : CmD T W (.agg #[x.1, x.2.1, .string x.2.2]) c) : RowsD (fun k => D k ∨ T k) W (rows ++ [x]) (L ++ [c]) := by
  refine ⟨by rw [List.length_append, List.length_append, h.len]; rfl, fun i r d hr hd => ?_⟩
  rcases Nat.lt_or_ge i rows.length with hi | hi
  · rw [List.getElem?_append_left hi] at hr
    rw [List.getElem?_append_left (by rw [← h.len]; exact hi)] at hd
    exact (h.at_ i r d hr hd).mono (fun _ => .inl)
  · rw [List.getElem?_append_right hi] at hr
    rw [List.getElem?_append_right (by rw [← h.len]; exact hi)] at hd
    rw [h.len] at hr
    have h0 : i - L.length = 0 := by
      have := (List.getElem?_eq_some_iff.1 hd).1
      simp at this
      omega
    rw [h0] at hr hd
    obtain rfl : x = r := by simpa using hr
    obtain rfl : c = d := by simpa using hd
    exact hx.mono (fun _ => .inr)

theorem CmD.low {D : Blk} {W : World} {v : Value} {c : Cm} (h : CmD D W v c) : CmD (fun k => D k ∧ k < W.heap.size) W v c := by
  obtain ⟨p, n, k, q, m, l, rfl, h1, h2, h3, h4⟩ := h
  exact ⟨p, n, k, q, m, l, rfl, h1, h2, fun j hj => ⟨h3 j hj, h1.lt j hj⟩, fun j hj => ⟨h4 j hj, h2.lt j hj⟩⟩

end Go.Proofs.YtakbeololabmhaaGreatDoor

end
section
-- RFind
namespace Go.RepoLib
theorem findC_here : ∀ {L : List Cm} {k : Nat} {c : Cm}, L[k]? = some c → (∀ y ∈ L.take k, ¬ y = c) → findC L c = k + 1
  | [], k, c, h, _ => by simp at h
  | x :: L, 0, c, h, _ => by
    have : x = c := by simpa using h
    unfold findC
    rw [if_pos this]
  | x :: L, k + 1, c, h, ha => by
    have h1 : ¬ x = c := ha x (by simp)
    have h2 := findC_here (L := L) (k := k) (c := c) (by simpa using h) (fun y hy => ha y (by rw [List.take_succ_cons]; exact List.mem_cons_of_mem _ hy))
    unfold findC
    rw [if_neg h1, h2, if_neg (by omega)]
end Go.RepoLib
namespace Go.Proofs.YtakbeololabmhaaGreatDoor
open Go.RowKit Go.Shelf Go.SeqLib Go.DiffLib Go.TreeLib Go.RepoLib Go.BigFrame
attribute [local go_sem] Oper.semAt_some

end Go.Proofs.YtakbeololabmhaaGreatDoor

end
