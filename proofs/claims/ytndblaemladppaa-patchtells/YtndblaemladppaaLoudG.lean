/-
  Statements of open order whose loud operations (calls that make memory) may stand behind a guard that is known to hold: what the values of some of them will be may be told ahead. No program is named here.
-/
import Derived.Test.YtndblaemladppaaLoudE
namespace Go.SeqLib
open Go Go.RowKit
section
variable {P : Program} {n : Nat}

/-- What is asked of the operations. -/
def quietG (mask : Nat → Bool) (l : List Oper) : Bool := (List.range l.length).all fun i => match l[i]? with
  | none => true
  | some o => if mask i then ((List.range l.length).all fun j => match dstAt l.toArray j with
      | none => true
      | some d => !(o.looksAt l.toArray).contains d || waitsOn o j) else plainE o

set_option maxHeartbeats 1000000 in
/-- **The law.** mask: which operations are loud; dflt: what they are held to be till they have come up; Inv: what holds when some of them have come up, by their values; C: what the others lean on. -/
theorem any_loudG {l : List Oper} {mask : Nat → Bool} {Q : Exit → Act → World → Prop} {a : Act} {w : World} {C : World → Prop} {Inv : (Nat → Bool) → (Nat → Value) → World → Prop}
    (dflt : Nat → Value) (hs : seesW l.toArray = true) (hqb : quietG mask l = true) (hIC : ∀ d u w, Inv d u w → C w) (h0 : Inv (fun _ => false) dflt w)
    (hq : ∀ u, (∃ d w, Inv d u w) → wpQuietIn Fence.wide n P (hush (loudVals mask u l.length) l).toArray C (fun a' =>
      (∀ i o, l[i]? = some o → mask i = true → Region.wanted o (yielded l.toArray a'.tmps) = true) ∧
      (∀ i o d w, l[i]? = some o → mask i = true → d i = false → (∀ j, mask j = true → waitsOn o j = true → d j = true) → Inv d u w → LeadsV P n o a' (fun v w' => Inv (fun j => if j = i then true else d j) (fun j => if j = i then v else u j) w') w) ∧
      ∀ d w', (∀ j, mask j = true → j < l.length → d j = true) → Inv d u w' → Q .normal a' w') (hush (loudVals mask u l.length) l) a) :
    wpAnyIn Fence.wide n P .any l.toArray Q l.length (Array.replicate l.length false) a w := by
  have hCw : C w := hIC _ _ _ h0
  have hdd : ∀ i j d, i ≠ j → dstAt l.toArray i = some d → dstAt l.toArray j ≠ some d := by
    intro i j d hij hi hj
    unfold dstAt at hi
    cases ho : l.toArray[i]? with
    | none => rw [ho] at hi; cases hi
    | some o =>
      rw [ho] at hi
      exact ((seesW_at hs ho).2.2.2 j d hj).1 hij hi
  -- the lexical walk for given values of the loud ones
  have hlex : ∀ u : Nat → Value, (∃ d w, Inv d u w) → ∃ V : Nat → Value, (∀ i, i < l.length → mask i = true → V i = u i) ∧
      (∀ i o, l[i]? = some o → mask i = true → Region.wanted o (yielded l.toArray (putAll l.toArray V (List.range l.length) a).tmps) = true) ∧
      (∀ i o, l[i]? = some o → mask i = false → YieldsQuiet Fence.wide n P l.toArray C o (V i) (putAll l.toArray V (List.range' 0 i) a)) ∧
      (∀ i o d w, l[i]? = some o → mask i = true → d i = false → (∀ j, mask j = true → waitsOn o j = true → d j = true) → Inv d u w → LeadsV P n o (putAll l.toArray V (List.range l.length) a) (fun v w' => Inv (fun j => if j = i then true else d j) (fun j => if j = i then v else u j) w') w) ∧
      ∀ d w', (∀ j, mask j = true → j < l.length → d j = true) → Inv d u w' → Q .normal (putAll l.toArray V (List.range l.length) a) w' := by
    intro u hu
    obtain ⟨V, ⟨hwant, hloud, hend⟩, hV⟩ := lex_final (hush (loudVals mask u l.length) l) 0 a (fun j => by simp) (hq u hu)
    rw [hush_put] at hwant hloud hend
    have hrange : List.range' 0 (hush (loudVals mask u l.length) l).length = List.range l.length := by rw [hush_length, List.range_eq_range']
    rw [hrange] at hwant hloud hend
    refine ⟨V, fun i hi hm => ?_, hwant, fun i o ho hm => ?_, hloud, hend⟩
    · have hat : (hush (loudVals mask u l.length) l)[i]? = some { l[i] with op := .assign (.const (u i)) } := by
        rw [hush_at, List.getElem?_eq_getElem hi, loudVals_at _ _ _ _ hi, if_pos hm]; rfl
      have hy := hV i _ hat
      rw [Nat.zero_add] at hy
      have ho : l[i]? = some l[i] := List.getElem?_eq_getElem hi
      have ho' : l.toArray[i]? = some l[i] := by simp
      obtain ⟨hlt, hsel, _, hsee⟩ := seesW_at hs ho'
      have hwt : ∀ j, waitsOn l[i] j = true → j < i := fun j hj => by
        obtain ⟨e, he, hb, rfl⟩ := waitsOn_iff.1 hj
        exact hlt e he hb
      have hq2 := List.all_eq_true.1 hqb i (List.mem_range.2 hi)
      rw [ho] at hq2
      simp only [hm, if_true] at hq2
      have hfr := frames_same (V := V) (V' := V) hsel ((List.range i).filter (fun j => waitsOn l[i] j)) (List.range' 0 i) (List.range l.length) hdd
        (fun j hj => by
          have := List.mem_range.1 (List.mem_filter.1 hj).1
          exact List.mem_range'_1.2 ⟨Nat.zero_le _, by omega⟩)
        (fun j hj => by
          have := List.mem_range.1 (List.mem_filter.1 hj).1
          exact List.mem_range.2 (by omega))
        List.nodup_range' List.nodup_range (List.nodup_range.filter _)
        (fun _ _ => rfl)
        (fun j hj hn d hd hk => by
          rcases (hsee j d hd).2 hk with h1 | ⟨h1, _⟩
          · exact hn (List.mem_filter.2 ⟨List.mem_range.2 (hwt j h1), h1⟩)
          · have := (List.mem_range'_1.1 hj).2; omega)
        (fun j hj hn d hd hk => by
          have := List.all_eq_true.1 hq2 j hj
          rw [hd] at this
          simp only [Bool.or_eq_true] at this
          rcases this with h1 | h1
          · have h5 : (l[i].looksAt l.toArray).contains d = false := by simpa using h1
            rw [List.contains_eq_mem, decide_eq_false_iff_not] at h5
            exact h5 hk
          · exact hn (List.mem_filter.2 ⟨List.mem_range.2 (hwt j h1), h1⟩))
        a
      have hwi := hwant i _ ho hm
      rw [← hfr.2] at hwi
      rcases hy.2 with ⟨_, h1⟩ | ⟨h1, _⟩
      · have := h1 w hCw
        simp [Oper.quietAtIn, execOp, Oper.quietUponIn, Act.eval] at this
        exact this.symm
      · rw [hush_yielded, hush_put] at h1
        have h2 : Region.wanted l[i] (yielded l.toArray (putAll l.toArray V (List.range' 0 i) a).tmps) = false := h1
        rw [hwi] at h2
        cases h2
    · have hi : i < l.length := (List.getElem?_eq_some_iff.1 ho).1
      have hat : (hush (loudVals mask u l.length) l)[i]? = some o := by
        rw [hush_at, ho, loudVals_at _ _ _ _ hi, if_neg (by rw [hm]; simp)]; rfl
      have hy := hV i _ hat
      rw [Nat.zero_add, hush_put] at hy
      unfold YieldsQuiet at hy ⊢
      rw [hush_yielded] at hy
      exact hy
  -- one value alone
  have hdet : ∀ (o : Oper) (v v' : Value) (b b' : Act), plainE o = true → execOp b.eval o = execOp b'.eval o → Region.wanted o (yielded l.toArray b.tmps) = Region.wanted o (yielded l.toArray b'.tmps) →
      YieldsQuiet Fence.wide n P l.toArray C o v b → YieldsQuiet Fence.wide n P l.toArray C o v' b' → v = v' := by
    intro o v v' b b' hp he hw h h'
    rcases h.2 with ⟨hw1, h1⟩ | ⟨hw1, h1⟩
    · rcases h'.2 with ⟨hw2, h2⟩ | ⟨hw2, h2⟩
      · have q1 := h1 w hCw
        have q2 := h2 w hCw
        unfold Oper.quietAtIn at q1 q2
        rw [← he] at q2
        generalize hr : (execOp b.eval o).run P w = r at q1 q2
        cases r with
        | ok x w' =>
          cases x <;> simp only [Oper.quietUponIn] at q1 q2
          case value x => exact q1.2.symm.trans q2.2
          case skip => exact q1.2.trans q2.2.symm
          case enter f args => exact absurd hr (plainE_noEnter hp)
        | halt x w' => simp only [Oper.quietUponIn] at q1
      · rw [hw, hw2] at hw1; cases hw1
    · rcases h'.2 with ⟨hw2, h2⟩ | ⟨hw2, h2⟩
      · rw [hw, hw2] at hw1; cases hw1
      · rw [h1, h2]
  have hplain : ∀ i o, l[i]? = some o → mask i = false → plainE o = true := by
    intro i o ho hm
    have hi : i < l.length := (List.getElem?_eq_some_iff.1 ho).1
    have := List.all_eq_true.1 hqb i (List.mem_range.2 hi)
    rw [ho] at this
    simpa [hm] using this
  -- the frames that an operation sees, by two lists of values that agree where it waits
  have hpre : ∀ i o (V V' : Nat → Value), l[i]? = some o → (∀ j, waitsOn o j = true → V j = V' j) →
      execOp (putAll l.toArray V (List.range' 0 i) a).eval o = execOp (putAll l.toArray V' (List.range' 0 i) a).eval o ∧ Region.wanted o (yielded l.toArray (putAll l.toArray V (List.range' 0 i) a).tmps) = Region.wanted o (yielded l.toArray (putAll l.toArray V' (List.range' 0 i) a).tmps) := by
    intro i o V V' ho hV
    have ho' : l.toArray[i]? = some o := by simpa using ho
    obtain ⟨hlt, hsel, _, hsee⟩ := seesW_at hs ho'
    have hw : ∀ j, waitsOn o j = true → j < i := fun j hj => by
      obtain ⟨e, he, hb, rfl⟩ := waitsOn_iff.1 hj
      exact hlt e he hb
    have hrest : ∀ j ∈ List.range' 0 i, j ∉ (List.range i).filter (fun j => waitsOn o j) → ∀ d, dstAt l.toArray j = some d → d ∉ o.looksAt l.toArray := fun j hj hn d hd hk => by
      have hj1 := (List.mem_range'_1.1 hj).2
      rcases (hsee j d hd).2 hk with h1 | ⟨h1, _⟩
      · exact hn (List.mem_filter.2 ⟨List.mem_range.2 (hw j h1), h1⟩)
      · omega
    have hin : ∀ j ∈ (List.range i).filter (fun j => waitsOn o j), j ∈ List.range' 0 i := fun j hj => by
      have := List.mem_range.1 (List.mem_filter.1 hj).1
      exact List.mem_range'_1.2 ⟨Nat.zero_le _, by omega⟩
    exact frames_same hsel ((List.range i).filter (fun j => waitsOn o j)) _ _ hdd hin hin List.nodup_range' List.nodup_range' (List.nodup_range.filter _) (fun j hj => hV j (List.mem_filter.1 hj).2) hrest hrest a
  -- what holds of the values when some are listed
  have hsame : ∀ (V V' : Nat → Value) (listed : Array Bool), Shut l.toArray listed → (∀ i, mask i = true → listed.getD i false = true → i < l.length → V i = V' i) →
      (∀ i o, l[i]? = some o → mask i = false → listed.getD i false = true → YieldsQuiet Fence.wide n P l.toArray C o (V i) (putAll l.toArray V (List.range' 0 i) a)) →
      (∀ i o, l[i]? = some o → mask i = false → YieldsQuiet Fence.wide n P l.toArray C o (V' i) (putAll l.toArray V' (List.range' 0 i) a)) →
      ∀ i, i < l.length → listed.getD i false = true → V i = V' i := by
    intro V V' listed hsh hm hy hy' i
    induction i using Nat.strongRecOn with
    | _ i ih =>
      intro hi hl
      cases hmi : mask i with
      | true => exact hm i hmi hl hi
      | false =>
        have ho : l[i]? = some l[i] := List.getElem?_eq_getElem hi
        have ho' : l.toArray[i]? = some l[i] := by simp
        have hp := hpre i l[i] V V' ho (fun j hj => by
          obtain ⟨e, he, hb, rfl⟩ := waitsOn_iff.1 hj
          have h1 := (seesW_at hs ho').1 e he hb
          exact ih e.on h1 (by omega) (hsh i _ ho' hl e he hb))
        exact hdet l[i] _ _ _ _ (hplain i _ ho hmi) hp.1 hp.2 (hy i _ ho hmi hl) (hy' i _ ho hmi)
  -- the state
  have key := any_rel (P := P) (n := n) (ops := l.toArray) (Q := Q) (a0 := a) (D := fun V listed w => Inv (fun j => mask j && listed.getD j false) (fun j => if (mask j && listed.getD j false) = true then V j else dflt j) w ∧
      ∀ i o, l[i]? = some o → mask i = false → listed.getD i false = true → YieldsQuiet Fence.wide n P l.toArray C o (V i) (putAll l.toArray V (List.range' 0 i) a)) hs ?_ ?_ l.length (Array.replicate l.length false) (fun _ => undef) w (by simp) ?_ ?_ ?_
  · have e : listOf (Array.replicate l.length false) l.toArray.size = [] := by
      unfold listOf
      rw [List.filter_eq_nil_iff]
      intro j _
      rw [getD_replicate_f]; simp
    rw [e] at key
    exact key
  · intro i o V listed w1 ho hi hsh hD
    obtain ⟨hI, hY⟩ := hD
    have ho' : l[i]? = some o := by simpa using ho
    have hil : i < l.length := (List.getElem?_eq_some_iff.1 ho').1
    obtain ⟨hl, o2, ho2, hall⟩ := mem_ready.1 hi
    obtain rfl : o = o2 := Option.some.inj (ho.symm.trans ho2)
    have hlf := getD_true_false hl
    obtain ⟨V2, hm2, hwant2, hy2, hloud2, _⟩ := hlex (fun j => if (mask j && listed.getD j false) = true then V j else dflt j) ⟨_, _, hI⟩
    have hag := hsame V V2 listed hsh (fun j hj hl hjl => by have := hm2 j hjl hj; rw [if_pos (by rw [hj, hl]; rfl)] at this; exact this.symm) hY hy2
    obtain ⟨hlt, hsel, _, hsee⟩ := seesW_at hs ho
    have hwt : ∀ j, waitsOn o j = true → listed.getD j false = true ∧ j < i := fun j hj => by
      obtain ⟨e, he, hb, rfl⟩ := waitsOn_iff.1 hj
      exact ⟨hall e he hb, hlt e he hb⟩
    have hp := hpre i o V V2 ho' (fun j hj => hag j (by have := (hwt j hj).2; omega) (hwt j hj).1)
    -- what was shown of the quiet ones stays
    have hstay : ∀ (v : Value), ∀ k p, l[k]? = some p → mask k = false → listed.getD k false = true → YieldsQuiet Fence.wide n P l.toArray C p ((fun j => if j = i then v else V j) k) (putAll l.toArray (fun j => if j = i then v else V j) (List.range' 0 k) a) := by
      intro v k p hk hmk hlk
      have hne : k ≠ i := by rintro rfl; rw [hlf] at hlk; cases hlk
      show YieldsQuiet _ _ _ _ _ _ (if k = i then v else V k) _
      rw [if_neg hne]
      have hk' : l.toArray[k]? = some p := by simpa using hk
      have hpk := hpre k p V (fun j => if j = i then v else V j) hk (fun j hj => by
        obtain ⟨e, he, hb, rfl⟩ := waitsOn_iff.1 hj
        have := hsh k p hk' hlk e he hb
        have hne2 : e.on ≠ i := by intro e2; rw [e2, hlf] at this; cases this
        rw [if_neg hne2])
      have hyk := hY k p hk hmk hlk
      unfold YieldsQuiet Oper.quietAtIn at hyk ⊢
      rw [← hpk.1, ← hpk.2]
      exact ⟨fun _ _ _ _ => trivial, hyk.2⟩
    cases hmi : mask i with
    | false =>
      have hyi := hy2 i o ho' hmi
      -- the mask does not see it
      have hdm : (fun j => mask j && (listed.setIfInBounds i true).getD j false) = (fun j => mask j && listed.getD j false) := by
        funext j
        by_cases e : i = j
        · subst e; rw [hmi]; rfl
        · rw [getD_set_ne false e]
      have hdv : (fun j => if (mask j && (listed.setIfInBounds i true).getD j false) = true then (fun j => if j = i then V2 i else V j) j else dflt j) = (fun j => if (mask j && listed.getD j false) = true then V j else dflt j) := by
        funext j
        by_cases e : i = j
        · subst e; rw [hmi]; rfl
        · rw [getD_set_ne false e]
          simp only [if_neg (show ¬ j = i from fun h => e h.symm)]
      have fin : (Inv (fun j => mask j && (listed.setIfInBounds i true).getD j false) (fun j => if (mask j && (listed.setIfInBounds i true).getD j false) = true then (fun j => if j = i then V2 i else V j) j else dflt j) w1 ∧
          ∀ k p, l[k]? = some p → mask k = false → (listed.setIfInBounds i true).getD k false = true → YieldsQuiet Fence.wide n P l.toArray C p ((fun j => if j = i then V2 i else V j) k) (putAll l.toArray (fun j => if j = i then V2 i else V j) (List.range' 0 k) a)) := by
        refine ⟨by rw [hdm, hdv]; exact hI, fun k p hk hmk hlk => ?_⟩
        by_cases e : i = k
        · subst e
          obtain rfl : o = p := Option.some.inj (ho'.symm.trans hk)
          show YieldsQuiet _ _ _ _ _ _ (if i = i then V2 i else V i) _
          rw [if_pos rfl]
          have hpk := hpre i o V2 (fun j => if j = i then V2 i else V j) hk (fun j hj => by
            have hne2 : j ≠ i := by have := (hwt j hj).2; omega
            rw [if_neg hne2]
            exact (hag j (by have := (hwt j hj).2; omega) (hwt j hj).1).symm)
          unfold YieldsQuiet Oper.quietAtIn at hyi ⊢
          rw [← hpk.1, ← hpk.2]
          exact ⟨fun _ _ _ _ => trivial, hyi.2⟩
        · rw [getD_set_ne false e] at hlk
          exact hstay _ k p hk hmk hlk
      have hC1 := hIC _ _ _ hI
      rcases hyi.2 with ⟨hw, h1⟩ | ⟨hw, h1⟩
      · rw [hp.2, if_pos hw]
        unfold LeadsV
        rw [hp.1]
        have h2 := h1 w1 hC1
        unfold Oper.quietAtIn at h2
        generalize hrun : (execOp (putAll l.toArray V2 (List.range' 0 i) a).eval o).run P w1 = r at h2
        cases r with
        | ok x w' =>
          cases x <;> simp only [Oper.quietUponIn] at h2
          case value x => obtain ⟨rfl, rfl⟩ := h2; exact fin
          case skip => obtain ⟨rfl, h3⟩ := h2; rw [h3] at fin; exact fin
          case enter f args => exact absurd hrun (plainE_noEnter (hplain i o ho' hmi))
        | halt x w' => simp only [Oper.quietUponIn] at h2
      · rw [hp.2, if_neg (by rw [hw]; simp)]
        rw [h1] at fin
        exact fin
    | true =>
      have hq2 := List.all_eq_true.1 hqb i (List.mem_range.2 hil)
      rw [ho'] at hq2
      simp only [hmi, if_true] at hq2
      have hld := hloud2 i o (fun j => mask j && listed.getD j false) w1 ho' hmi (by simp [hlf]) (fun j hj hwj => by simp [hj, (hwt j hwj).1]) hI
      -- the whole frame, and the one ahead of it
      have hfr := frames_same (V := V) (V' := V2) hsel ((List.range i).filter (fun j => waitsOn o j)) (List.range' 0 i) (List.range l.length) hdd
        (fun j hj => by
          have := List.mem_range.1 (List.mem_filter.1 hj).1
          exact List.mem_range'_1.2 ⟨Nat.zero_le _, by omega⟩)
        (fun j hj => by
          have := List.mem_range.1 (List.mem_filter.1 hj).1
          exact List.mem_range.2 (by omega))
        List.nodup_range' List.nodup_range (List.nodup_range.filter _)
        (fun j hj => by
          have h1 := List.mem_filter.1 hj
          exact hag j (by have := List.mem_range.1 h1.1; omega) (hwt j h1.2).1)
        (fun j hj hn d hd hk => by
          rcases (hsee j d hd).2 hk with h1 | ⟨h1, _⟩
          · exact hn (List.mem_filter.2 ⟨List.mem_range.2 (hwt j h1).2, h1⟩)
          · have := (List.mem_range'_1.1 hj).2; omega)
        (fun j hj hn d hd hk => by
          have := List.all_eq_true.1 hq2 j hj
          rw [hd] at this
          simp only [Bool.or_eq_true] at this
          rcases this with h1 | h1
          · have h5 : (o.looksAt l.toArray).contains d = false := by simpa using h1
            rw [List.contains_eq_mem, decide_eq_false_iff_not] at h5
            exact h5 hk
          · exact hn (List.mem_filter.2 ⟨List.mem_range.2 (hwt j h1).2, h1⟩))
        a
      have hw : Region.wanted o (yielded l.toArray (putAll l.toArray V (List.range' 0 i) a).tmps) = true := by rw [hfr.2]; exact hwant2 i o ho' hmi
      rw [if_pos hw]
      have hld2 : LeadsV P n o (putAll l.toArray V (List.range' 0 i) a) (fun v w' => Inv (fun j => if j = i then true else mask j && listed.getD j false) (fun j => if j = i then v else (if (mask j && listed.getD j false) = true then V j else dflt j)) w') w1 := by
        unfold LeadsV at hld ⊢
        rw [hfr.1]
        exact hld
      refine hld2.mono (fun v w' hI' => ⟨?_, fun k p hk hmk hlk => ?_⟩)
      · have hdm : (fun j => mask j && (listed.setIfInBounds i true).getD j false) = (fun j => if j = i then true else mask j && listed.getD j false) := by
          funext j
          by_cases e : i = j
          · subst e
            have his : i < listed.size := by
              rcases Nat.lt_or_ge i listed.size with h | h
              · exact h
              · simp [Array.getElem?_eq_none h] at hl
            rw [hmi, getD_set_self his, if_pos rfl]; rfl
          · rw [getD_set_ne false e, if_neg (fun h => e h.symm)]
        have hdv : (fun j => if (mask j && (listed.setIfInBounds i true).getD j false) = true then (fun j => if j = i then v else V j) j else dflt j) = (fun j => if j = i then v else (if (mask j && listed.getD j false) = true then V j else dflt j)) := by
          funext j
          by_cases e : i = j
          · subst e
            have his : i < listed.size := by
              rcases Nat.lt_or_ge i listed.size with h | h
              · exact h
              · simp [Array.getElem?_eq_none h] at hl
            rw [hmi, getD_set_self his, if_pos rfl]; simp only [if_true, Bool.true_and]
          · rw [getD_set_ne false e]
            simp only [if_neg (show ¬ j = i from fun h => e h.symm)]
        rw [hdm, hdv]
        exact hI'
      · have hne : i ≠ k := by rintro rfl; rw [hmi] at hmk; cases hmk
        rw [getD_set_ne false hne] at hlk
        exact hstay v k p hk hmk hlk
  · intro V listed w1 hsz hsh hD hall
    obtain ⟨hI, hY⟩ := hD
    have hlt : ∀ j, j < l.length → listed.getD j false = true := fun j hj => getD_true_in (by rw [hsz]; simpa using hj) (hall j (by simpa using hj))
    obtain ⟨V2, hm2, _, hy2, _, hend2⟩ := hlex (fun j => if (mask j && listed.getD j false) = true then V j else dflt j) ⟨_, _, hI⟩
    have hag := hsame V V2 listed hsh (fun j hj hl hjl => by have := hm2 j hjl hj; rw [if_pos (by rw [hj, hl]; rfl)] at this; exact this.symm) hY hy2
    have hfr : putAll l.toArray V (List.range l.toArray.size) a = putAll l.toArray V2 (List.range l.length) a := by
      rw [List.size_toArray]
      exact putAll_cong _ _ (fun j hj => hag j (List.mem_range.1 hj) (hlt j (List.mem_range.1 hj)))
    rw [hfr]
    exact hend2 _ w1 (fun j hj hjl => by simp [hj, hlt j hjl]) hI
  · have e : listOf (Array.replicate l.length false) l.toArray.size = [] := by
      unfold listOf
      rw [List.filter_eq_nil_iff]
      intro j _
      rw [getD_replicate_f]; simp
    rw [e]
    simp
  · intro j o _ hl
    rw [getD_replicate_f] at hl
    cases hl
  · have e : (fun j => mask j && (Array.replicate l.length false).getD j false) = (fun _ => false) := by
      funext j
      rw [getD_replicate_f, Bool.and_false]
    have e2 : (fun j => if (mask j && (Array.replicate l.length false).getD j false) = true then undef else dflt j) = dflt := by
      funext j
      rw [getD_replicate_f, Bool.and_false]
      rfl
    refine ⟨by rw [e, e2]; exact h0, fun i o _ _ hl => ?_⟩
    rw [getD_replicate_f] at hl
    cases hl

/-- What is asked behind the quiet walk. -/
def LoudPostG (P : Program) (n : Nat) (l : List Oper) (mask : Nat → Bool) (Q : Exit → Act → World → Prop) (Inv : (Nat → Bool) → (Nat → Value) → World → Prop) (u : Nat → Value) (a' : Act) : Prop :=
  (∀ i o, l[i]? = some o → mask i = true → Region.wanted o (yielded l.toArray a'.tmps) = true) ∧
  (∀ i o d w, l[i]? = some o → mask i = true → d i = false → (∀ j, mask j = true → waitsOn o j = true → d j = true) → Inv d u w → LeadsV P n o a' (fun v w' => Inv (fun j => if j = i then true else d j) (fun j => if j = i then v else u j) w') w) ∧
      ∀ d w', (∀ j, mask j = true → j < l.length → d j = true) → Inv d u w' → Q .normal a' w'
theorem region_loudG {id : Nat} {l : List Oper} (mask : Nat → Bool) (C : World → Prop) (Inv : (Nat → Bool) → (Nat → Value) → World → Prop) (dflt : Nat → Value) {Q : Exit → Act → World → Prop} {a : Act} {w : World} (hm : P.follows .mixedOrders = true)
    (hs : seesW l.toArray = true) (hqb : quietG mask l = true) (hIC : ∀ d u w, Inv d u w → C w) (h0 : Inv (fun _ => false) dflt w.drew)
    (hq : ∀ u, (∃ d w, Inv d u w) → wpQuietIn Fence.wide n P (hushE mask u 0 l).toArray C (LoudPostG P n l mask Q Inv u) (hushE mask u 0 l) a) :
    (Code.region id l.toArray true).wpIn Fence.wide n P Q a w := by
  refine wpIn_region_any hm ?_
  have := any_loudG (Q := Q) (w := w.drew) dflt hs hqb hIC h0 (fun u hu => by have := hq u hu; rw [hushE_vals] at this; exact this)
  simpa using this
end
end Go.SeqLib
