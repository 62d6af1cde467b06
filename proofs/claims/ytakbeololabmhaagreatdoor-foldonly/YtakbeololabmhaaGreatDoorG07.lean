/-
  Of: FMay, FRefB, FRefM.
-/
import Derived.Test.YtakbeololabmhaaGreatDoorG05
import Derived.Test.YtakbeololabmhaaGreatDoorG06
import Derived.Sort.CutIn
import Derived.Laws.Cover1
section
-- FMay
namespace Go.TreeLib
open Go
/-- So far it is one. -/
def Sofar (l : List Fl) : Prop := (∀ f ∈ l, fileB f = true) ∧ l.Pairwise Apart
theorem sofar_nil : Sofar [] := ⟨fun _ h => (by cases h), List.Pairwise.nil⟩
theorem goes_apart {l : List Fl} {x : Fl} : goesB l x.1 = true ↔ ∀ a ∈ l, Apart a x := by
  unfold goesB
  rw [List.all_eq_true]
  constructor
  · intro h a ha
    have := h a ha
    unfold behindB at this
    rw [Bool.and_eq_true] at this
    exact ⟨this.1, by simpa using this.2⟩
  · intro h a ha
    have := h a ha
    unfold behindB
    rw [this.1, this.2]
    rfl
theorem sofar_snoc {l : List Fl} {x : Fl} : Sofar (l ++ [x]) ↔ Sofar l ∧ fileB x = true ∧ goesB l x.1 = true := by
  unfold Sofar
  rw [List.pairwise_append, goes_apart]
  constructor
  · rintro ⟨h1, h2, _, h3⟩
    exact ⟨⟨fun f hf => h1 f (List.mem_append_left _ hf), h2⟩, h1 x (by simp), fun a ha => h3 a ha x (by simp)⟩
  · rintro ⟨⟨h1, h2⟩, h3, h4⟩
    refine ⟨fun f hf => ?_, h2, List.pairwise_singleton _ _, fun a ha b hb => ?_⟩
    · rcases List.mem_append.1 hf with h | h
      · exact h1 f h
      · rw [List.mem_singleton] at h; rw [h]; exact h3
    · rw [List.mem_singleton] at hb; rw [hb]; exact h4 a ha
theorem may_sofar {t : List Fl} (hl : t.length ≤ 12) : mayB t = true ↔ Sofar t := by
  rw [mayB_iff]
  exact ⟨fun h => ⟨h.file, h.apart⟩, fun h => ⟨hl, h.1, h.2⟩⟩
theorem Sofar.pre {l m : List Fl} (h : Sofar (l ++ m)) : Sofar l := ⟨fun f hf => h.1 f (List.mem_append_left _ hf), (List.pairwise_append.1 h.2).1⟩
theorem may_bad {t pre : List Fl} {x : Fl} (hp : pre ++ [x] <+: t) (h : ¬ (fileB x = true ∧ goesB pre x.1 = true)) : mayB t = false := mayB_not (fun ht => by
  obtain ⟨r, rfl⟩ := hp
  exact h (sofar_snoc.1 (Sofar.pre ((may_sofar ht.len).1 (mayB_iff.2 ht)))).2)
end Go.TreeLib
namespace Go.Proofs.YtakbeololabmhaaGreatDoor
open Go.RowKit Go.Shelf Go.SeqLib Go.DiffLib Go.TreeLib Go.BigFrame
attribute [local go_sem] Oper.semAt_some

set_option maxRecDepth 100000 in
set_option maxHeartbeats 4000000 in
theorem may_in (v : Value) (zs : List Fl) (hz : ∀ f ∈ zs, f.1.size ≤ 100000) (w : World) (hv : SlF w v zs) : CallsIn Fence.wide 0 Tryz.prog 17 #[v] w fun e w' =>
    e = .returned (.bool (mayB zs)) ∧ Chg No w w' := by
  have hmix : Tryz.prog.follows .mixedOrders = true := by kernel_rfl
  obtain ⟨z, HZ⟩ : ∃ z, Hid (mayB zs = z) := ⟨_, rfl⟩
  rw [HZ.out]
  obtain ⟨p, cap, rfl, _, hmx⟩ := hv.slice
  have hml : zs.length ≤ 9223372036854775807 := by unfold maxLen at hmx; omega
  obtain ⟨n, HN⟩ : ∃ n, Hid (zs.length = n) := ⟨_, rfl⟩
  rw [HN.out] at hv hml ⊢
  clear hmx
  refine callsIn_of_wp Tryz.func17 rfl trivial ?_
  simp only [Tryz.ntmps17, List.size_toArray, List.length_cons, List.length_nil, Nat.reduceAdd, Nat.reduceSub, Array.replicate_succ, Array.replicate_zero, List.push_toArray, List.append_toArray, List.nil_append, List.cons_append]
  by_cases hl : 12 < n
  · have hl' : (12 : Int) < (n : Int) := by omega
    obtain rfl : z = false := by rw [← HZ.out]; exact mayB_not (fun h => by have := h.len; rw [HN.out] at this; omega)
    gi_wp2
    go_ret
    exact ⟨rfl, Chg.refl _ _⟩
  have hl' : ¬ (12 : Int) < (n : Int) := by omega
  gi_wp2
  gi_loopw [10] (fun i wr => ∃ k : Nat, k ≤ n ∧ i = .int .i64 (k : Int) ∧ Hid (Sofar (zs.take k)) ∧ Chg No w wr) (fun i _ => n - (intOf i).toNat)
  case atStart => exact ⟨0, Nat.zero_le _, rfl, sofar_nil, Chg.refl _ _⟩
  case round =>
    obtain ⟨k, hk, rfl, HT, c⟩ := hrel
    by_cases hlt : k < n
    · have hlt' : (k : Int) < (n : Int) := by omega
      have hkl : k < zs.length := by rw [HN.out]; exact hlt
      obtain ⟨x, hx⟩ : ∃ x, zs[k] = x := ⟨_, rfl⟩
      have hts : zs.take (k + 1) = zs.take k ++ [x] := by rw [List.take_succ_eq_append_getElem hkl, hx]
      have HTS : Hid (zs.take (k + 1) = zs.take k ++ [x]) := hts
      have hpre : zs.take k ++ [x] <+: zs := by rw [← hts]; exact List.take_prefix _ _
      have hxm : x ∈ zs := by rw [← hx]; exact List.getElem_mem hkl
      obtain ⟨b1, o1, rfl, hc1, hc2⟩ := SlF.at (hv.no c) k x (by rw [List.getElem?_eq_getElem hkl, hx])
      clear hx hts
      have ca : Chg No w (wr.alloc (.cells #[.string x.1, .string x.2] 49)) := c.alloc _
      have k0 : (wr.alloc (.cells #[.string x.1, .string x.2] 49)).cell? ⟨wr.heap.size, 0, none⟩ = some (.string x.1) := World.cell?_alloc_at _ _ _ _ rfl
      have k1 : (wr.alloc (.cells #[.string x.1, .string x.2] 49)).cell? ⟨wr.heap.size, 1, none⟩ = some (.string x.2) := World.cell?_alloc_at _ _ _ _ rfl
      obtain ⟨ps, cs, sS, oS, hcS⟩ := SlF.high (hv.no ca) k (by omega)
      gi_wp2
      generalize wr.alloc (.cells #[.string x.1, .string x.2] 49) = W3 at *
      generalize wr.heap.size = B at *
      have hany : Nonempty (After W3) := After.any W3
      have f0 : ∀ c : After W3, c.val.cell? ⟨B, 0, none⟩ = some (.string x.1) := fun c => c.cell k0
      have f1 : ∀ c : After W3, c.val.cell? ⟨B, 1, none⟩ = some (.string x.2) := fun c => c.cell k1
      have HPa : Hid (∀ c : After W3, CallsIn Fence.wide 0 Tryz.prog 30 #[.string x.1] c.val fun e w' => e = .returned (.bool (pathB (Bs x.1))) ∧ Chg No c.val w') := fun c => path_in x.1 c.val
      have HGo : Hid (∀ c : After W3, CallsIn Fence.wide 0 Tryz.prog 31 #[.slice ps k cs, .string x.1] c.val fun e w' => e = .returned (.bool (goesB (zs.take k) x.1)) ∧ Chg No c.val w') := fun c => goesOn_in _ (zs.take k) x.1 (fun f hf => hz f (List.mem_of_mem_take hf)) c.val (sS.no c.chg)
      clear hc1 hc2 k0 k1 sS oS c
      cases hp : pathB (Bs x.1) with
      | false =>
        rw [hp] at HPa
        obtain rfl : z = false := by
          rw [← HZ.out]
          exact may_bad hpre (fun h => by have := h.1; unfold fileB at this; rw [hp] at this; cases this)
        clear hp hcS
        refine region_quietC hmix (by kernel_rfl) ?_
        repeat (gi_big_quiet_step (fail))
        refine wpQuietIn_want (fun _ _ _ _ => trivial) rfl ?_
        intro KQ hKQ
        gi_big_quiet_op
        gi_big_quiet_call (exact ⟨rfl, (HPa.out _).mono (by rintro e w'' ⟨rfl, c'⟩; exact ⟨rfl, After.more _ c'⟩)⟩)
        repeat (gi_big_quiet_step (fail))
        refine wpQuietIn_skip (fun _ _ _ _ => trivial) rfl ?_
        simp only [Act.put, List.setIfInBounds_toArray, List.set_cons_succ, List.set_cons_zero]
        repeat (gi_big_quiet_step (fail))
        refine wpQuietIn_nil ?_
        rintro w' ⟨c, rfl⟩
        have cc := Chg.seq ca c.chg
        gi_wp2
        go_ret
        exact ⟨rfl, cc⟩
      | true =>
        rw [hp] at HPa
        by_cases hd : 400 < x.2.size
        · have hd' : decide ((400 : Int) < (x.2.size : Int)) = true := decide_eq_true (by omega)
          obtain rfl : z = false := by
            rw [← HZ.out]
            exact may_bad hpre (fun h => by have := h.1; unfold fileB at this; rw [hp, decide_eq_false (by omega)] at this; cases this)
          clear hp hcS hd
          refine region_quietC hmix (by kernel_rfl) ?_
          repeat (gi_big_quiet_step (fail))
          refine wpQuietIn_want (fun _ _ _ _ => trivial) rfl ?_
          intro KQ hKQ
          gi_big_quiet_op
          gi_big_quiet_call (exact ⟨rfl, (HPa.out _).mono (by rintro e w'' ⟨rfl, c'⟩; exact ⟨rfl, After.more _ c'⟩)⟩)
          repeat (gi_big_quiet_step (fail))
          refine wpQuietIn_skip (fun _ _ _ _ => trivial) rfl ?_
          simp only [Act.put, List.setIfInBounds_toArray, List.set_cons_succ, List.set_cons_zero]
          repeat (gi_big_quiet_step (fail))
          refine wpQuietIn_nil ?_
          rintro w' ⟨c, rfl⟩
          have cc := Chg.seq ca c.chg
          gi_wp2
          go_ret
          exact ⟨rfl, cc⟩
        · have hd' : decide ((400 : Int) < (x.2.size : Int)) = false := decide_eq_false (by omega)
          have hfile : fileB x = true := by unfold fileB; rw [hp, decide_eq_true (by omega)]; rfl
          cases hg : goesB (zs.take k) x.1 with
          | false =>
            rw [hg] at HGo
            obtain rfl : z = false := by
              rw [← HZ.out]
              exact may_bad hpre (fun h => by have := h.2; rw [hg] at this; cases this)
            clear hp hd hg
            refine region_quietC hmix (by kernel_rfl) ?_
            repeat (gi_big_quiet_step (fail))
            refine wpQuietIn_want (fun _ _ _ _ => trivial) rfl ?_
            intro KQ hKQ
            gi_big_quiet_op
            gi_big_quiet_call (exact ⟨rfl, (HPa.out _).mono (by rintro e w'' ⟨rfl, c'⟩; exact ⟨rfl, After.more _ c'⟩)⟩)
            repeat (gi_big_quiet_step (fail))
            refine wpQuietIn_want (fun _ _ _ _ => trivial) rfl ?_
            intro KQ2 hKQ2
            gi_big_quiet_op
            gi_big_quiet_call (exact ⟨rfl, (HGo.out _).mono (by rintro e w'' ⟨rfl, c'⟩; exact ⟨rfl, After.more _ c'⟩)⟩)
            repeat (gi_big_quiet_step (fail))
            refine wpQuietIn_nil ?_
            rintro w' ⟨c, rfl⟩
            have cc := Chg.seq ca c.chg
            gi_wp2
            go_ret
            exact ⟨rfl, cc⟩
          | true =>
            rw [hg] at HGo
            have HT2 : Hid (Sofar (zs.take (k + 1))) := by
              show Sofar _
              rw [HTS.out]
              exact sofar_snoc.2 ⟨HT.out, hfile, hg⟩
            clear hp hd hg
            refine region_quietC hmix (by kernel_rfl) ?_
            repeat (gi_big_quiet_step (fail))
            refine wpQuietIn_want (fun _ _ _ _ => trivial) rfl ?_
            intro KQ hKQ
            gi_big_quiet_op
            gi_big_quiet_call (exact ⟨rfl, (HPa.out _).mono (by rintro e w'' ⟨rfl, c'⟩; exact ⟨rfl, After.more _ c'⟩)⟩)
            repeat (gi_big_quiet_step (fail))
            refine wpQuietIn_want (fun _ _ _ _ => trivial) rfl ?_
            intro KQ2 hKQ2
            gi_big_quiet_op
            gi_big_quiet_call (exact ⟨rfl, (HGo.out _).mono (by rintro e w'' ⟨rfl, c'⟩; exact ⟨rfl, After.more _ c'⟩)⟩)
            repeat (gi_big_quiet_step (fail))
            refine wpQuietIn_nil ?_
            rintro w' ⟨c, rfl⟩
            have cc := Chg.seq ca c.chg
            gi_wp2
            go_roundw
            case rel => exact ⟨k + 1, hlt, by go_num, HT2, cc⟩
            case measure => simp [intOf]; omega
    · have hlt' : ¬ (k : Int) < (n : Int) := by omega
      obtain rfl : k = n := by omega
      obtain rfl : z = true := by
        rw [← HZ.out, may_sofar (by rw [HN.out]; omega)]
        have := HT.out
        rw [List.take_of_length_le (by rw [HN.out]; exact Nat.le_refl _)] at this
        exact this
      gi_wp2
      go_ret
      exact ⟨rfl, c⟩

end Go.Proofs.YtakbeololabmhaaGreatDoor

end
section
-- FRefB
namespace Go.TreeLib
open Go
/-- No two strokes one behind the other among the first k. -/
def adjTo (l : List UInt8) (k : Nat) : Prop := ∀ i, i + 1 < k → ¬ (l[i]? = some 47 ∧ l[i + 1]? = some 47)
theorem adjB_iff : ∀ {l : List UInt8}, adjB l = true ↔ adjTo l l.length
  | [] => ⟨fun _ i hi => by simp at hi, fun _ => rfl⟩
  | [a] => ⟨fun _ i hi => by simp at hi, fun _ => rfl⟩
  | a :: b :: r => by
    unfold adjB
    rw [Bool.and_eq_true, adjB_iff]
    constructor
    · rintro ⟨h1, h2⟩ i hi
      cases i with
      | zero =>
        rintro ⟨e1, e2⟩
        simp at e1 e2
        subst e1; subst e2
        simp at h1
      | succ i => exact h2 i (by simp at hi ⊢; omega)
    · intro h
      refine ⟨?_, fun i hi => h (i + 1) (by simp at hi ⊢; omega)⟩
      have := h 0 (by simp)
      simp at this
      simp
      by_cases e1 : a = 47
      · exact .inr (this e1)
      · exact .inl e1
end Go.TreeLib
namespace Go.Proofs.YtakbeololabmhaaGreatDoor
open Go.RowKit Go.Shelf Go.SeqLib Go.TreeLib
attribute [local go_sem] Oper.semAt_some

theorem at_byte (p : ByteArray) (k : Nat) (h : k < p.size) : (Bs p)[k]? = some (p[k]'h) := List.getElem?_eq_getElem (l := Bs p) h

set_option maxRecDepth 100000 in
set_option maxHeartbeats 4000000 in
theorem refPath_in (p : ByteArray) (w : World) : CallsIn Fence.wide 0 Tryz.prog 75 #[.string p] w fun e w' => e = .returned (.bool (pathB (Bs p))) ∧ Chg No w w' := by
  obtain ⟨z, HZ⟩ : ∃ z, Hid (pathB (Bs p) = z) := ⟨_, rfl⟩
  rw [HZ.out]
  have hlen : (Bs p).length = p.size := rfl
  refine callsIn_of_wp Tryz.func75 rfl trivial ?_
  simp only [Tryz.ntmps75, List.size_toArray, List.length_cons, List.length_nil, Nat.reduceAdd, Nat.reduceSub, Array.replicate_succ, Array.replicate_zero, List.push_toArray, List.append_toArray, List.nil_append, List.cons_append]
  by_cases h1 : p.size < 1
  · have g1 : (p.size : Int) < 1 := by omega
    obtain rfl : z = false := by rw [← HZ.out]; exact pathB_not (fun h => by have := h.pos; omega)
    gi_wp2
    go_ret
    exact ⟨rfl, Chg.refl _ _⟩
  have g1 : ¬ (p.size : Int) < 1 := by omega
  by_cases h2 : 60 < p.size
  · have g2 : (60 : Int) < (p.size : Int) := by omega
    obtain rfl : z = false := by rw [← HZ.out]; exact pathB_not (fun h => by have := h.len; omega)
    gi_wp2
    go_ret
    exact ⟨rfl, Chg.refl _ _⟩
  have g2 : ¬ (60 : Int) < (p.size : Int) := by omega
  have hp0 : 0 < p.size := by omega
  have hpl : p.size - 1 < p.size := by omega
  have e0 := at_byte p 0 hp0
  have el := at_byte p (p.size - 1) hpl
  by_cases h3 : (p[0]'hp0).toNat = 47
  · obtain rfl : z = false := by rw [← HZ.out]; exact pathB_not (fun h => h.fst (by rw [List.head?_eq_getElem?, e0]; exact congrArg some (UInt8.toNat.inj h3)))
    have g3 : (((p[0]'hp0).toNat : Int) == 47) = true := by rw [h3]; rfl
    gi_wp2
    go_ret
    exact ⟨rfl, Chg.refl _ _⟩
  have g3 : (((p[0]'hp0).toNat : Int) == 47) = false := beq_eq_false_iff_ne.2 (by omega)
  by_cases h4 : (p[p.size - 1]'hpl).toNat = 47
  · obtain rfl : z = false := by rw [← HZ.out]; exact pathB_not (fun h => h.lst (by rw [List.getLast?_eq_getElem?, hlen, el]; exact congrArg some (UInt8.toNat.inj h4)))
    have g4 : (((p[p.size - 1]'hpl).toNat : Int) == 47) = true := by rw [h4]; rfl
    gi_wp2
    go_ret
    exact ⟨rfl, Chg.refl _ _⟩
  have g4 : (((p[p.size - 1]'hpl).toNat : Int) == 47) = false := beq_eq_false_iff_ne.2 (by omega)
  have HF : Hid ((Bs p).head? ≠ some 47) := by
    rw [List.head?_eq_getElem?, e0]
    intro h
    exact h3 (by rw [Option.some.inj h]; rfl)
  have HL : Hid ((Bs p).getLast? ≠ some 47) := by
    rw [List.getLast?_eq_getElem?, hlen, el]
    intro h
    exact h4 (by rw [Option.some.inj h]; rfl)
  have hml : p.size ≤ 9223372036854775807 := by omega
  clear e0 el h3 h4 hlen
  gi_wp2
  gi_loopw [3] (fun i wr => ∃ k : Nat, k ≤ p.size ∧ i = .int .i64 (k : Int) ∧ Hid (((Bs p).take k).all signB = true) ∧ Hid (adjTo (Bs p) k) ∧ wr = w) (fun i _ => p.size - (intOf i).toNat)
  case atStart => exact ⟨0, Nat.zero_le _, rfl, rfl, fun i hi => by omega, rfl⟩
  case round =>
    obtain ⟨k, hk, rfl, HT, HA, rfl⟩ := hrel
    by_cases hlt : k < p.size
    · have hlt' : (k : Int) < (p.size : Int) := by omega
      have hkl : k < (Bs p).length := hlt
      have hbad : ¬ (33 ≤ (p[k]'hlt).toNat ∧ (p[k]'hlt).toNat ≤ 126) → Hid (z = false) := fun h => by
        show _ = _
        rw [← HZ.out]
        refine pathB_not (fun hP => ?_)
        have := List.all_eq_true.1 hP.byt ((Bs p)[k]) (List.getElem_mem hkl)
        rw [sign_iff, Bool.and_eq_true, decide_eq_true_eq, decide_eq_true_eq] at this
        exact h this
      by_cases h1 : (p[k]'hlt).toNat < 33
      · have h1' : ((p[k]'hlt).toNat : Int) < 33 := by omega
        obtain rfl := (hbad (by omega)).out
        gi_wp2
        go_ret
        exact ⟨rfl, Chg.refl _ _⟩
      have h1' : ¬ ((p[k]'hlt).toNat : Int) < 33 := by omega
      by_cases h2 : 126 < (p[k]'hlt).toNat
      · have h2' : (126 : Int) < ((p[k]'hlt).toNat : Int) := by omega
        obtain rfl := (hbad (by omega)).out
        gi_wp2
        go_ret
        exact ⟨rfl, Chg.refl _ _⟩
      have h2' : ¬ (126 : Int) < ((p[k]'hlt).toNat : Int) := by omega
      have HT2 : Hid (((Bs p).take (k + 1)).all signB = true) := by
        show _ = _
        rw [List.take_succ_eq_append_getElem hkl, List.all_append, HT.out, Bool.true_and, List.all_cons, List.all_nil, Bool.and_true, sign_iff, Bool.and_eq_true, decide_eq_true_eq, decide_eq_true_eq]
        exact ⟨by show 33 ≤ (p[k]'hlt).toNat; omega, by show (p[k]'hlt).toNat ≤ 126; omega⟩
      clear hbad
      by_cases h0 : k = 0
      · subst h0
        have HA2 : Hid (adjTo (Bs p) (0 + 1)) := fun i hi => by omega
        gi_wp2
        go_roundw
        case rel => exact ⟨0 + 1, hlt, by go_num, HT2, HA2, trivial⟩
        case measure => simp [intOf]; omega
      have h0' : (0 : Int) < (k : Int) := by omega
      have hk1 : k - 1 < p.size := by omega
      have ek := at_byte p k hlt
      have ek1 := at_byte p (k - 1) hk1
      by_cases h5 : (p[k]'hlt).toNat = 47
      · have g5 : (((p[k]'hlt).toNat : Int) == 47) = true := by rw [h5]; rfl
        by_cases h6 : (p[k - 1]'hk1).toNat = 47
        · have g6 : (((p[k - 1]'hk1).toNat : Int) == 47) = true := by rw [h6]; rfl
          obtain rfl : z = false := by
            rw [← HZ.out]
            refine pathB_not (fun hP => ?_)
            have := adjB_iff.1 hP.adj (k - 1) (by omega)
            rw [show k - 1 + 1 = k by omega, ek, ek1] at this
            exact this ⟨congrArg some (UInt8.toNat.inj h6), congrArg some (UInt8.toNat.inj h5)⟩
          clear ek ek1 h5 h6
          gi_wp2
          go_ret
          exact ⟨rfl, Chg.refl _ _⟩
        · have g6 : (((p[k - 1]'hk1).toNat : Int) == 47) = false := beq_eq_false_iff_ne.2 (by omega)
          have HA2 : Hid (adjTo (Bs p) (k + 1)) := fun i hi => by
            by_cases e : i + 1 < k
            · exact HA.out i e
            · obtain rfl : i = k - 1 := by omega
              rintro ⟨a, _⟩
              rw [ek1] at a
              exact h6 (by rw [Option.some.inj a]; rfl)
          clear ek ek1 h5 h6
          gi_wp2
          go_roundw
          case rel => exact ⟨k + 1, hlt, by go_num, HT2, HA2, trivial⟩
          case measure => simp [intOf]; omega
      · have g5 : (((p[k]'hlt).toNat : Int) == 47) = false := beq_eq_false_iff_ne.2 (by omega)
        have HA2 : Hid (adjTo (Bs p) (k + 1)) := fun i hi => by
          by_cases e : i + 1 < k
          · exact HA.out i e
          · obtain rfl : i = k - 1 := by omega
            rintro ⟨_, a⟩
            rw [show k - 1 + 1 = k by omega, ek] at a
            exact h5 (by rw [Option.some.inj a]; rfl)
        clear ek ek1 h5
        gi_wp2
        go_roundw
        case rel => exact ⟨k + 1, hlt, by go_num, HT2, HA2, trivial⟩
        case measure => simp [intOf]; omega
    · have hlt' : ¬ (k : Int) < (p.size : Int) := by omega
      obtain rfl : k = p.size := by omega
      have hz : z = true := by
        rw [← HZ.out]
        refine pathB_iff.2 ⟨by show 1 ≤ p.size; omega, by show p.size ≤ 60; omega, HF.out, HL.out, ?_, adjB_iff.2 HA.out⟩
        have := HT.out
        rwa [List.take_of_length_le (show (Bs p).length ≤ p.size from Nat.le_refl _)] at this
      subst hz
      gi_wp2
      go_ret
      exact ⟨rfl, Chg.refl _ _⟩

set_option maxRecDepth 100000 in
set_option maxHeartbeats 2000000 in
theorem refUnder_in (p q : ByteArray) (w : World) : CallsIn Fence.wide 0 Tryz.prog 76 #[.string p, .string q] w fun e w' => e = .returned (.bool (under (Bs p) (Bs q))) ∧ w' = w := by
  refine callsIn_of_wp Tryz.func76 rfl trivial ?_
  simp only [Tryz.ntmps76, List.size_toArray, List.length_cons, List.length_nil, Nat.reduceAdd, Nat.reduceSub, Array.replicate_succ, Array.replicate_zero, List.push_toArray, List.append_toArray, List.nil_append, List.cons_append]
  obtain ⟨z, HZ⟩ : ∃ z, Hid (under (Bs p) (Bs q) = z) := ⟨_, rfl⟩
  rw [HZ.out]
  by_cases h1 : q.size < p.size
  · have g1 : (q.size : Int) < (p.size : Int) := by omega
    have ex : Bs (p.extract 0 q.size) = (Bs p).take (Bs q).length := by
      show (p.extract 0 q.size).data.toList = _
      rw [ByteArray.data_extract, Array.toList_extract, List.extract_eq_take_drop]
      simp
    have hd : decide ((Bs q).length < (Bs p).length) = true := decide_eq_true h1
    have eb := at_byte p q.size h1
    by_cases h2 : p.extract 0 q.size = q
    · have q2 : ((p.extract 0 q.size).toList == q.toList) = true := by rw [h2]; exact beq_self_eq_true _
      have ht : (Bs p).take (Bs q).length = Bs q := by rw [← ex, h2]
      by_cases h3 : (p[q.size]'h1).toNat = 47
      · have q3 : (((p[q.size]'h1).toNat : Int) == 47) = true := by rw [h3]; rfl
        obtain rfl : z = true := by
          rw [← HZ.out]
          unfold under
          rw [hd, decide_eq_true ht, show (Bs p)[(Bs q).length]? = some 47 from eb.trans (congrArg some (UInt8.toNat.inj h3))]
          rfl
        clear eb ht hd ex h2 h3
        gi_wp2
        go_ret
        exact ⟨rfl, rfl⟩
      · have q3 : (((p[q.size]'h1).toNat : Int) == 47) = false := beq_eq_false_iff_ne.2 (by omega)
        obtain rfl : z = false := by
          rw [← HZ.out]
          unfold under
          rw [hd, decide_eq_true ht, decide_eq_false (fun h => h3 (by rw [show (Bs p)[(Bs q).length]? = some _ from eb] at h; rw [Option.some.inj h]; rfl))]
          rfl
        clear eb ht hd ex h2 h3
        gi_wp2
        go_ret
        exact ⟨rfl, rfl⟩
    · have q2 : ((p.extract 0 q.size).toList == q.toList) = false := beq_eq_false_iff_ne.2 (fun e => h2 (toList_inj e))
      obtain rfl : z = false := by
        rw [← HZ.out]
        unfold under
        rw [hd, decide_eq_false (fun h => h2 (by
          have h' : Bs (p.extract 0 q.size) = Bs q := ex.trans h
          exact toList_inj (by rw [Go.ByteArray.toList_eq, Go.ByteArray.toList_eq]; exact h')))]
        rfl
      clear eb hd ex h2
      gi_wp2
      go_ret
      exact ⟨rfl, rfl⟩
  · have g1 : ¬ (q.size : Int) < (p.size : Int) := by omega
    obtain rfl : z = false := by
      rw [← HZ.out]
      unfold under
      rw [decide_eq_false (show ¬ (Bs q).length < (Bs p).length from h1)]
      rfl
    gi_wp2
    go_ret
    exact ⟨rfl, rfl⟩

end Go.Proofs.YtakbeololabmhaaGreatDoor

end
section
-- FRefM
namespace Go.TreeLib
open Go
theorem chain_lt {l : List Fl} {y x : Fl} (h : l.Pairwise Apart) (hy : l.getLast? = some y) (hl : lt y.1 x.1 = true) : ∀ a ∈ l, lt a.1 x.1 = true := by
  intro a ha
  obtain ⟨m, rfl⟩ : ∃ m, l = m ++ [y] := ⟨l.dropLast, by
    have hne : l ≠ [] := by rintro rfl; cases ha
    have e := List.dropLast_concat_getLast hne
    rw [List.getLast?_eq_some_getLast hne] at hy
    rw [← Option.some.inj hy, e]⟩
  rcases List.mem_append.1 ha with h1 | h1
  · exact lt_trans ((List.pairwise_append.1 h).2.2 a h1 y (by simp)).1 hl
  · rw [List.mem_singleton.1 h1]; exact hl
end Go.TreeLib
namespace Go.Proofs.YtakbeololabmhaaGreatDoor
open Go.RowKit Go.Shelf Go.SeqLib Go.DiffLib Go.TreeLib Go.BigFrame
attribute [local go_sem] Oper.semAt_some

set_option maxRecDepth 100000 in
set_option maxHeartbeats 4000000 in
theorem refMay_in (v : Value) (zs : List Fl) (w : World) (hv : SlF w v zs) : CallsIn Fence.wide 0 Tryz.prog 51 #[v] w fun e w' =>
    e = .returned (.bool (mayB zs)) ∧ Chg No w w' := by
  have hmix : Tryz.prog.follows .mixedOrders = true := by kernel_rfl
  obtain ⟨z, HZ⟩ : ∃ z, Hid (mayB zs = z) := ⟨_, rfl⟩
  rw [HZ.out]
  obtain ⟨p, cap, rfl, _, hmx⟩ := hv.slice
  have hml : zs.length ≤ 9223372036854775807 := by unfold maxLen at hmx; omega
  obtain ⟨n, HN⟩ : ∃ n, Hid (zs.length = n) := ⟨_, rfl⟩
  rw [HN.out] at hv hml ⊢
  clear hmx
  refine callsIn_of_wp Tryz.func51 rfl trivial ?_
  simp only [Tryz.ntmps51, List.size_toArray, List.length_cons, List.length_nil, Nat.reduceAdd, Nat.reduceSub, Array.replicate_succ, Array.replicate_zero, List.push_toArray, List.append_toArray, List.nil_append, List.cons_append]
  by_cases hl : 12 < n
  · have hl' : (12 : Int) < (n : Int) := by omega
    obtain rfl : z = false := by rw [← HZ.out]; exact mayB_not (fun h => by have := h.len; rw [HN.out] at this; omega)
    gi_wp2
    go_ret
    exact ⟨rfl, Chg.refl _ _⟩
  have hl' : ¬ (12 : Int) < (n : Int) := by omega
  gi_wp2
  gi_loopw [3] (fun i wr => ∃ k : Nat, k ≤ n ∧ i = .int .i64 (k : Int) ∧ Hid (Sofar (zs.take k)) ∧ Chg No w wr) (fun i _ => n - (intOf i).toNat)
  case atStart => exact ⟨0, Nat.zero_le _, rfl, sofar_nil, Chg.refl _ _⟩
  case round =>
    obtain ⟨k, hk, rfl, HT, c⟩ := hrel
    by_cases hlt : k < n
    · have hlt' : (k : Int) < (n : Int) := by omega
      have hkl : k < zs.length := by rw [HN.out]; exact hlt
      obtain ⟨x, hx⟩ : ∃ x, zs[k]? = some x := ⟨_, List.getElem?_eq_getElem hkl⟩
      have hts : zs.take (k + 1) = zs.take k ++ [x] := by rw [List.take_add_one, hx]; rfl
      have HTS : Hid (zs.take (k + 1) = zs.take k ++ [x]) := hts
      have hpre : zs.take k ++ [x] <+: zs := by rw [← hts]; exact List.take_prefix _ _
      obtain ⟨b1, o1, rfl, hc1, hc2⟩ := SlF.at (hv.no c) k x hx
      have hany : Nonempty (After wr) := After.any wr
      have f0 : ∀ c : After wr, c.val.cell? ⟨b1, o1 + k * 2, none⟩ = some (.string x.1) := fun c => c.cell hc1
      have f1 : ∀ c : After wr, c.val.cell? ⟨b1, o1 + k * 2 + 1, none⟩ = some (.string x.2) := fun c => c.cell hc2
      have HPa : Hid (∀ c : After wr, CallsIn Fence.wide 0 Tryz.prog 75 #[.string x.1] c.val fun e w' => e = .returned (.bool (pathB (Bs x.1))) ∧ Chg No c.val w') := fun c => refPath_in x.1 c.val
      clear hc1 hc2 hts
      gi_wp2
      cases hp : pathB (Bs x.1) with
      | false =>
        rw [hp] at HPa
        obtain rfl : z = false := by
          rw [← HZ.out]
          exact may_bad hpre (fun h => by have := h.1; unfold fileB at this; rw [hp] at this; cases this)
        clear hp
        refine region_quietC hmix (by kernel_rfl) ?_
        repeat (gi_big_quiet_step (fail))
        refine wpQuietIn_want (fun _ _ _ _ => trivial) rfl ?_
        intro KQ hKQ
        gi_big_quiet_op
        gi_big_quiet_call (exact ⟨rfl, (HPa.out _).mono (by rintro e w'' ⟨rfl, c'⟩; exact ⟨rfl, After.more _ c'⟩)⟩)
        repeat (gi_big_quiet_step (fail))
        refine wpQuietIn_nil ?_
        rintro w' ⟨c9, rfl⟩
        have cc := Chg.seq c c9.chg
        gi_wp2
        go_ret
        exact ⟨rfl, cc⟩
      | true =>
        rw [hp] at HPa
        by_cases hd : 400 < x.2.size
        · have hd' : decide ((400 : Int) < (x.2.size : Int)) = true := decide_eq_true (by omega)
          obtain rfl : z = false := by
            rw [← HZ.out]
            exact may_bad hpre (fun h => by have := h.1; unfold fileB at this; rw [hp, decide_eq_false (by omega)] at this; cases this)
          clear hp hd
          refine region_quietC hmix (by kernel_rfl) ?_
          repeat (gi_big_quiet_step (fail))
          refine wpQuietIn_want (fun _ _ _ _ => trivial) rfl ?_
          intro KQ hKQ
          gi_big_quiet_op
          gi_big_quiet_call (exact ⟨rfl, (HPa.out _).mono (by rintro e w'' ⟨rfl, c'⟩; exact ⟨rfl, After.more _ c'⟩)⟩)
          repeat (gi_big_quiet_step (fail))
          refine wpQuietIn_nil ?_
          rintro w' ⟨c9, rfl⟩
          have cc := Chg.seq c c9.chg
          gi_wp2
          go_ret
          exact ⟨rfl, cc⟩
        · have hd' : decide ((400 : Int) < (x.2.size : Int)) = false := decide_eq_false (by omega)
          have hfile : fileB x = true := by unfold fileB; rw [hp, decide_eq_true (by omega)]; rfl
          clear hp hd
          by_cases h0 : k = 0
          · have h0' : decide (0 < k) = false := decide_eq_false (by omega)
            have HLT : Hid (∀ a ∈ zs.take k, lt a.1 x.1 = true) := fun a ha => by rw [h0] at ha; simp at ha
            clear h0
            refine region_quietC hmix (by kernel_rfl) ?_
            repeat (gi_big_quiet_step (fail))
            refine wpQuietIn_want (fun _ _ _ _ => trivial) rfl ?_
            intro KQ hKQ
            gi_big_quiet_op
            gi_big_quiet_call (exact ⟨rfl, (HPa.out _).mono (by rintro e w'' ⟨rfl, c'⟩; exact ⟨rfl, After.more _ c'⟩)⟩)
            repeat (gi_big_quiet_step (fail))
            refine wpQuietIn_nil ?_
            rintro w' ⟨c9, rfl⟩
            have cc := Chg.seq c c9.chg
            gi_wp2
            gi_loopw [4] (fun i wr => ∃ j : Nat, j ≤ k ∧ i = .int .i64 (j : Int) ∧ Hid (∀ a ∈ zs.take j, under (Bs x.1) (Bs a.1) = false) ∧ Chg No w wr) (fun i _ => k - (intOf i).toNat)
            case atStart => exact ⟨0, Nat.zero_le _, rfl, fun a ha => by simp at ha, cc⟩
            case round =>
              obtain ⟨j, hj, rfl, HU, c2⟩ := hrel
              by_cases hlt2 : j < k
              · have hlt2' : (j : Int) < (k : Int) := by omega
                have hjl : j < zs.length := by omega
                obtain ⟨y, hy⟩ : ∃ y, zs[j]? = some y := ⟨_, List.getElem?_eq_getElem hjl⟩
                obtain ⟨b3, o3, e3, hd1, _⟩ := SlF.at (hv.no c2) k x hx
                cases e3
                obtain ⟨b4, o4, e4, hd3, _⟩ := SlF.at (hv.no c2) j y hy
                cases e4
                have hym : y ∈ zs.take k := by
                  rw [List.mem_take_iff_getElem]
                  obtain ⟨h1, h2⟩ := List.getElem?_eq_some_iff.1 hy
                  exact ⟨j, by omega, h2⟩
                have hany2 : Nonempty (After wr) := After.any wr
                have f3 : ∀ c : After wr, c.val.cell? ⟨b1, o1 + k * 2, none⟩ = some (.string x.1) := fun c => c.cell hd1
                have f4 : ∀ c : After wr, c.val.cell? ⟨b1, o1 + j * 2, none⟩ = some (.string y.1) := fun c => c.cell hd3
                have HUn : Hid (∀ c : After wr, CallsIn Fence.wide 0 Tryz.prog 76 #[.string x.1, .string y.1] c.val fun e w' => e = .returned (.bool (under (Bs x.1) (Bs y.1))) ∧ w' = c.val) := fun c => refUnder_in x.1 y.1 c.val
                clear hd1 hd3
                cases hu : under (Bs x.1) (Bs y.1) with
                | true =>
                  rw [hu] at HUn
                  obtain rfl : z = false := by
                    rw [← HZ.out]
                    exact may_bad hpre (fun h => by
                      have := (goes_apart.1 h.2 y hym).2
                      rw [hu] at this
                      cases this)
                  clear hu
                  gi_wp2
                  refine region_quietC hmix (by kernel_rfl) ?_
                  repeat (gi_big_quiet_step (fail))
                  refine wpQuietIn_want (fun _ _ _ _ => trivial) rfl ?_
                  intro KQ hKQ
                  gi_big_quiet_op
                  gi_big_quiet_call (exact ⟨rfl, (HUn.out _).mono (by rintro e w'' ⟨rfl, rfl⟩; exact ⟨rfl, ⟨_, rfl⟩⟩)⟩)
                  repeat (gi_big_quiet_step (fail))
                  refine wpQuietIn_nil ?_
                  rintro w' ⟨c9, rfl⟩
                  have cc2 := Chg.seq c2 c9.chg
                  gi_wp2
                  go_ret
                  exact ⟨rfl, cc2⟩
                | false =>
                  rw [hu] at HUn
                  have HU2 : Hid (∀ a ∈ zs.take (j + 1), under (Bs x.1) (Bs a.1) = false) := by
                    intro a ha
                    rw [List.take_add_one, hy] at ha
                    rcases List.mem_append.1 ha with h | h
                    · exact HU.out a h
                    · rw [List.mem_singleton.1 h]; exact hu
                  clear hu
                  gi_wp2
                  refine region_quietC hmix (by kernel_rfl) ?_
                  repeat (gi_big_quiet_step (fail))
                  refine wpQuietIn_want (fun _ _ _ _ => trivial) rfl ?_
                  intro KQ hKQ
                  gi_big_quiet_op
                  gi_big_quiet_call (exact ⟨rfl, (HUn.out _).mono (by rintro e w'' ⟨rfl, rfl⟩; exact ⟨rfl, ⟨_, rfl⟩⟩)⟩)
                  repeat (gi_big_quiet_step (fail))
                  refine wpQuietIn_nil ?_
                  rintro w' ⟨c9, rfl⟩
                  have cc2 := Chg.seq c2 c9.chg
                  gi_wp2
                  go_roundw
                  case rel => exact ⟨j + 1, hlt2, by go_num, HU2, cc2⟩
                  case measure => simp [intOf]; omega
              · have hlt2' : ¬ (j : Int) < (k : Int) := by omega
                have hjk : j = k := by omega
                have HT2 : Hid (Sofar (zs.take (k + 1))) := by
                  show Sofar _
                  rw [HTS.out]
                  exact sofar_snoc.2 ⟨HT.out, hfile, goes_apart.2 (fun a ha => ⟨HLT.out a ha, HU.out a (by rw [hjk]; exact ha)⟩)⟩
                gi_wp2
                go_roundw
                case rel => exact ⟨k + 1, hlt, by go_num, HT2, c2⟩
                case measure => simp [intOf]; omega
          · have h0' : decide (0 < k) = true := decide_eq_true (by omega)
            obtain ⟨y, hy⟩ : ∃ y, zs[k - 1]? = some y := ⟨_, List.getElem?_eq_getElem (by omega)⟩
            obtain ⟨b2, o2, e2, hc3, _⟩ := SlF.at (hv.no c) (k - 1) y hy
            cases e2
            have f2 : ∀ c : After wr, c.val.cell? ⟨b1, o1 + (k - 1) * 2, none⟩ = some (.string y.1) := fun c => c.cell hc3
            have hlast : (zs.take k).getLast? = some y := by
              rw [List.getLast?_eq_getElem?, List.length_take, Nat.min_eq_left (by omega), List.getElem?_take, if_pos (by omega), hy]
            clear hc3
            cases hyx : lt y.1 x.1 with
            | false =>
              have hA : Op.bytesLess y.1.toList x.1.toList = false := hyx
              obtain rfl : z = false := by
                rw [← HZ.out]
                exact may_bad hpre (fun h => by
                  have := (goes_apart.1 h.2 y (List.mem_of_getLast? hlast)).1
                  rw [hyx] at this
                  cases this)
              clear hlast hyx
              refine region_quietC hmix (by kernel_rfl) ?_
              repeat (gi_big_quiet_step (fail))
              refine wpQuietIn_want (fun _ _ _ _ => trivial) rfl ?_
              intro KQ hKQ
              gi_big_quiet_op
              gi_big_quiet_call (exact ⟨rfl, (HPa.out _).mono (by rintro e w'' ⟨rfl, c'⟩; exact ⟨rfl, After.more _ c'⟩)⟩)
              repeat (gi_big_quiet_step (fail))
              refine wpQuietIn_nil ?_
              rintro w' ⟨c9, rfl⟩
              have cc := Chg.seq c c9.chg
              gi_wp2
              go_ret
              exact ⟨rfl, cc⟩
            | true =>
              have hA : Op.bytesLess y.1.toList x.1.toList = true := hyx
              have HLT : Hid (∀ a ∈ zs.take k, lt a.1 x.1 = true) := chain_lt HT.out.2 hlast hyx
              clear hlast hyx
              refine region_quietC hmix (by kernel_rfl) ?_
              repeat (gi_big_quiet_step (fail))
              refine wpQuietIn_want (fun _ _ _ _ => trivial) rfl ?_
              intro KQ hKQ
              gi_big_quiet_op
              gi_big_quiet_call (exact ⟨rfl, (HPa.out _).mono (by rintro e w'' ⟨rfl, c'⟩; exact ⟨rfl, After.more _ c'⟩)⟩)
              repeat (gi_big_quiet_step (fail))
              refine wpQuietIn_nil ?_
              rintro w' ⟨c9, rfl⟩
              have cc := Chg.seq c c9.chg
              gi_wp2
              gi_loopw [4] (fun i wr => ∃ j : Nat, j ≤ k ∧ i = .int .i64 (j : Int) ∧ Hid (∀ a ∈ zs.take j, under (Bs x.1) (Bs a.1) = false) ∧ Chg No w wr) (fun i _ => k - (intOf i).toNat)
              case atStart => exact ⟨0, Nat.zero_le _, rfl, fun a ha => by simp at ha, cc⟩
              case round =>
                obtain ⟨j, hj, rfl, HU, c2⟩ := hrel
                by_cases hlt2 : j < k
                · have hlt2' : (j : Int) < (k : Int) := by omega
                  have hjl : j < zs.length := by omega
                  obtain ⟨y, hy⟩ : ∃ y, zs[j]? = some y := ⟨_, List.getElem?_eq_getElem hjl⟩
                  obtain ⟨b3, o3, e3, hd1, _⟩ := SlF.at (hv.no c2) k x hx
                  cases e3
                  obtain ⟨b4, o4, e4, hd3, _⟩ := SlF.at (hv.no c2) j y hy
                  cases e4
                  have hym : y ∈ zs.take k := by
                    rw [List.mem_take_iff_getElem]
                    obtain ⟨h1, h2⟩ := List.getElem?_eq_some_iff.1 hy
                    exact ⟨j, by omega, h2⟩
                  have hany2 : Nonempty (After wr) := After.any wr
                  have f3 : ∀ c : After wr, c.val.cell? ⟨b1, o1 + k * 2, none⟩ = some (.string x.1) := fun c => c.cell hd1
                  have f4 : ∀ c : After wr, c.val.cell? ⟨b1, o1 + j * 2, none⟩ = some (.string y.1) := fun c => c.cell hd3
                  have HUn : Hid (∀ c : After wr, CallsIn Fence.wide 0 Tryz.prog 76 #[.string x.1, .string y.1] c.val fun e w' => e = .returned (.bool (under (Bs x.1) (Bs y.1))) ∧ w' = c.val) := fun c => refUnder_in x.1 y.1 c.val
                  clear hd1 hd3
                  cases hu : under (Bs x.1) (Bs y.1) with
                  | true =>
                    rw [hu] at HUn
                    obtain rfl : z = false := by
                      rw [← HZ.out]
                      exact may_bad hpre (fun h => by
                        have := (goes_apart.1 h.2 y hym).2
                        rw [hu] at this
                        cases this)
                    clear hu
                    gi_wp2
                    refine region_quietC hmix (by kernel_rfl) ?_
                    repeat (gi_big_quiet_step (fail))
                    refine wpQuietIn_want (fun _ _ _ _ => trivial) rfl ?_
                    intro KQ hKQ
                    gi_big_quiet_op
                    gi_big_quiet_call (exact ⟨rfl, (HUn.out _).mono (by rintro e w'' ⟨rfl, rfl⟩; exact ⟨rfl, ⟨_, rfl⟩⟩)⟩)
                    repeat (gi_big_quiet_step (fail))
                    refine wpQuietIn_nil ?_
                    rintro w' ⟨c9, rfl⟩
                    have cc2 := Chg.seq c2 c9.chg
                    gi_wp2
                    go_ret
                    exact ⟨rfl, cc2⟩
                  | false =>
                    rw [hu] at HUn
                    have HU2 : Hid (∀ a ∈ zs.take (j + 1), under (Bs x.1) (Bs a.1) = false) := by
                      intro a ha
                      rw [List.take_add_one, hy] at ha
                      rcases List.mem_append.1 ha with h | h
                      · exact HU.out a h
                      · rw [List.mem_singleton.1 h]; exact hu
                    clear hu
                    gi_wp2
                    refine region_quietC hmix (by kernel_rfl) ?_
                    repeat (gi_big_quiet_step (fail))
                    refine wpQuietIn_want (fun _ _ _ _ => trivial) rfl ?_
                    intro KQ hKQ
                    gi_big_quiet_op
                    gi_big_quiet_call (exact ⟨rfl, (HUn.out _).mono (by rintro e w'' ⟨rfl, rfl⟩; exact ⟨rfl, ⟨_, rfl⟩⟩)⟩)
                    repeat (gi_big_quiet_step (fail))
                    refine wpQuietIn_nil ?_
                    rintro w' ⟨c9, rfl⟩
                    have cc2 := Chg.seq c2 c9.chg
                    gi_wp2
                    go_roundw
                    case rel => exact ⟨j + 1, hlt2, by go_num, HU2, cc2⟩
                    case measure => simp [intOf]; omega
                · have hlt2' : ¬ (j : Int) < (k : Int) := by omega
                  have hjk : j = k := by omega
                  have HT2 : Hid (Sofar (zs.take (k + 1))) := by
                    show Sofar _
                    rw [HTS.out]
                    exact sofar_snoc.2 ⟨HT.out, hfile, goes_apart.2 (fun a ha => ⟨HLT.out a ha, HU.out a (by rw [hjk]; exact ha)⟩)⟩
                  gi_wp2
                  go_roundw
                  case rel => exact ⟨k + 1, hlt, by go_num, HT2, c2⟩
                  case measure => simp [intOf]; omega
    · have hlt' : ¬ (k : Int) < (n : Int) := by omega
      obtain rfl : k = n := by omega
      obtain rfl : z = true := by
        rw [← HZ.out, may_sofar (by rw [HN.out]; omega)]
        have := HT.out
        rw [List.take_of_length_le (by rw [HN.out]; exact Nat.le_refl _)] at this
        exact this
      gi_wp2
      go_ret
      exact ⟨rfl, c⟩

end Go.Proofs.YtakbeololabmhaaGreatDoor

end
