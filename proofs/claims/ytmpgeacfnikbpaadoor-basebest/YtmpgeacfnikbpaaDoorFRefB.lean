/-
  The document's own answers: is it a path, does one stand under another?
-/
import Derived.Test.YtmpgeacfnikbpaaDoorGMay
namespace Go.TreeLib
open Go
/-- No two strokes one behind the other among the first k. -/
def adjTo (l : List UInt8) (k : Nat) : Prop := ∀ i, i + 1 < k → ¬ (l[i]? = some 47 ∧ l[i + 1]? = some 47)
theorem adjB_iff : ∀ {l : List UInt8}, adjB l = true ↔ adjTo l l.length
  | [] => ⟨fun _ i hi => by simp at hi, fun _ => rfl⟩
  | [a] => ⟨fun _ i hi => by simp at hi, fun _ => rfl⟩
  | a :: b :: r => by
    unfold adjB
    rw [Bool.and_eq_true, adjB_iff]
    constructor
    · rintro ⟨h1, h2⟩ i hi
      cases i with
      | zero =>
        rintro ⟨e1, e2⟩
        simp at e1 e2
        subst e1; subst e2
        simp at h1
      | succ i => exact h2 i (by simp at hi ⊢; omega)
    · intro h
      refine ⟨?_, fun i hi => h (i + 1) (by simp at hi ⊢; omega)⟩
      have := h 0 (by simp)
      simp at this
      simp
      by_cases e1 : a = 47
      · exact .inr (this e1)
      · exact .inl e1
end Go.TreeLib
namespace Go.Proofs.YtmpgeacfnikbpaaDoor
open Go.RowKit Go.Shelf Go.SeqLib Go.TreeLib
attribute [local go_sem] Oper.semAt_some

theorem at_byte (p : ByteArray) (k : Nat) (h : k < p.size) : (Bs p)[k]? = some (p[k]'h) := List.getElem?_eq_getElem (l := Bs p) h

set_option maxRecDepth 100000 in
set_option maxHeartbeats 4000000 in
theorem refPath_in (p : ByteArray) (w : World) : CallsIn Fence.wide 0 Tryd.prog 66 #[.string p] w fun e w' => e = .returned (.bool (pathB (Bs p))) ∧ Chg No w w' := by
  obtain ⟨z, HZ⟩ : ∃ z, Hid (pathB (Bs p) = z) := ⟨_, rfl⟩
  rw [HZ.out]
  have hlen : (Bs p).length = p.size := rfl
  refine callsIn_of_wp Tryd.func66 rfl trivial ?_
  simp only [Tryd.ntmps66, List.size_toArray, List.length_cons, List.length_nil, Nat.reduceAdd, Nat.reduceSub, Array.replicate_succ, Array.replicate_zero, List.push_toArray, List.append_toArray, List.nil_append, List.cons_append]
  by_cases h1 : p.size < 1
  · have g1 : (p.size : Int) < 1 := by omega
    obtain rfl : z = false := by rw [← HZ.out]; exact pathB_not (fun h => by have := h.pos; omega)
    gi_wp2
    go_ret
    exact ⟨rfl, Chg.refl _ _⟩
  have g1 : ¬ (p.size : Int) < 1 := by omega
  by_cases h2 : 60 < p.size
  · have g2 : (60 : Int) < (p.size : Int) := by omega
    obtain rfl : z = false := by rw [← HZ.out]; exact pathB_not (fun h => by have := h.len; omega)
    gi_wp2
    go_ret
    exact ⟨rfl, Chg.refl _ _⟩
  have g2 : ¬ (60 : Int) < (p.size : Int) := by omega
  have hp0 : 0 < p.size := by omega
  have hpl : p.size - 1 < p.size := by omega
  have e0 := at_byte p 0 hp0
  have el := at_byte p (p.size - 1) hpl
  by_cases h3 : (p[0]'hp0).toNat = 47
  · obtain rfl : z = false := by rw [← HZ.out]; exact pathB_not (fun h => h.fst (by rw [List.head?_eq_getElem?, e0]; exact congrArg some (UInt8.toNat.inj h3)))
    have g3 : (((p[0]'hp0).toNat : Int) == 47) = true := by rw [h3]; rfl
    gi_wp2
    go_ret
    exact ⟨rfl, Chg.refl _ _⟩
  have g3 : (((p[0]'hp0).toNat : Int) == 47) = false := beq_eq_false_iff_ne.2 (by omega)
  by_cases h4 : (p[p.size - 1]'hpl).toNat = 47
  · obtain rfl : z = false := by rw [← HZ.out]; exact pathB_not (fun h => h.lst (by rw [List.getLast?_eq_getElem?, hlen, el]; exact congrArg some (UInt8.toNat.inj h4)))
    have g4 : (((p[p.size - 1]'hpl).toNat : Int) == 47) = true := by rw [h4]; rfl
    gi_wp2
    go_ret
    exact ⟨rfl, Chg.refl _ _⟩
  have g4 : (((p[p.size - 1]'hpl).toNat : Int) == 47) = false := beq_eq_false_iff_ne.2 (by omega)
  have HF : Hid ((Bs p).head? ≠ some 47) := by
    rw [List.head?_eq_getElem?, e0]
    intro h
    exact h3 (by rw [Option.some.inj h]; rfl)
  have HL : Hid ((Bs p).getLast? ≠ some 47) := by
    rw [List.getLast?_eq_getElem?, hlen, el]
    intro h
    exact h4 (by rw [Option.some.inj h]; rfl)
  have hml : p.size ≤ 9223372036854775807 := by omega
  clear e0 el h3 h4 hlen
  gi_wp2
  gi_loopw [3] (fun i wr => ∃ k : Nat, k ≤ p.size ∧ i = .int .i64 (k : Int) ∧ Hid (((Bs p).take k).all signB = true) ∧ Hid (adjTo (Bs p) k) ∧ wr = w) (fun i _ => p.size - (intOf i).toNat)
  case atStart => exact ⟨0, Nat.zero_le _, rfl, rfl, fun i hi => by omega, rfl⟩
  case round =>
    obtain ⟨k, hk, rfl, HT, HA, rfl⟩ := hrel
    by_cases hlt : k < p.size
    · have hlt' : (k : Int) < (p.size : Int) := by omega
      have hkl : k < (Bs p).length := hlt
      have hbad : ¬ (33 ≤ (p[k]'hlt).toNat ∧ (p[k]'hlt).toNat ≤ 126) → Hid (z = false) := fun h => by
        show _ = _
        rw [← HZ.out]
        refine pathB_not (fun hP => ?_)
        have := List.all_eq_true.1 hP.byt ((Bs p)[k]) (List.getElem_mem hkl)
        rw [sign_iff, Bool.and_eq_true, decide_eq_true_eq, decide_eq_true_eq] at this
        exact h this
      by_cases h1 : (p[k]'hlt).toNat < 33
      · have h1' : ((p[k]'hlt).toNat : Int) < 33 := by omega
        obtain rfl := (hbad (by omega)).out
        gi_wp2
        go_ret
        exact ⟨rfl, Chg.refl _ _⟩
      have h1' : ¬ ((p[k]'hlt).toNat : Int) < 33 := by omega
      by_cases h2 : 126 < (p[k]'hlt).toNat
      · have h2' : (126 : Int) < ((p[k]'hlt).toNat : Int) := by omega
        obtain rfl := (hbad (by omega)).out
        gi_wp2
        go_ret
        exact ⟨rfl, Chg.refl _ _⟩
      have h2' : ¬ (126 : Int) < ((p[k]'hlt).toNat : Int) := by omega
      have HT2 : Hid (((Bs p).take (k + 1)).all signB = true) := by
        show _ = _
        rw [List.take_succ_eq_append_getElem hkl, List.all_append, HT.out, Bool.true_and, List.all_cons, List.all_nil, Bool.and_true, sign_iff, Bool.and_eq_true, decide_eq_true_eq, decide_eq_true_eq]
        exact ⟨by show 33 ≤ (p[k]'hlt).toNat; omega, by show (p[k]'hlt).toNat ≤ 126; omega⟩
      clear hbad
      by_cases h0 : k = 0
      · subst h0
        have HA2 : Hid (adjTo (Bs p) (0 + 1)) := fun i hi => by omega
        gi_wp2
        go_roundw
        case rel => exact ⟨0 + 1, hlt, by go_num, HT2, HA2, trivial⟩
        case measure => simp [intOf]; omega
      have h0' : (0 : Int) < (k : Int) := by omega
      have hk1 : k - 1 < p.size := by omega
      have ek := at_byte p k hlt
      have ek1 := at_byte p (k - 1) hk1
      by_cases h5 : (p[k]'hlt).toNat = 47
      · have g5 : (((p[k]'hlt).toNat : Int) == 47) = true := by rw [h5]; rfl
        by_cases h6 : (p[k - 1]'hk1).toNat = 47
        · have g6 : (((p[k - 1]'hk1).toNat : Int) == 47) = true := by rw [h6]; rfl
          obtain rfl : z = false := by
            rw [← HZ.out]
            refine pathB_not (fun hP => ?_)
            have := adjB_iff.1 hP.adj (k - 1) (by omega)
            rw [show k - 1 + 1 = k by omega, ek, ek1] at this
            exact this ⟨congrArg some (UInt8.toNat.inj h6), congrArg some (UInt8.toNat.inj h5)⟩
          clear ek ek1 h5 h6
          gi_wp2
          go_ret
          exact ⟨rfl, Chg.refl _ _⟩
        · have g6 : (((p[k - 1]'hk1).toNat : Int) == 47) = false := beq_eq_false_iff_ne.2 (by omega)
          have HA2 : Hid (adjTo (Bs p) (k + 1)) := fun i hi => by
            by_cases e : i + 1 < k
            · exact HA.out i e
            · obtain rfl : i = k - 1 := by omega
              rintro ⟨a, _⟩
              rw [ek1] at a
              exact h6 (by rw [Option.some.inj a]; rfl)
          clear ek ek1 h5 h6
          gi_wp2
          go_roundw
          case rel => exact ⟨k + 1, hlt, by go_num, HT2, HA2, trivial⟩
          case measure => simp [intOf]; omega
      · have g5 : (((p[k]'hlt).toNat : Int) == 47) = false := beq_eq_false_iff_ne.2 (by omega)
        have HA2 : Hid (adjTo (Bs p) (k + 1)) := fun i hi => by
          by_cases e : i + 1 < k
          · exact HA.out i e
          · obtain rfl : i = k - 1 := by omega
            rintro ⟨_, a⟩
            rw [show k - 1 + 1 = k by omega, ek] at a
            exact h5 (by rw [Option.some.inj a]; rfl)
        clear ek ek1 h5
        gi_wp2
        go_roundw
        case rel => exact ⟨k + 1, hlt, by go_num, HT2, HA2, trivial⟩
        case measure => simp [intOf]; omega
    · have hlt' : ¬ (k : Int) < (p.size : Int) := by omega
      obtain rfl : k = p.size := by omega
      have hz : z = true := by
        rw [← HZ.out]
        refine pathB_iff.2 ⟨by show 1 ≤ p.size; omega, by show p.size ≤ 60; omega, HF.out, HL.out, ?_, adjB_iff.2 HA.out⟩
        have := HT.out
        rwa [List.take_of_length_le (show (Bs p).length ≤ p.size from Nat.le_refl _)] at this
      subst hz
      gi_wp2
      go_ret
      exact ⟨rfl, Chg.refl _ _⟩

set_option maxRecDepth 100000 in
set_option maxHeartbeats 2000000 in
theorem refUnder_in (p q : ByteArray) (w : World) : CallsIn Fence.wide 0 Tryd.prog 67 #[.string p, .string q] w fun e w' => e = .returned (.bool (under (Bs p) (Bs q))) ∧ w' = w := by
  refine callsIn_of_wp Tryd.func67 rfl trivial ?_
  simp only [Tryd.ntmps67, List.size_toArray, List.length_cons, List.length_nil, Nat.reduceAdd, Nat.reduceSub, Array.replicate_succ, Array.replicate_zero, List.push_toArray, List.append_toArray, List.nil_append, List.cons_append]
  obtain ⟨z, HZ⟩ : ∃ z, Hid (under (Bs p) (Bs q) = z) := ⟨_, rfl⟩
  rw [HZ.out]
  by_cases h1 : q.size < p.size
  · have g1 : (q.size : Int) < (p.size : Int) := by omega
    have ex : Bs (p.extract 0 q.size) = (Bs p).take (Bs q).length := by
      show (p.extract 0 q.size).data.toList = _
      rw [ByteArray.data_extract, Array.toList_extract, List.extract_eq_take_drop]
      simp
    have hd : decide ((Bs q).length < (Bs p).length) = true := decide_eq_true h1
    have eb := at_byte p q.size h1
    by_cases h2 : p.extract 0 q.size = q
    · have q2 : ((p.extract 0 q.size).toList == q.toList) = true := by rw [h2]; exact beq_self_eq_true _
      have ht : (Bs p).take (Bs q).length = Bs q := by rw [← ex, h2]
      by_cases h3 : (p[q.size]'h1).toNat = 47
      · have q3 : (((p[q.size]'h1).toNat : Int) == 47) = true := by rw [h3]; rfl
        obtain rfl : z = true := by
          rw [← HZ.out]
          unfold under
          rw [hd, decide_eq_true ht, show (Bs p)[(Bs q).length]? = some 47 from eb.trans (congrArg some (UInt8.toNat.inj h3))]
          rfl
        clear eb ht hd ex h2 h3
        gi_wp2
        go_ret
        exact ⟨rfl, rfl⟩
      · have q3 : (((p[q.size]'h1).toNat : Int) == 47) = false := beq_eq_false_iff_ne.2 (by omega)
        obtain rfl : z = false := by
          rw [← HZ.out]
          unfold under
          rw [hd, decide_eq_true ht, decide_eq_false (fun h => h3 (by rw [show (Bs p)[(Bs q).length]? = some _ from eb] at h; rw [Option.some.inj h]; rfl))]
          rfl
        clear eb ht hd ex h2 h3
        gi_wp2
        go_ret
        exact ⟨rfl, rfl⟩
    · have q2 : ((p.extract 0 q.size).toList == q.toList) = false := beq_eq_false_iff_ne.2 (fun e => h2 (toList_inj e))
      obtain rfl : z = false := by
        rw [← HZ.out]
        unfold under
        rw [hd, decide_eq_false (fun h => h2 (by
          have h' : Bs (p.extract 0 q.size) = Bs q := ex.trans h
          exact toList_inj (by rw [Go.ByteArray.toList_eq, Go.ByteArray.toList_eq]; exact h')))]
        rfl
      clear eb hd ex h2
      gi_wp2
      go_ret
      exact ⟨rfl, rfl⟩
  · have g1 : ¬ (q.size : Int) < (p.size : Int) := by omega
    obtain rfl : z = false := by
      rw [← HZ.out]
      unfold under
      rw [decide_eq_false (show ¬ (Bs q).length < (Bs p).length from h1)]
      rfl
    gi_wp2
    go_ret
    exact ⟨rfl, rfl⟩

end Go.Proofs.YtmpgeacfnikbpaaDoor
