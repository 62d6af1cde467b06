/-
  The statements' own question whether a text is in a list; the paths of three trees.
-/
import Derived.Test.YtndblaemladppabGreatDoorJLaw
import Derived.Test.YtndblaemladppabGreatDoorFPaths
namespace Go.TreeLib
theorem eqH_true {x y : ByteArray} (h : x = y) : (x.toList == y.toList) = true := by rw [h]; exact beq_self_eq_true _
theorem eqH_false {x y : ByteArray} (h : ¬ x = y) : (x.toList == y.toList) = false := beq_eq_false_iff_ne.2 (fun e => h (toList_inj e))
theorem all3_most (o a b : List Fl) : (all3 o a b).length ≤ o.length + a.length + b.length := by
  unfold all3 paths
  refine Nat.le_trans (rise_len _) ?_
  simp
  omega
theorem bad_most (o a b : List Fl) (ho : o.length ≤ 14) (ha : a.length ≤ 14) (hb : b.length ≤ 14) : (ofJ o a b).2.length ≤ 100 := by
  unfold ofJ
  split
  · split
    · exact Nat.zero_le _
    · refine Nat.le_trans (rise_len _) ?_
      unfold bad3 sunk
      have hl := all3_most o a b
      have h1 : (clashL o a b (all3 o a b)).length ≤ (all3 o a b).length := List.length_filter_le _ _
      have h2 : (came3 o a b).length ≤ (all3 o a b).length := List.length_filterMap_le _ _
      have h3 : ((came3 o a b).filter (fun f => nested (came3 o a b) f.1)).length ≤ (came3 o a b).length := List.length_filter_le _ _
      rw [List.length_append, List.length_append, List.length_map]
      have h4 : (if 12 < (came3 o a b).length then [star] else ([] : List ByteArray)).length ≤ 1 := by split <;> simp
      omega
  · simp
end Go.TreeLib
namespace Go.Proofs.YtndblaemladppabGreatDoor
open Go.RowKit Go.Shelf Go.SeqLib Go.DiffLib Go.TreeLib Go.TextLib Go.BigFrame
attribute [local go_sem] Oper.semAt_some

set_option maxHeartbeats 1000000 in
theorem lHas_in (v : Value) (l : List ByteArray) (p : ByteArray) (w : World) (hv : SlT w v l) (hl : l.length ≤ 100000) : CallsIn Fence.wide 0 Tryz.prog 14 #[v, .string p] w fun e w' =>
    e = .returned (.bool (hasB l p)) ∧ Chg No w w' := by
  have hv0 := hv
  obtain ⟨p0, cap, rfl, _, _, _⟩ := hv0
  rw [List.length_map] at hv ⊢
  obtain ⟨n, HN⟩ : ∃ n, Hid (l.length = n) := ⟨_, rfl⟩
  rw [HN.out] at hv hl ⊢
  have hml : n ≤ 9223372036854775807 := by omega
  obtain ⟨z, HZ⟩ : ∃ z, Hid (hasB l p = z) := ⟨_, rfl⟩
  rw [HZ.out]
  refine callsIn_of_wp Tryz.func14 rfl trivial ?_
  simp only [Tryz.ntmps14, List.size_toArray, List.length_cons, List.length_nil, Nat.reduceAdd, Nat.reduceSub, Array.replicate_succ, Array.replicate_zero, List.push_toArray, List.append_toArray, List.nil_append, List.cons_append]
  gi_wp2
  gi_loopw [5] (fun i wr => ∃ k : Nat, k ≤ n ∧ i = .int .i64 (k : Int) ∧ Hid (∀ x ∈ l.take k, ¬ x = p) ∧ wr = w) (fun i _ => n - (intOf i).toNat)
  case atStart => exact ⟨0, Nat.zero_le _, rfl, fun f hf => by simp at hf, rfl⟩
  case round =>
    obtain ⟨k, hk, rfl, HT, rfl⟩ := hrel
    by_cases hlt : k < n
    · have hlt' : (k : Int) < (n : Int) := by omega
      have hkl : k < l.length := by rw [HN.out]; exact hlt
      obtain ⟨x, hx⟩ : ∃ x, l[k]? = some x := ⟨_, List.getElem?_eq_getElem hkl⟩
      obtain ⟨b1, o1, rfl, hc1⟩ := SlT.at hv k x hx
      by_cases he : x = p
      · have qe := eqH_true he
        have HR : Hid (z = true) := by
          show _ = _
          rw [← HZ.out]
          exact hasB_iff.2 (by rw [← he]; exact List.mem_of_getElem? hx)
        gi_wp2
        go_ret
        exact ⟨by rw [HR.out]; rfl, Chg.refl _ _⟩
      · have qe := eqH_false he
        have HT2 : Hid (∀ x ∈ l.take (k + 1), ¬ x = p) := by
          intro f hf
          rw [List.take_add_one, hx] at hf
          rcases List.mem_append.1 hf with h | h
          · exact HT.out f h
          · rw [List.mem_singleton.1 h]; exact he
        gi_wp2
        go_roundw
        case rel => exact ⟨k + 1, hlt, by go_num, HT2, trivial⟩
        case measure => simp [intOf]; omega
    · have hlt' : ¬ (k : Int) < (n : Int) := by omega
      have HR : Hid (z = false) := by
        show _ = _
        rw [← HZ.out]
        cases h : hasB l p with
        | false => rfl
        | true =>
          have := hasB_iff.1 h
          exact absurd rfl (HT.out p (by rw [List.take_of_length_le (by rw [HN.out]; omega)]; exact this))
      gi_wp2
      go_ret
      exact ⟨by rw [HR.out]; rfl, Chg.refl _ _⟩

theorem paths3_in (po : Option Addr) (no ko : Nat) (o : List Fl) (pa : Option Addr) (na ka : Nat) (a : List Fl) (pb : Option Addr) (nb kb : Nat) (b : List Fl) (w : World) (ho : SlF w (.slice po no ko) o) (ha : SlF w (.slice pa na ka) a) (hb : SlF w (.slice pb nb kb) b) (hl : o.length + a.length + b.length ≤ 1000) :
    CallsIn Fence.wide 0 Tryz.prog 13 #[.slice (some ⟨w.heap.size, 0, none⟩) 3 3] (w.alloc (.cells #[.slice po no ko, .slice pa na ka, .slice pb nb kb] 22)) fun e w' => ∃ v', e = .returned v' ∧ OwnT w' w.heap.size v' (all3 o a b) ∧ Chg No w w' := by
  have c0 : Chg No w (w.alloc (.cells #[.slice po no ko, .slice pa na ka, .slice pb nb kb] 22)) := (Chg.refl _ w).alloc _
  have sp : SlV (w.alloc (.cells #[.slice po no ko, .slice pa na ka, .slice pb nb kb] 22)) (.slice (some ⟨w.heap.size, 0, none⟩) 3 3) [.slice po no ko, .slice pa na ka, .slice pb nb kb] := SlV.made w [.slice po no ko, .slice pa na ka, .slice pb nb kb] 22 (by simp)
  refine (paths_in (.slice (some ⟨w.heap.size, 0, none⟩) 3 3) [(.slice po no ko, o), (.slice pa na ka, a), (.slice pb nb kb, b)] _ sp (by
    intro q hq
    rcases List.mem_cons.1 hq with rfl | hq
    · exact ho.no c0
    rcases List.mem_cons.1 hq with rfl | hq
    · exact ha.no c0
    · rw [List.mem_singleton.1 hq]; exact hb.no c0) (by simp [toldP]; omega)).mono ?_
  rintro e w' ⟨v', rfl, r, c⟩
  exact ⟨v', rfl, OwnT.base r c0.size, Chg.seq c0 c⟩

end Go.Proofs.YtndblaemladppabGreatDoor
