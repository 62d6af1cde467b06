/-
  The document's own answer for join: all paths, Of and Virtual.
-/
import Derived.Test.YtndblaemladppaaGreatDoorJOne
import Derived.Test.YtndblaemladppaaGreatDoorJApp
import Derived.Test.YtndblaemladppaaGreatDoorFRefM
import Derived.Test.YtndblaemladppaaGreatDoorFRefS
namespace Go.TreeLib
theorem all3_len (o a b : List Fl) : (all3 o a b).length ≤ o.length + a.length + b.length := by
  unfold all3 paths
  refine Nat.le_trans (rise_len _) ?_
  simp
  omega
theorem outL_snoc (o a b : List Fl) (l : List ByteArray) (p : ByteArray) : outL o a b (l ++ [p]) = outL o a b l ++ (if (res o a b p).1.1 = true then [(p, (res o a b p).1.2)] else []) := by
  unfold outL
  rw [List.filterMap_append, List.filterMap_cons, List.filterMap_nil]
  by_cases h : (res o a b p).1.1 = true
  · rw [if_pos h, if_pos h]
  · rw [if_neg h, if_neg h]
theorem clashL_snoc (o a b : List Fl) (l : List ByteArray) (p : ByteArray) : clashL o a b (l ++ [p]) = clashL o a b l ++ (if (res o a b p).2 = true then [p] else []) := by
  unfold clashL
  rw [List.filter_append]
  by_cases h : (res o a b p).2 = true
  · rw [if_pos h, List.filter_cons_of_pos (by exact h), List.filter_nil]
  · rw [if_neg h, List.filter_cons_of_neg (by exact h), List.filter_nil]
theorem outL_len (o a b : List Fl) (l : List ByteArray) : (outL o a b l).length ≤ l.length := List.length_filterMap_le _ _
theorem clashL_len (o a b : List Fl) (l : List ByteArray) : (clashL o a b l).length ≤ l.length := List.length_filter_le _ _
/-- What came about is what stands, but where it clashes. -/
theorem out_came (o a b : List Fl) (l m : List ByteArray) (h : ∀ p ∈ l, p ∈ m) : (outL o a b l).filter (fun f => !hasB (clashL o a b m) f.1) = cameL o a b l := by
  induction l with
  | nil => rfl
  | cons p l ih =>
    have ih := ih (fun q hq => h q (List.mem_cons_of_mem _ hq))
    have hp : hasB (clashL o a b m) p = (res o a b p).2 := by
      rw [Bool.eq_iff_iff, hasB_iff, mem_clashL]
      exact ⟨fun e => e.2, fun e => ⟨h p List.mem_cons_self, e⟩⟩
    unfold outL cameL at ih ⊢
    rw [List.filterMap_cons, List.filterMap_cons]
    unfold cameG at ih ⊢
    by_cases h1 : (res o a b p).1.1 = true
    · rw [if_pos h1]
      by_cases h2 : (res o a b p).2 = true
      · rw [if_neg (fun e => by rw [h2] at e; cases e.1)]
        show List.filter _ ((p, _) :: _) = List.filterMap _ l
        rw [List.filter_cons_of_neg (by simp only [hp, h2]; decide), ih]
      · have h2' : (res o a b p).2 = false := by simpa using h2
        rw [if_pos ⟨h2', h1⟩]
        show List.filter _ ((p, _) :: _) = (p, _) :: List.filterMap _ l
        rw [List.filter_cons_of_pos (by simp only [hp, h2']; decide), ih]
    · rw [if_neg h1, if_neg (fun e => h1 e.2)]
      exact ih
def sunkL (t l : List Fl) : List ByteArray := (l.filter (fun f => nested t f.1)).map (·.1)
theorem sunkL_snoc (t l : List Fl) (f : Fl) : sunkL t (l ++ [f]) = sunkL t l ++ (if nested t f.1 = true then [f.1] else []) := by
  unfold sunkL
  rw [List.filter_append, List.map_append]
  by_cases h : nested t f.1 = true
  · rw [if_pos h, List.filter_cons_of_pos (by exact h)]; rfl
  · rw [if_neg h, List.filter_cons_of_neg (by exact h)]; rfl
theorem sunkL_len (t l : List Fl) : (sunkL t l).length ≤ l.length := by unfold sunkL; rw [List.length_map]; exact List.length_filter_le _ _
end Go.TreeLib
namespace Go.Proofs.YtndblaemladppaaGreatDoor
open Go.RowKit Go.Shelf Go.SeqLib Go.DiffLib Go.TreeLib Go.TextLib Go.BigFrame
attribute [local go_sem] Oper.semAt_some

set_option maxHeartbeats 1000000 in
theorem jUnder_in (v : Value) (t : List Fl) (p : ByteArray) (w : World) (hv : SlF w v t) : CallsIn Fence.wide 0 Tryz.prog 30 #[v, .string p] w fun e w' =>
    e = .returned (.bool (nested t p)) ∧ Chg No w w' := by
  obtain ⟨p0, cap, rfl, _, hmx⟩ := hv.slice
  have hml : t.length ≤ 9223372036854775807 := by unfold maxLen at hmx; omega
  obtain ⟨n, HN⟩ : ∃ n, Hid (t.length = n) := ⟨_, rfl⟩
  rw [HN.out] at hv hml ⊢
  clear hmx
  obtain ⟨z, HZ⟩ : ∃ z, Hid (nested t p = z) := ⟨_, rfl⟩
  rw [HZ.out]
  have U := fun q W => refUnder_in p q W
  refine callsIn_of_wp Tryz.func30 rfl trivial ?_
  simp only [Tryz.ntmps30, List.size_toArray, List.length_cons, List.length_nil, Nat.reduceAdd, Nat.reduceSub, Array.replicate_succ, Array.replicate_zero, List.push_toArray, List.append_toArray, List.nil_append, List.cons_append]
  gi_wp2
  gi_loopw [5] (fun i wr => ∃ k : Nat, k ≤ n ∧ i = .int .i64 (k : Int) ∧ Hid (∀ f ∈ t.take k, under (Bs p) (Bs f.1) = false) ∧ wr = w) (fun i _ => n - (intOf i).toNat)
  case atStart => exact ⟨0, Nat.zero_le _, rfl, fun f hf => by simp at hf, rfl⟩
  case round =>
    obtain ⟨k, hk, rfl, HT, rfl⟩ := hrel
    by_cases hlt : k < n
    · have hlt' : (k : Int) < (n : Int) := by omega
      have hkl : k < t.length := by rw [HN.out]; exact hlt
      obtain ⟨x, hx⟩ : ∃ x, t[k]? = some x := ⟨_, List.getElem?_eq_getElem hkl⟩
      obtain ⟨b1, o1, rfl, hc1, hc2⟩ := SlF.at hv k x hx
      obtain ⟨u, HU⟩ : ∃ u, Hid (under (Bs p) (Bs x.1) = u) := ⟨_, rfl⟩
      have U1 := U x.1
      rw [HU.out] at U1
      gi_wp2_with fail
      refine ⟨trivial, rfl, (U1 _).mono ?_⟩
      rintro e w1 ⟨rfl, rfl⟩
      cases u with
      | true =>
        have HR : Hid (z = true) := by
          show _ = _
          rw [← HZ.out]
          exact List.any_eq_true.2 ⟨x, List.mem_of_getElem? hx, HU.out⟩
        gi_wp2
        go_ret
        exact ⟨by rw [HR.out]; rfl, Chg.refl _ _⟩
      | false =>
        have HT2 : Hid (∀ f ∈ t.take (k + 1), under (Bs p) (Bs f.1) = false) := by
          intro f hf
          rw [List.take_add_one, hx] at hf
          rcases List.mem_append.1 hf with h | h
          · exact HT.out f h
          · rw [List.mem_singleton.1 h]; exact HU.out
        gi_wp2
        go_roundw
        case rel => exact ⟨k + 1, hlt, by go_num, HT2, trivial⟩
        case measure => simp [intOf]; omega
    · have hlt' : ¬ (k : Int) < (n : Int) := by omega
      have HR : Hid (z = false) := by
        show _ = _
        rw [← HZ.out]
        refine List.any_eq_false.2 (fun f hf => ?_)
        rw [HT.out f (by rw [List.take_of_length_le (by rw [HN.out]; omega)]; exact hf)]
        exact Bool.false_ne_true
      gi_wp2
      go_ret
      exact ⟨by rw [HR.out]; rfl, Chg.refl _ _⟩

set_option maxHeartbeats 1000000 in
theorem jHas_in (v : Value) (l : List ByteArray) (p : ByteArray) (w : World) (hv : SlT w v l) (hl : l.length ≤ 100000) : CallsIn Fence.wide 0 Tryz.prog 29 #[v, .string p] w fun e w' =>
    e = .returned (.bool (hasB l p)) ∧ Chg No w w' := by
  have hv0 := hv
  obtain ⟨p0, cap, rfl, _, _, _⟩ := hv0
  rw [List.length_map] at hv ⊢
  obtain ⟨n, HN⟩ : ∃ n, Hid (l.length = n) := ⟨_, rfl⟩
  rw [HN.out] at hv hl ⊢
  have hml : n ≤ 9223372036854775807 := by omega
  obtain ⟨z, HZ⟩ : ∃ z, Hid (hasB l p = z) := ⟨_, rfl⟩
  rw [HZ.out]
  refine callsIn_of_wp Tryz.func29 rfl trivial ?_
  simp only [Tryz.ntmps29, List.size_toArray, List.length_cons, List.length_nil, Nat.reduceAdd, Nat.reduceSub, Array.replicate_succ, Array.replicate_zero, List.push_toArray, List.append_toArray, List.nil_append, List.cons_append]
  gi_wp2
  gi_loopw [5] (fun i wr => ∃ k : Nat, k ≤ n ∧ i = .int .i64 (k : Int) ∧ Hid (∀ x ∈ l.take k, ¬ x = p) ∧ wr = w) (fun i _ => n - (intOf i).toNat)
  case atStart => exact ⟨0, Nat.zero_le _, rfl, fun f hf => by simp at hf, rfl⟩
  case round =>
    obtain ⟨k, hk, rfl, HT, rfl⟩ := hrel
    by_cases hlt : k < n
    · have hlt' : (k : Int) < (n : Int) := by omega
      have hkl : k < l.length := by rw [HN.out]; exact hlt
      obtain ⟨x, hx⟩ : ∃ x, l[k]? = some x := ⟨_, List.getElem?_eq_getElem hkl⟩
      obtain ⟨b1, o1, rfl, hc1⟩ := SlT.at hv k x hx
      by_cases he : x = p
      · have qe := eqR_true he
        have HR : Hid (z = true) := by
          show _ = _
          rw [← HZ.out]
          exact hasB_iff.2 (by rw [← he]; exact List.mem_of_getElem? hx)
        gi_wp2
        go_ret
        exact ⟨by rw [HR.out]; rfl, Chg.refl _ _⟩
      · have qe := eqR_false he
        have HT2 : Hid (∀ x ∈ l.take (k + 1), ¬ x = p) := by
          intro f hf
          rw [List.take_add_one, hx] at hf
          rcases List.mem_append.1 hf with h | h
          · exact HT.out f h
          · rw [List.mem_singleton.1 h]; exact he
        gi_wp2
        go_roundw
        case rel => exact ⟨k + 1, hlt, by go_num, HT2, trivial⟩
        case measure => simp [intOf]; omega
    · have hlt' : ¬ (k : Int) < (n : Int) := by omega
      have HR : Hid (z = false) := by
        show _ = _
        rw [← HZ.out]
        cases h : hasB l p with
        | false => rfl
        | true =>
          have := hasB_iff.1 h
          exact absurd rfl (HT.out p (by rw [List.take_of_length_le (by rw [HN.out]; omega)]; exact this))
      gi_wp2
      go_ret
      exact ⟨by rw [HR.out]; rfl, Chg.refl _ _⟩

end Go.Proofs.YtndblaemladppaaGreatDoor
