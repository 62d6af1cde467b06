/-
  SeqLists answers true at every list and number, and turns nothing that lay.
-/
import Derived.Test.YtkfcbfmfkheceaaAwake
import Derived.Test.YtkfcbfmfkheceaaLend
namespace Go.Proofs.Ytkfcbfmfkheceaa
open Go.RowKit Go.Shelf Go.SeqLib
attribute [local go_sem] Oper.semAt_some

set_option maxRecDepth 100000 in
set_option maxHeartbeats 2000000 in
theorem lists_long (p : Option Addr) (n cap : Nat) (hn : 60 < n) (early : Int) (w : World) : CallsIn Fence.wide 0 Try.prog 3 #[.slice p n cap, .int .i64 early] w fun e w' => e = .returned (.bool true) ∧ Chg No w w' := by
  have hn' : (60 : Int) < (n : Int) := by omega
  refine callsIn_of_wp Try.func3 rfl trivial ?_
  simp only [Try.ntmps3, List.size_toArray, List.length_cons, List.length_nil, Nat.reduceAdd, Nat.reduceSub, Array.replicate_succ, Array.replicate_zero, List.push_toArray, List.append_toArray, List.nil_append, List.cons_append]
  gi_wp2_with fail
  refine ⟨trivial, rfl, (awake_in _).mono ?_⟩
  rintro e w1 ⟨rfl, c1⟩
  gi_wp2
  go_ret
  exact ⟨rfl, c1⟩

/-- A beginning of a slice. -/
theorem SlI.take {W : World} {p : Option Addr} {n cap : Nat} {zs : List Int} (h : SlI W (.slice p n cap) zs) (m : Nat) (hm : m ≤ n) : SlI W (.slice p m cap) (zs.take m) := by
  obtain ⟨p', cap', e, h1, h2, hc⟩ := h
  cases e
  refine ⟨p, cap, by rw [List.length_take, Nat.min_eq_left hm], by simp; omega, h2, fun i x hi => ?_⟩
  rw [List.getElem?_take] at hi
  split at hi
  · exact hc i x hi
  · cases hi

set_option maxRecDepth 100000 in
set_option maxHeartbeats 2000000 in
theorem lists_in (p : Option Addr) (cap : Nat) (zs : List Int) (hn : zs.length ≤ 60) (early : Int) (w : World) (hz : SlI w (.slice p zs.length cap) zs) : CallsIn Fence.wide 0 Try.prog 3 #[.slice p zs.length cap, .int .i64 early] w fun e w' => e = .returned (.bool true) ∧ Chg No w w' := by
  have hn' : ¬ (60 : Int) < (zs.length : Int) := by omega
  have hcap : zs.length ≤ cap := by obtain ⟨p', cap', e, h1, _⟩ := hz; cases e; exact h1
  refine callsIn_of_wp Try.func3 rfl trivial ?_
  simp only [Try.ntmps3, List.size_toArray, List.length_cons, List.length_nil, Nat.reduceAdd, Nat.reduceSub, Array.replicate_succ, Array.replicate_zero, List.push_toArray, List.append_toArray, List.nil_append, List.cons_append]
  gi_wp2_with fail
  refine ⟨trivial, rfl, (lend_in _ zs (by omega) _ hz).mono ?_⟩
  rintro e w1 ⟨v1, rfl, r1, c1⟩
  gi_wp2_with fail
  refine ⟨trivial, rfl, (of_seq _ zs (by omega) _ (SlI.ofRow r1)).mono ?_⟩
  rintro e w2 ⟨g2, l2, D2, rfl, s2, c2, d2⟩
  have r2 := row_kept r1 (fun k hk => c2.block k (r1.lt k hk).2 (fun h => h))
  gi_wp2_with fail
  refine ⟨trivial, rfl, (over_in v1 _ _ w.heap.size (by omega) _ (Nat.le_trans c1.size c2.size) r2).mono ?_⟩
  rintro e w3 ⟨⟨u3, rfl⟩, c3⟩
  have s3 := s2.chg c3 (fun k hk h => by have := d2 k hk; have := (r1.lt k h).2; omega)
  have c03 : Chg No w w3 := (c1.trans c2 (Grew.refl _ _)).trans c3 (fun k h => .inr (r1.lt k h).1)
  clear c1 c2 c3 r2 s2
  gi_wp2_with fail
  refine ⟨trivial, rfl, (low_in early 70 (by omega) (by omega) _).mono ?_⟩
  rintro e w3' ⟨rfl, rfl⟩
  obtain ⟨hlo1, hlo2⟩ := lowI_range early 70 (by omega) (by omega)
  generalize lowI early 70 = m at *
  obtain ⟨k, rfl⟩ := Int.eq_ofNat_of_zero_le hlo1
  obtain ⟨ys, hys⟩ : ∃ ys, Hid (ys = zs.take ((k : Int)).toNat) := ⟨_, rfl⟩
  gi_wp2_with fail
  refine ⟨trivial, rfl, (ints_seq (k : Int) (by omega) _ s3 ys hys).mono ?_⟩
  rintro e w4 ⟨v4, rfl, r4, c4⟩
  gi_wp2_with fail
  refine ⟨trivial, rfl, (list_seq (by omega) _ (s3.no c4)).mono ?_⟩
  rintro e w5 ⟨v5, rfl, r5, c5⟩
  have c35 : Chg No w3' w5 := c4.trans c5 (Grew.refl _ _)
  have c05 : Chg No w w5 := c03.trans c35 (Grew.refl _ _)
  have z5 := hz.chg c05 (fun _ _ h => h)
  have q4 : SlI w5 v4 ys := (SlI.ofRow r4).chg c5 (fun _ _ h => h)
  have q5 : SlI w5 v5 zs := SlI.ofRow r5
  have s5 := s3.no c35
  have hyl : Hid (ys = zs.take k) := by rw [hys.out, Int.toNat_natCast]; rfl
  have l3 := s3.lt
  have sz3 := c03.size
  have sz4 := c4.size
  have sz5 := c5.size
  clear s3 c03 c35 hys
  have hsl : (zs.length < k → SlI w5 (.slice p zs.length cap) ys) ∧ (¬ zs.length < k → SlI w5 (.slice p k cap) ys) := by
    rw [hyl.out]
    refine ⟨fun h => ?_, fun h => z5.take k (by omega)⟩
    rw [List.take_of_length_le (by omega)]
    exact z5
  clear hyl hlo1
  by_cases hk : zs.length < k
  all_goals first | (have z6 := hsl.1 hk) | (have z6 := hsl.2 hk)
  all_goals clear hsl
  all_goals gi_wp2_with fail
  all_goals refine ⟨trivial, rfl, (same_in _ _ ys ys _ q4 z6).mono ?_⟩
  all_goals rintro e w6 ⟨rfl, c6⟩
  all_goals simp only [decide_true]
  all_goals gi_wp2_with fail
  all_goals refine ⟨trivial, rfl, (same_in _ _ zs zs _ (q5.chg c6 (fun _ _ h => h)) (z5.chg c6 (fun _ _ h => h))).mono ?_⟩
  all_goals rintro e w7 ⟨rfl, c7⟩
  all_goals simp only [decide_true]
  all_goals gi_wp2_with fail
  all_goals refine ⟨trivial, rfl, (ints_seq 100 (by omega) _ ((s5.no c6).no c7) zs (show zs = zs.take _ from (List.take_of_length_le (by simp; omega)).symm)).mono ?_⟩
  all_goals rintro e w8 ⟨v8, rfl, r8, c8⟩
  all_goals gi_wp2_with fail
  all_goals refine ⟨trivial, rfl, (same_in _ _ zs zs _ (SlI.ofRow r8) (((z5.chg c6 (fun _ _ h => h)).chg c7 (fun _ _ h => h)).chg c8 (fun _ _ h => h))).mono ?_⟩
  all_goals rintro e w9 ⟨rfl, c9⟩
  all_goals simp only [decide_true]
  all_goals have c59 : Chg No w5 w9 := ((c6.trans c7 (Grew.refl _ _)).trans c8 (Grew.refl _ _)).trans c9 (Grew.refl _ _)
  all_goals have r9 := row_kept r5 (fun k hk => c59.block k (r5.lt k hk).2 (fun h => h))
  all_goals have s9 := s5.no c59
  all_goals gi_wp2_with fail
  all_goals refine ⟨trivial, rfl, (over_in v5 _ _ w4.heap.size (by omega) _ (by have := c59.size; omega) r9).mono ?_⟩
  all_goals rintro e w10 ⟨⟨u10, rfl⟩, c10⟩
  all_goals have hown : ∀ k, v5.ownBlock = some k → w4.heap.size ≤ k := fun k hk => (r5.lt k hk).1
  all_goals have s10 := s9.chg c10 (fun k hk h => by have := hown k h; have := l3 k hk; omega)
  all_goals have z10 : SlI w10 (.slice p zs.length cap) zs := (z5.chg c59 (fun _ _ h => h)).chg c10 (fun k hk h => by have := hown k h; have := hz.lt k hk; omega)
  all_goals gi_wp2_with fail
  all_goals refine ⟨trivial, rfl, (list_seq (by omega) _ s10).mono ?_⟩
  all_goals rintro e w11 ⟨v11, rfl, r11, c11⟩
  all_goals gi_wp2_with fail
  all_goals refine ⟨trivial, rfl, (same_in _ _ zs zs _ (SlI.ofRow r11) (z10.chg c11 (fun _ _ h => h))).mono ?_⟩
  all_goals rintro e w12 ⟨rfl, c12⟩
  all_goals simp only [decide_true]
  all_goals gi_wp2_with fail
  all_goals refine ⟨trivial, rfl, (awake_in _).mono ?_⟩
  all_goals rintro e w13 ⟨rfl, c13⟩
  all_goals have cf : Chg No w w13 := (c05.trans c59 (Grew.refl _ _)).trans (c10.trans ((((c11.trans c12 (Grew.refl _ _)).trans c13 (Grew.refl _ _))).mono (S' := fun k => v5.ownBlock = some k) (fun _ h => h.elim)) (Grew.refl _ _)) (fun k h => .inr (by have := hown k h; omega))
  all_goals gi_wp2
  all_goals go_ret
  all_goals exact ⟨rfl, cf⟩

end Go.Proofs.Ytkfcbfmfkheceaa
