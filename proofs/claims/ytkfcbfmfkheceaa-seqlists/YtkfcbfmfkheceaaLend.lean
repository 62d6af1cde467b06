/-
  The statements' own LendInts and OverInts: a copy with room behind it; a list that is written over.
-/
import Derived.Test.YtkfcbfmfkheceaaMake
namespace Go.Proofs.Ytkfcbfmfkheceaa
open Go.RowKit Go.Shelf Go.SeqLib
attribute [local go_sem] Oper.semAt_some

/-- A cell of a row that is owned, its room too: it is there, it may be written; written, the row is owned still. -/
theorem rowPut {W : World} {base : Nat} {e : TypeId} {g n cap : Nat} {xs : List Value} (h : W.ownsRow base e 1 (.slice (some ⟨g, 0, none⟩) n cap) n xs) {j : Nat} (hj : j < cap) (u : Value) :
    (∃ x, W.cell? ⟨g, j, none⟩ = some x) ∧ W.frozen? ⟨g, j, none⟩ = false ∧ ∃ ys, (W.setCell ⟨g, j, none⟩ u).ownsRow base e 1 (.slice (some ⟨g, 0, none⟩) n cap) n ys ∧ (n ≤ j → ys = xs) := by
  obtain ⟨h1, h2⟩ := h
  rcases h2 with ⟨h2, _⟩ | ⟨g', cap', cur, hv, hb, hg, hn, hm, hs, ht⟩
  · cases h2
  · cases hv
    have hjs : j < cur.size := by omega
    refine ⟨⟨cur[j], by simp [World.cell?, hg, hjs]⟩, by simp [World.frozen?, hg], (cur.setIfInBounds j u).toList.take n, ⟨?_, .inr ⟨g, cap, cur.setIfInBounds j u, rfl, hb, ?_, hn, hm, by simpa using hs, by simp⟩⟩, fun hnj => ?_⟩
    · simp; omega
    · obtain ⟨hlt, hk⟩ := Array.getElem?_eq_some_iff.1 hg
      show (W.heap.modify g _)[g]? = _
      rw [Array.getElem?_eq_getElem (by rw [Array.size_modify]; exact hlt), Array.getElem_modify_self, hk]
      rfl
    · rw [← ht, Nat.mul_one]
      refine List.ext_getElem? fun i => ?_
      simp only [List.getElem?_take, Array.getElem?_toList, Array.getElem?_setIfInBounds]
      split
      · rw [if_neg (by omega)]
      · rfl

set_option maxRecDepth 100000 in
set_option maxHeartbeats 1000000 in
theorem over_in (v : Value) (vals : List Value) (n base : Nat) (hlen : n ≤ 1000000) (w : World) (hb : base ≤ w.heap.size) (hv : w.ownsRow base 3 1 v n vals) : CallsIn Fence.wide 0 Try.prog 10 #[v] w fun e w' =>
    (∃ r, e = .returned r) ∧ Chg (fun k => v.ownBlock = some k) w w' := by
  obtain ⟨i0, hi, hz0, hz1, hz2⟩ := info_parts info3
  obtain ⟨p, cap, rfl⟩ := row_slice hv
  refine callsIn_of_wp Try.func10 rfl trivial ?_
  simp only [Try.ntmps10, List.size_toArray, List.length_cons, List.length_nil, Nat.reduceAdd, Nat.reduceSub, Array.replicate_succ, Array.replicate_zero, List.push_toArray, List.append_toArray, List.nil_append, List.cons_append]
  gi_wp2
  gi_loopw [2] (fun i wr => ∃ (k : Nat) (ys : List Value), k ≤ n ∧ i = .int .i64 (k : Int) ∧ wr.ownsRow base 3 1 (.slice p n cap) n ys ∧ base ≤ wr.heap.size ∧ Chg (fun k => Value.ownBlock (.slice p n cap) = some k) w wr) (fun i _ => n - (intOf i).toNat)
  case atStart => exact ⟨0, vals, Nat.zero_le _, rfl, hv, hb, Chg.refl _ _⟩
  case round =>
    obtain ⟨k, ys, hk, rfl, hr, hbw, c⟩ := hrel
    by_cases hlt : k < n
    · obtain ⟨b, rfl, hcap⟩ : ∃ b, p = some ⟨b, 0, none⟩ ∧ n ≤ cap := by
        rcases hr.2 with ⟨_, h0⟩ | ⟨g, cap', cur, h, _, _, h3, _⟩
        · omega
        · cases h; exact ⟨g, rfl, h3⟩
      obtain ⟨⟨x, hc⟩, hf, zs, hr2, _⟩ := rowPut hr (show k < cap by omega) (.int .i64 (-999))
      have c2 := c.setCell (p := ⟨b, k, none⟩) (.inl rfl) (.int .i64 (-999))
      gi_wp2
      go_roundw
      case rel => exact ⟨k + 1, zs, hlt, by go_num, hr2, by have := c2.size; simp at this; simp; omega, c2⟩
      case measure => simp [intOf]; omega
    · obtain rfl : k = n := by omega
      have hmx : k + 1 ≤ maxLen := by unfold maxLen; omega
      gi_wp2_with (gi_at_builtin; refine wpListIn_append_at _ rfl _ _ 22 rfl base 3 i0 (.int .i64 0) 1 8 Try.underlying22 hi hz0 hz1 hz2 rfl (by decide) _ _ _ rfl (hr.alloc _) ⟨wr.heap.size, 0, none⟩ 1 1 [.int .i64 (-999)] rfl rfl (cell_one_new _ _ _) (by simp [Value.oneCell']) hmx (by omega) (by simp; omega) ?_; intro v' w1 hown' hgrow _ hat)
      go_end0
      exact ⟨⟨_, rfl⟩, (c.alloc _).grown hgrow (fun j e => .inl e)⟩

/-- The room behind a row: three cells are written, the row is as it was. -/
def roomRel (w : World) (g n : Nat) (vals : List Value) (wr : World) : Prop := wr.ownsRow w.heap.size 3 1 (.slice (some ⟨g, 0, none⟩) n (n + 3)) n vals ∧ Chg (fun _ => False) w wr

set_option maxRecDepth 100000 in
set_option maxHeartbeats 1000000 in
theorem lend_in (v : Value) (zs : List Int) (hlen : zs.length ≤ 1000) (w : World) (hv : SlI w v zs) : CallsIn Fence.wide 0 Try.prog 8 #[v] w fun e w' =>
    ∃ v', e = .returned v' ∧ w'.ownsRow w.heap.size 3 1 v' zs.length (zs.map (Value.int .i64)) ∧ Chg (fun _ => False) w w' := by
  obtain ⟨i0, hi, hz0, hz1, hz2⟩ := info_parts info3
  obtain ⟨p, cap, rfl, h1, h2, hc⟩ := hv
  have hmx : zs.length + 3 ≤ maxLen := by unfold maxLen; omega
  cases p with
  | none =>
    have hz : zs = [] := by
      cases zs with
      | nil => rfl
      | cons x r => obtain ⟨b, off, h, _⟩ := hc 0 x rfl; cases h
    subst hz
    refine callsIn_of_wp Try.func8 rfl trivial ?_
    simp only [Try.ntmps8, List.size_toArray, List.length_cons, List.length_nil, Nat.reduceAdd, Nat.reduceSub, Array.replicate_succ, Array.replicate_zero, List.push_toArray, List.append_toArray, List.nil_append, List.cons_append]
    gi_wp2_with (first
      | (gi_at_make; refine wpListIn_make_own _ rfl _ _ 22 rfl w.heap.size 3 i0 (.int .i64 0) 1 Try.underlying22 hi hz0 hz1 .i64 .i64 3 3 rfl rfl (by omega) (by rw [hz2]; omega) (by unfold maxLen; omega) (Nat.le_refl _) ?_; intro w2 hown2 hgrow1; have c2 : Chg (fun _ => False) w w2 := (Chg.refl _ w).grown hgrow1 (fun k e => by cases e)))
    gi_loopw [5] (fun i wr => ∃ k : Nat, k ≤ 3 ∧ i = .int .i64 (k : Int) ∧ roomRel w w.heap.size 0 [] wr) (fun i _ => 3 - (intOf i).toNat)
    case atStart => exact ⟨0, by omega, rfl, by simpa using hown2, c2⟩
    case round =>
      obtain ⟨k, hk, rfl, hr, c⟩ := hrel
      by_cases hlt : k < 3
      · obtain ⟨⟨x, hcx⟩, hf, ys, hr2, hys⟩ := rowPut hr (j := 0 + k) (by omega) (.int .i64 (-777))
        have hr3 := hys (by omega)
        subst hr3
        have c3 := c.setCell (p := ⟨w.heap.size, 0 + k, none⟩) (.inr (Nat.le_refl _)) (.int .i64 (-777))
        simp only [Nat.zero_add] at hcx hf hr2 c3
        gi_wp2
        go_roundw
        case rel => exact ⟨k + 1, hlt, by go_num, hr2, c3⟩
        case measure => simp [intOf]; omega
      · obtain rfl : k = 3 := by omega
        gi_wp2
        go_ret
        exact ⟨_, rfl, hr, c⟩
  | some a =>
    have hone : ∀ u ∈ zs.map (Value.int .i64), u.oneCell' = true := by
      intro u hu
      obtain ⟨x, _, rfl⟩ := List.mem_map.1 hu
      rfl
    have hnews : ∀ w1 : World, Chg (fun _ => False) w w1 → ∀ j u, (zs.map (Value.int .i64))[j]? = some u → w1.cell? (a.add j) = some u := by
      intro w1 c1 j u hj
      rw [List.getElem?_map] at hj
      obtain ⟨x, hx, rfl⟩ := Option.map_eq_some_iff.1 hj
      obtain ⟨b, off, e, hcell⟩ := hc j x hx
      cases e
      have ea : (⟨b, off, none⟩ : Addr).add j = ⟨b, off + j, none⟩ := by unfold Addr.add; split <;> simp_all
      rw [ea]
      exact (World.cell?_of_block (a := ⟨b, off + j, none⟩) (c1.block b (World.block_lt_of_cell? w _ hcell) (fun h => h))).trans hcell
    clear hc
    generalize hvals : zs.map (Value.int .i64) = vals at *
    have hvl : vals.length = zs.length := by rw [← hvals]; simp
    clear hvals
    generalize zs.length = n at *
    refine callsIn_of_wp Try.func8 rfl trivial ?_
    simp only [Try.ntmps8, List.size_toArray, List.length_cons, List.length_nil, Nat.reduceAdd, Nat.reduceSub, Array.replicate_succ, Array.replicate_zero, List.push_toArray, List.append_toArray, List.nil_append, List.cons_append]
    gi_wp2_with (first
      | (gi_at_make; refine wpListIn_make_own _ rfl _ _ 22 rfl w.heap.size 3 i0 (.int .i64 0) 1 Try.underlying22 hi hz0 hz1 .i64 .i64 ((n : Int) + 3) (n + 3) rfl rfl (by omega) (by rw [hz2]; omega) hmx (Nat.le_refl _) ?_; intro w1 hown1 hgrow1; have c1 : Chg (fun _ => False) w w1 := (Chg.refl _ w).grown hgrow1 (fun k e => by cases e))
      | (gi_at_builtin; refine wpListIn_append_fits _ rfl _ _ 22 rfl w.heap.size 3 i0 1 Try.underlying22 hi hz1 w.heap.size 0 (n + 3) _ rfl hown1 a n cap vals rfl (by omega) (hnews w1 c1) hone (by omega) ?_; intro w2 hown2 hgrow2; have c2 : Chg (fun _ => False) w w2 := c1.grown hgrow2 (fun k e => by cases e; exact .inr (Nat.le_refl _))))
    rw [show n + 3 - n = 3 by omega]
    gi_loopw [5] (fun i wr => ∃ k : Nat, k ≤ 3 ∧ i = .int .i64 (k : Int) ∧ roomRel w w.heap.size n vals wr) (fun i _ => 3 - (intOf i).toNat)
    case atStart => exact ⟨0, by omega, rfl, by simpa using hown2, c2⟩
    case round =>
      obtain ⟨k, hk, rfl, hr, c⟩ := hrel
      by_cases hlt : k < 3
      · obtain ⟨⟨x, hcx⟩, hf, ys, hr2, hys⟩ := rowPut hr (j := n + k) (by omega) (.int .i64 (-777))
        have hr3 := hys (by omega)
        subst hr3
        have c3 := c.setCell (p := ⟨w.heap.size, n + k, none⟩) (.inr (Nat.le_refl _)) (.int .i64 (-777))
        gi_wp2
        go_roundw
        case rel => exact ⟨k + 1, hlt, by go_num, hr2, c3⟩
        case measure => simp [intOf]; omega
      · obtain rfl : k = 3 := by omega
        gi_wp2
        go_ret
        exact ⟨_, rfl, hr, c⟩

end Go.Proofs.Ytkfcbfmfkheceaa
