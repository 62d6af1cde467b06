/-
  The statements' own OverSteps.
-/
import Derived.Test.YtafaihbfhcpjiaaDWide
namespace Go.Proofs.Ytafaihbfhcpjiaa
open Go.RowKit Go.Shelf Go.SeqLib Go.DiffLib
attribute [local go_sem] Oper.semAt_some

/-- A cell of a row that is owned: it is there, it may be written; written, the row is owned still. -/
theorem rowPutS {W : World} {base : Nat} {e : TypeId} {s g n cap : Nat} {xs : List Value} (h : W.ownsRow base e s (.slice (some ⟨g, 0, none⟩) n cap) n xs) {j : Nat} (hj : j < cap * s) (u : Value) :
    (∃ x, W.cell? ⟨g, j, none⟩ = some x) ∧ W.frozen? ⟨g, j, none⟩ = false ∧ ∃ ys, (W.setCell ⟨g, j, none⟩ u).ownsRow base e s (.slice (some ⟨g, 0, none⟩) n cap) n ys := by
  obtain ⟨h1, h2⟩ := h
  rcases h2 with ⟨h2, _⟩ | ⟨g', cap', cur, hv, hb, hg, hn, hm, hs, ht⟩
  · cases h2
  · cases hv
    have hjs : j < cur.size := by omega
    refine ⟨⟨cur[j], by simp [World.cell?, hg, hjs]⟩, by simp [World.frozen?, hg], (cur.setIfInBounds j u).toList.take (n * s), ⟨?_, .inr ⟨g, cap, cur.setIfInBounds j u, rfl, hb, ?_, hn, hm, by simpa using hs, rfl⟩⟩⟩
    · have := congrArg List.length ht
      simp at this ⊢
      omega
    · obtain ⟨hlt, hk⟩ := Array.getElem?_eq_some_iff.1 hg
      show (W.heap.modify g _)[g]? = _
      rw [Array.getElem?_eq_getElem (by rw [Array.size_modify]; exact hlt), Array.getElem_modify_self, hk]
      rfl

theorem cells_newS (w : World) (l : List Value) (t : TypeId) : ∀ j u, l[j]? = some u → (w.alloc (.cells l.toArray t)).cell? ((⟨w.heap.size, 0, none⟩ : Addr).add j) = some u := by
  intro j u h
  have e : (⟨w.heap.size, 0, none⟩ : Addr).add j = ⟨w.heap.size, j, none⟩ := by unfold Addr.add; split <;> simp_all
  rw [e, World.cell?_alloc_at _ _ _ _ rfl]
  simpa using h

set_option maxRecDepth 100000 in
set_option maxHeartbeats 1000000 in
theorem overSt_in (v : Value) (vals : List Value) (n base : Nat) (hlen : n ≤ 1000000) (w : World) (hb : base ≤ w.heap.size) (hv : w.ownsRow base 40 3 v n vals) : CallsIn Fence.wide 0 Try.prog 22 #[v] w fun e w' =>
    (∃ r, e = .returned r) ∧ Chg (fun k => v.ownBlock = some k) w w' := by
  obtain ⟨i0, hi, hz0, hz1, hz2⟩ := info_parts info40
  obtain ⟨p, cap, rfl⟩ := row_slice hv
  refine callsIn_of_wp Try.func22 rfl trivial ?_
  simp only [Try.ntmps22, List.size_toArray, List.length_cons, List.length_nil, Nat.reduceAdd, Nat.reduceSub, Array.replicate_succ, Array.replicate_zero, List.push_toArray, List.append_toArray, List.nil_append, List.cons_append]
  gi_wp2
  gi_loopw [2] (fun i wr => ∃ (k : Nat) (ys : List Value), k ≤ n ∧ i = .int .i64 (k : Int) ∧ wr.ownsRow base 40 3 (.slice p n cap) n ys ∧ base ≤ wr.heap.size ∧ Chg (fun k => Value.ownBlock (.slice p n cap) = some k) w wr) (fun i _ => n - (intOf i).toNat)
  case atStart => exact ⟨0, vals, Nat.zero_le _, rfl, hv, hb, Chg.refl _ _⟩
  case round =>
    obtain ⟨k, ys, hk, rfl, hr, hbw, c⟩ := hrel
    by_cases hlt : k < n
    · obtain ⟨b, rfl, hcap⟩ : ∃ b, p = some ⟨b, 0, none⟩ ∧ n ≤ cap := by
        rcases hr.2 with ⟨_, h0⟩ | ⟨g, cap', cur, h, _, _, h3, _⟩
        · omega
        · cases h; exact ⟨g, rfl, h3⟩
      obtain ⟨⟨x1, a1⟩, f1, z1, r1⟩ := rowPutS hr (j := k * 3) (by omega) (.int .i64 (-9))
      obtain ⟨⟨x2, a2⟩, f2, z2, r2⟩ := rowPutS r1 (j := k * 3 + 1) (by omega) (.int .i64 0)
      obtain ⟨⟨x3, a3⟩, f3, z3, r3⟩ := rowPutS r2 (j := k * 3 + 2) (by omega) (.int .i64 0)
      obtain ⟨⟨x4, a4⟩, f4, _⟩ := rowPutS hr (j := k * 3 + 1) (by omega) (.int .i64 0)
      obtain ⟨⟨x5, a5⟩, f5, _⟩ := rowPutS hr (j := k * 3 + 2) (by omega) (.int .i64 0)
      have c2 := ((c.setCell (p := ⟨b, k * 3, none⟩) (.inl rfl) (.int .i64 (-9))).setCell (p := ⟨b, k * 3 + 1, none⟩) (.inl rfl) (.int .i64 0)).setCell (p := ⟨b, k * 3 + 2, none⟩) (.inl rfl) (.int .i64 0)
      gi_wp2
      go_roundw
      case rel => exact ⟨k + 1, z3, hlt, by go_num, r3, by have := c2.size; simp at this; simp; omega, c2⟩
      case measure => simp [intOf]; omega
    · obtain rfl : k = n := by omega
      have hmx : k + 1 ≤ maxLen := by unfold maxLen; omega
      have hcn := cells_newS wr [.int .i64 (-9), .int .i64 0, .int .i64 0] 40
      gi_wp2_with (gi_at_builtin; refine wpListIn_append_at _ rfl _ _ 23 rfl base 40 i0 (.agg #[.int .i64 0, .int .i64 0, .int .i64 0]) 3 24 Try.underlying23 hi hz0 hz1 hz2 rfl (by decide) _ _ _ rfl (hr.alloc _) ⟨wr.heap.size, 0, none⟩ 1 1 [.int .i64 (-9), .int .i64 0, .int .i64 0] rfl rfl hcn (by simp [Value.oneCell']) hmx (by omega) (by simp; omega) ?_; intro v' w1 hown' hgrow _ hat)
      go_end0
      exact ⟨⟨_, rfl⟩, (c.alloc _).grown hgrow (fun j e => .inl e)⟩

end Go.Proofs.Ytafaihbfhcpjiaa
