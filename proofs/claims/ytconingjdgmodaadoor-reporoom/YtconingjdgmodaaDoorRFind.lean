/-
  The document's own Find of commits.
-/
import Derived.Test.YtconingjdgmodaaDoorRRef
namespace Go.RepoLib
theorem findC_here : ∀ {L : List Cm} {k : Nat} {c : Cm}, L[k]? = some c → (∀ y ∈ L.take k, ¬ y = c) → findC L c = k + 1
  | [], k, c, h, _ => by simp at h
  | x :: L, 0, c, h, _ => by
    have : x = c := by simpa using h
    unfold findC
    rw [if_pos this]
  | x :: L, k + 1, c, h, ha => by
    have h1 : ¬ x = c := ha x (by simp)
    have h2 := findC_here (L := L) (k := k) (c := c) (by simpa using h) (fun y hy => ha y (by rw [List.take_succ_cons]; exact List.mem_cons_of_mem _ hy))
    unfold findC
    rw [if_neg h1, h2, if_neg (by omega)]
end Go.RepoLib
namespace Go.Proofs.YtconingjdgmodaaDoor
open Go.RowKit Go.Shelf Go.SeqLib Go.DiffLib Go.TreeLib Go.RepoLib Go.BigFrame
attribute [local go_sem] Oper.semAt_some

set_option maxRecDepth 100000 in
set_option maxHeartbeats 4000000 in
theorem refFind_in (b B : Nat) (s : Rp) (lv : Value) (rows : List Rw) (v : Value) (c : Cm) (D : Blk) (w : World) (h : RefRep b B s lv rows w) (hv : CmD D w v c) (hl : s.1.length ≤ 1000) (hsm : ∀ x ∈ s.1, x.2.1.length ≤ 1000) :
    CallsIn Fence.wide 0 Tryd.prog 18 #[ptr B, v] w fun e w' => e = .returned (iv (findC s.1 c : Nat)) ∧ Chg No w w' := by
  have hmix : Tryd.prog.follows .mixedOrders = true := by kernel_rfl
  obtain ⟨p, n, k0, q, m, l, rfl, h1, h2, h3, h4⟩ := hv
  obtain ⟨W1, hW1⟩ : ∃ W1, w.alloc (.cells #[.slice p n k0, .slice q m l, .string c.2.2] 36) = W1 := ⟨_, rfl⟩
  have ca : Chg No w W1 := hW1 ▸ (Chg.refl _ w).alloc _
  have x0 : W1.heap[w.heap.size]? = some (.cells #[.slice p n k0, .slice q m l, .string c.2.2] 36 (0, 0)) := hW1 ▸ World.alloc_heap_new w _
  have hr1 := h.no ca
  have hc1 : CmD D W1 (.agg #[.slice p n k0, .slice q m l, .string c.2.2]) c := CmD.no ⟨p, n, k0, q, m, l, rfl, h1, h2, h3, h4⟩ ca
  obtain ⟨pv, kv, rfl⟩ := h.slice
  obtain ⟨N, hN⟩ : ∃ N, s.1.length = N := ⟨_, rfl⟩
  have HN : Hid (s.1.length = N) := hN
  rw [hN] at hl hr1
  obtain ⟨F, hF⟩ : ∃ F, findC s.1 c = F := ⟨_, rfl⟩
  have HF : Hid (findC s.1 c = F) := hF
  rw [hF]
  have HSm : Hid (∀ x ∈ s.1, x.2.1.length ≤ 1000) := hsm
  clear h h1 h2 h3 h4 hF hsm hN
  refine callsIn_of_wp Tryd.func18 rfl trivial ?_
  simp only [Tryd.ntmps18, List.size_toArray, List.length_cons, List.length_nil, Nat.reduceAdd, Nat.reduceSub, Array.replicate_succ, Array.replicate_zero, List.push_toArray, List.append_toArray, List.nil_append, List.cons_append]
  gi_wp2
  gi_loopw [5] (fun s5 wr => ∃ k : Nat, k ≤ N ∧ s5 = .int .i64 (k : Int) ∧ Hid (∀ y ∈ s.1.take k, ¬ y = c) ∧ Chg No W1 wr) (fun s5 _ => N - (intOf s5).toNat)
  case atStart => exact ⟨0, Nat.zero_le _, rfl, fun y hy => by simp at hy, Chg.refl _ _⟩
  case round =>
    obtain ⟨k, hk, rfl, HT, ck⟩ := hrel
    have hrk := hr1.no ck
    obtain ⟨y0, y1, _, _⟩ := hrk.cells
    by_cases hlt : k < N
    · have hlt' : (k : Int) < (N : Int) := by omega
      obtain ⟨x, hx⟩ : ∃ x, s.1[k]? = some x := ⟨_, List.getElem?_eq_getElem (by rw [HN.out]; exact hlt)⟩
      obtain ⟨⟨r1, r2, r3⟩, b1, o1, _, rfl, f1, f2, f3, hcx⟩ := hrk.row.cell hx
      dsimp only at f1 f2 f3 hcx
      have z0 : wr.heap[w.heap.size]? = some (.cells #[.slice p n k0, .slice q m l, .string c.2.2] 36 (0, 0)) := ck.same x0 (fun h => h)
      have w0 : wr.cell? ⟨w.heap.size, 0, none⟩ = some (.slice p n k0) := by simp [World.cell?, z0]
      have w1 : wr.cell? ⟨w.heap.size, 1, none⟩ = some (.slice q m l) := by simp [World.cell?, z0]
      have w2 : wr.cell? ⟨w.heap.size, 2, none⟩ = some (.string c.2.2) := by simp [World.cell?, z0]
      have hck := hc1.no ck
      have hxs := HSm.out x (List.mem_of_getElem? hx)
      have hany := After.any wr
      have C1 : ∀ d : After wr, CallsIn Fence.wide 0 Tryd.prog 37 #[.agg #[r1, r2, .string r3], .agg #[.slice p n k0, .slice q m l, .string c.2.2]] d.val fun e w' => e = .returned (.bool (decide (x = c))) ∧ Chg No d.val w' := fun d => refSameC_in _ _ x c _ _ (by omega) _ (hcx.no d.chg) (hck.no d.chg)
      have g0 : ∀ d : After wr, d.val.cell? ⟨B, 0, none⟩ = some (.slice (some ⟨b1, o1, none⟩) N kv) := fun d => d.cell y0
      have g1 : ∀ d : After wr, d.val.cell? ⟨b1, o1 + k * 3, none⟩ = some r1 := fun d => d.cell f1
      have g2 : ∀ d : After wr, d.val.cell? ⟨b1, o1 + k * 3 + 1, none⟩ = some r2 := fun d => d.cell f2
      have g3 : ∀ d : After wr, d.val.cell? ⟨b1, o1 + k * 3 + 2, none⟩ = some (.string r3) := fun d => d.cell f3
      have g4 : ∀ d : After wr, d.val.cell? ⟨w.heap.size, 0, none⟩ = some (.slice p n k0) := fun d => d.cell w0
      have g5 : ∀ d : After wr, d.val.cell? ⟨w.heap.size, 1, none⟩ = some (.slice q m l) := fun d => d.cell w1
      have g6 : ∀ d : After wr, d.val.cell? ⟨w.heap.size, 2, none⟩ = some (.string c.2.2) := fun d => d.cell w2
      obtain ⟨u, HU⟩ : ∃ u, Hid (decide (x = c) = u) := ⟨_, rfl⟩
      rw [HU.out] at C1
      clear z0 w0 w1 w2 f1 f2 f3 hcx hck hxs
      gi_wp2
      refine region_quietC hmix (by kernel_rfl) ?_
      repeat (gi_big_quiet_step (fail))
      refine wpQuietIn_want (fun _ _ _ _ => trivial) rfl ?_
      intro KQ hKQ
      gi_big_quiet_op
      gi_big_quiet_call (exact ⟨rfl, (C1 _).mono (by rintro e w'' ⟨rfl, c'⟩; exact ⟨rfl, After.more _ c'⟩)⟩)
      repeat (gi_big_quiet_step (fail))
      refine wpQuietIn_nil ?_
      rintro w' ⟨d, rfl⟩
      have cd := Chg.seq ck d.chg
      clear g0 g1 g2 g3 g4 g5 g6 C1 hany y0 y1 hrk
      generalize d.val = W4 at *
      cases u with
      | true =>
        have HE : Hid (F = k + 1) := by
          show _ = _
          rw [← HF.out]
          have : x = c := of_decide_eq_true HU.out
          exact findC_here (by rw [hx, this]) HT.out
        gi_wp2
        go_ret
        refine ⟨?_, Chg.seq ca cd⟩
        rw [HE.out]
        show _ = Ending.returned (iv ((k + 1 : Nat) : Int))
        rw [Int.natCast_add]
        rfl
      | false =>
        have HT2 : Hid (∀ y ∈ s.1.take (k + 1), ¬ y = c) := by
          intro y hy
          rw [List.take_add_one, hx] at hy
          rcases List.mem_append.1 hy with h | h
          · exact HT.out y h
          · rw [List.mem_singleton.1 h]; exact of_decide_eq_false HU.out
        gi_wp2
        refine ⟨⟨k + 1, hlt, by go_num, HT2, cd⟩, by simp [intOf]; omega⟩
    · obtain rfl : k = N := by omega
      have hlt' : ¬ (k : Int) < (k : Int) := by omega
      have HE : Hid (F = 0) := by
        show _ = _
        rw [← HF.out]
        refine findC_zero.2 (fun hm => HT.out c ?_ rfl)
        rw [List.take_of_length_le (by rw [HN.out]; exact Nat.le_refl _)]
        exact hm
      gi_wp2
      go_ret
      exact ⟨by rw [HE.out]; rfl, Chg.seq ca ck⟩

end Go.Proofs.YtconingjdgmodaaDoor
