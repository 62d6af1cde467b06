/-
  Of: RVw, RAdd, RAddG, LPut, RNum.
-/
import Derived.Test.YtakbeololabmhaaGreatDoorG08
import Derived.Test.YtakbeololabmhaaGreatDoorG01
import Derived.Test.YtakbeololabmhaaGreatDoorG02
section
-- RVw
namespace Go.Proofs.YtakbeololabmhaaGreatDoor
open Go.RowKit Go.Shelf Go.SeqLib Go.DiffLib Go.TreeLib Go.RepoLib Go.BigFrame
attribute [local go_sem] Oper.semAt_some

/-- The document's repo at block B reads as s. -/
structure RefVw (B : Nat) (s : Rp) (lv : Value) (rows : List Rw) (W : World) : Prop where
  box : W.heap[B]? = some (.cells #[lv, iv (s.2 : Nat)] 61 (0, 0))
  sl : SlE 3 eM W lv rows
  red : RowsD (fun _ => True) W rows s.1
theorem RowsD.no {D : Blk} {W W' : World} {rows : List Rw} {L : List Cm} (h : RowsD D W rows L) (c : Chg No W W') : RowsD D W' rows L := h.chg c (fun _ _ h => h)
theorem RefVw.no {B : Nat} {s : Rp} {lv : Value} {rows : List Rw} {W W' : World} (h : RefVw B s lv rows W) (c : Chg No W W') : RefVw B s lv rows W' :=
  ⟨c.same h.box (fun h => h), SlE.no eM_len (by decide) h.sl c, h.red.no c⟩
theorem RefVw.slice {B : Nat} {s : Rp} {lv : Value} {rows : List Rw} {W : World} (h : RefVw B s lv rows W) : ∃ p cap, lv = .slice p s.1.length cap := by
  obtain ⟨p, c, e, _⟩ := h.sl
  rw [h.red.len] at e
  exact ⟨p, c, e⟩
theorem RefVw.cells {B : Nat} {s : Rp} {lv : Value} {rows : List Rw} {W : World} (h : RefVw B s lv rows W) : W.cell? ⟨B, 0, none⟩ = some lv ∧ W.cell? ⟨B, 1, none⟩ = some (iv (s.2 : Nat)) ∧ W.frozen? ⟨B, 0, none⟩ = false ∧ W.frozen? ⟨B, 1, none⟩ = false := by
  have hb := h.box
  refine ⟨?_, ?_, ?_, ?_⟩ <;> simp [World.cell?, World.frozen?, hb]
theorem RefVw.cell {B : Nat} {s : Rp} {p : Option Addr} {n cap : Nat} {rows : List Rw} {W : World} (h : RefVw B s (.slice p n cap) rows W) {i : Nat} {c : Cm} (hc : s.1[i]? = some c) :
    ∃ r b1 o1, rows[i]? = some r ∧ p = some ⟨b1, o1, none⟩ ∧ W.cell? ⟨b1, o1 + i * 3, none⟩ = some r.1 ∧ W.cell? ⟨b1, o1 + i * 3 + 1, none⟩ = some r.2.1 ∧ W.cell? ⟨b1, o1 + i * 3 + 2, none⟩ = some (.string r.2.2) ∧ CmD (fun _ => True) W (.agg #[r.1, r.2.1, .string r.2.2]) c := by
  obtain ⟨hi, rfl⟩ := List.getElem?_eq_some_iff.1 hc
  have hir : i < rows.length := by rw [h.red.len]; exact hi
  have hr : rows[i]? = some rows[i] := List.getElem?_eq_getElem hir
  obtain ⟨p0, cap0, e, _, _, hcells⟩ := h.sl
  cases e
  obtain ⟨b1, o1, rfl, hcell⟩ := hcells i _ hr
  exact ⟨rows[i], b1, o1, hr, rfl, hcell 0 _ rfl, hcell 1 _ rfl, hcell 2 _ rfl, h.red.at_ i _ _ hr hc⟩

set_option maxHeartbeats 1000000 in
theorem vwHas_in (B : Nat) (s : Rp) (lv : Value) (rows : List Rw) (n : Int) (w : World) (h : RefVw B s lv rows w) : CallsIn Fence.wide 0 Tryz.prog 45 #[ptr B, iv n] w fun e w' => e = .returned (.bool (hasN s.1.length n)) ∧ w' = w := by
  obtain ⟨k1, k2, _, _⟩ := h.cells
  obtain ⟨p, cap, rfl⟩ := h.slice
  generalize s.1.length = z at *
  unfold hasN
  refine callsIn_of_wp Tryz.func45 rfl trivial ?_
  simp only [Tryz.ntmps45, List.size_toArray, List.length_cons, List.length_nil, Nat.reduceAdd, Nat.reduceSub, Array.replicate_succ, Array.replicate_zero, List.push_toArray, List.append_toArray, List.nil_append, List.cons_append]
  by_cases h1 : 1 ≤ n
  · gi_wp2
    go_ret
    exact ⟨by rw [decide_eq_true h1]; rfl, rfl⟩
  · gi_wp2
    go_ret
    exact ⟨by rw [decide_eq_false (by omega)]; rfl, rfl⟩

set_option maxRecDepth 100000 in
set_option maxHeartbeats 4000000 in
theorem vwFind_in (B : Nat) (s : Rp) (lv : Value) (rows : List Rw) (v : Value) (c : Cm) (D : Blk) (w : World) (h : RefVw B s lv rows w) (hv : CmD D w v c) (hl : s.1.length ≤ 1000) (hsm : ∀ x ∈ s.1, x.2.1.length ≤ 1000) :
    CallsIn Fence.wide 0 Tryz.prog 46 #[ptr B, v] w fun e w' => e = .returned (iv (findC s.1 c : Nat)) ∧ Chg No w w' := by
  have hmix : Tryz.prog.follows .mixedOrders = true := by kernel_rfl
  obtain ⟨p, n, k0, q, m, l, rfl, h1, h2, h3, h4⟩ := hv
  obtain ⟨W1, hW1⟩ : ∃ W1, w.alloc (.cells #[.slice p n k0, .slice q m l, .string c.2.2] 43) = W1 := ⟨_, rfl⟩
  have ca : Chg No w W1 := hW1 ▸ (Chg.refl _ w).alloc _
  have x0 : W1.heap[w.heap.size]? = some (.cells #[.slice p n k0, .slice q m l, .string c.2.2] 43 (0, 0)) := hW1 ▸ World.alloc_heap_new w _
  have hr1 := h.no ca
  have hc1 : CmD D W1 (.agg #[.slice p n k0, .slice q m l, .string c.2.2]) c := CmD.no ⟨p, n, k0, q, m, l, rfl, h1, h2, h3, h4⟩ ca
  obtain ⟨pv, kv, rfl⟩ := h.slice
  obtain ⟨N, hN⟩ : ∃ N, s.1.length = N := ⟨_, rfl⟩
  have HN : Hid (s.1.length = N) := hN
  rw [hN] at hl hr1
  obtain ⟨F, hF⟩ : ∃ F, findC s.1 c = F := ⟨_, rfl⟩
  have HF : Hid (findC s.1 c = F) := hF
  rw [hF]
  have HSm : Hid (∀ x ∈ s.1, x.2.1.length ≤ 1000) := hsm
  clear h h1 h2 h3 h4 hF hsm hN
  refine callsIn_of_wp Tryz.func46 rfl trivial ?_
  simp only [Tryz.ntmps46, List.size_toArray, List.length_cons, List.length_nil, Nat.reduceAdd, Nat.reduceSub, Array.replicate_succ, Array.replicate_zero, List.push_toArray, List.append_toArray, List.nil_append, List.cons_append]
  gi_wp2
  gi_loopw [5] (fun s5 wr => ∃ k : Nat, k ≤ N ∧ s5 = .int .i64 (k : Int) ∧ Hid (∀ y ∈ s.1.take k, ¬ y = c) ∧ Chg No W1 wr) (fun s5 _ => N - (intOf s5).toNat)
  case atStart => exact ⟨0, Nat.zero_le _, rfl, fun y hy => by simp at hy, Chg.refl _ _⟩
  case round =>
    obtain ⟨k, hk, rfl, HT, ck⟩ := hrel
    have hrk := hr1.no ck
    obtain ⟨y0, y1, _, _⟩ := hrk.cells
    by_cases hlt : k < N
    · have hlt' : (k : Int) < (N : Int) := by omega
      obtain ⟨x, hx⟩ : ∃ x, s.1[k]? = some x := ⟨_, List.getElem?_eq_getElem (by rw [HN.out]; exact hlt)⟩
      obtain ⟨⟨r1, r2, r3⟩, b1, o1, _, rfl, f1, f2, f3, hcx⟩ := hrk.cell hx
      dsimp only at f1 f2 f3 hcx
      have z0 : wr.heap[w.heap.size]? = some (.cells #[.slice p n k0, .slice q m l, .string c.2.2] 43 (0, 0)) := ck.same x0 (fun h => h)
      have w0 : wr.cell? ⟨w.heap.size, 0, none⟩ = some (.slice p n k0) := by simp [World.cell?, z0]
      have w1 : wr.cell? ⟨w.heap.size, 1, none⟩ = some (.slice q m l) := by simp [World.cell?, z0]
      have w2 : wr.cell? ⟨w.heap.size, 2, none⟩ = some (.string c.2.2) := by simp [World.cell?, z0]
      have hck := hc1.no ck
      have hxs := HSm.out x (List.mem_of_getElem? hx)
      have hany := After.any wr
      have C1 : ∀ d : After wr, CallsIn Fence.wide 0 Tryz.prog 69 #[.agg #[r1, r2, .string r3], .agg #[.slice p n k0, .slice q m l, .string c.2.2]] d.val fun e w' => e = .returned (.bool (decide (x = c))) ∧ Chg No d.val w' := fun d => refSameC_in _ _ x c _ _ (by omega) _ (hcx.no d.chg) (hck.no d.chg)
      have g0 : ∀ d : After wr, d.val.cell? ⟨B, 0, none⟩ = some (.slice (some ⟨b1, o1, none⟩) N kv) := fun d => d.cell y0
      have g1 : ∀ d : After wr, d.val.cell? ⟨b1, o1 + k * 3, none⟩ = some r1 := fun d => d.cell f1
      have g2 : ∀ d : After wr, d.val.cell? ⟨b1, o1 + k * 3 + 1, none⟩ = some r2 := fun d => d.cell f2
      have g3 : ∀ d : After wr, d.val.cell? ⟨b1, o1 + k * 3 + 2, none⟩ = some (.string r3) := fun d => d.cell f3
      have g4 : ∀ d : After wr, d.val.cell? ⟨w.heap.size, 0, none⟩ = some (.slice p n k0) := fun d => d.cell w0
      have g5 : ∀ d : After wr, d.val.cell? ⟨w.heap.size, 1, none⟩ = some (.slice q m l) := fun d => d.cell w1
      have g6 : ∀ d : After wr, d.val.cell? ⟨w.heap.size, 2, none⟩ = some (.string c.2.2) := fun d => d.cell w2
      obtain ⟨u, HU⟩ : ∃ u, Hid (decide (x = c) = u) := ⟨_, rfl⟩
      rw [HU.out] at C1
      clear z0 w0 w1 w2 f1 f2 f3 hcx hck hxs
      gi_wp2
      refine region_quietC hmix (by kernel_rfl) ?_
      repeat (gi_big_quiet_step (fail))
      refine wpQuietIn_want (fun _ _ _ _ => trivial) rfl ?_
      intro KQ hKQ
      gi_big_quiet_op
      gi_big_quiet_call (exact ⟨rfl, (C1 _).mono (by rintro e w'' ⟨rfl, c'⟩; exact ⟨rfl, After.more _ c'⟩)⟩)
      repeat (gi_big_quiet_step (fail))
      refine wpQuietIn_nil ?_
      rintro w' ⟨d, rfl⟩
      have cd := Chg.seq ck d.chg
      clear g0 g1 g2 g3 g4 g5 g6 C1 hany y0 y1 hrk
      generalize d.val = W4 at *
      cases u with
      | true =>
        have HE : Hid (F = k + 1) := by
          show _ = _
          rw [← HF.out]
          have : x = c := of_decide_eq_true HU.out
          exact findC_here (by rw [hx, this]) HT.out
        gi_wp2
        go_ret
        refine ⟨?_, Chg.seq ca cd⟩
        rw [HE.out]
        show _ = Ending.returned (iv ((k + 1 : Nat) : Int))
        rw [Int.natCast_add]
        rfl
      | false =>
        have HT2 : Hid (∀ y ∈ s.1.take (k + 1), ¬ y = c) := by
          intro y hy
          rw [List.take_add_one, hx] at hy
          rcases List.mem_append.1 hy with h | h
          · exact HT.out y h
          · rw [List.mem_singleton.1 h]; exact of_decide_eq_false HU.out
        gi_wp2
        refine ⟨⟨k + 1, hlt, by go_num, HT2, cd⟩, by simp [intOf]; omega⟩
    · obtain rfl : k = N := by omega
      have hlt' : ¬ (k : Int) < (k : Int) := by omega
      have HE : Hid (F = 0) := by
        show _ = _
        rw [← HF.out]
        refine findC_zero.2 (fun hm => HT.out c ?_ rfl)
        rw [List.take_of_length_le (by rw [HN.out]; exact Nat.le_refl _)]
        exact hm
      gi_wp2
      go_ret
      exact ⟨by rw [HE.out]; rfl, Chg.seq ca ck⟩

end Go.Proofs.YtakbeololabmhaaGreatDoor

end
section
-- RAdd
namespace Go.Proofs.YtakbeololabmhaaGreatDoor
open Go.RowKit Go.Shelf Go.SeqLib Go.DiffLib Go.TreeLib Go.RepoLib Go.BigFrame
attribute [local go_sem] Oper.semAt_some

section
variable {W0 W W' : World} {B : Nat} {lv rv : Value} {rows : List Rw} {x : Rw} {d : Nat → Bool} {u : Nat → Value}
theorem SlE.one_lt {g : Nat} {v : Value} (h : SlE 3 eM W v [x]) (hv : v.ownBlock = some g) : g < W.heap.size := SlE.lt eM_len (by decide) h g ⟨by simp, hv⟩
theorem AddInv.s4 (h : AddInv W0 B lv rv rows x d u W) : AddInv W0 B lv rv rows x (fun j => if j = 4 then true else d j) (fun j => if j = 4 then lv else u j) W :=
  ⟨h.chg, h.v2, rfl, h.v9, h.v8, fun _ => rfl, fun e => h.o8 e, fun e => h.o11 e, fun e1 e2 => h.f5 e1 e2, fun e1 e2 => h.f7 e1 e2, fun e1 e2 e3 => h.a57 e1 e2 e3, fun e => h.f8 e, h.box⟩
theorem AddInv.s2 (h : AddInv W0 B lv rv rows x d u W) : AddInv W0 B lv rv rows x (fun j => if j = 2 then true else d j) (fun j => if j = 2 then ptr B else u j) W :=
  ⟨h.chg, rfl, h.v4, h.v9, h.v8, fun e => h.o5 e, fun e => h.o8 e, fun e => h.o11 e, fun e1 e2 => h.f5 e1 e2, fun e1 e2 => h.f7 e1 e2, fun e1 e2 e3 => h.a57 e1 e2 e3, fun e => h.f8 e, h.box⟩
theorem AddInv.s9 (h : AddInv W0 B lv rv rows x d u W) : AddInv W0 B lv rv rows x (fun j => if j = 9 then true else d j) (fun j => if j = 9 then ptr B else u j) W :=
  ⟨h.chg, h.v2, h.v4, rfl, h.v8, fun e => h.o5 e, fun e => h.o8 e, fun e => h.o11 e, fun e1 e2 => h.f5 e1 e2, fun e1 e2 => h.f7 e1 e2, fun e1 e2 e3 => h.a57 e1 e2 e3, fun e => h.f8 e, h.box⟩
theorem AddInv.s5 (h : AddInv W0 B lv rv rows x d u W) (hd : d 5 = false) (h4 : d 4 = true) {v : Value} (c : Chg No W W') (ho : OwnM W' W0.heap.size v rows) (hv : ∀ k, v.ownBlock = some k → W.heap.size ≤ k) :
    AddInv W0 B lv rv rows x (fun j => if j = 5 then true else d j) (fun j => if j = 5 then v else u j) W' := by
  have h8 : d 8 = false := by
    cases e : d 8 with
    | false => rfl
    | true => have := (h.o8 e).1; rw [hd] at this; cases this
  have h11 : d 11 = false := by
    cases e : d 11 with
    | false => rfl
    | true => have := h.o11 e; rw [h8] at this; cases this
  refine ⟨h.chg.trans c (fun _ h => h.elim), h.v2, h.v4, h.v9, h.v8, fun _ => h4, fun e => ⟨rfl, (h.o8 e).2⟩, fun e => h.o11 e, fun _ _ => ho, fun e1 e2 => ?_, fun _ e2 e3 k hk hk7 => ?_, fun e => ?_, ?_⟩
  · obtain ⟨a1, a2⟩ := h.f7 e1 e2
    exact ⟨SlE.no eM_len (by decide) a1 c, a2⟩
  · have hk' : v.ownBlock = some k := hk
    have := hv k hk'
    have := SlE.one_lt (h.f7 e2 e3).1 hk7
    omega
  · have e' : d 8 = true := e
    rw [h8] at e'
    cases e'
  · have := h.box
    show W'.heap[B]? = some (.cells #[if d 11 = true then u 8 else lv, rv] _ _)
    exact c.same this (fun h => h)
theorem AddInv.s7 (h : AddInv W0 B lv rv rows x d u W) (hd : d 7 = false) :
    AddInv W0 B lv rv rows x (fun j => if j = 7 then true else d j) (fun j => if j = 7 then .slice (some ⟨W.heap.size, 0, none⟩) 1 1 else u j) (W.alloc (.cells #[x.1, x.2.1, .string x.2.2] 43)) := by
  have h8 : d 8 = false := by
    cases e : d 8 with
    | false => rfl
    | true => have := (h.o8 e).2; rw [hd] at this; cases this
  have c : Chg No W (W.alloc (.cells #[x.1, x.2.1, .string x.2.2] 43)) := (Chg.refl _ W).alloc _
  refine ⟨h.chg.alloc _, h.v2, h.v4, h.v9, h.v8, fun e => h.o5 e, fun e => ⟨(h.o8 e).1, rfl⟩, fun e => h.o11 e, fun e1 e2 => ?_, fun _ _ => ⟨SlM.one W x, fun k hk => ?_⟩, fun e1 _ e3 k hk hk7 => ?_, fun e => ?_, ?_⟩
  · exact OwnM.kept (h.f5 e1 e2) (fun k hk => c.block k (World.ownsRow.lt (h.f5 e1 e2) k hk).2 (fun h => h))
  · cases hk
    exact h.chg.size
  · have hk5 : (u 5).ownBlock = some k := hk
    have h1 := (World.ownsRow.lt (h.f5 e1 e3) k hk5).2
    have h2 : W.heap.size = k := by cases hk7; rfl
    omega
  · have e' : d 8 = true := e
    rw [h8] at e'
    cases e'
  · exact c.same h.box (fun h => h)
theorem AddInv.s8 (h : AddInv W0 B lv rv rows x d u W) (hd : d 8 = false) (h5 : d 5 = true) (h7 : d 7 = true) {v : Value} (c : Chg (fun k => (u 5).ownBlock = some k) W W') (ho : OwnM W' W0.heap.size v (rows ++ [x])) (hB : B < W0.heap.size) :
    AddInv W0 B lv rv rows x (fun j => if j = 8 then true else d j) (fun j => if j = 8 then v else u j) W' := by
  have hlow : ∀ k, (u 5).ownBlock = some k → W0.heap.size ≤ k := fun k hk => (World.ownsRow.lt (h.f5 h5 hd) k hk).1
  have h11 : d 11 = false := by
    cases e : d 11 with
    | false => rfl
    | true => have := h.o11 e; rw [hd] at this; cases this
  obtain ⟨p', c', e'⟩ := row_slice ho
  refine ⟨h.chg.trans c (fun k hk => .inr (hlow k hk)), h.v2, h.v4, h.v9, ⟨p', _, c', e'⟩, fun e => h.o5 e, fun _ => ⟨h5, h7⟩, fun e => rfl, fun _ e2 => (by cases e2), fun _ e2 => (by cases e2), fun _ _ e3 => (by cases e3), fun _ => ho, ?_⟩
  have := h.box
  show W'.heap[B]? = some (.cells #[if d 11 = true then v else lv, rv] _ _)
  rw [h11] at this ⊢
  exact c.same this (fun hk => by have := hlow B hk; omega)
theorem AddInv.s11 (h : AddInv W0 B lv rv rows x d u W) (hd : d 11 = false) (h8 : d 8 = true) (hB : B < W0.heap.size) (v : Value) :
    AddInv W0 B lv rv rows x (fun j => if j = 11 then true else d j) (fun j => if j = 11 then v else u j) (W.setCell ⟨B, 0, none⟩ (u 8)) := by
  have c : Chg (fun k => k = B) W (W.setCell ⟨B, 0, none⟩ (u 8)) := (Chg.refl (fun k => k = B) W).setCell (p := ⟨B, 0, none⟩) (.inl rfl) _
  have hne : ∀ k, (u 8).ownBlock = some k → ¬ k = B := fun k hk e => by have := (World.ownsRow.lt (h.f8 h8) k hk).1; omega
  refine ⟨h.chg.trans c (fun k hk => .inl hk), h.v2, h.v4, h.v9, h.v8, fun e => h.o5 e, fun e => h.o8 e, fun _ => h8, fun e1 e2 => ?_, fun e1 e2 => ?_, fun e1 e2 e3 => ?_, fun _ => ?_, ?_⟩
  · have e' : d 8 = false := e2
    rw [h8] at e'; cases e'
  · have e' : d 8 = false := e2
    rw [h8] at e'; cases e'
  · have e' : d 8 = false := e3
    rw [h8] at e'; cases e'
  · exact OwnM.kept (h.f8 h8) (fun k hk => c.block k (World.ownsRow.lt (h.f8 h8) k hk).2 (hne k hk))
  · have := h.box
    rw [hd, if_neg Bool.false_ne_true] at this
    show (W.setCell ⟨B, 0, none⟩ (u 8)).heap[B]? = some (.cells #[u 8, rv] _ _)
    simp [World.setCell, Array.getElem?_modify, this]
end

end Go.Proofs.YtakbeololabmhaaGreatDoor

end
section
-- RAddG
namespace Go.Proofs.YtakbeololabmhaaGreatDoor
open Go.RowKit Go.Shelf Go.SeqLib Go.DiffLib Go.TreeLib Go.RepoLib Go.BigFrame
attribute [local go_sem] Oper.semAt_some

/-- The document's repo at block B, whose commits' lists lie in D. -/
structure RefG (D : Blk) (B : Nat) (s : Rp) (lv : Value) (rows : List Rw) (W : World) : Prop where
  box : W.heap[B]? = some (.cells #[lv, iv (s.2 : Nat)] 61 (0, 0))
  own : OwnM W 0 lv rows
  red : RowsD D W rows s.1
  ne : ¬ lv.ownBlock = some B
  apart : ∀ k, D k → ¬ refS B lv k
  lt : ∀ k, D k → k < W.heap.size
section
variable {D E T : Blk} {B : Nat} {s : Rp} {lv : Value} {rows : List Rw} {W W' : World}
theorem RefG.vw (h : RefG D B s lv rows W) : RefVw B s lv rows W := ⟨h.box, SlE.ofRow eM_len h.own, h.red.mono (fun _ _ => trivial)⟩
theorem RefG.ltO (h : RefG D B s lv rows W) : ∀ k, refS B lv k → k < W.heap.size := by
  rintro k (rfl | hk)
  · exact (Array.getElem?_eq_some_iff.1 h.box).1
  · exact (World.ownsRow.lt h.own k hk).2
theorem RefG.chg (h : RefG D B s lv rows W) (c : Chg T W W') (hd : ∀ k, (refS B lv k ∨ D k) → ¬ T k) : RefG D B s lv rows W' :=
  ⟨c.same h.box (hd B (.inl (.inl rfl))), OwnM.kept h.own (fun k hk => c.block k (World.ownsRow.lt h.own k hk).2 (hd k (.inl (.inr hk)))), h.red.chg c (fun k hk => hd k (.inr hk)), h.ne, h.apart, fun k hk => Nat.lt_of_lt_of_le (h.lt k hk) c.size⟩
theorem RefG.no (h : RefG D B s lv rows W) (c : Chg No W W') : RefG D B s lv rows W' := h.chg c (fun _ _ h => h)
theorem RefG.more (h : RefG D B s lv rows W) (hE : ∀ k, E k → ¬ refS B lv k) (hl : ∀ k, E k → k < W.heap.size) : RefG (fun k => D k ∨ E k) B s lv rows W :=
  ⟨h.box, h.own, h.red.mono (fun _ => .inl), h.ne, fun k hk => hk.elim (h.apart k) (hE k), fun k hk => hk.elim (h.lt k) (hl k)⟩
theorem RefG.slice (h : RefG D B s lv rows W) : ∃ p cap, lv = .slice p s.1.length cap := h.vw.slice
theorem RefG.cells (h : RefG D B s lv rows W) : W.cell? ⟨B, 0, none⟩ = some lv ∧ W.cell? ⟨B, 1, none⟩ = some (iv (s.2 : Nat)) ∧ W.frozen? ⟨B, 0, none⟩ = false ∧ W.frozen? ⟨B, 1, none⟩ = false := h.vw.cells
end
/-- The document's repo, behind a call. -/
def RefOutG (D : Blk) (B : Nat) (s' : Rp) (lv : Value) (w w' : World) : Prop := ∃ lv' rows', RefG D B s' lv' rows' w' ∧ Chg (refS B lv) w w' ∧ Grew (refS B lv) w (refS B lv')

theorem newG_in (room : Int) (h0 : -1000 ≤ room) (h1 : room ≤ 1000) (w : World) : CallsIn Fence.wide 0 Tryz.prog 24 #[iv room] w fun e w' => ∃ B, e = .returned (ptr B) ∧ RefG No B (newC room) (.slice none 0 0) [] w' ∧ w.heap.size ≤ B ∧ Chg No w w' := by
  refine (refNew_in 0 room h0 h1 w (Nat.zero_le _)).mono ?_
  rintro e w' ⟨B, rfl, h, hB, c⟩
  exact ⟨B, rfl, ⟨h.box, h.own, ⟨rfl, fun i r c h => by simp at h⟩, h.ne, fun _ h => h.elim, fun _ h => h.elim⟩, hB, c⟩

set_option maxRecDepth 100000 in
set_option maxHeartbeats 8000000 in
theorem addG_in (D E : Blk) (B : Nat) (s : Rp) (lv : Value) (rows : List Rw) (v : Value) (c : Cm) (w : World) (h : RefG D B s lv rows w) (hv : CmD E w v c) (hE : ∀ k, E k → ¬ refS B lv k) (hl : s.1.length ≤ 200) (hsm : ∀ x ∈ s.1, x.2.1.length ≤ 1000) (hc : SmallC c) :
    CallsIn Fence.wide 0 Tryz.prog 26 #[ptr B, v] w fun e w' => e = .returned (.tuple #[iv ((addC s c).2.1 : Nat), iv ((addC s c).2.2 : Nat)]) ∧ RefOutG (fun k => D k ∨ (E k ∧ k < w.heap.size)) B (addC s c).1 lv w w' := by
  have HM : Hid (∀ w', RefG D B s lv rows w' → Chg No w w' → RefOutG (fun k => D k ∨ (E k ∧ k < w.heap.size)) B s lv w w') := fun w' h' c' => ⟨lv, rows, h'.more (fun k hk => hE k hk.1) (fun k hk => Nat.lt_of_lt_of_le hk.2 c'.size), c'.mono (fun _ h => h.elim), Grew.refl _ _⟩
  have hvL := hv.low
  have hmix : Tryz.prog.follows .mixedOrders = true := by kernel_rfl
  have hv0 := hv
  obtain ⟨p, n, k0, q, m, l, rfl, h1, h2, h3, h4⟩ := hv
  obtain rfl : n = c.1.length := by obtain ⟨_, _, e, _⟩ := h1; cases e; simp
  obtain ⟨W1, hW1⟩ : ∃ W1, w.alloc (.cells #[.slice p c.1.length k0, .slice q m l, .string c.2.2] 43) = W1 := ⟨_, rfl⟩
  have ca : Chg No w W1 := hW1 ▸ (Chg.refl _ w).alloc _
  have x0 : W1.heap[w.heap.size]? = some (.cells #[.slice p c.1.length k0, .slice q m l, .string c.2.2] 43 (0, 0)) := hW1 ▸ World.alloc_heap_new w _
  have HX : Hid (∀ W, Chg No W1 W → W.cell? ⟨w.heap.size, 0, none⟩ = some (.slice p c.1.length k0) ∧ W.cell? ⟨w.heap.size, 1, none⟩ = some (.slice q m l) ∧ W.cell? ⟨w.heap.size, 2, none⟩ = some (.string c.2.2)) := fun W cW => by
    have z0 := cW.same x0 (fun h => h)
    refine ⟨?_, ?_, ?_⟩ <;> simp [World.cell?, z0]
  obtain ⟨y0, y1, y2⟩ := HX.out W1 (Chg.refl _ _)
  have hr1 := h.no ca
  have hv1 := hv0.no ca
  have M1 := refMayC_in _ c _ W1 hv1
  obtain ⟨np, hnp⟩ : ∃ np, c.1.length = np := ⟨_, rfl⟩
  have HNP : Hid (c.1.length = np) := hnp
  rw [hnp] at y0 h1 HX hv1 M1 hW1 ⊢
  have hnp5 : np ≤ 5 := by rw [← hnp]; exact hc.1
  have HA : Hid (addC s c = if mayC c = false then (s, 0, 6) else if c.1.all (hasN s.1.length) = false then (s, 0, 7) else if findC s.1 c = 0 then (if s.2 ≤ s.1.length then (s, 0, 3) else ((s.1 ++ [c], s.2), s.1.length + 1, 0)) else (s, findC s.1 c, 0)) := rfl
  obtain ⟨A, hA⟩ : ∃ A, addC s c = A := ⟨_, rfl⟩
  rw [hA] at HA ⊢
  have g1 := h1.no ca
  have hS : ∀ {W : World}, Chg No w W → Chg (refS B lv) w W := fun cW => cW.mono (fun _ h => h.elim)
  clear x0 h1 h2 h3 h4 hnp hA hv0
  refine callsIn_of_wp Tryz.func26 rfl trivial ?_
  simp only [Tryz.ntmps26, List.size_toArray, List.length_cons, List.length_nil, Nat.reduceAdd, Nat.reduceSub, Array.replicate_succ, Array.replicate_zero, List.push_toArray, List.append_toArray, List.nil_append, List.cons_append]
  gi_wp2_with fail
  refine ⟨trivial, rfl, M1.mono ?_⟩
  rintro e w2 ⟨rfl, c2⟩
  have c02 := Chg.seq ca c2
  have hr2 := hr1.no c2
  generalize mayC c = mb at HA ⊢
  cases mb with
  | false =>
    obtain rfl : A = (s, 0, 6) := by rw [HA.out, if_pos rfl]
    gi_wp2
    go_ret2
    exact ⟨rfl, HM.out _ hr2 c02⟩
  | true =>
  rw [if_neg (by decide)] at HA
  clear M1 hr1
  have HX2 : Hid (∀ W, Chg No w2 W → W.cell? ⟨w.heap.size, 0, none⟩ = some (.slice p np k0) ∧ W.cell? ⟨w.heap.size, 1, none⟩ = some (.slice q m l) ∧ W.cell? ⟨w.heap.size, 2, none⟩ = some (.string c.2.2)) := fun W cW => HX.out W (Chg.seq c2 cW)
  have hv2 := hv1.no c2
  have g2 := g1.no c2
  clear y0 y1 y2 HX hv1 g1 hW1
  gi_wp2
  gi_loopw [6] (fun s6 wr => ∃ k : Nat, k ≤ np ∧ s6 = .int .i64 (k : Int) ∧ Hid (∀ x ∈ c.1.take k, hasN s.1.length x = true) ∧ wr = w2) (fun s6 _ => np - (intOf s6).toNat)
  case atStart => exact ⟨0, Nat.zero_le _, rfl, fun y hy => by simp at hy, rfl⟩
  case round =>
    obtain ⟨k, hk, rfl, HT, hwr⟩ := hrel
    subst hwr
    obtain ⟨y0, y1, y2⟩ := HX2.out _ (Chg.refl _ _)
    by_cases hlt : k < np
    · have hlt' : (k : Int) < (np : Int) := by omega
      obtain ⟨pa, hpa⟩ : ∃ pa, c.1[k]? = some pa := ⟨_, List.getElem?_eq_getElem (by rw [HNP.out]; exact hlt)⟩
      obtain ⟨bp, op, rfl, hcp⟩ := g2.get1 (i := k) (x := iv pa) (by rw [List.getElem?_map, hpa]; rfl)
      have H1 := vwHas_in B s lv rows pa _ hr2.vw
      obtain ⟨u, HU⟩ : ∃ u, Hid (hasN s.1.length pa = u) := ⟨_, rfl⟩
      rw [HU.out] at H1
      gi_wp2_with fail
      refine ⟨trivial, rfl, H1.mono ?_⟩
      rintro e w3 ⟨rfl, hw3⟩
      subst hw3
      cases u with
      | false =>
        obtain rfl : A = (s, 0, 7) := by
          rw [HA.out, if_pos]
          exact List.all_eq_false.2 ⟨pa, List.mem_of_getElem? hpa, by rw [HU.out]; exact Bool.false_ne_true⟩
        gi_wp2
        go_ret2
        exact ⟨rfl, HM.out _ hr2 c02⟩
      | true =>
        have HT2 : Hid (∀ x ∈ c.1.take (k + 1), hasN s.1.length x = true) := by
          intro y hy
          rw [List.take_add_one, hpa] at hy
          rcases List.mem_append.1 hy with h | h
          · exact HT.out y h
          · rw [List.mem_singleton.1 h]; exact HU.out
        gi_wp2
        refine ⟨⟨k + 1, hlt, by go_num, HT2, trivial⟩, by simp [intOf]; omega⟩
    · obtain rfl : k = np := by omega
      have hlt' : ¬ (k : Int) < (k : Int) := by omega
      have hall : c.1.all (hasN s.1.length) = true := List.all_eq_true.2 (fun y hy => HT.out y (by rw [List.take_of_length_le (by rw [HNP.out]; exact Nat.le_refl _)]; exact hy))
      rw [hall, if_neg (by decide)] at HA
      have F1 := vwFind_in B s lv rows _ c _ _ hr2.vw hv2 (by omega) hsm
      clear hall HT
      gi_wp2_with fail
      refine ⟨trivial, rfl, F1.mono ?_⟩
      rintro e w3 ⟨rfl, c3⟩
      have c03 := Chg.seq c02 c3
      have hr3 := hr2.no c3
      have hv3 := hv2.no c3
      obtain ⟨z0, z1, z2⟩ := HX2.out _ c3
      obtain ⟨f, hf⟩ : ∃ f, findC s.1 c = f := ⟨_, rfl⟩
      rw [hf] at HA ⊢
      clear F1 hf hr2 hv2 y0 y1 y2
      by_cases hf0 : 0 < f
      · have hf1 : (0 : Int) < (f : Int) := by omega
        obtain rfl : A = (s, f, 0) := by rw [HA.out, if_neg (by omega)]
        gi_wp2
        go_ret2
        exact ⟨rfl, HM.out _ hr3 c03⟩
      · obtain rfl : f = 0 := by omega
        rw [if_pos rfl] at HA
        obtain ⟨pv, kv, rfl⟩ := hr3.slice
        obtain ⟨t0, t1, t2, t3⟩ := hr3.cells
        obtain ⟨N, hN⟩ : ∃ N, s.1.length = N := ⟨_, rfl⟩
        obtain ⟨R, hR⟩ : ∃ R, s.2 = R := ⟨_, rfl⟩
        have HNR : Hid (s.1.length = N ∧ s.2 = R) := ⟨hN, hR⟩
        rw [hN] at t0 HA hl
        rw [hR] at t1 HA
        clear hN hR
        gi_wp2
        by_cases hfull : R ≤ N
        · obtain rfl : A = (s, 0, 3) := by rw [HA.out, if_pos hfull]
          have hfd : decide (R ≤ N) = true := decide_eq_true hfull
          have hfi : (R : Int) ≤ (N : Int) := by omega
          refine wpIn_region_quiet_lit rfl hmix (by kernel_rfl) ?_
          repeat (gi_big_quiet_step (fail))
          refine wpQuietIn_nil ?_
          rintro w' ⟨j, rfl⟩
          have cj := drewNC (Chg.refl No w3) j
          gi_wp2
          go_ret2
          exact ⟨rfl, HM.out _ (hr3.no cj) (Chg.seq c03 cj)⟩
        · obtain rfl : A = ((s.1 ++ [c], s.2), N + 1, 0) := by rw [HA.out, if_neg hfull, HNR.out.2]
          have hfd : decide (R ≤ N) = false := decide_eq_false hfull
          have hfi : ¬ (R : Int) ≤ (N : Int) := by omega
          refine wpIn_region_quiet_lit rfl hmix (by kernel_rfl) ?_
          repeat (gi_big_quiet_step (fail))
          refine wpQuietIn_nil ?_
          rintro w' ⟨j, rfl⟩
          have cj := drewNC (Chg.refl No w3) j
          generalize w3.drewN j = W4 at *
          have hr4 := hr3.no cj
          have hv4 := hv3.no cj
          have c04 := Chg.seq c03 cj
          obtain ⟨t4, t5, t6, t7⟩ := hr4.cells
          rw [HNR.out.1] at t4
          rw [HNR.out.2] at t5
          have hBw : B < w.heap.size := h.ltO B (.inl rfl)
          have hB4 : B < W4.heap.size := hr4.ltO B (.inl rfl)
          have hlvB := hr4.ne
          obtain ⟨z0, z1, z2⟩ := HX2.out _ (Chg.seq c3 cj)
          have hne : ¬ w.heap.size = B := by omega
          have hany : Nonempty (AfterB (fun k => k = B) W4) := AfterB.any _ _
          have f0 : ∀ d : AfterB (fun k => k = B) W4, d.val.cell? ⟨w.heap.size, 0, none⟩ = some (.slice p k k0) := fun d => d.cell z0 hne
          have f1 : ∀ d : AfterB (fun k => k = B) W4, d.val.cell? ⟨w.heap.size, 1, none⟩ = some (.slice q m l) := fun d => d.cell z1 hne
          have f2 : ∀ d : AfterB (fun k => k = B) W4, d.val.cell? ⟨w.heap.size, 2, none⟩ = some (.string c.2.2) := fun d => d.cell z2 hne
          have hrow : ∀ W, Chg (fun k => k = B) W4 W → SlE 3 eM W (.slice pv N kv) rows := fun W cW => by
            have := SlE.chg eM_len (by decide) hr4.vw.sl cW (fun k hk e => hlvB (by rw [← e]; exact hk.2))
            rw [HNR.out.1] at this
            exact this
          have hone := hr4.red.one
          have hrl : rows.length = N := by rw [hr4.red.len, HNR.out.1]
          have hvL4 := hvL.no c04
          rw [HNP.out] at hvL4
          have hbox := hr4.box
          rw [HNR.out.1, HNR.out.2] at hbox
          have Hr4 : Hid _ := hr4
          have HE : Hid _ := hE
          clear hr3 hv3 z0 z1 z2 t0 t1 t2 t3 hr4 cj c3 c03 hfd hfi hfull HX2
          gi_wp2
          refine region_loudG (fun i => i == 2 || i == 4 || i == 5 || i == 7 || i == 8 || i == 9 || i == 11) (fun w' => ∃ d : AfterB (fun k => k = B) W4, w' = d.val) (AddInv W4 B (.slice pv N kv) (iv (R : Int)) rows (.slice p k k0, .slice q m l, c.2.2))
            (fun j => if j = 4 then .slice pv N kv else if j = 2 then ptr B else if j = 9 then ptr B else .slice none 0 0) hmix (by kernel_rfl) (by kernel_rfl) (fun d u W hI => ⟨⟨W, hI.chg⟩, rfl⟩)
            ⟨(Chg.refl _ W4).drew, rfl, rfl, rfl, ⟨none, 0, 0, rfl⟩, fun h => (by cases h), fun h => (by cases h), fun h => (by cases h), fun h => (by cases h), fun h => (by cases h), fun h => (by cases h), fun h => (by cases h), hbox⟩ (fun u hu => ?_)
          obtain ⟨_, _, hu⟩ := hu
          have e2 := hu.v2
          have e4 := hu.v4
          have e9 := hu.v9
          obtain ⟨q8, m8, k8, e8⟩ := hu.v8
          clear hu
          simp only [hushE, Nat.reduceAdd, Nat.reduceBEq, Bool.or_self, Bool.or_true, Bool.or_false, if_true, if_false, Bool.false_eq_true]
          simp only [e2, e4, e8, e9]
          repeat (gi_big_quiet_step (fail))
          refine wpQuietIn_nil ⟨?_, ?_, ?_⟩
          · intro i oo ho hm
            simp only [Bool.or_eq_true, beq_iff_eq] at hm
            rcases hm with (((((rfl | rfl) | rfl) | rfl) | rfl) | rfl) | rfl
            all_goals (cases ho; rfl)
          · intro i oo d W hjo hm hd hwt hI
            simp only [Bool.or_eq_true, beq_iff_eq] at hm
            rcases hm with (((((rfl | rfl) | rfl) | rfl) | rfl) | rfl) | rfl
            · cases hjo
              refine LeadsV.value (v := ptr B) (w' := W) ?_ hI.s2
              simp [go_sem]
            · cases hjo
              have h11 : d 11 = false := by
                cases e : d 11 with
                | false => rfl
                | true =>
                  have := hI.o5 (hI.o8 (hI.o11 e)).1
                  rw [hd] at this
                  cases this
              have hb := hI.box
              rw [h11, if_neg Bool.false_ne_true] at hb
              have kb : W.cell? ⟨B, 0, none⟩ = some (.slice pv N kv) := by simp [World.cell?, hb]
              refine LeadsV.value (v := .slice pv N kv) (w' := W) ?_ hI.s4
              simp [go_sem, kb]
            · cases hjo
              refine LeadsV.append_sm _ _ rfl W4.heap.size (.slice none 0 0) [] rfl (World.ownsRow_nil _ _ _ _) pv N kv rows rfl (hrow W hI.chg) hone (by simp; omega) hI.chg.size ?_
              intro v' w' ho' hg' hat
              rw [List.nil_append] at ho'
              refine hI.s5 hd (hwt 4 rfl (by kernel_rfl)) ((Chg.refl _ W).grown hg' (fun k e => by cases e)) ho' (fun k hk => ?_)
              rcases hat with e | e
              · rw [e] at hk; cases hk
              · rw [e] at hk; cases hk; exact Nat.le_refl _
            · cases hjo
              refine LeadsV.value (v := .slice (some ⟨W.heap.size, 0, none⟩) 1 1) (w' := W.alloc (.cells #[.slice p k k0, .slice q m l, .string c.2.2] 43)) ?_ (hI.s7 hd)
              simp [go_sem]
            · cases hjo
              have h5 := hwt 5 rfl (by kernel_rfl)
              have h7 := hwt 7 rfl (by kernel_rfl)
              obtain ⟨f7a, f7b⟩ := hI.f7 h7 hd
              have f7c := f7a
              obtain ⟨q7, k7, e7, _⟩ := f7c
              have f7d := f7a
              rw [e7] at f7d
              refine LeadsV.append_sm _ _ rfl W4.heap.size (u 5) rows rfl (hI.f5 h5 hd) q7 1 k7 [(.slice p k k0, .slice q m l, c.2.2)] e7 f7d (fun r hr => by rw [List.mem_singleton.1 hr]; exact ⟨rfl, rfl⟩) (by omega) hI.chg.size ?_
              intro v' w' ho' hg' hat
              exact hI.s8 hd h5 h7 ((Chg.refl (fun k => (u 5).ownBlock = some k) W).grown hg' (fun k e => .inl e)) ho' hB4
            · cases hjo
              refine LeadsV.value (v := ptr B) (w' := W) ?_ hI.s9
              simp [go_sem]
            · cases hjo
              have h8 := hwt 8 rfl (by kernel_rfl)
              have hb := hI.box
              rw [hd, if_neg Bool.false_ne_true] at hb
              have kb : W.cell? ⟨B, 0, none⟩ = some (.slice pv N kv) := by simp [World.cell?, hb]
              have kf : W.frozen? ⟨B, 0, none⟩ = false := by simp [World.frozen?, hb]
              refine LeadsV.skip (w' := W.setCell ⟨B, 0, none⟩ (u 8)) ?_ (hI.s11 hd h8 hB4 undef)
              rw [e8]
              simp [go_sem, kb, kf]
          · intro d W hall hI
            have h8 := hall 8 rfl (by simp)
            have h11 := hall 11 rfl (by simp)
            have hb := hI.box
            rw [h11, if_pos rfl] at hb
            have ho8 := hI.f8 h8
            have hcW := hI.chg
            have hm8 : m8 = N + 1 := by
              obtain ⟨p', c', e'⟩ := row_slice ho8
              rw [e8, Value.slice.injEq] at e'
              rw [e'.2.1, List.length_append, hrl]
              rfl
            subst hm8
            have kb : W.cell? ⟨B, 0, none⟩ = some (.slice q8 (N + 1) k8) := by rw [← e8]; simp [World.cell?, hb]
            have hlow8 : ∀ k, (u 8).ownBlock = some k → W4.heap.size ≤ k := fun k hk => (World.ownsRow.lt ho8 k hk).1
            have hr4 := Hr4.out
            have hR : RefG (fun k => D k ∨ (E k ∧ k < w.heap.size)) B (s.1 ++ [c], s.2) (u 8) (rows ++ [(.slice p k k0, .slice q m l, c.2.2)]) W := by
              refine ⟨by rw [HNR.out.2]; exact hb, rowBase ho8 (Nat.zero_le _), (hr4.red.chg hcW (fun j hj e => hr4.apart j hj (.inl e))).snoc (hvL4.chg hcW (fun j hj e => HE.out j hj.1 (.inl e))), fun e => by have := hlow8 B e; omega, fun j hj e => ?_, fun j hj => ?_⟩
              · rcases hj with hj | hj
                · rcases e with e | e
                  · exact hr4.apart j hj (.inl e)
                  · have := hlow8 j e; have := hr4.lt j hj; omega
                · rcases e with e | e
                  · exact HE.out j hj.1 (.inl e)
                  · have := hlow8 j e; have := hj.2; have := c04.size; omega
              · rcases hj with hj | hj
                · exact Nat.lt_of_lt_of_le (hr4.lt j hj) hcW.size
                · exact Nat.lt_of_lt_of_le hj.2 (Nat.le_trans c04.size hcW.size)
            have hout : RefOutG (fun k => D k ∨ (E k ∧ k < w.heap.size)) B (s.1 ++ [c], s.2) (.slice pv s.1.length kv) w W := by
              refine ⟨_, _, hR, (c04.mono (fun _ h => h.elim)).trans hcW (fun k e => .inl (.inl e)), fun k hk => ?_⟩
              rcases hk with rfl | hk
              · exact .inl (.inl rfl)
              · exact .inr (Nat.le_trans c04.size (hlow8 k hk))
            clear hI hall f0 f1 f2 hany e4 hrow
            gi_wp2
            go_ret2
            exact ⟨rfl, hout⟩

end Go.Proofs.YtakbeololabmhaaGreatDoor

end
section
-- LPut
namespace Go.Proofs.YtakbeololabmhaaGreatDoor
open Go.RowKit Go.Shelf Go.SeqLib Go.DiffLib Go.TreeLib Go.RepoLib Go.DagLib Go.BigFrame
attribute [local go_sem] Oper.semAt_some

/-- A sequence of numbers that turns nothing, over the blocks D. -/
def PSeq (W : World) (gf : Nat) (lb : Array Value) (xs : List Int) (D : Blk) : Prop :=
  ∃ I0, Iter Tryz.prog gf lb encI xs D No I0 (fun _ => I0) ∧ I0 W ∧ ∀ args w, (callFunc gf args).run Tryz.prog w = .ok (.enter gf args) w
theorem PSeq.no {W W' : World} {gf : Nat} {lb : Array Value} {xs : List Int} {D : Blk} (h : PSeq W gf lb xs D) (c : Chg No W W') : PSeq W' gf lb xs D := by
  obtain ⟨I0, it, hi, he⟩ := h
  exact ⟨I0, it, it.kept0 hi c.size (fun k hk => c.block k (it.lt0 hi k hk) (fun h => h)), he⟩
/-- What the statements ask of repo. -/
structure PutSpec (Rep : Nat → Rp → Blk → Blk → World → Prop) : Prop where
  part : ∀ B s O, Part (fun S W => Rep B s S O W)
  sub : ∀ {B s S O W}, Rep B s S O W → ∀ k, O k → S k
  new : ∀ (room : Int) (w : World), -1000 ≤ room → room ≤ 1000 → CallsIn Fence.wide 0 Tryz.prog 23 #[iv room] w fun e w' => ∃ B S O, e = .returned (ptr B) ∧ Rep B (newC room) S O w' ∧ (∀ k, S k → w.heap.size ≤ k) ∧ Chg No w w'
  add : ∀ (B : Nat) (s : Rp) (S O D : Blk) (v : Value) (c : Cm) (w : World), Rep B s S O w → CmD D w v c → (∀ k, D k → ¬ S k) → SmallC c → s.1.length ≤ 200 →
    CallsIn Fence.wide 0 Tryz.prog 25 #[ptr B, v] w fun e w' => ∃ S' O', e = .returned (.tuple #[iv ((addC s c).2.1 : Nat), iv ((addC s c).2.2 : Nat)]) ∧ Rep B (addC s c).1 S' O' w' ∧ Chg O w w' ∧ Grew S w S' ∧ Grew O w O'
  len : ∀ (B : Nat) (s : Rp) (S O : Blk) (w : World), Rep B s S O w → s.1.length ≤ 200 → CallsIn Fence.wide 0 Tryz.prog 16 #[ptr B] w fun e w' => e = .returned (iv (s.1.length : Nat)) ∧ Chg No w w'

end Go.Proofs.YtakbeololabmhaaGreatDoor

end
section
-- RNum
namespace Go.RepoLib
open Go Go.TreeLib

theorem addC_cases (s : Rp) (c : Cm) :
    (mayC c = true ∧ c.1.all (hasN s.1.length) = true ∧ ((findC s.1 c ≠ 0 ∧ addC s c = (s, findC s.1 c, 0)) ∨ (findC s.1 c = 0 ∧ s.1.length < s.2 ∧ addC s c = ((s.1 ++ [c], s.2), s.1.length + 1, 0)))) ∨
    ((addC s c).1 = s ∧ (addC s c).2.1 = 0 ∧ ((addC s c).2.2 = 6 ∨ (addC s c).2.2 = 7 ∨ ((addC s c).2.2 = 3 ∧ s.2 ≤ s.1.length))) := by
  unfold addC
  by_cases h1 : mayC c = false
  · rw [if_pos h1]
    exact .inr ⟨rfl, rfl, .inl rfl⟩
  · rw [if_neg h1]
    by_cases h2 : c.1.all (hasN s.1.length) = false
    · rw [if_pos h2]
      exact .inr ⟨rfl, rfl, .inr (.inl rfl)⟩
    · rw [if_neg h2]
      have h1' : mayC c = true := by simpa using h1
      have h2' : c.1.all (hasN s.1.length) = true := by
        cases h : c.1.all (hasN s.1.length) with
        | true => rfl
        | false => exact absurd h h2
      by_cases h3 : findC s.1 c = 0
      · rw [if_pos h3]
        by_cases h4 : s.2 ≤ s.1.length
        · rw [if_pos h4]
          exact .inr ⟨rfl, rfl, .inr (.inr ⟨rfl, h4⟩)⟩
        · rw [if_neg h4]
          exact .inl ⟨h1', h2', .inr ⟨h3, by omega, rfl⟩⟩
      · rw [if_neg h3]
        exact .inl ⟨h1', h2', .inl ⟨h3, rfl⟩⟩
/-- No commit stands twice; each may be, and has parents ahead of it. -/
structure Good (s : Rp) : Prop where
  nodup : s.1.Nodup
  may : ∀ (i : Nat) (c : Cm), s.1[i]? = some c → mayC c = true ∧ c.1.all (hasN i) = true
theorem Good.nil (r : Nat) : Good ([], r) := ⟨List.nodup_nil, fun i c h => by simp at h⟩
theorem addC_room (s : Rp) (c : Cm) : (addC s c).1.2 = s.2 := by
  rcases addC_cases s c with ⟨_, _, ⟨_, h⟩ | ⟨_, _, h⟩⟩ | ⟨h, _⟩ <;> rw [h]
theorem addC_len (s : Rp) (c : Cm) : (addC s c).1.1.length ≤ s.1.length + 1 := by
  rcases addC_cases s c with ⟨_, _, ⟨_, h⟩ | ⟨_, _, h⟩⟩ | ⟨h, _⟩
  · rw [h]; exact Nat.le_succ _
  · rw [h]; show (s.1 ++ [c]).length ≤ _; rw [List.length_append]; exact Nat.le_refl _
  · rw [h]; exact Nat.le_succ _
theorem Good.add {s : Rp} (g : Good s) (c : Cm) : Good (addC s c).1 := by
  rcases addC_cases s c with ⟨h1, h2, ⟨_, h⟩ | ⟨h3, _, h⟩⟩ | ⟨h, _⟩
  · rw [h]; exact g
  · rw [h]
    refine ⟨?_, fun i d hd => ?_⟩
    · show (s.1 ++ [c]).Nodup
      rw [List.nodup_append]
      exact ⟨g.nodup, by simp, fun x hx y hy e => by rw [List.mem_singleton] at hy; subst hy; subst e; exact findC_zero.1 h3 hx⟩
    · rcases Nat.lt_or_ge i s.1.length with hi | hi
      · have : s.1[i]? = some d := by rw [← hd]; exact (List.getElem?_append_left hi).symm
        exact g.may i d this
      · have h4 : (s.1 ++ [c])[i]? = some d := hd
        rw [List.getElem?_append_right hi] at h4
        obtain ⟨h5, rfl⟩ := List.getElem?_eq_some_iff.1 h4
        have h6 : i = s.1.length := by simp at h5; omega
        subst h6
        simp only [Nat.sub_self, List.getElem_cons_zero]
        exact ⟨h1, h2⟩
  · rw [h]; exact g
/-! ### One behind the other -/
def stN (r : Nat) (cs : List Cm) : Rp := cs.foldl (fun s c => (addC s c).1) ([], r)
theorem stN_snoc (r : Nat) (cs : List Cm) (c : Cm) : stN r (cs ++ [c]) = (addC (stN r cs) c).1 := by unfold stN; rw [List.foldl_append]; rfl
theorem stN_good (r : Nat) (cs : List Cm) : ∀ k, Good (stN r (cs.take k))
  | 0 => Good.nil r
  | k + 1 => by
    rcases Nat.lt_or_ge k cs.length with h | h
    · rw [List.take_succ_eq_append_getElem h, stN_snoc]
      exact (stN_good r cs k).add _
    · have := stN_good r cs k
      rw [List.take_of_length_le h] at this
      rw [List.take_of_length_le (by omega)]
      exact this
theorem stN_room (r : Nat) (cs : List Cm) : ∀ k, (stN r (cs.take k)).2 = r
  | 0 => rfl
  | k + 1 => by
    rcases Nat.lt_or_ge k cs.length with h | h
    · rw [List.take_succ_eq_append_getElem h, stN_snoc, addC_room]
      exact stN_room r cs k
    · have := stN_room r cs k
      rw [List.take_of_length_le h] at this
      rw [List.take_of_length_le (by omega)]
      exact this
theorem stN_len (r : Nat) (cs : List Cm) : ∀ k, (stN r (cs.take k)).1.length ≤ k
  | 0 => Nat.le_refl _
  | k + 1 => by
    have ih := stN_len r cs k
    rcases Nat.lt_or_ge k cs.length with h | h
    · rw [List.take_succ_eq_append_getElem h, stN_snoc]
      have := addC_len (stN r (cs.take k)) cs[k]
      omega
    · rw [List.take_of_length_le h] at ih
      rw [List.take_of_length_le (by omega)]
      omega
end Go.RepoLib

end
