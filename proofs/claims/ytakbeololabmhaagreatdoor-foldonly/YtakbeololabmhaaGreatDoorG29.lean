/-
  Of: KAdd, KPut.
-/
import Derived.Test.YtakbeololabmhaaGreatDoorG28
import Derived.Test.YtakbeololabmhaaGreatDoorG09
section
-- KAdd
namespace Go.Proofs.YtakbeololabmhaaGreatDoor
open Go.RowKit Go.Shelf Go.SeqLib Go.DiffLib Go.TreeLib Go.RepoLib Go.BigFrame
attribute [local go_sem] Oper.semAt_some

/-- A commit's value as a row. -/
def rwOf (nt : ByteArray) (v : Value) : Rw := match v with | .agg a => (a.getD 0 undef, a.getD 1 undef, nt) | _ => (undef, undef, nt)
/-- What holds while one commit more is taken. -/
structure PutInvC (W0 : World) (B : Nat) (lv rv : Value) (rows : List Rw) (nt : ByteArray) (ps : List Int) (zs : List Fl) (d : Nat → Bool) (u : Nat → Value) (W : World) : Prop where
  chg : Chg (refS B lv) W0 W
  v2 : u 2 = ptr B
  v4 : u 4 = lv
  v9 : u 9 = ptr B
  v6 : ∃ q m k q' m' k', u 6 = .agg #[.slice q m k, .slice q' m' k', .string nt]
  v7 : ∃ q m k, u 7 = .slice q m k
  v8 : ∃ q m k, u 8 = .slice q m k
  o7 : d 7 = true → d 6 = true
  o8 : d 8 = true → d 4 = true ∧ d 7 = true
  o11 : d 11 = true → d 8 = true
  f4 : d 8 = false → OwnM W 0 lv rows
  f6 : d 6 = true → OwnI W W0.heap.size (rwOf nt (u 6)).1 ps ∧ OwnF W W0.heap.size (rwOf nt (u 6)).2.1 zs
  f7 : d 7 = true → d 8 = false → SlE 3 eM W (u 7) [rwOf nt (u 6)] ∧ ∀ k, (u 7).ownBlock = some k → W0.heap.size ≤ k
  f8 : d 8 = true → OwnM W 0 (u 8) (rows ++ [rwOf nt (u 6)]) ∧ ∀ k, (u 8).ownBlock = some k → lv.ownBlock = some k ∨ W0.heap.size ≤ k
  box : W.heap[B]? = some (.cells #[rv, if d 11 = true then u 8 else lv] 67 (0, 0))
section
variable {W0 W W' : World} {B : Nat} {lv rv : Value} {rows : List Rw} {nt : ByteArray} {ps : List Int} {zs : List Fl} {d : Nat → Bool} {u : Nat → Value}
theorem PutInvC.s4 (h : PutInvC W0 B lv rv rows nt ps zs d u W) : PutInvC W0 B lv rv rows nt ps zs (fun j => if j = 4 then true else d j) (fun j => if j = 4 then lv else u j) W :=
  ⟨h.chg, h.v2, rfl, h.v9, h.v6, h.v7, h.v8, fun e => h.o7 e, fun e => ⟨rfl, (h.o8 e).2⟩, fun e => h.o11 e, fun e => h.f4 e, fun e => h.f6 e, fun e1 e2 => h.f7 e1 e2, fun e => h.f8 e, h.box⟩
theorem PutInvC.s2 (h : PutInvC W0 B lv rv rows nt ps zs d u W) : PutInvC W0 B lv rv rows nt ps zs (fun j => if j = 2 then true else d j) (fun j => if j = 2 then ptr B else u j) W :=
  ⟨h.chg, rfl, h.v4, h.v9, h.v6, h.v7, h.v8, fun e => h.o7 e, fun e => h.o8 e, fun e => h.o11 e, fun e => h.f4 e, fun e => h.f6 e, fun e1 e2 => h.f7 e1 e2, fun e => h.f8 e, h.box⟩
theorem PutInvC.s9 (h : PutInvC W0 B lv rv rows nt ps zs d u W) : PutInvC W0 B lv rv rows nt ps zs (fun j => if j = 9 then true else d j) (fun j => if j = 9 then ptr B else u j) W :=
  ⟨h.chg, h.v2, h.v4, rfl, h.v6, h.v7, h.v8, fun e => h.o7 e, fun e => h.o8 e, fun e => h.o11 e, fun e => h.f4 e, fun e => h.f6 e, fun e1 e2 => h.f7 e1 e2, fun e => h.f8 e, h.box⟩
theorem PutInvC.n8 (h : PutInvC W0 B lv rv rows nt ps zs d u W) (h7 : d 7 = false) : d 8 = false := by
  cases e : d 8 with
  | false => rfl
  | true => have := (h.o8 e).2; rw [h7] at this; cases this
theorem PutInvC.n7 (h : PutInvC W0 B lv rv rows nt ps zs d u W) (h6 : d 6 = false) : d 7 = false := by
  cases e : d 7 with
  | false => rfl
  | true => have := h.o7 e; rw [h6] at this; cases this
theorem PutInvC.n11 (h : PutInvC W0 B lv rv rows nt ps zs d u W) (h8 : d 8 = false) : d 11 = false := by
  cases e : d 11 with
  | false => rfl
  | true => have := h.o11 e; rw [h8] at this; cases this
theorem PutInvC.s6 (h : PutInvC W0 B lv rv rows nt ps zs d u W) (hd : d 6 = false) {pv tv : Value} (c : Chg No W W') (h1 : OwnI W' W0.heap.size pv ps) (h2 : OwnF W' W0.heap.size tv zs) :
    PutInvC W0 B lv rv rows nt ps zs (fun j => if j = 6 then true else d j) (fun j => if j = 6 then .agg #[pv, tv, .string nt] else u j) W' := by
  have h7 := h.n7 hd
  have h8 := h.n8 h7
  have h11 := h.n11 h8
  obtain ⟨p1, k1, e1⟩ := row_slice h1
  obtain ⟨p2, k2, e2⟩ := row_slice h2
  refine ⟨h.chg.trans c (fun _ h => h.elim), h.v2, h.v4, h.v9, ⟨p1, _, k1, p2, _, k2, by rw [← e1, ← e2]; rfl⟩, h.v7, h.v8, fun _ => rfl, fun e => h.o8 e, fun e => h.o11 e, fun e => own_still (h.f4 e) c (fun _ _ h => h), fun _ => ⟨h1, h2⟩, fun e _ => ?_, fun e => ?_, ?_⟩
  · have e' : d 7 = true := e
    rw [h7] at e'; cases e'
  · have e' : d 8 = true := e
    rw [h8] at e'; cases e'
  · have hb := h.box
    rw [h11, if_neg Bool.false_ne_true] at hb
    show W'.heap[B]? = some (.cells #[rv, if d 11 = true then u 8 else lv] _ _)
    rw [h11, if_neg Bool.false_ne_true]
    exact c.same hb (fun h => h)
theorem PutInvC.s7 (h : PutInvC W0 B lv rv rows nt ps zs d u W) (hd : d 7 = false) (h6 : d 6 = true) {pv tv : Value} (e6 : u 6 = .agg #[pv, tv, .string nt]) :
    PutInvC W0 B lv rv rows nt ps zs (fun j => if j = 7 then true else d j) (fun j => if j = 7 then .slice (some ⟨W.heap.size, 0, none⟩) 1 1 else u j) (W.alloc (.cells #[pv, tv, .string nt] 43)) := by
  have h8 := h.n8 hd
  have c : Chg No W (W.alloc (.cells #[pv, tv, .string nt] 43)) := (Chg.refl _ W).alloc _
  refine ⟨h.chg.alloc _, h.v2, h.v4, h.v9, h.v6, ⟨_, _, _, rfl⟩, h.v8, fun _ => h6, fun e => ⟨(h.o8 e).1, rfl⟩, fun e => h.o11 e, fun e => own_still (h.f4 e) c (fun _ _ h => h), fun e => ⟨own_still (h.f6 e).1 c (fun _ _ h => h), own_still (h.f6 e).2 c (fun _ _ h => h)⟩, fun _ _ => ⟨?_, fun k hk => ?_⟩, fun e => ?_, c.same h.box (fun h => h)⟩
  · have hr : rwOf nt (u 6) = (pv, tv, nt) := by rw [e6]; rfl
    show SlE 3 eM _ (.slice (some ⟨W.heap.size, 0, none⟩) 1 1) [rwOf nt (u 6)]
    rw [hr]
    exact SlM.one W (pv, tv, nt)
  · cases hk
    exact h.chg.size
  · have e' : d 8 = true := e
    rw [h8] at e'; cases e'
theorem PutInvC.s8 (h : PutInvC W0 B lv rv rows nt ps zs d u W) (hne : ¬ lv.ownBlock = some B) (hd : d 8 = false) (h4 : d 4 = true) (h7 : d 7 = true) {v : Value} (hg : W.grownBy W' lv.ownBlock) (ho : OwnM W' 0 v (rows ++ [rwOf nt (u 6)])) (hat : v.ownBlock = lv.ownBlock ∨ v.ownBlock = some W.heap.size) (hlt : ∀ k, lv.ownBlock = some k → k < W0.heap.size) :
    PutInvC W0 B lv rv rows nt ps zs (fun j => if j = 8 then true else d j) (fun j => if j = 8 then v else u j) W' := by
  have h11 := h.n11 hd
  have h6 := h.o7 h7
  have c : Chg (fun k => lv.ownBlock = some k) W W' := (Chg.refl (fun k => lv.ownBlock = some k) W).grown hg (fun k e => .inl e)
  obtain ⟨p', c', e'⟩ := row_slice ho
  refine ⟨h.chg.trans c (fun k hk => .inl (.inr hk)), h.v2, h.v4, h.v9, h.v6, h.v7, ⟨p', _, c', e'⟩, fun e => h.o7 e, fun _ => ⟨h4, h7⟩, fun e => rfl, fun e => (by cases e), fun e => ⟨own_still (h.f6 e).1 c (fun k hk e => ?_), own_still (h.f6 e).2 c (fun k hk e => ?_)⟩, fun _ e => (by cases e), fun _ => ⟨ho, fun k hk => ?_⟩, ?_⟩
  · have := (World.ownsRow.lt (h.f6 h6).1 k hk).1
    have := hlt k e
    omega
  · have := (World.ownsRow.lt (h.f6 h6).2 k hk).1
    have := hlt k e
    omega
  · have hk' : v.ownBlock = some k := hk
    rcases hat with e | e
    · exact .inl (by rw [← e]; exact hk')
    · rw [e] at hk'
      cases hk'
      exact .inr h.chg.size
  · have hb := h.box
    rw [h11, if_neg Bool.false_ne_true] at hb
    show W'.heap[B]? = some (.cells #[rv, if d 11 = true then v else lv] _ _)
    rw [h11, if_neg Bool.false_ne_true]
    exact c.same hb hne
theorem PutInvC.s11 (h : PutInvC W0 B lv rv rows nt ps zs d u W) (hB : B < W0.heap.size) (hne : ¬ lv.ownBlock = some B) (h8 : d 8 = true) (v : Value) :
    PutInvC W0 B lv rv rows nt ps zs (fun j => if j = 11 then true else d j) (fun j => if j = 11 then v else u j) (W.setCell ⟨B, 1, none⟩ (u 8)) := by
  have c : Chg (fun k => k = B) W (W.setCell ⟨B, 1, none⟩ (u 8)) := (Chg.refl (fun k => k = B) W).setCell (p := ⟨B, 1, none⟩) (.inl rfl) _
  refine ⟨h.chg.trans c (fun k hk => .inl (.inl hk)), h.v2, h.v4, h.v9, h.v6, h.v7, h.v8, fun e => h.o7 e, fun e => h.o8 e, fun _ => h8, fun e => ?_, fun e => ⟨own_still (h.f6 e).1 c (fun k hk e' => ?_), own_still (h.f6 e).2 c (fun k hk e' => ?_)⟩, fun e1 e2 => ?_, fun _ => ⟨own_still (h.f8 h8).1 c (fun k hk e => ?_), fun k hk => (h.f8 h8).2 k hk⟩, ?_⟩
  · have e' : d 8 = false := e
    rw [h8] at e'; cases e'
  · have := (World.ownsRow.lt (h.f6 e).1 k hk).1; omega
  · have := (World.ownsRow.lt (h.f6 e).2 k hk).1; omega
  · have e' : d 8 = false := e2
    rw [h8] at e'; cases e'
  · subst e
    rcases (h.f8 h8).2 k hk with h1 | h1
    · exact hne h1
    · omega
  · have := h.box
    show (W.setCell ⟨B, 1, none⟩ (u 8)).heap[B]? = some (.cells #[rv, u 8] _ _)
    simp [World.setCell, Array.getElem?_modify, this]
end

/-- The landed repo, behind a call. -/
def LOut (B : Nat) (s' : Rp) (lv : Value) (D : Blk) (w w' : World) : Prop := ∃ lv' rows' D', KRep B s' lv' rows' D' w' ∧ Chg (refS B lv) w w' ∧ Grew (fun k => refS B lv k ∨ D k) w (fun k => refS B lv' k ∨ D' k) ∧ Grew (refS B lv) w (refS B lv')
theorem LOut.same {B : Nat} {s : Rp} {lv : Value} {rows : List Rw} {D : Blk} {w w' : World} (h : KRep B s lv rows D w') (c : Chg No w w') : LOut B s lv D w w' :=
  ⟨lv, rows, D, h, c.mono (fun _ h => h.elim), Grew.refl _ _, Grew.refl _ _⟩

set_option maxRecDepth 100000 in
set_option maxHeartbeats 8000000 in
theorem add_in (B : Nat) (s : Rp) (lv : Value) (rows : List Rw) (D E : Blk) (v : Value) (c : Cm) (w : World) (h : KRep B s lv rows D w) (hv : CmD E w v c) (hE : ∀ k, E k → ¬ refS B lv k) (hl : s.1.length ≤ 200) (hc : SmallC c) :
    CallsIn Fence.wide 0 Tryz.prog 25 #[ptr B, v] w fun e w' => e = .returned (.tuple #[iv ((addC s c).2.1 : Nat), iv ((addC s c).2.2 : Nat)]) ∧ LOut B (addC s c).1 lv D w w' := by
  have hmix : Tryz.prog.follows .mixedOrders = true := by kernel_rfl
  have hnil := ptr_nil B
  have hv0 := hv
  obtain ⟨p, n, k0, q, m, l, rfl, h1, h2, h3, h4⟩ := hv
  obtain rfl : n = c.1.length := by obtain ⟨_, _, e, _⟩ := h1; cases e; simp
  obtain ⟨W1, hW1⟩ : ∃ W1, w.alloc (.cells #[.slice p c.1.length k0, .slice q m l, .string c.2.2] 43) = W1 := ⟨_, rfl⟩
  have ca : Chg No w W1 := hW1 ▸ (Chg.refl _ w).alloc _
  have x0 : W1.heap[w.heap.size]? = some (.cells #[.slice p c.1.length k0, .slice q m l, .string c.2.2] 43 (0, 0)) := hW1 ▸ World.alloc_heap_new w _
  have HX : Hid (∀ W, Chg No W1 W → W.cell? ⟨w.heap.size, 0, none⟩ = some (.slice p c.1.length k0) ∧ W.cell? ⟨w.heap.size, 1, none⟩ = some (.slice q m l) ∧ W.cell? ⟨w.heap.size, 2, none⟩ = some (.string c.2.2)) := fun W cW => by
    have z0 := cW.same x0 (fun h => h)
    refine ⟨?_, ?_, ?_⟩ <;> simp [World.cell?, z0]
  obtain ⟨y0, y1, y2⟩ := HX.out W1 (Chg.refl _ _)
  have hr1 := h.no ca
  have hv1 := hv0.no ca
  have M1 := mayR_in _ c _ W1 hv1 hc
  obtain ⟨np, hnp⟩ : ∃ np, c.1.length = np := ⟨_, rfl⟩
  have HNP : Hid (c.1.length = np) := hnp
  rw [hnp] at y0 h1 HX hv1 M1 hW1 ⊢
  have hnp5 : np ≤ 5 := by rw [← hnp]; exact hc.1
  have HA : Hid (addC s c = if mayC c = false then (s, 0, 6) else if c.1.all (hasN s.1.length) = false then (s, 0, 7) else if findC s.1 c = 0 then (if s.2 ≤ s.1.length then (s, 0, 3) else ((s.1 ++ [c], s.2), s.1.length + 1, 0)) else (s, findC s.1 c, 0)) := rfl
  obtain ⟨A, hA⟩ : ∃ A, addC s c = A := ⟨_, rfl⟩
  rw [hA] at HA ⊢
  have g1 := h1.no ca
  clear x0 h1 h2 h3 h4 hnp hA hv0
  refine callsIn_of_wp Tryz.func25 rfl trivial ?_
  simp only [Tryz.ntmps25, List.size_toArray, List.length_cons, List.length_nil, Nat.reduceAdd, Nat.reduceSub, Array.replicate_succ, Array.replicate_zero, List.push_toArray, List.append_toArray, List.nil_append, List.cons_append]
  gi_wp2_with fail
  refine ⟨trivial, rfl, M1.mono ?_⟩
  rintro e w2 ⟨rfl, c2⟩
  have c02 := Chg.seq ca c2
  have hr2 := hr1.no c2
  generalize mayC c = mb at HA ⊢
  cases mb with
  | false =>
    obtain rfl : A = (s, 0, 6) := by rw [HA.out, if_pos rfl]
    gi_wp2
    go_ret2
    exact ⟨rfl, LOut.same hr2 c02⟩
  | true =>
  rw [if_neg (by decide)] at HA
  clear M1 hr1
  have HX2 : Hid (∀ W, Chg No w2 W → W.cell? ⟨w.heap.size, 0, none⟩ = some (.slice p np k0) ∧ W.cell? ⟨w.heap.size, 1, none⟩ = some (.slice q m l) ∧ W.cell? ⟨w.heap.size, 2, none⟩ = some (.string c.2.2)) := fun W cW => HX.out W (Chg.seq c2 cW)
  have hv2 := hv1.no c2
  have g2 := g1.no c2
  clear y0 y1 y2 HX hv1 g1 hW1
  obtain ⟨y0, y1, y2⟩ := HX2.out _ (Chg.refl _ _)
  have A1 := hasAll_in B s lv rows D p np k0 c.1 HNP.out hnp5 _ hr2 g2
  generalize c.1.all (hasN s.1.length) = ab at HA A1
  gi_wp2_with fail
  refine ⟨trivial, rfl, A1.mono ?_⟩
  rintro e w3 ⟨rfl, hw3⟩
  subst hw3
  clear A1 g2
  cases ab with
  | false =>
    obtain rfl : A = (s, 0, 7) := by rw [HA.out, if_pos rfl]
    gi_wp2
    go_ret2
    exact ⟨rfl, LOut.same hr2 c02⟩
  | true =>
  rw [if_neg (by decide)] at HA
  have F1 := find_in B s lv rows _ c D _ _ hr2 hv2 (by omega)
  gi_wp2_with fail
  refine ⟨trivial, rfl, F1.mono ?_⟩
  rintro e w3 ⟨rfl, c3⟩
  have c03 := Chg.seq c02 c3
  have hr3 := hr2.no c3
  have hv3 := hv2.no c3
  obtain ⟨z0, z1, z2⟩ := HX2.out _ c3
  obtain ⟨f, hf⟩ : ∃ f, findC s.1 c = f := ⟨_, rfl⟩
  rw [hf] at HA ⊢
  clear F1 hf hr2 hv2 y0 y1 y2
  by_cases hf0 : 0 < f
  · have hf1 : (0 : Int) < (f : Int) := by omega
    obtain rfl : A = (s, f, 0) := by rw [HA.out, if_neg (by omega)]
    gi_wp2
    go_ret2
    exact ⟨rfl, LOut.same hr3 c03⟩
  · obtain rfl : f = 0 := by omega
    rw [if_pos rfl] at HA
    obtain ⟨pv, kv, rfl⟩ := hr3.slice
    obtain ⟨t0, t1, t2, t3⟩ := hr3.cells
    have L1 : ∀ d : After w3, CallsIn Fence.wide 0 Tryz.prog 16 #[ptr B] d.val fun e w' => e = .returned (iv (s.1.length : Nat)) ∧ Chg No d.val w' := fun d => (len_in B s _ rows D d.val (hr3.no d.chg)).mono (by rintro e w' ⟨rfl, rfl⟩; exact ⟨rfl, Chg.refl _ _⟩)
    obtain ⟨N, hN⟩ : ∃ N, s.1.length = N := ⟨_, rfl⟩
    obtain ⟨R, hR⟩ : ∃ R, s.2 = R := ⟨_, rfl⟩
    have HNR : Hid (s.1.length = N ∧ s.2 = R) := ⟨hN, hR⟩
    rw [hN] at t1 HA hl L1
    rw [hR] at t0 HA
    have hany := After.any w3
    have g0 : ∀ d : After w3, d.val.cell? ⟨B, 0, none⟩ = some (iv (R : Nat)) := fun d => d.cell t0
    clear hN hR
    gi_wp2
    by_cases hfull : R ≤ N
    · obtain rfl : A = (s, 0, 3) := by rw [HA.out, if_pos hfull]
      have hfd : decide (R ≤ N) = true := decide_eq_true hfull
      have hfi : (R : Int) ≤ (N : Int) := by omega
      refine region_quietC hmix (by kernel_rfl) ?_
      repeat (gi_big_quiet_step (fail))
      refine wpQuietIn_want (fun _ _ _ _ => trivial) rfl ?_
      intro KQ hKQ
      gi_big_quiet_op
      gi_big_quiet_call (exact ⟨rfl, (L1 _).mono (by rintro e w'' ⟨rfl, c'⟩; exact ⟨rfl, After.more _ c'⟩)⟩)
      repeat (gi_big_quiet_step (fail))
      refine wpQuietIn_nil ?_
      rintro w' ⟨d, rfl⟩
      gi_wp2
      go_ret2
      exact ⟨rfl, LOut.same (hr3.no d.chg) (Chg.seq c03 d.chg)⟩
    · obtain rfl : A = ((s.1 ++ [c], s.2), N + 1, 0) := by rw [HA.out, if_neg hfull, HNR.out.2]
      have hfd : decide (R ≤ N) = false := decide_eq_false hfull
      have hfi : ¬ (R : Int) ≤ (N : Int) := by omega
      refine region_quietC hmix (by kernel_rfl) ?_
      repeat (gi_big_quiet_step (fail))
      refine wpQuietIn_want (fun _ _ _ _ => trivial) rfl ?_
      intro KQ hKQ
      gi_big_quiet_op
      gi_big_quiet_call (exact ⟨rfl, (L1 _).mono (by rintro e w'' ⟨rfl, c'⟩; exact ⟨rfl, After.more _ c'⟩)⟩)
      repeat (gi_big_quiet_step (fail))
      refine wpQuietIn_nil ?_
      rintro w' ⟨dd, rfl⟩
      have cj := dd.chg
      clear L1 g0 hany
      generalize dd.val = W4 at *
      have hr4 := hr3.no cj
      have hv4 := hv3.no cj
      have c04 := Chg.seq c03 cj
      obtain ⟨t4, t5, t6, t7⟩ := hr4.cells
      rw [HNR.out.2] at t4
      rw [HNR.out.1] at t5
      have hBw : B < w.heap.size := h.ltO B (.inl rfl)
      have hB4 : B < W4.heap.size := hr4.ltO B (.inl rfl)
      have hlt4 : ∀ k, (Value.slice pv s.1.length kv).ownBlock = some k → k < W4.heap.size := fun k hk => hr4.ltO k (.inr hk)
      have hlvB := hr4.ne
      have hlvw : ¬ (Value.slice pv s.1.length kv).ownBlock = some w.heap.size := fun e => by have := h.ltO _ (.inr e); omega
      obtain ⟨z0', z1', z2'⟩ := HX2.out _ (Chg.seq c3 cj)
      rw [HNR.out.1] at hlt4 hlvB hlvw hE
      have hne : ¬ refS B (.slice pv N kv) w.heap.size := fun e => by
        rcases e with e | e
        · omega
        · exact hlvw e
      have hany : Nonempty (AfterB (refS B (.slice pv N kv)) W4) := AfterB.any _ _
      have f0 : ∀ d : AfterB (refS B (.slice pv N kv)) W4, d.val.cell? ⟨w.heap.size, 0, none⟩ = some (.slice p np k0) := fun d => d.cell z0' hne
      have f1 : ∀ d : AfterB (refS B (.slice pv N kv)) W4, d.val.cell? ⟨w.heap.size, 1, none⟩ = some (.slice q m l) := fun d => d.cell z1' hne
      have f2 : ∀ d : AfterB (refS B (.slice pv N kv)) W4, d.val.cell? ⟨w.heap.size, 2, none⟩ = some (.string c.2.2) := fun d => d.cell z2' hne
      have hone := hr4.red.one
      have hrl : rows.length = N := by rw [hr4.red.len, HNR.out.1]
      have hbox := hr4.box
      have hown := hr4.own
      rw [HNR.out.1] at hbox hown
      rw [HNR.out.2] at hbox
      have Hr4 : Hid _ := hr4
      have HE : Hid _ := hE
      have hvW : ∀ W, Chg (refS B (.slice pv N kv)) W4 W → CmD E W (.agg #[.slice p np k0, .slice q m l, .string c.2.2]) c := fun W cW => hv4.chg cW (fun j hj => HE.out j hj)
      clear hr3 hv3 z0 z1 z2 z0' z1' z2' t0 t1 t2 t3 hr4 cj c3 c03 hfd hfi hfull HX2 hE
      gi_wp2
      refine region_loudG (fun i => i == 2 || i == 4 || i == 6 || i == 7 || i == 8 || i == 9 || i == 11) (fun w' => ∃ d : AfterB (refS B (.slice pv N kv)) W4, w' = d.val) (PutInvC W4 B (.slice pv N kv) (iv (R : Int)) rows c.2.2 c.1 c.2.1)
        (fun j => if j = 4 then .slice pv N kv else if j = 2 then ptr B else if j = 9 then ptr B else if j = 6 then .agg #[.slice none 0 0, .slice none 0 0, .string c.2.2] else .slice none 0 0) hmix (by kernel_rfl) (by kernel_rfl) (fun d u W hI => ⟨⟨W, hI.chg⟩, rfl⟩)
        ⟨(Chg.refl _ W4).drew, rfl, rfl, rfl, ⟨none, 0, 0, none, 0, 0, rfl⟩, ⟨none, 0, 0, rfl⟩, ⟨none, 0, 0, rfl⟩, fun h => (by cases h), fun h => (by cases h), fun h => (by cases h), fun _ => hown, fun h => (by cases h), fun h => (by cases h), fun h => (by cases h), hbox⟩ (fun u hu => ?_)
      obtain ⟨_, _, hu⟩ := hu
      have e2 := hu.v2
      have e4 := hu.v4
      have e9 := hu.v9
      obtain ⟨q6, m6, k6, q6', m6', k6', e6⟩ := hu.v6
      obtain ⟨q7, m7, k7, e7⟩ := hu.v7
      obtain ⟨q8, m8, k8, e8⟩ := hu.v8
      clear hu
      simp only [hushE, Nat.reduceAdd, Nat.reduceBEq, Bool.or_self, Bool.or_true, Bool.or_false, if_true, if_false, Bool.false_eq_true]
      simp only [e2, e4, e6, e7, e8, e9]
      repeat (gi_big_quiet_step (fail))
      refine wpQuietIn_nil ⟨?_, ?_, ?_⟩
      · intro i oo ho hm
        simp only [Bool.or_eq_true, beq_iff_eq] at hm
        rcases hm with (((((rfl | rfl) | rfl) | rfl) | rfl) | rfl) | rfl
        all_goals (cases ho; rfl)
      · intro i oo d W hjo hm hd hwt hI
        simp only [Bool.or_eq_true, beq_iff_eq] at hm
        rcases hm with (((((rfl | rfl) | rfl) | rfl) | rfl) | rfl) | rfl
        · cases hjo
          refine LeadsV.value (v := ptr B) (w' := W) ?_ hI.s2
          simp [go_sem]
        · cases hjo
          have h8 : d 8 = false := by
            cases e : d 8 with
            | false => rfl
            | true => have := (hI.o8 e).1; rw [hd] at this; cases this
          have hb := hI.box
          rw [hI.n11 h8, if_neg Bool.false_ne_true] at hb
          have kb : W.cell? ⟨B, 1, none⟩ = some (.slice pv N kv) := by simp [World.cell?, hb]
          refine LeadsV.value (v := .slice pv N kv) (w' := W) ?_ hI.s4
          simp [go_sem, kb]
        · cases hjo
          refine LeadsV.call (f := 38) (args := #[.agg #[.slice p np k0, .slice q m l, .string c.2.2]]) (by simp [go_sem]) ((ownC_in _ c E W (hvW W hI.chg) hc).mono ?_)
          rintro e w5 ⟨v5, v6, rfl, ho1, ho2, c5⟩
          exact ⟨_, rfl, hI.s6 hd c5 (rowBase ho1 hI.chg.size) (ho2.base hI.chg.size)⟩
        · cases hjo
          have h6 := hwt 6 rfl (by kernel_rfl)
          refine LeadsV.value (v := .slice (some ⟨W.heap.size, 0, none⟩) 1 1) (w' := W.alloc (.cells #[.slice q6 m6 k6, .slice q6' m6' k6', .string c.2.2] 43)) ?_ (hI.s7 hd h6 e6)
          simp [go_sem]
        · cases hjo
          have h4 := hwt 4 rfl (by kernel_rfl)
          have h7 := hwt 7 rfl (by kernel_rfl)
          have hsl := (hI.f7 h7 hd).1
          rw [e7] at hsl
          obtain ⟨rx, hrx⟩ : ∃ rx, rwOf c.2.2 (u 6) = rx := ⟨_, rfl⟩
          rw [hrx] at hsl
          have hm7 : m7 = 1 := by obtain ⟨_, _, e, _⟩ := hsl; cases e; rfl
          subst hm7
          refine LeadsV.append_sm _ _ rfl 0 (.slice pv N kv) rows rfl (hI.f4 hd) q7 1 k7 [rx] rfl hsl (fun r hr => ?_) (by omega) (Nat.zero_le _) ?_
          · rw [List.mem_singleton.1 hr, ← hrx, e6]; exact ⟨rfl, rfl⟩
          · intro v' w' ho' hg' hat
            rw [← hrx] at ho'
            exact hI.s8 hlvB hd h4 h7 hg' ho' hat hlt4
        · cases hjo
          refine LeadsV.value (v := ptr B) (w' := W) ?_ hI.s9
          simp [go_sem]
        · cases hjo
          have h8 := hwt 8 rfl (by kernel_rfl)
          have hb := hI.box
          have kb : W.cell? ⟨B, 1, none⟩ = some (if d 11 = true then u 8 else .slice pv N kv) := by simp [World.cell?, hb]
          have kf : W.frozen? ⟨B, 1, none⟩ = false := by simp [World.frozen?, hb]
          refine LeadsV.skip (w' := W.setCell ⟨B, 1, none⟩ (u 8)) ?_ (hI.s11 hB4 hlvB h8 undef)
          rw [e8]
          simp [go_sem, kb, kf]
      · intro d W hall hI
        have h6 := hall 6 rfl (by simp)
        have h8 := hall 8 rfl (by simp)
        have h11 := hall 11 rfl (by simp)
        have hb := hI.box
        rw [h11, if_pos rfl] at hb
        obtain ⟨ho8, hat8⟩ := hI.f8 h8
        obtain ⟨o1, o2⟩ := hI.f6 h6
        have hcW := hI.chg
        have hr4 := Hr4.out
        rw [HNR.out.1] at hr4
        have hw6 : rwOf c.2.2 (u 6) = (.slice q6 m6 k6, .slice q6' m6' k6', c.2.2) := by rw [e6]; rfl
        rw [hw6] at ho8 o1 o2
        have hT := CmD.ofOwn (c := c) o1 o2
        have hR : KRep B (s.1 ++ [c], s.2) (u 8) (rows ++ [(.slice q6 m6 k6, .slice q6' m6' k6', c.2.2)]) (fun k => D k ∨ ((Value.slice q6 m6 k6).ownBlock = some k ∨ (Value.slice q6' m6' k6').ownBlock = some k)) W := by
          refine ⟨by rw [HNR.out.2]; exact hb, ho8, (hr4.red.chg hcW hr4.apart).snoc hT, fun e => ?_, fun k hk e => ?_, fun k hk => ?_, hr4.room, fun x hx => ?_⟩
          · rcases hat8 B e with h | h
            · exact hlvB h
            · omega
          · rcases hk with hk | hk | hk
            · rcases e with e | e
              · exact hr4.apart k hk (.inl e)
              · rcases hat8 k e with h | h
                · exact hr4.apart k hk (.inr h)
                · have := hr4.lt k hk; omega
            · have hge := (World.ownsRow.lt o1 k hk).1
              rcases e with e | e
              · omega
              · exact row_apart2 (by decide) o1 ho8 k hk e
            · have hge := (World.ownsRow.lt o2 k hk).1
              rcases e with e | e
              · omega
              · exact row_apart2 (by decide) o2 ho8 k hk e
          · rcases hk with hk | hk | hk
            · exact Nat.lt_of_lt_of_le (hr4.lt k hk) hcW.size
            · exact (World.ownsRow.lt o1 k hk).2
            · exact (World.ownsRow.lt o2 k hk).2
          · rcases List.mem_append.1 hx with h | h
            · exact hr4.small x h
            · rw [List.mem_singleton.1 h]; exact hc
        have hsz := c04.size
        have hout : LOut B (s.1 ++ [c], s.2) (.slice pv s.1.length kv) D w W := by
          rw [HNR.out.1]
          refine ⟨_, _, _, hR, (c04.mono (fun _ h => h.elim)).trans hcW (Grew.refl _ _), fun k hk => ?_, fun k hk => ?_⟩
          · rcases hk with (hk | hk) | hk | hk | hk
            · exact .inl (.inl (.inl hk))
            · rcases hat8 k hk with h | h
              · exact .inl (.inl (.inr h))
              · exact .inr (by omega)
            · exact .inl (.inr hk)
            · have := (World.ownsRow.lt o1 k hk).1; exact .inr (by omega)
            · have := (World.ownsRow.lt o2 k hk).1; exact .inr (by omega)
          · rcases hk with hk | hk
            · exact .inl (.inl hk)
            · rcases hat8 k hk with h | h
              · exact .inl (.inr h)
              · exact .inr (by omega)
        have L2 := len_in B _ _ _ _ W hR
        rw [List.length_append, List.length_singleton, HNR.out.1] at L2
        clear hI hall f0 f1 f2 hany e4 hT hR hb ho8 hat8 o1 o2 hvW
        gi_wp2_with fail
        refine ⟨trivial, rfl, L2.mono ?_⟩
        rintro e w6 ⟨rfl, hw⟩
        subst hw
        gi_wp2
        go_ret2
        exact ⟨rfl, hout⟩

end Go.Proofs.YtakbeololabmhaaGreatDoor

end
section
-- KPut
namespace Go.Proofs.YtakbeololabmhaaGreatDoor
open Go.RowKit Go.Shelf Go.SeqLib Go.DiffLib Go.TreeLib Go.RepoLib Go.BigFrame
attribute [local go_sem] Oper.semAt_some

theorem putSpec : PutSpec LRep := {
  part := LRep.part
  sub := by
    rintro B s S O W ⟨lv, rows, D, _, rfl, rfl⟩ k hk
    exact .inl hk
  new := fun room w _ _ => (new_in room w).mono (by
    rintro e w' ⟨rfl, rfl⟩
    refine ⟨w.heap.size, _, _, rfl, ⟨_, _, _, KRep.made room w, rfl, rfl⟩, fun k hk => ?_, (Chg.refl _ w).alloc _⟩
    rcases hk with (hk | hk) | hk
    · omega
    · cases hk
    · exact hk.elim)
  add := by
    rintro B s S O E v c w ⟨lv, rows, D, h, rfl, rfl⟩ hv hE hc hl
    refine (add_in B s lv rows D E v c w h hv (fun k hk e => hE k hk (.inl e)) hl hc).mono ?_
    rintro e w' ⟨rfl, lv', rows', D', h', c', g1, g2⟩
    exact ⟨_, _, rfl, ⟨lv', rows', D', h', rfl, rfl⟩, c', g1, g2⟩
  len := by
    rintro B s S O w ⟨lv, rows, D, h, rfl, rfl⟩ _
    exact (len_in B s lv rows D w h).mono (by rintro e w' ⟨rfl, rfl⟩; exact ⟨rfl, Chg.refl _ _⟩) }

end Go.Proofs.YtakbeololabmhaaGreatDoor

end
