/-
  The document's own Add of commits.
-/
import Derived.Test.YtconingjdgmodaaDoorRApp
import Derived.Test.YtconingjdgmodaaDoorRFind
namespace Go.Proofs.YtconingjdgmodaaDoor
open Go.RowKit Go.Shelf Go.SeqLib Go.DiffLib Go.TreeLib Go.RepoLib Go.BigFrame
attribute [local go_sem] Oper.semAt_some

section
variable {W0 W W' : World} {B : Nat} {lv rv : Value} {rows : List Rw} {x : Rw} {d : Nat → Bool} {u : Nat → Value}
theorem SlE.one_lt {g : Nat} {v : Value} (h : SlE 3 eM W v [x]) (hv : v.ownBlock = some g) : g < W.heap.size := SlE.lt eM_len (by decide) h g ⟨by simp, hv⟩
theorem AddInv.s4 (h : AddInv W0 B lv rv rows x d u W) : AddInv W0 B lv rv rows x (fun j => if j = 4 then true else d j) (fun j => if j = 4 then lv else u j) W :=
  ⟨h.chg, h.v2, rfl, h.v9, h.v8, fun _ => rfl, fun e => h.o8 e, fun e => h.o11 e, fun e1 e2 => h.f5 e1 e2, fun e1 e2 => h.f7 e1 e2, fun e1 e2 e3 => h.a57 e1 e2 e3, fun e => h.f8 e, h.box⟩
theorem AddInv.s2 (h : AddInv W0 B lv rv rows x d u W) : AddInv W0 B lv rv rows x (fun j => if j = 2 then true else d j) (fun j => if j = 2 then ptr B else u j) W :=
  ⟨h.chg, rfl, h.v4, h.v9, h.v8, fun e => h.o5 e, fun e => h.o8 e, fun e => h.o11 e, fun e1 e2 => h.f5 e1 e2, fun e1 e2 => h.f7 e1 e2, fun e1 e2 e3 => h.a57 e1 e2 e3, fun e => h.f8 e, h.box⟩
theorem AddInv.s9 (h : AddInv W0 B lv rv rows x d u W) : AddInv W0 B lv rv rows x (fun j => if j = 9 then true else d j) (fun j => if j = 9 then ptr B else u j) W :=
  ⟨h.chg, h.v2, h.v4, rfl, h.v8, fun e => h.o5 e, fun e => h.o8 e, fun e => h.o11 e, fun e1 e2 => h.f5 e1 e2, fun e1 e2 => h.f7 e1 e2, fun e1 e2 e3 => h.a57 e1 e2 e3, fun e => h.f8 e, h.box⟩
theorem AddInv.s5 (h : AddInv W0 B lv rv rows x d u W) (hd : d 5 = false) (h4 : d 4 = true) {v : Value} (c : Chg No W W') (ho : OwnM W' W0.heap.size v rows) (hv : ∀ k, v.ownBlock = some k → W.heap.size ≤ k) :
    AddInv W0 B lv rv rows x (fun j => if j = 5 then true else d j) (fun j => if j = 5 then v else u j) W' := by
  have h8 : d 8 = false := by
    cases e : d 8 with
    | false => rfl
    | true => have := (h.o8 e).1; rw [hd] at this; cases this
  have h11 : d 11 = false := by
    cases e : d 11 with
    | false => rfl
    | true => have := h.o11 e; rw [h8] at this; cases this
  refine ⟨h.chg.trans c (fun _ h => h.elim), h.v2, h.v4, h.v9, h.v8, fun _ => h4, fun e => ⟨rfl, (h.o8 e).2⟩, fun e => h.o11 e, fun _ _ => ho, fun e1 e2 => ?_, fun _ e2 e3 k hk hk7 => ?_, fun e => ?_, ?_⟩
  · obtain ⟨a1, a2⟩ := h.f7 e1 e2
    exact ⟨SlE.no eM_len (by decide) a1 c, a2⟩
  · have hk' : v.ownBlock = some k := hk
    have := hv k hk'
    have := SlE.one_lt (h.f7 e2 e3).1 hk7
    omega
  · have e' : d 8 = true := e
    rw [h8] at e'
    cases e'
  · have := h.box
    show W'.heap[B]? = some (.cells #[if d 11 = true then u 8 else lv, rv] _ _)
    exact c.same this (fun h => h)
theorem AddInv.s7 (h : AddInv W0 B lv rv rows x d u W) (hd : d 7 = false) :
    AddInv W0 B lv rv rows x (fun j => if j = 7 then true else d j) (fun j => if j = 7 then .slice (some ⟨W.heap.size, 0, none⟩) 1 1 else u j) (W.alloc (.cells #[x.1, x.2.1, .string x.2.2] 36)) := by
  have h8 : d 8 = false := by
    cases e : d 8 with
    | false => rfl
    | true => have := (h.o8 e).2; rw [hd] at this; cases this
  have c : Chg No W (W.alloc (.cells #[x.1, x.2.1, .string x.2.2] 36)) := (Chg.refl _ W).alloc _
  refine ⟨h.chg.alloc _, h.v2, h.v4, h.v9, h.v8, fun e => h.o5 e, fun e => ⟨(h.o8 e).1, rfl⟩, fun e => h.o11 e, fun e1 e2 => ?_, fun _ _ => ⟨SlM.one W x, fun k hk => ?_⟩, fun e1 _ e3 k hk hk7 => ?_, fun e => ?_, ?_⟩
  · exact OwnM.kept (h.f5 e1 e2) (fun k hk => c.block k (World.ownsRow.lt (h.f5 e1 e2) k hk).2 (fun h => h))
  · cases hk
    exact h.chg.size
  · have hk5 : (u 5).ownBlock = some k := hk
    have h1 := (World.ownsRow.lt (h.f5 e1 e3) k hk5).2
    have h2 : W.heap.size = k := by cases hk7; rfl
    omega
  · have e' : d 8 = true := e
    rw [h8] at e'
    cases e'
  · exact c.same h.box (fun h => h)
theorem AddInv.s8 (h : AddInv W0 B lv rv rows x d u W) (hd : d 8 = false) (h5 : d 5 = true) (h7 : d 7 = true) {v : Value} (c : Chg (fun k => (u 5).ownBlock = some k) W W') (ho : OwnM W' W0.heap.size v (rows ++ [x])) (hB : B < W0.heap.size) :
    AddInv W0 B lv rv rows x (fun j => if j = 8 then true else d j) (fun j => if j = 8 then v else u j) W' := by
  have hlow : ∀ k, (u 5).ownBlock = some k → W0.heap.size ≤ k := fun k hk => (World.ownsRow.lt (h.f5 h5 hd) k hk).1
  have h11 : d 11 = false := by
    cases e : d 11 with
    | false => rfl
    | true => have := h.o11 e; rw [hd] at this; cases this
  obtain ⟨p', c', e'⟩ := row_slice ho
  refine ⟨h.chg.trans c (fun k hk => .inr (hlow k hk)), h.v2, h.v4, h.v9, ⟨p', _, c', e'⟩, fun e => h.o5 e, fun _ => ⟨h5, h7⟩, fun e => rfl, fun _ e2 => (by cases e2), fun _ e2 => (by cases e2), fun _ _ e3 => (by cases e3), fun _ => ho, ?_⟩
  have := h.box
  show W'.heap[B]? = some (.cells #[if d 11 = true then v else lv, rv] _ _)
  rw [h11] at this ⊢
  exact c.same this (fun hk => by have := hlow B hk; omega)
theorem AddInv.s11 (h : AddInv W0 B lv rv rows x d u W) (hd : d 11 = false) (h8 : d 8 = true) (hB : B < W0.heap.size) (v : Value) :
    AddInv W0 B lv rv rows x (fun j => if j = 11 then true else d j) (fun j => if j = 11 then v else u j) (W.setCell ⟨B, 0, none⟩ (u 8)) := by
  have c : Chg (fun k => k = B) W (W.setCell ⟨B, 0, none⟩ (u 8)) := (Chg.refl (fun k => k = B) W).setCell (p := ⟨B, 0, none⟩) (.inl rfl) _
  have hne : ∀ k, (u 8).ownBlock = some k → ¬ k = B := fun k hk e => by have := (World.ownsRow.lt (h.f8 h8) k hk).1; omega
  refine ⟨h.chg.trans c (fun k hk => .inl hk), h.v2, h.v4, h.v9, h.v8, fun e => h.o5 e, fun e => h.o8 e, fun _ => h8, fun e1 e2 => ?_, fun e1 e2 => ?_, fun e1 e2 e3 => ?_, fun _ => ?_, ?_⟩
  · have e' : d 8 = false := e2
    rw [h8] at e'; cases e'
  · have e' : d 8 = false := e2
    rw [h8] at e'; cases e'
  · have e' : d 8 = false := e3
    rw [h8] at e'; cases e'
  · exact OwnM.kept (h.f8 h8) (fun k hk => c.block k (World.ownsRow.lt (h.f8 h8) k hk).2 (hne k hk))
  · have := h.box
    rw [hd, if_neg Bool.false_ne_true] at this
    show (W.setCell ⟨B, 0, none⟩ (u 8)).heap[B]? = some (.cells #[u 8, rv] _ _)
    simp [World.setCell, Array.getElem?_modify, this]
end

/-- One commit more. -/
theorem RowsM.snoc {b : Nat} {W : World} {rows : List Rw} {L : List Cm} (h : RowsM b W rows L) {x : Rw} {c : Cm} (hx : CmD (fun k => k < b) W (.agg #[x.1, x.2.1, .string x.2.2]) c) : RowsM b W (rows ++ [x]) (L ++ [c]) := by
  refine ⟨by rw [List.length_append, List.length_append, h.len]; rfl, fun i r d hr hd => ?_⟩
  rcases Nat.lt_or_ge i rows.length with hi | hi
  · rw [List.getElem?_append_left hi] at hr
    rw [List.getElem?_append_left (by rw [← h.len]; exact hi)] at hd
    exact h.at_ i r d hr hd
  · rw [List.getElem?_append_right hi] at hr
    rw [List.getElem?_append_right (by rw [← h.len]; exact hi)] at hd
    rw [h.len] at hr
    have h0 : i - L.length = 0 := by
      have := (List.getElem?_eq_some_iff.1 hd).1
      simp at this
      omega
    rw [h0] at hr hd
    obtain rfl : x = r := by simpa using hr
    obtain rfl : c = d := by simpa using hd
    exact hx

/-- The document's repo, behind a call. -/
def RefOut (b B : Nat) (s' : Rp) (lv : Value) (w w' : World) : Prop := ∃ lv' rows', RefRep b B s' lv' rows' w' ∧ Chg (refS B lv) w w' ∧ Grew (refS B lv) w (refS B lv')
theorem RefOut.mk {b B : Nat} {s' : Rp} {lv lv' : Value} {rows' : List Rw} {w w' : World} (h : RefRep b B s' lv' rows' w') (c : Chg (refS B lv) w w') (g : Grew (refS B lv) w (refS B lv')) : RefOut b B s' lv w w' := ⟨lv', rows', h, c, g⟩

set_option maxRecDepth 100000 in
set_option maxHeartbeats 8000000 in
theorem refAdd_in (b B : Nat) (s : Rp) (lv : Value) (rows : List Rw) (v : Value) (c : Cm) (w : World) (h : RefRep b B s lv rows w) (hv : CmD (fun k => k < b) w v c) (hl : s.1.length ≤ 200) (hsm : ∀ x ∈ s.1, x.2.1.length ≤ 1000) (hc : SmallC c) :
    CallsIn Fence.wide 0 Tryd.prog 13 #[ptr B, v] w fun e w' => e = .returned (.tuple #[iv ((addC s c).2.1 : Nat), iv ((addC s c).2.2 : Nat)]) ∧ RefOut b B (addC s c).1 lv w w' := by
  have hmix : Tryd.prog.follows .mixedOrders = true := by kernel_rfl
  have hv0 := hv
  obtain ⟨p, n, k0, q, m, l, rfl, h1, h2, h3, h4⟩ := hv
  obtain rfl : n = c.1.length := by obtain ⟨_, _, e, _⟩ := h1; cases e; simp
  obtain ⟨W1, hW1⟩ : ∃ W1, w.alloc (.cells #[.slice p c.1.length k0, .slice q m l, .string c.2.2] 36) = W1 := ⟨_, rfl⟩
  have ca : Chg No w W1 := hW1 ▸ (Chg.refl _ w).alloc _
  have x0 : W1.heap[w.heap.size]? = some (.cells #[.slice p c.1.length k0, .slice q m l, .string c.2.2] 36 (0, 0)) := hW1 ▸ World.alloc_heap_new w _
  have HX : Hid (∀ W, Chg No W1 W → W.cell? ⟨w.heap.size, 0, none⟩ = some (.slice p c.1.length k0) ∧ W.cell? ⟨w.heap.size, 1, none⟩ = some (.slice q m l) ∧ W.cell? ⟨w.heap.size, 2, none⟩ = some (.string c.2.2)) := fun W cW => by
    have z0 := cW.same x0 (fun h => h)
    refine ⟨?_, ?_, ?_⟩ <;> simp [World.cell?, z0]
  obtain ⟨y0, y1, y2⟩ := HX.out W1 (Chg.refl _ _)
  have hr1 := h.no ca
  have hv1 := hv0.no ca
  have M1 := refMayC_in _ c _ W1 hv1
  obtain ⟨np, hnp⟩ : ∃ np, c.1.length = np := ⟨_, rfl⟩
  have HNP : Hid (c.1.length = np) := hnp
  rw [hnp] at y0 h1 HX hv1 M1 hW1 ⊢
  have hnp5 : np ≤ 5 := by rw [← hnp]; exact hc.1
  have HA : Hid (addC s c = if mayC c = false then (s, 0, 6) else if c.1.all (hasN s.1.length) = false then (s, 0, 7) else if findC s.1 c = 0 then (if s.2 ≤ s.1.length then (s, 0, 3) else ((s.1 ++ [c], s.2), s.1.length + 1, 0)) else (s, findC s.1 c, 0)) := rfl
  obtain ⟨A, hA⟩ : ∃ A, addC s c = A := ⟨_, rfl⟩
  rw [hA] at HA ⊢
  have g1 := h1.no ca
  have hS : ∀ {W : World}, Chg No w W → Chg (refS B lv) w W := fun cW => cW.mono (fun _ h => h.elim)
  clear x0 h1 h2 h3 h4 hnp hA hv0
  refine callsIn_of_wp Tryd.func13 rfl trivial ?_
  simp only [Tryd.ntmps13, List.size_toArray, List.length_cons, List.length_nil, Nat.reduceAdd, Nat.reduceSub, Array.replicate_succ, Array.replicate_zero, List.push_toArray, List.append_toArray, List.nil_append, List.cons_append]
  gi_wp2_with fail
  refine ⟨trivial, rfl, M1.mono ?_⟩
  rintro e w2 ⟨rfl, c2⟩
  have c02 := Chg.seq ca c2
  have hr2 := hr1.no c2
  generalize mayC c = mb at HA ⊢
  cases mb with
  | false =>
    obtain rfl : A = (s, 0, 6) := by rw [HA.out, if_pos rfl]
    gi_wp2
    go_ret2
    exact ⟨rfl, RefOut.mk hr2 (hS c02) (Grew.refl _ _)⟩
  | true =>
  rw [if_neg (by decide)] at HA
  clear M1 hr1
  have HX2 : Hid (∀ W, Chg No w2 W → W.cell? ⟨w.heap.size, 0, none⟩ = some (.slice p np k0) ∧ W.cell? ⟨w.heap.size, 1, none⟩ = some (.slice q m l) ∧ W.cell? ⟨w.heap.size, 2, none⟩ = some (.string c.2.2)) := fun W cW => HX.out W (Chg.seq c2 cW)
  have hv2 := hv1.no c2
  have g2 := g1.no c2
  clear y0 y1 y2 HX hv1 g1 hW1
  gi_wp2
  gi_loopw [6] (fun s6 wr => ∃ k : Nat, k ≤ np ∧ s6 = .int .i64 (k : Int) ∧ Hid (∀ x ∈ c.1.take k, hasN s.1.length x = true) ∧ wr = w2) (fun s6 _ => np - (intOf s6).toNat)
  case atStart => exact ⟨0, Nat.zero_le _, rfl, fun y hy => by simp at hy, rfl⟩
  case round =>
    obtain ⟨k, hk, rfl, HT, hwr⟩ := hrel
    subst hwr
    obtain ⟨y0, y1, y2⟩ := HX2.out _ (Chg.refl _ _)
    by_cases hlt : k < np
    · have hlt' : (k : Int) < (np : Int) := by omega
      obtain ⟨pa, hpa⟩ : ∃ pa, c.1[k]? = some pa := ⟨_, List.getElem?_eq_getElem (by rw [HNP.out]; exact hlt)⟩
      obtain ⟨bp, op, rfl, hcp⟩ := g2.get1 (i := k) (x := iv pa) (by rw [List.getElem?_map, hpa]; rfl)
      have H1 := refHas_in b B s lv rows pa _ hr2
      obtain ⟨u, HU⟩ : ∃ u, Hid (hasN s.1.length pa = u) := ⟨_, rfl⟩
      rw [HU.out] at H1
      gi_wp2_with fail
      refine ⟨trivial, rfl, H1.mono ?_⟩
      rintro e w3 ⟨rfl, hw3⟩
      subst hw3
      cases u with
      | false =>
        obtain rfl : A = (s, 0, 7) := by
          rw [HA.out, if_pos]
          exact List.all_eq_false.2 ⟨pa, List.mem_of_getElem? hpa, by rw [HU.out]; exact Bool.false_ne_true⟩
        gi_wp2
        go_ret2
        exact ⟨rfl, RefOut.mk hr2 (hS c02) (Grew.refl _ _)⟩
      | true =>
        have HT2 : Hid (∀ x ∈ c.1.take (k + 1), hasN s.1.length x = true) := by
          intro y hy
          rw [List.take_add_one, hpa] at hy
          rcases List.mem_append.1 hy with h | h
          · exact HT.out y h
          · rw [List.mem_singleton.1 h]; exact HU.out
        gi_wp2
        refine ⟨⟨k + 1, hlt, by go_num, HT2, trivial⟩, by simp [intOf]; omega⟩
    · obtain rfl : k = np := by omega
      have hlt' : ¬ (k : Int) < (k : Int) := by omega
      have hall : c.1.all (hasN s.1.length) = true := List.all_eq_true.2 (fun y hy => HT.out y (by rw [List.take_of_length_le (by rw [HNP.out]; exact Nat.le_refl _)]; exact hy))
      rw [hall, if_neg (by decide)] at HA
      have F1 := refFind_in b B s lv rows _ c _ _ hr2 hv2 (by omega) hsm
      clear hall HT
      gi_wp2_with fail
      refine ⟨trivial, rfl, F1.mono ?_⟩
      rintro e w3 ⟨rfl, c3⟩
      have c03 := Chg.seq c02 c3
      have hr3 := hr2.no c3
      have hv3 := hv2.no c3
      obtain ⟨z0, z1, z2⟩ := HX2.out _ c3
      obtain ⟨f, hf⟩ : ∃ f, findC s.1 c = f := ⟨_, rfl⟩
      rw [hf] at HA ⊢
      clear F1 hf hr2 hv2 y0 y1 y2
      by_cases hf0 : 0 < f
      · have hf1 : (0 : Int) < (f : Int) := by omega
        obtain rfl : A = (s, f, 0) := by rw [HA.out, if_neg (by omega)]
        gi_wp2
        go_ret2
        exact ⟨rfl, RefOut.mk hr3 (hS c03) (Grew.refl _ _)⟩
      · obtain rfl : f = 0 := by omega
        rw [if_pos rfl] at HA
        obtain ⟨pv, kv, rfl⟩ := hr3.slice
        obtain ⟨t0, t1, t2, t3⟩ := hr3.cells
        obtain ⟨N, hN⟩ : ∃ N, s.1.length = N := ⟨_, rfl⟩
        obtain ⟨R, hR⟩ : ∃ R, s.2 = R := ⟨_, rfl⟩
        have HNR : Hid (s.1.length = N ∧ s.2 = R) := ⟨hN, hR⟩
        rw [hN] at t0 HA hl
        rw [hR] at t1 HA
        clear hN hR
        gi_wp2
        by_cases hfull : R ≤ N
        · obtain rfl : A = (s, 0, 3) := by rw [HA.out, if_pos hfull]
          have hfd : decide (R ≤ N) = true := decide_eq_true hfull
          have hfi : (R : Int) ≤ (N : Int) := by omega
          refine wpIn_region_quiet_lit rfl hmix (by kernel_rfl) ?_
          repeat (gi_big_quiet_step (fail))
          refine wpQuietIn_nil ?_
          rintro w' ⟨j, rfl⟩
          have cj := drewNC (Chg.refl No w3) j
          gi_wp2
          go_ret2
          exact ⟨rfl, RefOut.mk (hr3.no cj) (hS (Chg.seq c03 cj)) (Grew.refl _ _)⟩
        · obtain rfl : A = ((s.1 ++ [c], s.2), N + 1, 0) := by rw [HA.out, if_neg hfull, HNR.out.2]
          have hfd : decide (R ≤ N) = false := decide_eq_false hfull
          have hfi : ¬ (R : Int) ≤ (N : Int) := by omega
          refine wpIn_region_quiet_lit rfl hmix (by kernel_rfl) ?_
          repeat (gi_big_quiet_step (fail))
          refine wpQuietIn_nil ?_
          rintro w' ⟨j, rfl⟩
          have cj := drewNC (Chg.refl No w3) j
          generalize w3.drewN j = W4 at *
          have hr4 := hr3.no cj
          have hv4 := hv3.no cj
          have c04 := Chg.seq c03 cj
          obtain ⟨t4, t5, t6, t7⟩ := hr4.cells
          rw [HNR.out.1] at t4
          rw [HNR.out.2] at t5
          have hBw : B < w.heap.size := (h.low B (.inl rfl)).2
          have hB4 : B < W4.heap.size := (hr4.low B (.inl rfl)).2
          have hlvB := hr4.ne
          obtain ⟨z0, z1, z2⟩ := HX2.out _ (Chg.seq c3 cj)
          have hne : ¬ w.heap.size = B := by omega
          have hany : Nonempty (AfterB (fun k => k = B) W4) := AfterB.any _ _
          have f0 : ∀ d : AfterB (fun k => k = B) W4, d.val.cell? ⟨w.heap.size, 0, none⟩ = some (.slice p k k0) := fun d => d.cell z0 hne
          have f1 : ∀ d : AfterB (fun k => k = B) W4, d.val.cell? ⟨w.heap.size, 1, none⟩ = some (.slice q m l) := fun d => d.cell z1 hne
          have f2 : ∀ d : AfterB (fun k => k = B) W4, d.val.cell? ⟨w.heap.size, 2, none⟩ = some (.string c.2.2) := fun d => d.cell z2 hne
          have hrow : ∀ W, Chg (fun k => k = B) W4 W → SlE 3 eM W (.slice pv N kv) rows := fun W cW => by
            have := SlE.chg eM_len (by decide) hr4.row.row cW (fun k hk e => hlvB (by rw [← e]; exact hk.2))
            rw [HNR.out.1] at this
            exact this
          have hone := hr4.red.one
          have hrl : rows.length = N := by rw [hr4.red.len, HNR.out.1]
          have hb4 : b ≤ W4.heap.size := Nat.le_trans hr4.lowB (Nat.le_of_lt hB4)
          have hbox := hr4.box
          rw [HNR.out.1, HNR.out.2] at hbox
          have Hr4 : Hid _ := hr4
          clear hr3 hv3 z0 z1 z2 t0 t1 t2 t3 hr4 cj c3 c03 hfd hfi hfull HX2
          gi_wp2
          refine region_loudG (fun i => i == 2 || i == 4 || i == 5 || i == 7 || i == 8 || i == 9 || i == 11) (fun w' => ∃ d : AfterB (fun k => k = B) W4, w' = d.val) (AddInv W4 B (.slice pv N kv) (iv (R : Int)) rows (.slice p k k0, .slice q m l, c.2.2))
            (fun j => if j = 4 then .slice pv N kv else if j = 2 then ptr B else if j = 9 then ptr B else .slice none 0 0) hmix (by kernel_rfl) (by kernel_rfl) (fun d u W hI => ⟨⟨W, hI.chg⟩, rfl⟩)
            ⟨(Chg.refl _ W4).drew, rfl, rfl, rfl, ⟨none, 0, 0, rfl⟩, fun h => (by cases h), fun h => (by cases h), fun h => (by cases h), fun h => (by cases h), fun h => (by cases h), fun h => (by cases h), fun h => (by cases h), hbox⟩ (fun u hu => ?_)
          obtain ⟨_, _, hu⟩ := hu
          have e2 := hu.v2
          have e4 := hu.v4
          have e9 := hu.v9
          obtain ⟨q8, m8, k8, e8⟩ := hu.v8
          clear hu
          simp only [hushE, Nat.reduceAdd, Nat.reduceBEq, Bool.or_self, Bool.or_true, Bool.or_false, if_true, if_false, Bool.false_eq_true]
          simp only [e2, e4, e8, e9]
          repeat (gi_big_quiet_step (fail))
          refine wpQuietIn_nil ⟨?_, ?_, ?_⟩
          · intro i oo ho hm
            simp only [Bool.or_eq_true, beq_iff_eq] at hm
            rcases hm with (((((rfl | rfl) | rfl) | rfl) | rfl) | rfl) | rfl
            all_goals (cases ho; rfl)
          · intro i oo d W hjo hm hd hwt hI
            simp only [Bool.or_eq_true, beq_iff_eq] at hm
            rcases hm with (((((rfl | rfl) | rfl) | rfl) | rfl) | rfl) | rfl
            · cases hjo
              refine LeadsV.value (v := ptr B) (w' := W) ?_ hI.s2
              simp [go_sem]
            · cases hjo
              have h11 : d 11 = false := by
                cases e : d 11 with
                | false => rfl
                | true =>
                  have := hI.o5 (hI.o8 (hI.o11 e)).1
                  rw [hd] at this
                  cases this
              have hb := hI.box
              rw [h11, if_neg Bool.false_ne_true] at hb
              have kb : W.cell? ⟨B, 0, none⟩ = some (.slice pv N kv) := by simp [World.cell?, hb]
              refine LeadsV.value (v := .slice pv N kv) (w' := W) ?_ hI.s4
              simp [go_sem, kb]
            · cases hjo
              refine LeadsV.append_sm _ _ rfl W4.heap.size (.slice none 0 0) [] rfl (World.ownsRow_nil _ _ _ _) pv N kv rows rfl (hrow W hI.chg) hone (by simp; omega) hI.chg.size ?_
              intro v' w' ho' hg' hat
              rw [List.nil_append] at ho'
              refine hI.s5 hd (hwt 4 rfl (by kernel_rfl)) ((Chg.refl _ W).grown hg' (fun k e => by cases e)) ho' (fun k hk => ?_)
              rcases hat with e | e
              · rw [e] at hk; cases hk
              · rw [e] at hk; cases hk; exact Nat.le_refl _
            · cases hjo
              refine LeadsV.value (v := .slice (some ⟨W.heap.size, 0, none⟩) 1 1) (w' := W.alloc (.cells #[.slice p k k0, .slice q m l, .string c.2.2] 36)) ?_ (hI.s7 hd)
              simp [go_sem]
            · cases hjo
              have h5 := hwt 5 rfl (by kernel_rfl)
              have h7 := hwt 7 rfl (by kernel_rfl)
              obtain ⟨f7a, f7b⟩ := hI.f7 h7 hd
              have f7c := f7a
              obtain ⟨q7, k7, e7, _⟩ := f7c
              have f7d := f7a
              rw [e7] at f7d
              refine LeadsV.append_sm _ _ rfl W4.heap.size (u 5) rows rfl (hI.f5 h5 hd) q7 1 k7 [(.slice p k k0, .slice q m l, c.2.2)] e7 f7d (fun r hr => by rw [List.mem_singleton.1 hr]; exact ⟨rfl, rfl⟩) (by omega) hI.chg.size ?_
              intro v' w' ho' hg' hat
              exact hI.s8 hd h5 h7 ((Chg.refl (fun k => (u 5).ownBlock = some k) W).grown hg' (fun k e => .inl e)) ho' hB4
            · cases hjo
              refine LeadsV.value (v := ptr B) (w' := W) ?_ hI.s9
              simp [go_sem]
            · cases hjo
              have h8 := hwt 8 rfl (by kernel_rfl)
              have hb := hI.box
              rw [hd, if_neg Bool.false_ne_true] at hb
              have kb : W.cell? ⟨B, 0, none⟩ = some (.slice pv N kv) := by simp [World.cell?, hb]
              have kf : W.frozen? ⟨B, 0, none⟩ = false := by simp [World.frozen?, hb]
              refine LeadsV.skip (w' := W.setCell ⟨B, 0, none⟩ (u 8)) ?_ (hI.s11 hd h8 hB4 undef)
              rw [e8]
              simp [go_sem, kb, kf]
          · intro d W hall hI
            have h8 := hall 8 rfl (by simp)
            have h11 := hall 11 rfl (by simp)
            have hb := hI.box
            rw [h11, if_pos rfl] at hb
            have ho8 := hI.f8 h8
            have hcW := hI.chg
            have hm8 : m8 = N + 1 := by
              obtain ⟨p', c', e'⟩ := row_slice ho8
              rw [e8, Value.slice.injEq] at e'
              rw [e'.2.1, List.length_append, hrl]
              rfl
            subst hm8
            have kb : W.cell? ⟨B, 0, none⟩ = some (.slice q8 (N + 1) k8) := by rw [← e8]; simp [World.cell?, hb]
            have hlow8 : ∀ k, (u 8).ownBlock = some k → W4.heap.size ≤ k := fun k hk => (World.ownsRow.lt ho8 k hk).1
            have hR : RefRep b B (s.1 ++ [c], s.2) (u 8) (rows ++ [(.slice p k k0, .slice q m l, c.2.2)]) W :=
              ⟨by rw [HNR.out.2]; exact hb, rowBase ho8 hb4, (Hr4.out.red.chg hcW (fun k e => by rw [e]; exact Hr4.out.lowB)).snoc (hv4.chg hcW (fun k hk e => by have := Hr4.out.lowB; omega)), fun e => by have := hlow8 B e; omega, Hr4.out.lowB⟩
            have hout : RefOut b B (s.1 ++ [c], s.2) (.slice pv s.1.length kv) w W := by
              refine RefOut.mk hR ((hS c04).trans hcW (fun k e => .inl (.inl e))) (fun k hk => ?_)
              rcases hk with rfl | hk
              · exact .inl (.inl rfl)
              · exact .inr (Nat.le_trans c04.size (hlow8 k hk))
            clear hI hall f0 f1 f2 hany e4 hrow
            gi_wp2
            go_ret2
            exact ⟨rfl, hout⟩

end Go.Proofs.YtconingjdgmodaaDoor
