/-
  Of: KOwn, KGet, KAlong, Of.
-/
import Derived.Test.YtakbeololabmhaaGreatDoorG17
import Derived.Test.YtakbeololabmhaaGreatDoorG10
import Derived.Laws.ResultCell
import Derived.Test.YtakbeololabmhaaGreatDoorG09
import Derived.Test.YtakbeololabmhaaGreatDoorG13
import Derived.Sort.CutIn
import Derived.Sort.QuietThIn
import Derived.Shelf.RegionOpen
import Derived.Sort.LoopGhostIn
import Derived.Test.YtakbeololabmhaaGreatDoorG01
section
-- KOwn
namespace Go.Proofs.YtakbeololabmhaaGreatDoor
open Go.RowKit Go.Shelf Go.SeqLib Go.DiffLib Go.TreeLib Go.RepoLib Go.BigFrame
attribute [local go_sem] Oper.semAt_some

/-- A commit whose lists are rows of their own. -/
theorem CmD.ofOwn {W : World} {b : Nat} {pv tv : Value} {c : Cm} (h1 : OwnI W b pv c.1) (h2 : OwnF W b tv c.2.1) : CmD (fun k => pv.ownBlock = some k ∨ tv.ownBlock = some k) W (.agg #[pv, tv, .string c.2.2]) c := by
  have s1 : SlV W pv (c.1.map iv) := SlV.ofRow (by rw [List.length_map]; exact h1)
  have s2 := OwnF.sl h2
  obtain ⟨p, k, rfl⟩ := row_slice h1
  obtain ⟨q, l, rfl⟩ := row_slice h2
  exact ⟨p, _, k, q, _, l, rfl, s1, s2, fun j hj => .inl hj.2, fun j hj => .inr hj.2⟩

/-- What holds while a commit's lists are cloned. -/
structure CloInv (W0 : World) (B : Nat) (pv tv sv : Value) (ps : List Int) (zs : List Fl) (d : Nat → Bool) (u : Nat → Value) (W : World) : Prop where
  chg : Chg (fun k => k = B) W0 W
  v1 : u 1 = pv
  v4 : u 4 = tv
  v2 : ∃ q m k, u 2 = .slice q m k
  v5 : ∃ q m k, u 5 = .slice q m k
  o2 : d 2 = true → d 1 = true
  o5 : d 5 = true → d 4 = true
  o7 : d 7 = true → d 2 = true
  o9 : d 9 = true → d 5 = true
  f2 : d 2 = true → OwnI W W0.heap.size (u 2) ps
  f5 : d 5 = true → OwnF W W0.heap.size (u 5) zs
  box : W.heap[B]? = some (.cells #[if d 7 then u 2 else pv, if d 9 then u 5 else tv, sv] 43 (0, 0))
section
variable {W0 W W' : World} {B : Nat} {pv tv sv : Value} {ps : List Int} {zs : List Fl} {d : Nat → Bool} {u : Nat → Value}
theorem CloInv.s1 (h : CloInv W0 B pv tv sv ps zs d u W) : CloInv W0 B pv tv sv ps zs (fun j => if j = 1 then true else d j) (fun j => if j = 1 then pv else u j) W :=
  ⟨h.chg, rfl, h.v4, h.v2, h.v5, fun _ => rfl, fun e => h.o5 e, fun e => h.o7 e, fun e => h.o9 e, fun e => h.f2 e, fun e => h.f5 e, h.box⟩
theorem CloInv.s4 (h : CloInv W0 B pv tv sv ps zs d u W) : CloInv W0 B pv tv sv ps zs (fun j => if j = 4 then true else d j) (fun j => if j = 4 then tv else u j) W :=
  ⟨h.chg, h.v1, rfl, h.v2, h.v5, fun e => h.o2 e, fun _ => rfl, fun e => h.o7 e, fun e => h.o9 e, fun e => h.f2 e, fun e => h.f5 e, h.box⟩
theorem CloInv.s2 (h : CloInv W0 B pv tv sv ps zs d u W) (hd : d 2 = false) (h1 : d 1 = true) {v : Value} (c : Chg No W W') (ho : OwnI W' W0.heap.size v ps) : CloInv W0 B pv tv sv ps zs (fun j => if j = 2 then true else d j) (fun j => if j = 2 then v else u j) W' := by
  have h7 : d 7 = false := by
    cases e : d 7 with
    | false => rfl
    | true => have := h.o7 e; rw [hd] at this; cases this
  obtain ⟨p', c', e'⟩ := row_slice ho
  refine ⟨h.chg.trans c (fun _ h => h.elim), h.v1, h.v4, ⟨p', _, c', e'⟩, h.v5, fun _ => h1, fun e => h.o5 e, fun _ => rfl, fun e => h.o9 e, fun _ => ho, fun e => OwnF.no (h.f5 e) c, ?_⟩
  have hb := h.box
  rw [h7] at hb
  show W'.heap[B]? = some (.cells #[if d 7 = true then v else pv, if d 9 = true then u 5 else tv, sv] _ _)
  rw [h7]
  exact c.same hb (fun h => h)
theorem CloInv.s5 (h : CloInv W0 B pv tv sv ps zs d u W) (hd : d 5 = false) (h4 : d 4 = true) {v : Value} (c : Chg No W W') (ho : OwnF W' W0.heap.size v zs) : CloInv W0 B pv tv sv ps zs (fun j => if j = 5 then true else d j) (fun j => if j = 5 then v else u j) W' := by
  have h9 : d 9 = false := by
    cases e : d 9 with
    | false => rfl
    | true => have := h.o9 e; rw [hd] at this; cases this
  obtain ⟨p', c', e'⟩ := row_slice ho
  refine ⟨h.chg.trans c (fun _ h => h.elim), h.v1, h.v4, h.v2, ⟨p', _, c', e'⟩, fun e => h.o2 e, fun _ => h4, fun e => h.o7 e, fun _ => rfl, fun e => own_still (h.f2 e) c (fun _ _ h => h), fun _ => ho, ?_⟩
  have hb := h.box
  rw [h9] at hb
  show W'.heap[B]? = some (.cells #[if d 7 = true then u 2 else pv, if d 9 = true then v else tv, sv] _ _)
  rw [h9]
  exact c.same hb (fun h => h)
theorem CloInv.s7 (h : CloInv W0 B pv tv sv ps zs d u W) (hB : B < W0.heap.size) (h2 : d 2 = true) (x : Value) : CloInv W0 B pv tv sv ps zs (fun j => if j = 7 then true else d j) (fun j => if j = 7 then x else u j) (W.setCell ⟨B, 0, none⟩ (u 2)) := by
  have c : Chg (fun k => k = B) W (W.setCell ⟨B, 0, none⟩ (u 2)) := (Chg.refl (fun k => k = B) W).setCell (p := ⟨B, 0, none⟩) (.inl rfl) _
  refine ⟨h.chg.trans c (fun k hk => .inl hk), h.v1, h.v4, h.v2, h.v5, fun e => h.o2 e, fun e => h.o5 e, fun _ => h2, fun e => h.o9 e, fun e => own_still (h.f2 e) c (fun k hk e' => ?_), fun e => (h.f5 e).chg c (fun k hk e' => ?_), ?_⟩
  · have := (World.ownsRow.lt (h.f2 e) k hk).1; omega
  · have := (World.ownsRow.lt (h.f5 e) k hk).1; omega
  · have := h.box
    show (W.setCell ⟨B, 0, none⟩ (u 2)).heap[B]? = some (.cells #[u 2, if d 9 = true then u 5 else tv, sv] _ _)
    simp [World.setCell, Array.getElem?_modify, this]
theorem CloInv.s9 (h : CloInv W0 B pv tv sv ps zs d u W) (hB : B < W0.heap.size) (h5 : d 5 = true) (x : Value) : CloInv W0 B pv tv sv ps zs (fun j => if j = 9 then true else d j) (fun j => if j = 9 then x else u j) (W.setCell ⟨B, 1, none⟩ (u 5)) := by
  have c : Chg (fun k => k = B) W (W.setCell ⟨B, 1, none⟩ (u 5)) := (Chg.refl (fun k => k = B) W).setCell (p := ⟨B, 1, none⟩) (.inl rfl) _
  refine ⟨h.chg.trans c (fun k hk => .inl hk), h.v1, h.v4, h.v2, h.v5, fun e => h.o2 e, fun e => h.o5 e, fun e => h.o7 e, fun _ => h5, fun e => own_still (h.f2 e) c (fun k hk e' => ?_), fun e => (h.f5 e).chg c (fun k hk e' => ?_), ?_⟩
  · have := (World.ownsRow.lt (h.f2 e) k hk).1; omega
  · have := (World.ownsRow.lt (h.f5 e) k hk).1; omega
  · have := h.box
    show (W.setCell ⟨B, 1, none⟩ (u 5)).heap[B]? = some (.cells #[if d 7 = true then u 2 else pv, u 5, sv] _ _)
    simp [World.setCell, Array.getElem?_modify, this]
end

set_option maxRecDepth 100000 in
set_option maxHeartbeats 4000000 in
theorem ownC_in (v : Value) (c : Cm) (D : Blk) (w : World) (hv : CmD D w v c) (hs : SmallC c) : CallsIn Fence.wide 0 Tryz.prog 38 #[v] w fun e w' => ∃ pv tv, e = .returned (.agg #[pv, tv, .string c.2.2]) ∧ OwnI w' w.heap.size pv c.1 ∧ OwnF w' w.heap.size tv c.2.1 ∧ Chg No w w' := by
  have hmix : Tryz.prog.follows .mixedOrders = true := by kernel_rfl
  obtain ⟨p, n, k, q, m, l, rfl, h1, h2, _, _⟩ := hv
  obtain ⟨c1, c2, c3⟩ := c
  have l1 : c1.length ≤ 1000000 := by have := hs.1; dsimp only at this; omega
  have l2 : c2.length ≤ 100000 := by have := hs.2.1; dsimp only at this; omega
  dsimp only at h1 h2 ⊢
  obtain ⟨W0, hW0⟩ : ∃ W0, (w.alloc (.cells #[.slice p n k, .slice q m l, .string c3] 43)).alloc (.cells #[.slice none 0 0, .slice none 0 0, .string ⟨#[]⟩] 43) = W0 := ⟨_, rfl⟩
  have ca : Chg No w W0 := hW0 ▸ ((Chg.refl _ w).alloc _).alloc _
  have x0 : W0.heap[w.heap.size]? = some (.cells #[.slice p n k, .slice q m l, .string c3] 43 (0, 0)) := by
    rw [← hW0, Below.heap_alloc _ _ _ (by rw [World.size_alloc]; omega)]
    exact World.alloc_heap_new w _
  have x1 : W0.heap[w.heap.size + 1]? = some (.cells #[.slice none 0 0, .slice none 0 0, .string ⟨#[]⟩] 43 (0, 0)) := by
    have := World.alloc_heap_new (w.alloc (.cells #[.slice p n k, .slice q m l, .string c3] 43)) (.cells #[.slice none 0 0, .slice none 0 0, .string ⟨#[]⟩] 43 (0, 0))
    rw [World.size_alloc] at this
    rw [← hW0]
    exact this
  have hB : w.heap.size < W0.heap.size := (Array.getElem?_eq_some_iff.1 x0).1
  have hB1 : w.heap.size + 1 < W0.heap.size := (Array.getElem?_eq_some_iff.1 x1).1
  obtain ⟨B, hBe⟩ : ∃ B, w.heap.size = B := ⟨_, rfl⟩
  have HP : ∀ W, Chg (fun k => k = B) W0 W → SlV W (.slice p n k) (c1.map iv) := fun W cW => (h1.no ca).chg cW (fun j hj e => by have := h1.lt j hj; omega)
  have HF : ∀ W, Chg (fun k => k = B) W0 W → SlF W (.slice q m l) c2 := fun W cW => (h2.no ca).chg cW (fun j hj e => by have := h2.lt j hj; omega)
  have hfin : ∀ {W9 : World}, Chg (fun k => k = B ∨ k = B + 1) W0 W9 → Chg No w W9 := fun c9 => ca.trans c9 (fun k hk => by
    rcases hk with h | h
    · exact .inr (by omega)
    · exact .inr (by omega))
  have hany : Nonempty (AfterB (fun k => k = B) W0) := AfterB.any _ _
  have HL : Hid (c1.length ≤ 1000000 ∧ c2.length ≤ 100000) := ⟨l1, l2⟩
  have hsz := ca.size
  clear h1 h2 hs l1 l2
  refine callsIn_of_wp Tryz.func38 rfl trivial ?_
  simp only [Tryz.ntmps38, List.size_toArray, List.length_cons, List.length_nil, Nat.reduceAdd, Nat.reduceSub, Array.replicate_succ, Array.replicate_zero, List.push_toArray, List.append_toArray, List.nil_append, List.cons_append]
  gi_wp2
  subst hBe
  refine region_loudG (fun i => i == 1 || i == 2 || i == 4 || i == 5 || i == 7 || i == 9) (fun w' => ∃ d : AfterB (fun k => k = w.heap.size) W0, w' = d.val) (CloInv W0 w.heap.size (.slice p n k) (.slice q m l) (.string c3) c1 c2)
    (fun j => if j = 1 then .slice p n k else if j = 4 then .slice q m l else .slice none 0 0) hmix (by kernel_rfl) (by kernel_rfl) (fun d u W hI => ⟨⟨W, hI.chg⟩, rfl⟩)
    ⟨(Chg.refl _ W0).drew, rfl, rfl, ⟨none, 0, 0, rfl⟩, ⟨none, 0, 0, rfl⟩, fun h => (by cases h), fun h => (by cases h), fun h => (by cases h), fun h => (by cases h), fun h => (by cases h), fun h => (by cases h), x0⟩ (fun u hu => ?_)
  obtain ⟨_, _, hu⟩ := hu
  have e1 := hu.v1
  have e4 := hu.v4
  obtain ⟨q2, m2, k2, e2⟩ := hu.v2
  obtain ⟨q5, m5, k5, e5⟩ := hu.v5
  clear hu
  simp only [hushE, Nat.reduceAdd, Nat.reduceBEq, Bool.or_self, Bool.or_true, Bool.or_false, if_true, if_false, Bool.false_eq_true]
  simp only [e1, e2, e4, e5]
  repeat (gi_big_quiet_step (fail))
  refine wpQuietIn_nil ⟨?_, ?_, ?_⟩
  · intro i oo ho hm
    simp only [Bool.or_eq_true, beq_iff_eq] at hm
    rcases hm with ((((rfl | rfl) | rfl) | rfl) | rfl) | rfl
    all_goals (cases ho; rfl)
  · intro i oo d W hjo hm hd hwt hI
    have hb := hI.box
    simp only [Bool.or_eq_true, beq_iff_eq] at hm
    rcases hm with ((((rfl | rfl) | rfl) | rfl) | rfl) | rfl
    · cases hjo
      have h7 : d 7 = false := by
        cases e : d 7 with
        | false => rfl
        | true => have := hI.o2 (hI.o7 e); rw [hd] at this; cases this
      rw [h7, if_neg Bool.false_ne_true] at hb
      have kb : W.cell? ⟨w.heap.size, 0, none⟩ = some (.slice p n k) := by simp [World.cell?, hb]
      refine LeadsV.value (v := .slice p n k) (w' := W) ?_ hI.s1
      simp [go_sem, kb]
    · cases hjo
      have h1 := hwt 1 rfl (by kernel_rfl)
      refine LeadsV.call (f := 63) (args := #[.slice p n k]) (by simp [go_sem]) ((cloneI_in _ c1 HL.out.1 _ (HP W hI.chg)).mono ?_)
      rintro e w2 ⟨v', rfl, ho, c'⟩
      exact ⟨v', rfl, hI.s2 hd h1 c' (rowBase ho hI.chg.size)⟩
    · cases hjo
      have h9 : d 9 = false := by
        cases e : d 9 with
        | false => rfl
        | true => have := hI.o5 (hI.o9 e); rw [hd] at this; cases this
      rw [h9, if_neg Bool.false_ne_true] at hb
      have kb : W.cell? ⟨w.heap.size, 1, none⟩ = some (.slice q m l) := by simp [World.cell?, hb]
      refine LeadsV.value (v := .slice q m l) (w' := W) ?_ hI.s4
      simp [go_sem, kb]
    · cases hjo
      have h4 := hwt 4 rfl (by kernel_rfl)
      refine LeadsV.call (f := 64) (args := #[.slice q m l]) (by simp [go_sem]) ((cloneF_in _ c2 HL.out.2 _ (HF W hI.chg)).mono ?_)
      rintro e w2 ⟨v', rfl, ho, c'⟩
      exact ⟨v', rfl, hI.s5 hd h4 c' (ho.base hI.chg.size)⟩
    · cases hjo
      have h2 := hwt 2 rfl (by kernel_rfl)
      have kb : W.cell? ⟨w.heap.size, 0, none⟩ = some (if d 7 then u 2 else .slice p n k) := by simp [World.cell?, hb]
      have kf : W.frozen? ⟨w.heap.size, 0, none⟩ = false := by simp [World.frozen?, hb]
      refine LeadsV.skip (w' := W.setCell ⟨w.heap.size, 0, none⟩ (u 2)) ?_ (hI.s7 hB h2 undef)
      rw [e2]
      simp [go_sem, kb, kf]
    · cases hjo
      have h5 := hwt 5 rfl (by kernel_rfl)
      have kb : W.cell? ⟨w.heap.size, 1, none⟩ = some (if d 9 then u 5 else .slice q m l) := by simp [World.cell?, hb]
      have kf : W.frozen? ⟨w.heap.size, 1, none⟩ = false := by simp [World.frozen?, hb]
      refine LeadsV.skip (w' := W.setCell ⟨w.heap.size, 1, none⟩ (u 5)) ?_ (hI.s9 hB h5 undef)
      rw [e5]
      simp [go_sem, kb, kf]
  · intro d W hall hI
    have h2 := hall 2 rfl (by simp)
    have h5 := hall 5 rfl (by simp)
    have h7 := hall 7 rfl (by simp)
    have h9 := hall 9 rfl (by simp)
    have hb := hI.box
    rw [h7, h9, if_pos rfl, if_pos rfl, e2, e5] at hb
    have o2 := hI.f2 h2
    have o5 := hI.f5 h5
    rw [e2] at o2
    rw [e5] at o5
    have cW := hI.chg
    have hr := cW.same x1 (by omega)
    have y0 : W.cell? ⟨w.heap.size, 0, none⟩ = some (.slice q2 m2 k2) := by simp [World.cell?, hb]
    have y1 : W.cell? ⟨w.heap.size, 1, none⟩ = some (.slice q5 m5 k5) := by simp [World.cell?, hb]
    have y2 : W.cell? ⟨w.heap.size, 2, none⟩ = some (.string c3) := by simp [World.cell?, hb]
    have z0 : W.cell? ⟨w.heap.size + 1, 0, none⟩ = some (.slice none 0 0) := by simp [World.cell?, hr]
    have z1 : W.cell? ⟨w.heap.size + 1, 1, none⟩ = some (.slice none 0 0) := by simp [World.cell?, hr]
    have z2 : W.cell? ⟨w.heap.size + 1, 2, none⟩ = some (.string ⟨#[]⟩) := by simp [World.cell?, hr]
    have f0 : W.frozen? ⟨w.heap.size + 1, 0, none⟩ = false := by simp [World.frozen?, hr]
    have f1 : W.frozen? ⟨w.heap.size + 1, 1, none⟩ = false := by simp [World.frozen?, hr]
    have f2 : W.frozen? ⟨w.heap.size + 1, 2, none⟩ = false := by simp [World.frozen?, hr]
    have hr9 : (((W.setCell ⟨w.heap.size + 1, 0, none⟩ (.slice q2 m2 k2)).setCell ⟨w.heap.size + 1, 1, none⟩ (.slice q5 m5 k5)).setCell ⟨w.heap.size + 1, 2, none⟩ (.string c3)).heap[w.heap.size + 1]? = some (.cells #[.slice q2 m2 k2, .slice q5 m5 k5, .string c3] 43 (0, 0)) := by
      simp [World.setCell, Array.getElem?_modify, hr]
    have c9 : Chg (fun k => k = w.heap.size + 1) W (((W.setCell ⟨w.heap.size + 1, 0, none⟩ (.slice q2 m2 k2)).setCell ⟨w.heap.size + 1, 1, none⟩ (.slice q5 m5 k5)).setCell ⟨w.heap.size + 1, 2, none⟩ (.string c3)) :=
      (((Chg.refl (fun k => k = w.heap.size + 1) W).setCell (p := ⟨w.heap.size + 1, 0, none⟩) (.inl rfl) _).setCell (p := ⟨w.heap.size + 1, 1, none⟩) (.inl rfl) _).setCell (p := ⟨w.heap.size + 1, 2, none⟩) (.inl rfl) _
    clear hI hall hany e1 e4 e2 e5 hb HP HF
    gi_wp2
    generalize ((W.setCell ⟨w.heap.size + 1, 0, none⟩ (.slice q2 m2 k2)).setCell ⟨w.heap.size + 1, 1, none⟩ (.slice q5 m5 k5)).setCell ⟨w.heap.size + 1, 2, none⟩ (.string c3) = W9 at *
    have r0 : W9.cell? ⟨w.heap.size + 1, 0, none⟩ = some (.slice q2 m2 k2) := by simp [World.cell?, hr9]
    have r1 : W9.cell? ⟨w.heap.size + 1, 1, none⟩ = some (.slice q5 m5 k5) := by simp [World.cell?, hr9]
    have r2 : W9.cell? ⟨w.heap.size + 1, 2, none⟩ = some (.string c3) := by simp [World.cell?, hr9]
    refine bodyPost_ret (v := .agg #[.slice q2 m2 k2, .slice q5 m5 k5, .string c3]) ?_ rfl ⟨_, _, rfl, ?_, ?_, hfin ((cW.mono (fun _ => .inl)).trans (c9.mono (fun _ => .inr)) (Grew.refl _ _))⟩
    · rw [results_cell1 rfl]
      go_simp
    · exact rowBase (own_still o2 c9 (fun k hk e => by have := (World.ownsRow.lt o2 k hk).1; omega)) hsz
    · exact OwnF.base (o5.chg c9 (fun k hk e => by have := (World.ownsRow.lt o5 k hk).1; omega)) hsz

end Go.Proofs.YtakbeololabmhaaGreatDoor

end
section
-- KGet
namespace Go.Proofs.YtakbeololabmhaaGreatDoor
open Go.RowKit Go.Shelf Go.SeqLib Go.DiffLib Go.TreeLib Go.RepoLib Go.BigFrame
attribute [local go_sem] Oper.semAt_some

set_option maxRecDepth 100000 in
set_option maxHeartbeats 4000000 in
theorem get_in1 (B : Nat) (s : Rp) (lv : Value) (rows : List Rw) (D : Blk) (n : Int) (w : World) (h : KRep B s lv rows D w) (hl : s.1.length ≤ 200) :
    CallsIn Fence.wide 0 Tryz.prog 19 #[ptr B, iv n] w fun e w' => ∃ pv tv, e = .returned (.tuple #[.agg #[pv, tv, .string (getC s.1 n).2.2], .bool (hasN s.1.length n)]) ∧ OwnI w' w.heap.size pv (getC s.1 n).1 ∧ OwnF w' w.heap.size tv (getC s.1 n).2.1 ∧ Chg No w w' := by
  obtain ⟨W1, hW1⟩ : ∃ W1, w.alloc (.cells #[.slice none 0 0, .slice none 0 0, .string ⟨#[]⟩] 43) = W1 := ⟨_, rfl⟩
  have ca : Chg No w W1 := hW1 ▸ (Chg.refl _ w).alloc _
  have x0 : W1.heap[w.heap.size]? = some (.cells #[.slice none 0 0, .slice none 0 0, .string ⟨#[]⟩] 43 (0, 0)) := hW1 ▸ World.alloc_heap_new w _
  have hk := h.no ca
  have H1 := has_in B s lv rows D n _ hk
  obtain ⟨p0, cap, rfl⟩ := h.slice
  obtain ⟨_, y1, _, _⟩ := hk.cells
  have c0 : W1.cell? ⟨w.heap.size, 0, none⟩ = some (.slice none 0 0) := by simp [World.cell?, x0]
  have c1 : W1.cell? ⟨w.heap.size, 1, none⟩ = some (.slice none 0 0) := by simp [World.cell?, x0]
  have c2 : W1.cell? ⟨w.heap.size, 2, none⟩ = some (.string ⟨#[]⟩) := by simp [World.cell?, x0]
  have f0 : W1.frozen? ⟨w.heap.size, 0, none⟩ = false := by simp [World.frozen?, x0]
  have f1 : W1.frozen? ⟨w.heap.size, 1, none⟩ = false := by simp [World.frozen?, x0]
  have f2 : W1.frozen? ⟨w.heap.size, 2, none⟩ = false := by simp [World.frozen?, x0]
  have hst : ∀ (W : World) (a b : Value) (x y z : Value) (s3 : Value), W.heap[w.heap.size]? = some (.cells #[x, y, z] 43 (0, 0)) → (((W.setCell ⟨w.heap.size, 0, none⟩ a).setCell ⟨w.heap.size, 1, none⟩ b).setCell ⟨w.heap.size, 2, none⟩ s3).heap[w.heap.size]? = some (.cells #[a, b, s3] 43 (0, 0)) := fun W a b x y z s3 hW => by
    simp [World.setCell, Array.getElem?_modify, hW]
  have cst : ∀ (W : World) (a b s3 : Value), Chg (fun k => k = w.heap.size) W (((W.setCell ⟨w.heap.size, 0, none⟩ a).setCell ⟨w.heap.size, 1, none⟩ b).setCell ⟨w.heap.size, 2, none⟩ s3) := fun W a b s3 =>
      (((Chg.refl (fun k => k = w.heap.size) W).setCell (p := ⟨w.heap.size, 0, none⟩) (.inl rfl) _).setCell (p := ⟨w.heap.size, 1, none⟩) (.inl rfl) _).setCell (p := ⟨w.heap.size, 2, none⟩) (.inl rfl) _
  obtain ⟨N, hN⟩ : ∃ N, s.1.length = N := ⟨_, rfl⟩
  obtain ⟨u, hu⟩ : ∃ u, hasN N n = u := ⟨_, rfl⟩
  have HNU : Hid (s.1.length = N ∧ hasN N n = u) := ⟨hN, hu⟩
  rw [hN] at H1 y1 hl ⊢
  rw [hu] at H1 ⊢
  have Hst : Hid _ := hst
  have Hcst : Hid _ := cst
  have Hk : Hid _ := hk
  clear hst cst h hk hN hu
  refine callsIn_of_wp Tryz.func19 rfl trivial ?_
  simp only [Tryz.ntmps19, List.size_toArray, List.length_cons, List.length_nil, Nat.reduceAdd, Nat.reduceSub, Array.replicate_succ, Array.replicate_zero, List.push_toArray, List.append_toArray, List.nil_append, List.cons_append]
  gi_wp2_with fail
  refine ⟨trivial, rfl, H1.mono ?_⟩
  rintro e w1 ⟨rfl, hw⟩
  subst hw
  clear H1
  cases u with
  | false =>
    have HG : Hid (getC s.1 n = noC) := by
      show _ = _
      unfold getC
      rw [HNU.out.1, HNU.out.2, if_neg Bool.false_ne_true]
    gi_wp2
    have hr9 := Hst.out _ (.slice none 0 0) (.slice none 0 0) _ _ _ (.string ⟨#[]⟩) x0
    have c9 := Hcst.out w1 (.slice none 0 0) (.slice none 0 0) (.string ⟨#[]⟩)
    generalize ((w1.setCell ⟨w.heap.size, 0, none⟩ (.slice none 0 0)).setCell ⟨w.heap.size, 1, none⟩ (.slice none 0 0)).setCell ⟨w.heap.size, 2, none⟩ (.string ⟨#[]⟩) = W9 at *
    have r0 : W9.cell? ⟨w.heap.size, 0, none⟩ = some (.slice none 0 0) := by simp [World.cell?, hr9]
    have r1 : W9.cell? ⟨w.heap.size, 1, none⟩ = some (.slice none 0 0) := by simp [World.cell?, hr9]
    have r2 : W9.cell? ⟨w.heap.size, 2, none⟩ = some (.string ⟨#[]⟩) := by simp [World.cell?, hr9]
    refine bodyPost_ret (v := .tuple #[.agg #[.slice none 0 0, .slice none 0 0, .string ⟨#[]⟩], .bool false]) ?_ rfl ⟨.slice none 0 0, .slice none 0 0, ?_, ?_, ?_, ca.trans c9 (fun k hk => .inr (by omega))⟩
    · rw [results_cell_tmp rfl]
      go_simp
    · rw [HG.out]; rfl
    · rw [HG.out]; exact World.ownsRow_nil _ _ _ _
    · rw [HG.out]; exact OwnF.nil _ _
  | true =>
    have hb : 1 ≤ n ∧ n ≤ (N : Int) := by
      have := HNU.out.2
      unfold hasN at this
      rw [Bool.and_eq_true, decide_eq_true_iff, decide_eq_true_iff] at this
      exact this
    have h0 : -1000000 ≤ n := by omega
    have h1 : n ≤ 1000000 := by omega
    obtain ⟨m, hm⟩ : ∃ m : Nat, n - 1 = (m : Int) := ⟨(n - 1).toNat, by omega⟩
    have hmN : m < N := by omega
    have hmN' : (m : Int) < (N : Int) := by omega
    obtain ⟨x, hx⟩ : ∃ x, s.1[m]? = some x := ⟨_, List.getElem?_eq_getElem (by rw [HNU.out.1]; exact hmN)⟩
    have HG : Hid (getC s.1 n = x) := by
      show _ = _
      unfold getC
      rw [HNU.out.1, HNU.out.2, if_pos rfl, show n.toNat - 1 = m by omega, List.getD_eq_getElem?_getD, hx]
      rfl
    have hk := Hk.out
    rw [HNU.out.1] at hk
    obtain ⟨⟨r1, r2, r3⟩, b1, o1, _, e0, g1, g2, g3, hcx⟩ := hk.cell hx
    have hxs := hk.small x (List.mem_of_getElem? hx)
    subst e0
    dsimp only at g1 g2 g3 hcx
    have hor : ∃ p' n' k' q' m' l', r1 = .slice p' n' k' ∧ r2 = .slice q' m' l' ∧ r3 = x.2.2 := by
      obtain ⟨p', n', k', q', m', l', e, _⟩ := hcx
      cases e
      exact ⟨_, _, _, _, _, _, rfl, rfl, rfl⟩
    obtain ⟨p', n', k', q', m', l', rfl, rfl, rfl⟩ := hor
    have O1 := ownC_in _ x D _ hcx hxs
    clear hk hcx hxs hb
    gi_wp2_with fail
    refine ⟨trivial, rfl, O1.mono ?_⟩
    rintro e w2 ⟨pv, tv, rfl, ho1, ho2, c3⟩
    clear O1
    obtain ⟨pa, ka, rfl⟩ := row_slice ho1
    obtain ⟨qa, la, rfl⟩ := row_slice ho2
    have x2 := c3.same x0 (fun h => h)
    have d0 : w2.cell? ⟨w.heap.size, 0, none⟩ = some (.slice none 0 0) := by simp [World.cell?, x2]
    have d1 : w2.cell? ⟨w.heap.size, 1, none⟩ = some (.slice none 0 0) := by simp [World.cell?, x2]
    have d2 : w2.cell? ⟨w.heap.size, 2, none⟩ = some (.string ⟨#[]⟩) := by simp [World.cell?, x2]
    have k0 : w2.frozen? ⟨w.heap.size, 0, none⟩ = false := by simp [World.frozen?, x2]
    have k1 : w2.frozen? ⟨w.heap.size, 1, none⟩ = false := by simp [World.frozen?, x2]
    have k2 : w2.frozen? ⟨w.heap.size, 2, none⟩ = false := by simp [World.frozen?, x2]
    obtain ⟨na, hna⟩ : ∃ na, x.1.length = na := ⟨_, rfl⟩
    obtain ⟨ma, hma⟩ : ∃ ma, x.2.1.length = ma := ⟨_, rfl⟩
    rw [hna]
    rw [hma]
    rw [hna] at ho1
    rw [hma] at ho2
    clear hna hma
    gi_wp2
    have hr9 := Hst.out w2 (.slice pa na ka) (.slice qa ma la) _ _ _ (.string x.2.2) x2
    have c9 := Hcst.out w2 (.slice pa na ka) (.slice qa ma la) (.string x.2.2)
    generalize ((w2.setCell ⟨w.heap.size, 0, none⟩ (.slice pa na ka)).setCell ⟨w.heap.size, 1, none⟩ (.slice qa ma la)).setCell ⟨w.heap.size, 2, none⟩ (.string x.2.2) = W9 at *
    have t0 : W9.cell? ⟨w.heap.size, 0, none⟩ = some (.slice pa na ka) := by simp [World.cell?, hr9]
    have t1 : W9.cell? ⟨w.heap.size, 1, none⟩ = some (.slice qa ma la) := by simp [World.cell?, hr9]
    have t2 : W9.cell? ⟨w.heap.size, 2, none⟩ = some (.string x.2.2) := by simp [World.cell?, hr9]
    have hsz := ca.size
    have hlow : w.heap.size < w1.heap.size := (Array.getElem?_eq_some_iff.1 x0).1
    have hfin := (Chg.seq ca c3).trans c9 (fun k hk => .inr (by omega))
    refine bodyPost_ret (v := .tuple #[.agg #[.slice pa na ka, .slice qa ma la, .string x.2.2], .bool true]) ?_ rfl ⟨.slice pa na ka, .slice qa ma la, ?_, ?_, ?_, hfin⟩
    · rw [results_cell_tmp rfl]
      go_simp
    · rw [HG.out]
    · rw [HG.out]
      exact rowBase (own_still ho1 c9 (fun k hk e => by have := (World.ownsRow.lt ho1 k hk).1; omega)) hsz
    · rw [HG.out]
      exact rowBase (own_still ho2 c9 (fun k hk e => by have := (World.ownsRow.lt ho2 k hk).1; omega)) hsz
end Go.Proofs.YtakbeololabmhaaGreatDoor

end
section
-- KAlong
namespace Go.Proofs.YtakbeololabmhaaGreatDoor
open Go.RowKit Go.Shelf Go.SeqLib Go.DiffLib Go.TreeLib Go.RepoLib Go.DagLib Go.BigFrame
attribute [local go_sem] Oper.semAt_some

/-- What comes of a number: nx, a row of its own. -/
def NextOk (NF B : Nat) (s : Rp) (lv : Value) (rows : List Rw) (D : Blk) (nx : Nat → List Int) : Prop := ∀ (m : Nat) (W : World), KRep B s lv rows D W → 1 ≤ m → m ≤ s.1.length →
  CallsIn Fence.wide 0 Tryz.prog NF #[ptr B, iv (m : Int)] W fun e w' => ∃ v, e = .returned v ∧ OwnI w' W.heap.size v (nx m) ∧ Chg No W w'
/-- Those of nx are lesser. -/
def LessI (N : Nat) (par : Nat → List Nat) (nx : Nat → List Int) : Prop := ∀ m, 1 ≤ m → m ≤ N → (nx m).map Int.toNat = par m ∧ ∀ p ∈ nx m, 1 ≤ p ∧ p < (m : Int)

set_option maxRecDepth 100000 in
set_option maxHeartbeats 4000000 in
theorem along1 (B : Nat) (s : Rp) (lv : Value) (rows : List Rw) (D : Blk) (par : Nat → List Nat) (nx : Nat → List Int) (NF n Bn Bf Br : Nat) (eg : ∀ args w, (callFunc NF args).run Tryz.prog w = .ok (.enter NF args) w)
    (hnext : NextOk NF B s lv rows D nx) (hlow : Low par) (hless : LessI s.1.length par nx) (hl : s.1.length ≤ 200) (hn1 : 1 ≤ n) (hn2 : n ≤ s.1.length) :
    Iter Tryz.prog 85 #[ptr Bn, ptr Bf, ptr Br] encI ((aheadL par n).map (fun (p : Nat) => (p : Int))) (fun k => k = Bn ∨ k = Bf ∨ k = Br ∨ (refS B lv k ∨ D k)) No
      (fun W => Boxed W Bn 3 (iv (n : Int)) ∧ Boxed W Bf 99 (.func (.func NF) #[] #[]) ∧ Boxed W Br 25 (ptr B) ∧ KRep B s lv rows D W)
      (fun _ W => Boxed W Bn 3 (iv (n : Int)) ∧ Boxed W Bf 99 (.func (.func NF) #[] #[]) ∧ Boxed W Br 25 (ptr B) ∧ KRep B s lv rows D W) := {
  sub := fun _ h => h.elim
  lt0 := by
    rintro W ⟨b1, b2, b3, b4⟩ k (rfl | rfl | rfl | h | h)
    · exact b1.lt
    · exact b2.lt
    · exact b3.lt
    · exact b4.ltO k h
    · exact b4.lt k h
  kept0 := by
    rintro W W' ⟨b1, b2, b3, b4⟩ hs hk
    exact ⟨(hk _ (.inl rfl)).trans b1, (hk _ (.inr (.inl rfl))).trans b2, (hk _ (.inr (.inr (.inl rfl)))).trans b3, b4.kept hs (fun k h => hk k (.inr (.inr (.inr h))))⟩
  kept := by
    rintro pre W W' ⟨b1, b2, b3, b4⟩ hs hk
    exact ⟨(hk _ (.inl rfl)).trans b1, (hk _ (.inr (.inl rfl))).trans b2, (hk _ (.inr (.inr (.inl rfl)))).trans b3, b4.kept hs (fun k h => hk k (.inr (.inr (.inr h))))⟩
  runs := by
    intro l J Jx S W pJ pJx hY hI hJ hDS
    obtain ⟨b1, b2, b3, b4⟩ := hI
    obtain ⟨tot, htot⟩ : ∃ tot, (aheadL par n).map (fun (p : Nat) => (p : Int)) = tot := ⟨_, rfl⟩
    rw [htot] at hY ⊢
    have hfin : ∀ {W9 : World}, Chg S W W9 → Boxed W9 Bn 3 (iv (n : Int)) ∧ Boxed W9 Bf 99 (.func (.func NF) #[] #[]) ∧ Boxed W9 Br 25 (ptr B) ∧ KRep B s lv rows D W9 := fun c9 =>
      ⟨c9.boxed b1 (hDS _ (.inl rfl)), c9.boxed b2 (hDS _ (.inr (.inl rfl))), c9.boxed b3 (hDS _ (.inr (.inr (.inl rfl)))), b4.chg c9 (fun k hk => hDS k (.inr (.inr (.inr hk))))⟩
    obtain ⟨N, hN⟩ : ∃ N, s.1.length = N := ⟨_, rfl⟩
    have HA : Hid ((aheadL par n).map (fun (p : Nat) => (p : Int)) = tot ∧ NextOk NF B s lv rows D nx ∧ LessI s.1.length par nx ∧ s.1.length = N) := ⟨htot, hnext, hless, hN⟩
    have HFin : Hid (∀ {W9 : World}, Chg S W W9 → Boxed W9 Bn 3 (iv (n : Int)) ∧ Boxed W9 Bf 99 (.func (.func NF) #[] #[]) ∧ Boxed W9 Br 25 (ptr B) ∧ KRep B s lv rows D W9) := hfin
    have hYn : ∀ k, S k → k < W.heap.size := (pJ _).lt hJ
    have hc1 := b1.cell
    rw [hN] at hl hn2
    -- the stack at the start
    obtain ⟨W0, hW0⟩ : ∃ W0, (W.alloc (.cells #[iv (n : Int)] 3)).alloc (.cells #[.slice (some ⟨W.heap.size, 0, none⟩) 1 1] 117) = W0 := ⟨_, rfl⟩
    have cA : Chg No W W0 := by
      rw [← hW0]
      exact ((Chg.refl No W).alloc _).alloc _
    have hst0 : Stk (W.heap.size + 1) [(n : Int)] (fun k => k = W.heap.size + 1 ∨ k = W.heap.size) W0 := by
      have bb := Boxed.new (W.alloc (.cells #[iv (n : Int)] 3)) 117 (.slice (some ⟨W.heap.size, 0, none⟩) 1 1)
      rw [World.size_alloc] at bb
      refine ⟨W.heap.size, 1, rfl, ?_, ?_, by omega⟩
      · rw [← hW0]
        exact bb
      · rw [← hW0]
        exact World.ownsRow.alloc (World.ownsRow_lit W #[iv (n : Int)] 1 (Nat.zero_le _) (by unfold maxLen; omega) rfl) _
    have HS0 : Hid (Stk (W.heap.size + 1) [(n : Int)] (fun k => k = W.heap.size + 1 ∨ k = W.heap.size) W0 ∧ Chg No W W0) := ⟨hst0, cA⟩
    have HW0 : Hid ((W.alloc (.cells #[iv (n : Int)] 3)).alloc (.cells #[.slice (some ⟨W.heap.size, 0, none⟩) 1 1] 117) = W0) := hW0
    have HDS : Hid _ := hDS
    clear hfin b2 b3 b4 htot hnext hless hN hst0 cA hDS hW0
    refine callsIn_of_wp Tryz.func85 rfl trivial ?_
    simp only [Tryz.ntmps85, List.size_toArray, List.length_cons, List.length_nil, Nat.reduceAdd, Nat.reduceSub, Array.replicate_succ, Array.replicate_zero, List.push_toArray, List.append_toArray, List.nil_append, List.cons_append]
    gi_wp2
    gi_loopg [6] N (fun g _s6 wr => ∃ (pre st : List Int) (So Sx : Blk), pre ++ (remI par st n).map (fun (p : Nat) => (p : Int)) = tot ∧ (remI par st n).length ≤ g ∧ st.Pairwise (· < ·) ∧ (∀ x ∈ st, 0 < x ∧ x ≤ (n : Int)) ∧
      Stk (W.heap.size + 1) st Sx wr ∧ (∀ k, Sx k → W.heap.size ≤ k) ∧ (∀ k, Sx k → ¬ So k) ∧ J pre So wr ∧ Chg S W wr ∧ Grew S W So)
    case atStart =>
      rw [HW0.out]
      refine ⟨[], [(n : Int)], S, _, ?_, ?_, List.pairwise_singleton _ _, ?_, HS0.out.1, ?_, ?_, (pJ _).chg hJ HS0.out.2 (fun _ _ h => h), HS0.out.2.mono (fun _ h => h.elim), Grew.refl _ _⟩
      · rw [remI_one]; exact HA.out.1
      · rw [remI_one]
        unfold aheadL
        exact Nat.le_trans (List.length_filter_le _ _) (by rw [down_length]; exact hn2)
      · intro x hx
        rw [List.mem_singleton] at hx
        omega
      · rintro k (h | h) <;> omega
      · rintro k (h | h) hs
        · have := hYn k hs; omega
        · have := hYn k hs; omega
    case round =>
      obtain ⟨pre, st, So, Sx, hpt, hg, hup, hmem, hst, hSx, hap, j, c, gr⟩ := hrel
      have hlst : st.length ≤ N := up_length (a := 0) (n := N) hup (fun y hy => by have := hmem y hy; omega)
      rcases List.eq_nil_or_concat st with rfl | ⟨st', mi, rfl⟩
      · obtain ⟨gq, cq, rfl, bq, oq, nq⟩ := hst
        have hcq := bq.cell
        rw [remI_nil, List.map_nil, List.append_nil] at hpt
        subst hpt
        clear bq oq hg hlst
        have hf := HFin.out c
        gi_wp2
        go_end0
        exact ⟨⟨_, rfl⟩, pre, So, .inl ⟨rfl, j⟩, hf, c.mono (fun k hk => by first | exact .inr hk | exact hk), gr⟩
      · rw [List.concat_eq_append] at *
        have hmi := hmem mi (by simp)
        obtain ⟨m, rfl⟩ : ∃ m : Nat, mi = (m : Int) := ⟨mi.toNat, by omega⟩
        have hm1 : 1 ≤ m := by omega
        have hmn : m ≤ n := by omega
        have hmN : m ≤ s.1.length := by rw [HA.out.2.2.2]; omega
        obtain ⟨hup1, _, hup2⟩ := List.pairwise_append.1 hup
        obtain ⟨hps, hpl⟩ := HA.out.2.2.1 m hm1 hmN
        have hstep := remI_step hlow hps hm1 (fun x hx => hup2 x hx _ (List.mem_singleton.2 rfl)) hmn
        rw [hstep, List.map_cons] at hpt
        rw [hstep, List.length_cons] at hg
        have hpre : pre ++ [(m : Int)] <+: tot := ⟨_, by rw [← hpt, List.append_assoc]; rfl⟩
        have hpt2 : (pre ++ [(m : Int)]) ++ (remI par (putI (nx m) st') n).map (fun (p : Nat) => (p : Int)) = tot := by rw [← hpt, List.append_assoc]; rfl
        have hmem1 : ∀ x ∈ st', 0 < x ∧ x ≤ (n : Int) := fun x hx => hmem x (by simp [hx])
        have hmem2 : ∀ x, x ∈ nx m ∨ x ∈ st' → 0 < x ∧ x ≤ (n : Int) := fun x hx => by
          rcases hx with hx | hx
          · have := hpl x hx; omega
          · exact hmem1 x hx
        have hlen1 : st'.length ≤ 1000 := by rw [List.length_append] at hlst; omega
        have H1 := pop_in (W.heap.size + 1) st' (m : Int) Sx wr hst hlen1
        obtain ⟨gq, cq, hSq, bq, oq, nq⟩ := id hst
        have hcq := bq.cell
        obtain ⟨lq, hlq⟩ : ∃ lq, (st' ++ [(m : Int)]).length = lq := ⟨_, rfl⟩
        have hlq0 : (0 : Int) < (lq : Int) := by rw [← hlq, List.length_append, List.length_singleton]; omega
        rw [hlq] at hcq
        have HP : Hid ((pre ++ [(m : Int)]) ++ (remI par (putI (nx m) st') n).map (fun (p : Nat) => (p : Int)) = tot ∧ (∀ x, x ∈ nx m ∨ x ∈ st' → 0 < x ∧ x ≤ (n : Int)) ∧ st'.Pairwise (· < ·)) := ⟨hpt2, hmem2, hup1⟩
        have HG : Hid (_ ≤ _) := hg
        clear bq oq hlq hpt hpt2 hg hup hmem hmem1 hmem2 hps hpl hstep hup2 hup1 hlst hSq hst
        gi_wp2_with fail
        refine ⟨trivial, rfl, H1.mono ?_⟩
        rintro e w1 ⟨rfl, hst1, c1⟩
        clear H1
        have j1 := (pJ _).chg j c1 (fun k hk h => hap k h hk)
        have cw1 : Chg S W w1 := c.trans c1 (fun k hk => .inr (hSx k hk))
        have hSo1 := (pJ _).lt j1
        have hSx1 := (Stk.part _ _).lt hst1
        obtain ⟨fnr, tmps, assign, body, hy, hR⟩ := hY pre (m : Int) So w1 hpre j1
        gi_wp2_with fail
        refine ⟨rfl, hR.mono ?_⟩
        rintro e w3 ⟨S3, c3, g3, (⟨rfl, j3⟩ | ⟨rfl, j3⟩)⟩
        · have hst3 := (Stk.part _ _).chg hst1 c3 (fun k hk h => hap k hk h)
          have hap3 : ∀ k, Sx k → ¬ S3 k := fun k hk h => by
            rcases g3 k h with h' | h'
            · exact hap k hk h'
            · have := hSx1 k hk; omega
          have cw3 : Chg S W w3 := cw1.trans c3 gr
          have gr3 : Grew S W S3 := gr.trans (fun k hk => g3 k hk) cw1.size
          have hf3 := HFin.out cw3
          obtain ⟨b1', b2', b3', b4'⟩ := hf3
          have hd2 := b2'.cell
          have hd3 := b3'.cell
          have H2 := HA.out.2.1 m w3 b4' hm1 hmN
          have hSo3 := (pJ _).lt j3
          have hSx3 := (Stk.part _ _).lt hst3
          clear b1' b2' b3' b4' hy hR hc1
          gi_wp2_with fail
          refine ⟨trivial, rfl, H2.mono ?_⟩
          rintro e w4 ⟨v4, rfl, ho4, c4⟩
          clear H2
          have hst4 := (Stk.part _ _).chg hst3 c4 (fun _ _ h => h)
          have hx4 : SlV w4 v4 ((nx m).map iv) := SlV.ofRow (by rw [List.length_map]; exact ho4)
          have H3 := put_in (W.heap.size + 1) st' (nx m) v4 n Sx w4 hst4 hx4 (fun k hk h => by
            have := (World.ownsRow.lt ho4 k hk.2).1
            have := hSx3 k h
            omega) HP.out.2.2 (by omega) HP.out.2.1
          have j4 := (pJ _).chg j3 c4 (fun _ _ h => h)
          obtain ⟨pv, kv, rfl⟩ := row_slice ho4
          clear ho4 hx4
          gi_wp2_with fail
          refine ⟨trivial, rfl, H3.mono ?_⟩
          rintro e w5 ⟨⟨v5, rfl⟩, Sx', hst5, c5, g5⟩
          have hup5 : (putI (nx m) st').Pairwise (· < ·) := putI_up HP.out.2.2
          have hmem5 : ∀ x ∈ putI (nx m) st', 0 < x ∧ x ≤ (n : Int) := fun x hx => HP.out.2.1 x (putI_mem.1 hx)
          have cw5 : Chg S W w5 := (cw3.trans c4 (fun _ h => h.elim)).trans c5 (fun k hk => .inr (hSx k hk))
          have hs3 := cw3.size
          have hs4 := c4.size
          gi_wp2
          gi_roundg ((remI par (putI (nx m) st') n).length)
          case measure => have := HG.out; omega
          case rel =>
            refine ⟨pre ++ [(m : Int)], putI (nx m) st', S3, Sx', HP.out.1, Nat.le_refl _, hup5, hmem5, hst5, fun k hk => ?_, fun k hk h => ?_, (pJ _).chg j4 c5 (fun k hk h => hap3 k h hk), cw5, gr3⟩
            · rcases g5 k hk with h | h
              · exact hSx k h
              · omega
            · rcases g5 k hk with h' | h'
              · exact hap3 k h' h
              · have := hSo3 k h; omega
        · have cw3 : Chg S W w3 := cw1.trans c3 gr
          have gr3 : Grew S W S3 := gr.trans (fun k hk => g3 k hk) cw1.size
          have hf3 := HFin.out cw3
          clear hy hR
          gi_wp2
          refine bodyPost_ret (results_none rfl _ _ _) rfl ?_
          exact ⟨⟨_, rfl⟩, _, S3, .inr ⟨hpre, j3⟩, hf3, cw3.mono (fun _ => .inr), gr3⟩ }
end Go.Proofs.YtakbeololabmhaaGreatDoor

end
section
-- Of
namespace Go.Proofs.YtakbeololabmhaaGreatDoor
open Go.RowKit Go.Shelf Go.SeqLib
attribute [local go_sem] Oper.semAt_some

set_option maxRecDepth 100000 in
set_option maxHeartbeats 1000000 in
theorem of1 (v : Value) (zs : List Int) (Bk : Nat) (hD : ¬ slD v zs Bk) :
    Iter Tryz.prog 104 #[.pointer (some ⟨Bk, 0, none⟩)] encI zs (fun k => k = Bk ∨ slD v zs k) (fun _ => False)
      (fun W => Boxed W Bk 40 v ∧ SlI W v zs) (fun _ W => Boxed W Bk 40 v ∧ SlI W v zs) := {
  sub := fun _ h => h.elim
  lt0 := by
    rintro W ⟨b1, b2⟩ k (rfl | h)
    · exact b1.lt
    · exact b2.lt k h
  kept0 := by
    rintro W W' ⟨b1, b2⟩ _ hk
    exact ⟨(hk _ (.inl rfl)).trans b1, b2.kept (fun k h => hk k (.inr h))⟩
  kept := by
    rintro pre W W' ⟨b1, b2⟩ _ hk
    exact ⟨(hk _ (.inl rfl)).trans b1, b2.kept (fun k h => hk k (.inr h))⟩
  runs := by
    intro l J Jx S W pJ pJx hY hI hJ hDS
    obtain ⟨b1, b2⟩ := hI
    have b2' := b2
    obtain ⟨p, cap, rfl, hcap, hmax, hcells⟩ := b2
    have hc1 := b1.cell
    have hml : zs.length ≤ maxLen := by omega
    unfold maxLen at hml
    refine callsIn_of_wp Tryz.func104 rfl trivial ?_
    simp only [Tryz.ntmps104, List.size_toArray, List.length_cons, List.length_nil, Nat.reduceAdd, Nat.reduceSub, Array.replicate_succ, Array.replicate_zero, List.push_toArray, List.append_toArray, List.nil_append, List.cons_append]
    gi_wp2
    gi_loopw [7] (fun i wr => ∃ (k : Nat) (So : Blk), k ≤ zs.length ∧ i = .int .i64 (k : Int) ∧ J (zs.take k) So wr ∧ Chg S W wr ∧ Grew S W So)
      (fun i _ => zs.length - (intOf i).toNat)
    case atStart => exact ⟨0, S, Nat.zero_le _, rfl, hJ, Chg.refl _ _, Grew.refl _ _⟩
    case round =>
      obtain ⟨k, So, hk, rfl, j, c, g⟩ := hrel
      have hfin : ∀ {W9 : World}, Chg S W W9 → Boxed W9 Bk 40 (.slice p zs.length cap) ∧ SlI W9 (.slice p zs.length cap) zs := fun c9 => ⟨c9.boxed b1 (hDS _ (.inl rfl)), b2'.chg c9 (fun k hk => hDS k (.inr hk))⟩
      by_cases hlt : k < zs.length
      · obtain ⟨b, off, rfl, hcell⟩ := hcells k zs[k] (by simp [hlt])
        have hzs : zs ≠ [] := by rintro rfl; simp at hlt
        have hcw : wr.cell? ⟨b, off + k, none⟩ = some (.int .i64 zs[k]) := (World.cell?_of_block (a := ⟨b, off + k, none⟩) (c.block b (World.block_lt_of_cell? W _ hcell) (hDS b (.inr ⟨hzs, rfl⟩)))).trans hcell
        have hts : zs.take (k + 1) = zs.take k ++ [zs[k]] := by rw [List.take_succ_eq_append_getElem hlt]
        have HT : Hid (zs.take (k + 1) = zs.take k ++ [zs[k]]) := hts
        have hpr : zs.take k ++ [zs[k]] <+: zs := by rw [← hts]; exact List.take_prefix _ _
        clear hts hcell
        obtain ⟨x, hx⟩ : ∃ x, zs[k] = x := ⟨_, rfl⟩
        rw [hx] at hcw hpr
        have HX : Hid (zs[k] = x) := hx
        clear hx
        obtain ⟨fnr, tmps, assign, body, hy, hR⟩ := hY (zs.take k) x So wr hpr j
        gi_wp2
        refine ⟨rfl, hR.mono ?_⟩
        rintro e W3 ⟨S3, c3, g3, (⟨rfl, j3⟩ | ⟨rfl, j3⟩)⟩
        · have cc := c.trans c3 g
          have gg := g.trans g3 c.size
          gi_wp2
          go_roundw
          case rel => exact ⟨k + 1, S3, hlt, by go_num, by rw [HT.out, HX.out]; exact j3, cc, gg⟩
          case measure => simp [intOf]; omega
        · have cc := c.trans c3 g
          have gg := g.trans g3 c.size
          gi_wp2
          refine bodyPost_ret (results_none rfl _ _ _) rfl ?_
          exact ⟨⟨_, rfl⟩, _, S3, .inr ⟨hpr, j3⟩, hfin cc, cc.mono (fun _ => .inr), gg⟩
      · obtain rfl : k = zs.length := by omega
        gi_wp2
        go_end0
        exact ⟨⟨_, rfl⟩, _, So, .inl ⟨List.take_length, j⟩, hfin c, c.mono (fun _ => .inr), g⟩ }

end Go.Proofs.YtakbeololabmhaaGreatDoor

end
