/-
  Of: LoudK, RFoldW, Low.
-/
import Derived.Test.YtakbeololabmhaaGreatDoorG08
import Derived.Test.YtakbeololabmhaaGreatDoorG02
import Derived.Test.YtakbeololabmhaaGreatDoorG13
import Derived.Test.YtakbeololabmhaaGreatDoorG12
section
-- LoudK
namespace Go.SeqLib
open Go Go.RowKit

structure KInv (W0 : World) (ok : Nat → Value → Prop) (val : Nat → Value → World → Prop) (d : Nat → Bool) (u : Nat → Value) (W : World) : Prop where
  chg : Chg (fun _ => False) W0 W
  ok : ∀ i, ok i (u i)
  val : ∀ i, d i = true → val i (u i) W
theorem KInv.step {W0 W W' : World} {ok : Nat → Value → Prop} {val : Nat → Value → World → Prop} {d : Nat → Bool} {u : Nat → Value} (h : KInv W0 ok val d u W) (hno : ∀ i v W W', val i v W → Chg (fun _ => False) W W' → val i v W') (k : Nat) (v : Value) (c : Chg (fun _ => False) W W') (h1 : ok k v) (h2 : val k v W') :
    KInv W0 ok val (fun n => if n = k then true else d n) (fun n => if n = k then v else u n) W' := by
  refine ⟨h.chg.trans c (Grew.refl _ _), fun n => ?_, fun n hn => ?_⟩
  · by_cases e : n = k
    · subst e; simpa using h1
    · simp only [if_neg e]; exact h.ok n
  · by_cases e : n = k
    · subst e; simpa using h2
    · simp only [if_neg e] at hn ⊢; exact hno _ _ _ _ (h.val n hn) c
theorem KInv.start {W0 : World} {ok : Nat → Value → Prop} {val : Nat → Value → World → Prop} {u : Nat → Value} (h : ∀ i, ok i (u i)) : KInv W0 ok val (fun _ => false) u W0.drew := ⟨(Chg.refl _ W0).drew, h, fun _ e => by cases e⟩
end Go.SeqLib

end
section
-- RFoldW
namespace Go.DagLib
open Go.RepoLib Go.TreeLib
theorem tree_at {L : List Cm} {x : Int} {i : Nat} (hx : x = (i : Int) + 1) (hi : i < L.length) : ∃ c, L[i]? = some c ∧ treeI L x = c.2.1 := by
  refine ⟨_, List.getElem?_eq_getElem hi, ?_⟩
  unfold treeI getC hasN
  rw [if_pos (by rw [Bool.and_eq_true, decide_eq_true_eq, decide_eq_true_eq]; omega), List.getD_eq_getElem?_getD, show x.toNat - 1 = i by omega, List.getElem?_eq_getElem hi]
  rfl
end Go.DagLib
namespace Go.Proofs.YtakbeololabmhaaGreatDoor
open Go.RowKit Go.Shelf Go.SeqLib Go.DiffLib Go.TreeLib Go.RepoLib Go.DagLib Go.BigFrame
attribute [local go_sem] Oper.semAt_some

/-- What is asked of the document's own Virtual. -/
def VirRef : Prop := ∀ (vo va vb : Value) (o a b : List Fl) (w : World), SlF w vo o → SlF w va a → SlF w vb b → CallsIn Fence.wide 0 Tryz.prog 29 #[vo, va, vb] w fun e w' => ∃ v1, e = .returned v1 ∧ OwnF w' w.heap.size v1 (virJ o a b) ∧ Chg No w w'

/-- What is known of the loud operations' values ahead: the repo's address. -/
def fdOk (B : Nat) : Nat → Value → Prop := fun i v => if i = 13 then v = ptr B else True
def fdD (B : Nat) : Nat → Value := fun i => if i = 13 then ptr B else .slice none 0 0
theorem fdD_ok (B : Nat) : ∀ i, fdOk B i (fdD B i) := by
  intro i
  unfold fdOk fdD
  by_cases h : i = 13
  · rw [if_pos h, if_pos h]
  · rw [if_neg h]; trivial
/-- What holds of the two calls' values when they have come up. -/
def fdVal (D V : List Fl) : Nat → Value → World → Prop := fun i v W => if i = 10 then SlF W v D else if i = 24 then SlF W v V else True
theorem fdVal.no {D V : List Fl} : ∀ (i : Nat) (v : Value) (W W' : World), fdVal D V i v W → Chg (fun _ => False) W W' → fdVal D V i v W' := by
  intro i v W W' h c
  unfold fdVal at h ⊢
  by_cases h1 : i = 10
  · rw [if_pos h1] at h ⊢; exact SlF.no h c
  · rw [if_neg h1] at h ⊢
    by_cases h2 : i = 24
    · rw [if_pos h2] at h ⊢; exact SlF.no h c
    · rw [if_neg h2]; trivial

theorem SlF.none (w : World) : SlF w (.slice none 0 0) [] := (OwnF.nil w 0).sl

set_option maxRecDepth 100000 in
set_option maxHeartbeats 2000000 in
theorem refDeep_in (V : VirRef) (B : Nat) (s : Rp) (lv : Value) (rows : List Rw) (hp : ParOk s.1) (hl : s.1.length ≤ 1000) :
    ∀ (d : Nat) (deep a b : Int) (w : World), (min deep 4).toNat = d → RefVw B s lv rows w →
      CallsIn Fence.wide 0 Tryz.prog 14 #[ptr B, iv a, iv b, iv deep] w fun e w' => ∃ v, e = .returned v ∧ SlF w' v (deepF s.1 d a b) ∧ Chg No w w' := by
  have hmix : Tryz.prog.follows .mixedOrders = true := by kernel_rfl
  intro d
  induction d with
  | zero =>
    intro deep a b w hd h
    have hd1 : deep < 1 := by omega
    have hmin : min deep 4 = deep := by omega
    have B1 := refBest_in B s lv rows a b w h hp hl
    generalize bestL s.1 a b = Y at B1
    refine callsIn_of_wp Tryz.func14 rfl trivial ?_
    simp only [Tryz.ntmps14, List.size_toArray, List.length_cons, List.length_nil, Nat.reduceAdd, Nat.reduceSub, Array.replicate_succ, Array.replicate_zero, List.push_toArray, List.append_toArray, List.nil_append, List.cons_append]
    gi_wp2_with fail
    refine ⟨trivial, rfl, B1.mono ?_⟩
    rintro e w1 ⟨v1, rfl, o1, c1⟩
    obtain ⟨p1, k1, rfl⟩ := row_slice o1
    gi_wp2
    go_ret
    exact ⟨_, rfl, SlF.none _, c1⟩
  | succ d ih =>
    intro deep a b w hd h
    have hd1 : ¬ deep < 1 := by omega
    obtain ⟨dm, hdm⟩ : ∃ dm : Int, min deep 4 = dm := ⟨_, rfl⟩
    have hdb : dm = (d : Int) + 1 ∧ dm ≤ 4 := by omega
    have hd2 : ¬ dm < 1 := by omega
    have HI := fun (y : Int) (x : Int) (W : World) hW => ih (dm - 1) x y W (by omega) hW
    have B1 := refBest_in B s lv rows a b w h hp hl
    have HYr : Hid (∀ x ∈ bestL s.1 a b, 1 ≤ x ∧ x ≤ (s.1.length : Int)) := fun x hx => (aheadI_range' (com_mem.1 (best_mem.1 hx).1).1).1
    have HYl : Hid ((bestL s.1 a b).length ≤ 1000) := Nat.le_trans (best_len a b) hl
    have HDF : Hid (∀ x ys, bestL s.1 a b = x :: ys → deepF s.1 (d + 1) a b = foldT s.1 d x (ys.take 2)) := fun x ys e => deep_cons e d
    have HDN : Hid (bestL s.1 a b = [] → deepF s.1 (d + 1) a b = []) := fun e => deep_none e _
    obtain ⟨Y, hY⟩ : ∃ Y, bestL s.1 a b = Y := ⟨_, rfl⟩
    rw [hY] at B1 HYr HYl HDF HDN
    obtain ⟨R, hR⟩ : ∃ R, deepF s.1 (d + 1) a b = R := ⟨_, rfl⟩
    rw [hR] at HDF HDN ⊢
    clear hY hR ih hd
    refine callsIn_of_wp Tryz.func14 rfl trivial ?_
    simp only [Tryz.ntmps14, List.size_toArray, List.length_cons, List.length_nil, Nat.reduceAdd, Nat.reduceSub, Array.replicate_succ, Array.replicate_zero, List.push_toArray, List.append_toArray, List.nil_append, List.cons_append]
    gi_wp2_with fail
    refine ⟨trivial, rfl, B1.mono ?_⟩
    rintro e w1 ⟨v1, rfl, o1, c1⟩
    have h1 := h.no c1
    have s1 := rowSl o1
    obtain ⟨p1, k1, rfl⟩ := row_slice o1
    cases Y with
    | nil =>
      obtain rfl : R = [] := HDN.out rfl
      have hz : ((0 : Int) == 0) = true := rfl
      clear B1 o1 h
      gi_wp2
      go_ret
      exact ⟨_, rfl, SlF.none _, c1⟩
    | cons x ys =>
      obtain rfl : R = foldT s.1 d x (ys.take 2) := HDF.out x ys rfl
      obtain ⟨pv, kv, rfl⟩ := h1.slice
      obtain ⟨t0, _, _, _⟩ := h1.cells
      have hxr := HYr.out x (by simp)
      obtain ⟨i, hi⟩ : ∃ i : Nat, x = (i : Int) + 1 := ⟨(x - 1).toNat, by omega⟩
      obtain ⟨cx, hcx, hTx⟩ := tree_at hi (show i < s.1.length by omega)
      obtain ⟨⟨r1', r2', r3'⟩, b0, o0, _, e0, f1, f2, f3, hcm⟩ := h1.cell (c := cx) hcx
      cases e0
      dsimp only at f1 f2 f3 hcm
      obtain ⟨p', n', k', q', m', l', e, g1, g2, _⟩ := hcm
      cases e
      obtain ⟨bb, ob, rfl, y0⟩ := s1.get1 (i := 0) (x := iv x) rfl
      obtain ⟨N, hN⟩ : ∃ N, s.1.length = N := ⟨_, rfl⟩
      obtain ⟨NY, hNY⟩ : ∃ NY, (x :: ys).length = NY := ⟨_, rfl⟩
      have hz1 : ((NY : Int) == 0) = false := by rw [beq_eq_false_iff_ne, ← hNY, List.length_cons]; omega
      have hx1 : x - 1 = (i : Int) := by omega
      have hiN : (i : Int) < (N : Int) := by omega
      rw [hN] at t0
      rw [hNY] at s1
      rw [hNY]
      have y0' : w1.cell? ⟨bb, ob, none⟩ = some (.int .i64 x) := y0
      have HN : Hid (s.1.length = N) := hN
      have HNY : Hid ((x :: ys).length = NY) := hNY
      have hYl : NY ≤ 1000 := by rw [← hNY]; exact HYl.out
      have hny1 : 1 ≤ NY := by rw [← hNY, List.length_cons]; omega
      have HS1 := s1
      have HTx : Hid (treeI s.1 x = cx.2.1) := hTx
      have hxb : 1 ≤ x ∧ x ≤ 1000 := by omega
      clear B1 o1 h g1 f1 f3 hN hNY hxr hcx y0 hTx
      gi_wp2
      refine wpIn_region_quiet_lit rfl hmix (by kernel_rfl) ?_
      repeat (gi_big_quiet_step (fail))
      refine wpQuietIn_nil ?_
      rintro w' ⟨j, rfl⟩
      have cj := drewNC (Chg.refl No w1) j
      have k2 := Chg.seq c1 cj
      have g3 : SlF (w1.drewN j) (.slice q' m' l') (foldT s.1 d x (ys.take 0)) := by
        rw [List.take_zero]
        show SlF _ _ (treeI s.1 x)
        rw [HTx.out]
        exact SlF.no g2 cj
      have h2 := h1.no cj
      have s2 := s1.no cj
      clear f2 t0 y0' g2 h1 s1 HS1 c1 cj hx1 hiN hi
      generalize w1.drewN j = w2 at *
      gi_wp2
      gi_loopw [10, 11] (fun s10 s11 wr => ∃ k : Nat, 1 ≤ k ∧ k ≤ 3 ∧ k ≤ NY ∧ s11 = .int .i64 (k : Int) ∧ SlF wr s10 (foldT s.1 d x (ys.take (k - 1))) ∧ Chg No w2 wr) (fun _ s11 _ => 3 - (intOf s11).toNat)
      case atStart => exact ⟨1, Nat.le_refl _, by omega, hny1, rfl, g3, Chg.refl _ _⟩
      case round =>
        clear g3
        obtain ⟨k, hk1, hk3, hkN, rfl, hT, c⟩ := hrel
        by_cases hlt : k < NY ∧ k < 3
        · have i1 : (k : Int) < (NY : Int) := by omega
          have i2 : (k : Int) < 3 := by omega
          obtain ⟨y, hy⟩ : ∃ y, (x :: ys)[k]? = some y := ⟨_, List.getElem?_eq_getElem (by rw [HNY.out]; exact hlt.1)⟩
          have hyr := HYr.out y (List.mem_of_getElem? hy)
          have hst : ys.take (k + 1 - 1) = ys.take (k - 1) ++ [y] := by
            obtain ⟨k, rfl⟩ : ∃ q, k = q + 1 := ⟨k - 1, by omega⟩
            rw [List.getElem?_cons_succ] at hy
            rw [Nat.add_sub_cancel, Nat.add_sub_cancel, List.take_add_one, hy]
            rfl
          have HFT : Hid (foldT s.1 d x (ys.take (k + 1 - 1)) = virJ (deepF s.1 d x y) (foldT s.1 d x (ys.take (k - 1))) (treeI s.1 y)) := by show _ = _; rw [hst, foldT_snoc]
          obtain ⟨i, hi⟩ : ∃ i : Nat, y = (i : Int) + 1 := ⟨(y - 1).toNat, by omega⟩
          obtain ⟨cy, hcy, hTy⟩ := tree_at hi (show i < s.1.length by omega)
          have h3 := h2.no c
          have s3 := s2.no c
          obtain ⟨t0, _, _, _⟩ := h3.cells
          obtain ⟨⟨r1', r2', r3'⟩, _, _, _, e0, _, f2, _, hcm⟩ := h3.cell (c := cy) hcy
          cases e0
          dsimp only at f2 hcm
          obtain ⟨_, _, _, qy, my, ly, e, _, g2, _⟩ := hcm
          cases e
          obtain ⟨_, _, e1, x0⟩ := s3.get1 (i := 0) (x := iv x) rfl
          cases e1
          obtain ⟨_, _, e1, xk⟩ := s3.get1 (i := k) (x := iv y) (by rw [List.getElem?_map, hy]; rfl)
          cases e1
          rw [HN.out] at t0
          rw [← hTy] at g2
          have x0' : wr.cell? ⟨bb, ob, none⟩ = some (.int .i64 x) := x0
          have fB : ∀ d : After wr, d.val.cell? ⟨B, 0, none⟩ = some (.slice (some ⟨b0, o0, none⟩) N kv) := fun d => d.cell t0
          have fx : ∀ d : After wr, d.val.cell? ⟨bb, ob, none⟩ = some (.int .i64 x) := fun d => d.cell x0'
          have fy : ∀ d : After wr, d.val.cell? ⟨bb, ob + k, none⟩ = some (.int .i64 y) := fun d => d.cell xk
          have ft : ∀ d : After wr, d.val.cell? ⟨b0, o0 + i * 3 + 1, none⟩ = some (.slice qy my ly) := fun d => d.cell f2
          have hy1 : y - 1 = (i : Int) := by omega
          have hyb : 1 ≤ y ∧ y ≤ 1000 := by omega
          have hiN : (i : Int) < (N : Int) := by have := HN.out; omega
          have C10 : ∀ W, Chg No wr W → CallsIn Fence.wide 0 Tryz.prog 14 #[ptr B, iv x, iv y, iv (d : Int)] W fun e w' => ∃ v, e = .returned v ∧ SlF w' v (deepF s.1 d x y) ∧ Chg No W w' := fun W cW => by
            have := HI y x W (h3.no cW)
            rw [show dm - 1 = (d : Int) by omega] at this
            exact this
          generalize deepF s.1 d x y = D at *
          generalize treeI s.1 y = TY at *
          have hT' := hT
          obtain ⟨pt, ct, rfl, _⟩ := hT'
          generalize foldT s.1 d x (ys.take (k - 1)) = TT at *
          have hany := After.any wr
          clear hst hi hcy hTy t0 f2 x0 xk x0' HI
          gi_wp2
          refine region_loudG (fun i => i == 10 || i == 13 || i == 24) (fun w' => ∃ d : After wr, w' = d.val) (KInv wr (fdOk B) (fdVal D (virJ D TT TY))) (fdD B) hmix (by kernel_rfl) (by kernel_rfl) (fun d u W hI => ⟨⟨W, hI.chg⟩, rfl⟩) (KInv.start (fdD_ok B)) (fun u hu => ?_)
          obtain ⟨_, _, hu⟩ := hu
          have e13 : u 13 = ptr B := by simpa [fdOk] using hu.ok 13
          clear hu
          simp only [hushE, Nat.reduceAdd, Nat.reduceBEq, Bool.or_self, Bool.or_true, Bool.or_false, if_true, if_false, Bool.false_eq_true]
          simp only [e13]
          repeat (gi_big_quiet_step (fail))
          refine wpQuietIn_nil ⟨?_, ?_, ?_⟩
          · intro i oo ho hm
            simp only [Bool.or_eq_true, beq_iff_eq] at hm
            rcases hm with (rfl | rfl) | rfl
            all_goals (cases ho; rfl)
          · intro j oo dd W hjo hm hd hwt hI
            simp only [Bool.or_eq_true, beq_iff_eq] at hm
            rcases hm with (rfl | rfl) | rfl
            · cases hjo
              refine LeadsV.call (f := 14) (args := #[ptr B, iv x, iv y, iv (d : Int)]) (by simp [go_sem]) ((C10 W hI.chg).mono ?_)
              rintro e w2 ⟨v', rfl, o', c'⟩
              exact ⟨v', rfl, hI.step fdVal.no 10 v' c' (by simp [fdOk]) (by simpa [fdVal] using o')⟩
            · cases hjo
              refine LeadsV.value (v := ptr B) (w' := W) ?_ (hI.step fdVal.no 13 _ (Chg.refl _ _) (by simp [fdOk]) (by simp [fdVal]))
              simp [go_sem]
            · cases hjo
              have h10 := hwt 10 rfl (by kernel_rfl)
              have x10 : SlF W (u 10) D := by simpa [fdVal] using hI.val 10 h10
              refine LeadsV.call (f := 29) (args := #[u 10, .slice pt TT.length ct, .slice qy my ly]) (by simp [go_sem]) ((V _ _ _ D TT TY W x10 (SlF.no hT hI.chg) (SlF.no g2 hI.chg)).mono ?_)
              rintro e w2 ⟨v', rfl, o', c'⟩
              exact ⟨v', rfl, hI.step fdVal.no 24 v' c' (by simp [fdOk]) (by simpa [fdVal] using o'.sl)⟩
          · intro dd W hall hI
            have h24 := hall 24 rfl (by simp)
            have x24 : SlF W (u 24) (virJ D TT TY) := by simpa [fdVal] using hI.val 24 h24
            have cW := Chg.seq c hI.chg
            rw [← HFT.out] at x24
            clear hI hall
            gi_wp2
            refine ⟨⟨k + 1, by omega, by omega, by omega, by go_num, x24, cW⟩, by simp [intOf]; omega⟩
        · have hall : ys.take (k - 1) = ys.take 2 := by
            have e := HNY.out
            rw [List.length_cons] at e
            by_cases h3 : k = 3
            · rw [h3]
            · rw [List.take_of_length_le (by omega), List.take_of_length_le (by omega)]
          rw [hall] at hT
          by_cases h4 : k < NY
          · have i1 : (k : Int) < (NY : Int) := by omega
            have i2 : ¬ (k : Int) < 3 := by omega
            gi_wp2
            go_ret
            exact ⟨_, rfl, hT, Chg.seq k2 c⟩
          · have i1 : ¬ (k : Int) < (NY : Int) := by omega
            gi_wp2
            go_ret
            exact ⟨_, rfl, hT, Chg.seq k2 c⟩

theorem refFold_in (V : VirRef) (B : Nat) (s : Rp) (lv : Value) (rows : List Rw) (hp : ParOk s.1) (hl : s.1.length ≤ 1000) (a b : Int) (w : World) (h : RefVw B s lv rows w) :
    CallsIn Fence.wide 0 Tryz.prog 13 #[ptr B, iv a, iv b] w fun e w' => ∃ v, e = .returned v ∧ SlF w' v (deepF s.1 4 a b) ∧ Chg No w w' := by
  have D1 := refDeep_in V B s lv rows hp hl 4 4 a b w rfl h
  refine callsIn_of_wp Tryz.func13 rfl trivial ?_
  simp only [Tryz.ntmps13, List.size_toArray, List.length_cons, List.length_nil, Nat.reduceAdd, Nat.reduceSub, Array.replicate_succ, Array.replicate_zero, List.push_toArray, List.append_toArray, List.nil_append, List.cons_append]
  gi_wp2_with fail
  refine ⟨trivial, rfl, D1.mono ?_⟩
  rintro e w1 ⟨v1, rfl, o1, c1⟩
  gi_wp2
  go_ret
  exact ⟨_, rfl, o1, c1⟩

end Go.Proofs.YtakbeololabmhaaGreatDoor

end
section
-- Low
namespace Go.Proofs.YtakbeololabmhaaGreatDoor
open Go.RowKit Go.Shelf Go.SeqLib
attribute [local go_sem] Oper.semAt_some

def lowI (x n : Int) : Int := wrap64 ((IntKind.u64.wrap x).tmod n)

set_option maxHeartbeats 1000000 in
theorem low_in (x n : Int) (h1 : 1 ≤ n) (h2 : n ≤ 1000000) (w : World) : CallsIn Fence.wide 0 Tryz.prog 9 #[.int .i64 x, .int .i64 n] w fun e w' => e = .returned (.int .i64 (lowI x n)) ∧ w' = w := by
  refine callsIn_of_wp Tryz.func9 rfl trivial ?_
  simp only [Tryz.ntmps9, List.size_toArray, List.length_cons, List.length_nil, Nat.reduceAdd, Nat.reduceSub, Array.replicate_succ, Array.replicate_zero, List.push_toArray, List.append_toArray, List.nil_append, List.cons_append]
  gi_wp2
  go_ret
  exact ⟨rfl, rfl⟩

theorem u64_range (x : Int) : 0 ≤ IntKind.u64.wrap x := by
  simp only [IntKind.wrap, IntKind.signed, IntKind.bits]
  simp
  omega

theorem lowI_range (x n : Int) (h1 : 1 ≤ n) (h2 : n ≤ 1000000) : 0 ≤ lowI x n ∧ lowI x n < n := by
  have h0 : 0 ≤ IntKind.u64.wrap x := by
    have := u64_range x
    exact this
  have h3 := Int.tmod_nonneg n h0
  have h4 := Int.tmod_lt_of_pos (IntKind.u64.wrap x) (show (0 : Int) < n by omega)
  have : lowI x n = (IntKind.u64.wrap x).tmod n := by unfold lowI wrap64; omega
  rw [this]; exact ⟨h3, h4⟩

end Go.Proofs.YtakbeololabmhaaGreatDoor

end
