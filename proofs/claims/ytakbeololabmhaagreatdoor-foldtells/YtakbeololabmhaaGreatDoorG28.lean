/-
  Of: KFold, KFind.
-/
import Derived.Test.YtakbeololabmhaaGreatDoorG19
import Derived.Test.YtakbeololabmhaaGreatDoorG18
import Derived.Test.YtakbeololabmhaaGreatDoorG27
import Derived.Test.YtakbeololabmhaaGreatDoorG12
import Derived.Test.YtakbeololabmhaaGreatDoorG20
import Derived.Test.YtakbeololabmhaaGreatDoorG08
section
-- KFold
namespace Go.Proofs.YtakbeololabmhaaGreatDoor
open Go.RowKit Go.Shelf Go.SeqLib Go.DiffLib Go.TreeLib Go.RepoLib Go.DagLib Go.BigFrame
attribute [local go_sem] Oper.semAt_some

theorem elem_intM : Tryz.prog.elem 40 = 3 := by simp [Program.elem, Tryz.underlying40]
theorem size_intM (w : World) : (sizeOf 3).run Tryz.prog w = .ok 1 w := by
  obtain ⟨i0, hi, _, h2, _⟩ := info_parts infoInt
  rw [run_sizeOf w hi]
  have : Tryz.prog.cellsOf 3 = 1 := by kernel_rfl
  rw [this]
/-- A list of numbers, cut at both ends. -/
theorem SlV.midI {W : World} {p : Option Addr} {n cap : Nat} {l : List Int} (h : SlV W (.slice p n cap) (l.map iv)) (hl : l.length = n) (lo hi : Nat) (h1 : lo ≤ hi) (h2 : hi ≤ n) :
    ∃ p' c', SlV W (.slice p' (hi - lo) c') (((l.take hi).drop lo).map iv) ∧ ∀ w, (Instr.sliceAt 40 (.slice p n cap) (some (.int .i64 (lo : Int))) (some (.int .i64 (hi : Int))) none).run Tryz.prog w = .ok (.slice p' (hi - lo) c') w := by
  have hcap : n ≤ cap := by obtain ⟨p0, cap0, e0, q1, _⟩ := h; cases e0; omega
  obtain ⟨p', c', e, s, _⟩ := h.cutCore (by rw [List.length_map]; exact hl) lo hi h1 h2
  refine ⟨p', c', by rw [List.map_drop, List.map_take]; exact s, fun w => ?_⟩
  have ht : Tryz.prog.underlying 40 = some (.slice (Tryz.prog.elem 40)) := by rw [elem_intM]; exact Tryz.underlying40
  rw [run_sliceAt_slice _ _ _ _ _ _ ht, run_slice_lh _ _ _ _ _ ht .i64 .i64 (lo : Int) (hi : Int) (by omega) (by omega) (by omega), elem_intM, size_intM]
  show Result.ok (sliced p lo hi cap 1) w = _
  rw [e]

/-- A tree as the document has it is no great list. -/
theorem few_of {t : List Fl} (h : mayB t = true) : Few t := by
  have ht := mayB_iff.1 h
  refine ⟨by have := ht.len; omega, fun f hf => ?_⟩
  have := ht.file f hf
  unfold fileB at this
  rw [Bool.and_eq_true, decide_eq_true_eq] at this
  have h3 := (pathB_iff.1 this.1).len
  rw [show (Bs f.1).length = f.1.size from rfl] at h3
  omega

set_option maxRecDepth 100000 in
set_option maxHeartbeats 1000000 in
theorem treeOf_in (B : Nat) (s : Rp) (lv : Value) (rows : List Rw) (D : Blk) (n : Int) (w : World) (h : KRep B s lv rows D w) (hl : s.1.length ≤ 200) :
    CallsIn Fence.wide 0 Tryz.prog 47 #[ptr B, iv n] w fun e w' => ∃ v, e = .returned v ∧ OwnF w' w.heap.size v (treeI s.1 n) ∧ Chg No w w' := by
  have H1 := get_in1 B s lv rows D n w h hl
  refine callsIn_of_wp Tryz.func47 rfl trivial ?_
  simp only [Tryz.ntmps47, List.size_toArray, List.length_cons, List.length_nil, Nat.reduceAdd, Nat.reduceSub, Array.replicate_succ, Array.replicate_zero, List.push_toArray, List.append_toArray, List.nil_append, List.cons_append]
  gi_wp2_with fail
  refine ⟨trivial, rfl, H1.mono ?_⟩
  rintro e w1 ⟨pv, tv, rfl, ho1, ho2, c1⟩
  clear H1
  obtain ⟨pa, ka, rfl⟩ := row_slice ho1
  obtain ⟨qa, la, rfl⟩ := ho2.slice
  obtain ⟨x3, hx3⟩ : ∃ x3, (getC s.1 n).2.2 = x3 := ⟨_, rfl⟩
  obtain ⟨n1, hn1⟩ : ∃ n1, (getC s.1 n).1.length = n1 := ⟨_, rfl⟩
  obtain ⟨n2, hn2⟩ : ∃ n2, (getC s.1 n).2.1.length = n2 := ⟨_, rfl⟩
  obtain ⟨u, hu⟩ : ∃ u, hasN s.1.length n = u := ⟨_, rfl⟩
  rw [hx3, hn1, hn2, hu]
  have HO : Hid (OwnF w1 w.heap.size (.slice qa n2 la) (treeI s.1 n)) := by rw [← hn2]; exact ho2
  clear ho1 ho2 hx3 hn1 hn2 hu h
  have d0 : (w1.alloc (.cells #[.slice pa n1 ka, .slice qa n2 la, .string x3] 43)).cell? ⟨w1.heap.size, 1, none⟩ = some (.slice qa n2 la) := by
    rw [World.cell?_alloc_at (w := w1) _ _ w1.heap.size 1 rfl]
    rfl
  gi_wp2
  go_ret
  exact ⟨_, rfl, HO.out.no ((Chg.refl _ w1).alloc _), c1.alloc _⟩

/-- What the best ones come to. -/
def foldY (L : List Cm) (d : Nat) : List Int → List Fl
  | [] => []
  | x :: ys => foldT L d x (ys.take 2)
theorem deep_foldY (L : List Cm) (d : Nat) (a b : Int) : deepF L (d + 1) a b = foldY L d (bestL L a b) := by
  cases h : bestL L a b with
  | nil => exact deep_none h _
  | cons x ys => exact deep_cons h d
theorem foldT_may {L : List Cm} (h : ∀ c ∈ L, mayB c.2.1 = true) (d : Nat) (x : Int) (ys : List Int) : mayB (foldT L d x ys) = true :=
  fold_may (f := fun y t => virJ (deepF L d x y) t (treeI L y)) (fun _ _ => virJ_may _ _ _) _ _ (tree_may h x)

set_option maxRecDepth 100000 in
set_option maxHeartbeats 4000000 in
theorem folded_in (B : Nat) (s : Rp) (lv : Value) (rows : List Rw) (D : Blk) (d : Nat) (dm : Int) (hdm : dm = (d : Int) + 1) (hd : d ≤ 3) (Y : List Int) (yv : Value) (w : World) (h : KRep B s lv rows D w) (hF : FoldL s.1)
    (hy : SlV w yv (Y.map iv)) (hYl : Y.length ≤ 60)
    (HI : ∀ (x y : Int) (W : World), KRep B s lv rows D W → CallsIn Fence.wide 0 Tryz.prog 11 #[ptr B, iv x, iv y, iv (d : Int)] W fun e w' => ∃ v, e = .returned v ∧ OwnF w' W.heap.size v (deepF s.1 d x y) ∧ Chg No W w') :
    CallsIn Fence.wide 0 Tryz.prog 27 #[ptr B, yv, iv dm] w fun e w' => ∃ v, e = .returned v ∧ OwnF w' w.heap.size v (foldY s.1 d Y) ∧ Chg No w w' := by
  have hl200 : s.1.length ≤ 200 := by have := hF.len; omega
  cases Y with
  | nil =>
    obtain ⟨p, c, rfl, _⟩ := id hy
    have hz : ((0 : Int) == 0) = true := rfl
    clear HI
    refine callsIn_of_wp Tryz.func27 rfl trivial ?_
    simp only [Tryz.ntmps27, List.size_toArray, List.length_cons, List.length_nil, Nat.reduceAdd, Nat.reduceSub, Array.replicate_succ, Array.replicate_zero, List.push_toArray, List.append_toArray, List.nil_append, List.cons_append]
    gi_wp2
    go_ret
    exact ⟨_, rfl, OwnF.nil _ _, Chg.refl _ _⟩
  | cons x ys =>
    show CallsIn _ _ _ _ _ _ (fun e w' => ∃ v, e = .returned v ∧ OwnF w' w.heap.size v (foldT s.1 d x (ys.take 2)) ∧ Chg No w w')
    obtain ⟨zs, hzs⟩ : ∃ zs, ys.take 2 = zs := ⟨_, rfl⟩
    rw [hzs]
    obtain ⟨NY, hNY⟩ : ∃ NY, (x :: ys).length = NY := ⟨_, rfl⟩
    have hny1 : 1 ≤ NY := by rw [← hNY, List.length_cons]; omega
    have hnys : NY = ys.length + 1 := by rw [← hNY, List.length_cons]
    obtain ⟨hi, hhi⟩ : ∃ hi : Nat, min NY 3 = hi := ⟨_, rfl⟩
    have hi1 : 1 ≤ hi := by omega
    have hi2 : hi ≤ NY := by omega
    have hmin : min (NY : Int) 3 = (hi : Int) := by omega
    obtain ⟨M, hM⟩ : ∃ M, hi - 1 = M := ⟨_, rfl⟩
    have hzl : zs.length = M := by rw [← hzs, List.length_take]; omega
    have hyt : ((x :: ys).take hi).drop 1 = zs := by
      obtain ⟨q, rfl⟩ : ∃ q, hi = q + 1 := ⟨hi - 1, by omega⟩
      rw [List.take_succ_cons, List.drop_succ_cons, List.drop_zero, ← hzs]
      by_cases h3 : NY ≤ 3
      · rw [List.take_of_length_le (by omega), List.take_of_length_le (by omega)]
      · rw [show q = 2 by omega]
    obtain ⟨p0, cc, rfl, _⟩ := id hy
    obtain ⟨bb, ob, rfl, y0⟩ := hy.get1 (i := 0) (x := iv x) rfl
    rw [List.length_map, hNY] at hy
    rw [List.length_map, hNY]
    obtain ⟨p', c', hzv, hcut0⟩ := hy.midI hNY 1 hi hi1 hi2
    rw [hyt, hM] at hzv
    rw [hM] at hcut0
    have hcut : ∀ w, (Instr.sliceAt 40 (.slice (some ⟨bb, ob, none⟩) NY cc) (some (.int .i64 1)) (some (.int .i64 (hi : Int))) none).run Tryz.prog w = .ok (.slice p' M c') w := hcut0
    have y0' : w.cell? ⟨bb, ob, none⟩ = some (.int .i64 x) := y0
    have hz1 : ((NY : Int) == 0) = false := by rw [beq_eq_false_iff_ne]; omega
    have HZ : Hid (zs.length = M) := hzl
    have hNb : NY ≤ 60 := by rw [← hNY]; exact hYl
    have hd1 : dm - 1 = (d : Int) := by omega
    have hdb : 1 ≤ dm ∧ dm ≤ 4 := by omega
    have hMb : M ≤ 60 := by omega
    have hMp : (p' = none → M = 0) := fun e => by
      subst e
      cases M with
      | zero => rfl
      | succ q =>
        obtain ⟨z, hz⟩ : ∃ z, zs[0]? = some z := ⟨_, List.getElem?_eq_getElem (by rw [hzl]; omega)⟩
        obtain ⟨_, _, e, _⟩ := hzv.get1 (i := 0) (x := iv z) (by rw [List.getElem?_map, hz]; rfl)
        cases e
    have T1 := treeOf_in B s lv rows D x w h hl200
    have hTF : ∀ k, Few (foldT s.1 d x (zs.take k)) := fun k => few_of (foldT_may hF.tree d x _)
    have HTF : Hid (∀ k, Few (foldT s.1 d x (zs.take k))) := hTF
    have HB : Hid (∃ b0, w.heap.size = b0) := ⟨_, rfl⟩
    clear hNY hnys hhi hM hyt hzs hzl hi1 hcut0 y0 hy hYl hTF hdm hMp
    refine callsIn_of_wp Tryz.func27 rfl trivial ?_
    simp only [Tryz.ntmps27, List.size_toArray, List.length_cons, List.length_nil, Nat.reduceAdd, Nat.reduceSub, Array.replicate_succ, Array.replicate_zero, List.push_toArray, List.append_toArray, List.nil_append, List.cons_append]
    gi_wp2_with fail
    refine ⟨trivial, rfl, T1.mono ?_⟩
    rintro e w1 ⟨tv, rfl, o1, c1⟩
    clear T1 y0'
    have hzv1 := hzv.no c1
    clear hzv
    gi_wp2
    gi_loopw [8, 26] (fun s8 s26 wr => ∃ k : Nat, k ≤ M ∧ s26 = .int .i64 (k : Int) ∧ OwnF wr w.heap.size s8 (foldT s.1 d x (zs.take k)) ∧ Chg No w1 wr) (fun _ s26 _ => M - (intOf s26).toNat)
    case atStart => exact ⟨0, Nat.zero_le _, rfl, by rw [List.take_zero]; exact o1, Chg.refl _ _⟩
    case round =>
      clear o1
      obtain ⟨k, hk, rfl, hT, c⟩ := hrel
      by_cases hlt : k < M
      · have i1 : (k : Int) < (M : Int) := by omega
        obtain ⟨y, hyk⟩ : ∃ y, zs[k]? = some y := ⟨_, List.getElem?_eq_getElem (by rw [HZ.out]; exact hlt)⟩
        have HFT : Hid (foldT s.1 d x (zs.take (k + 1)) = virJ (deepF s.1 d x y) (foldT s.1 d x (zs.take k)) (treeI s.1 y)) := by
          show _ = _
          rw [List.take_add_one, hyk]
          exact foldT_snoc _ _ _ _ _
        obtain ⟨bz, oz, rfl, xk⟩ := (hzv1.no c).get1 (i := k) (x := iv y) (by rw [List.getElem?_map, hyk]; rfl)
        have xk' : wr.cell? ⟨bz, oz + k, none⟩ = some (.int .i64 y) := xk
        have k1 := Chg.seq c1 c
        have C5 : ∀ W, Chg No wr W → CallsIn Fence.wide 0 Tryz.prog 11 #[ptr B, iv x, iv y, iv (d : Int)] W fun e w' => ∃ v, e = .returned v ∧ OwnF w' W.heap.size v (deepF s.1 d x y) ∧ Chg No W w' := fun W cW => HI x y W (h.no (Chg.seq k1 cW))
        have C9 : ∀ W, Chg No wr W → CallsIn Fence.wide 0 Tryz.prog 47 #[ptr B, iv y] W fun e w' => ∃ v, e = .returned v ∧ OwnF w' W.heap.size v (treeI s.1 y) ∧ Chg No W w' := fun W cW => treeOf_in B s lv rows D y W (h.no (Chg.seq k1 cW)) hl200
        have F5 := few_of (deep_may hF.tree d x y)
        have F9 := few_of (tree_may hF.tree y)
        have FT := HTF.out k
        have hbs : ∀ W, Chg No wr W → w.heap.size ≤ W.heap.size := fun W cW => Nat.le_trans k1.size cW.size
        generalize deepF s.1 d x y = DD at *
        generalize treeI s.1 y = TY at *
        obtain ⟨pt, ct, rfl⟩ := hT.slice
        generalize foldT s.1 d x (zs.take k) = TT at *
        clear xk HI hyk hzv1 hcut
        gi_wp2_with fail
        refine ⟨trivial, rfl, (C5 wr (Chg.refl _ _)).mono ?_⟩
        rintro e w2 ⟨v5, rfl, o5, c5⟩
        have A9 := C9 w2 c5
        have s5 := o5.sl
        clear o5
        gi_wp2_with fail
        refine ⟨trivial, rfl, A9.mono ?_⟩
        rintro e w3 ⟨v9, rfl, o9, c9⟩
        have cW := Chg.seq c5 c9
        have A10 := joinVir_in v5 (.slice pt TT.length ct) v9 DD TT TY w3 (s5.no c9) (OwnF.no hT cW).sl o9.sl F5 FT F9
        clear A9 o9 s5
        gi_wp2_with fail
        refine ⟨trivial, rfl, A10.mono ?_⟩
        rintro e w4 ⟨v10, rfl, o10, c10⟩
        have x10 := o10.base (hbs w3 cW)
        have cX := Chg.seq c (Chg.seq cW c10)
        rw [← HFT.out] at x10
        clear A10 o10
        gi_wp2
        refine ⟨⟨k + 1, hlt, by go_num, x10, cX⟩, by simp [intOf]; omega⟩
      · have i1 : ¬ (k : Int) < (M : Int) := by omega
        have HE : zs.take k = zs := List.take_of_length_le (by rw [HZ.out]; omega)
        rw [HE] at hT
        clear HE
        gi_wp2
        go_ret
        exact ⟨_, rfl, hT, Chg.seq c1 c⟩

set_option maxRecDepth 100000 in
set_option maxHeartbeats 2000000 in
/-- Deep answers what the document says, however deep it may go. -/
theorem deepK_in (B : Nat) (s : Rp) (lv : Value) (rows : List Rw) (D : Blk) (hF : FoldL s.1) :
    ∀ (d : Nat) (deep a b : Int) (w : World), (min deep 4).toNat = d → KRep B s lv rows D w →
      CallsIn Fence.wide 0 Tryz.prog 11 #[ptr B, iv a, iv b, iv deep] w fun e w' => ∃ v, e = .returned v ∧ OwnF w' w.heap.size v (deepF s.1 d a b) ∧ Chg No w w' := by
  intro d
  induction d with
  | zero =>
    intro deep a b w hd h
    have hd1 : deep < 1 := by omega
    clear hd
    refine callsIn_of_wp Tryz.func11 rfl trivial ?_
    simp only [Tryz.ntmps11, List.size_toArray, List.length_cons, List.length_nil, Nat.reduceAdd, Nat.reduceSub, Array.replicate_succ, Array.replicate_zero, List.push_toArray, List.append_toArray, List.nil_append, List.cons_append]
    gi_wp2
    go_ret
    exact ⟨_, rfl, OwnF.nil _ _, Chg.refl _ _⟩
  | succ d ih =>
    intro deep a b w hd h
    have hd1 : ¬ deep < 1 := by omega
    obtain ⟨dm, hdm⟩ : ∃ dm : Int, min deep 4 = dm := ⟨_, rfl⟩
    have B1 := bestK_in B s lv rows D a b w h hF.par hF.len
    have HF1 : ∀ (Y : List Int) (yv : Value) (W : World), Chg No w W → SlV W yv (Y.map iv) → Y.length ≤ 60 → CallsIn Fence.wide 0 Tryz.prog 27 #[ptr B, yv, iv dm] W fun e w' => ∃ v, e = .returned v ∧ OwnF w' W.heap.size v (foldY s.1 d Y) ∧ Chg No W w' := fun Y yv W cW hy hl =>
      folded_in B s lv rows D d dm (by omega) (by omega) Y yv W (h.no cW) hF hy hl (fun x y W' h' => ih (d : Int) x y W' (by omega) h')
    have HYl : Hid ((bestL s.1 a b).length ≤ 60) := Nat.le_trans (best_len a b) hF.len
    rw [deep_foldY]
    generalize bestL s.1 a b = Y at *
    clear ih hd
    refine callsIn_of_wp Tryz.func11 rfl trivial ?_
    simp only [Tryz.ntmps11, List.size_toArray, List.length_cons, List.length_nil, Nat.reduceAdd, Nat.reduceSub, Array.replicate_succ, Array.replicate_zero, List.push_toArray, List.append_toArray, List.nil_append, List.cons_append]
    gi_wp2_with fail
    refine ⟨trivial, rfl, B1.mono ?_⟩
    rintro e w1 ⟨v1, rfl, o1, c1⟩
    have F1 := HF1 Y v1 w1 c1 (rowSl o1) HYl.out
    clear B1 HF1 o1
    gi_wp2_with fail
    refine ⟨trivial, rfl, F1.mono ?_⟩
    rintro e w2 ⟨v2, rfl, o2, c2⟩
    have HO : Hid (OwnF w2 w1.heap.size v2 (foldY s.1 d Y)) := o2
    clear F1 o2
    gi_wp2
    go_ret
    exact ⟨_, rfl, OwnF.base HO.out c1.size, Chg.seq c1 c2⟩

set_option maxRecDepth 100000 in
set_option maxHeartbeats 1000000 in
theorem baseK_in (B : Nat) (s : Rp) (lv : Value) (rows : List Rw) (D : Blk) (hF : FoldL s.1) (a b : Int) (w : World) (h : KRep B s lv rows D w) :
    CallsIn Fence.wide 0 Tryz.prog 10 #[ptr B, iv a, iv b] w fun e w' => ∃ v, e = .returned v ∧ OwnF w' w.heap.size v (deepF s.1 4 a b) ∧ Chg No w w' := by
  have D1 := deepK_in B s lv rows D hF 4 4 a b w rfl h
  refine callsIn_of_wp Tryz.func10 rfl trivial ?_
  simp only [Tryz.ntmps10, List.size_toArray, List.length_cons, List.length_nil, Nat.reduceAdd, Nat.reduceSub, Array.replicate_succ, Array.replicate_zero, List.push_toArray, List.append_toArray, List.nil_append, List.cons_append]
  gi_wp2_with fail
  refine ⟨trivial, rfl, D1.mono ?_⟩
  rintro e w1 ⟨v1, rfl, o1, c1⟩
  have HO : Hid (OwnF w1 w.heap.size v1 (deepF s.1 4 a b)) := o1
  clear o1 D1
  gi_wp2
  go_ret
  exact ⟨_, rfl, HO.out, c1⟩
end Go.Proofs.YtakbeololabmhaaGreatDoor

end
section
-- KFind
namespace Go.Proofs.YtakbeololabmhaaGreatDoor
open Go.RowKit Go.Shelf Go.SeqLib Go.DiffLib Go.TreeLib Go.RepoLib Go.BigFrame
attribute [local go_sem] Oper.semAt_some

/-- A commit in a box. -/
def BoxC (W : World) (B : Nat) (D : Blk) (c : Cm) : Prop := ∃ pv tv, W.heap[B]? = some (.cells #[pv, tv, .string c.2.2] 43 (0, 0)) ∧ CmD D W (.agg #[pv, tv, .string c.2.2]) c
theorem BoxC.no {W W' : World} {B : Nat} {D : Blk} {c : Cm} (h : BoxC W B D c) (k : Chg No W W') : BoxC W' B D c := by
  obtain ⟨pv, tv, h1, h2⟩ := h
  exact ⟨pv, tv, k.same h1 (fun h => h), h2.no k⟩

set_option maxHeartbeats 1000000 in
theorem likeC_in (r1 r2 : Value) (r3 : ByteArray) (x c : Cm) (D D' : Blk) (B : Nat) (hx : x.2.1.length ≤ 1000000) (w : World) (hv : CmD D w (.agg #[r1, r2, .string r3]) x) (hB : BoxC w B D' c) :
    CallsIn Fence.wide 0 Tryz.prog 66 #[.agg #[r1, r2, .string r3], ptr B] w fun e w' => e = .returned (.bool (decide (x = c))) ∧ Chg No w w' := by
  have ca : Chg No w (w.alloc (.cells #[r1, r2, .string r3] 43)) := (Chg.refl _ w).alloc _
  obtain ⟨p, n, k, q, m, l, e, hh⟩ := hv
  cases e
  have hv : CmD D w (.agg #[.slice p n k, .slice q m l, .string x.2.2]) x := ⟨p, n, k, q, m, l, rfl, hh⟩
  obtain ⟨pv, tv, hb, hcB⟩ := hB
  obtain ⟨p', n', k', q', m', l', e, hh'⟩ := hcB
  cases e
  have hu : CmD D' w (.agg #[.slice p' n' k', .slice q' m' l', .string c.2.2]) c := ⟨p', n', k', q', m', l', rfl, hh'⟩
  have b1 := ca.same hb (fun h => h)
  have y0 : (w.alloc (.cells #[.slice p n k, .slice q m l, .string x.2.2] 43)).cell? ⟨B, 0, none⟩ = some (.slice p' n' k') := by unfold World.cell?; rw [b1]; rfl
  have y1 : (w.alloc (.cells #[.slice p n k, .slice q m l, .string x.2.2] 43)).cell? ⟨B, 1, none⟩ = some (.slice q' m' l') := by unfold World.cell?; rw [b1]; rfl
  have y2 : (w.alloc (.cells #[.slice p n k, .slice q m l, .string x.2.2] 43)).cell? ⟨B, 2, none⟩ = some (.string c.2.2) := by unfold World.cell?; rw [b1]; rfl
  have A1 := alikeC_in _ _ x c _ _ hx _ (hv.no ca) (hu.no ca)
  generalize decide (x = c) = u at A1 ⊢
  clear hh hh' hv hu hb b1
  refine callsIn_of_wp Tryz.func66 rfl trivial ?_
  simp only [Tryz.ntmps66, List.size_toArray, List.length_cons, List.length_nil, Nat.reduceAdd, Nat.reduceSub, Array.replicate_succ, Array.replicate_zero, List.push_toArray, List.append_toArray, List.nil_append, List.cons_append]
  gi_wp2_with fail
  refine ⟨trivial, rfl, A1.mono ?_⟩
  rintro e w2 ⟨rfl, c2⟩
  gi_wp2
  go_ret
  exact ⟨rfl, Chg.seq ca c2⟩

theorem like_enters : ∀ args w, (callFunc 66 args).run Tryz.prog w = .ok (.enter 66 args) w := enters_of Tryz.func66 (by kernel_rfl) rfl

set_option maxRecDepth 100000 in
set_option maxHeartbeats 4000000 in
theorem indexC_in (B0 : Nat) (s : Rp) (p0 : Option Addr) (n cap : Nat) (rows : List Rw) (D D' : Blk) (c : Cm) (B : Nat) (w : World) (h : KRep B0 s (.slice p0 n cap) rows D w) (hn : s.1.length = n) (hl : n ≤ 1000) (hB : BoxC w B D' c) :
    CallsIn Fence.wide 0 Tryz.prog 68 #[.slice p0 n cap, .func (.func 66) #[] #[ptr B]] w fun e w' => e = .returned (iv ((findC s.1 c : Nat) - 1)) ∧ Chg No w w' := by
  have HN : Hid (s.1.length = n) := hn
  clear hn
  obtain ⟨F, hF⟩ : ∃ F, findC s.1 c = F := ⟨_, rfl⟩
  have HF : Hid (findC s.1 c = F) := hF
  rw [hF]
  clear hF
  have ef := like_enters
  refine callsIn_of_wp Tryz.func68 rfl trivial ?_
  simp only [Tryz.ntmps68, List.size_toArray, List.length_cons, List.length_nil, Nat.reduceAdd, Nat.reduceSub, Array.replicate_succ, Array.replicate_zero, List.push_toArray, List.append_toArray, List.nil_append, List.cons_append]
  gi_wp2
  gi_loopw [8] (fun i wr => ∃ k : Nat, k ≤ n ∧ i = .int .i64 (k : Int) ∧ Hid (∀ y ∈ s.1.take k, ¬ y = c) ∧ Chg No w wr) (fun i _ => n - (intOf i).toNat)
  case atStart => exact ⟨0, Nat.zero_le _, rfl, fun f hf => by simp at hf, Chg.refl _ _⟩
  case round =>
    obtain ⟨k, hk, rfl, HT, ck⟩ := hrel
    by_cases hlt : k < n
    · have hlt' : (k : Int) < (n : Int) := by omega
      obtain ⟨x, hx⟩ : ∃ x, s.1[k]? = some x := ⟨_, List.getElem?_eq_getElem (by rw [HN.out]; exact hlt)⟩
      obtain ⟨⟨r1, r2, r3⟩, b1, o1, _, rfl, f1, f2, f3, hcx⟩ := (h.no ck).cell hx
      dsimp only at f1 f2 f3 hcx
      have hxs : x.2.1.length ≤ 1000000 := by have := (h.small x (List.mem_of_getElem? hx)).2.1; omega
      have U1 := likeC_in r1 r2 r3 x c _ _ B hxs wr hcx (hB.no ck)
      obtain ⟨u, HU⟩ : ∃ u, Hid (decide (x = c) = u) := ⟨_, rfl⟩
      rw [HU.out] at U1
      clear hcx hxs
      gi_wp2_with fail
      refine ⟨trivial, rfl, U1.mono ?_⟩
      rintro e w1 ⟨rfl, c1⟩
      cases u with
      | true =>
        have HE : Hid (F = k + 1) := by
          show _ = _
          rw [← HF.out]
          have : x = c := of_decide_eq_true HU.out
          exact findC_here (by rw [hx, this]) HT.out
        gi_wp2
        go_ret
        refine ⟨?_, Chg.seq ck c1⟩
        rw [HE.out]
        show _ = Ending.returned (iv (((k + 1 : Nat) : Int) - 1))
        rw [show (((k + 1 : Nat) : Int) - 1) = (k : Int) by omega]
        rfl
      | false =>
        have HT2 : Hid (∀ y ∈ s.1.take (k + 1), ¬ y = c) := by
          intro y hy
          rw [List.take_add_one, hx] at hy
          rcases List.mem_append.1 hy with h | h
          · exact HT.out y h
          · rw [List.mem_singleton.1 h]; exact of_decide_eq_false HU.out
        gi_wp2
        refine ⟨⟨k + 1, hlt, by go_num, HT2, Chg.seq ck c1⟩, by simp [intOf]; omega⟩
    · have hlt' : ¬ (k : Int) < (n : Int) := by omega
      have HE : Hid (F = 0) := by
        show _ = _
        rw [← HF.out]
        refine findC_zero.2 (fun hm => HT.out c ?_ rfl)
        rw [List.take_of_length_le (by rw [HN.out]; omega)]
        exact hm
      gi_wp2
      go_ret
      exact ⟨by rw [HE.out]; rfl, ck⟩

set_option maxHeartbeats 1000000 in
theorem find_in (B : Nat) (s : Rp) (lv : Value) (rows : List Rw) (v : Value) (c : Cm) (D D' : Blk) (w : World) (h : KRep B s lv rows D w) (hv : CmD D' w v c) (hl : s.1.length ≤ 1000) :
    CallsIn Fence.wide 0 Tryz.prog 43 #[ptr B, v] w fun e w' => e = .returned (iv (findC s.1 c : Nat)) ∧ Chg No w w' := by
  have hnil := ptr_nil B
  obtain ⟨p, n, k, q, m, l, rfl, hh⟩ := hv
  have hv : CmD D' w (.agg #[.slice p n k, .slice q m l, .string c.2.2]) c := ⟨p, n, k, q, m, l, rfl, hh⟩
  have ca : Chg No w (w.alloc (.cells #[.slice p n k, .slice q m l, .string c.2.2] 43)) := (Chg.refl _ w).alloc _
  have hb : BoxC (w.alloc (.cells #[.slice p n k, .slice q m l, .string c.2.2] 43)) w.heap.size D' c := ⟨_, _, World.alloc_heap_new w _, hv.no ca⟩
  have h1 := h.no ca
  obtain ⟨p0, cap, rfl⟩ := h.slice
  obtain ⟨_, y1, _, _⟩ := h1.cells
  have X1 := indexC_in B s p0 _ cap rows D D' c w.heap.size _ h1 rfl hl hb
  have hF : findC s.1 c ≤ s.1.length := by
    by_cases e : findC s.1 c = 0
    · omega
    · exact (findC_get e).2
  generalize findC s.1 c = F at X1 hF ⊢
  generalize s.1.length = N at *
  clear h hh hv hb h1
  refine callsIn_of_wp Tryz.func43 rfl trivial ?_
  simp only [Tryz.ntmps43, List.size_toArray, List.length_cons, List.length_nil, Nat.reduceAdd, Nat.reduceSub, Array.replicate_succ, Array.replicate_zero, List.push_toArray, List.append_toArray, List.nil_append, List.cons_append]
  gi_wp2_with fail
  refine ⟨trivial, rfl, X1.mono ?_⟩
  rintro e w2 ⟨rfl, c2⟩
  gi_wp2
  go_ret
  exact ⟨rfl, Chg.seq ca c2⟩
end Go.Proofs.YtakbeololabmhaaGreatDoor

end
