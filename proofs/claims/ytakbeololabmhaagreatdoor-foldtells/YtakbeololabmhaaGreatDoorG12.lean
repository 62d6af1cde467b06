/-
  Of: RFold, RMadeN, FMade, FMem, LFold, FAwk, DTab.
-/
import Derived.Test.YtakbeololabmhaaGreatDoorG10
import Derived.Test.YtakbeololabmhaaGreatDoorG11
import Derived.Test.YtakbeololabmhaaGreatDoorG09
import Derived.Test.YtakbeololabmhaaGreatDoorG03
import Derived.Test.YtakbeololabmhaaGreatDoorG02
import Derived.Test.YtakbeololabmhaaGreatDoorG06
import Derived.Deep.OwnRows
section
-- RFold
namespace Go.DagLib
open Go.RepoLib Go.TreeLib

/-- A commit's tree. -/
def treeI (L : List Cm) (n : Int) : List Fl := (getC L n).2.1
/-- What is made of several bases, so deep. -/
def deepF (L : List Cm) : Nat → Int → Int → List Fl
  | 0, _, _ => []
  | d + 1, a, b => match bestL L a b with
    | [] => []
    | x :: ys => (ys.take 2).foldl (fun t y => virJ (deepF L d x y) t (treeI L y)) (treeI L x)
def deepI (L : List Cm) (a b deep : Int) : List Fl := deepF L (min deep 4).toNat a b
section
variable {L : List Cm}
theorem deep_none {a b : Int} (h : bestL L a b = []) (d : Nat) : deepF L d a b = [] := by
  cases d with
  | zero => rfl
  | succ d => unfold deepF; rw [h]
theorem deep_cons {a b x : Int} {ys : List Int} (h : bestL L a b = x :: ys) (d : Nat) : deepF L (d + 1) a b = (ys.take 2).foldl (fun t y => virJ (deepF L d x y) t (treeI L y)) (treeI L x) := by
  rw [deepF.eq_2, h]
theorem deep_one {a b x : Int} (h : bestL L a b = [x]) (d : Nat) : deepF L (d + 1) a b = treeI L x := deep_cons h d
theorem deep_two {a b x y : Int} (h : bestL L a b = [x, y]) (d : Nat) : deepF L (d + 1) a b = virJ (deepF L d x y) (treeI L x) (treeI L y) := deep_cons h d
theorem deep_swap (d : Nat) (a b : Int) : deepF L d b a = deepF L d a b := by
  cases d with
  | zero => rfl
  | succ d => unfold deepF; rw [best_swap b a]
theorem deep_ahead (hl : Low (parL L)) {a b : Int} (h : a ∈ aheadI L b) (d : Nat) : deepF L (d + 1) a b = treeI L a := deep_one (best_one hl h) d
theorem tree_may (h : ∀ c ∈ L, mayB c.2.1 = true) (n : Int) : mayB (treeI L n) = true := by
  unfold treeI getC
  split
  · rw [List.getD_eq_getElem?_getD]
    cases hc : L[n.toNat - 1]? with
    | none => exact mayB_iff.2 IsTree.nil
    | some c => exact h c (List.mem_of_getElem? hc)
  · exact mayB_iff.2 IsTree.nil
theorem fold_may {f : Int → List Fl → List Fl} (hf : ∀ y t, mayB (f y t) = true) : ∀ (ys : List Int) (t : List Fl), mayB t = true → mayB (ys.foldl (fun t y => f y t) t) = true
  | [], _, h => h
  | y :: ys, t, _ => fold_may hf ys (f y t) (hf y t)
theorem deep_may (h : ∀ c ∈ L, mayB c.2.1 = true) (d : Nat) (a b : Int) : mayB (deepF L d a b) = true := by
  cases d with
  | zero => exact mayB_iff.2 IsTree.nil
  | succ d =>
    cases hb : bestL L a b with
    | nil => rw [deep_none hb]; exact mayB_iff.2 IsTree.nil
    | cons x ys =>
      rw [deep_cons hb]
      exact fold_may (f := fun y t => virJ (deepF L d x y) t (treeI L y)) (fun y t => virJ_may _ _ _) _ _ (tree_may h x)
end
/-- Who came of whom hangs on the parents alone. -/
theorem par_like {L M : List Cm} (h : L.map (·.1) = M.map (·.1)) : parL L = parL M := by
  funext n
  have h1 : (L[n - 1]?).map (·.1) = (M[n - 1]?).map (·.1) := by rw [← List.getElem?_map, ← List.getElem?_map, h]
  unfold parL
  by_cases h0 : n = 0
  · rw [if_pos h0, if_pos h0]
  · rw [if_neg h0, if_neg h0]
    cases hL : L[n - 1]? with
    | none =>
      cases hM : M[n - 1]? with
      | none => rfl
      | some c => rw [hL, hM] at h1; cases h1
    | some c =>
      cases hM : M[n - 1]? with
      | none => rw [hL, hM] at h1; cases h1
      | some d =>
        rw [hL, hM] at h1
        show c.1.map _ = d.1.map _
        rw [show c.1 = d.1 from Option.some.inj h1]
theorem ahead_like {L M : List Cm} (h : L.map (·.1) = M.map (·.1)) (n : Int) : aheadI L n = aheadI M n := by
  have hl : L.length = M.length := by have := congrArg List.length h; simpa using this
  unfold aheadI
  rw [hl, par_like h]
theorem best_like {L M : List Cm} (h : L.map (·.1) = M.map (·.1)) (a b : Int) : bestL L a b = bestL M a b := by
  have hl : L.length = M.length := by have := congrArg List.length h; simpa using this
  have hc : comL L a b = comL M a b := by
    unfold comL
    rw [hl, ahead_like h a, ahead_like h b]
  unfold bestL
  rw [hc]
  refine List.filter_congr (fun x _ => ?_)
  congr 1
  funext y
  rw [ahead_like h y]
/-! ### Two merges of the same two -/
def pA : ByteArray := ⟨#[97]⟩
def pB : ByteArray := ⟨#[98]⟩
def pX : ByteArray := ⟨#[120]⟩
def noB : ByteArray := ⟨#[]⟩
theorem atP_cons (p d : ByteArray) (l : List Fl) (q : ByteArray) : atP ((p, d) :: l) q = if p = q then (true, d) else atP l q := by
  unfold atP
  rw [get_cons]
  show _ = if p = q then _ else _
  split <;> rfl
theorem atP_nil' (q : ByteArray) : atP [] q = (false, noB) := rfl
theorem fileP {p d : ByteArray} (hp : pathB (Bs p) = true) (hd : d.size ≤ 400) : fileB (p, d) = true := by
  unfold fileB
  rw [Bool.and_eq_true, decide_eq_true_eq]
  exact ⟨hp, hd⟩
theorem tree2 {p q a b : ByteArray} (hp : pathB (Bs p) = true) (hq : pathB (Bs q) = true) (ha : a.size ≤ 400) (hb : b.size ≤ 400) (h1 : lt p q = true) (h2 : under (Bs q) (Bs p) = false) : IsTree [(p, a), (q, b)] :=
  ⟨by simp, fun f hf => by
    rcases List.mem_cons.1 hf with rfl | hf
    · exact fileP hp ha
    · rw [List.mem_singleton.1 hf]; exact fileP hq hb, List.pairwise_cons.2 ⟨fun g hg => by rw [List.mem_singleton.1 hg]; exact ⟨h1, h2⟩, List.pairwise_singleton _ _⟩⟩
theorem tree3 {p q r a b c : ByteArray} (hp : pathB (Bs p) = true) (ha : a.size ≤ 400) (ht : IsTree [(q, b), (r, c)]) (h1 : lt p q = true) (h2 : under (Bs q) (Bs p) = false) (h3 : lt p r = true) (h4 : under (Bs r) (Bs p) = false) : IsTree [(p, a), (q, b), (r, c)] :=
  ⟨by simp, fun f hf => by
    rcases List.mem_cons.1 hf with rfl | hf
    · exact fileP hp ha
    · exact ht.file f hf, List.pairwise_cons.2 ⟨fun g hg => by
      rcases List.mem_cons.1 hg with rfl | hg
      · exact ⟨h1, h2⟩
      · rw [List.mem_singleton.1 hg]; exact ⟨h3, h4⟩, ht.apart⟩⟩
theorem no_size : noB.size ≤ 400 := by decide
theorem tree_ax {a c : ByteArray} (ha : a.size ≤ 400) (hc : c.size ≤ 400) : IsTree [(pA, a), (pX, c)] := tree2 (by decide) (by decide) ha hc (by decide +kernel) (by decide)
theorem tree_bx {b c : ByteArray} (hb : b.size ≤ 400) (hc : c.size ≤ 400) : IsTree [(pB, b), (pX, c)] := tree2 (by decide) (by decide) hb hc (by decide +kernel) (by decide)
theorem tree_x {c : ByteArray} (hc : c.size ≤ 400) : IsTree [(pX, c)] := IsTree.one (fileP (by decide) hc)
theorem tree_abx {a b : ByteArray} (ha : a.size ≤ 400) (hb : b.size ≤ 400) : IsTree [(pA, a), (pB, b), (pX, noB)] := tree3 (by decide) ha (tree_bx hb no_size) (by decide +kernel) (by decide) (by decide +kernel) (by decide)
/-- Where the tree is what each path comes to, it is what stands virtually. -/
theorem vir_is {o a b t : List Fl} (ho : IsTree o) (ha : IsTree a) (hb : IsTree b) (ht : IsTree t) (hr : ∀ p, res o a b p = (atP t p, false)) : virJ o a b = t := by
  have hm := may3_iff.2 ⟨ho, ha, hb⟩
  have h := ofJ_is hm ht.once.rep hr ht.len (tree_flat ht)
  rw [virJ_of hm (by rw [h]), h]
theorem cross_own {a b : ByteArray} (ha : a.size ≤ 400) (hb : b.size ≤ 400) : virJ [(pX, noB)] [(pA, a), (pX, noB)] [(pB, b), (pX, noB)] = [(pA, a), (pB, b), (pX, noB)] :=
  vir_is (tree_x no_size) (tree_ax ha no_size) (tree_bx hb no_size) (tree_abx ha hb) (fun q => by
    unfold res
    rw [atP_cons, atP_cons, atP_cons, atP_cons, atP_cons, atP_cons, atP_cons, atP_cons]
    by_cases h1 : pA = q
    · subst h1
      have e1 : ¬ pX = pA := by decide
      have e2 : ¬ pB = pA := by decide
      simp only [if_neg e1, if_neg e2, if_pos, atP_nil']
      exact one3_right _ _
    · simp only [if_neg h1]
      by_cases h2 : pB = q
      · subst h2
        have e1 : ¬ pX = pB := by decide
        simp only [if_neg e1, if_pos, atP_nil']
        exact one3_left _ _
      · simp only [if_neg h2]
        exact one3_like _ _)
theorem cross_one {a c : ByteArray} (ha : a.size ≤ 400) (hc : c.size ≤ 400) : virJ [(pX, noB)] [(pA, a), (pX, noB)] [(pX, c)] = [(pA, a), (pX, c)] :=
  vir_is (tree_x no_size) (tree_ax ha no_size) (tree_x hc) (tree_ax ha hc) (fun q => by
    unfold res
    rw [atP_cons, atP_cons, atP_cons, atP_cons, atP_cons, atP_cons]
    by_cases h1 : pA = q
    · subst h1
      have e1 : ¬ pX = pA := by decide
      simp only [if_neg e1, if_pos, atP_nil']
      exact one3_right _ _
    · simp only [if_neg h1]
      exact one3_left _ _)
/-- The two commits, and their merges. -/
def cxL (one two both : List Fl) : List Cm := [([], [(pX, noB)], noB), ([1], one, noB), ([1], two, noB), ([2, 3], both, noB), ([3, 2], both, noB)]
theorem cx_best (one two both : List Fl) : bestL (cxL one two both) 4 5 = [2, 3] ∧ bestL (cxL one two both) 2 3 = [1] := by
  have h : (cxL one two both).map (·.1) = (cxL [] [] []).map (·.1) := rfl
  rw [best_like h, best_like h]
  decide +kernel
theorem cx_deep {one two both : List Fl} (h : virJ [(pX, noB)] one two = both) (d : Nat) : deepF (cxL one two both) (d + 2) 4 5 = both ∧ deepF (cxL one two both) (d + 1) 2 3 = [(pX, noB)] := by
  obtain ⟨h1, h2⟩ := cx_best one two both
  have e : deepF (cxL one two both) (d + 1) 2 3 = [(pX, noB)] := deep_one h2 d
  refine ⟨?_, e⟩
  rw [deep_two h1, e]
  exact h
/-- What is made of the first base and some more of them. -/
def foldT (L : List Cm) (d : Nat) (x : Int) (ys : List Int) : List Fl := ys.foldl (fun t y => virJ (deepF L d x y) t (treeI L y)) (treeI L x)
theorem foldT_snoc (L : List Cm) (d : Nat) (x : Int) (ys : List Int) (y : Int) : foldT L d x (ys ++ [y]) = virJ (deepF L d x y) (foldT L d x ys) (treeI L y) := by unfold foldT; rw [List.foldl_append]; rfl
end Go.DagLib

end
section
-- RMadeN
namespace Go.DagLib
open Go.RepoLib Go.TreeLib
theorem addC_keep {p : Cm → Prop} {s : Rp} {c : Cm} (h : ∀ x ∈ s.1, p x) (hc : p c) : ∀ x ∈ (addC s c).1.1, p x := by
  intro x hx
  unfold addC at hx
  split at hx
  · exact h x hx
  · split at hx
    · exact h x hx
    · split at hx
      · split at hx
        · exact h x hx
        · rcases List.mem_append.1 hx with h1 | h1
          · exact h x h1
          · rw [List.mem_singleton.1 h1]; exact hc
      · exact h x hx
theorem stN_all {p : Cm → Prop} (r : Nat) (cs : List Cm) (h : ∀ c ∈ cs, p c) : ∀ k, ∀ x ∈ (stN r (cs.take k)).1, p x
  | 0 => fun x hx => by
    rw [List.take_zero] at hx
    cases hx
  | k + 1 => by
    rcases Nat.lt_or_ge k cs.length with hk | hk
    · rw [List.take_succ_eq_append_getElem hk, stN_snoc]
      exact addC_keep (stN_all r cs h k) (h _ (List.getElem_mem hk))
    · have := stN_all r cs h k
      rw [List.take_of_length_le hk] at this
      rw [List.take_of_length_le (by omega)]
      exact this
theorem good_ok {s : Rp} (g : RepoLib.Good s) : ParOk s.1 := by
  intro i c hc p hp
  have := List.all_eq_true.1 (g.may i c hc).2 p hp
  unfold hasN at this
  rw [Bool.and_eq_true, decide_eq_true_eq, decide_eq_true_eq] at this
  exact this
theorem good_tree {s : Rp} (g : RepoLib.Good s) : ∀ c ∈ s.1, mayB c.2.1 = true := by
  intro c hc
  obtain ⟨i, hi, rfl⟩ := List.mem_iff_getElem.1 hc
  have := (g.may i _ (List.getElem?_eq_getElem hi)).1
  unfold mayC at this
  rw [Bool.and_eq_true] at this
  exact this.1
theorem addC_new {L : List Cm} {r : Nat} {c : Cm} (h1 : mayC c = true) (h2 : c.1.all (hasN L.length) = true) (h3 : c ∉ L) (h4 : L.length < r) : (addC (L, r) c).1 = (L ++ [c], r) := by
  unfold addC
  rw [if_neg (by rw [h1]; decide), if_neg (by rw [h2]; decide), if_pos (findC_zero.2 h3), if_neg (by show ¬ r ≤ L.length; omega)]
theorem mayC_of {ps : List Int} {t : List Fl} (h : mayB t = true) (h2 : (decide (ps.length ≤ 2) && ((decide (ps.length < 2) || !decide (ps[0]? = ps[1]?)) && decide (noB.size ≤ 60))) = true) : mayC (ps, t, noB) = true := by
  unfold mayC
  rw [h, Bool.true_and]
  exact h2
end Go.DagLib

end
section
-- FMade
namespace Go.Proofs.YtakbeololabmhaaGreatDoor
open Go.RowKit Go.Shelf Go.SeqLib Go.DiffLib Go.TreeLib Go.RepoLib Go.DagLib Go.BigFrame
attribute [local go_sem] Oper.semAt_some

set_option maxRecDepth 100000 in
set_option maxHeartbeats 8000000 in
theorem made13_in {Rep : Nat → Rp → Blk → Blk → World → Prop} (J : PutSpec Rep) (p : Option Addr) (n k0 : Nat) (rows : List Rw) (cs : List Cm) (w : World) (hv : LowM w.heap.size w (.slice p n k0) rows cs) (hn : cs.length = n) (h16 : n ≤ 16) (hsm : ∀ c ∈ cs, SmallC c) :
    CallsIn Fence.wide 0 Tryz.prog 8 #[.slice p n k0] w fun e w' => ∃ B Bw S O lv rws, e = .returned (.tuple #[ptr B, ptr Bw]) ∧ Rep B (stN 60 cs) S O w' ∧ RefVw Bw (stN 60 cs) lv rws w' ∧ (∀ k, S k → w.heap.size ≤ k) ∧ Chg No w w' := by
  have hmix : Tryz.prog.follows .mixedOrders = true := by kernel_rfl
  have hnil : ∀ (B : Nat) (w : World), (binOp .eql 25 (ptr B) (.pointer none)).run Tryz.prog w = .ok (.bool false) w := fun B w => by simp [go_sem]
  have HN : Hid (cs.length = n ∧ ∀ c ∈ cs, SmallC c) := ⟨hn, hsm⟩
  have hn63 : n ≤ 9223372036854775807 := by omega
  clear hn hsm
  refine callsIn_of_wp Tryz.func8 rfl trivial ?_
  simp only [Tryz.ntmps8, List.size_toArray, List.length_cons, List.length_nil, Nat.reduceAdd, Nat.reduceSub, Array.replicate_succ, Array.replicate_zero, List.push_toArray, List.append_toArray, List.nil_append, List.cons_append]
  gi_wp2_with fail
  refine ⟨trivial, rfl, (J.new 60 w (by omega) (by omega)).mono ?_⟩
  rintro e w1 ⟨B, S1, O1, rfl, r1, hS1, c1⟩
  gi_wp2_with fail
  refine ⟨trivial, rfl, (newG_in 60 (by omega) (by omega) w1).mono ?_⟩
  rintro e w2 ⟨Bw, rfl, q2, hBw, c2⟩
  have r2 := (J.part B _ O1).chg r1 c2 (fun _ _ h => h)
  have c02 := Chg.seq c1 c2
  have hB1 := (J.part B _ O1).lt r1
  have hzero : newC 60 = stN 60 (cs.take 0) := rfl
  rw [hzero] at r2 q2
  clear hzero r1
  gi_wp2
  gi_loopw [6] (fun s6 wr => ∃ (k : Nat) (S O D : Blk) (lv : Value) (rws : List Rw), k ≤ n ∧ s6 = .int .i64 (k : Int) ∧ Rep B (stN 60 (cs.take k)) S O wr ∧ RefG D Bw (stN 60 (cs.take k)) lv rws wr ∧ (∀ j, S j → w.heap.size ≤ j ∧ ¬ refS Bw lv j) ∧ (∀ j, refS Bw lv j → w.heap.size ≤ j) ∧ (∀ j, D j → j < w.heap.size) ∧ Chg No w wr) (fun s6 _ => n - (intOf s6).toNat)
  case atStart =>
    refine ⟨0, S1, O1, No, _, _, Nat.zero_le _, rfl, r2, q2, fun j hj => ⟨hS1 j hj, fun e => ?_⟩, fun j hj => ?_, fun j hj => hj.elim, c02⟩
    · have := hB1 j hj
      rcases e with e | e
      · omega
      · cases e
    · rcases hj with e | e
      · have := c1.size; omega
      · cases e
  case round =>
    obtain ⟨k, S, O, D, lv, rws, hk, rfl, r, q, hS, hlo, hD, c⟩ := hrel
    by_cases hlt : k < n
    · have hlt' : (k : Int) < (n : Int) := by omega
      obtain ⟨x, hx⟩ : ∃ x, cs[k]? = some x := ⟨_, List.getElem?_eq_getElem (by rw [HN.out.1]; exact hlt)⟩
      have hxs := HN.out.2 x (List.mem_of_getElem? hx)
      have HT : Hid (stN 60 (cs.take (k + 1)) = (addC (stN 60 (cs.take k)) x).1) := by
        show _ = _
        rw [List.take_add_one, hx]
        exact stN_snoc 60 _ x
      have hl60 : (stN 60 (cs.take k)).1.length ≤ 200 := Nat.le_trans (stN_len 60 cs k) (by omega)
      have hsm : ∀ y ∈ (stN 60 (cs.take k)).1, SmallC y := stN_all 60 cs HN.out.2 k
      obtain ⟨⟨r1, r2, r3⟩, b1, o1, hrow, rfl, z0, z1, z2, hcm⟩ := (hv.no c).cell hx
      dsimp only at z0 z1 z2 hcm
      obtain ⟨p', n', k', q', m', l', rfl, rfl, rfl⟩ : ∃ p' n' k' q' m' l', r1 = .slice p' n' k' ∧ r2 = .slice q' m' l' ∧ r3 = x.2.2 := by
        obtain ⟨p', n', k', q', m', l', e, _⟩ := hcm
        cases e
        exact ⟨_, _, _, _, _, _, rfl, rfl, rfl⟩
      have hw8 := c.size
      have A1 := J.add B _ S O (fun j => j < w.heap.size) _ x wr r hcm (fun j hj hs => by have := (hS j hs).1; omega) hxs hl60
      have HQ : Hid (RefG D Bw (stN 60 (cs.take k)) lv rws wr) := q
      have HR : Hid (Rep B (stN 60 (cs.take k)) S O wr) := r
      have HSm : Hid (∀ y ∈ (stN 60 (cs.take k)).1, SmallC y) := hsm
      have HX : Hid (SmallC x ∧ cs[k]? = some x ∧ rows[k]? = some (.slice p' n' k', .slice q' m' l', x.2.2)) := ⟨hxs, hx, hrow⟩
      clear q r hsm hxs hx hrow
      gi_wp2_with fail
      refine ⟨trivial, rfl, A1.mono ?_⟩
      rintro e w8 ⟨S8, O8, rfl, r8, c8, gS8, gO8⟩
      clear A1
      have hOS : ∀ j, O j → S j := J.sub HR.out
      have q8 := HQ.out.chg c8 (fun j hj ho => by
        rcases hj with h | h
        · exact (hS j (hOS j ho)).2 h
        · have := hD j h
          have := (hS j (hOS j ho)).1
          omega)
      have c9 : Chg No w w8 := c.trans c8 (fun j hj => .inr (hS j (hOS j hj)).1)
      obtain ⟨r9, b9, o9, hrow9, e9, y0, y1, y2, hcm8⟩ := (hv.no c9).cell HX.out.2.1
      rw [HX.out.2.2] at hrow9
      cases hrow9
      cases e9
      dsimp only at y0 y1 y2 hcm8
      have A2 := addG_in D (fun j => j < w.heap.size) Bw (stN 60 (cs.take k)) lv rws _ x w8 q8 hcm8 (fun j hj hr => by have := hlo j hr; omega) hl60 (fun y hy => by have := (HSm.out y hy).2.1; omega) HX.out.1
      have HQ8 : Hid (RefG D Bw (stN 60 (cs.take k)) lv rws w8) := q8
      clear hcm hcm8 q8 z0 z1 z2
      gi_wp2_with fail
      refine ⟨trivial, rfl, A2.mono ?_⟩
      rintro e w10 ⟨rfl, lv9, rows9, q9, c10, g9⟩
      have hS8lt := (J.part B _ O8).lt r8
      have hltO := HQ8.out.ltO
      have hltO0 := HQ.out.ltO
      have hS9 : ∀ j, S8 j → w.heap.size ≤ j ∧ ¬ refS Bw lv9 j := fun j hj => by
        have hj8 := hS8lt j hj
        rcases gS8 j hj with h | h
        · refine ⟨(hS j h).1, fun e => ?_⟩
          rcases g9 j e with q | q
          · exact (hS j h).2 q
          · omega
        · refine ⟨by omega, fun e => ?_⟩
          rcases g9 j e with q | q
          · have := hltO0 j q; omega
          · omega
      have r9 := (J.part B _ O8).chg r8 c10 (fun j hj hr => by
        rcases gS8 j hj with h | h
        · exact (hS j h).2 hr
        · have := hltO0 j hr; omega)
      have hlo9 : ∀ j, refS Bw lv9 j → w.heap.size ≤ j := fun j e => by
        rcases g9 j e with q | q
        · exact hlo j q
        · have := c9.size; omega
      have c09 : Chg No w w10 := c9.trans c10 (fun j hj => .inr (hlo j hj))
      rw [← HT.out] at r9 q9
      clear A2
      gi_wp2
      exact ⟨⟨k + 1, S8, O8, _, lv9, rows9, hlt, by go_num, r9, q9, hS9, hlo9, (fun j hj => by
        rcases hj with h | h
        · exact hD j h
        · exact h.1), c09⟩, by simp [intOf]; omega⟩
    · obtain rfl : k = n := by omega
      have hlt' : ¬ (k : Int) < (k : Int) := by omega
      have htk : cs.take k = cs := List.take_of_length_le (by rw [HN.out.1]; exact Nat.le_refl _)
      rw [htk] at r q
      obtain ⟨z, hz⟩ : ∃ z, (stN 60 cs).1.length = z := ⟨_, rfl⟩
      have hzk : z ≤ k := by
        have := stN_len 60 cs k
        rw [htk, hz] at this
        exact this
      have hLen : ∀ d : After wr, CallsIn Fence.wide 0 Tryz.prog 16 #[ptr B] d.val fun e w' => e = .returned (iv (z : Nat)) ∧ Chg No d.val w' := fun d => by
        have := J.len B (stN 60 cs) S O d.val ((J.part B _ O).chg r d.chg (fun _ _ h => h)) (by omega)
        rw [hz] at this
        exact this
      obtain ⟨t0, _, _, _⟩ := q.cells
      obtain ⟨pv, kv, hlv⟩ := q.slice
      rw [hz] at hlv
      have hany := After.any wr
      have f0 : ∀ d : After wr, d.val.cell? ⟨Bw, 0, none⟩ = some (.slice pv z kv) := fun d => d.cell (by rw [← hlv]; exact t0)
      clear hlv t0 hz
      gi_wp2
      refine region_quietC hmix (by kernel_rfl) ?_
      repeat (gi_big_quiet_step (fail))
      refine wpQuietIn_want (fun _ _ _ _ => trivial) rfl ?_
      intro KQ hKQ
      gi_big_quiet_op
      gi_big_quiet_call (exact ⟨rfl, (hLen _).mono (by rintro e w'' ⟨rfl, c'⟩; exact ⟨rfl, After.more _ c'⟩)⟩)
      repeat (gi_big_quiet_step (fail))
      refine wpQuietIn_nil ?_
      rintro w' ⟨d, rfl⟩
      have hr := (J.part B _ O).chg r d.chg (fun _ _ h => h)
      have hq := q.vw.no d.chg
      have cd := Chg.seq c d.chg
      clear f0 hLen hany
      generalize d.val = W9 at *
      gi_wp2
      go_ret2
      exact ⟨B, Bw, S, O, lv, rws, rfl, hr, hq, fun j hj => (hS j hj).1, cd⟩
end Go.Proofs.YtakbeololabmhaaGreatDoor

end
section
-- FMem
namespace Go.Proofs.YtakbeololabmhaaGreatDoor
open Go.RowKit Go.Shelf Go.SeqLib Go.DiffLib Go.TreeLib Go.RepoLib Go.DagLib Go.BigFrame
attribute [local go_sem] Oper.semAt_some

/-- Commits as the statements have them. -/
structure FoldL (L : List Cm) : Prop where
  par : ParOk L
  len : L.length ≤ 60
  small : ∀ c ∈ L, SmallC c
  tree : ∀ c ∈ L, mayB c.2.1 = true
theorem PutSpec.no {Rep : Nat → Rp → Blk → Blk → World → Prop} (P : PutSpec Rep) {B : Nat} {s : Rp} {S O : Blk} {W W' : World} (h : Rep B s S O W) (c : Chg No W W') : Rep B s S O W' := (P.part B s O).chg h c (fun _ _ h => h)
/-- A commit of lists that read. -/
theorem CmD.of {W : World} {D : Blk} {pv tv : Value} {ps : List Int} {fs : List Fl} {nt : ByteArray} (h1 : SlV W pv (ps.map iv)) (h2 : SlF W tv fs) (d1 : ∀ k, svD pv (ps.map iv) k → D k) (d2 : ∀ k, slE tv fs k → D k) : CmD D W (.agg #[pv, tv, .string nt]) (ps, fs, nt) := by
  obtain ⟨p, c, rfl, _⟩ := id h1
  obtain ⟨q, l, rfl, _⟩ := h2.slice
  exact ⟨p, _, c, q, _, l, rfl, h1, h2, d1, d2⟩
theorem LowM.up {b b' : Nat} {W : World} {v : Value} {rows : List Rw} {L : List Cm} (h : LowM b W v rows L) (hb : b ≤ b') : LowM b' W v rows L := ⟨h.row, h.len, fun k hk => Nat.lt_of_lt_of_le (h.low k hk) hb, fun i r c hr hc => CmD.mono (h.at_ i r c hr hc) (fun _ hk => Nat.lt_of_lt_of_le hk hb)⟩
/-- Rows that lie in a block of their own. -/
theorem LowM.made (w : World) (rows : List Rw) (L : List Cm) (hl : rows.length = L.length) (h6 : rows.length ≤ 1000) (hat : ∀ (i : Nat) (r : Rw) (c : Cm), rows[i]? = some r → L[i]? = some c → CmD (fun k => k < w.heap.size) w (.agg #[r.1, r.2.1, .string r.2.2]) c) :
    LowM (w.alloc (.cells (rows.flatMap eM).toArray 43)).heap.size (w.alloc (.cells (rows.flatMap eM).toArray 43)) (.slice (some ⟨w.heap.size, 0, none⟩) rows.length rows.length) rows L := by
  have ho := World.ownsRow_lit (base := w.heap.size) (e := 43) (size := 3) w (rows.flatMap eM).toArray rows.length (Nat.le_refl _) (by unfold maxLen; omega) (by simp only [List.size_toArray]; rw [flat_length eM_len])
  have c : Chg No w (w.alloc (.cells (rows.flatMap eM).toArray 43)) := (Chg.refl _ w).alloc _
  refine ⟨SlE.ofRow eM_len ho, hl, fun k hk => ?_, fun i r x hr hx => ?_⟩
  · have := (World.ownsRow.lt ho k hk.2).2
    exact this
  · have h := (hat i r x hr hx).no c
    exact CmD.mono h (fun k hk => by rw [World.size_alloc]; omega)

theorem stF (cs : List Cm) (n : Nat) (hn : cs.length = n) (h16 : n ≤ 16) (hsm : ∀ c ∈ cs, SmallC c) : FoldL (stN 60 cs).1 ∧ (stN 60 cs).1.length ≤ n := by
  have ht : cs.take n = cs := List.take_of_length_le (by omega)
  have h1 := stN_good 60 cs n
  have h2 := stN_len 60 cs n
  have h3 := stN_all 60 cs hsm n
  rw [ht] at h1 h2 h3
  exact ⟨⟨good_ok h1, by omega, h3, good_tree h1⟩, h2⟩
theorem deep_len {L : List Cm} (h : FoldL L) (d : Nat) (a b : Int) : (deepF L d a b).length ≤ 1000000 := by
  have := (mayB_iff.1 (deep_may h.tree d a b)).len
  omega

theorem has_of {L : List Cm} {n : Int} (h1 : 1 ≤ n) (h2 : n ≤ (L.length : Int)) : hasN L.length n = true := by
  unfold hasN
  rw [Bool.and_eq_true, decide_eq_true_eq, decide_eq_true_eq]
  exact ⟨h1, h2⟩
theorem best_has {L : List Cm} {a b x : Int} (h : x ∈ bestL L a b) : hasN L.length x = true := by
  have := (aheadI_range' (com_mem.1 (best_mem.1 h).1).1).1
  exact has_of this.1 this.2
theorem deep_size {L : List Cm} (h : FoldL L) (d : Nat) (a b : Int) : ∀ f ∈ deepF L d a b, f.1.size ≤ 100000 := by
  intro f hf
  have := (mayB_iff.1 (deep_may h.tree d a b)).file f hf
  unfold fileB at this
  rw [Bool.and_eq_true] at this
  have h2 := this.1
  have h3 := (pathB_iff.1 h2).len
  rw [show (Bs f.1).length = f.1.size from rfl] at h3
  omega

/-- A list of two numbers that is laid. -/
theorem SlI2 (w : World) (x y : Int) : SlV (w.alloc (.cells #[.int .i64 x, .int .i64 y] 3)) (.slice (some ⟨w.heap.size, 0, none⟩) 2 2) (([x, y] : List Int).map iv) := SlV.made w [.int .i64 x, .int .i64 y] 3 (by simp)
theorem SlI1 (w : World) (x : Int) : SlV (w.alloc (.cells #[.int .i64 x] 3)) (.slice (some ⟨w.heap.size, 0, none⟩) 1 1) (([x] : List Int).map iv) := SlV.made w [.int .i64 x] 3 (by simp)

end Go.Proofs.YtakbeololabmhaaGreatDoor

end
section
-- LFold
namespace Go.Proofs.YtakbeololabmhaaGreatDoor
open Go.RowKit Go.Shelf Go.SeqLib Go.DiffLib Go.TreeLib Go.RepoLib Go.DagLib Go.BigFrame
attribute [local go_sem] Oper.semAt_some

/-- What the statements ask of fold, of a repo that holds the commits and the room s. -/
structure FoldSpec (Rep : Nat → Rp → Blk → Blk → World → Prop) : Prop where
  base : ∀ (B : Nat) (s : Rp) (S O : Blk) (a b : Int) (w : World), Rep B s S O w → FoldL s.1 → CallsIn Fence.wide 0 Tryz.prog 10 #[ptr B, iv a, iv b] w fun e w' => ∃ v, e = .returned v ∧ OwnF w' w.heap.size v (deepF s.1 4 a b) ∧ Chg No w w'
  deep : ∀ (B : Nat) (s : Rp) (S O : Blk) (a b d : Int) (w : World), Rep B s S O w → FoldL s.1 → CallsIn Fence.wide 0 Tryz.prog 11 #[ptr B, iv a, iv b, iv d] w fun e w' => ∃ v, e = .returned v ∧ OwnF w' w.heap.size v (deepI s.1 a b d) ∧ Chg No w w'
  best : ∀ (B : Nat) (s : Rp) (S O : Blk) (a b : Int) (w : World), Rep B s S O w → FoldL s.1 → CallsIn Fence.wide 0 Tryz.prog 18 #[ptr B, iv a, iv b] w fun e w' => ∃ v, e = .returned v ∧ OwnI w' w.heap.size v (bestL s.1 a b) ∧ Chg No w w'
  is : ∀ (B : Nat) (s : Rp) (S O : Blk) (a n : Int) (w : World), Rep B s S O w → FoldL s.1 → CallsIn Fence.wide 0 Tryz.prog 20 #[ptr B, iv a, iv n] w fun e w' => e = .returned (.bool (decide (a ∈ aheadI s.1 n))) ∧ Chg No w w'
  get : ∀ (B : Nat) (s : Rp) (S O : Blk) (n : Int) (w : World), Rep B s S O w → FoldL s.1 → CallsIn Fence.wide 0 Tryz.prog 19 #[ptr B, iv n] w fun e w' => ∃ pv tv, e = .returned (.tuple #[.agg #[pv, tv, .string (getC s.1 n).2.2], .bool (hasN s.1.length n)]) ∧ OwnI w' w.heap.size pv (getC s.1 n).1 ∧ OwnF w' w.heap.size tv (getC s.1 n).2.1 ∧ Chg No w w'
end Go.Proofs.YtakbeololabmhaaGreatDoor

end
section
-- FAwk
namespace Go.DagLib
open Go.RepoLib Go.TreeLib
def c49 : ByteArray := ⟨#[49]⟩
def c50 : ByteArray := ⟨#[50]⟩
def awC : List Cm := [([], [(pX, c49)], noB), ([1], [(pX, c50)], noB)]
theorem awC_st : stN 60 awC = (awC, 60) := by decide +kernel
theorem awC_low : ParOk awC := by
  have := good_ok (stN_good 60 awC 2)
  rw [List.take_of_length_le (by decide), awC_st] at this
  exact this
theorem awC_deep1 : deepF awC 4 1 2 = [(pX, c49)] := deep_ahead awC_low.low (by decide +kernel) 3
theorem awC_deep2 : deepF awC 4 2 2 = [(pX, c50)] := deep_ahead awC_low.low (by decide +kernel) 3
end Go.DagLib
namespace Go.Proofs.YtakbeololabmhaaGreatDoor
open Go.RowKit Go.Shelf Go.SeqLib Go.DiffLib Go.TreeLib Go.RepoLib Go.DagLib Go.BigFrame
attribute [local go_sem] Oper.semAt_some

theorem awC_small : ∀ c ∈ awC, SmallC c := by
  intro c hc
  simp [awC] at hc
  rcases hc with rfl | rfl
  · exact ⟨by simp, by simp, by simp; decide, by decide⟩
  · exact ⟨by simp, by simp, by simp; decide, by decide⟩
theorem awC_fold : FoldL awC := ⟨awC_low, by decide, awC_small, by
  have := good_tree (stN_good 60 awC 2)
  rw [List.take_of_length_le (by decide), awC_st] at this
  exact this⟩
set_option maxRecDepth 100000 in
set_option maxHeartbeats 4000000 in
theorem awakeF_in {Rep : Nat → Rp → Blk → Blk → World → Prop} (P : PutSpec Rep) (J : FoldSpec Rep) (w : World) : CallsIn Fence.wide 0 Tryz.prog 7 #[] w fun e w' => e = .returned (.bool true) ∧ Chg No w w' := by
  have hneq : ∀ (B : Nat) (w : World), (binOp .neq 25 (ptr B) (.pointer none)).run Tryz.prog w = .ok (.bool true) w := fun B w => by simp [go_sem]
  obtain ⟨b, hb⟩ : ∃ b, w.heap.size = b := ⟨_, rfl⟩
  obtain ⟨W1, hW1⟩ : ∃ W1, w.alloc (.cells #[.string ⟨#[120]⟩, .string ⟨#[49]⟩] 49) = W1 := ⟨_, rfl⟩
  obtain ⟨W2, hW2⟩ : ∃ W2, W1.alloc (.cells #[.int .i64 1] 3) = W2 := ⟨_, rfl⟩
  obtain ⟨W3, hW3⟩ : ∃ W3, W2.alloc (.cells #[.string ⟨#[120]⟩, .string ⟨#[50]⟩] 49) = W3 := ⟨_, rfl⟩
  have z1 : W1.heap.size = b + 1 := by rw [← hW1, World.size_alloc, hb]
  have z2 : W2.heap.size = b + 2 := by rw [← hW2, World.size_alloc, z1]
  have z3 : W3.heap.size = b + 3 := by rw [← hW3, World.size_alloc, z2]
  have c1 : Chg No w W1 := by rw [← hW1]; exact (Chg.refl _ w).alloc _
  have c2 : Chg No W1 W2 := by rw [← hW2]; exact (Chg.refl _ W1).alloc _
  have c3 : Chg No W2 W3 := by rw [← hW3]; exact (Chg.refl _ W2).alloc _
  have f1 : SlF W1 (.slice (some ⟨b, 0, none⟩) 1 1) [(pX, c49)] := by rw [← hW1, ← hb]; exact SlF.one w (pX, c49)
  have f2 : SlV W2 (.slice (some ⟨b + 1, 0, none⟩) 1 1) (([1] : List Int).map iv) := by rw [← hW2, ← z1]; exact SlV.made W1 [.int .i64 1] 3 (by simp)
  have f3 : SlF W3 (.slice (some ⟨b + 2, 0, none⟩) 1 1) [(pX, c50)] := by rw [← hW3, ← z2]; exact SlF.one W2 (pX, c50)
  have f1' := (f1.no c2).no c3
  have f2' := f2.no c3
  have hM := LowM.made W3 [(.slice none 0 0, .slice (some ⟨b, 0, none⟩) 1 1, noB), (.slice (some ⟨b + 1, 0, none⟩) 1 1, .slice (some ⟨b + 2, 0, none⟩) 1 1, noB)] awC rfl (by simp) (fun i r x hr hx => by
    match i, hr, hx with
    | 0, hr, hx =>
      cases hr
      cases hx
      exact CmD.of (ps := []) ⟨none, 0, rfl, Nat.le_refl _, Nat.zero_le _, by simp⟩ f1' (fun k hk => absurd rfl hk.1) (fun k hk => f1'.lt k hk)
    | 1, hr, hx =>
      cases hr
      cases hx
      exact CmD.of f2' f3 (fun k hk => f2'.lt k hk) (fun k hk => f3.lt k hk)
    | i + 2, hr, hx => cases hr)
  rw [z3] at hM
  obtain ⟨W4, hW4⟩ : ∃ W4, W3.alloc (.cells #[.slice none 0 0, .slice (some ⟨b, 0, none⟩) 1 1, .string ⟨#[]⟩, .slice (some ⟨b + 1, 0, none⟩) 1 1, .slice (some ⟨b + 1 + 1, 0, none⟩) 1 1, .string ⟨#[]⟩] 43) = W4 := ⟨_, rfl⟩
  obtain ⟨rws, hM4⟩ : ∃ rws, LowM W4.heap.size W4 (.slice (some ⟨b + 1 + 1 + 1, 0, none⟩) 2 2) rws awC := ⟨_, by rw [← hW4]; exact hM⟩
  have c4 : Chg No w W4 := by rw [← hW4]; exact (Chg.seq (Chg.seq c1 c2) c3).alloc _
  have M1 := made13_in P _ 2 2 rws awC W4 hM4 rfl (by omega) awC_small
  rw [awC_st] at M1
  clear hM f1 f2 f3 f1' f2' c1 c2 c3 hM4
  refine callsIn_of_wp Tryz.func7 rfl trivial ?_
  simp only [Tryz.ntmps7, List.size_toArray, List.length_nil, Nat.reduceSub, Array.replicate_succ, Array.replicate_zero, List.push_toArray, List.append_toArray, List.nil_append, List.cons_append]
  gi_wp2_with fail
  refine ⟨trivial, rfl, M1.mono ?_⟩
  rintro e w1 ⟨B, Bw, S, O, lv, rows, rfl, r1, _, hS, k1⟩
  clear M1
  have k1 := Chg.seq c4 k1
  have A1 := J.base B _ S O 1 2 w1 r1 awC_fold
  rw [awC_deep1] at A1
  gi_wp2_with fail
  refine ⟨trivial, rfl, A1.mono ?_⟩
  rintro e w2 ⟨v2, rfl, o2, k2⟩
  clear A1
  have r2 := P.no r1 k2
  obtain ⟨W5, hW5⟩ : ∃ W5, w2.alloc (.cells #[.string ⟨#[120]⟩, .string ⟨#[49]⟩] 49) = W5 := ⟨_, rfl⟩
  have c5 : Chg No w2 W5 := by rw [← hW5]; exact (Chg.refl _ w2).alloc _
  have f5 : SlF W5 (.slice (some ⟨w2.heap.size, 0, none⟩) 1 1) [(pX, c49)] := by rw [← hW5]; exact SlF.one w2 (pX, c49)
  have I5 := sameF_in v2 _ [(pX, c49)] [(pX, c49)] _ (o2.sl.no c5) f5 (by simp)
  rw [decide_eq_true rfl] at I5
  have k5 := Chg.seq (Chg.seq k1 k2) c5
  have r5 := P.no r2 c5
  clear o2 f5 r1 r2 k1 k2 c5
  gi_wp2_with fail
  refine ⟨trivial, rfl, I5.mono ?_⟩
  rintro e w6 ⟨rfl, c6⟩
  clear I5
  have k6 := Chg.seq k5 c6
  have r6 := P.no r5 c6
  have A6 := J.base B _ S O 2 2 w6 r6 awC_fold
  rw [awC_deep2] at A6
  clear r5 k5 c6
  gi_wp2_with fail
  refine ⟨trivial, rfl, A6.mono ?_⟩
  rintro e w7 ⟨v7, rfl, o7, c7⟩
  clear A6
  have k7 := Chg.seq k6 c7
  obtain ⟨W8, hW8⟩ : ∃ W8, w7.alloc (.cells #[.string ⟨#[120]⟩, .string ⟨#[50]⟩] 49) = W8 := ⟨_, rfl⟩
  have c8 : Chg No w7 W8 := by rw [← hW8]; exact (Chg.refl _ w7).alloc _
  have f8 : SlF W8 (.slice (some ⟨w7.heap.size, 0, none⟩) 1 1) [(pX, c50)] := by rw [← hW8]; exact SlF.one w7 (pX, c50)
  have I8 := sameF_in v7 _ [(pX, c50)] [(pX, c50)] _ (o7.sl.no c8) f8 (by simp)
  rw [decide_eq_true rfl] at I8
  have k8 := Chg.seq k7 c8
  clear o7 f8 r6 k6 c7 k7 c8
  gi_wp2_with fail
  refine ⟨trivial, rfl, I8.mono ?_⟩
  rintro e w9 ⟨rfl, c9⟩
  clear I8
  gi_wp2
  go_ret
  exact ⟨rfl, Chg.seq k8 c9⟩
end Go.Proofs.YtakbeololabmhaaGreatDoor

end
section
-- DTab
namespace Go.SeqLib
open Go

/-- A world that parts from w by draws alone. -/
def lastHush (l : List Oper) : List Oper := hush (List.replicate (l.length - 1) none ++ [some undef]) l
def makeHush (m : Nat) (vm : Value) (l : List Oper) : List Oper := hush (List.replicate m none ++ some vm :: List.replicate (l.length - 1 - m - 1) none ++ [some undef]) l

/-- The last one. -/
def lastOp : List Oper → Option Oper
  | [] => none
  | [o] => some o
  | _ :: o :: r => lastOp (o :: r)
theorem lastOp_eq : ∀ {l : List Oper}, lastOp l = l.getLast?
  | [] => rfl
  | [o] => rfl
  | p :: o :: r => by
    rw [List.getLast?_cons_cons]
    exact lastOp_eq (l := o :: r)
theorem last_split {l : List Oper} {o : Oper} (ho : lastOp l = some o) : l = l.dropLast ++ [o] ∧ l.dropLast.length = l.length - 1 := by
  rw [lastOp_eq] at ho
  refine ⟨?_, List.length_dropLast⟩
  have hne : l ≠ [] := by rintro rfl; cases ho
  have := List.dropLast_concat_getLast hne
  rw [List.getLast?_eq_some_getLast hne] at ho
  rw [Option.some.inj ho] at this
  exact this.symm

section
variable {P : Program} {n : Nat}
theorem region_storeR_lit {id r : Nat} {l : List Oper} {o : Oper} {Q : Exit → Act → World → Prop} {a : Act} {w : World} (hm : P.follows .mixedOrders = true) (ho : lastOp l = some o) (hnd : noDefer l.toArray = true) (hs : seesB l.toArray = true) (hk : sinkLast l.toArray (l.length - 1) = true) (hg : o.guard = none)
    (hq : wpQuietIn Fence.wide n P (lastHush l).toArray (fun w' => ∃ n, w' = w.drewN n) (fun a' => ∀ w', (∃ n, w' = w.drewN n) → ∃ w'', (execOp a'.eval o).run P w' = .ok .skip w'' ∧ Q .normal a' w'') (lastHush l) a) :
    (Code.region id l.toArray true).wpIn (Fence.wide.inRound r) n P Q a w := by
  obtain ⟨e, e2⟩ := last_split ho
  generalize l.dropLast = d at e e2
  subst e
  have e3 : (d ++ [o]).length - 1 = d.length := by simp
  unfold lastHush at hq
  rw [e3] at hk hq
  exact region_storeR hm hnd _ hs hk hg ⟨1, rfl⟩ hq
theorem region_store_lit {id : Nat} {l : List Oper} {o : Oper} {Q : Exit → Act → World → Prop} {a : Act} {w : World} (hm : P.follows .mixedOrders = true) (ho : lastOp l = some o) (hs : seesB l.toArray = true) (hk : sinkLast l.toArray (l.length - 1) = true) (hg : o.guard = none)
    (hq : wpQuietIn Fence.wide n P (lastHush l).toArray (fun w' => ∃ n, w' = w.drewN n) (fun a' => ∀ w', (∃ n, w' = w.drewN n) → ∃ w'', (execOp a'.eval o).run P w' = .ok .skip w'' ∧ Q .normal a' w'') (lastHush l) a) :
    (Code.region id l.toArray true).wpIn Fence.wide n P Q a w := by
  obtain ⟨e, e2⟩ := last_split ho
  generalize l.dropLast = d at e e2
  subst e
  have e3 : (d ++ [o]).length - 1 = d.length := by simp
  unfold lastHush at hq
  rw [e3] at hk hq
  exact region_store hm _ hs hk hg ⟨1, rfl⟩ hq

/-- The same of a statement that makes a slice, too: operation m. -/
theorem make_class {w : World} {ob : Obj} : (∀ w', (∃ n, w' = w.drewN n) → ∃ c : After w, w' = c.val) ∧ (∀ w', (∃ n, w' = (w.drewN n).alloc ob) → ∃ c : After w, w' = c.val) :=
  ⟨by rintro w' ⟨k, rfl⟩; exact ⟨⟨_, (show Chg (fun _ => False) w (w.drewN k) from ⟨rfl, rfl, rfl, Nat.le_refl _, fun _ _ _ => rfl⟩)⟩, rfl⟩,
   by rintro w' ⟨k, rfl⟩; exact ⟨⟨_, (show Chg (fun _ => False) w (w.drewN k) from ⟨rfl, rfl, rfl, Nat.le_refl _, fun _ _ _ => rfl⟩).alloc ob⟩, rfl⟩⟩
theorem region_makeR_lit {id r m : Nat} {l : List Oper} {o om : Oper} {vm : Value} {Q : Exit → Act → World → Prop} {a : Act} {w : World} (ob : Obj) (hm : P.follows .mixedOrders = true) (ho : lastOp l = some o) (hmo : l.dropLast[m]? = some om) (hnd : noDefer l.toArray = true) (hs : seesB l.toArray = true) (hk : sinkLast l.toArray (l.length - 1) = true) (hg : o.guard = none) (hgm : om.guard = none)
    (hpl : ((List.range (l.length - 1)).all fun i => i == m || ((l.dropLast[i]?).map plainOp).getD false) = true)
    (hq : wpQuietIn Fence.wide n P (makeHush m vm l).toArray (fun w' => ∃ c : After w, w' = c.val)
      (fun a' => (∀ k, (execOp a'.eval om).run P (w.drewN k) = .ok (.value vm) ((w.drewN k).alloc ob)) ∧ ∀ k, ∃ w'', (execOp a'.eval o).run P ((w.drewN k).alloc ob) = .ok .skip w'' ∧ Q .normal a' w'') (makeHush m vm l) a) :
    (Code.region id l.toArray true).wpIn (Fence.wide.inRound r) n P Q a w := by
  obtain ⟨e, e2⟩ := last_split ho
  have e4 : l.dropLast = l.dropLast := rfl
  generalize hd : l.dropLast = d at e e2 hmo hpl
  subst e
  have e3 : (d ++ [o]).length - 1 = d.length := by simp
  unfold makeHush at hq
  rw [e3] at hk hq hpl
  refine region_makeR (vm := vm) hm hnd (fun w' => ∃ c : After w, w' = c.val) (fun w' => ∃ n, w' = w.drewN n) (fun w' => ∃ n, w' = (w.drewN n).alloc ob) hs hk hg hmo hgm hpl (make_class (ob := ob)).1 make_class.2 ⟨1, rfl⟩ (wpQuietIn_mono ?_ _ _ hq)
  rintro a' ⟨h1, h2⟩
  exact ⟨by rintro w' ⟨k, rfl⟩; exact ⟨_, h1 k, k, rfl⟩, by rintro w' ⟨k, rfl⟩; exact h2 k⟩
theorem region_make_lit {id m : Nat} {l : List Oper} {o om : Oper} {vm : Value} {Q : Exit → Act → World → Prop} {a : Act} {w : World} (ob : Obj) (hm : P.follows .mixedOrders = true) (ho : lastOp l = some o) (hmo : l.dropLast[m]? = some om) (hs : seesB l.toArray = true) (hk : sinkLast l.toArray (l.length - 1) = true) (hg : o.guard = none) (hgm : om.guard = none)
    (hpl : ((List.range (l.length - 1)).all fun i => i == m || ((l.dropLast[i]?).map plainOp).getD false) = true)
    (hq : wpQuietIn Fence.wide n P (makeHush m vm l).toArray (fun w' => ∃ c : After w, w' = c.val)
      (fun a' => (∀ k, (execOp a'.eval om).run P (w.drewN k) = .ok (.value vm) ((w.drewN k).alloc ob)) ∧ ∀ k, ∃ w'', (execOp a'.eval o).run P ((w.drewN k).alloc ob) = .ok .skip w'' ∧ Q .normal a' w'') (makeHush m vm l) a) :
    (Code.region id l.toArray true).wpIn Fence.wide n P Q a w := by
  obtain ⟨e, e2⟩ := last_split ho
  generalize hd : l.dropLast = d at e e2 hmo hpl
  subst e
  have e3 : (d ++ [o]).length - 1 = d.length := by simp
  unfold makeHush at hq
  rw [e3] at hk hq hpl
  refine region_make (vm := vm) hm (fun w' => ∃ c : After w, w' = c.val) (fun w' => ∃ n, w' = w.drewN n) (fun w' => ∃ n, w' = (w.drewN n).alloc ob) hs hk hg hmo hgm hpl (make_class (ob := ob)).1 make_class.2 ⟨1, rfl⟩ (wpQuietIn_mono ?_ _ _ hq)
  rintro a' ⟨h1, h2⟩
  exact ⟨by rintro w' ⟨k, rfl⟩; exact ⟨_, h1 k, k, rfl⟩, by rintro w' ⟨k, rfl⟩; exact h2 k⟩
end
end Go.SeqLib

namespace Go.Proofs.YtakbeololabmhaaGreatDoor
open Go.RowKit Go.Shelf Go.SeqLib Go.DiffLib

/-- A table of n + 1 rows of m + 1 numbers, as far as they are laid: from row lo on. -/
structure Tab (W : World) (G n m lo : Nat) (R : Nat → Nat) (V : Nat → Nat → Int) : Prop where
  outer : W.rowIs G 40 (n + 1) (fun i => if lo ≤ i then .slice (some ⟨R i, 0, none⟩) (m + 1) (m + 1) else .slice none 0 0)
  inner : ∀ i, lo ≤ i → i ≤ n → W.rowIs (R i) 3 (m + 1) (fun j => .int .i64 (V i j))
  inj : ∀ i i', lo ≤ i → i ≤ n → lo ≤ i' → i' ≤ n → R i = R i' → i = i'
  ne : ∀ i, lo ≤ i → i ≤ n → R i ≠ G

def tabB (G n lo : Nat) (R : Nat → Nat) : Blk := fun k => k = G ∨ ∃ i, lo ≤ i ∧ i ≤ n ∧ k = R i

section
variable {W W' : World} {G n m lo : Nat} {R : Nat → Nat} {V V' : Nat → Nat → Int}
theorem Tab.lt (h : Tab W G n m lo R V) : ∀ k, tabB G n lo R k → k < W.heap.size := by
  rintro k (rfl | ⟨i, h1, h2, rfl⟩)
  · exact h.outer.lt
  · exact (h.inner i h1 h2).lt
theorem Tab.kept (h : Tab W G n m lo R V) (hk : ∀ k, tabB G n lo R k → W'.heap[k]? = W.heap[k]?) : Tab W' G n m lo R V :=
  ⟨h.outer.of_block (hk _ (.inl rfl)), fun i h1 h2 => (h.inner i h1 h2).of_block (hk _ (.inr ⟨i, h1, h2, rfl⟩)), h.inj, h.ne⟩
theorem Tab.chg (h : Tab W G n m lo R V) {U : Blk} (c : Chg U W W') (hd : ∀ k, tabB G n lo R k → ¬ U k) : Tab W' G n m lo R V :=
  h.kept (fun k hk => c.block k (h.lt k hk) (hd k hk))
theorem Tab.congr (h : Tab W G n m lo R V) (e : ∀ i j, lo ≤ i → i ≤ n → j ≤ m → V i j = V' i j) : Tab W G n m lo R V' :=
  ⟨h.outer, fun i h1 h2 => (h.inner i h1 h2).congr (fun j hj => by rw [e i j h1 h2 (by omega)]), h.inj, h.ne⟩
theorem Tab.row (h : Tab W G n m lo R V) {i : Nat} (h1 : lo ≤ i) (h2 : i ≤ n) : W.cell? ⟨G, i, none⟩ = some (.slice (some ⟨R i, 0, none⟩) (m + 1) (m + 1)) := by
  have := h.outer.cell (i := i) (by omega)
  simpa [h1] using this
theorem Tab.num (h : Tab W G n m lo R V) {i j : Nat} (h1 : lo ≤ i) (h2 : i ≤ n) (hj : j ≤ m) : W.cell? ⟨R i, j, none⟩ = some (.int .i64 (V i j)) :=
  (h.inner i h1 h2).cell (by omega)
/-- A number is stored. -/
theorem Tab.put (h : Tab W G n m lo R V) {i : Nat} (h1 : lo ≤ i) (h2 : i ≤ n) (j : Nat) (x : Int) :
    Tab (W.setCell ⟨R i, j, none⟩ (.int .i64 x)) G n m lo R (fun i' j' => if i' = i ∧ j' = j then x else V i' j') := by
  refine ⟨h.outer.setOther (fun e => h.ne i h1 h2 e.symm) _, fun i' g1 g2 => ?_, h.inj, h.ne⟩
  by_cases e : i' = i
  · subst e
    refine ((h.inner i' g1 g2).set j (.int .i64 x)).congr (fun k _ => ?_)
    by_cases e2 : k = j
    · simp [e2]
    · simp [e2]
  · refine ((h.inner i' g1 g2).setOther (fun e2 => e (h.inj i' i g1 g2 h1 h2 e2)) _).congr (fun k _ => ?_)
    simp [e]
/-- A row is laid. -/
theorem Tab.new (h : Tab W G n m (lo + 1) R V) (hlo : lo ≤ n) :
    Tab ((W.alloc (.cells (madeCells #[.int .i64 0] (m + 1)) 3)).setCell ⟨G, lo, none⟩ (.slice (some ⟨W.heap.size, 0, none⟩) (m + 1) (m + 1))) G n m lo (fun i => if i = lo then W.heap.size else R i) (fun i j => if i = lo then 0 else V i j) := by
  have hG := h.outer.lt
  have hR : ∀ i, lo + 1 ≤ i → i ≤ n → R i < W.heap.size := fun i h1 h2 => (h.inner i h1 h2).lt
  refine ⟨?_, fun i h1 h2 => ?_, fun i i' h1 h2 h3 h4 e => ?_, fun i h1 h2 => ?_⟩
  · refine ((h.outer.alloc _).set lo _).congr (fun i hi => ?_)
    by_cases e : i = lo
    · subst e; simp
    · have : (lo + 1 ≤ i) = (lo ≤ i) := propext ⟨fun _ => by omega, fun _ => by omega⟩
      simp [e, this]
  · by_cases e : i = lo
    · subst e
      simp only [if_pos]
      exact (World.rowIs_made W (.int .i64 0) (m + 1) 3).setOther (fun e => by simp at e; omega) _
    · simp only [if_neg e]
      exact ((h.inner i (by omega) h2).alloc _).setOther (fun e2 => h.ne i (by omega) h2 e2) _
  · by_cases e1 : i = lo
    · by_cases e2 : i' = lo
      · omega
      · simp only [if_pos e1, if_neg e2] at e
        have := hR i' (by omega) h4
        omega
    · by_cases e2 : i' = lo
      · simp only [if_pos e2, if_neg e1] at e
        have := hR i (by omega) h2
        omega
      · simp only [if_neg e1, if_neg e2] at e
        exact h.inj i i' (by omega) h2 (by omega) h4 e
  · by_cases e1 : i = lo
    · simp only [if_pos e1]; omega
    · simp only [if_neg e1]; exact h.ne i (by omega) h2
/-- A table of no rows yet. -/
theorem Tab.empty (W : World) (n m : Nat) (R : Nat → Nat) (V : Nat → Nat → Int) : Tab (W.alloc (.cells (madeCells #[.slice none 0 0] (n + 1)) 40)) W.heap.size n m (n + 1) R V :=
  ⟨(World.rowIs_made W (.slice none 0 0) (n + 1) 40).congr (fun i hi => by rw [if_neg (by omega)]), fun i h1 h2 => by omega, fun i i' h1 h2 => by omega, fun i h1 h2 => by omega⟩
end

section
variable {α : Type} [DecidableEq α]
/-- What the table holds when row r is filled from place c on. -/
def fillV (a b : List α) (r c : Nat) : Nat → Nat → Int := fun i j => if r < i ∨ (i = r ∧ c ≤ j) then (tl (a.drop i) (b.drop j) : Int) else 0
theorem fillV_old {a b : List α} {r c i : Nat} (j : Nat) (h : r < i) : fillV a b r c i j = (tl (a.drop i) (b.drop j) : Int) := if_pos (.inl h)
theorem fillV_now {a b : List α} {r c j : Nat} (h : c ≤ j) : fillV a b r c r j = (tl (a.drop r) (b.drop j) : Int) := if_pos (.inr ⟨rfl, h⟩)
end

theorem info40 : (Tryz.prog.info? 40).map (fun i => (i.zero, i.size, i.bytes)) = some (some (.slice none 0 0), 1, 24) := by kernel_rfl
theorem makeI (m : Nat) (hm : m ≤ 1000000) (w : World) : (Instr.makeSlice 40 (.int .i64 ((m : Int) + 1)) (.int .i64 ((m : Int) + 1))).run Tryz.prog w = .ok (.slice (some ⟨w.heap.size, 0, none⟩) (m + 1) (m + 1)) (w.alloc (.cells (madeCells #[.int .i64 0] (m + 1)) 3)) :=
  run_make_row' 40 3 (.int .i64 0) 8 Tryz.underlying40 info3 rfl .i64 .i64 (m + 1) (by omega) (by omega) w
theorem makeR (m : Nat) (hm : m ≤ 1000000) (w : World) : (Instr.makeSlice 214 (.int .i64 ((m : Int) + 1)) (.int .i64 ((m : Int) + 1))).run Tryz.prog w = .ok (.slice (some ⟨w.heap.size, 0, none⟩) (m + 1) (m + 1)) (w.alloc (.cells (madeCells #[.slice none 0 0] (m + 1)) 40)) :=
  run_make_row' 214 40 (.slice none 0 0) 24 Tryz.underlying214 info40 rfl .i64 .i64 (m + 1) (by omega) (by omega) w

end Go.Proofs.YtakbeololabmhaaGreatDoor

end
