/-
  slices.Backward at changes keeps an iterator's word; patch's Turn.
-/
import Derived.Test.YtndblaemladppaaDoorCSl
import Derived.Test.YtndblaemladppaaDoorGFile
namespace Go.TreeLib
open Go
def backs (cs : List Chn) : List (Chn × Nat) := cs.zipIdx.reverse
theorem backs_length (cs : List Chn) : (backs cs).length = cs.length := by unfold backs; rw [List.length_reverse, List.length_zipIdx]
theorem backs_succ {cs : List Chn} {j : Nat} (h : j < cs.length) : (backs cs).take (cs.length - j) = (backs cs).take (cs.length - (j + 1)) ++ [(cs[j], j)] := by
  have hl := backs_length cs
  rw [show cs.length - j = cs.length - (j + 1) + 1 by omega, List.take_succ_eq_append_getElem (by omega)]
  congr 2
  unfold backs
  rw [List.getElem_reverse, List.getElem_zipIdx]
  simp only [List.length_zipIdx, Nat.zero_add]
  have e : cs.length - 1 - (cs.length - (j + 1)) = j := by omega
  simp only [e]
theorem backs_turn (cs : List Chn) : (backs cs).map (fun q => turn1 q.1) = turnP cs := by
  unfold backs turnP
  rw [List.map_reverse]
  congr 1
  have : (fun q : Chn × Nat => turn1 q.1) = turn1 ∘ Prod.fst := rfl
  rw [this, ← List.map_map, List.zipIdx_map_fst]
end Go.TreeLib
namespace Go.Proofs.YtndblaemladppaaDoor
open Go.RowKit Go.Shelf Go.SeqLib Go.DiffLib Go.TreeLib
attribute [local go_sem] Oper.semAt_some

/-- A change and its place, as yield takes them. -/
abbrev encB (q : Chn × Nat) : Array Value := #[.int .i64 (q.2 : Int), .agg #[.string q.1.1, .bool q.1.2.1, .bool q.1.2.2.1, .string q.1.2.2.2.1, .string q.1.2.2.2.2]]

set_option maxRecDepth 100000 in
set_option maxHeartbeats 1000000 in
theorem back1 (v : Value) (cs : List Chn) (Bk : Nat) (hD : ¬ slE v cs Bk) :
    Iter Tryd.prog 29 #[.pointer (some ⟨Bk, 0, none⟩)] encB (backs cs) (fun k => k = Bk ∨ slE v cs k) (fun _ => False)
      (fun W => Boxed W Bk 26 v ∧ SlC W v cs) (fun _ W => Boxed W Bk 26 v ∧ SlC W v cs) := {
  sub := fun _ h => h.elim
  lt0 := by
    rintro W ⟨b1, b2⟩ k (rfl | h)
    · exact b1.lt
    · exact b2.lt k h
  kept0 := by
    rintro W W' ⟨b1, b2⟩ _ hk
    exact ⟨(hk _ (.inl rfl)).trans b1, SlE.kept b2 (fun k h => hk k (.inr h))⟩
  kept := by
    rintro pre W W' ⟨b1, b2⟩ _ hk
    exact ⟨(hk _ (.inl rfl)).trans b1, SlE.kept b2 (fun k h => hk k (.inr h))⟩
  runs := by
    intro l J Jx S W pJ pJx hY hI hJ hDS
    obtain ⟨b1, b2⟩ := hI
    obtain ⟨p, cap, rfl, hcap, hmax⟩ := b2.slice
    have hc1 := b1.cell
    have hml : cs.length ≤ 9223372036854775807 := by unfold maxLen at hmax; omega
    have hbl := backs_length cs
    clear hcap hmax
    obtain ⟨n, HN⟩ : ∃ n, Hid (cs.length = n) := ⟨_, rfl⟩
    rw [HN.out] at b1 b2 hml hc1 hbl
    have HBL : Hid ((backs cs).length = n) := hbl
    have hDS' : ∀ k, k = Bk ∨ slE (.slice p n cap) cs k → ¬ S k := by rw [HN.out] at hDS; exact hDS
    rw [HN.out]
    clear hDS hbl
    refine callsIn_of_wp Tryd.func29 rfl trivial ?_
    simp only [Tryd.ntmps29, List.size_toArray, List.length_cons, List.length_nil, Nat.reduceAdd, Nat.reduceSub, Array.replicate_succ, Array.replicate_zero, List.push_toArray, List.append_toArray, List.nil_append, List.cons_append]
    gi_wp2
    gi_loopw [3] (fun i wr => ∃ (j : Nat) (So : Blk), j ≤ n ∧ i = .int .i64 ((j : Int) - 1) ∧ J ((backs cs).take (n - j)) So wr ∧ Chg S W wr ∧ Grew S W So)
      (fun i _ => (intOf i + 1).toNat)
    case atStart => exact ⟨n, S, Nat.le_refl _, rfl, by rw [Nat.sub_self]; exact hJ, Chg.refl _ _, Grew.refl _ _⟩
    case round =>
      obtain ⟨j, So, hk, rfl, hj, c, g⟩ := hrel
      have hfin : ∀ {W9 : World}, Chg S W W9 → Boxed W9 Bk 26 (.slice p n cap) ∧ SlC W9 (.slice p n cap) cs := fun c9 => ⟨c9.boxed b1 (hDS' _ (.inl rfl)), b2.chg c9 (fun k hk => hDS' k (.inr hk))⟩
      cases j with
      | succ j =>
        have hjc : j < cs.length := by rw [HN.out]; exact hk
        have HT : Hid ((backs cs).take (n - j) = (backs cs).take (n - (j + 1)) ++ [(cs[j], j)]) := by
          have := backs_succ hjc
          rw [HN.out] at this
          exact this
        have hpr : (backs cs).take (n - (j + 1)) ++ [(cs[j], j)] <+: backs cs := by rw [← HT.out]; exact List.take_prefix _ _
        obtain ⟨x, hx⟩ : ∃ x, cs[j] = x := ⟨_, rfl⟩
        obtain ⟨b, off, rfl, hw1, hw2, hw3, hw4, hw5⟩ := SlC.at (hfin c).2 j x (by rw [List.getElem?_eq_getElem hjc, hx])
        rw [hx] at HT hpr
        have hcb := (hfin c).1.cell
        clear hx
        obtain ⟨fnr, tmps, assign, body, hy, hR⟩ := hY ((backs cs).take (n - (j + 1))) (x, j) So _ hpr hj
        have e1 : ((j + 1 : Nat) : Int) - 1 = (j : Int) := by omega
        rw [e1]
        have hjz : (j : Int) < (n : Int) := by omega
        have hj0 : (0 : Int) ≤ (j : Int) := by omega
        clear e1
        gi_wp2
        refine ⟨rfl, hR.mono ?_⟩
        rintro e W3 ⟨S3, c3, g3, (⟨rfl, j3⟩ | ⟨rfl, j3⟩)⟩
        · have cc := c.trans c3 g
          have gg := g.trans g3 c.size
          gi_wp2
          go_roundw
          case rel => exact ⟨j, S3, by omega, by go_num, by rw [HT.out]; exact j3, cc, gg⟩
          case measure => simp [intOf]
        · have cc := c.trans c3 g
          have gg := g.trans g3 c.size
          gi_wp2
          refine bodyPost_ret (results_none rfl _ _ _) rfl ?_
          exact ⟨⟨_, rfl⟩, _, S3, .inr ⟨hpr, j3⟩, hfin cc, cc.mono (fun _ => .inr), gg⟩
      | zero =>
        have e1 : ((0 : Nat) : Int) - 1 = -1 := rfl
        rw [e1]
        have hj0 : ¬ (0 : Int) ≤ -1 := by omega
        gi_wp2
        go_end0
        rw [Nat.sub_zero, List.take_of_length_le (by rw [HBL.out]; exact Nat.le_refl _)] at hj
        first | exact ⟨⟨_, rfl⟩, _, So, .inl ⟨rfl, hj⟩, hfin c, c.mono (fun _ h => .inr h), g⟩ | exact ⟨⟨_, rfl⟩, _, So, .inl ⟨rfl, hj⟩, hfin c, c, g⟩ }

set_option maxHeartbeats 1000000 in
theorem backward_in (v : Value) (cs : List Chn) (w : World) (hv : SlC w v cs) : CallsIn Fence.wide 0 Tryd.prog 20 #[v] w fun e w' =>
    e = .returned (.func (.func 29) #[] #[.pointer (some ⟨w.heap.size, 0, none⟩)]) ∧ w' = w.alloc (.cells #[v] 26) := by
  obtain ⟨p, cap, rfl, _, _⟩ := hv.slice
  refine callsIn_of_wp Tryd.func20 rfl trivial ?_
  simp only [Tryd.ntmps20, List.size_toArray, List.length_cons, List.length_nil, Nat.reduceAdd, Nat.reduceSub, Array.replicate_succ, Array.replicate_zero, List.push_toArray, List.append_toArray, List.nil_append, List.cons_append]
  gi_wp2
  go_ret
  exact ⟨rfl, rfl⟩

/-- A box that holds a list of changes which owns them. -/
def BoxC (B base : Nat) (zs : List Chn) : Blk → World → Prop := fun S W => ∃ v, S = (fun k => k = B ∨ v.ownBlock = some k) ∧ Boxed W B 26 v ∧ OwnC 33 W base v zs
theorem BoxC.part (B base : Nat) (zs : List Chn) : Part (BoxC B base zs) := {
  lt := by
    rintro S W ⟨v, rfl, hb, hr⟩ k (rfl | h)
    · exact hb.lt
    · exact (World.ownsRow.lt hr k h).2
  kept := by
    rintro S W W' ⟨v, rfl, hb, hr⟩ _ hk
    exact ⟨v, rfl, (hk _ (.inl rfl)).trans hb, OwnC.kept hr (fun k h => hk k (.inr h))⟩ }
/-- One more is appended. -/
theorem BoxC.step {W w1 : World} {B base : Nat} {v v' : Value} {zs : List Chn} {x : Chn} {tmp : Obj} (hv : Boxed W B 26 v) (hrow : OwnC 33 W base v zs)
    (hown' : OwnC 33 w1 base v' (zs ++ [x])) (hgrow : (W.alloc tmp).grownBy w1 v.ownBlock) (hat : v'.ownBlock = v.ownBlock ∨ v'.ownBlock = some (W.alloc tmp).heap.size) :
    Boxed w1 B 26 v ∧ Boxed (w1.setCell ⟨B, 0, none⟩ v') B 26 v' ∧ OwnC 33 (w1.setCell ⟨B, 0, none⟩ v') base v' (zs ++ [x]) ∧
      Chg (fun k => k = B ∨ v.ownBlock = some k) W (w1.setCell ⟨B, 0, none⟩ v') ∧ Grew (fun k => k = B ∨ v.ownBlock = some k) W (fun k => k = B ∨ v'.ownBlock = some k) := by
  have hte : (26 : TypeId) ≠ 33 := by decide
  have hv1 : Boxed w1 B 26 v := (hv.alloc tmp).kept hgrow (hv.not_row hte hrow)
  refine ⟨hv1, hv1.set v', ?_, ?_, ?_⟩
  · exact World.ownsRow.kept hown' (grownBy_setCell' w1 B v') (.inr (hv1.not_row hte hown').symm)
  · exact (((Chg.refl _ W).alloc tmp).grown hgrow (fun k e => .inl (.inr e))).setCell (p := ⟨B, 0, none⟩) (.inl (.inl rfl)) v'
  · rintro k (h | h)
    · exact .inl (.inl h)
    · rcases hat with h' | h'
      · exact .inl (.inr (h'.symm.trans h))
      · rw [h'] at h; simp at h; exact .inr (by omega)

set_option maxRecDepth 100000 in
set_option maxHeartbeats 1000000 in
theorem turn_in (v : Value) (cs : List Chn) (hlen : cs.length ≤ 50000) (w : World) (hv : SlC w v cs) : CallsIn Fence.wide 0 Tryd.prog 11 #[v] w fun e w' =>
    ∃ v', e = .returned v' ∧ OwnC 33 w' w.heap.size v' (turnP cs) ∧ Chg No w w' := by
  obtain ⟨i0, hi, hz0, hz1, hz2⟩ := info_parts isC33.2
  obtain ⟨pu, ku, rfl, _, _⟩ := hv.slice
  obtain ⟨n, HN⟩ : ∃ n, Hid (cs.length = n) := ⟨_, rfl⟩
  have HB : Hid ((backs cs).length = n) := (backs_length cs).trans HN.out
  rw [HN.out] at hlen hv ⊢
  rw [← backs_turn]
  refine callsIn_of_wp_marks Tryd.func11 rfl trivial ?_
  simp only [Tryd.ntmps11, List.size_toArray, List.length_cons, List.length_nil, Nat.reduceAdd, Nat.reduceSub, Array.replicate_succ, Array.replicate_zero, List.push_toArray, List.append_toArray, List.nil_append, List.cons_append]
  gi_wp2_with (gi_at_make; refine wpListIn_make_own _ rfl _ _ 26 rfl w.heap.size 33 i0 zC 5 isC33.1 hi hz0 hz1 .i64 .i64 (n : Int) n rfl rfl (by omega) (by rw [hz2]; omega) (by unfold maxLen; omega) (Nat.le_refl _) ?_; intro w1 hown1 hgrow1; have c1 : Chg No w w1 := (Chg.refl _ w).grown hgrow1 (fun k e => by cases e))
  have hv1 := hv.no c1
  have bO := Boxed.new w1 26 (.slice (some ⟨w.heap.size, 0, none⟩) 0 n)
  have hown2 : OwnC 33 (w1.alloc (.cells #[.slice (some ⟨w.heap.size, 0, none⟩) 0 n] 26)) w.heap.size (.slice (some ⟨w.heap.size, 0, none⟩) 0 n) [] := World.ownsRow.alloc hown1 _
  have ca : Chg No w1 (w1.alloc (.cells #[.slice (some ⟨w.heap.size, 0, none⟩) 0 n] 26)) := (Chg.refl _ w1).alloc _
  have BW := backward_in (.slice pu n ku) cs _ (hv1.no ca)
  rw [World.size_alloc] at BW
  have hs1 := c1.size
  have hgh : w.heap.size < w1.heap.size := (World.ownsRow.lt hown1 w.heap.size rfl).2
  have hvl := hv.lt
  refine ⟨trivial, rfl, BW.mono ?_⟩
  rintro e w2 ⟨rfl, rfl⟩
  have b1 := bO.alloc (.cells #[.slice pu n ku] 26)
  have hown3 : OwnC 33 ((w1.alloc (.cells #[.slice (some ⟨w.heap.size, 0, none⟩) 0 n] 26)).alloc (.cells #[.slice pu n ku] 26)) w.heap.size (.slice (some ⟨w.heap.size, 0, none⟩) 0 n) [] := World.ownsRow.alloc hown2 _
  have b2 := Boxed.new (w1.alloc (.cells #[.slice (some ⟨w.heap.size, 0, none⟩) 0 n] 26)) 26 (.slice pu n ku)
  rw [World.size_alloc] at b2
  have c2 : Chg No w ((w1.alloc (.cells #[.slice (some ⟨w.heap.size, 0, none⟩) 0 n] 26)).alloc (.cells #[.slice pu n ku] 26)) := (Chg.seq c1 ca).alloc _
  have hI := hv.no c2
  have hz2' : ((w1.alloc (.cells #[.slice (some ⟨w.heap.size, 0, none⟩) 0 n] 26)).alloc (.cells #[.slice pu n ku] 26)).heap.size = w1.heap.size + 2 := by rw [World.size_alloc, World.size_alloc]
  generalize (w1.alloc (.cells #[.slice (some ⟨w.heap.size, 0, none⟩) 0 n] 26)).alloc (.cells #[.slice pu n ku] 26) = w3 at *
  have it := back1 (.slice pu n ku) cs (w1.heap.size + 1) (fun h => by have := hvl _ h; omega)
  clear hown1 hown2 bO ca BW hv1 hv hgrow1 c1
  generalize w1.heap.size = B at *
  gi_wp2
  refine wpIn_rangeX (gf := 29) (lb := #[.pointer (some ⟨B + 1, 0, none⟩)]) rfl (enters_of Tryd.func29 (by kernel_rfl) rfl) it (fun _ => rfl)
    (fun (pre : List (Chn × Nat)) S W => BoxC B w.heap.size (pre.map (fun q => turn1 q.1)) S W ∧ w.heap.size ≤ W.heap.size) (fun _ _ _ _ => False) (fun (pre : List (Chn × Nat)) => ⟨fun h => (BoxC.part B w.heap.size (pre.map (fun q => turn1 q.1))).lt h.1, fun h hs hk => ⟨(BoxC.part B w.heap.size (pre.map (fun q => turn1 q.1))).kept h.1 hs hk, Nat.le_trans h.2 hs⟩⟩) (fun _ _ => Part.false)
    (S := fun k => k = B ∨ Value.ownBlock (.slice (some ⟨w.heap.size, 0, none⟩) 0 n) = some k) ⟨b2, hI⟩ ⟨⟨_, rfl, b1, hown3⟩, c2.size⟩
    (fun k hk h => by
      rcases hk with hk | hk
      · subst hk
        rcases h with h | h
        · omega
        · simp [Value.ownBlock] at h; omega
      · have := hvl k hk
        rcases h with h | h
        · omega
        · simp [Value.ownBlock] at h; omega)
    (fun x X => { tmps := #[.slice pu n ku, undef, .slice none 0 0, .pointer (some ⟨B, 0, none⟩), undef, .pointer (some ⟨X, 0, none⟩), .slice pu n ku, .int .i64 (n : Int), .slice (some ⟨w.heap.size, 0, none⟩) 0 n, .slice pu n ku, .func (.func 29) #[] #[.pointer (some ⟨B + 1, 0, none⟩)], .int .i64 (x.2 : Int), .agg #[.string x.1.1, .bool x.1.2.1, .bool x.1.2.2.1, .string x.1.2.2.2.1, .string x.1.2.2.2.2], undef, undef, undef, undef, undef, undef, undef, undef, undef, undef, undef, undef, undef, undef, undef], defers := [] }) (fun x => .cells #[.string x.1.1, .bool x.1.2.1, .bool x.1.2.2.1, .string x.1.2.2.2.1, .string x.1.2.2.2.2] 33) ?assign ?body ?done ?stop
  case assign =>
    intro l x W K hK
    gi_wp2
    exact hK
  case body =>
    rintro lr pre x S2 W X hpre ⟨⟨v, rfl, hv, hrow⟩, hsz⟩ hX hXS _
    obtain ⟨⟨p, q1, q2, od, nw⟩, i⟩ := x
    dsimp only at hX
    have x1 : W.cell? ⟨X, 0, none⟩ = some (.string p) := by simp [World.cell?, hX]
    have x2 : W.cell? ⟨X, 1, none⟩ = some (.bool q1) := by simp [World.cell?, hX]
    have x3 : W.cell? ⟨X, 2, none⟩ = some (.bool q2) := by simp [World.cell?, hX]
    have x4 : W.cell? ⟨X, 3, none⟩ = some (.string od) := by simp [World.cell?, hX]
    have x5 : W.cell? ⟨X, 4, none⟩ = some (.string nw) := by simp [World.cell?, hX]
    have hc := hv.cell
    have hpl : (pre.map (fun q : Chn × Nat => turn1 q.1)).length + 1 ≤ 100000 := by have := hpre.length_le; rw [HB.out] at this; simp at this ⊢; omega
    have hqq : (pre ++ [((p, q1, q2, od, nw), i)]).map (fun q : Chn × Nat => turn1 q.1) = pre.map (fun q => turn1 q.1) ++ [(p, q2, q1, nw, od)] := by
      rw [List.map_append]
      rfl
    obtain ⟨q, HQ0⟩ : ∃ q, Hid ((pre ++ [((p, q1, q2, od, nw), i)]).map (fun q : Chn × Nat => turn1 q.1) = q) := ⟨_, rfl⟩
    rw [HQ0.out] at hqq
    have HQ1 : Hid (q = pre.map (fun q : Chn × Nat => turn1 q.1) ++ [(p, q2, q1, nw, od)]) := hqq
    clear hqq
    have hsl := SlC.one 33 W (p, q2, q1, nw, od)
    generalize pre.map (fun q : Chn × Nat => turn1 q.1) = ds at *
    clear hX
    have HQ : Hid (ds ++ [(p, q2, q1, nw, od)] = q) := HQ1.out.symm
    gi_wp2_with (gi_at_builtin; refine wpListIn_append_sc isC33 _ rfl _ _ rfl w.heap.size _ ds rfl (World.ownsRow.alloc hrow _) (some ⟨W.heap.size, 0, none⟩) 1 1 [(p, q2, q1, nw, od)] rfl hsl (by omega) (by simp; omega) ?_; intro v' w4 hown' hgrow hat; rw [HQ.out] at hown'; obtain ⟨p', cap', rfl⟩ := hown'.slice; obtain ⟨hv1, hv2, hr2, hcg, hgw⟩ := BoxC.step (x := (p, q2, q1, nw, od)) hv hrow (by rw [HQ.out]; exact hown') hgrow hat; have hc1 := hv1.cell; have hf1 := hv1.frozen)
    refine ⟨_, hcg, hgw, ⟨⟨_, rfl, hv2, by rw [HQ0.out]; have h := hr2; rw [HQ.out] at h; exact h⟩, Nat.le_trans hsz hcg.size⟩⟩
  case done =>
    rintro d S' W hd ⟨⟨v, rfl, hv, hrow⟩, hsz⟩ hI' hc hg hK hnd
    have hcl := hv.cell
    gi_wp2
    refine ⟨by simp, .inl ⟨_, _, rfl, run_takeDeferred hK, ?_⟩⟩
    refine ⟨_, results_tmp rfl _ _ _, v, rfl, ownsRow_putObj hrow (.deferred none) hK rfl, ?_⟩
    refine (c2.trans hc ?_).trans ((Chg.put1 W d _).mono (S' := fun k => w.heap.size ≤ k) (fun k h => by omega)) (fun k h => .inr h)
    rintro k (h | h | h)
    · exact h.elim
    · exact .inr (by omega)
    · simp [Value.ownBlock] at h; exact .inr (by omega)
  case stop =>
    rintro d c pre S' W _ _ h
    exact h.elim

end Go.Proofs.YtndblaemladppaaDoor
