/-
  Of: RRefE, RBaseW, RBestW.
-/
import Derived.Test.YtakbeololabmhaaGreatDoorG10
import Derived.Test.YtakbeololabmhaaGreatDoorG12
import Derived.Sort.CutIn
import Derived.Sort.QuietThIn
import Derived.Shelf.RegionOpen
section
-- RRefE
namespace Go.DagLib
open Go.RepoLib
/-- A row of marks, by a function. -/
def bl (M : Nat) (f : Nat → Bool) : List Value := (List.range M).map (fun j => Value.bool (f j))
theorem bl_length (M : Nat) (f : Nat → Bool) : (bl M f).length = M := by unfold bl; rw [List.length_map, List.length_range]
theorem bl_get {M : Nat} {f : Nat → Bool} {j : Nat} (h : j < M) : (bl M f)[j]? = some (.bool (f j)) := by
  unfold bl
  rw [List.getElem?_map, List.getElem?_range h]
  rfl
theorem bl_congr {M : Nat} {f g : Nat → Bool} (h : ∀ j, j < M → f j = g j) : bl M f = bl M g := by
  unfold bl
  exact List.map_congr_left (fun j hj => by rw [h j (List.mem_range.1 hj)])
theorem bl_set {M : Nat} {f g : Nat → Bool} {p : Nat} {b : Bool} (h : ∀ j, j < M → g j = if j = p then b else f j) : (bl M f).set p (.bool b) = bl M g := by
  refine List.ext_getElem? fun j => ?_
  rw [List.getElem?_set]
  by_cases hj : j < M
  · rw [bl_get hj, bl_get hj, h j hj]
    by_cases e : p = j
    · rw [if_pos e, if_pos (by rw [bl_length]; omega), if_pos e.symm]
    · rw [if_neg e, if_neg (fun x => e x.symm)]
  · have h1 : (bl M f)[j]? = none := by rw [List.getElem?_eq_none_iff, bl_length]; omega
    have h2 : (bl M g)[j]? = none := by rw [List.getElem?_eq_none_iff, bl_length]; omega
    rw [h1, h2]
    by_cases e : p = j
    · rw [if_pos e, if_neg (by rw [bl_length]; omega)]
    · rw [if_neg e]
end Go.DagLib
namespace Go.Proofs.YtakbeololabmhaaGreatDoor
open Go.RowKit Go.Shelf Go.SeqLib Go.DiffLib Go.TreeLib Go.RepoLib Go.DagLib Go.BigFrame
attribute [local go_sem] Oper.semAt_some

theorem infoBool : (Tryz.prog.info? 4).map (fun i => (i.zero, i.size, i.bytes)) = some (some (.bool false), 1, 1) := by kernel_rfl
theorem makeB (m : Nat) (hm : m ≤ 1000000) (w : World) : (Instr.makeSlice 84 (.int .i64 ((m : Int) + 1)) (.int .i64 ((m : Int) + 1))).run Tryz.prog w = .ok (.slice (some ⟨w.heap.size, 0, none⟩) (m + 1) (m + 1)) (w.alloc (.cells (madeCells #[.bool false] (m + 1)) 4)) :=
  run_make_row' 84 4 (.bool false) 1 Tryz.underlying84 infoBool rfl .i64 .i64 (m + 1) (by omega) (by omega) w
/-- A row of marks in a block of its own. -/
abbrev OwnB (W : World) (base G M : Nat) (f : Nat → Bool) : Prop := W.ownsRow base 4 1 (.slice (some ⟨G, 0, none⟩) M M) M (bl M f)
theorem madeB (w : World) (M : Nat) (hn : M ≤ 1000000) : OwnB (w.alloc (.cells (madeCells #[.bool false] M) 4)) w.heap.size w.heap.size M (fun _ => false) := by
  refine ⟨by rw [bl_length]; omega, .inr ⟨w.heap.size, M, madeCells #[.bool false] M, rfl, Nat.le_refl _, World.alloc_heap_new w _, Nat.le_refl _, by unfold maxLen; omega, by rw [size_madeCells]; omega, ?_⟩⟩
  refine List.ext_getElem? fun i => ?_
  rw [List.getElem?_take, Nat.mul_one]
  by_cases h : i < M
  · rw [bl_get h]
    simp [h, madeCells, Nat.mod_one]
  · have : (bl M (fun _ => false))[i]? = none := by rw [List.getElem?_eq_none_iff, bl_length]; omega
    rw [this, if_neg h]
theorem OwnB.get {W : World} {base G M : Nat} {f : Nat → Bool} (h : OwnB W base G M f) {j : Nat} (hj : j < M) : W.cell? ⟨G, j, none⟩ = some (.bool (f j)) := by
  have hs : SlV W (.slice (some ⟨G, 0, none⟩) M M) (bl M f) := SlV.ofRow (by rw [bl_length]; exact h)
  obtain ⟨b, off, e, hc⟩ := hs.get1 (bl_get hj)
  cases e
  simpa using hc
theorem set_cellsB {W : World} {g : Nat} {cur : Array Value} {ty : TypeId} {fr : Nat × Nat} (hg : W.heap[g]? = some (.cells cur ty fr)) (k : Nat) (u : Value) : (W.setCell ⟨g, k, none⟩ u).heap[g]? = some (.cells (cur.setIfInBounds k u) ty fr) := by
  obtain ⟨hlt, hk⟩ := Array.getElem?_eq_some_iff.1 hg
  show (W.heap.modify g _)[g]? = _
  rw [Array.getElem?_eq_getElem (by rw [Array.size_modify]; exact hlt), Array.getElem_modify_self, hk]
  rfl
theorem row_setB {W : World} {base : Nat} {e : TypeId} {g n cap : Nat} {xs : List Value} (h : W.ownsRow base e 1 (.slice (some ⟨g, 0, none⟩) n cap) n xs) {j : Nat} (hj : j < n) (u : Value) :
    (∃ x, W.cell? ⟨g, j, none⟩ = some x) ∧ W.frozen? ⟨g, j, none⟩ = false ∧ (W.setCell ⟨g, j, none⟩ u).ownsRow base e 1 (.slice (some ⟨g, 0, none⟩) n cap) n (xs.set j u) := by
  obtain ⟨h1, h2⟩ := h
  rcases h2 with ⟨h2, _⟩ | ⟨g', cap', cur, hv, hb, hg, hn, hm, hs, ht⟩
  · cases h2
  · cases hv
    have hjs : j < cur.size := by omega
    refine ⟨⟨cur[j], by simp [World.cell?, hg, hjs]⟩, by simp [World.frozen?, hg], ⟨by simpa using h1, .inr ⟨g, cap, cur.setIfInBounds j u, rfl, hb, set_cellsB hg j u, hn, hm, by simpa using hs, ?_⟩⟩⟩
    rw [← ht, Nat.mul_one]
    refine List.ext_getElem? fun i => ?_
    simp only [List.getElem?_take, Array.getElem?_toList, Array.getElem?_setIfInBounds, List.getElem?_set, List.length_take, Array.length_toList]
    by_cases e1 : j = i
    · subst e1
      have : j < min n cur.size := by omega
      simp [hj, hjs, this]
    · simp [e1]

theorem OwnB.set {W : World} {base G M : Nat} {f g : Nat → Bool} (h : OwnB W base G M f) {p : Nat} {b : Bool} (hp : p < M) (hg : ∀ j, j < M → g j = if j = p then b else f j) :
    (∃ x, W.cell? ⟨G, p, none⟩ = some x) ∧ W.frozen? ⟨G, p, none⟩ = false ∧ OwnB (W.setCell ⟨G, p, none⟩ (.bool b)) base G M g := by
  obtain ⟨hx, hf, hr⟩ := row_setB h hp (.bool b)
  rw [bl_set hg] at hr
  exact ⟨hx, hf, hr⟩

set_option maxRecDepth 100000 in
set_option maxHeartbeats 8000000 in
theorem refAhead_in (B : Nat) (s : Rp) (lv : Value) (rows : List Rw) (n : Int) (w : World) (h : RefVw B s lv rows w) (hp : ParOk s.1) (hl : s.1.length ≤ 1000) :
    CallsIn Fence.wide 0 Tryz.prog 50 #[ptr B, iv n] w fun e w' => ∃ v, e = .returned v ∧ OwnI w' w.heap.size v (aheadI s.1 n) ∧ Chg No w w' := by
  have H1 := vwHas_in B s lv rows n w h
  obtain ⟨pv, kv, rfl⟩ := h.slice
  obtain ⟨N, hN⟩ : ∃ N, s.1.length = N := ⟨_, rfl⟩
  have HN : Hid (s.1.length = N) := hN
  have HP : Hid (ParOk s.1) := hp
  have HL : Hid (Low (parL s.1)) := hp.low
  rw [hN] at hl h H1
  clear hN hp
  have HF : Hid (aheadI s.1 n = if hasN N n = true then (aheadL (parL s.1) n.toNat).map (fun (p : Nat) => (p : Int)) else []) := by show _ = _; unfold aheadI; rw [HN.out]
  obtain ⟨F, hF⟩ : ∃ F, aheadI s.1 n = F := ⟨_, rfl⟩
  rw [hF] at HF ⊢
  clear hF
  refine callsIn_of_wp Tryz.func50 rfl trivial ?_
  simp only [Tryz.ntmps50, List.size_toArray, List.length_cons, List.length_nil, Nat.reduceAdd, Nat.reduceSub, Array.replicate_succ, Array.replicate_zero, List.push_toArray, List.append_toArray, List.nil_append, List.cons_append]
  cases hh : hasN N n with
  | false =>
    have HF2 : Hid (F = []) := by show _ = _; rw [HF.out, hh]; rfl
    rw [hh] at H1
    gi_wp2_with fail
    refine ⟨trivial, rfl, H1.mono ?_⟩
    rintro e w1 ⟨rfl, rfl⟩
    gi_wp2
    go_ret
    exact ⟨_, rfl, by rw [HF2.out]; exact World.ownsRow_nil _ _ _ _, Chg.refl _ _⟩
  | true =>
    obtain ⟨m, rfl⟩ : ∃ m : Nat, n = (m : Int) := by
      unfold hasN at hh
      rw [Bool.and_eq_true, decide_eq_true_eq, decide_eq_true_eq] at hh
      exact ⟨n.toNat, by omega⟩
    have hm1 : 1 ≤ m ∧ m ≤ N := by
      unfold hasN at hh
      rw [Bool.and_eq_true, decide_eq_true_eq, decide_eq_true_eq] at hh
      omega
    have HF2 : Hid (F = (aheadL (parL s.1) m).map (fun (p : Nat) => (p : Int))) := by
      show _ = _
      rw [HF.out, hh, if_pos rfl]
      rfl
    rw [hh] at H1
    clear hh HF
    gi_wp2_with fail
    refine ⟨trivial, rfl, H1.mono ?_⟩
    rintro e w1 ⟨rfl, rfl⟩
    have hmk := fun W => makeB N (by omega) W
    have hB0 := madeB w1 (N + 1) (by omega)
    have c0 : Chg No w1 (w1.alloc (.cells (madeCells #[.bool false] (N + 1)) 4)) := (Chg.refl _ w1).alloc _
    obtain ⟨t0, _, _, _⟩ := h.cells
    obtain ⟨⟨x0, hx0⟩, hf0, hB1⟩ := hB0.set (p := m) (b := true) (g := markA (parL s.1) m m) (by omega) (fun j _ => by
      rw [mark_start]
      by_cases e : j = m
      · rw [if_pos e, e]; simp
      · rw [if_neg e]; simp [e])
    have c1 := c0.setCell (p := ⟨w1.heap.size, m, none⟩) (.inr (Nat.le_refl _)) (.bool true)
    rw [World.setCell_alloc_new] at hB1 c1
    have hmN : (m : Int) < (N : Int) + 1 := by omega
    gi_wp2
    gi_loopw [6, 7] (fun s6 s7 wr => ∃ k : Nat, k ≤ m ∧ s7 = .int .i64 (k : Int) ∧ OwnI wr w1.heap.size s6 ((outA (parL s.1) m k).map (fun (p : Nat) => (p : Int))) ∧ OwnB wr w1.heap.size w1.heap.size (N + 1) (markA (parL s.1) m k) ∧ Chg No w1 wr) (fun _ s7 _ => (intOf s7).toNat)
    case atStart => exact ⟨m, Nat.le_refl _, rfl, by rw [out_start]; exact World.ownsRow_nil _ _ _ _, hB1, c1⟩
    case round =>
      obtain ⟨k, hk, rfl, hown, hB, c⟩ := hrel
      clear hB1 c1 hB0 c0 hx0 hf0 hmk
      by_cases hk0 : 1 ≤ k
      · obtain ⟨i, rfl⟩ : ∃ i, k = i + 1 := ⟨k - 1, by omega⟩
        have hiN : i < N := by omega
        have hget := hB.get (j := i + 1) (by omega)
        rw [mark_is HL.out (by omega)] at hget
        have hkN : (i : Int) + 1 < (N : Int) + 1 := by omega
        cases his : isA (parL s.1) (i + 1) m with
        | false =>
          rw [his] at hget
          have HO : Hid (outA (parL s.1) m i = outA (parL s.1) m (i + 1)) := by
            have h0 := out_step (par := parL s.1) (n := m) (k := i + 1) (by omega) hk
            rw [his, if_neg (by decide), Nat.add_sub_cancel] at h0
            exact h0
          have HM : Hid (bl (N + 1) (markA (parL s.1) m i) = bl (N + 1) (markA (parL s.1) m (i + 1))) := bl_congr (fun j _ => by
            have h0 := mark_step (par := parL s.1) (n := m) (k := i + 1) (j := j) (by omega) hk
            rw [his, Bool.false_and, Bool.or_false, Nat.add_sub_cancel] at h0
            exact h0)
          gi_wp2
          refine ⟨⟨i, by omega, rfl, by rw [HO.out]; exact hown, by show World.ownsRow _ _ _ _ _ _ _; rw [HM.out]; exact hB, c⟩, by simp [intOf]⟩
        | true =>
          rw [his] at hget
          obtain ⟨x, hx⟩ : ∃ x, s.1[i]? = some x := ⟨_, List.getElem?_eq_getElem (by rw [HN.out]; exact hiN)⟩
          have HPk : Hid (∀ p ∈ x.1, 1 ≤ p ∧ p ≤ (i : Int)) := HP.out i x hx
          have HMem : Hid (∀ j : Nat, decide (j ∈ parL (s.1) (i + 1)) = decide ((j : Int) ∈ x.1)) := fun j => by
            rw [← HP.out.cast hx]
            by_cases e : j ∈ parL s.1 (i + 1)
            · rw [decide_eq_true e, decide_eq_true (List.mem_map.2 ⟨j, e, rfl⟩)]
            · rw [decide_eq_false e, decide_eq_false (fun h => by
                obtain ⟨q, hq, e2⟩ := List.mem_map.1 h
                obtain rfl : q = j := Int.ofNat.inj e2
                exact e hq)]
          obtain ⟨⟨r1, r2, r3⟩, b1, o1, hrow, rfl, _, _, _, hcm0⟩ := h.cell hx
          obtain ⟨pp, pn, pk, _, _, _, e0, hpv, _⟩ := hcm0
          dsimp only at e0
          cases e0
          obtain rfl : pn = x.1.length := by obtain ⟨_, _, e, _⟩ := hpv; cases e; simp
          have HC : Hid (∀ W, Chg No w1 W → W.cell? ⟨B, 0, none⟩ = some (.slice (some ⟨b1, o1, none⟩) N kv) ∧ W.cell? ⟨b1, o1 + i * 3, none⟩ = some (.slice pp x.1.length pk) ∧ SlV W (.slice pp x.1.length pk) (x.1.map iv)) := fun W cW => by
            have hW := h.no cW
            obtain ⟨r', b', o', hr', e', g1, _, _, g4⟩ := hW.cell hx
            rw [hrow] at hr'
            cases hr'
            cases e'
            exact ⟨hW.cells.1, g1, hpv.no cW⟩
          obtain ⟨lx, hlx⟩ : ∃ lx, x.1.length = lx := ⟨_, rfl⟩
          have HLx : Hid (x.1.length = lx) := hlx
          rw [hlx] at HC
          have hmx : lx ≤ 9223372036854775807 := by
            obtain ⟨_, _, e, h1, h2, _⟩ := hpv
            rw [List.length_map] at h1
            unfold maxLen at h2
            omega
          have hap := row_apart2 (by decide) hown hB
          obtain ⟨q5, k5, rfl⟩ := row_slice hown
          have HLow : Hid (∀ j, Value.ownBlock (.slice q5 ((outA (parL s.1) m (i + 1)).map (fun (p : Nat) => (p : Int))).length k5) = some j → w1.heap.size ≤ j ∧ ¬ j = w1.heap.size) := fun j e => ⟨(World.ownsRow.lt hown j e).1, fun e2 => hap j e (by rw [e2]; rfl)⟩
          obtain ⟨ln, hln⟩ : ∃ ln, ((outA (parL s.1) m (i + 1)).map (fun (p : Nat) => (p : Int))).length = ln := ⟨_, rfl⟩
          have HLn : Hid ((outA (parL s.1) m (i + 1)).length = ln) := by show _ = _; rw [← hln, List.length_map]
          have hlnN : ln ≤ N := by
            rw [← HLn.out]
            unfold outA
            refine Nat.le_trans (List.length_filter_le _ _) ?_
            rw [List.length_take]
            omega
          have hown2 : wr.ownsRow w1.heap.size 3 1 (.slice q5 ln k5) ln (((outA (parL s.1) m (i + 1)).map (fun (p : Nat) => (p : Int))).map iv) := by rw [← hln]; exact hown
          rw [hln] at HLow ⊢
          clear hln hlx hpv hap hown
          have hsl : SlV (wr.alloc (.cells #[.int .i64 ((i : Int) + 1)] 3)) (.slice (some ⟨wr.heap.size, 0, none⟩) 1 1) ([((i : Int) + 1)].map iv) := SlV.made wr [.int .i64 ((i : Int) + 1)] 3 (by simp)
          have oA := World.ownsRow.alloc hown2 (.cells #[.int .i64 ((i : Int) + 1)] 3)
          have hcA := (Chg.refl (fun q => Value.ownBlock (.slice q5 ln k5) = some q) wr).alloc (.cells #[.int .i64 ((i : Int) + 1)] 3)
          have cA : Chg No w1 (wr.alloc (.cells #[.int .i64 ((i : Int) + 1)] 3)) := c.alloc _
          have hbs := cA.size
          have HG5 : Hid (∀ (W5 : World), (wr.alloc (.cells #[.int .i64 ((i : Int) + 1)] 3)).grownBy W5 (Value.slice q5 ln k5).ownBlock → Chg No w1 W5 ∧ OwnB W5 w1.heap.size w1.heap.size (N + 1) (markA (parL s.1) m (i + 1))) := fun W5 hg =>
            ⟨cA.grown hg (fun j e => .inr (HLow.out j e).1), by
              have c5 := hcA.grown hg (fun j e => .inl e)
              exact row_kept hB (fun j e => c5.block j (World.ownsRow.lt hB j e).2 (fun e2 => (HLow.out j e2).2 (by cases e; rfl)))⟩
          have HLt : Hid (w1.heap.size < wr.heap.size) := (World.ownsRow.lt hB w1.heap.size rfl).2
          clear hown2 c cA hB hcA
          gi_wp2_with (gi_at_builtin; refine wpListIn_append_i _ rfl _ _ rfl w1.heap.size _ _ _ rfl oA (some ⟨wr.heap.size, 0, none⟩) 1 1 [((i : Int) + 1)] rfl hsl (by omega) hbs ?_; intro v5 w5 hown5 hgrow5 hat5; obtain ⟨c05, hB5⟩ := HG5.out w5 hgrow5; obtain ⟨z1, z2, z3⟩ := HC.out w5 c05)
          have HO : Hid (w5.ownsRow w1.heap.size 3 1 v5 (ln + 1) (((outA (parL s.1) m i).map (fun (p : Nat) => (p : Int))).map iv)) := by
            have h0 := out_step (par := parL s.1) (n := m) (k := i + 1) (by omega) hk
            rw [his, if_pos rfl, Nat.add_sub_cancel] at h0
            show World.ownsRow _ _ _ _ _ _ _
            rw [h0, List.map_append, List.map_append]
            exact hown5
          have HO2 : Hid ((outA (parL s.1) m i).length = ln + 1) := by
            have h0 := out_step (par := parL s.1) (n := m) (k := i + 1) (by omega) hk
            rw [his, if_pos rfl, Nat.add_sub_cancel] at h0
            show _ = _
            rw [h0, List.length_append, HLn.out]
            rfl
          have HApart : Hid (∀ k, v5.ownBlock = some k → ¬ k = w1.heap.size) := fun k e e2 => row_apart2 (by decide) hown5 hB5 k e (by rw [e2]; rfl)
          have HM0 : Hid (bl (N + 1) (markA (parL s.1) m (i + 1)) = bl (N + 1) (fun j => markA (parL s.1) m (i + 1) j || decide ((j : Int) ∈ x.1.take 0))) := bl_congr (fun j _ => by simp)
          have HM1 : Hid (bl (N + 1) (fun j => markA (parL s.1) m (i + 1) j || decide ((j : Int) ∈ x.1.take lx)) = bl (N + 1) (markA (parL s.1) m i)) := bl_congr (fun j _ => by
            have h0 := mark_step (par := parL s.1) (n := m) (k := i + 1) (j := j) (by omega) hk
            rw [his, Bool.true_and, Nat.add_sub_cancel, HMem.out j] at h0
            rw [List.take_of_length_le (by rw [HLx.out]; exact Nat.le_refl _)]
            exact h0.symm)
          have hB6 : OwnB w5 w1.heap.size w1.heap.size (N + 1) (fun j => markA (parL s.1) m (i + 1) j || decide ((j : Int) ∈ x.1.take 0)) := by show World.ownsRow _ _ _ _ _ _ _; rw [← HM0.out]; exact hB5
          clear hown5 hgrow5 hat5 hB5 oA hsl hbs HG5
          generalize wr = wa at *
          gi_loopw [9] (fun s9 wr2 => ∃ t : Nat, t ≤ lx ∧ s9 = .int .i64 (t : Int) ∧ OwnB wr2 w1.heap.size w1.heap.size (N + 1) (fun j => markA (parL s.1) m (i + 1) j || decide ((j : Int) ∈ x.1.take t)) ∧ Chg (fun k => k = w1.heap.size) w5 wr2 ∧ Chg No w1 wr2) (fun s9 _ => lx - (intOf s9).toNat)
          case atStart => exact ⟨0, Nat.zero_le _, rfl, hB6, Chg.refl _ _, c05⟩
          case round =>
            obtain ⟨t, ht, rfl, hBt, ct, c0t⟩ := hrel
            by_cases htl : t < lx
            · have htl' : (t : Int) < (lx : Int) := by omega
              obtain ⟨p, hp⟩ : ∃ p, x.1[t]? = some p := ⟨_, List.getElem?_eq_getElem (by rw [HLx.out]; exact htl)⟩
              have hpk := HPk.out p (List.mem_of_getElem? hp)
              obtain ⟨pq, rfl⟩ : ∃ q : Nat, p = (q : Int) := ⟨p.toNat, by omega⟩
              obtain ⟨_, _, z4⟩ := HC.out wr c0t
              obtain ⟨bp, op, rfl, hcp⟩ := z4.get1 (i := t) (x := iv (pq : Int)) (by rw [List.getElem?_map, hp]; rfl)
              have hpqN : (pq : Int) < (N : Int) + 1 := by omega
              obtain ⟨⟨y0, hy0⟩, hyf, hBs⟩ := hBt.set (p := pq) (b := true) (g := fun j => markA (parL s.1) m (i + 1) j || decide ((j : Int) ∈ x.1.take (t + 1))) (by omega) (fun j _ => by
                rw [List.take_add_one, hp]
                by_cases e : j = pq
                · rw [if_pos e, e]; simp
                · rw [if_neg e]
                  congr 1
                  rw [decide_eq_decide]
                  have e' : ¬ (j : Int) = (pq : Int) := by omega
                  simp [e'])
              have ct2 := ct.setCell (p := ⟨w1.heap.size, pq, none⟩) (.inl rfl) (.bool true)
              have c0t2 := c0t.setCell (p := ⟨w1.heap.size, pq, none⟩) (.inr (Nat.le_refl _)) (.bool true)
              clear hBt z4 z1 z2 z3 ct c0t
              gi_wp2
              refine ⟨⟨t + 1, htl, by go_num, hBs, ct2, c0t2⟩, by simp [intOf]; omega⟩
            · obtain rfl : t = lx := by omega
              have htl' : ¬ (t : Int) < (t : Int) := by omega
              gi_wp2
              refine ⟨⟨i, by omega, rfl, ?_, by show World.ownsRow _ _ _ _ _ _ _; rw [← HM1.out]; exact hBt, c0t⟩, by simp [intOf]⟩
              show World.ownsRow _ _ _ _ _ _ _
              rw [List.length_map, HO2.out]
              exact row_kept HO.out (fun k e => ct.block k (World.ownsRow.lt HO.out k e).2 (HApart.out k e))
      · obtain rfl : k = 0 := by omega
        gi_wp2
        go_ret
        refine ⟨_, rfl, ?_, c⟩
        rw [HF2.out, ← out_end]
        exact hown

end Go.Proofs.YtakbeololabmhaaGreatDoor

end
section
-- RBaseW
namespace Go.Proofs.YtakbeololabmhaaGreatDoor
open Go.RowKit Go.Shelf Go.SeqLib Go.DiffLib Go.TreeLib Go.RepoLib Go.DagLib Go.BigFrame
attribute [local go_sem] Oper.semAt_some

theorem aheadI_len' {L : List Cm} (n : Int) : (aheadI L n).length ≤ L.length := by
  unfold aheadI
  cases h : hasN L.length n with
  | false => rw [if_neg Bool.false_ne_true]; simp
  | true =>
    rw [if_pos rfl, List.length_map]
    unfold hasN at h
    rw [Bool.and_eq_true, decide_eq_true_eq, decide_eq_true_eq] at h
    have h1 : ((down n.toNat).filter (fun k => isA (parL L) k n.toNat)).length ≤ (down n.toNat).length := List.length_filter_le _ _
    rw [down_length] at h1
    show ((down n.toNat).filter (fun k => isA (parL L) k n.toNat)).length ≤ _
    omega
theorem rowSl {W : World} {b : Nat} {v : Value} {l : List Int} (h : OwnI W b v l) : SlV W v (l.map iv) := SlV.ofRow (by rw [List.length_map]; exact h)

set_option maxRecDepth 100000 in
set_option maxHeartbeats 2000000 in
theorem refCommon_in (B : Nat) (s : Rp) (lv : Value) (rows : List Rw) (a b : Int) (w : World) (h : RefVw B s lv rows w) (hp : ParOk s.1) (hl : s.1.length ≤ 1000) :
    CallsIn Fence.wide 0 Tryz.prog 49 #[ptr B, iv a, iv b] w fun e w' => ∃ v, e = .returned v ∧ OwnI w' w.heap.size v (comL s.1 a b) ∧ Chg No w w' := by
  have hmix : Tryz.prog.follows .mixedOrders = true := by kernel_rfl
  have A1 := refAhead_in B s lv rows a w h hp hl
  have A2 := fun W hW => refAhead_in B s lv rows b W hW hp hl
  have la := aheadI_len' (L := s.1) a
  have lb := aheadI_len' (L := s.1) b
  have fa := aheadI_falls' (L := s.1) a
  have fb := aheadI_falls' (L := s.1) b
  have HC : Hid (cmL (aheadI s.1 a) (aheadI s.1 b) = comL s.1 a b) := cm_com _ _ _
  generalize aheadI s.1 a = A at A1 la fa HC
  generalize aheadI s.1 b = Y at A2 lb fb HC
  obtain ⟨C, hC⟩ : ∃ C, comL s.1 a b = C := ⟨_, rfl⟩
  rw [hC] at HC ⊢
  have HFA : Hid (A.Pairwise (fun x y => y < x)) := fa
  have HFB : Hid (Y.Pairwise (fun x y => y < x)) := fb
  have HCl : Hid (C.length ≤ 1000) := by
    show _ ≤ _
    rw [← HC.out]
    unfold cmL
    rw [List.length_reverse]
    exact Nat.le_trans (List.length_filter_le _ _) (Nat.le_trans la hl)
  clear fa fb hC
  refine callsIn_of_wp Tryz.func49 rfl trivial ?_
  simp only [Tryz.ntmps49, List.size_toArray, List.length_cons, List.length_nil, Nat.reduceAdd, Nat.reduceSub, Array.replicate_succ, Array.replicate_zero, List.push_toArray, List.append_toArray, List.nil_append, List.cons_append]
  gi_wp2_with fail
  refine ⟨trivial, rfl, A1.mono ?_⟩
  rintro e w1 ⟨v1, rfl, o1, c1⟩
  gi_wp2_with fail
  refine ⟨trivial, rfl, (A2 _ (h.no c1)).mono ?_⟩
  rintro e w2 ⟨v2, rfl, o2, c2⟩
  have s1 := (rowSl o1).no c2
  have s2 := rowSl o2
  have c02 := Chg.seq c1 c2
  obtain ⟨p1, k1, rfl⟩ := row_slice o1
  obtain ⟨p2, k2, rfl⟩ := row_slice o2
  obtain ⟨NA, hNA⟩ : ∃ NA, A.length = NA := ⟨_, rfl⟩
  obtain ⟨NB, hNB⟩ : ∃ NB, Y.length = NB := ⟨_, rfl⟩
  have HNA : Hid (A.length = NA) := hNA
  have HNB : Hid (Y.length = NB) := hNB
  rw [hNA] at s1 la ⊢
  rw [hNB] at s2 lb ⊢
  have hsz := c02.size
  clear A1 A2 o1 o2 c1 c2 hNA hNB h hp
  gi_wp2
  gi_loopw [9, 10, 11] (fun s9 s10 s11 wr => ∃ (m q : Nat) (out : List Int), m ≤ NA ∧ q ≤ NB ∧ s10 = .int .i64 ((m : Int) - 1) ∧ s11 = .int .i64 ((q : Int) - 1) ∧ OwnI wr w2.heap.size s9 out ∧ Hid (out ++ cmL (A.take m) (Y.take q) = C) ∧ Chg No w2 wr) (fun _ s10 s11 _ => (intOf s10 + intOf s11 + 2).toNat)
  case atStart => exact ⟨NA, NB, [], Nat.le_refl _, Nat.le_refl _, rfl, rfl, World.ownsRow_nil _ _ _ _, by show _ = _; rw [List.nil_append, List.take_of_length_le (by rw [HNA.out]; exact Nat.le_refl _), List.take_of_length_le (by rw [HNB.out]; exact Nat.le_refl _)]; exact HC.out, Chg.refl _ _⟩
  case round =>
    obtain ⟨m, q, out, hm, hq, rfl, rfl, hown, HI, c⟩ := hrel
    have hcw := Chg.seq c02 c
    cases m with
    | zero =>
      have hn : ¬ (0 : Int) ≤ ((0 : Nat) : Int) - 1 := by omega
      have HO : Hid (out = C) := by have := HI.out; rw [List.take_zero, cm_nil_left, List.append_nil] at this; exact this
      gi_wp2
      go_ret
      exact ⟨_, rfl, by rw [← HO.out]; exact rowBase hown hsz, hcw⟩
    | succ m =>
      have hm0 : ((m + 1 : Nat) : Int) - 1 = (m : Int) := by omega
      rw [hm0]
      cases q with
      | zero =>
        have hn : ¬ (0 : Int) ≤ ((0 : Nat) : Int) - 1 := by omega
        have HO : Hid (out = C) := by have := HI.out; rw [List.take_zero, cm_nil_right, List.append_nil] at this; exact this
        gi_wp2
        go_ret
        exact ⟨_, rfl, by rw [← HO.out]; exact rowBase hown hsz, hcw⟩
      | succ q =>
        have hq0 : ((q + 1 : Nat) : Int) - 1 = (q : Int) := by omega
        rw [hq0]
        clear hm0 hq0
        have hmN : (m : Int) < (NA : Int) := by omega
        have hqN : (q : Int) < (NB : Int) := by omega
        obtain ⟨u, hu⟩ : ∃ u, A[m]? = some u := ⟨_, List.getElem?_eq_getElem (by rw [HNA.out]; exact hm)⟩
        obtain ⟨v, hv⟩ : ∃ v, Y[q]? = some v := ⟨_, List.getElem?_eq_getElem (by rw [HNB.out]; exact hq)⟩
        have htu : A.take (m + 1) = A.take m ++ [u] := by rw [List.take_add_one, hu]; rfl
        have htv : Y.take (q + 1) = Y.take q ++ [v] := by rw [List.take_add_one, hv]; rfl
        have hpa : (A.take m ++ [u]).Pairwise (fun x y => y < x) := by rw [← htu]; exact HFA.out.sublist (List.take_sublist _ _)
        have hpb : (Y.take q ++ [v]).Pairwise (fun x y => y < x) := by rw [← htv]; exact HFB.out.sublist (List.take_sublist _ _)
        have HI2 : Hid (out ++ cmL (A.take m ++ [u]) (Y.take q ++ [v]) = C) := by show _ = _; rw [← htu, ← htv]; exact HI.out
        have HPA : Hid _ := hpa
        have HPB : Hid _ := hpb
        have HTU : Hid _ := htu
        have HTV : Hid _ := htv
        obtain ⟨b1, o1, rfl, x1⟩ := (s1.no c).get1 (i := m) (x := iv u) (by rw [List.getElem?_map, hu]; rfl)
        obtain ⟨b2, o2, rfl, x2⟩ := (s2.no c).get1 (i := q) (x := iv v) (by rw [List.getElem?_map, hv]; rfl)
        have hol : out.length ≤ 1000 := by
          have := congrArg List.length HI.out
          rw [List.length_append] at this
          have := HCl.out
          omega
        clear htu htv hpa hpb HI hu hv
        by_cases huv : u = v
        · subst huv
          have hbe : (u == u) = true := by simp
          have HN : Hid ((out ++ [u]) ++ cmL (A.take m) (Y.take q) = C) := by
            show _ = _
            rw [List.append_assoc]
            show out ++ (u :: cmL (A.take m) (Y.take q)) = C
            rw [← cm_both HPA.out]
            exact HI2.out
          obtain ⟨ln, hln⟩ : ∃ ln, out.length = ln := ⟨_, rfl⟩
          have HLn : Hid (out.length = ln) := hln
          rw [hln] at hol
          have hown2 := hown
          change World.ownsRow _ _ _ _ _ out.length _ at hown2
          rw [hln] at hown2
          obtain ⟨q5, k5, rfl⟩ := row_slice hown2
          clear hown hln
          gi_wp2
          refine wpIn_region_quiet_lit rfl hmix (by kernel_rfl) ?_
          repeat (gi_big_quiet_step (fail))
          refine wpQuietIn_nil ?_
          rintro w' ⟨j, rfl⟩
          have cj := drewNC (Chg.refl No wr) j
          have cw4 := Chg.seq c cj
          have y1 : (wr.drewN j).cell? ⟨b1, o1 + m, none⟩ = some (.int .i64 u) := x1
          have hown4 : (wr.drewN j).ownsRow w2.heap.size 3 1 (.slice q5 ln k5) ln (out.map iv) := row_kept hown2 (fun k e => cj.block k (World.ownsRow.lt hown2 k e).2 (fun h => h))
          clear x1 x2 hown2 cj c hcw
          generalize wr.drewN j = W4 at *
          have hsl : SlV (W4.alloc (.cells #[.int .i64 u] 3)) (.slice (some ⟨W4.heap.size, 0, none⟩) 1 1) ([u].map iv) := SlV.made W4 [.int .i64 u] 3 (by simp)
          have oA := World.ownsRow.alloc hown4 (.cells #[.int .i64 u] 3)
          have cA : Chg No w2 (W4.alloc (.cells #[.int .i64 u] 3)) := cw4.alloc _
          have hbs := cA.size
          have HLow : Hid (∀ j, Value.ownBlock (.slice q5 ln k5) = some j → w2.heap.size ≤ j) := fun j e => (World.ownsRow.lt oA j e).1
          have HG5 : Hid (∀ (W5 : World), (W4.alloc (.cells #[.int .i64 u] 3)).grownBy W5 (Value.slice q5 ln k5).ownBlock → Chg No w2 W5) := fun W5 hg => cA.grown hg (fun k e => .inr (HLow.out k e))
          clear cA cw4 hown4
          gi_wp2_with (gi_at_builtin; refine wpListIn_append_i _ rfl _ _ rfl w2.heap.size _ _ _ rfl oA (some ⟨W4.heap.size, 0, none⟩) 1 1 [u] rfl hsl (by omega) hbs ?_; intro v5 w5 hown5 hgrow5 hat5; have c05 := HG5.out w5 hgrow5)
          refine ⟨⟨m, q, out ++ [u], by omega, by omega, by go_num, by go_num, ?_, HN, c05⟩, by simp [intOf]; omega⟩
          show World.ownsRow _ _ _ _ _ _ _
          rw [List.map_append, List.length_append, HLn.out]
          exact hown5
        · have hbe : (u == v) = false := by rw [beq_eq_false_iff_ne]; exact huv
          by_cases hlt : u < v
          · have HN : Hid (out ++ cmL (A.take m) (Y.take (q + 1)) = C) := by show _ = _; rw [HTV.out, ← cm_left HPB.out hlt]; exact HI2.out
            have hld : decide (u < v) = true := decide_eq_true hlt
            clear huv hol
            gi_wp2
            refine wpIn_region_quiet_lit rfl hmix (by kernel_rfl) ?_
            repeat (gi_big_quiet_step (fail))
            refine wpQuietIn_nil ?_
            rintro w' ⟨j, rfl⟩
            have cj := drewNC (Chg.refl No wr) j
            have cw4 := Chg.seq c cj
            have y1 : (wr.drewN j).cell? ⟨b1, o1 + m, none⟩ = some (.int .i64 u) := x1
            have y2 : (wr.drewN j).cell? ⟨b2, o2 + q, none⟩ = some (.int .i64 v) := x2
            have hown4 : OwnI (wr.drewN j) w2.heap.size _ out := row_kept hown (fun k e => cj.block k (World.ownsRow.lt hown k e).2 (fun h => h))
            clear x1 x2 hown cj c hcw
            generalize wr.drewN j = W4 at *
            gi_wp2
            refine wpIn_region_quiet_lit rfl hmix (by kernel_rfl) ?_
            repeat (gi_big_quiet_step (fail))
            refine wpQuietIn_nil ?_
            rintro w' ⟨j, rfl⟩
            have cj := drewNC (Chg.refl No W4) j
            have hown6 : OwnI (W4.drewN j) w2.heap.size _ out := row_kept hown4 (fun k e => cj.block k (World.ownsRow.lt hown4 k e).2 (fun h => h))
            have c6 := Chg.seq cw4 cj
            gi_wp2
            refine ⟨⟨m, q + 1, out, by omega, by omega, by go_num, by go_num, hown6, HN, c6⟩, by simp [intOf]; omega⟩
          · have HN : Hid (out ++ cmL (A.take (m + 1)) (Y.take q) = C) := by show _ = _; rw [HTU.out, ← cm_right (v := v) HPA.out (by omega)]; exact HI2.out
            have hld : decide (u < v) = false := decide_eq_false hlt
            clear huv hol
            gi_wp2
            refine wpIn_region_quiet_lit rfl hmix (by kernel_rfl) ?_
            repeat (gi_big_quiet_step (fail))
            refine wpQuietIn_nil ?_
            rintro w' ⟨j, rfl⟩
            have cj := drewNC (Chg.refl No wr) j
            have cw4 := Chg.seq c cj
            have y1 : (wr.drewN j).cell? ⟨b1, o1 + m, none⟩ = some (.int .i64 u) := x1
            have y2 : (wr.drewN j).cell? ⟨b2, o2 + q, none⟩ = some (.int .i64 v) := x2
            have hown4 : OwnI (wr.drewN j) w2.heap.size _ out := row_kept hown (fun k e => cj.block k (World.ownsRow.lt hown k e).2 (fun h => h))
            clear x1 x2 hown cj c hcw
            generalize wr.drewN j = W4 at *
            gi_wp2
            refine wpIn_region_quiet_lit rfl hmix (by kernel_rfl) ?_
            repeat (gi_big_quiet_step (fail))
            refine wpQuietIn_nil ?_
            rintro w' ⟨j, rfl⟩
            have cj := drewNC (Chg.refl No W4) j
            have hown6 : OwnI (W4.drewN j) w2.heap.size _ out := row_kept hown4 (fun k e => cj.block k (World.ownsRow.lt hown4 k e).2 (fun h => h))
            have c6 := Chg.seq cw4 cj
            gi_wp2
            refine ⟨⟨m + 1, q, out, by omega, by omega, by go_num, by go_num, hown6, HN, c6⟩, by simp [intOf]; omega⟩

end Go.Proofs.YtakbeololabmhaaGreatDoor

end
section
-- RBestW
namespace Go.Proofs.YtakbeololabmhaaGreatDoor
open Go.RowKit Go.Shelf Go.SeqLib Go.DiffLib Go.TreeLib Go.RepoLib Go.DagLib Go.BigFrame
attribute [local go_sem] Oper.semAt_some

theorem one_own' (w : World) (x : Int) : OwnI (w.alloc (.cells #[.int .i64 x] 3)) w.heap.size (.slice (some ⟨w.heap.size, 0, none⟩) 1 1) [x] :=
  ⟨by simp, .inr ⟨w.heap.size, 1, #[.int .i64 x], rfl, Nat.le_refl _, World.alloc_heap_new w _, Nat.le_refl _, by unfold maxLen; simp, by simp, by simp⟩⟩

set_option maxRecDepth 100000 in
set_option maxHeartbeats 2000000 in
theorem refBest_in (B : Nat) (s : Rp) (lv : Value) (rows : List Rw) (a b : Int) (w : World) (h : RefVw B s lv rows w) (hp : ParOk s.1) (hl : s.1.length ≤ 1000) :
    CallsIn Fence.wide 0 Tryz.prog 28 #[ptr B, iv a, iv b] w fun e w' => ∃ v, e = .returned v ∧ OwnI w' w.heap.size v (bestL s.1 a b) ∧ Chg No w w' := by
  have C1 := refCommon_in B s lv rows a b w h hp hl
  have HLow : Hid (Low (parL s.1)) := hp.low
  obtain ⟨pv, kv, rfl⟩ := h.slice
  obtain ⟨N, hN⟩ : ∃ N, s.1.length = N := ⟨_, rfl⟩
  have HN : Hid (s.1.length = N) := hN
  obtain ⟨C, hC⟩ : ∃ C, comL s.1 a b = C := ⟨_, rfl⟩
  have HC : Hid (comL s.1 a b = C) := hC
  have hCl : C.length ≤ N := by rw [← hC, ← hN]; exact com_len a b
  have HCr : Hid (∀ x ∈ C, 1 ≤ x ∧ x ≤ (N : Int)) := fun x hx => by
    rw [← hC] at hx
    have := (aheadI_range' (com_mem.1 hx).1).1
    rw [hN] at this
    exact this
  have HBL : Hid (∀ k, (bestD s.1 a b k).length ≤ N) := fun k => by
    unfold bestD
    refine Nat.le_trans (List.length_filter_le _ _) ?_
    rw [List.length_drop, hC]
    omega
  have hl2 : N ≤ 1000 := by omega
  rw [hC] at C1
  clear hC hN
  refine callsIn_of_wp Tryz.func28 rfl trivial ?_
  simp only [Tryz.ntmps28, List.size_toArray, List.length_cons, List.length_nil, Nat.reduceAdd, Nat.reduceSub, Array.replicate_succ, Array.replicate_zero, List.push_toArray, List.append_toArray, List.nil_append, List.cons_append]
  gi_wp2_with fail
  refine ⟨trivial, rfl, C1.mono ?_⟩
  rintro e w1 ⟨v1, rfl, o1, c1⟩
  have s1 := rowSl o1
  have h1 := h.no c1
  obtain ⟨t0, _, _, _⟩ := h1.cells
  rw [HN.out] at t0
  obtain ⟨p1, k1, rfl⟩ := row_slice o1
  obtain ⟨NC, hNC⟩ : ∃ NC, C.length = NC := ⟨_, rfl⟩
  have HNC : Hid (C.length = NC) := hNC
  rw [hNC] at s1 hCl ⊢
  have hmk := fun W => makeB N (by omega) W
  have hB0 := madeB w1 (N + 1) (by omega)
  have c0 : Chg No w1 (w1.alloc (.cells (madeCells #[.bool false] (N + 1)) 4)) := (Chg.refl _ w1).alloc _
  have HB00 : Hid (bl (N + 1) (covL s.1 a b NC) = bl (N + 1) (fun _ => false)) := bl_congr (fun j _ => by
    rw [← HNC.out, ← HC.out]
    exact cov_start _ _ _ _)
  have HD0 : Hid (bestD s.1 a b NC = []) := by show _ = _; rw [← HNC.out, ← HC.out]; exact bestD_start _ _ _
  have hsz := c1.size
  clear C1 o1 hNC h
  gi_wp2
  gi_loopw [9, 10] (fun s9 s10 wr => ∃ k : Nat, k ≤ NC ∧ s10 = .int .i64 ((k : Int) - 1) ∧ OwnI wr w1.heap.size s9 (bestD s.1 a b k) ∧ OwnB wr w1.heap.size w1.heap.size (N + 1) (covL s.1 a b k) ∧ Chg No w1 wr) (fun _ s10 _ => (intOf s10 + 1).toNat)
  case atStart => exact ⟨NC, Nat.le_refl _, rfl, by rw [HD0.out]; exact World.ownsRow_nil _ _ _ _, by show World.ownsRow _ _ _ _ _ _ _; rw [HB00.out]; exact hB0, c0⟩
  case round =>
    obtain ⟨k, hk, rfl, hown, hB, c⟩ := hrel
    clear hB0 c0 hmk t0
    cases k with
    | zero =>
      have hn : ¬ (0 : Int) ≤ ((0 : Nat) : Int) - 1 := by omega
      have hE := bestD_end s.1 a b
      gi_wp2
      go_ret
      exact ⟨_, rfl, by rw [← hE]; exact rowBase hown hsz, Chg.seq c1 c⟩
    | succ k =>
      have hk0 : ((k + 1 : Nat) : Int) - 1 = (k : Int) := by omega
      rw [hk0]
      clear hk0
      have hkN : (k : Int) < (NC : Int) := by omega
      obtain ⟨x, hx⟩ : ∃ x, C[k]? = some x := ⟨_, List.getElem?_eq_getElem (by rw [HNC.out]; exact hk)⟩
      have hxr := HCr.out x (List.mem_of_getElem? hx)
      obtain ⟨xn, rfl⟩ : ∃ xn : Nat, x = (xn : Int) := ⟨x.toNat, by omega⟩
      have hx' : (comL s.1 a b)[k]? = some (xn : Int) := by rw [HC.out]; exact hx
      have hget := hB.get (j := xn) (by omega)
      rw [cov_is HLow.out hx'] at hget
      have HSt : Hid (bestD s.1 a b k = if (xn : Int) ∈ bestL s.1 a b then (xn : Int) :: bestD s.1 a b (k + 1) else bestD s.1 a b (k + 1)) := bestD_step hx'
      have HCv : Hid (∀ j, covL s.1 a b k j = (if (xn : Int) ∈ bestL s.1 a b then decide ((j : Int) ∈ aheadI s.1 (xn : Int)) || covL s.1 a b (k + 1) j else covL s.1 a b (k + 1) j)) := fun j => cov_step hx' j
      obtain ⟨b1, o1, rfl, hc1⟩ := (s1.no c).get1 (i := k) (x := iv (xn : Int)) (by rw [List.getElem?_map, hx]; rfl)
      have hxM : (xn : Int) < (N : Int) + 1 := by omega
      by_cases hb : (xn : Int) ∈ bestL s.1 a b
      · rw [decide_eq_true hb] at hget
        have HS2 : Hid (bestD s.1 a b k = (xn : Int) :: bestD s.1 a b (k + 1)) := by have := HSt.out; rw [if_pos hb] at this; exact this
        have HC2 : Hid (∀ j, covL s.1 a b k j = (decide ((j : Int) ∈ aheadI s.1 (xn : Int)) || covL s.1 a b (k + 1) j)) := fun j => by have := HCv.out j; rw [if_pos hb] at this; exact this
        obtain ⟨out, hout⟩ : ∃ out, bestD s.1 a b (k + 1) = out := ⟨_, rfl⟩
        have hol : out.length ≤ 1000 := by rw [← hout]; exact Nat.le_trans (HBL.out _) hl2
        have HOut : Hid (bestD s.1 a b k = [(xn : Int)] ++ out) := by show _ = _; rw [HS2.out, hout]; rfl
        rw [hout] at hown
        obtain ⟨ln, hln⟩ : ∃ ln, out.length = ln := ⟨_, rfl⟩
        have HLn : Hid (out.length = ln) := hln
        have sown := rowSl hown
        have hown2 := hown
        change World.ownsRow _ _ _ _ _ out.length _ at hown2
        rw [hln] at hown2 hol
        obtain ⟨q5, k5, rfl⟩ := row_slice hown2
        have hsl : SlV (wr.alloc (.cells #[.int .i64 (xn : Int)] 3)) (.slice q5 ln k5) (out.map iv) := sown.no ((Chg.refl _ wr).alloc _)
        have oA : OwnI (wr.alloc (.cells #[.int .i64 (xn : Int)] 3)) w1.heap.size (.slice (some ⟨wr.heap.size, 0, none⟩) 1 1) [(xn : Int)] := rowBase (one_own' wr (xn : Int)) c.size
        have oA' : World.ownsRow (wr.alloc (.cells #[.int .i64 (xn : Int)] 3)) w1.heap.size 3 1 (.slice (some ⟨wr.heap.size, 0, none⟩) 1 1) 1 ([(xn : Int)].map iv) := oA
        have cA : Chg No w1 (wr.alloc (.cells #[.int .i64 (xn : Int)] 3)) := c.alloc _
        have hBA : OwnB (wr.alloc (.cells #[.int .i64 (xn : Int)] 3)) w1.heap.size w1.heap.size (N + 1) (covL s.1 a b (k + 1)) := World.ownsRow.alloc hB _
        have hbs := cA.size
        have hGr : w1.heap.size < wr.heap.size := (World.ownsRow.lt hB _ rfl).2
        have HG5 : Hid (∀ (W5 : World), (wr.alloc (.cells #[.int .i64 (xn : Int)] 3)).grownBy W5 (Value.slice (some ⟨wr.heap.size, 0, none⟩) 1 1).ownBlock → Chg No w1 W5 ∧ OwnB W5 w1.heap.size w1.heap.size (N + 1) (covL s.1 a b (k + 1)) ∧ W5.cell? ⟨b1, o1 + k, none⟩ = some (.int .i64 (xn : Int))) := fun W5 hg => by
          have c5 := (Chg.refl (fun j => Value.ownBlock (.slice (some ⟨wr.heap.size, 0, none⟩) 1 1) = some j) (wr.alloc (.cells #[.int .i64 (xn : Int)] 3))).grown hg (fun j e => .inl e)
          have hcA := (World.cell?_of_block (a := ⟨b1, o1 + k, none⟩) (Below.heap_alloc wr (.cells #[.int .i64 (xn : Int)] 3 (0, 0)) b1 (World.block_lt_of_cell? wr _ hc1))).trans hc1
          have hb1 : b1 < wr.heap.size := World.block_lt_of_cell? wr _ hc1
          refine ⟨cA.grown hg (fun j e => .inr (by have e1 : wr.heap.size = j := Option.some.inj e; omega)), row_kept hBA (fun j e => c5.block j (World.ownsRow.lt hBA j e).2 (fun e2 => by have e1 : w1.heap.size = j := Option.some.inj e; have e3 : wr.heap.size = j := Option.some.inj e2; omega)), ?_⟩
          exact (World.cell?_of_block (a := ⟨b1, o1 + k, none⟩) (c5.block b1 (World.block_lt_of_cell? _ _ hcA) (fun e2 => by have e3 : wr.heap.size = b1 := Option.some.inj e2; omega))).trans hcA
        clear hown hown2 sown hln hout hB hBA HSt HCv hx'
        gi_wp2_with (gi_at_builtin; refine wpListIn_append_i _ rfl _ _ rfl w1.heap.size _ _ _ rfl oA' q5 ln k5 out rfl hsl (by omega) hbs ?_; intro v5 w5 hown5 hgrow5 hat5; obtain ⟨c05, hB5, y5⟩ := HG5.out w5 hgrow5)
        have hv5 : ∀ j, v5.ownBlock = some j → ¬ j = w1.heap.size := fun j e e2 => by
          rcases hat5 with h | h
          · have e3 : wr.heap.size = j := Option.some.inj ((show v5.ownBlock = some wr.heap.size from h).symm.trans e)
            omega
          · have e3 : (wr.alloc (.cells #[.int .i64 (xn : Int)] 3)).heap.size = j := Option.some.inj (h.symm.trans e)
            have e4 : (wr.alloc (.cells #[.int .i64 (xn : Int)] 3)).heap.size = wr.heap.size + 1 := by simp
            omega
        have ho5 : OwnI w5 w1.heap.size v5 (bestD s.1 a b k) := by
          show World.ownsRow _ _ _ _ _ _ _
          rw [HOut.out, List.map_append, List.length_append, HLn.out]
          exact hown5
        have A1 := refAhead_in B s _ rows (xn : Int) w5 (h1.no c05) hp hl
        obtain ⟨A, hA⟩ : ∃ A, aheadI s.1 (xn : Int) = A := ⟨_, rfl⟩
        have hA30 : A.length ≤ 1000 := by rw [← hA]; exact Nat.le_trans (aheadI_len' _) hl
        have HAr : Hid (∀ x ∈ A, 1 ≤ x ∧ x ≤ (N : Int)) := fun x hx => by
          have := (aheadI_range' (by rw [hA]; exact hx)).1
          rw [HN.out] at this
          exact this
        have HC3 : Hid (∀ j, covL s.1 a b k j = (decide ((j : Int) ∈ A) || covL s.1 a b (k + 1) j)) := fun j => by rw [HC2.out j, hA]
        rw [hA] at A1
        clear hat5 hown5 hgrow5 hsl oA oA' cA hbs HG5 hA hget c hb s1
        gi_wp2_with fail
        refine ⟨trivial, rfl, A1.mono ?_⟩
        rintro e w9 ⟨v9, rfl, o9, c9⟩
        have ci9 := Chg.seq c05 c9
        have hB9 : OwnB w9 w1.heap.size w1.heap.size (N + 1) (covL s.1 a b (k + 1)) := row_kept hB5 (fun j e => c9.block j (World.ownsRow.lt hB5 j e).2 (fun h => h))
        have ho9 : OwnI w9 w1.heap.size v5 (bestD s.1 a b k) := row_kept ho5 (fun j e => c9.block j (World.ownsRow.lt ho5 j e).2 (fun h => h))
        have hG8 : w1.heap.size < w5.heap.size := (World.ownsRow.lt hB5 _ rfl).2
        have l9 := rowSl o9
        have hlow9 : ∀ j, v9.ownBlock = some j → ¬ j = w1.heap.size := fun j e e2 => by have := (World.ownsRow.lt o9 j e).1; omega
        obtain ⟨pa, ka, rfl⟩ := row_slice o9
        obtain ⟨NA, hNA⟩ : ∃ NA, A.length = NA := ⟨_, rfl⟩
        have HNA : Hid (A.length = NA) := hNA
        rw [hNA] at l9 hA30 hlow9 ⊢
        have HL9 : Hid (∀ W, Chg (fun j => j = w1.heap.size) w9 W → SlV W (.slice pa NA ka) (A.map iv)) := fun W cW => l9.chg cW (fun j hj e => hlow9 j hj.2 e)
        have HO9 : Hid (∀ W, Chg (fun j => j = w1.heap.size) w9 W → OwnI W w1.heap.size v5 (bestD s.1 a b k)) := fun W cW => row_kept ho9 (fun j e => cW.block j (World.ownsRow.lt ho9 j e).2 (hv5 j e))
        have HM0 : Hid (bl (N + 1) (covL s.1 a b (k + 1)) = bl (N + 1) (fun j => decide ((j : Int) ∈ A.take 0) || covL s.1 a b (k + 1) j)) := bl_congr (fun j _ => by simp)
        have HM1 : Hid (bl (N + 1) (fun j => decide ((j : Int) ∈ A.take NA) || covL s.1 a b (k + 1) j) = bl (N + 1) (covL s.1 a b k)) := bl_congr (fun j _ => by
          rw [HC3.out j, show A.take NA = A from List.take_of_length_le (by rw [HNA.out]; exact Nat.le_refl _)])
        have hB10 : OwnB w9 w1.heap.size w1.heap.size (N + 1) (fun j => decide ((j : Int) ∈ A.take 0) || covL s.1 a b (k + 1) j) := by show World.ownsRow _ _ _ _ _ _ _; rw [← HM0.out]; exact hB9
        clear A1 o9 l9 hlow9 hB5 hB9 c9 c05 ho5 ho9 hv5 hNA y5
        gi_wp2
        gi_loopw [12] (fun s12 wr2 => ∃ t : Nat, t ≤ NA ∧ s12 = .int .i64 (t : Int) ∧ OwnB wr2 w1.heap.size w1.heap.size (N + 1) (fun j => decide ((j : Int) ∈ A.take t) || covL s.1 a b (k + 1) j) ∧ Chg (fun j => j = w1.heap.size) w9 wr2 ∧ Chg No w1 wr2) (fun s12 _ => NA - (intOf s12).toNat)
        case atStart => exact ⟨0, Nat.zero_le _, rfl, hB10, Chg.refl _ _, ci9⟩
        case round =>
          obtain ⟨t, ht, rfl, hBt, ct, c0t⟩ := hrel
          clear hB10 ci9
          by_cases htl : t < NA
          · have htl' : (t : Int) < (NA : Int) := by omega
            obtain ⟨q, hq⟩ : ∃ q, A[t]? = some q := ⟨_, List.getElem?_eq_getElem (by rw [HNA.out]; exact htl)⟩
            have hqr := HAr.out q (List.mem_of_getElem? hq)
            obtain ⟨qn, rfl⟩ : ∃ qn : Nat, q = (qn : Int) := ⟨q.toNat, by omega⟩
            obtain ⟨bp, op, rfl, hcp⟩ := (HL9.out wr ct).get1 (i := t) (x := iv (qn : Int)) (by rw [List.getElem?_map, hq]; rfl)
            have hqM : qn < N + 1 := by omega
            have hqM' : (qn : Int) < (N : Int) + 1 := by omega
            obtain ⟨⟨y0, hy0⟩, hyf, hBs⟩ := hBt.set (p := qn) (b := true) (g := fun j => decide ((j : Int) ∈ A.take (t + 1)) || covL s.1 a b (k + 1) j) hqM (fun j _ => by
              rw [List.take_add_one, hq]
              by_cases e : j = qn
              · rw [if_pos e, e]; simp
              · rw [if_neg e]
                congr 1
                rw [decide_eq_decide]
                have e' : ¬ (j : Int) = (qn : Int) := fun h => e (Int.ofNat.inj h)
                simp [e'])
            have ct2 := ct.setCell (p := ⟨w1.heap.size, qn, none⟩) (.inl rfl) (.bool true)
            have c0t2 := c0t.setCell (p := ⟨w1.heap.size, qn, none⟩) (.inr (Nat.le_refl _)) (.bool true)
            clear hBt ct c0t
            gi_wp2
            refine ⟨⟨t + 1, htl, by go_num, hBs, ct2, c0t2⟩, by simp [intOf]; omega⟩
          · obtain rfl : t = NA := by omega
            have htl' : ¬ (t : Int) < (t : Int) := by omega
            have hot := HO9.out _ ct
            gi_wp2
            refine ⟨⟨k, by omega, by go_num, hot, by show World.ownsRow _ _ _ _ _ _ _; rw [← HM1.out]; exact hBt, c0t⟩, by simp [intOf]⟩
      · rw [decide_eq_false hb] at hget
        have HS2 : Hid (bestD s.1 a b k = bestD s.1 a b (k + 1)) := by have := HSt.out; rw [if_neg hb] at this; exact this
        have HC2 : Hid (bl (N + 1) (covL s.1 a b k) = bl (N + 1) (covL s.1 a b (k + 1))) := bl_congr (fun j _ => by have := HCv.out j; rw [if_neg hb] at this; exact this)
        have hget' : wr.cell? ⟨w1.heap.size, xn, none⟩ = some (.bool true) := hget
        clear hget HSt HCv hb
        gi_wp2
        refine ⟨⟨k, by omega, by go_num, by rw [HS2.out]; exact hown, by show World.ownsRow _ _ _ _ _ _ _; rw [HC2.out]; exact hB, c⟩, by simp [intOf]⟩

end Go.Proofs.YtakbeololabmhaaGreatDoor

end
