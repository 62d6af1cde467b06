/-
  The document's own Ahead: marks, from n down.
-/
import Derived.Test.YtmpgeacfnikbpaaDoorRRefD
import Derived.Test.YtmpgeacfnikbpaaDoorDTab
namespace Go.DagLib
open Go.RepoLib
/-- A row of marks, by a function. -/
def bl (M : Nat) (f : Nat → Bool) : List Value := (List.range M).map (fun j => Value.bool (f j))
theorem bl_length (M : Nat) (f : Nat → Bool) : (bl M f).length = M := by unfold bl; rw [List.length_map, List.length_range]
theorem bl_get {M : Nat} {f : Nat → Bool} {j : Nat} (h : j < M) : (bl M f)[j]? = some (.bool (f j)) := by
  unfold bl
  rw [List.getElem?_map, List.getElem?_range h]
  rfl
theorem bl_congr {M : Nat} {f g : Nat → Bool} (h : ∀ j, j < M → f j = g j) : bl M f = bl M g := by
  unfold bl
  exact List.map_congr_left (fun j hj => by rw [h j (List.mem_range.1 hj)])
theorem bl_set {M : Nat} {f g : Nat → Bool} {p : Nat} {b : Bool} (h : ∀ j, j < M → g j = if j = p then b else f j) : (bl M f).set p (.bool b) = bl M g := by
  refine List.ext_getElem? fun j => ?_
  rw [List.getElem?_set]
  by_cases hj : j < M
  · rw [bl_get hj, bl_get hj, h j hj]
    by_cases e : p = j
    · rw [if_pos e, if_pos (by rw [bl_length]; omega), if_pos e.symm]
    · rw [if_neg e, if_neg (fun x => e x.symm)]
  · have h1 : (bl M f)[j]? = none := by rw [List.getElem?_eq_none_iff, bl_length]; omega
    have h2 : (bl M g)[j]? = none := by rw [List.getElem?_eq_none_iff, bl_length]; omega
    rw [h1, h2]
    by_cases e : p = j
    · rw [if_pos e, if_neg (by rw [bl_length]; omega)]
    · rw [if_neg e]
end Go.DagLib
namespace Go.Proofs.YtmpgeacfnikbpaaDoor
open Go.RowKit Go.Shelf Go.SeqLib Go.DiffLib Go.TreeLib Go.RepoLib Go.DagLib Go.BigFrame
attribute [local go_sem] Oper.semAt_some

theorem infoBool : (Tryd.prog.info? 4).map (fun i => (i.zero, i.size, i.bytes)) = some (some (.bool false), 1, 1) := by kernel_rfl
theorem makeB (m : Nat) (hm : m ≤ 1000000) (w : World) : (Instr.makeSlice 62 (.int .i64 ((m : Int) + 1)) (.int .i64 ((m : Int) + 1))).run Tryd.prog w = .ok (.slice (some ⟨w.heap.size, 0, none⟩) (m + 1) (m + 1)) (w.alloc (.cells (madeCells #[.bool false] (m + 1)) 4)) :=
  run_make_row' 62 4 (.bool false) 1 Tryd.underlying62 infoBool rfl .i64 .i64 (m + 1) (by omega) (by omega) w
/-- A row of marks in a block of its own. -/
abbrev OwnB (W : World) (base G M : Nat) (f : Nat → Bool) : Prop := W.ownsRow base 4 1 (.slice (some ⟨G, 0, none⟩) M M) M (bl M f)
theorem madeB (w : World) (M : Nat) (hn : M ≤ 1000000) : OwnB (w.alloc (.cells (madeCells #[.bool false] M) 4)) w.heap.size w.heap.size M (fun _ => false) := by
  refine ⟨by rw [bl_length]; omega, .inr ⟨w.heap.size, M, madeCells #[.bool false] M, rfl, Nat.le_refl _, World.alloc_heap_new w _, Nat.le_refl _, by unfold maxLen; omega, by rw [size_madeCells]; omega, ?_⟩⟩
  refine List.ext_getElem? fun i => ?_
  rw [List.getElem?_take, Nat.mul_one]
  by_cases h : i < M
  · rw [bl_get h]
    simp [h, madeCells, Nat.mod_one]
  · have : (bl M (fun _ => false))[i]? = none := by rw [List.getElem?_eq_none_iff, bl_length]; omega
    rw [this, if_neg h]
theorem OwnB.get {W : World} {base G M : Nat} {f : Nat → Bool} (h : OwnB W base G M f) {j : Nat} (hj : j < M) : W.cell? ⟨G, j, none⟩ = some (.bool (f j)) := by
  have hs : SlV W (.slice (some ⟨G, 0, none⟩) M M) (bl M f) := SlV.ofRow (by rw [bl_length]; exact h)
  obtain ⟨b, off, e, hc⟩ := hs.get1 (bl_get hj)
  cases e
  simpa using hc
theorem set_cellsB {W : World} {g : Nat} {cur : Array Value} {ty : TypeId} {fr : Nat × Nat} (hg : W.heap[g]? = some (.cells cur ty fr)) (k : Nat) (u : Value) : (W.setCell ⟨g, k, none⟩ u).heap[g]? = some (.cells (cur.setIfInBounds k u) ty fr) := by
  obtain ⟨hlt, hk⟩ := Array.getElem?_eq_some_iff.1 hg
  show (W.heap.modify g _)[g]? = _
  rw [Array.getElem?_eq_getElem (by rw [Array.size_modify]; exact hlt), Array.getElem_modify_self, hk]
  rfl
theorem row_setB {W : World} {base : Nat} {e : TypeId} {g n cap : Nat} {xs : List Value} (h : W.ownsRow base e 1 (.slice (some ⟨g, 0, none⟩) n cap) n xs) {j : Nat} (hj : j < n) (u : Value) :
    (∃ x, W.cell? ⟨g, j, none⟩ = some x) ∧ W.frozen? ⟨g, j, none⟩ = false ∧ (W.setCell ⟨g, j, none⟩ u).ownsRow base e 1 (.slice (some ⟨g, 0, none⟩) n cap) n (xs.set j u) := by
  obtain ⟨h1, h2⟩ := h
  rcases h2 with ⟨h2, _⟩ | ⟨g', cap', cur, hv, hb, hg, hn, hm, hs, ht⟩
  · cases h2
  · cases hv
    have hjs : j < cur.size := by omega
    refine ⟨⟨cur[j], by simp [World.cell?, hg, hjs]⟩, by simp [World.frozen?, hg], ⟨by simpa using h1, .inr ⟨g, cap, cur.setIfInBounds j u, rfl, hb, set_cellsB hg j u, hn, hm, by simpa using hs, ?_⟩⟩⟩
    rw [← ht, Nat.mul_one]
    refine List.ext_getElem? fun i => ?_
    simp only [List.getElem?_take, Array.getElem?_toList, Array.getElem?_setIfInBounds, List.getElem?_set, List.length_take, Array.length_toList]
    by_cases e1 : j = i
    · subst e1
      have : j < min n cur.size := by omega
      simp [hj, hjs, this]
    · simp [e1]

theorem OwnB.set {W : World} {base G M : Nat} {f g : Nat → Bool} (h : OwnB W base G M f) {p : Nat} {b : Bool} (hp : p < M) (hg : ∀ j, j < M → g j = if j = p then b else f j) :
    (∃ x, W.cell? ⟨G, p, none⟩ = some x) ∧ W.frozen? ⟨G, p, none⟩ = false ∧ OwnB (W.setCell ⟨G, p, none⟩ (.bool b)) base G M g := by
  obtain ⟨hx, hf, hr⟩ := row_setB h hp (.bool b)
  rw [bl_set hg] at hr
  exact ⟨hx, hf, hr⟩

set_option maxRecDepth 100000 in
set_option maxHeartbeats 8000000 in
theorem refAhead_in (B : Nat) (s : Rp) (lv : Value) (rows : List Rw) (n : Int) (w : World) (h : RefVw B s lv rows w) (hp : ParOk s.1) (hl : s.1.length ≤ 1000) :
    CallsIn Fence.wide 0 Tryd.prog 28 #[ptr B, iv n] w fun e w' => ∃ v, e = .returned v ∧ OwnI w' w.heap.size v (aheadI s.1 n) ∧ Chg No w w' := by
  have H1 := vwHas_in B s lv rows n w h
  obtain ⟨pv, kv, rfl⟩ := h.slice
  obtain ⟨N, hN⟩ : ∃ N, s.1.length = N := ⟨_, rfl⟩
  have HN : Hid (s.1.length = N) := hN
  have HP : Hid (ParOk s.1) := hp
  have HL : Hid (Low (parL s.1)) := hp.low
  rw [hN] at hl h H1
  clear hN hp
  have HF : Hid (aheadI s.1 n = if hasN N n = true then (aheadL (parL s.1) n.toNat).map (fun (p : Nat) => (p : Int)) else []) := by show _ = _; unfold aheadI; rw [HN.out]
  obtain ⟨F, hF⟩ : ∃ F, aheadI s.1 n = F := ⟨_, rfl⟩
  rw [hF] at HF ⊢
  clear hF
  refine callsIn_of_wp Tryd.func28 rfl trivial ?_
  simp only [Tryd.ntmps28, List.size_toArray, List.length_cons, List.length_nil, Nat.reduceAdd, Nat.reduceSub, Array.replicate_succ, Array.replicate_zero, List.push_toArray, List.append_toArray, List.nil_append, List.cons_append]
  cases hh : hasN N n with
  | false =>
    have HF2 : Hid (F = []) := by show _ = _; rw [HF.out, hh]; rfl
    rw [hh] at H1
    gi_wp2_with fail
    refine ⟨trivial, rfl, H1.mono ?_⟩
    rintro e w1 ⟨rfl, rfl⟩
    gi_wp2
    go_ret
    exact ⟨_, rfl, by rw [HF2.out]; exact World.ownsRow_nil _ _ _ _, Chg.refl _ _⟩
  | true =>
    obtain ⟨m, rfl⟩ : ∃ m : Nat, n = (m : Int) := by
      unfold hasN at hh
      rw [Bool.and_eq_true, decide_eq_true_eq, decide_eq_true_eq] at hh
      exact ⟨n.toNat, by omega⟩
    have hm1 : 1 ≤ m ∧ m ≤ N := by
      unfold hasN at hh
      rw [Bool.and_eq_true, decide_eq_true_eq, decide_eq_true_eq] at hh
      omega
    have HF2 : Hid (F = (aheadL (parL s.1) m).map (fun (p : Nat) => (p : Int))) := by
      show _ = _
      rw [HF.out, hh, if_pos rfl]
      rfl
    rw [hh] at H1
    clear hh HF
    gi_wp2_with fail
    refine ⟨trivial, rfl, H1.mono ?_⟩
    rintro e w1 ⟨rfl, rfl⟩
    have hmk := fun W => makeB N (by omega) W
    have hB0 := madeB w1 (N + 1) (by omega)
    have c0 : Chg No w1 (w1.alloc (.cells (madeCells #[.bool false] (N + 1)) 4)) := (Chg.refl _ w1).alloc _
    obtain ⟨t0, _, _, _⟩ := h.cells
    obtain ⟨⟨x0, hx0⟩, hf0, hB1⟩ := hB0.set (p := m) (b := true) (g := markA (parL s.1) m m) (by omega) (fun j _ => by
      rw [mark_start]
      by_cases e : j = m
      · rw [if_pos e, e]; simp
      · rw [if_neg e]; simp [e])
    have c1 := c0.setCell (p := ⟨w1.heap.size, m, none⟩) (.inr (Nat.le_refl _)) (.bool true)
    rw [World.setCell_alloc_new] at hB1 c1
    have hmN : (m : Int) < (N : Int) + 1 := by omega
    gi_wp2
    gi_loopw [6, 7] (fun s6 s7 wr => ∃ k : Nat, k ≤ m ∧ s7 = .int .i64 (k : Int) ∧ OwnI wr w1.heap.size s6 ((outA (parL s.1) m k).map (fun (p : Nat) => (p : Int))) ∧ OwnB wr w1.heap.size w1.heap.size (N + 1) (markA (parL s.1) m k) ∧ Chg No w1 wr) (fun _ s7 _ => (intOf s7).toNat)
    case atStart => exact ⟨m, Nat.le_refl _, rfl, by rw [out_start]; exact World.ownsRow_nil _ _ _ _, hB1, c1⟩
    case round =>
      obtain ⟨k, hk, rfl, hown, hB, c⟩ := hrel
      clear hB1 c1 hB0 c0 hx0 hf0 hmk
      by_cases hk0 : 1 ≤ k
      · obtain ⟨i, rfl⟩ : ∃ i, k = i + 1 := ⟨k - 1, by omega⟩
        have hiN : i < N := by omega
        have hget := hB.get (j := i + 1) (by omega)
        rw [mark_is HL.out (by omega)] at hget
        have hkN : (i : Int) + 1 < (N : Int) + 1 := by omega
        cases his : isA (parL s.1) (i + 1) m with
        | false =>
          rw [his] at hget
          have HO : Hid (outA (parL s.1) m i = outA (parL s.1) m (i + 1)) := by
            have h0 := out_step (par := parL s.1) (n := m) (k := i + 1) (by omega) hk
            rw [his, if_neg (by decide), Nat.add_sub_cancel] at h0
            exact h0
          have HM : Hid (bl (N + 1) (markA (parL s.1) m i) = bl (N + 1) (markA (parL s.1) m (i + 1))) := bl_congr (fun j _ => by
            have h0 := mark_step (par := parL s.1) (n := m) (k := i + 1) (j := j) (by omega) hk
            rw [his, Bool.false_and, Bool.or_false, Nat.add_sub_cancel] at h0
            exact h0)
          gi_wp2
          refine ⟨⟨i, by omega, rfl, by rw [HO.out]; exact hown, by show World.ownsRow _ _ _ _ _ _ _; rw [HM.out]; exact hB, c⟩, by simp [intOf]⟩
        | true =>
          rw [his] at hget
          obtain ⟨x, hx⟩ : ∃ x, s.1[i]? = some x := ⟨_, List.getElem?_eq_getElem (by rw [HN.out]; exact hiN)⟩
          have HPk : Hid (∀ p ∈ x.1, 1 ≤ p ∧ p ≤ (i : Int)) := HP.out i x hx
          have HMem : Hid (∀ j : Nat, decide (j ∈ parL (s.1) (i + 1)) = decide ((j : Int) ∈ x.1)) := fun j => by
            rw [← HP.out.cast hx]
            by_cases e : j ∈ parL s.1 (i + 1)
            · rw [decide_eq_true e, decide_eq_true (List.mem_map.2 ⟨j, e, rfl⟩)]
            · rw [decide_eq_false e, decide_eq_false (fun h => by
                obtain ⟨q, hq, e2⟩ := List.mem_map.1 h
                obtain rfl : q = j := Int.ofNat.inj e2
                exact e hq)]
          obtain ⟨⟨r1, r2, r3⟩, b1, o1, hrow, rfl, _, _, _, hcm0⟩ := h.cell hx
          obtain ⟨pp, pn, pk, _, _, _, e0, hpv, _⟩ := hcm0
          dsimp only at e0
          cases e0
          obtain rfl : pn = x.1.length := by obtain ⟨_, _, e, _⟩ := hpv; cases e; simp
          have HC : Hid (∀ W, Chg No w1 W → W.cell? ⟨B, 0, none⟩ = some (.slice (some ⟨b1, o1, none⟩) N kv) ∧ W.cell? ⟨b1, o1 + i * 3, none⟩ = some (.slice pp x.1.length pk) ∧ SlV W (.slice pp x.1.length pk) (x.1.map iv)) := fun W cW => by
            have hW := h.no cW
            obtain ⟨r', b', o', hr', e', g1, _, _, g4⟩ := hW.cell hx
            rw [hrow] at hr'
            cases hr'
            cases e'
            exact ⟨hW.cells.1, g1, hpv.no cW⟩
          obtain ⟨lx, hlx⟩ : ∃ lx, x.1.length = lx := ⟨_, rfl⟩
          have HLx : Hid (x.1.length = lx) := hlx
          rw [hlx] at HC
          have hmx : lx ≤ 9223372036854775807 := by
            obtain ⟨_, _, e, h1, h2, _⟩ := hpv
            rw [List.length_map] at h1
            unfold maxLen at h2
            omega
          have hap := row_apart2 (by decide) hown hB
          obtain ⟨q5, k5, rfl⟩ := row_slice hown
          have HLow : Hid (∀ j, Value.ownBlock (.slice q5 ((outA (parL s.1) m (i + 1)).map (fun (p : Nat) => (p : Int))).length k5) = some j → w1.heap.size ≤ j ∧ ¬ j = w1.heap.size) := fun j e => ⟨(World.ownsRow.lt hown j e).1, fun e2 => hap j e (by rw [e2]; rfl)⟩
          obtain ⟨ln, hln⟩ : ∃ ln, ((outA (parL s.1) m (i + 1)).map (fun (p : Nat) => (p : Int))).length = ln := ⟨_, rfl⟩
          have HLn : Hid ((outA (parL s.1) m (i + 1)).length = ln) := by show _ = _; rw [← hln, List.length_map]
          have hlnN : ln ≤ N := by
            rw [← HLn.out]
            unfold outA
            refine Nat.le_trans (List.length_filter_le _ _) ?_
            rw [List.length_take]
            omega
          have hown2 : wr.ownsRow w1.heap.size 3 1 (.slice q5 ln k5) ln (((outA (parL s.1) m (i + 1)).map (fun (p : Nat) => (p : Int))).map iv) := by rw [← hln]; exact hown
          rw [hln] at HLow ⊢
          clear hln hlx hpv hap hown
          have hsl : SlV (wr.alloc (.cells #[.int .i64 ((i : Int) + 1)] 3)) (.slice (some ⟨wr.heap.size, 0, none⟩) 1 1) ([((i : Int) + 1)].map iv) := SlV.made wr [.int .i64 ((i : Int) + 1)] 3 (by simp)
          have oA := World.ownsRow.alloc hown2 (.cells #[.int .i64 ((i : Int) + 1)] 3)
          have hcA := (Chg.refl (fun q => Value.ownBlock (.slice q5 ln k5) = some q) wr).alloc (.cells #[.int .i64 ((i : Int) + 1)] 3)
          have cA : Chg No w1 (wr.alloc (.cells #[.int .i64 ((i : Int) + 1)] 3)) := c.alloc _
          have hbs := cA.size
          have HG5 : Hid (∀ (W5 : World), (wr.alloc (.cells #[.int .i64 ((i : Int) + 1)] 3)).grownBy W5 (Value.slice q5 ln k5).ownBlock → Chg No w1 W5 ∧ OwnB W5 w1.heap.size w1.heap.size (N + 1) (markA (parL s.1) m (i + 1))) := fun W5 hg =>
            ⟨cA.grown hg (fun j e => .inr (HLow.out j e).1), by
              have c5 := hcA.grown hg (fun j e => .inl e)
              exact row_kept hB (fun j e => c5.block j (World.ownsRow.lt hB j e).2 (fun e2 => (HLow.out j e2).2 (by cases e; rfl)))⟩
          have HLt : Hid (w1.heap.size < wr.heap.size) := (World.ownsRow.lt hB w1.heap.size rfl).2
          clear hown2 c cA hB hcA
          gi_wp2_with (gi_at_builtin; refine wpListIn_append_i _ rfl _ _ rfl w1.heap.size _ _ _ rfl oA (some ⟨wr.heap.size, 0, none⟩) 1 1 [((i : Int) + 1)] rfl hsl (by omega) hbs ?_; intro v5 w5 hown5 hgrow5 hat5; obtain ⟨c05, hB5⟩ := HG5.out w5 hgrow5; obtain ⟨z1, z2, z3⟩ := HC.out w5 c05)
          have HO : Hid (w5.ownsRow w1.heap.size 3 1 v5 (ln + 1) (((outA (parL s.1) m i).map (fun (p : Nat) => (p : Int))).map iv)) := by
            have h0 := out_step (par := parL s.1) (n := m) (k := i + 1) (by omega) hk
            rw [his, if_pos rfl, Nat.add_sub_cancel] at h0
            show World.ownsRow _ _ _ _ _ _ _
            rw [h0, List.map_append, List.map_append]
            exact hown5
          have HO2 : Hid ((outA (parL s.1) m i).length = ln + 1) := by
            have h0 := out_step (par := parL s.1) (n := m) (k := i + 1) (by omega) hk
            rw [his, if_pos rfl, Nat.add_sub_cancel] at h0
            show _ = _
            rw [h0, List.length_append, HLn.out]
            rfl
          have HApart : Hid (∀ k, v5.ownBlock = some k → ¬ k = w1.heap.size) := fun k e e2 => row_apart2 (by decide) hown5 hB5 k e (by rw [e2]; rfl)
          have HM0 : Hid (bl (N + 1) (markA (parL s.1) m (i + 1)) = bl (N + 1) (fun j => markA (parL s.1) m (i + 1) j || decide ((j : Int) ∈ x.1.take 0))) := bl_congr (fun j _ => by simp)
          have HM1 : Hid (bl (N + 1) (fun j => markA (parL s.1) m (i + 1) j || decide ((j : Int) ∈ x.1.take lx)) = bl (N + 1) (markA (parL s.1) m i)) := bl_congr (fun j _ => by
            have h0 := mark_step (par := parL s.1) (n := m) (k := i + 1) (j := j) (by omega) hk
            rw [his, Bool.true_and, Nat.add_sub_cancel, HMem.out j] at h0
            rw [List.take_of_length_le (by rw [HLx.out]; exact Nat.le_refl _)]
            exact h0.symm)
          have hB6 : OwnB w5 w1.heap.size w1.heap.size (N + 1) (fun j => markA (parL s.1) m (i + 1) j || decide ((j : Int) ∈ x.1.take 0)) := by show World.ownsRow _ _ _ _ _ _ _; rw [← HM0.out]; exact hB5
          clear hown5 hgrow5 hat5 hB5 oA hsl hbs HG5
          generalize wr = wa at *
          gi_loopw [9] (fun s9 wr2 => ∃ t : Nat, t ≤ lx ∧ s9 = .int .i64 (t : Int) ∧ OwnB wr2 w1.heap.size w1.heap.size (N + 1) (fun j => markA (parL s.1) m (i + 1) j || decide ((j : Int) ∈ x.1.take t)) ∧ Chg (fun k => k = w1.heap.size) w5 wr2 ∧ Chg No w1 wr2) (fun s9 _ => lx - (intOf s9).toNat)
          case atStart => exact ⟨0, Nat.zero_le _, rfl, hB6, Chg.refl _ _, c05⟩
          case round =>
            obtain ⟨t, ht, rfl, hBt, ct, c0t⟩ := hrel
            by_cases htl : t < lx
            · have htl' : (t : Int) < (lx : Int) := by omega
              obtain ⟨p, hp⟩ : ∃ p, x.1[t]? = some p := ⟨_, List.getElem?_eq_getElem (by rw [HLx.out]; exact htl)⟩
              have hpk := HPk.out p (List.mem_of_getElem? hp)
              obtain ⟨pq, rfl⟩ : ∃ q : Nat, p = (q : Int) := ⟨p.toNat, by omega⟩
              obtain ⟨_, _, z4⟩ := HC.out wr c0t
              obtain ⟨bp, op, rfl, hcp⟩ := z4.get1 (i := t) (x := iv (pq : Int)) (by rw [List.getElem?_map, hp]; rfl)
              have hpqN : (pq : Int) < (N : Int) + 1 := by omega
              obtain ⟨⟨y0, hy0⟩, hyf, hBs⟩ := hBt.set (p := pq) (b := true) (g := fun j => markA (parL s.1) m (i + 1) j || decide ((j : Int) ∈ x.1.take (t + 1))) (by omega) (fun j _ => by
                rw [List.take_add_one, hp]
                by_cases e : j = pq
                · rw [if_pos e, e]; simp
                · rw [if_neg e]
                  congr 1
                  rw [decide_eq_decide]
                  have e' : ¬ (j : Int) = (pq : Int) := by omega
                  simp [e'])
              have ct2 := ct.setCell (p := ⟨w1.heap.size, pq, none⟩) (.inl rfl) (.bool true)
              have c0t2 := c0t.setCell (p := ⟨w1.heap.size, pq, none⟩) (.inr (Nat.le_refl _)) (.bool true)
              clear hBt z4 z1 z2 z3 ct c0t
              gi_wp2
              refine ⟨⟨t + 1, htl, by go_num, hBs, ct2, c0t2⟩, by simp [intOf]; omega⟩
            · obtain rfl : t = lx := by omega
              have htl' : ¬ (t : Int) < (t : Int) := by omega
              gi_wp2
              refine ⟨⟨i, by omega, rfl, ?_, by show World.ownsRow _ _ _ _ _ _ _; rw [← HM1.out]; exact hBt, c0t⟩, by simp [intOf]⟩
              show World.ownsRow _ _ _ _ _ _ _
              rw [List.length_map, HO2.out]
              exact row_kept HO.out (fun k e => ct.block k (World.ownsRow.lt HO.out k e).2 (HApart.out k e))
      · obtain rfl : k = 0 := by omega
        gi_wp2
        go_ret
        refine ⟨_, rfl, ?_, c⟩
        rw [HF2.out, ← out_end]
        exact hown

end Go.Proofs.YtmpgeacfnikbpaaDoor
