/-
  Of: RRefD, RRefE, RRefI, RRefP, RRefQ.
-/
import Derived.Test.YtbhhkfmjbgakbaaDoorGRow
import Derived.Test.YtbhhkfmjbgakbaaDoorRMade
import Derived.Test.YtbhhkfmjbgakbaaDoorAppI
import Derived.Test.YtbhhkfmjbgakbaaDoorDTab
import Derived.Sort.CutIn
import Derived.Sort.QuietThIn
import Derived.Shelf.RegionOpen
section
-- RRefD
namespace Go.DagLib
open Go.RepoLib
/-- Each commit's parents are numbers of commits ahead of it. -/
def ParOk (L : List Cm) : Prop := ∀ (i : Nat) (c : Cm), L[i]? = some c → ∀ p ∈ c.1, 1 ≤ p ∧ p ≤ (i : Int)
theorem made_ok (xs : List Nat) : ParOk (mkL 0 xs) := by
  intro i c h p hp
  cases hx : xs[i]? with
  | none =>
    have : (mkL 0 xs)[i]? = none := by rw [List.getElem?_eq_none_iff] at hx ⊢; rw [mkL_length]; exact hx
    rw [this] at h; cases h
  | some x =>
    rw [mkL_get hx, Nat.zero_add] at h
    cases h
    obtain ⟨q, hq, rfl⟩ := List.mem_map.1 hp
    have := mkP_le hq
    omega
theorem ParOk.low {L : List Cm} (h : ParOk L) : Low (parL L) := by
  intro n p hp
  cases n with
  | zero => simp [parL] at hp
  | succ i =>
    cases hc : L[i]? with
    | none => unfold parL at hp; rw [if_neg (by omega), Nat.add_sub_cancel, hc] at hp; simp at hp
    | some c =>
      rw [parL_at hc] at hp
      obtain ⟨q, hq, rfl⟩ := List.mem_map.1 hp
      have := h i c hc q hq
      omega
theorem ParOk.cast {L : List Cm} (h : ParOk L) {i : Nat} {c : Cm} (hc : L[i]? = some c) : (parL L (i + 1)).map (fun (p : Nat) => (p : Int)) = c.1 := by
  rw [parL_at hc, List.map_map]
  refine (List.map_congr_left (fun q hq => ?_)).trans (List.map_id _)
  have := h i c hc q hq
  show ((q.toNat : Nat) : Int) = q
  omega
/-- What First answers, and what Ahead does. -/
def fstI (L : List Cm) (n : Int) : List Int := if hasN L.length n = true then (fstA (parL L) n.toNat).map (fun (p : Nat) => (p : Int)) else []
def aheadI (L : List Cm) (n : Int) : List Int := if hasN L.length n = true then (aheadL (parL L) n.toNat).map (fun (p : Nat) => (p : Int)) else []
def depI (L : List Cm) (n : Int) : Nat := if hasN L.length n = true then depA (parL L) n.toNat else 0
end Go.DagLib
namespace Go.Proofs.YtbhhkfmjbgakbaaDoor
open Go.RowKit Go.Shelf Go.SeqLib Go.DiffLib Go.TreeLib Go.RepoLib Go.DagLib Go.BigFrame
attribute [local go_sem] Oper.semAt_some

set_option maxRecDepth 100000 in
set_option maxHeartbeats 4000000 in
theorem refFirst_in (B : Nat) (s : Rp) (lv : Value) (rows : List Rw) (n : Int) (w : World) (h : RefVw B s lv rows w) (hp : ParOk s.1) (hl : s.1.length ≤ 1000) :
    CallsIn Fence.wide 0 Tryd.prog 22 #[ptr B, iv n] w fun e w' => ∃ v, e = .returned v ∧ OwnI w' w.heap.size v (fstI s.1 n) ∧ Chg No w w' := by
  have H1 := fun (m : Int) (W : World) (c : Chg No w W) => vwHas_in B s lv rows m W (h.no c)
  obtain ⟨pv, kv, rfl⟩ := h.slice
  obtain ⟨N, hN⟩ : ∃ N, s.1.length = N := ⟨_, rfl⟩
  have HN : Hid (s.1.length = N) := hN
  have HP : Hid (ParOk s.1) := hp
  rw [hN] at hl h H1
  clear hN hp
  have HF : Hid (fstI s.1 n = if hasN N n = true then (fstA (parL s.1) n.toNat).map (fun (p : Nat) => (p : Int)) else []) := by show _ = _; unfold fstI; rw [HN.out]
  obtain ⟨F, hF⟩ : ∃ F, fstI s.1 n = F := ⟨_, rfl⟩
  rw [hF] at HF ⊢
  clear hF
  refine callsIn_of_wp Tryd.func22 rfl trivial ?_
  simp only [Tryd.ntmps22, List.size_toArray, List.length_cons, List.length_nil, Nat.reduceAdd, Nat.reduceSub, Array.replicate_succ, Array.replicate_zero, List.push_toArray, List.append_toArray, List.nil_append, List.cons_append]
  cases hh : hasN N n with
  | false =>
    have H2 := H1 n w (Chg.refl _ w)
    rw [hh] at H2
    have HF2 : Hid (F = []) := by show _ = _; rw [HF.out, hh]; rfl
    gi_wp2
    gi_loopw [1, 5] (fun s1 s5 wr => s1 = iv n ∧ s5 = .slice none 0 0 ∧ wr = w) (fun _ _ _ => 0)
    case atStart => exact ⟨rfl, rfl, rfl⟩
    case round =>
      obtain ⟨rfl, rfl, rfl⟩ := hrel
      gi_wp2_with fail
      refine ⟨trivial, rfl, H2.mono ?_⟩
      rintro e w1 ⟨rfl, rfl⟩
      gi_wp2
      go_ret
      exact ⟨_, rfl, by rw [HF2.out]; exact World.ownsRow_nil _ _ _ _, Chg.refl _ _⟩
  | true =>
    obtain ⟨m, rfl⟩ : ∃ m : Nat, n = (m : Int) + 1 := by
      unfold hasN at hh
      rw [Bool.and_eq_true, decide_eq_true_eq, decide_eq_true_eq] at hh
      exact ⟨n.toNat - 1, by omega⟩
    have hmN : m < N := by
      unfold hasN at hh
      rw [Bool.and_eq_true, decide_eq_true_eq, decide_eq_true_eq] at hh
      omega
    have HF2 : Hid (F = (fstA (parL s.1) (m + 1)).map (fun (p : Nat) => (p : Int))) := by
      show _ = _
      rw [HF.out, hh, if_pos rfl, show ((m : Int) + 1).toNat = m + 1 by omega]
    clear hh HF
    gi_wp2
    gi_loopw [1, 5] (fun s1 s5 wr => ∃ (i : Nat) (pre : List Nat), i < N ∧ s1 = .int .i64 ((i : Int) + 1) ∧ Hid (pre ++ fstA (parL s.1) (i + 1) = fstA (parL s.1) (m + 1)) ∧ pre.length ≤ N - i ∧ OwnI wr w.heap.size s5 (pre.map (fun (p : Nat) => (p : Int))) ∧ Chg No w wr) (fun s1 _ _ => (intOf s1).toNat)
    case atStart => exact ⟨m, [], hmN, rfl, rfl, Nat.zero_le _, World.ownsRow_nil _ _ _ _, Chg.refl _ _⟩
    case round =>
      obtain ⟨i, pre, hi, rfl, HPre, hpre, hown, c⟩ := hrel
      have H2 := H1 ((i : Int) + 1) wr c
      rw [show hasN N ((i : Int) + 1) = true from by unfold hasN; rw [Bool.and_eq_true, decide_eq_true_eq, decide_eq_true_eq]; omega] at H2
      obtain ⟨x, hx⟩ : ∃ x, s.1[i]? = some x := ⟨_, List.getElem?_eq_getElem (by rw [HN.out]; exact hi)⟩
      have hcast := HP.out.cast hx
      have hpok := HP.out i x hx
      obtain ⟨⟨r1, r2, r3⟩, b1, o1, hrow, rfl, _, _, _, hcm0⟩ := h.cell hx
      obtain ⟨pp, pn, pk, _, _, _, e0, hpv, _⟩ := hcm0
      dsimp only at e0
      cases e0
      obtain rfl : pn = x.1.length := by obtain ⟨_, _, e, _⟩ := hpv; cases e; simp
      have HC : Hid (∀ W, Chg No w W → W.cell? ⟨B, 0, none⟩ = some (.slice (some ⟨b1, o1, none⟩) N kv) ∧ W.cell? ⟨b1, o1 + i * 3, none⟩ = some (.slice pp x.1.length pk) ∧ SlV W (.slice pp x.1.length pk) (x.1.map iv)) := fun W cW => by
        have hW := h.no cW
        obtain ⟨r', b', o', hr', e', g1, _, _, g4⟩ := hW.cell hx
        rw [hrow] at hr'
        cases hr'
        cases e'
        exact ⟨hW.cells.1, g1, hpv.no cW⟩
      obtain ⟨q5, k5, rfl⟩ := row_slice hown
      have HLow : Hid (∀ j, Value.ownBlock (.slice q5 (pre.map (fun (p : Nat) => (p : Int))).length k5) = some j → w.heap.size ≤ j) := fun j e => (World.ownsRow.lt hown j e).1
      obtain ⟨ln, hln⟩ : ∃ ln, (pre.map (fun (p : Nat) => (p : Int))).length = ln := ⟨_, rfl⟩
      have HLn : Hid (pre.length = ln) := by show _ = _; rw [← hln, List.length_map]
      have hown2 : wr.ownsRow w.heap.size 3 1 (.slice q5 ln k5) ln ((pre.map (fun (p : Nat) => (p : Int))).map iv) := by rw [← hln]; exact hown
      rw [hln] at HLow ⊢
      have hlnN : ln ≤ N := by have := HLn.out; omega
      clear hln
      have hsl : SlV (wr.alloc (.cells #[.int .i64 ((i : Int) + 1)] 3)) (.slice (some ⟨wr.heap.size, 0, none⟩) 1 1) ([((i : Int) + 1)].map iv) := SlV.made wr [.int .i64 ((i : Int) + 1)] 3 (by simp)
      have oA := World.ownsRow.alloc hown2 (.cells #[.int .i64 ((i : Int) + 1)] 3)
      have cA : Chg No w (wr.alloc (.cells #[.int .i64 ((i : Int) + 1)] 3)) := c.alloc _
      have hbs := cA.size
      have HG5 : Hid (∀ (W5 : World), (wr.alloc (.cells #[.int .i64 ((i : Int) + 1)] 3)).grownBy W5 (Value.slice q5 ln k5).ownBlock → Chg No w W5) := fun W5 hg => cA.grown hg (fun j e => .inr (HLow.out j e))
      clear HLow hown hown2 c hpv
      cases hx1 : x.1 with
      | nil =>
        have HE : Hid (F = (pre ++ [i + 1]).map (fun (p : Nat) => (p : Int))) := by
          show _ = _
          rw [HF2.out, ← HPre.out, fstA_nil (by rw [parL_at hx, hx1]; rfl)]
        rw [hx1] at HC
        clear hx1 hcast hpok
        gi_wp2_with fail
        refine ⟨trivial, rfl, H2.mono ?_⟩
        rintro e w1 ⟨rfl, rfl⟩
        gi_wp2_with (gi_at_builtin; refine wpListIn_append_i _ rfl _ _ rfl w.heap.size _ _ _ rfl oA (some ⟨w1.heap.size, 0, none⟩) 1 1 [((i : Int) + 1)] rfl hsl (by omega) hbs ?_; intro v5 w5 hown5 hgrow5 hat5; have c05 := HG5.out w5 hgrow5; obtain ⟨z1, z2, z3⟩ := HC.out w5 c05; obtain ⟨q6, k6, rfl⟩ := row_slice hown5)
        have HF5 : Hid (w5.ownsRow w.heap.size 3 1 (.slice q6 (ln + 1) k6) (ln + 1) (((pre ++ [i + 1]).map (fun (p : Nat) => (p : Int))).map iv)) := by
          show World.ownsRow _ _ _ _ _ _ _
          rw [List.map_append, List.map_append]
          exact hown5
        have HLn2 : Hid ((pre ++ [i + 1]).length = ln + 1) := by show _ = _; rw [List.length_append, HLn.out]; rfl
        gi_wp2
        go_ret
        refine ⟨_, rfl, ?_, c05⟩
        rw [HE.out]
        show World.ownsRow _ _ _ _ _ _ _
        rw [List.length_map, HLn2.out]
        exact HF5.out
      | cons a t =>
        have ha := hpok a (by rw [hx1]; simp)
        obtain ⟨j, rfl⟩ : ∃ j : Nat, a = (j : Int) + 1 := ⟨a.toNat - 1, by omega⟩
        have hji : j < i := by omega
        have HE : Hid ((pre ++ [i + 1]) ++ fstA (parL s.1) (j + 1) = fstA (parL s.1) (m + 1)) := by
          show _ = _
          rw [← HPre.out, fstA_cons HP.out.low (show parL s.1 (i + 1) = (j + 1) :: t.map Int.toNat from by rw [parL_at hx, hx1]; show ((j : Int) + 1).toNat :: _ = _; rw [show ((j : Int) + 1).toNat = j + 1 by omega]), List.append_assoc]
          rfl
        rw [hx1] at HC
        have hne : ¬ ((((j : Int) + 1) :: t).length : Int) = 0 := by simp only [List.length_cons]; omega
        have hlt0 : (0 : Int) < ((((j : Int) + 1) :: t).length : Int) := by simp only [List.length_cons]; omega
        have hne2 : ((((((j : Int) + 1) :: t).length : Nat) : Int) == 0) = false := by rw [beq_eq_false_iff_ne]; exact hne
        have HC2 : Hid (∀ W, Chg No w W → W.cell? ⟨B, 0, none⟩ = some (.slice (some ⟨b1, o1, none⟩) N kv) ∧ W.cell? ⟨b1, o1 + i * 3, none⟩ = some (.slice pp (((j : Int) + 1) :: t).length pk) ∧ ∃ bp op, pp = some ⟨bp, op, none⟩ ∧ W.cell? ⟨bp, op, none⟩ = some (.int .i64 ((j : Int) + 1))) := fun W cW => by
          obtain ⟨z1, z2, z3⟩ := HC.out W cW
          obtain ⟨bp, op, e, hcp⟩ := z3.get1 (i := 0) (x := iv ((j : Int) + 1)) rfl
          exact ⟨z1, z2, bp, op, e, by simpa using hcp⟩
        clear HC
        generalize (((j : Int) + 1) :: t).length = lx at HC2 hne hne2 hlt0
        have HC := HC2
        clear hx1 hcast hpok HC2
        gi_wp2_with fail
        refine ⟨trivial, rfl, H2.mono ?_⟩
        rintro e w1 ⟨rfl, rfl⟩
        gi_wp2_with (gi_at_builtin; refine wpListIn_append_i _ rfl _ _ rfl w.heap.size _ _ _ rfl oA (some ⟨w1.heap.size, 0, none⟩) 1 1 [((i : Int) + 1)] rfl hsl (by omega) hbs ?_; intro v5 w5 hown5 hgrow5 hat5; have c05 := HG5.out w5 hgrow5; obtain ⟨z1, z2, bp, op, rfl, z3⟩ := HC.out w5 c05; obtain ⟨q6, k6, rfl⟩ := row_slice hown5)
        have HF5 : Hid (w5.ownsRow w.heap.size 3 1 (.slice q6 (ln + 1) k6) (ln + 1) (((pre ++ [i + 1]).map (fun (p : Nat) => (p : Int))).map iv)) := by
          show World.ownsRow _ _ _ _ _ _ _
          rw [List.map_append, List.map_append]
          exact hown5
        have HLn2 : Hid ((pre ++ [i + 1]).length = ln + 1) := by show _ = _; rw [List.length_append, HLn.out]; rfl
        gi_wp2
        refine ⟨⟨j, pre ++ [i + 1], by omega, rfl, HE, by rw [HLn2.out]; have := HLn.out; omega, ?_, c05⟩, by simp [intOf]; omega⟩
        show World.ownsRow _ _ _ _ _ _ _
        rw [List.length_map, HLn2.out]
        exact HF5.out

end Go.Proofs.YtbhhkfmjbgakbaaDoor

end
section
-- RRefE
namespace Go.DagLib
open Go.RepoLib
/-- A row of marks, by a function. -/
def bl (M : Nat) (f : Nat → Bool) : List Value := (List.range M).map (fun j => Value.bool (f j))
theorem bl_length (M : Nat) (f : Nat → Bool) : (bl M f).length = M := by unfold bl; rw [List.length_map, List.length_range]
theorem bl_get {M : Nat} {f : Nat → Bool} {j : Nat} (h : j < M) : (bl M f)[j]? = some (.bool (f j)) := by
  unfold bl
  rw [List.getElem?_map, List.getElem?_range h]
  rfl
theorem bl_congr {M : Nat} {f g : Nat → Bool} (h : ∀ j, j < M → f j = g j) : bl M f = bl M g := by
  unfold bl
  exact List.map_congr_left (fun j hj => by rw [h j (List.mem_range.1 hj)])
theorem bl_set {M : Nat} {f g : Nat → Bool} {p : Nat} {b : Bool} (h : ∀ j, j < M → g j = if j = p then b else f j) : (bl M f).set p (.bool b) = bl M g := by
  refine List.ext_getElem? fun j => ?_
  rw [List.getElem?_set]
  by_cases hj : j < M
  · rw [bl_get hj, bl_get hj, h j hj]
    by_cases e : p = j
    · rw [if_pos e, if_pos (by rw [bl_length]; omega), if_pos e.symm]
    · rw [if_neg e, if_neg (fun x => e x.symm)]
  · have h1 : (bl M f)[j]? = none := by rw [List.getElem?_eq_none_iff, bl_length]; omega
    have h2 : (bl M g)[j]? = none := by rw [List.getElem?_eq_none_iff, bl_length]; omega
    rw [h1, h2]
    by_cases e : p = j
    · rw [if_pos e, if_neg (by rw [bl_length]; omega)]
    · rw [if_neg e]
end Go.DagLib
namespace Go.Proofs.YtbhhkfmjbgakbaaDoor
open Go.RowKit Go.Shelf Go.SeqLib Go.DiffLib Go.TreeLib Go.RepoLib Go.DagLib Go.BigFrame
attribute [local go_sem] Oper.semAt_some

theorem infoBool : (Tryd.prog.info? 4).map (fun i => (i.zero, i.size, i.bytes)) = some (some (.bool false), 1, 1) := by kernel_rfl
theorem makeB (m : Nat) (hm : m ≤ 1000000) (w : World) : (Instr.makeSlice 48 (.int .i64 ((m : Int) + 1)) (.int .i64 ((m : Int) + 1))).run Tryd.prog w = .ok (.slice (some ⟨w.heap.size, 0, none⟩) (m + 1) (m + 1)) (w.alloc (.cells (madeCells #[.bool false] (m + 1)) 4)) :=
  run_make_row' 48 4 (.bool false) 1 Tryd.underlying48 infoBool rfl .i64 .i64 (m + 1) (by omega) (by omega) w
/-- A row of marks in a block of its own. -/
abbrev OwnB (W : World) (base G M : Nat) (f : Nat → Bool) : Prop := W.ownsRow base 4 1 (.slice (some ⟨G, 0, none⟩) M M) M (bl M f)
theorem madeB (w : World) (M : Nat) (hn : M ≤ 1000000) : OwnB (w.alloc (.cells (madeCells #[.bool false] M) 4)) w.heap.size w.heap.size M (fun _ => false) := by
  refine ⟨by rw [bl_length]; omega, .inr ⟨w.heap.size, M, madeCells #[.bool false] M, rfl, Nat.le_refl _, World.alloc_heap_new w _, Nat.le_refl _, by unfold maxLen; omega, by rw [size_madeCells]; omega, ?_⟩⟩
  refine List.ext_getElem? fun i => ?_
  rw [List.getElem?_take, Nat.mul_one]
  by_cases h : i < M
  · rw [bl_get h]
    simp [h, madeCells, Nat.mod_one]
  · have : (bl M (fun _ => false))[i]? = none := by rw [List.getElem?_eq_none_iff, bl_length]; omega
    rw [this, if_neg h]
theorem OwnB.get {W : World} {base G M : Nat} {f : Nat → Bool} (h : OwnB W base G M f) {j : Nat} (hj : j < M) : W.cell? ⟨G, j, none⟩ = some (.bool (f j)) := by
  have hs : SlV W (.slice (some ⟨G, 0, none⟩) M M) (bl M f) := SlV.ofRow (by rw [bl_length]; exact h)
  obtain ⟨b, off, e, hc⟩ := hs.get1 (bl_get hj)
  cases e
  simpa using hc
theorem set_cellsB {W : World} {g : Nat} {cur : Array Value} {ty : TypeId} {fr : Nat × Nat} (hg : W.heap[g]? = some (.cells cur ty fr)) (k : Nat) (u : Value) : (W.setCell ⟨g, k, none⟩ u).heap[g]? = some (.cells (cur.setIfInBounds k u) ty fr) := by
  obtain ⟨hlt, hk⟩ := Array.getElem?_eq_some_iff.1 hg
  show (W.heap.modify g _)[g]? = _
  rw [Array.getElem?_eq_getElem (by rw [Array.size_modify]; exact hlt), Array.getElem_modify_self, hk]
  rfl
theorem row_setB {W : World} {base : Nat} {e : TypeId} {g n cap : Nat} {xs : List Value} (h : W.ownsRow base e 1 (.slice (some ⟨g, 0, none⟩) n cap) n xs) {j : Nat} (hj : j < n) (u : Value) :
    (∃ x, W.cell? ⟨g, j, none⟩ = some x) ∧ W.frozen? ⟨g, j, none⟩ = false ∧ (W.setCell ⟨g, j, none⟩ u).ownsRow base e 1 (.slice (some ⟨g, 0, none⟩) n cap) n (xs.set j u) := by
  obtain ⟨h1, h2⟩ := h
  rcases h2 with ⟨h2, _⟩ | ⟨g', cap', cur, hv, hb, hg, hn, hm, hs, ht⟩
  · cases h2
  · cases hv
    have hjs : j < cur.size := by omega
    refine ⟨⟨cur[j], by simp [World.cell?, hg, hjs]⟩, by simp [World.frozen?, hg], ⟨by simpa using h1, .inr ⟨g, cap, cur.setIfInBounds j u, rfl, hb, set_cellsB hg j u, hn, hm, by simpa using hs, ?_⟩⟩⟩
    rw [← ht, Nat.mul_one]
    refine List.ext_getElem? fun i => ?_
    simp only [List.getElem?_take, Array.getElem?_toList, Array.getElem?_setIfInBounds, List.getElem?_set, List.length_take, Array.length_toList]
    by_cases e1 : j = i
    · subst e1
      have : j < min n cur.size := by omega
      simp [hj, hjs, this]
    · simp [e1]

theorem OwnB.set {W : World} {base G M : Nat} {f g : Nat → Bool} (h : OwnB W base G M f) {p : Nat} {b : Bool} (hp : p < M) (hg : ∀ j, j < M → g j = if j = p then b else f j) :
    (∃ x, W.cell? ⟨G, p, none⟩ = some x) ∧ W.frozen? ⟨G, p, none⟩ = false ∧ OwnB (W.setCell ⟨G, p, none⟩ (.bool b)) base G M g := by
  obtain ⟨hx, hf, hr⟩ := row_setB h hp (.bool b)
  rw [bl_set hg] at hr
  exact ⟨hx, hf, hr⟩

set_option maxRecDepth 100000 in
set_option maxHeartbeats 8000000 in
theorem refAhead_in (B : Nat) (s : Rp) (lv : Value) (rows : List Rw) (n : Int) (w : World) (h : RefVw B s lv rows w) (hp : ParOk s.1) (hl : s.1.length ≤ 1000) :
    CallsIn Fence.wide 0 Tryd.prog 16 #[ptr B, iv n] w fun e w' => ∃ v, e = .returned v ∧ OwnI w' w.heap.size v (aheadI s.1 n) ∧ Chg No w w' := by
  have H1 := vwHas_in B s lv rows n w h
  obtain ⟨pv, kv, rfl⟩ := h.slice
  obtain ⟨N, hN⟩ : ∃ N, s.1.length = N := ⟨_, rfl⟩
  have HN : Hid (s.1.length = N) := hN
  have HP : Hid (ParOk s.1) := hp
  have HL : Hid (Low (parL s.1)) := hp.low
  rw [hN] at hl h H1
  clear hN hp
  have HF : Hid (aheadI s.1 n = if hasN N n = true then (aheadL (parL s.1) n.toNat).map (fun (p : Nat) => (p : Int)) else []) := by show _ = _; unfold aheadI; rw [HN.out]
  obtain ⟨F, hF⟩ : ∃ F, aheadI s.1 n = F := ⟨_, rfl⟩
  rw [hF] at HF ⊢
  clear hF
  refine callsIn_of_wp Tryd.func16 rfl trivial ?_
  simp only [Tryd.ntmps16, List.size_toArray, List.length_cons, List.length_nil, Nat.reduceAdd, Nat.reduceSub, Array.replicate_succ, Array.replicate_zero, List.push_toArray, List.append_toArray, List.nil_append, List.cons_append]
  cases hh : hasN N n with
  | false =>
    have HF2 : Hid (F = []) := by show _ = _; rw [HF.out, hh]; rfl
    rw [hh] at H1
    gi_wp2_with fail
    refine ⟨trivial, rfl, H1.mono ?_⟩
    rintro e w1 ⟨rfl, rfl⟩
    gi_wp2
    go_ret
    exact ⟨_, rfl, by rw [HF2.out]; exact World.ownsRow_nil _ _ _ _, Chg.refl _ _⟩
  | true =>
    obtain ⟨m, rfl⟩ : ∃ m : Nat, n = (m : Int) := by
      unfold hasN at hh
      rw [Bool.and_eq_true, decide_eq_true_eq, decide_eq_true_eq] at hh
      exact ⟨n.toNat, by omega⟩
    have hm1 : 1 ≤ m ∧ m ≤ N := by
      unfold hasN at hh
      rw [Bool.and_eq_true, decide_eq_true_eq, decide_eq_true_eq] at hh
      omega
    have HF2 : Hid (F = (aheadL (parL s.1) m).map (fun (p : Nat) => (p : Int))) := by
      show _ = _
      rw [HF.out, hh, if_pos rfl]
      rfl
    rw [hh] at H1
    clear hh HF
    gi_wp2_with fail
    refine ⟨trivial, rfl, H1.mono ?_⟩
    rintro e w1 ⟨rfl, rfl⟩
    have hmk := fun W => makeB N (by omega) W
    have hB0 := madeB w1 (N + 1) (by omega)
    have c0 : Chg No w1 (w1.alloc (.cells (madeCells #[.bool false] (N + 1)) 4)) := (Chg.refl _ w1).alloc _
    obtain ⟨t0, _, _, _⟩ := h.cells
    obtain ⟨⟨x0, hx0⟩, hf0, hB1⟩ := hB0.set (p := m) (b := true) (g := markA (parL s.1) m m) (by omega) (fun j _ => by
      rw [mark_start]
      by_cases e : j = m
      · rw [if_pos e, e]; simp
      · rw [if_neg e]; simp [e])
    have c1 := c0.setCell (p := ⟨w1.heap.size, m, none⟩) (.inr (Nat.le_refl _)) (.bool true)
    rw [World.setCell_alloc_new] at hB1 c1
    have hmN : (m : Int) < (N : Int) + 1 := by omega
    gi_wp2
    gi_loopw [6, 7] (fun s6 s7 wr => ∃ k : Nat, k ≤ m ∧ s7 = .int .i64 (k : Int) ∧ OwnI wr w1.heap.size s6 ((outA (parL s.1) m k).map (fun (p : Nat) => (p : Int))) ∧ OwnB wr w1.heap.size w1.heap.size (N + 1) (markA (parL s.1) m k) ∧ Chg No w1 wr) (fun _ s7 _ => (intOf s7).toNat)
    case atStart => exact ⟨m, Nat.le_refl _, rfl, by rw [out_start]; exact World.ownsRow_nil _ _ _ _, hB1, c1⟩
    case round =>
      obtain ⟨k, hk, rfl, hown, hB, c⟩ := hrel
      clear hB1 c1 hB0 c0 hx0 hf0 hmk
      by_cases hk0 : 1 ≤ k
      · obtain ⟨i, rfl⟩ : ∃ i, k = i + 1 := ⟨k - 1, by omega⟩
        have hiN : i < N := by omega
        have hget := hB.get (j := i + 1) (by omega)
        rw [mark_is HL.out (by omega)] at hget
        have hkN : (i : Int) + 1 < (N : Int) + 1 := by omega
        cases his : isA (parL s.1) (i + 1) m with
        | false =>
          rw [his] at hget
          have HO : Hid (outA (parL s.1) m i = outA (parL s.1) m (i + 1)) := by
            have h0 := out_step (par := parL s.1) (n := m) (k := i + 1) (by omega) hk
            rw [his, if_neg (by decide), Nat.add_sub_cancel] at h0
            exact h0
          have HM : Hid (bl (N + 1) (markA (parL s.1) m i) = bl (N + 1) (markA (parL s.1) m (i + 1))) := bl_congr (fun j _ => by
            have h0 := mark_step (par := parL s.1) (n := m) (k := i + 1) (j := j) (by omega) hk
            rw [his, Bool.false_and, Bool.or_false, Nat.add_sub_cancel] at h0
            exact h0)
          gi_wp2
          refine ⟨⟨i, by omega, rfl, by rw [HO.out]; exact hown, by show World.ownsRow _ _ _ _ _ _ _; rw [HM.out]; exact hB, c⟩, by simp [intOf]⟩
        | true =>
          rw [his] at hget
          obtain ⟨x, hx⟩ : ∃ x, s.1[i]? = some x := ⟨_, List.getElem?_eq_getElem (by rw [HN.out]; exact hiN)⟩
          have HPk : Hid (∀ p ∈ x.1, 1 ≤ p ∧ p ≤ (i : Int)) := HP.out i x hx
          have HMem : Hid (∀ j : Nat, decide (j ∈ parL (s.1) (i + 1)) = decide ((j : Int) ∈ x.1)) := fun j => by
            rw [← HP.out.cast hx]
            by_cases e : j ∈ parL s.1 (i + 1)
            · rw [decide_eq_true e, decide_eq_true (List.mem_map.2 ⟨j, e, rfl⟩)]
            · rw [decide_eq_false e, decide_eq_false (fun h => by
                obtain ⟨q, hq, e2⟩ := List.mem_map.1 h
                obtain rfl : q = j := Int.ofNat.inj e2
                exact e hq)]
          obtain ⟨⟨r1, r2, r3⟩, b1, o1, hrow, rfl, _, _, _, hcm0⟩ := h.cell hx
          obtain ⟨pp, pn, pk, _, _, _, e0, hpv, _⟩ := hcm0
          dsimp only at e0
          cases e0
          obtain rfl : pn = x.1.length := by obtain ⟨_, _, e, _⟩ := hpv; cases e; simp
          have HC : Hid (∀ W, Chg No w1 W → W.cell? ⟨B, 0, none⟩ = some (.slice (some ⟨b1, o1, none⟩) N kv) ∧ W.cell? ⟨b1, o1 + i * 3, none⟩ = some (.slice pp x.1.length pk) ∧ SlV W (.slice pp x.1.length pk) (x.1.map iv)) := fun W cW => by
            have hW := h.no cW
            obtain ⟨r', b', o', hr', e', g1, _, _, g4⟩ := hW.cell hx
            rw [hrow] at hr'
            cases hr'
            cases e'
            exact ⟨hW.cells.1, g1, hpv.no cW⟩
          obtain ⟨lx, hlx⟩ : ∃ lx, x.1.length = lx := ⟨_, rfl⟩
          have HLx : Hid (x.1.length = lx) := hlx
          rw [hlx] at HC
          have hmx : lx ≤ 9223372036854775807 := by
            obtain ⟨_, _, e, h1, h2, _⟩ := hpv
            rw [List.length_map] at h1
            unfold maxLen at h2
            omega
          have hap := row_apart2 (by decide) hown hB
          obtain ⟨q5, k5, rfl⟩ := row_slice hown
          have HLow : Hid (∀ j, Value.ownBlock (.slice q5 ((outA (parL s.1) m (i + 1)).map (fun (p : Nat) => (p : Int))).length k5) = some j → w1.heap.size ≤ j ∧ ¬ j = w1.heap.size) := fun j e => ⟨(World.ownsRow.lt hown j e).1, fun e2 => hap j e (by rw [e2]; rfl)⟩
          obtain ⟨ln, hln⟩ : ∃ ln, ((outA (parL s.1) m (i + 1)).map (fun (p : Nat) => (p : Int))).length = ln := ⟨_, rfl⟩
          have HLn : Hid ((outA (parL s.1) m (i + 1)).length = ln) := by show _ = _; rw [← hln, List.length_map]
          have hlnN : ln ≤ N := by
            rw [← HLn.out]
            unfold outA
            refine Nat.le_trans (List.length_filter_le _ _) ?_
            rw [List.length_take]
            omega
          have hown2 : wr.ownsRow w1.heap.size 3 1 (.slice q5 ln k5) ln (((outA (parL s.1) m (i + 1)).map (fun (p : Nat) => (p : Int))).map iv) := by rw [← hln]; exact hown
          rw [hln] at HLow ⊢
          clear hln hlx hpv hap hown
          have hsl : SlV (wr.alloc (.cells #[.int .i64 ((i : Int) + 1)] 3)) (.slice (some ⟨wr.heap.size, 0, none⟩) 1 1) ([((i : Int) + 1)].map iv) := SlV.made wr [.int .i64 ((i : Int) + 1)] 3 (by simp)
          have oA := World.ownsRow.alloc hown2 (.cells #[.int .i64 ((i : Int) + 1)] 3)
          have hcA := (Chg.refl (fun q => Value.ownBlock (.slice q5 ln k5) = some q) wr).alloc (.cells #[.int .i64 ((i : Int) + 1)] 3)
          have cA : Chg No w1 (wr.alloc (.cells #[.int .i64 ((i : Int) + 1)] 3)) := c.alloc _
          have hbs := cA.size
          have HG5 : Hid (∀ (W5 : World), (wr.alloc (.cells #[.int .i64 ((i : Int) + 1)] 3)).grownBy W5 (Value.slice q5 ln k5).ownBlock → Chg No w1 W5 ∧ OwnB W5 w1.heap.size w1.heap.size (N + 1) (markA (parL s.1) m (i + 1))) := fun W5 hg =>
            ⟨cA.grown hg (fun j e => .inr (HLow.out j e).1), by
              have c5 := hcA.grown hg (fun j e => .inl e)
              exact row_kept hB (fun j e => c5.block j (World.ownsRow.lt hB j e).2 (fun e2 => (HLow.out j e2).2 (by cases e; rfl)))⟩
          have HLt : Hid (w1.heap.size < wr.heap.size) := (World.ownsRow.lt hB w1.heap.size rfl).2
          clear hown2 c cA hB hcA
          gi_wp2_with (gi_at_builtin; refine wpListIn_append_i _ rfl _ _ rfl w1.heap.size _ _ _ rfl oA (some ⟨wr.heap.size, 0, none⟩) 1 1 [((i : Int) + 1)] rfl hsl (by omega) hbs ?_; intro v5 w5 hown5 hgrow5 hat5; obtain ⟨c05, hB5⟩ := HG5.out w5 hgrow5; obtain ⟨z1, z2, z3⟩ := HC.out w5 c05)
          have HO : Hid (w5.ownsRow w1.heap.size 3 1 v5 (ln + 1) (((outA (parL s.1) m i).map (fun (p : Nat) => (p : Int))).map iv)) := by
            have h0 := out_step (par := parL s.1) (n := m) (k := i + 1) (by omega) hk
            rw [his, if_pos rfl, Nat.add_sub_cancel] at h0
            show World.ownsRow _ _ _ _ _ _ _
            rw [h0, List.map_append, List.map_append]
            exact hown5
          have HO2 : Hid ((outA (parL s.1) m i).length = ln + 1) := by
            have h0 := out_step (par := parL s.1) (n := m) (k := i + 1) (by omega) hk
            rw [his, if_pos rfl, Nat.add_sub_cancel] at h0
            show _ = _
            rw [h0, List.length_append, HLn.out]
            rfl
          have HApart : Hid (∀ k, v5.ownBlock = some k → ¬ k = w1.heap.size) := fun k e e2 => row_apart2 (by decide) hown5 hB5 k e (by rw [e2]; rfl)
          have HM0 : Hid (bl (N + 1) (markA (parL s.1) m (i + 1)) = bl (N + 1) (fun j => markA (parL s.1) m (i + 1) j || decide ((j : Int) ∈ x.1.take 0))) := bl_congr (fun j _ => by simp)
          have HM1 : Hid (bl (N + 1) (fun j => markA (parL s.1) m (i + 1) j || decide ((j : Int) ∈ x.1.take lx)) = bl (N + 1) (markA (parL s.1) m i)) := bl_congr (fun j _ => by
            have h0 := mark_step (par := parL s.1) (n := m) (k := i + 1) (j := j) (by omega) hk
            rw [his, Bool.true_and, Nat.add_sub_cancel, HMem.out j] at h0
            rw [List.take_of_length_le (by rw [HLx.out]; exact Nat.le_refl _)]
            exact h0.symm)
          have hB6 : OwnB w5 w1.heap.size w1.heap.size (N + 1) (fun j => markA (parL s.1) m (i + 1) j || decide ((j : Int) ∈ x.1.take 0)) := by show World.ownsRow _ _ _ _ _ _ _; rw [← HM0.out]; exact hB5
          clear hown5 hgrow5 hat5 hB5 oA hsl hbs HG5
          generalize wr = wa at *
          gi_loopw [9] (fun s9 wr2 => ∃ t : Nat, t ≤ lx ∧ s9 = .int .i64 (t : Int) ∧ OwnB wr2 w1.heap.size w1.heap.size (N + 1) (fun j => markA (parL s.1) m (i + 1) j || decide ((j : Int) ∈ x.1.take t)) ∧ Chg (fun k => k = w1.heap.size) w5 wr2 ∧ Chg No w1 wr2) (fun s9 _ => lx - (intOf s9).toNat)
          case atStart => exact ⟨0, Nat.zero_le _, rfl, hB6, Chg.refl _ _, c05⟩
          case round =>
            obtain ⟨t, ht, rfl, hBt, ct, c0t⟩ := hrel
            by_cases htl : t < lx
            · have htl' : (t : Int) < (lx : Int) := by omega
              obtain ⟨p, hp⟩ : ∃ p, x.1[t]? = some p := ⟨_, List.getElem?_eq_getElem (by rw [HLx.out]; exact htl)⟩
              have hpk := HPk.out p (List.mem_of_getElem? hp)
              obtain ⟨pq, rfl⟩ : ∃ q : Nat, p = (q : Int) := ⟨p.toNat, by omega⟩
              obtain ⟨_, _, z4⟩ := HC.out wr c0t
              obtain ⟨bp, op, rfl, hcp⟩ := z4.get1 (i := t) (x := iv (pq : Int)) (by rw [List.getElem?_map, hp]; rfl)
              have hpqN : (pq : Int) < (N : Int) + 1 := by omega
              obtain ⟨⟨y0, hy0⟩, hyf, hBs⟩ := hBt.set (p := pq) (b := true) (g := fun j => markA (parL s.1) m (i + 1) j || decide ((j : Int) ∈ x.1.take (t + 1))) (by omega) (fun j _ => by
                rw [List.take_add_one, hp]
                by_cases e : j = pq
                · rw [if_pos e, e]; simp
                · rw [if_neg e]
                  congr 1
                  rw [decide_eq_decide]
                  have e' : ¬ (j : Int) = (pq : Int) := by omega
                  simp [e'])
              have ct2 := ct.setCell (p := ⟨w1.heap.size, pq, none⟩) (.inl rfl) (.bool true)
              have c0t2 := c0t.setCell (p := ⟨w1.heap.size, pq, none⟩) (.inr (Nat.le_refl _)) (.bool true)
              clear hBt z4 z1 z2 z3 ct c0t
              gi_wp2
              refine ⟨⟨t + 1, htl, by go_num, hBs, ct2, c0t2⟩, by simp [intOf]; omega⟩
            · obtain rfl : t = lx := by omega
              have htl' : ¬ (t : Int) < (t : Int) := by omega
              gi_wp2
              refine ⟨⟨i, by omega, rfl, ?_, by show World.ownsRow _ _ _ _ _ _ _; rw [← HM1.out]; exact hBt, c0t⟩, by simp [intOf]⟩
              show World.ownsRow _ _ _ _ _ _ _
              rw [List.length_map, HO2.out]
              exact row_kept HO.out (fun k e => ct.block k (World.ownsRow.lt HO.out k e).2 (HApart.out k e))
      · obtain rfl : k = 0 := by omega
        gi_wp2
        go_ret
        refine ⟨_, rfl, ?_, c⟩
        rw [HF2.out, ← out_end]
        exact hown

end Go.Proofs.YtbhhkfmjbgakbaaDoor

end
section
-- RRefI
namespace Go.Proofs.YtbhhkfmjbgakbaaDoor
open Go.RowKit Go.Shelf Go.SeqLib Go.DiffLib Go.TreeLib Go.RepoLib Go.DagLib Go.BigFrame
attribute [local go_sem] Oper.semAt_some

set_option maxRecDepth 100000 in
set_option maxHeartbeats 4000000 in
theorem refIs_in (B : Nat) (s : Rp) (lv : Value) (rows : List Rw) (a n : Int) (w : World) (h : RefVw B s lv rows w) (hp : ParOk s.1) (hl : s.1.length ≤ 1000) :
    CallsIn Fence.wide 0 Tryd.prog 18 #[ptr B, iv a, iv n] w fun e w' => e = .returned (.bool (decide (a ∈ aheadI s.1 n))) ∧ Chg No w w' := by
  have A1 := refAhead_in B s lv rows n w h hp hl
  have HLe : Hid ((aheadI s.1 n).length ≤ 1000) := by
    show _ ≤ _
    unfold aheadI
    split
    · rename_i hh
      rw [List.length_map]
      unfold aheadL
      refine Nat.le_trans (List.length_filter_le _ _) ?_
      rw [down_length]
      unfold hasN at hh
      rw [Bool.and_eq_true, decide_eq_true_eq, decide_eq_true_eq] at hh
      omega
    · exact Nat.zero_le _
  generalize aheadI s.1 n = l at A1 HLe
  clear h hp hl
  obtain ⟨D, HD⟩ : ∃ D, Hid (decide (a ∈ l) = D) := ⟨_, rfl⟩
  rw [HD.out]
  refine callsIn_of_wp Tryd.func18 rfl trivial ?_
  simp only [Tryd.ntmps18, List.size_toArray, List.length_cons, List.length_nil, Nat.reduceAdd, Nat.reduceSub, Array.replicate_succ, Array.replicate_zero, List.push_toArray, List.append_toArray, List.nil_append, List.cons_append]
  gi_wp2_with fail
  refine ⟨trivial, rfl, A1.mono ?_⟩
  rintro e w1 ⟨v, rfl, hown, c1⟩
  have hsl : SlV w1 v (l.map iv) := SlV.ofRow (by rw [List.length_map]; exact hown)
  obtain ⟨p, k, rfl⟩ := row_slice hown
  obtain ⟨ln, hln⟩ : ∃ ln, l.length = ln := ⟨_, rfl⟩
  have HLn : Hid (l.length = ln) := hln
  have hle : ln ≤ 1000 := by rw [← hln]; exact HLe.out
  rw [hln] at hsl ⊢
  clear hln hown A1
  gi_wp2
  gi_loopw [8] (fun s8 wr => ∃ t : Nat, t ≤ ln ∧ s8 = .int .i64 (t : Int) ∧ Hid (∀ y ∈ l.take t, ¬ y = a) ∧ wr = w1) (fun s8 _ => ln - (intOf s8).toNat)
  case atStart => exact ⟨0, Nat.zero_le _, rfl, fun y hy => by simp at hy, rfl⟩
  case round =>
    obtain ⟨t, ht, rfl, HT, rfl⟩ := hrel
    by_cases hlt : t < ln
    · have hlt' : (t : Int) < (ln : Int) := by omega
      obtain ⟨y, hy⟩ : ∃ y, l[t]? = some y := ⟨_, List.getElem?_eq_getElem (by rw [HLn.out]; exact hlt)⟩
      obtain ⟨bp, op, rfl, hc⟩ := hsl.get1 (i := t) (x := iv y) (by rw [List.getElem?_map, hy]; rfl)
      by_cases e : y = a
      · have hb : (y == a) = true := by rw [e]; simp
        have HD2 : Hid (D = true) := by show _ = _; rw [← HD.out, ← e]; exact decide_eq_true (List.mem_of_getElem? hy)
        clear e
        gi_wp2
        go_ret
        exact ⟨by rw [HD2.out]; rfl, c1⟩
      · have hb : (y == a) = false := by rw [beq_eq_false_iff_ne]; exact e
        have HT2 : Hid (∀ y ∈ l.take (t + 1), ¬ y = a) := by
          intro z hz
          rw [List.take_add_one, hy] at hz
          rcases List.mem_append.1 hz with h | h
          · exact HT.out z h
          · rw [List.mem_singleton.1 h]; exact e
        clear e
        gi_wp2
        refine ⟨⟨t + 1, hlt, by go_num, HT2, trivial⟩, by simp [intOf]; omega⟩
    · obtain rfl : t = ln := by omega
      have hlt' : ¬ (t : Int) < (t : Int) := by omega
      have HD2 : Hid (D = false) := by
        show _ = _
        rw [← HD.out]
        refine decide_eq_false (fun hm => HT.out a ?_ rfl)
        rw [List.take_of_length_le (by rw [HLn.out]; exact Nat.le_refl _)]
        exact hm
      gi_wp2
      go_ret
      exact ⟨by rw [HD2.out]; rfl, c1⟩

end Go.Proofs.YtbhhkfmjbgakbaaDoor

end
section
-- RRefP
namespace Go.DagLib
open Go.RepoLib
/-- A row of numbers, by a function. -/
def nl (M : Nat) (f : Nat → Nat) : List Value := (List.range M).map (fun j => Value.int .i64 (f j))
theorem nl_length (M : Nat) (f : Nat → Nat) : (nl M f).length = M := by unfold nl; rw [List.length_map, List.length_range]
theorem nl_get {M : Nat} {f : Nat → Nat} {j : Nat} (h : j < M) : (nl M f)[j]? = some (.int .i64 (f j)) := by
  unfold nl
  rw [List.getElem?_map, List.getElem?_range h]
  rfl
theorem nl_congr {M : Nat} {f g : Nat → Nat} (h : ∀ j, j < M → f j = g j) : nl M f = nl M g := by
  unfold nl
  exact List.map_congr_left (fun j hj => by rw [h j (List.mem_range.1 hj)])
theorem nl_set {M : Nat} {f g : Nat → Nat} {p b : Nat} (h : ∀ j, j < M → g j = if j = p then b else f j) : (nl M f).set p (.int .i64 (b : Int)) = nl M g := by
  refine List.ext_getElem? fun j => ?_
  rw [List.getElem?_set]
  by_cases hj : j < M
  · rw [nl_get hj, nl_get hj, h j hj]
    by_cases e : p = j
    · rw [if_pos e, if_pos (by rw [nl_length]; omega), if_pos e.symm]
    · rw [if_neg e, if_neg (fun x => e x.symm)]
  · have h1 : (nl M f)[j]? = none := by rw [List.getElem?_eq_none_iff, nl_length]; omega
    have h2 : (nl M g)[j]? = none := by rw [List.getElem?_eq_none_iff, nl_length]; omega
    rw [h1, h2]
    by_cases e : p = j
    · rw [if_pos e, if_neg (by rw [nl_length]; omega)]
    · rw [if_neg e]
/-- What is deepest, as the document goes. -/
def mxD (par : Nat → List Nat) (l : List Nat) : Nat := l.foldl (fun d p => max d (depA par p + 1)) 1
theorem foldl_succ (dep : Nat → Nat) : ∀ (l : List Nat) (m : Nat), l.foldl (fun d p => max d (dep p + 1)) (m + 1) = (l.map dep).foldl max m + 1
  | [], _ => rfl
  | p :: l, m => by
    simp only [List.foldl_cons, List.map_cons]
    rw [← foldl_succ dep l (max m (dep p))]
    congr 1
    omega
theorem mxD_all {par : Nat → List Nat} (hl : Low par) (n : Nat) : mxD par (par n) = depA par n := by
  rw [depA_eq hl]
  exact foldl_succ (depA par) (par n) 0
theorem mxD_snoc (par : Nat → List Nat) (l : List Nat) (p : Nat) : mxD par (l ++ [p]) = max (mxD par l) (depA par p + 1) := by unfold mxD; rw [List.foldl_append]; rfl
end Go.DagLib
namespace Go.Proofs.YtbhhkfmjbgakbaaDoor
open Go.RowKit Go.Shelf Go.SeqLib Go.DiffLib Go.TreeLib Go.RepoLib Go.DagLib Go.BigFrame
attribute [local go_sem] Oper.semAt_some

abbrev OwnN (W : World) (base G M : Nat) (f : Nat → Nat) : Prop := W.ownsRow base 3 1 (.slice (some ⟨G, 0, none⟩) M M) M (nl M f)
theorem madeN (w : World) (M : Nat) (hn : M ≤ 1000000) : OwnN (w.alloc (.cells (madeCells #[.int .i64 0] M) 3)) w.heap.size w.heap.size M (fun _ => 0) := by
  refine ⟨by rw [nl_length]; omega, .inr ⟨w.heap.size, M, madeCells #[.int .i64 0] M, rfl, Nat.le_refl _, World.alloc_heap_new w _, Nat.le_refl _, by unfold maxLen; omega, by rw [size_madeCells]; omega, ?_⟩⟩
  refine List.ext_getElem? fun i => ?_
  rw [List.getElem?_take, Nat.mul_one]
  by_cases h : i < M
  · rw [nl_get h]
    simp [h, madeCells, Nat.mod_one]
  · have : (nl M (fun _ => 0))[i]? = none := by rw [List.getElem?_eq_none_iff, nl_length]; omega
    rw [this, if_neg h]
theorem OwnN.get {W : World} {base G M : Nat} {f : Nat → Nat} (h : OwnN W base G M f) {j : Nat} (hj : j < M) : W.cell? ⟨G, j, none⟩ = some (.int .i64 (f j)) := by
  have hs : SlV W (.slice (some ⟨G, 0, none⟩) M M) (nl M f) := SlV.ofRow (by rw [nl_length]; exact h)
  obtain ⟨b, off, e, hc⟩ := hs.get1 (nl_get hj)
  cases e
  simpa using hc
theorem OwnN.set {W : World} {base G M : Nat} {f g : Nat → Nat} (h : OwnN W base G M f) {p b : Nat} (hp : p < M) (hg : ∀ j, j < M → g j = if j = p then b else f j) :
    (∃ x, W.cell? ⟨G, p, none⟩ = some x) ∧ W.frozen? ⟨G, p, none⟩ = false ∧ OwnN (W.setCell ⟨G, p, none⟩ (.int .i64 (b : Int))) base G M g := by
  obtain ⟨hx, hf, hr⟩ := row_setB h hp (.int .i64 (b : Int))
  rw [nl_set hg] at hr
  exact ⟨hx, hf, hr⟩
end Go.Proofs.YtbhhkfmjbgakbaaDoor

end
section
-- RRefQ
namespace Go.Proofs.YtbhhkfmjbgakbaaDoor
open Go.RowKit Go.Shelf Go.SeqLib Go.DiffLib Go.TreeLib Go.RepoLib Go.DagLib Go.BigFrame
attribute [local go_sem] Oper.semAt_some

theorem depA_le {par : Nat → List Nat} (hl : Low par) : ∀ n, depA par n ≤ n + 1 := by
  intro n
  induction n using Nat.strongRecOn with
  | ind n ih =>
    rw [depA_eq hl]
    have h : ∀ (l : List Nat) (m : Nat), m ≤ n → (∀ x ∈ l, x ≤ n) → l.foldl max m ≤ n := by
      intro l
      induction l with
      | nil => intro m hm _; exact hm
      | cons y l ihl =>
        intro m hm hx
        exact ihl _ (by have := hx y (by simp); omega) (fun x h => hx x (by simp [h]))
    have := h ((par n).map (depA par)) 0 (Nat.zero_le _) (fun x hx => by
      obtain ⟨p, hp, rfl⟩ := List.mem_map.1 hx
      have h1 := hl n p hp
      have h2 := ih p h1
      omega)
    omega
theorem makeN1 (m : Nat) (hm : m ≤ 1000000) (w : World) : (Instr.makeSlice 22 (.int .i64 ((m : Int) + 1)) (.int .i64 ((m : Int) + 1))).run Tryd.prog w = .ok (.slice (some ⟨w.heap.size, 0, none⟩) (m + 1) (m + 1)) (w.alloc (.cells (madeCells #[.int .i64 0] (m + 1)) 3)) :=
  run_make_row' 22 3 (.int .i64 0) 8 Tryd.underlying22 infoInt rfl .i64 .i64 (m + 1) (by omega) (by omega) w

set_option maxRecDepth 100000 in
set_option maxHeartbeats 8000000 in
theorem refDepth_in (B : Nat) (s : Rp) (lv : Value) (rows : List Rw) (n : Int) (w : World) (h : RefVw B s lv rows w) (hp : ParOk s.1) (hl : s.1.length ≤ 1000) :
    CallsIn Fence.wide 0 Tryd.prog 20 #[ptr B, iv n] w fun e w' => e = .returned (iv (depI s.1 n : Nat)) ∧ Chg No w w' := by
  have hmix : Tryd.prog.follows .mixedOrders = true := by kernel_rfl
  have H1 := vwHas_in B s lv rows n w h
  obtain ⟨pv, kv, rfl⟩ := h.slice
  obtain ⟨N, hN⟩ : ∃ N, s.1.length = N := ⟨_, rfl⟩
  have HN : Hid (s.1.length = N) := hN
  have HP : Hid (ParOk s.1) := hp
  have HL : Hid (Low (parL s.1)) := hp.low
  rw [hN] at hl h H1
  clear hN hp
  have HF : Hid (depI s.1 n = if hasN N n = true then depA (parL s.1) n.toNat else 0) := by show _ = _; unfold depI; rw [HN.out]
  obtain ⟨F, hF⟩ : ∃ F, depI s.1 n = F := ⟨_, rfl⟩
  rw [hF] at HF ⊢
  clear hF
  refine callsIn_of_wp Tryd.func20 rfl trivial ?_
  simp only [Tryd.ntmps20, List.size_toArray, List.length_cons, List.length_nil, Nat.reduceAdd, Nat.reduceSub, Array.replicate_succ, Array.replicate_zero, List.push_toArray, List.append_toArray, List.nil_append, List.cons_append]
  cases hh : hasN N n with
  | false =>
    have HF2 : Hid (F = 0) := by show _ = _; rw [HF.out, hh]; rfl
    rw [hh] at H1
    gi_wp2_with fail
    refine ⟨trivial, rfl, H1.mono ?_⟩
    rintro e w1 ⟨rfl, rfl⟩
    gi_wp2
    go_ret
    exact ⟨by rw [HF2.out]; rfl, Chg.refl _ _⟩
  | true =>
    obtain ⟨m, rfl⟩ : ∃ m : Nat, n = (m : Int) := by
      unfold hasN at hh
      rw [Bool.and_eq_true, decide_eq_true_eq, decide_eq_true_eq] at hh
      exact ⟨n.toNat, by omega⟩
    have hm1 : 1 ≤ m ∧ m ≤ N := by
      unfold hasN at hh
      rw [Bool.and_eq_true, decide_eq_true_eq, decide_eq_true_eq] at hh
      omega
    have HF2 : Hid (F = depA (parL s.1) m) := by
      show _ = _
      rw [HF.out, hh, if_pos rfl]
      rfl
    rw [hh] at H1
    clear hh HF
    gi_wp2_with fail
    refine ⟨trivial, rfl, H1.mono ?_⟩
    rintro e w1 ⟨rfl, rfl⟩
    have hmk := fun W => makeN1 m (by omega) W
    have hB0 := madeN w1 (m + 1) (by omega)
    have c0 : Chg No w1 (w1.alloc (.cells (madeCells #[.int .i64 0] (m + 1)) 3)) := (Chg.refl _ w1).alloc _
    have HM0 : Hid (nl (m + 1) (fun _ => 0) = nl (m + 1) (fun j => if 1 ≤ j ∧ j ≤ 0 then depA (parL s.1) j else 0)) := nl_congr (fun j _ => by rw [if_neg (by omega)])
    gi_wp2
    gi_loopw [6] (fun s6 wr => ∃ q : Nat, q ≤ m ∧ s6 = .int .i64 ((q : Int) + 1) ∧ OwnN wr w1.heap.size w1.heap.size (m + 1) (fun j => if 1 ≤ j ∧ j ≤ q then depA (parL s.1) j else 0) ∧ Chg No w1 wr) (fun s6 _ => m + 1 - (intOf s6).toNat)
    case atStart => exact ⟨0, Nat.zero_le _, rfl, by show World.ownsRow _ _ _ _ _ _ _; rw [← HM0.out]; exact hB0, c0⟩
    case round =>
      obtain ⟨q, hq, rfl, hB, c⟩ := hrel
      clear hB0 c0 hmk HM0
      by_cases hqm : q < m
      · have hqm' : (q : Int) + 1 ≤ (m : Int) := by omega
        have hqm2 : (q : Int) + 1 < (m : Int) + 1 := by omega
        have hqN : q < N := by omega
        have hqN' : (q : Int) < (N : Int) := by omega
        obtain ⟨x, hx⟩ : ∃ x, s.1[q]? = some x := ⟨_, List.getElem?_eq_getElem (by rw [HN.out]; exact hqN)⟩
        have HPk : Hid (∀ p ∈ x.1, 1 ≤ p ∧ p ≤ (q : Int)) := HP.out q x hx
        have HPar : Hid (parL s.1 (q + 1) = x.1.map Int.toNat) := parL_at hx
        obtain ⟨⟨r1, r2, r3⟩, b1, o1, hrow, rfl, _, _, _, hcm0⟩ := h.cell hx
        obtain ⟨pp, pn, pk, _, _, _, e0, hpv, _⟩ := hcm0
        dsimp only at e0
        cases e0
        obtain rfl : pn = x.1.length := by obtain ⟨_, _, e, _⟩ := hpv; cases e; simp
        have HC : Hid (∀ W, Chg No w1 W → W.cell? ⟨B, 0, none⟩ = some (.slice (some ⟨b1, o1, none⟩) N kv) ∧ W.cell? ⟨b1, o1 + q * 3, none⟩ = some (.slice pp x.1.length pk) ∧ SlV W (.slice pp x.1.length pk) (x.1.map iv)) := fun W cW => by
          have hW := h.no cW
          obtain ⟨r', b', o', hr', e', g1, _, _, g4⟩ := hW.cell hx
          rw [hrow] at hr'
          cases hr'
          cases e'
          exact ⟨hW.cells.1, g1, hpv.no cW⟩
        obtain ⟨lx, hlx⟩ : ∃ lx, x.1.length = lx := ⟨_, rfl⟩
        have HLx : Hid (x.1.length = lx) := hlx
        rw [hlx] at HC
        have hmx : lx ≤ 9223372036854775807 := by
          obtain ⟨_, _, e, h1, h2, _⟩ := hpv
          rw [List.length_map] at h1
          unfold maxLen at h2
          omega
        clear hlx hpv
        obtain ⟨⟨y0, hy0⟩, hyf, hB1⟩ := hB.set (p := q + 1) (b := 1) (g := fun j => if j = q + 1 then mxD (parL s.1) (((x.1.take 0).map Int.toNat)) else if 1 ≤ j ∧ j ≤ q then depA (parL s.1) j else 0) (by omega) (fun j _ => rfl)
        have c1 := c.setCell (p := ⟨w1.heap.size, q + 1, none⟩) (.inr (Nat.le_refl _)) (.int .i64 ((1 : Nat) : Int))
        obtain ⟨W2, hW2⟩ : ∃ W2, wr.setCell ⟨w1.heap.size, q + 1, none⟩ (.int .i64 1) = W2 := ⟨_, rfl⟩
        have hB2 : OwnN W2 w1.heap.size w1.heap.size (m + 1) (fun j => if j = q + 1 then mxD (parL s.1) (((x.1.take 0).map Int.toNat)) else if 1 ≤ j ∧ j ≤ q then depA (parL s.1) j else 0) := hW2 ▸ hB1
        have c2 : Chg No w1 W2 := hW2 ▸ c1
        obtain ⟨z1, z2, _⟩ := HC.out W2 c2
        clear hB1 c1 hB c
        gi_wp2
        generalize wr = wa at *
        gi_loopw [8] (fun s8 wr2 => ∃ t : Nat, t ≤ lx ∧ s8 = .int .i64 (t : Int) ∧ OwnN wr2 w1.heap.size w1.heap.size (m + 1) (fun j => if j = q + 1 then mxD (parL s.1) (((x.1.take t).map Int.toNat)) else if 1 ≤ j ∧ j ≤ q then depA (parL s.1) j else 0) ∧ Chg No w1 wr2) (fun s8 _ => lx - (intOf s8).toNat)
        case atStart => exact ⟨0, Nat.zero_le _, rfl, hB2, c2⟩
        case round =>
          obtain ⟨t, ht, rfl, hBt, ct⟩ := hrel
          clear hB2 c2 z1 z2
          by_cases htl : t < lx
          · have htl' : (t : Int) < (lx : Int) := by omega
            obtain ⟨p, hp⟩ : ∃ p, x.1[t]? = some p := ⟨_, List.getElem?_eq_getElem (by rw [HLx.out]; exact htl)⟩
            have hpk := HPk.out p (List.mem_of_getElem? hp)
            obtain ⟨pq, rfl⟩ : ∃ q : Nat, p = (q : Int) := ⟨p.toNat, by omega⟩
            obtain ⟨_, _, z4⟩ := HC.out wr ct
            obtain ⟨bp, op, rfl, hcp⟩ := z4.get1 (i := t) (x := iv (pq : Int)) (by rw [List.getElem?_map, hp]; rfl)
            have hpq1 : 1 ≤ pq ∧ pq ≤ q := by omega
            have hg1 := hBt.get (j := q + 1) (by omega)
            have hg2 := hBt.get (j := pq) (by omega)
            rw [if_pos rfl] at hg1
            rw [if_neg (by omega), if_pos hpq1] at hg2
            have HSn : Hid (mxD (parL s.1) ((x.1.take (t + 1)).map Int.toNat) = max (mxD (parL s.1) ((x.1.take t).map Int.toNat)) (depA (parL s.1) pq + 1)) := by
              show _ = _
              rw [List.take_add_one, hp, List.map_append, ← mxD_snoc]
              rfl
            have HSet : Hid (∀ k : Nat, (∃ x, (wr.drewN k).cell? ⟨w1.heap.size, q + 1, none⟩ = some x) ∧ (wr.drewN k).frozen? ⟨w1.heap.size, q + 1, none⟩ = false ∧ OwnN ((wr.drewN k).setCell ⟨w1.heap.size, q + 1, none⟩ (.int .i64 ((mxD (parL s.1) ((x.1.take (t + 1)).map Int.toNat) : Nat) : Int))) w1.heap.size w1.heap.size (m + 1) (fun j => if j = q + 1 then mxD (parL s.1) (((x.1.take (t + 1)).map Int.toNat)) else if 1 ≤ j ∧ j ≤ q then depA (parL s.1) j else 0) ∧ Chg No w1 ((wr.drewN k).setCell ⟨w1.heap.size, q + 1, none⟩ (.int .i64 ((mxD (parL s.1) ((x.1.take (t + 1)).map Int.toNat) : Nat) : Int)))) := fun k => by
              have hk : OwnN (wr.drewN k) w1.heap.size w1.heap.size (m + 1) (fun j => if j = q + 1 then mxD (parL s.1) (((x.1.take t).map Int.toNat)) else if 1 ≤ j ∧ j ≤ q then depA (parL s.1) j else 0) := row_kept hBt (fun _ _ => rfl)
              obtain ⟨h1, h2, h3⟩ := hk.set (p := q + 1) (b := mxD (parL s.1) ((x.1.take (t + 1)).map Int.toNat)) (g := fun j => if j = q + 1 then mxD (parL s.1) (((x.1.take (t + 1)).map Int.toNat)) else if 1 ≤ j ∧ j ≤ q then depA (parL s.1) j else 0) (by omega) (fun j _ => by
                by_cases e : j = q + 1
                · rw [if_pos e, if_pos e]
                · rw [if_neg e, if_neg e, if_neg e])
              exact ⟨h1, h2, h3, (drewNC ct k).setCell (p := ⟨w1.heap.size, q + 1, none⟩) (.inr (Nat.le_refl _)) _⟩
            generalize mxD (parL s.1) ((x.1.take t).map Int.toNat) = u0 at hg1 HSn
            have hd1 : depA (parL s.1) pq ≤ pq + 1 := depA_le HL.out pq
            generalize depA (parL s.1) pq = u1 at hg2 HSn hd1
            have hw : wrap64 ((u1 : Int) + 1) = (u1 : Int) + 1 := by unfold wrap64; omega
            have hpqm : (pq : Int) < (m : Int) + 1 := by omega
            obtain ⟨u2, HU2⟩ : ∃ u2, Hid (mxD (parL s.1) ((x.1.take (t + 1)).map Int.toNat) = u2) := ⟨_, rfl⟩
            rw [HU2.out] at HSn HSet
            have hmax : (max (u0 : Int) ((u1 : Int) + 1)) = (u2 : Int) := by rw [HSn.out]; omega
            have hmax2 : (if (u0 : Int) < (u1 : Int) + 1 then (u1 : Int) + 1 else (u0 : Int)) = (u2 : Int) := by rw [HSn.out]; split <;> omega
            clear z4 hBt
            gi_wp2
            refine region_store_lit hmix rfl (by kernel_rfl) (by kernel_rfl) rfl ?_
            simp only [lastHush, hush, List.replicate, List.length_cons, List.length_nil, List.nil_append, List.cons_append, Nat.reduceAdd, Nat.reduceSub]
            repeat (gi_big_quiet_step (fail))
            refine wpQuietIn_nil ?_
            rintro w' ⟨k, rfl⟩
            obtain ⟨⟨y1, hy1⟩, hyf1, hBs, cs⟩ := HSet.out k
            refine ⟨(wr.drewN k).setCell ⟨w1.heap.size, q + 1, none⟩ (.int .i64 (u2 : Int)), ?_, ?_⟩
            · simp [execOp, go_sem, hy1, hyf1]
            generalize (wr.drewN k).setCell ⟨w1.heap.size, q + 1, none⟩ (.int .i64 (u2 : Int)) = W7 at *
            clear hy1 hyf1
            gi_wp2
            refine ⟨⟨t + 1, htl, by go_num, by rw [← HU2.out] at hBs; exact hBs, cs⟩, by simp [intOf]; omega⟩
          · obtain rfl : t = lx := by omega
            have htl' : ¬ (t : Int) < (t : Int) := by omega
            have HE : Hid (nl (m + 1) (fun j => if j = q + 1 then mxD (parL s.1) (((x.1.take t).map Int.toNat)) else if 1 ≤ j ∧ j ≤ q then depA (parL s.1) j else 0) = nl (m + 1) (fun j => if 1 ≤ j ∧ j ≤ q + 1 then depA (parL s.1) j else 0)) := nl_congr (fun j _ => by
              by_cases e : j = q + 1
              · rw [if_pos e, if_pos (by omega), List.take_of_length_le (by rw [HLx.out]; exact Nat.le_refl _), ← HPar.out, mxD_all HL.out, e]
              · rw [if_neg e]
                by_cases e2 : 1 ≤ j ∧ j ≤ q
                · rw [if_pos e2, if_pos (by omega)]
                · rw [if_neg e2, if_neg (by omega)])
            gi_wp2
            refine ⟨⟨q + 1, hqm, by go_num, by show World.ownsRow _ _ _ _ _ _ _; rw [← HE.out]; exact hBt, ct⟩, by simp [intOf]; omega⟩
      · obtain rfl : q = m := by omega
        have hqm' : ¬ (q : Int) + 1 ≤ (q : Int) := by omega
        have hg := hB.get (j := q) (by omega)
        rw [if_pos ⟨hm1.1, Nat.le_refl _⟩, ← HF2.out] at hg
        gi_wp2
        go_ret
        exact ⟨rfl, c⟩

end Go.Proofs.YtbhhkfmjbgakbaaDoor

end
