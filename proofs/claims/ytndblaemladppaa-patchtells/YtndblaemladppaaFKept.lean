/-
  The statements' own LendFiles and KeptFiles.
-/
import Derived.Test.YtndblaemladppaaGFile
namespace Go.Proofs.Ytndblaemladppaa
open Go.RowKit Go.Shelf Go.SeqLib Go.DiffLib Go.TreeLib
attribute [local go_sem] Oper.semAt_some

/-- The mark of the room that is lent. -/
abbrev lentF : Fl := (⟨#[108, 101, 110, 116]⟩, ⟨#[]⟩)

/-- The room behind a row: k of its files bear the mark; the row is as it was. -/
def roomF (w : World) (g n : Nat) (vals : List Value) (k : Nat) (wr : World) : Prop :=
  wr.ownsRow w.heap.size 43 2 (.slice (some ⟨g, 0, none⟩) n (n + 3)) n vals ∧ Chg No w wr ∧ ∀ j, j < k → wr.cell? ⟨g, n * 2 + j * 2, none⟩ = some (.string lentF.1) ∧ wr.cell? ⟨g, n * 2 + j * 2 + 1, none⟩ = some (.string lentF.2)

theorem roomF.step {w wr : World} {g n k : Nat} {vals : List Value} (h : roomF w g n vals k wr) (hk : k < 3) (hg : w.heap.size ≤ g) :
    (∃ x, wr.cell? ⟨g, n * 2 + k * 2, none⟩ = some x) ∧ wr.frozen? ⟨g, n * 2 + k * 2, none⟩ = false ∧ (∃ x, (wr.setCell ⟨g, n * 2 + k * 2, none⟩ (.string lentF.1)).cell? ⟨g, n * 2 + k * 2 + 1, none⟩ = some x) ∧ (wr.setCell ⟨g, n * 2 + k * 2, none⟩ (.string lentF.1)).frozen? ⟨g, n * 2 + k * 2 + 1, none⟩ = false ∧
      (∃ x, wr.cell? ⟨g, n * 2 + k * 2 + 1, none⟩ = some x) ∧ wr.frozen? ⟨g, n * 2 + k * 2 + 1, none⟩ = false ∧
      roomF w g n vals (k + 1) ((wr.setCell ⟨g, n * 2 + k * 2, none⟩ (.string lentF.1)).setCell ⟨g, n * 2 + k * 2 + 1, none⟩ (.string lentF.2)) := by
  obtain ⟨hr, c, hl⟩ := h
  obtain ⟨⟨x, hcx⟩, hf, ys, hr2, hys⟩ := rowPutF hr (j := n * 2 + k * 2) (by omega) (.string lentF.1)
  obtain rfl := hys (by omega)
  obtain ⟨⟨x2, hcx2⟩, hf2, ys, hr3, hys⟩ := rowPutF hr2 (j := n * 2 + k * 2 + 1) (by omega) (.string lentF.2)
  obtain rfl := hys (by omega)
  obtain ⟨⟨x3, hcx3⟩, hf3, _⟩ := rowPutF hr (j := n * 2 + k * 2 + 1) (by omega) (.string lentF.2)
  refine ⟨⟨x, hcx⟩, hf, ⟨x2, hcx2⟩, hf2, ⟨x3, hcx3⟩, hf3, hr3, (c.setCell (p := ⟨g, n * 2 + k * 2, none⟩) (.inr hg) (.string lentF.1)).setCell (p := ⟨g, n * 2 + k * 2 + 1, none⟩) (.inr hg) (.string lentF.2), fun j hj => ?_⟩
  have hne : ∀ a b : Nat, a ≠ b → (⟨g, a, none⟩ : Addr) ≠ ⟨g, b, none⟩ := fun a b h e => h (by rw [Addr.mk.injEq] at e; exact e.2.1)
  by_cases e : j = k
  · subst e
    refine ⟨?_, World.cell?_setCell_same' _ _ _ (by rw [hcx2]; rfl)⟩
    rw [World.cell?_setCell_other _ _ _ _ (hne _ _ (by omega))]
    exact World.cell?_setCell_same' _ _ _ (by rw [hcx]; rfl)
  · obtain ⟨q1, q2⟩ := hl j (by omega)
    refine ⟨?_, ?_⟩
    · rw [World.cell?_setCell_other _ _ _ _ (hne _ _ (by omega)), World.cell?_setCell_other _ _ _ _ (hne _ _ (by omega))]; exact q1
    · rw [World.cell?_setCell_other _ _ _ _ (hne _ _ (by omega)), World.cell?_setCell_other _ _ _ _ (hne _ _ (by omega))]; exact q2

/-- What is lent: the row, the mark in its room behind it, a block of its own. -/
def LentF (w w' : World) (v : Value) (zs : List Fl) : Prop :=
  ∃ g, v = .slice (some ⟨g, 0, none⟩) zs.length (zs.length + 3) ∧ w.heap.size ≤ g ∧ SlF w' (.slice (some ⟨g, 0, none⟩) (zs.length + 3) (zs.length + 3)) (zs ++ [lentF, lentF, lentF])

theorem roomF.lent {w wr : World} {g : Nat} {zs : List Fl} (h : roomF w g zs.length (zs.flatMap eF) 3 wr) (hm : zs.length + 3 ≤ maxLen) (hg : w.heap.size ≤ g) : LentF w wr (.slice (some ⟨g, 0, none⟩) zs.length (zs.length + 3)) zs := by
  obtain ⟨hr, c, hl⟩ := h
  have hsl : SlF wr (.slice (some ⟨g, 0, none⟩) zs.length (zs.length + 3)) zs := OwnF.sl hr
  refine ⟨g, rfl, hg, _, _, by simp, by simp, hm, fun i x hi => ⟨g, 0, rfl, fun q u hu => ?_⟩⟩
  have hq : q < 2 := by rw [← eF_len x]; exact (List.getElem?_eq_some_iff.1 hu).1
  rw [Nat.zero_add]
  rw [List.getElem?_append] at hi
  split at hi
  · obtain ⟨b, off, e, k1, k2⟩ := SlF.at hsl i x hi
    cases e
    rw [Nat.zero_add] at k1 k2
    match q, hq with
    | 0, _ => cases hu; exact k1
    | 1, _ => cases hu; exact k2
  · rename_i hge
    obtain ⟨j, rfl⟩ : ∃ j, i = zs.length + j := ⟨i - zs.length, by omega⟩
    rw [show zs.length + j - zs.length = j by omega] at hi
    have hj : j < 3 := by
      have := (List.getElem?_eq_some_iff.1 hi).1
      simpa using this
    have hx : x = lentF := by
      match j, hj with
      | 0, _ => simpa using hi.symm
      | 1, _ => simpa using hi.symm
      | 2, _ => simpa using hi.symm
    subst hx
    obtain ⟨k1, k2⟩ := hl j hj
    rw [show (zs.length + j) * 2 = zs.length * 2 + j * 2 by omega]
    match q, hq with
    | 0, _ => cases hu; exact k1
    | 1, _ => cases hu; exact k2

theorem LentF.no {w w1 w2 : World} {v : Value} {zs : List Fl} (h : LentF w w1 v zs) (c : Chg No w1 w2) : LentF w w2 v zs := by
  obtain ⟨g, e, hg, hs⟩ := h
  exact ⟨g, e, hg, SlF.no hs c⟩
theorem LentF.chg {w w1 w2 : World} {v : Value} {zs : List Fl} (h : LentF w w1 v zs) {S : Blk} (c : Chg S w1 w2) (hd : ∀ k, v.ownBlock = some k → ¬ S k) : LentF w w2 v zs := by
  obtain ⟨g, rfl, hg, hs⟩ := h
  exact ⟨g, rfl, hg, SlF.chg hs c (fun k hk => hd k hk.2)⟩
theorem LentF.row {w w1 : World} {v : Value} {zs : List Fl} (h : LentF w w1 v zs) : SlF w1 v zs := by
  obtain ⟨g, rfl, hg, p, cap, e, h1, h2, hc⟩ := h
  rw [Value.slice.injEq] at e
  obtain ⟨rfl, _, rfl⟩ := e
  refine ⟨_, _, rfl, by omega, h2, fun i x hi => hc i x ?_⟩
  rw [List.getElem?_append_left (List.getElem?_eq_some_iff.1 hi).1]
  exact hi

set_option maxRecDepth 100000 in
set_option maxHeartbeats 1000000 in
theorem lendF_in (v : Value) (zs : List Fl) (hlen : zs.length ≤ 1000) (w : World) (hv : SlF w v zs) : CallsIn Fence.wide 0 Try.prog 6 #[v] w fun e w' =>
    ∃ v', e = .returned v' ∧ LentF w w' v' zs ∧ OwnF w' w.heap.size v' zs ∧ Chg No w w' := by
  obtain ⟨i0, hi, hz0, hz1, hz2⟩ := info_parts info43
  obtain ⟨p, cap, rfl, h1, h2⟩ := hv.slice
  cases p with
  | none =>
    have hz : zs = [] := by
      cases zs with
      | nil => rfl
      | cons x r => obtain ⟨b, off, h, _⟩ := SlF.at hv 0 x rfl; cases h
    subst hz
    refine callsIn_of_wp Try.func6 rfl trivial ?_
    simp only [Try.ntmps6, List.size_toArray, List.length_cons, List.length_nil, Nat.reduceAdd, Nat.reduceSub, Array.replicate_succ, Array.replicate_zero, List.push_toArray, List.append_toArray, List.nil_append, List.cons_append]
    gi_wp2_with (first
      | (gi_at_make; refine wpListIn_make_own _ rfl _ _ 22 rfl w.heap.size 43 i0 (.agg #[.string ⟨#[]⟩, .string ⟨#[]⟩]) 2 Try.underlying22 hi hz0 hz1 .i64 .i64 3 3 rfl rfl (by omega) (by rw [hz2]; omega) (by unfold maxLen; omega) (Nat.le_refl _) ?_; intro w2 hown2 hgrow1; have c2 : Chg No w w2 := (Chg.refl _ w).grown hgrow1 (fun k e => by cases e)))
    gi_loopw [5] (fun i wr => ∃ k : Nat, k ≤ 3 ∧ i = .int .i64 (k : Int) ∧ roomF w w.heap.size 0 [] k wr) (fun i _ => 3 - (intOf i).toNat)
    case atStart => exact ⟨0, by omega, rfl, by simpa using hown2, c2, fun j h => by omega⟩
    case round =>
      obtain ⟨k, hk, rfl, hr⟩ := hrel
      by_cases hlt : k < 3
      · obtain ⟨⟨x, hcx⟩, hf, ⟨x2, hcx2⟩, hf2, ⟨x3, hcx3⟩, hf3, hr2⟩ := hr.step hlt (Nat.le_refl _)
        simp only [Nat.zero_mul, Nat.zero_add] at hcx hf hcx2 hf2 hcx3 hf3 hr2
        gi_wp2
        go_roundw
        case rel => exact ⟨k + 1, hlt, by go_num, hr2⟩
        case measure => simp [intOf]; omega
      · obtain rfl : k = 3 := by omega
        gi_wp2
        go_ret
        exact ⟨_, rfl, roomF.lent (zs := []) hr (by unfold maxLen; decide) (Nat.le_refl _), hr.1, hr.2.1⟩
  | some a =>
    have hone := flatF_one zs
    have hnews : ∀ w1 : World, Chg No w w1 → ∀ j u, (zs.flatMap eF)[j]? = some u → w1.cell? (a.add j) = some u := fun w1 c1 => flatF_cells (hv.no c1)
    have hvn : Hid ((zs.flatMap eF).length = zs.length * 2) := flatF_length zs
    have HLen : Hid (∀ wr g, roomF w g zs.length (zs.flatMap eF) 3 wr → w.heap.size ≤ g → LentF w wr (.slice (some ⟨g, 0, none⟩) zs.length (zs.length + 3)) zs ∧ OwnF wr w.heap.size (.slice (some ⟨g, 0, none⟩) zs.length (zs.length + 3)) zs) := fun wr g h hg => ⟨h.lent (by unfold maxLen; omega) hg, h.1⟩
    clear hv
    generalize zs.flatMap eF = vals at *
    obtain ⟨n, HN⟩ : ∃ n, Hid (zs.length = n) := ⟨_, rfl⟩
    rw [HN.out] at h1 hlen hvn HLen ⊢
    have hmx : n + 3 ≤ maxLen := by unfold maxLen; omega
    refine callsIn_of_wp Try.func6 rfl trivial ?_
    simp only [Try.ntmps6, List.size_toArray, List.length_cons, List.length_nil, Nat.reduceAdd, Nat.reduceSub, Array.replicate_succ, Array.replicate_zero, List.push_toArray, List.append_toArray, List.nil_append, List.cons_append]
    gi_wp2_with (first
      | (gi_at_make; refine wpListIn_make_own _ rfl _ _ 22 rfl w.heap.size 43 i0 (.agg #[.string ⟨#[]⟩, .string ⟨#[]⟩]) 2 Try.underlying22 hi hz0 hz1 .i64 .i64 ((n : Int) + 3) (n + 3) rfl rfl (by omega) (by rw [hz2]; omega) hmx (Nat.le_refl _) ?_; intro w1 hown1 hgrow1; have c1 : Chg No w w1 := (Chg.refl _ w).grown hgrow1 (fun k e => by cases e))
      | (gi_at_builtin; refine wpListIn_append_fits _ rfl _ _ 22 rfl w.heap.size 43 i0 2 Try.underlying22 hi hz1 w.heap.size 0 (n + 3) _ rfl hown1 a n cap vals rfl hvn.out (hnews w1 c1) hone (by omega) ?_; intro w2 hown2 hgrow2; have c2 : Chg No w w2 := c1.grown hgrow2 (fun k e => by cases e; exact .inr (Nat.le_refl _))))
    rw [show n + 3 - n = 3 by omega]
    gi_loopw [5] (fun i wr => ∃ k : Nat, k ≤ 3 ∧ i = .int .i64 (k : Int) ∧ roomF w w.heap.size n vals k wr) (fun i _ => 3 - (intOf i).toNat)
    case atStart => exact ⟨0, by omega, rfl, by simpa using hown2, c2, fun j h => by omega⟩
    case round =>
      obtain ⟨k, hk, rfl, hr⟩ := hrel
      by_cases hlt : k < 3
      · obtain ⟨⟨x, hcx⟩, hf, ⟨x2, hcx2⟩, hf2, ⟨x3, hcx3⟩, hf3, hr2⟩ := hr.step hlt (Nat.le_refl _)
        gi_wp2
        go_roundw
        case rel => exact ⟨k + 1, hlt, by go_num, hr2⟩
        case measure => simp [intOf]; omega
      · obtain rfl : k = 3 := by omega
        gi_wp2
        go_ret
        exact ⟨_, rfl, (HLen.out _ _ hr (Nat.le_refl _)).1, (HLen.out _ _ hr (Nat.le_refl _)).2, hr.2.1⟩

set_option maxRecDepth 100000 in
set_option maxHeartbeats 1000000 in
theorem keptF_in (v u : Value) (zs : List Fl) (hlen : zs.length ≤ 1000) (w0 w : World) (hv : LentF w0 w v zs) (hu : SlF w u zs) : CallsIn Fence.wide 0 Try.prog 14 #[v, u] w fun e w' =>
    e = .returned (.bool true) ∧ Chg No w w' := by
  have HR : Hid (SlF w v zs) := hv.row
  have HU : Hid (SlF w u zs) := hu
  have hgd := guard_file
  have hne : ∀ w, (binOp .neq 43 (.agg #[.string ⟨#[108, 101, 110, 116]⟩, .string ⟨#[]⟩]) (.agg #[.string ⟨#[108, 101, 110, 116]⟩, .string ⟨#[]⟩])).run Try.prog w = .ok (.bool false) w := fun w => by
    have := run_neq_file lentF lentF w
    rw [decide_eq_true rfl] at this
    exact this
  obtain ⟨g, rfl, hg, hs⟩ := hv
  obtain ⟨pu, capu, rfl, _⟩ := hu.slice
  have hroom : ∀ j, j < 3 → w.cell? ⟨g, zs.length * 2 + j * 2, none⟩ = some (.string ⟨#[108, 101, 110, 116]⟩) ∧ w.cell? ⟨g, zs.length * 2 + j * 2 + 1, none⟩ = some (.string ⟨#[]⟩) := by
    intro j hj
    obtain ⟨b, off, e, k1, k2⟩ := SlF.at hs (zs.length + j) lentF (by
      rw [List.getElem?_append_right (Nat.le_add_right _ _), show zs.length + j - zs.length = j by omega]
      match j, hj with
      | 0, _ => rfl
      | 1, _ => rfl
      | 2, _ => rfl)
    cases e
    rw [Nat.zero_add, show (zs.length + j) * 2 = zs.length * 2 + j * 2 by omega] at k1 k2
    exact ⟨k1, k2⟩
  clear hs
  obtain ⟨m, HM⟩ : ∃ m, Hid (zs.length = m) := ⟨_, rfl⟩
  rw [HM.out] at HR HU hroom hlen ⊢
  refine callsIn_of_wp Try.func14 rfl trivial ?_
  simp only [Try.ntmps14, List.size_toArray, List.length_cons, List.length_nil, Nat.reduceAdd, Nat.reduceSub, Array.replicate_succ, Array.replicate_zero, List.push_toArray, List.append_toArray, List.nil_append, List.cons_append]
  gi_wp2
  rw [show m + 3 - m = 3 by omega]
  gi_loopw [6] (fun i wr => ∃ k : Nat, k ≤ 3 ∧ i = .int .i64 (k : Int) ∧ wr = w) (fun i _ => 3 - (intOf i).toNat)
  case atStart => exact ⟨0, by omega, rfl, rfl⟩
  case round =>
    obtain ⟨k, hk, rfl, rfl⟩ := hrel
    by_cases hlt : k < 3
    · obtain ⟨hcx, hcy⟩ := hroom k hlt
      gi_wp2
      go_roundw
      case rel => exact ⟨k + 1, hlt, by go_num, trivial⟩
      case measure => simp [intOf]; omega
    · obtain rfl : k = 3 := by omega
      gi_wp2_with fail
      refine ⟨trivial, rfl, (sameF_in _ _ zs zs _ HR.out HU.out (by rw [HM.out]; omega)).mono ?_⟩
      rintro e w1 ⟨rfl, c1⟩
      rw [decide_eq_true rfl]
      gi_wp2
      go_ret
      exact ⟨rfl, c1⟩

end Go.Proofs.Ytndblaemladppaa
