/-
  Put, of one thing.
-/
import Derived.Test.YtaolebadamfodaaTPR
import Derived.Test.YtaolebadamfodaaTPQ
import Derived.Test.YtaolebadamfodaaApp
namespace Go.Proofs.Ytaolebadamfodaa.T
open Go.RowKit Go.Shelf Go.SeqLib Go.BigFrame Go.PileLib
attribute [local go_sem] Oper.semAt_some
attribute [local go_sem ↓] wpIn_append_pre

theorem info65 : (Try.prog.info? 65).map (fun i => (i.zero, i.size, i.bytes)) = some (some (Value.agg #[.int .i64 0, .int .i64 0, .int .i64 0]), 3, 24) := by kernel_rfl

/-- The items of a pile, and where they lie. -/
def PRow (W : World) (v : Value) (d : List ((Int × Int) × Int)) : Prop := W.ownsRow 0 65 3 v d.length (flatI d)

theorem PBox.ne' {W : World} {B lf : Nat} {v u : Value} {puts : Int} (h : PBox W B lf v puts) {n : Nat} {xs : List Value} (h2 : W.ownsRow 0 65 3 u n xs) : u.ownBlock ≠ some B := by
  intro e
  rcases h2.2 with ⟨rfl, _⟩ | ⟨g', cap', cur, rfl, hb, hg, _⟩
  · cases e
  · cases e
    have := h.symm.trans hg
    simp at this
theorem flatI_app (d : List ((Int × Int) × Int)) (y : (Int × Int) × Int) : flatI d ++ eI y = flatI (d ++ [y]) := by simp [flatI]

/-- A pile that holds what L tells. -/
def Pile (B lf : Nat) (lt : Int × Int → Int × Int → Bool) (L : List ((Int × Int) × Int)) (puts : Int) : Blk → World → Prop := fun S W =>
  ∃ v d, S = (fun k => k = B ∨ v.ownBlock = some k) ∧ PBox W B lf v puts ∧ PRow W v d ∧ PileLib.Good (bef lt) d L

theorem PRow.kept {W W' : World} {v : Value} {d : List ((Int × Int) × Int)} (h : PRow W v d) (hk : ∀ k, v.ownBlock = some k → W'.heap[k]? = W.heap[k]?) : PRow W' v d := rowKept h hk
theorem PRow.chg {W W' : World} {v : Value} {d : List ((Int × Int) × Int)} {S : Blk} (h : PRow W v d) (c : Chg S W W') (hd : ∀ k, v.ownBlock = some k → ¬ S k) : PRow W' v d := h.kept (fun k e => c.block k (World.ownsRow.lt h k e).2 (hd k e))

set_option maxRecDepth 100000 in
set_option maxHeartbeats 4000000 in
theorem put_one {lf : Nat} {key : Int × Int → Int} (hl : Less lf (ltK key)) (B : Nat) (L : List ((Int × Int) × Int)) (n : Nat) (hn : n ≤ 100000) (hlt2 : ∀ y ∈ L, y.2 < (n : Int)) (S : Blk) (hlen : L.length < 100000) (w : World) (x1 x2 : Int)
    (hP : Pile B lf (ltK key) L n S w) :
    CallsIn Fence.wide 0 Try.prog 12 #[.pointer (some ⟨B, 0, none⟩), .slice (some ⟨w.heap.size, 0, none⟩) 1 1] (w.alloc (.cells #[.int .i64 x1, .int .i64 x2] 27)) fun e w' => e = .returned (.tuple #[]) ∧ ∃ S', Pile B lf (ltK key) (ins (bef (ltK key)) L ((x1, x2), n)) (n + 1 : Nat) S' w' ∧ Chg S w w' ∧ Grew S w S' := by
  obtain ⟨i0, hi0, hz0, hz1, hz2⟩ := info_parts info65
  have hmix : Try.prog.follows .mixedOrders = true := by kernel_rfl
  refine callsIn_of_wp Try.func12 rfl trivial ?_
  simp only [Try.ntmps12, List.size_toArray, List.length_cons, List.length_nil, Nat.reduceAdd, Nat.reduceSub, Array.replicate_succ, Array.replicate_zero, List.push_toArray, List.append_toArray, List.nil_append, List.cons_append]
  gi_wp2
  gi_loopw [10] (fun i wr => (i = .int .i64 0 ∧ wr = w.alloc (.cells #[.int .i64 x1, .int .i64 x2] 27)) ∨ (i = .int .i64 1 ∧ ∃ S', Pile B lf (ltK key) (ins (bef (ltK key)) L ((x1, x2), n)) (n + 1 : Nat) S' wr ∧ Chg S w wr ∧ Grew S w S')) (fun i _ => 1 - (intOf i).toNat)
  case atStart => exact .inl ⟨rfl, rfl⟩
  case round =>
    rcases hrel with ⟨rfl, rfl⟩ | ⟨rfl, S', hP', c', g'⟩
    · obtain ⟨v, d, rfl, hb, hr, hg⟩ := hP
      gi_wp2
      have c0 : Chg (fun _ => False) w ((w.alloc (.cells #[.int .i64 x1, .int .i64 x2] 27)).alloc (.cells #[.int .i64 x1, .int .i64 x2] 27)) := ((Chg.refl _ w).alloc _).alloc _
      have hX0 : ((w.alloc (.cells #[.int .i64 x1, .int .i64 x2] 27)).alloc (.cells #[.int .i64 x1, .int .i64 x2] 27)).heap[w.heap.size + 1]? = some (.cells #[.int .i64 x1, .int .i64 x2] 27) := by
        have := World.alloc_heap_new (w.alloc (.cells #[.int .i64 x1, .int .i64 x2] 27)) (.cells #[.int .i64 x1, .int .i64 x2] 27)
        rw [World.size_alloc] at this
        exact this
      obtain ⟨X, hX⟩ : ∃ X, w.heap.size + 1 = X := ⟨_, rfl⟩
      rw [hX] at hX0 ⊢
      generalize ((w.alloc (.cells #[.int .i64 x1, .int .i64 x2] 27)).alloc (.cells #[.int .i64 x1, .int .i64 x2] 27)) = wr at c0 hX0 ⊢
      have hbx : PBox wr B lf v n := c0.same hb (fun h => h)
      have hrx : PRow wr v d := hr.chg c0 (fun _ _ h => h)
      have m1 : wr.cell? ⟨X, 0, none⟩ = some (.int .i64 x1) := by simp [World.cell?, hX0]
      have m2 : wr.cell? ⟨X, 1, none⟩ = some (.int .i64 x2) := by simp [World.cell?, hX0]
      have hXl : X < wr.heap.size := (Array.getElem?_eq_some_iff.1 hX0).1
      obtain ⟨q0, q1, q2⟩ := hbx.cells
      have f1 := hbx.frozen 1
      have f2 := hbx.frozen 2
      have hBl := hbx.lt
      have HD : Hid (d.length = L.length) := hg.perm.length_eq
      have hdl : d.length ≤ 200000 := by have := HD.out; omega
      have n1 : wr.heap.size ≠ B := by omega
      have n2 : wr.heap.size ≠ X := by omega
      have hW1 : (wr.alloc (.cells #[.int .i64 x1, .int .i64 x2, .int .i64 n] 65)).drew.ownsRow 0 65 3 v d.length (flatI d) := rowKept hrx (fun k e => (Below.heap_alloc wr _ k ((World.ownsRow.lt hrx k e).2)))
      obtain ⟨v', w1, hok, hv', hw', hown', hgrow, hat⟩ := app_own (P := Try.prog) (wr.alloc (.cells #[.int .i64 x1, .int .i64 x2, .int .i64 n] 65)).drew 0 60 60 65 i0 _ 3 24 Try.underlying60 hi0 hz0 hz1 hz2 rfl (by decide) v d.length (flatI d) hW1 ⟨wr.heap.size, 0, none⟩ 1 1 (eI ((x1, x2), n)) rfl (by
        intro j u hj
        match j, hj with
        | 0, hj => simp [eI] at hj; subst hj; simp [Addr.add]
        | 1, hj => simp [eI] at hj; subst hj; simp [Addr.add]
        | 2, hj => simp [eI] at hj; subst hj; simp [Addr.add]) (by simp [eI, Value.oneCell']) (by unfold maxLen; omega) (by omega) (Nat.zero_le _)
      have hbW : PBox (wr.alloc (.cells #[.int .i64 x1, .int .i64 x2, .int .i64 n] 65)).drew B lf v n := (Below.heap_alloc wr _ B hbx.lt).trans hbx
      have hb1 : PBox w1 B lf v n := (hgrow.block B hbW.lt (fun e => hbW.ne' hW1 e.symm)).trans hbW
      have hb2 := hb1.set1 v'
      have hb3 := hb2.set2 ((n : Int) + 1)
      obtain ⟨_, r1, _⟩ := hb1.cells
      have s1 := hb1.frozen 1
      obtain ⟨_, _, t2⟩ := hb2.cells
      have s2 := hb2.frozen 2
      obtain ⟨g', cap', rfl⟩ := ownsRow_succ hown'
      obtain ⟨_, u1, _⟩ := hb3.cells
      have hne' : B ≠ g' := fun e => hb1.ne' hown' (by rw [e]; rfl)
      have hIt : ItsAt ((w1.setCell ⟨B, 1, none⟩ (.slice (some ⟨g', 0, none⟩) (d.length + 1) cap')).setCell ⟨B, 2, none⟩ (.int .i64 ((n : Int) + 1))) g' cap' (d ++ [((x1, x2), (n : Int))]) := by
        unfold ItsAt
        rw [← flatI_app, List.length_append, List.length_singleton]
        exact rowKept hown' (fun k e => by cases e; exact (Below.heap_setCell _ _ _ _ (Ne.symm hne')).trans (Below.heap_setCell _ _ _ _ (Ne.symm hne')))
      gi_wp2
      gi_region_o
      all_goals gi_wp2_with fail
      have hlen' : (d ++ [((x1, x2), (n : Int))]).length = d.length + 1 := by simp
      have hr3 := rise_in hl (bef_ord key) B g' cap' ((n : Int) + 1) (d ++ [((x1, x2), (n : Int))]) d.length _ (by rw [hlen']; omega) (by rw [hlen']; omega) (by rw [hlen']; exact hb3) hIt (heap_put hg.heap ((x1, x2), (n : Int)))
      refine ⟨trivial, rfl, hr3.mono ?_⟩
      rintro e w2 ⟨rfl, d2, hpm, hh, hI2, c2⟩
      have hb4 : PBox w2 B lf (.slice (some ⟨g', 0, none⟩) (d.length + 1) cap') ((n : Int) + 1) := c2.same hb3 hne'
      have c1 : Chg (fun k => k = B ∨ v.ownBlock = some k) w ((w1.setCell ⟨B, 1, none⟩ (.slice (some ⟨g', 0, none⟩) (d.length + 1) cap')).setCell ⟨B, 2, none⟩ (.int .i64 ((n : Int) + 1))) :=
        (((((c0.mono (fun _ h => h.elim)).alloc _).drew).grown hgrow (fun k e => .inl (.inr e))).setCell (p := ⟨B, 1, none⟩) (.inl (.inl rfl)) _).setCell (p := ⟨B, 2, none⟩) (.inl (.inl rfl)) _
      have gg : v.ownBlock = some g' ∨ w.heap.size ≤ g' := by
        rcases hat with h | h
        · exact .inl h.symm
        · cases h; exact .inr (by have := c0.size; simp; omega)
      have c3 : Chg (fun k => k = B ∨ v.ownBlock = some k) w w2 := c1.trans c2 (fun k hk => by
        subst hk
        rcases gg with h | h
        · exact .inl (.inr h)
        · exact .inr h)
      have g3 : Grew (fun k => k = B ∨ v.ownBlock = some k) w (fun k => k = B ∨ (Value.slice (some ⟨g', 0, none⟩) (d.length + 1) cap').ownBlock = some k) := by
        rintro k (h | h)
        · exact .inl (.inl h)
        · cases h
          rcases gg with h | h
          · exact .inl (.inr h)
          · exact .inr h
      have hgood : PileLib.Good (bef (ltK key)) d2 (ins (bef (ltK key)) L ((x1, x2), (n : Int))) :=
        ⟨hh, hpm.trans ((hg.perm.append_right [((x1, x2), (n : Int))]).trans (ins_perm L ((x1, x2), (n : Int))).symm), ins_sort (bef_ord key) hg.sort (fun y hy hf => bef_new key y ((x1, x2), (n : Int)) (hlt2 y hy) hf)⟩
      have hd2 : d2.length = d.length + 1 := hpm.length_eq.trans hlen'
      have hrow2 : PRow w2 (.slice (some ⟨g', 0, none⟩) (d.length + 1) cap') d2 := by
        have := hI2
        unfold ItsAt at this
        unfold PRow
        rw [hd2] at this ⊢
        exact this
      have HP : Hid (Pile B lf (ltK key) (ins (bef (ltK key)) L ((x1, x2), (n : Int))) (n + 1 : Nat) (fun k => k = B ∨ (Value.slice (some ⟨g', 0, none⟩) (d.length + 1) cap').ownBlock = some k) w2) := ⟨_, d2, rfl, hb4, hrow2, hgood⟩
      clear hd2 hlen' hr3 hgood hrow2 hb4 hb1 hb2 hb3 hI2 hIt hown'
      gi_wp2
      go_roundw
      case rel => exact .inr ⟨rfl, _, HP.out, c3, g3⟩
      case measure => simp [intOf]
    · have HP : Hid (Pile B lf (ltK key) (ins (bef (ltK key)) L ((x1, x2), n)) (n + 1 : Nat) S' wr) := hP'
      clear hP'
      gi_wp2
      go_end0
      exact ⟨rfl, S', HP.out, c', g'⟩
end Go.Proofs.Ytaolebadamfodaa.T
