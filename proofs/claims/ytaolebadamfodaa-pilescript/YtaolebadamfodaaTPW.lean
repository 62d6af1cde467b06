/-
  A pile in memory: its block, the row of its items.
-/
import Derived.Test.YtaolebadamfodaaBase
import Derived.Test.YtaolebadamfodaaHelp
import Derived.Test.YtaolebadamfodaaHeap
namespace Go.Proofs.Ytaolebadamfodaa.T
open Go.RowKit Go.Shelf Go.SeqLib Go.PileLib

/-- A function of two things that is true or false, and turns nothing. -/
def Less (lf : Nat) (lt : Int × Int → Int × Int → Bool) : Prop := (∀ a1 a2 b1 b2 W, CallsIn Fence.wide 0 Try.prog lf #[.agg #[.int .i64 a1, .int .i64 a2], .agg #[.int .i64 b1, .int .i64 b2]] W fun e W' => e = .returned (.bool (lt (a1, a2) (b1, b2))) ∧ Chg (fun _ => False) W W') ∧ ∀ args w, (callFunc lf args).run Try.prog w = .ok (.enter lf args) w

/-- An item's cells. -/
def eI (y : (Int × Int) × Int) : List Value := [.int .i64 y.1.1, .int .i64 y.1.2, .int .i64 y.2]
def flatI (its : List ((Int × Int) × Int)) : List Value := its.flatMap eI
theorem flatI_length (its : List ((Int × Int) × Int)) : (flatI its).length = its.length * 3 := flat_length (enc := eI) (s := 3) (fun _ => rfl) its
theorem flatI_set (its : List ((Int × Int) × Int)) (i : Nat) (y : (Int × Int) × Int) : (((flatI its).set (i * 3) (.int .i64 y.1.1)).set (i * 3 + 1) (.int .i64 y.1.2)).set (i * 3 + 2) (.int .i64 y.2) = flatI (its.set i y) := by
  induction its generalizing i with
  | nil => simp [flatI]
  | cons z t ih =>
    cases i with
    | zero => simp [flatI, eI]
    | succ i =>
      have e1 : (i + 1) * 3 = i * 3 + 1 + 1 + 1 := by omega
      have := ih i
      simp only [flatI] at this
      simp [flatI, eI, e1, this]

/-- What a slice owns it owns where its block lies on. -/
theorem rowKept {W W' : World} {base s : Nat} {e : TypeId} {v : Value} {n : Nat} {xs : List Value} (h : W.ownsRow base e s v n xs) (hk : ∀ k, v.ownBlock = some k → W'.heap[k]? = W.heap[k]?) : W'.ownsRow base e s v n xs := by
  refine ⟨h.1, ?_⟩
  rcases h.2 with hn | ⟨g, cap, cur, rfl, hb, hgg, rest⟩
  · exact .inl hn
  · exact .inr ⟨g, cap, cur, rfl, hb, (hk g rfl).trans hgg, rest⟩

/-- The row of its items, at block g. -/
def ItsAt (W : World) (g cap : Nat) (its : List ((Int × Int) × Int)) : Prop := W.ownsRow 0 65 3 (.slice (some ⟨g, 0, none⟩) its.length cap) its.length (flatI its)

theorem ItsAt.item {W : World} {g cap : Nat} {its : List ((Int × Int) × Int)} (h : ItsAt W g cap its) (i : Nat) (hi : i < its.length) :
    W.cell? ⟨g, i * 3, none⟩ = some (.int .i64 its[i].1.1) ∧ W.cell? ⟨g, i * 3 + 1, none⟩ = some (.int .i64 its[i].1.2) ∧ W.cell? ⟨g, i * 3 + 2, none⟩ = some (.int .i64 its[i].2) := by
  have h1 := World.ownsRow.cellAt h (i * 3) (by omega)
  have h2 := World.ownsRow.cellAt h (i * 3 + 1) (by omega)
  have h3 := World.ownsRow.cellAt h (i * 3 + 2) (by omega)
  have f1 := flat_get (enc := eI) (s := 3) (fun _ => rfl) its i 0 (by omega)
  have f2 := flat_get (enc := eI) (s := 3) (fun _ => rfl) its i 1 (by omega)
  have f3 := flat_get (enc := eI) (s := 3) (fun _ => rfl) its i 2 (by omega)
  simp [hi, eI] at f1 f2 f3
  exact ⟨h1.trans f1, h2.trans f2, h3.trans f3⟩
theorem ItsAt.frozen {W : World} {g cap : Nat} {its : List ((Int × Int) × Int)} (h : ItsAt W g cap its) (j : Nat) : W.frozen? ⟨g, j, none⟩ = false := World.ownsRow.frozenAt h j
theorem ItsAt.set {W : World} {g cap : Nat} {its : List ((Int × Int) × Int)} (h : ItsAt W g cap its) (i : Nat) (y : (Int × Int) × Int) :
    ItsAt (((W.setCell ⟨g, i * 3, none⟩ (.int .i64 y.1.1)).setCell ⟨g, i * 3 + 1, none⟩ (.int .i64 y.1.2)).setCell ⟨g, i * 3 + 2, none⟩ (.int .i64 y.2)) g cap (its.set i y) := by
  have h1 := (World.ownsRow.stored (World.ownsRow.stored (World.ownsRow.stored h (i * 3) (.int .i64 y.1.1)).1 (i * 3 + 1) (.int .i64 y.1.2)).1 (i * 3 + 2) (.int .i64 y.2)).1
  rw [flatI_set] at h1
  unfold ItsAt
  rw [List.length_set]
  exact h1
theorem ItsAt.lt {W : World} {g cap : Nat} {its : List ((Int × Int) × Int)} (h : ItsAt W g cap its) : g < W.heap.size := (World.ownsRow.lt h g rfl).2
theorem ItsAt.kept {W W' : World} {g cap : Nat} {its : List ((Int × Int) × Int)} (h : ItsAt W g cap its) (hk : W'.heap[g]? = W.heap[g]?) : ItsAt W' g cap its := rowKept h (fun k e => by cases e; exact hk)
theorem ItsAt.drew {W : World} {g cap : Nat} {its : List ((Int × Int) × Int)} (h : ItsAt W g cap its) : ItsAt W.drew g cap its := h.kept rfl
theorem ItsAt.take {W : World} {g cap : Nat} {its : List ((Int × Int) × Int)} (h : ItsAt W g cap its) (m : Nat) (hm : m ≤ its.length) : ItsAt W g cap (its.take m) := by
  have hf : flatI (its.take m) = (flatI its).take (m * 3) := by
    have e : flatI its = flatI (its.take m) ++ flatI (its.drop m) := by
      unfold flatI; rw [← List.flatMap_append, List.take_append_drop]
    rw [e, List.take_left' (by rw [flatI_length, List.length_take]; congr 1; omega)]
  have hl : (its.take m).length = m := by simp; omega
  rcases h.2 with ⟨h', _⟩ | ⟨g', cap', cur, h', hb, hg, hnc, hcm, hcs, htake⟩
  · simp at h'
  · simp only [Value.slice.injEq, Option.some.injEq, Addr.mk.injEq, and_true, true_and] at h'
    obtain ⟨rfl, rfl⟩ := h'
    unfold ItsAt
    rw [hl]
    refine ⟨by rw [flatI_length, hl], .inr ⟨g, cap, cur, rfl, hb, hg, by omega, hcm, hcs, ?_⟩⟩
    rw [hf, ← htake, List.take_take]
    congr 1
    omega
theorem ItsAt.cap {W : World} {g cap : Nat} {its : List ((Int × Int) × Int)} (h : ItsAt W g cap its) : its.length ≤ cap ∧ cap ≤ maxLen := by
  rcases h.2 with ⟨h', _⟩ | ⟨g', cap', cur, h', hb, hg, hnc, hcm, hcs, htake⟩
  · simp at h'
  · simp only [Value.slice.injEq, Option.some.injEq, Addr.mk.injEq, and_true, true_and] at h'
    obtain ⟨rfl, rfl⟩ := h'
    exact ⟨hnc, hcm⟩

/-- The pile's own block. -/
def PBox (W : World) (B lf : Nat) (v : Value) (puts : Int) : Prop := W.heap[B]? = some (.cells #[.func (.func lf) #[] #[], v, .int .i64 puts] 62)
theorem PBox.cells {W : World} {B lf : Nat} {v : Value} {puts : Int} (h : PBox W B lf v puts) : W.cell? ⟨B, 0, none⟩ = some (.func (.func lf) #[] #[]) ∧ W.cell? ⟨B, 1, none⟩ = some v ∧ W.cell? ⟨B, 2, none⟩ = some (.int .i64 puts) := by
  unfold PBox at h
  simp [World.cell?, h]
theorem PBox.frozen {W : World} {B lf : Nat} {v : Value} {puts : Int} (h : PBox W B lf v puts) (j : Nat) : W.frozen? ⟨B, j, none⟩ = false := by
  unfold PBox at h
  simp [World.frozen?, h]
theorem PBox.lt {W : World} {B lf : Nat} {v : Value} {puts : Int} (h : PBox W B lf v puts) : B < W.heap.size := (Array.getElem?_eq_some_iff.1 h).1
theorem PBox.set1 {W : World} {B lf : Nat} {v : Value} {puts : Int} (h : PBox W B lf v puts) (u : Value) : PBox (W.setCell ⟨B, 1, none⟩ u) B lf u puts := by
  unfold PBox at *
  rw [World.setCell, Array.getElem?_modify, if_pos rfl, h]
  simp
theorem PBox.set2 {W : World} {B lf : Nat} {v : Value} {puts : Int} (h : PBox W B lf v puts) (u : Int) : PBox (W.setCell ⟨B, 2, none⟩ (.int .i64 u)) B lf v u := by
  unfold PBox at *
  rw [World.setCell, Array.getElem?_modify, if_pos rfl, h]
  simp
theorem PBox.other {W : World} {B lf : Nat} {v : Value} {puts : Int} (h : PBox W B lf v puts) {a : Addr} (ha : B ≠ a.block) (u : Value) : PBox (W.setCell a u) B lf v puts := (Below.heap_setCell W a u B ha).trans h
/-- A row of items does not lie where a pile does. -/
theorem PBox.ne {W : World} {B lf : Nat} {v : Value} {puts : Int} (h : PBox W B lf v puts) {g cap : Nat} {its : List ((Int × Int) × Int)} (h2 : ItsAt W g cap its) : B ≠ g := by
  rintro rfl
  rcases h2.2 with ⟨h', _⟩ | ⟨g', cap', cur, h', hb, hg, _⟩
  · simp at h'
  · simp only [Value.slice.injEq, Option.some.injEq, Addr.mk.injEq, and_true, true_and] at h'
    obtain ⟨rfl, rfl⟩ := h'
    have := h.symm.trans hg
    simp at this

end Go.Proofs.Ytaolebadamfodaa.T
