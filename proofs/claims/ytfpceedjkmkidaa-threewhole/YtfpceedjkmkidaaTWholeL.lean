/-
  What ThreeWhole leans on: pieces, one behind the other; three lists that grow.
-/
import Derived.Test.YtfpceedjkmkidaaTSidesW
import Derived.Test.YtfpceedjkmkidaaLoudP
namespace Go.DiffLib
section
variable {α : Type}
theorem any_take (ps : List (Prt α)) (k : Nat) (p : Prt α) (hk : ps[k]? = some p) : (ps.take (k + 1)).any (·.c) = ((ps.take k).any (·.c) || p.c) := by
  obtain ⟨h1, h2⟩ := List.getElem?_eq_some_iff.1 hk
  rw [List.take_succ_eq_append_getElem h1, List.any_append, h2]
  simp
theorem flat_take {β : Type} (f : Prt α → List β) (ps : List (Prt α)) (k : Nat) (p : Prt α) (hk : ps[k]? = some p) : (ps.take (k + 1)).flatMap f = (ps.take k).flatMap f ++ f p := by
  obtain ⟨h1, h2⟩ := List.getElem?_eq_some_iff.1 hk
  rw [List.take_succ_eq_append_getElem h1, List.flatMap_append, h2]
  simp
/-- Where it lies in all of them. -/
theorem flat_cut {β : Type} (f : Prt α → List β) (ps : List (Prt α)) (k : Nat) (p : Prt α) (hk : ps[k]? = some p) :
    ((ps.flatMap f).take (((ps.take k).flatMap f).length + (f p).length)).drop ((ps.take k).flatMap f).length = f p ∧ ((ps.take k).flatMap f).length + (f p).length ≤ (ps.flatMap f).length := by
  have h := flat_take f ps k p hk
  have e : ps.flatMap f = ((ps.take k).flatMap f ++ f p) ++ (ps.drop (k + 1)).flatMap f := by
    rw [← h, ← List.flatMap_append, List.take_append_drop]
  clear h
  generalize (ps.take k).flatMap f = A at *
  rw [e]
  constructor
  · rw [List.take_append_of_le_length (by simp), List.take_of_length_le (by simp), List.drop_left]
  · simp
end
section
variable {α : Type} [DecidableEq α]
/-- One piece of a part. -/
def pcs (p : Prt α) : List α := if p.o = p.a then p.b else p.a
theorem pick_pcs (o a b : List α) (h : (mk3 o a b).c = false) : pick (mk3 o a b) = pcs (mk3 o a b) := by
  rw [mk3_c] at h
  unfold pick pcs mk3
  simp only
  by_cases h1 : o = a
  · rw [if_pos h1]
    split
    · rename_i h2
      rcases h2 with h2 | h2
      · exact h2
      · rw [h2]; exact h1.symm
    · rfl
  · rw [if_neg h1, if_pos]
    rcases h with h | h | h
    · exact .inl h
    · exact absurd h.symm h1
    · exact .inr h
theorem gather_pcs (ps : List (Prt α)) (hp : ∀ p ∈ ps, p = mk3 p.o p.a p.b) (m : List α) (h : gather ps = some m) : m = ps.flatMap pcs := by
  by_cases hc : ∀ p ∈ ps, p.c = false
  · rw [gather_some ps hc] at h
    cases h
    refine flat_same (fun p hq => ?_)
    have := hp p hq
    rw [this]
    exact pick_pcs _ _ _ (by rw [← this]; exact hc p hq)
  · rw [gather_none ps hc] at h
    cases h
theorem gather_ok (ps : List (Prt α)) : (gather ps).isSome = !ps.any (·.c) := by
  induction ps with
  | nil => rfl
  | cons p r ih =>
    rw [gather, List.any_cons]
    cases p.c with
    | true => rfl
    | false =>
      rw [if_neg (by simp), Bool.false_or, ← ih]
      cases gather r <;> rfl
theorem mk3_val (p : Prt α) (h : p = mk3 p.o p.a p.b) : p.c = (!decide (p.o = p.a) && (!decide (p.o = p.b) && !decide (p.a = p.b))) := by
  have : p.c = (mk3 p.o p.a p.b).c := congrArg Prt.c h
  rw [this]
  unfold mk3
  simp only
  by_cases h1 : p.a = p.b
  · simp [h1]
  · by_cases h2 : p.a = p.o
    · simp [h2]
    · by_cases h3 : p.b = p.o
      · simp [h3]
      · have h2' : ¬ p.o = p.a := fun e => h2 e.symm
        have h3' : ¬ p.o = p.b := fun e => h3 e.symm
        simp [h1, h2, h3, h2', h3']
end
end Go.DiffLib
namespace Go.Proofs.Ytfpceedjkmkidaa
open Go.RowKit Go.Shelf Go.SeqLib Go.DiffLib

/-- Three lists that are owned, apart, wherever they lie. -/
structure Tri (W : World) (base : Nat) (x y z : Value) (X Y Z : List ByteArray) : Prop where
  rx : W.ownsRow base 9 1 x X.length (X.map Value.string)
  ry : W.ownsRow base 9 1 y Y.length (Y.map Value.string)
  rz : W.ownsRow base 9 1 z Z.length (Z.map Value.string)
  xy : Dis x y
  xz : Dis x z
  yz : Dis y z
section
variable {W W' : World} {base : Nat} {x y z x' : Value} {X Y Z P : List ByteArray}
theorem Tri.nil (W : World) (base : Nat) : Tri W base (.slice none 0 0) (.slice none 0 0) (.slice none 0 0) [] [] [] :=
  ⟨World.ownsRow_nil _ _ _ _, World.ownsRow_nil _ _ _ _, World.ownsRow_nil _ _ _ _, fun k h => (by cases h), fun k h => (by cases h), fun k h => (by cases h)⟩
theorem Dis.symm {x y : Value} (h : Dis x y) : Dis y x := fun k h1 h2 => h k h2 h1
theorem Tri.no (h : Tri W base x y z X Y Z) (c : Chg No W W') : Tri W' base x y z X Y Z :=
  ⟨own_still h.rx c (fun _ _ h => h), own_still h.ry c (fun _ _ h => h), own_still h.rz c (fun _ _ h => h), h.xy, h.xz, h.yz⟩
theorem dis_new {v v' u : Value} (hd : Dis v u) (hu : ∀ k, u.ownBlock = some k → k < W.heap.size) (hat : v'.ownBlock = v.ownBlock ∨ v'.ownBlock = some W.heap.size) : Dis v' u := by
  intro k h1 h2
  rcases hat with h | h
  · rw [h] at h1; exact hd k h1 h2
  · rw [h] at h1; cases h1; have := hu _ h2; omega
theorem Tri.app1 (h : Tri W base x y z X Y Z) (hown : W'.ownsRow base 9 1 x' (X.length + P.length) (X.map Value.string ++ P.map Value.string)) (hg : W.grownBy W' x.ownBlock) (hat : x'.ownBlock = x.ownBlock ∨ x'.ownBlock = some W.heap.size) : Tri W' base x' y z (X ++ P) Y Z := by
  have c : Chg (fun k => x.ownBlock = some k) W W' := (Chg.refl _ W).grown hg (fun k e => .inl e)
  exact ⟨by rw [List.length_append, List.map_append]; exact hown, own_still h.ry c (fun k h1 h2 => h.xy k h2 h1), own_still h.rz c (fun k h1 h2 => h.xz k h2 h1), dis_new h.xy (fun k hk => (h.ry.lt k hk).2) hat, dis_new h.xz (fun k hk => (h.rz.lt k hk).2) hat, h.yz⟩
theorem Tri.turn (h : Tri W base x y z X Y Z) : Tri W base y z x Y Z X := ⟨h.ry, h.rz, h.rx, h.yz, h.xy.symm, h.xz.symm⟩
theorem Tri.app2 (h : Tri W base x y z X Y Z) (hown : W'.ownsRow base 9 1 x' (Y.length + P.length) (Y.map Value.string ++ P.map Value.string)) (hg : W.grownBy W' y.ownBlock) (hat : x'.ownBlock = y.ownBlock ∨ x'.ownBlock = some W.heap.size) : Tri W' base x x' z X (Y ++ P) Z :=
  (h.turn.app1 hown hg hat).turn.turn
theorem Tri.app3 (h : Tri W base x y z X Y Z) (hown : W'.ownsRow base 9 1 x' (Z.length + P.length) (Z.map Value.string ++ P.map Value.string)) (hg : W.grownBy W' z.ownBlock) (hat : x'.ownBlock = z.ownBlock ∨ x'.ownBlock = some W.heap.size) : Tri W' base x y x' X Y (Z ++ P) :=
  (h.turn.turn.app1 hown hg hat).turn
end

/-- What holds while all three are appended to. -/
def WInv (Wb : World) (x y z : Value) (X Y Z P Q R : List ByteArray) (d : Nat → Bool) (u : Nat → Value) (W : World) : Prop :=
  Chg No Wb W ∧ ((d 6 = false ∧ d 13 = false ∧ d 20 = false ∧ Tri W Wb.heap.size x y z X Y Z) ∨ (d 6 = true ∧ d 13 = false ∧ d 20 = false ∧ Tri W Wb.heap.size (u 6) y z (X ++ P) Y Z) ∨
    (d 6 = true ∧ d 13 = true ∧ d 20 = false ∧ Tri W Wb.heap.size (u 6) (u 13) z (X ++ P) (Y ++ Q) Z) ∨ (d 6 = true ∧ d 13 = true ∧ d 20 = true ∧ Tri W Wb.heap.size (u 6) (u 13) (u 20) (X ++ P) (Y ++ Q) (Z ++ R)))
end Go.Proofs.Ytfpceedjkmkidaa
