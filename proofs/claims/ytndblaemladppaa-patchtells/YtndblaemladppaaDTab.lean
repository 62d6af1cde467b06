/-
  A table of numbers, a row a block, as memory holds it; statements that store, by the list of their operations.
-/
import Derived.Test.YtndblaemladppaaTxt
import Derived.Test.YtndblaemladppaaLoud
import Derived.Test.YtndblaemladppaaGPure
import Derived.Deep.OwnRows
namespace Go.SeqLib
open Go

/-- A world that parts from w by draws alone. -/
def lastHush (l : List Oper) : List Oper := hush (List.replicate (l.length - 1) none ++ [some undef]) l
def makeHush (m : Nat) (vm : Value) (l : List Oper) : List Oper := hush (List.replicate m none ++ some vm :: List.replicate (l.length - 1 - m - 1) none ++ [some undef]) l

/-- The last one. -/
def lastOp : List Oper → Option Oper
  | [] => none
  | [o] => some o
  | _ :: o :: r => lastOp (o :: r)
theorem lastOp_eq : ∀ {l : List Oper}, lastOp l = l.getLast?
  | [] => rfl
  | [o] => rfl
  | p :: o :: r => by
    rw [List.getLast?_cons_cons]
    exact lastOp_eq (l := o :: r)
theorem last_split {l : List Oper} {o : Oper} (ho : lastOp l = some o) : l = l.dropLast ++ [o] ∧ l.dropLast.length = l.length - 1 := by
  rw [lastOp_eq] at ho
  refine ⟨?_, List.length_dropLast⟩
  have hne : l ≠ [] := by rintro rfl; cases ho
  have := List.dropLast_concat_getLast hne
  rw [List.getLast?_eq_some_getLast hne] at ho
  rw [Option.some.inj ho] at this
  exact this.symm

section
variable {P : Program} {n : Nat}
theorem region_storeR_lit {id r : Nat} {l : List Oper} {o : Oper} {Q : Exit → Act → World → Prop} {a : Act} {w : World} (hm : P.follows .mixedOrders = true) (ho : lastOp l = some o) (hnd : noDefer l.toArray = true) (hs : seesB l.toArray = true) (hk : sinkLast l.toArray (l.length - 1) = true) (hg : o.guard = none)
    (hq : wpQuietIn Fence.wide n P (lastHush l).toArray (fun w' => ∃ n, w' = w.drewN n) (fun a' => ∀ w', (∃ n, w' = w.drewN n) → ∃ w'', (execOp a'.eval o).run P w' = .ok .skip w'' ∧ Q .normal a' w'') (lastHush l) a) :
    (Code.region id l.toArray true).wpIn (Fence.wide.inRound r) n P Q a w := by
  obtain ⟨e, e2⟩ := last_split ho
  generalize l.dropLast = d at e e2
  subst e
  have e3 : (d ++ [o]).length - 1 = d.length := by simp
  unfold lastHush at hq
  rw [e3] at hk hq
  exact region_storeR hm hnd _ hs hk hg ⟨1, rfl⟩ hq
theorem region_store_lit {id : Nat} {l : List Oper} {o : Oper} {Q : Exit → Act → World → Prop} {a : Act} {w : World} (hm : P.follows .mixedOrders = true) (ho : lastOp l = some o) (hs : seesB l.toArray = true) (hk : sinkLast l.toArray (l.length - 1) = true) (hg : o.guard = none)
    (hq : wpQuietIn Fence.wide n P (lastHush l).toArray (fun w' => ∃ n, w' = w.drewN n) (fun a' => ∀ w', (∃ n, w' = w.drewN n) → ∃ w'', (execOp a'.eval o).run P w' = .ok .skip w'' ∧ Q .normal a' w'') (lastHush l) a) :
    (Code.region id l.toArray true).wpIn Fence.wide n P Q a w := by
  obtain ⟨e, e2⟩ := last_split ho
  generalize l.dropLast = d at e e2
  subst e
  have e3 : (d ++ [o]).length - 1 = d.length := by simp
  unfold lastHush at hq
  rw [e3] at hk hq
  exact region_store hm _ hs hk hg ⟨1, rfl⟩ hq

/-- The same of a statement that makes a slice, too: operation m. -/
theorem make_class {w : World} {ob : Obj} : (∀ w', (∃ n, w' = w.drewN n) → ∃ c : After w, w' = c.val) ∧ (∀ w', (∃ n, w' = (w.drewN n).alloc ob) → ∃ c : After w, w' = c.val) :=
  ⟨by rintro w' ⟨k, rfl⟩; exact ⟨⟨_, (show Chg (fun _ => False) w (w.drewN k) from ⟨rfl, rfl, rfl, Nat.le_refl _, fun _ _ _ => rfl⟩)⟩, rfl⟩,
   by rintro w' ⟨k, rfl⟩; exact ⟨⟨_, (show Chg (fun _ => False) w (w.drewN k) from ⟨rfl, rfl, rfl, Nat.le_refl _, fun _ _ _ => rfl⟩).alloc ob⟩, rfl⟩⟩
theorem region_makeR_lit {id r m : Nat} {l : List Oper} {o om : Oper} {vm : Value} {Q : Exit → Act → World → Prop} {a : Act} {w : World} (ob : Obj) (hm : P.follows .mixedOrders = true) (ho : lastOp l = some o) (hmo : l.dropLast[m]? = some om) (hnd : noDefer l.toArray = true) (hs : seesB l.toArray = true) (hk : sinkLast l.toArray (l.length - 1) = true) (hg : o.guard = none) (hgm : om.guard = none)
    (hpl : ((List.range (l.length - 1)).all fun i => i == m || ((l.dropLast[i]?).map plainOp).getD false) = true)
    (hq : wpQuietIn Fence.wide n P (makeHush m vm l).toArray (fun w' => ∃ c : After w, w' = c.val)
      (fun a' => (∀ k, (execOp a'.eval om).run P (w.drewN k) = .ok (.value vm) ((w.drewN k).alloc ob)) ∧ ∀ k, ∃ w'', (execOp a'.eval o).run P ((w.drewN k).alloc ob) = .ok .skip w'' ∧ Q .normal a' w'') (makeHush m vm l) a) :
    (Code.region id l.toArray true).wpIn (Fence.wide.inRound r) n P Q a w := by
  obtain ⟨e, e2⟩ := last_split ho
  have e4 : l.dropLast = l.dropLast := rfl
  generalize hd : l.dropLast = d at e e2 hmo hpl
  subst e
  have e3 : (d ++ [o]).length - 1 = d.length := by simp
  unfold makeHush at hq
  rw [e3] at hk hq hpl
  refine region_makeR (vm := vm) hm hnd (fun w' => ∃ c : After w, w' = c.val) (fun w' => ∃ n, w' = w.drewN n) (fun w' => ∃ n, w' = (w.drewN n).alloc ob) hs hk hg hmo hgm hpl (make_class (ob := ob)).1 make_class.2 ⟨1, rfl⟩ (wpQuietIn_mono ?_ _ _ hq)
  rintro a' ⟨h1, h2⟩
  exact ⟨by rintro w' ⟨k, rfl⟩; exact ⟨_, h1 k, k, rfl⟩, by rintro w' ⟨k, rfl⟩; exact h2 k⟩
theorem region_make_lit {id m : Nat} {l : List Oper} {o om : Oper} {vm : Value} {Q : Exit → Act → World → Prop} {a : Act} {w : World} (ob : Obj) (hm : P.follows .mixedOrders = true) (ho : lastOp l = some o) (hmo : l.dropLast[m]? = some om) (hs : seesB l.toArray = true) (hk : sinkLast l.toArray (l.length - 1) = true) (hg : o.guard = none) (hgm : om.guard = none)
    (hpl : ((List.range (l.length - 1)).all fun i => i == m || ((l.dropLast[i]?).map plainOp).getD false) = true)
    (hq : wpQuietIn Fence.wide n P (makeHush m vm l).toArray (fun w' => ∃ c : After w, w' = c.val)
      (fun a' => (∀ k, (execOp a'.eval om).run P (w.drewN k) = .ok (.value vm) ((w.drewN k).alloc ob)) ∧ ∀ k, ∃ w'', (execOp a'.eval o).run P ((w.drewN k).alloc ob) = .ok .skip w'' ∧ Q .normal a' w'') (makeHush m vm l) a) :
    (Code.region id l.toArray true).wpIn Fence.wide n P Q a w := by
  obtain ⟨e, e2⟩ := last_split ho
  generalize hd : l.dropLast = d at e e2 hmo hpl
  subst e
  have e3 : (d ++ [o]).length - 1 = d.length := by simp
  unfold makeHush at hq
  rw [e3] at hk hq hpl
  refine region_make (vm := vm) hm (fun w' => ∃ c : After w, w' = c.val) (fun w' => ∃ n, w' = w.drewN n) (fun w' => ∃ n, w' = (w.drewN n).alloc ob) hs hk hg hmo hgm hpl (make_class (ob := ob)).1 make_class.2 ⟨1, rfl⟩ (wpQuietIn_mono ?_ _ _ hq)
  rintro a' ⟨h1, h2⟩
  exact ⟨by rintro w' ⟨k, rfl⟩; exact ⟨_, h1 k, k, rfl⟩, by rintro w' ⟨k, rfl⟩; exact h2 k⟩
end
end Go.SeqLib

namespace Go.Proofs.Ytndblaemladppaa
open Go.RowKit Go.Shelf Go.SeqLib Go.DiffLib

def tabB (G n lo : Nat) (R : Nat → Nat) : Blk := fun k => k = G ∨ ∃ i, lo ≤ i ∧ i ≤ n ∧ k = R i

section
variable {α : Type} [DecidableEq α]
/-- What the table holds when row r is filled from place c on. -/
def fillV (a b : List α) (r c : Nat) : Nat → Nat → Int := fun i j => if r < i ∨ (i = r ∧ c ≤ j) then (tl (a.drop i) (b.drop j) : Int) else 0
theorem fillV_old {a b : List α} {r c i : Nat} (j : Nat) (h : r < i) : fillV a b r c i j = (tl (a.drop i) (b.drop j) : Int) := if_pos (.inl h)
theorem fillV_now {a b : List α} {r c j : Nat} (h : c ≤ j) : fillV a b r c r j = (tl (a.drop r) (b.drop j) : Int) := if_pos (.inr ⟨rfl, h⟩)
end

end Go.Proofs.Ytndblaemladppaa
