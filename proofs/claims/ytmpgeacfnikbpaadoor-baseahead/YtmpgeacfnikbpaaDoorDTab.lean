/-
  A table of numbers, a row a block, as memory holds it; statements that store, by the list of their operations.
-/
import Derived.Test.YtmpgeacfnikbpaaDoorGTxt
import Derived.Test.YtmpgeacfnikbpaaDoorGLoud
import Derived.Test.YtmpgeacfnikbpaaDoorGPure
import Derived.Deep.OwnRows
namespace Go.SeqLib
open Go

/-- A world that parts from w by draws alone. -/
def lastHush (l : List Oper) : List Oper := hush (List.replicate (l.length - 1) none ++ [some undef]) l
def makeHush (m : Nat) (vm : Value) (l : List Oper) : List Oper := hush (List.replicate m none ++ some vm :: List.replicate (l.length - 1 - m - 1) none ++ [some undef]) l

/-- The last one. -/
def lastOp : List Oper → Option Oper
  | [] => none
  | [o] => some o
  | _ :: o :: r => lastOp (o :: r)
theorem lastOp_eq : ∀ {l : List Oper}, lastOp l = l.getLast?
  | [] => rfl
  | [o] => rfl
  | p :: o :: r => by
    rw [List.getLast?_cons_cons]
    exact lastOp_eq (l := o :: r)
theorem last_split {l : List Oper} {o : Oper} (ho : lastOp l = some o) : l = l.dropLast ++ [o] ∧ l.dropLast.length = l.length - 1 := by
  rw [lastOp_eq] at ho
  refine ⟨?_, List.length_dropLast⟩
  have hne : l ≠ [] := by rintro rfl; cases ho
  have := List.dropLast_concat_getLast hne
  rw [List.getLast?_eq_some_getLast hne] at ho
  rw [Option.some.inj ho] at this
  exact this.symm

section
variable {P : Program} {n : Nat}
theorem region_storeR_lit {id r : Nat} {l : List Oper} {o : Oper} {Q : Exit → Act → World → Prop} {a : Act} {w : World} (hm : P.follows .mixedOrders = true) (ho : lastOp l = some o) (hnd : noDefer l.toArray = true) (hs : seesB l.toArray = true) (hk : sinkLast l.toArray (l.length - 1) = true) (hg : o.guard = none)
    (hq : wpQuietIn Fence.wide n P (lastHush l).toArray (fun w' => ∃ n, w' = w.drewN n) (fun a' => ∀ w', (∃ n, w' = w.drewN n) → ∃ w'', (execOp a'.eval o).run P w' = .ok .skip w'' ∧ Q .normal a' w'') (lastHush l) a) :
    (Code.region id l.toArray true).wpIn (Fence.wide.inRound r) n P Q a w := by
  obtain ⟨e, e2⟩ := last_split ho
  generalize l.dropLast = d at e e2
  subst e
  have e3 : (d ++ [o]).length - 1 = d.length := by simp
  unfold lastHush at hq
  rw [e3] at hk hq
  exact region_storeR hm hnd _ hs hk hg ⟨1, rfl⟩ hq
theorem region_store_lit {id : Nat} {l : List Oper} {o : Oper} {Q : Exit → Act → World → Prop} {a : Act} {w : World} (hm : P.follows .mixedOrders = true) (ho : lastOp l = some o) (hs : seesB l.toArray = true) (hk : sinkLast l.toArray (l.length - 1) = true) (hg : o.guard = none)
    (hq : wpQuietIn Fence.wide n P (lastHush l).toArray (fun w' => ∃ n, w' = w.drewN n) (fun a' => ∀ w', (∃ n, w' = w.drewN n) → ∃ w'', (execOp a'.eval o).run P w' = .ok .skip w'' ∧ Q .normal a' w'') (lastHush l) a) :
    (Code.region id l.toArray true).wpIn Fence.wide n P Q a w := by
  obtain ⟨e, e2⟩ := last_split ho
  generalize l.dropLast = d at e e2
  subst e
  have e3 : (d ++ [o]).length - 1 = d.length := by simp
  unfold lastHush at hq
  rw [e3] at hk hq
  exact region_store hm _ hs hk hg ⟨1, rfl⟩ hq

/-- The same of a statement that makes a slice, too: operation m. -/
theorem make_class {w : World} {ob : Obj} : (∀ w', (∃ n, w' = w.drewN n) → ∃ c : After w, w' = c.val) ∧ (∀ w', (∃ n, w' = (w.drewN n).alloc ob) → ∃ c : After w, w' = c.val) :=
  ⟨by rintro w' ⟨k, rfl⟩; exact ⟨⟨_, (show Chg (fun _ => False) w (w.drewN k) from ⟨rfl, rfl, rfl, Nat.le_refl _, fun _ _ _ => rfl⟩)⟩, rfl⟩,
   by rintro w' ⟨k, rfl⟩; exact ⟨⟨_, (show Chg (fun _ => False) w (w.drewN k) from ⟨rfl, rfl, rfl, Nat.le_refl _, fun _ _ _ => rfl⟩).alloc ob⟩, rfl⟩⟩
theorem region_makeR_lit {id r m : Nat} {l : List Oper} {o om : Oper} {vm : Value} {Q : Exit → Act → World → Prop} {a : Act} {w : World} (ob : Obj) (hm : P.follows .mixedOrders = true) (ho : lastOp l = some o) (hmo : l.dropLast[m]? = some om) (hnd : noDefer l.toArray = true) (hs : seesB l.toArray = true) (hk : sinkLast l.toArray (l.length - 1) = true) (hg : o.guard = none) (hgm : om.guard = none)
    (hpl : ((List.range (l.length - 1)).all fun i => i == m || ((l.dropLast[i]?).map plainOp).getD false) = true)
    (hq : wpQuietIn Fence.wide n P (makeHush m vm l).toArray (fun w' => ∃ c : After w, w' = c.val)
      (fun a' => (∀ k, (execOp a'.eval om).run P (w.drewN k) = .ok (.value vm) ((w.drewN k).alloc ob)) ∧ ∀ k, ∃ w'', (execOp a'.eval o).run P ((w.drewN k).alloc ob) = .ok .skip w'' ∧ Q .normal a' w'') (makeHush m vm l) a) :
    (Code.region id l.toArray true).wpIn (Fence.wide.inRound r) n P Q a w := by
  obtain ⟨e, e2⟩ := last_split ho
  have e4 : l.dropLast = l.dropLast := rfl
  generalize hd : l.dropLast = d at e e2 hmo hpl
  subst e
  have e3 : (d ++ [o]).length - 1 = d.length := by simp
  unfold makeHush at hq
  rw [e3] at hk hq hpl
  refine region_makeR (vm := vm) hm hnd (fun w' => ∃ c : After w, w' = c.val) (fun w' => ∃ n, w' = w.drewN n) (fun w' => ∃ n, w' = (w.drewN n).alloc ob) hs hk hg hmo hgm hpl (make_class (ob := ob)).1 make_class.2 ⟨1, rfl⟩ (wpQuietIn_mono ?_ _ _ hq)
  rintro a' ⟨h1, h2⟩
  exact ⟨by rintro w' ⟨k, rfl⟩; exact ⟨_, h1 k, k, rfl⟩, by rintro w' ⟨k, rfl⟩; exact h2 k⟩
theorem region_make_lit {id m : Nat} {l : List Oper} {o om : Oper} {vm : Value} {Q : Exit → Act → World → Prop} {a : Act} {w : World} (ob : Obj) (hm : P.follows .mixedOrders = true) (ho : lastOp l = some o) (hmo : l.dropLast[m]? = some om) (hs : seesB l.toArray = true) (hk : sinkLast l.toArray (l.length - 1) = true) (hg : o.guard = none) (hgm : om.guard = none)
    (hpl : ((List.range (l.length - 1)).all fun i => i == m || ((l.dropLast[i]?).map plainOp).getD false) = true)
    (hq : wpQuietIn Fence.wide n P (makeHush m vm l).toArray (fun w' => ∃ c : After w, w' = c.val)
      (fun a' => (∀ k, (execOp a'.eval om).run P (w.drewN k) = .ok (.value vm) ((w.drewN k).alloc ob)) ∧ ∀ k, ∃ w'', (execOp a'.eval o).run P ((w.drewN k).alloc ob) = .ok .skip w'' ∧ Q .normal a' w'') (makeHush m vm l) a) :
    (Code.region id l.toArray true).wpIn Fence.wide n P Q a w := by
  obtain ⟨e, e2⟩ := last_split ho
  generalize hd : l.dropLast = d at e e2 hmo hpl
  subst e
  have e3 : (d ++ [o]).length - 1 = d.length := by simp
  unfold makeHush at hq
  rw [e3] at hk hq hpl
  refine region_make (vm := vm) hm (fun w' => ∃ c : After w, w' = c.val) (fun w' => ∃ n, w' = w.drewN n) (fun w' => ∃ n, w' = (w.drewN n).alloc ob) hs hk hg hmo hgm hpl (make_class (ob := ob)).1 make_class.2 ⟨1, rfl⟩ (wpQuietIn_mono ?_ _ _ hq)
  rintro a' ⟨h1, h2⟩
  exact ⟨by rintro w' ⟨k, rfl⟩; exact ⟨_, h1 k, k, rfl⟩, by rintro w' ⟨k, rfl⟩; exact h2 k⟩
end
end Go.SeqLib

namespace Go.Proofs.YtmpgeacfnikbpaaDoor
open Go.RowKit Go.Shelf Go.SeqLib Go.DiffLib

/-- A table of n + 1 rows of m + 1 numbers, as far as they are laid: from row lo on. -/
structure Tab (W : World) (G n m lo : Nat) (R : Nat → Nat) (V : Nat → Nat → Int) : Prop where
  outer : W.rowIs G 22 (n + 1) (fun i => if lo ≤ i then .slice (some ⟨R i, 0, none⟩) (m + 1) (m + 1) else .slice none 0 0)
  inner : ∀ i, lo ≤ i → i ≤ n → W.rowIs (R i) 3 (m + 1) (fun j => .int .i64 (V i j))
  inj : ∀ i i', lo ≤ i → i ≤ n → lo ≤ i' → i' ≤ n → R i = R i' → i = i'
  ne : ∀ i, lo ≤ i → i ≤ n → R i ≠ G

def tabB (G n lo : Nat) (R : Nat → Nat) : Blk := fun k => k = G ∨ ∃ i, lo ≤ i ∧ i ≤ n ∧ k = R i

section
variable {W W' : World} {G n m lo : Nat} {R : Nat → Nat} {V V' : Nat → Nat → Int}
theorem Tab.lt (h : Tab W G n m lo R V) : ∀ k, tabB G n lo R k → k < W.heap.size := by
  rintro k (rfl | ⟨i, h1, h2, rfl⟩)
  · exact h.outer.lt
  · exact (h.inner i h1 h2).lt
theorem Tab.kept (h : Tab W G n m lo R V) (hk : ∀ k, tabB G n lo R k → W'.heap[k]? = W.heap[k]?) : Tab W' G n m lo R V :=
  ⟨h.outer.of_block (hk _ (.inl rfl)), fun i h1 h2 => (h.inner i h1 h2).of_block (hk _ (.inr ⟨i, h1, h2, rfl⟩)), h.inj, h.ne⟩
theorem Tab.chg (h : Tab W G n m lo R V) {U : Blk} (c : Chg U W W') (hd : ∀ k, tabB G n lo R k → ¬ U k) : Tab W' G n m lo R V :=
  h.kept (fun k hk => c.block k (h.lt k hk) (hd k hk))
theorem Tab.congr (h : Tab W G n m lo R V) (e : ∀ i j, lo ≤ i → i ≤ n → j ≤ m → V i j = V' i j) : Tab W G n m lo R V' :=
  ⟨h.outer, fun i h1 h2 => (h.inner i h1 h2).congr (fun j hj => by rw [e i j h1 h2 (by omega)]), h.inj, h.ne⟩
theorem Tab.row (h : Tab W G n m lo R V) {i : Nat} (h1 : lo ≤ i) (h2 : i ≤ n) : W.cell? ⟨G, i, none⟩ = some (.slice (some ⟨R i, 0, none⟩) (m + 1) (m + 1)) := by
  have := h.outer.cell (i := i) (by omega)
  simpa [h1] using this
theorem Tab.num (h : Tab W G n m lo R V) {i j : Nat} (h1 : lo ≤ i) (h2 : i ≤ n) (hj : j ≤ m) : W.cell? ⟨R i, j, none⟩ = some (.int .i64 (V i j)) :=
  (h.inner i h1 h2).cell (by omega)
/-- A number is stored. -/
theorem Tab.put (h : Tab W G n m lo R V) {i : Nat} (h1 : lo ≤ i) (h2 : i ≤ n) (j : Nat) (x : Int) :
    Tab (W.setCell ⟨R i, j, none⟩ (.int .i64 x)) G n m lo R (fun i' j' => if i' = i ∧ j' = j then x else V i' j') := by
  refine ⟨h.outer.setOther (fun e => h.ne i h1 h2 e.symm) _, fun i' g1 g2 => ?_, h.inj, h.ne⟩
  by_cases e : i' = i
  · subst e
    refine ((h.inner i' g1 g2).set j (.int .i64 x)).congr (fun k _ => ?_)
    by_cases e2 : k = j
    · simp [e2]
    · simp [e2]
  · refine ((h.inner i' g1 g2).setOther (fun e2 => e (h.inj i' i g1 g2 h1 h2 e2)) _).congr (fun k _ => ?_)
    simp [e]
/-- A row is laid. -/
theorem Tab.new (h : Tab W G n m (lo + 1) R V) (hlo : lo ≤ n) :
    Tab ((W.alloc (.cells (madeCells #[.int .i64 0] (m + 1)) 3)).setCell ⟨G, lo, none⟩ (.slice (some ⟨W.heap.size, 0, none⟩) (m + 1) (m + 1))) G n m lo (fun i => if i = lo then W.heap.size else R i) (fun i j => if i = lo then 0 else V i j) := by
  have hG := h.outer.lt
  have hR : ∀ i, lo + 1 ≤ i → i ≤ n → R i < W.heap.size := fun i h1 h2 => (h.inner i h1 h2).lt
  refine ⟨?_, fun i h1 h2 => ?_, fun i i' h1 h2 h3 h4 e => ?_, fun i h1 h2 => ?_⟩
  · refine ((h.outer.alloc _).set lo _).congr (fun i hi => ?_)
    by_cases e : i = lo
    · subst e; simp
    · have : (lo + 1 ≤ i) = (lo ≤ i) := propext ⟨fun _ => by omega, fun _ => by omega⟩
      simp [e, this]
  · by_cases e : i = lo
    · subst e
      simp only [if_pos]
      exact (World.rowIs_made W (.int .i64 0) (m + 1) 3).setOther (fun e => by simp at e; omega) _
    · simp only [if_neg e]
      exact ((h.inner i (by omega) h2).alloc _).setOther (fun e2 => h.ne i (by omega) h2 e2) _
  · by_cases e1 : i = lo
    · by_cases e2 : i' = lo
      · omega
      · simp only [if_pos e1, if_neg e2] at e
        have := hR i' (by omega) h4
        omega
    · by_cases e2 : i' = lo
      · simp only [if_pos e2, if_neg e1] at e
        have := hR i (by omega) h2
        omega
      · simp only [if_neg e1, if_neg e2] at e
        exact h.inj i i' (by omega) h2 (by omega) h4 e
  · by_cases e1 : i = lo
    · simp only [if_pos e1]; omega
    · simp only [if_neg e1]; exact h.ne i (by omega) h2
/-- A table of no rows yet. -/
theorem Tab.empty (W : World) (n m : Nat) (R : Nat → Nat) (V : Nat → Nat → Int) : Tab (W.alloc (.cells (madeCells #[.slice none 0 0] (n + 1)) 22)) W.heap.size n m (n + 1) R V :=
  ⟨(World.rowIs_made W (.slice none 0 0) (n + 1) 22).congr (fun i hi => by rw [if_neg (by omega)]), fun i h1 h2 => by omega, fun i i' h1 h2 => by omega, fun i h1 h2 => by omega⟩
end

section
variable {α : Type} [DecidableEq α]
/-- What the table holds when row r is filled from place c on. -/
def fillV (a b : List α) (r c : Nat) : Nat → Nat → Int := fun i j => if r < i ∨ (i = r ∧ c ≤ j) then (tl (a.drop i) (b.drop j) : Int) else 0
theorem fillV_old {a b : List α} {r c i : Nat} (j : Nat) (h : r < i) : fillV a b r c i j = (tl (a.drop i) (b.drop j) : Int) := if_pos (.inl h)
theorem fillV_now {a b : List α} {r c j : Nat} (h : c ≤ j) : fillV a b r c r j = (tl (a.drop r) (b.drop j) : Int) := if_pos (.inr ⟨rfl, h⟩)
end

end Go.Proofs.YtmpgeacfnikbpaaDoor
