/-
  Of: DTab, SlCut, DBack, DLike, DTails, DLen, DRun, DPairs, DFits, DApply, TOwn, TOn, TStand, TPiece, TParts, TMerge.
-/
import Derived.Test.YtndblaemladppabGreatDoorTxt
import Derived.Test.YtndblaemladppabGreatDoorLoud
import Derived.Test.YtndblaemladppabGreatDoorGPure
import Derived.Deep.OwnRows
import Derived.Test.YtndblaemladppabGreatDoorDWide
import Derived.Test.YtndblaemladppabGreatDoorAppT
import Derived.Test.YtndblaemladppabGreatDoorSeqN
import Derived.Test.YtndblaemladppabGreatDoorChecked
import Derived.RecoverIn
import Derived.Sort.CutIn
import Derived.Test.YtndblaemladppabGreatDoorQuiet
import Derived.Laws.ResultCell
import Derived.Test.YtndblaemladppabGreatDoorLoudP
section
-- DTab
namespace Go.SeqLib
open Go

/-- A world that parts from w by draws alone. -/
def lastHush (l : List Oper) : List Oper := hush (List.replicate (l.length - 1) none ++ [some undef]) l
def makeHush (m : Nat) (vm : Value) (l : List Oper) : List Oper := hush (List.replicate m none ++ some vm :: List.replicate (l.length - 1 - m - 1) none ++ [some undef]) l

/-- The last one. -/
def lastOp : List Oper → Option Oper
  | [] => none
  | [o] => some o
  | _ :: o :: r => lastOp (o :: r)
theorem lastOp_eq : ∀ {l : List Oper}, lastOp l = l.getLast?
  | [] => rfl
  | [o] => rfl
  | p :: o :: r => by
    rw [List.getLast?_cons_cons]
    exact lastOp_eq (l := o :: r)
theorem last_split {l : List Oper} {o : Oper} (ho : lastOp l = some o) : l = l.dropLast ++ [o] ∧ l.dropLast.length = l.length - 1 := by
  rw [lastOp_eq] at ho
  refine ⟨?_, List.length_dropLast⟩
  have hne : l ≠ [] := by rintro rfl; cases ho
  have := List.dropLast_concat_getLast hne
  rw [List.getLast?_eq_some_getLast hne] at ho
  rw [Option.some.inj ho] at this
  exact this.symm

section
variable {P : Program} {n : Nat}
theorem region_storeR_lit {id r : Nat} {l : List Oper} {o : Oper} {Q : Exit → Act → World → Prop} {a : Act} {w : World} (hm : P.follows .mixedOrders = true) (ho : lastOp l = some o) (hnd : noDefer l.toArray = true) (hs : seesB l.toArray = true) (hk : sinkLast l.toArray (l.length - 1) = true) (hg : o.guard = none)
    (hq : wpQuietIn Fence.wide n P (lastHush l).toArray (fun w' => ∃ n, w' = w.drewN n) (fun a' => ∀ w', (∃ n, w' = w.drewN n) → ∃ w'', (execOp a'.eval o).run P w' = .ok .skip w'' ∧ Q .normal a' w'') (lastHush l) a) :
    (Code.region id l.toArray true).wpIn (Fence.wide.inRound r) n P Q a w := by
  obtain ⟨e, e2⟩ := last_split ho
  generalize l.dropLast = d at e e2
  subst e
  have e3 : (d ++ [o]).length - 1 = d.length := by simp
  unfold lastHush at hq
  rw [e3] at hk hq
  exact region_storeR hm hnd _ hs hk hg ⟨1, rfl⟩ hq
theorem region_store_lit {id : Nat} {l : List Oper} {o : Oper} {Q : Exit → Act → World → Prop} {a : Act} {w : World} (hm : P.follows .mixedOrders = true) (ho : lastOp l = some o) (hs : seesB l.toArray = true) (hk : sinkLast l.toArray (l.length - 1) = true) (hg : o.guard = none)
    (hq : wpQuietIn Fence.wide n P (lastHush l).toArray (fun w' => ∃ n, w' = w.drewN n) (fun a' => ∀ w', (∃ n, w' = w.drewN n) → ∃ w'', (execOp a'.eval o).run P w' = .ok .skip w'' ∧ Q .normal a' w'') (lastHush l) a) :
    (Code.region id l.toArray true).wpIn Fence.wide n P Q a w := by
  obtain ⟨e, e2⟩ := last_split ho
  generalize l.dropLast = d at e e2
  subst e
  have e3 : (d ++ [o]).length - 1 = d.length := by simp
  unfold lastHush at hq
  rw [e3] at hk hq
  exact region_store hm _ hs hk hg ⟨1, rfl⟩ hq

/-- The same of a statement that makes a slice, too: operation m. -/
theorem make_class {w : World} {ob : Obj} : (∀ w', (∃ n, w' = w.drewN n) → ∃ c : After w, w' = c.val) ∧ (∀ w', (∃ n, w' = (w.drewN n).alloc ob) → ∃ c : After w, w' = c.val) :=
  ⟨by rintro w' ⟨k, rfl⟩; exact ⟨⟨_, (show Chg (fun _ => False) w (w.drewN k) from ⟨rfl, rfl, rfl, Nat.le_refl _, fun _ _ _ => rfl⟩)⟩, rfl⟩,
   by rintro w' ⟨k, rfl⟩; exact ⟨⟨_, (show Chg (fun _ => False) w (w.drewN k) from ⟨rfl, rfl, rfl, Nat.le_refl _, fun _ _ _ => rfl⟩).alloc ob⟩, rfl⟩⟩
theorem region_makeR_lit {id r m : Nat} {l : List Oper} {o om : Oper} {vm : Value} {Q : Exit → Act → World → Prop} {a : Act} {w : World} (ob : Obj) (hm : P.follows .mixedOrders = true) (ho : lastOp l = some o) (hmo : l.dropLast[m]? = some om) (hnd : noDefer l.toArray = true) (hs : seesB l.toArray = true) (hk : sinkLast l.toArray (l.length - 1) = true) (hg : o.guard = none) (hgm : om.guard = none)
    (hpl : ((List.range (l.length - 1)).all fun i => i == m || ((l.dropLast[i]?).map plainOp).getD false) = true)
    (hq : wpQuietIn Fence.wide n P (makeHush m vm l).toArray (fun w' => ∃ c : After w, w' = c.val)
      (fun a' => (∀ k, (execOp a'.eval om).run P (w.drewN k) = .ok (.value vm) ((w.drewN k).alloc ob)) ∧ ∀ k, ∃ w'', (execOp a'.eval o).run P ((w.drewN k).alloc ob) = .ok .skip w'' ∧ Q .normal a' w'') (makeHush m vm l) a) :
    (Code.region id l.toArray true).wpIn (Fence.wide.inRound r) n P Q a w := by
  obtain ⟨e, e2⟩ := last_split ho
  have e4 : l.dropLast = l.dropLast := rfl
  generalize hd : l.dropLast = d at e e2 hmo hpl
  subst e
  have e3 : (d ++ [o]).length - 1 = d.length := by simp
  unfold makeHush at hq
  rw [e3] at hk hq hpl
  refine region_makeR (vm := vm) hm hnd (fun w' => ∃ c : After w, w' = c.val) (fun w' => ∃ n, w' = w.drewN n) (fun w' => ∃ n, w' = (w.drewN n).alloc ob) hs hk hg hmo hgm hpl (make_class (ob := ob)).1 make_class.2 ⟨1, rfl⟩ (wpQuietIn_mono ?_ _ _ hq)
  rintro a' ⟨h1, h2⟩
  exact ⟨by rintro w' ⟨k, rfl⟩; exact ⟨_, h1 k, k, rfl⟩, by rintro w' ⟨k, rfl⟩; exact h2 k⟩
theorem region_make_lit {id m : Nat} {l : List Oper} {o om : Oper} {vm : Value} {Q : Exit → Act → World → Prop} {a : Act} {w : World} (ob : Obj) (hm : P.follows .mixedOrders = true) (ho : lastOp l = some o) (hmo : l.dropLast[m]? = some om) (hs : seesB l.toArray = true) (hk : sinkLast l.toArray (l.length - 1) = true) (hg : o.guard = none) (hgm : om.guard = none)
    (hpl : ((List.range (l.length - 1)).all fun i => i == m || ((l.dropLast[i]?).map plainOp).getD false) = true)
    (hq : wpQuietIn Fence.wide n P (makeHush m vm l).toArray (fun w' => ∃ c : After w, w' = c.val)
      (fun a' => (∀ k, (execOp a'.eval om).run P (w.drewN k) = .ok (.value vm) ((w.drewN k).alloc ob)) ∧ ∀ k, ∃ w'', (execOp a'.eval o).run P ((w.drewN k).alloc ob) = .ok .skip w'' ∧ Q .normal a' w'') (makeHush m vm l) a) :
    (Code.region id l.toArray true).wpIn Fence.wide n P Q a w := by
  obtain ⟨e, e2⟩ := last_split ho
  generalize hd : l.dropLast = d at e e2 hmo hpl
  subst e
  have e3 : (d ++ [o]).length - 1 = d.length := by simp
  unfold makeHush at hq
  rw [e3] at hk hq hpl
  refine region_make (vm := vm) hm (fun w' => ∃ c : After w, w' = c.val) (fun w' => ∃ n, w' = w.drewN n) (fun w' => ∃ n, w' = (w.drewN n).alloc ob) hs hk hg hmo hgm hpl (make_class (ob := ob)).1 make_class.2 ⟨1, rfl⟩ (wpQuietIn_mono ?_ _ _ hq)
  rintro a' ⟨h1, h2⟩
  exact ⟨by rintro w' ⟨k, rfl⟩; exact ⟨_, h1 k, k, rfl⟩, by rintro w' ⟨k, rfl⟩; exact h2 k⟩
end
end Go.SeqLib

namespace Go.Proofs.YtndblaemladppabGreatDoor
open Go.RowKit Go.Shelf Go.SeqLib Go.DiffLib

/-- A table of n + 1 rows of m + 1 numbers, as far as they are laid: from row lo on. -/
structure Tab (W : World) (G n m lo : Nat) (R : Nat → Nat) (V : Nat → Nat → Int) : Prop where
  outer : W.rowIs G 155 (n + 1) (fun i => if lo ≤ i then .slice (some ⟨R i, 0, none⟩) (m + 1) (m + 1) else .slice none 0 0)
  inner : ∀ i, lo ≤ i → i ≤ n → W.rowIs (R i) 3 (m + 1) (fun j => .int .i64 (V i j))
  inj : ∀ i i', lo ≤ i → i ≤ n → lo ≤ i' → i' ≤ n → R i = R i' → i = i'
  ne : ∀ i, lo ≤ i → i ≤ n → R i ≠ G

def tabB (G n lo : Nat) (R : Nat → Nat) : Blk := fun k => k = G ∨ ∃ i, lo ≤ i ∧ i ≤ n ∧ k = R i

section
variable {W W' : World} {G n m lo : Nat} {R : Nat → Nat} {V V' : Nat → Nat → Int}
theorem Tab.lt (h : Tab W G n m lo R V) : ∀ k, tabB G n lo R k → k < W.heap.size := by
  rintro k (rfl | ⟨i, h1, h2, rfl⟩)
  · exact h.outer.lt
  · exact (h.inner i h1 h2).lt
theorem Tab.kept (h : Tab W G n m lo R V) (hk : ∀ k, tabB G n lo R k → W'.heap[k]? = W.heap[k]?) : Tab W' G n m lo R V :=
  ⟨h.outer.of_block (hk _ (.inl rfl)), fun i h1 h2 => (h.inner i h1 h2).of_block (hk _ (.inr ⟨i, h1, h2, rfl⟩)), h.inj, h.ne⟩
theorem Tab.chg (h : Tab W G n m lo R V) {U : Blk} (c : Chg U W W') (hd : ∀ k, tabB G n lo R k → ¬ U k) : Tab W' G n m lo R V :=
  h.kept (fun k hk => c.block k (h.lt k hk) (hd k hk))
theorem Tab.congr (h : Tab W G n m lo R V) (e : ∀ i j, lo ≤ i → i ≤ n → j ≤ m → V i j = V' i j) : Tab W G n m lo R V' :=
  ⟨h.outer, fun i h1 h2 => (h.inner i h1 h2).congr (fun j hj => by rw [e i j h1 h2 (by omega)]), h.inj, h.ne⟩
theorem Tab.row (h : Tab W G n m lo R V) {i : Nat} (h1 : lo ≤ i) (h2 : i ≤ n) : W.cell? ⟨G, i, none⟩ = some (.slice (some ⟨R i, 0, none⟩) (m + 1) (m + 1)) := by
  have := h.outer.cell (i := i) (by omega)
  simpa [h1] using this
theorem Tab.num (h : Tab W G n m lo R V) {i j : Nat} (h1 : lo ≤ i) (h2 : i ≤ n) (hj : j ≤ m) : W.cell? ⟨R i, j, none⟩ = some (.int .i64 (V i j)) :=
  (h.inner i h1 h2).cell (by omega)
/-- A number is stored. -/
theorem Tab.put (h : Tab W G n m lo R V) {i : Nat} (h1 : lo ≤ i) (h2 : i ≤ n) (j : Nat) (x : Int) :
    Tab (W.setCell ⟨R i, j, none⟩ (.int .i64 x)) G n m lo R (fun i' j' => if i' = i ∧ j' = j then x else V i' j') := by
  refine ⟨h.outer.setOther (fun e => h.ne i h1 h2 e.symm) _, fun i' g1 g2 => ?_, h.inj, h.ne⟩
  by_cases e : i' = i
  · subst e
    refine ((h.inner i' g1 g2).set j (.int .i64 x)).congr (fun k _ => ?_)
    by_cases e2 : k = j
    · simp [e2]
    · simp [e2]
  · refine ((h.inner i' g1 g2).setOther (fun e2 => e (h.inj i' i g1 g2 h1 h2 e2)) _).congr (fun k _ => ?_)
    simp [e]
/-- A row is laid. -/
theorem Tab.new (h : Tab W G n m (lo + 1) R V) (hlo : lo ≤ n) :
    Tab ((W.alloc (.cells (madeCells #[.int .i64 0] (m + 1)) 3)).setCell ⟨G, lo, none⟩ (.slice (some ⟨W.heap.size, 0, none⟩) (m + 1) (m + 1))) G n m lo (fun i => if i = lo then W.heap.size else R i) (fun i j => if i = lo then 0 else V i j) := by
  have hG := h.outer.lt
  have hR : ∀ i, lo + 1 ≤ i → i ≤ n → R i < W.heap.size := fun i h1 h2 => (h.inner i h1 h2).lt
  refine ⟨?_, fun i h1 h2 => ?_, fun i i' h1 h2 h3 h4 e => ?_, fun i h1 h2 => ?_⟩
  · refine ((h.outer.alloc _).set lo _).congr (fun i hi => ?_)
    by_cases e : i = lo
    · subst e; simp
    · have : (lo + 1 ≤ i) = (lo ≤ i) := propext ⟨fun _ => by omega, fun _ => by omega⟩
      simp [e, this]
  · by_cases e : i = lo
    · subst e
      simp only [if_pos]
      exact (World.rowIs_made W (.int .i64 0) (m + 1) 3).setOther (fun e => by simp at e; omega) _
    · simp only [if_neg e]
      exact ((h.inner i (by omega) h2).alloc _).setOther (fun e2 => h.ne i (by omega) h2 e2) _
  · by_cases e1 : i = lo
    · by_cases e2 : i' = lo
      · omega
      · simp only [if_pos e1, if_neg e2] at e
        have := hR i' (by omega) h4
        omega
    · by_cases e2 : i' = lo
      · simp only [if_pos e2, if_neg e1] at e
        have := hR i (by omega) h2
        omega
      · simp only [if_neg e1, if_neg e2] at e
        exact h.inj i i' (by omega) h2 (by omega) h4 e
  · by_cases e1 : i = lo
    · simp only [if_pos e1]; omega
    · simp only [if_neg e1]; exact h.ne i (by omega) h2
/-- A table of no rows yet. -/
theorem Tab.empty (W : World) (n m : Nat) (R : Nat → Nat) (V : Nat → Nat → Int) : Tab (W.alloc (.cells (madeCells #[.slice none 0 0] (n + 1)) 155)) W.heap.size n m (n + 1) R V :=
  ⟨(World.rowIs_made W (.slice none 0 0) (n + 1) 155).congr (fun i hi => by rw [if_neg (by omega)]), fun i h1 h2 => by omega, fun i i' h1 h2 => by omega, fun i h1 h2 => by omega⟩
end

section
variable {α : Type} [DecidableEq α]
/-- What the table holds when row r is filled from place c on. -/
def fillV (a b : List α) (r c : Nat) : Nat → Nat → Int := fun i j => if r < i ∨ (i = r ∧ c ≤ j) then (tl (a.drop i) (b.drop j) : Int) else 0
theorem fillV_old {a b : List α} {r c i : Nat} (j : Nat) (h : r < i) : fillV a b r c i j = (tl (a.drop i) (b.drop j) : Int) := if_pos (.inl h)
theorem fillV_now {a b : List α} {r c j : Nat} (h : c ≤ j) : fillV a b r c r j = (tl (a.drop r) (b.drop j) : Int) := if_pos (.inr ⟨rfl, h⟩)
end

theorem info3 : (Tryz.prog.info? 3).map (fun i => (i.zero, i.size, i.bytes)) = some (some (.int .i64 0), 1, 8) := by kernel_rfl
theorem info155 : (Tryz.prog.info? 155).map (fun i => (i.zero, i.size, i.bytes)) = some (some (.slice none 0 0), 1, 24) := by kernel_rfl
theorem makeI (m : Nat) (hm : m ≤ 1000000) (w : World) : (Instr.makeSlice 155 (.int .i64 ((m : Int) + 1)) (.int .i64 ((m : Int) + 1))).run Tryz.prog w = .ok (.slice (some ⟨w.heap.size, 0, none⟩) (m + 1) (m + 1)) (w.alloc (.cells (madeCells #[.int .i64 0] (m + 1)) 3)) :=
  run_make_row' 155 3 (.int .i64 0) 8 Tryz.underlying155 info3 rfl .i64 .i64 (m + 1) (by omega) (by omega) w
theorem makeR (m : Nat) (hm : m ≤ 1000000) (w : World) : (Instr.makeSlice 153 (.int .i64 ((m : Int) + 1)) (.int .i64 ((m : Int) + 1))).run Tryz.prog w = .ok (.slice (some ⟨w.heap.size, 0, none⟩) (m + 1) (m + 1)) (w.alloc (.cells (madeCells #[.slice none 0 0] (m + 1)) 155)) :=
  run_make_row' 153 155 (.slice none 0 0) 24 Tryz.underlying153 info155 rfl .i64 .i64 (m + 1) (by omega) (by omega) w

end Go.Proofs.YtndblaemladppabGreatDoor

end
section
-- SlCut
namespace Go.Proofs.YtndblaemladppabGreatDoor
open Go.RowKit Go.Shelf Go.SeqLib Go.DiffLib Go.BigFrame
attribute [local go_sem] Oper.semAt_some

/-- A slice that reads, cut. -/
theorem SlV.cutCore {W : World} {p : Option Addr} {n cap : Nat} {vals : List Value} (h : SlV W (.slice p n cap) vals) (hl : vals.length = n) (lo hi : Nat) (h1 : lo ≤ hi) (h2 : hi ≤ n) :
    ∃ p' c', sliced p lo hi cap 1 = .slice p' (hi - lo) c' ∧ SlV W (.slice p' (hi - lo) c') ((vals.take hi).drop lo) ∧ (∀ k, Value.ownBlock (.slice p' (hi - lo) c') = some k → Value.ownBlock (.slice p n cap) = some k) := by
  obtain ⟨p0, cap0, e0, q1, q2, hc⟩ := h
  rw [Value.slice.injEq] at e0
  obtain ⟨rfl, _, rfl⟩ := e0
  have hlen : ((vals.take hi).drop lo).length = hi - lo := by rw [List.length_drop, List.length_take]; omega
  refine ⟨_, _, rfl, ⟨_, _, by rw [hlen], by rw [hlen]; omega, by omega, fun i x hi' => ?_⟩, fun k hk => ?_⟩
  · rw [List.getElem?_drop, List.getElem?_take] at hi'
    split at hi'
    · obtain ⟨b, off, rfl, hcell⟩ := hc _ _ hi'
      have hne : ¬ cap = lo := by omega
      rw [if_neg hne]
      have ea : (⟨b, off, none⟩ : Addr).add (lo * 1) = ⟨b, off + lo, none⟩ := by unfold Addr.add; split <;> simp_all
      refine ⟨b, off + lo, by rw [Option.map_some, ea], ?_⟩
      rw [Nat.add_assoc]
      exact hcell
    · cases hi'
  · cases p with
    | none =>
      by_cases e : cap = lo
      · rw [if_pos e] at hk; cases hk
      · rw [if_neg e] at hk; cases hk
    | some ad =>
      by_cases e : cap = lo
      · rw [if_pos e] at hk; exact hk
      · rw [if_neg e] at hk
        have : (ad.add (lo * 1)).block = ad.block := by unfold Addr.add; split <;> rfl
        simp only [Option.map_some, Value.ownBlock, this] at hk
        exact hk
theorem size_string (w : World) : (sizeOf 9).run Tryz.prog w = .ok 1 w := by
  obtain ⟨i0, hi, _, h2, _⟩ := info_parts info9
  rw [run_sizeOf w hi]
  have : Tryz.prog.cellsOf 9 = 1 := by kernel_rfl
  rw [this]
section
variable {W : World} {p : Option Addr} {n cap : Nat} {vals : List Value}
theorem elem_texts : Tryz.prog.elem 29 = 9 := by simp [Program.elem, Tryz.underlying29]
theorem SlV.high (h : SlV W (.slice p n cap) vals) (hl : vals.length = n) (hi : Nat) (h2 : hi ≤ n) :
    ∃ p' c', SlV W (.slice p' hi c') (vals.take hi) ∧ (∀ k, Value.ownBlock (.slice p' hi c') = some k → Value.ownBlock (.slice p n cap) = some k) ∧ ∀ w, (Instr.sliceAt 29 (.slice p n cap) none (some (.int .i64 (hi : Int))) none).run Tryz.prog w = .ok (.slice p' hi c') w := by
  have hcap : n ≤ cap := by obtain ⟨p0, cap0, e0, q1, _⟩ := h; cases e0; omega
  obtain ⟨p', c', e, s, o⟩ := h.cutCore hl 0 hi (Nat.zero_le _) h2
  refine ⟨p', c', by simpa using s, o, fun w => ?_⟩
  have ht : Tryz.prog.underlying 29 = some (.slice (Tryz.prog.elem 29)) := by rw [elem_texts]; exact Tryz.underlying29
  rw [run_sliceAt_slice _ _ _ _ _ _ ht, run_slice_h _ _ _ _ _ ht .i64 (hi : Int) (by omega) (by omega), elem_texts, size_string]
  show Result.ok (sliced p 0 hi cap 1) w = _
  rw [e]
  rfl
theorem SlV.low (h : SlV W (.slice p n cap) vals) (hl : vals.length = n) (lo : Nat) (h2 : lo ≤ n) :
    ∃ p' c', SlV W (.slice p' (n - lo) c') (vals.drop lo) ∧ (∀ k, Value.ownBlock (.slice p' (n - lo) c') = some k → Value.ownBlock (.slice p n cap) = some k) ∧ ∀ w, (Instr.sliceAt 29 (.slice p n cap) (some (.int .i64 (lo : Int))) none none).run Tryz.prog w = .ok (.slice p' (n - lo) c') w := by
  obtain ⟨p', c', e, s, o⟩ := h.cutCore hl lo n h2 (Nat.le_refl _)
  rw [List.take_of_length_le (by omega)] at s
  refine ⟨p', c', s, o, fun w => ?_⟩
  have ht : Tryz.prog.underlying 29 = some (.slice (Tryz.prog.elem 29)) := by rw [elem_texts]; exact Tryz.underlying29
  rw [run_sliceAt_slice _ _ _ _ _ _ ht, run_slice_l _ _ _ _ _ ht .i64 (lo : Int) (by omega) (by omega), elem_texts, size_string]
  show Result.ok (sliced p lo n cap 1) w = _
  rw [e]
theorem SlV.mid (h : SlV W (.slice p n cap) vals) (hl : vals.length = n) (lo hi : Nat) (h1 : lo ≤ hi) (h2 : hi ≤ n) :
    ∃ p' c', SlV W (.slice p' (hi - lo) c') ((vals.take hi).drop lo) ∧ (∀ k, Value.ownBlock (.slice p' (hi - lo) c') = some k → Value.ownBlock (.slice p n cap) = some k) ∧ ∀ w, (Instr.sliceAt 29 (.slice p n cap) (some (.int .i64 (lo : Int))) (some (.int .i64 (hi : Int))) none).run Tryz.prog w = .ok (.slice p' (hi - lo) c') w := by
  have hcap : n ≤ cap := by obtain ⟨p0, cap0, e0, q1, _⟩ := h; cases e0; omega
  obtain ⟨p', c', e, s, o⟩ := h.cutCore hl lo hi h1 h2
  refine ⟨p', c', s, o, fun w => ?_⟩
  have ht : Tryz.prog.underlying 29 = some (.slice (Tryz.prog.elem 29)) := by rw [elem_texts]; exact Tryz.underlying29
  rw [run_sliceAt_slice _ _ _ _ _ _ ht, run_slice_lh _ _ _ _ _ ht .i64 .i64 (lo : Int) (hi : Int) (by omega) (by omega) (by omega), elem_texts, size_string]
  show Result.ok (sliced p lo hi cap 1) w = _
  rw [e]
end

end Go.Proofs.YtndblaemladppabGreatDoor

end
section
-- DBack
namespace Go.Proofs.YtndblaemladppabGreatDoor
open Go.RowKit Go.Shelf Go.SeqLib
attribute [local go_sem] Oper.semAt_some

/-- The places from n - 1 down to k. -/
def dn (n k : Nat) : List Nat := (List.range n).reverse.take (n - k)
theorem dn_self (n : Nat) : dn n n = [] := by simp [dn]
theorem dn_zero (n : Nat) : dn n 0 = (List.range n).reverse := by
  unfold dn; rw [List.take_of_length_le]; simp
theorem dn_step {n k : Nat} (h : k < n) : dn n (k + 1) ++ [k] = dn n k := by
  unfold dn
  have hl : (List.range n).reverse.length = n := by simp
  rw [show n - k = (n - (k + 1)) + 1 by omega, List.take_succ_eq_append_getElem (by rw [hl]; omega)]
  congr 2
  rw [List.getElem_reverse, List.getElem_range]
  simp; omega
theorem dn_pre (n k : Nat) : dn n k <+: (List.range n).reverse := List.take_prefix _ _

/-- A place, and what stands there, as yield takes them. -/
abbrev encB (zs : List ByteArray) (i : Nat) : Array Value := #[.int .i64 (i : Int), .string (zs.getD i ⟨#[]⟩)]

set_option maxRecDepth 100000 in
set_option maxHeartbeats 1000000 in
theorem back1 (v : Value) (zs : List ByteArray) (hzs : zs.length ≤ 1000000) (Bk : Nat) :
    IterB Tryz.prog 130 #[.pointer (some ⟨Bk, 0, none⟩)] (encB zs) (List.range zs.length).reverse (fun k => k = Bk ∨ svD v (zs.map Value.string) k)
      (fun W => Boxed W Bk 29 v ∧ SlV W v (zs.map Value.string)) := {
  lt0 := by
    rintro W ⟨b1, b2⟩ k (rfl | h)
    · exact b1.lt
    · exact b2.lt k h
  kept0 := by
    rintro W W' ⟨b1, b2⟩ _ hk
    exact ⟨(hk _ (.inl rfl)).trans b1, b2.kept (fun k h => hk k (.inr h))⟩
  runs := by
    intro l J Jx S W hY hI hJ hDS
    obtain ⟨b1, b2⟩ := hI
    have b2' := b2
    obtain ⟨p, cap, rfl, hcap, hmax, hcells⟩ := b2
    have hc1 := b1.cell
    obtain ⟨n, HN⟩ : ∃ n, Hid (zs.length = n) := ⟨_, rfl⟩
    have hmn : (zs.map Value.string).length = n := by rw [List.length_map]; exact HN.out
    have hfin : ∀ {W9 : World}, Chg S W W9 → Boxed W9 Bk 29 (.slice p (zs.map Value.string).length cap) ∧ SlV W9 (.slice p (zs.map Value.string).length cap) (zs.map Value.string) := fun c9 => ⟨c9.boxed b1 (hDS _ (.inl rfl)), b2'.chg c9 (fun k hk => hDS k (.inr hk))⟩
    rw [HN.out] at hY hzs ⊢
    have hcap' : n ≤ cap := by omega
    have HF : Hid (∀ {W9 : World}, Chg S W W9 → Boxed W9 Bk 29 (.slice p (zs.map Value.string).length cap) ∧ SlV W9 (.slice p (zs.map Value.string).length cap) (zs.map Value.string)) := hfin
    have HD : Hid (∀ k, k = Bk ∨ svD (.slice p (zs.map Value.string).length cap) (zs.map Value.string) k → ¬ S k) := hDS
    have HC : Hid (∀ i x, (zs.map Value.string)[i]? = some x → ∃ b off, p = some ⟨b, off, none⟩ ∧ W.cell? ⟨b, off + i, none⟩ = some x) := hcells
    have hbx : Boxed W Bk 29 (.slice p n cap) := by rw [← hmn]; exact b1
    have hc2 := hbx.cell
    clear hfin hDS hcells hcap b2' hc1 b1 hmn
    refine callsIn_of_wp Tryz.func130 rfl trivial ?_
    simp only [Tryz.ntmps130, List.size_toArray, List.length_cons, List.length_nil, Nat.reduceAdd, Nat.reduceSub, Array.replicate_succ, Array.replicate_zero, List.push_toArray, List.append_toArray, List.nil_append, List.cons_append]
    gi_wp2
    gi_loopw [3] (fun i wr => ∃ (k : Nat) (So : Blk), k ≤ n ∧ i = .int .i64 ((k : Int) - 1) ∧ J (dn n k) So wr ∧ Chg S W wr ∧ Grew S W So)
      (fun i _ => (intOf i + 1).toNat)
    case atStart => exact ⟨n, S, Nat.le_refl _, by go_num, by rw [dn_self]; exact hJ, Chg.refl _ _, Grew.refl _ _⟩
    case round =>
      obtain ⟨k, So, hk, rfl, j, c, g⟩ := hrel
      by_cases hlt : 0 < k
      · obtain ⟨m, rfl⟩ : ∃ m, k = m + 1 := ⟨k - 1, by omega⟩
        have hmz : m < zs.length := by rw [HN.out]; omega
        obtain ⟨b, off, rfl, hcell⟩ := HC.out m (.string zs[m]) (by simp [hmz])
        have hzne : zs.map Value.string ≠ [] := by intro h; have := congrArg List.length h; simp at this; subst this; simp at hmz
        have hcw : wr.cell? ⟨b, off + m, none⟩ = some (.string zs[m]) := (World.cell?_of_block (a := ⟨b, off + m, none⟩) (c.block b (World.block_lt_of_cell? W _ hcell) (HD.out b (.inr ⟨hzne, rfl⟩)))).trans hcell
        have hbw : Boxed wr Bk 29 (.slice (some ⟨b, off, none⟩) n cap) := c.boxed hbx (HD.out Bk (.inl rfl))
        have hbc := hbw.cell
        have HX : Hid (zs.getD m ⟨#[]⟩ = zs[m]) := by
          show _ = _
          simp [List.getD, hmz]
        clear hcell hc2
        obtain ⟨x, hx⟩ : ∃ x, zs[m] = x := ⟨_, rfl⟩
        rw [hx] at hcw
        have hX2 : zs.getD m ⟨#[]⟩ = x := HX.out.trans hx
        clear hx HX
        have hpr : dn n (m + 1) ++ [m] <+: (List.range n).reverse := by rw [dn_step (by omega)]; exact dn_pre n m
        have HP : Hid (dn n (m + 1) ++ [m] = dn n m) := dn_step (by omega)
        obtain ⟨fnr, tmps, assign, body, hy, hR⟩ := hY (dn n (m + 1)) m So wr hpr j
        simp only [encB, hX2] at hy
        have hm0 : ((m + 1 : Nat) : Int) - 1 = (m : Int) := by omega
        rw [hm0]
        clear hX2
        gi_wp2
        refine ⟨rfl, hR.mono ?_⟩
        rintro e W3 ⟨S3, c3, g3, (⟨rfl, j3⟩ | ⟨rfl, j3⟩)⟩
        · have cc := c.trans c3 g
          have gg := g.trans g3 c.size
          gi_wp2
          go_roundw
          case rel => exact ⟨m, S3, by omega, by go_num, by rw [← HP.out]; exact j3, cc, gg⟩
          case measure => simp [intOf]
        · have cc := c.trans c3 g
          have gg := g.trans g3 c.size
          gi_wp2
          refine bodyPost_ret (results_none rfl _ _ _) rfl ?_
          exact ⟨⟨_, rfl⟩, _, S3, .inr ⟨hpr, j3⟩, HF.out cc, cc, gg⟩
      · obtain rfl : k = 0 := by omega
        gi_wp2
        go_end0
        exact ⟨⟨_, rfl⟩, _, So, .inl ⟨dn_zero n, j⟩, HF.out c, c, g⟩ }

set_option maxHeartbeats 1000000 in
theorem back_in (p : Option Addr) (n cap : Nat) (w : World) : CallsIn Fence.wide 0 Tryz.prog 128 #[.slice p n cap] w fun e w' =>
    e = .returned (.func (.func 130) #[] #[.pointer (some ⟨w.heap.size, 0, none⟩)]) ∧ Boxed w' w.heap.size 29 (.slice p n cap) ∧ Chg No w w' := by
  refine callsIn_of_wp Tryz.func128 rfl trivial ?_
  simp only [Tryz.ntmps128, List.size_toArray, List.length_cons, List.length_nil, Nat.reduceAdd, Nat.reduceSub, Array.replicate_succ, Array.replicate_zero, List.push_toArray, List.append_toArray, List.nil_append, List.cons_append]
  gi_wp2
  go_ret
  exact ⟨rfl, Boxed.new _ _ _, (Chg.refl _ w).alloc _⟩

theorem back_enters : ∀ args w, (callFunc 130 args).run Tryz.prog w = .ok (.enter 130 args) w := enters_of Tryz.func130 (by kernel_rfl) rfl

end Go.Proofs.YtndblaemladppabGreatDoor

end
section
-- DLike
namespace Go.Proofs.YtndblaemladppabGreatDoor
open Go.RowKit Go.Shelf Go.SeqLib
attribute [local go_sem] Oper.semAt_some

theorem likeD_in (w : World) :
    CallsDIn Fence.wide 0 Tryz.prog 129 #[] .returning w fun e u' w' => e = .returned (.tuple #[]) ∧ u' = .returning ∧ w' = w := by
  refine callsDIn_of_wpSIn Tryz.func129 rfl trivial fun c₀ cs hu => ?_
  apply wpSIn_region
  cases c₀
  simp_all [wpOpsSIn, go_sem, recoverD, Tryz.ntmps129, bodyPostS, results, Tryz.results129]

theorem like_in (x y : ByteArray) (w : World) :
    CallsIn Fence.wide 0 Tryz.prog 123 #[.string x, .string y] w fun e w' => e = .returned (.bool (decide (x = y))) ∧ w' = w := by
  have hb : Hid ((x.toList == y.toList) = decide (x = y)) := by
    show _ = _
    by_cases h : x = y
    · subst h; simp
    · rw [decide_eq_false h, beq_eq_false_iff_ne]; exact fun e => h (text_ext e)
  refine callsIn_of_wp_defers Tryz.func123 rfl trivial ?_
  simp only [Tryz.ntmps123, List.size_toArray, List.length_cons, List.length_nil, Nat.reduceAdd, Nat.reduceSub, Array.replicate_succ, Array.replicate_zero, List.push_toArray, List.append_toArray, List.nil_append, List.cons_append]
  gi_wp2
  refine leavesIn_cons (f := 129) (args := #[]) (by simp) (by simp [Fence.wide]) (by simp [go_sem]) (by simp [Target.leads]; try trivial) ?_
  refine (likeD_in _).mono ?_
  rintro e u' w'' ⟨rfl, rfl, rfl⟩
  simp [LeavesIn, settle, results, Tryz.results123, go_sem, hb.out]

end Go.Proofs.YtndblaemladppabGreatDoor

end
section
-- DTails
namespace Go.Proofs.YtndblaemladppabGreatDoor
open Go.RowKit Go.Shelf Go.SeqLib Go.DiffLib
attribute [local go_sem] Oper.semAt_some

theorem dn_at {n x : Nat} {pre : List Nat} (h : pre ++ [x] <+: (List.range n).reverse) : pre.length + 1 ≤ n ∧ x + pre.length + 1 = n := by
  have h1 := h.length_le
  simp at h1
  refine ⟨h1, ?_⟩
  obtain ⟨t, ht⟩ := h
  have h2 : (List.range n).reverse[pre.length]? = some x := by rw [← ht]; simp
  rw [List.getElem?_reverse (by simp; omega), List.getElem?_range (by simp; omega)] at h2
  have := Option.some.inj h2
  simp at this
  omega

set_option maxRecDepth 100000 in
set_option maxHeartbeats 1000000 in
theorem tails_in (v u : Value) (a b : List ByteArray) (w : World) (hv : SlV w v (a.map Value.string)) (hu : SlV w u (b.map Value.string)) (ha : a.length ≤ 1000) (hb : b.length ≤ 1000) :
    CallsIn Fence.wide 0 Tryz.prog 122 #[v, u] w fun e w' => ∃ G R, e = .returned (.slice (some ⟨G, 0, none⟩) (a.length + 1) (a.length + 1)) ∧ Tab w' G a.length b.length 0 R (fillV a b 0 0) ∧ (∀ k, tabB G a.length 0 R k → w.heap.size ≤ k) ∧ Chg No w w' := by
  have hmix : Tryz.prog.follows .mixedOrders = true := by kernel_rfl
  obtain ⟨p, cp, rfl, hp1, hp2, hpc⟩ := id hv
  obtain ⟨q, cq, rfl, hq1, hq2, hqc⟩ := id hu
  rw [List.length_map] at hp1 hq1
  obtain ⟨n, HN⟩ : ∃ n, Hid (a.length = n) := ⟨_, rfl⟩
  obtain ⟨m, HM⟩ : ∃ m, Hid (b.length = m) := ⟨_, rfl⟩
  rw [List.length_map, HN.out] at hv
  rw [List.length_map, HM.out] at hu
  rw [List.length_map, List.length_map, HN.out, HM.out]
  rw [HN.out] at ha hp1
  rw [HM.out] at hb hq1
  have hmR := makeR n (by omega)
  have hmI := makeI m (by omega)
  refine callsIn_of_wp_marks Tryz.func122 rfl trivial ?_
  simp only [Tryz.ntmps122, List.size_toArray, List.length_cons, List.length_nil, Nat.reduceAdd, Nat.reduceSub, Array.replicate_succ, Array.replicate_zero, List.push_toArray, List.append_toArray, List.nil_append, List.cons_append]
  gi_wp2
  have hB0 : Boxed (((w.alloc (.cells #[.slice q m cq] 29)).alloc (.cells (madeCells #[.slice none 0 0] (n + 1)) 155)).alloc (.cells #[.slice (some ⟨w.heap.size + 1, 0, none⟩) (n + 1) (n + 1)] 153)) w.heap.size 29 (.slice q m cq) := ((Boxed.new _ _ _).alloc _).alloc _
  have hL0 : Boxed (((w.alloc (.cells #[.slice q m cq] 29)).alloc (.cells (madeCells #[.slice none 0 0] (n + 1)) 155)).alloc (.cells #[.slice (some ⟨w.heap.size + 1, 0, none⟩) (n + 1) (n + 1)] 153)) (w.heap.size + 1 + 1) 153 (.slice (some ⟨w.heap.size + 1, 0, none⟩) (n + 1) (n + 1)) := by
    have := Boxed.new ((w.alloc (.cells #[.slice q m cq] 29)).alloc (.cells (madeCells #[.slice none 0 0] (n + 1)) 155)) 153 (.slice (some ⟨w.heap.size + 1, 0, none⟩) (n + 1) (n + 1))
    simpa using this
  have hT0 : Tab (((w.alloc (.cells #[.slice q m cq] 29)).alloc (.cells (madeCells #[.slice none 0 0] (n + 1)) 155)).alloc (.cells #[.slice (some ⟨w.heap.size + 1, 0, none⟩) (n + 1) (n + 1)] 153)) (w.heap.size + 1) n m (n + 1) (fun _ => 0) (fun _ _ => 0) := by
    have h := Tab.empty (w.alloc (.cells #[.slice q m cq] 29)) n m (fun _ => 0) (fun _ _ => 0)
    rw [World.size_alloc] at h
    exact h.kept (fun k hk => Below.heap_alloc _ _ _ (h.lt k hk))
  have hc0 : Chg No w (((w.alloc (.cells #[.slice q m cq] 29)).alloc (.cells (madeCells #[.slice none 0 0] (n + 1)) 155)).alloc (.cells #[.slice (some ⟨w.heap.size + 1, 0, none⟩) (n + 1) (n + 1)] 153)) := (((Chg.refl _ w).alloc _).alloc _).alloc _
  have hz0 : (((w.alloc (.cells #[.slice q m cq] 29)).alloc (.cells (madeCells #[.slice none 0 0] (n + 1)) 155)).alloc (.cells #[.slice (some ⟨w.heap.size + 1, 0, none⟩) (n + 1) (n + 1)] 153)).heap.size = w.heap.size + 3 := by simp
  generalize (((w.alloc (.cells #[.slice q m cq] 29)).alloc (.cells (madeCells #[.slice none 0 0] (n + 1)) 155)).alloc (.cells #[.slice (some ⟨w.heap.size + 1, 0, none⟩) (n + 1) (n + 1)] 153)) = W0 at *
  have hany : Nonempty (After W0) := After.any W0
  have f1 : ∀ c : After W0, c.val.cell? ⟨w.heap.size, 0, none⟩ = some (.slice q m cq) := fun c => c.cell hB0.cell
  have f2 : ∀ c : After W0, c.val.cell? ⟨w.heap.size + 1 + 1, 0, none⟩ = some (.slice (some ⟨w.heap.size + 1, 0, none⟩) (n + 1) (n + 1)) := fun c => c.cell hL0.cell
  refine region_make_lit (m := 6) (vm := .slice (some ⟨w.heap.size + 3, 0, none⟩) (m + 1) (m + 1)) (.cells (madeCells #[.int .i64 0] (m + 1)) 3) hmix rfl rfl (by kernel_rfl) (by kernel_rfl) rfl rfl (by kernel_rfl) ?_
  simp only [makeHush, hush, List.replicate, List.length_cons, List.length_nil, List.nil_append, List.cons_append, Nat.reduceAdd, Nat.reduceSub]
  repeat (gi_big_quiet_step (fail))
  refine wpQuietIn_nil ⟨fun k => ?_, fun k => ⟨((W0.drewN k).alloc (.cells (madeCells #[.int .i64 0] (m + 1)) 3)).setCell ⟨w.heap.size + 1, n, none⟩ (.slice (some ⟨w.heap.size + 3, 0, none⟩) (m + 1) (m + 1)), ?_, ?_⟩⟩
  · simp [execOp, go_sem, hmI]
  · have hr := hT0.outer.alloc (.cells (madeCells #[.int .i64 0] (m + 1)) 3)
    have hcx := hr.cell (i := n) (by omega)
    have hfx := hr.frozen n
    have hcx' : ((W0.drewN k).alloc (.cells (madeCells #[.int .i64 0] (m + 1)) 3)).cell? ⟨w.heap.size + 1, n, none⟩ = some (.slice none 0 0) := by
      refine Eq.trans hcx ?_
      rw [if_neg (by omega)]
    have hfx' : ((W0.drewN k).alloc (.cells (madeCells #[.int .i64 0] (m + 1)) 3)).frozen? ⟨w.heap.size + 1, n, none⟩ = false := hfx
    simp [execOp, go_sem, hcx', hfx']
  have hT1 := (hT0.kept (W' := W0.drewN k) (fun _ _ => rfl)).new (Nat.le_refl n)
  rw [show (W0.drewN k).heap.size = w.heap.size + 3 from hz0] at hT1
  have hT2 : Tab (((W0.drewN k).alloc (.cells (madeCells #[.int .i64 0] (m + 1)) 3)).setCell ⟨w.heap.size + 1, n, none⟩ (.slice (some ⟨w.heap.size + 3, 0, none⟩) (m + 1) (m + 1))) (w.heap.size + 1) n m n (fun i => if i = n then w.heap.size + 3 else 0) (fillV a b n 0) := by
    refine hT1.congr (fun i j h1 h2 _ => ?_)
    obtain rfl : i = n := by omega
    rw [if_pos rfl, fillV_now (Nat.zero_le _), ← HN.out, tl_end]
    rfl
  have hb2 := (show Boxed (W0.drewN k) _ _ _ from hB0).alloc (.cells (madeCells #[.int .i64 0] (m + 1)) 3)
  have hl2 := (show Boxed (W0.drewN k) _ _ _ from hL0).alloc (.cells (madeCells #[.int .i64 0] (m + 1)) 3)
  have cT : Chg (fun k => k = w.heap.size + 1) ((W0.drewN k).alloc (.cells (madeCells #[.int .i64 0] (m + 1)) 3)) (((W0.drewN k).alloc (.cells (madeCells #[.int .i64 0] (m + 1)) 3)).setCell ⟨w.heap.size + 1, n, none⟩ (.slice (some ⟨w.heap.size + 3, 0, none⟩) (m + 1) (m + 1))) := Chg.setCell (S := fun k => k = w.heap.size + 1) (Chg.refl _ _) (p := ⟨w.heap.size + 1, n, none⟩) (.inl rfl) _
  have hb3 := cT.boxed hb2 (by omega)
  have hl3 := cT.boxed hl2 (by omega)
  have hc3 : Chg No w (((W0.drewN k).alloc (.cells (madeCells #[.int .i64 0] (m + 1)) 3)).setCell ⟨w.heap.size + 1, n, none⟩ (.slice (some ⟨w.heap.size + 3, 0, none⟩) (m + 1) (m + 1))) := ((drewNC hc0 k).alloc _).setCell (p := ⟨w.heap.size + 1, n, none⟩) (.inr (by simp)) _
  have hz3 : (((W0.drewN k).alloc (.cells (madeCells #[.int .i64 0] (m + 1)) 3)).setCell ⟨w.heap.size + 1, n, none⟩ (.slice (some ⟨w.heap.size + 3, 0, none⟩) (m + 1) (m + 1))).heap.size = w.heap.size + 4 := by
    simp [World.setCell]
    exact hz0
  generalize (((W0.drewN k).alloc (.cells (madeCells #[.int .i64 0] (m + 1)) 3)).setCell ⟨w.heap.size + 1, n, none⟩ (.slice (some ⟨w.heap.size + 3, 0, none⟩) (m + 1) (m + 1))) = W3 at *
  clear hT0 hT1 hB0 hL0 hc0 hb2 hl2 cT f1 f2 hany hz0 hmR
  gi_wp2_with fail
  refine ⟨trivial, rfl, (back_in p n cp _).mono ?_⟩
  rintro e W4 ⟨rfl, bk4, c4⟩
  rw [hz3] at bk4 ⊢
  have hv4 := (hv.no hc3).no c4
  have hu4 := (hu.no hc3).no c4
  have hT4 := hT2.chg c4 (fun _ _ h => h)
  have hb4 := c4.boxed hb3 (fun h => h)
  have hl4 := c4.boxed hl3 (fun h => h)
  have hc4 := Chg.seq hc3 c4
  have hz4 : w.heap.size + 4 < W4.heap.size := bk4.lt
  clear hT2 hb3 hl3 hc3 c4 hz3
  gi_wp2
  refine wpIn_rangeB (gf := 130) (lb := #[.pointer (some ⟨w.heap.size + 4, 0, none⟩)]) rfl back_enters (back1 (.slice p n cp) a (by rw [HN.out]; omega) (w.heap.size + 4)) (fun _ => rfl)
    (fun pre S W => ∃ R, S = tabB (w.heap.size + 1) n (n - pre.length) R ∧ Tab W (w.heap.size + 1) n m (n - pre.length) R (fillV a b (n - pre.length) 0) ∧ Boxed W w.heap.size 29 (.slice q m cq) ∧ Boxed W (w.heap.size + 1 + 1) 153 (.slice (some ⟨w.heap.size + 1, 0, none⟩) (n + 1) (n + 1)) ∧ SlV W (.slice q m cq) (b.map Value.string) ∧ (∀ k, S k → w.heap.size < k) ∧ ¬ S (w.heap.size + 1 + 1))
    (fun _ _ _ _ => False) ?parts (fun _ _ => PartB.false _) ⟨bk4, hv4⟩ ⟨_, rfl, hT4, hb4, hl4, hu4, ?own, ?own2⟩ ?apart
    (fun x a' X W => ∃ b1 b2, b1 ≠ b2 ∧ X = (fun k => k = b1 ∨ k = b2) ∧ Boxed W b1 3 (.int .i64 x) ∧ Boxed W b2 9 (.string (a[x]?.getD ⟨#[]⟩)) ∧ a' = { tmps := #[.slice p n cp, .slice q m cq, undef, .pointer (some ⟨w.heap.size, 0, none⟩), .slice none 0 0, .pointer (some ⟨w.heap.size + 1 + 1, 0, none⟩), .pointer (some ⟨b1, 0, none⟩), .pointer (some ⟨b2, 0, none⟩), undef, undef, .slice p n cp, .int .i64 n, .int .i64 (n + 1), .slice (some ⟨w.heap.size + 1, 0, none⟩) (n + 1) (n + 1), .slice (some ⟨w.heap.size + 1, 0, none⟩) (n + 1) (n + 1), .slice p n cp, .int .i64 n, .slice q m cq, .int .i64 m, .int .i64 (m + 1), .slice (some ⟨w.heap.size + 3, 0, none⟩) (m + 1) (m + 1), .pointer (some ⟨w.heap.size + 1, n, none⟩), .slice p n cp, .func (.func 130) #[] #[.pointer (some ⟨w.heap.size + 4, 0, none⟩)], .int .i64 (x : Nat), .string (a[x]?.getD ⟨#[]⟩), undef, undef, undef, undef, undef, undef, undef, undef, undef, undef, undef, undef, undef, undef, undef, undef, undef, undef, undef, undef, undef, undef, undef, undef, undef, undef, undef, undef, undef, undef, undef, undef, undef, undef, undef, undef, undef, undef, undef, undef, undef, undef, undef, undef, undef, undef, undef, undef, undef, undef, undef, undef, undef, undef], defers := [] })
    ?partx ?assign ?body ?done (fun _ _ _ _ _ _ _ h => h.elim)
  case parts =>
    intro pre
    refine ⟨?_, ?_⟩
    · rintro S W ⟨R, rfl, h, _⟩ k hk
      exact h.lt k hk
    · rintro S U W W' ⟨R, rfl, h, g1, g2, g3, g4, g5⟩ c hd
      exact ⟨R, rfl, h.chg c (fun k hk => hd k (.inl hk)), c.boxed g1 (hd _ (.inr (by omega))), c.boxed g2 (hd _ (.inr (by omega))), g3.chg c (fun k hk => hd k (.inr (by have := hu.lt k hk; omega))), g4, g5⟩
  case own =>
    rintro k (rfl | ⟨i, h1, h2, rfl⟩)
    · omega
    · simp at h1
      obtain rfl : i = n := by omega
      simp
  case own2 =>
    rintro (h | ⟨i, h1, h2, h⟩)
    · omega
    · simp at h1
      obtain rfl : i = n := by omega
      simp at h
  case apart =>
    have hown : ∀ k, tabB (w.heap.size + 1) n (n - ([] : List Nat).length) (fun i => if i = n then w.heap.size + 3 else 0) k → w.heap.size < k ∧ k ≠ w.heap.size + 4 := by
      rintro k (rfl | ⟨i, h1, h2, rfl⟩)
      · omega
      · simp at h1
        obtain rfl : i = n := by omega
        simp
    rintro k (rfl | hk) hs
    · exact (hown _ hs).2 rfl
    · have := hv.lt k hk
      have := (hown _ hs).1
      omega
  case partx =>
    intro x a'
    refine ⟨?_, ?_⟩
    · rintro X W ⟨b1, b2, _, rfl, g1, g2, _⟩ k (rfl | rfl)
      · exact g1.lt
      · exact g2.lt
    · rintro X W W' ⟨b1, b2, h, rfl, g1, g2, h3⟩ _ hk
      exact ⟨b1, b2, h, rfl, (hk _ (.inl rfl)).trans g1, (hk _ (.inr rfl)).trans g2, h3⟩
  case assign =>
    intro l x W K hK
    gi_wp2
    refine hK _ (fun k => k = W.heap.size ∨ k = W.heap.size + 1) _ (((Chg.refl _ W).alloc _).alloc _) (fun k hk => by omega) ⟨W.heap.size, W.heap.size + 1, by omega, rfl, (Boxed.new _ _ _).alloc _, ?_, rfl⟩
    have := Boxed.new (W.alloc (.cells #[.int .i64 (x : Int)] 3)) 9 (.string (a[x]?.getD ⟨#[]⟩))
    simpa using this
  case done =>
    rintro d S' W9 hd ⟨R, rfl, hT9, g1, g2, g3, g4, g5⟩ hI' hc hg hK hnd
    have e0 : n - (List.range a.length).reverse.length = 0 := by rw [List.length_reverse, List.length_range, HN.out]; omega
    rw [e0] at hT9 g4 hg hnd
    have hcl := g2.cell
    gi_wp2
    refine ⟨by simp, .inl ⟨_, _, rfl, run_takeDeferred hK, ?_⟩⟩
    refine ⟨_, results_tmp rfl _ _ _, w.heap.size + 1, R, rfl, hT9.kept (fun k hk => World.putObj_heap_other (fun e => hnd (e ▸ hk))), fun k hk => Nat.le_of_lt (g4 k hk), ?_⟩
    refine Chg.putObj (Chg.trans hc4 hc (fun k hk => ?_)) (.inr (by omega)) _
    refine .inr ?_
    have : ∀ k, tabB (w.heap.size + 1) n (n - ([] : List Nat).length) (fun i => if i = n then w.heap.size + 3 else 0) k → w.heap.size ≤ k := by
      rintro k (rfl | ⟨i, h1, h2, rfl⟩)
      · omega
      · simp at h1
        obtain rfl : i = n := by omega
        simp
    exact this k hk
  case body =>
    rintro l pre x S W a' X hpre ⟨R, rfl, hT, hbB, hbL, hsu, hown, hown2⟩ ⟨b1, b2, hne, rfl, hx1, hx2, rfl⟩ hXS ⟨rl, hl⟩ hSl hXl hlw
    obtain ⟨hpl, hpx⟩ := dn_at hpre
    rw [HN.out] at hpx
    have hx : n - pre.length = x + 1 := by omega
    have hx' : n - (pre ++ [x]).length = x := by rw [List.length_append, List.length_singleton]; omega
    have hxn : x < n := by omega
    obtain ⟨ax, HAX⟩ : ∃ ax, Hid (a[x]?.getD ⟨#[]⟩ = ax) := ⟨_, rfl⟩
    rw [HAX.out] at hx2 ⊢
    have HX : Hid (n - (pre ++ [x]).length = x) := hx'
    rw [hx] at hT hown hown2 hSl hXS
    simp only [hx]
    have hGl : w.heap.size + 1 < W.heap.size := hT.outer.lt
    have hany : Nonempty (After W) := After.any W
    have f1 : ∀ c : After W, c.val.cell? ⟨w.heap.size, 0, none⟩ = some (.slice q m cq) := fun c => c.cell hbB.cell
    have f2 : ∀ c : After W, c.val.cell? ⟨w.heap.size + 1 + 1, 0, none⟩ = some (.slice (some ⟨w.heap.size + 1, 0, none⟩) (n + 1) (n + 1)) := fun c => c.cell hbL.cell
    have f3 : ∀ c : After W, c.val.cell? ⟨b1, 0, none⟩ = some (.int .i64 (x : Int)) := fun c => c.cell hx1.cell
    have hxi : (x : Int) < (n : Int) + 1 := by omega
    have hmI' : ∀ w, (Instr.makeSlice 155 (.int .i64 ((m : Int) + 1)) (.int .i64 ((m : Int) + 1))).run Tryz.prog w = .ok (.slice (some ⟨w.heap.size, 0, none⟩) (m + 1) (m + 1)) (w.alloc (.cells (madeCells #[.int .i64 0] (m + 1)) 3)) := hmI
    clear hpre hx hx' hpx hpl
    gi_wp2
    refine region_makeR_lit (m := 5) (vm := .slice (some ⟨W.heap.size, 0, none⟩) (m + 1) (m + 1)) (.cells (madeCells #[.int .i64 0] (m + 1)) 3) hmix rfl rfl (by kernel_rfl) (by kernel_rfl) (by kernel_rfl) rfl rfl (by kernel_rfl) ?_
    simp only [makeHush, hush, List.replicate, List.length_cons, List.length_nil, List.nil_append, List.cons_append, Nat.reduceAdd, Nat.reduceSub]
    repeat (gi_big_quiet_step (fail))
    refine wpQuietIn_nil ⟨fun k => ?_, fun k => ⟨((W.drewN k).alloc (.cells (madeCells #[.int .i64 0] (m + 1)) 3)).setCell ⟨w.heap.size + 1, x, none⟩ (.slice (some ⟨W.heap.size, 0, none⟩) (m + 1) (m + 1)), ?_, ?_⟩⟩
    · simp [execOp, go_sem, hmI']
    · have hr := hT.outer.alloc (.cells (madeCells #[.int .i64 0] (m + 1)) 3)
      have hcx := hr.cell (i := x) (by omega)
      have hfx := hr.frozen x
      have hcx' : ((W.drewN k).alloc (.cells (madeCells #[.int .i64 0] (m + 1)) 3)).cell? ⟨w.heap.size + 1, x, none⟩ = some (.slice none 0 0) := by
        refine Eq.trans hcx ?_
        rw [if_neg (by omega)]
      have hfx' : ((W.drewN k).alloc (.cells (madeCells #[.int .i64 0] (m + 1)) 3)).frozen? ⟨w.heap.size + 1, x, none⟩ = false := hfx
      simp [execOp, go_sem, hcx', hfx']
    have hT5 : Tab (((W.drewN k).alloc (.cells (madeCells #[.int .i64 0] (m + 1)) 3)).setCell ⟨w.heap.size + 1, x, none⟩ (.slice (some ⟨W.heap.size, 0, none⟩) (m + 1) (m + 1))) (w.heap.size + 1) n m x (fun i => if i = x then W.heap.size else R i) (fillV a b x m) := by
      have h := (hT.kept (W' := W.drewN k) (fun _ _ => rfl)).new (show x ≤ n by omega)
      rw [show (W.drewN k).heap.size = W.heap.size from rfl] at h
      refine h.congr (fun i j h1 h2 h3 => ?_)
      by_cases e : i = x
      · subst e
        rw [if_pos rfl]
        unfold fillV
        split
        · obtain rfl : j = m := by omega
          rw [← HM.out, tl_end']
          rfl
        · rfl
      · rw [if_neg e, fillV_old _ (show x < i by omega)]
        unfold fillV
        rw [if_pos (by omega)]
    have cT : Chg (tabB (w.heap.size + 1) n (x + 1) R) W (((W.drewN k).alloc (.cells (madeCells #[.int .i64 0] (m + 1)) 3)).setCell ⟨w.heap.size + 1, x, none⟩ (.slice (some ⟨W.heap.size, 0, none⟩) (m + 1) (m + 1))) :=
      ((drewNC (Chg.refl _ W) k).alloc _).setCell (p := ⟨w.heap.size + 1, x, none⟩) (.inl (.inl rfl)) _
    have g1 := cT.boxed hbB (fun h => by have := hown _ h; omega)
    have g2 := cT.boxed hbL hown2
    have g3 := cT.boxed hx1 (hXS b1 (.inl rfl)).1
    have g4 := cT.boxed hx2 (hXS b2 (.inr rfl)).1
    have g5 := cT.same hl hSl
    have g6 := hsu.chg cT (fun k hk h => by have := hu.lt k hk; have := hown _ h; omega)
    have gz : (((W.drewN k).alloc (.cells (madeCells #[.int .i64 0] (m + 1)) 3)).setCell ⟨w.heap.size + 1, x, none⟩ (.slice (some ⟨W.heap.size, 0, none⟩) (m + 1) (m + 1))).heap.size = W.heap.size + 1 := by
      simp [World.setCell]
    generalize (((W.drewN k).alloc (.cells (madeCells #[.int .i64 0] (m + 1)) 3)).setCell ⟨w.heap.size + 1, x, none⟩ (.slice (some ⟨W.heap.size, 0, none⟩) (m + 1) (m + 1))) = W5 at *
    have hb1 := hx1.lt
    have hb2 := hx2.lt
    have hll : l < W.heap.size := (Array.getElem?_eq_some_iff.1 hl).1
    have hLl := hbL.lt
    clear f1 f2 f3 hany hxi hx1 hx2 hl hbL hbB hsu
    have gc := g1.cell
    gi_wp2_with fail
    refine ⟨trivial, rfl, (back_in q m cq _).mono ?_⟩
    rintro e W6 ⟨rfl, bk6, c6⟩
    rw [gz] at bk6 ⊢
    have hT6 := hT5.chg c6 (fun _ _ h => h)
    have k1 := c6.boxed g1 (fun h => h)
    have k2 := c6.boxed g2 (fun h => h)
    have k3 := c6.boxed g3 (fun h => h)
    have k4 := c6.boxed g4 (fun h => h)
    have k5 := c6.same g5 (fun h => h)
    have k6 := g6.no c6
    have hz6 := c6.size
    have hz7 := bk6.lt
    clear g1 g2 g3 g4 g5 g6 hT5
    gi_wp2
    refine wpIn_rangeN k5 (gf := 130) (lb := #[.pointer (some ⟨W.heap.size + 1, 0, none⟩)]) rfl back_enters (back1 (.slice q m cq) b (by rw [HM.out]; omega) (W.heap.size + 1)) (fun _ => rfl)
      (fun pre2 S2 W2 => S2 = (fun k => k = W.heap.size) ∧ Tab W2 (w.heap.size + 1) n m x (fun i => if i = x then W.heap.size else R i) (fillV a b x (m - pre2.length)) ∧ Boxed W2 w.heap.size 29 (.slice q m cq) ∧ Boxed W2 (w.heap.size + 1 + 1) 153 (.slice (some ⟨w.heap.size + 1, 0, none⟩) (n + 1) (n + 1)) ∧ Boxed W2 b1 3 (.int .i64 x) ∧ Boxed W2 b2 9 (.string ax))
      (fun _ _ _ _ => False) ?parts2 (fun _ _ => PartB.false _) (S := fun k => k = W.heap.size) ⟨bk6, k6⟩ ⟨rfl, hT6, k1, k2, k3, k4⟩ ?apart2
      (fun j => { tmps := #[.slice p n cp, .slice q m cq, undef, .pointer (some ⟨w.heap.size, 0, none⟩), .slice none 0 0, .pointer (some ⟨w.heap.size + 1 + 1, 0, none⟩), .pointer (some ⟨b1, 0, none⟩), .pointer (some ⟨b2, 0, none⟩), .int .i64 (j : Nat), .string (b[j]?.getD ⟨#[]⟩), .slice p n cp, .int .i64 n, .int .i64 (n + 1), .slice (some ⟨w.heap.size + 1, 0, none⟩) (n + 1) (n + 1), .slice (some ⟨w.heap.size + 1, 0, none⟩) (n + 1) (n + 1), .slice p n cp, .int .i64 n, .slice q m cq, .int .i64 m, .int .i64 (m + 1), .slice (some ⟨w.heap.size + 3, 0, none⟩) (m + 1) (m + 1), .pointer (some ⟨w.heap.size + 1, n, none⟩), .slice p n cp, .func (.func 130) #[] #[.pointer (some ⟨w.heap.size + 4, 0, none⟩)], .int .i64 (x : Nat), .string ax, .slice (some ⟨w.heap.size + 1, 0, none⟩) (n + 1) (n + 1), .int .i64 (x : Nat), .slice q m cq, .int .i64 m, .int .i64 (m + 1), .slice (some ⟨W.heap.size, 0, none⟩) (m + 1) (m + 1), .pointer (some ⟨w.heap.size + 1, x, none⟩), .slice q m cq, .func (.func 130) #[] #[.pointer (some ⟨W.heap.size + 1, 0, none⟩)], .int .i64 (j : Nat), .string (b[j]?.getD ⟨#[]⟩), undef, undef, undef, undef, undef, undef, undef, undef, undef, undef, undef, undef, undef, undef, undef, undef, undef, undef, undef, undef, undef, undef, undef, undef, undef, undef, undef, undef, undef, undef, undef, undef, undef, undef, undef, undef, undef, undef, undef, undef, undef, undef, undef], defers := [] })
      ?assign2 ?body2 ?done2 (fun _ _ _ _ _ h => h.elim)
    case parts2 =>
      intro pre2
      have hlt := hT6.lt
      refine ⟨?_, ?_⟩
      · rintro S2 W2 ⟨rfl, h, _⟩ k hk
        exact h.lt k (.inr ⟨x, Nat.le_refl _, by omega, by simp [hk]⟩)
      · rintro S2 U W2 W2' ⟨rfl, h, h1, h2, h3, h4⟩ c hd
        exact ⟨rfl, h.chg c (fun k hk => hd k (.inr (hlt k hk))), c.boxed h1 (hd _ (.inr (by omega))), c.boxed h2 (hd _ (.inr (by omega))), c.boxed h3 (hd _ (.inr (by omega))), c.boxed h4 (hd _ (.inr (by omega)))⟩
    case apart2 =>
      rintro k (hk | hk) hk2
      · omega
      · have := hu.lt _ hk; omega
    case assign2 =>
      intro l2 j W2 K hK
      gi_wp2
      exact hK
    case done2 =>
      rintro S2 W2 ⟨rfl, h, h1, h2, h3, h4⟩ hi2 c2 gr2
      rw [List.length_reverse, List.length_range, HM.out, Nat.sub_self] at h
      gi_wp2
      have cc : Chg (tabB (w.heap.size + 1) n (x + 1) R) W W2 := (cT.trans (c6.mono (fun _ h => h.elim)) (Grew.refl _ _)).trans c2 (fun k hk => .inr (by omega))
      refine ⟨tabB (w.heap.size + 1) n x (fun i => if i = x then W.heap.size else R i), cc, ?_, fun i => if i = x then W.heap.size else R i, ?_⟩
      · rintro k (hk | ⟨i, e1, e2, hk⟩)
        · exact .inl (.inl hk)
        · by_cases ei : i = x
          · simp only [if_pos ei] at hk
            exact .inr (by omega)
          · simp only [if_neg ei] at hk
            exact .inl (.inr ⟨i, by omega, e2, hk⟩)
      rw [HX.out]
      refine ⟨rfl, h, h1, h2, hi2.2, ?_, ?_⟩
      · rintro k (hk | ⟨i, e1, e2, hk⟩)
        · omega
        · by_cases ei : i = x
          · simp only [if_pos ei] at hk
            omega
          · simp only [if_neg ei] at hk
            exact hown k (.inr ⟨i, by omega, e2, hk⟩)
      · rintro (hk | ⟨i, e1, e2, hk⟩)
        · omega
        · by_cases ei : i = x
          · simp only [if_pos ei] at hk
            omega
          · simp only [if_neg ei] at hk
            exact hown2 (.inr ⟨i, by omega, e2, hk⟩)
    case body2 =>
      rintro l2 pre2 j S2 W2 hpre2 ⟨rfl, h, h1, h2, h3, h4⟩
      obtain ⟨hpl2, hpx2⟩ := dn_at hpre2
      rw [HM.out] at hpx2
      have hj : m - pre2.length = j + 1 := by omega
      have HJ : Hid (m - (pre2 ++ [j]).length = j) := by rw [List.length_append, List.length_singleton]; show _ = _; omega
      have hjm : j < m := by omega
      rw [hj] at h
      have i1 := h4.cell
      clear hpre2 hj hpx2 hpl2
      obtain ⟨bj, HBJ⟩ : ∃ bj, Hid (b[j]?.getD ⟨#[]⟩ = bj) := ⟨_, rfl⟩
      simp only [HBJ.out]
      gi_wp2_with fail
      refine ⟨trivial, rfl, (like_in _ _ _).mono ?_⟩
      rintro e W7 ⟨rfl, rfl⟩
      have HTL : Hid (tl (a.drop x) (b.drop j) = if ax = bj then tl (a.drop (x + 1)) (b.drop (j + 1)) + 1 else max (tl (a.drop (x + 1)) (b.drop j)) (tl (a.drop x) (b.drop (j + 1)))) := by
        have hxa : x < a.length := by rw [HN.out]; exact hxn
        have hjb : j < b.length := by rw [HM.out]; exact hjm
        have hax : a[x]?.getD ⟨#[]⟩ = a[x] := by rw [List.getElem?_eq_getElem hxa]; rfl
        have hbj : b[j]?.getD ⟨#[]⟩ = b[j] := by rw [List.getElem?_eq_getElem hjb]; rfl
        have htl := tl_at a b x j hxa hjb
        rw [← hax, ← hbj, HAX.out, HBJ.out] at htl
        exact htl
      have HR0 : Hid (W7.cell? ⟨w.heap.size + 1, x, none⟩ = some (.slice (some ⟨W.heap.size, 0, none⟩) (m + 1) (m + 1))) := by
        have := h.row (i := x) (Nat.le_refl _) (by omega)
        simp only [if_pos] at this
        exact this
      have HR1 : Hid (W7.cell? ⟨w.heap.size + 1, x + 1, none⟩ = some (.slice (some ⟨R (x + 1), 0, none⟩) (m + 1) (m + 1))) := by
        have := h.row (i := x + 1) (by omega) (by omega)
        simp only [if_neg (show ¬ x + 1 = x by omega)] at this
        exact this
      have HV1 : Hid (∀ j', j' ≤ m → W7.cell? ⟨R (x + 1), j', none⟩ = some (.int .i64 (tl (a.drop (x + 1)) (b.drop j') : Int))) := by
        intro j' hj'
        have := h.num (i := x + 1) (by omega) (by omega) hj'
        rw [fillV_old _ (by omega)] at this
        simp only [if_neg (show ¬ x + 1 = x by omega)] at this
        exact this
      have HV0 : Hid (W7.cell? ⟨W.heap.size, j + 1, none⟩ = some (.int .i64 (tl (a.drop x) (b.drop (j + 1)) : Int))) := by
        have := h.num (i := x) (Nat.le_refl _) (by omega) (show j + 1 ≤ m by omega)
        rw [fillV_now (Nat.le_refl _)] at this
        simp only [if_pos] at this
        exact this
      have HF : Hid ((∃ u, W7.cell? ⟨W.heap.size, j, none⟩ = some u) ∧ W7.frozen? ⟨W.heap.size, j, none⟩ = false) := by
        have h9 := h.inner x (Nat.le_refl _) (by omega)
        simp only [if_pos] at h9
        exact ⟨⟨_, h9.cell (by omega)⟩, h9.frozen j⟩
      have HP : Hid (∀ (k : Nat) (z : Int), z = (tl (a.drop x) (b.drop j) : Int) → ∃ S', Chg (fun k => k = W.heap.size) W7 ((W7.drewN k).setCell ⟨W.heap.size, j, none⟩ (.int .i64 z)) ∧ Grew (fun k => k = W.heap.size) W7 S' ∧ S' = (fun k => k = W.heap.size) ∧ Tab ((W7.drewN k).setCell ⟨W.heap.size, j, none⟩ (.int .i64 z)) (w.heap.size + 1) n m x (fun i => if i = x then W.heap.size else R i) (fillV a b x (m - (pre2 ++ [j]).length)) ∧ Boxed ((W7.drewN k).setCell ⟨W.heap.size, j, none⟩ (.int .i64 z)) w.heap.size 29 (.slice q m cq) ∧ Boxed ((W7.drewN k).setCell ⟨W.heap.size, j, none⟩ (.int .i64 z)) (w.heap.size + 1 + 1) 153 (.slice (some ⟨w.heap.size + 1, 0, none⟩) (n + 1) (n + 1)) ∧ Boxed ((W7.drewN k).setCell ⟨W.heap.size, j, none⟩ (.int .i64 z)) b1 3 (.int .i64 x) ∧ Boxed ((W7.drewN k).setCell ⟨W.heap.size, j, none⟩ (.int .i64 z)) b2 9 (.string ax)) := by
        intro k z hz
        have c : Chg (fun k => k = W.heap.size) W7 ((W7.drewN k).setCell ⟨W.heap.size, j, none⟩ (.int .i64 z)) := Chg.setCell (S := fun k => k = W.heap.size) (drewNC (Chg.refl _ W7) k) (p := ⟨W.heap.size, j, none⟩) (.inl rfl) _
        refine ⟨_, c, Grew.refl _ _, rfl, ?_, c.boxed h1 (by omega), c.boxed h2 (by omega), c.boxed h3 (by omega), c.boxed h4 (by omega)⟩
        have h9 := (h.kept (W' := W7.drewN k) (fun _ _ => rfl)).put (i := x) (Nat.le_refl _) (by omega) j z
        simp only [if_pos] at h9
        rw [HJ.out]
        refine h9.congr (fun i j' e1 e2 e3 => ?_)
        by_cases ei : i = x
        · subst ei
          by_cases ej : j' = j
          · subst ej
            rw [if_pos ⟨rfl, rfl⟩, fillV_now (Nat.le_refl _), hz]
          · rw [if_neg (fun h => ej h.2)]
            by_cases hjj : j ≤ j'
            · rw [fillV_now (by omega), fillV_now hjj]
            · unfold fillV
              rw [if_neg (by omega), if_neg (by omega)]
        · rw [if_neg (fun h => ei h.1), fillV_old _ (by omega), fillV_old _ (by omega)]
      have q1 := h2.cell
      have q2 := h3.cell
      have r0 := HR0.out
      have r1 := HR1.out
      have v11 := HV1.out (j + 1) (by omega)
      have v10 := HV1.out j (by omega)
      have v01 := HV0.out
      obtain ⟨⟨uu, w1⟩, w2⟩ := HF.out
      have hx1 : (x : Int) < (n : Int) + 1 := by omega
      have hx2 : (x : Int) + 1 < (n : Int) + 1 := by omega
      have hj1 : (j : Int) < (m : Int) + 1 := by omega
      have hj2 : (j : Int) + 1 < (m : Int) + 1 := by omega
      have hbd := (tl_le (a.drop (x + 1)) (b.drop (j + 1))).1
      rw [List.length_drop, HN.out] at hbd
      generalize tl (a.drop (x + 1)) (b.drop (j + 1)) = t11 at *
      generalize tl (a.drop (x + 1)) (b.drop j) = t10 at *
      generalize tl (a.drop x) (b.drop (j + 1)) = t01 at *
      generalize tl (a.drop x) (b.drop j) = t00 at *
      have hRx : R (x + 1) ≠ W.heap.size := by
        have := hT.lt (R (x + 1)) (.inr ⟨x + 1, Nat.le_refl _, by omega, rfl⟩)
        omega
      clear h h1 h2 h3 h4 HR0 HR1 HV1 HV0 HF hT hT6
      by_cases hxy : ax = bj
      · have HT0 : Hid (((t11 : Int) + 1) = (t00 : Int)) := by
          have := HTL.out
          rw [if_pos hxy] at this
          rw [this]; exact rfl
        rw [decide_eq_true hxy]
        clear hxy HTL
        gi_wp2
        refine region_storeR_lit hmix rfl (by kernel_rfl) (by kernel_rfl) (by kernel_rfl) rfl ?_
        simp only [lastHush, hush, List.replicate, List.length_cons, List.length_nil, List.nil_append, List.cons_append, Nat.reduceAdd, Nat.reduceSub]
        repeat (gi_big_quiet_step (fail))
        refine wpQuietIn_nil ?_
        rintro w' ⟨k, rfl⟩
        refine ⟨(W7.drewN k).setCell ⟨W.heap.size, j, none⟩ (.int .i64 ((t11 : Int) + 1)), ?_, ?_⟩
        · simp [execOp, go_sem, w1, w2]
        gi_wp2
        exact HP.out k _ HT0.out
      · have HT0 : Hid ((if t10 < t01 then (t01 : Int) else (t10 : Int)) = (t00 : Int)) := by
          have := HTL.out
          rw [if_neg hxy] at this
          rw [this]
          show _ = _
          split <;> omega
        rw [decide_eq_false hxy]
        clear hxy HTL
        gi_wp2
        refine region_storeR_lit hmix rfl (by kernel_rfl) (by kernel_rfl) (by kernel_rfl) rfl ?_
        simp only [lastHush, hush, List.replicate, List.length_cons, List.length_nil, List.nil_append, List.cons_append, Nat.reduceAdd, Nat.reduceSub]
        repeat (gi_big_quiet_step (fail))
        refine wpQuietIn_nil ?_
        rintro w' ⟨k, rfl⟩
        refine ⟨(W7.drewN k).setCell ⟨W.heap.size, j, none⟩ (.int .i64 (if t10 < t01 then (t01 : Int) else (t10 : Int))), ?_, ?_⟩
        · simp [execOp, go_sem, w1, w2]
        rw [HT0.out]
        gi_wp2
        exact HP.out k _ rfl

end Go.Proofs.YtndblaemladppabGreatDoor

end
section
-- DLen
namespace Go.Proofs.YtndblaemladppabGreatDoor
open Go.RowKit Go.Shelf Go.SeqLib Go.DiffLib
attribute [local go_sem] Oper.semAt_some

set_option maxHeartbeats 1000000 in
theorem tooLong_in (p q : Option Addr) (n m c d : Nat) (w : World) : CallsIn Fence.wide 0 Tryz.prog 121 #[.slice p n c, .slice q m d] w fun e w' => e = .returned (.bool (decide (400 < n ∨ 400 < m))) ∧ w' = w := by
  have HD : Hid (decide (400 < n ∨ 400 < m) = (decide ((400 : Int) < n) || decide ((400 : Int) < m))) := by
    rw [← Bool.decide_or]
    exact decide_eq_decide.2 (by omega)
  refine callsIn_of_wp Tryz.func121 rfl trivial ?_
  simp only [Tryz.ntmps121, List.size_toArray, List.length_cons, List.length_nil, Nat.reduceAdd, Nat.reduceSub, Array.replicate_succ, Array.replicate_zero, List.push_toArray, List.append_toArray, List.nil_append, List.cons_append]
  rw [HD.out]
  by_cases h : (400 : Int) < n
  · gi_wp2
    go_ret
    exact ⟨by simp [h], rfl⟩
  · gi_wp2
    go_ret
    exact ⟨by rw [decide_eq_false (show ¬ (400 : Int) < n by omega)]; simp, rfl⟩

end Go.Proofs.YtndblaemladppabGreatDoor

end
section
-- DRun
namespace Go.Proofs.YtndblaemladppabGreatDoor
open Go.RowKit Go.Shelf Go.SeqLib Go.DiffLib
attribute [local go_sem] Oper.semAt_some

end Go.Proofs.YtndblaemladppabGreatDoor

end
section
-- DPairs
namespace Go.Proofs.YtndblaemladppabGreatDoor
open Go.RowKit Go.Shelf Go.SeqLib Go.DiffLib Go.BigFrame
attribute [local go_sem] Oper.semAt_some

theorem cells_new (w : World) (l : List Value) (t : TypeId) : ∀ j u, l[j]? = some u → (w.alloc (.cells l.toArray t)).cell? ((⟨w.heap.size, 0, none⟩ : Addr).add j) = some u := by
  intro j u h
  have e : (⟨w.heap.size, 0, none⟩ : Addr).add j = ⟨w.heap.size, j, none⟩ := by unfold Addr.add; split <;> simp_all
  rw [e, World.cell?_alloc_at _ _ _ _ rfl]
  simpa using h

set_option maxRecDepth 100000 in
set_option maxHeartbeats 1000000 in
theorem pairs_in (v u : Value) (a b : List ByteArray) (w : World) (hv : SlV w v (a.map Value.string)) (hu : SlV w u (b.map Value.string)) (ha : a.length ≤ 400) (hb : b.length ≤ 400) :
    CallsIn Fence.wide 0 Tryz.prog 114 #[v, u] w fun e w' => ∃ v', e = .returned v' ∧ w'.ownsRow w.heap.size 141 2 v' (pr a b 0 0).length ((pr a b 0 0).flatMap eP) ∧ Chg No w w' := by
  have hmix : Tryz.prog.follows .mixedOrders = true := by kernel_rfl
  obtain ⟨i0, hi, hz0, hz1, hz2⟩ := info_parts info141
  obtain ⟨p, cp, rfl, hp1, hp2, hpc⟩ := id hv
  obtain ⟨q, cq, rfl, hq1, hq2, hqc⟩ := id hu
  have HT := tails_in _ _ a b w hv hu (by omega) (by omega)
  have hv0 := hv
  have hu0 := hu
  rw [List.length_map] at hp1 hq1
  obtain ⟨n, HN⟩ : ∃ n, Hid (a.length = n) := ⟨_, rfl⟩
  obtain ⟨m, HM⟩ : ∃ m, Hid (b.length = m) := ⟨_, rfl⟩
  rw [List.length_map, HN.out] at hv
  rw [List.length_map, HM.out] at hu
  rw [List.length_map, List.length_map, HN.out, HM.out] at HT
  rw [List.length_map, List.length_map, HN.out, HM.out]
  rw [HN.out] at ha hp1
  rw [HM.out] at hb hq1
  have hl := tooLong_in p q n m cp cq w
  rw [decide_eq_false (by omega)] at hl
  clear hpc hqc hv0 hu0
  obtain ⟨tot, HTot⟩ : ∃ t, Hid (pr a b 0 0 = t) := ⟨_, rfl⟩
  rw [HTot.out]
  have HB : Hid (tot.length ≤ 400) := by
    show _ ≤ _
    rw [← HTot.out, pr_length]
    exact Nat.le_trans (tl_le a b).1 (by rw [HN.out]; exact ha)
  refine callsIn_of_wp Tryz.func114 rfl trivial ?_
  simp only [Tryz.ntmps114, List.size_toArray, List.length_cons, List.length_nil, Nat.reduceAdd, Nat.reduceSub, Array.replicate_succ, Array.replicate_zero, List.push_toArray, List.append_toArray, List.nil_append, List.cons_append]
  gi_wp2_with fail
  refine ⟨trivial, rfl, hl.mono ?_⟩
  rintro e w1 ⟨rfl, rfl⟩
  gi_wp2_with fail
  refine ⟨trivial, rfl, HT.mono ?_⟩
  rintro e w2 ⟨G, R, rfl, hT, hown, c⟩
  clear HT hl
  have hv2 := hv.no c
  have hu2 := hu.no c
  gi_wp2
  gi_loopw [6, 7, 8] (fun v i j wr => ∃ (acc : List (Nat × Nat)) (ki kj : Nat), ki ≤ n ∧ kj ≤ m ∧ i = .int .i64 (ki : Int) ∧ j = .int .i64 (kj : Int) ∧ Hid (acc ++ pr (a.drop ki) (b.drop kj) ki kj = tot) ∧ wr.ownsRow w2.heap.size 141 2 v acc.length (acc.flatMap eP) ∧ Chg No w2 wr) (fun v i j _ => (n - (intOf i).toNat) + (m - (intOf j).toNat))
  case atStart => exact ⟨[], 0, 0, Nat.zero_le _, Nat.zero_le _, rfl, rfl, by show _ = _; simpa using HTot.out, World.ownsRow_nil _ _ _ _, Chg.refl _ _⟩
  case round =>
    obtain ⟨acc, ki, kj, hki, hkj, rfl, rfl, HA, hr, cw⟩ := hrel
    by_cases hlt : ki < n ∧ kj < m
    · obtain ⟨hlt1, hlt2⟩ := hlt
      have h1 : (ki : Int) < (n : Int) := by omega
      have h2 : (kj : Int) < (m : Int) := by omega
      have hka : ki < a.length := by rw [HN.out]; exact hlt1
      have hkb : kj < b.length := by rw [HM.out]; exact hlt2
      have hat := pr_at a b ki kj hka hkb
      obtain ⟨x, hx⟩ : ∃ x, a[ki] = x := ⟨_, rfl⟩
      obtain ⟨y, hy⟩ : ∃ y, b[kj] = y := ⟨_, rfl⟩
      rw [hx, hy] at hat
      obtain ⟨ba, oa, rfl, hca⟩ : ∃ ba oa, p = some ⟨ba, oa, none⟩ ∧ wr.cell? ⟨ba, oa + ki, none⟩ = some (.string x) := by
        obtain ⟨p', cap', e, _, _, hc⟩ := hv2.no cw
        cases e
        exact hc ki (.string x) (by rw [List.getElem?_map, List.getElem?_eq_getElem hka, hx]; rfl)
      obtain ⟨bb, ob, rfl, hcb⟩ : ∃ bb ob, q = some ⟨bb, ob, none⟩ ∧ wr.cell? ⟨bb, ob + kj, none⟩ = some (.string y) := by
        obtain ⟨p', cap', e, _, _, hc⟩ := hu2.no cw
        cases e
        exact hc kj (.string y) (by rw [List.getElem?_map, List.getElem?_eq_getElem hkb, hy]; rfl)
      have HAt : Hid (pr (a.drop ki) (b.drop kj) ki kj = if x = y then (ki, kj) :: pr (a.drop (ki + 1)) (b.drop (kj + 1)) (ki + 1) (kj + 1)
        else if tl (a.drop ki) (b.drop (kj + 1)) ≤ tl (a.drop (ki + 1)) (b.drop kj) then pr (a.drop (ki + 1)) (b.drop kj) (ki + 1) kj else pr (a.drop ki) (b.drop (kj + 1)) ki (kj + 1)) := hat
      clear hat hx hy hka hkb
      have hT3 := hT.chg cw (fun _ _ h => h)
      have r0 := hT3.row (i := ki) (Nat.zero_le _) (by omega)
      have r1 := hT3.row (i := ki + 1) (Nat.zero_le _) (by omega)
      have v10 := hT3.num (i := ki + 1) (j := kj) (Nat.zero_le _) (by omega) (by omega)
      have v01 := hT3.num (i := ki) (j := kj + 1) (Nat.zero_le _) (by omega) (by omega)
      rw [fillV_old _ (by omega)] at v10
      have e01 : fillV a b 0 0 ki (kj + 1) = (tl (a.drop ki) (b.drop (kj + 1)) : Int) := by unfold fillV; rw [if_pos (by omega)]
      rw [e01] at v01
      clear e01
      generalize R ki = Rk at *
      generalize R (ki + 1) = Rk1 at *
      obtain ⟨t10, ht10⟩ : ∃ t, Hid (tl (a.drop (ki + 1)) (b.drop kj) = t) := ⟨_, rfl⟩
      obtain ⟨t01, ht01⟩ : ∃ t, Hid (tl (a.drop ki) (b.drop (kj + 1)) = t) := ⟨_, rfl⟩
      rw [ht10.out] at v10 HAt
      rw [ht01.out] at v01 HAt
      have hx1 : (ki : Int) < (n : Int) + 1 := by omega
      have hx2 : (ki : Int) + 1 < (n : Int) + 1 := by omega
      have hj1 : (kj : Int) < (m : Int) + 1 := by omega
      have hj2 : (kj : Int) + 1 < (m : Int) + 1 := by omega
      obtain ⟨z, hz⟩ : ∃ z, decide (x = y) = z := ⟨_, rfl⟩
      have hlk := like_in x y
      rw [hz] at hlk
      obtain ⟨pr0, cr0, rfl⟩ := row_slice hr
      gi_wp2
      refine wpIn_region_quiet_lit rfl hmix (by kernel_rfl) ?_
      repeat (gi_big_quiet_step (fail))
      refine wpQuietIn_want (fun _ _ _ _ => trivial) rfl ?_
      intro KQ hKQ
      gi_big_quiet_op
      gi_big_quiet_call (exact ⟨rfl, (hlk _).mono (by rintro e w'' ⟨rfl, rfl⟩; exact ⟨rfl, _, rfl⟩)⟩)
      repeat (gi_big_quiet_step (fail))
      refine wpQuietIn_nil ?_
      rintro w' ⟨k, rfl⟩
      have cw2 := drewNC cw k
      have hr2 : (wr.drewN k).ownsRow w2.heap.size 141 2 (.slice pr0 acc.length cr0) acc.length (acc.flatMap eP) := hr
      cases z
      · -- unlike
        have hne := of_decide_eq_false hz
        by_cases hge : t01 ≤ t10
        · have hge' : (t01 : Int) ≤ (t10 : Int) := by omega
          have HA2 : Hid (acc ++ pr (a.drop (ki + 1)) (b.drop kj) (ki + 1) kj = tot) := by
            have := HA.out
            rw [HAt.out, if_neg hne, if_pos hge] at this
            exact this
          clear hne hge HAt hlk hz hr
          gi_wp2
          refine wpIn_region_quiet_lit rfl hmix (by kernel_rfl) ?_
          repeat (gi_big_quiet_step (fail))
          refine wpQuietIn_nil ?_
          rintro w' ⟨k2, rfl⟩
          gi_wp2
          go_roundw
          case rel => exact ⟨acc, ki + 1, kj, hlt1, hkj, by go_num, rfl, HA2, hr2, drewNC cw _⟩
          case measure => simp [intOf]; omega
        · have hge' : ¬ (t01 : Int) ≤ (t10 : Int) := by omega
          have HA2 : Hid (acc ++ pr (a.drop ki) (b.drop (kj + 1)) ki (kj + 1) = tot) := by
            have := HA.out
            rw [HAt.out, if_neg hne, if_neg hge] at this
            exact this
          clear hne hge HAt hlk hz hr
          gi_wp2
          refine wpIn_region_quiet_lit rfl hmix (by kernel_rfl) ?_
          repeat (gi_big_quiet_step (fail))
          refine wpQuietIn_nil ?_
          rintro w' ⟨k2, rfl⟩
          gi_wp2
          go_roundw
          case rel => exact ⟨acc, ki, kj + 1, hki, hlt2, rfl, by go_num, HA2, hr2, drewNC cw _⟩
          case measure => simp [intOf]; omega
      · have hxy := of_decide_eq_true hz
        have HA2 : Hid ((acc ++ [(ki, kj)]) ++ pr (a.drop (ki + 1)) (b.drop (kj + 1)) (ki + 1) (kj + 1) = tot) := by
          have := HA.out
          rw [HAt.out, if_pos hxy] at this
          rw [List.append_assoc]
          exact this
        have hacc : acc.length + 1 ≤ 400 := by
          have h9 := congrArg List.length HA2.out
          have := HB.out
          simp only [List.length_append, List.length_singleton] at h9
          omega
        have hmx : acc.length + 1 ≤ maxLen := by unfold maxLen; omega
        have hbs : w2.heap.size ≤ ((wr.drewN k).alloc (.cells #[.int .i64 (ki : Int), .int .i64 (kj : Int)] 141)).heap.size := (cw2.alloc _).size
        have hcn := cells_new (wr.drewN k) [.int .i64 (ki : Int), .int .i64 (kj : Int)] 141
        have hsz : (wr.drewN k).heap.size = wr.heap.size := rfl
        clear hxy HAt hlk hz hr
        gi_wp2_with (gi_at_builtin; refine wpListIn_append_at _ rfl _ _ 139 rfl w2.heap.size 141 i0 (.agg #[.int .i64 0, .int .i64 0]) 2 16 Tryz.underlying139 hi hz0 hz1 hz2 rfl (by decide) _ _ _ rfl (hr2.alloc _) ⟨wr.heap.size, 0, none⟩ 1 1 [.int .i64 (ki : Int), .int .i64 (kj : Int)] rfl rfl hcn (by simp [Value.oneCell']) hmx (by omega) hbs ?_; intro v' w1 hown' hgrow _ hat; have c1 : Chg No w2 w1 := (cw2.alloc _).grown hgrow (fun k e => .inr (hr2.lt k e).1))
        go_roundw
        case rel => exact ⟨acc ++ [(ki, kj)], ki + 1, kj + 1, hlt1, hlt2, by go_num, by go_num, HA2, by rw [List.length_append, List.flatMap_append]; exact hown', c1⟩
        case measure => simp [intOf]; omega
    · obtain ⟨pr0, cr0, rfl⟩ := row_slice hr
      have HD : Hid (acc = tot) := by
        have := HA.out
        rw [pr_end a b ki kj (by rw [HN.out, HM.out]; exact hlt), List.append_nil] at this
        exact this
      have hres : wr.ownsRow w1.heap.size 141 2 (.slice pr0 acc.length cr0) tot.length (tot.flatMap eP) := by
        have := rowBase hr c.size
        rw [HD.out] at this ⊢
        exact this
      by_cases h1 : ki < n
      · have h1' : (ki : Int) < (n : Int) := by omega
        have h2' : ¬ (kj : Int) < (m : Int) := by omega
        gi_wp2
        go_ret
        exact ⟨_, rfl, hres, Chg.seq c cw⟩
      · have h1' : ¬ (ki : Int) < (n : Int) := by omega
        gi_wp2
        go_ret
        exact ⟨_, rfl, hres, Chg.seq c cw⟩

end Go.Proofs.YtndblaemladppabGreatDoor

end
section
-- DFits
namespace Go.Proofs.YtndblaemladppabGreatDoor
open Go.RowKit Go.Shelf Go.SeqLib Go.DiffLib Go.BigFrame
attribute [local go_sem] Oper.semAt_some

/-- May the step be done where so many are left? -/
def fitsB (x : Int × Int × Int) (la lb : Nat) : Bool := decide (0 ≤ x.1 ∧ 0 ≤ x.2.1 ∧ 0 ≤ x.2.2 ∧ x.1 ≤ la ∧ x.1 ≤ lb ∧ x.2.1 ≤ (la : Int) - x.1 ∧ x.2.2 ≤ (lb : Int) - x.1)

set_option maxHeartbeats 1000000 in
theorem fits_in (s o n : Int) (la lb : Nat) (hla : la ≤ 1000) (hlb : lb ≤ 1000) (w : World) :
    CallsIn Fence.wide 0 Tryz.prog 124 #[.agg #[.int .i64 s, .int .i64 o, .int .i64 n], .int .i64 (la : Int), .int .i64 (lb : Int)] w fun e w' => e = .returned (.bool (fitsB (s, o, n) la lb)) ∧ Chg No w w' := by
  refine callsIn_of_wp Tryz.func124 rfl trivial ?_
  simp only [Tryz.ntmps124, List.size_toArray, List.length_cons, List.length_nil, Nat.reduceAdd, Nat.reduceSub, Array.replicate_succ, Array.replicate_zero, List.push_toArray, List.append_toArray, List.nil_append, List.cons_append]
  have hF : ∀ {b : Bool}, (¬ (0 ≤ s ∧ 0 ≤ o ∧ 0 ≤ n ∧ s ≤ la ∧ s ≤ lb ∧ o ≤ (la : Int) - s ∧ n ≤ (lb : Int) - s)) → Hid (fitsB (s, o, n) la lb = false) := fun h => decide_eq_false h
  by_cases h1 : s < 0
  · have HF := hF (b := true) (by omega)
    gi_wp2
    go_ret
    exact ⟨by rw [HF.out]; rfl, (Chg.refl _ w).alloc _⟩
  by_cases h2 : o < 0
  · have HF := hF (b := true) (by omega)
    gi_wp2
    go_ret
    exact ⟨by rw [HF.out]; rfl, (Chg.refl _ w).alloc _⟩
  by_cases h3 : n < 0
  · have HF := hF (b := true) (by omega)
    gi_wp2
    go_ret
    exact ⟨by rw [HF.out]; rfl, (Chg.refl _ w).alloc _⟩
  obtain ⟨s', rfl⟩ := Int.eq_ofNat_of_zero_le (show 0 ≤ s by omega)
  by_cases h4 : s' ≤ la ∧ s' ≤ lb
  · have hmin : (s' : Int) ≤ min (la : Int) (lb : Int) := by omega
    by_cases h5 : o ≤ (la : Int) - (s' : Int)
    · by_cases h6 : n ≤ (lb : Int) - (s' : Int)
      · have HF : Hid (fitsB (s', o, n) la lb = true) := by
          refine decide_eq_true ?_
          simp only
          omega
        gi_wp2
        all_goals (go_ret; exact ⟨by rw [HF.out]; rfl, (Chg.refl _ w).alloc _⟩)
      · have HF := hF (b := true) (by omega)
        gi_wp2
        all_goals (go_ret; exact ⟨by rw [HF.out]; rfl, (Chg.refl _ w).alloc _⟩)
    · have HF := hF (b := true) (by omega)
      gi_wp2
      all_goals (go_ret; exact ⟨by rw [HF.out]; rfl, (Chg.refl _ w).alloc _⟩)
  · have HF := hF (b := true) (by omega)
    have hmin : ¬ (s' : Int) ≤ min (la : Int) (lb : Int) := by omega
    gi_wp2
    all_goals (go_ret; exact ⟨by rw [HF.out]; rfl, (Chg.refl _ w).alloc _⟩)

set_option maxHeartbeats 1000000 in
theorem equalF_in (v u : Value) (xs ys : List ByteArray) (w : World) (hv : SlV w v (xs.map Value.string)) (hu : SlV w u (ys.map Value.string)) (hx : xs.length ≤ 1000) (hy : ys.length = xs.length) :
    CallsIn Fence.wide 0 Tryz.prog 125 #[v, u, .func (.func 123) #[] #[]] w fun e w' => e = .returned (.bool (decide (xs = ys))) ∧ w' = w := by
  obtain ⟨p, c1, rfl, hp1, hp2, hpc⟩ := hv
  obtain ⟨q, c2, rfl, hq1, hq2, hqc⟩ := hu
  rw [List.length_map] at hp1 hq1
  rw [List.length_map, List.length_map, hy]
  obtain ⟨n, HN⟩ : ∃ n, Hid (xs.length = n) := ⟨_, rfl⟩
  have HY : Hid (ys.length = n) := hy.trans HN.out
  rw [HN.out] at hx ⊢
  clear hy hp1 hq1
  refine callsIn_of_wp Tryz.func125 rfl trivial ?_
  simp only [Tryz.ntmps125, List.size_toArray, List.length_cons, List.length_nil, Nat.reduceAdd, Nat.reduceSub, Array.replicate_succ, Array.replicate_zero, List.push_toArray, List.append_toArray, List.nil_append, List.cons_append]
  gi_wp2
  gi_loopw [17] (fun i wr => ∃ k : Nat, k ≤ n ∧ i = .int .i64 (k : Int) ∧ Hid (xs.take k = ys.take k) ∧ wr = w) (fun i _ => n - (intOf i).toNat)
  case atStart => exact ⟨0, Nat.zero_le _, rfl, rfl, rfl⟩
  case round =>
    obtain ⟨k, hk, rfl, HT, rfl⟩ := hrel
    by_cases hlt : k < n
    · have hlt' : (k : Int) < (n : Int) := by omega
      have hk1 : k < xs.length := by rw [HN.out]; exact hlt
      have hk2 : k < ys.length := by rw [HY.out]; exact hlt
      obtain ⟨b1, o1, rfl, hw1⟩ := hpc k (.string xs[k]) (by simp [hk1])
      obtain ⟨b2, o2, rfl, hw2⟩ := hqc k (.string ys[k]) (by simp [hk2])
      have hlk := like_in xs[k] ys[k]
      by_cases hxy : xs[k] = ys[k]
      · have HT2 : Hid (xs.take (k + 1) = ys.take (k + 1)) := by
          show _ = _
          rw [List.take_succ_eq_append_getElem hk1, List.take_succ_eq_append_getElem hk2, HT.out, hxy]
        rw [decide_eq_true hxy] at hlk
        clear hxy
        generalize xs[k] = x at *
        generalize ys[k] = y at *
        gi_wp2_with fail
        refine ⟨trivial, rfl, (hlk _).mono ?_⟩
        rintro e w1 ⟨rfl, rfl⟩
        gi_wp2
        go_roundw
        case rel => exact ⟨k + 1, hlt, by go_num, HT2, trivial⟩
        case measure => simp [intOf]; omega
      · have HD : Hid (decide (xs = ys) = false) := by
          show _ = _
          rw [decide_eq_false_iff_not]; rintro rfl; exact hxy rfl
        rw [decide_eq_false hxy] at hlk
        clear hxy
        generalize xs[k] = x at *
        generalize ys[k] = y at *
        gi_wp2_with fail
        refine ⟨trivial, rfl, (hlk _).mono ?_⟩
        rintro e w1 ⟨rfl, rfl⟩
        gi_wp2
        go_ret
        exact ⟨by rw [HD.out]; rfl, rfl⟩
    · obtain rfl : k = n := by omega
      have hlt' : ¬ (k : Int) < (k : Int) := by omega
      have HD : Hid (decide (xs = ys) = true) := by
        show _ = _
        rw [decide_eq_true_iff]
        have h := HT.out
        rw [List.take_of_length_le (by rw [HN.out]; exact Nat.le_refl _), List.take_of_length_le (by rw [HY.out]; exact Nat.le_refl _)] at h
        exact h
      gi_wp2
      go_ret
      exact ⟨by rw [HD.out]; rfl, rfl⟩

end Go.Proofs.YtndblaemladppabGreatDoor

end
section
-- DApply
namespace Go.Proofs.YtndblaemladppabGreatDoor
open Go.RowKit Go.Shelf Go.SeqLib Go.DiffLib Go.BigFrame
attribute [local go_sem] Oper.semAt_some

/-- What a round leans on: what is left of both lists, the steps, the step at hand in its box. -/
structure ApSt (base B : Nat) (x : Int × Int × Int) (va : Value) (ra : List ByteArray) (vb : Value) (rb : List ByteArray) (vs : Value) (stps : List (Int × Int × Int)) (W : World) : Prop where
  a : SlV W va (ra.map Value.string)
  b : SlV W vb (rb.map Value.string)
  s : SlS W vs stps
  c0 : W.cell? ⟨B, 0, none⟩ = some (.int .i64 x.1)
  c1 : W.cell? ⟨B, 1, none⟩ = some (.int .i64 x.2.1)
  c2 : W.cell? ⟨B, 2, none⟩ = some (.int .i64 x.2.2)
  da : ∀ k, svD va (ra.map Value.string) k → k < base
  db : ∀ k, svD vb (rb.map Value.string) k → k < base
  ds : ∀ k, slE vs stps k → k < base
theorem ApSt.chg {base B : Nat} {x : Int × Int × Int} {va vb vs : Value} {ra rb : List ByteArray} {stps : List (Int × Int × Int)} {W W' : World} (h : ApSt base B x va ra vb rb vs stps W) {U : Blk} (c : Chg U W W') (hU : ∀ k, U k → base ≤ k ∧ k ≠ B) : ApSt base B x va ra vb rb vs stps W' := {
  a := h.a.chg c (fun k hk hu => by have := h.da k hk; have := (hU k hu).1; omega)
  b := h.b.chg c (fun k hk hu => by have := h.db k hk; have := (hU k hu).1; omega)
  s := SlE.chg eS_len (by decide) h.s c (fun k hk hu => by have := h.ds k hk; have := (hU k hu).1; omega)
  c0 := (World.cell?_of_block (a := ⟨B, 0, none⟩) (c.block B (World.block_lt_of_cell? W _ h.c0) (fun hu => (hU B hu).2 rfl))).trans h.c0
  c1 := (World.cell?_of_block (a := ⟨B, 1, none⟩) (c.block B (World.block_lt_of_cell? W _ h.c0) (fun hu => (hU B hu).2 rfl))).trans h.c1
  c2 := (World.cell?_of_block (a := ⟨B, 2, none⟩) (c.block B (World.block_lt_of_cell? W _ h.c0) (fun hu => (hU B hu).2 rfl))).trans h.c2
  da := h.da
  db := h.db
  ds := h.ds }

/-- What is appended to grows elsewhere. -/
theorem ApSt.grow {base B : Nat} {x : Int × Int × Int} {va vb vs v v' : Value} {ra rb : List ByteArray} {stps : List (Int × Int × Int)} {W W' : World} {e : TypeId} {n : Nat} {xs : List Value} (h : ApSt base B x va ra vb rb vs stps W)
    (hr : W.ownsRow base e 1 v n xs) (hB : ∀ k, v.ownBlock = some k → k ≠ B) (hg : W.grownBy W' v.ownBlock) (hat : v'.ownBlock = v.ownBlock ∨ v'.ownBlock = some W.heap.size) :
    ApSt base B x va ra vb rb vs stps W' ∧ (∀ k, v'.ownBlock = some k → k ≠ B) ∧ Chg (fun k => v.ownBlock = some k) W W' := by
  have c : Chg (fun k => v.ownBlock = some k) W W' := (Chg.refl _ W).grown hg (fun k e => .inl e)
  refine ⟨h.chg c (fun k hk => ⟨(hr.lt k hk).1, hB k hk⟩), fun k hk => ?_, c⟩
  rcases hat with h' | h'
  · exact hB k (h'.symm.trans hk)
  · have h1 := Option.some.inj (h'.symm.trans hk)
    have h2 := World.block_lt_of_cell? W _ h.c0
    intro e
    subst e
    simp only at h2
    omega

/-- How the answer is told. -/
def appRes (w : World) (r : Option (List ByteArray)) (e : Ending) (w' : World) : Prop := match r with
  | none => e = .returned (.tuple #[.slice none 0 0, .bool false])
  | some c => ∃ v', e = .returned (.tuple #[v', .bool true]) ∧ w'.ownsRow w.heap.size 9 1 v' c.length (c.map Value.string)

theorem app_fit {a b : List ByteArray} {x : Int × Int × Int} {r : List (Int × Int × Int)} : app a b (x :: r) = if fitsB x a.length b.length = true ∧ a.take x.1.toNat = b.take x.1.toNat then
      (app (a.drop (x.1.toNat + x.2.1.toNat)) (b.drop (x.1.toNat + x.2.2.toNat)) r).map (fun t => a.take x.1.toNat ++ ((b.drop x.1.toNat).take x.2.2.toNat ++ t)) else none := by
  obtain ⟨s, o, n⟩ := x
  show (if _ then _ else _) = _
  unfold fitsB
  simp only [decide_eq_true_eq]
  by_cases h : 0 ≤ s ∧ 0 ≤ o ∧ 0 ≤ n ∧ s ≤ a.length ∧ s ≤ b.length ∧ o ≤ (a.length : Int) - s ∧ n ≤ (b.length : Int) - s ∧ a.take s.toNat = b.take s.toNat
  · rw [if_pos h, if_pos ⟨by omega, h.2.2.2.2.2.2.2⟩]
  · rw [if_neg h, if_neg (fun h2 => h ⟨by omega, by omega, by omega, by omega, by omega, by omega, by omega, h2.2⟩)]

set_option maxRecDepth 100000 in
set_option maxHeartbeats 2000000 in
theorem apply_in (v u vs : Value) (a b : List ByteArray) (stps : List (Int × Int × Int)) (w : World) (hv : SlV w v (a.map Value.string)) (hu : SlV w u (b.map Value.string)) (hs : SlS w vs stps) (ha : a.length ≤ 400) (hb : b.length ≤ 400) (hss : stps.length ≤ 1000) :
    CallsIn Fence.wide 0 Tryz.prog 116 #[v, u, vs] w fun e w' => appRes w (app a b stps) e w' ∧ Chg No w w' := by
  have hmix : Tryz.prog.follows .mixedOrders = true := by kernel_rfl
  obtain ⟨i0, hi, hz0, hz1, hz2⟩ := info_parts info9
  obtain ⟨p, cp, rfl, hp1, hp2, hpc⟩ := id hv
  obtain ⟨q, cq, rfl, hq1, hq2, hqc⟩ := id hu
  obtain ⟨ps, cs, rfl, hs1, hs2, hsc⟩ := id hs
  rw [List.length_map] at hp1 hq1
  obtain ⟨n, HN⟩ : ∃ n, Hid (a.length = n) := ⟨_, rfl⟩
  obtain ⟨m, HM⟩ : ∃ m, Hid (b.length = m) := ⟨_, rfl⟩
  obtain ⟨ns, HS⟩ : ∃ n, Hid (stps.length = n) := ⟨_, rfl⟩
  rw [List.length_map, HN.out] at hv
  rw [List.length_map, HM.out] at hu
  rw [HS.out] at hs hss hs1
  rw [List.length_map, List.length_map, HN.out, HM.out, HS.out]
  rw [HN.out] at ha hp1
  rw [HM.out] at hb hq1
  have hl := tooLong_in p q n m cp cq w
  rw [decide_eq_false (by omega)] at hl
  have dA := hv.lt
  have dB := hu.lt
  have dS := SlE.lt eS_len (by decide) hs
  obtain ⟨tot, HTot⟩ : ∃ t, Hid (app a b stps = t) := ⟨_, rfl⟩
  rw [HTot.out]
  clear hpc hqc hsc
  refine callsIn_of_wp Tryz.func116 rfl trivial ?_
  simp only [Tryz.ntmps116, List.size_toArray, List.length_cons, List.length_nil, Nat.reduceAdd, Nat.reduceSub, Array.replicate_succ, Array.replicate_zero, List.push_toArray, List.append_toArray, List.nil_append, List.cons_append]
  gi_wp2_with fail
  refine ⟨trivial, rfl, hl.mono ?_⟩
  rintro e w1 ⟨rfl, rfl⟩
  clear hl
  have hmm : m ≤ maxLen := by unfold maxLen; omega
  gi_wp2_with (gi_at_make; refine wpListIn_make_own _ rfl _ _ 29 rfl w1.heap.size 9 i0 (.string ⟨#[]⟩) 1 Tryz.underlying29 hi hz0 hz1 .i64 .i64 (m : Int) m rfl rfl rfl (by rw [hz2]; omega) hmm (Nat.le_refl _) ?_; intro w2 hown2 hgrow1; have c2 : Chg No w1 w2 := (Chg.refl _ w1).grown hgrow1 (fun k e => by cases e))
  have hv2 := hv.no c2
  have hu2 := hu.no c2
  have hs2' := SlE.no eS_len (by decide) hs c2
  gi_loopw [8, 9, 10, 23] (fun vm v9 v10 i wr => ∃ (k na nb : Nat) (acc ra rb : List ByteArray) (pa pb : Option Addr) (ca cb : Nat), k ≤ ns ∧ i = .int .i64 (k : Int) ∧ v9 = .slice pa na ca ∧ v10 = .slice pb nb cb ∧ Hid (ra.length = na) ∧ Hid (rb.length = nb) ∧ na ≤ 400 ∧ acc.length + nb ≤ 400 ∧
      SlV wr (.slice pa na ca) (ra.map Value.string) ∧ SlV wr (.slice pb nb cb) (rb.map Value.string) ∧ Hid (∀ k, svD (.slice pa na ca) (ra.map Value.string) k → k < w1.heap.size) ∧ Hid (∀ k, svD (.slice pb nb cb) (rb.map Value.string) k → k < w1.heap.size) ∧
      wr.ownsRow w1.heap.size 9 1 vm acc.length (acc.map Value.string) ∧ Hid ((app ra rb (stps.drop k)).map (fun t => acc ++ t) = tot) ∧ SlS wr (.slice ps ns cs) stps ∧ Chg No w1 wr) (fun vm v9 v10 i _ => ns - (intOf i).toNat)
  case atStart => exact ⟨0, n, m, [], a, b, p, q, cp, cq, Nat.zero_le _, rfl, rfl, rfl, HN, HM, ha, by simpa using hb, hv2, hu2, dA, dB, hown2, by show _ = _; simpa using HTot.out, hs2', c2⟩
  case round =>
    obtain ⟨k, na, nb, acc, ra, rb, pa, pb, ca, cb, hk, rfl, rfl, rfl, HNA, HNB, hna, hnb, sA, sB, HDA, HDB, hr, HT, sS, cw⟩ := hrel
    by_cases hlt : k < ns
    · have hlt' : (k : Int) < (ns : Int) := by omega
      have hks : k < stps.length := by rw [HS.out]; exact hlt
      obtain ⟨x, hx⟩ : ∃ x, stps[k]? = some x := ⟨_, List.getElem?_eq_getElem hks⟩
      obtain ⟨bs, os, rfl, q1, q2, q3⟩ := SlS.at sS k x hx
      have HTk : Hid (stps.drop k = x :: stps.drop (k + 1)) := by
        rw [List.drop_eq_getElem_cons hks]
        rw [List.getElem?_eq_getElem hks] at hx
        rw [Option.some.inj hx]
        exact rfl
      obtain ⟨s, o, nn⟩ := x
      simp only at q1 q2 q3
      clear hx hks
      obtain ⟨pm, cm, rfl⟩ := row_slice hr
      have hr3 := hr.alloc (.cells #[.int .i64 s, .int .i64 o, .int .i64 nn] 144)
      have cw3 := cw.alloc (.cells #[.int .i64 s, .int .i64 o, .int .i64 nn] 144)
      have hBn : ∀ k, Value.ownBlock (.slice pm acc.length cm) = some k → w1.heap.size ≤ k ∧ k ≠ wr.heap.size := fun k hk => by
        have := hr.lt k hk
        omega
      have st3 : ApSt w1.heap.size wr.heap.size (s, o, nn) (.slice pa na ca) ra (.slice pb nb cb) rb (.slice (some ⟨bs, os, none⟩) ns cs) stps (wr.alloc (.cells #[.int .i64 s, .int .i64 o, .int .i64 nn] 144)) := {
        a := sA.no ((Chg.refl _ wr).alloc _)
        b := sB.no ((Chg.refl _ wr).alloc _)
        s := SlE.no eS_len (by decide) sS ((Chg.refl _ wr).alloc _)
        c0 := World.cell?_alloc_at _ _ _ _ rfl
        c1 := World.cell?_alloc_at _ _ _ _ rfl
        c2 := World.cell?_alloc_at _ _ _ _ rfl
        da := HDA.out
        db := HDB.out
        ds := dS }
      have hsz3 : (wr.alloc (.cells #[.int .i64 s, .int .i64 o, .int .i64 nn] 144)).heap.size = wr.heap.size + 1 := by simp
      gi_wp2
      generalize wr.alloc (.cells #[.int .i64 s, .int .i64 o, .int .i64 nn] 144) = W3 at *
      generalize wr.heap.size = B at *
      have hany : Nonempty (After W3) := After.any W3
      have f0 : ∀ c : After W3, c.val.cell? ⟨B, 0, none⟩ = some (.int .i64 s) := fun c => c.cell st3.c0
      have f1 : ∀ c : After W3, c.val.cell? ⟨B, 1, none⟩ = some (.int .i64 o) := fun c => c.cell st3.c1
      have f2 : ∀ c : After W3, c.val.cell? ⟨B, 2, none⟩ = some (.int .i64 nn) := fun c => c.cell st3.c2
      have HFt : Hid (∀ c : After W3, CallsIn Fence.wide 0 Tryz.prog 124 #[.agg #[.int .i64 s, .int .i64 o, .int .i64 nn], .int .i64 (na : Int), .int .i64 (nb : Int)] c.val fun e w' => e = .returned (.bool (fitsB (s, o, nn) na nb)) ∧ Chg No c.val w') := fun c => fits_in s o nn na nb (by omega) (by omega) c.val
      have HAP := app_fit (a := ra) (b := rb) (x := (s, o, nn)) (r := stps.drop (k + 1))
      rw [HNA.out, HNB.out] at HAP
      clear q1 q2 q3 sA sB sS hr cw
      cases hfz : fitsB (s, o, nn) na nb with
      | false =>
        rw [hfz] at HFt HAP
        obtain rfl : tot = none := by
          have := HT.out
          rw [HTk.out, HAP, if_neg (by simp)] at this
          exact this.symm
        clear HAP hfz
        refine region_quietC hmix (by kernel_rfl) ?_
        repeat (gi_big_quiet_step (fail))
        refine wpQuietIn_want (fun _ _ _ _ => trivial) rfl ?_
        intro KQ hKQ
        gi_big_quiet_op
        gi_big_quiet_call (exact ⟨rfl, (HFt.out _).mono (by rintro e w'' ⟨rfl, c'⟩; exact ⟨rfl, After.more _ c'⟩)⟩)
        repeat (gi_big_quiet_step (fail))
        refine wpQuietIn_skip (fun _ _ _ _ => trivial) rfl ?_
        simp only [Act.put, List.setIfInBounds_toArray, List.set_cons_succ, List.set_cons_zero]
        repeat (gi_big_quiet_step (fail))
        refine wpQuietIn_nil ?_
        rintro w' ⟨c, rfl⟩
        have cc := Chg.seq cw3 c.chg
        gi_wp2
        go_ret2
        exact ⟨rfl, cc⟩
      | true =>
        rw [hfz] at HFt HAP
        have hfit := of_decide_eq_true hfz
        simp only at hfit
        obtain ⟨e1, e2, e3, e4, e5, e6, e7⟩ := hfit
        obtain ⟨s', rfl⟩ := Int.eq_ofNat_of_zero_le e1
        obtain ⟨o', rfl⟩ := Int.eq_ofNat_of_zero_le e2
        obtain ⟨n', rfl⟩ := Int.eq_ofNat_of_zero_le e3
        have g1 : s' + o' ≤ na := by omega
        have g2 : s' + n' ≤ nb := by omega
        simp only [Int.toNat_natCast] at HAP
        have hla : (ra.map Value.string).length = na := by rw [List.length_map]; exact HNA.out
        have hlb : (rb.map Value.string).length = nb := by rw [List.length_map]; exact HNB.out
        obtain ⟨pa1, ca1, sA1, oA1, hcA1⟩ := SlV.high st3.a hla s' (by omega)
        obtain ⟨pb1, cb1, sB1, oB1, hcB1⟩ := SlV.high st3.b hlb s' (by omega)
        obtain ⟨pb2, cb2, sB2, oB2, hcB2⟩ := SlV.mid st3.b hlb s' (s' + n') (by omega) (by omega)
        obtain ⟨pa3, ca3, sA3, oA3, hcA3⟩ := SlV.low st3.a hla (s' + o') (by omega)
        obtain ⟨pb3, cb3, sB3, oB3, hcB3⟩ := SlV.low st3.b hlb (s' + n') (by omega)
        rw [← List.map_take] at sA1 sB1
        rw [← List.map_take, ← List.map_drop, List.drop_take, show s' + n' - s' = n' by omega] at sB2
        rw [show s' + n' - s' = n' by omega] at hcB2 oB2
        rw [← List.map_drop] at sA3 sB3
        rw [Int.natCast_add] at hcB2 hcA3 hcB3
        have HEq : Hid (∀ c : After W3, CallsIn Fence.wide 0 Tryz.prog 125 #[.slice pa1 s' ca1, .slice pb1 s' cb1, .func (.func 123) #[] #[]] c.val fun e w' => e = .returned (.bool (decide (ra.take s' = rb.take s'))) ∧ w' = c.val) := fun c =>
          equalF_in _ _ (ra.take s') (rb.take s') c.val (sA1.no c.chg) (sB1.no c.chg) (by rw [List.length_take, HNA.out]; omega) (by rw [List.length_take, List.length_take, HNA.out, HNB.out]; omega)
        cases hz : decide (ra.take s' = rb.take s') with
        | false =>
          rw [hz] at HEq
          obtain rfl : tot = none := by
            have := HT.out
            rw [HTk.out, HAP, if_neg (fun h => of_decide_eq_false hz h.2)] at this
            exact this.symm
          clear HAP hfz hz hcB2 hcA3 hcB3
          refine region_quietC hmix (by kernel_rfl) ?_
          repeat (gi_big_quiet_step (fail))
          refine wpQuietIn_want (fun _ _ _ _ => trivial) rfl ?_
          intro KQ hKQ
          gi_big_quiet_op
          gi_big_quiet_call (exact ⟨rfl, (HFt.out _).mono (by rintro e w'' ⟨rfl, c'⟩; exact ⟨rfl, After.more _ c'⟩)⟩)
          repeat (gi_big_quiet_step (fail))
          refine wpQuietIn_want (fun _ _ _ _ => trivial) rfl ?_
          intro KQ2 hKQ2
          gi_big_quiet_op
          gi_big_quiet_call (exact ⟨rfl, (HEq.out _).mono (by rintro e w'' ⟨rfl, rfl⟩; exact ⟨rfl, _, rfl⟩)⟩)
          repeat (gi_big_quiet_step (fail))
          refine wpQuietIn_nil ?_
          rintro w' ⟨c, rfl⟩
          have cc := Chg.seq cw3 c.chg
          gi_wp2
          go_ret2
          exact ⟨rfl, cc⟩
        | true =>
          rw [hz] at HEq
          have HT2 : Hid ((app (ra.drop (s' + o')) (rb.drop (s' + n')) (stps.drop (k + 1))).map (fun t => (acc ++ ra.take s' ++ (rb.drop s').take n') ++ t) = tot) := by
            have := HT.out
            rw [HTk.out, HAP, if_pos ⟨by trivial, of_decide_eq_true hz⟩, Option.map_map] at this
            rw [← this]
            show _ = _
            congr 1
            funext t
            simp [List.append_assoc]
          clear HAP hfz hz
          refine region_quietC hmix (by kernel_rfl) ?_
          repeat (gi_big_quiet_step (fail))
          refine wpQuietIn_want (fun _ _ _ _ => trivial) rfl ?_
          intro KQ hKQ
          gi_big_quiet_op
          gi_big_quiet_call (exact ⟨rfl, (HFt.out _).mono (by rintro e w'' ⟨rfl, c'⟩; exact ⟨rfl, After.more _ c'⟩)⟩)
          repeat (gi_big_quiet_step (fail))
          refine wpQuietIn_want (fun _ _ _ _ => trivial) rfl ?_
          intro KQ2 hKQ2
          gi_big_quiet_op
          gi_big_quiet_call (exact ⟨rfl, (HEq.out _).mono (by rintro e w'' ⟨rfl, rfl⟩; exact ⟨rfl, _, rfl⟩)⟩)
          repeat (gi_big_quiet_step (fail))
          refine wpQuietIn_nil ?_
          rintro w' ⟨c, rfl⟩
          have cc := Chg.seq cw3 c.chg
          have st4 := st3.chg c.chg (fun _ h => h.elim)
          have hr4 := row_kept hr3 (fun k hk => c.chg.block k (hr3.lt k hk).2 (fun h => h))
          have sA1' := sA1.no c.chg
          have sB2' := sB2.no c.chg
          have sA3' := sA3.no c.chg
          have sB3' := sB3.no c.chg
          have DB2 : Hid (∀ k, svD (.slice pb2 n' cb2) (((rb.drop s').take n').map Value.string) k → k < w1.heap.size) := fun k hk => HDB.out k ⟨fun h => hk.1 (by rw [List.map_eq_nil_iff] at h; rw [h]; simp), oB2 k hk.2⟩
          have DA3 : Hid (∀ k, svD (.slice pa3 (na - (s' + o')) ca3) ((ra.drop (s' + o')).map Value.string) k → k < w1.heap.size) := fun k hk => HDA.out k ⟨fun h => hk.1 (by rw [List.map_eq_nil_iff] at h; rw [h]; simp), oA3 k hk.2⟩
          have DB3 : Hid (∀ k, svD (.slice pb3 (nb - (s' + n')) cb3) ((rb.drop (s' + n')).map Value.string) k → k < w1.heap.size) := fun k hk => HDB.out k ⟨fun h => hk.1 (by rw [List.map_eq_nil_iff] at h; rw [h]; simp), oB3 k hk.2⟩
          generalize c.val = W4 at *
          clear sA1 sB1 sB2 sA3 sB3 oA1 oB1 oB2 oA3 oB3 f0 f1 f2 hany HFt HEq hcB1 st3 hr3
          have y0 := st4.c0
          have y1 := st4.c1
          have y2 := st4.c2
          have hb4 : w1.heap.size ≤ W4.heap.size := cc.size
          have hB4 : ∀ k, Value.ownBlock (.slice pm acc.length cm) = some k → k ≠ B := fun k hk => (hBn k hk).2
          gi_wp2_with (first
            | (gi_at_builtin; refine wpListIn_append_sv _ rfl _ _ rfl w1.heap.size _ acc.length _ rfl hr4 pa1 s' ca1 (ra.take s') rfl sA1' (by omega) hb4 ?_; intro v5 W5 hown5 hgrow5 hat5; obtain ⟨st5, hB5, c5⟩ := st4.grow hr4 hB4 hgrow5 hat5; have z0 := st5.c0; have z1 := st5.c1; have z2 := st5.c2; obtain ⟨pm5, cm5, rfl⟩ := row_slice hown5; have sB5 := sB2'.chg c5 (fun k hk h => by have := DB2.out k hk; have := (hBn k h).1; omega); have hb5 := Nat.le_trans hb4 c5.size)
            | (gi_at_builtin; refine wpListIn_append_sv _ rfl _ _ rfl w1.heap.size _ (acc.length + s') _ rfl hown5 pb2 n' cb2 ((rb.drop s').take n') rfl sB5 (by omega) hb5 ?_; intro v6 W6 hown6 hgrow6 hat6; obtain ⟨st6, hB6, c6⟩ := st5.grow hown5 hB5 hgrow6 hat6; have z3 := st6.c0; have z4 := st6.c1; have z5 := st6.c2))
          have hno : ∀ {v : Value} {vals : List Value}, SlV W4 v vals → (∀ k, svD v vals k → k < w1.heap.size) → SlV W6 v vals := fun h hd =>
            (h.chg c5 (fun k hk e => by have := hd k hk; have := (hr4.lt k e).1; omega)).chg c6 (fun k hk e => by have := hd k hk; have := (hown5.lt k e).1; omega)
          have c16 : Chg No w1 W6 := (cc.trans c5 (fun k hk => .inr (hr4.lt k hk).1)).trans c6 (fun k hk => .inr (hown5.lt k hk).1)
          have hlen : (acc ++ ra.take s' ++ (rb.drop s').take n').length = acc.length + s' + n' := by
            rw [List.length_append, List.length_append, List.length_take, List.length_take, List.length_drop, HNA.out, HNB.out]
            omega
          go_roundw
          case rel => exact ⟨k + 1, na - (s' + o'), nb - (s' + n'), acc ++ ra.take s' ++ (rb.drop s').take n', ra.drop (s' + o'), rb.drop (s' + n'), pa3, pb3, ca3, cb3, hlt, by go_num, rfl, rfl, by show _ = _; rw [List.length_drop, HNA.out], by show _ = _; rw [List.length_drop, HNB.out], by omega, by rw [hlen]; omega, hno sA3' DA3.out, hno sB3' DB3.out, DA3, DB3, by rw [hlen, List.map_append, List.map_append]; exact hown6, HT2, st6.s, c16⟩
          case measure => simp [intOf]; omega
    · obtain rfl : k = ns := by omega
      have hlt' : ¬ (k : Int) < (k : Int) := by omega
      obtain ⟨pm, cm, rfl⟩ := row_slice hr
      have HD : Hid ((if ra = [] ∧ rb = [] then some acc else none) = tot) := by
        have := HT.out
        rw [List.drop_eq_nil_of_le (by rw [HS.out]; exact Nat.le_refl _)] at this
        rw [← this]
        show _ = _
        unfold app
        split <;> simp
      by_cases h1 : 0 < na
      · have h1' : (na : Int) > 0 := by omega
        have h1'' : (0 : Int) < (na : Int) := by omega
        obtain rfl : tot = none := by
          rw [← HD.out, if_neg]
          rintro ⟨rfl, _⟩
          have := HNA.out
          simp at this
          omega
        gi_wp2
        go_ret2
        exact ⟨rfl, cw⟩
      · have h1'' : ¬ (0 : Int) < (na : Int) := by omega
        by_cases h2 : 0 < nb
        · have h2'' : (0 : Int) < (nb : Int) := by omega
          obtain rfl : tot = none := by
            rw [← HD.out, if_neg]
            rintro ⟨_, rfl⟩
            have := HNB.out
            simp at this
            omega
          gi_wp2
          go_ret2
          exact ⟨rfl, cw⟩
        · have h2'' : ¬ (0 : Int) < (nb : Int) := by omega
          obtain rfl : tot = some acc := by
            rw [← HD.out, if_pos]
            exact ⟨List.length_eq_zero_iff.1 (by rw [HNA.out]; omega), List.length_eq_zero_iff.1 (by rw [HNB.out]; omega)⟩
          gi_wp2
          go_ret2
          exact ⟨⟨_, rfl, hr⟩, cw⟩

end Go.Proofs.YtndblaemladppabGreatDoor

end
section
-- TOwn
namespace Go.Proofs.YtndblaemladppabGreatDoor
open Go.RowKit Go.Shelf Go.SeqLib Go.DiffLib Go.BigFrame
attribute [local go_sem] Oper.semAt_some

theorem oneStep (w : World) (x y z : Int) : SlS (w.alloc (.cells #[.int .i64 x, .int .i64 y, .int .i64 z] 144)) (.slice (some ⟨w.heap.size, 0, none⟩) 1 1) [(x, y, z)] := by
  refine ⟨_, 1, rfl, Nat.le_refl _, by unfold maxLen; decide, fun i u hi => ⟨w.heap.size, 0, rfl, fun q r hq => ?_⟩⟩
  rw [World.cell?_alloc_at _ _ _ _ rfl]
  have hi1 : i < 1 := (List.getElem?_eq_some_iff.1 hi).1
  obtain rfl : i = 0 := by omega
  cases hi
  rw [show 0 + 0 * 3 + q = q by omega]
  unfold eS at hq
  simpa using hq

theorem run_max3 {P : Program} (ts : Array TypeId) (t : TypeId) (x y z : Nat) (w : World) : (Builtin.max_ ts t #[.int .i64 (x : Int), .int .i64 (y : Int), .int .i64 (z : Int)]).run P w = .ok (.int .i64 ((max (max x y) z : Nat) : Int)) w := by
  simp [Builtin.max_, Builtin.max2]
  split <;> split <;> simp_all <;> omega

theorem tooLong3_in (p q r : Option Addr) (n m k cp cq cr : Nat) (hn : n ≤ 400) (hm : m ≤ 400) (hk : k ≤ 400) (w : World) : CallsIn Fence.wide 0 Tryz.prog 80 #[.slice p n cp, .slice q m cq, .slice r k cr] w fun e w' => e = .returned (.bool false) ∧ w' = w := by
  refine callsIn_of_wp Tryz.func80 rfl trivial ?_
  simp only [Tryz.ntmps80, List.size_toArray, List.length_cons, List.length_nil, Nat.reduceAdd, Nat.reduceSub, Array.replicate_succ, Array.replicate_zero, List.push_toArray, List.append_toArray, List.nil_append, List.cons_append]
  obtain ⟨M, hM⟩ : ∃ M, max (max n m) k = M := ⟨_, rfl⟩
  have hmx : ¬ (400 : Int) < (M : Int) := by omega
  have hr : ∀ w, (Builtin.max_ #[3, 3, 3] 3 #[.int .i64 (n : Int), .int .i64 (m : Int), .int .i64 (k : Int)]).run Tryz.prog w = .ok (.int .i64 (M : Int)) w := fun w => by rw [run_max3, hM]
  clear hM
  gi_wp2
  go_ret
  exact ⟨rfl, rfl⟩

theorem own_in (p : Option Addr) (n cap : Nat) (zs : List ByteArray) (w : World) (h : SlV w (.slice p n cap) (zs.map Value.string)) (hn : n ≤ 1000) :
    CallsIn Fence.wide 0 Tryz.prog 115 #[.slice p n cap] w fun e w' => ∃ v', e = .returned v' ∧ w'.ownsRow w.heap.size 9 1 v' zs.length (zs.map Value.string) ∧ Chg No w w' := by
  have hl : zs.length = n := by obtain ⟨p', c', e, _⟩ := h; cases e; simp
  refine callsIn_of_wp Tryz.func115 rfl trivial ?_
  simp only [Tryz.ntmps115, List.size_toArray, List.length_cons, List.length_nil, Nat.reduceAdd, Nat.reduceSub, Array.replicate_succ, Array.replicate_zero, List.push_toArray, List.append_toArray, List.nil_append, List.cons_append]
  have hr0 : w.ownsRow w.heap.size 9 1 (.slice none 0 0) 0 [] := World.ownsRow_nil _ _ _ _
  have HL : Hid (zs.length = n) := hl
  clear hl
  gi_wp2_with (gi_at_builtin; refine wpListIn_append_sv _ rfl _ _ rfl w.heap.size _ 0 _ rfl hr0 p n cap zs rfl h (by omega) (Nat.le_refl _) ?_; intro v5 W5 hown5 hgrow5 hat5)
  go_ret
  exact ⟨_, rfl, by rw [HL.out]; simpa using hown5, (Chg.refl _ w).grown hgrow5 (fun k e => by cases e)⟩

theorem app_alike (x y : List ByteArray) : (app x y [((x.length : Int), 0, 0)]).isSome = decide (x = y) := by
  unfold app
  by_cases h : x = y
  · subst h
    rw [if_pos (by refine ⟨by omega, by omega, by omega, by omega, by omega, by omega, by omega, rfl⟩)]
    simp [app]
  · rw [decide_eq_false h]
    split
    · rename_i h2
      obtain ⟨_, _, _, _, h5, _, _, h8⟩ := h2
      have hne : y.drop x.length ≠ [] := by
        intro e
        apply h
        have hl : y.length ≤ x.length := by rw [List.drop_eq_nil_iff] at e; exact e
        simp only [Int.toNat_natCast] at h8
        rw [List.take_length, List.take_of_length_le hl] at h8
        exact h8
      simp [app, hne]
    · rfl

set_option maxRecDepth 100000 in
set_option maxHeartbeats 1000000 in
theorem alike_in (v u : Value) (x y : List ByteArray) (w : World) (hv : SlV w v (x.map Value.string)) (hu : SlV w u (y.map Value.string)) (hx : x.length ≤ 400) (hy : y.length ≤ 400) :
    CallsIn Fence.wide 0 Tryz.prog 102 #[v, u] w fun e w' => e = .returned (.bool (decide (x = y))) ∧ Chg No w w' := by
  obtain ⟨p, cp, rfl, _⟩ := id hv
  obtain ⟨q, cq, rfl, _⟩ := id hu
  rw [List.length_map] at hv ⊢
  rw [List.length_map] at hu ⊢
  have ha := app_alike x y
  have hc : Chg No w (w.alloc (.cells #[.int .i64 (x.length : Int), .int .i64 0, .int .i64 0] 144)) := (Chg.refl _ w).alloc _
  have hA := apply_in _ _ _ x y [((x.length : Int), 0, 0)] _ (hv.no hc) (hu.no hc) (oneStep w (x.length : Int) 0 0) hx hy (by simp)
  refine callsIn_of_wp Tryz.func102 rfl trivial ?_
  simp only [Tryz.ntmps102, List.size_toArray, List.length_cons, List.length_nil, Nat.reduceAdd, Nat.reduceSub, Array.replicate_succ, Array.replicate_zero, List.push_toArray, List.append_toArray, List.nil_append, List.cons_append]
  obtain ⟨n, HN⟩ : ∃ n, Hid (x.length = n) := ⟨_, rfl⟩
  obtain ⟨m, HM⟩ : ∃ n, Hid (y.length = n) := ⟨_, rfl⟩
  rw [HN.out] at ha hA hc hx ⊢
  rw [HM.out] at hA hy ⊢
  clear hv hu
  obtain ⟨z, hz⟩ : ∃ z, app x y [((n : Int), 0, 0)] = z := ⟨_, rfl⟩
  rw [hz] at hA ha
  clear hz
  gi_wp2_with fail
  refine ⟨trivial, rfl, hA.mono ?_⟩
  rintro e w2 ⟨hres, c2⟩
  have HF : Hid (z.isSome = decide (x = y)) := ha
  clear ha hA
  cases z with
  | none =>
    obtain rfl := hres
    gi_wp2
    go_ret
    exact ⟨by rw [← HF.out]; rfl, Chg.seq hc c2⟩
  | some c =>
    obtain ⟨v', rfl, r⟩ := hres
    gi_wp2
    go_ret
    exact ⟨by rw [← HF.out]; rfl, Chg.seq hc c2⟩

end Go.Proofs.YtndblaemladppabGreatDoor

end
section
-- TOn
namespace Go.Proofs.YtndblaemladppabGreatDoor
open Go.RowKit Go.Shelf Go.SeqLib Go.DiffLib Go.BigFrame
attribute [local go_sem] Oper.semAt_some

/-- A place's cells. -/
def eT (x : Pl) : List Value := [.int .i64 (x.1 : Int), .int .i64 (x.2.1 : Int), .int .i64 (x.2.2 : Int)]
theorem eT_len (x : Pl) : (eT x).length = 3 := rfl
abbrev vT (x : Pl) : Value := .agg #[.int .i64 (x.1 : Int), .int .i64 (x.2.1 : Int), .int .i64 (x.2.2 : Int)]
abbrev SlPl := @SlE Pl 3 eT
theorem SlPl.at {W : World} {p : Option Addr} {n cap : Nat} {zs : List Pl} (h : SlPl W (.slice p n cap) zs) (i : Nat) (x : Pl) (hi : zs[i]? = some x) :
    ∃ b off, p = some ⟨b, off, none⟩ ∧ W.cell? ⟨b, off + i * 3, none⟩ = some (.int .i64 (x.1 : Int)) ∧ W.cell? ⟨b, off + i * 3 + 1, none⟩ = some (.int .i64 (x.2.1 : Int)) ∧ W.cell? ⟨b, off + i * 3 + 2, none⟩ = some (.int .i64 (x.2.2 : Int)) := by
  obtain ⟨p', cap', e, _, _, hc⟩ := h
  cases e
  obtain ⟨b, off, e, h1⟩ := hc i x hi
  exact ⟨b, off, e, h1 0 _ rfl, h1 1 _ rfl, h1 2 _ rfl⟩
theorem info119 : (Tryz.prog.info? 119).map (fun i => (i.zero, i.size, i.bytes)) = some (some (.agg #[.int .i64 0, .int .i64 0, .int .i64 0]), 3, 24) := by kernel_rfl
theorem guard_place : Tryz.prog.eqGuardType Tryz.prog.depth 119 = false := by kernel_rfl
theorem size_place (w : World) : (sizeOf 119).run Tryz.prog w = .ok 3 w := by
  obtain ⟨i0, hi, _, h2, _⟩ := info_parts info119
  rw [run_sizeOf w hi]
  have : Tryz.prog.cellsOf 119 = 3 := by kernel_rfl
  rw [this]

theorem run_equalIn_place (a b c a' b' c' : Int) (w : World) : (Op.equalIn 10000 119 (.agg #[.int .i64 a, .int .i64 b, .int .i64 c]) (.agg #[.int .i64 a', .int .i64 b', .int .i64 c'])).run Tryz.prog w = .ok (a == a' && b == b' && c == c') w := by
  have h2 : Tryz.prog.underlying 3 = some (.int .i64) := by kernel_rfl
  have he : ∀ (x y : Int) (w : World), (Op.equalIn 9999 3 (.int .i64 x) (.int .i64 y)).run Tryz.prog w = .ok (x == y) w := fun x y w => run_equalIn_int w 9998 3 .i64 .i64 x y h2
  have hp : Tryz.prog.stoodInHeld 119 = false := by kernel_rfl
  have hu : Tryz.prog.underlying 119 = some (.struct (Tryz.prog.fieldsOf 119)) := by kernel_rfl
  have hf : ((Tryz.prog.fieldsOf 119).toList.map fun f => (f.name == "_", f.type, f.offset)) = [(false, 3, 0), (false, 3, 1), (false, 3, 2)] := by kernel_rfl
  rw [run_equalIn_agg w 9999 _ _ _ hu hp]
  obtain ⟨f1, f2, f3, hfl⟩ : ∃ f1 f2 f3, (Tryz.prog.fieldsOf 119).toList = [f1, f2, f3] := by
    generalize (Tryz.prog.fieldsOf 119).toList = l at hf
    have hl := congrArg List.length hf
    rw [List.length_map] at hl
    obtain ⟨x1, l1, rfl⟩ := List.exists_cons_of_length_eq_add_one hl
    obtain ⟨x2, l2, rfl⟩ := List.exists_cons_of_length_eq_add_one (Nat.succ.inj hl)
    obtain ⟨x3, l3, rfl⟩ := List.exists_cons_of_length_eq_add_one (Nat.succ.inj (Nat.succ.inj hl))
    obtain rfl := List.length_eq_zero_iff.1 (Nat.succ.inj (Nat.succ.inj (Nat.succ.inj hl)))
    exact ⟨x1, x2, x3, rfl⟩
  rw [hfl] at hf ⊢
  simp at hf
  obtain ⟨⟨n1, t1, o1⟩, ⟨n2, t2, o2⟩, ⟨n3, t3, o3⟩⟩ := hf
  have hpart : ∀ (xs : Array Value) (off : Nat) (v : Value) (w : World), xs[off]? = some v → (part 3 xs off).run Tryz.prog w = .ok v w := fun xs off v w h => run_part_plain w (by kernel_rfl) h
  simp [Op.eqFields, n1, n2, n3, t1, t2, t3, o1, o2, o3, hpart, he]
  by_cases e1 : a = a'
  · by_cases e2 : b = b'
    · by_cases e3 : c = c'
      · simp [e1, e2, e3]
      · simp [e1, e2, e3]
    · simp [e1, e2]
  · simp [e1]
theorem run_eql_place (p q : Pl) (w : World) : (binOp .eql 119 (vT p) (vT q)).run Tryz.prog w = .ok (.bool (decide (p = q))) w := by
  obtain ⟨a, b, c⟩ := p
  obtain ⟨d, e, f⟩ := q
  simp only [binOp]
  simp [Op.equal, Op.maxDepth, run_equalIn_place]
  by_cases e1 : a = d
  · by_cases e2 : b = e
    · by_cases e3 : c = f
      · simp [e1, e2, e3]
      · simp [e1, e2, e3]; omega
    · simp [e1, e2]; omega
  · simp [e1]; omega
theorem run_neq_place (p q : Pl) (w : World) : (binOp .neq 119 (vT p) (vT q)).run Tryz.prog w = .ok (.bool (!decide (p = q))) w := by
  obtain ⟨a, b, c⟩ := p
  obtain ⟨d, e, f⟩ := q
  simp only [binOp]
  simp [Op.equal, Op.maxDepth, run_equalIn_place]
  by_cases e1 : a = d
  · by_cases e2 : b = e
    · by_cases e3 : c = f
      · simp [e1, e2, e3]
      · simp [e1, e2, e3]; omega
    · simp [e1, e2]; omega
  · simp [e1]; omega

set_option maxHeartbeats 1000000 in
theorem on_in (p : Pl) (n : Nat) (h1 : p.1 ≤ 1000) (h2 : p.2.1 ≤ 1000) (h3 : p.2.2 ≤ 1000) (hn : n ≤ 1000) (w : World) :
    CallsIn Fence.wide 0 Tryz.prog 101 #[vT p, .int .i64 (n : Int)] w fun e w' => e = .returned (vT (on p n)) ∧ Chg No w w' := by
  obtain ⟨a, b, c⟩ := p
  simp only at h1 h2 h3
  refine callsIn_of_wp Tryz.func101 rfl trivial ?_
  simp only [Tryz.ntmps101, List.size_toArray, List.length_cons, List.length_nil, Nat.reduceAdd, Nat.reduceSub, Array.replicate_succ, Array.replicate_zero, List.push_toArray, List.append_toArray, List.nil_append, List.cons_append]
  gi_wp2
  refine bodyPost_ret (v := vT (on (a, b, c) n)) ?_ rfl ⟨rfl, ((Chg.refl _ w).alloc _).alloc _⟩
  rw [results_cell1 rfl]
  simp only [on]
  go_simp

set_option maxRecDepth 100000 in
set_option maxHeartbeats 2000000 in
theorem run3_in (p : Option Addr) (n cap : Nat) (ps : List Pl) (s : Pl) (w : World) (h : SlPl w (.slice p n cap) ps) (hl : ps.length = n) (hs : ps[0]? = some s) (hb : s.1 ≤ 400 ∧ s.2.1 ≤ 400 ∧ s.2.2 ≤ 400) (hn : n ≤ 400) :
    CallsIn Fence.wide 0 Tryz.prog 100 #[.slice p n cap] w fun e w' => e = .returned (.int .i64 (rn3 ps s : Int)) ∧ Chg No w w' := by
  have hmix : Tryz.prog.follows .mixedOrders = true := by kernel_rfl
  have hgd := guard_place
  have HL : Hid (ps.length = n) := hl
  have HS : Hid (ps[0]? = some s) := hs
  clear hl hs
  refine callsIn_of_wp Tryz.func100 rfl trivial ?_
  simp only [Tryz.ntmps100, List.size_toArray, List.length_cons, List.length_nil, Nat.reduceAdd, Nat.reduceSub, Array.replicate_succ, Array.replicate_zero, List.push_toArray, List.append_toArray, List.nil_append, List.cons_append]
  gi_wp2
  gi_loopw [3] (fun t wr => ∃ k : Nat, k ≤ n ∧ t = .int .i64 (k : Int) ∧ Hid (rn3 ps s = k + rn3 (ps.drop k) (on s k)) ∧ Chg No w wr) (fun t _ => n - (intOf t).toNat)
  case atStart => exact ⟨0, Nat.zero_le _, rfl, by show _ = _; simp [on_zero], Chg.refl _ _⟩
  case round =>
    obtain ⟨k, hk, rfl, HK, cw⟩ := hrel
    have hany : Nonempty (After wr) := After.any wr
    by_cases hlt : k < n
    · have hlt' : (k : Int) < (n : Int) := by omega
      have hn0 : (0 : Int) < (n : Int) := by omega
      have hkp : k < ps.length := by rw [HL.out]; exact hlt
      obtain ⟨x, hx⟩ : ∃ x, ps[k]? = some x := ⟨_, List.getElem?_eq_getElem hkp⟩
      have h' : SlPl wr _ ps := SlE.no eT_len (by decide) h cw
      obtain ⟨b, off, rfl, c1, c2, c3⟩ := SlPl.at h' k x hx
      obtain ⟨b0, off0, e0, d1, d2, d3⟩ := SlPl.at h' 0 s HS.out
      cases e0
      simp only [Nat.zero_mul, Nat.add_zero] at d1 d2 d3
      have hxk : ps[k] = x := by rw [List.getElem?_eq_getElem hkp] at hx; exact Option.some.inj hx
      have hat := rn3_at ps s k hkp
      rw [hxk] at hat
      have HOn : Hid (∀ c : After wr, CallsIn Fence.wide 0 Tryz.prog 101 #[vT s, .int .i64 (k : Int)] c.val fun e w' => e = .returned (vT (on s k)) ∧ Chg No c.val w') := fun c => on_in s k (by omega) (by omega) (by omega) (by omega) c.val
      have g1 : ∀ c : After wr, c.val.cell? ⟨b, off + k * 3, none⟩ = some (.int .i64 (x.1 : Int)) := fun c => c.cell c1
      have g2 : ∀ c : After wr, c.val.cell? ⟨b, off + k * 3 + 1, none⟩ = some (.int .i64 (x.2.1 : Int)) := fun c => c.cell c2
      have g3 : ∀ c : After wr, c.val.cell? ⟨b, off + k * 3 + 2, none⟩ = some (.int .i64 (x.2.2 : Int)) := fun c => c.cell c3
      have g4 : ∀ c : After wr, c.val.cell? ⟨b, off, none⟩ = some (.int .i64 (s.1 : Int)) := fun c => c.cell d1
      have g5 : ∀ c : After wr, c.val.cell? ⟨b, off + 1, none⟩ = some (.int .i64 (s.2.1 : Int)) := fun c => c.cell d2
      have g6 : ∀ c : After wr, c.val.cell? ⟨b, off + 2, none⟩ = some (.int .i64 (s.2.2 : Int)) := fun c => c.cell d3
      obtain ⟨z, hz⟩ : ∃ z, decide (x = on s k) = z := ⟨_, rfl⟩
      have heq : ∀ w, (binOp .eql 119 (vT x) (vT (on s k))).run Tryz.prog w = .ok (.bool z) w := fun w => by rw [run_eql_place, hz]
      have HAt : Hid (rn3 ps s = if z = true then (k + 1) + rn3 (ps.drop (k + 1)) (on s (k + 1)) else k) := by
        show _ = _
        rw [HK.out, hat, ← hz]
        by_cases e : x = on s k
        · simp [e]; omega
        · simp [e]
      clear hat hxk hx c1 c2 c3 d1 d2 d3 h' hz
      generalize on s k = y at *
      gi_wp2
      refine region_quietC hmix (by kernel_rfl) ?_
      repeat (gi_big_quiet_step (fail))
      refine wpQuietIn_want (fun _ _ _ _ => trivial) rfl ?_
      intro KQ hKQ
      gi_big_quiet_op
      gi_big_quiet_call (exact ⟨rfl, (HOn.out _).mono (by rintro e w'' ⟨rfl, c'⟩; exact ⟨rfl, After.more _ c'⟩)⟩)
      repeat (gi_big_quiet_step (fail))
      refine wpQuietIn_nil ?_
      rintro w' ⟨c, rfl⟩
      have cc := Chg.seq cw c.chg
      cases z
      · have HR : Hid (rn3 ps s = k) := HAt.out
        gi_wp2
        go_ret
        exact ⟨by rw [HR.out]; rfl, cc⟩
      · have HR : Hid (rn3 ps s = (k + 1) + rn3 (ps.drop (k + 1)) (on s (k + 1))) := HAt.out
        gi_wp2
        go_roundw
        case rel => exact ⟨k + 1, hlt, by go_num, HR, cc⟩
        case measure => simp [intOf]; omega
    · obtain rfl : k = n := by omega
      have hlt' : decide ((k : Int) < (k : Int)) = false := by simp
      have HR : Hid (rn3 ps s = k) := by
        show _ = _
        rw [HK.out, List.drop_eq_nil_of_le (by rw [HL.out]; exact Nat.le_refl _)]
        rfl
      gi_wp2
      refine region_quietC hmix (by kernel_rfl) ?_
      repeat (gi_big_quiet_step (fail))
      refine wpQuietIn_skip (fun _ _ _ _ => trivial) rfl ?_
      simp only [Act.put, List.setIfInBounds_toArray, List.set_cons_succ, List.set_cons_zero]
      repeat (gi_big_quiet_step (fail))
      refine wpQuietIn_nil ?_
      rintro w' ⟨c, rfl⟩
      have cc := Chg.seq cw c.chg
      gi_wp2
      go_ret
      exact ⟨by rw [HR.out]; rfl, cc⟩

end Go.Proofs.YtndblaemladppabGreatDoor

end
section
-- TStand
namespace Go.Proofs.YtndblaemladppabGreatDoor
open Go.RowKit Go.Shelf Go.SeqLib Go.DiffLib Go.BigFrame
attribute [local go_sem] Oper.semAt_some

theorem pairBox (w : World) (x y : Int) : (w.alloc (.cells #[.int .i64 x, .int .i64 y] 141)).cell? ⟨w.heap.size, 0, none⟩ = some (.int .i64 x) ∧ (w.alloc (.cells #[.int .i64 x, .int .i64 y] 141)).cell? ⟨w.heap.size, 1, none⟩ = some (.int .i64 y) :=
  ⟨World.cell?_alloc_at _ _ _ _ rfl, World.cell?_alloc_at _ _ _ _ rfl⟩

theorem chgCell {S : Blk} {w w' : World} (c : Chg S w w') {p : Addr} {v : Value} (h : w.cell? p = some v) (hp : ¬ S p.block) : w'.cell? p = some v :=
  (World.cell?_of_block (a := p) (c.block p.block (World.block_lt_of_cell? w _ h) hp)).trans h

theorem row_keptN {W W' : World} {base : Nat} {e : TypeId} {s : Nat} {v : Value} {n : Nat} {xs : List Value} (h : W.ownsRow base e s v n xs) (hk : ∀ k, v.ownBlock = some k → W'.heap[k]? = W.heap[k]?) : W'.ownsRow base e s v n xs := by
  refine ⟨h.1, ?_⟩
  rcases h.2 with hn | ⟨g, cap, cur, rfl, hb, hgg, rest⟩
  · exact .inl hn
  · exact .inr ⟨g, cap, cur, rfl, hb, (hk g rfl).trans hgg, rest⟩

set_option maxRecDepth 100000 in
set_option maxHeartbeats 4000000 in
theorem standing_in (v u t : Value) (o a b : List ByteArray) (w : World) (hv : SlV w v (o.map Value.string)) (hu : SlV w u (a.map Value.string)) (ht : SlV w t (b.map Value.string)) (ho : o.length ≤ 400) (ha : a.length ≤ 400) (hb : b.length ≤ 400) :
    CallsIn Fence.wide 0 Tryz.prog 98 #[v, u, t] w fun e w' => ∃ v', e = .returned v' ∧ w'.ownsRow w.heap.size 119 3 v' (std o a b).length ((std o a b).flatMap eT) ∧ Chg No w w' := by
  have hmix : Tryz.prog.follows .mixedOrders = true := by kernel_rfl
  obtain ⟨i0, hi, hz0, hz1, hz2⟩ := info_parts info119
  have hlen := std_length o a b
  unfold std at hlen ⊢
  have hP1 := pairs_in _ _ o b w hv ht ho hb
  have hP2 : ∀ w1, Chg No w w1 → _ := fun w1 c1 => pairs_in _ _ o a w1 (hv.no c1) (hu.no c1) ho ha
  obtain ⟨p, cp, rfl, _⟩ := id hv
  obtain ⟨q, cq, rfl, _⟩ := id hu
  obtain ⟨r, cr, rfl, _⟩ := id ht
  clear hv hu ht
  generalize (o.map Value.string).length = lo at *
  generalize (a.map Value.string).length = la at *
  generalize (b.map Value.string).length = lb at *
  have hl1 : (pr o a 0 0).length ≤ 400 := by rw [pr_length]; exact Nat.le_trans (tl_le o a).1 ho
  have hl2 : (pr o b 0 0).length ≤ 400 := by rw [pr_length]; exact Nat.le_trans (tl_le o b).1 ho
  generalize pr o a 0 0 = ps0 at *
  generalize pr o b 0 0 = qs0 at *
  obtain ⟨tot, HTot⟩ : ∃ t, Hid (sd ps0 qs0 = t) := ⟨_, rfl⟩
  rw [HTot.out] at hlen ⊢
  have HB : Hid (tot.length ≤ 400) := Nat.le_trans hlen ho
  clear hlen ho ha hb
  refine callsIn_of_wp Tryz.func98 rfl trivial ?_
  simp only [Tryz.ntmps98, List.size_toArray, List.length_cons, List.length_nil, Nat.reduceAdd, Nat.reduceSub, Array.replicate_succ, Array.replicate_zero, List.push_toArray, List.append_toArray, List.nil_append, List.cons_append]
  gi_wp2_with fail
  refine ⟨trivial, rfl, hP1.mono ?_⟩
  rintro e w1 ⟨vq, rfl, rq, c1⟩
  have sq1 : SlP w1 vq qs0 := SlE.ofRow eP_len rq
  obtain ⟨pq, cpq, rfl⟩ := row_slice rq
  have hP2' := hP2 w1 c1
  clear hP1 hP2 rq
  obtain ⟨nq, HNQ⟩ : ∃ n, Hid (qs0.length = n) := ⟨_, rfl⟩
  rw [HNQ.out] at sq1 hl2 ⊢
  gi_wp2_with fail
  refine ⟨trivial, rfl, hP2'.mono ?_⟩
  rintro e w2 ⟨vp, rfl, rp, c2⟩
  have sp : SlP w2 vp ps0 := SlE.ofRow eP_len rp
  have sq : SlP w2 (.slice pq nq cpq) qs0 := SlE.no eP_len (by decide) sq1 c2
  obtain ⟨pp, cpp, rfl⟩ := row_slice rp
  have c02 := Chg.seq c1 c2
  clear hP2' rp sq1
  obtain ⟨np, HNP⟩ : ∃ n, Hid (ps0.length = n) := ⟨_, rfl⟩
  rw [HNP.out] at sp hl1 ⊢
  gi_wp2
  gi_loopw [7, 8, 18] (fun v7 v8 i wr => ∃ (acc : List Pl) (qs : List (Nat × Nat)) (k nr : Nat) (pr : Option Addr) (cpr : Nat), k ≤ np ∧ i = .int .i64 (k : Int) ∧ v8 = .slice pr nr cpr ∧ Hid (qs.length = nr) ∧ nr ≤ 400 ∧ SlP w2 (.slice pr nr cpr) qs ∧ Hid (acc ++ sd (ps0.drop k) qs = tot) ∧ wr.ownsRow w2.heap.size 119 3 v7 acc.length (acc.flatMap eT) ∧ Chg No w2 wr) (fun v7 v8 i _ => np - (intOf i).toNat)
  case atStart => exact ⟨[], qs0, 0, nq, pq, cpq, Nat.zero_le _, rfl, rfl, HNQ, hl2, sq, by show _ = _; simpa using HTot.out, World.ownsRow_nil _ _ _ _, Chg.refl _ _⟩
  case round =>
    obtain ⟨acc, qs, k, nr, prr, cpr, hk, rfl, rfl, HNR, hnr, sR, HA, hr, cw⟩ := hrel
    obtain ⟨pr0, cr0, rfl⟩ := row_slice hr
    by_cases hlt : k < np
    · have hlt' : (k : Int) < (np : Int) := by omega
      have hkp : k < ps0.length := by rw [HNP.out]; exact hlt
      obtain ⟨x, hx⟩ : ∃ x, ps0[k]? = some x := ⟨_, List.getElem?_eq_getElem hkp⟩
      have HTk : Hid (ps0.drop k = x :: ps0.drop (k + 1)) := by
        rw [List.drop_eq_getElem_cons hkp]
        rw [List.getElem?_eq_getElem hkp] at hx
        rw [Option.some.inj hx]
        exact rfl
      obtain ⟨bp, op, rfl, x1, x2⟩ := SlP.at (show SlP wr _ _ from SlE.no eP_len (by decide) sp cw) k x hx
      obtain ⟨xa, xb⟩ := x
      simp only at x1 x2
      clear hx hkp
      obtain ⟨y1, y2⟩ := pairBox wr (xa : Int) (xb : Int)
      have cw1 : Chg No w2 (wr.alloc (.cells #[.int .i64 (xa : Int), .int .i64 (xb : Int)] 141)) := cw.alloc _
      have hr1 := hr.alloc (.cells #[.int .i64 (xa : Int), .int .i64 (xb : Int)] 141)
      have hBn : ∀ k, Value.ownBlock (.slice pr0 acc.length cr0) = some k → w2.heap.size ≤ k ∧ k ≠ wr.heap.size := fun k hk => by
        have := hr.lt k hk
        omega
      gi_wp2
      generalize wr.alloc (.cells #[.int .i64 (xa : Int), .int .i64 (xb : Int)] 141) = W1 at *
      generalize wr.heap.size = B at *
      have HA1 : Hid (acc ++ (hd3 (xa, xb) (dw xa qs) ++ sd (ps0.drop (k + 1)) (dw xa qs)) = tot) := by
        have := HA.out
        rw [HTk.out] at this
        exact this
      clear x1 x2 cw hr HA
      gi_loopw [8] (fun v8 wi => ∃ (qs1 : List (Nat × Nat)) (n1 : Nat) (p1 : Option Addr) (c1 : Nat), v8 = .slice p1 n1 c1 ∧ Hid (qs1.length = n1) ∧ n1 ≤ 400 ∧ SlP w2 (.slice p1 n1 c1) qs1 ∧ Hid (dw xa qs = dw xa qs1) ∧ Chg No W1 wi) (fun v8 _ => match v8 with | .slice _ n _ => n | _ => 0)
      case atStart => exact ⟨qs, nr, prr, cpr, rfl, HNR, hnr, sR, rfl, Chg.refl _ _⟩
      case round =>
        obtain ⟨qs1, n1, p1, c1', rfl, HN1, hn1, sR1, HD, ci⟩ := hrel
        have cw2 := Chg.seq cw1 ci
        have z1 := chgCell ci y1 (fun h => h)
        have z2 := chgCell ci y2 (fun h => h)
        have hr2 := row_keptN hr1 (fun k hk => ci.block k (hr1.lt k hk).2 (fun h => h))
        cases qs1 with
        | nil =>
          obtain rfl : n1 = 0 := by have := HN1.out; simp at this; omega
          have HA2 : Hid (acc ++ sd (ps0.drop (k + 1)) [] = tot) := by
            have := HA1.out
            rw [HD.out] at this
            show _ = _
            simpa [dw, hd3] using this
          have hg : decide ((0 : Int) < ((0 : Nat) : Int)) = false := by simp
          have hg' : decide ((0 : Int) < 0) = false := by simp
          gi_wp2
          refine wpIn_region_quiet_lit rfl hmix (by kernel_rfl) ?_
          repeat (gi_big_quiet_step (fail))
          refine wpQuietIn_nil ?_
          rintro w' ⟨j1, rfl⟩
          gi_wp2
          refine wpIn_region_quiet_lit rfl hmix (by kernel_rfl) ?_
          repeat (gi_big_quiet_step (fail))
          refine wpQuietIn_nil ?_
          rintro w' ⟨j2, rfl⟩
          gi_wp2
          go_roundw
          case rel => exact ⟨acc, [], k + 1, 0, p1, c1', hlt, by go_num, rfl, rfl, Nat.zero_le _, sR1, HA2, hr2, drewNC cw2 _⟩
          case measure => simp [intOf]; omega
        | cons y qs2 =>
          have hpos : 0 < n1 := by have := HN1.out; simp at this; omega
          have hg : decide ((0 : Int) < (n1 : Int)) = true := decide_eq_true (by omega)
          have hg' : (0 : Int) < (n1 : Int) := by omega
          obtain ⟨bq, oq, rfl, q1, q2⟩ := SlP.at (show SlP wr _ _ from SlE.no eP_len (by decide) sR1 cw2) 0 y rfl
          simp only [Nat.zero_mul, Nat.add_zero] at q1 q2
          obtain ⟨ya, yb⟩ := y
          simp only at q1 q2
          by_cases hlt2 : ya < xa
          · have hl2 : decide ((ya : Int) < (xa : Int)) = true := decide_eq_true (by omega)
            have hl2' : (ya : Int) < (xa : Int) := by omega
            obtain ⟨p3, c3, s3, _, hcut⟩ := SlE.low Tryz.underlying139 size_pair sR1 HN1.out 1 hpos .i64
            have HD2 : Hid (dw xa qs = dw xa qs2) := by
              show _ = _
              rw [HD.out, dw_step, if_pos hlt2]
            have HN2 : Hid (qs2.length = n1 - 1) := by have := HN1.out; rw [List.length_cons] at this; show _ = _; omega
            have hcut' : ∀ w, (Instr.sliceAt 139 (.slice (some ⟨bq, oq, none⟩) n1 c1') (some (.int .i64 1)) none none).run Tryz.prog w = .ok (.slice p3 (n1 - 1) c3) w := hcut
            have hn3 : n1 - 1 < n1 := by omega
            have hn3' : n1 - 1 ≤ 400 := by omega
            generalize n1 - 1 = n3 at *
            gi_wp2
            refine wpIn_region_quiet_lit rfl hmix (by kernel_rfl) ?_
            repeat (gi_big_quiet_step (fail))
            refine wpQuietIn_nil ?_
            rintro w' ⟨j1, rfl⟩
            gi_wp2
            go_roundw
            case rel => exact ⟨qs2, n3, p3, c3, rfl, HN2, hn3', s3, HD2, drewNC ci _⟩
            case measure => simpa using hn3
          · have hl2 : decide ((ya : Int) < (xa : Int)) = false := decide_eq_false (by omega)
            have HD2 : Hid (dw xa qs = (ya, yb) :: qs2) := by
              show _ = _
              rw [HD.out, dw_step, if_neg hlt2]
            by_cases heq : ya = xa
            · have he : ((ya : Int) == (xa : Int)) = true := by rw [heq]; simp
              have HA2 : Hid ((acc ++ [(xa, xb, yb)]) ++ sd (ps0.drop (k + 1)) ((ya, yb) :: qs2) = tot) := by
                have := HA1.out
                rw [HD2.out, hd3, if_pos heq] at this
                rw [List.append_assoc]
                exact this
              have hacc : acc.length + 1 ≤ 400 := by
                have h9 := congrArg List.length HA2.out
                have := HB.out
                simp only [List.length_append, List.length_singleton] at h9
                omega
              have hmx : acc.length + 1 ≤ maxLen := by unfold maxLen; omega
              clear heq
              gi_wp2
              refine wpIn_region_quiet_lit rfl hmix (by kernel_rfl) ?_
              repeat (gi_big_quiet_step (fail))
              refine wpQuietIn_nil ?_
              rintro w' ⟨j1, rfl⟩
              gi_wp2
              refine wpIn_region_quiet_lit rfl hmix (by kernel_rfl) ?_
              repeat (gi_big_quiet_step (fail))
              refine wpQuietIn_nil ?_
              rintro w' ⟨j2, rfl⟩
              gi_wp2
              have cw3 : Chg No w2 ((wr.drewN j1).drewN j2) := drewNC (drewNC cw2 j1) j2
              have hr3 : ((wr.drewN j1).drewN j2).ownsRow w2.heap.size 119 3 (.slice pr0 acc.length cr0) acc.length (acc.flatMap eT) := hr2
              have k1 : ((wr.drewN j1).drewN j2).cell? ⟨B, 0, none⟩ = some (.int .i64 (xa : Int)) := z1
              have k2 : ((wr.drewN j1).drewN j2).cell? ⟨B, 1, none⟩ = some (.int .i64 (xb : Int)) := z2
              have k3 : ((wr.drewN j1).drewN j2).cell? ⟨bq, oq + 1, none⟩ = some (.int .i64 (yb : Int)) := q2
              generalize (wr.drewN j1).drewN j2 = W0 at *
              have hbq : bq < w2.heap.size := SlE.lt eP_len (by decide) sR1 bq ⟨by simp, rfl⟩
              have hany := AfterB.any (fun k => Value.ownBlock (.slice pr0 acc.length cr0) = some k) W0
              have f1 : ∀ c : AfterB (fun k => Value.ownBlock (.slice pr0 acc.length cr0) = some k) W0, c.val.cell? ⟨B, 0, none⟩ = some (.int .i64 (xa : Int)) := fun c => c.cell k1 (fun h => (hBn B h).2 rfl)
              have f2 : ∀ c : AfterB (fun k => Value.ownBlock (.slice pr0 acc.length cr0) = some k) W0, c.val.cell? ⟨B, 1, none⟩ = some (.int .i64 (xb : Int)) := fun c => c.cell k2 (fun h => (hBn B h).2 rfl)
              have f3 : ∀ c : AfterB (fun k => Value.ownBlock (.slice pr0 acc.length cr0) = some k) W0, c.val.cell? ⟨bq, oq + 1, none⟩ = some (.int .i64 (yb : Int)) := fun c => c.cell k3 (fun h => by have := (hBn bq h).1; omega)
              refine region_push 10 11 _ _ hmix (by kernel_rfl) (by kernel_rfl) rfl rfl (by kernel_rfl) rfl _ _ 120 rfl w2.heap.size 119 i0 (.agg #[.int .i64 0, .int .i64 0, .int .i64 0]) 3 24 Tryz.underlying120 hi hz0 hz1 hz2 rfl (by decide) (.slice pr0 acc.length cr0) acc.length (acc.flatMap eT) [.int .i64 (xa : Int), .int .i64 (xb : Int), .int .i64 (yb : Int)] hr3 rfl (by simp [Value.oneCell']) hmx (by omega) cw3.size ?_
              intro v1 v2
              simp only [hushE, Nat.reduceAdd, Nat.reduceBEq, Bool.or_self, Bool.or_true, Bool.or_false, if_true, if_false, Bool.false_eq_true]
              repeat (gi_big_quiet_step (fail))
              refine wpQuietIn_nil ⟨fun W => ?_, ⟨rfl, rfl⟩, ?_⟩
              · simp [execOp, go_sem]
              · intro W hown' c' hmv
                have c9 : Chg No w2 W := cw3.trans c' (fun k h => .inr (hBn k h).1)
                gi_wp2
                go_roundw
                case rel => exact ⟨acc ++ [(xa, xb, yb)], (ya, yb) :: qs2, k + 1, n1, _, c1', hlt, by go_num, rfl, HN1, hn1, sR1, HA2, by rw [List.length_append, List.flatMap_append]; exact hown', c9⟩
                case measure => simp [intOf]; omega
            · have he : ((ya : Int) == (xa : Int)) = false := by rw [beq_eq_false_iff_ne]; omega
              have HA2 : Hid (acc ++ sd (ps0.drop (k + 1)) ((ya, yb) :: qs2) = tot) := by
                have := HA1.out
                rw [HD2.out, hd3, if_neg heq, List.nil_append] at this
                exact this
              clear heq
              gi_wp2
              refine wpIn_region_quiet_lit rfl hmix (by kernel_rfl) ?_
              repeat (gi_big_quiet_step (fail))
              refine wpQuietIn_nil ?_
              rintro w' ⟨j1, rfl⟩
              gi_wp2
              refine wpIn_region_quiet_lit rfl hmix (by kernel_rfl) ?_
              repeat (gi_big_quiet_step (fail))
              refine wpQuietIn_nil ?_
              rintro w' ⟨j2, rfl⟩
              gi_wp2
              go_roundw
              case rel => exact ⟨acc, (ya, yb) :: qs2, k + 1, n1, _, c1', hlt, by go_num, rfl, HN1, hn1, sR1, HA2, hr2, drewNC cw2 _⟩
              case measure => simp [intOf]; omega
    · obtain rfl : k = np := by omega
      have hlt' : ¬ (k : Int) < (k : Int) := by omega
      have HD : Hid (acc = tot) := by
        have := HA.out
        rw [List.drop_eq_nil_of_le (by rw [HNP.out]; exact Nat.le_refl _)] at this
        show _ = _
        simpa [sd] using this
      have hres : wr.ownsRow w.heap.size 119 3 (.slice pr0 acc.length cr0) tot.length (tot.flatMap eT) := by
        have := rowBase hr c02.size
        rw [HD.out] at this ⊢
        exact this
      gi_wp2
      go_ret
      exact ⟨_, rfl, hres, Chg.seq c02 cw⟩

end Go.Proofs.YtndblaemladppabGreatDoor

end
section
-- TPiece
namespace Go.Proofs.YtndblaemladppabGreatDoor
open Go.RowKit Go.Shelf Go.SeqLib Go.DiffLib Go.BigFrame
attribute [local go_sem] Oper.semAt_some

/-- A part in its box. -/
def Box4 (W : World) (B : Nat) (c x y z : Value) : Prop := W.heap[B]? = some (.cells #[c, x, y, z] 101)
section
variable {W W' : World} {B : Nat} {c x y z : Value}
theorem Box4.lt (h : Box4 W B c x y z) : B < W.heap.size := (Array.getElem?_eq_some_iff.1 h).1
theorem Box4.cells (h : Box4 W B c x y z) : W.cell? ⟨B, 0, none⟩ = some c ∧ W.cell? ⟨B, 1, none⟩ = some x ∧ W.cell? ⟨B, 2, none⟩ = some y ∧ W.cell? ⟨B, 3, none⟩ = some z := by
  unfold Box4 at h
  simp [World.cell?, h]
theorem Box4.frozen (h : Box4 W B c x y z) (j : Nat) : W.frozen? ⟨B, j, none⟩ = false := by
  unfold Box4 at h
  simp [World.frozen?, h]
theorem Box4.chg (h : Box4 W B c x y z) {S : Blk} (k : Chg S W W') (hS : ¬ S B) : Box4 W' B c x y z := k.same h hS
theorem set_cells {g : Nat} {cur : Array Value} {ty : TypeId} {fr : Nat × Nat} (hg : W.heap[g]? = some (.cells cur ty fr)) (k : Nat) (u : Value) : (W.setCell ⟨g, k, none⟩ u).heap[g]? = some (.cells (cur.setIfInBounds k u) ty fr) := by
  obtain ⟨hlt, hk⟩ := Array.getElem?_eq_some_iff.1 hg
  show (W.heap.modify g _)[g]? = _
  rw [Array.getElem?_eq_getElem (by rw [Array.size_modify]; exact hlt), Array.getElem_modify_self, hk]
  rfl
theorem Box4.set (h : Box4 W B c x y z) (c' x' y' z' : Value) : Box4 ((((W.setCell ⟨B, 0, none⟩ c').setCell ⟨B, 1, none⟩ x').setCell ⟨B, 2, none⟩ y').setCell ⟨B, 3, none⟩ z') B c' x' y' z' :=
  set_cells (set_cells (set_cells (set_cells h 0 c') 1 x') 2 y') 3 z'
theorem Box4.set0 (h : Box4 W B c x y z) (c' : Value) : Box4 (W.setCell ⟨B, 0, none⟩ c') B c' x y z := set_cells h 0 c'
end
theorem info101 : (Tryz.prog.info? 101).map (fun i => (i.zero, i.size, i.bytes)) = some (some (.agg #[.bool false, .slice none 0 0, .slice none 0 0, .slice none 0 0]), 4, 80) := by kernel_rfl

/-- Two values that own no block together. -/
def Dis (x y : Value) : Prop := ∀ k, x.ownBlock = some k → ¬ y.ownBlock = some k
/-- Three lists that are owned, apart. -/
structure Own3 (W : World) (base : Nat) (x y z : Value) (p : Prt ByteArray) : Prop where
  o : W.ownsRow base 9 1 x p.o.length (p.o.map Value.string)
  a : W.ownsRow base 9 1 y p.a.length (p.a.map Value.string)
  b : W.ownsRow base 9 1 z p.b.length (p.b.map Value.string)
  oa : Dis x y
  ob : Dis x z
  ab : Dis y z
theorem Own3.chg {W W' : World} {base : Nat} {x y z : Value} {p : Prt ByteArray} (h : Own3 W base x y z p) {S : Blk} (c : Chg S W W') (hS : ∀ k, (x.ownBlock = some k ∨ y.ownBlock = some k ∨ z.ownBlock = some k) → ¬ S k) : Own3 W' base x y z p := {
  o := own_still h.o c (fun k hk => hS k (.inl hk))
  a := own_still h.a c (fun k hk => hS k (.inr (.inl hk)))
  b := own_still h.b c (fun k hk => hS k (.inr (.inr hk)))
  oa := h.oa
  ob := h.ob
  ab := h.ab }
theorem Own3.lt {W : World} {base : Nat} {x y z : Value} {p : Prt ByteArray} (h : Own3 W base x y z p) : ∀ k, (x.ownBlock = some k ∨ y.ownBlock = some k ∨ z.ownBlock = some k) → base ≤ k ∧ k < W.heap.size := by
  rintro k (hk | hk | hk)
  · exact h.o.lt k hk
  · exact h.a.lt k hk
  · exact h.b.lt k hk
theorem Own3.less {W : World} {base base' : Nat} {x y z : Value} {p : Prt ByteArray} (h : Own3 W base x y z p) (hb : base' ≤ base) : Own3 W base' x y z p := {
  o := rowBase h.o hb
  a := rowBase h.a hb
  b := rowBase h.b hb
  oa := h.oa
  ob := h.ob
  ab := h.ab }

/-- What holds while the piece is made. -/
structure PInv (W0 : World) (xs : Nat → List ByteArray) (d : Nat → Bool) (u : Nat → Value) (W : World) : Prop where
  chg : Chg No W0 W
  row : ∀ i, (i = 7 ∨ i = 15 ∨ i = 23) → d i = true → W.ownsRow W0.heap.size 9 1 (u i) (xs i).length ((xs i).map Value.string)
  dis : ∀ i j, (i = 7 ∨ i = 15 ∨ i = 23) → (j = 7 ∨ j = 15 ∨ j = 23) → i ≠ j → d i = true → d j = true → Dis (u i) (u j)
  box : d 25 = true → ∃ B c x y z, u 25 = .pointer (some ⟨B, 0, none⟩) ∧ W0.heap.size ≤ B ∧ Box4 W B c x y z ∧ (d 26 = true → c = .bool false ∧ x = u 7 ∧ y = u 15 ∧ z = u 23) ∧ ∀ i, (i = 7 ∨ i = 15 ∨ i = 23) → d i = true → ¬ (u i).ownBlock = some B
  bld : d 24 = true → d 7 = true ∧ d 15 = true ∧ d 23 = true ∧ u 24 = .agg #[.bool false, u 7, u 15, u 23]
  last : d 26 = true → d 24 = true ∧ d 25 = true

theorem PInv.own {W0 : World} {xs : Nat → List ByteArray} {d : Nat → Bool} {u : Nat → Value} {W W' : World} (h : PInv W0 xs d u W) {i : Nat} (hi : i = 7 ∨ i = 15 ∨ i = 23) (hd : d i = false) {v : Value} (hr : W'.ownsRow W.heap.size 9 1 v (xs i).length ((xs i).map Value.string)) (c : Chg No W W') :
    PInv W0 xs (fun j => if j = i then true else d j) (fun j => if j = i then v else u j) W' :=
  have hn4 : d 24 = false := by
    cases hc : d 24 with
    | false => rfl
    | true =>
      obtain ⟨h1, h2, h3, _⟩ := h.bld hc
      rcases hi with rfl | rfl | rfl
      · rw [hd] at h1; cases h1
      · rw [hd] at h2; cases h2
      · rw [hd] at h3; cases h3
  have hn : d 26 = false := by
    cases hc : d 26 with
    | false => rfl
    | true => have := (h.last hc).1; rw [hn4] at this; cases this
  { chg := Chg.seq h.chg c
    row := fun j hj hdj => by
      by_cases e : j = i
      · subst e; simp only [if_true]; exact rowBase hr h.chg.size
      · simp only [if_neg e] at hdj ⊢; exact own_still (h.row j hj hdj) c (fun _ _ h => h)
    dis := fun j l hj hl hne hdj hdl => by
      by_cases e : j = i
      · subst e
        have e2 : ¬ l = j := fun h => hne h.symm
        simp only [if_neg e2] at hdl
        simp only [if_true, if_neg e2]
        intro k h1 h2
        have := (hr.lt k h1).1
        have := ((h.row l hl hdl).lt k h2).2
        omega
      · simp only [if_neg e] at hdj ⊢
        by_cases e2 : l = i
        · subst e2
          simp only [if_true]
          intro k h1 h2
          have := (hr.lt k h2).1
          have := ((h.row j hj hdj).lt k h1).2
          omega
        · simp only [if_neg e2] at hdl ⊢
          exact h.dis j l hj hl hne hdj hdl
    box := fun hd25 => by
      have e : ¬ 25 = i := by rcases hi with rfl | rfl | rfl <;> omega
      have e6 : ¬ 26 = i := by rcases hi with rfl | rfl | rfl <;> omega
      simp only [if_neg e] at hd25 ⊢
      obtain ⟨B, c0, x, y, z, h1, h2, h3, h4, h5⟩ := h.box hd25
      refine ⟨B, c0, x, y, z, h1, h2, h3.chg c (fun h => h), fun h26 => ?_, fun j hj hdj => ?_⟩
      · simp only [if_neg e6] at h26
        rw [hn] at h26; cases h26
      · by_cases e3 : j = i
        · subst e3
          simp only [if_true]
          intro h6
          have := (hr.lt B h6).1
          have := h3.lt
          omega
        · simp only [if_neg e3] at hdj ⊢
          exact h5 j hj hdj
    bld := fun h24 => by
      have e4 : ¬ 24 = i := by rcases hi with rfl | rfl | rfl <;> omega
      simp only [if_neg e4] at h24
      rw [hn4] at h24; cases h24
    last := fun h26 => by
      have e6 : ¬ 26 = i := by rcases hi with rfl | rfl | rfl <;> omega
      simp only [if_neg e6] at h26
      rw [hn] at h26; cases h26 }
theorem PInv.box25 {W0 : World} {xs : Nat → List ByteArray} {d : Nat → Bool} {u : Nat → Value} {W : World} (h : PInv W0 xs d u W) (hd : d 25 = false) :
    PInv W0 xs (fun j => if j = 25 then true else d j) (fun j => if j = 25 then .pointer (some ⟨W.heap.size, 0, none⟩) else u j) (W.alloc (.cells #[.bool false, .slice none 0 0, .slice none 0 0, .slice none 0 0] 101)) :=
  have hn : d 26 = false := by
    cases hc : d 26 with
    | false => rfl
    | true => have := (h.last hc).2; rw [hd] at this; cases this
  have ne : ∀ i, (i = 7 ∨ i = 15 ∨ i = 23) → ¬ i = 25 := by rintro i (rfl | rfl | rfl) <;> omega
  { chg := h.chg.alloc _
    row := fun j hj hdj => by
      simp only [if_neg (ne j hj)] at hdj ⊢
      exact own_still (h.row j hj hdj) ((Chg.refl No W).alloc _) (fun _ _ h => h)
    dis := fun j l hj hl hne hdj hdl => by
      simp only [if_neg (ne j hj), if_neg (ne l hl)] at hdj hdl ⊢
      exact h.dis j l hj hl hne hdj hdl
    box := fun _ => by
      refine ⟨W.heap.size, _, _, _, _, by simp only [if_true], h.chg.size, World.alloc_heap_new W _, fun h26 => ?_, fun j hj hdj => ?_⟩
      · simp only [show ¬ 26 = 25 by omega, if_false] at h26
        rw [hn] at h26; cases h26
      · simp only [if_neg (ne j hj)] at hdj ⊢
        intro h6
        have := ((h.row j hj hdj).lt _ h6).2
        omega
    bld := fun h24 => by
      simp only [show ¬ 24 = 25 by omega, show ¬ 7 = 25 by omega, show ¬ 15 = 25 by omega, show ¬ 23 = 25 by omega, if_false] at h24 ⊢
      exact h.bld h24
    last := fun h26 => by
      simp only [show ¬ 26 = 25 by omega, if_false] at h26
      rw [hn] at h26; cases h26 }
theorem PInv.built {W0 : World} {xs : Nat → List ByteArray} {d : Nat → Bool} {u : Nat → Value} {W : World} (h : PInv W0 xs d u W) (h7 : d 7 = true) (h15 : d 15 = true) (h23 : d 23 = true) (h24 : d 24 = false) :
    PInv W0 xs (fun j => if j = 24 then true else d j) (fun j => if j = 24 then .agg #[.bool false, u 7, u 15, u 23] else u j) W :=
  have hn : d 26 = false := by
    cases hc : d 26 with
    | false => rfl
    | true => have := (h.last hc).1; rw [h24] at this; cases this
  have ne : ∀ i, (i = 7 ∨ i = 15 ∨ i = 23) → ¬ i = 24 := by rintro i (rfl | rfl | rfl) <;> omega
  { chg := h.chg
    row := fun j hj hdj => by
      simp only [if_neg (ne j hj)] at hdj ⊢
      exact h.row j hj hdj
    dis := fun j l hj hl hne hdj hdl => by
      simp only [if_neg (ne j hj), if_neg (ne l hl)] at hdj hdl ⊢
      exact h.dis j l hj hl hne hdj hdl
    box := fun hd => by
      simp only [show ¬ 25 = 24 by omega, if_false] at hd ⊢
      obtain ⟨B, c, x, y, z, h1, h2, h3, h4, h5⟩ := h.box hd
      refine ⟨B, c, x, y, z, h1, h2, h3, fun h26 => ?_, fun j hj hdj => ?_⟩
      · simp only [show ¬ 26 = 24 by omega, if_false] at h26
        rw [hn] at h26; cases h26
      · simp only [if_neg (ne j hj)] at hdj ⊢
        exact h5 j hj hdj
    bld := fun _ => by simp [h7, h15, h23]
    last := fun h26 => by
      simp only [show ¬ 26 = 24 by omega, if_false] at h26
      rw [hn] at h26; cases h26 }
theorem PInv.stored {W0 : World} {xs : Nat → List ByteArray} {d : Nat → Bool} {u : Nat → Value} {W : World} (h : PInv W0 xs d u W) (h24 : d 24 = true) (h25 : d 25 = true) {B : Nat} (hB : u 25 = .pointer (some ⟨B, 0, none⟩)) (v : Value) :
    PInv W0 xs (fun j => if j = 26 then true else d j) (fun j => if j = 26 then v else u j) ((((W.setCell ⟨B, 0, none⟩ (.bool false)).setCell ⟨B, 1, none⟩ (u 7)).setCell ⟨B, 2, none⟩ (u 15)).setCell ⟨B, 3, none⟩ (u 23)) :=
  have ne : ∀ i, (i = 7 ∨ i = 15 ∨ i = 23) → ¬ i = 26 := by rintro i (rfl | rfl | rfl) <;> omega
  have hbox := h.box h25
  have key : ∃ c x y z, W0.heap.size ≤ B ∧ Box4 W B c x y z ∧ ∀ i, (i = 7 ∨ i = 15 ∨ i = 23) → d i = true → ¬ (u i).ownBlock = some B := by
    obtain ⟨B', c, x, y, z, e, h1, h2, _, h3⟩ := hbox
    rw [hB] at e
    cases e
    exact ⟨c, x, y, z, h1, h2, h3⟩
  have cc : Chg (fun k => k = B) W ((((W.setCell ⟨B, 0, none⟩ (.bool false)).setCell ⟨B, 1, none⟩ (u 7)).setCell ⟨B, 2, none⟩ (u 15)).setCell ⟨B, 3, none⟩ (u 23)) :=
    ((((Chg.refl (fun k => k = B) W).setCell (p := ⟨B, 0, none⟩) (.inl rfl) _).setCell (p := ⟨B, 1, none⟩) (.inl rfl) _).setCell (p := ⟨B, 2, none⟩) (.inl rfl) _).setCell (p := ⟨B, 3, none⟩) (.inl rfl) _
  { chg := by
      obtain ⟨_, _, _, _, h1, _⟩ := key
      exact h.chg.trans cc (fun k hk => .inr (by subst hk; exact h1))
    row := fun j hj hdj => by
      simp only [if_neg (ne j hj)] at hdj ⊢
      obtain ⟨_, _, _, _, _, _, h3⟩ := key
      exact own_still (h.row j hj hdj) cc (fun k hk e => h3 j hj hdj (by rw [← e]; exact hk))
    dis := fun j l hj hl hne hdj hdl => by
      simp only [if_neg (ne j hj), if_neg (ne l hl)] at hdj hdl ⊢
      exact h.dis j l hj hl hne hdj hdl
    box := fun _ => by
      obtain ⟨c, x, y, z, h1, h2, h3⟩ := key
      refine ⟨B, _, _, _, _, by simpa using hB, h1, h2.set _ _ _ _, fun _ => ⟨rfl, by simp, by simp, by simp⟩, fun j hj hdj => ?_⟩
      simp only [if_neg (ne j hj)] at hdj ⊢
      exact h3 j hj hdj
    bld := fun _ => by
      simp only [show ¬ 24 = 26 by omega, show ¬ 7 = 26 by omega, show ¬ 15 = 26 by omega, show ¬ 23 = 26 by omega, if_false]
      exact h.bld h24
    last := fun _ => by simp [h24, h25] }

theorem fourBoxes (w : World) (c vo va vb : Value) (s1 s2 s3 t1 t2 t3 : Int) : ∃ W0, W0 = ((((w.alloc (.cells #[c, vo, va, vb] 101)).alloc (.cells #[.int .i64 s1, .int .i64 s2, .int .i64 s3] 119)).alloc (.cells #[.int .i64 t1, .int .i64 t2, .int .i64 t3] 119)).alloc (.cells #[.bool false, .slice none 0 0, .slice none 0 0, .slice none 0 0] 101)) ∧
    Chg No w W0 ∧ Box4 W0 w.heap.size c vo va vb ∧ (W0.cell? ⟨w.heap.size + 1, 0, none⟩ = some (.int .i64 s1) ∧ W0.cell? ⟨w.heap.size + 1, 1, none⟩ = some (.int .i64 s2) ∧ W0.cell? ⟨w.heap.size + 1, 2, none⟩ = some (.int .i64 s3)) ∧
    (W0.cell? ⟨w.heap.size + 1 + 1, 0, none⟩ = some (.int .i64 t1) ∧ W0.cell? ⟨w.heap.size + 1 + 1, 1, none⟩ = some (.int .i64 t2) ∧ W0.cell? ⟨w.heap.size + 1 + 1, 2, none⟩ = some (.int .i64 t3)) ∧
    Box4 W0 (w.heap.size + 1 + 1 + 1) (.bool false) (.slice none 0 0) (.slice none 0 0) (.slice none 0 0) := by
  refine ⟨_, rfl, (((Chg.refl _ w).alloc _).alloc _).alloc _ |>.alloc _, ?_, ?_, ?_, ?_⟩
  · have h : Box4 (w.alloc (.cells #[c, vo, va, vb] 101)) w.heap.size c vo va vb := World.alloc_heap_new w _
    exact h.chg ((((Chg.refl No _).alloc _).alloc _).alloc _) (fun h => h)
  · have h : ∀ j u, (#[.int .i64 s1, .int .i64 s2, .int .i64 s3] : Array Value)[j]? = some u → ((w.alloc (.cells #[c, vo, va, vb] 101)).alloc (.cells #[.int .i64 s1, .int .i64 s2, .int .i64 s3] 119)).cell? ⟨w.heap.size + 1, j, none⟩ = some u := fun j u hj => by
      rw [show w.heap.size + 1 = (w.alloc (.cells #[c, vo, va, vb] 101)).heap.size by simp, World.cell?_alloc_at _ _ _ _ rfl]
      exact hj
    have cc : Chg No ((w.alloc (.cells #[c, vo, va, vb] 101)).alloc (.cells #[.int .i64 s1, .int .i64 s2, .int .i64 s3] 119)) _ := ((Chg.refl No _).alloc (.cells #[.int .i64 t1, .int .i64 t2, .int .i64 t3] 119)).alloc (.cells #[.bool false, .slice none 0 0, .slice none 0 0, .slice none 0 0] 101)
    exact ⟨(After.mk _ cc).cell (h 0 _ rfl), (After.mk _ cc).cell (h 1 _ rfl), (After.mk _ cc).cell (h 2 _ rfl)⟩
  · have h : ∀ j u, (#[.int .i64 t1, .int .i64 t2, .int .i64 t3] : Array Value)[j]? = some u → (((w.alloc (.cells #[c, vo, va, vb] 101)).alloc (.cells #[.int .i64 s1, .int .i64 s2, .int .i64 s3] 119)).alloc (.cells #[.int .i64 t1, .int .i64 t2, .int .i64 t3] 119)).cell? ⟨w.heap.size + 1 + 1, j, none⟩ = some u := fun j u hj => by
      rw [show w.heap.size + 1 + 1 = ((w.alloc (.cells #[c, vo, va, vb] 101)).alloc (.cells #[.int .i64 s1, .int .i64 s2, .int .i64 s3] 119)).heap.size by simp, World.cell?_alloc_at _ _ _ _ rfl]
      exact hj
    have cc : Chg No (((w.alloc (.cells #[c, vo, va, vb] 101)).alloc (.cells #[.int .i64 s1, .int .i64 s2, .int .i64 s3] 119)).alloc (.cells #[.int .i64 t1, .int .i64 t2, .int .i64 t3] 119)) _ := (Chg.refl No _).alloc (.cells #[.bool false, .slice none 0 0, .slice none 0 0, .slice none 0 0] 101)
    exact ⟨(After.mk _ cc).cell (h 0 _ rfl), (After.mk _ cc).cell (h 1 _ rfl), (After.mk _ cc).cell (h 2 _ rfl)⟩
  · have := World.alloc_heap_new (((w.alloc (.cells #[c, vo, va, vb] 101)).alloc (.cells #[.int .i64 s1, .int .i64 s2, .int .i64 s3] 119)).alloc (.cells #[.int .i64 t1, .int .i64 t2, .int .i64 t3] 119)) (.cells #[.bool false, .slice none 0 0, .slice none 0 0, .slice none 0 0] 101)
    unfold Box4
    simpa using this

set_option maxRecDepth 100000 in
set_option maxHeartbeats 4000000 in
theorem piece_in (c0 : Bool) (vo va vb : Value) (o a b : List ByteArray) (s t : Pl) (w : World) (hv : SlV w vo (o.map Value.string)) (hu : SlV w va (a.map Value.string)) (ht : SlV w vb (b.map Value.string)) (ho : o.length ≤ 400) (ha : a.length ≤ 400) (hb : b.length ≤ 400)
    (hs1 : s.1 ≤ t.1) (hs2 : s.2.1 ≤ t.2.1) (hs3 : s.2.2 ≤ t.2.2) (ht1 : t.1 ≤ o.length) (ht2 : t.2.1 ≤ a.length) (ht3 : t.2.2 ≤ b.length) :
    CallsIn Fence.wide 0 Tryz.prog 99 #[.agg #[.bool c0, vo, va, vb], vT s, vT t] w fun e w' => ∃ x y z, e = .returned (.agg #[.bool (prt o a b s t).c, x, y, z]) ∧ Own3 w' w.heap.size x y z (prt o a b s t) ∧ Chg No w w' := by
  have hmix : Tryz.prog.follows .mixedOrders = true := by kernel_rfl
  obtain ⟨p, cp, rfl, _⟩ := id hv
  obtain ⟨q, cq, rfl, _⟩ := id hu
  obtain ⟨r, cr, rfl, _⟩ := id ht
  rw [List.length_map] at hv hu ht
  rw [List.length_map, List.length_map, List.length_map]
  obtain ⟨p1, c1, sl1, _, hc1⟩ := SlV.mid hv (by simp) s.1 t.1 hs1 ht1
  obtain ⟨p2, c2, sl2, _, hc2⟩ := SlV.mid hu (by simp) s.2.1 t.2.1 hs2 ht2
  obtain ⟨p3, c3, sl3, _, hc3⟩ := SlV.mid ht (by simp) s.2.2 t.2.2 hs3 ht3
  rw [← List.map_take, ← List.map_drop] at sl1 sl2 sl3
  have hk1 : t.1 - s.1 ≤ 1000 := by omega
  have hk2 : t.2.1 - s.2.1 ≤ 1000 := by omega
  have hk3 : t.2.2 - s.2.2 ≤ 1000 := by omega
  have HP : Hid (prt o a b s t = mk3 (cut o s.1 t.1) (cut a s.2.1 t.2.1) (cut b s.2.2 t.2.2)) := rfl
  have hl1 : (cut o s.1 t.1).length ≤ 400 := Nat.le_trans (cut_length _ _ _) ho
  have hl2 : (cut a s.2.1 t.2.1).length ≤ 400 := Nat.le_trans (cut_length _ _ _) ha
  have hl3 : (cut b s.2.2 t.2.2).length ≤ 400 := Nat.le_trans (cut_length _ _ _) hb
  change SlV w _ ((cut o s.1 t.1).map Value.string) at sl1
  change SlV w _ ((cut a s.2.1 t.2.1).map Value.string) at sl2
  change SlV w _ ((cut b s.2.2 t.2.2).map Value.string) at sl3
  rw [HP.out]
  clear HP
  generalize cut o s.1 t.1 = X at *
  generalize cut a s.2.1 t.2.1 = Y at *
  generalize cut b s.2.2 t.2.2 = Z at *
  generalize t.1 - s.1 = n1 at *
  generalize t.2.1 - s.2.1 = n2 at *
  generalize t.2.2 - s.2.2 = n3 at *
  generalize o.length = lo at *
  generalize a.length = la at *
  generalize b.length = lb at *
  clear hv hu ht hs1 hs2 hs3 ht1 ht2 ht3 ho ha hb
  have HC : Hid ((mk3 X Y Z).c = (!decide (Y = Z) && (!decide (Y = X) && !decide (Z = X)))) := by
    show decide _ = _
    by_cases h1 : Y = Z <;> by_cases h2 : Y = X <;> by_cases h3 : Z = X <;> simp [h1, h2, h3]
  obtain ⟨z1, hz1⟩ : ∃ z, decide (Y = Z) = z := ⟨_, rfl⟩
  obtain ⟨z2, hz2⟩ : ∃ z, decide (Y = X) = z := ⟨_, rfl⟩
  obtain ⟨z3, hz3⟩ : ∃ z, decide (Z = X) = z := ⟨_, rfl⟩
  rw [HC.out, hz1, hz2, hz3]
  clear HC
  obtain ⟨s1, s2, s3⟩ := s
  obtain ⟨t1, t2, t3⟩ := t
  simp only at hc1 hc2 hc3
  refine callsIn_of_wp Tryz.func99 rfl trivial ?_
  simp only [Tryz.ntmps99, List.size_toArray, List.length_cons, List.length_nil, Nat.reduceAdd, Nat.reduceSub, Array.replicate_succ, Array.replicate_zero, List.push_toArray, List.append_toArray, List.nil_append, List.cons_append]
  obtain ⟨W0, hW0, cW0, bx, ⟨f1, f2, f3⟩, ⟨f4, f5, f6⟩, br⟩ := fourBoxes w (.bool c0) (.slice p lo cp) (.slice q la cq) (.slice r lb cr) (s1 : Int) (s2 : Int) (s3 : Int) (t1 : Int) (t2 : Int) (t3 : Int)
  obtain ⟨e0, e1, e2, e3⟩ := bx.cells
  gi_wp2
  rw [← hW0]
  clear hW0
  have hany := After.any W0
  have g1 : ∀ c : After W0, c.val.cell? ⟨w.heap.size, 1, none⟩ = some (.slice p lo cp) := fun c => c.cell e1
  have g2 : ∀ c : After W0, c.val.cell? ⟨w.heap.size, 2, none⟩ = some (.slice q la cq) := fun c => c.cell e2
  have g3 : ∀ c : After W0, c.val.cell? ⟨w.heap.size, 3, none⟩ = some (.slice r lb cr) := fun c => c.cell e3
  have g4 : ∀ c : After W0, c.val.cell? ⟨w.heap.size + 1, 0, none⟩ = some (.int .i64 (s1 : Int)) := fun c => c.cell f1
  have g5 : ∀ c : After W0, c.val.cell? ⟨w.heap.size + 1, 1, none⟩ = some (.int .i64 (s2 : Int)) := fun c => c.cell f2
  have g6 : ∀ c : After W0, c.val.cell? ⟨w.heap.size + 1, 2, none⟩ = some (.int .i64 (s3 : Int)) := fun c => c.cell f3
  have g7 : ∀ c : After W0, c.val.cell? ⟨w.heap.size + 1 + 1, 0, none⟩ = some (.int .i64 (t1 : Int)) := fun c => c.cell f4
  have g8 : ∀ c : After W0, c.val.cell? ⟨w.heap.size + 1 + 1, 1, none⟩ = some (.int .i64 (t2 : Int)) := fun c => c.cell f5
  have g9 : ∀ c : After W0, c.val.cell? ⟨w.heap.size + 1 + 1, 2, none⟩ = some (.int .i64 (t3 : Int)) := fun c => c.cell f6
  have S1 := sl1.no cW0
  have S2 := sl2.no cW0
  have S3 := sl3.no cW0
  refine region_loudE (fun i => i == 7 || i == 15 || i == 23 || i == 24 || i == 25 || i == 26) (fun w' => ∃ c : After W0, w' = c.val) (PInv W0 (fun i => if i = 7 then X else if i = 15 then Y else Z)) hmix (by kernel_rfl) (by kernel_rfl) (fun d u W h => ⟨⟨W, h.chg⟩, rfl⟩) (fun u => ?_) (fun u => ?_)
  · exact ⟨(Chg.refl _ W0).drew, fun _ _ h => by simp at h, fun _ _ _ _ _ h => by simp at h, fun h => by simp at h, fun h => by simp at h, fun h => by simp at h⟩
  simp only [hushE, Nat.reduceAdd, Nat.reduceBEq, Bool.or_self, Bool.or_true, Bool.or_false, if_true, if_false, Bool.false_eq_true]
  repeat (gi_big_quiet_step (fail))
  refine wpQuietIn_nil ⟨?_, ?_⟩
  · intro i o d W ho hm hd hwt hI
    simp only [Bool.or_eq_true, beq_iff_eq] at hm
    rcases hm with ((((rfl | rfl) | rfl) | rfl) | rfl) | rfl
    · cases ho
      refine LeadsV.call (f := 115) (args := #[.slice p1 n1 c1]) (by simp [go_sem]) ((own_in p1 n1 c1 X W (S1.no hI.chg) hk1).mono ?_)
      rintro e W' ⟨v', rfl, hr, c'⟩
      exact ⟨v', rfl, hI.own (.inl rfl) hd hr c'⟩
    · cases ho
      refine LeadsV.call (f := 115) (args := #[.slice p2 n2 c2]) (by simp [go_sem]) ((own_in p2 n2 c2 Y W (S2.no hI.chg) hk2).mono ?_)
      rintro e W' ⟨v', rfl, hr, c'⟩
      exact ⟨v', rfl, hI.own (.inr (.inl rfl)) hd hr c'⟩
    · cases ho
      refine LeadsV.call (f := 115) (args := #[.slice p3 n3 c3]) (by simp [go_sem]) ((own_in p3 n3 c3 Z W (S3.no hI.chg) hk3).mono ?_)
      rintro e W' ⟨v', rfl, hr, c'⟩
      exact ⟨v', rfl, hI.own (.inr (.inr rfl)) hd hr c'⟩
    · cases ho
      have w7 := hwt 7 rfl (by kernel_rfl)
      have w15 := hwt 15 rfl (by kernel_rfl)
      have w23 := hwt 23 rfl (by kernel_rfl)
      obtain ⟨q1, d1, r1⟩ := row_slice (hI.row 7 (.inl rfl) w7)
      obtain ⟨q2, d2, r2⟩ := row_slice (hI.row 15 (.inr (.inl rfl)) w15)
      obtain ⟨q3, d3, r3⟩ := row_slice (hI.row 23 (.inr (.inr rfl)) w23)
      refine LeadsV.value (v := .agg #[.bool false, u 7, u 15, u 23]) (w' := W) ?_ (hI.built w7 w15 w23 hd)
      rw [r1, r2, r3]
      simp [execOp, go_sem]
    · cases ho
      refine LeadsV.value (v := .pointer (some ⟨W.heap.size, 0, none⟩)) (w' := W.alloc (.cells #[.bool false, .slice none 0 0, .slice none 0 0, .slice none 0 0] 101)) ?_ (hI.box25 hd)
      simp [execOp, go_sem]
    · cases ho
      have w7 := hwt 7 rfl (by kernel_rfl)
      have w15 := hwt 15 rfl (by kernel_rfl)
      have w23 := hwt 23 rfl (by kernel_rfl)
      have w24 := hwt 24 rfl (by kernel_rfl)
      have w25 := hwt 25 rfl (by kernel_rfl)
      obtain ⟨B, c', x', y', z', hB, _, hb4, _⟩ := hI.box w25
      have hu24 := (hI.bld w24).2.2.2
      refine LeadsV.skip ?_ (hI.stored w24 w25 hB undef)
      obtain ⟨q1, d1, r1⟩ := row_slice (hI.row 7 (.inl rfl) w7)
      obtain ⟨q2, d2, r2⟩ := row_slice (hI.row 15 (.inr (.inl rfl)) w15)
      obtain ⟨q3, d3, r3⟩ := row_slice (hI.row 23 (.inr (.inr rfl)) w23)
      obtain ⟨j0, j1, j2, j3⟩ := hb4.cells
      have k0 := hb4.frozen 0
      have k1 := hb4.frozen 1
      have k2 := hb4.frozen 2
      have k3 := hb4.frozen 3
      rw [r1, r2, r3] at hu24 ⊢
      simp [execOp, go_sem, hu24, hB, j0, j1, j2, j3, k0, k1, k2, k3]
  · intro d W hall hI
    have w7 := hall 7 rfl (by decide)
    have w15 := hall 15 rfl (by decide)
    have w23 := hall 23 rfl (by decide)
    have w25 := hall 25 rfl (by decide)
    have w26 := hall 26 rfl (by decide)
    obtain ⟨B, c', x', y', z', hB, hBge, hb4, hval, hnB⟩ := hI.box w25
    obtain ⟨rfl, rfl, rfl, rfl⟩ := hval w26
    have R1 := hI.row 7 (.inl rfl) w7
    have R2 := hI.row 15 (.inr (.inl rfl)) w15
    have R3 := hI.row 23 (.inr (.inr rfl)) w23
    simp only [if_true, if_false, show ¬ 15 = 7 by omega, show ¬ 23 = 7 by omega, show ¬ 23 = 15 by omega] at R1 R2 R3
    have D1 := hI.dis 7 15 (.inl rfl) (.inr (.inl rfl)) (by omega) w7 w15
    have D2 := hI.dis 7 23 (.inl rfl) (.inr (.inr rfl)) (by omega) w7 w23
    have D3 := hI.dis 15 23 (.inr (.inl rfl)) (.inr (.inr rfl)) (by omega) w15 w23
    have N1 := hnB 7 (.inl rfl) w7
    have N2 := hnB 15 (.inr (.inl rfl)) w15
    have N3 := hnB 23 (.inr (.inr rfl)) w23
    have cI := hI.chg
    clear hI hall hnB hval w7 w15 w23 w25 w26 S1 S2 S3 g1 g2 g3 g4 g5 g6 g7 g8 g9 hany
    rw [hB]
    generalize u 7 = x at *
    generalize u 15 = y at *
    generalize u 23 = z at *
    clear hB
    have s1' : SlV W x (X.map Value.string) := SlV.ofRow (by simpa using R1)
    have s2' : SlV W y (Y.map Value.string) := SlV.ofRow (by simpa using R2)
    have s3' : SlV W z (Z.map Value.string) := SlV.ofRow (by simpa using R3)
    have o3 : Own3 W W0.heap.size x y z (mk3 X Y Z) := ⟨R1, R2, R3, D1, D2, D3⟩
    obtain ⟨q1, d1, rfl⟩ := row_slice R1
    obtain ⟨q2, d2, rfl⟩ := row_slice R2
    obtain ⟨q3, d3, rfl⟩ := row_slice R3
    obtain ⟨j0, j1, j2, j3⟩ := hb4.cells
    have hRB : w.heap.size + 1 + 1 + 1 < W0.heap.size := br.lt
    have hne : ¬ B = w.heap.size + 1 + 1 + 1 := by omega
    have hne' : ¬ w.heap.size + 1 + 1 + 1 = B := by omega
    have tail : ∀ (cb : Bool) (W1 : World), Chg No W W1 → Hid (
        Box4 W1 B (.bool false) (.slice q1 X.length d1) (.slice q2 Y.length d2) (.slice q3 Z.length d3) ∧
        Box4 (W1.setCell ⟨B, 0, none⟩ (.bool cb)) B (.bool cb) (.slice q1 X.length d1) (.slice q2 Y.length d2) (.slice q3 Z.length d3) ∧
        Box4 (W1.setCell ⟨B, 0, none⟩ (.bool cb)) (w.heap.size + 1 + 1 + 1) (.bool false) (.slice none 0 0) (.slice none 0 0) (.slice none 0 0) ∧
        Box4 (((((W1.setCell ⟨B, 0, none⟩ (.bool cb)).setCell ⟨w.heap.size + 1 + 1 + 1, 0, none⟩ (.bool cb)).setCell ⟨w.heap.size + 1 + 1 + 1, 1, none⟩ (.slice q1 X.length d1)).setCell ⟨w.heap.size + 1 + 1 + 1, 2, none⟩ (.slice q2 Y.length d2)).setCell ⟨w.heap.size + 1 + 1 + 1, 3, none⟩ (.slice q3 Z.length d3)) (w.heap.size + 1 + 1 + 1) (.bool cb) (.slice q1 X.length d1) (.slice q2 Y.length d2) (.slice q3 Z.length d3) ∧
        Own3 (((((W1.setCell ⟨B, 0, none⟩ (.bool cb)).setCell ⟨w.heap.size + 1 + 1 + 1, 0, none⟩ (.bool cb)).setCell ⟨w.heap.size + 1 + 1 + 1, 1, none⟩ (.slice q1 X.length d1)).setCell ⟨w.heap.size + 1 + 1 + 1, 2, none⟩ (.slice q2 Y.length d2)).setCell ⟨w.heap.size + 1 + 1 + 1, 3, none⟩ (.slice q3 Z.length d3)) w.heap.size (.slice q1 X.length d1) (.slice q2 Y.length d2) (.slice q3 Z.length d3) (mk3 X Y Z) ∧
        Chg No w (((((W1.setCell ⟨B, 0, none⟩ (.bool cb)).setCell ⟨w.heap.size + 1 + 1 + 1, 0, none⟩ (.bool cb)).setCell ⟨w.heap.size + 1 + 1 + 1, 1, none⟩ (.slice q1 X.length d1)).setCell ⟨w.heap.size + 1 + 1 + 1, 2, none⟩ (.slice q2 Y.length d2)).setCell ⟨w.heap.size + 1 + 1 + 1, 3, none⟩ (.slice q3 Z.length d3))) := by
      intro cb W1 cW
      have b1 := hb4.chg cW (fun h => h)
      have b2 := b1.set0 (.bool cb)
      have ca : Chg (fun k => k = B) W1 (W1.setCell ⟨B, 0, none⟩ (.bool cb)) := (Chg.refl (fun k => k = B) W1).setCell (p := ⟨B, 0, none⟩) (.inl rfl) _
      have b3 := ((br.chg cI (fun h => h)).chg cW (fun h => h)).chg ca hne'
      have cb' : Chg (fun k => k = w.heap.size + 1 + 1 + 1) (W1.setCell ⟨B, 0, none⟩ (.bool cb)) (((((W1.setCell ⟨B, 0, none⟩ (.bool cb)).setCell ⟨w.heap.size + 1 + 1 + 1, 0, none⟩ (.bool cb)).setCell ⟨w.heap.size + 1 + 1 + 1, 1, none⟩ (.slice q1 X.length d1)).setCell ⟨w.heap.size + 1 + 1 + 1, 2, none⟩ (.slice q2 Y.length d2)).setCell ⟨w.heap.size + 1 + 1 + 1, 3, none⟩ (.slice q3 Z.length d3)) :=
        ((((Chg.refl (fun k => k = w.heap.size + 1 + 1 + 1) _).setCell (p := ⟨w.heap.size + 1 + 1 + 1, 0, none⟩) (.inl rfl) _).setCell (p := ⟨w.heap.size + 1 + 1 + 1, 1, none⟩) (.inl rfl) _).setCell (p := ⟨w.heap.size + 1 + 1 + 1, 2, none⟩) (.inl rfl) _).setCell (p := ⟨w.heap.size + 1 + 1 + 1, 3, none⟩) (.inl rfl) _
      have o4 := ((o3.chg cW (fun _ _ h => h)).chg ca (fun k hk e => by
        subst e
        rcases hk with h | h | h
        · exact N1 h
        · exact N2 h
        · exact N3 h)).chg cb' (fun k hk e => by
        have := (o3.lt k hk).1
        omega)
      refine ⟨b1, b2, b3, b3.set _ _ _ _, o4.less cW0.size, ?_⟩
      refine ((Chg.seq (Chg.seq cW0 cI) cW).trans ca (fun k hk => .inr ?_)).trans cb' (fun k hk => .inr ?_)
      · have := cW0.size; omega
      · omega
    clear R1 R2 R3 D1 D2 D3 N1 N2 N3 o3 sl1 sl2 sl3 hc1 hc2 hc3 e0 e1 e2 e3 f1 f2 f3 f4 f5 f6 bx br
    have A1 := fun W1 (c1 : Chg No W W1) => alike_in _ _ Y Z W1 (s2'.no c1) (s3'.no c1) hl2 hl3
    have A2 := fun W1 (c1 : Chg No W W1) => alike_in _ _ Y X W1 (s2'.no c1) (s1'.no c1) hl2 hl1
    have A3 := fun W1 (c1 : Chg No W W1) => alike_in _ _ Z X W1 (s3'.no c1) (s1'.no c1) hl3 hl1
    rw [hz1] at A1
    rw [hz2] at A2
    rw [hz3] at A3
    clear s1' s2' s3' hz1 hz2 hz3
    generalize X.length = lX at *
    generalize Y.length = lY at *
    generalize Z.length = lZ at *
    generalize w.heap.size + 1 + 1 + 1 = R at *
    gi_wp2_with fail
    refine ⟨trivial, rfl, (A1 W (Chg.refl _ _)).mono ?_⟩
    rintro e W1 ⟨rfl, k1⟩
    cases z1 with
    | true =>
      obtain ⟨b1, b2, b3, b4, o4, cc⟩ := (tail false W1 k1).out
      obtain ⟨i0, i1, i2, i3⟩ := b1.cells
      have i4 := b1.frozen 0
      obtain ⟨m0, m1, m2, m3⟩ := b2.cells
      obtain ⟨n0, n1, n2, n3⟩ := b3.cells
      have n4 := b3.frozen 0
      have n5 := b3.frozen 1
      have n6 := b3.frozen 2
      have n7 := b3.frozen 3
      obtain ⟨r0, r1, r2, r3⟩ := b4.cells
      clear tail A1 A2 A3 b1 b2 b3 b4
      gi_wp2_with fail
      refine ⟨trivial, ?_⟩
      rename_i hKK
      apply hKK
      gi_wp2_with fail
      refine ⟨trivial, ?_⟩
      rename_i hKK
      apply hKK
      gi_wp2
      refine bodyPost_ret (v := .agg #[.bool false, .slice q1 lX d1, .slice q2 lY d2, .slice q3 lZ d3]) ?_ rfl ⟨_, _, _, rfl, o4, cc⟩
      rw [results_cell1 rfl]
      go_simp
    | false =>
      obtain ⟨i0, i1, i2, i3⟩ := (tail false W1 k1).out.1.cells
      gi_wp2_with fail
      refine ⟨trivial, rfl, (A2 W1 k1).mono ?_⟩
      rintro e W2 ⟨rfl, k2⟩
      have k02 := Chg.seq k1 k2
      clear i0 i1 i2 i3
      cases z2 with
      | true =>
        obtain ⟨b1, b2, b3, b4, o4, cc⟩ := (tail false W2 k02).out
        obtain ⟨i0, i1, i2, i3⟩ := b1.cells
        have i4 := b1.frozen 0
        obtain ⟨m0, m1, m2, m3⟩ := b2.cells
        obtain ⟨n0, n1, n2, n3⟩ := b3.cells
        have n4 := b3.frozen 0
        have n5 := b3.frozen 1
        have n6 := b3.frozen 2
        have n7 := b3.frozen 3
        obtain ⟨r0, r1, r2, r3⟩ := b4.cells
        clear tail A1 A2 A3 b1 b2 b3 b4
        gi_wp2_with fail
        refine ⟨trivial, ?_⟩
        rename_i hKK
        apply hKK
        gi_wp2
        refine bodyPost_ret (v := .agg #[.bool false, .slice q1 lX d1, .slice q2 lY d2, .slice q3 lZ d3]) ?_ rfl ⟨_, _, _, rfl, o4, cc⟩
        rw [results_cell1 rfl]
        go_simp
      | false =>
        obtain ⟨i0, i1, i2, i3⟩ := (tail false W2 k02).out.1.cells
        gi_wp2_with fail
        refine ⟨trivial, rfl, (A3 W2 k02).mono ?_⟩
        rintro e W3 ⟨rfl, k3⟩
        have k03 := Chg.seq k02 k3
        clear i0 i1 i2 i3
        cases z3 with
        | true =>
          obtain ⟨b1, b2, b3, b4, o4, cc⟩ := (tail false W3 k03).out
          obtain ⟨i0, i1, i2, i3⟩ := b1.cells
          have i4 := b1.frozen 0
          obtain ⟨m0, m1, m2, m3⟩ := b2.cells
          obtain ⟨n0, n1, n2, n3⟩ := b3.cells
          have n4 := b3.frozen 0
          have n5 := b3.frozen 1
          have n6 := b3.frozen 2
          have n7 := b3.frozen 3
          obtain ⟨r0, r1, r2, r3⟩ := b4.cells
          clear tail A1 A2 A3 b1 b2 b3 b4
          gi_wp2
          refine bodyPost_ret (v := .agg #[.bool false, .slice q1 lX d1, .slice q2 lY d2, .slice q3 lZ d3]) ?_ rfl ⟨_, _, _, rfl, o4, cc⟩
          rw [results_cell1 rfl]
          go_simp
        | false =>
          obtain ⟨b1, b2, b3, b4, o4, cc⟩ := (tail true W3 k03).out
          obtain ⟨i0, i1, i2, i3⟩ := b1.cells
          have i4 := b1.frozen 0
          obtain ⟨m0, m1, m2, m3⟩ := b2.cells
          obtain ⟨n0, n1, n2, n3⟩ := b3.cells
          have n4 := b3.frozen 0
          have n5 := b3.frozen 1
          have n6 := b3.frozen 2
          have n7 := b3.frozen 3
          obtain ⟨r0, r1, r2, r3⟩ := b4.cells
          clear tail A1 A2 A3 b1 b2 b3 b4
          gi_wp2
          refine bodyPost_ret (v := .agg #[.bool true, .slice q1 lX d1, .slice q2 lY d2, .slice q3 lZ d3]) ?_ rfl ⟨_, _, _, rfl, o4, cc⟩
          rw [results_cell1 rfl]
          go_simp

set_option maxRecDepth 100000 in
set_option maxHeartbeats 2000000 in
theorem choice_in (c0 : Bool) (vo va vb : Value) (p : Prt ByteArray) (w : World) (hv : SlV w vo (p.o.map Value.string)) (hu : SlV w va (p.a.map Value.string)) (ht : SlV w vb (p.b.map Value.string)) (ho : p.o.length ≤ 400) (ha : p.a.length ≤ 400) (hb : p.b.length ≤ 400) :
    CallsIn Fence.wide 0 Tryz.prog 82 #[.agg #[.bool c0, vo, va, vb]] w fun e w' => e = .returned (if p.a = p.b ∨ p.b = p.o then va else vb) ∧ Chg No w w' := by
  have A1 := fun W1 (c1 : Chg No w W1) => alike_in _ _ p.a p.b W1 (hu.no c1) (ht.no c1) ha hb
  have A2 := fun W1 (c1 : Chg No w W1) => alike_in _ _ p.b p.o W1 (ht.no c1) (hv.no c1) hb ho
  obtain ⟨po, co, rfl, _⟩ := id hv
  obtain ⟨pa, ca, rfl, _⟩ := id hu
  obtain ⟨pb, cb, rfl, _⟩ := id ht
  clear hv hu ht
  generalize (p.o.map Value.string).length = lo at *
  generalize (p.a.map Value.string).length = la at *
  generalize (p.b.map Value.string).length = lb at *
  obtain ⟨vr, HR⟩ : ∃ vr, Hid ((if p.a = p.b ∨ p.b = p.o then (.slice pa la ca : Value) else .slice pb lb cb) = vr) := ⟨_, rfl⟩
  rw [HR.out]
  refine callsIn_of_wp Tryz.func82 rfl trivial ?_
  simp only [Tryz.ntmps82, List.size_toArray, List.length_cons, List.length_nil, Nat.reduceAdd, Nat.reduceSub, Array.replicate_succ, Array.replicate_zero, List.push_toArray, List.append_toArray, List.nil_append, List.cons_append]
  have hbx : Box4 (w.alloc (.cells #[.bool c0, .slice po lo co, .slice pa la ca, .slice pb lb cb] 101)) w.heap.size (.bool c0) (.slice po lo co) (.slice pa la ca) (.slice pb lb cb) := World.alloc_heap_new w _
  have c0' : Chg No w (w.alloc (.cells #[.bool c0, .slice po lo co, .slice pa la ca, .slice pb lb cb] 101)) := (Chg.refl _ w).alloc _
  obtain ⟨j0, j1, j2, j3⟩ := hbx.cells
  gi_wp2_with fail
  generalize w.alloc (.cells #[.bool c0, .slice po lo co, .slice pa la ca, .slice pb lb cb] 101) = W0 at *
  refine ⟨trivial, rfl, (A1 W0 c0').mono ?_⟩
  rintro e W1 ⟨rfl, k1⟩
  have b1 := hbx.chg k1 (fun h => h)
  obtain ⟨i0, i1, i2, i3⟩ := b1.cells
  have c01 := Chg.seq c0' k1
  by_cases h1 : p.a = p.b
  · obtain rfl : vr = .slice pa la ca := by rw [← HR.out, if_pos (.inl h1)]
    rw [decide_eq_true h1]
    clear h1 A1 A2 HR
    gi_wp2_with fail
    refine ⟨trivial, ?_⟩
    rename_i hKK
    apply hKK
    gi_wp2
    go_ret
    exact ⟨rfl, c01⟩
  · rw [decide_eq_false h1]
    have hA2 := A2 W1 c01
    by_cases h2 : p.b = p.o
    · obtain rfl : vr = .slice pa la ca := by rw [← HR.out, if_pos (.inr h2)]
      rw [decide_eq_true h2] at hA2
      clear h1 h2 A1 A2 HR
      gi_wp2_with fail
      refine ⟨trivial, rfl, hA2.mono ?_⟩
      rintro e W2 ⟨rfl, k2⟩
      obtain ⟨m0, m1, m2, m3⟩ := (b1.chg k2 (fun h => h)).cells
      gi_wp2
      go_ret
      exact ⟨rfl, Chg.seq c01 k2⟩
    · obtain rfl : vr = .slice pb lb cb := by rw [← HR.out, if_neg (by rintro (h | h); exact h1 h; exact h2 h)]
      rw [decide_eq_false h2] at hA2
      clear h1 h2 A1 A2 HR
      gi_wp2_with fail
      refine ⟨trivial, rfl, hA2.mono ?_⟩
      rintro e W2 ⟨rfl, k2⟩
      obtain ⟨m0, m1, m2, m3⟩ := (b1.chg k2 (fun h => h)).cells
      gi_wp2
      go_ret
      exact ⟨rfl, Chg.seq c01 k2⟩

end Go.Proofs.YtndblaemladppabGreatDoor

end
section
-- TParts
namespace Go.Proofs.YtndblaemladppabGreatDoor
open Go.RowKit Go.Shelf Go.SeqLib Go.DiffLib Go.BigFrame
attribute [local go_sem] Oper.semAt_some

/-- A part's row of values: whether it is a conflict, its three lists. -/
abbrev PRow := Bool × Value × Value × Value
def eR (r : PRow) : List Value := [.bool r.1, r.2.1, r.2.2.1, r.2.2.2]
theorem eR_len (r : PRow) : (eR r).length = 4 := rfl
def blkR (r : PRow) : Blk := fun k => r.2.1.ownBlock = some k ∨ r.2.2.1.ownBlock = some k ∨ r.2.2.2.ownBlock = some k

/-- Parts as they lie in memory, each list in a block of its own. -/
structure PartsAt (W : World) (base : Nat) (v : Value) (rs : List PRow) (ps : List (Prt ByteArray)) : Prop where
  row : W.ownsRow base 101 4 v rs.length (rs.flatMap eR)
  len : rs.length = ps.length
  own : ∀ (i : Nat) (r : PRow) (p : Prt ByteArray), rs[i]? = some r → ps[i]? = some p → r.1 = p.c ∧ Own3 W base r.2.1 r.2.2.1 r.2.2.2 p
  apart : ∀ (i j : Nat) (r r' : PRow), rs[i]? = some r → rs[j]? = some r' → i ≠ j → ∀ k, blkR r k → ¬ blkR r' k
  out : ∀ (i : Nat) (r : PRow) (k : Nat), rs[i]? = some r → blkR r k → ¬ v.ownBlock = some k

section
variable {W W' : World} {base : Nat} {v : Value} {rs : List PRow} {ps : List (Prt ByteArray)}
theorem PartsAt.nil (W : World) (base : Nat) : PartsAt W base (.slice none 0 0) [] [] := {
  row := World.ownsRow_nil _ _ _ _
  len := rfl
  own := fun i r p h => by simp at h
  apart := fun i j r r' h => by simp at h
  out := fun i r k h => by simp at h }
theorem PartsAt.at (h : PartsAt W base v rs ps) {i : Nat} {r : PRow} (hr : rs[i]? = some r) : ∃ p, ps[i]? = some p ∧ r.1 = p.c ∧ Own3 W base r.2.1 r.2.2.1 r.2.2.2 p := by
  have hi : i < ps.length := by rw [← h.len]; exact (List.getElem?_eq_some_iff.1 hr).1
  exact ⟨ps[i], List.getElem?_eq_getElem hi, h.own i r _ hr (List.getElem?_eq_getElem hi)⟩
theorem PartsAt.lt (h : PartsAt W base v rs ps) {i : Nat} {r : PRow} (hr : rs[i]? = some r) {k : Nat} (hk : blkR r k) : base ≤ k ∧ k < W.heap.size := by
  obtain ⟨p, _, _, o3⟩ := h.at hr
  exact o3.lt k hk
theorem PartsAt.chg (h : PartsAt W base v rs ps) {S : Blk} (c : Chg S W W') (hS : ∀ k, base ≤ k → ¬ S k) : PartsAt W' base v rs ps := {
  row := own_still h.row c (fun k hk => hS k (h.row.lt k hk).1)
  len := h.len
  own := fun i r p hr hp => by
    obtain ⟨h1, o3⟩ := h.own i r p hr hp
    exact ⟨h1, o3.chg c (fun k hk => hS k (o3.lt k hk).1)⟩
  apart := h.apart
  out := h.out }
theorem PartsAt.no (h : PartsAt W base v rs ps) (c : Chg No W W') : PartsAt W' base v rs ps := h.chg c (fun _ _ h => h)
theorem PartsAt.less (h : PartsAt W base v rs ps) {base' : Nat} (hb : base' ≤ base) : PartsAt W base' v rs ps := {
  row := rowBase h.row hb
  len := h.len
  own := fun i r p hr hp => by
    obtain ⟨h1, o3⟩ := h.own i r p hr hp
    exact ⟨h1, o3.less hb⟩
  apart := h.apart
  out := h.out }
/-- One more. -/
theorem PartsAt.push {W1 W2 : World} {v2 x y z : Value} {p : Prt ByteArray} {c : Bool} (h : PartsAt W base v rs ps) (k1 : Chg No W W1) (o3 : Own3 W1 W.heap.size x y z p)
    (hown : W2.ownsRow base 101 4 v2 (rs.length + 1) (rs.flatMap eR ++ aggCells (.agg #[.bool c, x, y, z]))) (k2 : Chg (fun k => v.ownBlock = some k) W1 W2) (hmv : Moved v v2 W1) (hc : c = p.c) (hbase : base ≤ W.heap.size) :
    PartsAt W2 base v2 (rs ++ [(c, x, y, z)]) (ps ++ [p]) := by
  have hnew : ∀ k, blkR (c, x, y, z) k → W.heap.size ≤ k ∧ k < W1.heap.size := fun k hk => o3.lt k hk
  have hvlt : ∀ k, v.ownBlock = some k → k < W.heap.size := fun k hk => (h.row.lt k hk).2
  have old : ∀ i r, (rs ++ [(c, x, y, z)])[i]? = some r → i < rs.length → rs[i]? = some r := fun i r hr hi => by rwa [List.getElem?_append_left hi] at hr
  have last : ∀ i r, (rs ++ [(c, x, y, z)])[i]? = some r → ¬ i < rs.length → i = rs.length ∧ r = (c, x, y, z) := fun i r hr hi => by
    rw [List.getElem?_append_right (by omega)] at hr
    have : i - rs.length = 0 := by
      have := (List.getElem?_eq_some_iff.1 hr).1
      simpa using this
    rw [this] at hr
    simp at hr
    exact ⟨by omega, hr.symm⟩
  refine {
    row := by
      rw [List.length_append, List.length_singleton, List.flatMap_append]
      exact hown
    len := by simp [h.len]
    own := fun i r q hr hq => ?_
    apart := fun i j r r' hr hr' hne k hk hk' => ?_
    out := fun i r k hr hk hv => ?_ }
  · by_cases hi : i < rs.length
    · have hr := old i r hr hi
      rw [List.getElem?_append_left (by rw [← h.len]; exact hi)] at hq
      obtain ⟨h1, o4⟩ := h.own i r q hr hq
      exact ⟨h1, (o4.chg k1 (fun _ _ h => h)).chg k2 (fun k hk => h.out i r k hr hk)⟩
    · obtain ⟨rfl, rfl⟩ := last i r hr hi
      rw [List.getElem?_append_right (by rw [h.len]; exact Nat.le_refl _), h.len, Nat.sub_self] at hq
      simp at hq
      subst hq
      exact ⟨hc, (o3.chg k2 (fun k hk hv => by have := (hnew k hk).1; have := hvlt k hv; omega)).less hbase⟩
  · by_cases hi : i < rs.length
    · have hr := old i r hr hi
      by_cases hj : j < rs.length
      · exact h.apart i j r r' hr (old j r' hr' hj) hne k hk hk'
      · obtain ⟨rfl, rfl⟩ := last j r' hr' hj
        have := (h.lt hr hk).2
        have := (hnew k hk').1
        omega
    · obtain ⟨rfl, rfl⟩ := last i r hr hi
      by_cases hj : j < rs.length
      · have := (h.lt (old j r' hr' hj) hk').2
        have := (hnew k hk).1
        omega
      · obtain ⟨rfl, rfl⟩ := last j r' hr' hj
        exact hne rfl
  · have hklt : k < W1.heap.size := by
      by_cases hi : i < rs.length
      · have := (h.lt (old i r hr hi) hk).2
        have := k1.size
        omega
      · obtain ⟨rfl, rfl⟩ := last i r hr hi
        exact (hnew k hk).2
    rcases hmv with hm | ⟨g, hm, hg⟩
    · rw [hm] at hv
      by_cases hi : i < rs.length
      · exact h.out i r k (old i r hr hi) hk hv
      · obtain ⟨rfl, rfl⟩ := last i r hr hi
        have := (hnew k hk).1
        have := hvlt k hv
        omega
    · rw [hm] at hv
      cases hv
      omega
end

theorem part_cells {o a b : List ByteArray} {s t : Pl} {base : Nat} : ∀ (v0 : Value) (W : World), (∃ x y z, v0 = .agg #[.bool (prt o a b s t).c, x, y, z] ∧ Own3 W base x y z (prt o a b s t)) → (aggCells v0).length = 4 ∧ ∀ u ∈ aggCells v0, u.oneCell' = true := by
  rintro v0 W ⟨x, y, z, rfl, o3⟩
  refine ⟨rfl, ?_⟩
  obtain ⟨_, _, rfl⟩ := row_slice o3.o
  obtain ⟨_, _, rfl⟩ := row_slice o3.a
  obtain ⟨_, _, rfl⟩ := row_slice o3.b
  intro u hu
  simp [aggCells] at hu
  rcases hu with rfl | rfl | rfl | rfl <;> rfl

/-- A place in its box. -/
def TBox (W : World) (B : Nat) (p : Pl) : Prop := W.heap[B]? = some (.cells #[.int .i64 (p.1 : Int), .int .i64 (p.2.1 : Int), .int .i64 (p.2.2 : Int)] 119)
section
variable {W W' : World} {B : Nat} {p : Pl}
theorem TBox.lt (h : TBox W B p) : B < W.heap.size := (Array.getElem?_eq_some_iff.1 h).1
theorem TBox.cells (h : TBox W B p) : W.cell? ⟨B, 0, none⟩ = some (.int .i64 (p.1 : Int)) ∧ W.cell? ⟨B, 1, none⟩ = some (.int .i64 (p.2.1 : Int)) ∧ W.cell? ⟨B, 2, none⟩ = some (.int .i64 (p.2.2 : Int)) := by
  unfold TBox at h
  simp [World.cell?, h]
theorem TBox.frozen (h : TBox W B p) (j : Nat) : W.frozen? ⟨B, j, none⟩ = false := by
  unfold TBox at h
  simp [World.frozen?, h]
theorem TBox.chg (h : TBox W B p) {S : Blk} (k : Chg S W W') (hS : ¬ S B) : TBox W' B p := k.same h hS
theorem TBox.set (h : TBox W B p) (q : Pl) : TBox (((W.setCell ⟨B, 0, none⟩ (.int .i64 (q.1 : Int))).setCell ⟨B, 1, none⟩ (.int .i64 (q.2.1 : Int))).setCell ⟨B, 2, none⟩ (.int .i64 (q.2.2 : Int))) B q :=
  set_cells (set_cells (set_cells h 0 _) 1 _) 2 _
end

set_option maxRecDepth 100000 in
set_option maxHeartbeats 8000000 in
theorem parts_in (vo va vb : Value) (o a b : List ByteArray) (w : World) (hv : SlV w vo (o.map Value.string)) (hu : SlV w va (a.map Value.string)) (ht : SlV w vb (b.map Value.string)) (ho : o.length ≤ 400) (ha : a.length ≤ 400) (hb : b.length ≤ 400) :
    CallsIn Fence.wide 0 Tryz.prog 81 #[vo, va, vb] w fun e w' => ∃ v', e = .returned v' ∧ (∃ rs, PartsAt w' w.heap.size v' rs (parts o a b)) ∧ Chg No w w' := by
  have hmix : Tryz.prog.follows .mixedOrders = true := by kernel_rfl
  have hgd := guard_place
  obtain ⟨i0, hi, hz0, hz1, hz2⟩ := info_parts info101
  obtain ⟨p, cp, rfl, _⟩ := id hv
  obtain ⟨q, cq, rfl, _⟩ := id hu
  obtain ⟨r, cr, rfl, _⟩ := id ht
  rw [List.length_map] at hv hu ht
  rw [List.length_map, List.length_map, List.length_map]
  have hinc := std_inc o a b
  have hsl := std_length o a b
  have hpl := parts_length o a b
  unfold parts at hpl ⊢
  have hst : ∀ W, Chg No w W → _ := fun W c => standing_in _ _ _ o a b W (hv.no c) (hu.no c) (ht.no c) ho ha hb
  obtain ⟨lo, HLo⟩ : ∃ n, Hid (o.length = n) := ⟨_, rfl⟩
  obtain ⟨la, HLa⟩ : ∃ n, Hid (a.length = n) := ⟨_, rfl⟩
  obtain ⟨lb, HLb⟩ : ∃ n, Hid (b.length = n) := ⟨_, rfl⟩
  rw [HLo.out] at hv hinc hsl hpl ho hst ⊢
  rw [HLa.out] at hu hinc ha hst ⊢
  rw [HLb.out] at ht hinc hb hst ⊢
  generalize std o a b = S0 at *
  obtain ⟨tot, HTot⟩ : ∃ t, Hid (pt o a b (lo + 1) S0 (0, 0, 0) = t) := ⟨_, rfl⟩
  rw [HTot.out] at hpl ⊢
  have HB : Hid (tot.length ≤ 801) := by show _ ≤ _; omega
  clear hpl
  have hl := tooLong3_in p q r lo la lb cp cq cr ho ha hb w
  refine callsIn_of_wp Tryz.func81 rfl trivial ?_
  simp only [Tryz.ntmps81, List.size_toArray, List.length_cons, List.length_nil, Nat.reduceAdd, Nat.reduceSub, Array.replicate_succ, Array.replicate_zero, List.push_toArray, List.append_toArray, List.nil_append, List.cons_append]
  gi_wp2_with fail
  refine ⟨trivial, rfl, hl.mono ?_⟩
  rintro e w1 ⟨rfl, rfl⟩
  clear hl
  have c2 : Chg No w1 ((w1.alloc (.cells #[.bool false, .slice p lo cp, .slice q la cq, .slice r lb cr] 101)).alloc (.cells #[.int .i64 0, .int .i64 0, .int .i64 0] 119)) := ((Chg.refl _ w1).alloc _).alloc _
  have bx2 : Box4 ((w1.alloc (.cells #[.bool false, .slice p lo cp, .slice q la cq, .slice r lb cr] 101)).alloc (.cells #[.int .i64 0, .int .i64 0, .int .i64 0] 119)) w1.heap.size (.bool false) (.slice p lo cp) (.slice q la cq) (.slice r lb cr) := by
    have h : Box4 (w1.alloc (.cells #[.bool false, .slice p lo cp, .slice q la cq, .slice r lb cr] 101)) w1.heap.size (.bool false) (.slice p lo cp) (.slice q la cq) (.slice r lb cr) := World.alloc_heap_new w1 _
    exact h.chg ((Chg.refl No _).alloc _) (fun h => h)
  have tb2 : TBox ((w1.alloc (.cells #[.bool false, .slice p lo cp, .slice q la cq, .slice r lb cr] 101)).alloc (.cells #[.int .i64 0, .int .i64 0, .int .i64 0] 119)) (w1.heap.size + 1) (0, 0, 0) := by
    have := World.alloc_heap_new (w1.alloc (.cells #[.bool false, .slice p lo cp, .slice q la cq, .slice r lb cr] 101)) (.cells #[.int .i64 0, .int .i64 0, .int .i64 0] 119)
    unfold TBox
    simpa using this
  gi_wp2_with fail
  generalize ((w1.alloc (.cells #[.bool false, .slice p lo cp, .slice q la cq, .slice r lb cr] 101)).alloc (.cells #[.int .i64 0, .int .i64 0, .int .i64 0] 119)) = W2 at *
  have hA0lt := bx2.lt
  have hTlt := tb2.lt
  obtain ⟨A0, hA0⟩ : ∃ n, w1.heap.size = n := ⟨_, rfl⟩
  obtain ⟨T, hTe⟩ : ∃ n, w1.heap.size + 1 = n := ⟨_, rfl⟩
  have hA0T : ¬ A0 = T := by omega
  have hAw : w1.heap.size ≤ A0 := by omega
  have hTw : w1.heap.size ≤ T := by omega
  rw [hA0] at bx2 hA0lt ⊢
  rw [hTe] at tb2 hTlt
  rw [show A0 + 1 = T by omega]
  clear hA0 hTe
  refine ⟨trivial, rfl, (hst W2 c2).mono ?_⟩
  rintro e wS ⟨vS, rfl, rS, cS⟩
  have sS0 : SlPl wS vS S0 := SlE.ofRow eT_len rS
  have hS0b : ∀ k, vS.ownBlock = some k → W2.heap.size ≤ k ∧ k < wS.heap.size := fun k hk => rS.lt k hk
  obtain ⟨pS, cpS, rfl⟩ := row_slice rS
  have bxS := bx2.chg cS (fun h => h)
  have tbS := tb2.chg cS (fun h => h)
  have c1S := Chg.seq c2 cS
  have hT := tbS.lt
  have hA := bxS.lt
  have hvS := hv.no c1S
  have huS := hu.no c1S
  have htS := ht.no c1S
  have HSv : Hid (∀ W, Chg (fun k => k = T) wS W → SlV W (.slice p lo cp) (o.map Value.string) ∧ SlV W (.slice q la cq) (a.map Value.string) ∧ SlV W (.slice r lb cr) (b.map Value.string)) := fun W c =>
    ⟨hvS.chg c (fun k hk e => by have := hv.lt k hk; omega), huS.chg c (fun k hk e => by have := hu.lt k hk; omega), htS.chg c (fun k hk e => by have := ht.lt k hk; omega)⟩
  clear hst hv hu ht hvS huS htS rS bx2 tb2 hA0lt
  obtain ⟨nS, HNS⟩ : ∃ n, Hid (S0.length = n) := ⟨_, rfl⟩
  rw [HNS.out] at sS0 hS0b hsl ⊢
  gi_wp2
  gi_loopw [8, 10] (fun v8 v10 wr => ∃ (acc : List (Prt ByteArray)) (rs : List PRow) (S : List Pl) (at_ : Pl) (f ns : Nat) (ps : Option Addr) (cs : Nat), v10 = .slice ps ns cs ∧ Hid (S.length = ns) ∧ ns ≤ 400 ∧ SlPl wr (.slice ps ns cs) S ∧ Hid (∀ k, k = T → ¬ Value.ownBlock (.slice ps ns cs) = some k) ∧ Hid (∀ k, Value.ownBlock (.slice ps ns cs) = some k → k < wS.heap.size) ∧
      Hid (Inc3 (lo, la, lb) at_ S) ∧ Hid (S.length < f) ∧ Hid (acc ++ pt o a b f S at_ = tot) ∧ PartsAt wr wS.heap.size v8 rs acc ∧ TBox wr T at_ ∧ Box4 wr A0 (.bool false) (.slice p lo cp) (.slice q la cq) (.slice r lb cr) ∧ Chg (fun k => k = T) wS wr) (fun v8 v10 _ => match v10 with | .slice _ n _ => n | _ => 0)
  case atStart => exact ⟨[], [], S0, (0, 0, 0), lo + 1, nS, pS, cpS, rfl, HNS, by omega, sS0, fun k e h => by have := (hS0b k h).1; omega, fun k h => (hS0b k h).2, hinc, by show _ < _; rw [HNS.out]; omega, HTot, PartsAt.nil _ _, tbS, bxS, Chg.refl _ _⟩
  case round =>
    obtain ⟨acc, rs, S, at_, f, ns, ps, cs, rfl, HSL, hns, sS, HSb, HSo, HIn, HF, HA, PA, tb, bx, cW⟩ := hrel
    cases hSc : S with
    | cons s rr =>
      have HSc : Hid (s :: S.tail = S) := by show _ = _; rw [hSc]; rfl
      have HS0 : Hid (S[0]? = some s) := by show _ = _; rw [hSc]; rfl
      have hpos : 0 < ns := by rw [← HSL.out, hSc]; simp
      have hI := HIn.out
      rw [hSc] at hI
      obtain ⟨b1, b2, b3, b4, b5, b6, _⟩ := hI
      simp only at b4 b5 b6
      have hns' : (0 : Int) < (ns : Int) := by omega
      obtain ⟨f', rfl⟩ : ∃ f', f = f' + 1 := ⟨f - 1, by have := HF.out; omega⟩
      rename_i hSc'
      have HA0 : Hid (acc ++ ((if s = at_ then [] else [prt o a b at_ s]) ++ prt o a b s (on s (rn3 S s)) :: pt o a b f' (S.drop (rn3 S s)) (on s (rn3 S s))) = tot) := by
        have := HA.out
        rw [hSc, pt_cons, ← hSc] at this
        exact this
      have HIn' : Hid (Inc3 (lo, la, lb) at_ (s :: S.tail)) := by rw [HSc.out]; exact HIn.out
      by_cases hne : s = at_
      · have HA1 : Hid (acc ++ prt o a b s (on s (rn3 S s)) :: pt o a b f' (S.drop (rn3 S s)) (on s (rn3 S s)) = tot) := by
          have := HA0.out
          rw [if_pos hne, List.nil_append] at this
          exact this
        obtain ⟨bs0, os0, rfl, y1, y2, y3⟩ := SlPl.at sS 0 s HS0.out
        simp only [Nat.zero_mul, Nat.add_zero] at y1 y2 y3
        obtain ⟨t0, t1, t2⟩ := tb.cells
        have hneq : ∀ w, (binOp .neq 119 (vT s) (vT at_)).run Tryz.prog w = .ok (.bool false) w := fun w => by rw [run_neq_place, decide_eq_true hne]; rfl
        clear hne HA HA0
        gi_wp2
        refine wpIn_region_quiet_lit rfl hmix (by kernel_rfl) ?_
        repeat (gi_big_quiet_step (fail))
        refine wpQuietIn_nil ?_
        rintro w' ⟨j1, rfl⟩
        have cd : Chg No wr (wr.drewN j1) := drewNC (Chg.refl _ wr) j1
        have PA' := PA.no cd
        have tb' : TBox (wr.drewN j1) T at_ := tb
        have bx' : Box4 (wr.drewN j1) A0 _ _ _ _ := bx
        have sS' : SlPl (wr.drewN j1) _ S := SlE.no eT_len (by decide) sS cd
        have cW' := drewNC cW j1
        clear y1 y2 y3 t0 t1 t2 PA tb bx sS cW cd
        generalize wr.drewN j1 = W at *
        obtain ⟨acc1, hacc1⟩ : ∃ x, x = acc := ⟨_, rfl⟩
        obtain ⟨rs1, hrs1⟩ : ∃ x, x = rs := ⟨_, rfl⟩
        rw [← hacc1] at PA' HA1
        rw [← hrs1] at PA'
        clear hacc1 hrs1
        rename_i f _
        have HF : Hid (S.length < f' + 1) := HF
        obtain ⟨f, hf⟩ : ∃ x, x = f' := ⟨_, rfl⟩
        rw [← hf] at HA1 HF
        clear hf
        obtain ⟨ps, hps⟩ : ∃ x, x = some (⟨bs0, os0, none⟩ : Addr) := ⟨_, rfl⟩
        rw [← hps] at sS' HSb HSo ⊢
        clear hps
        have HA := HA1
        have PA := PA'
        have tb := tb'
        have bx := bx'
        have sS := sS'
        have cW := cW'
        clear HA1 PA' tb' bx' sS' cW'
        obtain ⟨n, hrn⟩ : ∃ n, rn3 S s = n := ⟨_, rfl⟩
        have hrun := run3_in ps ns cs S s W (by exact sS) HSL.out HS0.out (by omega) (by omega)
        rw [hrn] at hrun
        have hn1 : n ≤ ns := by rw [← hrn, ← HSL.out]; exact rn3_le S s
        obtain ⟨ps', cs', sS', oS', hcut⟩ := SlE.low Tryz.underlying120 size_place sS HSL.out n hn1 .i64
        obtain ⟨bs, os, rfl, y1, y2, y3⟩ := SlPl.at sS 0 s HS0.out
        simp only [Nat.zero_mul, Nat.add_zero] at y1 y2 y3
        have hns' : (0 : Int) < (ns : Int) := by omega
        rw [hrn] at HA
        have HI2 : Hid (Inc3 (lo, la, lb) (on s n) (S.drop n)) := by
          rw [← hrn]
          have := HIn'.out.first.run
          rw [HSc.out] at this
          exact this
        have HI3 := HI2.out.le
        simp only [on] at HI3
        have HF2 : Hid ((S.drop n).length < f) := by
          show _ < _
          have h1 := drop_less s S.tail
          rw [HSc.out, hrn] at h1
          have h2 : S.length = S.tail.length + 1 := by rw [← HSc.out]; simp
          have := HF.out
          omega
        have HSL2 : Hid ((S.drop n).length = ns - n) := by rw [List.length_drop, HSL.out]; exact rfl
        have hnpos : 0 < n := by rw [← hrn, ← HSc.out, rn3_self]; omega
        clear hrn
        gi_wp2_with fail
        refine ⟨trivial, rfl, hrun.mono ?_⟩
        rintro e W4 ⟨rfl, k4⟩
        clear hrun
        have cW4 : Chg (fun k => k = T) wS W4 := cW.trans k4 (fun _ h => h.elim)
        have sS4 : SlPl W4 (.slice (some ⟨bs, os, none⟩) ns cs) S := SlE.no eT_len (by decide) sS k4
        have sS4' : SlPl W4 (.slice ps' (ns - n) cs') (S.drop n) := SlE.no eT_len (by decide) sS' k4
        have PA4 := PA.no k4
        have bx4 := bx.chg k4 (fun h => h)
        have tb4 := tb.chg k4 (fun h => h)
        obtain ⟨_, _, e0, y1, y2, y3⟩ := SlPl.at sS4 0 s HS0.out
        cases e0
        simp only [Nat.zero_mul, Nat.add_zero] at y1 y2 y3
        have hOn := on_in s n (by omega) (by omega) (by omega) (by omega) W4
        gi_wp2_with fail
        refine ⟨trivial, rfl, hOn.mono ?_⟩
        rintro e W5 ⟨rfl, k5⟩
        clear hOn
        have tb5 := tb4.chg k5 (fun h => h)
        obtain ⟨t0, t1, t2⟩ := tb5.cells
        have u0 := tb5.frozen 0
        have u1 := tb5.frozen 1
        have u2 := tb5.frozen 2
        have tb6 := tb5.set (on s n)
        have k6 : Chg (fun k => k = T) W5 (((W5.setCell ⟨T, 0, none⟩ (.int .i64 ((on s n).1 : Int))).setCell ⟨T, 1, none⟩ (.int .i64 ((on s n).2.1 : Int))).setCell ⟨T, 2, none⟩ (.int .i64 ((on s n).2.2 : Int))) :=
          (((Chg.refl (fun k => k = T) W5).setCell (p := ⟨T, 0, none⟩) (.inl rfl) _).setCell (p := ⟨T, 1, none⟩) (.inl rfl) _).setCell (p := ⟨T, 2, none⟩) (.inl rfl) _
        gi_wp2
        generalize (((W5.setCell ⟨T, 0, none⟩ (.int .i64 ((on s n).1 : Int))).setCell ⟨T, 1, none⟩ (.int .i64 ((on s n).2.1 : Int))).setCell ⟨T, 2, none⟩ (.int .i64 ((on s n).2.2 : Int))) = W6 at *
        have k46 : Chg (fun k => k = T) W4 W6 := (k5.mono (fun _ h => h.elim)).trans k6 (Grew.refl _ _)
        have cW6 : Chg (fun k => k = T) wS W6 := cW4.trans k46 (Grew.refl _ _)
        have sS6 : SlPl W6 (.slice (some ⟨bs, os, none⟩) ns cs) S := SlE.chg eT_len (by decide) sS4 k46 (fun k hk e => HSb.out k (by rw [e]) hk.2)
        have sS6' : SlPl W6 (.slice ps' (ns - n) cs') (S.drop n) := SlE.chg eT_len (by decide) sS4' k46 (fun k hk e => HSb.out k (by rw [e]) (oS' k hk.2))
        have PA6 := PA4.chg k46 (fun k hk e => by have := hT; omega)
        have bx6 := bx4.chg k46 hA0T
        obtain ⟨t0, t1, t2⟩ := tb6.cells
        obtain ⟨a0, a1, a2, a3⟩ := bx6.cells
        obtain ⟨_, _, e0, y1, y2, y3⟩ := SlPl.at sS6 0 s HS0.out
        cases e0
        simp only [Nat.zero_mul, Nat.add_zero] at y1 y2 y3
        obtain ⟨p8, c8, rfl⟩ := row_slice PA6.row
        have hbo : ∀ k, Value.ownBlock (.slice p8 rs1.length c8) = some k → wS.heap.size ≤ k := fun k hk => (PA6.row.lt k hk).1
        have hbs : bs < wS.heap.size := by
          have := HSo.out bs rfl
          exact this
        have hlacc : rs1.length + 1 ≤ 801 := by
          rw [PA6.len]
          have h9 := congrArg List.length HA.out
          have := HB.out
          simp only [List.length_append, List.length_cons] at h9
          omega
        have hany := AfterB.any (fun k => Value.ownBlock (.slice p8 rs1.length c8) = some k) W6
        have g1 : ∀ c : AfterB (fun k => Value.ownBlock (.slice p8 rs1.length c8) = some k) W6, c.val.cell? ⟨A0, 0, none⟩ = some (.bool false) := fun c => c.cell a0 (fun h => by have := hbo _ h; simp only at this; omega)
        have g2 : ∀ c : AfterB (fun k => Value.ownBlock (.slice p8 rs1.length c8) = some k) W6, c.val.cell? ⟨A0, 1, none⟩ = some (.slice p lo cp) := fun c => c.cell a1 (fun h => by have := hbo _ h; simp only at this; omega)
        have g3 : ∀ c : AfterB (fun k => Value.ownBlock (.slice p8 rs1.length c8) = some k) W6, c.val.cell? ⟨A0, 2, none⟩ = some (.slice q la cq) := fun c => c.cell a2 (fun h => by have := hbo _ h; simp only at this; omega)
        have g4 : ∀ c : AfterB (fun k => Value.ownBlock (.slice p8 rs1.length c8) = some k) W6, c.val.cell? ⟨A0, 3, none⟩ = some (.slice r lb cr) := fun c => c.cell a3 (fun h => by have := hbo _ h; simp only at this; omega)
        have g5 : ∀ c : AfterB (fun k => Value.ownBlock (.slice p8 rs1.length c8) = some k) W6, c.val.cell? ⟨T, 0, none⟩ = some (.int .i64 ((on s n).1 : Int)) := fun c => c.cell t0 (fun h => by have := hbo _ h; simp only at this; omega)
        have g6 : ∀ c : AfterB (fun k => Value.ownBlock (.slice p8 rs1.length c8) = some k) W6, c.val.cell? ⟨T, 1, none⟩ = some (.int .i64 ((on s n).2.1 : Int)) := fun c => c.cell t1 (fun h => by have := hbo _ h; simp only at this; omega)
        have g7 : ∀ c : AfterB (fun k => Value.ownBlock (.slice p8 rs1.length c8) = some k) W6, c.val.cell? ⟨T, 2, none⟩ = some (.int .i64 ((on s n).2.2 : Int)) := fun c => c.cell t2 (fun h => by have := hbo _ h; simp only at this; omega)
        have g8 : ∀ c : AfterB (fun k => Value.ownBlock (.slice p8 rs1.length c8) = some k) W6, c.val.cell? ⟨bs, os, none⟩ = some (.int .i64 (s.1 : Int)) := fun c => c.cell y1 (fun h => by have := hbo _ h; simp only at this; omega)
        have g9 : ∀ c : AfterB (fun k => Value.ownBlock (.slice p8 rs1.length c8) = some k) W6, c.val.cell? ⟨bs, os + 1, none⟩ = some (.int .i64 (s.2.1 : Int)) := fun c => c.cell y2 (fun h => by have := hbo _ h; simp only at this; omega)
        have g10 : ∀ c : AfterB (fun k => Value.ownBlock (.slice p8 rs1.length c8) = some k) W6, c.val.cell? ⟨bs, os + 2, none⟩ = some (.int .i64 (s.2.2 : Int)) := fun c => c.cell y3 (fun h => by have := hbo _ h; simp only at this; omega)
        have HCl : Hid (∀ W, Chg No W6 W → CallsIn Fence.wide 0 Tryz.prog 99 #[.agg #[.bool false, .slice p lo cp, .slice q la cq, .slice r lb cr], vT s, vT (on s n)] W fun ex W' => ∃ v0, ex = .returned v0 ∧ (∃ x y z, v0 = .agg #[.bool (prt o a b s (on s n)).c, x, y, z] ∧ Own3 W' W6.heap.size x y z (prt o a b s (on s n))) ∧ Chg No W W') := fun W cw => by
          have sv := HSv.out W (cW6.trans cw (fun _ h => h.elim))
          have hh := piece_in false _ _ _ o a b s (on s n) W sv.1 sv.2.1 sv.2.2 (by rw [HLo.out]; omega) (by rw [HLa.out]; omega) (by rw [HLb.out]; omega) (by simp only [on]; omega) (by simp only [on]; omega) (by simp only [on]; omega) (by rw [HLo.out]; exact HI3.1) (by rw [HLa.out]; exact HI3.2.1) (by rw [HLb.out]; exact HI3.2.2)
          refine hh.mono ?_
          rintro e W' ⟨x, y, z, rfl, o3, c3⟩
          exact ⟨_, rfl, ⟨x, y, z, rfl, o3.less cw.size⟩, c3⟩
        clear y1 y2 y3 t0 t1 t2 a0 a1 a2 a3
        refine region_pushc 6 7 8 _ _ _ hmix (by kernel_rfl) (by kernel_rfl) rfl rfl rfl (by kernel_rfl) (by kernel_rfl) rfl rfl _ _ 98 rfl wS.heap.size 101 i0 (.agg #[.bool false, .slice none 0 0, .slice none 0 0, .slice none 0 0]) 4 80 Tryz.underlying98 hi hz0 hz1 hz2 rfl (by decide) (.slice p8 rs1.length c8) rs1.length (rs1.flatMap eR) (fun v0 W' => ∃ x y z, v0 = .agg #[.bool (prt o a b s (on s n)).c, x, y, z] ∧ Own3 W' W6.heap.size x y z (prt o a b s (on s n))) PA6.row (by unfold maxLen; omega) (by omega) cW6.size 99 #[.agg #[.bool false, .slice p lo cp, .slice q la cq, .slice r lb cr], vT s, vT (on s n)] HCl.out part_cells ?_
        intro v0 v1 v2
        simp only [hushE, Nat.reduceAdd, Nat.reduceBEq, Bool.or_self, Bool.or_true, Bool.or_false, if_true, if_false, Bool.false_eq_true]
        repeat (gi_big_quiet_step (fail))
        refine wpQuietIn_nil ⟨fun W => ?_, ?_, ⟨rfl, rfl⟩, ?_⟩
        · simp [go_sem]
        · rintro W W' ⟨x, y, z, rfl, o3⟩
          obtain ⟨_, _, rfl⟩ := row_slice o3.o
          obtain ⟨_, _, rfl⟩ := row_slice o3.a
          obtain ⟨_, _, rfl⟩ := row_slice o3.b
          simp [execOp, go_sem, aggCells]
        · rintro W7 W8 k7 ⟨x, y, z, rfl, o3⟩ hown' k8 hmv
          have PA8 := PA6.push k7 o3 hown' k8 hmv rfl cW6.size
          have bx8 := (bx6.chg k7 (fun h => h)).chg k8 (fun h => by have := hbo _ h; omega)
          have tb8 := (tb6.chg k7 (fun h => h)).chg k8 (fun h => by have := hbo _ h; omega)
          have k68 : Chg (fun k => Value.ownBlock (.slice p8 rs1.length c8) = some k) W6 W8 := (k7.mono (fun _ h => h.elim)).trans k8 (Grew.refl _ _)
          have sS8' : SlPl W8 (.slice ps' (ns - n) cs') (S.drop n) := SlE.chg eT_len (by decide) sS6' k68 (fun k hk h => by have h1 := hbo _ h; have h2 := HSo.out k (oS' k hk.2); omega)
          have cW8 : Chg (fun k => k = T) wS W8 := cW6.trans k68 (fun k h => .inr (hbo k h))
          have HA8 : Hid ((acc1 ++ [prt o a b s (on s n)]) ++ pt o a b f (S.drop n) (on s n) = tot) := by rw [List.append_assoc]; exact HA.out
          have HSb8 : Hid (∀ k, k = T → ¬ Value.ownBlock (.slice ps' (ns - n) cs') = some k) := fun k e h => HSb.out k e (oS' k h)
          have HSo8 : Hid (∀ k, Value.ownBlock (.slice ps' (ns - n) cs') = some k → k < wS.heap.size) := fun k h => HSo.out k (oS' k h)
          have hnz : 0 < n := hnpos
          gi_wp2
          go_roundw
          case rel => exact ⟨acc1 ++ [prt o a b s (on s n)], rs1 ++ [((prt o a b s (on s n)).c, x, y, z)], S.drop n, on s n, f, ns - n, ps', cs', rfl, HSL2, by omega, sS8', HSb8, HSo8, HI2, HF2, HA8, by exact PA8, tb8, bx8, cW8⟩
          case measure => simp; omega
      · have HA1 : Hid ((acc ++ [prt o a b at_ s]) ++ prt o a b s (on s (rn3 S s)) :: pt o a b f' (S.drop (rn3 S s)) (on s (rn3 S s)) = tot) := by
          have := HA0.out
          rw [if_neg hne] at this
          rw [List.append_assoc]
          exact this
        obtain ⟨bs, os, rfl, y1, y2, y3⟩ := SlPl.at sS 0 s HS0.out
        simp only [Nat.zero_mul, Nat.add_zero] at y1 y2 y3
        obtain ⟨t0, t1, t2⟩ := tb.cells
        have hneq : ∀ w, (binOp .neq 119 (vT s) (vT at_)).run Tryz.prog w = .ok (.bool true) w := fun w => by rw [run_neq_place, decide_eq_false hne]; rfl
        clear hne HA HA0
        obtain ⟨p8, c8, rfl⟩ := row_slice PA.row
        gi_wp2
        refine wpIn_region_quiet_lit rfl hmix (by kernel_rfl) ?_
        repeat (gi_big_quiet_step (fail))
        refine wpQuietIn_nil ?_
        rintro w' ⟨j1, rfl⟩
        have cd : Chg No wr (wr.drewN j1) := drewNC (Chg.refl _ wr) j1
        have PA6 := PA.no cd
        have tb6 : TBox (wr.drewN j1) T at_ := tb
        have bx6 : Box4 (wr.drewN j1) A0 _ _ _ _ := bx
        have sS6 : SlPl (wr.drewN j1) _ S := SlE.no eT_len (by decide) sS cd
        have cW6 := drewNC cW j1
        gi_wp2
        clear y1 y2 y3 t0 t1 t2 PA tb bx sS cW cd hneq
        generalize wr.drewN j1 = W6 at *
        obtain ⟨t0, t1, t2⟩ := tb6.cells
        obtain ⟨a0, a1, a2, a3⟩ := bx6.cells
        obtain ⟨_, _, e0, y1, y2, y3⟩ := SlPl.at sS6 0 s HS0.out
        cases e0
        simp only [Nat.zero_mul, Nat.add_zero] at y1 y2 y3
        have hbo : ∀ k, Value.ownBlock (.slice p8 rs.length c8) = some k → wS.heap.size ≤ k := fun k hk => (PA6.row.lt k hk).1
        have hbs : bs < wS.heap.size := by
          have := HSo.out bs rfl
          exact this
        have hlacc : rs.length + 1 ≤ 801 := by
          rw [PA6.len]
          have h9 := congrArg List.length HA1.out
          have := HB.out
          simp only [List.length_append, List.length_cons, List.length_nil] at h9
          omega
        have hany := AfterB.any (fun k => Value.ownBlock (.slice p8 rs.length c8) = some k) W6
        have g1 : ∀ c : AfterB (fun k => Value.ownBlock (.slice p8 rs.length c8) = some k) W6, c.val.cell? ⟨A0, 0, none⟩ = some (.bool false) := fun c => c.cell a0 (fun h => by have := hbo _ h; simp only at this; omega)
        have g2 : ∀ c : AfterB (fun k => Value.ownBlock (.slice p8 rs.length c8) = some k) W6, c.val.cell? ⟨A0, 1, none⟩ = some (.slice p lo cp) := fun c => c.cell a1 (fun h => by have := hbo _ h; simp only at this; omega)
        have g3 : ∀ c : AfterB (fun k => Value.ownBlock (.slice p8 rs.length c8) = some k) W6, c.val.cell? ⟨A0, 2, none⟩ = some (.slice q la cq) := fun c => c.cell a2 (fun h => by have := hbo _ h; simp only at this; omega)
        have g4 : ∀ c : AfterB (fun k => Value.ownBlock (.slice p8 rs.length c8) = some k) W6, c.val.cell? ⟨A0, 3, none⟩ = some (.slice r lb cr) := fun c => c.cell a3 (fun h => by have := hbo _ h; simp only at this; omega)
        have g5 : ∀ c : AfterB (fun k => Value.ownBlock (.slice p8 rs.length c8) = some k) W6, c.val.cell? ⟨T, 0, none⟩ = some (.int .i64 (at_.1 : Int)) := fun c => c.cell t0 (fun h => by have := hbo _ h; simp only at this; omega)
        have g6 : ∀ c : AfterB (fun k => Value.ownBlock (.slice p8 rs.length c8) = some k) W6, c.val.cell? ⟨T, 1, none⟩ = some (.int .i64 (at_.2.1 : Int)) := fun c => c.cell t1 (fun h => by have := hbo _ h; simp only at this; omega)
        have g7 : ∀ c : AfterB (fun k => Value.ownBlock (.slice p8 rs.length c8) = some k) W6, c.val.cell? ⟨T, 2, none⟩ = some (.int .i64 (at_.2.2 : Int)) := fun c => c.cell t2 (fun h => by have := hbo _ h; simp only at this; omega)
        have g8 : ∀ c : AfterB (fun k => Value.ownBlock (.slice p8 rs.length c8) = some k) W6, c.val.cell? ⟨bs, os, none⟩ = some (.int .i64 (s.1 : Int)) := fun c => c.cell y1 (fun h => by have := hbo _ h; simp only at this; omega)
        have g9 : ∀ c : AfterB (fun k => Value.ownBlock (.slice p8 rs.length c8) = some k) W6, c.val.cell? ⟨bs, os + 1, none⟩ = some (.int .i64 (s.2.1 : Int)) := fun c => c.cell y2 (fun h => by have := hbo _ h; simp only at this; omega)
        have g10 : ∀ c : AfterB (fun k => Value.ownBlock (.slice p8 rs.length c8) = some k) W6, c.val.cell? ⟨bs, os + 2, none⟩ = some (.int .i64 (s.2.2 : Int)) := fun c => c.cell y3 (fun h => by have := hbo _ h; simp only at this; omega)
        have HCl : Hid (∀ W, Chg No W6 W → CallsIn Fence.wide 0 Tryz.prog 99 #[.agg #[.bool false, .slice p lo cp, .slice q la cq, .slice r lb cr], vT at_, vT s] W fun ex W' => ∃ v0, ex = .returned v0 ∧ (∃ x y z, v0 = .agg #[.bool (prt o a b at_ s).c, x, y, z] ∧ Own3 W' W6.heap.size x y z (prt o a b at_ s)) ∧ Chg No W W') := fun W cw => by
          have sv := HSv.out W (cW6.trans cw (fun _ h => h.elim))
          have hh := piece_in false _ _ _ o a b at_ s W sv.1 sv.2.1 sv.2.2 (by rw [HLo.out]; omega) (by rw [HLa.out]; omega) (by rw [HLb.out]; omega) b1 b2 b3 (by rw [HLo.out]; omega) (by rw [HLa.out]; omega) (by rw [HLb.out]; omega)
          refine hh.mono ?_
          rintro e W' ⟨x, y, z, rfl, o3, c3⟩
          exact ⟨_, rfl, ⟨x, y, z, rfl, o3.less cw.size⟩, c3⟩
        clear y1 y2 y3 t0 t1 t2 a0 a1 a2 a3
        refine region_pushc 6 7 8 _ _ _ hmix (by kernel_rfl) (by kernel_rfl) rfl rfl rfl (by kernel_rfl) (by kernel_rfl) rfl rfl _ _ 98 rfl wS.heap.size 101 i0 (.agg #[.bool false, .slice none 0 0, .slice none 0 0, .slice none 0 0]) 4 80 Tryz.underlying98 hi hz0 hz1 hz2 rfl (by decide) (.slice p8 rs.length c8) rs.length (rs.flatMap eR) (fun v0 W' => ∃ x y z, v0 = .agg #[.bool (prt o a b at_ s).c, x, y, z] ∧ Own3 W' W6.heap.size x y z (prt o a b at_ s)) PA6.row (by unfold maxLen; omega) (by omega) cW6.size 99 #[.agg #[.bool false, .slice p lo cp, .slice q la cq, .slice r lb cr], vT at_, vT s] HCl.out part_cells ?_
        intro v0 v1 v2
        simp only [hushE, Nat.reduceAdd, Nat.reduceBEq, Bool.or_self, Bool.or_true, Bool.or_false, if_true, if_false, Bool.false_eq_true]
        repeat (gi_big_quiet_step (fail))
        refine wpQuietIn_nil ⟨fun W => ?_, ?_, ⟨rfl, rfl⟩, ?_⟩
        · simp [go_sem]
        · rintro W W' ⟨x, y, z, rfl, o3⟩
          obtain ⟨_, _, rfl⟩ := row_slice o3.o
          obtain ⟨_, _, rfl⟩ := row_slice o3.a
          obtain ⟨_, _, rfl⟩ := row_slice o3.b
          simp [execOp, go_sem, aggCells]
        · rintro W7 W8 k7 ⟨x, y, z, rfl, o3⟩ hown' k8 hmv
          have PA := PA6.push k7 o3 hown' k8 hmv rfl cW6.size
          have bx := (bx6.chg k7 (fun h => h)).chg k8 (fun h => by have := hbo _ h; omega)
          have tb := (tb6.chg k7 (fun h => h)).chg k8 (fun h => by have := hbo _ h; omega)
          have k68 : Chg (fun k => Value.ownBlock (.slice p8 rs.length c8) = some k) W6 W8 := (k7.mono (fun _ h => h.elim)).trans k8 (Grew.refl _ _)
          have sS : SlPl W8 (.slice (some ⟨bs, os, none⟩) ns cs) S := SlE.chg eT_len (by decide) sS6 k68 (fun k hk h => by have h1 := hbo _ h; have h2 := HSo.out k hk.2; omega)
          have cW : Chg (fun k => k = T) wS W8 := cW6.trans k68 (fun k h => .inr (hbo k h))
          have HA := HA1
          clear PA6 bx6 tb6 sS6 cW6 k68 hown' k8 hmv o3 k7 HA1 HCl g1 g2 g3 g4 g5 g6 g7 g8 g9 g10 hany hbo hlacc
          generalize rs ++ [((prt o a b at_ s).c, x, y, z)] = rs1 at *
          generalize acc ++ [prt o a b at_ s] = acc1 at *
          obtain ⟨f, hf⟩ : ∃ x, x = f' := ⟨_, rfl⟩
          rw [← hf] at HA HF
          clear hf
          obtain ⟨ps, hps⟩ : ∃ x, x = some (⟨bs, os, none⟩ : Addr) := ⟨_, rfl⟩
          rw [← hps] at sS HSb HSo ⊢
          clear hps hbs
          generalize W8 = W at *
          gi_wp2_with fail
          obtain ⟨n, hrn⟩ : ∃ n, rn3 S s = n := ⟨_, rfl⟩
          have hrun := run3_in ps ns cs S s W (by exact sS) HSL.out HS0.out (by omega) (by omega)
          rw [hrn] at hrun
          have hn1 : n ≤ ns := by rw [← hrn, ← HSL.out]; exact rn3_le S s
          obtain ⟨ps', cs', sS', oS', hcut⟩ := SlE.low Tryz.underlying120 size_place sS HSL.out n hn1 .i64
          obtain ⟨bs, os, rfl, y1, y2, y3⟩ := SlPl.at sS 0 s HS0.out
          simp only [Nat.zero_mul, Nat.add_zero] at y1 y2 y3
          have hns' : (0 : Int) < (ns : Int) := by omega
          rw [hrn] at HA
          have HI2 : Hid (Inc3 (lo, la, lb) (on s n) (S.drop n)) := by
            rw [← hrn]
            have := HIn'.out.first.run
            rw [HSc.out] at this
            exact this
          have HI3 := HI2.out.le
          simp only [on] at HI3
          have HF2 : Hid ((S.drop n).length < f) := by
            show _ < _
            have h1 := drop_less s S.tail
            rw [HSc.out, hrn] at h1
            have h2 : S.length = S.tail.length + 1 := by rw [← HSc.out]; simp
            have := HF.out
            omega
          have HSL2 : Hid ((S.drop n).length = ns - n) := by rw [List.length_drop, HSL.out]; exact rfl
          have hnpos : 0 < n := by rw [← hrn, ← HSc.out, rn3_self]; omega
          clear hrn
          refine ⟨trivial, rfl, hrun.mono ?_⟩
          rintro e W4 ⟨rfl, k4⟩
          clear hrun
          have cW4 : Chg (fun k => k = T) wS W4 := cW.trans k4 (fun _ h => h.elim)
          have sS4 : SlPl W4 (.slice (some ⟨bs, os, none⟩) ns cs) S := SlE.no eT_len (by decide) sS k4
          have sS4' : SlPl W4 (.slice ps' (ns - n) cs') (S.drop n) := SlE.no eT_len (by decide) sS' k4
          have PA4 := PA.no k4
          have bx4 := bx.chg k4 (fun h => h)
          have tb4 := tb.chg k4 (fun h => h)
          obtain ⟨_, _, e0, y1, y2, y3⟩ := SlPl.at sS4 0 s HS0.out
          cases e0
          simp only [Nat.zero_mul, Nat.add_zero] at y1 y2 y3
          have hOn := on_in s n (by omega) (by omega) (by omega) (by omega) W4
          gi_wp2_with fail
          refine ⟨trivial, rfl, hOn.mono ?_⟩
          rintro e W5 ⟨rfl, k5⟩
          clear hOn
          have tb5 := tb4.chg k5 (fun h => h)
          obtain ⟨t0, t1, t2⟩ := tb5.cells
          have u0 := tb5.frozen 0
          have u1 := tb5.frozen 1
          have u2 := tb5.frozen 2
          have tb6 := tb5.set (on s n)
          have k6 : Chg (fun k => k = T) W5 (((W5.setCell ⟨T, 0, none⟩ (.int .i64 ((on s n).1 : Int))).setCell ⟨T, 1, none⟩ (.int .i64 ((on s n).2.1 : Int))).setCell ⟨T, 2, none⟩ (.int .i64 ((on s n).2.2 : Int))) :=
            (((Chg.refl (fun k => k = T) W5).setCell (p := ⟨T, 0, none⟩) (.inl rfl) _).setCell (p := ⟨T, 1, none⟩) (.inl rfl) _).setCell (p := ⟨T, 2, none⟩) (.inl rfl) _
          gi_wp2
          generalize (((W5.setCell ⟨T, 0, none⟩ (.int .i64 ((on s n).1 : Int))).setCell ⟨T, 1, none⟩ (.int .i64 ((on s n).2.1 : Int))).setCell ⟨T, 2, none⟩ (.int .i64 ((on s n).2.2 : Int))) = W6 at *
          have k46 : Chg (fun k => k = T) W4 W6 := (k5.mono (fun _ h => h.elim)).trans k6 (Grew.refl _ _)
          have cW6 : Chg (fun k => k = T) wS W6 := cW4.trans k46 (Grew.refl _ _)
          have sS6 : SlPl W6 (.slice (some ⟨bs, os, none⟩) ns cs) S := SlE.chg eT_len (by decide) sS4 k46 (fun k hk e => HSb.out k (by rw [e]) hk.2)
          have sS6' : SlPl W6 (.slice ps' (ns - n) cs') (S.drop n) := SlE.chg eT_len (by decide) sS4' k46 (fun k hk e => HSb.out k (by rw [e]) (oS' k hk.2))
          have PA6 := PA4.chg k46 (fun k hk e => by have := hT; omega)
          have bx6 := bx4.chg k46 hA0T
          obtain ⟨t0, t1, t2⟩ := tb6.cells
          obtain ⟨a0, a1, a2, a3⟩ := bx6.cells
          obtain ⟨_, _, e0, y1, y2, y3⟩ := SlPl.at sS6 0 s HS0.out
          cases e0
          simp only [Nat.zero_mul, Nat.add_zero] at y1 y2 y3
          obtain ⟨p8, c8, rfl⟩ := row_slice PA6.row
          have hbo : ∀ k, Value.ownBlock (.slice p8 rs1.length c8) = some k → wS.heap.size ≤ k := fun k hk => (PA6.row.lt k hk).1
          have hbs : bs < wS.heap.size := by
            have := HSo.out bs rfl
            exact this
          have hlacc : rs1.length + 1 ≤ 801 := by
            rw [PA6.len]
            have h9 := congrArg List.length HA.out
            have := HB.out
            simp only [List.length_append, List.length_cons] at h9
            omega
          have hany := AfterB.any (fun k => Value.ownBlock (.slice p8 rs1.length c8) = some k) W6
          have g1 : ∀ c : AfterB (fun k => Value.ownBlock (.slice p8 rs1.length c8) = some k) W6, c.val.cell? ⟨A0, 0, none⟩ = some (.bool false) := fun c => c.cell a0 (fun h => by have := hbo _ h; simp only at this; omega)
          have g2 : ∀ c : AfterB (fun k => Value.ownBlock (.slice p8 rs1.length c8) = some k) W6, c.val.cell? ⟨A0, 1, none⟩ = some (.slice p lo cp) := fun c => c.cell a1 (fun h => by have := hbo _ h; simp only at this; omega)
          have g3 : ∀ c : AfterB (fun k => Value.ownBlock (.slice p8 rs1.length c8) = some k) W6, c.val.cell? ⟨A0, 2, none⟩ = some (.slice q la cq) := fun c => c.cell a2 (fun h => by have := hbo _ h; simp only at this; omega)
          have g4 : ∀ c : AfterB (fun k => Value.ownBlock (.slice p8 rs1.length c8) = some k) W6, c.val.cell? ⟨A0, 3, none⟩ = some (.slice r lb cr) := fun c => c.cell a3 (fun h => by have := hbo _ h; simp only at this; omega)
          have g5 : ∀ c : AfterB (fun k => Value.ownBlock (.slice p8 rs1.length c8) = some k) W6, c.val.cell? ⟨T, 0, none⟩ = some (.int .i64 ((on s n).1 : Int)) := fun c => c.cell t0 (fun h => by have := hbo _ h; simp only at this; omega)
          have g6 : ∀ c : AfterB (fun k => Value.ownBlock (.slice p8 rs1.length c8) = some k) W6, c.val.cell? ⟨T, 1, none⟩ = some (.int .i64 ((on s n).2.1 : Int)) := fun c => c.cell t1 (fun h => by have := hbo _ h; simp only at this; omega)
          have g7 : ∀ c : AfterB (fun k => Value.ownBlock (.slice p8 rs1.length c8) = some k) W6, c.val.cell? ⟨T, 2, none⟩ = some (.int .i64 ((on s n).2.2 : Int)) := fun c => c.cell t2 (fun h => by have := hbo _ h; simp only at this; omega)
          have g8 : ∀ c : AfterB (fun k => Value.ownBlock (.slice p8 rs1.length c8) = some k) W6, c.val.cell? ⟨bs, os, none⟩ = some (.int .i64 (s.1 : Int)) := fun c => c.cell y1 (fun h => by have := hbo _ h; simp only at this; omega)
          have g9 : ∀ c : AfterB (fun k => Value.ownBlock (.slice p8 rs1.length c8) = some k) W6, c.val.cell? ⟨bs, os + 1, none⟩ = some (.int .i64 (s.2.1 : Int)) := fun c => c.cell y2 (fun h => by have := hbo _ h; simp only at this; omega)
          have g10 : ∀ c : AfterB (fun k => Value.ownBlock (.slice p8 rs1.length c8) = some k) W6, c.val.cell? ⟨bs, os + 2, none⟩ = some (.int .i64 (s.2.2 : Int)) := fun c => c.cell y3 (fun h => by have := hbo _ h; simp only at this; omega)
          have HCl : Hid (∀ W, Chg No W6 W → CallsIn Fence.wide 0 Tryz.prog 99 #[.agg #[.bool false, .slice p lo cp, .slice q la cq, .slice r lb cr], vT s, vT (on s n)] W fun ex W' => ∃ v0, ex = .returned v0 ∧ (∃ x y z, v0 = .agg #[.bool (prt o a b s (on s n)).c, x, y, z] ∧ Own3 W' W6.heap.size x y z (prt o a b s (on s n))) ∧ Chg No W W') := fun W cw => by
            have sv := HSv.out W (cW6.trans cw (fun _ h => h.elim))
            have hh := piece_in false _ _ _ o a b s (on s n) W sv.1 sv.2.1 sv.2.2 (by rw [HLo.out]; omega) (by rw [HLa.out]; omega) (by rw [HLb.out]; omega) (by simp only [on]; omega) (by simp only [on]; omega) (by simp only [on]; omega) (by rw [HLo.out]; exact HI3.1) (by rw [HLa.out]; exact HI3.2.1) (by rw [HLb.out]; exact HI3.2.2)
            refine hh.mono ?_
            rintro e W' ⟨x, y, z, rfl, o3, c3⟩
            exact ⟨_, rfl, ⟨x, y, z, rfl, o3.less cw.size⟩, c3⟩
          clear y1 y2 y3 t0 t1 t2 a0 a1 a2 a3
          refine region_pushc 6 7 8 _ _ _ hmix (by kernel_rfl) (by kernel_rfl) rfl rfl rfl (by kernel_rfl) (by kernel_rfl) rfl rfl _ _ 98 rfl wS.heap.size 101 i0 (.agg #[.bool false, .slice none 0 0, .slice none 0 0, .slice none 0 0]) 4 80 Tryz.underlying98 hi hz0 hz1 hz2 rfl (by decide) (.slice p8 rs1.length c8) rs1.length (rs1.flatMap eR) (fun v0 W' => ∃ x y z, v0 = .agg #[.bool (prt o a b s (on s n)).c, x, y, z] ∧ Own3 W' W6.heap.size x y z (prt o a b s (on s n))) PA6.row (by unfold maxLen; omega) (by omega) cW6.size 99 #[.agg #[.bool false, .slice p lo cp, .slice q la cq, .slice r lb cr], vT s, vT (on s n)] HCl.out part_cells ?_
          intro v0 v1 v2
          simp only [hushE, Nat.reduceAdd, Nat.reduceBEq, Bool.or_self, Bool.or_true, Bool.or_false, if_true, if_false, Bool.false_eq_true]
          repeat (gi_big_quiet_step (fail))
          refine wpQuietIn_nil ⟨fun W => ?_, ?_, ⟨rfl, rfl⟩, ?_⟩
          · simp [go_sem]
          · rintro W W' ⟨x, y, z, rfl, o3⟩
            obtain ⟨_, _, rfl⟩ := row_slice o3.o
            obtain ⟨_, _, rfl⟩ := row_slice o3.a
            obtain ⟨_, _, rfl⟩ := row_slice o3.b
            simp [execOp, go_sem, aggCells]
          · rintro W7 W8 k7 ⟨x, y, z, rfl, o3⟩ hown' k8 hmv
            have PA8 := PA6.push k7 o3 hown' k8 hmv rfl cW6.size
            have bx8 := (bx6.chg k7 (fun h => h)).chg k8 (fun h => by have := hbo _ h; omega)
            have tb8 := (tb6.chg k7 (fun h => h)).chg k8 (fun h => by have := hbo _ h; omega)
            have k68 : Chg (fun k => Value.ownBlock (.slice p8 rs1.length c8) = some k) W6 W8 := (k7.mono (fun _ h => h.elim)).trans k8 (Grew.refl _ _)
            have sS8' : SlPl W8 (.slice ps' (ns - n) cs') (S.drop n) := SlE.chg eT_len (by decide) sS6' k68 (fun k hk h => by have h1 := hbo _ h; have h2 := HSo.out k (oS' k hk.2); omega)
            have cW8 : Chg (fun k => k = T) wS W8 := cW6.trans k68 (fun k h => .inr (hbo k h))
            have HA8 : Hid ((acc1 ++ [prt o a b s (on s n)]) ++ pt o a b f (S.drop n) (on s n) = tot) := by rw [List.append_assoc]; exact HA.out
            have HSb8 : Hid (∀ k, k = T → ¬ Value.ownBlock (.slice ps' (ns - n) cs') = some k) := fun k e h => HSb.out k e (oS' k h)
            have HSo8 : Hid (∀ k, Value.ownBlock (.slice ps' (ns - n) cs') = some k → k < wS.heap.size) := fun k h => HSo.out k (oS' k h)
            have hnz : 0 < n := hnpos
            gi_wp2
            go_roundw
            case rel => exact ⟨acc1 ++ [prt o a b s (on s n)], rs1 ++ [((prt o a b s (on s n)).c, x, y, z)], S.drop n, on s n, f, ns - n, ps', cs', rfl, HSL2, by omega, sS8', HSb8, HSo8, HI2, HF2, HA8, by exact PA8, tb8, bx8, cW8⟩
            case measure => simp; omega
    | nil =>
      obtain rfl : ns = 0 := by have := HSL.out; rw [hSc] at this; simpa using this.symm
      have hns' : ¬ (0 : Int) < ((0 : Nat) : Int) := by simp
      obtain ⟨f', rfl⟩ : ∃ f', f = f' + 1 := ⟨f - 1, by have := HF.out; omega⟩
      have HA0 : Hid (acc ++ (if at_ = (lo, la, lb) then [] else [prt o a b at_ (lo, la, lb)]) = tot) := by
        have := HA.out
        rw [hSc, pt_nil, HLo.out, HLa.out, HLb.out] at this
        exact this
      have hI := HIn.out.le
      simp only at hI
      obtain ⟨p8, c8, rfl⟩ := row_slice PA.row
      have tbE : TBox (wr.alloc (.cells #[.int .i64 (lo : Int), .int .i64 (la : Int), .int .i64 (lb : Int)] 119)) wr.heap.size (lo, la, lb) := World.alloc_heap_new wr _
      have ce : Chg No wr (wr.alloc (.cells #[.int .i64 (lo : Int), .int .i64 (la : Int), .int .i64 (lb : Int)] 119)) := (Chg.refl _ wr).alloc _
      have PA6 := PA.no ce
      have tb6 := tb.chg ce (fun h => h)
      have bx6 := bx.chg ce (fun h => h)
      have cW6 : Chg (fun k => k = T) wS (wr.alloc (.cells #[.int .i64 (lo : Int), .int .i64 (la : Int), .int .i64 (lb : Int)] 119)) := cW.trans ce (fun _ h => h.elim)
      obtain ⟨q0, q1, q2⟩ := tbE.cells
      obtain ⟨t0, t1, t2⟩ := tb6.cells
      obtain ⟨a0, a1, a2, a3⟩ := bx6.cells
      have hwS : w1.heap.size ≤ wS.heap.size := c1S.size
      by_cases hne : at_ = (lo, la, lb)
      · have hneq : ∀ w, (binOp .neq 119 (vT at_) (vT (lo, la, lb))).run Tryz.prog w = .ok (.bool false) w := fun w => by rw [run_neq_place, decide_eq_true hne]; rfl
        have HD : Hid (acc = tot) := by
          have := HA0.out
          rw [if_pos hne, List.append_nil] at this
          exact this
        clear hne
        gi_wp2
        go_ret
        exact ⟨_, rfl, ⟨rs, by rw [← HD.out]; exact PA6.less hwS⟩, c1S.trans cW6 (fun k e => .inr (by omega))⟩
      · have hneq : ∀ w, (binOp .neq 119 (vT at_) (vT (lo, la, lb))).run Tryz.prog w = .ok (.bool true) w := fun w => by rw [run_neq_place, decide_eq_false hne]; rfl
        have HD : Hid (acc ++ [prt o a b at_ (lo, la, lb)] = tot) := by
          have := HA0.out
          rw [if_neg hne] at this
          exact this
        have hlacc : rs.length + 1 ≤ 801 := by
          rw [PA6.len]
          have h9 := congrArg List.length HD.out
          have := HB.out
          simp only [List.length_append, List.length_cons, List.length_nil] at h9
          omega
        have hmx : rs.length + 1 ≤ maxLen := by unfold maxLen; omega
        clear hne
        gi_wp2_with fail
        generalize wr.alloc (.cells #[.int .i64 (lo : Int), .int .i64 (la : Int), .int .i64 (lb : Int)] 119) = W6 at *
        have sv := HSv.out W6 cW6
        have hh := piece_in false _ _ _ o a b at_ (lo, la, lb) W6 sv.1 sv.2.1 sv.2.2 (by rw [HLo.out]; omega) (by rw [HLa.out]; omega) (by rw [HLb.out]; omega) hI.1 hI.2.1 hI.2.2 (by rw [HLo.out]; exact Nat.le_refl _) (by rw [HLa.out]; exact Nat.le_refl _) (by rw [HLb.out]; exact Nat.le_refl _)
        refine ⟨trivial, rfl, hh.mono ?_⟩
        rintro e W7 ⟨x, y, z, rfl, o3, k7⟩
        obtain ⟨x1, x2, rfl⟩ := row_slice o3.o
        obtain ⟨y1, y2, rfl⟩ := row_slice o3.a
        obtain ⟨z1, z2, rfl⟩ := row_slice o3.b
        have hr7 := own_still PA6.row k7 (fun _ _ h => h)
        have cW7 : Chg (fun k => k = T) wS W7 := cW6.trans k7 (fun _ h => h.elim)
        generalize hpp : prt o a b at_ (lo, la, lb) = pp at *
        generalize pp.o.length = n1 at *
        generalize pp.a.length = n2 at *
        generalize pp.b.length = n3 at *
        have hcn := cells_laid W7 [.bool pp.c, .slice x1 n1 x2, .slice y1 n2 y2, .slice z1 n3 z2] 101
        have hbs7 : wS.heap.size ≤ (W7.alloc (.cells #[.bool pp.c, .slice x1 n1 x2, .slice y1 n2 y2, .slice z1 n3 z2] 101)).heap.size := (cW7.alloc _).size
        clear hh
        gi_wp2_with (gi_at_builtin; refine wpListIn_append_at _ rfl _ _ 98 rfl wS.heap.size 101 i0 (.agg #[.bool false, .slice none 0 0, .slice none 0 0, .slice none 0 0]) 4 80 Tryz.underlying98 hi hz0 hz1 hz2 rfl (by decide) _ _ _ rfl (hr7.alloc _) ⟨W7.heap.size, 0, none⟩ 1 1 [.bool pp.c, .slice x1 n1 x2, .slice y1 n2 y2, .slice z1 n3 z2] rfl rfl hcn (by simp [Value.oneCell']) hmx (by omega) hbs7 ?_; intro v' W8 hown' hgrow _ hat)
        have k8 : Chg (fun k => Value.ownBlock (.slice p8 rs.length c8) = some k) W7 W8 := ((Chg.refl _ W7).alloc _).grown hgrow (fun k e => .inl e)
        have hmv : Moved (.slice p8 rs.length c8) v' W7 := by
          rcases hat with h | h
          · exact .inl h
          · exact .inr ⟨_, h, by simp⟩
        have PA8 := PA6.push (c := pp.c) k7 o3 hown' k8 hmv rfl cW6.size
        go_ret
        exact ⟨_, rfl, ⟨_, by rw [← HD.out]; exact PA8.less hwS⟩, (c1S.trans cW7 (fun k e => .inr (by omega))).trans k8 (fun k h => .inr (by have := (PA6.row.lt k h).1; omega))⟩

end Go.Proofs.YtndblaemladppabGreatDoor

end
section
-- TMerge
namespace Go.Proofs.YtndblaemladppabGreatDoor
open Go.RowKit Go.Shelf Go.SeqLib Go.DiffLib Go.BigFrame
attribute [local go_sem] Oper.semAt_some

abbrev SlR := @SlE PRow 4 eR
theorem SlR.at {W : World} {p : Option Addr} {n cap : Nat} {zs : List PRow} (h : SlR W (.slice p n cap) zs) (i : Nat) (x : PRow) (hi : zs[i]? = some x) :
    ∃ b off, p = some ⟨b, off, none⟩ ∧ W.cell? ⟨b, off + i * 4, none⟩ = some (.bool x.1) ∧ W.cell? ⟨b, off + i * 4 + 1, none⟩ = some x.2.1 ∧ W.cell? ⟨b, off + i * 4 + 2, none⟩ = some x.2.2.1 ∧ W.cell? ⟨b, off + i * 4 + 3, none⟩ = some x.2.2.2 := by
  obtain ⟨p', cap', e, _, _, hc⟩ := h
  cases e
  obtain ⟨b, off, e, h1⟩ := hc i x hi
  exact ⟨b, off, e, h1 0 _ rfl, h1 1 _ rfl, h1 2 _ rfl, h1 3 _ rfl⟩
theorem Own3.reads {W : World} {base : Nat} {x y z : Value} {p : Prt ByteArray} (h : Own3 W base x y z p) : SlV W x (p.o.map Value.string) ∧ SlV W y (p.a.map Value.string) ∧ SlV W z (p.b.map Value.string) :=
  ⟨SlV.ofRow (by simpa using h.o), SlV.ofRow (by simpa using h.a), SlV.ofRow (by simpa using h.b)⟩

theorem gather_cons (p : Prt ByteArray) (r : List (Prt ByteArray)) : gather (p :: r) = if p.c = true then none else (gather r).map (fun t => pick p ++ t) := rfl

set_option maxRecDepth 100000 in
set_option maxHeartbeats 4000000 in
theorem merge_in (vo va vb : Value) (o a b : List ByteArray) (w : World) (hv : SlV w vo (o.map Value.string)) (hu : SlV w va (a.map Value.string)) (ht : SlV w vb (b.map Value.string)) (ho : o.length ≤ 400) (ha : a.length ≤ 400) (hb : b.length ≤ 400) :
    CallsIn Fence.wide 0 Tryz.prog 59 #[vo, va, vb] w fun e w' => appRes w (mrg o a b) e w' ∧ Chg No w w' := by
  have hP := parts_in vo va vb o a b w hv hu ht ho ha hb
  have hpl := parts_length o a b
  have hlens := parts_lens o a b
  obtain ⟨p, cp, rfl, _⟩ := id hv
  obtain ⟨q, cq, rfl, _⟩ := id hu
  obtain ⟨r, cr, rfl, _⟩ := id ht
  have hl := tooLong3_in p q r (o.map Value.string).length (a.map Value.string).length (b.map Value.string).length cp cq cr (by rw [List.length_map]; exact ho) (by rw [List.length_map]; exact ha) (by rw [List.length_map]; exact hb) w
  clear hv hu ht
  generalize (o.map Value.string).length = lo at *
  generalize (a.map Value.string).length = la at *
  generalize (b.map Value.string).length = lb at *
  have HLn : Hid (∀ p ∈ parts o a b, p.o.length ≤ 400 ∧ p.a.length ≤ 400 ∧ p.b.length ≤ 400) := fun p hp => by have := hlens p hp; omega
  unfold mrg
  generalize parts o a b = ps at *
  have hpl' : ps.length ≤ 801 := by omega
  clear hlens hpl ho ha hb
  obtain ⟨tot, HTot⟩ : ∃ t, Hid (gather ps = t) := ⟨_, rfl⟩
  rw [HTot.out]
  refine callsIn_of_wp Tryz.func59 rfl trivial ?_
  simp only [Tryz.ntmps59, List.size_toArray, List.length_cons, List.length_nil, Nat.reduceAdd, Nat.reduceSub, Array.replicate_succ, Array.replicate_zero, List.push_toArray, List.append_toArray, List.nil_append, List.cons_append]
  gi_wp2_with fail
  refine ⟨trivial, rfl, hl.mono ?_⟩
  rintro e w1 ⟨rfl, rfl⟩
  clear hl
  gi_wp2_with fail
  refine ⟨trivial, rfl, hP.mono ?_⟩
  rintro e wP ⟨vP, rfl, ⟨rs, PA⟩, cP⟩
  clear hP
  have sR : SlR wP vP rs := SlE.ofRow eR_len PA.row
  obtain ⟨pP, ccP, rfl⟩ := row_slice PA.row
  have hrl := PA.len
  obtain ⟨np, HNP⟩ : ∃ n, Hid (rs.length = n) := ⟨_, rfl⟩
  have HNS : Hid (ps.length = np) := by show _ = _; rw [← hrl, HNP.out]
  rw [HNP.out] at sR ⊢
  rw [HNS.out] at hpl'
  clear hrl
  gi_wp2
  gi_loopw [8, 20] (fun v8 i wr => ∃ (k : Nat) (acc : List ByteArray), k ≤ np ∧ i = .int .i64 (k : Int) ∧ acc.length ≤ k * 400 ∧ wr.ownsRow wP.heap.size 9 1 v8 acc.length (acc.map Value.string) ∧ Hid ((gather (ps.drop k)).map (fun t => acc ++ t) = tot) ∧ Chg No wP wr) (fun v8 i _ => np - (intOf i).toNat)
  case atStart => exact ⟨0, [], Nat.zero_le _, rfl, by simp, World.ownsRow_nil _ _ _ _, by show _ = _; rw [← HTot.out, List.drop_zero]; cases gather ps <;> rfl, Chg.refl _ _⟩
  case round =>
    obtain ⟨k, acc, hk, rfl, hacc, hr, HT, cw⟩ := hrel
    obtain ⟨p8, c8, rfl⟩ := row_slice hr
    by_cases hlt : k < np
    · have hlt' : (k : Int) < (np : Int) := by omega
      have hkr : k < rs.length := by rw [HNP.out]; exact hlt
      obtain ⟨x, hx⟩ : ∃ x, rs[k]? = some x := ⟨_, List.getElem?_eq_getElem hkr⟩
      obtain ⟨pp, hpp, hxc, o3⟩ := PA.at hx
      have hkp : k < ps.length := by rw [HNS.out]; exact hlt
      have HTk : Hid (ps.drop k = pp :: ps.drop (k + 1)) := by
        rw [List.drop_eq_getElem_cons hkp]
        rw [List.getElem?_eq_getElem hkp] at hpp
        rw [Option.some.inj hpp]
        exact rfl
      have hln := HLn.out pp (List.mem_of_getElem? hpp)
      obtain ⟨b1, o1, rfl, x1, x2, x3, x4⟩ := SlR.at (show SlR wr _ _ from SlE.no eR_len (by decide) sR cw) k x hx
      obtain ⟨xc, xo, xa, xb⟩ := x
      simp only at hxc o3 x1 x2 x3 x4
      have o4 := o3.chg cw (fun _ _ h => h)
      obtain ⟨v1, v2, v3⟩ := o4.reads
      obtain ⟨q1, d1, rfl, _⟩ := id v1
      obtain ⟨q2, d2, rfl, _⟩ := id v2
      obtain ⟨q3, d3, rfl, _⟩ := id v3
      have HXC : Hid (xc = pp.c) := hxc
      clear hx hpp hkr hkp o3 o4 hxc
      have cb : Chg No wr (wr.alloc (.cells #[.bool xc, .slice q1 (pp.o.map Value.string).length d1, .slice q2 (pp.a.map Value.string).length d2, .slice q3 (pp.b.map Value.string).length d3] 101)) := (Chg.refl _ wr).alloc _
      have bx : Box4 (wr.alloc (.cells #[.bool xc, .slice q1 (pp.o.map Value.string).length d1, .slice q2 (pp.a.map Value.string).length d2, .slice q3 (pp.b.map Value.string).length d3] 101)) wr.heap.size (.bool xc) _ _ _ := World.alloc_heap_new wr _
      have hr1 := hr.alloc (.cells #[.bool xc, .slice q1 (pp.o.map Value.string).length d1, .slice q2 (pp.a.map Value.string).length d2, .slice q3 (pp.b.map Value.string).length d3] 101)
      have w1' := v1.no cb
      have w2' := v2.no cb
      have w3' := v3.no cb
      have hch := choice_in xc _ _ _ pp _ w1' w2' w3' hln.1 hln.2.1 hln.2.2
      generalize (pp.o.map Value.string).length = n1 at *
      generalize (pp.a.map Value.string).length = n2 at *
      generalize (pp.b.map Value.string).length = n3 at *
      obtain ⟨a0, a1, a2, a3⟩ := bx.cells
      clear v1 v2 v3
      cases xc with
      | true =>
        obtain rfl : tot = none := by
          have := HT.out
          rw [HTk.out, gather_cons, if_pos HXC.out.symm] at this
          exact this.symm
        clear hch
        gi_wp2
        go_ret2
        exact ⟨rfl, Chg.seq (Chg.seq cP cw) cb⟩
      | false =>
        have HT2 : Hid ((gather (ps.drop (k + 1))).map (fun t => (acc ++ pick pp) ++ t) = tot) := by
          have := HT.out
          rw [HTk.out, gather_cons, if_neg (by rw [← HXC.out]; simp), Option.map_map] at this
          rw [← this]
          show _ = _
          congr 1
          funext t
          simp
        have HPk : Hid (∀ W, Chg No (wr.alloc (.cells #[.bool false, .slice q1 n1 d1, .slice q2 n2 d2, .slice q3 n3 d3] 101)) W → SlV W (if pp.a = pp.b ∨ pp.b = pp.o then .slice q2 n2 d2 else .slice q3 n3 d3) ((pick pp).map Value.string)) := fun W c => by
          unfold pick
          split
          · exact w2'.no c
          · exact w3'.no c
        have hpk : (pick pp).length ≤ 400 := by unfold pick; split; exact hln.2.1; exact hln.2.2
        obtain ⟨vr, hvr⟩ : ∃ v, (if pp.a = pp.b ∨ pp.b = pp.o then (.slice q2 n2 d2 : Value) else .slice q3 n3 d3) = v := ⟨_, rfl⟩
        rw [hvr] at hch HPk
        clear hvr w1' w2' w3'
        have cb2 := Chg.seq cw cb
        gi_wp2_with fail
        generalize wr.alloc (.cells #[.bool false, .slice q1 n1 d1, .slice q2 n2 d2, .slice q3 n3 d3] 101) = W1 at *
        refine ⟨trivial, rfl, hch.mono ?_⟩
        rintro e W2 ⟨rfl, k2⟩
        have sP := HPk.out W2 k2
        have hr2 := own_still hr1 k2 (fun _ _ h => h)
        have cb3 := Chg.seq cb2 k2
        obtain ⟨pv, cv, rfl, _⟩ := id sP
        obtain ⟨nv, HNV⟩ : ∃ n, Hid (((pick pp).map Value.string).length = n) := ⟨_, rfl⟩
        rw [HNV.out] at sP ⊢
        have hnv : nv ≤ 400 := by rw [← HNV.out, List.length_map]; exact hpk
        have hbs := cb3.size
        have hka : k * 400 ≤ 801 * 400 := Nat.mul_le_mul_right _ (by omega)
        clear hch HPk a0 a1 a2 a3
        gi_wp2_with (gi_at_builtin; refine wpListIn_append_sv _ rfl _ _ rfl wP.heap.size _ acc.length _ rfl hr2 pv nv cv (pick pp) rfl sP (by omega) hbs ?_; intro v5 W5 hown5 hgrow5 hat5)
        have c5 : Chg No wP W5 := cb3.grown hgrow5 (fun k e => .inr (hr2.lt k e).1)
        have hlen : (acc ++ pick pp).length = acc.length + nv := by rw [List.length_append, ← HNV.out, List.length_map]
        go_roundw
        case rel => exact ⟨k + 1, acc ++ pick pp, hlt, by go_num, by rw [hlen, Nat.succ_mul]; omega, by rw [hlen, List.map_append]; exact hown5, HT2, c5⟩
        case measure => simp [intOf]; omega
    · obtain rfl : k = np := by omega
      have hlt' : ¬ (k : Int) < (k : Int) := by omega
      obtain rfl : tot = some acc := by
        have := HT.out
        rw [List.drop_eq_nil_of_le (by rw [HNS.out]; exact Nat.le_refl _)] at this
        rw [← this]
        simp [gather]
      gi_wp2
      go_ret2
      exact ⟨⟨_, rfl, rowBase hr cP.size⟩, Chg.seq cP cw⟩

end Go.Proofs.YtndblaemladppabGreatDoor

end
