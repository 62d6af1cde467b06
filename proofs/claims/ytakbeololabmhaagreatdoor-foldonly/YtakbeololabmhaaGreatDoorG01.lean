/-
  Of: Seq, Base, Cons, RLib.
-/
import Derived.RangeFuncNested
import Derived.RangeFuncBound
import Derived.RangeFuncLeaves
import Derived.RangeFuncCalls
import Derived.Shelf.Abstract
import Derived.Shelf.RegionOpen
import Derived.WalkKit
import Derived.OwnWalkIn
import Derived.TacticsInMore
import Derived.LoopNIn
import Derived.LoopIn
import Derived.Maps.AppendAt
import Derived.Test.YtakbeololabmhaaGreatDoorProg
section
-- Seq
namespace Go.SeqLib
open Go Go.RowKit

/-- A set of blocks. -/
abbrev Blk := Nat → Prop

/-- From w to w' only blocks of S, and new ones, have turned. -/
structure Chg (S : Blk) (w w' : World) : Prop where
  os : w'.os = w.os
  tape : w'.tape = w.tape
  output : w'.output = w.output
  size : w.heap.size ≤ w'.heap.size
  block : ∀ k, k < w.heap.size → ¬ S k → w'.heap[k]? = w.heap[k]?

/-- S' is S with new blocks. -/
def Grew (S : Blk) (w : World) (S' : Blk) : Prop := ∀ k, S' k → S k ∨ w.heap.size ≤ k

theorem Grew.refl (S : Blk) (w : World) : Grew S w S := fun _ h => .inl h
theorem Grew.trans {S S' S'' : Blk} {a b : World} (h : Grew S a S') (k : Grew S' b S'') (hs : a.heap.size ≤ b.heap.size) : Grew S a S'' := fun i hi => by
  rcases k i hi with h1 | h1
  · exact h i h1
  · exact .inr (Nat.le_trans hs h1)

theorem Chg.refl (S : Blk) (w : World) : Chg S w w := ⟨rfl, rfl, rfl, Nat.le_refl _, fun _ _ _ => rfl⟩
theorem Chg.trans {S S' : Blk} {a b c : World} (h : Chg S a b) (k : Chg S' b c) (g : Grew S a S') : Chg S a c :=
  ⟨k.os.trans h.os, k.tape.trans h.tape, k.output.trans h.output, Nat.le_trans h.size k.size, fun i hi hn => by
    refine (k.block i (Nat.lt_of_lt_of_le hi h.size) (fun hs => ?_)).trans (h.block i hi hn)
    rcases g i hs with h1 | h1
    · exact hn h1
    · omega⟩
theorem Chg.mono {S S' : Blk} {a b : World} (h : Chg S a b) (hs : ∀ k, S k → S' k) : Chg S' a b :=
  ⟨h.os, h.tape, h.output, h.size, fun i hi hn => h.block i hi (fun x => hn (hs i x))⟩
/-- What is as it was need not be named. -/
theorem Chg.less {S S' : Blk} {a b : World} (h : Chg S a b) (hs : ∀ k, k < a.heap.size → S k → ¬ S' k → b.heap[k]? = a.heap[k]?) : Chg S' a b :=
  ⟨h.os, h.tape, h.output, h.size, fun i hi hn => by
    by_cases e : S i
    · exact hs i hi e hn
    · exact h.block i hi e⟩
theorem Chg.drew {S : Blk} {a w : World} (h : Chg S a w) : Chg S a w.drew := ⟨h.os, h.tape, h.output, h.size, h.block⟩
theorem Chg.alloc {S : Blk} {a w : World} (h : Chg S a w) (o : Obj) : Chg S a (w.alloc o) :=
  ⟨h.os, h.tape, h.output, by simp; have := h.size; omega, fun i hi hn => (Below.heap_alloc w o i (Nat.lt_of_lt_of_le hi h.size)).trans (h.block i hi hn)⟩
theorem Chg.setCell {S : Blk} {a w : World} (h : Chg S a w) {p : Addr} (hp : S p.block ∨ a.heap.size ≤ p.block) (u : Value) : Chg S a (w.setCell p u) :=
  ⟨h.os, h.tape, h.output, by simp [World.setCell]; exact h.size, fun i hi hn => (Below.heap_setCell w p u i (fun e => by subst e; rcases hp with hp | hp; exact hn hp; omega)).trans (h.block i hi hn)⟩
theorem Chg.putObj {S : Blk} {a w : World} (h : Chg S a w) {l : Nat} (hp : S l ∨ a.heap.size ≤ l) (o : Obj) : Chg S a (w.putObj l o) :=
  ⟨h.os, h.tape, h.output, by simp; exact h.size, fun i hi hn => (World.putObj_heap_other (fun e => by subst e; rcases hp with hp | hp; exact hn hp; omega)).trans (h.block i hi hn)⟩
theorem Chg.put1 (w : World) (l : Nat) (o : Obj) : Chg (fun k => k = l) w (w.putObj l o) := Chg.putObj (S := fun k => k = l) (Chg.refl _ w) (.inl rfl) o
theorem Chg.grown {S : Blk} {a w w' : World} {row : Option Nat} (h : Chg S a w) (hg : w.grownBy w' row) (hr : ∀ k, row = some k → S k ∨ a.heap.size ≤ k) : Chg S a w' :=
  ⟨hg.os.trans h.os, hg.tape.trans h.tape, hg.output.trans h.output, Nat.le_trans h.size hg.size, fun i hi hn => by
    refine (hg.block i (Nat.lt_of_lt_of_le hi h.size) (fun e => ?_)).trans (h.block i hi hn)
    rcases hr i e.symm with h1 | h1
    · exact hn h1
    · omega⟩
/-- Nothing that lay has turned. -/
theorem Chg.none {w w' : World} (h : Below w.heap.size w w') (S : Blk) : Chg S w w' := ⟨h.os, h.tape, h.output, h.size, fun k hk _ => h.block k hk⟩
theorem Chg.same {S : Blk} {w w' : World} (h : Chg S w w') {k : Nat} {o : Obj} (hk : w.heap[k]? = some o) (hn : ¬ S k) : w'.heap[k]? = some o :=
  (h.block k (Array.getElem?_eq_some_iff.1 hk).1 hn).trans hk
theorem Chg.boxed {S : Blk} {w w' : World} (h : Chg S w w') {B : Nat} {t : TypeId} {v : Value} (hb : Boxed w B t v) (hn : ¬ S B) : Boxed w' B t v := h.same hb hn

/-- A statement on the world that speaks of its own blocks alone. -/
structure Part (J : Blk → World → Prop) : Prop where
  lt : ∀ {S W}, J S W → ∀ k, S k → k < W.heap.size
  kept : ∀ {S W W'}, J S W → W.heap.size ≤ W'.heap.size → (∀ k, S k → W'.heap[k]? = W.heap[k]?) → J S W'

theorem Part.chg {J : Blk → World → Prop} (hJ : Part J) {S T : Blk} {W W' : World} (h : J S W) (c : Chg T W W') (hd : ∀ k, S k → ¬ T k) : J S W' :=
  hJ.kept h c.size (fun k hk => c.block k (hJ.lt h k hk) (hd k hk))

theorem Part.ex {β : Type} {J : β → Blk → World → Prop} (h : ∀ b, Part (J b)) : Part (fun S W => ∃ b, J b S W) :=
  ⟨fun ⟨b, hb⟩ => (h b).lt hb, fun ⟨b, hb⟩ hs hk => ⟨b, (h b).kept hb hs hk⟩⟩
theorem Part.andP {J : Blk → World → Prop} (h : Part J) (p : Prop) : Part (fun S W => J S W ∧ p) :=
  ⟨fun hb => h.lt hb.1, fun hb hs hk => ⟨h.kept hb.1 hs hk, hb.2⟩⟩
theorem Part.false : Part (fun _ _ => False) := ⟨fun h => h.elim, fun h _ _ => h.elim⟩

/-- At an adapter's end: what has turned. -/
theorem endChg {M' S S2 Ms : Blk} {W W1 W9 : World} (c1 : Chg (fun _ => False) W W1) (hc : Chg (fun k => Ms k ∨ S2 k) W1 W9) (h : ∀ k, k < W.heap.size → Ms k ∨ S2 k → ¬ (M' k ∨ S k) → W9.heap[k]? = W.heap[k]?)
    {d : Nat} (hd : W.heap.size ≤ d) (o : Obj) : Chg (fun k => M' k ∨ S k) W (W9.putObj d o) :=
  Chg.putObj ⟨hc.os.trans c1.os, hc.tape.trans c1.tape, hc.output.trans c1.output, Nat.le_trans c1.size hc.size, fun k hk hn => by
    by_cases e : Ms k ∨ S2 k
    · exact h k hk e hn
    · exact (hc.block k (Nat.lt_of_lt_of_le hk c1.size) e).trans (c1.block k hk (fun h => h))⟩ (.inr hd) o
/-- And what is owned. -/
theorem endGrew {S S2 S2' So : Blk} {W W1 : World} (hs : W.heap.size ≤ W1.heap.size) (hg : Grew S2 W1 S2') (h1 : ∀ k, So k → S2' k) (h : ∀ k, k < W.heap.size → So k → S2 k → S k) : Grew S W So := fun k hk => by
  by_cases e : k < W.heap.size
  · rcases hg k (h1 k hk) with h2 | h2
    · exact .inl (h k e hk h2)
    · omega
  · exact .inr (by omega)

/-- AN ITERATOR'S WORD. What it tells: xs, from the beginning; a round may stop it. D: the blocks that it leans on; M: those of them that it may turn; I0: what holds of them ahead; I: what holds when a list has been told. -/
structure Iter {α : Type} (P : Program) (gf : Nat) (lb : Array Value) (encs : α → Array Value) (xs : List α) (D M : Blk) (I0 : World → Prop) (I : List α → World → Prop) : Prop where
  sub : ∀ k, M k → D k
  lt0 : ∀ {W}, I0 W → ∀ k, D k → k < W.heap.size
  kept0 : ∀ {W W'}, I0 W → W.heap.size ≤ W'.heap.size → (∀ k, D k → W'.heap[k]? = W.heap[k]?) → I0 W'
  kept : ∀ {pre W W'}, I pre W → W.heap.size ≤ W'.heap.size → (∀ k, D k → W'.heap[k]? = W.heap[k]?) → I pre W'
  runs : ∀ (l : Nat) (J Jx : List α → Blk → World → Prop) (S : Blk) (W : World), (∀ pre, Part (J pre)) → (∀ pre, Part (Jx pre)) →
    (∀ pre x S W, pre ++ [x] <+: xs → J pre S W → YieldAt Fence.wide 0 P l (encs x) W fun e W' => ∃ S', Chg S W W' ∧ Grew S W S' ∧
      ((e = .returned (.bool true) ∧ J (pre ++ [x]) S' W') ∨ (e = .returned (.bool false) ∧ Jx (pre ++ [x]) S' W'))) →
    I0 W → J [] S W → (∀ k, D k → ¬ S k) →
    CallsIn Fence.wide 0 P gf (#[.func (.yield l) #[] #[]] ++ lb) W fun e W' => (∃ v, e = .returned v) ∧ ∃ ys S',
      ((ys = xs ∧ J ys S' W') ∨ (ys <+: xs ∧ Jx ys S' W')) ∧ I ys W' ∧ Chg (fun k => M k ∨ S k) W W' ∧ Grew S W S'

theorem inR {n : Nat} {P : Program} {l : Nat} {f : FuncId} {tmps : Array Value} {assign body : Code} {w : World} {R : Ending → World → Prop} (r : Nat) (h : RoundIn Fence.wide n P l f tmps assign body w R) : RoundIn (Fence.wide.inRound r) n P l f tmps assign body w R := h

/-- How the body of a round may be left. -/
def rndPost {α : Type} (K : List α → Blk → World → Prop) (Kx : Code → List α → Blk → World → Prop) (pre : List α) (S : Blk) (W : World) : Exit → Act → World → Prop
  | .normal, _, W' => ∃ S', Chg S W W' ∧ Grew S W S' ∧ K pre S' W'
  | .ret, _, W' => ∃ S', Chg S W W' ∧ Grew S W S' ∧ Kx .ret pre S' W'
  | .exit id, _, W' => ∃ S', Chg S W W' ∧ Grew S W S' ∧ Kx (.exit id) pre S' W'
  | .goto t, _, W' => ∃ S', Chg S W W' ∧ Grew S W S' ∧ Kx (.goto t) pre S' W'
  | .panic _, _, _ => False
  | .outgrown, _, _ => False

set_option maxHeartbeats 1000000 in
/-- **'for x := range g { .. }', outermost in its function.** -/
theorem wpIn_range {α : Type} {P : Program} {g : Operand} {ps : Array Tmp} {assign body : Code} {Q : Exit → Act → World → Prop} {a : Act} {w : World}
    {gf : Nat} {lb : Array Value} (hg : a.eval g = .func (.func gf) #[] lb) (eg : ∀ args w, (callFunc gf args).run P w = .ok (.enter gf args) w)
    {encs : α → Array Value} {xs : List α} {D M : Blk} {I0 : World → Prop} {I : List α → World → Prop} (it : Iter P gf lb encs xs D M I0 I) (hps : ∀ x, (encs x).size = ps.size)
    (K : List α → Blk → World → Prop) (Kx : Code → List α → Blk → World → Prop) (hK : ∀ pre, Part (K pre)) (hKx : ∀ c pre, Part (Kx c pre))
    {S : Blk} (hI : I0 w) (h0 : K [] S w) (hDS : ∀ k, D k → ¬ S k) (a₁ : α → Act)
    (hassign : ∀ (l : Nat) (x : α) (W : World) (R : Act → World → Prop), R (a₁ x) W →
      assign.wpIn (Fence.wide.inRound l) 0 P (Exit.then R (fun _ _ _ => False)) { tmps := (ps.zip (encs x)).foldl (fun t (p, v) => t.setIfInBounds p v) a.tmps, defers := [] } W)
    (hbody : ∀ (l : Nat) (pre : List α) (x : α) (S : Blk) (W : World), pre ++ [x] <+: xs → K pre S W → body.wpIn (Fence.wide.inRound l) 0 P (rndPost K Kx (pre ++ [x]) S W) (a₁ x) W)
    (hdone : ∀ (d : Nat) (S' : Blk) (W : World), w.heap.size ≤ d → K xs S' W → I xs W → Chg (fun k => M k ∨ S k) w W → Grew S w S' → W.heap[d]? = some (.deferred (some [])) → ¬ S' d →
      Q .normal { a with defers := { target := .collected d, args := #[] } :: a.defers } W)
    (hstop : ∀ (d : Nat) (c : Code) (pre : List α) (S' : Blk) (W : World), w.heap.size ≤ d → pre <+: xs → Kx c pre S' W → I pre W → Chg (fun k => M k ∨ S k) w W → Grew S w S' → W.heap[d]? = some (.deferred (some [])) → ¬ S' d →
      c.wpIn Fence.wide 0 P Q { a with defers := { target := .collected d, args := #[] } :: a.defers } W) :
    (Code.rangeFunc g ps assign body).wpIn Fence.wide 0 P Q a w := by
  refine wpIn_rangeFunc ?_
  intro fn hfn
  rw [show Fence.wide.round = none from rfl]
  obtain ⟨rec, hrec⟩ : ∃ rec : LoopState → Option Code → Loop, rec = fun st pe => { state := st, pending := pe, fn, tmps := a.tmps, params := ps, assign, body, defers := w.heap.size } := ⟨_, rfl⟩
  obtain ⟨W1, hW1⟩ : ∃ W1, (w.alloc (.deferred (some []))).alloc (.loop (rec .ready none)) = W1 := ⟨_, rfl⟩
  have hL1 : W1.heap[w.heap.size + 1]? = some (.loop (rec .ready none)) := by
    rw [← hW1]; have := World.alloc_heap_new (w.alloc (.deferred (some []))) (.loop (rec .ready none)); rwa [World.size_alloc] at this
  have hK1 : W1.heap[w.heap.size]? = some (.deferred (some [])) := by
    rw [← hW1]; exact (Below.heap_alloc _ _ _ (by simp)).trans (World.alloc_heap_new w _)
  have hc1 : Chg (fun _ => False) w W1 := by rw [← hW1]; exact ((Chg.refl _ w).alloc _).alloc _
  have hI1 : I0 W1 := it.kept0 hI hc1.size (fun k hk => hc1.block k (it.lt0 hI k hk) (fun h => h))
  have h01 : K [] S W1 := (hK []).chg h0 hc1 (fun _ _ h => h)
  have hS1 : ∀ k, S k → k < w.heap.size := fun k hk => (hK []).lt h0 k hk
  refine ⟨w.heap.size + 1, [{ target := .collected w.heap.size, args := #[] }], W1, { target := .fn (.func gf) lb, args := #[.func (.yield (w.heap.size + 1)) #[] #[]] }, W1, gf,
    #[.func (.yield (w.heap.size + 1)) #[] #[]] ++ lb, W1, ?_, ?_, ?_, ?_, (fun h => absurd h (by decide)), ?_⟩
  · rw [← hW1, hrec]; exact run_enterLoop_outer _ _ _ _ _
  · simp only [resolve, hg]
    simp [go_sem]
  · intro f' _; trivial
  · simp [invoke, go_sem, eg]
  · -- the consumer's part: its own, the record and the block for deferred calls
    let J : List α → Blk → World → Prop := fun pre S₂ W => ∃ S', S₂ = (fun k => S' k ∨ k = w.heap.size ∨ k = w.heap.size + 1) ∧ K pre S' W ∧ ¬ S' w.heap.size ∧ ¬ S' (w.heap.size + 1) ∧
      W.heap[w.heap.size + 1]? = some (.loop (rec .ready none)) ∧ W.heap[w.heap.size]? = some (.deferred (some []))
    let Jx : List α → Blk → World → Prop := fun pre S₂ W => ∃ c S', S₂ = (fun k => S' k ∨ k = w.heap.size ∨ k = w.heap.size + 1) ∧ Kx c pre S' W ∧ ¬ S' w.heap.size ∧ ¬ S' (w.heap.size + 1) ∧
      W.heap[w.heap.size + 1]? = some (.loop (rec .done (some c))) ∧ W.heap[w.heap.size]? = some (.deferred (some []))
    have pJ : ∀ pre, Part (J pre) := fun pre =>
      ⟨by
        rintro S₂ W ⟨S', rfl, k1, _, _, hl, hd⟩ k (hk | hk | hk)
        · exact (hK pre).lt k1 k hk
        · subst hk; exact (Array.getElem?_eq_some_iff.1 hd).1
        · subst hk; exact (Array.getElem?_eq_some_iff.1 hl).1,
       by
        rintro S₂ W W' ⟨S', rfl, k1, n1, n2, hl, hd⟩ hs hk
        exact ⟨S', rfl, (hK pre).kept k1 hs (fun k h => hk k (.inl h)), n1, n2, (hk _ (.inr (.inr rfl))).trans hl, (hk _ (.inr (.inl rfl))).trans hd⟩⟩
    have pJx : ∀ pre, Part (Jx pre) := fun pre =>
      ⟨by
        rintro S₂ W ⟨c, S', rfl, k1, _, _, hl, hd⟩ k (hk | hk | hk)
        · exact (hKx c pre).lt k1 k hk
        · subst hk; exact (Array.getElem?_eq_some_iff.1 hd).1
        · subst hk; exact (Array.getElem?_eq_some_iff.1 hl).1,
       by
        rintro S₂ W W' ⟨c, S', rfl, k1, n1, n2, hl, hd⟩ hs hk
        exact ⟨c, S', rfl, (hKx c pre).kept k1 hs (fun k h => hk k (.inl h)), n1, n2, (hk _ (.inr (.inr rfl))).trans hl, (hk _ (.inr (.inl rfl))).trans hd⟩⟩
    have hns : ¬ S w.heap.size := fun h => by have := hS1 _ h; omega
    have hns1 : ¬ S (w.heap.size + 1) := fun h => by have := hS1 _ h; omega
    refine (it.runs (w.heap.size + 1) J Jx (fun k => S k ∨ k = w.heap.size ∨ k = w.heap.size + 1) W1 pJ pJx ?_ hI1 ⟨S, rfl, h01, hns, hns1, hL1, hK1⟩ ?_).mono ?_
    · -- one round
      rintro pre x S₂ W hpre ⟨S', rfl, k1, n1, n2, hl, hd⟩
      have hlt : w.heap.size + 1 < W.heap.size := (Array.getElem?_eq_some_iff.1 hl).1
      have hy := run_yield (P := P) (args := encs x) hl (by rw [hrec]; exact hps x)
      rw [hrec] at hy
      refine ⟨fn, _, assign, body, hy, roundIn_of_wpIn hfn (hassign _ x W _ ⟨_, run_beginRound hl (by rw [hrec]), ?_⟩)⟩
      clear hy
      have hl2 : (W.putObj (w.heap.size + 1) (.loop { rec .ready none with state := .busy })).heap[w.heap.size + 1]? = some (.loop { rec .ready none with state := .busy }) := World.putObj_heap_same hlt
      have hd2 : (W.putObj (w.heap.size + 1) (.loop { rec .ready none with state := .busy })).heap[w.heap.size]? = some (.deferred (some [])) := (World.putObj_heap_other (by omega)).trans hd
      have c2 : Chg (fun k => k = w.heap.size + 1) W (W.putObj (w.heap.size + 1) (.loop { rec .ready none with state := .busy })) := Chg.put1 _ _ _
      have k2 : K pre S' (W.putObj (w.heap.size + 1) (.loop { rec .ready none with state := .busy })) := (hK pre).chg k1 c2 (fun k hk e => n2 (e ▸ hk))
      refine wpIn_mono (hbody _ pre x S' _ hpre k2) ?_
      have fin : ∀ (jump : Option Code) (S3 : Blk) (W3 : World), Chg S' (W.putObj (w.heap.size + 1) (.loop { rec .ready none with state := .busy })) W3 → Grew S' (W.putObj (w.heap.size + 1) (.loop { rec .ready none with state := .busy })) S3 →
          (Instr.endRound (w.heap.size + 1) jump).run P W3 = .ok (.bool jump.isNone) (W3.putObj (w.heap.size + 1) (.loop (rec (if jump.isNone then .ready else .done) jump))) ∧
          (W3.putObj (w.heap.size + 1) (.loop (rec (if jump.isNone then .ready else .done) jump))).heap[w.heap.size + 1]? = some (.loop (rec (if jump.isNone then .ready else .done) jump)) ∧
          (W3.putObj (w.heap.size + 1) (.loop (rec (if jump.isNone then .ready else .done) jump))).heap[w.heap.size]? = some (.deferred (some [])) ∧
          Chg (fun k => k = w.heap.size + 1) W3 (W3.putObj (w.heap.size + 1) (.loop (rec (if jump.isNone then .ready else .done) jump))) ∧
          ¬ S3 w.heap.size ∧ ¬ S3 (w.heap.size + 1) ∧
          Chg (fun k => S' k ∨ k = w.heap.size ∨ k = w.heap.size + 1) W (W3.putObj (w.heap.size + 1) (.loop (rec (if jump.isNone then .ready else .done) jump))) ∧
          Grew (fun k => S' k ∨ k = w.heap.size ∨ k = w.heap.size + 1) W (fun k => S3 k ∨ k = w.heap.size ∨ k = w.heap.size + 1) := fun jump S3 W3 c3 g3 => by
        have hl3 := c3.same hl2 n2
        have hd3 := c3.same hd2 n1
        have hr := run_endRound (P := P) jump hl3
        have g3' : Grew S' W S3 := fun k hk => by have := g3 k hk; simpa using this
        rw [hrec] at hr ⊢
        refine ⟨hr, World.putObj_heap_same (Array.getElem?_eq_some_iff.1 hl3).1, (World.putObj_heap_other (by omega)).trans hd3, Chg.put1 _ _ _, ?_, ?_, ?_, ?_⟩
        · intro h; rcases g3' _ h with h1 | h1
          · exact n1 h1
          · omega
        · intro h; rcases g3' _ h with h1 | h1
          · exact n2 h1
          · omega
        · refine Chg.putObj (Chg.trans (S' := S') (c2.mono (fun k hk => .inr (.inr hk))) c3 (fun k hk => .inl (.inl hk))) (.inl (.inr (.inr rfl))) _
        · rintro k (hk | hk | hk)
          · rcases g3' k hk with h1 | h1
            · exact .inl (.inl h1)
            · exact .inr h1
          · exact .inl (.inr (.inl hk))
          · exact .inl (.inr (.inr hk))
      rintro e a3 W3 hp
      cases e with
      | normal =>
        obtain ⟨S3, c3, g3, k3⟩ := hp
        obtain ⟨hr, hl4, hd4, c4, m1, m2, cc, gg⟩ := fin none S3 W3 c3 g3
        exact ⟨_, _, hr, _, cc, gg, .inl ⟨rfl, S3, rfl, (hK _).chg k3 c4 (fun k hk e => m2 (e ▸ hk)), m1, m2, hl4, hd4⟩⟩
      | ret =>
        obtain ⟨S3, c3, g3, k3⟩ := hp
        obtain ⟨hr, hl4, hd4, c4, m1, m2, cc, gg⟩ := fin (some .ret) S3 W3 c3 g3
        exact ⟨_, _, hr, _, cc, gg, .inr ⟨rfl, .ret, S3, rfl, (hKx _ _).chg k3 c4 (fun k hk e => m2 (e ▸ hk)), m1, m2, hl4, hd4⟩⟩
      | exit id =>
        obtain ⟨S3, c3, g3, k3⟩ := hp
        obtain ⟨hr, hl4, hd4, c4, m1, m2, cc, gg⟩ := fin (some (.exit id)) S3 W3 c3 g3
        exact ⟨_, _, hr, _, cc, gg, .inr ⟨rfl, .exit id, S3, rfl, (hKx _ _).chg k3 c4 (fun k hk e => m2 (e ▸ hk)), m1, m2, hl4, hd4⟩⟩
      | goto t =>
        obtain ⟨S3, c3, g3, k3⟩ := hp
        obtain ⟨hr, hl4, hd4, c4, m1, m2, cc, gg⟩ := fin (some (.goto t)) S3 W3 c3 g3
        exact ⟨_, _, hr, _, cc, gg, .inr ⟨rfl, .goto t, S3, rfl, (hKx _ _).chg k3 c4 (fun k hk e => m2 (e ▸ hk)), m1, m2, hl4, hd4⟩⟩
      | panic ch => exact hp.elim
      | outgrown => exact hp.elim
    · rintro k hk (h | h | h)
      · exact hDS k hk h
      · have := it.lt0 hI k hk; omega
      · have := it.lt0 hI k hk; omega
    · -- behind the iterator
      have gs : ∀ {S' : Blk}, Grew (fun k => S k ∨ k = w.heap.size ∨ k = w.heap.size + 1) W1 (fun k => S' k ∨ k = w.heap.size ∨ k = w.heap.size + 1) → Grew S w S' := fun g k hk => by
        rcases g k (.inl hk) with (h | h | h) | h
        · exact .inl h
        · exact .inr (by omega)
        · exact .inr (by omega)
        · exact .inr (Nat.le_trans hc1.size h)
      have cs : ∀ {W2 : World} (o : Obj), Chg (fun k => M k ∨ S k ∨ k = w.heap.size ∨ k = w.heap.size + 1) W1 W2 → Chg (fun k => M k ∨ S k) w (W2.putObj (w.heap.size + 1) o) := fun o c => by
        refine Chg.putObj ?_ (.inr (by omega)) _
        refine Chg.trans (hc1.mono (fun _ h => h.elim)) c (fun k hk => ?_)
        rcases hk with h | h | h | h
        · exact .inl (.inl h)
        · exact .inl (.inr h)
        · exact .inr (by omega)
        · exact .inr (by omega)
      rintro e W2 ⟨⟨v, rfl⟩, ys, S₂, (⟨rfl, S', rfl, k1, n1, n2, hl, hd⟩ | ⟨hpre, c, S', rfl, k1, n1, n2, hl, hd⟩), hi, hc, hgr⟩
      · have c5 : Chg (fun k => k = w.heap.size + 1) W2 (W2.putObj (w.heap.size + 1) (.loop { rec .ready none with state := .exhausted })) := Chg.put1 _ _ _
        have hnD : ¬ D (w.heap.size + 1) := fun h => by have := it.lt0 hI _ h; omega
        refine ⟨none, _, by have := run_endLoop (P := P) hl (by rw [hrec]; simp); rw [hrec] at this; exact this, ?_⟩
        rw [hrec] at c5
        have cs' := cs (.loop { rec .ready none with state := .exhausted }) hc
        rw [hrec] at cs'
        exact hdone _ S' _ (Nat.le_refl _) ((hK _).chg k1 c5 (fun k hk e => n2 (e ▸ hk))) (it.kept hi c5.size (fun k hk => World.putObj_heap_other (fun e => hnD (e ▸ hk)))) cs' (gs hgr) ((World.putObj_heap_other (by omega)).trans hd) n1
      · have c5 : Chg (fun k => k = w.heap.size + 1) W2 (W2.putObj (w.heap.size + 1) (.loop { rec .done (some c) with state := .exhausted })) := Chg.put1 _ _ _
        have hnD : ¬ D (w.heap.size + 1) := fun h => by have := it.lt0 hI _ h; omega
        refine ⟨some c, _, by have := run_endLoop (P := P) hl (by rw [hrec]; simp); rw [hrec] at this; exact this, ?_⟩
        rw [hrec] at c5
        have cs' := cs (.loop { rec .done (some c) with state := .exhausted }) hc
        rw [hrec] at cs'
        exact hstop _ c ys S' _ (Nat.le_refl _) hpre ((hKx _ _).chg k1 c5 (fun k hk e => n2 (e ▸ hk))) (it.kept hi c5.size (fun k hk => World.putObj_heap_other (fun e => hnD (e ▸ hk)))) cs' (gs hgr) ((World.putObj_heap_other (by omega)).trans hd) n1

end Go.SeqLib

end
section
-- Base
namespace Go.Proofs.YtakbeololabmhaaGreatDoor
open Go.RowKit Go.Shelf Go.SeqLib

/-- A number, as yield takes it. -/
abbrev encI (x : Int) : Array Value := #[.int .i64 x]

/-- A slice that reads as numbers. -/
def SlI (W : World) (v : Value) (zs : List Int) : Prop :=
  ∃ p cap, v = .slice p zs.length cap ∧ zs.length ≤ cap ∧ cap ≤ maxLen ∧ ∀ i x, zs[i]? = some x → ∃ b off, p = some ⟨b, off, none⟩ ∧ W.cell? ⟨b, off + i, none⟩ = some (.int .i64 x)

/-- The block that it leans on. -/
def slD (v : Value) (zs : List Int) : Blk := fun k => zs ≠ [] ∧ v.ownBlock = some k

theorem SlI.lt {W : World} {v : Value} {zs : List Int} (h : SlI W v zs) : ∀ k, slD v zs k → k < W.heap.size := by
  obtain ⟨p, cap, rfl, _, _, hc⟩ := h
  rintro k ⟨hz, hk⟩
  cases zs with
  | nil => exact absurd rfl hz
  | cons x r =>
    obtain ⟨b, off, rfl, hcell⟩ := hc 0 x rfl
    simp [Value.ownBlock] at hk
    subst hk
    exact World.block_lt_of_cell? W _ hcell

theorem SlI.kept {W W' : World} {v : Value} {zs : List Int} (h : SlI W v zs) (hk : ∀ k, slD v zs k → W'.heap[k]? = W.heap[k]?) : SlI W' v zs := by
  obtain ⟨p, cap, rfl, h1, h2, hc⟩ := h
  refine ⟨p, cap, rfl, h1, h2, fun i x hi => ?_⟩
  obtain ⟨b, off, rfl, hcell⟩ := hc i x hi
  refine ⟨b, off, rfl, (World.cell?_of_block (a := ⟨b, off + i, none⟩) (hk b ⟨?_, rfl⟩)).trans hcell⟩
  rintro rfl
  simp at hi

theorem SlI.chg {W W' : World} {v : Value} {zs : List Int} (h : SlI W v zs) {S : Blk} (c : Chg S W W') (hd : ∀ k, slD v zs k → ¬ S k) : SlI W' v zs :=
  h.kept (fun k hk => c.block k (h.lt k hk) (hd k hk))

theorem SlI.nil (W : World) : SlI W (.slice none 0 0) [] := ⟨none, 0, rfl, Nat.le_refl _, Nat.zero_le _, by simp⟩

/-- What is owned reads so. -/
theorem SlI.ofRow {W : World} {base : Nat} {v : Value} {zs : List Int} (h : W.ownsRow base 3 1 v zs.length (zs.map (Value.int .i64))) : SlI W v zs := by
  have h' := h
  rcases h.2 with ⟨rfl, h0⟩ | ⟨g, cap, cur, rfl, hb, hg, hn, hm, hs, ht⟩
  · obtain rfl : zs = [] := List.length_eq_zero_iff.1 h0
    exact SlI.nil W
  · refine ⟨_, cap, rfl, hn, hm, fun i x hi => ⟨g, 0, rfl, ?_⟩⟩
    have := h'.cells (g := g) rfl i (.int .i64 x) (by simp [hi])
    have e : (⟨g, 0, none⟩ : Addr).add i = ⟨g, 0 + i, none⟩ := by unfold Addr.add; split <;> simp_all
    rwa [e] at this

/-- What a slice owns it owns where its block lies on. -/
theorem row_kept {W W' : World} {base : Nat} {e : TypeId} {v : Value} {n : Nat} {xs : List Value} (h : W.ownsRow base e 1 v n xs) (hk : ∀ k, v.ownBlock = some k → W'.heap[k]? = W.heap[k]?) : W'.ownsRow base e 1 v n xs := by
  refine ⟨h.1, ?_⟩
  rcases h.2 with hn | ⟨g, cap, cur, rfl, hb, hgg, rest⟩
  · exact .inl hn
  · exact .inr ⟨g, cap, cur, rfl, hb, (hk g rfl).trans hgg, rest⟩

section
variable {P : Program} {t : TypeId} {ps rs : Array TypeId} {vr : Bool}
theorem run_equalIn_func_nil (h : P.underlying t = some (.func ps rs vr)) (d : Nat) (f : Fn) (r c : Array Value) (w : World) :
    (Op.equalIn (d + 1) t (.func f r c) .nilFunc).run P w = .ok false w := by
  simp [Op.equalIn, run_underlying h]
/-- A function that is there is not nil. -/
theorem run_eql_func_nil (h : P.underlying t = some (.func ps rs vr)) (f : Fn) (r c : Array Value) (w : World) :
    (binOp .eql t (.func f r c) .nilFunc).run P w = .ok (.bool false) w := by
  simp only [binOp]
  simp [Op.equal, Op.maxDepth, run_equalIn_func_nil h 9999]
end

/-- The append law, at the operation, with where the new row lies. -/
theorem wpListIn_append_at {F : Fence} {n : Nat} {P : Program} (w : World) {ops : Array Oper} {rest : List Oper} {o : Oper} {a : Act} {Q : Exit → Act → World → Prop}
    (hg : o.guard = none) (s x : Operand) (t : TypeId) (hop : o.op = Op.call { callee := Callee.builtin Builtin.append, args := #[s, x], argTypes := #[t, t] })
    (base : Nat) (e : TypeId) (i : TypeInfo) (z : Value) (size bytes : Nat) (h1 : P.underlying t = some (.slice e)) (h2 : P.info? e = some i) (h3 : i.zero = some z) (h4 : i.size = size) (h5 : i.bytes = bytes) (h6 : z.cells.size = size) (h7 : 0 < size)
    (v : Value) (k : Nat) (xs : List Value) (hs : a.eval s = v) (hown : w.ownsRow base e size v k xs) (ad : Addr) (m c : Nat) (news : List Value) (hx : a.eval x = .slice (some ad) m c) (hn : news.length = m * size)
    (hc : ∀ j u, news[j]? = some u → w.cell? (ad.add j) = some u) (h1c : ∀ u ∈ news, u.oneCell' = true) (b1 : k + m ≤ maxLen) (b2 : (k + m) * bytes ≤ 140737488355328) (b3 : base ≤ w.heap.size)
    (hK : ∀ v' w', w'.ownsRow base e size v' (k + m) (xs ++ news) → w.grownBy w' v.ownBlock → (v' = .slice none 0 0 ↔ v = .slice none 0 0 ∧ m = 0) → (v'.ownBlock = v.ownBlock ∨ v'.ownBlock = some w.heap.size) → wpListIn F n P ops Q rest (a.put o.dst v') w') :
    wpListIn F n P ops Q (o :: rest) a w := by
  refine wpListIn_plain hg fun K hK' => ?_
  obtain ⟨v', w', hrun, r1, r2, r3, r4⟩ := run_append_own_at (P := P) w base t o.type e i z size bytes h1 h2 h3 h4 h5 h6 h7 v k xs hown ad m c news hn hc h1c b1 b2 b3
  unfold Oper.wpIn
  refine ⟨?_, ?_⟩
  · simp [Oper.about, hop, resolve, Target.leads, Sem.run_pure]
  · rw [Oper.semAt_plain F _ _ (by rw [hop]; intro c hc'; cases hc')]
    simp [execOp, hop, resolve, invoke, builtin, hs, hx, hrun, Result.andThen]
    exact hK' _ _ (hK v' w' r1 r2 r3 r4)

/-- A box that holds a slice which owns these. -/
def RowBox (B base : Nat) (t e : TypeId) (vals : List Value) : Blk → World → Prop := fun S W => ∃ v, S = (fun k => k = B ∨ v.ownBlock = some k) ∧ Boxed W B t v ∧ W.ownsRow base e 1 v vals.length vals

theorem RowBox.part (B base : Nat) (t e : TypeId) (vals : List Value) : Part (RowBox B base t e vals) := {
  lt := by
    rintro S W ⟨v, rfl, hb, hr⟩ k (rfl | h)
    · exact hb.lt
    · exact (hr.lt k h).2
  kept := by
    rintro S W W' ⟨v, rfl, hb, hr⟩ _ hk
    exact ⟨v, rfl, (hk _ (.inl rfl)).trans hb, row_kept hr (fun k h => hk k (.inr h))⟩ }

/-- One more is appended. -/
theorem RowBox.step {W w1 : World} {B base : Nat} {t e : TypeId} {v v' : Value} {vals : List Value} {x : Value} {tmp : Obj} (hv : Boxed W B t v) (hte : t ≠ e) (hrow : W.ownsRow base e 1 v vals.length vals)
    (hown' : w1.ownsRow base e 1 v' (vals.length + 1) (vals ++ [x])) (hgrow : (W.alloc tmp).grownBy w1 v.ownBlock) (hat : v'.ownBlock = v.ownBlock ∨ v'.ownBlock = some (W.alloc tmp).heap.size) :
    Boxed w1 B t v ∧ Boxed (w1.setCell ⟨B, 0, none⟩ v') B t v' ∧ (w1.setCell ⟨B, 0, none⟩ v').ownsRow base e 1 v' (vals ++ [x]).length (vals ++ [x]) ∧
      Chg (fun k => k = B ∨ v.ownBlock = some k) W (w1.setCell ⟨B, 0, none⟩ v') ∧ Grew (fun k => k = B ∨ v.ownBlock = some k) W (fun k => k = B ∨ v'.ownBlock = some k) := by
  have hv1 : Boxed w1 B t v := (hv.alloc tmp).kept hgrow (hv.not_row hte hrow)
  refine ⟨hv1, hv1.set v', ?_, ?_, ?_⟩
  · rw [List.length_append, List.length_singleton]
    exact hown'.kept (grownBy_setCell' w1 B v') (.inr (hv1.not_row hte hown').symm)
  · exact (((Chg.refl _ W).alloc tmp).grown hgrow (fun k e => .inl (.inr e))).setCell (p := ⟨B, 0, none⟩) (.inl (.inl rfl)) v'
  · rintro k (h | h)
    · exact .inl (.inl h)
    · rcases hat with h' | h'
      · exact .inl (.inr (h'.symm.trans h))
      · rw [h'] at h; simp at h; exact .inr (by omega)

end Go.Proofs.YtakbeololabmhaaGreatDoor

end
section
-- Cons
namespace Go.Proofs.YtakbeololabmhaaGreatDoor
open Go.RowKit Go.Shelf Go.SeqLib
attribute [local go_sem] Oper.semAt_some

theorem info3 : (Tryz.prog.info? 3).map (fun i => (i.zero, i.size, i.bytes)) = some (some (.int .i64 0), 1, 8) := by kernel_rfl

theorem rowBase {W : World} {b b' : Nat} {e : TypeId} {s : Nat} {v : Value} {n : Nat} {xs : List Value} (h : W.ownsRow b e s v n xs) (hb : b' ≤ b) : W.ownsRow b' e s v n xs := by
  refine ⟨h.1, ?_⟩
  rcases h.2 with hn | ⟨g, cap, cur, hv, hg, r⟩
  · exact .inl hn
  · exact .inr ⟨g, cap, cur, hv, Nat.le_trans hb hg, r⟩

set_option maxRecDepth 100000 in
set_option maxHeartbeats 1000000 in
theorem list_in {gs : Nat} {lbs : Array Value} {xs : List Int} {D M : Blk} {I0 : World → Prop} {I : List Int → World → Prop} (it : Iter Tryz.prog gs lbs encI xs D M I0 I) (eg : ∀ args w, (callFunc gs args).run Tryz.prog w = .ok (.enter gs args) w)
    (hlen : xs.length ≤ 1000000) (w : World) (hI : I0 w) :
    CallsIn Fence.wide 0 Tryz.prog 58 #[.func (.func gs) #[] lbs] w fun e w' => ∃ v, e = .returned v ∧ w'.ownsRow w.heap.size 3 1 v xs.length (xs.map (Value.int .i64)) ∧ I xs w' ∧ Chg M w w' := by
  obtain ⟨i0, hi, hz0, hz1, hz2⟩ := info_parts info3
  have hnil := fun w => run_eql_func_nil Tryz.underlying75 (.func gs) #[] lbs w
  refine callsIn_of_wp_marks Tryz.func58 rfl trivial ?_
  simp only [Tryz.ntmps58, List.size_toArray, List.length_cons, List.length_nil, Nat.reduceAdd, Nat.reduceSub, Array.replicate_succ, Array.replicate_zero, List.push_toArray, List.append_toArray, List.nil_append, List.cons_append]
  gi_wp2
  have bO := Boxed.new w 40 (.slice none 0 0)
  have c0 : Chg (fun _ => False) w (w.alloc (.cells #[.slice none 0 0] 40)) := (Chg.refl _ w).alloc _
  refine wpIn_range (gf := gs) (lb := lbs) rfl eg it (fun _ => rfl)
    (fun pre S W => RowBox w.heap.size w.heap.size 40 3 (pre.map (Value.int .i64)) S W ∧ w.heap.size ≤ W.heap.size) (fun _ _ _ _ => False) (fun pre => ⟨fun h => (RowBox.part _ _ _ _ _).lt h.1, fun h hs hk => ⟨(RowBox.part _ _ _ _ _).kept h.1 hs hk, Nat.le_trans h.2 hs⟩⟩) (fun _ _ => Part.false)
    (S := fun k => k = w.heap.size ∨ Value.ownBlock (.slice none 0 0) = some k) (it.kept0 hI c0.size (fun k hk => c0.block k (it.lt0 hI k hk) (fun h => h))) ⟨⟨_, rfl, bO, World.ownsRow_nil _ _ _ _⟩, c0.size⟩
    (fun k hk h => by
      rcases h with h | h
      · have := it.lt0 hI k hk; omega
      · cases h)
    (fun x => { tmps := #[.func (.func gs) #[] lbs, undef, .slice none 0 0, .pointer (some ⟨w.heap.size, 0, none⟩), .int .i64 x, .func (.func gs) #[] lbs, .bool false, .func (.func gs) #[] lbs, .int .i64 x, undef, undef, undef, undef, undef], defers := [] }) ?assign ?body ?done ?stop
  case assign =>
    intro l x W K hK
    gi_wp2
    exact hK
  case body =>
    rintro lr pre x S2 W hpre ⟨⟨v, rfl, hv, hrow⟩, hsz⟩
    have hc := hv.cell
    have hpl : pre.length + 1 ≤ 1000000 := by have := hpre.length_le; simp at this; omega
    have hml : (pre.map (Value.int .i64)).length + 1 ≤ 1000000 := by simpa using hpl
    have hmx : (pre.map (Value.int .i64)).length + 1 ≤ maxLen := by unfold maxLen; omega
    gi_wp2_with (gi_at_builtin; refine wpListIn_append_at _ rfl _ _ 40 rfl w.heap.size 3 i0 (.int .i64 0) 1 8 Tryz.underlying40 hi hz0 hz1 hz2 rfl (by decide) _ _ _ rfl (hrow.alloc _) ⟨W.heap.size, 0, none⟩ 1 1 [.int .i64 x] rfl rfl (cell_one_new _ _ _) (by simp [Value.oneCell']) hmx (by omega) (by simp; omega) ?_; intro v' w1 hown' hgrow _ hat; obtain ⟨g', cap', rfl⟩ := ownsRow_succ hown'; obtain ⟨hv1, hv2, hr2, hcg, hgw⟩ := RowBox.step hv (by decide) hrow hown' hgrow hat; have hc1 := hv1.cell; have hf1 := hv1.frozen)
    simp only [List.length_map] at hcg hgw hv2 hr2
    refine ⟨_, hcg, hgw, ⟨⟨_, rfl, hv2, ?_⟩, Nat.le_trans hsz hcg.size⟩⟩
    simpa using hr2
  case done =>
    rintro d S' W hd ⟨⟨v, rfl, hv, hrow⟩, hsz⟩ hI' hc hg hK hnd
    have hd' : w.heap.size + 1 ≤ d := by simpa using hd
    have hcl := hv.cell
    gi_wp2
    refine ⟨by simp, .inl ⟨_, _, rfl, run_takeDeferred hK, ?_⟩⟩
    refine ⟨_, results_tmp rfl _ _ _, v, rfl, ?_, it.kept hI' (by simp) (fun k hk => World.putObj_heap_other (by have := it.lt0 hI k hk; omega)), ?_⟩
    · have := ownsRow_putObj hrow (.deferred none) hK rfl
      simpa using this
    · refine ⟨hc.os, hc.tape, hc.output, by simpa using hsz, fun k hk hn => ?_⟩
      refine (World.putObj_heap_other (by omega)).trans ((hc.block k (by simp; omega) ?_).trans (c0.block k hk (fun h => h)))
      rintro (h | h | h)
      · exact hn h
      · omega
      · cases h
  case stop =>
    rintro d c pre S' W _ _ h
    exact h.elim

end Go.Proofs.YtakbeololabmhaaGreatDoor

end
section
-- RLib
namespace Go.TreeLib
open Go

/-! ### Bytes in order -/
theorem bl_irrefl : ∀ x : List UInt8, Op.bytesLess x x = false
  | [] => rfl
  | a :: x => by
    have ih := bl_irrefl x
    unfold Op.bytesLess
    simp [ih]
theorem bl_trans : ∀ x y z : List UInt8, Op.bytesLess x y = true → Op.bytesLess y z = true → Op.bytesLess x z = true
  | _, [], _, h, _ => by unfold Op.bytesLess at h; cases h
  | _, _ :: _, [], _, h => by unfold Op.bytesLess at h; cases h
  | [], _ :: _, _ :: _, _, _ => by unfold Op.bytesLess; rfl
  | a :: x, b :: y, c :: z, h1, h2 => by
    have ih := bl_trans x y z
    unfold Op.bytesLess at h1 h2 ⊢
    simp only [Bool.or_eq_true, Bool.and_eq_true, decide_eq_true_eq, beq_iff_eq] at h1 h2 ⊢
    rcases h1 with h1 | ⟨rfl, h1⟩
    · rcases h2 with h2 | ⟨rfl, h2⟩
      · exact .inl (UInt8.lt_trans h1 h2)
      · exact .inl h1
    · rcases h2 with h2 | ⟨rfl, h2⟩
      · exact .inl h2
      · exact .inr ⟨rfl, ih h1 h2⟩
theorem bl_tri : ∀ x y : List UInt8, Op.bytesLess x y = false → Op.bytesLess y x = false → x = y
  | [], [], _, _ => rfl
  | [], _ :: _, h, _ => by unfold Op.bytesLess at h; cases h
  | _ :: _, [], _, h => by unfold Op.bytesLess at h; cases h
  | a :: x, b :: y, h1, h2 => by
    have ih := bl_tri x y
    unfold Op.bytesLess at h1 h2
    simp only [Bool.or_eq_false_iff, decide_eq_false_iff_not] at h1 h2
    have hab : a = b := UInt8.le_antisymm (UInt8.not_lt.1 h2.1) (UInt8.not_lt.1 h1.1)
    subst hab
    rw [ih (by simpa using h1.2) (by simpa using h2.2)]

def lt (x y : ByteArray) : Bool := Op.bytesLess x.toList y.toList
theorem toList_inj {x y : ByteArray} (h : x.toList = y.toList) : x = y := by
  rw [Go.ByteArray.toList_eq, Go.ByteArray.toList_eq] at h
  cases x; cases y
  exact congrArg ByteArray.mk (Array.toList_inj.1 h)
theorem lt_irrefl (x : ByteArray) : lt x x = false := bl_irrefl _
theorem lt_trans {x y z : ByteArray} (h1 : lt x y = true) (h2 : lt y z = true) : lt x z = true := bl_trans _ _ _ h1 h2
theorem lt_tri {x y : ByteArray} (h1 : lt x y = false) (h2 : lt y x = false) : x = y := toList_inj (bl_tri _ _ h1 h2)
theorem lt_asymm {x y : ByteArray} (h : lt x y = true) : lt y x = false := by
  cases h2 : lt y x with
  | false => rfl
  | true => have := lt_trans h h2; rw [lt_irrefl] at this; cases this
theorem lt_ne {x y : ByteArray} (h : lt x y = true) : x ≠ y := by rintro rfl; rw [lt_irrefl] at h; cases h
/-! ### Files by rising paths -/
abbrev Fl := ByteArray × ByteArray
/-- No path ahead of a lesser one. -/
def Up (l : List Fl) : Prop := l.Pairwise (fun a b => lt b.1 a.1 = false)
def fil (p : ByteArray) (l : List Fl) : List Fl := l.filter (fun f => decide (f.1 = p))
theorem fil_app (p : ByteArray) (l m : List Fl) : fil p (l ++ m) = fil p l ++ fil p m := by unfold fil; rw [List.filter_append]
theorem fil_cons (p : ByteArray) (f : Fl) (l : List Fl) : fil p (f :: l) = if f.1 = p then f :: fil p l else fil p l := by
  unfold fil
  by_cases h : f.1 = p
  · rw [if_pos h, List.filter_cons_of_pos (by simpa using h)]
  · rw [if_neg h, List.filter_cons_of_neg (by simpa using h)]
theorem fil_nil_of {p : ByteArray} {l : List Fl} (h : ∀ f ∈ l, f.1 ≠ p) : fil p l = [] := by
  unfold fil
  rw [List.filter_eq_nil_iff]
  intro f hf
  simpa using h f hf
theorem mem_fil {p : ByteArray} {l : List Fl} {f : Fl} : f ∈ fil p l ↔ f ∈ l ∧ f.1 = p := by unfold fil; rw [List.mem_filter]; simp

/-- A list in order is known by what it holds at each path. -/
theorem up_unique : ∀ {l m : List Fl}, Up l → Up m → (∀ p, fil p l = fil p m) → l = m
  | [], [], _, _, _ => rfl
  | [], g :: m, _, _, h => by
    have := h g.1
    rw [fil_cons, if_pos rfl] at this
    cases this
  | f :: l, [], _, _, h => by
    have := h f.1
    rw [fil_cons, if_pos rfl] at this
    cases this
  | f :: l, g :: m, hl, hm, h => by
    unfold Up at hl hm
    rw [List.pairwise_cons] at hl hm
    have hfg : f.1 = g.1 := by
      have hf : f ∈ g :: m := by
        have := h f.1
        rw [fil_cons, if_pos rfl] at this
        exact (mem_fil.1 (this ▸ List.mem_cons_self)).1
      have hg : g ∈ f :: l := by
        have := h g.1
        rw [fil_cons g.1 g, if_pos rfl] at this
        exact (mem_fil.1 (this.symm ▸ List.mem_cons_self)).1
      have a1 : lt f.1 g.1 = false := by
        rcases List.mem_cons.1 hf with e | hf
        · rw [e, lt_irrefl]
        · exact hm.1 f hf
      have a2 : lt g.1 f.1 = false := by
        rcases List.mem_cons.1 hg with e | hg
        · rw [e, lt_irrefl]
        · exact hl.1 g hg
      exact lt_tri a1 a2
    have he := h f.1
    rw [fil_cons, if_pos rfl, fil_cons, if_pos hfg.symm] at he
    obtain ⟨rfl, _⟩ := List.cons.inj he
    rw [up_unique hl.2 hm.2 (fun p => by
      have := h p
      rw [fil_cons, fil_cons] at this
      split at this
      · exact (List.cons.inj this).2
      · exact this)]

/-! ### drop, put, get -/
def get (t : List Fl) (p : ByteArray) : Option ByteArray := (fil p t).head?.map (·.2)
theorem get_none {t : List Fl} {p : ByteArray} : get t p = none ↔ ∀ f ∈ t, f.1 ≠ p := by
  unfold get
  rw [Option.map_eq_none_iff, List.head?_eq_none_iff]
  constructor
  · intro h f hf e
    have : f ∈ fil p t := mem_fil.2 ⟨hf, e⟩
    rw [h] at this
    cases this
  · exact fil_nil_of
/-! ### Lists of which no path stands twice -/
def Once (t : List Fl) : Prop := t.Pairwise (fun a b => lt a.1 b.1 = true)
theorem Once.up {t : List Fl} (h : Once t) : Up t := h.imp (fun h => lt_asymm h)
theorem Once.fil {t : List Fl} (h : Once t) {f : Fl} (hf : f ∈ t) : fil f.1 t = [f] := by
  induction t with
  | nil => cases hf
  | cons g r ih =>
    unfold Once at h
    rw [List.pairwise_cons] at h
    rcases List.mem_cons.1 hf with rfl | hr
    · rw [fil_cons, if_pos rfl, fil_nil_of (fun x hx => (lt_ne (h.1 x hx)).symm)]
    · rw [fil_cons, if_neg (lt_ne (h.1 f hr)), ih h.2 hr]
theorem Once.get {t : List Fl} (h : Once t) {f : Fl} (hf : f ∈ t) : get t f.1 = some f.2 := by unfold TreeLib.get; rw [h.fil hf]; rfl
end Go.TreeLib

end
