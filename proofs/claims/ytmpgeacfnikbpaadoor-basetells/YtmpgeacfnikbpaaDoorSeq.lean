/-
  What an iterator promises whoever ranges over it, and a law for the statement 'for x := range s { .. }', for iterators and loop bodies that keep state of their own in cells: each party owns a set of blocks; a step of the one leaves the other's blocks as they lay.
  No program is named here.
-/
import Derived.RangeFuncNested
import Derived.RangeFuncBound
import Derived.RangeFuncLeaves
namespace Go.SeqLib
open Go Go.RowKit

/-- A set of blocks. -/
abbrev Blk := Nat → Prop

/-- From w to w' only blocks of S, and new ones, have turned. -/
structure Chg (S : Blk) (w w' : World) : Prop where
  os : w'.os = w.os
  tape : w'.tape = w.tape
  output : w'.output = w.output
  size : w.heap.size ≤ w'.heap.size
  block : ∀ k, k < w.heap.size → ¬ S k → w'.heap[k]? = w.heap[k]?

/-- S' is S with new blocks. -/
def Grew (S : Blk) (w : World) (S' : Blk) : Prop := ∀ k, S' k → S k ∨ w.heap.size ≤ k

theorem Grew.refl (S : Blk) (w : World) : Grew S w S := fun _ h => .inl h
theorem Grew.trans {S S' S'' : Blk} {a b : World} (h : Grew S a S') (k : Grew S' b S'') (hs : a.heap.size ≤ b.heap.size) : Grew S a S'' := fun i hi => by
  rcases k i hi with h1 | h1
  · exact h i h1
  · exact .inr (Nat.le_trans hs h1)

theorem Chg.refl (S : Blk) (w : World) : Chg S w w := ⟨rfl, rfl, rfl, Nat.le_refl _, fun _ _ _ => rfl⟩
theorem Chg.trans {S S' : Blk} {a b c : World} (h : Chg S a b) (k : Chg S' b c) (g : Grew S a S') : Chg S a c :=
  ⟨k.os.trans h.os, k.tape.trans h.tape, k.output.trans h.output, Nat.le_trans h.size k.size, fun i hi hn => by
    refine (k.block i (Nat.lt_of_lt_of_le hi h.size) (fun hs => ?_)).trans (h.block i hi hn)
    rcases g i hs with h1 | h1
    · exact hn h1
    · omega⟩
theorem Chg.mono {S S' : Blk} {a b : World} (h : Chg S a b) (hs : ∀ k, S k → S' k) : Chg S' a b :=
  ⟨h.os, h.tape, h.output, h.size, fun i hi hn => h.block i hi (fun x => hn (hs i x))⟩
/-- What is as it was need not be named. -/
theorem Chg.less {S S' : Blk} {a b : World} (h : Chg S a b) (hs : ∀ k, k < a.heap.size → S k → ¬ S' k → b.heap[k]? = a.heap[k]?) : Chg S' a b :=
  ⟨h.os, h.tape, h.output, h.size, fun i hi hn => by
    by_cases e : S i
    · exact hs i hi e hn
    · exact h.block i hi e⟩
theorem Chg.drew {S : Blk} {a w : World} (h : Chg S a w) : Chg S a w.drew := ⟨h.os, h.tape, h.output, h.size, h.block⟩
theorem Chg.alloc {S : Blk} {a w : World} (h : Chg S a w) (o : Obj) : Chg S a (w.alloc o) :=
  ⟨h.os, h.tape, h.output, by simp; have := h.size; omega, fun i hi hn => (Below.heap_alloc w o i (Nat.lt_of_lt_of_le hi h.size)).trans (h.block i hi hn)⟩
theorem Chg.setCell {S : Blk} {a w : World} (h : Chg S a w) {p : Addr} (hp : S p.block ∨ a.heap.size ≤ p.block) (u : Value) : Chg S a (w.setCell p u) :=
  ⟨h.os, h.tape, h.output, by simp [World.setCell]; exact h.size, fun i hi hn => (Below.heap_setCell w p u i (fun e => by subst e; rcases hp with hp | hp; exact hn hp; omega)).trans (h.block i hi hn)⟩
theorem Chg.putObj {S : Blk} {a w : World} (h : Chg S a w) {l : Nat} (hp : S l ∨ a.heap.size ≤ l) (o : Obj) : Chg S a (w.putObj l o) :=
  ⟨h.os, h.tape, h.output, by simp; exact h.size, fun i hi hn => (World.putObj_heap_other (fun e => by subst e; rcases hp with hp | hp; exact hn hp; omega)).trans (h.block i hi hn)⟩
theorem Chg.put1 (w : World) (l : Nat) (o : Obj) : Chg (fun k => k = l) w (w.putObj l o) := Chg.putObj (S := fun k => k = l) (Chg.refl _ w) (.inl rfl) o
theorem Chg.grown {S : Blk} {a w w' : World} {row : Option Nat} (h : Chg S a w) (hg : w.grownBy w' row) (hr : ∀ k, row = some k → S k ∨ a.heap.size ≤ k) : Chg S a w' :=
  ⟨hg.os.trans h.os, hg.tape.trans h.tape, hg.output.trans h.output, Nat.le_trans h.size hg.size, fun i hi hn => by
    refine (hg.block i (Nat.lt_of_lt_of_le hi h.size) (fun e => ?_)).trans (h.block i hi hn)
    rcases hr i e.symm with h1 | h1
    · exact hn h1
    · omega⟩
theorem Chg.below {w w' : World} {B : Nat} (h : Chg (fun k => B ≤ k) w w') (hB : B ≤ w.heap.size) : Below B w w' :=
  ⟨h.os, h.tape, h.output, h.size, fun k hk => h.block k (by omega) (by omega)⟩
theorem Chg.ofBelow {w w' : World} {B : Nat} (h : Below B w w') : Chg (fun k => B ≤ k) w w' :=
  ⟨h.os, h.tape, h.output, h.size, fun k _ hn => h.block k (by omega)⟩
/-- Nothing that lay has turned. -/
theorem Chg.none {w w' : World} (h : Below w.heap.size w w') (S : Blk) : Chg S w w' := ⟨h.os, h.tape, h.output, h.size, fun k hk _ => h.block k hk⟩
theorem Chg.same {S : Blk} {w w' : World} (h : Chg S w w') {k : Nat} {o : Obj} (hk : w.heap[k]? = some o) (hn : ¬ S k) : w'.heap[k]? = some o :=
  (h.block k (Array.getElem?_eq_some_iff.1 hk).1 hn).trans hk
theorem Chg.boxed {S : Blk} {w w' : World} (h : Chg S w w') {B : Nat} {t : TypeId} {v : Value} (hb : Boxed w B t v) (hn : ¬ S B) : Boxed w' B t v := h.same hb hn

/-- A statement on the world that speaks of its own blocks alone. -/
structure Part (J : Blk → World → Prop) : Prop where
  lt : ∀ {S W}, J S W → ∀ k, S k → k < W.heap.size
  kept : ∀ {S W W'}, J S W → W.heap.size ≤ W'.heap.size → (∀ k, S k → W'.heap[k]? = W.heap[k]?) → J S W'

theorem Part.chg {J : Blk → World → Prop} (hJ : Part J) {S T : Blk} {W W' : World} (h : J S W) (c : Chg T W W') (hd : ∀ k, S k → ¬ T k) : J S W' :=
  hJ.kept h c.size (fun k hk => c.block k (hJ.lt h k hk) (hd k hk))

/-- Two of them, apart. -/
def Star (J₁ J₂ : Blk → World → Prop) : Blk → World → Prop := fun S W => ∃ S₁ S₂, S = (fun k => S₁ k ∨ S₂ k) ∧ (∀ k, S₁ k → ¬ S₂ k) ∧ J₁ S₁ W ∧ J₂ S₂ W

theorem Part.star {J₁ J₂ : Blk → World → Prop} (h₁ : Part J₁) (h₂ : Part J₂) : Part (Star J₁ J₂) := {
  lt := by
    rintro S W ⟨S₁, S₂, rfl, _, j₁, j₂⟩ k (hk | hk)
    · exact h₁.lt j₁ k hk
    · exact h₂.lt j₂ k hk
  kept := by
    rintro S W W' ⟨S₁, S₂, rfl, hd, j₁, j₂⟩ hs hk
    exact ⟨S₁, S₂, rfl, hd, h₁.kept j₁ hs (fun k h => hk k (.inl h)), h₂.kept j₂ hs (fun k h => hk k (.inr h))⟩ }

/-- The first one steps, the second one stays. -/
theorem Star.step {J₁' J₂ : Blk → World → Prop} (h₂ : Part J₂) {S₁ S₂ S₁' : Blk} {W W' : World} (hd : ∀ k, S₁ k → ¬ S₂ k) (j₂ : J₂ S₂ W) (c : Chg S₁ W W') (g : Grew S₁ W S₁') (j₁' : J₁' S₁' W') :
    Star J₁' J₂ (fun k => S₁' k ∨ S₂ k) W' ∧ Chg (fun k => S₁ k ∨ S₂ k) W W' ∧ Grew (fun k => S₁ k ∨ S₂ k) W (fun k => S₁' k ∨ S₂ k) :=
  ⟨⟨S₁', S₂, rfl, fun k hk h2 => by
      rcases g k hk with h1 | h1
      · exact hd k h1 h2
      · have := h₂.lt j₂ k h2; omega, j₁', h₂.chg j₂ c (fun k h2 h1 => hd k h1 h2)⟩,
    c.mono (fun _ => .inl), fun k hk => by
      rcases hk with hk | hk
      · rcases g k hk with h1 | h1
        · exact .inl (.inl h1)
        · exact .inr h1
      · exact .inl (.inr hk)⟩

/-- A variable's box. -/
def Box (B : Nat) (t : TypeId) (v : Value) : Blk → World → Prop := fun S W => S = (fun k => k = B) ∧ Boxed W B t v
theorem Box.part (B : Nat) (t : TypeId) (v : Value) : Part (Box B t v) := {
  lt := by rintro S W ⟨rfl, h⟩ k hk; subst hk; exact h.lt
  kept := by rintro S W W' ⟨rfl, h⟩ _ hk; exact ⟨rfl, (hk B rfl).trans h⟩ }

/-- What holds of no block. -/
def Pure (p : Prop) : Blk → World → Prop := fun S _ => (∀ k, ¬ S k) ∧ p
theorem Pure.part (p : Prop) : Part (Pure p) := ⟨fun h k hk => (h.1 k hk).elim, fun h _ _ => h⟩

theorem Part.ex {β : Type} {J : β → Blk → World → Prop} (h : ∀ b, Part (J b)) : Part (fun S W => ∃ b, J b S W) :=
  ⟨fun ⟨b, hb⟩ => (h b).lt hb, fun ⟨b, hb⟩ hs hk => ⟨b, (h b).kept hb hs hk⟩⟩
theorem Part.andP {J : Blk → World → Prop} (h : Part J) (p : Prop) : Part (fun S W => J S W ∧ p) :=
  ⟨fun hb => h.lt hb.1, fun hb hs hk => ⟨h.kept hb.1 hs hk, hb.2⟩⟩
theorem Part.false : Part (fun _ _ => False) := ⟨fun h => h.elim, fun h _ _ => h.elim⟩

/-- At an adapter's end: what has turned. -/
theorem endChg {M' S S2 Ms : Blk} {W W1 W9 : World} (c1 : Chg (fun _ => False) W W1) (hc : Chg (fun k => Ms k ∨ S2 k) W1 W9) (h : ∀ k, k < W.heap.size → Ms k ∨ S2 k → ¬ (M' k ∨ S k) → W9.heap[k]? = W.heap[k]?)
    {d : Nat} (hd : W.heap.size ≤ d) (o : Obj) : Chg (fun k => M' k ∨ S k) W (W9.putObj d o) :=
  Chg.putObj ⟨hc.os.trans c1.os, hc.tape.trans c1.tape, hc.output.trans c1.output, Nat.le_trans c1.size hc.size, fun k hk hn => by
    by_cases e : Ms k ∨ S2 k
    · exact h k hk e hn
    · exact (hc.block k (Nat.lt_of_lt_of_le hk c1.size) e).trans (c1.block k hk (fun h => h))⟩ (.inr hd) o
/-- And what is owned. -/
theorem endGrew {S S2 S2' So : Blk} {W W1 : World} (hs : W.heap.size ≤ W1.heap.size) (hg : Grew S2 W1 S2') (h1 : ∀ k, So k → S2' k) (h : ∀ k, k < W.heap.size → So k → S2 k → S k) : Grew S W So := fun k hk => by
  by_cases e : k < W.heap.size
  · rcases hg k (h1 k hk) with h2 | h2
    · exact .inl (h k e hk h2)
    · omega
  · exact .inr (by omega)

/-- AN ITERATOR'S WORD. What it tells: xs, from the beginning; a round may stop it. D: the blocks that it leans on; M: those of them that it may turn; I0: what holds of them ahead; I: what holds when a list has been told. -/
structure Iter {α : Type} (P : Program) (gf : Nat) (lb : Array Value) (encs : α → Array Value) (xs : List α) (D M : Blk) (I0 : World → Prop) (I : List α → World → Prop) : Prop where
  sub : ∀ k, M k → D k
  lt0 : ∀ {W}, I0 W → ∀ k, D k → k < W.heap.size
  kept0 : ∀ {W W'}, I0 W → W.heap.size ≤ W'.heap.size → (∀ k, D k → W'.heap[k]? = W.heap[k]?) → I0 W'
  kept : ∀ {pre W W'}, I pre W → W.heap.size ≤ W'.heap.size → (∀ k, D k → W'.heap[k]? = W.heap[k]?) → I pre W'
  runs : ∀ (l : Nat) (J Jx : List α → Blk → World → Prop) (S : Blk) (W : World), (∀ pre, Part (J pre)) → (∀ pre, Part (Jx pre)) →
    (∀ pre x S W, pre ++ [x] <+: xs → J pre S W → YieldAt Fence.wide 0 P l (encs x) W fun e W' => ∃ S', Chg S W W' ∧ Grew S W S' ∧
      ((e = .returned (.bool true) ∧ J (pre ++ [x]) S' W') ∨ (e = .returned (.bool false) ∧ Jx (pre ++ [x]) S' W'))) →
    I0 W → J [] S W → (∀ k, D k → ¬ S k) →
    CallsIn Fence.wide 0 P gf (#[.func (.yield l) #[] #[]] ++ lb) W fun e W' => (∃ v, e = .returned v) ∧ ∃ ys S',
      ((ys = xs ∧ J ys S' W') ∨ (ys <+: xs ∧ Jx ys S' W')) ∧ I ys W' ∧ Chg (fun k => M k ∨ S k) W W' ∧ Grew S W S'

/-- A FUNCTION VALUE'S WORD: asked of x for the k-th time it answers res x; D: its blocks, which it may turn. -/
structure Fun1 {α : Type} (P : Program) (ff : Nat) (cap : Array Value) (arg res : α → Value) (D : Blk) (I : Nat → World → Prop) : Prop where
  lt : ∀ {k W}, I k W → ∀ b, D b → b < W.heap.size
  kept : ∀ {k W W'}, I k W → W.heap.size ≤ W'.heap.size → (∀ b, D b → W'.heap[b]? = W.heap[b]?) → I k W'
  runs : ∀ k x W, I k W → CallsIn Fence.wide 0 P ff (#[arg x] ++ cap) W fun e W' => e = .returned (res x) ∧ I (k + 1) W' ∧ Chg D W W'

theorem inR {n : Nat} {P : Program} {l : Nat} {f : FuncId} {tmps : Array Value} {assign body : Code} {w : World} {R : Ending → World → Prop} (r : Nat) (h : RoundIn Fence.wide n P l f tmps assign body w R) : RoundIn (Fence.wide.inRound r) n P l f tmps assign body w R := h

/-- How the body of a round may be left. -/
def rndPost {α : Type} (K : List α → Blk → World → Prop) (Kx : Code → List α → Blk → World → Prop) (pre : List α) (S : Blk) (W : World) : Exit → Act → World → Prop
  | .normal, _, W' => ∃ S', Chg S W W' ∧ Grew S W S' ∧ K pre S' W'
  | .ret, _, W' => ∃ S', Chg S W W' ∧ Grew S W S' ∧ Kx .ret pre S' W'
  | .exit id, _, W' => ∃ S', Chg S W W' ∧ Grew S W S' ∧ Kx (.exit id) pre S' W'
  | .goto t, _, W' => ∃ S', Chg S W W' ∧ Grew S W S' ∧ Kx (.goto t) pre S' W'
  | .panic _, _, _ => False
  | .outgrown, _, _ => False

set_option maxHeartbeats 1000000 in
/-- **'for x := range g { .. }', outermost in its function.** -/
theorem wpIn_range {α : Type} {P : Program} {g : Operand} {ps : Array Tmp} {assign body : Code} {Q : Exit → Act → World → Prop} {a : Act} {w : World}
    {gf : Nat} {lb : Array Value} (hg : a.eval g = .func (.func gf) #[] lb) (eg : ∀ args w, (callFunc gf args).run P w = .ok (.enter gf args) w)
    {encs : α → Array Value} {xs : List α} {D M : Blk} {I0 : World → Prop} {I : List α → World → Prop} (it : Iter P gf lb encs xs D M I0 I) (hps : ∀ x, (encs x).size = ps.size)
    (K : List α → Blk → World → Prop) (Kx : Code → List α → Blk → World → Prop) (hK : ∀ pre, Part (K pre)) (hKx : ∀ c pre, Part (Kx c pre))
    {S : Blk} (hI : I0 w) (h0 : K [] S w) (hDS : ∀ k, D k → ¬ S k) (a₁ : α → Act)
    (hassign : ∀ (l : Nat) (x : α) (W : World) (R : Act → World → Prop), R (a₁ x) W →
      assign.wpIn (Fence.wide.inRound l) 0 P (Exit.then R (fun _ _ _ => False)) { tmps := (ps.zip (encs x)).foldl (fun t (p, v) => t.setIfInBounds p v) a.tmps, defers := [] } W)
    (hbody : ∀ (l : Nat) (pre : List α) (x : α) (S : Blk) (W : World), pre ++ [x] <+: xs → K pre S W → body.wpIn (Fence.wide.inRound l) 0 P (rndPost K Kx (pre ++ [x]) S W) (a₁ x) W)
    (hdone : ∀ (d : Nat) (S' : Blk) (W : World), w.heap.size ≤ d → K xs S' W → I xs W → Chg (fun k => M k ∨ S k) w W → Grew S w S' → W.heap[d]? = some (.deferred (some [])) → ¬ S' d →
      Q .normal { a with defers := { target := .collected d, args := #[] } :: a.defers } W)
    (hstop : ∀ (d : Nat) (c : Code) (pre : List α) (S' : Blk) (W : World), w.heap.size ≤ d → pre <+: xs → Kx c pre S' W → I pre W → Chg (fun k => M k ∨ S k) w W → Grew S w S' → W.heap[d]? = some (.deferred (some [])) → ¬ S' d →
      c.wpIn Fence.wide 0 P Q { a with defers := { target := .collected d, args := #[] } :: a.defers } W) :
    (Code.rangeFunc g ps assign body).wpIn Fence.wide 0 P Q a w := by
  refine wpIn_rangeFunc ?_
  intro fn hfn
  rw [show Fence.wide.round = none from rfl]
  obtain ⟨rec, hrec⟩ : ∃ rec : LoopState → Option Code → Loop, rec = fun st pe => { state := st, pending := pe, fn, tmps := a.tmps, params := ps, assign, body, defers := w.heap.size } := ⟨_, rfl⟩
  obtain ⟨W1, hW1⟩ : ∃ W1, (w.alloc (.deferred (some []))).alloc (.loop (rec .ready none)) = W1 := ⟨_, rfl⟩
  have hL1 : W1.heap[w.heap.size + 1]? = some (.loop (rec .ready none)) := by
    rw [← hW1]; have := World.alloc_heap_new (w.alloc (.deferred (some []))) (.loop (rec .ready none)); rwa [World.size_alloc] at this
  have hK1 : W1.heap[w.heap.size]? = some (.deferred (some [])) := by
    rw [← hW1]; exact (Below.heap_alloc _ _ _ (by simp)).trans (World.alloc_heap_new w _)
  have hc1 : Chg (fun _ => False) w W1 := by rw [← hW1]; exact ((Chg.refl _ w).alloc _).alloc _
  have hI1 : I0 W1 := it.kept0 hI hc1.size (fun k hk => hc1.block k (it.lt0 hI k hk) (fun h => h))
  have h01 : K [] S W1 := (hK []).chg h0 hc1 (fun _ _ h => h)
  have hS1 : ∀ k, S k → k < w.heap.size := fun k hk => (hK []).lt h0 k hk
  refine ⟨w.heap.size + 1, [{ target := .collected w.heap.size, args := #[] }], W1, { target := .fn (.func gf) lb, args := #[.func (.yield (w.heap.size + 1)) #[] #[]] }, W1, gf,
    #[.func (.yield (w.heap.size + 1)) #[] #[]] ++ lb, W1, ?_, ?_, ?_, ?_, (fun h => absurd h (by decide)), ?_⟩
  · rw [← hW1, hrec]; exact run_enterLoop_outer _ _ _ _ _
  · simp only [resolve, hg]
    simp [go_sem]
  · intro f' _; trivial
  · simp [invoke, go_sem, eg]
  · -- the consumer's part: its own, the record and the block for deferred calls
    let J : List α → Blk → World → Prop := fun pre S₂ W => ∃ S', S₂ = (fun k => S' k ∨ k = w.heap.size ∨ k = w.heap.size + 1) ∧ K pre S' W ∧ ¬ S' w.heap.size ∧ ¬ S' (w.heap.size + 1) ∧
      W.heap[w.heap.size + 1]? = some (.loop (rec .ready none)) ∧ W.heap[w.heap.size]? = some (.deferred (some []))
    let Jx : List α → Blk → World → Prop := fun pre S₂ W => ∃ c S', S₂ = (fun k => S' k ∨ k = w.heap.size ∨ k = w.heap.size + 1) ∧ Kx c pre S' W ∧ ¬ S' w.heap.size ∧ ¬ S' (w.heap.size + 1) ∧
      W.heap[w.heap.size + 1]? = some (.loop (rec .done (some c))) ∧ W.heap[w.heap.size]? = some (.deferred (some []))
    have pJ : ∀ pre, Part (J pre) := fun pre =>
      ⟨by
        rintro S₂ W ⟨S', rfl, k1, _, _, hl, hd⟩ k (hk | hk | hk)
        · exact (hK pre).lt k1 k hk
        · subst hk; exact (Array.getElem?_eq_some_iff.1 hd).1
        · subst hk; exact (Array.getElem?_eq_some_iff.1 hl).1,
       by
        rintro S₂ W W' ⟨S', rfl, k1, n1, n2, hl, hd⟩ hs hk
        exact ⟨S', rfl, (hK pre).kept k1 hs (fun k h => hk k (.inl h)), n1, n2, (hk _ (.inr (.inr rfl))).trans hl, (hk _ (.inr (.inl rfl))).trans hd⟩⟩
    have pJx : ∀ pre, Part (Jx pre) := fun pre =>
      ⟨by
        rintro S₂ W ⟨c, S', rfl, k1, _, _, hl, hd⟩ k (hk | hk | hk)
        · exact (hKx c pre).lt k1 k hk
        · subst hk; exact (Array.getElem?_eq_some_iff.1 hd).1
        · subst hk; exact (Array.getElem?_eq_some_iff.1 hl).1,
       by
        rintro S₂ W W' ⟨c, S', rfl, k1, n1, n2, hl, hd⟩ hs hk
        exact ⟨c, S', rfl, (hKx c pre).kept k1 hs (fun k h => hk k (.inl h)), n1, n2, (hk _ (.inr (.inr rfl))).trans hl, (hk _ (.inr (.inl rfl))).trans hd⟩⟩
    have hns : ¬ S w.heap.size := fun h => by have := hS1 _ h; omega
    have hns1 : ¬ S (w.heap.size + 1) := fun h => by have := hS1 _ h; omega
    refine (it.runs (w.heap.size + 1) J Jx (fun k => S k ∨ k = w.heap.size ∨ k = w.heap.size + 1) W1 pJ pJx ?_ hI1 ⟨S, rfl, h01, hns, hns1, hL1, hK1⟩ ?_).mono ?_
    · -- one round
      rintro pre x S₂ W hpre ⟨S', rfl, k1, n1, n2, hl, hd⟩
      have hlt : w.heap.size + 1 < W.heap.size := (Array.getElem?_eq_some_iff.1 hl).1
      have hy := run_yield (P := P) (args := encs x) hl (by rw [hrec]; exact hps x)
      rw [hrec] at hy
      refine ⟨fn, _, assign, body, hy, roundIn_of_wpIn hfn (hassign _ x W _ ⟨_, run_beginRound hl (by rw [hrec]), ?_⟩)⟩
      clear hy
      have hl2 : (W.putObj (w.heap.size + 1) (.loop { rec .ready none with state := .busy })).heap[w.heap.size + 1]? = some (.loop { rec .ready none with state := .busy }) := World.putObj_heap_same hlt
      have hd2 : (W.putObj (w.heap.size + 1) (.loop { rec .ready none with state := .busy })).heap[w.heap.size]? = some (.deferred (some [])) := (World.putObj_heap_other (by omega)).trans hd
      have c2 : Chg (fun k => k = w.heap.size + 1) W (W.putObj (w.heap.size + 1) (.loop { rec .ready none with state := .busy })) := Chg.put1 _ _ _
      have k2 : K pre S' (W.putObj (w.heap.size + 1) (.loop { rec .ready none with state := .busy })) := (hK pre).chg k1 c2 (fun k hk e => n2 (e ▸ hk))
      refine wpIn_mono (hbody _ pre x S' _ hpre k2) ?_
      have fin : ∀ (jump : Option Code) (S3 : Blk) (W3 : World), Chg S' (W.putObj (w.heap.size + 1) (.loop { rec .ready none with state := .busy })) W3 → Grew S' (W.putObj (w.heap.size + 1) (.loop { rec .ready none with state := .busy })) S3 →
          (Instr.endRound (w.heap.size + 1) jump).run P W3 = .ok (.bool jump.isNone) (W3.putObj (w.heap.size + 1) (.loop (rec (if jump.isNone then .ready else .done) jump))) ∧
          (W3.putObj (w.heap.size + 1) (.loop (rec (if jump.isNone then .ready else .done) jump))).heap[w.heap.size + 1]? = some (.loop (rec (if jump.isNone then .ready else .done) jump)) ∧
          (W3.putObj (w.heap.size + 1) (.loop (rec (if jump.isNone then .ready else .done) jump))).heap[w.heap.size]? = some (.deferred (some [])) ∧
          Chg (fun k => k = w.heap.size + 1) W3 (W3.putObj (w.heap.size + 1) (.loop (rec (if jump.isNone then .ready else .done) jump))) ∧
          ¬ S3 w.heap.size ∧ ¬ S3 (w.heap.size + 1) ∧
          Chg (fun k => S' k ∨ k = w.heap.size ∨ k = w.heap.size + 1) W (W3.putObj (w.heap.size + 1) (.loop (rec (if jump.isNone then .ready else .done) jump))) ∧
          Grew (fun k => S' k ∨ k = w.heap.size ∨ k = w.heap.size + 1) W (fun k => S3 k ∨ k = w.heap.size ∨ k = w.heap.size + 1) := fun jump S3 W3 c3 g3 => by
        have hl3 := c3.same hl2 n2
        have hd3 := c3.same hd2 n1
        have hr := run_endRound (P := P) jump hl3
        have g3' : Grew S' W S3 := fun k hk => by have := g3 k hk; simpa using this
        rw [hrec] at hr ⊢
        refine ⟨hr, World.putObj_heap_same (Array.getElem?_eq_some_iff.1 hl3).1, (World.putObj_heap_other (by omega)).trans hd3, Chg.put1 _ _ _, ?_, ?_, ?_, ?_⟩
        · intro h; rcases g3' _ h with h1 | h1
          · exact n1 h1
          · omega
        · intro h; rcases g3' _ h with h1 | h1
          · exact n2 h1
          · omega
        · refine Chg.putObj (Chg.trans (S' := S') (c2.mono (fun k hk => .inr (.inr hk))) c3 (fun k hk => .inl (.inl hk))) (.inl (.inr (.inr rfl))) _
        · rintro k (hk | hk | hk)
          · rcases g3' k hk with h1 | h1
            · exact .inl (.inl h1)
            · exact .inr h1
          · exact .inl (.inr (.inl hk))
          · exact .inl (.inr (.inr hk))
      rintro e a3 W3 hp
      cases e with
      | normal =>
        obtain ⟨S3, c3, g3, k3⟩ := hp
        obtain ⟨hr, hl4, hd4, c4, m1, m2, cc, gg⟩ := fin none S3 W3 c3 g3
        exact ⟨_, _, hr, _, cc, gg, .inl ⟨rfl, S3, rfl, (hK _).chg k3 c4 (fun k hk e => m2 (e ▸ hk)), m1, m2, hl4, hd4⟩⟩
      | ret =>
        obtain ⟨S3, c3, g3, k3⟩ := hp
        obtain ⟨hr, hl4, hd4, c4, m1, m2, cc, gg⟩ := fin (some .ret) S3 W3 c3 g3
        exact ⟨_, _, hr, _, cc, gg, .inr ⟨rfl, .ret, S3, rfl, (hKx _ _).chg k3 c4 (fun k hk e => m2 (e ▸ hk)), m1, m2, hl4, hd4⟩⟩
      | exit id =>
        obtain ⟨S3, c3, g3, k3⟩ := hp
        obtain ⟨hr, hl4, hd4, c4, m1, m2, cc, gg⟩ := fin (some (.exit id)) S3 W3 c3 g3
        exact ⟨_, _, hr, _, cc, gg, .inr ⟨rfl, .exit id, S3, rfl, (hKx _ _).chg k3 c4 (fun k hk e => m2 (e ▸ hk)), m1, m2, hl4, hd4⟩⟩
      | goto t =>
        obtain ⟨S3, c3, g3, k3⟩ := hp
        obtain ⟨hr, hl4, hd4, c4, m1, m2, cc, gg⟩ := fin (some (.goto t)) S3 W3 c3 g3
        exact ⟨_, _, hr, _, cc, gg, .inr ⟨rfl, .goto t, S3, rfl, (hKx _ _).chg k3 c4 (fun k hk e => m2 (e ▸ hk)), m1, m2, hl4, hd4⟩⟩
      | panic ch => exact hp.elim
      | outgrown => exact hp.elim
    · rintro k hk (h | h | h)
      · exact hDS k hk h
      · have := it.lt0 hI k hk; omega
      · have := it.lt0 hI k hk; omega
    · -- behind the iterator
      have gs : ∀ {S' : Blk}, Grew (fun k => S k ∨ k = w.heap.size ∨ k = w.heap.size + 1) W1 (fun k => S' k ∨ k = w.heap.size ∨ k = w.heap.size + 1) → Grew S w S' := fun g k hk => by
        rcases g k (.inl hk) with (h | h | h) | h
        · exact .inl h
        · exact .inr (by omega)
        · exact .inr (by omega)
        · exact .inr (Nat.le_trans hc1.size h)
      have cs : ∀ {W2 : World} (o : Obj), Chg (fun k => M k ∨ S k ∨ k = w.heap.size ∨ k = w.heap.size + 1) W1 W2 → Chg (fun k => M k ∨ S k) w (W2.putObj (w.heap.size + 1) o) := fun o c => by
        refine Chg.putObj ?_ (.inr (by omega)) _
        refine Chg.trans (hc1.mono (fun _ h => h.elim)) c (fun k hk => ?_)
        rcases hk with h | h | h | h
        · exact .inl (.inl h)
        · exact .inl (.inr h)
        · exact .inr (by omega)
        · exact .inr (by omega)
      rintro e W2 ⟨⟨v, rfl⟩, ys, S₂, (⟨rfl, S', rfl, k1, n1, n2, hl, hd⟩ | ⟨hpre, c, S', rfl, k1, n1, n2, hl, hd⟩), hi, hc, hgr⟩
      · have c5 : Chg (fun k => k = w.heap.size + 1) W2 (W2.putObj (w.heap.size + 1) (.loop { rec .ready none with state := .exhausted })) := Chg.put1 _ _ _
        have hnD : ¬ D (w.heap.size + 1) := fun h => by have := it.lt0 hI _ h; omega
        refine ⟨none, _, by have := run_endLoop (P := P) hl (by rw [hrec]; simp); rw [hrec] at this; exact this, ?_⟩
        rw [hrec] at c5
        have cs' := cs (.loop { rec .ready none with state := .exhausted }) hc
        rw [hrec] at cs'
        exact hdone _ S' _ (Nat.le_refl _) ((hK _).chg k1 c5 (fun k hk e => n2 (e ▸ hk))) (it.kept hi c5.size (fun k hk => World.putObj_heap_other (fun e => hnD (e ▸ hk)))) cs' (gs hgr) ((World.putObj_heap_other (by omega)).trans hd) n1
      · have c5 : Chg (fun k => k = w.heap.size + 1) W2 (W2.putObj (w.heap.size + 1) (.loop { rec .done (some c) with state := .exhausted })) := Chg.put1 _ _ _
        have hnD : ¬ D (w.heap.size + 1) := fun h => by have := it.lt0 hI _ h; omega
        refine ⟨some c, _, by have := run_endLoop (P := P) hl (by rw [hrec]; simp); rw [hrec] at this; exact this, ?_⟩
        rw [hrec] at c5
        have cs' := cs (.loop { rec .done (some c) with state := .exhausted }) hc
        rw [hrec] at cs'
        exact hstop _ c ys S' _ (Nat.le_refl _) hpre ((hKx _ _).chg k1 c5 (fun k hk e => n2 (e ▸ hk))) (it.kept hi c5.size (fun k hk => World.putObj_heap_other (fun e => hnD (e ▸ hk)))) cs' (gs hgr) ((World.putObj_heap_other (by omega)).trans hd) n1

end Go.SeqLib
