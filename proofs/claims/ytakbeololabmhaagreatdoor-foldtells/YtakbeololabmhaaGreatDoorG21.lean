/-
  Of: SeqN, DBack.
-/
import Derived.Test.YtakbeololabmhaaGreatDoorG01
import Derived.Test.YtakbeololabmhaaGreatDoorG02
section
-- SeqN
namespace Go.SeqLib
open Go Go.RowKit

/-- What speaks of its own blocks, and of those below B, alone. -/
structure PartB (B : Nat) (J : Blk → World → Prop) : Prop where
  lt : ∀ {S W}, J S W → ∀ k, S k → k < W.heap.size
  chg : ∀ {S U W W'}, J S W → Chg U W W' → (∀ k, S k ∨ k < B → ¬ U k) → J S W'
theorem PartB.false (B : Nat) : PartB B (fun _ _ => False) := ⟨fun h => h.elim, fun h _ _ => h.elim⟩

/-- The word of an iterator that changes nothing: it tells xs, from the beginning; a round may stop it. D: the blocks that it leans on. What the rounds keep may be anything. -/
structure IterB {α : Type} (P : Program) (gf : Nat) (lb : Array Value) (encs : α → Array Value) (xs : List α) (D : Blk) (I0 : World → Prop) : Prop where
  lt0 : ∀ {W}, I0 W → ∀ k, D k → k < W.heap.size
  kept0 : ∀ {W W'}, I0 W → W.heap.size ≤ W'.heap.size → (∀ k, D k → W'.heap[k]? = W.heap[k]?) → I0 W'
  runs : ∀ (l : Nat) (J Jx : List α → Blk → World → Prop) (S : Blk) (W : World),
    (∀ pre x S W, pre ++ [x] <+: xs → J pre S W → YieldAt Fence.wide 0 P l (encs x) W fun e W' => ∃ S', Chg S W W' ∧ Grew S W S' ∧
      ((e = .returned (.bool true) ∧ J (pre ++ [x]) S' W') ∨ (e = .returned (.bool false) ∧ Jx (pre ++ [x]) S' W'))) →
    I0 W → J [] S W → (∀ k, D k → ¬ S k) →
    CallsIn Fence.wide 0 P gf (#[.func (.yield l) #[] #[]] ++ lb) W fun e W' => (∃ v, e = .returned v) ∧ ∃ ys S',
      ((ys = xs ∧ J ys S' W') ∨ (ys <+: xs ∧ Jx ys S' W')) ∧ I0 W' ∧ Chg S W W' ∧ Grew S W S'

set_option maxHeartbeats 1000000 in
/-- The same where the loop's variables lie in blocks of their own, laid anew for each round (X: these blocks; Ax: what lies there), and where the body is told of its loop's record. -/
theorem wpIn_rangeB {α : Type} {P : Program} {g : Operand} {ps : Array Tmp} {assign body : Code} {Q : Exit → Act → World → Prop} {a : Act} {w : World}
    {gf : Nat} {lb : Array Value} (hg : a.eval g = .func (.func gf) #[] lb) (eg : ∀ args w, (callFunc gf args).run P w = .ok (.enter gf args) w)
    {encs : α → Array Value} {xs : List α} {D : Blk} {I0 : World → Prop} (it : IterB P gf lb encs xs D I0) (hps : ∀ x, (encs x).size = ps.size)
    (K : List α → Blk → World → Prop) (Kx : Code → List α → Blk → World → Prop) (hK : ∀ pre, PartB w.heap.size (K pre)) (hKx : ∀ c pre, PartB w.heap.size (Kx c pre))
    {S : Blk} (hI : I0 w) (h0 : K [] S w) (hDS : ∀ k, D k → ¬ S k) (Ax : α → Act → Blk → World → Prop) (hAx : ∀ x a', Part (Ax x a'))
    (hassign : ∀ (l : Nat) (x : α) (W : World) (R : Act → World → Prop), (∀ a' X W', Chg (fun _ => False) W W' → (∀ k, X k → W.heap.size ≤ k) → Ax x a' X W' → R a' W') →
      assign.wpIn (Fence.wide.inRound l) 0 P (Exit.then R (fun _ _ _ => False)) { tmps := (ps.zip (encs x)).foldl (fun t (p, v) => t.setIfInBounds p v) a.tmps, defers := [] } W)
    (hbody : ∀ (l : Nat) (pre : List α) (x : α) (S : Blk) (W : World) (a' : Act) (X : Blk), pre ++ [x] <+: xs → K pre S W → Ax x a' X W → (∀ k, X k → ¬ S k ∧ w.heap.size ≤ k) → (∃ r, W.heap[l]? = some (.loop r)) → ¬ S l → ¬ X l → w.heap.size ≤ l →
      body.wpIn (Fence.wide.inRound l) 0 P (rndPost K Kx (pre ++ [x]) S W) a' W)
    (hdone : ∀ (d : Nat) (S' : Blk) (W : World), w.heap.size ≤ d → K xs S' W → I0 W → Chg S w W → Grew S w S' → W.heap[d]? = some (.deferred (some [])) → ¬ S' d →
      Q .normal { a with defers := { target := .collected d, args := #[] } :: a.defers } W)
    (hstop : ∀ (d : Nat) (c : Code) (pre : List α) (S' : Blk) (W : World), w.heap.size ≤ d → pre <+: xs → Kx c pre S' W → I0 W → Chg S w W → Grew S w S' → W.heap[d]? = some (.deferred (some [])) → ¬ S' d →
      c.wpIn Fence.wide 0 P Q { a with defers := { target := .collected d, args := #[] } :: a.defers } W) :
    (Code.rangeFunc g ps assign body).wpIn Fence.wide 0 P Q a w := by
  refine wpIn_rangeFunc ?_
  intro fn hfn
  rw [show Fence.wide.round = none from rfl]
  obtain ⟨rec, hrec⟩ : ∃ rec : LoopState → Option Code → Loop, rec = fun st pe => { state := st, pending := pe, fn, tmps := a.tmps, params := ps, assign, body, defers := w.heap.size } := ⟨_, rfl⟩
  obtain ⟨W1, hW1⟩ : ∃ W1, (w.alloc (.deferred (some []))).alloc (.loop (rec .ready none)) = W1 := ⟨_, rfl⟩
  have hL1 : W1.heap[w.heap.size + 1]? = some (.loop (rec .ready none)) := by
    rw [← hW1]; have := World.alloc_heap_new (w.alloc (.deferred (some []))) (.loop (rec .ready none)); rwa [World.size_alloc] at this
  have hK1 : W1.heap[w.heap.size]? = some (.deferred (some [])) := by
    rw [← hW1]; exact (Below.heap_alloc _ _ _ (by simp)).trans (World.alloc_heap_new w _)
  have hc1 : Chg (fun _ => False) w W1 := by rw [← hW1]; exact ((Chg.refl _ w).alloc _).alloc _
  have hI1 : I0 W1 := it.kept0 hI hc1.size (fun k hk => hc1.block k (it.lt0 hI k hk) (fun h => h))
  have h01 : K [] S W1 := (hK []).chg h0 hc1 (fun _ _ h => h)
  have hS1 : ∀ k, S k → k < w.heap.size := fun k hk => (hK []).lt h0 k hk
  refine ⟨w.heap.size + 1, [{ target := .collected w.heap.size, args := #[] }], W1, { target := .fn (.func gf) lb, args := #[.func (.yield (w.heap.size + 1)) #[] #[]] }, W1, gf,
    #[.func (.yield (w.heap.size + 1)) #[] #[]] ++ lb, W1, ?_, ?_, ?_, ?_, (fun h => absurd h (by decide)), ?_⟩
  · rw [← hW1, hrec]; exact run_enterLoop_outer _ _ _ _ _
  · simp only [resolve, hg]
    simp [go_sem]
  · intro f' _; trivial
  · simp [invoke, go_sem, eg]
  · -- the consumer's part: its own, the record and the block for deferred calls
    let J : List α → Blk → World → Prop := fun pre S₂ W => ∃ S', S₂ = (fun k => S' k ∨ k = w.heap.size ∨ k = w.heap.size + 1) ∧ K pre S' W ∧ ¬ S' w.heap.size ∧ ¬ S' (w.heap.size + 1) ∧
      W.heap[w.heap.size + 1]? = some (.loop (rec .ready none)) ∧ W.heap[w.heap.size]? = some (.deferred (some []))
    let Jx : List α → Blk → World → Prop := fun pre S₂ W => ∃ c S', S₂ = (fun k => S' k ∨ k = w.heap.size ∨ k = w.heap.size + 1) ∧ Kx c pre S' W ∧ ¬ S' w.heap.size ∧ ¬ S' (w.heap.size + 1) ∧
      W.heap[w.heap.size + 1]? = some (.loop (rec .done (some c))) ∧ W.heap[w.heap.size]? = some (.deferred (some []))
    have hns : ¬ S w.heap.size := fun h => by have := hS1 _ h; omega
    have hns1 : ¬ S (w.heap.size + 1) := fun h => by have := hS1 _ h; omega
    refine (it.runs (w.heap.size + 1) J Jx (fun k => S k ∨ k = w.heap.size ∨ k = w.heap.size + 1) W1 ?_ hI1 ⟨S, rfl, h01, hns, hns1, hL1, hK1⟩ ?_).mono ?_
    · -- one round
      rintro pre x S₂ W hpre ⟨S', rfl, k1, n1, n2, hl, hd⟩
      have hlt : w.heap.size + 1 < W.heap.size := (Array.getElem?_eq_some_iff.1 hl).1
      have hy := run_yield (P := P) (args := encs x) hl (by rw [hrec]; exact hps x)
      rw [hrec] at hy
      refine ⟨fn, _, assign, body, hy, roundIn_of_wpIn hfn (hassign _ x W _ ?_)⟩
      clear hy
      intro a' X Wa ca hXn hXa
      have hla : Wa.heap[w.heap.size + 1]? = some (.loop (rec .ready none)) := ca.same hl (fun h => h)
      have hda : Wa.heap[w.heap.size]? = some (.deferred (some [])) := ca.same hd (fun h => h)
      have hlta : w.heap.size + 1 < Wa.heap.size := (Array.getElem?_eq_some_iff.1 hla).1
      refine ⟨_, run_beginRound hla (by rw [hrec]), ?_⟩
      have hXl : ¬ X (w.heap.size + 1) := fun h => by have := hXn _ h; omega
      have hXS : ∀ k, X k → ¬ S' k ∧ w.heap.size ≤ k := fun k hk => ⟨fun h => by have := (hK pre).lt k1 _ h; have := hXn k hk; omega, by have := hXn k hk; omega⟩
      have hl2 : (Wa.putObj (w.heap.size + 1) (.loop { rec .ready none with state := .busy })).heap[w.heap.size + 1]? = some (.loop { rec .ready none with state := .busy }) := World.putObj_heap_same hlta
      have hd2 : (Wa.putObj (w.heap.size + 1) (.loop { rec .ready none with state := .busy })).heap[w.heap.size]? = some (.deferred (some [])) := (World.putObj_heap_other (by omega)).trans hda
      have hX2 : Ax x a' X (Wa.putObj (w.heap.size + 1) (.loop { rec .ready none with state := .busy })) := (hAx x a').chg hXa (Chg.put1 _ _ _) (fun k hk e => hXl (e ▸ hk))
      have c2 : Chg (fun k => k = w.heap.size + 1) W (Wa.putObj (w.heap.size + 1) (.loop { rec .ready none with state := .busy })) := (ca.mono (fun _ h => h.elim)).trans (Chg.put1 _ _ _) (Grew.refl _ _)
      have k2 : K pre S' (Wa.putObj (w.heap.size + 1) (.loop { rec .ready none with state := .busy })) := (hK pre).chg k1 c2 (fun k hk e => by subst e; rcases hk with h | h; exact n2 h; omega)
      have hsa : W.heap.size ≤ Wa.heap.size := ca.size
      refine wpIn_mono (hbody _ pre x S' _ a' X hpre k2 hX2 hXS ⟨_, hl2⟩ n2 hXl (by omega)) ?_
      have fin : ∀ (jump : Option Code) (S3 : Blk) (W3 : World), Chg S' (Wa.putObj (w.heap.size + 1) (.loop { rec .ready none with state := .busy })) W3 → Grew S' (Wa.putObj (w.heap.size + 1) (.loop { rec .ready none with state := .busy })) S3 →
          (Instr.endRound (w.heap.size + 1) jump).run P W3 = .ok (.bool jump.isNone) (W3.putObj (w.heap.size + 1) (.loop (rec (if jump.isNone then .ready else .done) jump))) ∧
          (W3.putObj (w.heap.size + 1) (.loop (rec (if jump.isNone then .ready else .done) jump))).heap[w.heap.size + 1]? = some (.loop (rec (if jump.isNone then .ready else .done) jump)) ∧
          (W3.putObj (w.heap.size + 1) (.loop (rec (if jump.isNone then .ready else .done) jump))).heap[w.heap.size]? = some (.deferred (some [])) ∧
          Chg (fun k => k = w.heap.size + 1) W3 (W3.putObj (w.heap.size + 1) (.loop (rec (if jump.isNone then .ready else .done) jump))) ∧
          ¬ S3 w.heap.size ∧ ¬ S3 (w.heap.size + 1) ∧
          Chg (fun k => S' k ∨ k = w.heap.size ∨ k = w.heap.size + 1) W (W3.putObj (w.heap.size + 1) (.loop (rec (if jump.isNone then .ready else .done) jump))) ∧
          Grew (fun k => S' k ∨ k = w.heap.size ∨ k = w.heap.size + 1) W (fun k => S3 k ∨ k = w.heap.size ∨ k = w.heap.size + 1) := fun jump S3 W3 c3 g3 => by
        have hl3 := c3.same hl2 n2
        have hd3 := c3.same hd2 n1
        have hr := run_endRound (P := P) jump hl3
        have g3' : Grew S' W S3 := fun k hk => by
          rcases g3 k hk with h | h
          · exact .inl h
          · rw [World.putObj_size] at h
            exact .inr (Nat.le_trans hsa h)
        rw [hrec] at hr ⊢
        refine ⟨hr, World.putObj_heap_same (Array.getElem?_eq_some_iff.1 hl3).1, (World.putObj_heap_other (by omega)).trans hd3, Chg.put1 _ _ _, ?_, ?_, ?_, ?_⟩
        · intro h; rcases g3' _ h with h1 | h1
          · exact n1 h1
          · omega
        · intro h; rcases g3' _ h with h1 | h1
          · exact n2 h1
          · omega
        · refine Chg.putObj (Chg.trans (S' := S') (c2.mono (fun k hk => .inr (.inr hk))) c3 (fun k hk => .inl (.inl hk))) (.inl (.inr (.inr rfl))) _
        · rintro k (hk | hk | hk)
          · rcases g3' k hk with h1 | h1
            · exact .inl (.inl h1)
            · exact .inr h1
          · exact .inl (.inr (.inl hk))
          · exact .inl (.inr (.inr hk))
      rintro e a3 W3 hp
      cases e with
      | normal =>
        obtain ⟨S3, c3, g3, k3⟩ := hp
        obtain ⟨hr, hl4, hd4, c4, m1, m2, cc, gg⟩ := fin none S3 W3 c3 g3
        exact ⟨_, _, hr, _, cc, gg, .inl ⟨rfl, S3, rfl, (hK _).chg k3 c4 (fun k hk e => by subst e; rcases hk with h | h; exact m2 h; omega), m1, m2, hl4, hd4⟩⟩
      | ret =>
        obtain ⟨S3, c3, g3, k3⟩ := hp
        obtain ⟨hr, hl4, hd4, c4, m1, m2, cc, gg⟩ := fin (some .ret) S3 W3 c3 g3
        exact ⟨_, _, hr, _, cc, gg, .inr ⟨rfl, .ret, S3, rfl, (hKx _ _).chg k3 c4 (fun k hk e => by subst e; rcases hk with h | h; exact m2 h; omega), m1, m2, hl4, hd4⟩⟩
      | exit id =>
        obtain ⟨S3, c3, g3, k3⟩ := hp
        obtain ⟨hr, hl4, hd4, c4, m1, m2, cc, gg⟩ := fin (some (.exit id)) S3 W3 c3 g3
        exact ⟨_, _, hr, _, cc, gg, .inr ⟨rfl, .exit id, S3, rfl, (hKx _ _).chg k3 c4 (fun k hk e => by subst e; rcases hk with h | h; exact m2 h; omega), m1, m2, hl4, hd4⟩⟩
      | goto t =>
        obtain ⟨S3, c3, g3, k3⟩ := hp
        obtain ⟨hr, hl4, hd4, c4, m1, m2, cc, gg⟩ := fin (some (.goto t)) S3 W3 c3 g3
        exact ⟨_, _, hr, _, cc, gg, .inr ⟨rfl, .goto t, S3, rfl, (hKx _ _).chg k3 c4 (fun k hk e => by subst e; rcases hk with h | h; exact m2 h; omega), m1, m2, hl4, hd4⟩⟩
      | panic ch => exact hp.elim
      | outgrown => exact hp.elim
    · rintro k hk (h | h | h)
      · exact hDS k hk h
      · have := it.lt0 hI k hk; omega
      · have := it.lt0 hI k hk; omega
    · -- behind the iterator
      have gs : ∀ {S' : Blk}, Grew (fun k => S k ∨ k = w.heap.size ∨ k = w.heap.size + 1) W1 (fun k => S' k ∨ k = w.heap.size ∨ k = w.heap.size + 1) → Grew S w S' := fun g k hk => by
        rcases g k (.inl hk) with (h | h | h) | h
        · exact .inl h
        · exact .inr (by omega)
        · exact .inr (by omega)
        · exact .inr (Nat.le_trans hc1.size h)
      have cs : ∀ {W2 : World} (o : Obj), Chg (fun k => S k ∨ k = w.heap.size ∨ k = w.heap.size + 1) W1 W2 → Chg S w (W2.putObj (w.heap.size + 1) o) := fun o c => by
        refine Chg.putObj ?_ (.inr (by omega)) _
        refine Chg.trans (hc1.mono (fun _ h => h.elim)) c (fun k hk => ?_)
        rcases hk with h | h | h
        · exact .inl h
        · exact .inr (by omega)
        · exact .inr (by omega)
      rintro e W2 ⟨⟨v, rfl⟩, ys, S₂, (⟨rfl, S', rfl, k1, n1, n2, hl, hd⟩ | ⟨hpre, c, S', rfl, k1, n1, n2, hl, hd⟩), hi, hc, hgr⟩
      · have c5 : Chg (fun k => k = w.heap.size + 1) W2 (W2.putObj (w.heap.size + 1) (.loop { rec .ready none with state := .exhausted })) := Chg.put1 _ _ _
        have hnD : ¬ D (w.heap.size + 1) := fun h => by have := it.lt0 hI _ h; omega
        refine ⟨none, _, by have := run_endLoop (P := P) hl (by rw [hrec]; simp); rw [hrec] at this; exact this, ?_⟩
        rw [hrec] at c5
        have cs' := cs (.loop { rec .ready none with state := .exhausted }) hc
        rw [hrec] at cs'
        exact hdone _ S' _ (Nat.le_refl _) ((hK _).chg k1 c5 (fun k hk e => by subst e; rcases hk with h | h; exact n2 h; omega)) (it.kept0 hi c5.size (fun k hk => World.putObj_heap_other (fun e => hnD (e ▸ hk)))) cs' (gs hgr) ((World.putObj_heap_other (by omega)).trans hd) n1
      · have c5 : Chg (fun k => k = w.heap.size + 1) W2 (W2.putObj (w.heap.size + 1) (.loop { rec .done (some c) with state := .exhausted })) := Chg.put1 _ _ _
        have hnD : ¬ D (w.heap.size + 1) := fun h => by have := it.lt0 hI _ h; omega
        refine ⟨some c, _, by have := run_endLoop (P := P) hl (by rw [hrec]; simp); rw [hrec] at this; exact this, ?_⟩
        rw [hrec] at c5
        have cs' := cs (.loop { rec .done (some c) with state := .exhausted }) hc
        rw [hrec] at cs'
        exact hstop _ c ys S' _ (Nat.le_refl _) hpre ((hKx _ _).chg k1 c5 (fun k hk e => by subst e; rcases hk with h | h; exact n2 h; omega)) (it.kept0 hi c5.size (fun k hk => World.putObj_heap_other (fun e => hnD (e ▸ hk)))) cs' (gs hgr) ((World.putObj_heap_other (by omega)).trans hd) n1

set_option maxHeartbeats 1000000 in
/-- The same, within a round of loop l₀: one block for two, no mark. -/
theorem wpIn_rangeN {α : Type} {P : Program} {g : Operand} {ps : Array Tmp} {assign body : Code} {Q : Exit → Act → World → Prop} {a : Act} {w : World}
    {l₀ : Nat} {r₀ : Loop} (hl₀ : w.heap[l₀]? = some (.loop r₀)) {gf : Nat} {lb : Array Value} (hg : a.eval g = .func (.func gf) #[] lb) (eg : ∀ args w, (callFunc gf args).run P w = .ok (.enter gf args) w)
    {encs : α → Array Value} {xs : List α} {D : Blk} {I0 : World → Prop} (it : IterB P gf lb encs xs D I0) (hps : ∀ x, (encs x).size = ps.size)
    (K : List α → Blk → World → Prop) (Kx : Code → List α → Blk → World → Prop) (hK : ∀ pre, PartB w.heap.size (K pre)) (hKx : ∀ c pre, PartB w.heap.size (Kx c pre))
    {S : Blk} (hI : I0 w) (h0 : K [] S w) (hDS : ∀ k, D k → ¬ S k) (a₁ : α → Act)
    (hassign : ∀ (l : Nat) (x : α) (W : World) (R : Act → World → Prop), R (a₁ x) W →
      assign.wpIn (Fence.wide.inRound l) 0 P (Exit.then R (fun _ _ _ => False)) { tmps := (ps.zip (encs x)).foldl (fun t (p, v) => t.setIfInBounds p v) a.tmps, defers := [] } W)
    (hbody : ∀ (l : Nat) (pre : List α) (x : α) (S : Blk) (W : World), pre ++ [x] <+: xs → K pre S W → body.wpIn (Fence.wide.inRound l) 0 P (rndPost K Kx (pre ++ [x]) S W) (a₁ x) W)
    (hdone : ∀ (S' : Blk) (W : World), K xs S' W → I0 W → Chg S w W → Grew S w S' → Q .normal a W)
    (hstop : ∀ (c : Code) (pre : List α) (S' : Blk) (W : World), pre <+: xs → Kx c pre S' W → I0 W → Chg S w W → Grew S w S' →
      c.wpIn (Fence.wide.inRound l₀) 0 P Q a W) :
    (Code.rangeFunc g ps assign body).wpIn (Fence.wide.inRound l₀) 0 P Q a w := by
  refine wpIn_rangeFunc ?_
  intro fn hfn
  rw [show (Fence.wide.inRound l₀).round = some l₀ from rfl]
  obtain ⟨rec, hrec⟩ : ∃ rec : LoopState → Option Code → Loop, rec = fun st pe => { state := st, pending := pe, fn, tmps := a.tmps, params := ps, assign, body, defers := r₀.defers } := ⟨_, rfl⟩
  obtain ⟨W1, hW1⟩ : ∃ W1, w.alloc (.loop (rec .ready none)) = W1 := ⟨_, rfl⟩
  have hL1 : W1.heap[w.heap.size]? = some (.loop (rec .ready none)) := by
    rw [← hW1]; exact World.alloc_heap_new w _
  have hc1 : Chg (fun _ => False) w W1 := by rw [← hW1]; exact (Chg.refl _ w).alloc _
  have hI1 : I0 W1 := it.kept0 hI hc1.size (fun k hk => hc1.block k (it.lt0 hI k hk) (fun h => h))
  have h01 : K [] S W1 := (hK []).chg h0 hc1 (fun _ _ h => h)
  have hS1 : ∀ k, S k → k < w.heap.size := fun k hk => (hK []).lt h0 k hk
  refine ⟨w.heap.size, [], W1, { target := .fn (.func gf) lb, args := #[.func (.yield (w.heap.size)) #[] #[]] }, W1, gf,
    #[.func (.yield (w.heap.size)) #[] #[]] ++ lb, W1, ?_, ?_, ?_, ?_, (fun h => absurd (show Fence.wide.depth.isSome = true from h) (by decide)), ?_⟩
  · rw [← hW1, hrec]; exact run_enterLoop_inner hl₀ _ _ _ _ _
  · simp only [resolve, hg]
    simp [go_sem]
  · intro f' _; trivial
  · simp [invoke, go_sem, eg]
  · -- the consumer's part: its own, the record and the block for deferred calls
    let J : List α → Blk → World → Prop := fun pre S₂ W => ∃ S', S₂ = (fun k => S' k ∨ k = w.heap.size) ∧ K pre S' W ∧ ¬ S' w.heap.size ∧
      W.heap[w.heap.size]? = some (.loop (rec .ready none))
    let Jx : List α → Blk → World → Prop := fun pre S₂ W => ∃ c S', S₂ = (fun k => S' k ∨ k = w.heap.size) ∧ Kx c pre S' W ∧ ¬ S' w.heap.size ∧
      W.heap[w.heap.size]? = some (.loop (rec .done (some c)))
    have hns : ¬ S w.heap.size := fun h => by have := hS1 _ h; omega
    refine (it.runs (w.heap.size) J Jx (fun k => S k ∨ k = w.heap.size) W1 ?_ hI1 ⟨S, rfl, h01, hns, hL1⟩ ?_).mono ?_
    · -- one round
      rintro pre x S₂ W hpre ⟨S', rfl, k1, n2, hl⟩
      have hlt : w.heap.size < W.heap.size := (Array.getElem?_eq_some_iff.1 hl).1
      have hy := run_yield (P := P) (args := encs x) hl (by rw [hrec]; exact hps x)
      rw [hrec] at hy
      refine ⟨fn, _, assign, body, hy, roundIn_of_wpIn hfn (hassign _ x W _ ⟨_, run_beginRound hl (by rw [hrec]), ?_⟩)⟩
      clear hy
      have hl2 : (W.putObj (w.heap.size) (.loop { rec .ready none with state := .busy })).heap[w.heap.size]? = some (.loop { rec .ready none with state := .busy }) := World.putObj_heap_same hlt
      have c2 : Chg (fun k => k = w.heap.size) W (W.putObj (w.heap.size) (.loop { rec .ready none with state := .busy })) := Chg.put1 _ _ _
      have k2 : K pre S' (W.putObj (w.heap.size) (.loop { rec .ready none with state := .busy })) := (hK pre).chg k1 c2 (fun k hk e => by subst e; rcases hk with h | h; exact n2 h; omega)
      refine wpIn_mono (hbody _ pre x S' _ hpre k2) ?_
      have fin : ∀ (jump : Option Code) (S3 : Blk) (W3 : World), Chg S' (W.putObj (w.heap.size) (.loop { rec .ready none with state := .busy })) W3 → Grew S' (W.putObj (w.heap.size) (.loop { rec .ready none with state := .busy })) S3 →
          (Instr.endRound (w.heap.size) jump).run P W3 = .ok (.bool jump.isNone) (W3.putObj (w.heap.size) (.loop (rec (if jump.isNone then .ready else .done) jump))) ∧
          (W3.putObj (w.heap.size) (.loop (rec (if jump.isNone then .ready else .done) jump))).heap[w.heap.size]? = some (.loop (rec (if jump.isNone then .ready else .done) jump)) ∧
          Chg (fun k => k = w.heap.size) W3 (W3.putObj (w.heap.size) (.loop (rec (if jump.isNone then .ready else .done) jump))) ∧
          ¬ S3 w.heap.size ∧
          Chg (fun k => S' k ∨ k = w.heap.size) W (W3.putObj (w.heap.size) (.loop (rec (if jump.isNone then .ready else .done) jump))) ∧
          Grew (fun k => S' k ∨ k = w.heap.size) W (fun k => S3 k ∨ k = w.heap.size) := fun jump S3 W3 c3 g3 => by
        have hl3 := c3.same hl2 n2
        have hr := run_endRound (P := P) jump hl3
        have g3' : Grew S' W S3 := fun k hk => by have := g3 k hk; simpa using this
        rw [hrec] at hr ⊢
        refine ⟨hr, World.putObj_heap_same (Array.getElem?_eq_some_iff.1 hl3).1, Chg.put1 _ _ _, ?_, ?_, ?_⟩
        · intro h; rcases g3' _ h with h1 | h1
          · exact n2 h1
          · omega
        · refine Chg.putObj (Chg.trans (S' := S') (c2.mono (fun k hk => .inr hk)) c3 (fun k hk => .inl (.inl hk))) (.inl (.inr rfl)) _
        · rintro k (hk | hk)
          · rcases g3' k hk with h1 | h1
            · exact .inl (.inl h1)
            · exact .inr h1
          · exact .inl (.inr hk)
      rintro e a3 W3 hp
      cases e with
      | normal =>
        obtain ⟨S3, c3, g3, k3⟩ := hp
        obtain ⟨hr, hl4, c4, m2, cc, gg⟩ := fin none S3 W3 c3 g3
        exact ⟨_, _, hr, _, cc, gg, .inl ⟨rfl, S3, rfl, (hK _).chg k3 c4 (fun k hk e => by subst e; rcases hk with h | h; exact m2 h; omega), m2, hl4⟩⟩
      | ret =>
        obtain ⟨S3, c3, g3, k3⟩ := hp
        obtain ⟨hr, hl4, c4, m2, cc, gg⟩ := fin (some .ret) S3 W3 c3 g3
        exact ⟨_, _, hr, _, cc, gg, .inr ⟨rfl, .ret, S3, rfl, (hKx _ _).chg k3 c4 (fun k hk e => by subst e; rcases hk with h | h; exact m2 h; omega), m2, hl4⟩⟩
      | exit id =>
        obtain ⟨S3, c3, g3, k3⟩ := hp
        obtain ⟨hr, hl4, c4, m2, cc, gg⟩ := fin (some (.exit id)) S3 W3 c3 g3
        exact ⟨_, _, hr, _, cc, gg, .inr ⟨rfl, .exit id, S3, rfl, (hKx _ _).chg k3 c4 (fun k hk e => by subst e; rcases hk with h | h; exact m2 h; omega), m2, hl4⟩⟩
      | goto t =>
        obtain ⟨S3, c3, g3, k3⟩ := hp
        obtain ⟨hr, hl4, c4, m2, cc, gg⟩ := fin (some (.goto t)) S3 W3 c3 g3
        exact ⟨_, _, hr, _, cc, gg, .inr ⟨rfl, .goto t, S3, rfl, (hKx _ _).chg k3 c4 (fun k hk e => by subst e; rcases hk with h | h; exact m2 h; omega), m2, hl4⟩⟩
      | panic ch => exact hp.elim
      | outgrown => exact hp.elim
    · rintro k hk (h | h)
      · exact hDS k hk h
      · have := it.lt0 hI k hk; omega
    · -- behind the iterator
      have gs : ∀ {S' : Blk}, Grew (fun k => S k ∨ k = w.heap.size) W1 (fun k => S' k ∨ k = w.heap.size) → Grew S w S' := fun g k hk => by
        rcases g k (.inl hk) with (h | h) | h
        · exact .inl h
        · exact .inr (by omega)
        · exact .inr (Nat.le_trans hc1.size h)
      have cs : ∀ {W2 : World} (o : Obj), Chg (fun k => S k ∨ k = w.heap.size) W1 W2 → Chg S w (W2.putObj (w.heap.size) o) := fun o c => by
        refine Chg.putObj ?_ (.inr (by omega)) _
        refine Chg.trans (hc1.mono (fun _ h => h.elim)) c (fun k hk => ?_)
        rcases hk with h | h
        · exact .inl h
        · exact .inr (by omega)
      rintro e W2 ⟨⟨v, rfl⟩, ys, S₂, (⟨rfl, S', rfl, k1, n2, hl⟩ | ⟨hpre, c, S', rfl, k1, n2, hl⟩), hi, hc, hgr⟩
      · have c5 : Chg (fun k => k = w.heap.size) W2 (W2.putObj (w.heap.size) (.loop { rec .ready none with state := .exhausted })) := Chg.put1 _ _ _
        have hnD : ¬ D (w.heap.size) := fun h => by have := it.lt0 hI _ h; omega
        refine ⟨none, _, by have := run_endLoop (P := P) hl (by rw [hrec]; simp); rw [hrec] at this; exact this, ?_⟩
        rw [hrec] at c5
        have cs' := cs (.loop { rec .ready none with state := .exhausted }) hc
        rw [hrec] at cs'
        exact hdone S' _ ((hK _).chg k1 c5 (fun k hk e => by subst e; rcases hk with h | h; exact n2 h; omega)) (it.kept0 hi c5.size (fun k hk => World.putObj_heap_other (fun e => hnD (e ▸ hk)))) cs' (gs hgr)
      · have c5 : Chg (fun k => k = w.heap.size) W2 (W2.putObj (w.heap.size) (.loop { rec .done (some c) with state := .exhausted })) := Chg.put1 _ _ _
        have hnD : ¬ D (w.heap.size) := fun h => by have := it.lt0 hI _ h; omega
        refine ⟨some c, _, by have := run_endLoop (P := P) hl (by rw [hrec]; simp); rw [hrec] at this; exact this, ?_⟩
        rw [hrec] at c5
        have cs' := cs (.loop { rec .done (some c) with state := .exhausted }) hc
        rw [hrec] at cs'
        exact hstop c ys S' _ hpre ((hKx _ _).chg k1 c5 (fun k hk e => by subst e; rcases hk with h | h; exact n2 h; omega)) (it.kept0 hi c5.size (fun k hk => World.putObj_heap_other (fun e => hnD (e ▸ hk)))) cs' (gs hgr)

end Go.SeqLib

end
section
-- DBack
namespace Go.Proofs.YtakbeololabmhaaGreatDoor
open Go.RowKit Go.Shelf Go.SeqLib
attribute [local go_sem] Oper.semAt_some

/-- The places from n - 1 down to k. -/
def dn (n k : Nat) : List Nat := (List.range n).reverse.take (n - k)
theorem dn_self (n : Nat) : dn n n = [] := by simp [dn]
theorem dn_zero (n : Nat) : dn n 0 = (List.range n).reverse := by
  unfold dn; rw [List.take_of_length_le]; simp
theorem dn_step {n k : Nat} (h : k < n) : dn n (k + 1) ++ [k] = dn n k := by
  unfold dn
  have hl : (List.range n).reverse.length = n := by simp
  rw [show n - k = (n - (k + 1)) + 1 by omega, List.take_succ_eq_append_getElem (by rw [hl]; omega)]
  congr 2
  rw [List.getElem_reverse, List.getElem_range]
  simp; omega
theorem dn_pre (n k : Nat) : dn n k <+: (List.range n).reverse := List.take_prefix _ _

/-- A place, and what stands there, as yield takes them. -/
abbrev encB (zs : List ByteArray) (i : Nat) : Array Value := #[.int .i64 (i : Int), .string (zs.getD i ⟨#[]⟩)]

set_option maxRecDepth 100000 in
set_option maxHeartbeats 1000000 in
theorem back1 (v : Value) (zs : List ByteArray) (hzs : zs.length ≤ 1000000) (Bk : Nat) :
    IterB Tryz.prog 196 #[.pointer (some ⟨Bk, 0, none⟩)] (encB zs) (List.range zs.length).reverse (fun k => k = Bk ∨ svD v (zs.map Value.string) k)
      (fun W => Boxed W Bk 86 v ∧ SlV W v (zs.map Value.string)) := {
  lt0 := by
    rintro W ⟨b1, b2⟩ k (rfl | h)
    · exact b1.lt
    · exact b2.lt k h
  kept0 := by
    rintro W W' ⟨b1, b2⟩ _ hk
    exact ⟨(hk _ (.inl rfl)).trans b1, b2.kept (fun k h => hk k (.inr h))⟩
  runs := by
    intro l J Jx S W hY hI hJ hDS
    obtain ⟨b1, b2⟩ := hI
    have b2' := b2
    obtain ⟨p, cap, rfl, hcap, hmax, hcells⟩ := b2
    have hc1 := b1.cell
    obtain ⟨n, HN⟩ : ∃ n, Hid (zs.length = n) := ⟨_, rfl⟩
    have hmn : (zs.map Value.string).length = n := by rw [List.length_map]; exact HN.out
    have hfin : ∀ {W9 : World}, Chg S W W9 → Boxed W9 Bk 86 (.slice p (zs.map Value.string).length cap) ∧ SlV W9 (.slice p (zs.map Value.string).length cap) (zs.map Value.string) := fun c9 => ⟨c9.boxed b1 (hDS _ (.inl rfl)), b2'.chg c9 (fun k hk => hDS k (.inr hk))⟩
    rw [HN.out] at hY hzs ⊢
    have hcap' : n ≤ cap := by omega
    have HF : Hid (∀ {W9 : World}, Chg S W W9 → Boxed W9 Bk 86 (.slice p (zs.map Value.string).length cap) ∧ SlV W9 (.slice p (zs.map Value.string).length cap) (zs.map Value.string)) := hfin
    have HD : Hid (∀ k, k = Bk ∨ svD (.slice p (zs.map Value.string).length cap) (zs.map Value.string) k → ¬ S k) := hDS
    have HC : Hid (∀ i x, (zs.map Value.string)[i]? = some x → ∃ b off, p = some ⟨b, off, none⟩ ∧ W.cell? ⟨b, off + i, none⟩ = some x) := hcells
    have hbx : Boxed W Bk 86 (.slice p n cap) := by rw [← hmn]; exact b1
    have hc2 := hbx.cell
    clear hfin hDS hcells hcap b2' hc1 b1 hmn
    refine callsIn_of_wp Tryz.func196 rfl trivial ?_
    simp only [Tryz.ntmps196, List.size_toArray, List.length_cons, List.length_nil, Nat.reduceAdd, Nat.reduceSub, Array.replicate_succ, Array.replicate_zero, List.push_toArray, List.append_toArray, List.nil_append, List.cons_append]
    gi_wp2
    gi_loopw [3] (fun i wr => ∃ (k : Nat) (So : Blk), k ≤ n ∧ i = .int .i64 ((k : Int) - 1) ∧ J (dn n k) So wr ∧ Chg S W wr ∧ Grew S W So)
      (fun i _ => (intOf i + 1).toNat)
    case atStart => exact ⟨n, S, Nat.le_refl _, by go_num, by rw [dn_self]; exact hJ, Chg.refl _ _, Grew.refl _ _⟩
    case round =>
      obtain ⟨k, So, hk, rfl, j, c, g⟩ := hrel
      by_cases hlt : 0 < k
      · obtain ⟨m, rfl⟩ : ∃ m, k = m + 1 := ⟨k - 1, by omega⟩
        have hmz : m < zs.length := by rw [HN.out]; omega
        obtain ⟨b, off, rfl, hcell⟩ := HC.out m (.string zs[m]) (by simp [hmz])
        have hzne : zs.map Value.string ≠ [] := by intro h; have := congrArg List.length h; simp at this; subst this; simp at hmz
        have hcw : wr.cell? ⟨b, off + m, none⟩ = some (.string zs[m]) := (World.cell?_of_block (a := ⟨b, off + m, none⟩) (c.block b (World.block_lt_of_cell? W _ hcell) (HD.out b (.inr ⟨hzne, rfl⟩)))).trans hcell
        have hbw : Boxed wr Bk 86 (.slice (some ⟨b, off, none⟩) n cap) := c.boxed hbx (HD.out Bk (.inl rfl))
        have hbc := hbw.cell
        have HX : Hid (zs.getD m ⟨#[]⟩ = zs[m]) := by
          show _ = _
          simp [List.getD, hmz]
        clear hcell hc2
        obtain ⟨x, hx⟩ : ∃ x, zs[m] = x := ⟨_, rfl⟩
        rw [hx] at hcw
        have hX2 : zs.getD m ⟨#[]⟩ = x := HX.out.trans hx
        clear hx HX
        have hpr : dn n (m + 1) ++ [m] <+: (List.range n).reverse := by rw [dn_step (by omega)]; exact dn_pre n m
        have HP : Hid (dn n (m + 1) ++ [m] = dn n m) := dn_step (by omega)
        obtain ⟨fnr, tmps, assign, body, hy, hR⟩ := hY (dn n (m + 1)) m So wr hpr j
        simp only [encB, hX2] at hy
        have hm0 : ((m + 1 : Nat) : Int) - 1 = (m : Int) := by omega
        rw [hm0]
        clear hX2
        gi_wp2
        refine ⟨rfl, hR.mono ?_⟩
        rintro e W3 ⟨S3, c3, g3, (⟨rfl, j3⟩ | ⟨rfl, j3⟩)⟩
        · have cc := c.trans c3 g
          have gg := g.trans g3 c.size
          gi_wp2
          go_roundw
          case rel => exact ⟨m, S3, by omega, by go_num, by rw [← HP.out]; exact j3, cc, gg⟩
          case measure => simp [intOf]
        · have cc := c.trans c3 g
          have gg := g.trans g3 c.size
          gi_wp2
          refine bodyPost_ret (results_none rfl _ _ _) rfl ?_
          exact ⟨⟨_, rfl⟩, _, S3, .inr ⟨hpr, j3⟩, HF.out cc, cc, gg⟩
      · obtain rfl : k = 0 := by omega
        gi_wp2
        go_end0
        exact ⟨⟨_, rfl⟩, _, So, .inl ⟨dn_zero n, j⟩, HF.out c, c, g⟩ }

set_option maxHeartbeats 1000000 in
theorem back_in (p : Option Addr) (n cap : Nat) (w : World) : CallsIn Fence.wide 0 Tryz.prog 194 #[.slice p n cap] w fun e w' =>
    e = .returned (.func (.func 196) #[] #[.pointer (some ⟨w.heap.size, 0, none⟩)]) ∧ Boxed w' w.heap.size 86 (.slice p n cap) ∧ Chg No w w' := by
  refine callsIn_of_wp Tryz.func194 rfl trivial ?_
  simp only [Tryz.ntmps194, List.size_toArray, List.length_cons, List.length_nil, Nat.reduceAdd, Nat.reduceSub, Array.replicate_succ, Array.replicate_zero, List.push_toArray, List.append_toArray, List.nil_append, List.cons_append]
  gi_wp2
  go_ret
  exact ⟨rfl, Boxed.new _ _ _, (Chg.refl _ w).alloc _⟩

theorem back_enters : ∀ args w, (callFunc 196 args).run Tryz.prog w = .ok (.enter 196 args) w := enters_of Tryz.func196 (by kernel_rfl) rfl

end Go.Proofs.YtakbeololabmhaaGreatDoor

end
