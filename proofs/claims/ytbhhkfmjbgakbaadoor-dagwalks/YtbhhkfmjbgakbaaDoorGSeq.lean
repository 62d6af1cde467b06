/-
  Of: SeqR, SeqG.
-/
import Derived.Test.YtbhhkfmjbgakbaaDoorGFile
section
-- SeqR
namespace Go.SeqLib
open Go Go.RowKit

/-- AN ITERATOR'S WORD, where what it tells is known by how it reads in memory: Tl T W vals x: in W the values vals, whose lists lie in the blocks T, read as x. -/
structure IterR {α : Type} (P : Program) (gf : Nat) (lb : Array Value) (Tl : Blk → World → Array Value → α → Prop) (xs : List α) (D M : Blk) (I0 : World → Prop) (I : List α → World → Prop) : Prop where
  sub : ∀ k, M k → D k
  lt0 : ∀ {W}, I0 W → ∀ k, D k → k < W.heap.size
  kept0 : ∀ {W W'}, I0 W → W.heap.size ≤ W'.heap.size → (∀ k, D k → W'.heap[k]? = W.heap[k]?) → I0 W'
  kept : ∀ {pre W W'}, I pre W → W.heap.size ≤ W'.heap.size → (∀ k, D k → W'.heap[k]? = W.heap[k]?) → I pre W'
  runs : ∀ (l : Nat) (J Jx : List α → Blk → World → Prop) (S : Blk) (W : World), (∀ pre, Part (J pre)) → (∀ pre, Part (Jx pre)) →
    (∀ pre x T vals S W, pre ++ [x] <+: xs → Tl T W vals x → (∀ k, T k → ¬ S k) → J pre S W → YieldAt Fence.wide 0 P l vals W fun e W' => ∃ S', Chg S W W' ∧ Grew S W S' ∧
      ((e = .returned (.bool true) ∧ J (pre ++ [x]) S' W') ∨ (e = .returned (.bool false) ∧ Jx (pre ++ [x]) S' W'))) →
    I0 W → J [] S W → (∀ k, D k → ¬ S k) →
    CallsIn Fence.wide 0 P gf (#[.func (.yield l) #[] #[]] ++ lb) W fun e W' => (∃ v, e = .returned v) ∧ ∃ ys S',
      ((ys = xs ∧ J ys S' W') ∨ (ys <+: xs ∧ Jx ys S' W')) ∧ I ys W' ∧ Chg (fun k => M k ∨ S k) W W' ∧ Grew S W S'

set_option maxHeartbeats 1000000 in
/-- **'for x, y := range g { .. }' where what is told is known by how it reads**, and lies in a block of its own, laid anew for each round. -/
theorem wpIn_rangeR {α : Type} {P : Program} {g : Operand} {ps : Array Tmp} {assign body : Code} {Q : Exit → Act → World → Prop} {a : Act} {w : World}
    {gf : Nat} {lb : Array Value} (hg : a.eval g = .func (.func gf) #[] lb) (eg : ∀ args w, (callFunc gf args).run P w = .ok (.enter gf args) w)
    {Tl : Blk → World → Array Value → α → Prop} {xs : List α} {D M : Blk} {I0 : World → Prop} {I : List α → World → Prop} (it : IterR P gf lb Tl xs D M I0 I) (hps : ∀ T W vals x, Tl T W vals x → vals.size = ps.size) (hTl : ∀ T W W' vals x S, Tl T W vals x → Chg S W W' → (∀ k, T k → ¬ S k) → Tl T W' vals x)
    (K : List α → Blk → World → Prop) (Kx : Code → List α → Blk → World → Prop) (hK : ∀ pre, Part (K pre)) (hKx : ∀ c pre, Part (Kx c pre))
    {S : Blk} (hI : I0 w) (h0 : K [] S w) (hDS : ∀ k, D k → ¬ S k) (a₁ : α → Array Value → Nat → Act) (ob : α → Array Value → Obj)
    (hassign : ∀ (l : Nat) (x : α) (T : Blk) (vals : Array Value) (W : World) (R : Act → World → Prop), Tl T W vals x → R (a₁ x vals W.heap.size) (W.alloc (ob x vals)) →
      assign.wpIn (Fence.wide.inRound l) 0 P (Exit.then R (fun _ _ _ => False)) { tmps := (ps.zip vals).foldl (fun t (p, v) => t.setIfInBounds p v) a.tmps, defers := [] } W)
    (hbody : ∀ (l : Nat) (pre : List α) (x : α) (T : Blk) (vals : Array Value) (S : Blk) (W : World) (X : Nat), pre ++ [x] <+: xs → Tl T W vals x → (∀ k, T k → ¬ S k) → K pre S W → W.heap[X]? = some (ob x vals) → ¬ S X → w.heap.size ≤ X → body.wpIn (Fence.wide.inRound l) 0 P (rndPost K Kx (pre ++ [x]) S W) (a₁ x vals X) W)
    (hdone : ∀ (d : Nat) (S' : Blk) (W : World), w.heap.size ≤ d → K xs S' W → I xs W → Chg (fun k => M k ∨ S k) w W → Grew S w S' → W.heap[d]? = some (.deferred (some [])) → ¬ S' d →
      Q .normal { a with defers := { target := .collected d, args := #[] } :: a.defers } W)
    (hstop : ∀ (d : Nat) (c : Code) (pre : List α) (S' : Blk) (W : World), w.heap.size ≤ d → pre <+: xs → Kx c pre S' W → I pre W → Chg (fun k => M k ∨ S k) w W → Grew S w S' → W.heap[d]? = some (.deferred (some [])) → ¬ S' d →
      c.wpIn Fence.wide 0 P Q { a with defers := { target := .collected d, args := #[] } :: a.defers } W) :
    (Code.rangeFunc g ps assign body).wpIn Fence.wide 0 P Q a w := by
  refine wpIn_rangeFunc ?_
  intro fn hfn
  rw [show Fence.wide.round = none from rfl]
  obtain ⟨rec, hrec⟩ : ∃ rec : LoopState → Option Code → Loop, rec = fun st pe => { state := st, pending := pe, fn, tmps := a.tmps, params := ps, assign, body, defers := w.heap.size } := ⟨_, rfl⟩
  obtain ⟨W1, hW1⟩ : ∃ W1, (w.alloc (.deferred (some []))).alloc (.loop (rec .ready none)) = W1 := ⟨_, rfl⟩
  have hL1 : W1.heap[w.heap.size + 1]? = some (.loop (rec .ready none)) := by
    rw [← hW1]; have := World.alloc_heap_new (w.alloc (.deferred (some []))) (.loop (rec .ready none)); rwa [World.size_alloc] at this
  have hK1 : W1.heap[w.heap.size]? = some (.deferred (some [])) := by
    rw [← hW1]; exact (Below.heap_alloc _ _ _ (by simp)).trans (World.alloc_heap_new w _)
  have hc1 : Chg (fun _ => False) w W1 := by rw [← hW1]; exact ((Chg.refl _ w).alloc _).alloc _
  have hI1 : I0 W1 := it.kept0 hI hc1.size (fun k hk => hc1.block k (it.lt0 hI k hk) (fun h => h))
  have h01 : K [] S W1 := (hK []).chg h0 hc1 (fun _ _ h => h)
  have hS1 : ∀ k, S k → k < w.heap.size := fun k hk => (hK []).lt h0 k hk
  refine ⟨w.heap.size + 1, [{ target := .collected w.heap.size, args := #[] }], W1, { target := .fn (.func gf) lb, args := #[.func (.yield (w.heap.size + 1)) #[] #[]] }, W1, gf,
    #[.func (.yield (w.heap.size + 1)) #[] #[]] ++ lb, W1, ?_, ?_, ?_, ?_, (fun h => absurd h (by decide)), ?_⟩
  · rw [← hW1, hrec]; exact run_enterLoop_outer _ _ _ _ _
  · simp only [resolve, hg]
    simp [go_sem]
  · intro f' _; trivial
  · simp [invoke, go_sem, eg]
  · -- the consumer's part: its own, the record and the block for deferred calls
    let J : List α → Blk → World → Prop := fun pre S₂ W => ∃ S', S₂ = (fun k => S' k ∨ k = w.heap.size ∨ k = w.heap.size + 1) ∧ K pre S' W ∧ ¬ S' w.heap.size ∧ ¬ S' (w.heap.size + 1) ∧
      W.heap[w.heap.size + 1]? = some (.loop (rec .ready none)) ∧ W.heap[w.heap.size]? = some (.deferred (some []))
    let Jx : List α → Blk → World → Prop := fun pre S₂ W => ∃ c S', S₂ = (fun k => S' k ∨ k = w.heap.size ∨ k = w.heap.size + 1) ∧ Kx c pre S' W ∧ ¬ S' w.heap.size ∧ ¬ S' (w.heap.size + 1) ∧
      W.heap[w.heap.size + 1]? = some (.loop (rec .done (some c))) ∧ W.heap[w.heap.size]? = some (.deferred (some []))
    have pJ : ∀ pre, Part (J pre) := fun pre =>
      ⟨by
        rintro S₂ W ⟨S', rfl, k1, _, _, hl, hd⟩ k (hk | hk | hk)
        · exact (hK pre).lt k1 k hk
        · subst hk; exact (Array.getElem?_eq_some_iff.1 hd).1
        · subst hk; exact (Array.getElem?_eq_some_iff.1 hl).1,
       by
        rintro S₂ W W' ⟨S', rfl, k1, n1, n2, hl, hd⟩ hs hk
        exact ⟨S', rfl, (hK pre).kept k1 hs (fun k h => hk k (.inl h)), n1, n2, (hk _ (.inr (.inr rfl))).trans hl, (hk _ (.inr (.inl rfl))).trans hd⟩⟩
    have pJx : ∀ pre, Part (Jx pre) := fun pre =>
      ⟨by
        rintro S₂ W ⟨c, S', rfl, k1, _, _, hl, hd⟩ k (hk | hk | hk)
        · exact (hKx c pre).lt k1 k hk
        · subst hk; exact (Array.getElem?_eq_some_iff.1 hd).1
        · subst hk; exact (Array.getElem?_eq_some_iff.1 hl).1,
       by
        rintro S₂ W W' ⟨c, S', rfl, k1, n1, n2, hl, hd⟩ hs hk
        exact ⟨c, S', rfl, (hKx c pre).kept k1 hs (fun k h => hk k (.inl h)), n1, n2, (hk _ (.inr (.inr rfl))).trans hl, (hk _ (.inr (.inl rfl))).trans hd⟩⟩
    have hns : ¬ S w.heap.size := fun h => by have := hS1 _ h; omega
    have hns1 : ¬ S (w.heap.size + 1) := fun h => by have := hS1 _ h; omega
    refine (it.runs (w.heap.size + 1) J Jx (fun k => S k ∨ k = w.heap.size ∨ k = w.heap.size + 1) W1 pJ pJx ?_ hI1 ⟨S, rfl, h01, hns, hns1, hL1, hK1⟩ ?_).mono ?_
    · -- one round
      rintro pre x T vals S₂ W hpre hT hTd ⟨S', rfl, k1, n1, n2, hl, hd⟩
      have hlt : w.heap.size + 1 < W.heap.size := (Array.getElem?_eq_some_iff.1 hl).1
      have hy := run_yield (P := P) (args := vals) hl (by rw [hrec]; exact hps _ _ _ _ hT)
      rw [hrec] at hy
      have hla : (W.alloc (ob x vals)).heap[w.heap.size + 1]? = some (.loop (rec .ready none)) := (Below.heap_alloc W _ _ hlt).trans hl
      have hda : (W.alloc (ob x vals)).heap[w.heap.size]? = some (.deferred (some [])) := (Below.heap_alloc W _ _ (by omega)).trans hd
      have hXa : (W.alloc (ob x vals)).heap[W.heap.size]? = some (ob x vals) := World.alloc_heap_new W _
      have hlta : w.heap.size + 1 < (W.alloc (ob x vals)).heap.size := (Array.getElem?_eq_some_iff.1 hla).1
      have ca : Chg (fun _ => False) W (W.alloc (ob x vals)) := (Chg.refl _ W).alloc _
      refine ⟨fn, _, assign, body, hy, roundIn_of_wpIn hfn (hassign _ x T vals W _ hT ⟨_, run_beginRound hla (by rw [hrec]), ?_⟩)⟩
      clear hy
      have hX0 : W.heap.size ≠ w.heap.size + 1 := by omega
      have hXS : ¬ S' W.heap.size := fun h => by have := (hK pre).lt k1 _ h; omega
      obtain ⟨Wa, hWa⟩ : ∃ Wa, Wa = W.alloc (ob x vals) := ⟨_, rfl⟩
      rw [← hWa] at hla hda hXa hlta ca ⊢
      have hl2 : (Wa.putObj (w.heap.size + 1) (.loop { rec .ready none with state := .busy })).heap[w.heap.size + 1]? = some (.loop { rec .ready none with state := .busy }) := World.putObj_heap_same hlta
      have hd2 : (Wa.putObj (w.heap.size + 1) (.loop { rec .ready none with state := .busy })).heap[w.heap.size]? = some (.deferred (some [])) := (World.putObj_heap_other (by omega)).trans hda
      have hX2 : (Wa.putObj (w.heap.size + 1) (.loop { rec .ready none with state := .busy })).heap[W.heap.size]? = some (ob x vals) := (World.putObj_heap_other hX0).trans hXa
      have c2 : Chg (fun k => k = w.heap.size + 1) W (Wa.putObj (w.heap.size + 1) (.loop { rec .ready none with state := .busy })) := (ca.mono (fun _ h => h.elim)).trans (Chg.put1 _ _ _) (Grew.refl _ _)
      have k2 : K pre S' (Wa.putObj (w.heap.size + 1) (.loop { rec .ready none with state := .busy })) := (hK pre).chg k1 c2 (fun k hk e => n2 (e ▸ hk))
      have hsa : W.heap.size ≤ Wa.heap.size := ca.size
      have hT2 := hTl T W _ vals x _ hT c2 (fun k hk e => hTd k hk (.inr (.inr e)))
      refine wpIn_mono (hbody _ pre x T vals S' _ W.heap.size hpre hT2 (fun k hk h => hTd k hk (.inl h)) k2 hX2 hXS (by omega)) ?_
      have fin : ∀ (jump : Option Code) (S3 : Blk) (W3 : World), Chg S' (Wa.putObj (w.heap.size + 1) (.loop { rec .ready none with state := .busy })) W3 → Grew S' (Wa.putObj (w.heap.size + 1) (.loop { rec .ready none with state := .busy })) S3 →
          (Instr.endRound (w.heap.size + 1) jump).run P W3 = .ok (.bool jump.isNone) (W3.putObj (w.heap.size + 1) (.loop (rec (if jump.isNone then .ready else .done) jump))) ∧
          (W3.putObj (w.heap.size + 1) (.loop (rec (if jump.isNone then .ready else .done) jump))).heap[w.heap.size + 1]? = some (.loop (rec (if jump.isNone then .ready else .done) jump)) ∧
          (W3.putObj (w.heap.size + 1) (.loop (rec (if jump.isNone then .ready else .done) jump))).heap[w.heap.size]? = some (.deferred (some [])) ∧
          Chg (fun k => k = w.heap.size + 1) W3 (W3.putObj (w.heap.size + 1) (.loop (rec (if jump.isNone then .ready else .done) jump))) ∧
          ¬ S3 w.heap.size ∧ ¬ S3 (w.heap.size + 1) ∧
          Chg (fun k => S' k ∨ k = w.heap.size ∨ k = w.heap.size + 1) W (W3.putObj (w.heap.size + 1) (.loop (rec (if jump.isNone then .ready else .done) jump))) ∧
          Grew (fun k => S' k ∨ k = w.heap.size ∨ k = w.heap.size + 1) W (fun k => S3 k ∨ k = w.heap.size ∨ k = w.heap.size + 1) := fun jump S3 W3 c3 g3 => by
        have hl3 := c3.same hl2 n2
        have hd3 := c3.same hd2 n1
        have hr := run_endRound (P := P) jump hl3
        have g3' : Grew S' W S3 := fun k hk => by
          rcases g3 k hk with h | h
          · exact .inl h
          · rw [World.putObj_size] at h
            exact .inr (Nat.le_trans hsa h)
        rw [hrec] at hr ⊢
        refine ⟨hr, World.putObj_heap_same (Array.getElem?_eq_some_iff.1 hl3).1, (World.putObj_heap_other (by omega)).trans hd3, Chg.put1 _ _ _, ?_, ?_, ?_, ?_⟩
        · intro h; rcases g3' _ h with h1 | h1
          · exact n1 h1
          · omega
        · intro h; rcases g3' _ h with h1 | h1
          · exact n2 h1
          · omega
        · refine Chg.putObj (Chg.trans (S' := S') (c2.mono (fun k hk => .inr (.inr hk))) c3 (fun k hk => .inl (.inl hk))) (.inl (.inr (.inr rfl))) _
        · rintro k (hk | hk | hk)
          · rcases g3' k hk with h1 | h1
            · exact .inl (.inl h1)
            · exact .inr h1
          · exact .inl (.inr (.inl hk))
          · exact .inl (.inr (.inr hk))
      rintro e a3 W3 hp
      cases e with
      | normal =>
        obtain ⟨S3, c3, g3, k3⟩ := hp
        obtain ⟨hr, hl4, hd4, c4, m1, m2, cc, gg⟩ := fin none S3 W3 c3 g3
        exact ⟨_, _, hr, _, cc, gg, .inl ⟨rfl, S3, rfl, (hK _).chg k3 c4 (fun k hk e => m2 (e ▸ hk)), m1, m2, hl4, hd4⟩⟩
      | ret =>
        obtain ⟨S3, c3, g3, k3⟩ := hp
        obtain ⟨hr, hl4, hd4, c4, m1, m2, cc, gg⟩ := fin (some .ret) S3 W3 c3 g3
        exact ⟨_, _, hr, _, cc, gg, .inr ⟨rfl, .ret, S3, rfl, (hKx _ _).chg k3 c4 (fun k hk e => m2 (e ▸ hk)), m1, m2, hl4, hd4⟩⟩
      | exit id =>
        obtain ⟨S3, c3, g3, k3⟩ := hp
        obtain ⟨hr, hl4, hd4, c4, m1, m2, cc, gg⟩ := fin (some (.exit id)) S3 W3 c3 g3
        exact ⟨_, _, hr, _, cc, gg, .inr ⟨rfl, .exit id, S3, rfl, (hKx _ _).chg k3 c4 (fun k hk e => m2 (e ▸ hk)), m1, m2, hl4, hd4⟩⟩
      | goto t =>
        obtain ⟨S3, c3, g3, k3⟩ := hp
        obtain ⟨hr, hl4, hd4, c4, m1, m2, cc, gg⟩ := fin (some (.goto t)) S3 W3 c3 g3
        exact ⟨_, _, hr, _, cc, gg, .inr ⟨rfl, .goto t, S3, rfl, (hKx _ _).chg k3 c4 (fun k hk e => m2 (e ▸ hk)), m1, m2, hl4, hd4⟩⟩
      | panic ch => exact hp.elim
      | outgrown => exact hp.elim
    · rintro k hk (h | h | h)
      · exact hDS k hk h
      · have := it.lt0 hI k hk; omega
      · have := it.lt0 hI k hk; omega
    · -- behind the iterator
      have gs : ∀ {S' : Blk}, Grew (fun k => S k ∨ k = w.heap.size ∨ k = w.heap.size + 1) W1 (fun k => S' k ∨ k = w.heap.size ∨ k = w.heap.size + 1) → Grew S w S' := fun g k hk => by
        rcases g k (.inl hk) with (h | h | h) | h
        · exact .inl h
        · exact .inr (by omega)
        · exact .inr (by omega)
        · exact .inr (Nat.le_trans hc1.size h)
      have cs : ∀ {W2 : World} (o : Obj), Chg (fun k => M k ∨ S k ∨ k = w.heap.size ∨ k = w.heap.size + 1) W1 W2 → Chg (fun k => M k ∨ S k) w (W2.putObj (w.heap.size + 1) o) := fun o c => by
        refine Chg.putObj ?_ (.inr (by omega)) _
        refine Chg.trans (hc1.mono (fun _ h => h.elim)) c (fun k hk => ?_)
        rcases hk with h | h | h | h
        · exact .inl (.inl h)
        · exact .inl (.inr h)
        · exact .inr (by omega)
        · exact .inr (by omega)
      rintro e W2 ⟨⟨v, rfl⟩, ys, S₂, (⟨rfl, S', rfl, k1, n1, n2, hl, hd⟩ | ⟨hpre, c, S', rfl, k1, n1, n2, hl, hd⟩), hi, hc, hgr⟩
      · have c5 : Chg (fun k => k = w.heap.size + 1) W2 (W2.putObj (w.heap.size + 1) (.loop { rec .ready none with state := .exhausted })) := Chg.put1 _ _ _
        have hnD : ¬ D (w.heap.size + 1) := fun h => by have := it.lt0 hI _ h; omega
        refine ⟨none, _, by have := run_endLoop (P := P) hl (by rw [hrec]; simp); rw [hrec] at this; exact this, ?_⟩
        rw [hrec] at c5
        have cs' := cs (.loop { rec .ready none with state := .exhausted }) hc
        rw [hrec] at cs'
        exact hdone _ S' _ (Nat.le_refl _) ((hK _).chg k1 c5 (fun k hk e => n2 (e ▸ hk))) (it.kept hi c5.size (fun k hk => World.putObj_heap_other (fun e => hnD (e ▸ hk)))) cs' (gs hgr) ((World.putObj_heap_other (by omega)).trans hd) n1
      · have c5 : Chg (fun k => k = w.heap.size + 1) W2 (W2.putObj (w.heap.size + 1) (.loop { rec .done (some c) with state := .exhausted })) := Chg.put1 _ _ _
        have hnD : ¬ D (w.heap.size + 1) := fun h => by have := it.lt0 hI _ h; omega
        refine ⟨some c, _, by have := run_endLoop (P := P) hl (by rw [hrec]; simp); rw [hrec] at this; exact this, ?_⟩
        rw [hrec] at c5
        have cs' := cs (.loop { rec .done (some c) with state := .exhausted }) hc
        rw [hrec] at cs'
        exact hstop _ c ys S' _ (Nat.le_refl _) hpre ((hKx _ _).chg k1 c5 (fun k hk e => n2 (e ▸ hk))) (it.kept hi c5.size (fun k hk => World.putObj_heap_other (fun e => hnD (e ▸ hk)))) cs' (gs hgr) ((World.putObj_heap_other (by omega)).trans hd) n1

end Go.SeqLib

end
section
-- SeqG
namespace Go.SeqLib
open Go Go.RowKit

/-- AN ITERATOR'S WORD, where what it tells lies in blocks T that it laid since it began: whoever ranges over it may keep them. -/
structure IterG {α : Type} (P : Program) (gf : Nat) (lb : Array Value) (Tl : Blk → World → Array Value → α → Prop) (xs : List α) (D M : Blk) (I0 : World → Prop) (I : List α → World → Prop) : Prop where
  sub : ∀ k, M k → D k
  lt0 : ∀ {W}, I0 W → ∀ k, D k → k < W.heap.size
  kept0 : ∀ {W W'}, I0 W → W.heap.size ≤ W'.heap.size → (∀ k, D k → W'.heap[k]? = W.heap[k]?) → I0 W'
  kept : ∀ {pre W W'}, I pre W → W.heap.size ≤ W'.heap.size → (∀ k, D k → W'.heap[k]? = W.heap[k]?) → I pre W'
  runs : ∀ (l : Nat) (J Jx : List α → Blk → World → Prop) (S : Blk) (W : World), (∀ pre, Part (J pre)) → (∀ pre, Part (Jx pre)) →
    (∀ pre x T vals S₁ W₁, pre ++ [x] <+: xs → Tl T W₁ vals x → (∀ k, T k → ¬ S₁ k) → (∀ k, T k → W.heap.size ≤ k) → W.heap.size ≤ W₁.heap.size → J pre S₁ W₁ → YieldAt Fence.wide 0 P l vals W₁ fun e W' => ∃ S', Chg S₁ W₁ W' ∧ (∀ k, S' k → S₁ k ∨ W.heap.size ≤ k) ∧
      ((e = .returned (.bool true) ∧ J (pre ++ [x]) S' W') ∨ (e = .returned (.bool false) ∧ Jx (pre ++ [x]) S' W'))) →
    I0 W → J [] S W → (∀ k, D k → ¬ S k) →
    CallsIn Fence.wide 0 P gf (#[.func (.yield l) #[] #[]] ++ lb) W fun e W' => (∃ v, e = .returned v) ∧ ∃ ys S',
      ((ys = xs ∧ J ys S' W') ∨ (ys <+: xs ∧ Jx ys S' W')) ∧ I ys W' ∧ Chg (fun k => M k ∨ S k) W W' ∧ Grew S W S'

theorem IterG.toR {α : Type} {P : Program} {gf : Nat} {lb : Array Value} {Tl : Blk → World → Array Value → α → Prop} {xs : List α} {D M : Blk} {I0 : World → Prop} {I : List α → World → Prop} (g : IterG P gf lb Tl xs D M I0 I) : IterR P gf lb Tl xs D M I0 I := {
  sub := g.sub
  lt0 := g.lt0
  kept0 := g.kept0
  kept := g.kept
  runs := fun l J Jx S W pJ pJx hY hI hJ hD => g.runs l J Jx S W pJ pJx (fun pre x T vals S₁ W₁ hp ht hd _ hs hj => by
    obtain ⟨fnr, tmps, assign, body, hy, hR⟩ := hY pre x T vals S₁ W₁ hp ht hd hj
    refine ⟨fnr, tmps, assign, body, hy, hR.mono ?_⟩
    rintro e W' ⟨S', c, gr, h⟩
    exact ⟨S', c, fun k hk => (gr k hk).imp id (fun h => Nat.le_trans hs h), h⟩) hI hJ hD }

/-- How the body of a round may be left: what it owns then lay in S, or in blocks from b on. -/
def rndPostG {α : Type} (b : Nat) (K : List α → Blk → World → Prop) (Kx : Code → List α → Blk → World → Prop) (pre : List α) (S : Blk) (W : World) : Exit → Act → World → Prop
  | .normal, _, W' => ∃ S', Chg S W W' ∧ (∀ k, S' k → S k ∨ b ≤ k) ∧ K pre S' W'
  | .ret, _, W' => ∃ S', Chg S W W' ∧ (∀ k, S' k → S k ∨ b ≤ k) ∧ Kx .ret pre S' W'
  | .exit id, _, W' => ∃ S', Chg S W W' ∧ (∀ k, S' k → S k ∨ b ≤ k) ∧ Kx (.exit id) pre S' W'
  | .goto t, _, W' => ∃ S', Chg S W W' ∧ (∀ k, S' k → S k ∨ b ≤ k) ∧ Kx (.goto t) pre S' W'
  | .panic _, _, _ => False
  | .outgrown, _, _ => False

set_option maxHeartbeats 1000000 in
/-- **'for x, y := range g { .. }' where the loop keeps what is told.** -/
theorem wpIn_rangeG {α : Type} {P : Program} {g : Operand} {ps : Array Tmp} {assign body : Code} {Q : Exit → Act → World → Prop} {a : Act} {w : World}
    {gf : Nat} {lb : Array Value} (hg : a.eval g = .func (.func gf) #[] lb) (eg : ∀ args w, (callFunc gf args).run P w = .ok (.enter gf args) w)
    {Tl : Blk → World → Array Value → α → Prop} {xs : List α} {D M : Blk} {I0 : World → Prop} {I : List α → World → Prop} (it : IterG P gf lb Tl xs D M I0 I) (hps : ∀ T W vals x, Tl T W vals x → vals.size = ps.size) (hTl : ∀ T W W' vals x S, Tl T W vals x → Chg S W W' → (∀ k, T k → ¬ S k) → Tl T W' vals x)
    (K : List α → Blk → World → Prop) (Kx : Code → List α → Blk → World → Prop) (hK : ∀ pre, Part (K pre)) (hKx : ∀ c pre, Part (Kx c pre))
    {S : Blk} (hI : I0 w) (h0 : K [] S w) (hDS : ∀ k, D k → ¬ S k) (a₁ : α → Array Value → Nat → Act) (ob : α → Array Value → Obj)
    (hassign : ∀ (l : Nat) (x : α) (T : Blk) (vals : Array Value) (W : World) (R : Act → World → Prop), Tl T W vals x → R (a₁ x vals W.heap.size) (W.alloc (ob x vals)) →
      assign.wpIn (Fence.wide.inRound l) 0 P (Exit.then R (fun _ _ _ => False)) { tmps := (ps.zip vals).foldl (fun t (p, v) => t.setIfInBounds p v) a.tmps, defers := [] } W)
    (hbody : ∀ (l : Nat) (pre : List α) (x : α) (T : Blk) (vals : Array Value) (S : Blk) (W : World) (X : Nat), pre ++ [x] <+: xs → Tl T W vals x → (∀ k, T k → ¬ S k) → (∀ k, T k → w.heap.size + 2 ≤ k) → w.heap.size + 2 ≤ W.heap.size → K pre S W → W.heap[X]? = some (ob x vals) → ¬ S X → w.heap.size + 2 ≤ X → body.wpIn (Fence.wide.inRound l) 0 P (rndPostG (w.heap.size + 2) K Kx (pre ++ [x]) S W) (a₁ x vals X) W)
    (hdone : ∀ (d : Nat) (S' : Blk) (W : World), w.heap.size ≤ d → K xs S' W → I xs W → Chg (fun k => M k ∨ S k) w W → Grew S w S' → W.heap[d]? = some (.deferred (some [])) → ¬ S' d →
      Q .normal { a with defers := { target := .collected d, args := #[] } :: a.defers } W)
    (hstop : ∀ (d : Nat) (c : Code) (pre : List α) (S' : Blk) (W : World), w.heap.size ≤ d → pre <+: xs → Kx c pre S' W → I pre W → Chg (fun k => M k ∨ S k) w W → Grew S w S' → W.heap[d]? = some (.deferred (some [])) → ¬ S' d →
      c.wpIn Fence.wide 0 P Q { a with defers := { target := .collected d, args := #[] } :: a.defers } W) :
    (Code.rangeFunc g ps assign body).wpIn Fence.wide 0 P Q a w := by
  refine wpIn_rangeFunc ?_
  intro fn hfn
  rw [show Fence.wide.round = none from rfl]
  obtain ⟨rec, hrec⟩ : ∃ rec : LoopState → Option Code → Loop, rec = fun st pe => { state := st, pending := pe, fn, tmps := a.tmps, params := ps, assign, body, defers := w.heap.size } := ⟨_, rfl⟩
  obtain ⟨W1, hW1⟩ : ∃ W1, (w.alloc (.deferred (some []))).alloc (.loop (rec .ready none)) = W1 := ⟨_, rfl⟩
  have hL1 : W1.heap[w.heap.size + 1]? = some (.loop (rec .ready none)) := by
    rw [← hW1]; have := World.alloc_heap_new (w.alloc (.deferred (some []))) (.loop (rec .ready none)); rwa [World.size_alloc] at this
  have hK1 : W1.heap[w.heap.size]? = some (.deferred (some [])) := by
    rw [← hW1]; exact (Below.heap_alloc _ _ _ (by simp)).trans (World.alloc_heap_new w _)
  have hs1 : W1.heap.size = w.heap.size + 2 := by rw [← hW1, World.size_alloc, World.size_alloc]
  have hc1 : Chg (fun _ => False) w W1 := by rw [← hW1]; exact ((Chg.refl _ w).alloc _).alloc _
  have hI1 : I0 W1 := it.kept0 hI hc1.size (fun k hk => hc1.block k (it.lt0 hI k hk) (fun h => h))
  have h01 : K [] S W1 := (hK []).chg h0 hc1 (fun _ _ h => h)
  have hS1 : ∀ k, S k → k < w.heap.size := fun k hk => (hK []).lt h0 k hk
  refine ⟨w.heap.size + 1, [{ target := .collected w.heap.size, args := #[] }], W1, { target := .fn (.func gf) lb, args := #[.func (.yield (w.heap.size + 1)) #[] #[]] }, W1, gf,
    #[.func (.yield (w.heap.size + 1)) #[] #[]] ++ lb, W1, ?_, ?_, ?_, ?_, (fun h => absurd h (by decide)), ?_⟩
  · rw [← hW1, hrec]; exact run_enterLoop_outer _ _ _ _ _
  · simp only [resolve, hg]
    simp [go_sem]
  · intro f' _; trivial
  · simp [invoke, go_sem, eg]
  · -- the consumer's part: its own, the record and the block for deferred calls
    let J : List α → Blk → World → Prop := fun pre S₂ W => ∃ S', S₂ = (fun k => S' k ∨ k = w.heap.size ∨ k = w.heap.size + 1) ∧ K pre S' W ∧ ¬ S' w.heap.size ∧ ¬ S' (w.heap.size + 1) ∧
      W.heap[w.heap.size + 1]? = some (.loop (rec .ready none)) ∧ W.heap[w.heap.size]? = some (.deferred (some []))
    let Jx : List α → Blk → World → Prop := fun pre S₂ W => ∃ c S', S₂ = (fun k => S' k ∨ k = w.heap.size ∨ k = w.heap.size + 1) ∧ Kx c pre S' W ∧ ¬ S' w.heap.size ∧ ¬ S' (w.heap.size + 1) ∧
      W.heap[w.heap.size + 1]? = some (.loop (rec .done (some c))) ∧ W.heap[w.heap.size]? = some (.deferred (some []))
    have pJ : ∀ pre, Part (J pre) := fun pre =>
      ⟨by
        rintro S₂ W ⟨S', rfl, k1, _, _, hl, hd⟩ k (hk | hk | hk)
        · exact (hK pre).lt k1 k hk
        · subst hk; exact (Array.getElem?_eq_some_iff.1 hd).1
        · subst hk; exact (Array.getElem?_eq_some_iff.1 hl).1,
       by
        rintro S₂ W W' ⟨S', rfl, k1, n1, n2, hl, hd⟩ hs hk
        exact ⟨S', rfl, (hK pre).kept k1 hs (fun k h => hk k (.inl h)), n1, n2, (hk _ (.inr (.inr rfl))).trans hl, (hk _ (.inr (.inl rfl))).trans hd⟩⟩
    have pJx : ∀ pre, Part (Jx pre) := fun pre =>
      ⟨by
        rintro S₂ W ⟨c, S', rfl, k1, _, _, hl, hd⟩ k (hk | hk | hk)
        · exact (hKx c pre).lt k1 k hk
        · subst hk; exact (Array.getElem?_eq_some_iff.1 hd).1
        · subst hk; exact (Array.getElem?_eq_some_iff.1 hl).1,
       by
        rintro S₂ W W' ⟨c, S', rfl, k1, n1, n2, hl, hd⟩ hs hk
        exact ⟨c, S', rfl, (hKx c pre).kept k1 hs (fun k h => hk k (.inl h)), n1, n2, (hk _ (.inr (.inr rfl))).trans hl, (hk _ (.inr (.inl rfl))).trans hd⟩⟩
    have hns : ¬ S w.heap.size := fun h => by have := hS1 _ h; omega
    have hns1 : ¬ S (w.heap.size + 1) := fun h => by have := hS1 _ h; omega
    refine (it.runs (w.heap.size + 1) J Jx (fun k => S k ∨ k = w.heap.size ∨ k = w.heap.size + 1) W1 pJ pJx ?_ hI1 ⟨S, rfl, h01, hns, hns1, hL1, hK1⟩ ?_).mono ?_
    · -- one round
      rintro pre x T vals S₂ W hpre hT hTd hTn hWs ⟨S', rfl, k1, n1, n2, hl, hd⟩
      rw [hs1] at hTn hWs
      have hlt : w.heap.size + 1 < W.heap.size := (Array.getElem?_eq_some_iff.1 hl).1
      have hy := run_yield (P := P) (args := vals) hl (by rw [hrec]; exact hps _ _ _ _ hT)
      rw [hrec] at hy
      have hla : (W.alloc (ob x vals)).heap[w.heap.size + 1]? = some (.loop (rec .ready none)) := (Below.heap_alloc W _ _ hlt).trans hl
      have hda : (W.alloc (ob x vals)).heap[w.heap.size]? = some (.deferred (some [])) := (Below.heap_alloc W _ _ (by omega)).trans hd
      have hXa : (W.alloc (ob x vals)).heap[W.heap.size]? = some (ob x vals) := World.alloc_heap_new W _
      have hlta : w.heap.size + 1 < (W.alloc (ob x vals)).heap.size := (Array.getElem?_eq_some_iff.1 hla).1
      have ca : Chg (fun _ => False) W (W.alloc (ob x vals)) := (Chg.refl _ W).alloc _
      refine ⟨fn, _, assign, body, hy, roundIn_of_wpIn hfn (hassign _ x T vals W _ hT ⟨_, run_beginRound hla (by rw [hrec]), ?_⟩)⟩
      clear hy
      have hX0 : W.heap.size ≠ w.heap.size + 1 := by omega
      have hXS : ¬ S' W.heap.size := fun h => by have := (hK pre).lt k1 _ h; omega
      obtain ⟨Wa, hWa⟩ : ∃ Wa, Wa = W.alloc (ob x vals) := ⟨_, rfl⟩
      rw [← hWa] at hla hda hXa hlta ca ⊢
      have hl2 : (Wa.putObj (w.heap.size + 1) (.loop { rec .ready none with state := .busy })).heap[w.heap.size + 1]? = some (.loop { rec .ready none with state := .busy }) := World.putObj_heap_same hlta
      have hd2 : (Wa.putObj (w.heap.size + 1) (.loop { rec .ready none with state := .busy })).heap[w.heap.size]? = some (.deferred (some [])) := (World.putObj_heap_other (by omega)).trans hda
      have hX2 : (Wa.putObj (w.heap.size + 1) (.loop { rec .ready none with state := .busy })).heap[W.heap.size]? = some (ob x vals) := (World.putObj_heap_other hX0).trans hXa
      have c2 : Chg (fun k => k = w.heap.size + 1) W (Wa.putObj (w.heap.size + 1) (.loop { rec .ready none with state := .busy })) := (ca.mono (fun _ h => h.elim)).trans (Chg.put1 _ _ _) (Grew.refl _ _)
      have k2 : K pre S' (Wa.putObj (w.heap.size + 1) (.loop { rec .ready none with state := .busy })) := (hK pre).chg k1 c2 (fun k hk e => n2 (e ▸ hk))
      have hsa : W.heap.size ≤ Wa.heap.size := ca.size
      have hT2 := hTl T W _ vals x _ hT c2 (fun k hk e => hTd k hk (.inr (.inr e)))
      refine wpIn_mono (hbody _ pre x T vals S' _ W.heap.size hpre hT2 (fun k hk h => hTd k hk (.inl h)) hTn (Nat.le_trans hWs c2.size) k2 hX2 hXS (by omega)) ?_
      have fin : ∀ (jump : Option Code) (S3 : Blk) (W3 : World), Chg S' (Wa.putObj (w.heap.size + 1) (.loop { rec .ready none with state := .busy })) W3 → (∀ k, S3 k → S' k ∨ w.heap.size + 2 ≤ k) →
          (Instr.endRound (w.heap.size + 1) jump).run P W3 = .ok (.bool jump.isNone) (W3.putObj (w.heap.size + 1) (.loop (rec (if jump.isNone then .ready else .done) jump))) ∧
          (W3.putObj (w.heap.size + 1) (.loop (rec (if jump.isNone then .ready else .done) jump))).heap[w.heap.size + 1]? = some (.loop (rec (if jump.isNone then .ready else .done) jump)) ∧
          (W3.putObj (w.heap.size + 1) (.loop (rec (if jump.isNone then .ready else .done) jump))).heap[w.heap.size]? = some (.deferred (some [])) ∧
          Chg (fun k => k = w.heap.size + 1) W3 (W3.putObj (w.heap.size + 1) (.loop (rec (if jump.isNone then .ready else .done) jump))) ∧
          ¬ S3 w.heap.size ∧ ¬ S3 (w.heap.size + 1) ∧
          Chg (fun k => S' k ∨ k = w.heap.size ∨ k = w.heap.size + 1) W (W3.putObj (w.heap.size + 1) (.loop (rec (if jump.isNone then .ready else .done) jump))) ∧
          (∀ k, (S3 k ∨ k = w.heap.size ∨ k = w.heap.size + 1) → (S' k ∨ k = w.heap.size ∨ k = w.heap.size + 1) ∨ W1.heap.size ≤ k) := fun jump S3 W3 c3 g3 => by
        have hl3 := c3.same hl2 n2
        have hd3 := c3.same hd2 n1
        have hr := run_endRound (P := P) jump hl3
        have g3' : ∀ k, S3 k → S' k ∨ W1.heap.size ≤ k := fun k hk => by rw [hs1]; exact g3 k hk
        rw [hrec] at hr ⊢
        refine ⟨hr, World.putObj_heap_same (Array.getElem?_eq_some_iff.1 hl3).1, (World.putObj_heap_other (by omega)).trans hd3, Chg.put1 _ _ _, ?_, ?_, ?_, ?_⟩
        · intro h; rcases g3' _ h with h1 | h1
          · exact n1 h1
          · omega
        · intro h; rcases g3' _ h with h1 | h1
          · exact n2 h1
          · omega
        · refine Chg.putObj (Chg.trans (S' := S') (c2.mono (fun k hk => .inr (.inr hk))) c3 (fun k hk => .inl (.inl hk))) (.inl (.inr (.inr rfl))) _
        · rintro k (hk | hk | hk)
          · rcases g3' k hk with h1 | h1
            · exact .inl (.inl h1)
            · exact .inr h1
          · exact .inl (.inr (.inl hk))
          · exact .inl (.inr (.inr hk))
      rintro e a3 W3 hp
      cases e with
      | normal =>
        obtain ⟨S3, c3, g3, k3⟩ := hp
        obtain ⟨hr, hl4, hd4, c4, m1, m2, cc, gg⟩ := fin none S3 W3 c3 g3
        exact ⟨_, _, hr, _, cc, gg, .inl ⟨rfl, S3, rfl, (hK _).chg k3 c4 (fun k hk e => m2 (e ▸ hk)), m1, m2, hl4, hd4⟩⟩
      | ret =>
        obtain ⟨S3, c3, g3, k3⟩ := hp
        obtain ⟨hr, hl4, hd4, c4, m1, m2, cc, gg⟩ := fin (some .ret) S3 W3 c3 g3
        exact ⟨_, _, hr, _, cc, gg, .inr ⟨rfl, .ret, S3, rfl, (hKx _ _).chg k3 c4 (fun k hk e => m2 (e ▸ hk)), m1, m2, hl4, hd4⟩⟩
      | exit id =>
        obtain ⟨S3, c3, g3, k3⟩ := hp
        obtain ⟨hr, hl4, hd4, c4, m1, m2, cc, gg⟩ := fin (some (.exit id)) S3 W3 c3 g3
        exact ⟨_, _, hr, _, cc, gg, .inr ⟨rfl, .exit id, S3, rfl, (hKx _ _).chg k3 c4 (fun k hk e => m2 (e ▸ hk)), m1, m2, hl4, hd4⟩⟩
      | goto t =>
        obtain ⟨S3, c3, g3, k3⟩ := hp
        obtain ⟨hr, hl4, hd4, c4, m1, m2, cc, gg⟩ := fin (some (.goto t)) S3 W3 c3 g3
        exact ⟨_, _, hr, _, cc, gg, .inr ⟨rfl, .goto t, S3, rfl, (hKx _ _).chg k3 c4 (fun k hk e => m2 (e ▸ hk)), m1, m2, hl4, hd4⟩⟩
      | panic ch => exact hp.elim
      | outgrown => exact hp.elim
    · rintro k hk (h | h | h)
      · exact hDS k hk h
      · have := it.lt0 hI k hk; omega
      · have := it.lt0 hI k hk; omega
    · -- behind the iterator
      have gs : ∀ {S' : Blk}, Grew (fun k => S k ∨ k = w.heap.size ∨ k = w.heap.size + 1) W1 (fun k => S' k ∨ k = w.heap.size ∨ k = w.heap.size + 1) → Grew S w S' := fun g k hk => by
        rcases g k (.inl hk) with (h | h | h) | h
        · exact .inl h
        · exact .inr (by omega)
        · exact .inr (by omega)
        · exact .inr (Nat.le_trans hc1.size h)
      have cs : ∀ {W2 : World} (o : Obj), Chg (fun k => M k ∨ S k ∨ k = w.heap.size ∨ k = w.heap.size + 1) W1 W2 → Chg (fun k => M k ∨ S k) w (W2.putObj (w.heap.size + 1) o) := fun o c => by
        refine Chg.putObj ?_ (.inr (by omega)) _
        refine Chg.trans (hc1.mono (fun _ h => h.elim)) c (fun k hk => ?_)
        rcases hk with h | h | h | h
        · exact .inl (.inl h)
        · exact .inl (.inr h)
        · exact .inr (by omega)
        · exact .inr (by omega)
      rintro e W2 ⟨⟨v, rfl⟩, ys, S₂, (⟨rfl, S', rfl, k1, n1, n2, hl, hd⟩ | ⟨hpre, c, S', rfl, k1, n1, n2, hl, hd⟩), hi, hc, hgr⟩
      · have c5 : Chg (fun k => k = w.heap.size + 1) W2 (W2.putObj (w.heap.size + 1) (.loop { rec .ready none with state := .exhausted })) := Chg.put1 _ _ _
        have hnD : ¬ D (w.heap.size + 1) := fun h => by have := it.lt0 hI _ h; omega
        refine ⟨none, _, by have := run_endLoop (P := P) hl (by rw [hrec]; simp); rw [hrec] at this; exact this, ?_⟩
        rw [hrec] at c5
        have cs' := cs (.loop { rec .ready none with state := .exhausted }) hc
        rw [hrec] at cs'
        exact hdone _ S' _ (Nat.le_refl _) ((hK _).chg k1 c5 (fun k hk e => n2 (e ▸ hk))) (it.kept hi c5.size (fun k hk => World.putObj_heap_other (fun e => hnD (e ▸ hk)))) cs' (gs hgr) ((World.putObj_heap_other (by omega)).trans hd) n1
      · have c5 : Chg (fun k => k = w.heap.size + 1) W2 (W2.putObj (w.heap.size + 1) (.loop { rec .done (some c) with state := .exhausted })) := Chg.put1 _ _ _
        have hnD : ¬ D (w.heap.size + 1) := fun h => by have := it.lt0 hI _ h; omega
        refine ⟨some c, _, by have := run_endLoop (P := P) hl (by rw [hrec]; simp); rw [hrec] at this; exact this, ?_⟩
        rw [hrec] at c5
        have cs' := cs (.loop { rec .done (some c) with state := .exhausted }) hc
        rw [hrec] at cs'
        exact hstop _ c ys S' _ (Nat.le_refl _) hpre ((hKx _ _).chg k1 c5 (fun k hk e => n2 (e ▸ hk))) (it.kept hi c5.size (fun k hk => World.putObj_heap_other (fun e => hnD (e ▸ hk)))) cs' (gs hgr) ((World.putObj_heap_other (by omega)).trans hd) n1

end Go.SeqLib

end
