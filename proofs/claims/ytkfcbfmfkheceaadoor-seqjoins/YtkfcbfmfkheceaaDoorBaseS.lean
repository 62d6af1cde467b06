/-
  What the walks over sequences of texts share.
-/
import Derived.Test.YtkfcbfmfkheceaaDoorJoin
namespace Go.Proofs.YtkfcbfmfkheceaaDoor
open Go.RowKit Go.Shelf Go.SeqLib

/-- A text, as yield takes it. -/
abbrev encS (x : ByteArray) : Array Value := #[.string x]

/-- A FUNCTION VALUE'S WORD, of those that are ok. -/
structure FunO (P : Program) (ff : Nat) (cap : Array Value) (ok : Int → Prop) (res : Int → Value) (D : Blk) (I : Nat → World → Prop) : Prop where
  lt : ∀ {k W}, I k W → ∀ b, D b → b < W.heap.size
  kept : ∀ {k W W'}, I k W → W.heap.size ≤ W'.heap.size → (∀ b, D b → W'.heap[b]? = W.heap[b]?) → I k W'
  runs : ∀ k x W, ok x → I k W → CallsIn Fence.wide 0 P ff (#[.int .i64 x] ++ cap) W fun e W' => e = .returned (res x) ∧ I (k + 1) W' ∧ Chg D W W'

theorem info9 : (Tryd.prog.info? 9).map (fun i => (i.zero, i.size, i.bytes)) = some (some (.string ⟨#[]⟩), 1, 16) := by kernel_rfl

theorem weakenS {gf : Nat} {lb : Array Value} {xs : List ByteArray} {D M : Blk} {I0 : World → Prop} {I : List ByteArray → World → Prop} (it : Iter Tryd.prog gf lb encS xs D M I0 I)
    (h : ∀ pre W, I pre W → I0 W) (hM : ∀ W W', I0 W → I0 W' → ∀ k, M k → W'.heap[k]? = W.heap[k]?) : Iter Tryd.prog gf lb encS xs D No I0 (fun _ => I0) := {
  sub := fun _ h => h.elim
  lt0 := it.lt0
  kept0 := it.kept0
  kept := fun h => it.kept0 h
  runs := fun l J Jx S W pJ pJx hY hI hJ hDS => (it.runs l J Jx S W pJ pJx hY hI hJ hDS).mono fun e W' h' => by
    obtain ⟨hv, ys, S', hj, hi, c, g⟩ := h'
    refine ⟨hv, ys, S', hj, h ys W' hi, c.less (fun k hk hm hn => ?_), g⟩
    rcases hm with hm | hm
    · exact hM W W' hI (h ys W' hi) k hm
    · exact (hn (.inr hm)).elim }

/-- A sequence of texts that turns nothing, over the blocks D. -/
def PSeqS (W : World) (gf : Nat) (lb : Array Value) (xs : List ByteArray) (D : Blk) : Prop :=
  ∃ I0, Iter Tryd.prog gf lb encS xs D No I0 (fun _ => I0) ∧ I0 W ∧ ∀ args w, (callFunc gf args).run Tryd.prog w = .ok (.enter gf args) w

theorem PSeqS.lt {W : World} {gf : Nat} {lb : Array Value} {xs : List ByteArray} {D : Blk} (h : PSeqS W gf lb xs D) : ∀ k, D k → k < W.heap.size := by
  obtain ⟨I0, it, hi, _⟩ := h
  exact it.lt0 hi
theorem PSeqS.no {W W' : World} {gf : Nat} {lb : Array Value} {xs : List ByteArray} {D : Blk} (h : PSeqS W gf lb xs D) (c : Chg No W W') : PSeqS W' gf lb xs D := by
  obtain ⟨I0, it, hi, he⟩ := h
  exact ⟨I0, it, it.kept0 hi c.size (fun k hk => c.block k (it.lt0 hi k hk) (fun h => h)), he⟩

theorem SlV.no {W W' : World} {v : Value} {vals : List Value} (h : SlV W v vals) (c : Chg No W W') : SlV W' v vals :=
  h.kept (fun k hk => c.block k (h.lt k hk) (fun h => h))

end Go.Proofs.YtkfcbfmfkheceaaDoor
