/-
  How a list of files that came in is read: each is two texts. A world that holds the two listed tables, for the witness.
-/
import Derived.Test.YtakbeololabmhaaGreatDoorCards
import Derived.Test.YtakbeololabmhaaGreatDoorTie
import Derived.Test.YtakbeololabmhaaGreatDoorTOpen
import Derived.Test.YtakbeololabmhaaGreatDoorG03
import Derived.Deep.SlicePairs
import Derived.Deep.DeepHandedRow
import Derived.Lib.LaidTab
import Derived.LaidSub
namespace Go.Proofs.YtakbeololabmhaaGreatDoor
open Go.ChangeShapes Go.WideShapes Go.ChangeAt Go.RowKit Go.SeqLib Go.Deep Go.TreeLib

theorem open_slice_two {H : Type} {enc : TypeId × Value → H} {P : Program} {w : World} {base : Nat} {spare : Nat → Bool} {held : Bool} {t e : TypeId} {f0 f1 : Field} {fuel : Nat} {cs : List Value} {x : DataW H × List MemPlace} (ht : P.underlying t = some (.slice e)) (he : P.underlying e = some (.struct #[f0, f1]))
    (ce : P.cellsOf e = 2) (o0 : f0.offset = 0) (o1 : f1.offset = 1) (c0 : P.cellsOf f0.type = 1) (c1 : P.cellsOf f1.type = 1)
    (h : DataW.trod enc P w base spare held fuel t cs = some x) :
    cs = [.slice none 0 0] ∨
    ∃ (a : Addr) (len cap m n : Nat), cs = [.slice (some a) len cap] ∧ len ≤ cap ∧ cap ≤ maxLen ∧ len ≤ m ∧
      ∀ i, i < m → ∃ v0 v1 y0 y1, w.cell? (a.add (i * 2)) = some v0 ∧ w.cell? (a.add (i * 2 + 1)) = some v1 ∧
        DataW.trod enc P w base spare held n f0.type [v0] = some y0 ∧ DataW.trod enc P w base spare held n f1.type [v1] = some y1 := by
  rcases open_slice ht h with h0 | ⟨a, len, cap, m, n, D, Pl, rfl, hb, hl, hm, hmm, rfl, hx⟩
  · exact Or.inl h0.1
  right
  have hlm : len ≤ m := by rw [hmm]; split <;> omega
  refine ⟨a, len, cap, m, n - 1, rfl, hl, hm, hlm, fun i hi => ?_⟩
  obtain ⟨cs', h1, h2⟩ := hx i hi
  rw [ce] at h1
  obtain ⟨_, hlen, hcell⟩ := World.cells?_some h1
  obtain ⟨xs, k, hk, hxy, _, hxl, hf⟩ := DataW.trod_struct he h2
  have hk' : k = n - 1 := by omega
  subst hk'
  match xs, hxl, cs', hlen with
  | [y0, y1], _, [v0, v1], _ =>
    have g0 := hf 0 f0 rfl
    have g1 := hf 1 f1 rfl
    simp [o0, o1, c0, c1] at g0 g1
    have e0 := hcell 0 (by omega)
    have e1 := hcell 1 (by omega)
    rw [add_add] at e0 e1
    exact ⟨v0, v1, y0, y1, by simpa using e0, by simpa using e1, g0, g1⟩

theorem files_of {H : Type} {enc : TypeId × Value → H} {W : World} {a : Option Addr} {len cap : Nat} {d : DataW H} {ps : List MemPlace} (h : DataW.Trod enc Tryz.prog W 0 (fun _ => true) true 30 (.slice a len cap) d ps) :
    ∃ zs : List Fl, SlF W (.slice a len cap) zs ∧ zs.length = len := by
  obtain ⟨fuel, hf⟩ := h
  rcases open_slice_two Tryz.underlying30 Tryz.underlying49 (by kernel_rfl) rfl rfl (by kernel_rfl) (by kernel_rfl) hf with hcs | ⟨x, l, c, m, n, hcs, hl, hm, hlm, hall⟩
  · simp [Value.cells] at hcs
    obtain ⟨rfl, rfl, rfl⟩ := hcs
    exact ⟨[], SlE.nil, rfl⟩
  · simp [Value.cells] at hcs
    obtain ⟨rfl, rfl, rfl⟩ := hcs
    have hint : ∀ i, i < m → ∃ z : Fl, W.cell? (x.add (i * 2)) = some (.string z.1) ∧ W.cell? (x.add (i * 2 + 1)) = some (.string z.2) := fun i hi => by
      obtain ⟨v0, v1, y0, y1, k0, k1, t0, t1⟩ := hall i hi
      obtain ⟨z1, h1, _, _⟩ := DataW.trod_string Tryz.underlying9 t0
      obtain ⟨z2, h2, _, _⟩ := DataW.trod_string Tryz.underlying9 t1
      simp only [List.cons.injEq, and_true] at h1 h2
      rw [h1] at k0
      rw [h2] at k1
      exact ⟨(z1, z2), k0, k1⟩
    obtain ⟨q, hq⟩ := choose_lt hint
    refine ⟨(List.range len).map q, ⟨some x, cap, by simp, by simpa using hl, hm, ?_⟩, by simp⟩
    intro i y hy
    rw [List.getElem?_map] at hy
    by_cases hi : i < len
    · rw [List.getElem?_range hi] at hy
      cases hy
      have him : i < m := by omega
      obtain ⟨b, off, spot⟩ := x
      have hspot : spot = none := by simpa [Addr.add] using World.cell?_spot (hq 0 (by omega)).1
      subst hspot
      obtain ⟨k0, k1⟩ := hq i him
      rw [add_plain] at k0 k1
      refine ⟨b, off, rfl, fun r u hu => ?_⟩
      have hr : r < 2 := by have := (List.getElem?_eq_some_iff.1 hu).1; rwa [eF_len] at this
      match r, hr with
      | 0, _ => cases hu; exact k0
      | 1, _ => cases hu; exact k1
    · rw [List.getElem?_eq_none (by simpa using hi)] at hy
      cases hy

/-- The numbers in a datum, those of its parts one behind the other. -/
def litOf : DataW Unit → List Value
  | .lit (.int k n) => [.int k n]
  | _ => []
def litsIn : DataW Unit → List Value
  | .agg l => l.flatMap litOf
  | d => litOf d
def litsOf : DataW Unit → Array Value
  | .agg l => (l.flatMap litsIn).toArray
  | _ => #[]
def putCells (a : Array Value) : Obj → Obj
  | .cells _ t frozen => .cells a t frozen
  | o => o

/-- FOR THE WITNESS: a world (the settled one), the two tables holding what their initialisers lay. -/
def laidOver (w : World) : World :=
  { w with heap := (w.heap.modify 1 (putCells (litsOf Rows.laid_unicode_utf8_first))).modify 2 (putCells (litsOf Rows.laid_unicode_utf8_acceptRanges)) }

end Go.Proofs.YtakbeololabmhaaGreatDoor
