/-
  How a list of commits that came in is read: each is a list of numbers, a list of files, and a text.
-/
import Derived.Test.YtakbeololabmhaaGreatDoorFOpen
import Derived.Test.YtakbeololabmhaaGreatDoorIOpen
import Derived.Test.YtakbeololabmhaaGreatDoorG04
namespace Go.Proofs.YtakbeololabmhaaGreatDoor
open Go.ChangeShapes Go.WideShapes Go.ChangeAt Go.RowKit Go.SeqLib Go.Deep Go.DiffLib Go.TreeLib Go.RepoLib

theorem open_slice_three {H : Type} {enc : TypeId × Value → H} {P : Program} {w : World} {base : Nat} {spare : Nat → Bool} {held : Bool} {t e : TypeId} {f0 f1 f2 : Field} {fuel : Nat} {cs : List Value} {x : DataW H × List MemPlace} (ht : P.underlying t = some (.slice e)) (he : P.underlying e = some (.struct #[f0, f1, f2]))
    (ce : P.cellsOf e = 3) (o0 : f0.offset = 0) (o1 : f1.offset = 1) (o2 : f2.offset = 2) (c0 : P.cellsOf f0.type = 1) (c1 : P.cellsOf f1.type = 1) (c2 : P.cellsOf f2.type = 1)
    (h : DataW.trod enc P w base spare held fuel t cs = some x) :
    cs = [.slice none 0 0] ∨
    ∃ (a : Addr) (len cap m n : Nat), cs = [.slice (some a) len cap] ∧ len ≤ cap ∧ cap ≤ maxLen ∧ len ≤ m ∧
      ∀ i, i < m → ∃ v0 v1 v2 y0 y1 y2, w.cell? (a.add (i * 3)) = some v0 ∧ w.cell? (a.add (i * 3 + 1)) = some v1 ∧ w.cell? (a.add (i * 3 + 2)) = some v2 ∧
        DataW.trod enc P w base spare held n f0.type [v0] = some y0 ∧ DataW.trod enc P w base spare held n f1.type [v1] = some y1 ∧ DataW.trod enc P w base spare held n f2.type [v2] = some y2 := by
  rcases open_slice ht h with h0 | ⟨a, len, cap, m, n, D, Pl, rfl, hb, hl, hm, hmm, rfl, hx⟩
  · exact Or.inl h0.1
  right
  have hlm : len ≤ m := by rw [hmm]; split <;> omega
  refine ⟨a, len, cap, m, n - 1, rfl, hl, hm, hlm, fun i hi => ?_⟩
  obtain ⟨cs', h1, h2⟩ := hx i hi
  rw [ce] at h1
  obtain ⟨_, hlen, hcell⟩ := World.cells?_some h1
  obtain ⟨xs, k, hk, hxy, _, hxl, hf⟩ := DataW.trod_struct he h2
  have hk' : k = n - 1 := by omega
  subst hk'
  match xs, hxl, cs', hlen with
  | [y0, y1, y2], _, [v0, v1, v2], _ =>
    have g0 := hf 0 f0 rfl
    have g1 := hf 1 f1 rfl
    have g2 := hf 2 f2 rfl
    simp [o0, o1, o2, c0, c1, c2] at g0 g1 g2
    have e0 := hcell 0 (by omega)
    have e1 := hcell 1 (by omega)
    have e2 := hcell 2 (by omega)
    rw [add_add] at e0 e1 e2
    exact ⟨v0, v1, v2, y0, y1, y2, by simpa using e0, by simpa using e1, by simpa using e2, g0, g1, g2⟩

/-- A commit's three cells that came in read as a commit. -/
theorem commit_of {H : Type} {enc : TypeId × Value → H} {W : World} {n : Nat} {v0 v1 v2 : Value} {y0 y1 y2 : DataW H × List MemPlace} (t0 : DataW.trod enc Tryz.prog W 0 (fun _ => true) true n 40 [v0] = some y0)
    (t1 : DataW.trod enc Tryz.prog W 0 (fun _ => true) true n 30 [v1] = some y1) (t2 : DataW.trod enc Tryz.prog W 0 (fun _ => true) true n 9 [v2] = some y2) :
    ∃ c : Cm, v2 = .string c.2.2 ∧ CmD (fun k => k < W.heap.size) W (.agg #[v0, v1, v2]) c := by
  obtain ⟨z2, h2, _, _⟩ := DataW.trod_string Tryz.underlying9 t2
  simp only [List.cons.injEq, and_true] at h2
  obtain ⟨a0, l0, c0, rfl⟩ : ∃ a l c, v0 = .slice a l c := by
    rcases open_slice Tryz.underlying40 t0 with h | ⟨a, len, cap, m, n, D, Pl, h, _⟩
    · have := h.1; simp only [List.cons.injEq, and_true] at this; exact ⟨_, _, _, this⟩
    · simp only [List.cons.injEq, and_true] at h; exact ⟨_, _, _, h⟩
  obtain ⟨a1, l1, c1, rfl⟩ : ∃ a l c, v1 = .slice a l c := by
    rcases open_slice Tryz.underlying30 t1 with h | ⟨a, len, cap, m, n, D, Pl, h, _⟩
    · have := h.1; simp only [List.cons.injEq, and_true] at this; exact ⟨_, _, _, this⟩
    · simp only [List.cons.injEq, and_true] at h; exact ⟨_, _, _, h⟩
  obtain ⟨ss, s0, _, _⟩ := ints_of (d := y0.1) (ps := y0.2) ⟨n, by simpa [Value.cells] using t0⟩
  obtain ⟨fs, f0, _⟩ := files_of (d := y1.1) (ps := y1.2) ⟨n, by simpa [Value.cells] using t1⟩
  exact ⟨(ss, fs, z2), h2, a0, l0, c0, a1, l1, c1, by rw [h2], s0, f0, fun k hk => s0.lt k hk, fun k hk => f0.lt k hk⟩

theorem commits_of {H : Type} {enc : TypeId × Value → H} {W : World} {a : Option Addr} {len cap : Nat} {d : DataW H} {ps : List MemPlace} (h : DataW.Trod enc Tryz.prog W 0 (fun _ => true) true 22 (.slice a len cap) d ps) :
    ∃ (rows : List Rw) (L : List Cm), LowM W.heap.size W (.slice a len cap) rows L ∧ L.length = len := by
  obtain ⟨fuel, hf⟩ := h
  rcases open_slice_three Tryz.underlying22 Tryz.underlying43 (by kernel_rfl) rfl rfl rfl (by kernel_rfl) (by kernel_rfl) (by kernel_rfl) hf with hcs | ⟨x, l, c, m, n, hcs, hl, hm, hlm, hall⟩
  · simp [Value.cells] at hcs
    obtain ⟨rfl, rfl, rfl⟩ := hcs
    exact ⟨[], [], ⟨SlE.nil, rfl, fun k hk => absurd rfl hk.1, fun i r c h => by simp at h⟩, rfl⟩
  · simp [Value.cells] at hcs
    obtain ⟨rfl, rfl, rfl⟩ := hcs
    have hint : ∀ i, i < m → ∃ z : Rw × Cm, (W.cell? (x.add (i * 3)) = some z.1.1 ∧ W.cell? (x.add (i * 3 + 1)) = some z.1.2.1 ∧ W.cell? (x.add (i * 3 + 2)) = some (.string z.1.2.2)) ∧ CmD (fun k => k < W.heap.size) W (.agg #[z.1.1, z.1.2.1, .string z.1.2.2]) z.2 := fun i hi => by
      obtain ⟨v0, v1, v2, y0, y1, y2, k0, k1, k2, t0, t1, t2⟩ := hall i hi
      obtain ⟨cm, rfl, hc⟩ := commit_of t0 t1 t2
      exact ⟨((v0, v1, cm.2.2), cm), ⟨k0, k1, k2⟩, hc⟩
    obtain ⟨q, hq⟩ := choose_lt hint
    have hrow : SlE 3 eM W (.slice (some x) len cap) ((List.range len).map (fun i => (q i).1)) := by
      refine ⟨some x, cap, by simp, by simpa using hl, hm, ?_⟩
      intro i y hy
      rw [List.getElem?_map] at hy
      by_cases hi : i < len
      · rw [List.getElem?_range hi] at hy
        cases hy
        have him : i < m := by omega
        obtain ⟨b, off, spot⟩ := x
        have hspot : spot = none := by simpa [Addr.add] using World.cell?_spot (hq 0 (by omega)).1.1
        subst hspot
        obtain ⟨⟨k0, k1, k2⟩, _⟩ := hq i him
        rw [add_plain] at k0 k1 k2
        refine ⟨b, off, rfl, fun r u hu => ?_⟩
        have hr : r < 3 := by have := (List.getElem?_eq_some_iff.1 hu).1; rwa [eM_len] at this
        match r, hr with
        | 0, _ => cases hu; exact k0
        | 1, _ => cases hu; exact k1
        | 2, _ => cases hu; exact k2
      · rw [List.getElem?_eq_none (by simpa using hi)] at hy
        cases hy
    refine ⟨(List.range len).map (fun i => (q i).1), (List.range len).map (fun i => (q i).2), ⟨hrow, by simp, fun k hk => SlE.lt eM_len (by decide) hrow k hk, fun i r c hr hc => ?_⟩, by simp⟩
    rw [List.getElem?_map] at hr hc
    by_cases hi : i < len
    · rw [List.getElem?_range hi] at hr hc
      cases hr
      cases hc
      exact (hq i (by omega)).2
    · rw [List.getElem?_eq_none (by simpa using hi)] at hr
      cases hr

end Go.Proofs.YtakbeololabmhaaGreatDoor
