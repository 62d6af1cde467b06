/-
  Lists of pairs and of steps, as memory holds them: elements of more than one cell. Two arrays of two numbers, compared.
-/
import Derived.Test.YtmpgeacfnikbpaaDoorGTxt
import Derived.Test.YtmpgeacfnikbpaaDoorGPure
import Derived.Laws.StructEq
import Derived.ChangeKeysEq
namespace Go.DiffLib
/-- A list of cells, item by item. -/
theorem flat_get {ι β : Type} {enc : ι → List β} {s : Nat} (hs : ∀ x, (enc x).length = s) (its : List ι) (i q : Nat) (hq : q < s) : (its.flatMap enc)[i * s + q]? = its[i]?.bind fun x => (enc x)[q]? := by
  induction its generalizing i with
  | nil => simp
  | cons y t ih =>
    rw [List.flatMap_cons]
    cases i with
    | zero =>
      rw [List.getElem?_append_left (by rw [hs]; omega)]
      simp
    | succ i =>
      rw [List.getElem?_append_right (by rw [hs, Nat.succ_mul]; omega), hs, List.getElem?_cons_succ, ← ih i]
      congr 1
      rw [Nat.succ_mul]; omega
theorem flat_length {ι β : Type} {enc : ι → List β} {s : Nat} (hs : ∀ x, (enc x).length = s) (its : List ι) : (its.flatMap enc).length = its.length * s := by
  induction its with
  | nil => simp
  | cons y t ih => simp [List.flatMap_cons, hs, ih, Nat.succ_mul]; omega
end Go.DiffLib

namespace Go.Proofs.YtmpgeacfnikbpaaDoor
open Go.RowKit Go.Shelf Go.SeqLib Go.DiffLib

/-- A slice whose elements, of s cells each, read as enc says. -/
def SlE {ι : Type} (s : Nat) (enc : ι → List Value) (W : World) (v : Value) (zs : List ι) : Prop :=
  ∃ p cap, v = .slice p zs.length cap ∧ zs.length ≤ cap ∧ cap ≤ maxLen ∧ ∀ i x, zs[i]? = some x → ∃ b off, p = some ⟨b, off, none⟩ ∧ ∀ q u, (enc x)[q]? = some u → W.cell? ⟨b, off + i * s + q, none⟩ = some u
def slE {ι : Type} (v : Value) (zs : List ι) : Blk := fun k => zs ≠ [] ∧ v.ownBlock = some k

section
variable {ι : Type} {s : Nat} {enc : ι → List Value} {W W' : World} {v : Value} {zs : List ι}
theorem SlE.kept (h : SlE s enc W v zs) (hk : ∀ k, slE v zs k → W'.heap[k]? = W.heap[k]?) : SlE s enc W' v zs := by
  obtain ⟨p, cap, rfl, h1, h2, hc⟩ := h
  refine ⟨p, cap, rfl, h1, h2, fun i x hi => ?_⟩
  obtain ⟨b, off, rfl, hcell⟩ := hc i x hi
  have hz : zs ≠ [] := by rintro rfl; simp at hi
  exact ⟨b, off, rfl, fun q u hu => (World.cell?_of_block (a := ⟨b, off + i * s + q, none⟩) (hk b ⟨hz, rfl⟩)).trans (hcell q u hu)⟩
theorem SlE.lt (he : ∀ x, (enc x).length = s) (hs : 0 < s) (h : SlE s enc W v zs) : ∀ k, slE v zs k → k < W.heap.size := by
  obtain ⟨p, cap, rfl, _, _, hc⟩ := h
  rintro k ⟨hz, hk⟩
  cases zs with
  | nil => exact absurd rfl hz
  | cons x r =>
    obtain ⟨b, off, rfl, hcell⟩ := hc 0 x rfl
    simp [Value.ownBlock] at hk
    subst hk
    have h0 : 0 < (enc x).length := by rw [he]; exact hs
    exact World.block_lt_of_cell? W _ (hcell 0 _ (List.getElem?_eq_getElem h0))
theorem SlE.chg (he : ∀ x, (enc x).length = s) (hs : 0 < s) (h : SlE s enc W v zs) {S : Blk} (c : Chg S W W') (hd : ∀ k, slE v zs k → ¬ S k) : SlE s enc W' v zs :=
  h.kept (fun k hk => c.block k (h.lt he hs k hk) (hd k hk))
theorem SlE.no (he : ∀ x, (enc x).length = s) (hs : 0 < s) (h : SlE s enc W v zs) (c : Chg No W W') : SlE s enc W' v zs := h.chg he hs c (fun _ _ h => h)
theorem SlE.nil : SlE s enc W (.slice none 0 0) ([] : List ι) := ⟨none, 0, rfl, Nat.le_refl _, Nat.zero_le _, by simp⟩
theorem SlE.drop {b off n cap : Nat} (h : SlE s enc W (.slice (some ⟨b, off, none⟩) n cap) zs) (m : Nat) (hm : m ≤ n) : SlE s enc W (.slice (some ⟨b, off + m * s, none⟩) (n - m) (cap - m)) (zs.drop m) := by
  obtain ⟨p', cap', e, h1, h2, hc⟩ := h
  cases e
  refine ⟨_, _, by rw [List.length_drop], by simp; omega, by omega, fun i x hi => ?_⟩
  rw [List.getElem?_drop] at hi
  obtain ⟨b', off', e, u1⟩ := hc (m + i) x hi
  cases e
  refine ⟨b, off + m * s, rfl, fun q u hu => ?_⟩
  rw [show off + m * s + i * s + q = off + (m + i) * s + q by rw [Nat.add_mul]; omega]; exact u1 q u hu
theorem SlE.ofRow (he : ∀ x, (enc x).length = s) {base : Nat} {e : TypeId} (h : W.ownsRow base e s v zs.length (zs.flatMap enc)) : SlE s enc W v zs := by
  have h' := h
  rcases h.2 with ⟨rfl, h0⟩ | ⟨g, cap, cur, rfl, hb, hg, hn, hm, hs, ht⟩
  · obtain rfl : zs = [] := List.length_eq_zero_iff.1 h0
    exact SlE.nil
  · refine ⟨_, cap, rfl, hn, hm, fun i x hi => ⟨g, 0, rfl, fun q u hu => ?_⟩⟩
    have hq : q < s := by rw [← he x]; exact (List.getElem?_eq_some_iff.1 hu).1
    have := h'.cells (g := g) rfl (i * s + q) u (by rw [flat_get he _ _ _ hq, hi]; exact hu)
    have e : (⟨g, 0, none⟩ : Addr).add (i * s + q) = ⟨g, 0 + (i * s + q), none⟩ := by unfold Addr.add; split <;> simp_all
    rw [e] at this
    rw [show 0 + i * s + q = 0 + (i * s + q) by omega]; exact this
end

/-- A slice, cut from m on. -/
theorem SlE.low {ι : Type} {s : Nat} {enc : ι → List Value} {W : World} {p : Option Addr} {n cap : Nat} {zs : List ι} {t e : TypeId} (ht : Tryd.prog.underlying t = some (.slice e)) (hsz : ∀ w, (sizeOf e).run Tryd.prog w = .ok s w)
    (h : SlE s enc W (.slice p n cap) zs) (hl : zs.length = n) (m : Nat) (hm : m ≤ n) (k : IntKind) : ∃ p' c', SlE s enc W (.slice p' (n - m) c') (zs.drop m) ∧ (∀ k, Value.ownBlock (.slice p' (n - m) c') = some k → Value.ownBlock (.slice p n cap) = some k) ∧
      ∀ w, (Instr.sliceAt t (.slice p n cap) (some (.int k (m : Int))) none none).run Tryd.prog w = .ok (.slice p' (n - m) c') w := by
  have he : Tryd.prog.elem t = e := by simp [Program.elem, ht]
  have hrun : ∀ w, (Instr.sliceAt t (.slice p n cap) (some (.int k (m : Int))) none none).run Tryd.prog w = .ok (sliced p m n cap s) w := by
    intro w
    rw [run_sliceAt_slice _ _ _ _ _ _ (by rw [he]; exact ht), run_slice_l _ _ _ _ _ (by rw [he]; exact ht) k (m : Int) (by omega) (by omega), he, hsz]
    simp [Result.andThen]
  obtain ⟨p0, cap0, e0, h1, h2, hc⟩ := id h
  rw [Value.slice.injEq] at e0
  obtain ⟨rfl, _, rfl⟩ := e0
  rw [hl] at h1
  unfold sliced at hrun
  by_cases hcm : cap = m
  · rw [if_pos hcm] at hrun
    refine ⟨_, _, ⟨_, _, by rw [List.length_drop, hl], by rw [List.length_drop, hl]; omega, by omega, fun i x hi => ?_⟩, fun k hk => by
      cases p with
      | none => cases hk
      | some ad => exact hk, hrun⟩
    rw [List.drop_eq_nil_of_le (by omega)] at hi
    simp at hi
  · rw [if_neg hcm] at hrun
    cases p with
    | none =>
      refine ⟨_, _, ⟨_, _, by rw [List.length_drop, hl], by rw [List.length_drop, hl]; omega, by omega, fun i x hi => ?_⟩, fun k hk => by simp [Value.ownBlock] at hk, hrun⟩
      rw [List.getElem?_drop] at hi
      obtain ⟨_, _, e9, _⟩ := hc _ _ hi
      cases e9
    | some ad =>
      by_cases hz : zs = []
      · refine ⟨_, _, ⟨_, _, by rw [List.length_drop, hl], by rw [List.length_drop, hl]; omega, by omega, fun i x hi => ?_⟩, fun k hk => ?_, hrun⟩
        · rw [hz] at hi; simp at hi
        · simp [Value.ownBlock, Addr.add] at hk ⊢
          first | exact hk | (split at hk <;> simp_all)
      · obtain ⟨x0, hx0⟩ : ∃ x, zs[0]? = some x := by
          cases zs with
          | nil => exact absurd rfl hz
          | cons x r => exact ⟨x, rfl⟩
        obtain ⟨b, off, e9, _⟩ := hc 0 x0 hx0
        cases e9
        have hd := h.drop m hm
        have ea : (⟨b, off, none⟩ : Addr).add (m * s) = ⟨b, off + m * s, none⟩ := by unfold Addr.add; split <;> simp_all
        rw [Option.map_some, ea] at hrun
        exact ⟨_, _, hd, fun k hk => by simpa [Value.ownBlock] using hk, hrun⟩

/-- A pair's cells, a step's cells. -/
def eP (x : Nat × Nat) : List Value := [.int .i64 x.1, .int .i64 x.2]
def eS (x : Int × Int × Int) : List Value := [.int .i64 x.1, .int .i64 x.2.1, .int .i64 x.2.2]
theorem eP_len (x : Nat × Nat) : (eP x).length = 2 := rfl
theorem eS_len (x : Int × Int × Int) : (eS x).length = 3 := rfl
abbrev SlP := @SlE (Nat × Nat) 2 eP
abbrev SlS := @SlE (Int × Int × Int) 3 eS

theorem SlP.at {W : World} {p : Option Addr} {n cap : Nat} {zs : List (Nat × Nat)} (h : SlP W (.slice p n cap) zs) (i : Nat) (x : Nat × Nat) (hi : zs[i]? = some x) :
    ∃ b off, p = some ⟨b, off, none⟩ ∧ W.cell? ⟨b, off + i * 2, none⟩ = some (.int .i64 x.1) ∧ W.cell? ⟨b, off + i * 2 + 1, none⟩ = some (.int .i64 x.2) := by
  obtain ⟨p', cap', e, _, _, hc⟩ := h
  cases e
  obtain ⟨b, off, e, h1⟩ := hc i x hi
  exact ⟨b, off, e, h1 0 _ rfl, h1 1 _ rfl⟩
theorem SlS.at {W : World} {p : Option Addr} {n cap : Nat} {zs : List (Int × Int × Int)} (h : SlS W (.slice p n cap) zs) (i : Nat) (x : Int × Int × Int) (hi : zs[i]? = some x) :
    ∃ b off, p = some ⟨b, off, none⟩ ∧ W.cell? ⟨b, off + i * 3, none⟩ = some (.int .i64 x.1) ∧ W.cell? ⟨b, off + i * 3 + 1, none⟩ = some (.int .i64 x.2.1) ∧ W.cell? ⟨b, off + i * 3 + 2, none⟩ = some (.int .i64 x.2.2) := by
  obtain ⟨p', cap', e, _, _, hc⟩ := h
  cases e
  obtain ⟨b, off, e, h1⟩ := hc i x hi
  exact ⟨b, off, e, h1 0 _ rfl, h1 1 _ rfl, h1 2 _ rfl⟩

end Go.Proofs.YtmpgeacfnikbpaaDoor
