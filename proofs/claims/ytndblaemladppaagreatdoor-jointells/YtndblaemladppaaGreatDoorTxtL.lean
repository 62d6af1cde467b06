/-
  The statements' own GreatTexts, LendTexts, KeptTexts and OverTexts.
-/
import Derived.Test.YtndblaemladppaaGreatDoorTxtH
namespace Go.Proofs.YtndblaemladppaaGreatDoor
open Go.RowKit Go.Shelf Go.SeqLib
attribute [local go_sem] Oper.semAt_some

/-- The mark of the room that is lent. -/
abbrev lentB : ByteArray := ⟨#[108, 101, 110, 116]⟩
abbrev overB : ByteArray := ⟨#[111, 118, 101, 114]⟩

/-- What GreatTexts answers. -/
def greatB (zs : List ByteArray) (most long : Nat) : Bool := decide (most < zs.length) || zs.any (fun x => decide (long < x.size))

theorem greatB_false {zs : List ByteArray} {most long : Nat} (h : greatB zs most long = false) : zs.length ≤ most ∧ ∀ x ∈ zs, x.size ≤ long := by
  unfold greatB at h
  rw [Bool.or_eq_false_iff] at h
  refine ⟨by have := of_decide_eq_false h.1; omega, fun x hx => ?_⟩
  have := List.any_eq_false.1 h.2 x hx
  simp at this
  exact this

set_option maxRecDepth 100000 in
set_option maxHeartbeats 1000000 in
theorem overS_in (v : Value) (vals : List Value) (n base : Nat) (hlen : n ≤ 1000000) (w : World) (hb : base ≤ w.heap.size) (hv : w.ownsRow base 9 1 v n vals) : CallsIn Fence.wide 0 Tryz.prog 15 #[v] w fun e w' =>
    (∃ r, e = .returned r) ∧ Chg (fun k => v.ownBlock = some k) w w' := by
  obtain ⟨i0, hi, hz0, hz1, hz2⟩ := info_parts info9
  obtain ⟨p, cap, rfl⟩ := row_slice hv
  refine callsIn_of_wp Tryz.func15 rfl trivial ?_
  simp only [Tryz.ntmps15, List.size_toArray, List.length_cons, List.length_nil, Nat.reduceAdd, Nat.reduceSub, Array.replicate_succ, Array.replicate_zero, List.push_toArray, List.append_toArray, List.nil_append, List.cons_append]
  gi_wp2
  gi_loopw [2] (fun i wr => ∃ (k : Nat) (ys : List Value), k ≤ n ∧ i = .int .i64 (k : Int) ∧ wr.ownsRow base 9 1 (.slice p n cap) n ys ∧ base ≤ wr.heap.size ∧ Chg (fun k => Value.ownBlock (.slice p n cap) = some k) w wr) (fun i _ => n - (intOf i).toNat)
  case atStart => exact ⟨0, vals, Nat.zero_le _, rfl, hv, hb, Chg.refl _ _⟩
  case round =>
    obtain ⟨k, ys, hk, rfl, hr, hbw, c⟩ := hrel
    by_cases hlt : k < n
    · obtain ⟨b, rfl, hcap⟩ : ∃ b, p = some ⟨b, 0, none⟩ ∧ n ≤ cap := by
        rcases hr.2 with ⟨_, h0⟩ | ⟨g, cap', cur, h, _, _, h3, _⟩
        · omega
        · cases h; exact ⟨g, rfl, h3⟩
      obtain ⟨⟨x, hc⟩, hf, zs, hr2, _⟩ := rowPut hr (show k < cap by omega) (.string overB)
      have c2 := c.setCell (p := ⟨b, k, none⟩) (.inl rfl) (.string overB)
      gi_wp2
      go_roundw
      case rel => exact ⟨k + 1, zs, hlt, by go_num, hr2, by have := c2.size; simp at this; simp; omega, c2⟩
      case measure => simp [intOf]; omega
    · obtain rfl : k = n := by omega
      have hmx : k + 1 ≤ maxLen := by unfold maxLen; omega
      gi_wp2_with (gi_at_builtin; refine wpListIn_append_at _ rfl _ _ 26 rfl base 9 i0 (.string ⟨#[]⟩) 1 16 Tryz.underlying26 hi hz0 hz1 hz2 rfl (by decide) _ _ _ rfl (hr.alloc _) ⟨wr.heap.size, 0, none⟩ 1 1 [.string overB] rfl rfl (cell_one_new _ _ _) (by simp [Value.oneCell']) hmx (by omega) (by simp; omega) ?_; intro v' w1 hown' hgrow _ hat)
      go_end0
      exact ⟨⟨_, rfl⟩, (c.alloc _).grown hgrow (fun j e => .inl e)⟩

/-- The room behind a row: k of its cells bear the mark; the row is as it was. -/
def roomRel (w : World) (g n : Nat) (vals : List Value) (k : Nat) (wr : World) : Prop :=
  wr.ownsRow w.heap.size 9 1 (.slice (some ⟨g, 0, none⟩) n (n + 3)) n vals ∧ Chg No w wr ∧ ∀ j, j < k → wr.cell? ⟨g, n + j, none⟩ = some (.string lentB)

theorem roomRel.step {w wr : World} {g n k : Nat} {vals : List Value} (h : roomRel w g n vals k wr) (hk : k < 3) (hg : w.heap.size ≤ g) :
    (∃ x, wr.cell? ⟨g, n + k, none⟩ = some x) ∧ wr.frozen? ⟨g, n + k, none⟩ = false ∧ roomRel w g n vals (k + 1) (wr.setCell ⟨g, n + k, none⟩ (.string lentB)) := by
  obtain ⟨hr, c, hl⟩ := h
  obtain ⟨⟨x, hcx⟩, hf, ys, hr2, hys⟩ := rowPut hr (j := n + k) (by omega) (.string lentB)
  obtain rfl := hys (by omega)
  refine ⟨⟨x, hcx⟩, hf, hr2, c.setCell (p := ⟨g, n + k, none⟩) (.inr hg) (.string lentB), fun j hj => ?_⟩
  by_cases e : j = k
  · subst e; exact World.cell?_setCell_same' _ _ _ (by rw [hcx]; rfl)
  · rw [World.cell?_setCell_other]
    · exact hl j (by omega)
    · intro h; rw [Addr.mk.injEq] at h; have := h.2.1; omega

/-- What is lent: the row, the mark in its room behind it, a block of its own. -/
def LentS (w w' : World) (v : Value) (vals : List Value) : Prop :=
  ∃ g, v = .slice (some ⟨g, 0, none⟩) vals.length (vals.length + 3) ∧ w.heap.size ≤ g ∧ SlV w' (.slice (some ⟨g, 0, none⟩) (vals.length + 3) (vals.length + 3)) (vals ++ [.string lentB, .string lentB, .string lentB])

theorem roomRel.lent {w wr : World} {g : Nat} {vals : List Value} (h : roomRel w g vals.length vals 3 wr) (hm : vals.length + 3 ≤ maxLen) (hg : w.heap.size ≤ g) : LentS w wr (.slice (some ⟨g, 0, none⟩) vals.length (vals.length + 3)) vals := by
  obtain ⟨hr, c, hl⟩ := h
  refine ⟨g, rfl, hg, _, _, by simp, by simp, hm, fun i x hi => ⟨g, 0, rfl, ?_⟩⟩
  rw [Nat.zero_add]
  rw [List.getElem?_append] at hi
  split at hi
  · have := hr.cells (g := g) rfl i x hi
    have e : (⟨g, 0, none⟩ : Addr).add i = ⟨g, 0 + i, none⟩ := by unfold Addr.add; split <;> simp_all
    rw [e, Nat.zero_add] at this
    exact this
  · rename_i hge
    obtain ⟨j, rfl⟩ : ∃ j, i = vals.length + j := ⟨i - vals.length, by omega⟩
    rw [show vals.length + j - vals.length = j by omega] at hi
    have hj : j < 3 := by
      have := (List.getElem?_eq_some_iff.1 hi).1
      simpa using this
    have hx : x = .string lentB := by
      match j, hj with
      | 0, _ => simpa using hi.symm
      | 1, _ => simpa using hi.symm
      | 2, _ => simpa using hi.symm
    rw [hx]
    exact hl j hj

theorem LentS.no {w w1 w2 : World} {v : Value} {vals : List Value} (h : LentS w w1 v vals) (c : Chg No w1 w2) : LentS w w2 v vals := by
  obtain ⟨g, e, hg, hs⟩ := h
  exact ⟨g, e, hg, hs.no c⟩
theorem LentS.row {w w1 : World} {v : Value} {vals : List Value} (h : LentS w w1 v vals) : SlV w1 v vals := by
  obtain ⟨g, rfl, hg, p, cap, e, h1, h2, hc⟩ := h
  rw [Value.slice.injEq] at e
  obtain ⟨rfl, _, rfl⟩ := e
  refine ⟨_, _, rfl, by omega, h2, fun i x hi => hc i x ?_⟩
  rw [List.getElem?_append_left (List.getElem?_eq_some_iff.1 hi).1]
  exact hi

end Go.Proofs.YtndblaemladppaaGreatDoor
