/-
  Of: Txt, TxtH, TxtL.
-/
import Derived.Test.YtmpgeacfnikbpaaDoorBase
import Derived.Deep.QuietTactic
import Derived.BigQuiet
section
-- Txt
namespace Go.Proofs.YtmpgeacfnikbpaaDoor
open Go.RowKit Go.Shelf Go.SeqLib

abbrev No : Blk := fun _ => False

theorem Chg.seq {a b c : World} (h : Chg No a b) (k : Chg No b c) : Chg No a c := h.trans k (Grew.refl _ _)

theorem rowBase {W : World} {b b' : Nat} {e : TypeId} {s : Nat} {v : Value} {n : Nat} {xs : List Value} (h : W.ownsRow b e s v n xs) (hb : b' ≤ b) : W.ownsRow b' e s v n xs := by
  refine ⟨h.1, ?_⟩
  rcases h.2 with hn | ⟨g, cap, cur, hv, hg, r⟩
  · exact .inl hn
  · exact .inr ⟨g, cap, cur, hv, Nat.le_trans hb hg, r⟩

section
variable {P : Program} {t e : TypeId}
theorem run_equalIn_slice_nil (h : P.underlying t = some (.slice e)) (d : Nat) (p : Option Addr) (n c : Nat) (w : World) :
    (Op.equalIn (d + 1) t (.slice p n c) (.slice none 0 0)).run P w = .ok p.isNone w := by
  cases p <;> simp [Op.equalIn, run_underlying h]
/-- A slice that is there is not nil. -/
theorem run_eql_slice_nil' (h : P.underlying t = some (.slice e)) (p : Option Addr) (n c : Nat) (w : World) :
    (binOp .eql t (.slice p n c) (.slice none 0 0)).run P w = .ok (.bool p.isNone) w := by
  simp only [binOp]
  simp [Op.equal, Op.maxDepth, run_equalIn_slice_nil h 9999]
end

theorem row_slice {W : World} {b : Nat} {e : TypeId} {s : Nat} {v : Value} {n : Nat} {xs : List Value} (h : W.ownsRow b e s v n xs) : ∃ p c, v = .slice p n c := by
  rcases h.2 with ⟨rfl, rfl⟩ | ⟨g, cap, cur, rfl, _⟩
  · exact ⟨_, _, rfl⟩
  · exact ⟨_, _, rfl⟩

/-- A slice that reads as these values. -/
def SlV (W : World) (v : Value) (vals : List Value) : Prop :=
  ∃ p cap, v = .slice p vals.length cap ∧ vals.length ≤ cap ∧ cap ≤ maxLen ∧ ∀ i x, vals[i]? = some x → ∃ b off, p = some ⟨b, off, none⟩ ∧ W.cell? ⟨b, off + i, none⟩ = some x
def svD (v : Value) (vals : List Value) : Blk := fun k => vals ≠ [] ∧ v.ownBlock = some k

theorem SlV.lt {W : World} {v : Value} {vals : List Value} (h : SlV W v vals) : ∀ k, svD v vals k → k < W.heap.size := by
  obtain ⟨p, cap, rfl, _, _, hc⟩ := h
  rintro k ⟨hz, hk⟩
  cases vals with
  | nil => exact absurd rfl hz
  | cons x r =>
    obtain ⟨b, off, rfl, hcell⟩ := hc 0 x rfl
    simp [Value.ownBlock] at hk
    subst hk
    exact World.block_lt_of_cell? W _ hcell

theorem SlV.kept {W W' : World} {v : Value} {vals : List Value} (h : SlV W v vals) (hk : ∀ k, svD v vals k → W'.heap[k]? = W.heap[k]?) : SlV W' v vals := by
  obtain ⟨p, cap, rfl, h1, h2, hc⟩ := h
  refine ⟨p, cap, rfl, h1, h2, fun i x hi => ?_⟩
  obtain ⟨b, off, rfl, hcell⟩ := hc i x hi
  refine ⟨b, off, rfl, (World.cell?_of_block (a := ⟨b, off + i, none⟩) (hk b ⟨?_, rfl⟩)).trans hcell⟩
  rintro rfl
  simp at hi

theorem SlV.ofRow {W : World} {base : Nat} {e : TypeId} {v : Value} {vals : List Value} (h : W.ownsRow base e 1 v vals.length vals) : SlV W v vals := by
  have h' := h
  rcases h.2 with ⟨rfl, h0⟩ | ⟨g, cap, cur, rfl, hb, hg, hn, hm, hs, ht⟩
  · obtain rfl : vals = [] := List.length_eq_zero_iff.1 h0
    exact ⟨none, 0, rfl, Nat.le_refl _, Nat.zero_le _, by simp⟩
  · refine ⟨_, cap, rfl, hn, hm, fun i x hi => ⟨g, 0, rfl, ?_⟩⟩
    have := h'.cells (g := g) rfl i x hi
    have e : (⟨g, 0, none⟩ : Addr).add i = ⟨g, 0 + i, none⟩ := by unfold Addr.add; split <;> simp_all
    rwa [e] at this

/-- A list of values that was just laid. -/
theorem SlV.made (w : World) (vals : List Value) (e : TypeId) (hl : vals.length ≤ 1000000) : SlV (w.alloc (.cells vals.toArray e)) (.slice (some ⟨w.heap.size, 0, none⟩) vals.length vals.length) vals := by
  refine ⟨_, vals.length, rfl, Nat.le_refl _, by unfold maxLen; omega, fun i x hi => ⟨w.heap.size, 0, rfl, ?_⟩⟩
  have h : (w.alloc (.cells vals.toArray e)).heap[w.heap.size]? = some (.cells vals.toArray e (0, 0)) := World.alloc_heap_new w _
  unfold World.cell?
  show (match (w.alloc (.cells vals.toArray e)).heap[w.heap.size]? with | some (.cells c _ _) => if false = true then none else c[0 + i]? | _ => none) = some x
  rw [h]
  simpa using hi

theorem drewNC {S : Blk} {a w : World} (h : Chg S a w) (n : Nat) : Chg S a (w.drewN n) := ⟨h.os, h.tape, h.output, h.size, h.block⟩

/-- A text, as yield takes it. -/
abbrev encS (x : ByteArray) : Array Value := #[.string x]

theorem info9 : (Tryd.prog.info? 9).map (fun i => (i.zero, i.size, i.bytes)) = some (some (.string ⟨#[]⟩), 1, 16) := by kernel_rfl

theorem weakenS {gf : Nat} {lb : Array Value} {xs : List ByteArray} {D M : Blk} {I0 : World → Prop} {I : List ByteArray → World → Prop} (it : Iter Tryd.prog gf lb encS xs D M I0 I)
    (h : ∀ pre W, I pre W → I0 W) (hM : ∀ W W', I0 W → I0 W' → ∀ k, M k → W'.heap[k]? = W.heap[k]?) : Iter Tryd.prog gf lb encS xs D No I0 (fun _ => I0) := {
  sub := fun _ h => h.elim
  lt0 := it.lt0
  kept0 := it.kept0
  kept := fun h => it.kept0 h
  runs := fun l J Jx S W pJ pJx hY hI hJ hDS => (it.runs l J Jx S W pJ pJx hY hI hJ hDS).mono fun e W' h' => by
    obtain ⟨hv, ys, S', hj, hi, c, g⟩ := h'
    refine ⟨hv, ys, S', hj, h ys W' hi, c.less (fun k hk hm hn => ?_), g⟩
    rcases hm with hm | hm
    · exact hM W W' hI (h ys W' hi) k hm
    · exact (hn (.inr hm)).elim }

/-- A sequence of texts that turns nothing, over the blocks D. -/
def PSeqS (W : World) (gf : Nat) (lb : Array Value) (xs : List ByteArray) (D : Blk) : Prop :=
  ∃ I0, Iter Tryd.prog gf lb encS xs D No I0 (fun _ => I0) ∧ I0 W ∧ ∀ args w, (callFunc gf args).run Tryd.prog w = .ok (.enter gf args) w

theorem PSeqS.lt {W : World} {gf : Nat} {lb : Array Value} {xs : List ByteArray} {D : Blk} (h : PSeqS W gf lb xs D) : ∀ k, D k → k < W.heap.size := by
  obtain ⟨I0, it, hi, _⟩ := h
  exact it.lt0 hi
theorem PSeqS.no {W W' : World} {gf : Nat} {lb : Array Value} {xs : List ByteArray} {D : Blk} (h : PSeqS W gf lb xs D) (c : Chg No W W') : PSeqS W' gf lb xs D := by
  obtain ⟨I0, it, hi, he⟩ := h
  exact ⟨I0, it, it.kept0 hi c.size (fun k hk => c.block k (it.lt0 hi k hk) (fun h => h)), he⟩

theorem SlV.no {W W' : World} {v : Value} {vals : List Value} (h : SlV W v vals) (c : Chg No W W') : SlV W' v vals :=
  h.kept (fun k hk => c.block k (h.lt k hk) (fun h => h))

theorem text_ext {x y : ByteArray} (h : x.toList = y.toList) : x = y := by
  rw [Go.ByteArray.toList_eq, Go.ByteArray.toList_eq] at h
  cases x; cases y
  exact congrArg ByteArray.mk (Array.toList_inj.1 h)

/-- A cell of a row that is owned, its room too: it is there, it may be written; written, the row is owned still. -/
theorem rowPut {W : World} {base : Nat} {e : TypeId} {g n cap : Nat} {xs : List Value} (h : W.ownsRow base e 1 (.slice (some ⟨g, 0, none⟩) n cap) n xs) {j : Nat} (hj : j < cap) (u : Value) :
    (∃ x, W.cell? ⟨g, j, none⟩ = some x) ∧ W.frozen? ⟨g, j, none⟩ = false ∧ ∃ ys, (W.setCell ⟨g, j, none⟩ u).ownsRow base e 1 (.slice (some ⟨g, 0, none⟩) n cap) n ys ∧ (n ≤ j → ys = xs) := by
  obtain ⟨h1, h2⟩ := h
  rcases h2 with ⟨h2, _⟩ | ⟨g', cap', cur, hv, hb, hg, hn, hm, hs, ht⟩
  · cases h2
  · cases hv
    have hjs : j < cur.size := by omega
    refine ⟨⟨cur[j], by simp [World.cell?, hg, hjs]⟩, by simp [World.frozen?, hg], (cur.setIfInBounds j u).toList.take n, ⟨?_, .inr ⟨g, cap, cur.setIfInBounds j u, rfl, hb, ?_, hn, hm, by simpa using hs, by simp⟩⟩, fun hnj => ?_⟩
    · simp; omega
    · obtain ⟨hlt, hk⟩ := Array.getElem?_eq_some_iff.1 hg
      show (W.heap.modify g _)[g]? = _
      rw [Array.getElem?_eq_getElem (by rw [Array.size_modify]; exact hlt), Array.getElem_modify_self, hk]
      rfl
    · rw [← ht, Nat.mul_one]
      refine List.ext_getElem? fun i => ?_
      simp only [List.getElem?_take, Array.getElem?_toList, Array.getElem?_setIfInBounds]
      split
      · rw [if_neg (by omega)]
      · rfl

theorem PSeqS.chg {W W' : World} {gf : Nat} {lb : Array Value} {xs : List ByteArray} {D S : Blk} (h : PSeqS W gf lb xs D) (c : Chg S W W') (hd : ∀ k, D k → ¬ S k) : PSeqS W' gf lb xs D := by
  obtain ⟨I0, it, hi, he⟩ := h
  exact ⟨I0, it, it.kept0 hi c.size (fun k hk => c.block k (it.lt0 hi k hk) (hd k hk)), he⟩

theorem SlV.chg {W W' : World} {v : Value} {vals : List Value} (h : SlV W v vals) {S : Blk} (c : Chg S W W') (hd : ∀ k, svD v vals k → ¬ S k) : SlV W' v vals :=
  h.kept (fun k hk => c.block k (h.lt k hk) (hd k hk))

theorem results_cell1 {fn : Func} {p : Tmp} {ty : TypeId} (h : fn.results = #[.cell p ty]) (tmps : Array Value) (P : Program) (w : World) :
    (results fn tmps).run P w = ((asAddr (tmps.getD p undef)).run P w).andThen fun a w₁ => (loadVar ty a).run P w₁ := by
  simp only [results, h]
  simp [Sem.run_bind, Result.andThen]

end Go.Proofs.YtmpgeacfnikbpaaDoor

end
section
-- TxtH
namespace Go.Proofs.YtmpgeacfnikbpaaDoor
open Go.RowKit Go.Shelf Go.SeqLib
attribute [local go_sem] Oper.semAt_some

end Go.Proofs.YtmpgeacfnikbpaaDoor

end
section
-- TxtL
namespace Go.Proofs.YtmpgeacfnikbpaaDoor
open Go.RowKit Go.Shelf Go.SeqLib
attribute [local go_sem] Oper.semAt_some

/-- The mark of the room that is lent. -/
abbrev lentB : ByteArray := ⟨#[108, 101, 110, 116]⟩
abbrev overB : ByteArray := ⟨#[111, 118, 101, 114]⟩

/-- What GreatTexts answers. -/
def greatB (zs : List ByteArray) (most long : Nat) : Bool := decide (most < zs.length) || zs.any (fun x => decide (long < x.size))

theorem greatB_false {zs : List ByteArray} {most long : Nat} (h : greatB zs most long = false) : zs.length ≤ most ∧ ∀ x ∈ zs, x.size ≤ long := by
  unfold greatB at h
  rw [Bool.or_eq_false_iff] at h
  refine ⟨by have := of_decide_eq_false h.1; omega, fun x hx => ?_⟩
  have := List.any_eq_false.1 h.2 x hx
  simp at this
  exact this

/-- The room behind a row: k of its cells bear the mark; the row is as it was. -/
def roomRel (w : World) (g n : Nat) (vals : List Value) (k : Nat) (wr : World) : Prop :=
  wr.ownsRow w.heap.size 9 1 (.slice (some ⟨g, 0, none⟩) n (n + 3)) n vals ∧ Chg No w wr ∧ ∀ j, j < k → wr.cell? ⟨g, n + j, none⟩ = some (.string lentB)

theorem roomRel.step {w wr : World} {g n k : Nat} {vals : List Value} (h : roomRel w g n vals k wr) (hk : k < 3) (hg : w.heap.size ≤ g) :
    (∃ x, wr.cell? ⟨g, n + k, none⟩ = some x) ∧ wr.frozen? ⟨g, n + k, none⟩ = false ∧ roomRel w g n vals (k + 1) (wr.setCell ⟨g, n + k, none⟩ (.string lentB)) := by
  obtain ⟨hr, c, hl⟩ := h
  obtain ⟨⟨x, hcx⟩, hf, ys, hr2, hys⟩ := rowPut hr (j := n + k) (by omega) (.string lentB)
  obtain rfl := hys (by omega)
  refine ⟨⟨x, hcx⟩, hf, hr2, c.setCell (p := ⟨g, n + k, none⟩) (.inr hg) (.string lentB), fun j hj => ?_⟩
  by_cases e : j = k
  · subst e; exact World.cell?_setCell_same' _ _ _ (by rw [hcx]; rfl)
  · rw [World.cell?_setCell_other]
    · exact hl j (by omega)
    · intro h; rw [Addr.mk.injEq] at h; have := h.2.1; omega

/-- What is lent: the row, the mark in its room behind it, a block of its own. -/
def LentS (w w' : World) (v : Value) (vals : List Value) : Prop :=
  ∃ g, v = .slice (some ⟨g, 0, none⟩) vals.length (vals.length + 3) ∧ w.heap.size ≤ g ∧ SlV w' (.slice (some ⟨g, 0, none⟩) (vals.length + 3) (vals.length + 3)) (vals ++ [.string lentB, .string lentB, .string lentB])

theorem roomRel.lent {w wr : World} {g : Nat} {vals : List Value} (h : roomRel w g vals.length vals 3 wr) (hm : vals.length + 3 ≤ maxLen) (hg : w.heap.size ≤ g) : LentS w wr (.slice (some ⟨g, 0, none⟩) vals.length (vals.length + 3)) vals := by
  obtain ⟨hr, c, hl⟩ := h
  refine ⟨g, rfl, hg, _, _, by simp, by simp, hm, fun i x hi => ⟨g, 0, rfl, ?_⟩⟩
  rw [Nat.zero_add]
  rw [List.getElem?_append] at hi
  split at hi
  · have := hr.cells (g := g) rfl i x hi
    have e : (⟨g, 0, none⟩ : Addr).add i = ⟨g, 0 + i, none⟩ := by unfold Addr.add; split <;> simp_all
    rw [e, Nat.zero_add] at this
    exact this
  · rename_i hge
    obtain ⟨j, rfl⟩ : ∃ j, i = vals.length + j := ⟨i - vals.length, by omega⟩
    rw [show vals.length + j - vals.length = j by omega] at hi
    have hj : j < 3 := by
      have := (List.getElem?_eq_some_iff.1 hi).1
      simpa using this
    have hx : x = .string lentB := by
      match j, hj with
      | 0, _ => simpa using hi.symm
      | 1, _ => simpa using hi.symm
      | 2, _ => simpa using hi.symm
    rw [hx]
    exact hl j hj

theorem LentS.no {w w1 w2 : World} {v : Value} {vals : List Value} (h : LentS w w1 v vals) (c : Chg No w1 w2) : LentS w w2 v vals := by
  obtain ⟨g, e, hg, hs⟩ := h
  exact ⟨g, e, hg, hs.no c⟩
theorem LentS.row {w w1 : World} {v : Value} {vals : List Value} (h : LentS w w1 v vals) : SlV w1 v vals := by
  obtain ⟨g, rfl, hg, p, cap, e, h1, h2, hc⟩ := h
  rw [Value.slice.injEq] at e
  obtain ⟨rfl, _, rfl⟩ := e
  refine ⟨_, _, rfl, by omega, h2, fun i x hi => hc i x ?_⟩
  rw [List.getElem?_append_left (List.getElem?_eq_some_iff.1 hi).1]
  exact hi

end Go.Proofs.YtmpgeacfnikbpaaDoor

end
