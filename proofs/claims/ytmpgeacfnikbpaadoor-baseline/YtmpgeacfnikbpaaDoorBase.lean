/-
  What the walks of package seq share: how a number is told, how a slice of numbers reads.
-/
import Derived.Test.YtmpgeacfnikbpaaDoorSeq
import Derived.RangeFuncCalls
import Derived.Shelf.Abstract
import Derived.Shelf.RegionOpen
import Derived.WalkKit
import Derived.OwnWalkIn
import Derived.TacticsInMore
import Derived.LoopNIn
import Derived.LoopIn
import Derived.Maps.AppendAt
import Derived.Test.YtmpgeacfnikbpaaDoorProg
namespace Go.Proofs.YtmpgeacfnikbpaaDoor
open Go.RowKit Go.Shelf Go.SeqLib

/-- A number, as yield takes it. -/
abbrev encI (x : Int) : Array Value := #[.int .i64 x]


/-- A slice that reads as numbers. -/
def SlI (W : World) (v : Value) (zs : List Int) : Prop :=
  ∃ p cap, v = .slice p zs.length cap ∧ zs.length ≤ cap ∧ cap ≤ maxLen ∧ ∀ i x, zs[i]? = some x → ∃ b off, p = some ⟨b, off, none⟩ ∧ W.cell? ⟨b, off + i, none⟩ = some (.int .i64 x)

/-- The block that it leans on. -/
def slD (v : Value) (zs : List Int) : Blk := fun k => zs ≠ [] ∧ v.ownBlock = some k

theorem SlI.lt {W : World} {v : Value} {zs : List Int} (h : SlI W v zs) : ∀ k, slD v zs k → k < W.heap.size := by
  obtain ⟨p, cap, rfl, _, _, hc⟩ := h
  rintro k ⟨hz, hk⟩
  cases zs with
  | nil => exact absurd rfl hz
  | cons x r =>
    obtain ⟨b, off, rfl, hcell⟩ := hc 0 x rfl
    simp [Value.ownBlock] at hk
    subst hk
    exact World.block_lt_of_cell? W _ hcell

theorem SlI.kept {W W' : World} {v : Value} {zs : List Int} (h : SlI W v zs) (hk : ∀ k, slD v zs k → W'.heap[k]? = W.heap[k]?) : SlI W' v zs := by
  obtain ⟨p, cap, rfl, h1, h2, hc⟩ := h
  refine ⟨p, cap, rfl, h1, h2, fun i x hi => ?_⟩
  obtain ⟨b, off, rfl, hcell⟩ := hc i x hi
  refine ⟨b, off, rfl, (World.cell?_of_block (a := ⟨b, off + i, none⟩) (hk b ⟨?_, rfl⟩)).trans hcell⟩
  rintro rfl
  simp at hi

theorem SlI.chg {W W' : World} {v : Value} {zs : List Int} (h : SlI W v zs) {S : Blk} (c : Chg S W W') (hd : ∀ k, slD v zs k → ¬ S k) : SlI W' v zs :=
  h.kept (fun k hk => c.block k (h.lt k hk) (hd k hk))

theorem SlI.nil (W : World) : SlI W (.slice none 0 0) [] := ⟨none, 0, rfl, Nat.le_refl _, Nat.zero_le _, by simp⟩

/-- What is owned reads so. -/
theorem SlI.ofRow {W : World} {base : Nat} {v : Value} {zs : List Int} (h : W.ownsRow base 3 1 v zs.length (zs.map (Value.int .i64))) : SlI W v zs := by
  have h' := h
  rcases h.2 with ⟨rfl, h0⟩ | ⟨g, cap, cur, rfl, hb, hg, hn, hm, hs, ht⟩
  · obtain rfl : zs = [] := List.length_eq_zero_iff.1 h0
    exact SlI.nil W
  · refine ⟨_, cap, rfl, hn, hm, fun i x hi => ⟨g, 0, rfl, ?_⟩⟩
    have := h'.cells (g := g) rfl i (.int .i64 x) (by simp [hi])
    have e : (⟨g, 0, none⟩ : Addr).add i = ⟨g, 0 + i, none⟩ := by unfold Addr.add; split <;> simp_all
    rwa [e] at this

theorem row_lt {W : World} {base : Nat} {v : Value} {n : Nat} {e : TypeId} {xs : List Value} (h : W.ownsRow base e 1 v n xs) : ∀ k, v.ownBlock = some k → base ≤ k ∧ k < W.heap.size := h.lt

/-- What a slice owns it owns where its block lies on. -/
theorem row_kept {W W' : World} {base : Nat} {e : TypeId} {v : Value} {n : Nat} {xs : List Value} (h : W.ownsRow base e 1 v n xs) (hk : ∀ k, v.ownBlock = some k → W'.heap[k]? = W.heap[k]?) : W'.ownsRow base e 1 v n xs := by
  refine ⟨h.1, ?_⟩
  rcases h.2 with hn | ⟨g, cap, cur, rfl, hb, hgg, rest⟩
  · exact .inl hn
  · exact .inr ⟨g, cap, cur, rfl, hb, (hk g rfl).trans hgg, rest⟩

section
variable {P : Program} {t : TypeId} {ps rs : Array TypeId} {vr : Bool}
theorem run_equalIn_func_nil (h : P.underlying t = some (.func ps rs vr)) (d : Nat) (f : Fn) (r c : Array Value) (w : World) :
    (Op.equalIn (d + 1) t (.func f r c) .nilFunc).run P w = .ok false w := by
  simp [Op.equalIn, run_underlying h]
/-- A function that is there is not nil. -/
theorem run_eql_func_nil (h : P.underlying t = some (.func ps rs vr)) (f : Fn) (r c : Array Value) (w : World) :
    (binOp .eql t (.func f r c) .nilFunc).run P w = .ok (.bool false) w := by
  simp only [binOp]
  simp [Op.equal, Op.maxDepth, run_equalIn_func_nil h 9999]
theorem run_equalIn_nil_func (h : P.underlying t = some (.func ps rs vr)) (d : Nat) (w : World) :
    (Op.equalIn (d + 1) t .nilFunc .nilFunc).run P w = .ok true w := by
  simp [Op.equalIn, run_underlying h]
/-- Nil is. -/
theorem run_eql_nil_func (h : P.underlying t = some (.func ps rs vr)) (w : World) :
    (binOp .eql t .nilFunc .nilFunc).run P w = .ok (.bool true) w := by
  simp only [binOp]
  simp [Op.equal, Op.maxDepth, run_equalIn_nil_func h 9999]
end

/-- The append law, at the operation, with where the new row lies. -/
theorem wpListIn_append_at {F : Fence} {n : Nat} {P : Program} (w : World) {ops : Array Oper} {rest : List Oper} {o : Oper} {a : Act} {Q : Exit → Act → World → Prop}
    (hg : o.guard = none) (s x : Operand) (t : TypeId) (hop : o.op = Op.call { callee := Callee.builtin Builtin.append, args := #[s, x], argTypes := #[t, t] })
    (base : Nat) (e : TypeId) (i : TypeInfo) (z : Value) (size bytes : Nat) (h1 : P.underlying t = some (.slice e)) (h2 : P.info? e = some i) (h3 : i.zero = some z) (h4 : i.size = size) (h5 : i.bytes = bytes) (h6 : z.cells.size = size) (h7 : 0 < size)
    (v : Value) (k : Nat) (xs : List Value) (hs : a.eval s = v) (hown : w.ownsRow base e size v k xs) (ad : Addr) (m c : Nat) (news : List Value) (hx : a.eval x = .slice (some ad) m c) (hn : news.length = m * size)
    (hc : ∀ j u, news[j]? = some u → w.cell? (ad.add j) = some u) (h1c : ∀ u ∈ news, u.oneCell' = true) (b1 : k + m ≤ maxLen) (b2 : (k + m) * bytes ≤ 140737488355328) (b3 : base ≤ w.heap.size)
    (hK : ∀ v' w', w'.ownsRow base e size v' (k + m) (xs ++ news) → w.grownBy w' v.ownBlock → (v' = .slice none 0 0 ↔ v = .slice none 0 0 ∧ m = 0) → (v'.ownBlock = v.ownBlock ∨ v'.ownBlock = some w.heap.size) → wpListIn F n P ops Q rest (a.put o.dst v') w') :
    wpListIn F n P ops Q (o :: rest) a w := by
  refine wpListIn_plain hg fun K hK' => ?_
  obtain ⟨v', w', hrun, r1, r2, r3, r4⟩ := run_append_own_at (P := P) w base t o.type e i z size bytes h1 h2 h3 h4 h5 h6 h7 v k xs hown ad m c news hn hc h1c b1 b2 b3
  unfold Oper.wpIn
  refine ⟨?_, ?_⟩
  · simp [Oper.about, hop, resolve, Target.leads, Sem.run_pure]
  · rw [Oper.semAt_plain F _ _ (by rw [hop]; intro c hc'; cases hc')]
    simp [execOp, hop, resolve, invoke, builtin, hs, hx, hrun, Result.andThen]
    exact hK' _ _ (hK v' w' r1 r2 r3 r4)

/-- A box that holds a slice which owns these. -/
def RowBox (B base : Nat) (t e : TypeId) (vals : List Value) : Blk → World → Prop := fun S W => ∃ v, S = (fun k => k = B ∨ v.ownBlock = some k) ∧ Boxed W B t v ∧ W.ownsRow base e 1 v vals.length vals

theorem RowBox.part (B base : Nat) (t e : TypeId) (vals : List Value) : Part (RowBox B base t e vals) := {
  lt := by
    rintro S W ⟨v, rfl, hb, hr⟩ k (rfl | h)
    · exact hb.lt
    · exact (hr.lt k h).2
  kept := by
    rintro S W W' ⟨v, rfl, hb, hr⟩ _ hk
    exact ⟨v, rfl, (hk _ (.inl rfl)).trans hb, row_kept hr (fun k h => hk k (.inr h))⟩ }

/-- One more is appended. -/
theorem RowBox.step {W w1 : World} {B base : Nat} {t e : TypeId} {v v' : Value} {vals : List Value} {x : Value} {tmp : Obj} (hv : Boxed W B t v) (hte : t ≠ e) (hrow : W.ownsRow base e 1 v vals.length vals)
    (hown' : w1.ownsRow base e 1 v' (vals.length + 1) (vals ++ [x])) (hgrow : (W.alloc tmp).grownBy w1 v.ownBlock) (hat : v'.ownBlock = v.ownBlock ∨ v'.ownBlock = some (W.alloc tmp).heap.size) :
    Boxed w1 B t v ∧ Boxed (w1.setCell ⟨B, 0, none⟩ v') B t v' ∧ (w1.setCell ⟨B, 0, none⟩ v').ownsRow base e 1 v' (vals ++ [x]).length (vals ++ [x]) ∧
      Chg (fun k => k = B ∨ v.ownBlock = some k) W (w1.setCell ⟨B, 0, none⟩ v') ∧ Grew (fun k => k = B ∨ v.ownBlock = some k) W (fun k => k = B ∨ v'.ownBlock = some k) := by
  have hv1 : Boxed w1 B t v := (hv.alloc tmp).kept hgrow (hv.not_row hte hrow)
  refine ⟨hv1, hv1.set v', ?_, ?_, ?_⟩
  · rw [List.length_append, List.length_singleton]
    exact hown'.kept (grownBy_setCell' w1 B v') (.inr (hv1.not_row hte hown').symm)
  · exact (((Chg.refl _ W).alloc tmp).grown hgrow (fun k e => .inl (.inr e))).setCell (p := ⟨B, 0, none⟩) (.inl (.inl rfl)) v'
  · rintro k (h | h)
    · exact .inl (.inl h)
    · rcases hat with h' | h'
      · exact .inl (.inr (h'.symm.trans h))
      · rw [h'] at h; simp at h; exact .inr (by omega)

end Go.Proofs.YtmpgeacfnikbpaaDoor
