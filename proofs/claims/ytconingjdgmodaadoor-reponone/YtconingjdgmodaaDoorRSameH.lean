/-
  For the statements' own same: what is gone through by its range, and what lies about it.
-/
import Derived.Test.YtconingjdgmodaaDoorLRepo
import Derived.Test.YtconingjdgmodaaDoorRRef
import Derived.Test.YtconingjdgmodaaDoorGLoud
import Derived.Sort.CutIn
import Derived.Sort.QuietThIn
import Derived.Shelf.RegionOpen
namespace Go.SeqLib
open Go Go.RowKit
/-- What a cell already holds may be written into it: nothing changes. -/
theorem setCell_kept {w : World} {a : Addr} {v : Value} (h : w.cell? a = some v) : w.setCell a v = w := by
  have hh : (w.setCell a v).heap = w.heap := by
    apply Array.ext_getElem?
    intro i
    by_cases hi : i = a.block
    · subst hi
      unfold World.cell? at h
      simp only [World.setCell, Array.getElem?_modify, if_true]
      cases hb : w.heap[a.block]? with
      | none => rfl
      | some o =>
        rw [hb] at h
        cases o with
        | cells c e f =>
          simp only at h
          split at h
          · cases h
          · rename_i hs
            simp only [Option.map_some, hs]
            congr 2
            simp only [Bool.false_eq_true, if_false]
            apply Array.ext_getElem?
            intro j
            by_cases hj : j = a.off
            · subst hj
              rw [h]
              obtain ⟨hl, hg⟩ := Array.getElem?_eq_some_iff.1 h
              simp [hl]
            · rw [Array.getElem?_setIfInBounds_ne (Ne.symm hj)]
        | _ => rfl
    · simp only [World.setCell]; rw [Array.getElem?_modify, if_neg (Ne.symm hi)]
  have : w.setCell a v = { w with heap := (w.setCell a v).heap } := rfl
  rw [this, hh]

/-- The law of a range whose rounds begin at what is put on top of where it stands. -/
theorem wpIn_rangeR2 {α : Type} {P : Program} {g : Operand} {ps : Array Tmp} {assign body : Code} {Q : Exit → Act → World → Prop} {a : Act} {w : World}
    {gf : Nat} {lb : Array Value} (f : Act → α → Array Value → Nat → Act) (ob : α → Array Value → Obj) (hg : a.eval g = .func (.func gf) #[] lb) (eg : ∀ args w, (callFunc gf args).run P w = .ok (.enter gf args) w)
    {Tl : Blk → World → Array Value → α → Prop} {xs : List α} {D M : Blk} {I0 : World → Prop} {I : List α → World → Prop} (it : IterR P gf lb Tl xs D M I0 I) (hps : ∀ T W vals x, Tl T W vals x → vals.size = ps.size) (hTl : ∀ T W W' vals x S, Tl T W vals x → Chg S W W' → (∀ k, T k → ¬ S k) → Tl T W' vals x)
    (K : List α → Blk → World → Prop) (Kx : Code → List α → Blk → World → Prop) (hK : ∀ pre, Part (K pre)) (hKx : ∀ c pre, Part (Kx c pre))
    {S : Blk} (hI : I0 w) (h0 : K [] S w) (hDS : ∀ k, D k → ¬ S k)
    (hassign : ∀ (l : Nat) (x : α) (T : Blk) (vals : Array Value) (W : World) (R : Act → World → Prop), Tl T W vals x → R (f a x vals W.heap.size) (W.alloc (ob x vals)) →
      assign.wpIn (Fence.wide.inRound l) 0 P (Exit.then R (fun _ _ _ => False)) { tmps := (ps.zip vals).foldl (fun t (p, v) => t.setIfInBounds p v) a.tmps, defers := [] } W)
    (hbody : ∀ (l : Nat) (pre : List α) (x : α) (T : Blk) (vals : Array Value) (S : Blk) (W : World) (X : Nat), pre ++ [x] <+: xs → Tl T W vals x → (∀ k, T k → ¬ S k) → K pre S W → W.heap[X]? = some (ob x vals) → ¬ S X → w.heap.size ≤ X → body.wpIn (Fence.wide.inRound l) 0 P (rndPost K Kx (pre ++ [x]) S W) (f a x vals X) W)
    (hdone : ∀ (d : Nat) (S' : Blk) (W : World), w.heap.size ≤ d → K xs S' W → I xs W → Chg (fun k => M k ∨ S k) w W → Grew S w S' → W.heap[d]? = some (.deferred (some [])) → ¬ S' d →
      Q .normal { a with defers := { target := .collected d, args := #[] } :: a.defers } W)
    (hstop : ∀ (d : Nat) (c : Code) (pre : List α) (S' : Blk) (W : World), w.heap.size ≤ d → pre <+: xs → Kx c pre S' W → I pre W → Chg (fun k => M k ∨ S k) w W → Grew S w S' → W.heap[d]? = some (.deferred (some [])) → ¬ S' d →
      c.wpIn Fence.wide 0 P Q { a with defers := { target := .collected d, args := #[] } :: a.defers } W) :
    (Code.rangeFunc g ps assign body).wpIn Fence.wide 0 P Q a w :=
  wpIn_rangeR hg eg it hps hTl K Kx hK hKx hI h0 hDS (f a) ob hassign hbody hdone hstop
/-- A statement of open order that changes nothing, in a round, where what is called may lay blocks of its own. -/
theorem region_quietCR {n r : Nat} {P : Program} {id : Nat} {Q : Exit → Act → World → Prop} {a : Act} {w : World} {l : List Oper} (hnd : noDefer l.toArray = true) (hm : P.follows .mixedOrders = true) (hB : Region.lexB .any l.toArray = true)
    (h : wpQuietIn Fence.wide n P l.toArray (fun w' => ∃ c : After w, w' = c.val) (fun a' => ∀ w', (∃ c : After w, w' = c.val) → Q .normal a' w') l a) : (Code.region id l.toArray true).wpIn (Fence.wide.inRound r) n P Q a w := by
  have hC : (fun w' => ∃ c : After w, w' = c.val) { w with drawn := w.drawn + 1 } := ⟨⟨_, (Chg.refl _ w).drew⟩, rfl⟩
  simp only [Region.lexB, Bool.and_eq_true] at hB
  refine wpIn_region_any hm (any_inRound hnd _ _ _ _ (wpAnyIn_of_quiet (F := Fence.wide) (C := fun w' => ∃ c : After w, w' = c.val) (Q := fun a' => ∀ w', (∃ c : After w, w' = c.val) → Q .normal a' w') rfl (fun _ w' hw' h => h w' hw') _ _ _ _ hC ?_))
  have := wpAnyQIn_lex (F := Fence.wide) (n := n) (C := fun w' => ∃ c : After w, w' = c.val) (md := .any) hB.1 l.toArray.toList 0 (Array.replicate l.toArray.size false) a (by simp) (by simpa using hB.2) (by simpa using h)
  simpa using this
end Go.SeqLib
namespace Go.RepoLib
theorem getC_in {L : List Cm} {n : Nat} {c : Cm} (h : L[n]? = some c) : getC L ((n + 1 : Nat) : Int) = c ∧ hasN L.length ((n + 1 : Nat) : Int) = true := by
  have hn := (List.getElem?_eq_some_iff.1 h).1
  have h2 : hasN L.length ((n + 1 : Nat) : Int) = true := by
    unfold hasN
    rw [Bool.and_eq_true, decide_eq_true_eq, decide_eq_true_eq]
    omega
  refine ⟨?_, h2⟩
  unfold getC
  rw [if_pos h2]
  have : ((n + 1 : Nat) : Int).toNat - 1 = n := by omega
  rw [this, List.getD, h]
  rfl
theorem getC_out {L : List Cm} {n : Int} (h : n < 1 ∨ (L.length : Int) < n) : getC L n = noC ∧ hasN L.length n = false := by
  have h2 : hasN L.length n = false := by
    unfold hasN
    rw [Bool.and_eq_false_iff, decide_eq_false_iff_not, decide_eq_false_iff_not]
    omega
  refine ⟨?_, h2⟩
  unfold getC
  rw [if_neg (by rw [h2]; exact Bool.false_ne_true)]
end Go.RepoLib
namespace Go.Proofs.YtconingjdgmodaaDoor
open Go.RowKit Go.Shelf Go.SeqLib Go.DiffLib Go.TreeLib Go.RepoLib Go.BigFrame
attribute [local go_sem] Oper.semAt_some

theorem OwnI.cm {W : World} {base : Nat} {pv tv : Value} {c : Cm} (h1 : OwnI W base pv c.1) (h2 : OwnF W base tv c.2.1) : CmD (fun _ => True) W (.agg #[pv, tv, .string c.2.2]) c := by
  obtain ⟨p, k, rfl⟩ := row_slice h1
  obtain ⟨q, l, rfl⟩ := h2.slice
  exact ⟨p, _, k, q, _, l, rfl, SlV.ofRow (by rw [List.length_map]; exact h1), h2.sl, fun _ _ => trivial, fun _ _ => trivial⟩


section
variable {P : Program} {t : TypeId} {ps rs : Array TypeId} {vr : Bool}
/-- A function that is there is unlike nil. -/
theorem run_neq_func_nilR (h : P.underlying t = some (.func ps rs vr)) (f : Fn) (r c : Array Value) (w : World) :
    (binOp .neq t (.func f r c) .nilFunc).run P w = .ok (.bool true) w := by
  simp only [binOp]
  simp [Op.equal, Op.maxDepth, run_equalIn_func_nil h 9999]
end
/-- The first and the second of what is told. -/
def valA (vals : Array Value) : Value := vals.toList.getD 0 undef
def valB (vals : Array Value) : Value := vals.toList.getD 1 undef
theorem valA_mk (x y : Value) : valA #[x, y] = x := rfl
theorem valB_mk (x y : Value) : valB #[x, y] = y := rfl
def aggA : Value → Array Value
  | .agg xs => xs
  | _ => #[]
theorem aggA_mk (xs : Array Value) : aggA (.agg xs) = xs := rfl

theorem RefRep.heap {b B : Nat} {s : Rp} {lv : Value} {rows : List Rw} {W W' : World} (h : RefRep b B s lv rows W) (hs : W.heap.size ≤ W'.heap.size) (hk : ∀ k, k < b ∨ refS B lv k → W'.heap[k]? = W.heap[k]?) : RefRep b B s lv rows W' := by
  have c : Chg (fun k => ¬ (k < b ∨ refS B lv k)) W { W with heap := W'.heap } := ⟨rfl, rfl, rfl, hs, fun k _ hn => hk k (Classical.not_not.1 hn)⟩
  have h2 := h.chg c (fun k hk hn => hn (.inr hk)) (fun k hn => Nat.not_lt.1 (fun hlt => hn (.inl hlt)))
  exact ⟨h2.box, h2.own, ⟨h2.red.len, fun i r c hr hc => h2.red.at_ i r c hr hc⟩, h2.ne, h2.lowB⟩

/-- What stands while all commits are gone through: what lay, and two boxes. -/
structure SameK (W4 : World) (S0 : Blk) (X : Nat) (n : Nat) (S : Blk) (W : World) : Prop where
  eq : S = fun k => S0 k ∨ k = X ∨ k = X + 1
  low : ∀ k, S0 k → k < W4.heap.size ∧ k ≠ X ∧ k ≠ X + 1
  size : W4.heap.size ≤ W.heap.size
  same : ∀ k, S0 k → W.heap[k]? = W4.heap[k]?
  b8 : Boxed W X 3 (iv (n : Nat))
  b9 : Boxed W (X + 1) 4 (.bool true)
section
variable {W4 W W' : World} {S0 S : Blk} {X n : Nat}
theorem SameK.part : Part (SameK W4 S0 X n) :=
  ⟨by
    intro S W h k hk
    rw [h.eq] at hk
    rcases hk with hk | rfl | rfl
    · exact Nat.lt_of_lt_of_le (h.low k hk).1 h.size
    · exact h.b8.lt
    · exact h.b9.lt,
   by
    intro S W W' h hs hk
    have e : ∀ k, S0 k ∨ k = X ∨ k = X + 1 → W'.heap[k]? = W.heap[k]? := fun k h' => hk k (by rw [h.eq]; exact h')
    exact ⟨h.eq, h.low, Nat.le_trans h.size hs, fun k h0 => (e k (.inl h0)).trans (h.same k h0), (e X (.inr (.inl rfl))).trans h.b8, (e (X + 1) (.inr (.inr rfl))).trans h.b9⟩⟩
theorem SameK.step (h : SameK W4 S0 X n S W) {m : Nat} (c : Chg (fun k => k = X) W W') (b : Boxed W' X 3 (iv (m : Nat))) : SameK W4 S0 X m S W' ∧ Chg S W W' :=
  ⟨⟨h.eq, h.low, Nat.le_trans h.size c.size, fun k h0 => (c.block k (Nat.lt_of_lt_of_le (h.low k h0).1 h.size) (h.low k h0).2.1).trans (h.same k h0), b, c.same h.b9 (by show ¬ X + 1 = X; omega)⟩,
   c.mono (fun k e => by rw [h.eq]; exact .inr (.inl e))⟩
theorem SameK.out (h : SameK W4 S0 X n S W) (c : Chg (fun k => No k ∨ S k) W4 W) : Chg (fun k => X ≤ k) W4 W :=
  c.less (fun k _ hS hn => by
    rcases hS with hS | hS
    · exact hS.elim
    · rw [h.eq] at hS
      rcases hS with h0 | rfl | rfl
      · exact h.same k h0
      · exact absurd (Nat.le_refl _) hn
      · exact absurd (Nat.le_succ _) hn)
end

end Go.Proofs.YtconingjdgmodaaDoor
