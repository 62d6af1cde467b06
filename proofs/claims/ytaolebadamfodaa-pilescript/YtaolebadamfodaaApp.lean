/-
  append inside a statement whose order of evaluation Go leaves open: what it comes to, by a law that the walk meets ahead of its own.
-/
import Derived.Test.YtaolebadamfodaaPW
namespace Go.Proofs.Ytaolebadamfodaa
open Go.RowKit Go.Shelf Go.SeqLib

/-- What an append comes to. -/
def appR (P : Program) (t ty : TypeId) (w : World) (v s : Value) : Result Value := (Builtin.append_ #[t, t] ty #[v, s]).run P w
def appV (P : Program) (t ty : TypeId) (w : World) (v s : Value) : Value := match appR P t ty w v s with
  | .ok u _ => u
  | _ => undef
def appW (P : Program) (t ty : TypeId) (w : World) (v s : Value) : World := match appR P t ty w v s with
  | .ok _ w' => w'
  | _ => w
/-- It comes to an end. -/
def AppOk (P : Program) (t ty : TypeId) (w : World) (v s : Value) : Prop := ∃ u w', appR P t ty w v s = .ok u w'

theorem wpIn_append_pre {F : Fence} {n : Nat} {P : Program} {dst : Option Tmp} {s x : Operand} {t ty : TypeId} {pos : String} {after : Array Edge} {a : Act} {w : World} {K : Act → World → Prop} {Q : Exit → Act → World → Prop} (h : AppOk P t ty w (a.eval s) (a.eval x)) :
    Oper.wpIn F n P { dst := dst, op := Op.call { callee := Callee.builtin Builtin.append, args := #[s, x], argTypes := #[t, t] }, type := ty, pos := pos, after := after, guard := none } a w K Q = K (a.put dst (appV P t ty w (a.eval s) (a.eval x))) (appW P t ty w (a.eval s) (a.eval x)) := by
  obtain ⟨u, w', hrun⟩ := h
  have hv : appV P t ty w (a.eval s) (a.eval x) = u := by unfold appV; rw [hrun]
  have hw : appW P t ty w (a.eval s) (a.eval x) = w' := by unfold appW; rw [hrun]
  rw [hv, hw]
  unfold appR at hrun
  unfold Oper.wpIn
  rw [Oper.semAt_plain F _ _ (by intro c hc'; cases hc')]
  simp [Oper.about, execOp, resolve, invoke, builtin, Target.leads, Sem.run_pure, hrun, Result.andThen]
  exact Iff.rfl

/-- An append of one item behind what a slice owns. -/
theorem app_own {P : Program} (w : World) (base : Nat) (t ty e : TypeId) (i : TypeInfo) (z : Value) (size bytes : Nat) (h1 : P.underlying t = some (.slice e)) (h2 : P.info? e = some i) (h3 : i.zero = some z) (h4 : i.size = size) (h5 : i.bytes = bytes) (h6 : z.cells.size = size) (h7 : 0 < size)
    (v : Value) (k : Nat) (xs : List Value) (hown : w.ownsRow base e size v k xs) (ad : Addr) (m c : Nat) (news : List Value) (hn : news.length = m * size)
    (hc : ∀ j u, news[j]? = some u → w.cell? (ad.add j) = some u) (h1c : ∀ u ∈ news, u.oneCell' = true) (b1 : k + m ≤ maxLen) (b2 : (k + m) * bytes ≤ 140737488355328) (b3 : base ≤ w.heap.size) :
    ∃ v' w', AppOk P t ty w v (.slice (some ad) m c) ∧ appV P t ty w v (.slice (some ad) m c) = v' ∧ appW P t ty w v (.slice (some ad) m c) = w' ∧ w'.ownsRow base e size v' (k + m) (xs ++ news) ∧ w.grownBy w' v.ownBlock ∧ (v'.ownBlock = v.ownBlock ∨ v'.ownBlock = some w.heap.size) := by
  obtain ⟨v', w', hrun, r1, r2, _, r4⟩ := run_append_own_at (P := P) w base t ty e i z size bytes h1 h2 h3 h4 h5 h6 h7 v k xs hown ad m c news hn hc h1c b1 b2 b3
  refine ⟨v', w', ⟨v', w', hrun⟩, ?_, ?_, r1, r2, r4⟩
  · unfold appV appR; rw [hrun]
  · unfold appW appR; rw [hrun]
end Go.Proofs.Ytaolebadamfodaa
