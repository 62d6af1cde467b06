/-
  The document's own dag: First, Ahead, Is, Depth.
-/
import Derived.Test.YtmpgeacfnikbpaaDoorGRow
import Derived.Test.YtmpgeacfnikbpaaDoorRMade
import Derived.Test.YtmpgeacfnikbpaaDoorAppI
namespace Go.DagLib
open Go.RepoLib
/-- Each commit's parents are numbers of commits ahead of it. -/
def ParOk (L : List Cm) : Prop := ∀ (i : Nat) (c : Cm), L[i]? = some c → ∀ p ∈ c.1, 1 ≤ p ∧ p ≤ (i : Int)
theorem made_ok (xs : List Nat) : ParOk (mkL 0 xs) := by
  intro i c h p hp
  cases hx : xs[i]? with
  | none =>
    have : (mkL 0 xs)[i]? = none := by rw [List.getElem?_eq_none_iff] at hx ⊢; rw [mkL_length]; exact hx
    rw [this] at h; cases h
  | some x =>
    rw [mkL_get hx, Nat.zero_add] at h
    cases h
    obtain ⟨q, hq, rfl⟩ := List.mem_map.1 hp
    have := mkP_le hq
    omega
theorem ParOk.low {L : List Cm} (h : ParOk L) : Low (parL L) := by
  intro n p hp
  cases n with
  | zero => simp [parL] at hp
  | succ i =>
    cases hc : L[i]? with
    | none => unfold parL at hp; rw [if_neg (by omega), Nat.add_sub_cancel, hc] at hp; simp at hp
    | some c =>
      rw [parL_at hc] at hp
      obtain ⟨q, hq, rfl⟩ := List.mem_map.1 hp
      have := h i c hc q hq
      omega
theorem ParOk.cast {L : List Cm} (h : ParOk L) {i : Nat} {c : Cm} (hc : L[i]? = some c) : (parL L (i + 1)).map (fun (p : Nat) => (p : Int)) = c.1 := by
  rw [parL_at hc, List.map_map]
  refine (List.map_congr_left (fun q hq => ?_)).trans (List.map_id _)
  have := h i c hc q hq
  show ((q.toNat : Nat) : Int) = q
  omega
/-- What First answers, and what Ahead does. -/
def fstI (L : List Cm) (n : Int) : List Int := if hasN L.length n = true then (fstA (parL L) n.toNat).map (fun (p : Nat) => (p : Int)) else []
def aheadI (L : List Cm) (n : Int) : List Int := if hasN L.length n = true then (aheadL (parL L) n.toNat).map (fun (p : Nat) => (p : Int)) else []
def depI (L : List Cm) (n : Int) : Nat := if hasN L.length n = true then depA (parL L) n.toNat else 0
end Go.DagLib
namespace Go.Proofs.YtmpgeacfnikbpaaDoor
open Go.RowKit Go.Shelf Go.SeqLib Go.DiffLib Go.TreeLib Go.RepoLib Go.DagLib Go.BigFrame
attribute [local go_sem] Oper.semAt_some

end Go.Proofs.YtmpgeacfnikbpaaDoor
