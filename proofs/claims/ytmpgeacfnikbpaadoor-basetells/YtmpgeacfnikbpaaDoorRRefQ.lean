/-
  The document's own Depth: row by row.
-/
import Derived.Test.YtmpgeacfnikbpaaDoorRRefP
namespace Go.Proofs.YtmpgeacfnikbpaaDoor
open Go.RowKit Go.Shelf Go.SeqLib Go.DiffLib Go.TreeLib Go.RepoLib Go.DagLib Go.BigFrame
attribute [local go_sem] Oper.semAt_some

theorem depA_le {par : Nat → List Nat} (hl : Low par) : ∀ n, depA par n ≤ n + 1 := by
  intro n
  induction n using Nat.strongRecOn with
  | ind n ih =>
    rw [depA_eq hl]
    have h : ∀ (l : List Nat) (m : Nat), m ≤ n → (∀ x ∈ l, x ≤ n) → l.foldl max m ≤ n := by
      intro l
      induction l with
      | nil => intro m hm _; exact hm
      | cons y l ihl =>
        intro m hm hx
        exact ihl _ (by have := hx y (by simp); omega) (fun x h => hx x (by simp [h]))
    have := h ((par n).map (depA par)) 0 (Nat.zero_le _) (fun x hx => by
      obtain ⟨p, hp, rfl⟩ := List.mem_map.1 hx
      have h1 := hl n p hp
      have h2 := ih p h1
      omega)
    omega
theorem makeN1 (m : Nat) (hm : m ≤ 1000000) (w : World) : (Instr.makeSlice 22 (.int .i64 ((m : Int) + 1)) (.int .i64 ((m : Int) + 1))).run Tryd.prog w = .ok (.slice (some ⟨w.heap.size, 0, none⟩) (m + 1) (m + 1)) (w.alloc (.cells (madeCells #[.int .i64 0] (m + 1)) 3)) :=
  run_make_row' 22 3 (.int .i64 0) 8 Tryd.underlying22 infoInt rfl .i64 .i64 (m + 1) (by omega) (by omega) w

end Go.Proofs.YtmpgeacfnikbpaaDoor
