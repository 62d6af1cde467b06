/-
  What is asked of base's calls, and of those of dag that the statements call besides.
-/
import Derived.Test.YtmpgeacfnikbpaaDoorLPut
import Derived.Test.YtmpgeacfnikbpaaDoorRBestW
namespace Go.Proofs.YtmpgeacfnikbpaaDoor
open Go.RowKit Go.Shelf Go.SeqLib Go.DiffLib Go.TreeLib Go.RepoLib Go.DagLib Go.BigFrame
attribute [local go_sem] Oper.semAt_some

/-- What the statements ask of base, of a repo that holds the commits and the room s. -/
structure BaseSpec (Rep : Nat → Rp → Blk → Blk → World → Prop) : Prop where
  ahead : ∀ (B : Nat) (s : Rp) (S O : Blk) (n : Int) (w : World), Rep B s S O w → ParOk s.1 → s.1.length ≤ 60 → -2000 ≤ n → n ≤ 2000 → CallsIn Fence.wide 0 Tryd.prog 18 #[ptr B, iv n] w fun e w' => ∃ v, e = .returned v ∧ SeqI w' v (aheadI s.1 n) ∧ Chg No w w'
  is : ∀ (B : Nat) (s : Rp) (S O : Blk) (a n : Int) (w : World), Rep B s S O w → ParOk s.1 → s.1.length ≤ 60 → -2000 ≤ a → a ≤ 2000 → -2000 ≤ n → n ≤ 2000 → CallsIn Fence.wide 0 Tryd.prog 16 #[ptr B, iv a, iv n] w fun e w' => e = .returned (.bool (decide (a ∈ aheadI s.1 n))) ∧ Chg No w w'
  common : ∀ (B : Nat) (s : Rp) (S O : Blk) (a b : Int) (w : World), Rep B s S O w → ParOk s.1 → s.1.length ≤ 60 → -2000 ≤ a → a ≤ 2000 → -2000 ≤ b → b ≤ 2000 → CallsIn Fence.wide 0 Tryd.prog 10 #[ptr B, iv a, iv b] w fun e w' => ∃ v, e = .returned v ∧ OwnI w' w.heap.size v (comL s.1 a b) ∧ Chg No w w'
  best : ∀ (B : Nat) (s : Rp) (S O : Blk) (a b : Int) (w : World), Rep B s S O w → ParOk s.1 → s.1.length ≤ 60 → -2000 ≤ a → a ≤ 2000 → -2000 ≤ b → b ≤ 2000 → CallsIn Fence.wide 0 Tryd.prog 11 #[ptr B, iv a, iv b] w fun e w' => ∃ v, e = .returned v ∧ OwnI w' w.heap.size v (bestL s.1 a b) ∧ Chg No w w'

end Go.Proofs.YtmpgeacfnikbpaaDoor
