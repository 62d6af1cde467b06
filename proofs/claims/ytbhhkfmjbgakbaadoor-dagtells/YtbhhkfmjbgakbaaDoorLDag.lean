/-
  What is asked of dag's calls.
-/
import Derived.Test.YtbhhkfmjbgakbaaDoorLPut
import Derived.Test.YtbhhkfmjbgakbaaDoorGRef
namespace Go.Proofs.YtbhhkfmjbgakbaaDoor
open Go.RowKit Go.Shelf Go.SeqLib Go.DiffLib Go.TreeLib Go.RepoLib Go.DagLib Go.BigFrame
attribute [local go_sem] Oper.semAt_some

/-- What the statements ask of dag, of a repo that holds the commits and the room s. -/
structure DagSpec (Rep : Nat → Rp → Blk → Blk → World → Prop) : Prop where
  parents : ∀ (B : Nat) (s : Rp) (S O : Blk) (n : Int) (w : World), Rep B s S O w → ParOk s.1 → s.1.length ≤ 60 → -2000 ≤ n → n ≤ 2000 → CallsIn Fence.wide 0 Tryd.prog 14 #[ptr B, iv n] w fun e w' => ∃ v, e = .returned v ∧ SeqI w' v (getC s.1 n).1 ∧ Chg No w w'
  ahead : ∀ (B : Nat) (s : Rp) (S O : Blk) (n : Int) (w : World), Rep B s S O w → ParOk s.1 → s.1.length ≤ 60 → -2000 ≤ n → n ≤ 2000 → CallsIn Fence.wide 0 Tryd.prog 15 #[ptr B, iv n] w fun e w' => ∃ v, e = .returned v ∧ SeqI w' v (aheadI s.1 n) ∧ Chg No w w'
  first : ∀ (B : Nat) (s : Rp) (S O : Blk) (n : Int) (w : World), Rep B s S O w → ParOk s.1 → s.1.length ≤ 60 → -2000 ≤ n → n ≤ 2000 → CallsIn Fence.wide 0 Tryd.prog 21 #[ptr B, iv n] w fun e w' => ∃ v, e = .returned v ∧ SeqI w' v (fstI s.1 n) ∧ Chg No w w'
  is : ∀ (B : Nat) (s : Rp) (S O : Blk) (a n : Int) (w : World), Rep B s S O w → ParOk s.1 → s.1.length ≤ 60 → -2000 ≤ a → a ≤ 2000 → -2000 ≤ n → n ≤ 2000 → CallsIn Fence.wide 0 Tryd.prog 17 #[ptr B, iv a, iv n] w fun e w' => e = .returned (.bool (decide (a ∈ aheadI s.1 n))) ∧ Chg No w w'
  depth : ∀ (B : Nat) (s : Rp) (S O : Blk) (n : Int) (w : World), Rep B s S O w → ParOk s.1 → s.1.length ≤ 60 → -2000 ≤ n → n ≤ 2000 → CallsIn Fence.wide 0 Tryd.prog 19 #[ptr B, iv n] w fun e w' => e = .returned (iv (depI s.1 n : Nat)) ∧ Chg No w w'
  aheadN : ∀ (n : Int) (w : World), CallsIn Fence.wide 0 Tryd.prog 15 #[.pointer none, iv n] w fun e w' => ∃ v, e = .returned v ∧ SeqI w' v [] ∧ Chg No w w'
  isN : ∀ (a n : Int) (w : World), CallsIn Fence.wide 0 Tryd.prog 17 #[.pointer none, iv a, iv n] w fun e w' => e = .returned (.bool false) ∧ Chg No w w'
  depthN : ∀ (n : Int) (w : World), CallsIn Fence.wide 0 Tryd.prog 19 #[.pointer none, iv n] w fun e w' => e = .returned (iv 0) ∧ Chg No w w'

end Go.Proofs.YtbhhkfmjbgakbaaDoor
