/-
  What is asked of the repo's calls, as far as the statements put commits in; sequences of numbers and the lists that are made of them.
-/
import Derived.Test.YtmpgeacfnikbpaaDoorCons
import Derived.Test.YtmpgeacfnikbpaaDoorRMade
import Derived.Test.YtmpgeacfnikbpaaDoorGRow
namespace Go.Proofs.YtmpgeacfnikbpaaDoor
open Go.RowKit Go.Shelf Go.SeqLib Go.DiffLib Go.TreeLib Go.RepoLib Go.DagLib Go.BigFrame
attribute [local go_sem] Oper.semAt_some

/-- A sequence of numbers that turns nothing, over the blocks D. -/
def PSeq (W : World) (gf : Nat) (lb : Array Value) (xs : List Int) (D : Blk) : Prop :=
  ∃ I0, Iter Tryd.prog gf lb encI xs D No I0 (fun _ => I0) ∧ I0 W ∧ ∀ args w, (callFunc gf args).run Tryd.prog w = .ok (.enter gf args) w
theorem PSeq.no {W W' : World} {gf : Nat} {lb : Array Value} {xs : List Int} {D : Blk} (h : PSeq W gf lb xs D) (c : Chg No W W') : PSeq W' gf lb xs D := by
  obtain ⟨I0, it, hi, he⟩ := h
  exact ⟨I0, it, it.kept0 hi c.size (fun k hk => c.block k (it.lt0 hi k hk) (fun h => h)), he⟩
/-- A sequence's value: the nil one tells none. -/
def SeqI (W : World) (v : Value) (xs : List Int) : Prop := (∃ gf lb D, v = .func (.func gf) #[] lb ∧ PSeq W gf lb xs D) ∨ (v = .nilFunc ∧ xs = [])
theorem SeqI.no {W W' : World} {v : Value} {xs : List Int} (h : SeqI W v xs) (c : Chg No W W') : SeqI W' v xs := by
  rcases h with ⟨gf, lb, D, e, h⟩ | h
  · exact .inl ⟨gf, lb, D, e, h.no c⟩
  · exact .inr h

/-- What the statements ask of repo. -/
structure PutSpec (Rep : Nat → Rp → Blk → Blk → World → Prop) : Prop where
  part : ∀ B s O, Part (fun S W => Rep B s S O W)
  sub : ∀ {B s S O W}, Rep B s S O W → ∀ k, O k → S k
  new : ∀ (room : Int) (w : World), -1000 ≤ room → room ≤ 1000 → CallsIn Fence.wide 0 Tryd.prog 20 #[iv room] w fun e w' => ∃ B S O, e = .returned (ptr B) ∧ Rep B (newC room) S O w' ∧ (∀ k, S k → w.heap.size ≤ k) ∧ Chg No w w'
  add : ∀ (B : Nat) (s : Rp) (S O D : Blk) (v : Value) (c : Cm) (w : World), Rep B s S O w → CmD D w v c → (∀ k, D k → ¬ S k) → SmallC c → s.1.length ≤ 200 →
    CallsIn Fence.wide 0 Tryd.prog 22 #[ptr B, v] w fun e w' => ∃ S' O', e = .returned (.tuple #[iv ((addC s c).2.1 : Nat), iv ((addC s c).2.2 : Nat)]) ∧ Rep B (addC s c).1 S' O' w' ∧ Chg O w w' ∧ Grew S w S' ∧ Grew O w O'
  len : ∀ (B : Nat) (s : Rp) (S O : Blk) (w : World), Rep B s S O w → s.1.length ≤ 200 → CallsIn Fence.wide 0 Tryd.prog 19 #[ptr B] w fun e w' => e = .returned (iv (s.1.length : Nat)) ∧ Chg No w w'

set_option maxRecDepth 100000 in
set_option maxHeartbeats 1000000 in
theorem ints_nil (m : Int) (w : World) :
    CallsIn Fence.wide 0 Tryd.prog 17 #[.nilFunc, .int .i64 m] w fun e w' => e = .returned (.slice none 0 0) ∧ Chg No w w' := by
  have hnil := fun w => run_eql_nil_func Tryd.underlying37 w
  refine callsIn_of_wp Tryd.func17 rfl trivial ?_
  simp only [Tryd.ntmps17, List.size_toArray, List.length_cons, List.length_nil, Nat.reduceAdd, Nat.reduceSub, Array.replicate_succ, Array.replicate_zero, List.push_toArray, List.append_toArray, List.nil_append, List.cons_append]
  gi_wp2
  go_ret
  exact ⟨rfl, ((Chg.refl _ w).alloc _).alloc _⟩

/-- The list of the first m that a sequence tells. -/
theorem intsV_in (v : Value) (xs ys : List Int) (m : Nat) (h2 : m ≤ 1000) (w : World) (h : SeqI w v xs) (hys : ys = xs.take m) :
    CallsIn Fence.wide 0 Tryd.prog 17 #[v, iv (m : Int)] w fun e w' => ∃ v', e = .returned v' ∧ OwnI w' w.heap.size v' ys ∧ Chg No w w' := by
  rcases h with ⟨gf, lb, D, rfl, I0, it, hi, eg⟩ | ⟨rfl, rfl⟩
  · by_cases h1 : 1 ≤ m
    · refine (ints_in it eg m h1 (by omega) w hi ys hys).mono ?_
      rintro e w' ⟨v, rfl, hr, _, c⟩
      exact ⟨v, rfl, hr, c⟩
    · obtain rfl : m = 0 := by omega
      rw [List.take_zero] at hys
      subst hys
      refine (ints_none ((0 : Nat) : Int) (by omega) w).mono ?_
      rintro e w' ⟨rfl, c⟩
      exact ⟨_, rfl, World.ownsRow_nil _ _ _ _, c⟩
  · rw [List.take_nil] at hys
    subst hys
    refine (ints_nil (m : Int) w).mono ?_
    rintro e w' ⟨rfl, c⟩
    exact ⟨_, rfl, World.ownsRow_nil _ _ _ _, c⟩
theorem OwnI.sl {W : World} {b : Nat} {v : Value} {l : List Int} (h : OwnI W b v l) : SlV W v (l.map iv) := SlV.ofRow (by rw [List.length_map]; exact h)

end Go.Proofs.YtmpgeacfnikbpaaDoor
