/-
  All, as its callers meet it; of none, too.
-/
import Derived.Test.YtaolebadamfodaaTPA
namespace Go.Proofs.Ytaolebadamfodaa.T
open Go.RowKit Go.Shelf Go.SeqLib Go.BigFrame Go.PileLib
attribute [local go_sem] Oper.semAt_some

set_option maxHeartbeats 1000000 in
theorem all_in (p : Option Addr) (w : World) : CallsIn Fence.wide 0 Try.prog 19 #[.pointer p] w fun e w' => e = .returned (.func (.func 38) #[] #[.pointer (some ⟨w.heap.size, 0, none⟩)]) ∧ w' = w.alloc (.cells #[.pointer p] 24) := by
  refine callsIn_of_wp Try.func19 rfl trivial ?_
  simp only [Try.ntmps19, List.size_toArray, List.length_cons, List.length_nil, Nat.reduceAdd, Nat.reduceSub, Array.replicate_succ, Array.replicate_zero, List.push_toArray, List.append_toArray, List.nil_append, List.cons_append]
  gi_wp2
  go_ret
  exact ⟨rfl, rfl⟩

theorem all_seq {lf : Nat} {lt : Int × Int → Int × Int → Bool} (hl : Less lf lt) (o : Ord (bef lt)) (B : Nat) (L : List ((Int × Int) × Int)) (puts : Int) (S : Blk) (hlen : L.length ≤ 100000) (w : World) (hP : Pile B lf lt L puts S w) :
    CallsIn Fence.wide 0 Try.prog 19 #[.pointer (some ⟨B, 0, none⟩)] w fun e w' =>
    ∃ gf lb D, e = .returned (.func (.func gf) #[] lb) ∧ PSeq w' gf lb (L.map Prod.fst) D ∧ Chg No w w' ∧ ∀ k, D k → S k ∨ w.heap.size ≤ k := by
  refine (all_in _ w).mono ?_
  rintro e w' ⟨rfl, rfl⟩
  have c : Chg No w (w.alloc (.cells #[.pointer (some ⟨B, 0, none⟩)] 24)) := (Chg.refl _ w).alloc _
  obtain ⟨v, d, rfl, hb, hr, hg⟩ := hP
  refine ⟨_, _, _, rfl, ⟨_, all1 hl o B w.heap.size v d L puts hlen hg, ⟨Boxed.new w 24 _, c.same hb (fun h => h), hr.chg c (fun _ _ h => h)⟩, enters_of Try.func38 (by kernel_rfl) rfl⟩, c, ?_⟩
  rintro k (h | h | h)
  · exact .inr (by omega)
  · exact .inl (.inl h)
  · exact .inl (.inr h)

/-- How many. -/
theorem len_seq {lf : Nat} {lt : Int × Int → Int × Int → Bool} (B : Nat) (L : List ((Int × Int) × Int)) (puts : Int) (S : Blk) (w : World) (hP : Pile B lf lt L puts S w) :
    CallsIn Fence.wide 0 Try.prog 18 #[.pointer (some ⟨B, 0, none⟩)] w fun e w' => e = .returned (.int .i64 L.length) ∧ w' = w := by
  obtain ⟨v, d, rfl, hb, hr, hg⟩ := hP
  obtain ⟨p, c, rfl⟩ := prow_slice hr
  have := len_in B p d.length c w hb.cells.2.1
  rw [hg.perm.length_eq] at this
  exact this

/-- A new one. -/
theorem new_seq (lf : Nat) (lt : Int × Int → Int × Int → Bool) (w : World) : CallsIn Fence.wide 0 Try.prog 9 #[.func (.func lf) #[] #[]] w fun e w' => e = .returned (.pointer (some ⟨w.heap.size, 0, none⟩)) ∧ Pile w.heap.size lf lt [] 0 (fun k => k = w.heap.size) w' ∧ Chg No w w' := by
  refine (new_in lf w).mono ?_
  rintro e w' ⟨rfl, rfl⟩
  refine ⟨rfl, ⟨.slice none 0 0, [], ?_, World.alloc_heap_new w _, World.ownsRow_nil _ _ _ _, ⟨fun j hj => absurd hj (by simp), List.Perm.refl _, List.Pairwise.nil⟩⟩, (Chg.refl _ w).alloc _⟩
  funext k
  simp [Value.ownBlock]

/-- The first. -/
theorem first_seq {lf : Nat} {lt : Int × Int → Int × Int → Bool} (o : Ord (bef lt)) (B : Nat) (L : List ((Int × Int) × Int)) (puts : Int) (S : Blk) (w : World) (hP : Pile B lf lt L puts S w) :
    CallsIn Fence.wide 0 Try.prog 17 #[.pointer (some ⟨B, 0, none⟩)] w fun e w' => (L = [] ∧ e = .returned (.tuple #[.agg #[.int .i64 0, .int .i64 0], .bool false]) ∨ ∃ y M, L = y :: M ∧ e = .returned (.tuple #[.agg #[.int .i64 y.1.1, .int .i64 y.1.2], .bool true])) ∧ Chg No w w' := by
  obtain ⟨v, d, rfl, hb, hr, hg⟩ := hP
  cases L with
  | nil =>
    obtain ⟨p, c, rfl⟩ := prow_slice hr
    obtain ⟨_, h1, _⟩ := hb.cells
    rw [hg.perm.length_eq] at h1
    refine (first_none B p c _ h1).mono ?_
    rintro e w' ⟨rfl, c⟩
    exact ⟨.inl ⟨rfl, rfl⟩, c⟩
  | cons y M =>
    obtain ⟨h0, hy⟩ := hg.head o
    obtain ⟨g, cap, rfl, hI⟩ := prow_at hr h0
    obtain ⟨a1, a2, _⟩ := hI.item 0 h0
    rw [hy] at a1 a2
    simp only [Nat.zero_mul, Nat.zero_add] at a1 a2
    refine (first_in B g d.length cap y.1.1 y.1.2 _ h0 hb.cells.2.1 a1 a2).mono ?_
    rintro e w' ⟨rfl, c⟩
    exact ⟨.inr ⟨y, M, rfl, rfl⟩, c⟩

/-- The order by the key. -/
def keyT (x : Int × Int) : Int := x.1
theorem less_less : Less 10 (ltK keyT) := ⟨fun a1 a2 b1 b2 W => by
  refine callsIn_of_wp Try.func10 rfl trivial ?_
  simp only [Try.ntmps10, List.size_toArray, List.length_cons, List.length_nil, Nat.reduceAdd, Nat.reduceSub, Array.replicate_succ, Array.replicate_zero, List.push_toArray, List.append_toArray, List.nil_append, List.cons_append]
  gi_wp2
  go_ret
  exact ⟨rfl, ((Chg.refl _ _).alloc _).alloc _⟩, enters_of Try.func10 (by kernel_rfl) rfl⟩
end Go.Proofs.Ytaolebadamfodaa.T
