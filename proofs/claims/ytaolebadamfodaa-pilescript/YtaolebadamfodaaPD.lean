/-
  All, as its callers meet it; of none, too.
-/
import Derived.Test.YtaolebadamfodaaPA
namespace Go.Proofs.Ytaolebadamfodaa
open Go.RowKit Go.Shelf Go.SeqLib Go.BigFrame Go.PileLib
attribute [local go_sem] Oper.semAt_some

set_option maxHeartbeats 1000000 in
theorem all_in (p : Option Addr) (w : World) : CallsIn Fence.wide 0 Try.prog 24 #[.pointer p] w fun e w' => e = .returned (.func (.func 41) #[] #[.pointer (some ⟨w.heap.size, 0, none⟩)]) ∧ w' = w.alloc (.cells #[.pointer p] 45) := by
  refine callsIn_of_wp Try.func24 rfl trivial ?_
  simp only [Try.ntmps24, List.size_toArray, List.length_cons, List.length_nil, Nat.reduceAdd, Nat.reduceSub, Array.replicate_succ, Array.replicate_zero, List.push_toArray, List.append_toArray, List.nil_append, List.cons_append]
  gi_wp2
  go_ret
  exact ⟨rfl, rfl⟩

set_option maxHeartbeats 1000000 in
theorem all1_nil (Bp : Nat) : Iter Try.prog 41 #[.pointer (some ⟨Bp, 0, none⟩)] encI [] (fun k => k = Bp) (fun _ => False) (fun W => Boxed W Bp 45 (.pointer none)) (fun _ W => Boxed W Bp 45 (.pointer none)) := {
  sub := fun _ h => h.elim
  lt0 := by rintro W b k rfl; exact b.lt
  kept0 := by rintro W W' b _ hk; exact (hk _ rfl).trans b
  kept := by rintro pre W W' b _ hk; exact (hk _ rfl).trans b
  runs := by
    intro l J Jx S W pJ pJx hY hI hJ hDS
    have hc := hI.cell
    refine callsIn_of_wp Try.func41 rfl trivial ?_
    simp only [Try.ntmps41, List.size_toArray, List.length_cons, List.length_nil, Nat.reduceAdd, Nat.reduceSub, Array.replicate_succ, Array.replicate_zero, List.push_toArray, List.append_toArray, List.nil_append, List.cons_append]
    gi_wp2
    refine bodyPost_ret (results_none rfl _ _ _) rfl ?_
    exact ⟨⟨_, rfl⟩, [], S, .inl ⟨rfl, hJ⟩, hI, Chg.refl _ _, Grew.refl _ _⟩ }

theorem all_seq {lf : Nat} {lt : Int → Int → Bool} (hl : Less lf lt) (o : Ord (bef lt)) (B : Nat) (L : List (Int × Int)) (puts : Int) (S : Blk) (hlen : L.length ≤ 100000) (w : World) (hP : Pile B lf lt L puts S w) :
    CallsIn Fence.wide 0 Try.prog 24 #[.pointer (some ⟨B, 0, none⟩)] w fun e w' =>
    ∃ gf lb D, e = .returned (.func (.func gf) #[] lb) ∧ PSeq w' gf lb (L.map Prod.fst) D ∧ Chg No w w' ∧ ∀ k, D k → S k ∨ w.heap.size ≤ k := by
  refine (all_in _ w).mono ?_
  rintro e w' ⟨rfl, rfl⟩
  have c : Chg No w (w.alloc (.cells #[.pointer (some ⟨B, 0, none⟩)] 45)) := (Chg.refl _ w).alloc _
  obtain ⟨v, d, rfl, hb, hr, hg⟩ := hP
  refine ⟨_, _, _, rfl, ⟨_, all1 hl o B w.heap.size v d L puts hlen hg, ⟨Boxed.new w 45 _, c.same hb (fun h => h), hr.chg c (fun _ _ h => h)⟩, enters_of Try.func41 (by kernel_rfl) rfl⟩, c, ?_⟩
  rintro k (h | h | h)
  · exact .inr (by omega)
  · exact .inl (.inl h)
  · exact .inl (.inr h)

theorem all_nil (w : World) : CallsIn Fence.wide 0 Try.prog 24 #[.pointer none] w fun e w' =>
    ∃ gf lb D, e = .returned (.func (.func gf) #[] lb) ∧ PSeq w' gf lb [] D ∧ Chg No w w' ∧ ∀ k, D k → w.heap.size ≤ k := by
  refine (all_in _ w).mono ?_
  rintro e w' ⟨rfl, rfl⟩
  refine ⟨_, _, _, rfl, ⟨_, all1_nil w.heap.size, Boxed.new w 45 _, enters_of Try.func41 (by kernel_rfl) rfl⟩, (Chg.refl _ w).alloc _, ?_⟩
  rintro k h
  omega

/-- How many. -/
theorem len_seq {lf : Nat} {lt : Int → Int → Bool} (B : Nat) (L : List (Int × Int)) (puts : Int) (S : Blk) (w : World) (hP : Pile B lf lt L puts S w) :
    CallsIn Fence.wide 0 Try.prog 27 #[.pointer (some ⟨B, 0, none⟩)] w fun e w' => e = .returned (.int .i64 L.length) ∧ w' = w := by
  obtain ⟨v, d, rfl, hb, hr, hg⟩ := hP
  obtain ⟨p, c, rfl⟩ := prow_slice hr
  have := len_in B p d.length c w hb.cells.2.1
  rw [hg.perm.length_eq] at this
  exact this

/-- A new one. -/
theorem new_seq (lf : Nat) (lt : Int → Int → Bool) (w : World) : CallsIn Fence.wide 0 Try.prog 20 #[.func (.func lf) #[] #[]] w fun e w' => e = .returned (.pointer (some ⟨w.heap.size, 0, none⟩)) ∧ Pile w.heap.size lf lt [] 0 (fun k => k = w.heap.size) w' ∧ Chg No w w' := by
  refine (new_in lf w).mono ?_
  rintro e w' ⟨rfl, rfl⟩
  refine ⟨rfl, ⟨.slice none 0 0, [], ?_, World.alloc_heap_new w _, World.ownsRow_nil _ _ _ _, ⟨fun j hj => absurd hj (by simp), List.Perm.refl _, List.Pairwise.nil⟩⟩, (Chg.refl _ w).alloc _⟩
  funext k
  simp [Value.ownBlock]

/-- The functions that order numbers. -/
theorem lower_less : Less 21 (ltK id) := ⟨fun a b W => by
  refine callsIn_of_wp Try.func21 rfl trivial ?_
  simp only [Try.ntmps21, List.size_toArray, List.length_cons, List.length_nil, Nat.reduceAdd, Nat.reduceSub, Array.replicate_succ, Array.replicate_zero, List.push_toArray, List.append_toArray, List.nil_append, List.cons_append]
  gi_wp2
  go_ret
  exact ⟨rfl, rfl⟩, enters_of Try.func21 (by kernel_rfl) rfl⟩
theorem turned_less : Less 31 (ltK (fun x => -x)) := ⟨fun a b W => by
  have e : ltK (fun x => -x) a b = decide (b < a) := by
    show decide (-a < -b) = _
    congr 1
    apply propext
    omega
  rw [e]
  refine callsIn_of_wp Try.func31 rfl trivial ?_
  simp only [Try.ntmps31, List.size_toArray, List.length_cons, List.length_nil, Nat.reduceAdd, Nat.reduceSub, Array.replicate_succ, Array.replicate_zero, List.push_toArray, List.append_toArray, List.nil_append, List.cons_append]
  gi_wp2
  go_ret
  exact ⟨rfl, rfl⟩, enters_of Try.func31 (by kernel_rfl) rfl⟩
end Go.Proofs.Ytaolebadamfodaa
