/-
  A copy of a pile's items.
-/
import Derived.Test.YtaolebadamfodaaPO
import Derived.Test.YtaolebadamfodaaPure
namespace Go.Proofs.Ytaolebadamfodaa
open Go.RowKit Go.Shelf Go.SeqLib Go.BigFrame Go.PileLib
attribute [local go_sem] Oper.semAt_some

theorem flatI_one (d : List (Int × Int)) : ∀ u ∈ flatI d, u.oneCell' = true := by
  intro u hu
  unfold flatI at hu
  obtain ⟨y, _, hy⟩ := List.mem_flatMap.1 hu
  simp [eI] at hy
  rcases hy with rfl | rfl <;> rfl

set_option maxRecDepth 100000 in
set_option maxHeartbeats 1000000 in
theorem clone_items (v : Value) (d : List (Int × Int)) (hlen : d.length ≤ 1000000) (w : World) (hr : PRow w v d) : CallsIn Fence.wide 0 Try.prog 42 #[v] w fun e w' =>
    ∃ v', e = .returned v' ∧ w'.ownsRow w.heap.size 74 2 v' d.length (flatI d) ∧ Chg (fun _ => False) w w' := by
  obtain ⟨i0, hi, hz0, hz1, hz2⟩ := info_parts info74
  have hr' := hr
  rcases hr.2 with ⟨rfl, h0⟩ | ⟨g, cap, cur, rfl, hb, hg, hn, hm, hs, ht⟩
  · have hd : d = [] := List.length_eq_zero_iff.1 h0
    subst hd
    have hnil := fun w => run_eql_slice_nil' Try.underlying70 none 0 0 w
    simp only [Option.isNone_none] at hnil
    refine callsIn_of_wp Try.func42 rfl trivial ?_
    simp only [Try.ntmps42, List.size_toArray, List.length_cons, List.length_nil, Nat.reduceAdd, Nat.reduceSub, Array.replicate_succ, Array.replicate_zero, List.push_toArray, List.append_toArray, List.nil_append, List.cons_append]
    gi_wp2
    go_ret
    exact ⟨_, rfl, World.ownsRow_nil _ _ _ _, Chg.refl _ _⟩
  · have hnil := fun w => run_eql_slice_nil' Try.underlying70 (some ⟨g, 0, none⟩) d.length cap w
    simp only [Option.isNone_some] at hnil
    have hgl : g < w.heap.size := (Array.getElem?_eq_some_iff.1 hg).1
    refine callsIn_of_wp Try.func42 rfl trivial ?_
    simp only [Try.ntmps42, List.size_toArray, List.length_cons, List.length_nil, Nat.reduceAdd, Nat.reduceSub, Array.replicate_succ, Array.replicate_zero, List.push_toArray, List.append_toArray, List.nil_append, List.cons_append]
    have hown0 : (w.alloc (.cells #[] 74)).ownsRow w.heap.size 74 2 (.slice (some ⟨w.heap.size, 0, none⟩) 0 0) 0 [] := World.ownsRow_made w #[] 0 (Nat.le_refl _) (Nat.zero_le _) rfl
    have hnews : ∀ j u, (flatI d)[j]? = some u → (w.alloc (.cells #[] 74)).cell? ((⟨g, 0, none⟩ : Addr).add j) = some u := by
      intro j u hj
      have := World.ownsRow.cells hr' (g := g) rfl j u hj
      have ea : (⟨g, 0, none⟩ : Addr).add j = ⟨g, 0 + j, none⟩ := by unfold Addr.add; split <;> simp_all
      rw [ea] at this ⊢
      exact (World.cell?_of_block (a := ⟨g, 0 + j, none⟩) (Below.heap_alloc w _ g hgl)).trans this
    have hone := flatI_one d
    have hfl := flatI_length d
    have HF : Hid ((flatI d).length = d.length * 2) := hfl
    have hmx : 0 + d.length ≤ maxLen := by unfold maxLen; omega
    clear hfl ht hs hm hn hg hb
    gi_wp2_with (gi_at_builtin; refine wpListIn_append_at _ rfl _ _ 70 rfl w.heap.size 74 i0 _ 2 16 Try.underlying70 hi hz0 hz1 hz2 rfl (by decide) _ _ _ rfl hown0 ⟨g, 0, none⟩ d.length cap (flatI d) rfl HF.out hnews hone hmx (by omega) (by simp) ?_; intro v' w1 hown' hgrow _ hat)
    go_ret
    refine ⟨v', rfl, by simpa using hown', ((Chg.refl _ w).alloc _).grown hgrow (fun k e => .inr ?_)⟩
    cases e
    exact Nat.le_refl _
end Go.Proofs.Ytaolebadamfodaa
