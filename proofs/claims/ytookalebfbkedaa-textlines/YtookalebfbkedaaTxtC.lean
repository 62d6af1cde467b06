/-
  What goes through a sequence of texts: seq.List, the statements' own Texts.
-/
import Derived.Test.YtookalebfbkedaaTxt
namespace Go.Proofs.Ytookalebfbkedaa
open Go.RowKit Go.Shelf Go.SeqLib
attribute [local go_sem] Oper.semAt_some

set_option maxRecDepth 100000 in
set_option maxHeartbeats 1000000 in
theorem listS_in {gs : Nat} {lbs : Array Value} {xs : List ByteArray} {D M : Blk} {I0 : World → Prop} {I : List ByteArray → World → Prop} (it : Iter Try.prog gs lbs encS xs D M I0 I) (eg : ∀ args w, (callFunc gs args).run Try.prog w = .ok (.enter gs args) w)
    (hlen : xs.length ≤ 1000000) (w : World) (hI : I0 w) :
    CallsIn Fence.wide 0 Try.prog 27 #[.func (.func gs) #[] lbs] w fun e w' => ∃ v, e = .returned v ∧ w'.ownsRow w.heap.size 9 1 v xs.length (xs.map (Value.string)) ∧ I xs w' ∧ Chg M w w' := by
  obtain ⟨i0, hi, hz0, hz1, hz2⟩ := info_parts info9
  have hnil := fun w => run_eql_func_nil Try.underlying51 (.func gs) #[] lbs w
  refine callsIn_of_wp_marks Try.func27 rfl trivial ?_
  simp only [Try.ntmps27, List.size_toArray, List.length_cons, List.length_nil, Nat.reduceAdd, Nat.reduceSub, Array.replicate_succ, Array.replicate_zero, List.push_toArray, List.append_toArray, List.nil_append, List.cons_append]
  gi_wp2
  have bO := Boxed.new w 29 (.slice none 0 0)
  have c0 : Chg (fun _ => False) w (w.alloc (.cells #[.slice none 0 0] 29)) := (Chg.refl _ w).alloc _
  refine wpIn_range (gf := gs) (lb := lbs) rfl eg it (fun _ => rfl)
    (fun pre S W => RowBox w.heap.size w.heap.size 29 9 (pre.map (Value.string)) S W ∧ w.heap.size ≤ W.heap.size) (fun _ _ _ _ => False) (fun pre => ⟨fun h => (RowBox.part _ _ _ _ _).lt h.1, fun h hs hk => ⟨(RowBox.part _ _ _ _ _).kept h.1 hs hk, Nat.le_trans h.2 hs⟩⟩) (fun _ _ => Part.false)
    (S := fun k => k = w.heap.size ∨ Value.ownBlock (.slice none 0 0) = some k) (it.kept0 hI c0.size (fun k hk => c0.block k (it.lt0 hI k hk) (fun h => h))) ⟨⟨_, rfl, bO, World.ownsRow_nil _ _ _ _⟩, c0.size⟩
    (fun k hk h => by
      rcases h with h | h
      · have := it.lt0 hI k hk; omega
      · cases h)
    (fun x => { tmps := #[.func (.func gs) #[] lbs, undef, .slice none 0 0, .pointer (some ⟨w.heap.size, 0, none⟩), .string x, .func (.func gs) #[] lbs, .bool false, .func (.func gs) #[] lbs, .string x, undef, undef, undef, undef, undef], defers := [] }) ?assign ?body ?done ?stop
  case assign =>
    intro l x W K hK
    gi_wp2
    exact hK
  case body =>
    rintro lr pre x S2 W hpre ⟨⟨v, rfl, hv, hrow⟩, hsz⟩
    have hc := hv.cell
    have hpl : pre.length + 1 ≤ 1000000 := by have := hpre.length_le; simp at this; omega
    have hml : (pre.map (Value.string)).length + 1 ≤ 1000000 := by simpa using hpl
    have hmx : (pre.map (Value.string)).length + 1 ≤ maxLen := by unfold maxLen; omega
    gi_wp2_with (gi_at_builtin; refine wpListIn_append_at _ rfl _ _ 29 rfl w.heap.size 9 i0 (.string ⟨#[]⟩) 1 16 Try.underlying29 hi hz0 hz1 hz2 rfl (by decide) _ _ _ rfl (hrow.alloc _) ⟨W.heap.size, 0, none⟩ 1 1 [.string x] rfl rfl (cell_one_new _ _ _) (by simp [Value.oneCell']) hmx (by omega) (by simp; omega) ?_; intro v' w1 hown' hgrow _ hat; obtain ⟨g', cap', rfl⟩ := ownsRow_succ hown'; obtain ⟨hv1, hv2, hr2, hcg, hgw⟩ := RowBox.step hv (by decide) hrow hown' hgrow hat; have hc1 := hv1.cell; have hf1 := hv1.frozen)
    simp only [List.length_map] at hcg hgw hv2 hr2
    refine ⟨_, hcg, hgw, ⟨⟨_, rfl, hv2, ?_⟩, Nat.le_trans hsz hcg.size⟩⟩
    simpa using hr2
  case done =>
    rintro d S' W hd ⟨⟨v, rfl, hv, hrow⟩, hsz⟩ hI' hc hg hK hnd
    have hd' : w.heap.size + 1 ≤ d := by simpa using hd
    have hcl := hv.cell
    gi_wp2
    refine ⟨by simp, .inl ⟨_, _, rfl, run_takeDeferred hK, ?_⟩⟩
    refine ⟨_, results_tmp rfl _ _ _, v, rfl, ?_, it.kept hI' (by simp) (fun k hk => World.putObj_heap_other (by have := it.lt0 hI k hk; omega)), ?_⟩
    · have := ownsRow_putObj hrow (.deferred none) hK rfl
      simpa using this
    · refine ⟨hc.os, hc.tape, hc.output, by simpa using hsz, fun k hk hn => ?_⟩
      refine (World.putObj_heap_other (by omega)).trans ((hc.block k (by simp; omega) ?_).trans (c0.block k hk (fun h => h)))
      rintro (h | h | h)
      · exact hn h
      · omega
      · cases h
  case stop =>
    rintro d c pre S' W _ _ h
    exact h.elim

end Go.Proofs.Ytookalebfbkedaa
