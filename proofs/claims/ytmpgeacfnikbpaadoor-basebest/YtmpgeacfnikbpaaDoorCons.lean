/-
  What goes through a sequence: seq.List, the statements' own Ints, seq.Fold, over any iterator that keeps its word.
-/
import Derived.Test.YtmpgeacfnikbpaaDoorBase
namespace Go.Proofs.YtmpgeacfnikbpaaDoor
open Go.RowKit Go.Shelf Go.SeqLib
attribute [local go_sem] Oper.semAt_some

theorem info3 : (Tryd.prog.info? 3).map (fun i => (i.zero, i.size, i.bytes)) = some (some (.int .i64 0), 1, 8) := by kernel_rfl

theorem rowBase {W : World} {b b' : Nat} {e : TypeId} {s : Nat} {v : Value} {n : Nat} {xs : List Value} (h : W.ownsRow b e s v n xs) (hb : b' ≤ b) : W.ownsRow b' e s v n xs := by
  refine ⟨h.1, ?_⟩
  rcases h.2 with hn | ⟨g, cap, cur, hv, hg, r⟩
  · exact .inl hn
  · exact .inr ⟨g, cap, cur, hv, Nat.le_trans hb hg, r⟩

set_option maxRecDepth 100000 in
set_option maxHeartbeats 1000000 in
theorem list_in {gs : Nat} {lbs : Array Value} {xs : List Int} {D M : Blk} {I0 : World → Prop} {I : List Int → World → Prop} (it : Iter Tryd.prog gs lbs encI xs D M I0 I) (eg : ∀ args w, (callFunc gs args).run Tryd.prog w = .ok (.enter gs args) w)
    (hlen : xs.length ≤ 1000000) (w : World) (hI : I0 w) :
    CallsIn Fence.wide 0 Tryd.prog 40 #[.func (.func gs) #[] lbs] w fun e w' => ∃ v, e = .returned v ∧ w'.ownsRow w.heap.size 3 1 v xs.length (xs.map (Value.int .i64)) ∧ I xs w' ∧ Chg M w w' := by
  obtain ⟨i0, hi, hz0, hz1, hz2⟩ := info_parts info3
  have hnil := fun w => run_eql_func_nil Tryd.underlying37 (.func gs) #[] lbs w
  refine callsIn_of_wp_marks Tryd.func40 rfl trivial ?_
  simp only [Tryd.ntmps40, List.size_toArray, List.length_cons, List.length_nil, Nat.reduceAdd, Nat.reduceSub, Array.replicate_succ, Array.replicate_zero, List.push_toArray, List.append_toArray, List.nil_append, List.cons_append]
  gi_wp2
  have bO := Boxed.new w 22 (.slice none 0 0)
  have c0 : Chg (fun _ => False) w (w.alloc (.cells #[.slice none 0 0] 22)) := (Chg.refl _ w).alloc _
  refine wpIn_range (gf := gs) (lb := lbs) rfl eg it (fun _ => rfl)
    (fun pre S W => RowBox w.heap.size w.heap.size 22 3 (pre.map (Value.int .i64)) S W ∧ w.heap.size ≤ W.heap.size) (fun _ _ _ _ => False) (fun pre => ⟨fun h => (RowBox.part _ _ _ _ _).lt h.1, fun h hs hk => ⟨(RowBox.part _ _ _ _ _).kept h.1 hs hk, Nat.le_trans h.2 hs⟩⟩) (fun _ _ => Part.false)
    (S := fun k => k = w.heap.size ∨ Value.ownBlock (.slice none 0 0) = some k) (it.kept0 hI c0.size (fun k hk => c0.block k (it.lt0 hI k hk) (fun h => h))) ⟨⟨_, rfl, bO, World.ownsRow_nil _ _ _ _⟩, c0.size⟩
    (fun k hk h => by
      rcases h with h | h
      · have := it.lt0 hI k hk; omega
      · cases h)
    (fun x => { tmps := #[.func (.func gs) #[] lbs, undef, .slice none 0 0, .pointer (some ⟨w.heap.size, 0, none⟩), .int .i64 x, .func (.func gs) #[] lbs, .bool false, .func (.func gs) #[] lbs, .int .i64 x, undef, undef, undef, undef, undef], defers := [] }) ?assign ?body ?done ?stop
  case assign =>
    intro l x W K hK
    gi_wp2
    exact hK
  case body =>
    rintro lr pre x S2 W hpre ⟨⟨v, rfl, hv, hrow⟩, hsz⟩
    have hc := hv.cell
    have hpl : pre.length + 1 ≤ 1000000 := by have := hpre.length_le; simp at this; omega
    have hml : (pre.map (Value.int .i64)).length + 1 ≤ 1000000 := by simpa using hpl
    have hmx : (pre.map (Value.int .i64)).length + 1 ≤ maxLen := by unfold maxLen; omega
    gi_wp2_with (gi_at_builtin; refine wpListIn_append_at _ rfl _ _ 22 rfl w.heap.size 3 i0 (.int .i64 0) 1 8 Tryd.underlying22 hi hz0 hz1 hz2 rfl (by decide) _ _ _ rfl (hrow.alloc _) ⟨W.heap.size, 0, none⟩ 1 1 [.int .i64 x] rfl rfl (cell_one_new _ _ _) (by simp [Value.oneCell']) hmx (by omega) (by simp; omega) ?_; intro v' w1 hown' hgrow _ hat; obtain ⟨g', cap', rfl⟩ := ownsRow_succ hown'; obtain ⟨hv1, hv2, hr2, hcg, hgw⟩ := RowBox.step hv (by decide) hrow hown' hgrow hat; have hc1 := hv1.cell; have hf1 := hv1.frozen)
    simp only [List.length_map] at hcg hgw hv2 hr2
    refine ⟨_, hcg, hgw, ⟨⟨_, rfl, hv2, ?_⟩, Nat.le_trans hsz hcg.size⟩⟩
    simpa using hr2
  case done =>
    rintro d S' W hd ⟨⟨v, rfl, hv, hrow⟩, hsz⟩ hI' hc hg hK hnd
    have hd' : w.heap.size + 1 ≤ d := by simpa using hd
    have hcl := hv.cell
    gi_wp2
    refine ⟨by simp, .inl ⟨_, _, rfl, run_takeDeferred hK, ?_⟩⟩
    refine ⟨_, results_tmp rfl _ _ _, v, rfl, ?_, it.kept hI' (by simp) (fun k hk => World.putObj_heap_other (by have := it.lt0 hI k hk; omega)), ?_⟩
    · have := ownsRow_putObj hrow (.deferred none) hK rfl
      simpa using this
    · refine ⟨hc.os, hc.tape, hc.output, by simpa using hsz, fun k hk hn => ?_⟩
      refine (World.putObj_heap_other (by omega)).trans ((hc.block k (by simp; omega) ?_).trans (c0.block k hk (fun h => h)))
      rintro (h | h | h)
      · exact hn h
      · omega
      · cases h
  case stop =>
    rintro d c pre S' W _ _ h
    exact h.elim

set_option maxRecDepth 100000 in
set_option maxHeartbeats 1000000 in
theorem ints_none {gs : Nat} {lbs : Array Value} (m : Int) (hm : m < 1) (w : World) :
    CallsIn Fence.wide 0 Tryd.prog 17 #[.func (.func gs) #[] lbs, .int .i64 m] w fun e w' => e = .returned (.slice none 0 0) ∧ Chg (fun _ => False) w w' := by
  have hnil := fun w => run_eql_func_nil Tryd.underlying37 (.func gs) #[] lbs w
  refine callsIn_of_wp Tryd.func17 rfl trivial ?_
  simp only [Tryd.ntmps17, List.size_toArray, List.length_cons, List.length_nil, Nat.reduceAdd, Nat.reduceSub, Array.replicate_succ, Array.replicate_zero, List.push_toArray, List.append_toArray, List.nil_append, List.cons_append]
  gi_wp2
  go_ret
  exact ⟨rfl, ((Chg.refl _ w).alloc _).alloc _⟩

set_option maxRecDepth 100000 in
set_option maxHeartbeats 1000000 in
theorem ints_in {gs : Nat} {lbs : Array Value} {xs : List Int} {D M : Blk} {I0 : World → Prop} {I : List Int → World → Prop} (it : Iter Tryd.prog gs lbs encI xs D M I0 I) (eg : ∀ args w, (callFunc gs args).run Tryd.prog w = .ok (.enter gs args) w)
    (m : Nat) (hm1 : 1 ≤ m) (hm2 : m ≤ 1000000) (w : World) (hI : I0 w) (ys : List Int) (hys : Hid (ys = xs.take m)) :
    CallsIn Fence.wide 0 Tryd.prog 17 #[.func (.func gs) #[] lbs, .int .i64 (m : Int)] w fun e w' => ∃ v, e = .returned v ∧ w'.ownsRow w.heap.size 3 1 v ys.length (ys.map (Value.int .i64)) ∧ I ys w' ∧ Chg M w w' := by
  obtain ⟨i0, hi, hz0, hz1, hz2⟩ := info_parts info3
  have hnil := fun w => run_eql_func_nil Tryd.underlying37 (.func gs) #[] lbs w
  have hm1' : ¬ ((m : Int) < 1) := by omega
  refine callsIn_of_wp_marks Tryd.func17 rfl trivial ?_
  simp only [Tryd.ntmps17, List.size_toArray, List.length_cons, List.length_nil, Nat.reduceAdd, Nat.reduceSub, Array.replicate_succ, Array.replicate_zero, List.push_toArray, List.append_toArray, List.nil_append, List.cons_append]
  gi_wp2
  have bM := (Boxed.new w 3 (.int .i64 m)).alloc (.cells #[.slice none 0 0] 22)
  have bO := Boxed.new (w.alloc (.cells #[.int .i64 m] 3)) 22 (.slice none 0 0)
  rw [World.size_alloc] at bO
  have c0 : Chg (fun _ => False) w ((w.alloc (.cells #[.int .i64 m] 3)).alloc (.cells #[.slice none 0 0] 22)) := ((Chg.refl _ w).alloc _).alloc _
  have pK : ∀ pre : List Int, Part (fun S W => ∃ v, S = (fun k => k = w.heap.size ∨ k = w.heap.size + 1 ∨ v.ownBlock = some k) ∧ Boxed W w.heap.size 3 (.int .i64 m) ∧ Boxed W (w.heap.size + 1) 22 v ∧ W.ownsRow (w.heap.size + 2) 3 1 v pre.length (pre.map (Value.int .i64)) ∧ w.heap.size + 2 ≤ W.heap.size) := fun pre =>
    ⟨by
      rintro S W ⟨v, rfl, h1, h2, h3, _⟩ k (h | h | h)
      · subst h; exact h1.lt
      · subst h; exact h2.lt
      · exact (h3.lt k h).2, by
      rintro S W W' ⟨v, rfl, h1, h2, h3, h4⟩ hs hk
      exact ⟨v, rfl, (hk _ (.inl rfl)).trans h1, (hk _ (.inr (.inl rfl))).trans h2, row_kept h3 (fun k h => hk k (.inr (.inr h))), Nat.le_trans h4 hs⟩⟩
  refine wpIn_range (gf := gs) (lb := lbs) rfl eg it (fun _ => rfl)
    (fun pre S W => (∃ v, S = (fun k => k = w.heap.size ∨ k = w.heap.size + 1 ∨ v.ownBlock = some k) ∧ Boxed W w.heap.size 3 (.int .i64 m) ∧ Boxed W (w.heap.size + 1) 22 v ∧ W.ownsRow (w.heap.size + 2) 3 1 v pre.length (pre.map (Value.int .i64)) ∧ w.heap.size + 2 ≤ W.heap.size) ∧ pre.length < m)
    (fun c pre S W => (∃ v, S = (fun k => k = w.heap.size ∨ k = w.heap.size + 1 ∨ v.ownBlock = some k) ∧ Boxed W w.heap.size 3 (.int .i64 m) ∧ Boxed W (w.heap.size + 1) 22 v ∧ W.ownsRow (w.heap.size + 2) 3 1 v pre.length (pre.map (Value.int .i64)) ∧ w.heap.size + 2 ≤ W.heap.size) ∧ (c = .exit 0 ∧ pre.length = m))
    (fun pre => (pK pre).andP _) (fun c pre => (pK pre).andP _)
    (S := fun k => k = w.heap.size ∨ k = w.heap.size + 1 ∨ Value.ownBlock (.slice none 0 0) = some k) (it.kept0 hI c0.size (fun k hk => c0.block k (it.lt0 hI k hk) (fun h => h))) ⟨⟨_, rfl, bM, bO, World.ownsRow_nil _ _ _ _, by simp⟩, by simp; omega⟩
    (fun k hk h => by
      rcases h with h | h | h
      · have := it.lt0 hI k hk; omega
      · have := it.lt0 hI k hk; omega
      · cases h)
    (fun x => { tmps := #[.func (.func gs) #[] lbs, .int .i64 m, undef, .pointer (some ⟨w.heap.size, 0, none⟩), .slice none 0 0, .pointer (some ⟨w.heap.size + 1, 0, none⟩), .int .i64 x, .func (.func gs) #[] lbs, .bool false, .bool false, .int .i64 m, .bool false, .bool false, .func (.func gs) #[] lbs, .int .i64 x, undef, undef, undef, undef, undef, undef, undef, undef, undef], defers := [] }) ?assign ?body ?done ?stop
  case assign =>
    intro l x W K hK
    gi_wp2
    exact hK
  case body =>
    rintro lr pre x S2 W hpre ⟨⟨v, rfl, hm, hv, hrow, hsz⟩, hlt⟩
    have hc := hv.cell
    have hcm := hm.cell
    have hml : (pre.map (Value.int .i64)).length + 1 ≤ 1000000 := by simp; omega
    have hmx : (pre.map (Value.int .i64)).length + 1 ≤ maxLen := by unfold maxLen; omega
    have hrow' : W.ownsRow (w.heap.size + 2) 3 1 v (pre.map (Value.int .i64)).length (pre.map (Value.int .i64)) := by simpa using hrow
    by_cases hend : pre.length + 1 = m
    · have hle : (m : Int) ≤ (pre.length : Int) + 1 := by omega
      have HE : Hid (pre.length + 1 = m) := hend
      clear hend
      gi_wp2_with (gi_at_builtin; refine wpListIn_append_at _ rfl _ _ 22 rfl (w.heap.size + 2) 3 i0 (.int .i64 0) 1 8 Tryd.underlying22 hi hz0 hz1 hz2 rfl (by decide) _ _ _ rfl (hrow'.alloc _) ⟨W.heap.size, 0, none⟩ 1 1 [.int .i64 x] rfl rfl (cell_one_new _ _ _) (by simp [Value.oneCell']) hmx (by omega) (by simp; omega) ?_; intro v' w1 hown' hgrow _ hat; obtain ⟨g', cap', rfl⟩ := ownsRow_succ hown'; obtain ⟨hv1, hv2, hr2, hcg, hgw⟩ := RowBox.step hv (by decide) hrow' hown' hgrow hat; simp only [List.length_map] at hcg hgw hv2 hr2; have hc1 := hv1.cell; have hf1 := hv1.frozen; have hc2 := hv2.cell; have hm2 := ((hm.alloc (.cells #[.int .i64 x] 3)).kept hgrow (fun e => by have := hrow'.lt w.heap.size e.symm; omega)).other (show w.heap.size ≠ w.heap.size + 1 by omega) (.slice (some ⟨g', 0, none⟩) (pre.length + 1) cap'); have hcm2 := hm2.cell)
      refine ⟨_, hcg.mono (fun k h => .inr h), ?_, ⟨⟨_, rfl, hm2, hv2, ?_, by have := hcg.size; omega⟩, ?_⟩⟩
      · rintro k (h | h)
        · exact .inl (.inl h)
        · rcases hgw k h with h | h
          · exact .inl (.inr h)
          · exact .inr h
      · simpa using hr2
      · exact ⟨rfl, by simpa using HE.out⟩
    · have hle : ¬ ((m : Int) ≤ (pre.length : Int) + 1) := by omega
      have hlt2 : pre.length + 1 < m := by omega
      clear hend
      gi_wp2_with (gi_at_builtin; refine wpListIn_append_at _ rfl _ _ 22 rfl (w.heap.size + 2) 3 i0 (.int .i64 0) 1 8 Tryd.underlying22 hi hz0 hz1 hz2 rfl (by decide) _ _ _ rfl (hrow'.alloc _) ⟨W.heap.size, 0, none⟩ 1 1 [.int .i64 x] rfl rfl (cell_one_new _ _ _) (by simp [Value.oneCell']) hmx (by omega) (by simp; omega) ?_; intro v' w1 hown' hgrow _ hat; obtain ⟨g', cap', rfl⟩ := ownsRow_succ hown'; obtain ⟨hv1, hv2, hr2, hcg, hgw⟩ := RowBox.step hv (by decide) hrow' hown' hgrow hat; simp only [List.length_map] at hcg hgw hv2 hr2; have hc1 := hv1.cell; have hf1 := hv1.frozen; have hc2 := hv2.cell; have hm2 := ((hm.alloc (.cells #[.int .i64 x] 3)).kept hgrow (fun e => by have := hrow'.lt w.heap.size e.symm; omega)).other (show w.heap.size ≠ w.heap.size + 1 by omega) (.slice (some ⟨g', 0, none⟩) (pre.length + 1) cap'); have hcm2 := hm2.cell)
      refine ⟨_, hcg.mono (fun k h => .inr h), ?_, ⟨⟨_, rfl, hm2, hv2, ?_, by have := hcg.size; omega⟩, ?_⟩⟩
      · rintro k (h | h)
        · exact .inl (.inl h)
        · rcases hgw k h with h | h
          · exact .inl (.inr h)
          · exact .inr h
      · simpa using hr2
      · simpa using hlt2
  case done =>
    rintro d S' W hd ⟨⟨v, rfl, hm, hv, hrow, hsz⟩, hlt⟩ hI' hc hg hK hnd
    have hd' : w.heap.size + 1 + 1 ≤ d := by simpa using hd
    have hcl := hv.cell
    have HT : Hid (ys = xs) := hys.out.trans (List.take_of_length_le (by omega))
    gi_wp2
    refine ⟨by simp, .inl ⟨_, _, rfl, run_takeDeferred hK, ?_⟩⟩
    rw [HT.out]
    refine ⟨_, results_tmp rfl _ _ _, v, rfl, ?_, it.kept hI' (by simp) (fun k hk => World.putObj_heap_other (by have := it.lt0 hI k hk; omega)), ?_⟩
    · exact rowBase (b := w.heap.size + 2) (ownsRow_putObj hrow (.deferred none) hK rfl) (by omega)
    · refine ⟨hc.os, hc.tape, hc.output, by simp; omega, fun k hk hn => ?_⟩
      refine (World.putObj_heap_other (by omega)).trans ((hc.block k (by simp; omega) ?_).trans (c0.block k hk (fun h => h)))
      rintro (h | h | h | h)
      · exact hn h
      · omega
      · omega
      · cases h
  case stop =>
    rintro d c pre S' W hd hpre ⟨⟨v, rfl, hm, hv, hrow, hsz⟩, rfl, hlt⟩ hI' hc hg hK hnd
    have hd' : w.heap.size + 1 + 1 ≤ d := by simpa using hd
    have hcl := hv.cell
    have HT : Hid (ys = pre) := by
      refine hys.out.trans ?_
      have h1 := List.prefix_iff_eq_take.1 hpre
      rw [hlt] at h1
      exact h1.symm
    clear hlt
    gi_wp2
    refine ⟨by simp, .inl ⟨_, _, rfl, run_takeDeferred hK, ?_⟩⟩
    rw [HT.out]
    refine ⟨_, results_tmp rfl _ _ _, v, rfl, ?_, it.kept hI' (by simp) (fun k hk => World.putObj_heap_other (by have := it.lt0 hI k hk; omega)), ?_⟩
    · exact rowBase (b := w.heap.size + 2) (ownsRow_putObj hrow (.deferred none) hK rfl) (by omega)
    · refine ⟨hc.os, hc.tape, hc.output, by simp; omega, fun k hk hn => ?_⟩
      refine (World.putObj_heap_other (by omega)).trans ((hc.block k (by simp; omega) ?_).trans (c0.block k hk (fun h => h)))
      rintro (h | h | h | h)
      · exact hn h
      · omega
      · omega
      · cases h

end Go.Proofs.YtmpgeacfnikbpaaDoor
