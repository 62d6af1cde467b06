/-
  Package line: Lines, Split and Few, a line a call.
-/
import Derived.Test.YtookalebfbkedaaLineI
namespace Go.Proofs.Ytookalebfbkedaa
open Go.RowKit Go.Shelf Go.SeqLib Go.LineLib
attribute [local go_sem] Oper.semAt_some

set_option maxHeartbeats 1000000 in
theorem lines_in (s : ByteArray) (w : World) : CallsIn Fence.wide 0 Try.prog 28 #[.string s] w fun e w' =>
    e = .returned (.func (.func 41) #[] #[.pointer (some ⟨w.heap.size, 0, none⟩)]) ∧ w' = w.alloc (.cells #[.string s] 9) := by
  refine callsIn_of_wp Try.func28 rfl trivial ?_
  simp only [Try.ntmps28, List.size_toArray, List.length_cons, List.length_nil, Nat.reduceAdd, Nat.reduceSub, Array.replicate_succ, Array.replicate_zero, List.push_toArray, List.append_toArray, List.nil_append, List.cons_append]
  gi_wp2
  go_ret
  exact ⟨rfl, rfl⟩

/-- Lines: the sequence of the lines. -/
theorem lines_seq (s : ByteArray) (hs : s.size ≤ 1000000) (w : World) : CallsIn Fence.wide 0 Try.prog 28 #[.string s] w fun e w' =>
    ∃ gf lb D, e = .returned (.func (.func gf) #[] lb) ∧ PSeqS w' gf lb (linesB s) D ∧ Chg No w w' ∧ ∀ k, D k → w.heap.size ≤ k := by
  refine (lines_in s w).mono ?_
  rintro e w' ⟨rfl, rfl⟩
  exact ⟨_, _, _, rfl, ⟨_, lines1 s hs w.heap.size, Boxed.new _ _ _, enters_of Try.func41 (by kernel_rfl) rfl⟩, (Chg.refl _ w).alloc _, fun k hk => by subst hk; exact Nat.le_refl _⟩

/-- seq.List of a sequence that turns nothing, with what it owns. -/
theorem listR_seq {gs : Nat} {lbs : Array Value} {xs : List ByteArray} {D : Blk} (hlen : xs.length ≤ 1000000) (w : World) (hs : PSeqS w gs lbs xs D) :
    CallsIn Fence.wide 0 Try.prog 27 #[.func (.func gs) #[] lbs] w fun e w' => ∃ v, e = .returned v ∧ w'.ownsRow w.heap.size 9 1 v xs.length (xs.map Value.string) ∧ Chg No w w' := by
  obtain ⟨I0, it, hi, eg⟩ := hs
  refine (listS_in it eg hlen w hi).mono ?_
  rintro e w' ⟨v, rfl, hr, _, c⟩
  exact ⟨v, rfl, hr, c⟩

set_option maxHeartbeats 1000000 in
theorem split_in (s : ByteArray) (hs : s.size ≤ 1000000) (w : World) : CallsIn Fence.wide 0 Try.prog 15 #[.string s] w fun e w' =>
    ∃ v, e = .returned v ∧ w'.ownsRow w.heap.size 9 1 v (linesB s).length ((linesB s).map Value.string) ∧ Chg No w w' := by
  refine callsIn_of_wp Try.func15 rfl trivial ?_
  simp only [Try.ntmps15, List.size_toArray, List.length_cons, List.length_nil, Nat.reduceAdd, Nat.reduceSub, Array.replicate_succ, Array.replicate_zero, List.push_toArray, List.append_toArray, List.nil_append, List.cons_append]
  gi_wp2_with fail
  refine ⟨trivial, rfl, (lines_seq s hs _).mono ?_⟩
  rintro e w1 ⟨g1, l1, D1, rfl, s1, c1, _⟩
  gi_wp2_with fail
  refine ⟨trivial, rfl, (listR_seq (Nat.le_trans (linesB_len s) hs) _ s1).mono ?_⟩
  rintro e w2 ⟨v2, rfl, r2, c2⟩
  gi_wp2
  go_ret
  exact ⟨_, rfl, rowBase r2 c1.size, Chg.seq c1 c2⟩

theorem results_cell1 {fn : Func} {p : Tmp} {ty : TypeId} (h : fn.results = #[.cell p ty]) (tmps : Array Value) (P : Program) (w : World) :
    (results fn tmps).run P w = ((asAddr (tmps.getD p undef)).run P w).andThen fun a w₁ => (loadVar ty a).run P w₁ := by
  simp only [results, h]
  simp [Sem.run_bind, Result.andThen]

set_option maxRecDepth 100000 in
set_option maxHeartbeats 1000000 in
theorem few_in (s : ByteArray) (hs : s.size ≤ 1000000) (w : World) : CallsIn Fence.wide 0 Try.prog 24 #[.string s] w fun e w' =>
    e = .returned (.bool (decide ((linesB s).length ≤ 60))) ∧ Chg No w w' := by
  refine callsIn_of_wp_marks Try.func24 rfl trivial ?_
  simp only [Try.ntmps24, List.size_toArray, List.length_cons, List.length_nil, Nat.reduceAdd, Nat.reduceSub, Array.replicate_succ, Array.replicate_zero, List.push_toArray, List.append_toArray, List.nil_append, List.cons_append]
  gi_wp2_with fail
  refine ⟨trivial, rfl, (lines_seq s hs _).mono ?_⟩
  rintro e w1 ⟨g1, l1, D1, rfl, ⟨I0, it, hI, eg⟩, c1, hD1⟩
  have b0 : Boxed w1 w.heap.size 4 (.bool false) :=
    c1.boxed ((Boxed.new w 4 (.bool false)).alloc (.cells #[.int .i64 0] 3)) (fun h => h)
  have b1 : Boxed w1 (w.heap.size + 1) 3 (.int .i64 0) := by
    have := Boxed.new (w.alloc (.cells #[.bool false] 4)) 3 (.int .i64 0)
    rw [World.size_alloc] at this
    exact c1.boxed this (fun h => h)
  have c0 : Chg No w w1 := Chg.seq (((Chg.refl _ w).alloc _).alloc _) c1
  have hlow : ∀ k, D1 k → w.heap.size + 2 ≤ k := fun k hk => by have := hD1 k hk; simpa using this
  clear c1 hD1
  gi_wp2
  have pK : ∀ pre : List ByteArray, Part (fun S W => S = (fun k => k = w.heap.size ∨ k = w.heap.size + 1) ∧ Boxed W w.heap.size 4 (.bool false) ∧ Boxed W (w.heap.size + 1) 3 (.int .i64 (pre.length : Int))) := fun pre =>
    ⟨by
      rintro S W ⟨rfl, h1, h2⟩ k (h | h)
      · subst h; exact h1.lt
      · subst h; exact h2.lt, by
      rintro S W W' ⟨rfl, h1, h2⟩ hs hk
      exact ⟨rfl, (hk _ (.inl rfl)).trans h1, (hk _ (.inr rfl)).trans h2⟩⟩
  refine wpIn_range (gf := g1) (lb := l1) rfl eg it (fun _ => rfl)
    (fun pre S W => (S = (fun k => k = w.heap.size ∨ k = w.heap.size + 1) ∧ Boxed W w.heap.size 4 (.bool false) ∧ Boxed W (w.heap.size + 1) 3 (.int .i64 (pre.length : Int))) ∧ pre.length ≤ 60)
    (fun c pre S W => (S = (fun k => k = w.heap.size ∨ k = w.heap.size + 1) ∧ Boxed W w.heap.size 4 (.bool false) ∧ Boxed W (w.heap.size + 1) 3 (.int .i64 (pre.length : Int))) ∧ (c = .ret ∧ 60 < pre.length))
    (fun pre => (pK pre).andP _) (fun c pre => (pK pre).andP _)
    (S := fun k => k = w.heap.size ∨ k = w.heap.size + 1) hI ⟨⟨rfl, b0, b1⟩, by simp⟩
    (fun k hk h => by have := hlow k hk; omega)
    (fun x => { tmps := #[.string s, undef, .pointer (some ⟨w.heap.size, 0, none⟩), .pointer (some ⟨w.heap.size + 1, 0, none⟩), .string s, .func (.func g1) #[] l1, .string x, undef, undef, undef, undef], defers := [] }) ?assign ?body ?done ?stop
  case assign =>
    intro l x W K hK
    gi_wp2
    simpa using hK
  case body =>
    rintro lr pre x S2 W hpre ⟨⟨rfl, h0, h1⟩, hle⟩
    have hc0 := h0.cell
    have hc1 := h1.cell
    have hf0 := h0.frozen
    have hf1 := h1.frozen
    have n1 : (W.setCell ⟨w.heap.size + 1, 0, none⟩ (.int .i64 ((pre.length : Int) + 1))).cell? ⟨w.heap.size + 1, 0, none⟩ = some (.int .i64 ((pre.length : Int) + 1)) := (h1.set _).cell
    have h0' := h0.other (show w.heap.size ≠ w.heap.size + 1 by omega) (.int .i64 ((pre.length : Int) + 1))
    have h1' := h1.set (.int .i64 ((pre.length : Int) + 1))
    have hc0' := h0'.cell
    have hf0' := h0'.frozen
    have cs : Chg (fun k => k = w.heap.size ∨ k = w.heap.size + 1) W (W.setCell ⟨w.heap.size + 1, 0, none⟩ (.int .i64 ((pre.length : Int) + 1))) := (Chg.refl _ W).setCell (p := ⟨w.heap.size + 1, 0, none⟩) (.inl (.inr rfl)) _
    have hlen : Hid (((pre ++ [x]).length : Int) = (pre.length : Int) + 1) := by show _ = _; simp
    by_cases hend : 60 < pre.length + 1
    · have hend' : (60 : Int) < (pre.length : Int) + 1 := by omega
      gi_wp2
      refine ⟨_, cs.setCell (p := ⟨w.heap.size, 0, none⟩) (.inl (.inl rfl)) _, Grew.refl _ _, ⟨rfl, h0'.set _, ?_⟩, rfl, by simpa using hend⟩
      rw [hlen.out]
      exact h1'.other (show w.heap.size + 1 ≠ w.heap.size by omega) _
    · have hend' : ¬ (60 : Int) < (pre.length : Int) + 1 := by omega
      gi_wp2
      refine ⟨_, cs, Grew.refl _ _, ⟨rfl, h0', ?_⟩, by simp; omega⟩
      rw [hlen.out]
      exact h1'
  case done =>
    rintro d S' W hd ⟨⟨rfl, h0, h1⟩, hle⟩ hI' hc hg hK hnd
    have hc0 := h0.cell
    have hf0 := h0.frozen
    have hdn : d ≠ w.heap.size := fun e => hnd (.inl e)
    have hd2 : w.heap.size ≤ d := Nat.le_trans c0.size hd
    gi_wp2
    have hK' : (W.setCell ⟨w.heap.size, 0, none⟩ (.bool true)).heap[d]? = some (.deferred (some [])) := (Below.heap_setCell W _ _ d (fun e => hdn e)).trans hK
    refine ⟨by simp, .inl ⟨_, _, rfl, run_takeDeferred hK', ?_⟩⟩
    have h2 : Boxed ((W.setCell ⟨w.heap.size, 0, none⟩ (.bool true)).putObj d (.deferred none)) w.heap.size 4 (.bool true) := (World.putObj_heap_other (fun e => hdn e.symm)).trans (h0.set _)
    have hc2 := h2.cell
    refine ⟨.bool true, ?_, ?_, ?_⟩
    · rw [results_cell1 rfl]
      go_simp
    · first | rfl | rw [decide_eq_true hle]
    · refine Chg.putObj (Chg.setCell (p := ⟨w.heap.size, 0, none⟩) ?_ (.inr (Nat.le_refl _)) _) (.inr hd2) _
      refine c0.trans hc (fun k hk => ?_)
      rcases hk with h | h | h
      · exact h.elim
      · exact .inr (by omega)
      · exact .inr (by omega)
  case stop =>
    rintro d c pre S' W hd hpre ⟨⟨rfl, h0, h1⟩, rfl, hlt⟩ hI' hc hg hK hnd
    have hc0 := h0.cell
    have hdn : d ≠ w.heap.size := fun e => hnd (.inl e)
    have hd2 : w.heap.size ≤ d := Nat.le_trans c0.size hd
    have hl := hpre.length_le
    gi_wp2
    refine ⟨by simp, .inl ⟨_, _, rfl, run_takeDeferred hK, ?_⟩⟩
    have h2 : Boxed (W.putObj d (.deferred none)) w.heap.size 4 (.bool false) := (World.putObj_heap_other (fun e => hdn e.symm)).trans h0
    have hc2 := h2.cell
    refine ⟨.bool false, ?_, ?_, ?_⟩
    · rw [results_cell1 rfl]
      go_simp
    · first | rfl | rw [decide_eq_false (by omega)]
    · refine Chg.putObj ?_ (.inr hd2) _
      refine c0.trans hc (fun k hk => ?_)
      rcases hk with h | h | h
      · exact h.elim
      · exact .inr (by omega)
      · exact .inr (by omega)

end Go.Proofs.Ytookalebfbkedaa
