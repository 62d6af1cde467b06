/-
  seq.Join, and seq's calls on a nil sequence.
-/
import Derived.Test.YtkfcbfmfkheceaaDoorJoin
namespace Go.Proofs.YtkfcbfmfkheceaaDoor
open Go.RowKit Go.Shelf Go.SeqLib
attribute [local go_sem] Oper.semAt_some

theorem info26 : (Tryd.prog.info? 29).map (fun i => (i.zero, i.size, i.bytes)) = some (some .nilFunc, 1, 8) := by kernel_rfl

set_option maxRecDepth 100000 in
set_option maxHeartbeats 1000000 in
theorem clone2_in (v : Value) (vals : List Value) (hlen : vals.length ≤ 1000000) (hone : ∀ u ∈ vals, u.oneCell' = true) (w : World) (hv : SlV w v vals) : CallsIn Fence.wide 0 Tryd.prog 30 #[v] w fun e w' =>
    ∃ v', e = .returned v' ∧ w'.ownsRow w.heap.size 29 1 v' vals.length vals ∧ Chg (fun _ => False) w w' := by
  obtain ⟨i0, hi, hz0, hz1, hz2⟩ := info_parts info26
  obtain ⟨p, cap, rfl, h1, h2, hc⟩ := hv
  cases p with
  | none =>
    have hz : vals = [] := by
      cases vals with
      | nil => rfl
      | cons x r => obtain ⟨b, off, h, _⟩ := hc 0 x rfl; cases h
    subst hz
    have hnil := fun w => run_eql_slice_nil' Tryd.underlying50 none 0 cap w
    simp only [Option.isNone_none] at hnil
    refine callsIn_of_wp Tryd.func30 rfl trivial ?_
    simp only [Tryd.ntmps30, List.size_toArray, List.length_cons, List.length_nil, Nat.reduceAdd, Nat.reduceSub, Array.replicate_succ, Array.replicate_zero, List.push_toArray, List.append_toArray, List.nil_append, List.cons_append]
    gi_wp2
    go_ret
    exact ⟨_, rfl, World.ownsRow_nil _ _ _ _, Chg.refl _ _⟩
  | some a =>
    have hnil := fun w => run_eql_slice_nil' Tryd.underlying50 (some a) vals.length cap w
    simp only [Option.isNone_some] at hnil
    refine callsIn_of_wp Tryd.func30 rfl trivial ?_
    simp only [Tryd.ntmps30, List.size_toArray, List.length_cons, List.length_nil, Nat.reduceAdd, Nat.reduceSub, Array.replicate_succ, Array.replicate_zero, List.push_toArray, List.append_toArray, List.nil_append, List.cons_append]
    have hown0 : (w.alloc (.cells #[] 29)).ownsRow w.heap.size 29 1 (.slice (some ⟨w.heap.size, 0, none⟩) 0 0) 0 [] := World.ownsRow_made w #[] 0 (Nat.le_refl _) (Nat.zero_le _) rfl
    have hnews : ∀ j u, vals[j]? = some u → (w.alloc (.cells #[] 29)).cell? (a.add j) = some u := by
      intro j u hj
      obtain ⟨b, off, e, hcell⟩ := hc j u hj
      cases e
      have ea : (⟨b, off, none⟩ : Addr).add j = ⟨b, off + j, none⟩ := by unfold Addr.add; split <;> simp_all
      rw [ea]
      exact (World.cell?_of_block (a := ⟨b, off + j, none⟩) (Below.heap_alloc w _ b (World.block_lt_of_cell? w _ hcell))).trans hcell
    have hmx : 0 + vals.length ≤ maxLen := by unfold maxLen; omega
    clear hc
    gi_wp2_with (gi_at_builtin; refine wpListIn_append_at _ rfl _ _ 50 rfl w.heap.size 29 i0 .nilFunc 1 8 Tryd.underlying50 hi hz0 hz1 hz2 rfl (by decide) _ _ _ rfl hown0 a vals.length cap vals rfl (by simp) hnews hone hmx (by omega) (by simp) ?_; intro v' w1 hown' hgrow _ hat; obtain ⟨p', c', rfl⟩ := row_slice hown')
    go_ret
    refine ⟨_, rfl, by simpa using hown', ((Chg.refl _ w).alloc _).grown hgrow (fun k e => .inr ?_)⟩
    cases e
    exact Nat.le_refl _

set_option maxHeartbeats 1000000 in
theorem join_in (v : Value) (vals : List Value) (hlen : vals.length ≤ 1000000) (hone : ∀ u ∈ vals, u.oneCell' = true) (w : World) (hv : SlV w v vals) : CallsIn Fence.wide 0 Tryd.prog 18 #[v] w fun e w' =>
    ∃ v' B, e = .returned (.func (.func 31) #[] #[.pointer (some ⟨B, 0, none⟩)]) ∧ Boxed w' B 50 v' ∧ w.heap.size ≤ B ∧ w'.ownsRow w.heap.size 29 1 v' vals.length vals ∧ Chg (fun _ => False) w w' := by
  refine callsIn_of_wp Tryd.func18 rfl trivial ?_
  simp only [Tryd.ntmps18, List.size_toArray, List.length_cons, List.length_nil, Nat.reduceAdd, Nat.reduceSub, Array.replicate_succ, Array.replicate_zero, List.push_toArray, List.append_toArray, List.nil_append, List.cons_append]
  gi_wp2_with fail
  refine ⟨trivial, rfl, (clone2_in v vals hlen hone _ hv).mono ?_⟩
  rintro e w1 ⟨v', rfl, hr, c⟩
  obtain ⟨p', c', rfl⟩ := row_slice hr
  gi_wp2
  go_ret
  exact ⟨_, w1.heap.size, rfl, Boxed.new _ _ _, c.size, hr.alloc _, c.alloc _⟩

theorem join_seq (ps : List JPart) (hok : ∀ p ∈ ps, p.ok) (hlen : ps.length ≤ 1000000) (v : Value) (w : World) (hv : SlV w v (ps.map JPart.v)) (hi : ∀ p ∈ ps, p.I w) : CallsIn Fence.wide 0 Tryd.prog 18 #[v] w fun e w' =>
    ∃ gf lb D, e = .returned (.func (.func gf) #[] lb) ∧ PSeq w' gf lb (ps.flatMap JPart.xs) D ∧ Chg No w w' ∧ ∀ k, D k → (∃ p ∈ ps, p.D k) ∨ w.heap.size ≤ k := by
  refine (join_in v (ps.map JPart.v) (by simpa using hlen) ?_ w hv).mono ?_
  · intro u hu
    obtain ⟨p, hp, rfl⟩ := List.mem_map.1 hu
    rcases hok p hp with ⟨h, _⟩ | ⟨gf, lb, h, _⟩
    · rw [h]; rfl
    · rw [h]; rfl
  · rintro e w' ⟨v', B, rfl, b, hB, hr, c⟩
    refine ⟨_, _, _, rfl, ⟨_, weaken (join1 ps hok v' B) (fun _ _ h => h) (fun _ _ _ _ _ h => h.elim), ⟨b, SlV.ofRow hr, fun p hp => (hok p hp).kept (hi p hp) c.size (fun k hk => c.block k ((hok p hp).lt (hi p hp) k hk) (fun h => h))⟩, enters_of Tryd.func31 (by kernel_rfl) rfl⟩, c, ?_⟩
    rintro k (h | h | h)
    · exact .inr (by omega)
    · exact .inr (hr.lt k h.2).1
    · exact .inl h

/-- A sequence as one of those that are joined. -/
theorem PSeq.part {W : World} {gf : Nat} {lb : Array Value} {xs : List Int} {D : Blk} (h : PSeq W gf lb xs D) : ∃ p : JPart, p.ok ∧ p.v = .func (.func gf) #[] lb ∧ p.xs = xs ∧ p.D = D ∧ p.I W := by
  obtain ⟨I0, it, hi, eg⟩ := h
  exact ⟨⟨.func (.func gf) #[] lb, xs, D, I0⟩, .inr ⟨gf, lb, rfl, it, eg⟩, rfl, rfl, rfl, hi⟩

/-- A list of values that was just laid. -/
theorem SlV.made (w : World) (vals : List Value) (e : TypeId) (hl : vals.length ≤ 1000000) : SlV (w.alloc (.cells vals.toArray e)) (.slice (some ⟨w.heap.size, 0, none⟩) vals.length vals.length) vals := by
  refine ⟨_, vals.length, rfl, Nat.le_refl _, by unfold maxLen; omega, fun i x hi => ⟨w.heap.size, 0, rfl, ?_⟩⟩
  have h : (w.alloc (.cells vals.toArray e)).heap[w.heap.size]? = some (.cells vals.toArray e (0, 0)) := World.alloc_heap_new w _
  unfold World.cell?
  show (match (w.alloc (.cells vals.toArray e)).heap[w.heap.size]? with | some (.cells c _ _) => if false = true then none else c[0 + i]? | _ => none) = some x
  rw [h]
  simpa using hi

/-- Two sequences, joined: the slice of both was just laid. -/
theorem join_two {ga gb : Nat} {la lb : Array Value} {xs ys : List Int} {Da Db : Blk} (w : World) (sa : PSeq w ga la xs Da) (sb : PSeq w gb lb ys Db) :
    CallsIn Fence.wide 0 Tryd.prog 18 #[.slice (some ⟨w.heap.size, 0, none⟩) 2 2] (w.alloc (.cells #[.func (.func ga) #[] la, .func (.func gb) #[] lb] 29)) fun e w' =>
    ∃ gf l D, e = .returned (.func (.func gf) #[] l) ∧ PSeq w' gf l (xs ++ ys) D ∧ Chg No w w' ∧ ∀ k, D k → Da k ∨ Db k ∨ w.heap.size ≤ k := by
  have c : Chg No w (w.alloc (.cells #[.func (.func ga) #[] la, .func (.func gb) #[] lb] 29)) := (Chg.refl _ w).alloc _
  obtain ⟨p, hp, hpv, hpx, hpd, hpi⟩ := (sa.no c).part
  obtain ⟨q, hq, hqv, hqx, hqd, hqi⟩ := (sb.no c).part
  have hv := SlV.made w [.func (.func ga) #[] la, .func (.func gb) #[] lb] 29 (by simp)
  have := join_seq [p, q] (by simp; exact ⟨hp, hq⟩) (by simp) _ (w.alloc (.cells #[.func (.func ga) #[] la, .func (.func gb) #[] lb] 29)) (by simpa [hpv, hqv] using hv) (by simp; exact ⟨hpi, hqi⟩)
  refine this.mono ?_
  rintro e w' ⟨gf, l, D, rfl, s, c1, d⟩
  refine ⟨gf, l, D, rfl, by simpa [hpx, hqx] using s, c.trans c1 (Grew.refl _ _), fun k hk => ?_⟩
  rcases d k hk with ⟨r, hr, h⟩ | h
  · simp at hr
    rcases hr with rfl | rfl
    · rw [hpd] at h; exact .inl h
    · rw [hqd] at h; exact .inr (.inl h)
  · exact .inr (.inr (by simp at h; omega))

/-- Two sequences with nil between them. -/
theorem join_three {ga gb : Nat} {la lb : Array Value} {xs ys : List Int} {Da Db : Blk} (w : World) (sa : PSeq w ga la xs Da) (sb : PSeq w gb lb ys Db) :
    CallsIn Fence.wide 0 Tryd.prog 18 #[.slice (some ⟨w.heap.size, 0, none⟩) 3 3] (w.alloc (.cells #[.func (.func ga) #[] la, .nilFunc, .func (.func gb) #[] lb] 29)) fun e w' =>
    ∃ gf l D, e = .returned (.func (.func gf) #[] l) ∧ PSeq w' gf l (xs ++ ys) D ∧ Chg No w w' ∧ ∀ k, D k → Da k ∨ Db k ∨ w.heap.size ≤ k := by
  have c : Chg No w (w.alloc (.cells #[.func (.func ga) #[] la, .nilFunc, .func (.func gb) #[] lb] 29)) := (Chg.refl _ w).alloc _
  obtain ⟨p, hp, hpv, hpx, hpd, hpi⟩ := (sa.no c).part
  obtain ⟨q, hq, hqv, hqx, hqd, hqi⟩ := (sb.no c).part
  have hv := SlV.made w [.func (.func ga) #[] la, .nilFunc, .func (.func gb) #[] lb] 29 (by simp)
  have := join_seq [p, ⟨.nilFunc, [], No, fun _ => True⟩, q] (by simp; exact ⟨hp, .inl ⟨rfl, rfl, rfl, rfl⟩, hq⟩) (by simp) _ (w.alloc (.cells #[.func (.func ga) #[] la, .nilFunc, .func (.func gb) #[] lb] 29)) (by simpa [hpv, hqv] using hv) (by simp; exact ⟨hpi, hqi⟩)
  refine this.mono ?_
  rintro e w' ⟨gf, l, D, rfl, s, c1, d⟩
  refine ⟨gf, l, D, rfl, by simpa [hpx, hqx] using s, c.trans c1 (Grew.refl _ _), fun k hk => ?_⟩
  rcases d k hk with ⟨r, hr, h⟩ | h
  · simp at hr
    rcases hr with rfl | rfl | rfl
    · rw [hpd] at h; exact .inl h
    · exact h.elim
    · rw [hqd] at h; exact .inr (.inl h)
  · exact .inr (.inr (by simp at h; omega))

theorem join_none (w : World) : CallsIn Fence.wide 0 Tryd.prog 18 #[.slice none 0 0] w fun e w' =>
    ∃ gf l D, e = .returned (.func (.func gf) #[] l) ∧ PSeq w' gf l [] D ∧ Chg No w w' := by
  refine (join_seq [] (by simp) (by simp) _ w ⟨none, 0, rfl, Nat.le_refl _, Nat.zero_le _, by simp⟩ (by simp)).mono ?_
  rintro e w' ⟨gf, l, D, rfl, s, c1, d⟩
  exact ⟨gf, l, D, rfl, s, c1⟩

set_option maxHeartbeats 1000000 in
theorem list_nil (w : World) : CallsIn Fence.wide 0 Tryd.prog 15 #[.nilFunc] w fun e w' => e = .returned (.slice none 0 0) ∧ Chg No w w' := by
  have hnil := fun w => run_eql_nil_func Tryd.underlying29 w
  refine callsIn_of_wp Tryd.func15 rfl trivial ?_
  simp only [Tryd.ntmps15, List.size_toArray, List.length_cons, List.length_nil, Nat.reduceAdd, Nat.reduceSub, Array.replicate_succ, Array.replicate_zero, List.push_toArray, List.append_toArray, List.nil_append, List.cons_append]
  gi_wp2
  go_ret
  exact ⟨rfl, Chg.refl _ _⟩

set_option maxHeartbeats 1000000 in
theorem fold_nil (a : Int) (w : World) : CallsIn Fence.wide 0 Tryd.prog 17 #[.nilFunc, .int .i64 a, .func (.func 8) #[] #[]] w fun e w' => e = .returned (.int .i64 a) ∧ Chg No w w' := by
  have hnil := fun w => run_eql_nil_func Tryd.underlying29 w
  have hca := ((Boxed.new w 3 (.int .i64 a)).alloc (.cells #[.func (.func 8) #[] #[]] 27)).cell
  refine callsIn_of_wp Tryd.func17 rfl trivial ?_
  simp only [Tryd.ntmps17, List.size_toArray, List.length_cons, List.length_nil, Nat.reduceAdd, Nat.reduceSub, Array.replicate_succ, Array.replicate_zero, List.push_toArray, List.append_toArray, List.nil_append, List.cons_append]
  gi_wp2
  try (refine ⟨fun _ h => (by cases h), ?_⟩; gi_wp2)
  go_ret
  exact ⟨rfl, ((Chg.refl _ w).alloc _).alloc _⟩

end Go.Proofs.YtkfcbfmfkheceaaDoor
