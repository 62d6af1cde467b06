/-
  seq.Join of texts.
-/
import Derived.Test.YtkfcbfmfkheceaaDoorJoinS
import Derived.Test.YtkfcbfmfkheceaaDoorJoins
namespace Go.Proofs.YtkfcbfmfkheceaaDoor
open Go.RowKit Go.Shelf Go.SeqLib
attribute [local go_sem] Oper.semAt_some

theorem info32 : (Tryd.prog.info? 32).map (fun i => (i.zero, i.size, i.bytes)) = some (some .nilFunc, 1, 8) := by kernel_rfl

set_option maxRecDepth 100000 in
set_option maxHeartbeats 1000000 in
theorem cloneS_in (v : Value) (vals : List Value) (hlen : vals.length ≤ 1000000) (hone : ∀ u ∈ vals, u.oneCell' = true) (w : World) (hv : SlV w v vals) : CallsIn Fence.wide 0 Tryd.prog 32 #[v] w fun e w' =>
    ∃ v', e = .returned v' ∧ w'.ownsRow w.heap.size 32 1 v' vals.length vals ∧ Chg (fun _ => False) w w' := by
  obtain ⟨i0, hi, hz0, hz1, hz2⟩ := info_parts info32
  obtain ⟨p, cap, rfl, h1, h2, hc⟩ := hv
  cases p with
  | none =>
    have hz : vals = [] := by
      cases vals with
      | nil => rfl
      | cons x r => obtain ⟨b, off, h, _⟩ := hc 0 x rfl; cases h
    subst hz
    have hnil := fun w => run_eql_slice_nil' Tryd.underlying52 none 0 cap w
    simp only [Option.isNone_none] at hnil
    refine callsIn_of_wp Tryd.func32 rfl trivial ?_
    simp only [Tryd.ntmps32, List.size_toArray, List.length_cons, List.length_nil, Nat.reduceAdd, Nat.reduceSub, Array.replicate_succ, Array.replicate_zero, List.push_toArray, List.append_toArray, List.nil_append, List.cons_append]
    gi_wp2
    go_ret
    exact ⟨_, rfl, World.ownsRow_nil _ _ _ _, Chg.refl _ _⟩
  | some a =>
    have hnil := fun w => run_eql_slice_nil' Tryd.underlying52 (some a) vals.length cap w
    simp only [Option.isNone_some] at hnil
    refine callsIn_of_wp Tryd.func32 rfl trivial ?_
    simp only [Tryd.ntmps32, List.size_toArray, List.length_cons, List.length_nil, Nat.reduceAdd, Nat.reduceSub, Array.replicate_succ, Array.replicate_zero, List.push_toArray, List.append_toArray, List.nil_append, List.cons_append]
    have hown0 : (w.alloc (.cells #[] 32)).ownsRow w.heap.size 32 1 (.slice (some ⟨w.heap.size, 0, none⟩) 0 0) 0 [] := World.ownsRow_made w #[] 0 (Nat.le_refl _) (Nat.zero_le _) rfl
    have hnews : ∀ j u, vals[j]? = some u → (w.alloc (.cells #[] 32)).cell? (a.add j) = some u := by
      intro j u hj
      obtain ⟨b, off, e, hcell⟩ := hc j u hj
      cases e
      have ea : (⟨b, off, none⟩ : Addr).add j = ⟨b, off + j, none⟩ := by unfold Addr.add; split <;> simp_all
      rw [ea]
      exact (World.cell?_of_block (a := ⟨b, off + j, none⟩) (Below.heap_alloc w _ b (World.block_lt_of_cell? w _ hcell))).trans hcell
    have hmx : 0 + vals.length ≤ maxLen := by unfold maxLen; omega
    clear hc
    gi_wp2_with (gi_at_builtin; refine wpListIn_append_at _ rfl _ _ 52 rfl w.heap.size 32 i0 .nilFunc 1 8 Tryd.underlying52 hi hz0 hz1 hz2 rfl (by decide) _ _ _ rfl hown0 a vals.length cap vals rfl (by simp) hnews hone hmx (by omega) (by simp) ?_; intro v' w1 hown' hgrow _ hat; obtain ⟨p', c', rfl⟩ := row_slice hown')
    go_ret
    refine ⟨_, rfl, by simpa using hown', ((Chg.refl _ w).alloc _).grown hgrow (fun k e => .inr ?_)⟩
    cases e
    exact Nat.le_refl _

set_option maxHeartbeats 1000000 in
theorem joinS_in (v : Value) (vals : List Value) (hlen : vals.length ≤ 1000000) (hone : ∀ u ∈ vals, u.oneCell' = true) (w : World) (hv : SlV w v vals) : CallsIn Fence.wide 0 Tryd.prog 19 #[v] w fun e w' =>
    ∃ v' B, e = .returned (.func (.func 33) #[] #[.pointer (some ⟨B, 0, none⟩)]) ∧ Boxed w' B 52 v' ∧ w.heap.size ≤ B ∧ w'.ownsRow w.heap.size 32 1 v' vals.length vals ∧ Chg (fun _ => False) w w' := by
  refine callsIn_of_wp Tryd.func19 rfl trivial ?_
  simp only [Tryd.ntmps19, List.size_toArray, List.length_cons, List.length_nil, Nat.reduceAdd, Nat.reduceSub, Array.replicate_succ, Array.replicate_zero, List.push_toArray, List.append_toArray, List.nil_append, List.cons_append]
  gi_wp2_with fail
  refine ⟨trivial, rfl, (cloneS_in v vals hlen hone _ hv).mono ?_⟩
  rintro e w1 ⟨v', rfl, hr, c⟩
  obtain ⟨p', c', rfl⟩ := row_slice hr
  gi_wp2
  go_ret
  exact ⟨_, w1.heap.size, rfl, Boxed.new _ _ _, c.size, hr.alloc _, c.alloc _⟩

theorem joinS_seq (ps : List JPartS) (hok : ∀ p ∈ ps, p.ok) (hlen : ps.length ≤ 1000000) (v : Value) (w : World) (hv : SlV w v (ps.map JPartS.v)) (hi : ∀ p ∈ ps, p.I w) : CallsIn Fence.wide 0 Tryd.prog 19 #[v] w fun e w' =>
    ∃ gf lb D, e = .returned (.func (.func gf) #[] lb) ∧ PSeqS w' gf lb (ps.flatMap JPartS.xs) D ∧ Chg No w w' ∧ ∀ k, D k → (∃ p ∈ ps, p.D k) ∨ w.heap.size ≤ k := by
  refine (joinS_in v (ps.map JPartS.v) (by simpa using hlen) ?_ w hv).mono ?_
  · intro u hu
    obtain ⟨p, hp, rfl⟩ := List.mem_map.1 hu
    rcases hok p hp with ⟨h, _⟩ | ⟨gf, lb, h, _⟩
    · rw [h]; rfl
    · rw [h]; rfl
  · rintro e w' ⟨v', B, rfl, b, hB, hr, c⟩
    refine ⟨_, _, _, rfl, ⟨_, weakenS (joinS1 ps hok v' B) (fun _ _ h => h) (fun _ _ _ _ _ h => h.elim), ⟨b, SlV.ofRow hr, fun p hp => (hok p hp).kept (hi p hp) c.size (fun k hk => c.block k ((hok p hp).lt (hi p hp) k hk) (fun h => h))⟩, enters_of Tryd.func33 (by kernel_rfl) rfl⟩, c, ?_⟩
    rintro k (h | h | h)
    · exact .inr (by omega)
    · exact .inr (hr.lt k h.2).1
    · exact .inl h

/-- A sequence as one of those that are joined. -/
theorem PSeqS.part {W : World} {gf : Nat} {lb : Array Value} {xs : List ByteArray} {D : Blk} (h : PSeqS W gf lb xs D) : ∃ p : JPartS, p.ok ∧ p.v = .func (.func gf) #[] lb ∧ p.xs = xs ∧ p.D = D ∧ p.I W := by
  obtain ⟨I0, it, hi, eg⟩ := h
  exact ⟨⟨.func (.func gf) #[] lb, xs, D, I0⟩, .inr ⟨gf, lb, rfl, it, eg⟩, rfl, rfl, rfl, hi⟩

/-- Two sequences, joined: the slice of both was just laid. -/
theorem joinS_two {ga gb : Nat} {la lb : Array Value} {xs ys : List ByteArray} {Da Db : Blk} (w : World) (sa : PSeqS w ga la xs Da) (sb : PSeqS w gb lb ys Db) :
    CallsIn Fence.wide 0 Tryd.prog 19 #[.slice (some ⟨w.heap.size, 0, none⟩) 2 2] (w.alloc (.cells #[.func (.func ga) #[] la, .func (.func gb) #[] lb] 32)) fun e w' =>
    ∃ gf l D, e = .returned (.func (.func gf) #[] l) ∧ PSeqS w' gf l (xs ++ ys) D ∧ Chg No w w' ∧ ∀ k, D k → Da k ∨ Db k ∨ w.heap.size ≤ k := by
  have c : Chg No w (w.alloc (.cells #[.func (.func ga) #[] la, .func (.func gb) #[] lb] 32)) := (Chg.refl _ w).alloc _
  obtain ⟨p, hp, hpv, hpx, hpd, hpi⟩ := (sa.no c).part
  obtain ⟨q, hq, hqv, hqx, hqd, hqi⟩ := (sb.no c).part
  have hv := SlV.made w [.func (.func ga) #[] la, .func (.func gb) #[] lb] 32 (by simp)
  have := joinS_seq [p, q] (by simp; exact ⟨hp, hq⟩) (by simp) _ (w.alloc (.cells #[.func (.func ga) #[] la, .func (.func gb) #[] lb] 32)) (by simpa [hpv, hqv] using hv) (by simp; exact ⟨hpi, hqi⟩)
  refine this.mono ?_
  rintro e w' ⟨gf, l, D, rfl, s, c1, d⟩
  refine ⟨gf, l, D, rfl, by simpa [hpx, hqx] using s, c.trans c1 (Grew.refl _ _), fun k hk => ?_⟩
  rcases d k hk with ⟨r, hr, h⟩ | h
  · simp at hr
    rcases hr with rfl | rfl
    · rw [hpd] at h; exact .inl h
    · rw [hqd] at h; exact .inr (.inl h)
  · exact .inr (.inr (by simp at h; omega))

end Go.Proofs.YtkfcbfmfkheceaaDoor
