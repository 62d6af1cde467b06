/-
  The document's own Copy of commits.
-/
import Derived.Test.YtconingjdgmodaaDoorRApp
namespace Go.Proofs.YtconingjdgmodaaDoor
open Go.RowKit Go.Shelf Go.SeqLib Go.DiffLib Go.TreeLib Go.RepoLib Go.BigFrame
attribute [local go_sem] Oper.semAt_some

/-- What holds while the document's repo is copied. -/
structure CopyInv (W0 : World) (B : Nat) (a b r : Int) (rows : List Rw) (d : Nat → Bool) (u : Nat → Value) (W : World) : Prop where
  chg : Chg No W0 W
  v1 : u 1 = ptr B
  v6 : u 6 = ptr B
  v10 : u 10 = iv a
  v11 : u 11 = iv b
  v13 : u 13 = iv r
  v4 : ∃ q m k, u 4 = .slice q m k
  v15 : ∃ g, u 15 = ptr g
  v14 : ∃ q m k, u 14 = .agg #[.slice q m k, iv r]
  o14 : d 14 = true → d 4 = true
  o15 : d 15 = true → d 14 = true
  f14 : d 14 = true → u 14 = .agg #[u 4, iv r]
  f4 : d 4 = true → OwnM W W0.heap.size (u 4) rows
  f15 : d 15 = true → ∃ g, u 15 = ptr g ∧ W0.heap.size ≤ g ∧ W.heap[g]? = some (.cells #[u 4, iv r] 57 (0, 0)) ∧ ¬ (u 4).ownBlock = some g
section
variable {W0 W W' : World} {B : Nat} {a b r : Int} {rows : List Rw} {d : Nat → Bool} {u : Nat → Value}
theorem CopyInv.known (h : CopyInv W0 B a b r rows d u W) (i : Nat) (v : Value) (hv : u i = v) (h4 : ¬ 4 = i) (h14 : ¬ 14 = i) (h15 : ¬ 15 = i) : CopyInv W0 B a b r rows (fun j => if j = i then true else d j) (fun j => if j = i then v else u j) W := by
  have hu : (fun j => if j = i then v else u j) = u := funext fun j => by
    by_cases e : j = i
    · rw [if_pos e, e, hv]
    · rw [if_neg e]
  rw [hu]
  refine ⟨h.chg, h.v1, h.v6, h.v10, h.v11, h.v13, h.v4, h.v15, h.v14, fun e => ?_, fun e => ?_, fun e => ?_, fun e => ?_, fun e => ?_⟩
  · simp only [if_neg h4, if_neg h14] at e ⊢; exact h.o14 e
  · simp only [if_neg h14, if_neg h15] at e ⊢; exact h.o15 e
  · simp only [if_neg h14] at e; exact h.f14 e
  · simp only [if_neg h4] at e; exact h.f4 e
  · simp only [if_neg h15] at e; exact h.f15 e
theorem CopyInv.s4 (h : CopyInv W0 B a b r rows d u W) (hd : d 4 = false) {v : Value} (c : Chg No W W') (ho : OwnM W' W0.heap.size v rows) : CopyInv W0 B a b r rows (fun j => if j = 4 then true else d j) (fun j => if j = 4 then v else u j) W' := by
  obtain ⟨p', c', e'⟩ := row_slice ho
  have h14 : d 14 = false := by
    cases e : d 14 with
    | false => rfl
    | true => have := h.o14 e; rw [hd] at this; cases this
  have h15 : d 15 = false := by
    cases e : d 15 with
    | false => rfl
    | true => have := h.o15 e; rw [h14] at this; cases this
  refine ⟨Chg.seq h.chg c, h.v1, h.v6, h.v10, h.v11, h.v13, ⟨p', _, c', e'⟩, h.v15, h.v14, fun _ => rfl, fun e => h.o15 e, fun e => ?_, fun _ => ho, fun e => ?_⟩
  · have e' : d 14 = true := e
    rw [h14] at e'
    cases e'
  · have e' : d 15 = true := e
    rw [h15] at e'
    cases e'
theorem CopyInv.s14 (h : CopyInv W0 B a b r rows d u W) (h4 : d 4 = true) : CopyInv W0 B a b r rows (fun j => if j = 14 then true else d j) (fun j => if j = 14 then .agg #[u 4, iv r] else u j) W := by
  obtain ⟨q, m, k, e⟩ := h.v4
  exact ⟨h.chg, h.v1, h.v6, h.v10, h.v11, h.v13, h.v4, h.v15, ⟨q, m, k, by show Value.agg #[u 4, iv r] = _; rw [e]⟩, fun _ => h4, fun e => rfl, fun _ => rfl, fun e => h.f4 e, fun e => h.f15 e⟩
theorem CopyInv.s15 (h : CopyInv W0 B a b r rows d u W) (h14 : d 14 = true) : CopyInv W0 B a b r rows (fun j => if j = 15 then true else d j) (fun j => if j = 15 then ptr W.heap.size else u j) (W.alloc (.cells #[u 4, iv r] 57)) := by
  have c : Chg No W (W.alloc (.cells #[u 4, iv r] 57)) := (Chg.refl _ W).alloc _
  have h4 := h.o14 h14
  refine ⟨Chg.seq h.chg c, h.v1, h.v6, h.v10, h.v11, h.v13, h.v4, ⟨W.heap.size, rfl⟩, h.v14, fun e => h4, fun e => h14, fun e => h.f14 e, fun e => ?_, fun _ => ⟨W.heap.size, rfl, h.chg.size, World.alloc_heap_new W _, fun e => ?_⟩⟩
  · exact OwnM.kept (h.f4 h4) (fun k hk => c.block k (World.ownsRow.lt (h.f4 h4) k hk).2 (fun h => h))
  · have := (World.ownsRow.lt (h.f4 h4) _ e).2
    omega
end

set_option maxRecDepth 100000 in
set_option maxHeartbeats 8000000 in
theorem refCopy_in (b B : Nat) (s : Rp) (lv : Value) (rows : List Rw) (more : Int) (w : World) (h : RefRep b B s lv rows w) (hl : s.1.length ≤ 200) (hs2 : s.2 ≤ 120) (h0 : -1000 ≤ more) (h1 : more ≤ 1000) :
    CallsIn Fence.wide 0 Tryd.prog 20 #[ptr B, iv more] w fun e w' => ∃ B' lv', e = .returned (ptr B') ∧ RefRep b B' (copyC s more) lv' rows w' ∧ (∀ k, refS B' lv' k → w.heap.size ≤ k) ∧ Chg No w w' := by
  have hmix : Tryd.prog.follows .mixedOrders = true := by kernel_rfl
  obtain ⟨pv, kv, rfl⟩ := h.slice
  obtain ⟨t0, t1, _, _⟩ := h.cells
  obtain ⟨N, hN⟩ : ∃ N, s.1.length = N := ⟨_, rfl⟩
  obtain ⟨R, hR⟩ : ∃ R, s.2 = R := ⟨_, rfl⟩
  obtain ⟨z, hz⟩ : ∃ z, min (s.2 + clip more) 120 = z := ⟨_, rfl⟩
  have hcl : ((clip more : Nat) : Int) = min (max more 0) 120 := by unfold clip; omega
  have hz2 : min ((R : Int) + min (max more 0) 120) 120 = (z : Int) := by rw [← hz, ← hcl, ← hR]; omega
  have hcp : copyC s more = (s.1, z) := by unfold copyC; rw [hz]
  rw [hcp]
  have HRR : RefRep b B s (.slice pv N kv) rows w := by rw [← hN]; exact h
  rw [hN] at t0 hl
  rw [hR] at t1 hs2
  have hlen : rows.length = N := by rw [h.red.len, hN]
  have hrow := HRR.row.row
  have hone := HRR.red.one
  have hB := (HRR.low B (.inl rfl)).2
  have Hr : Hid _ := HRR
  have hany := After.any w
  have f0 : ∀ d : After w, d.val.cell? ⟨B, 0, none⟩ = some (.slice pv N kv) := fun d => d.cell t0
  have f1 : ∀ d : After w, d.val.cell? ⟨B, 1, none⟩ = some (iv (R : Int)) := fun d => d.cell t1
  clear h hcp hcl hN hR hz t0 t1 HRR
  have hr0 : 0 ≤ max more 0 := by omega
  have hr1 : max more 0 ≤ 1000 := by omega
  have hr2 : 0 ≤ min (max more 0) 120 := by omega
  have hr3 : min (max more 0) 120 ≤ 120 := by omega
  refine callsIn_of_wp Tryd.func20 rfl trivial ?_
  simp only [Tryd.ntmps20, List.size_toArray, List.length_cons, List.length_nil, Nat.reduceAdd, Nat.reduceSub, Array.replicate_succ, Array.replicate_zero, List.push_toArray, List.append_toArray, List.nil_append, List.cons_append]
  gi_wp2
  refine region_loudG (fun i => i == 1 || i == 4 || i == 6 || i == 10 || i == 11 || i == 13 || i == 14 || i == 15) (fun w' => ∃ d : After w, w' = d.val) (CopyInv w B (max more 0) (min (max more 0) 120) (z : Int) rows)
    (fun j => if j = 1 then ptr B else if j = 6 then ptr B else if j = 10 then iv (max more 0) else if j = 11 then iv (min (max more 0) 120) else if j = 13 then iv (z : Int) else if j = 4 then .slice none 0 0 else if j = 14 then .agg #[.slice none 0 0, iv (z : Int)] else ptr 0) hmix (by kernel_rfl) (by kernel_rfl) (fun d u W hI => ⟨⟨W, hI.chg⟩, rfl⟩)
    ⟨(Chg.refl _ w).drew, rfl, rfl, rfl, rfl, rfl, ⟨none, 0, 0, rfl⟩, ⟨0, rfl⟩, ⟨none, 0, 0, rfl⟩, fun h => (by cases h), fun h => (by cases h), fun h => (by cases h), fun h => (by cases h), fun h => (by cases h)⟩ (fun u hu => ?_)
  obtain ⟨_, _, hu⟩ := hu
  have e1 := hu.v1
  have e6 := hu.v6
  have e10 := hu.v10
  have e11 := hu.v11
  have e13 := hu.v13
  obtain ⟨q4, m4, k4, e4⟩ := hu.v4
  obtain ⟨g15, e15⟩ := hu.v15
  obtain ⟨q14, m14, k14, e14⟩ := hu.v14
  clear hu
  simp only [hushE, Nat.reduceAdd, Nat.reduceBEq, Bool.or_self, Bool.or_true, Bool.or_false, if_true, if_false, Bool.false_eq_true]
  simp only [e1, e6, e10, e11, e13, e4, e14, e15]
  repeat (gi_big_quiet_step (fail))
  refine wpQuietIn_nil ⟨?_, ?_, ?_⟩
  · intro i oo ho hm
    simp only [Bool.or_eq_true, beq_iff_eq] at hm
    rcases hm with ((((((rfl | rfl) | rfl) | rfl) | rfl) | rfl) | rfl) | rfl
    all_goals (cases ho; rfl)
  · intro i oo d W hjo hm hd hwt hI
    simp only [Bool.or_eq_true, beq_iff_eq] at hm
    rcases hm with ((((((rfl | rfl) | rfl) | rfl) | rfl) | rfl) | rfl) | rfl
    · cases hjo
      refine LeadsV.value (v := ptr B) (w' := W) ?_ (hI.known 1 _ e1 (by omega) (by omega) (by omega))
      simp [go_sem]
    · cases hjo
      refine LeadsV.append_sm _ _ rfl w.heap.size (.slice none 0 0) [] rfl (World.ownsRow_nil _ _ _ _) pv N kv rows rfl (SlE.no eM_len (by decide) hrow hI.chg) hone (by simp; omega) hI.chg.size ?_
      intro v' w' ho' hg' _
      rw [List.nil_append] at ho'
      exact hI.s4 hd ((Chg.refl _ W).grown hg' (fun k e => by cases e)) ho'
    · cases hjo
      refine LeadsV.value (v := ptr B) (w' := W) ?_ (hI.known 6 _ e6 (by omega) (by omega) (by omega))
      simp [go_sem]
    · cases hjo
      refine LeadsV.value (v := iv (max more 0)) (w' := W) ?_ (hI.known 10 _ e10 (by omega) (by omega) (by omega))
      simp [go_sem]
    · cases hjo
      refine LeadsV.value (v := iv (min (max more 0) 120)) (w' := W) ?_ (hI.known 11 _ e11 (by omega) (by omega) (by omega))
      simp [go_sem]
    · cases hjo
      refine LeadsV.value (v := iv (z : Int)) (w' := W) ?_ (hI.known 13 _ e13 (by omega) (by omega) (by omega))
      simp [go_sem]
      exact hz2
    · cases hjo
      have h4 := hwt 4 rfl (by kernel_rfl)
      refine LeadsV.value (v := .agg #[u 4, iv (z : Int)]) (w' := W) ?_ (hI.s14 h4)
      rw [e4]
      simp [go_sem]
    · cases hjo
      have h14 := hwt 14 rfl (by kernel_rfl)
      have e14' := hI.f14 h14
      rw [e14, e4] at e14'
      simp only [Value.agg.injEq] at e14'
      refine LeadsV.value (v := ptr W.heap.size) (w' := W.alloc (.cells #[u 4, iv (z : Int)] 57)) ?_ (hI.s15 h14)
      rw [e4]
      simp [go_sem]
      rw [e14']
  · intro d W hall hI
    have h4 := hall 4 rfl (by simp)
    obtain ⟨g, eg, hg1, hg2, hg3⟩ := hI.f15 (hall 15 rfl (by simp))
    have ho4 := hI.f4 h4
    have cW := hI.chg
    rw [e15] at eg
    cases eg
    have hR : RefRep b g15 (s.1, z) (u 4) rows W := ⟨hg2, rowBase ho4 (by have := Hr.out.lowB; omega), Hr.out.red.no cW, hg3, by have := Hr.out.lowB; omega⟩
    have hS : ∀ k, refS g15 (u 4) k → w.heap.size ≤ k := by
      rintro k (rfl | hk)
      · exact hg1
      · exact (World.ownsRow.lt ho4 k hk).1
    clear hI hall f0 f1 hany e1 e6 e10 e11 e13
    gi_wp2
    go_ret
    exact ⟨_, u 4, rfl, hR, hS, cW⟩

end Go.Proofs.YtconingjdgmodaaDoor
