/-
  TreeWalks: the walk.
-/
import Derived.Test.YtikhfojbekpoeaaDoorFAwake
import Derived.Test.YtikhfojbekpoeaaDoorFKept
import Derived.Test.YtikhfojbekpoeaaDoorLow
import Derived.Test.YtikhfojbekpoeaaDoorLoudG
namespace Go.Proofs.YtikhfojbekpoeaaDoor
open Go.RowKit Go.Shelf Go.SeqLib Go.DiffLib Go.TreeLib Go.BigFrame
attribute [local go_sem] Oper.semAt_some

theorem run_min2 {P : Program} (ts : Array TypeId) (t : TypeId) (x y : Nat) (w : World) : (Builtin.min_ ts t #[.int .i64 (x : Int), .int .i64 (y : Int)]).run P w = .ok (.int .i64 ((min x y : Nat) : Int)) w := by
  by_cases h : x ≤ y
  · have e1 : min x y = x := Nat.min_eq_left h
    rw [e1]
    have h' : ¬ ((y : Int) < (x : Int)) := by omega
    simp [Builtin.min_, Builtin.min2]
    omega
  · have e1 : min x y = y := Nat.min_eq_right (by omega)
    rw [e1]
    simp [Builtin.min_, Builtin.min2]
    omega

/-- What holds while the three are gone through. -/
structure WkInv (W0 : World) (ys zs : List Fl) (d : Nat → Bool) (u : Nat → Value) (W : World) : Prop where
  chg : Chg No W0 W
  v7 : u 7 = .int .i64 (ys.length : Int)
  v9 : u 9 = .bool true
  v14 : u 14 = .bool true
  v20 : u 20 = .bool true
  v23 : u 23 = .bool true
  f2 : d 2 = true → SlF W (u 2) ys
  f12 : d 12 = true → SlF W (u 12) zs
  f18 : d 18 = true → SlF W (u 18) zs

theorem WkInv.step {W0 W W' : World} {ys zs : List Fl} {d : Nat → Bool} {u : Nat → Value} (h : WkInv W0 ys zs d u W) (k : Nat) (v : Value) (c : Chg No W W') (h7 : k = 7 → v = .int .i64 (ys.length : Int)) (h9 : k = 9 ∨ k = 14 ∨ k = 20 ∨ k = 23 → v = .bool true)
    (h2 : k = 2 → SlF W' v ys) (h12 : k = 12 ∨ k = 18 → SlF W' v zs) : WkInv W0 ys zs (fun n => if n = k then true else d n) (fun n => if n = k then v else u n) W' := by
  refine ⟨Chg.seq h.chg c, ?_, ?_, ?_, ?_, ?_, ?_, ?_, ?_⟩
  · show (if 7 = k then v else u 7) = _
    split
    · rename_i e; exact h7 e.symm
    · exact h.v7
  · show (if 9 = k then v else u 9) = _
    split
    · rename_i e; exact h9 (.inl e.symm)
    · exact h.v9
  · show (if 14 = k then v else u 14) = _
    split
    · rename_i e; exact h9 (.inr (.inl e.symm))
    · exact h.v14
  · show (if 20 = k then v else u 20) = _
    split
    · rename_i e; exact h9 (.inr (.inr (.inl e.symm)))
    · exact h.v20
  · show (if 23 = k then v else u 23) = _
    split
    · rename_i e; exact h9 (.inr (.inr (.inr e.symm)))
    · exact h.v23
  · show (if 2 = k then true else d 2) = true → SlF W' (if 2 = k then v else u 2) ys
    split
    · rename_i e; exact fun _ => h2 e.symm
    · exact fun hd => (h.f2 hd).no c
  · show (if 12 = k then true else d 12) = true → SlF W' (if 12 = k then v else u 12) zs
    split
    · rename_i e; exact fun _ => h12 (.inl e.symm)
    · exact fun hd => (h.f12 hd).no c
  · show (if 18 = k then true else d 18) = true → SlF W' (if 18 = k then v else u 18) zs
    split
    · rename_i e; exact fun _ => h12 (.inr e.symm)
    · exact fun hd => (h.f18 hd).no c

set_option maxRecDepth 100000 in
set_option maxHeartbeats 4000000 in
theorem walks_in (p : Option Addr) (n cap : Nat) (zs : List Fl) (early : Int) (w : World) (hv : SlF w (.slice p n cap) zs) (hn : zs.length = n) :
    CallsIn Fence.wide 0 Tryd.prog 5 #[.slice p n cap, .int .i64 early] w fun e w' => e = .returned (.bool true) ∧ Chg No w w' := by
  have hmix : Tryd.prog.follows .mixedOrders = true := by kernel_rfl
  refine callsIn_of_wp Tryd.func5 rfl trivial ?_
  simp only [Tryd.ntmps5, List.size_toArray, List.length_cons, List.length_nil, Nat.reduceAdd, Nat.reduceSub, Array.replicate_succ, Array.replicate_zero, List.push_toArray, List.append_toArray, List.nil_append, List.cons_append]
  gi_wp2_with fail
  refine ⟨trivial, rfl, (greatF_in (.slice p n cap) zs 20 w hv).mono ?_⟩
  rintro e w0 ⟨rfl, rfl⟩
  cases hg : greatF zs 20 with
  | true =>
    gi_wp2_with fail
    refine ⟨trivial, rfl, (awake_in _).mono ?_⟩
    rintro e w1 ⟨rfl, c1⟩
    gi_wp2
    go_ret
    exact ⟨rfl, c1⟩
  | false =>
    have hlen := (greatF_false hg).1
    clear hg
    have hn20 : n ≤ 20 := by omega
    obtain ⟨h0, h25⟩ := lowI_range early 25 (by decide) (by decide)
    obtain ⟨m, HM⟩ : ∃ m : Nat, Hid (lowI early 25 = (m : Int)) := ⟨(lowI early 25).toNat, by show _ = _; omega⟩
    have hm : m < 25 := by have := HM.out; omega
    gi_wp2_with fail
    refine ⟨trivial, rfl, (low_in early 25 (by decide) (by decide) _).mono ?_⟩
    rintro e w1 ⟨rfl, rfl⟩
    rw [HM.out]
    clear h0 h25
    gi_wp2_with fail
    refine ⟨trivial, rfl, (lendF_in _ zs (by omega) _ hv).mono ?_⟩
    rintro e w2 ⟨v2, rfl, l2, r2, c2⟩
    gi_wp2_with fail
    refine ⟨trivial, rfl, (all_in v2 zs (by omega) _ r2.sl).mono ?_⟩
    rintro e w3 ⟨gf, lb, D, rfl, s3, c3, hD⟩
    have r3 := r2.no c3
    have hs2 := c2.size
    gi_wp2_with fail
    refine ⟨trivial, rfl, (overF_in v2 _ _ _ (by omega) _ (Nat.le_trans hs2 c3.size) r3).mono ?_⟩
    rintro e w4 ⟨⟨rr, rfl⟩, c4⟩
    have s4 : PSeqA encP w4 gf lb zs D := s3.chg c4 (fun k hk e => by have h1 := hD k hk; have h2 := (r2.lt k e).2; omega)
    have c04 : Chg No w1 w4 := (Chg.seq c2 c3).trans c4 (fun k hk => .inr (r2.lt k hk).1)
    have hv4 := hv.no c04
    clear l2 r2 c2 c3 r3 hs2 s3 hD c4
    have hml : min m n ≤ n := Nat.min_le_right _ _
    obtain ⟨ps, cs, sS, oS, hcS⟩ := SlF.high hv4 (min m n) hml
    have hyl : (zs.take m).length = min m n := by rw [List.length_take, hn]
    have HY : Hid (zs.take (min m n) = zs.take m) := by
      show _ = _
      by_cases h : m ≤ n
      · rw [Nat.min_eq_left h]
      · rw [Nat.min_eq_right (by omega), List.take_of_length_le (by omega), List.take_of_length_le (by omega)]
    rw [HY.out] at sS
    have HYL : Hid ((zs.take m).length = min m n) := hyl
    generalize hk : min m n = k at *
    have HK : Hid (min m n = k) := hk
    clear hk hyl
    have hany := After.any w4
    gi_wp2
    refine region_loudG (fun i => i == 2 || i == 7 || i == 9 || i == 12 || i == 14 || i == 18 || i == 20 || i == 23) (fun w' => ∃ c : After w4, w' = c.val) (WkInv w4 (zs.take m) zs) (fun j => if j = 7 then .int .i64 (k : Int) else .bool true) hmix (by kernel_rfl) (by kernel_rfl) (fun d u W h => ⟨⟨W, h.chg⟩, rfl⟩)
      ⟨(Chg.refl _ w4).drew, by rw [HYL.out]; rfl, rfl, rfl, rfl, rfl, fun h => (by cases h), fun h => (by cases h), fun h => (by cases h)⟩ (fun u hu => ?_)
    obtain ⟨_, _, hu⟩ := hu
    have e7 := hu.v7
    have e9 := hu.v9
    have e14 := hu.v14
    have e20 := hu.v20
    have e23 := hu.v23
    rw [HYL.out] at e7
    clear hu
    simp only [hushE, Nat.reduceAdd, Nat.reduceBEq, Bool.or_self, Bool.or_true, Bool.or_false, if_true, if_false, Bool.false_eq_true]
    rw [e7, e9, e14, e20, e23]
    repeat (gi_big_quiet_step (fail))
    refine wpQuietIn_nil ⟨?_, ?_, ?_⟩
    · intro i o ho hm
      simp only [Bool.or_eq_true, beq_iff_eq] at hm
      rcases hm with ((((((rfl | rfl) | rfl) | rfl) | rfl) | rfl) | rfl) | rfl
      all_goals (cases ho; rfl)
    · intro i o d W ho hm hd hwt hI
      simp only [Bool.or_eq_true, beq_iff_eq] at hm
      rcases hm with ((((((rfl | rfl) | rfl) | rfl) | rfl) | rfl) | rfl) | rfl
      · cases ho
        refine LeadsV.call (f := 26) (args := #[.func (.func gf) #[] lb, .int .i64 (m : Int)]) (by simp [go_sem]) ((filesF_seq m (by omega) W (s4.no hI.chg) (zs.take m) rfl).mono ?_)
        rintro e W' ⟨v', rfl, r', c'⟩
        exact ⟨v', rfl, hI.step 2 v' c' (by omega) (by omega) (fun _ => r'.sl) (by omega)⟩
      · cases ho
        refine LeadsV.value (v := .int .i64 (k : Int)) (w' := W) ?_ (hI.step 7 _ (Chg.refl _ _) (fun _ => by rw [HYL.out]) (by omega) (by omega) (by omega))
        have := run_min2 (P := Tryd.prog) #[3, 3] 3 m n W
        rw [HK.out] at this
        simp [go_sem, this]
      · cases ho
        refine LeadsV.call (f := 16) (args := #[u 2, .slice ps k cs]) (by simp [go_sem]) ((sameF_in (u 2) (.slice ps k cs) (zs.take m) (zs.take m) W (hI.f2 (hwt 2 rfl (by kernel_rfl))) (sS.no hI.chg) (by rw [HYL.out]; omega)).mono ?_)
        rintro e W' ⟨rfl, c'⟩
        exact ⟨_, rfl, hI.step 9 _ c' (by omega) (fun _ => by rw [decide_eq_true rfl]) (by omega) (by omega)⟩
      · cases ho
        refine LeadsV.call (f := 26) (args := #[.func (.func gf) #[] lb, .int .i64 100]) (by simp [go_sem]) ((filesF_seq 100 (by omega) W (s4.no hI.chg) zs (by rw [List.take_of_length_le (by omega)])).mono ?_)
        rintro e W' ⟨v', rfl, r', c'⟩
        exact ⟨v', rfl, hI.step 12 v' c' (by omega) (by omega) (by omega) (fun _ => r'.sl)⟩
      · cases ho
        refine LeadsV.call (f := 16) (args := #[u 12, .slice p n cap]) (by simp [go_sem]) ((sameF_in (u 12) (.slice p n cap) zs zs W (hI.f12 (hwt 12 rfl (by kernel_rfl))) (hv4.no hI.chg) (by omega)).mono ?_)
        rintro e W' ⟨rfl, c'⟩
        exact ⟨_, rfl, hI.step 14 _ c' (by omega) (fun _ => by rw [decide_eq_true rfl]) (by omega) (by omega)⟩
      · cases ho
        refine LeadsV.call (f := 26) (args := #[.func (.func gf) #[] lb, .int .i64 100]) (by simp [go_sem]) ((filesF_seq 100 (by omega) W (s4.no hI.chg) zs (by rw [List.take_of_length_le (by omega)])).mono ?_)
        rintro e W' ⟨v', rfl, r', c'⟩
        exact ⟨v', rfl, hI.step 18 v' c' (by omega) (by omega) (by omega) (fun _ => r'.sl)⟩
      · cases ho
        refine LeadsV.call (f := 16) (args := #[u 18, .slice p n cap]) (by simp [go_sem]) ((sameF_in (u 18) (.slice p n cap) zs zs W (hI.f18 (hwt 18 rfl (by kernel_rfl))) (hv4.no hI.chg) (by omega)).mono ?_)
        rintro e W' ⟨rfl, c'⟩
        exact ⟨_, rfl, hI.step 20 _ c' (by omega) (fun _ => by rw [decide_eq_true rfl]) (by omega) (by omega)⟩
      · cases ho
        refine LeadsV.call (f := 9) (args := #[]) (by simp [go_sem]) ((awake_in W).mono ?_)
        rintro e W' ⟨rfl, c'⟩
        exact ⟨_, rfl, hI.step 23 _ c' (by omega) (fun _ => rfl) (by omega) (by omega)⟩
    · intro d W hall hI
      gi_wp2
      go_ret
      exact ⟨rfl, Chg.seq c04 hI.chg⟩

end Go.Proofs.YtikhfojbekpoeaaDoor
