/-
  The statements' own samePairs and SameSteps.
-/
import Derived.Test.YtafaihbfhcpjiaaDoorDWide
import Derived.Shelf.RegionOpen
import Derived.Sort.QuietThIn
namespace Go.Proofs.YtafaihbfhcpjiaaDoor
open Go.RowKit Go.Shelf Go.SeqLib Go.DiffLib Go.BigFrame
attribute [local go_sem] Oper.semAt_some

theorem neq_pair {x y : Nat × Nat} (h : ¬ x = y) : (!((x.1 : Int) == (y.1 : Int) && (x.2 : Int) == (y.2 : Int))) = true := by
  obtain ⟨a, b⟩ := x
  obtain ⟨c, d⟩ := y
  rw [Bool.not_eq_true', Bool.and_eq_false_iff, beq_eq_false_iff_ne, beq_eq_false_iff_ne]
  by_cases e : a = c
  · refine .inr (fun e2 => h ?_)
    simp only at e2
    rw [e, show b = d by omega]
  · exact .inl (fun e2 => e (by simp only at e2; omega))
theorem neq_step {x y : Int × Int × Int} (h : ¬ x = y) : (!(x.1 == y.1 && x.2.1 == y.2.1 && x.2.2 == y.2.2)) = true := by
  obtain ⟨a, b, c⟩ := x
  obtain ⟨d, e, f⟩ := y
  rw [Bool.not_eq_true', Bool.and_eq_false_iff, Bool.and_eq_false_iff, beq_eq_false_iff_ne, beq_eq_false_iff_ne, beq_eq_false_iff_ne]
  by_cases e1 : a = d
  · by_cases e2 : b = e
    · exact .inr (fun e3 => h (by simp only at e3; rw [e1, e2, e3]))
    · exact .inl (.inr e2)
  · exact .inl (.inl e1)
theorem run_neq_step (a b c a' b' c' : Int) (w : World) : (binOp .neq 42 (.agg #[.int .i64 a, .int .i64 b, .int .i64 c]) (.agg #[.int .i64 a', .int .i64 b', .int .i64 c'])).run Tryd.prog w = .ok (.bool (!(a == a' && b == b' && c == c'))) w := by
  have h2 : Tryd.prog.underlying 3 = some (.int .i64) := by kernel_rfl
  have he : ∀ (x y : Int) (w : World), (Op.equalIn 9999 3 (.int .i64 x) (.int .i64 y)).run Tryd.prog w = .ok (x == y) w := fun x y w => run_equalIn_int w 9998 3 .i64 .i64 x y h2
  have hp : Tryd.prog.stoodInHeld 42 = false := by kernel_rfl
  have hu : Tryd.prog.underlying 42 = some (.struct (Tryd.prog.fieldsOf 42)) := by kernel_rfl
  have hf : ((Tryd.prog.fieldsOf 42).toList.map fun f => (f.name == "_", f.type, f.offset)) = [(false, 3, 0), (false, 3, 1), (false, 3, 2)] := by kernel_rfl
  rw [run_neq_struct, run_equalIn_agg w 9999 _ _ _ hu hp]
  obtain ⟨f1, f2, f3, hfl⟩ : ∃ f1 f2 f3, (Tryd.prog.fieldsOf 42).toList = [f1, f2, f3] := by
    generalize (Tryd.prog.fieldsOf 42).toList = l at hf
    have hl := congrArg List.length hf
    rw [List.length_map] at hl
    obtain ⟨x1, l1, rfl⟩ := List.exists_cons_of_length_eq_add_one hl
    obtain ⟨x2, l2, rfl⟩ := List.exists_cons_of_length_eq_add_one (Nat.succ.inj hl)
    obtain ⟨x3, l3, rfl⟩ := List.exists_cons_of_length_eq_add_one (Nat.succ.inj (Nat.succ.inj hl))
    obtain rfl := List.length_eq_zero_iff.1 (Nat.succ.inj (Nat.succ.inj (Nat.succ.inj hl)))
    exact ⟨x1, x2, x3, rfl⟩
  rw [hfl] at hf ⊢
  simp at hf
  obtain ⟨⟨n1, t1, o1⟩, ⟨n2, t2, o2⟩, ⟨n3, t3, o3⟩⟩ := hf
  have hpart : ∀ (xs : Array Value) (off : Nat) (v : Value) (w : World), xs[off]? = some v → (part 3 xs off).run Tryd.prog w = .ok v w := fun xs off v w h => run_part_plain w (by kernel_rfl) h
  simp [Op.eqFields, n1, n2, n3, t1, t2, t3, o1, o2, o3, hpart, he]
  by_cases e1 : a = a'
  · by_cases e2 : b = b'
    · by_cases e3 : c = c'
      · simp [e1, e2, e3]
      · simp [e1, e2, e3]
    · simp [e1, e2]
  · simp [e1]

set_option maxHeartbeats 1000000 in
theorem samePairs_in (v u : Value) (xs ys : List (Nat × Nat)) (w : World) (hv : SlP w v xs) (hu : SlP w u ys) (hx : xs.length ≤ 1000000) :
    CallsIn Fence.wide 0 Tryd.prog 10 #[v, u] w fun e w' => e = .returned (.bool (decide (xs = ys))) ∧ Chg No w w' := by
  have hmix : Tryd.prog.follows .mixedOrders = true := by kernel_rfl
  have hgd := guard_pair
  obtain ⟨p, c1, rfl, _, _, _⟩ := id hv
  obtain ⟨q, c2, rfl, _, _, _⟩ := id hu
  obtain ⟨n, HN⟩ : ∃ n, Hid (xs.length = n) := ⟨_, rfl⟩
  obtain ⟨m, HM⟩ : ∃ m, Hid (ys.length = m) := ⟨_, rfl⟩
  rw [HN.out] at hv hx ⊢
  rw [HM.out] at hu ⊢
  refine callsIn_of_wp Tryd.func10 rfl trivial ?_
  simp only [Tryd.ntmps10, List.size_toArray, List.length_cons, List.length_nil, Nat.reduceAdd, Nat.reduceSub, Array.replicate_succ, Array.replicate_zero, List.push_toArray, List.append_toArray, List.nil_append, List.cons_append]
  by_cases hlen : n = m
  · have he : ((n : Int) != (m : Int)) = false := by simp [hlen]
    have HL : Hid (n = m) := hlen
    clear hlen
    gi_wp2
    gi_loopw [5] (fun i wr => ∃ k : Nat, k ≤ n ∧ i = .int .i64 (k : Int) ∧ Hid (xs.take k = ys.take k) ∧ Chg No w wr) (fun i _ => n - (intOf i).toNat)
    case atStart => exact ⟨0, Nat.zero_le _, rfl, rfl, Chg.refl _ _⟩
    case round =>
      obtain ⟨k, hk, rfl, HT, c⟩ := hrel
      by_cases hlt : k < n
      · have hlt2 : k < m := by rw [← HL.out]; exact hlt
        have hlt' : (k : Int) < (n : Int) := by omega
        have hlt2' : (k : Int) < (m : Int) := by omega
        have hkx : k < xs.length := by rw [HN.out]; exact hlt
        have hky : k < ys.length := by rw [HM.out]; exact hlt2
        obtain ⟨x, hx⟩ : ∃ x, xs[k] = x := ⟨_, rfl⟩
        obtain ⟨y, hy⟩ : ∃ y, ys[k] = y := ⟨_, rfl⟩
        have hv' : SlP wr _ xs := SlE.no eP_len (by decide) hv c
        have hu' : SlP wr _ ys := SlE.no eP_len (by decide) hu c
        obtain ⟨b1, o1, rfl, x1, x2⟩ := SlP.at hv' k x (by rw [List.getElem?_eq_getElem hkx, hx])
        obtain ⟨b2, o2, rfl, y1, y2⟩ := SlP.at hu' k y (by rw [List.getElem?_eq_getElem hky, hy])
        by_cases hxy : x = y
        · have HT2 : Hid (xs.take (k + 1) = ys.take (k + 1)) := by
            show _ = _
            rw [List.take_succ_eq_append_getElem hkx, List.take_succ_eq_append_getElem hky, HT.out, hx, hy, hxy]
          have hne : ∀ w, (binOp .neq 45 (.agg #[.int .i64 (x.1 : Int), .int .i64 (x.2 : Int)]) (.agg #[.int .i64 (y.1 : Int), .int .i64 (y.2 : Int)])).run Tryd.prog w = .ok (.bool false) w := fun w => by rw [run_neq_pair]; subst hxy; simp
          clear hxy hx hy hv' hu'
          gi_wp2
          refine wpIn_region_quiet_lit rfl hmix (by kernel_rfl) ?_
          repeat (gi_big_quiet_step (fail))
          refine wpQuietIn_nil ?_
          rintro w' ⟨j, rfl⟩
          gi_wp2
          go_roundw
          case rel => exact ⟨k + 1, hlt, by go_num, HT2, drewNC c _⟩
          case measure => simp [intOf]; omega
        · have HD : Hid (decide (xs = ys) = false) := by
            show _ = _
            rw [decide_eq_false_iff_not]
            rintro rfl
            exact hxy (hx.symm.trans hy)
          have hne : ∀ w, (binOp .neq 45 (.agg #[.int .i64 (x.1 : Int), .int .i64 (x.2 : Int)]) (.agg #[.int .i64 (y.1 : Int), .int .i64 (y.2 : Int)])).run Tryd.prog w = .ok (.bool true) w := fun w => by
            rw [run_neq_pair, neq_pair hxy]
          clear hxy hx hy hv' hu'
          gi_wp2
          refine wpIn_region_quiet_lit rfl hmix (by kernel_rfl) ?_
          repeat (gi_big_quiet_step (fail))
          refine wpQuietIn_nil ?_
          rintro w' ⟨j, rfl⟩
          gi_wp2
          go_ret
          exact ⟨by rw [HD.out]; rfl, drewNC c _⟩
      · obtain rfl : k = n := by omega
        have hlt' : ¬ (k : Int) < (k : Int) := by omega
        have HD : Hid (decide (xs = ys) = true) := by
          show _ = _
          rw [decide_eq_true_iff]
          have h := HT.out
          rw [List.take_of_length_le (by rw [HN.out]; exact Nat.le_refl _), List.take_of_length_le (by rw [HM.out, ← HL.out]; exact Nat.le_refl _)] at h
          exact h
        gi_wp2
        go_ret
        exact ⟨by rw [HD.out]; rfl, c⟩
  · have he : ((n : Int) != (m : Int)) = true := by simp; omega
    have HD : Hid (decide (xs = ys) = false) := by
      show _ = _
      rw [decide_eq_false_iff_not]
      rintro rfl
      exact hlen (HN.out.symm.trans HM.out)
    clear hlen
    gi_wp2
    go_ret
    exact ⟨by rw [HD.out]; rfl, Chg.refl _ _⟩

set_option maxHeartbeats 1000000 in
theorem sameSteps_in (v u : Value) (xs ys : List (Int × Int × Int)) (w : World) (hv : SlS w v xs) (hu : SlS w u ys) (hx : xs.length ≤ 1000000) :
    CallsIn Fence.wide 0 Tryd.prog 13 #[v, u] w fun e w' => e = .returned (.bool (decide (xs = ys))) ∧ Chg No w w' := by
  have hmix : Tryd.prog.follows .mixedOrders = true := by kernel_rfl
  have hgd := guard_step
  obtain ⟨p, c1, rfl, _, _, _⟩ := id hv
  obtain ⟨q, c2, rfl, _, _, _⟩ := id hu
  obtain ⟨n, HN⟩ : ∃ n, Hid (xs.length = n) := ⟨_, rfl⟩
  obtain ⟨m, HM⟩ : ∃ m, Hid (ys.length = m) := ⟨_, rfl⟩
  rw [HN.out] at hv hx ⊢
  rw [HM.out] at hu ⊢
  refine callsIn_of_wp Tryd.func13 rfl trivial ?_
  simp only [Tryd.ntmps13, List.size_toArray, List.length_cons, List.length_nil, Nat.reduceAdd, Nat.reduceSub, Array.replicate_succ, Array.replicate_zero, List.push_toArray, List.append_toArray, List.nil_append, List.cons_append]
  by_cases hlen : n = m
  · have he : ((n : Int) != (m : Int)) = false := by simp [hlen]
    have HL : Hid (n = m) := hlen
    clear hlen
    gi_wp2
    gi_loopw [5] (fun i wr => ∃ k : Nat, k ≤ n ∧ i = .int .i64 (k : Int) ∧ Hid (xs.take k = ys.take k) ∧ Chg No w wr) (fun i _ => n - (intOf i).toNat)
    case atStart => exact ⟨0, Nat.zero_le _, rfl, rfl, Chg.refl _ _⟩
    case round =>
      obtain ⟨k, hk, rfl, HT, c⟩ := hrel
      by_cases hlt : k < n
      · have hlt2 : k < m := by rw [← HL.out]; exact hlt
        have hlt' : (k : Int) < (n : Int) := by omega
        have hlt2' : (k : Int) < (m : Int) := by omega
        have hkx : k < xs.length := by rw [HN.out]; exact hlt
        have hky : k < ys.length := by rw [HM.out]; exact hlt2
        obtain ⟨x, hx⟩ : ∃ x, xs[k] = x := ⟨_, rfl⟩
        obtain ⟨y, hy⟩ : ∃ y, ys[k] = y := ⟨_, rfl⟩
        have hv' : SlS wr _ xs := SlE.no eS_len (by decide) hv c
        have hu' : SlS wr _ ys := SlE.no eS_len (by decide) hu c
        obtain ⟨b1, o1, rfl, x1, x2, x3⟩ := SlS.at hv' k x (by rw [List.getElem?_eq_getElem hkx, hx])
        obtain ⟨b2, o2, rfl, y1, y2, y3⟩ := SlS.at hu' k y (by rw [List.getElem?_eq_getElem hky, hy])
        by_cases hxy : x = y
        · have HT2 : Hid (xs.take (k + 1) = ys.take (k + 1)) := by
            show _ = _
            rw [List.take_succ_eq_append_getElem hkx, List.take_succ_eq_append_getElem hky, HT.out, hx, hy, hxy]
          have hne : ∀ w, (binOp .neq 42 (.agg #[.int .i64 x.1, .int .i64 x.2.1, .int .i64 x.2.2]) (.agg #[.int .i64 y.1, .int .i64 y.2.1, .int .i64 y.2.2])).run Tryd.prog w = .ok (.bool false) w := fun w => by rw [run_neq_step]; subst hxy; simp
          clear hxy hx hy hv' hu'
          gi_wp2
          refine wpIn_region_quiet_lit rfl hmix (by kernel_rfl) ?_
          repeat (gi_big_quiet_step (fail))
          refine wpQuietIn_nil ?_
          rintro w' ⟨j, rfl⟩
          gi_wp2
          go_roundw
          case rel => exact ⟨k + 1, hlt, by go_num, HT2, drewNC c _⟩
          case measure => simp [intOf]; omega
        · have HD : Hid (decide (xs = ys) = false) := by
            show _ = _
            rw [decide_eq_false_iff_not]
            rintro rfl
            exact hxy (hx.symm.trans hy)
          have hne : ∀ w, (binOp .neq 42 (.agg #[.int .i64 x.1, .int .i64 x.2.1, .int .i64 x.2.2]) (.agg #[.int .i64 y.1, .int .i64 y.2.1, .int .i64 y.2.2])).run Tryd.prog w = .ok (.bool true) w := fun w => by
            rw [run_neq_step, neq_step hxy]
          clear hxy hx hy hv' hu'
          gi_wp2
          refine wpIn_region_quiet_lit rfl hmix (by kernel_rfl) ?_
          repeat (gi_big_quiet_step (fail))
          refine wpQuietIn_nil ?_
          rintro w' ⟨j, rfl⟩
          gi_wp2
          go_ret
          exact ⟨by rw [HD.out]; rfl, drewNC c _⟩
      · obtain rfl : k = n := by omega
        have hlt' : ¬ (k : Int) < (k : Int) := by omega
        have HD : Hid (decide (xs = ys) = true) := by
          show _ = _
          rw [decide_eq_true_iff]
          have h := HT.out
          rw [List.take_of_length_le (by rw [HN.out]; exact Nat.le_refl _), List.take_of_length_le (by rw [HM.out, ← HL.out]; exact Nat.le_refl _)] at h
          exact h
        gi_wp2
        go_ret
        exact ⟨by rw [HD.out]; rfl, c⟩
  · have he : ((n : Int) != (m : Int)) = true := by simp; omega
    have HD : Hid (decide (xs = ys) = false) := by
      show _ = _
      rw [decide_eq_false_iff_not]
      rintro rfl
      exact hlen (HN.out.symm.trans HM.out)
    clear hlen
    gi_wp2
    go_ret
    exact ⟨by rw [HD.out]; rfl, Chg.refl _ _⟩

end Go.Proofs.YtafaihbfhcpjiaaDoor
