/-
  slices.symMergeCmpFunc at files where one of the two parts holds one file alone: it comes to its place by a search that halves.
-/
import Derived.Test.YtndblaemladppaaFSwap
namespace Go.Proofs.Ytndblaemladppaa
open Go.RowKit Go.Shelf Go.SeqLib Go.DiffLib Go.TreeLib Go.Sort

set_option maxHeartbeats 4000000 in
set_option maxRecDepth 1000000 in
theorem symLast_in (blk off cap N : Nat) (d : Array Fl) (w0 : World) (R : RowK eF 2 w0 blk off d) (hN : d.size = N) (hz : N ≤ 1000000) (X Y T : List Fl) (z : Fl) (a m : Nat) (ha : X.length = a) (hm : a + Y.length = m) (hY : Up Y) (hY2 : Y.length ≠ 1)
    (dk : Array Fl) (W : World) (h : SWK eF 2 w0 blk off dk W) (hs : dk.size = N) (hd : dk.toList = X ++ (Y ++ z :: T)) :
    Calls Try.prog 57 #[.slice (some ⟨blk, off, none⟩) N cap, .int .i64 a, .int .i64 m, .int .i64 (m + 1 : Nat), .func (.func 31) #[] #[]] W fun e W' =>
      e = .returned (.tuple #[]) ∧ ∃ d', Hid (SWK eF 2 w0 blk off d' W') ∧ d'.size = N ∧ Hid (d'.toList = X ++ (isort (Y ++ [z]) ++ T)) := by
  have mixed : Try.prog.follows .mixedOrders = true := by kernel_rfl
  have eg : ∀ args w, (callFunc 31 args).run Try.prog w = .ok (.enter 31 args) w := enters_of Try.func31 (by kernel_rfl) rfl
  have hmN : m < N := by
    have : dk.toList.length = N := by rw [← hs]; exact Array.length_toList
    rw [hd] at this
    simp at this
    omega
  have hgx : dk[m]! = z := by
    have := bang_at (A := X ++ Y) (a := z) (B := T) (by rw [hd]; simp)
    rw [List.length_append, ha, hm] at this
    exact this
  have HY : Hid (∀ t, t < Y.length → dk[a + t]! = Y.getD t default) := fun t ht => by
    have := bang_mid hd ht
    rw [ha] at this
    exact this
  have HS : Hid (SWK eF 2 w0 blk off dk W) := h
  have ham : a ≤ m := by omega
  have hn1 : ((m : Int) - (a : Int) == 1) = false := by rw [beq_eq_false_iff_ne]; omega
  have hn2 : ((m : Int) + 1 - (m : Int) == 1) = true := by rw [beq_iff_eq]; omega
  have hn3 : (m : Int) + 1 - (m : Int) = 1 := by omega
  have HL : Hid (a + Y.length = m) := hm
  have HA : Hid (X.length = a) := ha
  have HD : Hid (dk.toList = X ++ (Y ++ z :: T)) := hd
  have HU : Hid (Up Y) := hY
  clear hd ha hm h hY hY2
  go_enter Try.func57, Try.ntmps57
  go_wp2
  go_loopg [14, 15] N (fun g s14 s15 wr => ∃ lo hi : Nat, s14 = .int .i64 lo ∧ s15 = .int .i64 hi ∧ a ≤ lo ∧ lo ≤ hi ∧ hi ≤ m ∧ hi - lo ≤ g ∧ Hid (SWK eF 2 w0 blk off dk wr) ∧ Hid (lo = a ∨ lt z.1 dk[lo - 1]!.1 = false) ∧ Hid (hi = m ∨ lt z.1 dk[hi]!.1 = true))
  case atStart => exact ⟨a, m, rfl, rfl, Nat.le_refl _, ham, Nat.le_refl _, by omega, HS, .inl rfl, .inl rfl⟩
  case round =>
    obtain ⟨lo, hi, rfl, rfl, hal, hlh, hin, hg, S1, I1, I2⟩ := hrel
    by_cases hlt : lo < hi
    · have hltz : (lo : Int) < (hi : Int) := by omega
      obtain ⟨c, hm1, hm2, hme⟩ : ∃ c : Nat, lo ≤ c ∧ c < hi ∧ Hid (((lo : Int) + (hi : Int)) / 2 = (c : Int)) := ⟨(lo + hi) / 2, by omega, by omega, by show _ = _; omega⟩
      obtain ⟨y, hy⟩ : ∃ y, dk[c]! = y := ⟨_, rfl⟩
      have fx : ∀ n os, (grow (wr.drewN n) os).cell? ⟨blk, off + m * 2, none⟩ = some (.string z.1) := fun n os => (SWK.two R (S1.out.grown n os) (by omega) (i := m) (by omega) hgx).1
      have fx2 : ∀ n os, (grow (wr.drewN n) os).cell? ⟨blk, off + m * 2 + 1, none⟩ = some (.string z.2) := fun n os => (SWK.two R (S1.out.grown n os) (by omega) (i := m) (by omega) hgx).2.1
      have fy : ∀ n os, (grow (wr.drewN n) os).cell? ⟨blk, off + c * 2, none⟩ = some (.string y.1) := fun n os => (SWK.two R (S1.out.grown n os) (by omega) (by omega) hy).1
      have fy2 : ∀ n os, (grow (wr.drewN n) os).cell? ⟨blk, off + c * 2 + 1, none⟩ = some (.string y.2) := fun n os => (SWK.two R (S1.out.grown n os) (by omega) (by omega) hy).2.1
      have hbc : (c : Int) < (N : Int) := by omega
      have hbm : (m : Int) < (N : Int) := by omega
      have HYc : Hid (dk[c]! = y) := hy
      clear hy
      cases hc : ltOf cmpF z y with
      | true =>
        have hneg : cmpF z y < 0 := of_decide_eq_true hc
        go_wp2_with fail
        rw [hme.out]
        go_quiet_grown (first | (go_at_fn 31; refine Calls.grown_of (order_in _ _ _)) | (go_at_call 31; refine Calls.grown_of (order_in _ _ _)))
        have S2 : Hid (SWK eF 2 w0 blk off dk (grow (wr.drewN nq) osq)) := S1.out.grown nq osq
        generalize grow (wr.drewN nq) osq = w2 at S2 ⊢
        clear fx fx2 fy fy2
        go_wp2
        go_roundg (c - lo)
        case measure => omega
        case rel =>
          refine ⟨lo, c, rfl, rfl, hal, hm1, by omega, Nat.le_refl _, S2, I1, .inr ?_⟩
          rw [cmp_lt] at hc
          rw [HYc.out]
          exact hc
      | false =>
        have hneg : decide (cmpF z y < 0) = false := hc
        go_wp2_with fail
        rw [hme.out]
        go_quiet_grown (first | (go_at_fn 31; refine Calls.grown_of (order_in _ _ _)) | (go_at_call 31; refine Calls.grown_of (order_in _ _ _)))
        have S2 : Hid (SWK eF 2 w0 blk off dk (grow (wr.drewN nq) osq)) := S1.out.grown nq osq
        generalize grow (wr.drewN nq) osq = w2 at S2 ⊢
        clear fx fx2 fy fy2
        go_wp2
        go_roundg (hi - (c + 1))
        case measure => omega
        case rel =>
          refine ⟨c + 1, hi, by go_num, rfl, by omega, by omega, hin, Nat.le_refl _, S2, .inr ?_, I2⟩
          rw [cmp_lt] at hc
          rw [Nat.add_sub_cancel, HYc.out]
          exact hc
    · obtain rfl : lo = hi := by omega
      have hltz : ¬ (lo : Int) < (lo : Int) := by omega
      have hl0 := HL.out
      have hins : Hid (isort (Y ++ [z]) = Y.take (lo - a) ++ z :: Y.drop (lo - a)) := by
        refine sym_last HU.out (by omega) ?_ ?_
        · rcases I1.out with h | h
          · exact .inl (by omega)
          · by_cases e : lo = a
            · exact .inl (by omega)
            · right
              have := HY.out (lo - a - 1) (by omega)
              rw [show a + (lo - a - 1) = lo - 1 by omega] at this
              rw [← this]
              exact h
        · rcases I2.out with h | h
          · exact .inl (by omega)
          · by_cases e : lo = m
            · exact .inl (by omega)
            · right
              have := HY.out (lo - a) (by omega)
              rw [show a + (lo - a) = lo by omega] at this
              rw [← this]
              exact h
      have HD2 : Hid (dk.toList = X ++ (Y.take (m - a) ++ z :: (Y.drop (m - a) ++ T))) := by
        show _ = _
        rw [HD.out, List.take_of_length_le (by omega), List.drop_eq_nil_of_le (by omega)]
        rfl
      clear hgx I1 I2 hl0
      go_wp2
      go_loopg [17] N (fun g s17 wr => ∃ (k : Nat) (dq : Array Fl), s17 = .int .i64 k ∧ lo ≤ k ∧ k ≤ m ∧ k ≤ g ∧ dq.size = N ∧ Hid (SWK eF 2 w0 blk off dq wr) ∧ Hid (dq.toList = X ++ (Y.take (k - a) ++ z :: (Y.drop (k - a) ++ T))))
      case atStart => exact ⟨m, dk, rfl, by omega, by omega, by omega, hs, S1, HD2⟩
      case round =>
        obtain ⟨k, dq, rfl, hk1, hk2, hkg, hdk, S2, HT⟩ := hrel
        by_cases hgt : lo < k
        · obtain ⟨j, rfl⟩ : ∃ j, k = j + 1 := ⟨k - 1, by omega⟩
          have hz1 : (lo : Int) < (j : Int) + 1 := by omega
          have hl0 := HL.out
          have hx0 := HA.out
          have hjl : j - a < Y.length := by omega
          obtain ⟨b, hb⟩ : ∃ b, Y[j - a] = b := ⟨_, rfl⟩
          have ht : dq.toList = (X ++ Y.take (j - a)) ++ b :: z :: (Y.drop (j + 1 - a) ++ T) := by
            rw [HT.out, show j + 1 - a = j - a + 1 by omega, List.take_succ_eq_append_getElem hjl, hb]
            simp only [List.append_assoc, List.cons_append, List.nil_append]
          have htl : (X ++ Y.take (j - a)).length = j := by rw [List.length_append, List.length_take]; omega
          have hsw := swp_list ht
          rw [htl] at hsw
          have HT2 : Hid ((swp dq (j + 1) j).toList = X ++ (Y.take (j - a) ++ z :: (Y.drop (j - a) ++ T))) := by
            show _ = _
            rw [hsw, List.drop_eq_getElem_cons hjl, hb, show j - a + 1 = j + 1 - a by omega]
            simp only [List.append_assoc, List.cons_append]
          have hx : dq[j + 1]! = z := by
            have := bang_at (A := (X ++ Y.take (j - a)) ++ [b]) (a := z) (B := Y.drop (j + 1 - a) ++ T) (by rw [ht]; simp)
            rw [List.length_append, htl] at this
            exact this
          have hbj : dq[j]! = b := by
            have := bang_at ht
            rw [htl] at this
            exact this
          have S3 : Hid (SWK eF 2 w0 blk off (swp dq (j + 1) j) ((((wr.setCell ⟨blk, off + (j + 1) * 2, none⟩ (.string b.1)).setCell ⟨blk, off + (j + 1) * 2 + 1, none⟩ (.string b.2)).setCell ⟨blk, off + j * 2, none⟩ (.string z.1)).setCell ⟨blk, off + j * 2 + 1, none⟩ (.string z.2)).drew) := by
            have := S2.out.swapped R (j + 1) j (by omega) (by omega)
            rw [hx, hbj] at this
            exact this
          obtain ⟨x1, x2, x3, x4⟩ := SWK.two R S2.out (by omega) (by omega) hx
          obtain ⟨b1, b2, b3, b4⟩ := SWK.two R S2.out (by omega) (by omega) hbj
          have hjz : (j : Int) + 1 < (N : Int) := by omega
          have hjz1 : (j : Int) < (N : Int) := by omega
          have hwp : IntKind.i64.wrap (j : Int) = (j : Int) := by rw [IntKind.wrap_i64]; omega
          have e0 : ((j : Int) + 1).toNat = j + 1 := by omega
          have p0 : (0 : Int) ≤ (j : Int) + 1 := by omega
          clear ht hsw hb hx hbj htl hjl hl0 hx0
          go_wp2_with fail
          go_big_region_o
          all_goals go_wp2
          go_roundg j
          case measure => omega
          case rel => exact ⟨j, swp dq (j + 1) j, by first | rfl | go_num | (congr 1; omega), by omega, by omega, Nat.le_refl _, by rw [size_swp]; exact hdk, S3, HT2⟩
        · obtain rfl : k = lo := by omega
          have hz1 : ¬ (k : Int) < (k : Int) := by omega
          go_wp2
          (try simp only [Exit.inBlock, Exit.then])
          refine bodyPost_ret (results_none rfl _ _ _) rfl ?_
          exact ⟨rfl, dq, S2, hdk, by show _ = _; rw [HT.out, hins.out]; simp⟩

set_option maxHeartbeats 4000000 in
set_option maxRecDepth 1000000 in
theorem symFirst_in (blk off cap N : Nat) (d : Array Fl) (w0 : World) (R : RowK eF 2 w0 blk off d) (hN : d.size = N) (hz : N ≤ 1000000) (X Z T : List Fl) (y : Fl) (a b : Nat) (ha : X.length = a) (hb : a + 1 + Z.length = b) (hZ : Up Z)
    (dk : Array Fl) (W : World) (h : SWK eF 2 w0 blk off dk W) (hs : dk.size = N) (hd : dk.toList = X ++ (y :: (Z ++ T))) :
    Calls Try.prog 57 #[.slice (some ⟨blk, off, none⟩) N cap, .int .i64 a, .int .i64 (a + 1 : Nat), .int .i64 b, .func (.func 31) #[] #[]] W fun e W' =>
      e = .returned (.tuple #[]) ∧ ∃ d', Hid (SWK eF 2 w0 blk off d' W') ∧ d'.size = N ∧ Hid (d'.toList = X ++ (isort (y :: Z) ++ T)) := by
  have mixed : Try.prog.follows .mixedOrders = true := by kernel_rfl
  have eg : ∀ args w, (callFunc 31 args).run Try.prog w = .ok (.enter 31 args) w := enters_of Try.func31 (by kernel_rfl) rfl
  have hbN : b ≤ N := by
    have : dk.toList.length = N := by rw [← hs]; exact Array.length_toList
    rw [hd] at this
    simp at this
    omega
  have hgx : dk[a]! = y := by
    have := bang_at hd
    rw [ha] at this
    exact this
  have HY : Hid (∀ t, t < Z.length → dk[a + 1 + t]! = Z.getD t default) := fun t ht => by
    have := bang_mid (d := dk) (X := X ++ [y]) (Y := Z) (Z := T) (by rw [hd]; simp) ht
    rw [List.length_append, ha] at this
    exact this
  have HS : Hid (SWK eF 2 w0 blk off dk W) := h
  have hab : a + 1 ≤ b := by omega
  have hn1 : ((a : Int) + 1 - (a : Int) == 1) = true := by rw [beq_iff_eq]; omega
  have hn3 : (a : Int) + 1 - (a : Int) = 1 := by omega
  have HL : Hid (a + 1 + Z.length = b) := hb
  have HA : Hid (X.length = a) := ha
  have HD : Hid (dk.toList = X ++ (y :: (Z ++ T))) := hd
  have HU : Hid (Up Z) := hZ
  clear hd ha hb h hZ
  go_enter Try.func57, Try.ntmps57
  go_wp2
  go_loopg [10, 11] N (fun g s14 s15 wr => ∃ lo hi : Nat, s14 = .int .i64 lo ∧ s15 = .int .i64 hi ∧ a + 1 ≤ lo ∧ lo ≤ hi ∧ hi ≤ b ∧ hi - lo ≤ g ∧ Hid (SWK eF 2 w0 blk off dk wr) ∧ Hid (lo = a + 1 ∨ lt dk[lo - 1]!.1 y.1 = true) ∧ Hid (hi = b ∨ lt dk[hi]!.1 y.1 = false))
  case atStart => exact ⟨a + 1, b, by first | rfl | go_num, rfl, Nat.le_refl _, hab, Nat.le_refl _, by omega, HS, .inl rfl, .inl rfl⟩
  case round =>
    obtain ⟨lo, hi, rfl, rfl, hal, hlh, hin, hg, S1, I1, I2⟩ := hrel
    by_cases hlt : lo < hi
    · have hltz : (lo : Int) < (hi : Int) := by omega
      obtain ⟨c, hm1, hm2, hme⟩ : ∃ c : Nat, lo ≤ c ∧ c < hi ∧ Hid (((lo : Int) + (hi : Int)) / 2 = (c : Int)) := ⟨(lo + hi) / 2, by omega, by omega, by show _ = _; omega⟩
      obtain ⟨x, hx⟩ : ∃ x, dk[c]! = x := ⟨_, rfl⟩
      have fx : ∀ n os, (grow (wr.drewN n) os).cell? ⟨blk, off + a * 2, none⟩ = some (.string y.1) := fun n os => (SWK.two R (S1.out.grown n os) (by omega) (i := a) (by omega) hgx).1
      have fx2 : ∀ n os, (grow (wr.drewN n) os).cell? ⟨blk, off + a * 2 + 1, none⟩ = some (.string y.2) := fun n os => (SWK.two R (S1.out.grown n os) (by omega) (i := a) (by omega) hgx).2.1
      have fy : ∀ n os, (grow (wr.drewN n) os).cell? ⟨blk, off + c * 2, none⟩ = some (.string x.1) := fun n os => (SWK.two R (S1.out.grown n os) (by omega) (by omega) hx).1
      have fy2 : ∀ n os, (grow (wr.drewN n) os).cell? ⟨blk, off + c * 2 + 1, none⟩ = some (.string x.2) := fun n os => (SWK.two R (S1.out.grown n os) (by omega) (by omega) hx).2.1
      have hbc : (c : Int) < (N : Int) := by omega
      have hbm : (a : Int) < (N : Int) := by omega
      have HYc : Hid (dk[c]! = x) := hx
      clear hx
      cases hc : ltOf cmpF x y with
      | true =>
        have hneg : cmpF x y < 0 := of_decide_eq_true hc
        go_wp2_with fail
        rw [hme.out]
        go_quiet_grown (first | (go_at_fn 31; refine Calls.grown_of (order_in _ _ _)) | (go_at_call 31; refine Calls.grown_of (order_in _ _ _)))
        have S2 : Hid (SWK eF 2 w0 blk off dk (grow (wr.drewN nq) osq)) := S1.out.grown nq osq
        generalize grow (wr.drewN nq) osq = w2 at S2 ⊢
        clear fx fx2 fy fy2
        go_wp2
        go_roundg (hi - (c + 1))
        case measure => omega
        case rel =>
          refine ⟨c + 1, hi, by go_num, rfl, by omega, by omega, hin, Nat.le_refl _, S2, .inr ?_, I2⟩
          rw [cmp_lt] at hc
          rw [Nat.add_sub_cancel, HYc.out]
          exact hc
      | false =>
        have hneg : decide (cmpF x y < 0) = false := hc
        go_wp2_with fail
        rw [hme.out]
        go_quiet_grown (first | (go_at_fn 31; refine Calls.grown_of (order_in _ _ _)) | (go_at_call 31; refine Calls.grown_of (order_in _ _ _)))
        have S2 : Hid (SWK eF 2 w0 blk off dk (grow (wr.drewN nq) osq)) := S1.out.grown nq osq
        generalize grow (wr.drewN nq) osq = w2 at S2 ⊢
        clear fx fx2 fy fy2
        go_wp2
        go_roundg (c - lo)
        case measure => omega
        case rel =>
          refine ⟨lo, c, rfl, rfl, hal, hm1, by omega, Nat.le_refl _, S2, I1, .inr ?_⟩
          rw [cmp_lt] at hc
          rw [HYc.out]
          exact hc
    · obtain rfl : lo = hi := by omega
      have hltz : ¬ (lo : Int) < (lo : Int) := by omega
      have hl0 := HL.out
      have hins : Hid (isort (y :: Z) = Z.take (lo - a - 1) ++ y :: Z.drop (lo - a - 1)) := by
        refine sym_first HU.out (by omega) ?_ ?_
        · rcases I1.out with h | h
          · exact .inl (by omega)
          · by_cases e : lo = a + 1
            · exact .inl (by omega)
            · right
              have := HY.out (lo - a - 1 - 1) (by omega)
              rw [show a + 1 + (lo - a - 1 - 1) = lo - 1 by omega] at this
              rw [← this]
              exact h
        · rcases I2.out with h | h
          · exact .inl (by omega)
          · by_cases e : lo = b
            · exact .inl (by omega)
            · right
              have := HY.out (lo - a - 1) (by omega)
              rw [show a + 1 + (lo - a - 1) = lo by omega] at this
              rw [← this]
              exact h
      have HD2 : Hid (dk.toList = X ++ (Z.take (a - a) ++ y :: (Z.drop (a - a) ++ T))) := by
        show _ = _
        rw [HD.out, Nat.sub_self]
        rfl
      clear hgx I1 I2 hl0
      obtain ⟨q, hq, hq1⟩ : ∃ q : Nat, lo = q + 1 ∧ a ≤ q := ⟨lo - 1, by omega, by omega⟩
      have hq2 : (lo : Int) - 1 = (q : Int) := by omega
      rw [show lo - a - 1 = q - a by omega] at hins
      go_wp2
      go_loopg [13] N (fun g s17 wr => ∃ (k : Nat) (dq : Array Fl), s17 = .int .i64 k ∧ a ≤ k ∧ k ≤ q ∧ q - k ≤ g ∧ dq.size = N ∧ Hid (SWK eF 2 w0 blk off dq wr) ∧ Hid (dq.toList = X ++ (Z.take (k - a) ++ y :: (Z.drop (k - a) ++ T))))
      case atStart => exact ⟨a, dk, rfl, by omega, by omega, by omega, hs, S1, HD2⟩
      case round =>
        obtain ⟨k, dq, rfl, hk1, hk2, hkg, hdk, S2, HT⟩ := hrel
        by_cases hgt : k < q
        · have hz1 : (k : Int) < (q : Int) := by omega
          have hl0 := HL.out
          have hx0 := HA.out
          have hjl : k - a < Z.length := by omega
          obtain ⟨e, he⟩ : ∃ e, Z[k - a] = e := ⟨_, rfl⟩
          have ht : dq.toList = (X ++ Z.take (k - a)) ++ y :: ([] ++ e :: (Z.drop (k + 1 - a) ++ T)) := by
            rw [HT.out, List.drop_eq_getElem_cons hjl, he, show k - a + 1 = k + 1 - a by omega]
            simp only [List.append_assoc, List.cons_append, List.nil_append]
          have htl : (X ++ Z.take (k - a)).length = k := by rw [List.length_append, List.length_take]; omega
          have hsw := swp_far ht
          rw [htl] at hsw
          have HT2 : Hid ((swp dq k (k + 1)).toList = X ++ (Z.take (k + 1 - a) ++ y :: (Z.drop (k + 1 - a) ++ T))) := by
            show _ = _
            rw [show k + 1 = k + 1 + ([] : List Fl).length from rfl, hsw, show k + 1 + ([] : List Fl).length - a = k - a + 1 by simp; omega, List.take_succ_eq_append_getElem hjl, he, show k - a + 1 = k + 1 - a by omega]
            simp only [List.append_assoc, List.cons_append, List.nil_append]
          have hx : dq[k + 1]! = e := by
            have := bang_at (A := (X ++ Z.take (k - a)) ++ [y]) (a := e) (B := Z.drop (k + 1 - a) ++ T) (by rw [ht]; simp)
            rw [List.length_append, htl] at this
            exact this
          have hbj : dq[k]! = y := by
            have := bang_at ht
            rw [htl] at this
            exact this
          have S3 : Hid (SWK eF 2 w0 blk off (swp dq k (k + 1)) ((((wr.setCell ⟨blk, off + k * 2, none⟩ (.string e.1)).setCell ⟨blk, off + k * 2 + 1, none⟩ (.string e.2)).setCell ⟨blk, off + (k + 1) * 2, none⟩ (.string y.1)).setCell ⟨blk, off + (k + 1) * 2 + 1, none⟩ (.string y.2)).drew) := by
            have := S2.out.swapped R k (k + 1) (by omega) (by omega)
            rw [hx, hbj] at this
            exact this
          obtain ⟨x1, x2, x3, x4⟩ := SWK.two R S2.out (by omega) (by omega) hx
          obtain ⟨b1, b2, b3, b4⟩ := SWK.two R S2.out (by omega) (by omega) hbj
          have hjz : (k : Int) + 1 < (N : Int) := by omega
          have hjz1 : (k : Int) < (N : Int) := by omega
          have e0 : ((k : Int) + 1).toNat = k + 1 := by omega
          have p0 : (0 : Int) ≤ (k : Int) + 1 := by omega
          clear ht hsw he hx hbj htl hjl hl0 hx0
          go_wp2_with fail
          go_big_region_o
          all_goals go_wp2
          go_roundg (q - (k + 1))
          case measure => omega
          case rel => exact ⟨k + 1, swp dq k (k + 1), by first | rfl | go_num | (congr 1; omega), by omega, by omega, Nat.le_refl _, by rw [size_swp]; exact hdk, S3, HT2⟩
        · obtain rfl : k = q := by omega
          have hz1 : ¬ (k : Int) < (k : Int) := by omega
          go_wp2
          (try simp only [Exit.inBlock, Exit.then])
          refine bodyPost_ret (results_none rfl _ _ _) rfl ?_
          exact ⟨rfl, dq, S2, hdk, by show _ = _; rw [HT.out, hins.out]; simp⟩

end Go.Proofs.Ytndblaemladppaa
