/-
  slices.symMergeCmpFunc at files: two sorted parts that lie side by side come to stand sorted, those of one path in their order.
-/
import Derived.Test.YtndblaemladppaaFSymA
namespace Go.Proofs.Ytndblaemladppaa
open Go.RowKit Go.Shelf Go.SeqLib Go.DiffLib Go.TreeLib Go.Sort

set_option maxHeartbeats 16000000 in
set_option maxRecDepth 1000000 in
theorem sym_in (blk off cap N : Nat) (d : Array Fl) (w0 : World) (R : RowK eF 2 w0 blk off d) (hN : d.size = N) (hz : N ≤ 1000000) : ∀ (fuel : Nat) (X Y Z T : List Fl) (a m b : Nat) (dk : Array Fl) (W : World), b - a ≤ fuel → X.length = a → a + Y.length = m → m + Z.length = b → 0 < Y.length → 0 < Z.length → Up Y → Up Z →
    SWK eF 2 w0 blk off dk W → dk.size = N → dk.toList = X ++ (Y ++ (Z ++ T)) →
    Calls Try.prog 57 #[.slice (some ⟨blk, off, none⟩) N cap, .int .i64 a, .int .i64 m, .int .i64 b, .func (.func 31) #[] #[]] W fun e W' =>
      e = .returned (.tuple #[]) ∧ ∃ d', Hid (SWK eF 2 w0 blk off d' W') ∧ d'.size = N ∧ Hid (d'.toList = X ++ (isort (Y ++ Z) ++ T)) := by
  intro fuel
  induction fuel with
  | zero =>
    intro X Y Z T a m b dk W h1 h2 h3 h4 h5 h6
    omega
  | succ fuel ih =>
  intro X Y Z T a m b dk W hf ha hm hb hYl hZl hY hZ h hs hd
  by_cases hY1 : Y.length = 1
  · obtain ⟨y, rfl⟩ := List.length_eq_one_iff.1 hY1
    obtain rfl : m = a + 1 := by simpa using hm.symm
    exact symFirst_in blk off cap N d w0 R hN hz X Z T y a b ha hb hZ dk W h hs hd
  by_cases hZ1 : Z.length = 1
  · obtain ⟨z, rfl⟩ := List.length_eq_one_iff.1 hZ1
    obtain rfl : b = m + 1 := by simpa using hb.symm
    exact symLast_in blk off cap N d w0 R hN hz X Y T z a m ha hm hY hY1 dk W h hs hd
  have mixed : Try.prog.follows .mixedOrders = true := by kernel_rfl
  have eg : ∀ args w, (callFunc 31 args).run Try.prog w = .ok (.enter 31 args) w := enters_of Try.func31 (by kernel_rfl) rfl
  have hbN : b ≤ N := by
    have : dk.toList.length = N := by rw [← hs]; exact Array.length_toList
    rw [hd] at this
    simp at this
    omega
  have HY : Hid (∀ t, t < Y.length → dk[a + t]! = Y.getD t default) := fun t ht => by
    have := bang_mid hd ht
    rw [ha] at this
    exact this
  have HZ : Hid (∀ t, t < Z.length → dk[m + t]! = Z.getD t default) := fun t ht => by
    have := bang_mid (d := dk) (X := X ++ Y) (Y := Z) (Z := T) (by rw [hd]; simp) ht
    rw [List.length_append, ha, hm] at this
    exact this
  have HS : Hid (SWK eF 2 w0 blk off dk W) := h
  have HIH : Hid _ := ih
  have HROT : Hid (∀ (dk : Array Fl) (W : World) (X U V T : List Fl) (a m b : Nat), X.length = a → a + U.length = m → m + V.length = b → 0 < U.length → 0 < V.length → SWK eF 2 w0 blk off dk W → dk.size = N → dk.toList = X ++ (U ++ (V ++ T)) →
      Calls Try.prog 65 #[.slice (some ⟨blk, off, none⟩) N cap, .int .i64 a, .int .i64 m, .int .i64 b, .func (.func 31) #[] #[]] W fun e W' => e = .returned (.tuple #[]) ∧ ∃ d', Hid (SWK eF 2 w0 blk off d' W') ∧ d'.size = N ∧ Hid (d'.toList = X ++ (V ++ (U ++ T)))) :=
    fun dk W X U V T a m b h1 h2 h3 h4 h5 h6 h7 h8 => rotate_in blk off cap N d w0 R hN hz _ X U V T a m b h1 h2 h3 h4 h5 dk W h6 h7 h8
  have hn1 : ((m : Int) - (a : Int) == 1) = false := by rw [beq_eq_false_iff_ne]; omega
  have hn2 : ((b : Int) - (m : Int) == 1) = false := by rw [beq_eq_false_iff_ne]; omega
  have HL : Hid (X.length = a ∧ a + Y.length = m ∧ m + Z.length = b) := ⟨ha, hm, hb⟩
  have ham : a + 2 ≤ m := by omega
  have hmb : m + 2 ≤ b := by omega
  have HD : Hid (dk.toList = X ++ (Y ++ (Z ++ T))) := hd
  have HU : Hid (Up Y ∧ Up Z) := ⟨hY, hZ⟩
  obtain ⟨mid, hmid⟩ : ∃ mid : Nat, mid = (a + b) / 2 := ⟨_, rfl⟩
  have hmid1 : ((a : Int) + (b : Int)) / 2 = (mid : Int) := by omega
  have hmid2 : 2 * mid ≤ a + b ∧ a + b ≤ 2 * mid + 1 := by omega
  clear hd ha hm hb h hY hZ hYl hZl hY1 hZ1 hmid ih
  by_cases hmm : mid < m
  · have hkey : (mid + m - b) ≤ mid ∧ mid ≤ mid ∧ mid ≤ m ∧ a ≤ (mid + m - b) ∧ mid + m ≤ b + (mid + m - b) ∧ ((mid + m - b) = a ∨ (mid + m - b) + b = mid + m) ∧ (mid = m ∨ mid = mid) := by omega
    have hmmz : (mid : Int) < (m : Int) := by omega
    have hmnb : (mid : Int) + (m : Int) - (b : Int) = ((mid + m - b : Nat) : Int) ∨ mid + m < b := by omega
    go_enter Try.func57, Try.ntmps57
    go_wp2
    (try rw [hmid1])
    go_loopg [20, 21] N (fun g s14 s15 wr => ∃ lo hi : Nat, s14 = .int .i64 lo ∧ s15 = .int .i64 hi ∧ (mid + m - b) ≤ lo ∧ lo ≤ hi ∧ hi ≤ mid ∧ hi - lo ≤ g ∧ Hid (SWK eF 2 w0 blk off dk wr) ∧ Hid (lo = (mid + m - b) ∨ lt dk[mid + m - lo]!.1 dk[lo - 1]!.1 = false) ∧ Hid (hi = mid ∨ lt dk[mid + m - 1 - hi]!.1 dk[hi]!.1 = true))
    case atStart => exact ⟨(mid + m - b), mid, by first | rfl | (congr 1; omega), by first | rfl | (congr 1; omega), Nat.le_refl _, by omega, Nat.le_refl _, by omega, HS, .inl rfl, .inl rfl⟩
    case round =>
      obtain ⟨lo, hi, rfl, rfl, hal, hlh, hin, hg, S1, I1, I2⟩ := hrel
      by_cases hlt : lo < hi
      · have hltz : (lo : Int) < (hi : Int) := by omega
        obtain ⟨c, hm1, hm2, hme⟩ : ∃ c : Nat, lo ≤ c ∧ c < hi ∧ Hid (((lo : Int) + (hi : Int)) / 2 = (c : Int)) := ⟨(lo + hi) / 2, by omega, by omega, by show _ = _; omega⟩
        obtain ⟨x, hx⟩ : ∃ x, dk[c]! = x := ⟨_, rfl⟩
        obtain ⟨y, hy⟩ : ∃ y, dk[mid + m - 1 - c]! = y := ⟨_, rfl⟩
        obtain ⟨p, hp⟩ : ∃ p : Nat, mid + m - 1 - c = p := ⟨_, rfl⟩
        have hpz : (mid : Int) + (m : Int) - 1 - (c : Int) = (p : Int) := by omega
        have hpN : p < N := by omega
        have hpw : IntKind.i64.wrap (p : Int) = (p : Int) := by rw [IntKind.wrap_i64]; omega
        rw [hp] at hy
        have fx : ∀ n os, (grow (wr.drewN n) os).cell? ⟨blk, off + p * 2, none⟩ = some (.string y.1) := fun n os => (SWK.two R (S1.out.grown n os) (by omega) (by omega) hy).1
        have fx2 : ∀ n os, (grow (wr.drewN n) os).cell? ⟨blk, off + p * 2 + 1, none⟩ = some (.string y.2) := fun n os => (SWK.two R (S1.out.grown n os) (by omega) (by omega) hy).2.1
        have fy : ∀ n os, (grow (wr.drewN n) os).cell? ⟨blk, off + c * 2, none⟩ = some (.string x.1) := fun n os => (SWK.two R (S1.out.grown n os) (by omega) (by omega) hx).1
        have fy2 : ∀ n os, (grow (wr.drewN n) os).cell? ⟨blk, off + c * 2 + 1, none⟩ = some (.string x.2) := fun n os => (SWK.two R (S1.out.grown n os) (by omega) (by omega) hx).2.1
        have hbc : (c : Int) < (N : Int) := by omega
        have hbm : (p : Int) < (N : Int) := by omega
        have HXc : Hid (dk[c]! = x) := hx
        have HYc : Hid (dk[p]! = y) := hy
        have HP : Hid (mid + m - 1 - c = p) := hp
        clear hx hy hp
        cases hc : ltOf cmpF y x with
        | true =>
          have hneg : cmpF y x < 0 := of_decide_eq_true hc
          go_wp2_with fail
          rw [hme.out]
          (try rw [hpz])
          go_quiet_grown (first | (go_at_fn 31; refine Calls.grown_of (order_in _ _ _)) | (go_at_call 31; refine Calls.grown_of (order_in _ _ _)))
          have S2 : Hid (SWK eF 2 w0 blk off dk (grow (wr.drewN nq) osq)) := S1.out.grown nq osq
          generalize grow (wr.drewN nq) osq = w2 at S2 ⊢
          clear fx fx2 fy fy2
          go_wp2
          go_roundg (c - lo)
          case measure => omega
          case rel =>
            refine ⟨lo, c, rfl, rfl, hal, hm1, by omega, Nat.le_refl _, S2, I1, .inr ?_⟩
            rw [cmp_lt] at hc
            rw [HP.out, HYc.out, HXc.out]
            exact hc
        | false =>
          have hneg : decide (cmpF y x < 0) = false := hc
          go_wp2_with fail
          rw [hme.out]
          (try rw [hpz])
          go_quiet_grown (first | (go_at_fn 31; refine Calls.grown_of (order_in _ _ _)) | (go_at_call 31; refine Calls.grown_of (order_in _ _ _)))
          have S2 : Hid (SWK eF 2 w0 blk off dk (grow (wr.drewN nq) osq)) := S1.out.grown nq osq
          generalize grow (wr.drewN nq) osq = w2 at S2 ⊢
          clear fx fx2 fy fy2
          go_wp2
          go_roundg (hi - (c + 1))
          case measure => omega
          case rel =>
            refine ⟨c + 1, hi, by go_num, rfl, by omega, by omega, hin, Nat.le_refl _, S2, .inr ?_, I2⟩
            rw [cmp_lt] at hc
            rw [show mid + m - (c + 1) = p by have := HP.out; omega, Nat.add_sub_cancel, HYc.out, HXc.out]
            exact hc
      · obtain rfl : lo = hi := by omega
        have hltz : ¬ (lo : Int) < (lo : Int) := by omega
        obtain ⟨hl1, hl2, hl3⟩ := HL.out
        obtain ⟨en, hen⟩ : ∃ en : Nat, en = mid + m - lo := ⟨_, rfl⟩
        have henz : (mid : Int) + (m : Int) - (lo : Int) = (en : Int) := by omega
        have hen1 : m ≤ en ∧ en ≤ b ∧ mid ≤ en ∧ lo ≤ mid ∧ lo ≤ m ∧ a ≤ lo ∧ en + lo = mid + m := by omega
        have HR : Hid (isort (Y.take (lo - a) ++ Z.take (en - m)) ++ isort (Y.drop (lo - a) ++ Z.drop (en - m)) = isort (Y ++ Z)) := by
          refine sym_split HU.out.1 HU.out.2 (by omega) (by omega) ?_ ?_
          · by_cases e1 : lo = a
            · exact .inl (by omega)
            by_cases e2 : en = b
            · exact .inr (.inl (by omega))
            rcases I1.out with h | h
            · exfalso; omega
            · refine .inr (.inr ?_)
              rw [← HY.out (lo - a - 1) (by omega), ← HZ.out (en - m) (by omega), show a + (lo - a - 1) = lo - 1 by omega, show m + (en - m) = mid + m - lo by omega]
              exact h
          · by_cases e1 : lo = m
            · exact .inl (by omega)
            by_cases e2 : en = m
            · exact .inr (.inl (by omega))
            rcases I2.out with h | h
            · exfalso; omega
            · refine .inr (.inr ?_)
              rw [← HY.out (lo - a) (by omega), ← HZ.out (en - m - 1) (by omega), show a + (lo - a) = lo by omega, show m + (en - m - 1) = mid + m - 1 - lo by omega]
              exact h
        obtain ⟨Y1, hY1⟩ : ∃ Y1, Y.take (lo - a) = Y1 := ⟨_, rfl⟩
        obtain ⟨Y2, hY2⟩ : ∃ Y2, Y.drop (lo - a) = Y2 := ⟨_, rfl⟩
        obtain ⟨Z1, hZ1⟩ : ∃ Z1, Z.take (en - m) = Z1 := ⟨_, rfl⟩
        obtain ⟨Z2, hZ2⟩ : ∃ Z2, Z.drop (en - m) = Z2 := ⟨_, rfl⟩
        have HU4 : Hid (Up Y1 ∧ Up Y2 ∧ Up Z1 ∧ Up Z2) := by
          rw [← hY1, ← hY2, ← hZ1, ← hZ2]
          exact ⟨up_take HU.out.1 _, up_drop HU.out.1 _, up_take HU.out.2 _, up_drop HU.out.2 _⟩
        have HL4 : Hid (X.length = a ∧ a + Y1.length = lo ∧ lo + Y2.length = m ∧ m + Z1.length = en ∧ en + Z2.length = b) := by
          rw [← hY1, ← hY2, ← hZ1, ← hZ2, List.length_take, List.length_take, List.length_drop, List.length_drop]
          exact ⟨hl1, by omega, by omega, by omega, by omega⟩
        have HD4 : Hid (dk.toList = X ++ (Y1 ++ (Y2 ++ (Z1 ++ (Z2 ++ T))))) := by
          show _ = _
          rw [HD.out, ← hY1, ← hY2, ← hZ1, ← hZ2]
          conv => lhs; rw [← List.take_append_drop (lo - a) Y, ← List.take_append_drop (en - m) Z]
          simp only [List.append_assoc]
        rw [hY1, hY2, hZ1, hZ2] at HR
        have HEND : Hid (∀ d' : Array Fl, d'.toList = X ++ (isort (Y1 ++ Z1) ++ (isort (Y2 ++ Z2) ++ T)) → d'.toList = X ++ (isort (Y ++ Z) ++ T)) := fun d' h => by
          rw [h, ← HR.out]
          simp only [List.append_assoc]
        have c1 : Hid (¬ (lo < m ∧ m < en) → X ++ (Y1 ++ (Y2 ++ (Z1 ++ (Z2 ++ T)))) = X ++ (Y1 ++ (Z1 ++ (Y2 ++ (Z2 ++ T))))) := fun h => by
          obtain ⟨g0, g1, g2, g3, g4⟩ := HL4.out
          by_cases e : lo < m
          · obtain rfl := List.length_eq_zero_iff.1 (show Z1.length = 0 by omega)
            rfl
          · obtain rfl := List.length_eq_zero_iff.1 (show Y2.length = 0 by omega)
            rfl
        have c2 : Hid (¬ (a < lo ∧ lo < mid) → isort (Y1 ++ Z1) = Y1 ++ Z1) := fun h => by
          obtain ⟨g0, g1, g2, g3, g4⟩ := HL4.out
          by_cases e : a < lo
          · obtain rfl := List.length_eq_zero_iff.1 (show Z1.length = 0 by omega)
            rw [List.append_nil]
            exact isort_self HU4.out.1
          · obtain rfl := List.length_eq_zero_iff.1 (show Y1.length = 0 by omega)
            exact isort_self HU4.out.2.2.1
        have c3 : Hid (¬ (mid < en ∧ en < b) → isort (Y2 ++ Z2) = Y2 ++ Z2) := fun h => by
          obtain ⟨g0, g1, g2, g3, g4⟩ := HL4.out
          by_cases e : mid < en
          · obtain rfl := List.length_eq_zero_iff.1 (show Z2.length = 0 by omega)
            rw [List.append_nil]
            exact isort_self HU4.out.2.1
          · obtain rfl := List.length_eq_zero_iff.1 (show Y2.length = 0 by omega)
            exact isort_self HU4.out.2.2.2
        have K1 : Hid (lo < m → m < en → Calls Try.prog 65 #[.slice (some ⟨blk, off, none⟩) N cap, .int .i64 lo, .int .i64 m, .int .i64 en, .func (.func 31) #[] #[]] wr fun e W' => e = .returned (.tuple #[]) ∧ ∃ d', Hid (SWK eF 2 w0 blk off d' W') ∧ d'.size = N ∧ Hid (d'.toList = X ++ (Y1 ++ (Z1 ++ (Y2 ++ (Z2 ++ T)))))) := fun h1 h2 => by
          obtain ⟨g0, g1, g2, g3, g4⟩ := HL4.out
          refine (HROT.out dk wr (X ++ Y1) Y2 Z1 (Z2 ++ T) lo m en (by rw [List.length_append]; omega) g2 g3 (by omega) (by omega) S1.out hs (by rw [HD4.out]; simp only [List.append_assoc])).mono ?_
          rintro e W' ⟨rfl, d', q1, q2, q3⟩
          exact ⟨rfl, d', q1, q2, by show _ = _; rw [q3.out]; simp only [List.append_assoc]⟩
        have K2 : Hid (∀ (dq : Array Fl) (w1 : World), a < lo → lo < mid → SWK eF 2 w0 blk off dq w1 → dq.size = N → dq.toList = X ++ (Y1 ++ (Z1 ++ (Y2 ++ (Z2 ++ T)))) → Calls Try.prog 57 #[.slice (some ⟨blk, off, none⟩) N cap, .int .i64 a, .int .i64 lo, .int .i64 mid, .func (.func 31) #[] #[]] w1 fun e W' => e = .returned (.tuple #[]) ∧ ∃ d', Hid (SWK eF 2 w0 blk off d' W') ∧ d'.size = N ∧ Hid (d'.toList = X ++ (isort (Y1 ++ Z1) ++ (Y2 ++ (Z2 ++ T))))) := fun dq w1 h1 h2 h3 h4 h5 => by
          obtain ⟨g0, g1, g2, g3, g4⟩ := HL4.out
          exact HIH.out X Y1 Z1 (Y2 ++ (Z2 ++ T)) a lo mid dq w1 (by omega) g0 g1 (by omega) (by omega) (by omega) HU4.out.1 HU4.out.2.2.1 h3 h4 h5
        have K3 : Hid (∀ (dq : Array Fl) (w1 : World), mid < en → en < b → SWK eF 2 w0 blk off dq w1 → dq.size = N → dq.toList = X ++ (isort (Y1 ++ Z1) ++ (Y2 ++ (Z2 ++ T))) → Calls Try.prog 57 #[.slice (some ⟨blk, off, none⟩) N cap, .int .i64 mid, .int .i64 en, .int .i64 b, .func (.func 31) #[] #[]] w1 fun e W' => e = .returned (.tuple #[]) ∧ ∃ d', Hid (SWK eF 2 w0 blk off d' W') ∧ d'.size = N ∧ Hid (d'.toList = X ++ (isort (Y1 ++ Z1) ++ (isort (Y2 ++ Z2) ++ T)))) := fun dq w1 h1 h2 h3 h4 h5 => by
          obtain ⟨g0, g1, g2, g3, g4⟩ := HL4.out
          refine (HIH.out (X ++ isort (Y1 ++ Z1)) Y2 Z2 T mid en b dq w1 (by omega) (by rw [List.length_append, isort_length, List.length_append]; omega) (by omega) g4 (by omega) (by omega) HU4.out.2.1 HU4.out.2.2.2 h3 h4 (by rw [h5]; simp only [List.append_assoc])).mono ?_
          rintro e W' ⟨rfl, d', q1, q2, q3⟩
          exact ⟨rfl, d', q1, q2, by show _ = _; rw [q3.out]; simp only [List.append_assoc]⟩
        clear hY1 hY2 hZ1 hZ2 I1 I2 hl1 hl2 hl3 hen HIH HROT HY HZ
        obtain ⟨i1, i2, i3, i4, i5, i6, i7⟩ := hen1
        by_cases b1 : lo < m ∧ m < en
        · have b1a : (lo : Int) < (m : Int) := by omega
          have b1b : (m : Int) < (en : Int) := by omega
          have k1 := K1.out b1.1 b1.2
          have b3a : (mid : Int) < (en : Int) := by omega
          have b2b : (lo : Int) < (mid : Int) := by omega
          by_cases b2 : a < lo
          · have b2a : (a : Int) < (lo : Int) := by omega
            have k2 := fun dq w1 => K2.out dq w1 b2 (by omega)
            by_cases b3 : en < b
            · have b3b : (en : Int) < (b : Int) := by omega
              have k3 := fun dq w1 => K3.out dq w1 (by omega) b3
              clear c1 c2 c3
              go_wp2_with fail
              go_at_call 65
              refine k1.mono ?_
              rintro e w1 ⟨rfl, d1, S2, hd1, HT1⟩
              go_wp2_with fail
              go_at_call 57
              refine (k2 d1 w1 S2.out hd1 HT1.out).mono ?_
              rintro e w2 ⟨rfl, d2, S3, hd2, HT2⟩
              go_wp2_with fail
              go_at_call 57
              refine (k3 d2 w2 S3.out hd2 HT2.out).mono ?_
              rintro e w3 ⟨rfl, d3, S4, hd3, HT3⟩
              go_wp2
              all_goals (go_end0; exact ⟨rfl, d3, S4, hd3, HEND.out d3 HT3.out⟩)
            · have b3b : ¬ (en : Int) < (b : Int) := by omega
              have r3 := c3.out (fun h => b3 h.2)
              clear c1 c2 c3 K3
              go_wp2_with fail
              go_at_call 65
              refine k1.mono ?_
              rintro e w1 ⟨rfl, d1, S2, hd1, HT1⟩
              go_wp2_with fail
              go_at_call 57
              refine (k2 d1 w1 S2.out hd1 HT1.out).mono ?_
              rintro e w2 ⟨rfl, d2, S3, hd2, HT2⟩
              go_wp2
              all_goals (go_end0; exact ⟨rfl, d2, S3, hd2, HEND.out d2 (by rw [HT2.out, r3]; simp only [List.append_assoc])⟩)
          · have b2a : ¬ (a : Int) < (lo : Int) := by omega
            have r2 := c2.out (fun h => b2 h.1)
            by_cases b3 : en < b
            · have b3b : (en : Int) < (b : Int) := by omega
              have k3 := fun dq w1 => K3.out dq w1 (by omega) b3
              have HR2 : Hid (isort (Y1 ++ Z1) = Y1 ++ Z1) := r2
              clear c1 c2 c3 K2 r2
              go_wp2_with fail
              go_at_call 65
              refine k1.mono ?_
              rintro e w1 ⟨rfl, d1, S2, hd1, HT1⟩
              go_wp2_with fail
              go_at_call 57
              refine (k3 d1 w1 S2.out hd1 (by rw [HT1.out, HR2.out]; simp only [List.append_assoc])).mono ?_
              rintro e w3 ⟨rfl, d3, S4, hd3, HT3⟩
              go_wp2
              all_goals (go_end0; exact ⟨rfl, d3, S4, hd3, HEND.out d3 HT3.out⟩)
            · have b3b : ¬ (en : Int) < (b : Int) := by omega
              have HR2 : Hid (isort (Y1 ++ Z1) = Y1 ++ Z1) := r2
              have HR3 : Hid (isort (Y2 ++ Z2) = Y2 ++ Z2) := c3.out (fun h => b3 h.2)
              clear c1 c2 c3 K2 K3 r2
              go_wp2_with fail
              go_at_call 65
              refine k1.mono ?_
              rintro e w1 ⟨rfl, d1, S2, hd1, HT1⟩
              go_wp2
              all_goals (go_end0; exact ⟨rfl, d1, S2, hd1, HEND.out d1 (by rw [HT1.out, HR2.out, HR3.out]; simp only [List.append_assoc])⟩)
        · have HT1 : Hid (dk.toList = X ++ (Y1 ++ (Z1 ++ (Y2 ++ (Z2 ++ T))))) := HD4.out.trans (c1.out b1)
          by_cases b1z : lo < m
          · have b1a : (lo : Int) < (m : Int) := by omega
            have b1b : ¬ (m : Int) < (en : Int) := by omega
            have b2b : ¬ (lo : Int) < (mid : Int) := by omega
            have HR2 : Hid (isort (Y1 ++ Z1) = Y1 ++ Z1) := c2.out (fun h => by omega)
            have b3a : (mid : Int) < (en : Int) := by omega
            have b3b : (en : Int) < (b : Int) := by omega
            have k3 := K3.out dk wr (by omega) (by omega) S1.out hs (by rw [HT1.out, HR2.out]; simp only [List.append_assoc])
            clear c1 c2 c3 K1 K2 K3
            by_cases b2 : a < lo
            · have b2a : (a : Int) < (lo : Int) := by omega
              go_wp2_with fail
              go_at_call 57
              refine k3.mono ?_
              rintro e w3 ⟨rfl, d3, S4, hd3, HT3⟩
              go_wp2
              all_goals (go_end0; exact ⟨rfl, d3, S4, hd3, HEND.out d3 HT3.out⟩)
            · have b2a : ¬ (a : Int) < (lo : Int) := by omega
              go_wp2_with fail
              go_at_call 57
              refine k3.mono ?_
              rintro e w3 ⟨rfl, d3, S4, hd3, HT3⟩
              go_wp2
              all_goals (go_end0; exact ⟨rfl, d3, S4, hd3, HEND.out d3 HT3.out⟩)
          · have b1a : ¬ (lo : Int) < (m : Int) := by omega
            have b3a : ¬ (mid : Int) < (en : Int) := by omega
            have HR3 : Hid (isort (Y2 ++ Z2) = Y2 ++ Z2) := c3.out (fun h => by omega)
            have b2a : (a : Int) < (lo : Int) := by omega
            by_cases b2 : lo < mid
            · have b2b : (lo : Int) < (mid : Int) := by omega
              have k2 := K2.out dk wr (by omega) b2 S1.out hs HT1.out
              clear c1 c2 c3 K1 K2 K3
              go_wp2_with fail
              go_at_call 57
              refine k2.mono ?_
              rintro e w3 ⟨rfl, d3, S4, hd3, HT3⟩
              go_wp2
              all_goals (go_end0; exact ⟨rfl, d3, S4, hd3, HEND.out d3 (by rw [HT3.out, HR3.out]; simp only [List.append_assoc])⟩)
            · have b2b : ¬ (lo : Int) < (mid : Int) := by omega
              have HR2 : Hid (isort (Y1 ++ Z1) = Y1 ++ Z1) := c2.out (fun h => by omega)
              clear c1 c2 c3 K1 K2 K3
              go_wp2
              all_goals (go_end0; exact ⟨rfl, dk, S1, hs, HEND.out dk (by rw [HT1.out, HR2.out, HR3.out]; simp only [List.append_assoc])⟩)
  · have hkey : (a) ≤ m ∧ m ≤ mid ∧ m ≤ m ∧ a ≤ a ∧ mid + m ≤ b + a ∧ (a = a ∨ a + b = mid + m) ∧ (m = m ∨ m = mid) := by omega
    have hmmz : ¬ (mid : Int) < (m : Int) := by omega
    have hmnb : (mid : Int) + (m : Int) - (b : Int) = ((mid + m - b : Nat) : Int) ∨ mid + m < b := by omega
    go_enter Try.func57, Try.ntmps57
    go_wp2
    (try rw [hmid1])
    go_loopg [20, 21] N (fun g s14 s15 wr => ∃ lo hi : Nat, s14 = .int .i64 lo ∧ s15 = .int .i64 hi ∧ a ≤ lo ∧ lo ≤ hi ∧ hi ≤ m ∧ hi - lo ≤ g ∧ Hid (SWK eF 2 w0 blk off dk wr) ∧ Hid (lo = a ∨ lt dk[mid + m - lo]!.1 dk[lo - 1]!.1 = false) ∧ Hid (hi = m ∨ lt dk[mid + m - 1 - hi]!.1 dk[hi]!.1 = true))
    case atStart => exact ⟨a, m, by first | rfl | (congr 1; omega), by first | rfl | (congr 1; omega), Nat.le_refl _, by omega, Nat.le_refl _, by omega, HS, .inl rfl, .inl rfl⟩
    case round =>
      obtain ⟨lo, hi, rfl, rfl, hal, hlh, hin, hg, S1, I1, I2⟩ := hrel
      by_cases hlt : lo < hi
      · have hltz : (lo : Int) < (hi : Int) := by omega
        obtain ⟨c, hm1, hm2, hme⟩ : ∃ c : Nat, lo ≤ c ∧ c < hi ∧ Hid (((lo : Int) + (hi : Int)) / 2 = (c : Int)) := ⟨(lo + hi) / 2, by omega, by omega, by show _ = _; omega⟩
        obtain ⟨x, hx⟩ : ∃ x, dk[c]! = x := ⟨_, rfl⟩
        obtain ⟨y, hy⟩ : ∃ y, dk[mid + m - 1 - c]! = y := ⟨_, rfl⟩
        obtain ⟨p, hp⟩ : ∃ p : Nat, mid + m - 1 - c = p := ⟨_, rfl⟩
        have hpz : (mid : Int) + (m : Int) - 1 - (c : Int) = (p : Int) := by omega
        have hpN : p < N := by omega
        have hpw : IntKind.i64.wrap (p : Int) = (p : Int) := by rw [IntKind.wrap_i64]; omega
        rw [hp] at hy
        have fx : ∀ n os, (grow (wr.drewN n) os).cell? ⟨blk, off + p * 2, none⟩ = some (.string y.1) := fun n os => (SWK.two R (S1.out.grown n os) (by omega) (by omega) hy).1
        have fx2 : ∀ n os, (grow (wr.drewN n) os).cell? ⟨blk, off + p * 2 + 1, none⟩ = some (.string y.2) := fun n os => (SWK.two R (S1.out.grown n os) (by omega) (by omega) hy).2.1
        have fy : ∀ n os, (grow (wr.drewN n) os).cell? ⟨blk, off + c * 2, none⟩ = some (.string x.1) := fun n os => (SWK.two R (S1.out.grown n os) (by omega) (by omega) hx).1
        have fy2 : ∀ n os, (grow (wr.drewN n) os).cell? ⟨blk, off + c * 2 + 1, none⟩ = some (.string x.2) := fun n os => (SWK.two R (S1.out.grown n os) (by omega) (by omega) hx).2.1
        have hbc : (c : Int) < (N : Int) := by omega
        have hbm : (p : Int) < (N : Int) := by omega
        have HXc : Hid (dk[c]! = x) := hx
        have HYc : Hid (dk[p]! = y) := hy
        have HP : Hid (mid + m - 1 - c = p) := hp
        clear hx hy hp
        cases hc : ltOf cmpF y x with
        | true =>
          have hneg : cmpF y x < 0 := of_decide_eq_true hc
          go_wp2_with fail
          rw [hme.out]
          (try rw [hpz])
          go_quiet_grown (first | (go_at_fn 31; refine Calls.grown_of (order_in _ _ _)) | (go_at_call 31; refine Calls.grown_of (order_in _ _ _)))
          have S2 : Hid (SWK eF 2 w0 blk off dk (grow (wr.drewN nq) osq)) := S1.out.grown nq osq
          generalize grow (wr.drewN nq) osq = w2 at S2 ⊢
          clear fx fx2 fy fy2
          go_wp2
          go_roundg (c - lo)
          case measure => omega
          case rel =>
            refine ⟨lo, c, rfl, rfl, hal, hm1, by omega, Nat.le_refl _, S2, I1, .inr ?_⟩
            rw [cmp_lt] at hc
            rw [HP.out, HYc.out, HXc.out]
            exact hc
        | false =>
          have hneg : decide (cmpF y x < 0) = false := hc
          go_wp2_with fail
          rw [hme.out]
          (try rw [hpz])
          go_quiet_grown (first | (go_at_fn 31; refine Calls.grown_of (order_in _ _ _)) | (go_at_call 31; refine Calls.grown_of (order_in _ _ _)))
          have S2 : Hid (SWK eF 2 w0 blk off dk (grow (wr.drewN nq) osq)) := S1.out.grown nq osq
          generalize grow (wr.drewN nq) osq = w2 at S2 ⊢
          clear fx fx2 fy fy2
          go_wp2
          go_roundg (hi - (c + 1))
          case measure => omega
          case rel =>
            refine ⟨c + 1, hi, by go_num, rfl, by omega, by omega, hin, Nat.le_refl _, S2, .inr ?_, I2⟩
            rw [cmp_lt] at hc
            rw [show mid + m - (c + 1) = p by have := HP.out; omega, Nat.add_sub_cancel, HYc.out, HXc.out]
            exact hc
      · obtain rfl : lo = hi := by omega
        have hltz : ¬ (lo : Int) < (lo : Int) := by omega
        obtain ⟨hl1, hl2, hl3⟩ := HL.out
        obtain ⟨en, hen⟩ : ∃ en : Nat, en = mid + m - lo := ⟨_, rfl⟩
        have henz : (mid : Int) + (m : Int) - (lo : Int) = (en : Int) := by omega
        have hen1 : m ≤ en ∧ en ≤ b ∧ mid ≤ en ∧ lo ≤ mid ∧ lo ≤ m ∧ a ≤ lo ∧ en + lo = mid + m := by omega
        have HR : Hid (isort (Y.take (lo - a) ++ Z.take (en - m)) ++ isort (Y.drop (lo - a) ++ Z.drop (en - m)) = isort (Y ++ Z)) := by
          refine sym_split HU.out.1 HU.out.2 (by omega) (by omega) ?_ ?_
          · by_cases e1 : lo = a
            · exact .inl (by omega)
            by_cases e2 : en = b
            · exact .inr (.inl (by omega))
            rcases I1.out with h | h
            · exfalso; omega
            · refine .inr (.inr ?_)
              rw [← HY.out (lo - a - 1) (by omega), ← HZ.out (en - m) (by omega), show a + (lo - a - 1) = lo - 1 by omega, show m + (en - m) = mid + m - lo by omega]
              exact h
          · by_cases e1 : lo = m
            · exact .inl (by omega)
            by_cases e2 : en = m
            · exact .inr (.inl (by omega))
            rcases I2.out with h | h
            · exfalso; omega
            · refine .inr (.inr ?_)
              rw [← HY.out (lo - a) (by omega), ← HZ.out (en - m - 1) (by omega), show a + (lo - a) = lo by omega, show m + (en - m - 1) = mid + m - 1 - lo by omega]
              exact h
        obtain ⟨Y1, hY1⟩ : ∃ Y1, Y.take (lo - a) = Y1 := ⟨_, rfl⟩
        obtain ⟨Y2, hY2⟩ : ∃ Y2, Y.drop (lo - a) = Y2 := ⟨_, rfl⟩
        obtain ⟨Z1, hZ1⟩ : ∃ Z1, Z.take (en - m) = Z1 := ⟨_, rfl⟩
        obtain ⟨Z2, hZ2⟩ : ∃ Z2, Z.drop (en - m) = Z2 := ⟨_, rfl⟩
        have HU4 : Hid (Up Y1 ∧ Up Y2 ∧ Up Z1 ∧ Up Z2) := by
          rw [← hY1, ← hY2, ← hZ1, ← hZ2]
          exact ⟨up_take HU.out.1 _, up_drop HU.out.1 _, up_take HU.out.2 _, up_drop HU.out.2 _⟩
        have HL4 : Hid (X.length = a ∧ a + Y1.length = lo ∧ lo + Y2.length = m ∧ m + Z1.length = en ∧ en + Z2.length = b) := by
          rw [← hY1, ← hY2, ← hZ1, ← hZ2, List.length_take, List.length_take, List.length_drop, List.length_drop]
          exact ⟨hl1, by omega, by omega, by omega, by omega⟩
        have HD4 : Hid (dk.toList = X ++ (Y1 ++ (Y2 ++ (Z1 ++ (Z2 ++ T))))) := by
          show _ = _
          rw [HD.out, ← hY1, ← hY2, ← hZ1, ← hZ2]
          conv => lhs; rw [← List.take_append_drop (lo - a) Y, ← List.take_append_drop (en - m) Z]
          simp only [List.append_assoc]
        rw [hY1, hY2, hZ1, hZ2] at HR
        have HEND : Hid (∀ d' : Array Fl, d'.toList = X ++ (isort (Y1 ++ Z1) ++ (isort (Y2 ++ Z2) ++ T)) → d'.toList = X ++ (isort (Y ++ Z) ++ T)) := fun d' h => by
          rw [h, ← HR.out]
          simp only [List.append_assoc]
        have c1 : Hid (¬ (lo < m ∧ m < en) → X ++ (Y1 ++ (Y2 ++ (Z1 ++ (Z2 ++ T)))) = X ++ (Y1 ++ (Z1 ++ (Y2 ++ (Z2 ++ T))))) := fun h => by
          obtain ⟨g0, g1, g2, g3, g4⟩ := HL4.out
          by_cases e : lo < m
          · obtain rfl := List.length_eq_zero_iff.1 (show Z1.length = 0 by omega)
            rfl
          · obtain rfl := List.length_eq_zero_iff.1 (show Y2.length = 0 by omega)
            rfl
        have c2 : Hid (¬ (a < lo ∧ lo < mid) → isort (Y1 ++ Z1) = Y1 ++ Z1) := fun h => by
          obtain ⟨g0, g1, g2, g3, g4⟩ := HL4.out
          by_cases e : a < lo
          · obtain rfl := List.length_eq_zero_iff.1 (show Z1.length = 0 by omega)
            rw [List.append_nil]
            exact isort_self HU4.out.1
          · obtain rfl := List.length_eq_zero_iff.1 (show Y1.length = 0 by omega)
            exact isort_self HU4.out.2.2.1
        have c3 : Hid (¬ (mid < en ∧ en < b) → isort (Y2 ++ Z2) = Y2 ++ Z2) := fun h => by
          obtain ⟨g0, g1, g2, g3, g4⟩ := HL4.out
          by_cases e : mid < en
          · obtain rfl := List.length_eq_zero_iff.1 (show Z2.length = 0 by omega)
            rw [List.append_nil]
            exact isort_self HU4.out.2.1
          · obtain rfl := List.length_eq_zero_iff.1 (show Y2.length = 0 by omega)
            exact isort_self HU4.out.2.2.2
        have K1 : Hid (lo < m → m < en → Calls Try.prog 65 #[.slice (some ⟨blk, off, none⟩) N cap, .int .i64 lo, .int .i64 m, .int .i64 en, .func (.func 31) #[] #[]] wr fun e W' => e = .returned (.tuple #[]) ∧ ∃ d', Hid (SWK eF 2 w0 blk off d' W') ∧ d'.size = N ∧ Hid (d'.toList = X ++ (Y1 ++ (Z1 ++ (Y2 ++ (Z2 ++ T)))))) := fun h1 h2 => by
          obtain ⟨g0, g1, g2, g3, g4⟩ := HL4.out
          refine (HROT.out dk wr (X ++ Y1) Y2 Z1 (Z2 ++ T) lo m en (by rw [List.length_append]; omega) g2 g3 (by omega) (by omega) S1.out hs (by rw [HD4.out]; simp only [List.append_assoc])).mono ?_
          rintro e W' ⟨rfl, d', q1, q2, q3⟩
          exact ⟨rfl, d', q1, q2, by show _ = _; rw [q3.out]; simp only [List.append_assoc]⟩
        have K2 : Hid (∀ (dq : Array Fl) (w1 : World), a < lo → lo < mid → SWK eF 2 w0 blk off dq w1 → dq.size = N → dq.toList = X ++ (Y1 ++ (Z1 ++ (Y2 ++ (Z2 ++ T)))) → Calls Try.prog 57 #[.slice (some ⟨blk, off, none⟩) N cap, .int .i64 a, .int .i64 lo, .int .i64 mid, .func (.func 31) #[] #[]] w1 fun e W' => e = .returned (.tuple #[]) ∧ ∃ d', Hid (SWK eF 2 w0 blk off d' W') ∧ d'.size = N ∧ Hid (d'.toList = X ++ (isort (Y1 ++ Z1) ++ (Y2 ++ (Z2 ++ T))))) := fun dq w1 h1 h2 h3 h4 h5 => by
          obtain ⟨g0, g1, g2, g3, g4⟩ := HL4.out
          exact HIH.out X Y1 Z1 (Y2 ++ (Z2 ++ T)) a lo mid dq w1 (by omega) g0 g1 (by omega) (by omega) (by omega) HU4.out.1 HU4.out.2.2.1 h3 h4 h5
        have K3 : Hid (∀ (dq : Array Fl) (w1 : World), mid < en → en < b → SWK eF 2 w0 blk off dq w1 → dq.size = N → dq.toList = X ++ (isort (Y1 ++ Z1) ++ (Y2 ++ (Z2 ++ T))) → Calls Try.prog 57 #[.slice (some ⟨blk, off, none⟩) N cap, .int .i64 mid, .int .i64 en, .int .i64 b, .func (.func 31) #[] #[]] w1 fun e W' => e = .returned (.tuple #[]) ∧ ∃ d', Hid (SWK eF 2 w0 blk off d' W') ∧ d'.size = N ∧ Hid (d'.toList = X ++ (isort (Y1 ++ Z1) ++ (isort (Y2 ++ Z2) ++ T)))) := fun dq w1 h1 h2 h3 h4 h5 => by
          obtain ⟨g0, g1, g2, g3, g4⟩ := HL4.out
          refine (HIH.out (X ++ isort (Y1 ++ Z1)) Y2 Z2 T mid en b dq w1 (by omega) (by rw [List.length_append, isort_length, List.length_append]; omega) (by omega) g4 (by omega) (by omega) HU4.out.2.1 HU4.out.2.2.2 h3 h4 (by rw [h5]; simp only [List.append_assoc])).mono ?_
          rintro e W' ⟨rfl, d', q1, q2, q3⟩
          exact ⟨rfl, d', q1, q2, by show _ = _; rw [q3.out]; simp only [List.append_assoc]⟩
        clear hY1 hY2 hZ1 hZ2 I1 I2 hl1 hl2 hl3 hen HIH HROT HY HZ
        obtain ⟨i1, i2, i3, i4, i5, i6, i7⟩ := hen1
        by_cases b1 : lo < m ∧ m < en
        · have b1a : (lo : Int) < (m : Int) := by omega
          have b1b : (m : Int) < (en : Int) := by omega
          have k1 := K1.out b1.1 b1.2
          have b3a : (mid : Int) < (en : Int) := by omega
          have b2b : (lo : Int) < (mid : Int) := by omega
          by_cases b2 : a < lo
          · have b2a : (a : Int) < (lo : Int) := by omega
            have k2 := fun dq w1 => K2.out dq w1 b2 (by omega)
            by_cases b3 : en < b
            · have b3b : (en : Int) < (b : Int) := by omega
              have k3 := fun dq w1 => K3.out dq w1 (by omega) b3
              clear c1 c2 c3
              go_wp2_with fail
              go_at_call 65
              refine k1.mono ?_
              rintro e w1 ⟨rfl, d1, S2, hd1, HT1⟩
              go_wp2_with fail
              go_at_call 57
              refine (k2 d1 w1 S2.out hd1 HT1.out).mono ?_
              rintro e w2 ⟨rfl, d2, S3, hd2, HT2⟩
              go_wp2_with fail
              go_at_call 57
              refine (k3 d2 w2 S3.out hd2 HT2.out).mono ?_
              rintro e w3 ⟨rfl, d3, S4, hd3, HT3⟩
              go_wp2
              all_goals (go_end0; exact ⟨rfl, d3, S4, hd3, HEND.out d3 HT3.out⟩)
            · have b3b : ¬ (en : Int) < (b : Int) := by omega
              have r3 := c3.out (fun h => b3 h.2)
              clear c1 c2 c3 K3
              go_wp2_with fail
              go_at_call 65
              refine k1.mono ?_
              rintro e w1 ⟨rfl, d1, S2, hd1, HT1⟩
              go_wp2_with fail
              go_at_call 57
              refine (k2 d1 w1 S2.out hd1 HT1.out).mono ?_
              rintro e w2 ⟨rfl, d2, S3, hd2, HT2⟩
              go_wp2
              all_goals (go_end0; exact ⟨rfl, d2, S3, hd2, HEND.out d2 (by rw [HT2.out, r3]; simp only [List.append_assoc])⟩)
          · have b2a : ¬ (a : Int) < (lo : Int) := by omega
            have r2 := c2.out (fun h => b2 h.1)
            by_cases b3 : en < b
            · have b3b : (en : Int) < (b : Int) := by omega
              have k3 := fun dq w1 => K3.out dq w1 (by omega) b3
              have HR2 : Hid (isort (Y1 ++ Z1) = Y1 ++ Z1) := r2
              clear c1 c2 c3 K2 r2
              go_wp2_with fail
              go_at_call 65
              refine k1.mono ?_
              rintro e w1 ⟨rfl, d1, S2, hd1, HT1⟩
              go_wp2_with fail
              go_at_call 57
              refine (k3 d1 w1 S2.out hd1 (by rw [HT1.out, HR2.out]; simp only [List.append_assoc])).mono ?_
              rintro e w3 ⟨rfl, d3, S4, hd3, HT3⟩
              go_wp2
              all_goals (go_end0; exact ⟨rfl, d3, S4, hd3, HEND.out d3 HT3.out⟩)
            · have b3b : ¬ (en : Int) < (b : Int) := by omega
              have HR2 : Hid (isort (Y1 ++ Z1) = Y1 ++ Z1) := r2
              have HR3 : Hid (isort (Y2 ++ Z2) = Y2 ++ Z2) := c3.out (fun h => b3 h.2)
              clear c1 c2 c3 K2 K3 r2
              go_wp2_with fail
              go_at_call 65
              refine k1.mono ?_
              rintro e w1 ⟨rfl, d1, S2, hd1, HT1⟩
              go_wp2
              all_goals (go_end0; exact ⟨rfl, d1, S2, hd1, HEND.out d1 (by rw [HT1.out, HR2.out, HR3.out]; simp only [List.append_assoc])⟩)
        · have HT1 : Hid (dk.toList = X ++ (Y1 ++ (Z1 ++ (Y2 ++ (Z2 ++ T))))) := HD4.out.trans (c1.out b1)
          by_cases b1z : lo < m
          · have b1a : (lo : Int) < (m : Int) := by omega
            have b1b : ¬ (m : Int) < (en : Int) := by omega
            have b2b : ¬ (lo : Int) < (mid : Int) := by omega
            have HR2 : Hid (isort (Y1 ++ Z1) = Y1 ++ Z1) := c2.out (fun h => by omega)
            have b3a : (mid : Int) < (en : Int) := by omega
            have b3b : (en : Int) < (b : Int) := by omega
            have k3 := K3.out dk wr (by omega) (by omega) S1.out hs (by rw [HT1.out, HR2.out]; simp only [List.append_assoc])
            clear c1 c2 c3 K1 K2 K3
            by_cases b2 : a < lo
            · have b2a : (a : Int) < (lo : Int) := by omega
              go_wp2_with fail
              go_at_call 57
              refine k3.mono ?_
              rintro e w3 ⟨rfl, d3, S4, hd3, HT3⟩
              go_wp2
              all_goals (go_end0; exact ⟨rfl, d3, S4, hd3, HEND.out d3 HT3.out⟩)
            · have b2a : ¬ (a : Int) < (lo : Int) := by omega
              go_wp2_with fail
              go_at_call 57
              refine k3.mono ?_
              rintro e w3 ⟨rfl, d3, S4, hd3, HT3⟩
              go_wp2
              all_goals (go_end0; exact ⟨rfl, d3, S4, hd3, HEND.out d3 HT3.out⟩)
          · have b1a : ¬ (lo : Int) < (m : Int) := by omega
            have b3a : ¬ (mid : Int) < (en : Int) := by omega
            have HR3 : Hid (isort (Y2 ++ Z2) = Y2 ++ Z2) := c3.out (fun h => by omega)
            have b2a : (a : Int) < (lo : Int) := by omega
            by_cases b2 : lo < mid
            · have b2b : (lo : Int) < (mid : Int) := by omega
              have k2 := K2.out dk wr (by omega) b2 S1.out hs HT1.out
              clear c1 c2 c3 K1 K2 K3
              go_wp2_with fail
              go_at_call 57
              refine k2.mono ?_
              rintro e w3 ⟨rfl, d3, S4, hd3, HT3⟩
              go_wp2
              all_goals (go_end0; exact ⟨rfl, d3, S4, hd3, HEND.out d3 (by rw [HT3.out, HR3.out]; simp only [List.append_assoc])⟩)
            · have b2b : ¬ (lo : Int) < (mid : Int) := by omega
              have HR2 : Hid (isort (Y1 ++ Z1) = Y1 ++ Z1) := c2.out (fun h => by omega)
              clear c1 c2 c3 K1 K2 K3
              go_wp2
              all_goals (go_end0; exact ⟨rfl, dk, S1, hs, HEND.out dk (by rw [HT1.out, HR2.out, HR3.out]; simp only [List.append_assoc])⟩)

end Go.Proofs.Ytndblaemladppaa
