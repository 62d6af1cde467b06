/-
  slices.symMergeCmpFunc at files, where one file is merged into twenty: it comes to its place behind all that are not greater.
-/
import Derived.Test.YtikhfojbekpoeaaDoorRStable
import Derived.Test.YtikhfojbekpoeaaDoorShelf
import Derived.Test.YtikhfojbekpoeaaDoorFSl
import Derived.Shelf.RegionOpenPlain
import Derived.Deep.LoopGhost
namespace Go.Proofs.YtikhfojbekpoeaaDoor
open Go.RowKit Go.Shelf Go.SeqLib Go.DiffLib Go.TreeLib Go.Sort

theorem SWK.two {w0 W : World} {blk off : Nat} {d dk : Array Fl} (R : RowK eF 2 w0 blk off d) (h : SWK eF 2 w0 blk off dk W) (hs : dk.size = d.size) {i : Nat} (hi : i < dk.size) {y : Fl} (hy : dk[i]! = y) :
    W.cell? ⟨blk, off + i * 2, none⟩ = some (.string y.1) ∧ W.cell? ⟨blk, off + i * 2 + 1, none⟩ = some (.string y.2) ∧ W.frozen? ⟨blk, off + i * 2, none⟩ = false ∧ W.frozen? ⟨blk, off + i * 2 + 1, none⟩ = false := by
  subst hy
  have hH := h.holds R.hblk R.hH hs
  have e0 := HoldsK.cell hH hi (c := 0) (by decide)
  have e1 := HoldsK.cell hH hi (c := 1) (by decide)
  exact ⟨e0.1, e1.1, e0.2, e1.2⟩

theorem eF_one (x : Fl) : ∀ v ∈ eF x, v.oneCell' = true := by
  intro v hv
  simp [eF] at hv
  rcases hv with rfl | rfl <;> rfl

set_option maxHeartbeats 1000000 in
/-- Put's order, as a function value: two files are boxed, their paths compared. -/
theorem order_in (x y : Fl) (W : World) : Calls Tryd.prog 34 #[.agg #[.string x.1, .string x.2], .agg #[.string y.1, .string y.2]] W fun e w' => e = .returned (.int .i64 (cmpF x y)) ∧ ∃ q os', w' = grow (W.drewN q) os' := by
  have hcon := fun W' => Any.strings_Compare Tryd.laysCompare x.1 y.1 W'
  change ∀ W', Calls Tryd.prog 35 _ _ _ at hcon
  unfold cmpF
  generalize Lib.compareBytes x.1.data.toList y.1.data.toList = r at hcon ⊢
  go_enter Tryd.func34, Tryd.ntmps34
  go_wp2_with (go_at_call 35; refine (hcon _).mono ?_; rintro e w' ⟨rfl, rfl⟩)
  go_ret
  exact ⟨rfl, 0, _, by rw [alloc_eq_grow, alloc_eq_grow, grow_grow]; rfl⟩

theorem order_lays (blk off size : Nat) (w : World) : CmpLays Tryd.prog 34 #[] eF 2 cmpF blk off size w := fun _ _ _ _ x y => order_in x y _

set_option maxHeartbeats 4000000 in
set_option maxRecDepth 1000000 in
theorem sym_in (blk off cap : Nat) (d : Array Fl) (w0 W : World) (R : RowK eF 2 w0 blk off d) (h : SWK eF 2 w0 blk off d W) (hs : d.size = 21) (A : List Fl) (x : Fl) (hd : d.toList = A ++ [x]) (hA : A.length = 20) (hup : Up A) :
    Calls Tryd.prog 60 #[.slice (some ⟨blk, off, none⟩) 21 cap, .int .i64 0, .int .i64 20, .int .i64 21, .func (.func 34) #[] #[]] W fun e W' =>
      e = .returned (.tuple #[]) ∧ ∃ d', SWK eF 2 w0 blk off d' W' ∧ d'.size = 21 ∧ d'.toList = ins x A := by
  have mixed : Tryd.prog.follows .mixedOrders = true := by kernel_rfl
  have eg : ∀ args w, (callFunc 34 args).run Tryd.prog w = .ok (.enter 34 args) w := enters_of Tryd.func34 (by kernel_rfl) rfl
  have hget : ∀ i, i < 20 → d[i]! = A.getD i default := fun i hi => by
    have h1 := bang d (i := i) (by omega)
    rw [hd, List.getElem?_append_left (by omega)] at h1
    rw [List.getD_eq_getElem?_getD, h1]
    rfl
  have hgx : d[20]! = x := by
    have h1 := bang d (i := 20) (by omega)
    rw [hd, List.getElem?_append_right (by omega), hA] at h1
    exact (Option.some.inj h1).symm
  have HS : Hid (∀ i j, i < j → j < 20 → lt d[j]!.1 d[i]!.1 = false) := fun i j hij hj => by
    unfold Up at hup
    rw [List.pairwise_iff_getElem] at hup
    have := hup i j (by omega) (by omega) hij
    rw [hget i (by omega), hget j hj, List.getD_eq_getElem?_getD, List.getD_eq_getElem?_getD, List.getElem?_eq_getElem (by omega), List.getElem?_eq_getElem (by omega)]
    exact this
  go_enter Tryd.func60, Tryd.ntmps60
  go_wp2
  go_loopg [14, 15] 20 (fun g s14 s15 wr => ∃ lo hi : Nat, s14 = .int .i64 lo ∧ s15 = .int .i64 hi ∧ lo ≤ hi ∧ hi ≤ 20 ∧ hi - lo ≤ g ∧ Hid (SWK eF 2 w0 blk off d wr) ∧ Hid (∀ t, t < lo → lt x.1 d[t]!.1 = false) ∧ Hid (∀ t, hi ≤ t → t < 20 → lt x.1 d[t]!.1 = true))
  case atStart => exact ⟨0, 20, rfl, rfl, by omega, by omega, by omega, h, fun t ht => by omega, fun t h1 h2 => by omega⟩
  case round =>
    obtain ⟨lo, hi, rfl, rfl, hlh, hin, hg, S1, I1, I2⟩ := hrel
    by_cases hlt : lo < hi
    · have hltz : (lo : Int) < (hi : Int) := by omega
      obtain ⟨m, hm1, hm2, hme⟩ : ∃ m : Nat, lo ≤ m ∧ m < hi ∧ Hid (((lo : Int) + (hi : Int)) / 2 = (m : Int)) := ⟨(lo + hi) / 2, by omega, by omega, by show _ = _; omega⟩
      obtain ⟨y, hy⟩ : ∃ y, d[m]! = y := ⟨_, rfl⟩
      have fx : ∀ n os, (grow (wr.drewN n) os).cell? ⟨blk, off + 40, none⟩ = some (.string x.1) := fun n os => (SWK.two R (S1.out.grown n os) rfl (i := 20) (by omega) hgx).1
      have fx2 : ∀ n os, (grow (wr.drewN n) os).cell? ⟨blk, off + 40 + 1, none⟩ = some (.string x.2) := fun n os => (SWK.two R (S1.out.grown n os) rfl (i := 20) (by omega) hgx).2.1
      have fy : ∀ n os, (grow (wr.drewN n) os).cell? ⟨blk, off + m * 2, none⟩ = some (.string y.1) := fun n os => (SWK.two R (S1.out.grown n os) rfl (by omega) hy).1
      have fy2 : ∀ n os, (grow (wr.drewN n) os).cell? ⟨blk, off + m * 2 + 1, none⟩ = some (.string y.2) := fun n os => (SWK.two R (S1.out.grown n os) rfl (by omega) hy).2.1
      have hbm : (m : Int) < 21 := by omega
      have HY : Hid (d[m]! = y) := hy
      clear hy
      cases hc : ltOf cmpF x y with
      | true =>
        have hneg : cmpF x y < 0 := of_decide_eq_true hc
        go_wp2_with fail
        rw [hme.out]
        go_quiet_grown (first | (go_at_fn 34; refine Calls.grown_of (order_in _ _ _)) | (go_at_call 34; refine Calls.grown_of (order_in _ _ _)))
        have S2 : Hid (SWK eF 2 w0 blk off d (grow (wr.drewN nq) osq)) := S1.out.grown nq osq
        generalize grow (wr.drewN nq) osq = w2 at S2 ⊢
        clear fx fx2 fy fy2
        go_wp2
        go_roundg (m - lo)
        case measure => omega
        case rel =>
          refine ⟨lo, m, rfl, rfl, hm1, by omega, Nat.le_refl _, S2, I1, fun t h1 h2 => ?_⟩
          rw [cmp_lt] at hc
          by_cases e : m = t
          · subst e; rw [HY.out]; exact hc
          · have := HS.out m t (by omega) h2
            rw [HY.out] at this
            exact lt_le hc this
      | false =>
        have hneg : decide (cmpF x y < 0) = false := hc
        go_wp2_with fail
        rw [hme.out]
        go_quiet_grown (first | (go_at_fn 34; refine Calls.grown_of (order_in _ _ _)) | (go_at_call 34; refine Calls.grown_of (order_in _ _ _)))
        have S2 : Hid (SWK eF 2 w0 blk off d (grow (wr.drewN nq) osq)) := S1.out.grown nq osq
        generalize grow (wr.drewN nq) osq = w2 at S2 ⊢
        clear fx fx2 fy fy2
        go_wp2
        go_roundg (hi - (m + 1))
        case measure => omega
        case rel =>
          refine ⟨m + 1, hi, by go_num, rfl, by omega, hin, Nat.le_refl _, S2, fun t h1 => ?_, I2⟩
          rw [cmp_lt] at hc
          by_cases e : t = m
          · subst e; rw [HY.out]; exact hc
          · have := HS.out t m (by omega) (by omega)
            rw [HY.out] at this
            exact le_trans this hc
    · obtain rfl : lo = hi := by omega
      have hltz : ¬ (lo : Int) < (lo : Int) := by omega
      have hins : Hid (ins x A = A.take lo ++ x :: A.drop lo) := by
        show _ = _
        conv => lhs; rw [← List.take_append_drop lo A]
        refine ins_split (fun a ha => ?_) (fun b hb => ?_)
        · obtain ⟨i, hi, rfl⟩ := List.mem_take_iff_getElem.1 ha
          have := I1.out i (by omega)
          rw [hget i (by omega), List.getD_eq_getElem?_getD, List.getElem?_eq_getElem (by omega)] at this
          exact this
        · obtain ⟨i, hi, rfl⟩ := List.mem_drop_iff_getElem.1 hb
          have := I2.out (lo + i) (by omega) (by omega)
          rw [hget (lo + i) (by omega), List.getD_eq_getElem?_getD, List.getElem?_eq_getElem (by omega)] at this
          exact this
      have HD : Hid (d.toList = A.take 20 ++ x :: A.drop 20) := by
        show _ = _
        rw [hd, List.take_of_length_le (by omega), List.drop_eq_nil_of_le (by omega)]
      clear hd hget hgx I1 I2
      go_wp2
      go_loopg [17] 20 (fun g s17 wr => ∃ (k : Nat) (dk : Array Fl), s17 = .int .i64 k ∧ lo ≤ k ∧ k ≤ 20 ∧ k ≤ g ∧ dk.size = 21 ∧ Hid (SWK eF 2 w0 blk off dk wr) ∧ Hid (dk.toList = A.take k ++ x :: A.drop k))
      case atStart => exact ⟨20, d, rfl, by omega, by omega, by omega, hs, S1, HD⟩
      case round =>
        obtain ⟨k, dk, rfl, hk1, hk2, hkg, hdk, S2, HT⟩ := hrel
        by_cases hgt : lo < k
        · obtain ⟨j, rfl⟩ : ∃ j, k = j + 1 := ⟨k - 1, by omega⟩
          have hz : (lo : Int) < (j : Int) + 1 := by omega
          have hjl : j < A.length := by omega
          obtain ⟨b, hb⟩ : ∃ b, A[j] = b := ⟨_, rfl⟩
          have ht : dk.toList = A.take j ++ b :: x :: A.drop (j + 1) := by
            rw [HT.out, List.take_succ_eq_append_getElem hjl, hb, List.append_assoc]
            rfl
          have htl : (A.take j).length = j := by rw [List.length_take]; omega
          have hsw := swp_list ht
          rw [htl] at hsw
          have HT2 : Hid ((swp dk (j + 1) j).toList = A.take j ++ x :: A.drop j) := by
            show _ = _
            rw [hsw, List.drop_eq_getElem_cons hjl, hb]
          have hx : dk[j + 1]! = x := by
            have h1 := bang dk (i := j + 1) (by omega)
            rw [ht, List.getElem?_append_right (by omega), htl, Nat.add_sub_cancel_left] at h1
            exact (Option.some.inj h1).symm
          have hbj : dk[j]! = b := by
            have h1 := bang dk (i := j) (by omega)
            rw [ht, List.getElem?_append_right (by omega), htl, Nat.sub_self] at h1
            exact (Option.some.inj h1).symm
          have S3 : Hid (SWK eF 2 w0 blk off (swp dk (j + 1) j) ((((wr.setCell ⟨blk, off + (j + 1) * 2, none⟩ (.string b.1)).setCell ⟨blk, off + (j + 1) * 2 + 1, none⟩ (.string b.2)).setCell ⟨blk, off + j * 2, none⟩ (.string x.1)).setCell ⟨blk, off + j * 2 + 1, none⟩ (.string x.2)).drew) := by
            have := S2.out.swapped R (j + 1) j (by omega) (by omega)
            rw [hx, hbj] at this
            exact this
          obtain ⟨x1, x2, x3, x4⟩ := SWK.two R S2.out (by omega) (by omega) hx
          obtain ⟨b1, b2, b3, b4⟩ := SWK.two R S2.out (by omega) (by omega) hbj
          have hjz : (j : Int) + 1 < 21 := by omega
          have hjz1 : (j : Int) < 21 := by omega
          have hwp : IntKind.i64.wrap (j : Int) = (j : Int) := by rw [IntKind.wrap_i64]; omega
          have e0 : ((j : Int) + 1).toNat = j + 1 := by omega
          have p0 : (0 : Int) ≤ (j : Int) + 1 := by omega
          clear ht hsw hb hx hbj
          go_wp2_with fail
          go_big_region_o
          all_goals go_wp2
          go_roundg j
          case measure => omega
          case rel => exact ⟨j, swp dk (j + 1) j, by first | rfl | go_num | (congr 1; omega), by omega, by omega, Nat.le_refl _, by rw [size_swp]; exact hdk, S3, HT2⟩
        · obtain rfl : k = lo := by omega
          have hz : ¬ (k : Int) < (k : Int) := by omega
          go_wp2
          (try simp only [Exit.inBlock, Exit.then])
          refine bodyPost_ret (results_none rfl _ _ _) rfl ?_
          exact ⟨rfl, dk, S2.out, hdk, by rw [HT.out, hins.out]⟩

end Go.Proofs.YtikhfojbekpoeaaDoor
