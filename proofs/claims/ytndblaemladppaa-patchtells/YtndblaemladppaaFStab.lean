/-
  slices.SortStableFunc's own work at files: they come to stand by rising paths, those of one path in their order.
-/
import Derived.Test.YtndblaemladppaaFSym
import Derived.Test.YtndblaemladppaaRBlk
namespace Go.Proofs.Ytndblaemladppaa
open Go.RowKit Go.Shelf Go.SeqLib Go.DiffLib Go.TreeLib Go.Sort

/-- The insertion sort of a part, from a world of the sort's to a world of the sort's. -/
theorem insert_in (blk off cap a b : Nat) (d dk : Array Fl) (w0 W : World) (R : RowK eF 2 w0 blk off d) (h : SWK eF 2 w0 blk off dk W) (hs : dk.size = d.size) (hab : a ≤ b) (hb : b ≤ dk.size) (hz : dk.size ≤ 1000000) :
    Calls Try.prog 56 #[.slice (some ⟨blk, off, none⟩) dk.size cap, .int .i64 a, .int .i64 b, .func (.func 31) #[] #[]] W fun e W' =>
      e = .returned (.tuple #[]) ∧ SWK eF 2 w0 blk off (Sort.insertionSort (ltOf cmpF) dk a b) W' := by
  have eg : ∀ args w, (callFunc 31 args).run Try.prog w = .ok (.enter 31 args) w := enters_of Try.func31 (by kernel_rfl) rfl
  have hH := h.holds R.hblk R.hH hs
  have hblk := h.lt R.hblk
  have := AnyQ.insertionSortCmpFunc Try.laysIns 2 Try.isAgg43 Try.sizeOf43 eF eF_len eF_one cmpF 31 #[] blk off cap a b dk W eg (order_lays blk off dk.size W) hH hblk hab hb (by omega)
  refine Calls.mono this ?_
  rintro e W' ⟨rfl, n, os, rfl⟩
  exact ⟨rfl, h.on R.hblk n _ os (sort_stab dk a b hb).1⟩

set_option maxHeartbeats 8000000 in
set_option maxRecDepth 1000000 in
theorem stable_in (blk off cap : Nat) (zs : List Fl) (w : World) (R : RowK eF 2 w blk off zs.toArray) (hz : zs.length ≤ 1000000) :
    Calls Try.prog 40 #[.slice (some ⟨blk, off, none⟩) zs.length cap, .int .i64 zs.length, .func (.func 31) #[] #[]] w fun e W' =>
      e = .returned (.tuple #[]) ∧ ∃ d', SWK eF 2 w blk off d' W' ∧ d'.toList = isort zs := by
  obtain ⟨d, hd⟩ : ∃ d : Array Fl, zs.toArray = d := ⟨_, rfl⟩
  rw [hd] at R
  have hdl : d.toList = zs := by rw [← hd]
  have hsz : d.size = zs.length := by rw [← hd]; simp
  have HR : Hid (∀ d' : Array Fl, d'.toList = isort d.toList → d'.toList = isort zs) := fun d' h => by rw [h, hdl]
  have hst0 : SWK eF 2 w blk off d w := SWK.start R.hH
  obtain ⟨n, HN⟩ : ∃ n, Hid (zs.length = n) := ⟨_, rfl⟩
  have hN : d.size = n := hsz.trans HN.out
  rw [HN.out] at hz ⊢
  have HI : Hid (∀ (dk : Array Fl) (W : World) (a b : Nat), dk.size = n → SWK eF 2 w blk off dk W → a ≤ b → b ≤ n → Calls Try.prog 56 #[.slice (some ⟨blk, off, none⟩) n cap, .int .i64 a, .int .i64 b, .func (.func 31) #[] #[]] W fun e W' =>
      e = .returned (.tuple #[]) ∧ Hid (SWK eF 2 w blk off (Sort.insertionSort (ltOf cmpF) dk a b) W')) := fun dk W a b h1 h2 h3 h4 => by
    have := insert_in blk off cap a b d dk w W R h2 (h1.trans hN.symm) h3 (by omega) (by omega)
    rw [h1] at this
    exact this
  have HM : Hid (∀ (X Y Z T : List Fl) (a m b : Nat) (dk : Array Fl) (W : World), X.length = a → a + Y.length = m → m + Z.length = b → 0 < Y.length → 0 < Z.length → Up Y → Up Z → SWK eF 2 w blk off dk W → dk.size = n → dk.toList = X ++ (Y ++ (Z ++ T)) →
      Calls Try.prog 57 #[.slice (some ⟨blk, off, none⟩) n cap, .int .i64 a, .int .i64 m, .int .i64 b, .func (.func 31) #[] #[]] W fun e W' => e = .returned (.tuple #[]) ∧ ∃ d', Hid (SWK eF 2 w blk off d' W') ∧ d'.size = n ∧ Hid (d'.toList = X ++ (isort (Y ++ Z) ++ T))) :=
    fun X Y Z T a m b dk W h1 h2 h3 h4 h5 h6 h7 h8 h9 h10 => sym_in blk off cap n d w R hN hz (b - a) X Y Z T a m b dk W (Nat.le_refl _) h1 h2 h3 h4 h5 h6 h7 h8 h9 h10
  have HS0 : Hid (SWK eF 2 w blk off d w) := hst0
  clear hd hdl hsz hst0
  go_enter Try.func40, Try.ntmps40
  go_wp2
  go_loopg [7, 8] n (fun g s7 s8 wr => ∃ (a b : Nat) (dk : Array Fl), s7 = .int .i64 a ∧ s8 = .int .i64 b ∧ b = a + 20 ∧ a ≤ n ∧ n - a ≤ g ∧ dk.size = n ∧ Hid (SWK eF 2 w blk off dk wr) ∧ Hid (Half d a dk))
  case atStart => exact ⟨0, 20, d, rfl, rfl, rfl, Nat.zero_le _, by omega, hN, HS0, blk_start d⟩
  case round =>
    obtain ⟨a, b, dk, rfl, rfl, hb, ha, hg, hdk, S1, H1⟩ := hrel
    by_cases h20 : b ≤ n
    · have hz1 : (b : Int) ≤ (n : Int) := by omega
      have hc := HI.out dk wr a b hdk S1.out (by omega) h20
      have HB : Hid (b = a + 20) := hb
      clear hb
      go_wp2_with (go_at_call 56; refine hc.mono ?_; rintro e w1 ⟨rfl, S2⟩)
      have hb := HB.out
      have H2 := blk_step H1.out (by omega)
      rw [← hb] at H2
      go_roundg (n - b)
      case measure => omega
      case rel => exact ⟨b, b + 20, _, rfl, by go_num, rfl, h20, Nat.le_refl _, (sort_stab dk a b (by omega)).1.trans hdk, S2, H2⟩
    · have hz1 : ¬ (b : Int) ≤ (n : Int) := by omega
      have hc := HI.out dk wr a n hdk S1.out ha (Nat.le_refl _)
      have H2 : Hid (Whole 20 d (Sort.insertionSort (ltOf cmpF) dk a n)) := blk_last H1.out hdk ha (by omega)
      have hs2 : (Sort.insertionSort (ltOf cmpF) dk a n).size = n := (sort_stab dk a n (by omega)).1.trans hdk
      generalize Sort.insertionSort (ltOf cmpF) dk a n = dl at hc H2 hs2
      clear hb S1 H1 hdk
      go_wp2_with (go_at_call 56; refine hc.mono ?_; rintro e w1 ⟨rfl, S2⟩)
      clear hc
      go_loopg [6, 7, 8, 9] n (fun g s6 s7 s8 s9 wr => ∃ (bs : Nat) (dk : Array Fl), s6 = .int .i64 bs ∧ 20 ≤ bs ∧ bs ≤ 2000000 ∧ n - bs ≤ g ∧ dk.size = n ∧ Hid (SWK eF 2 w blk off dk wr) ∧ Hid (Whole bs d dk))
      case atStart => exact ⟨20, dl, rfl, Nat.le_refl _, by omega, by omega, hs2, S2, H2⟩
      case round =>
        obtain ⟨bs, dq, rfl, hb1, hb2, hg2, hdq, S3, H3⟩ := hrel
        by_cases hbn : bs < n
        · have hbz : (bs : Int) < (n : Int) := by omega
          have H4 : Hid (Mid bs d 0 dq) := mrg_start H3.out
          clear H3
          go_wp2
          go_loopg [7, 8] n (fun g t7 t8 wr2 => ∃ (a b : Nat) (dr : Array Fl), t7 = .int .i64 a ∧ t8 = .int .i64 b ∧ b = a + 2 * bs ∧ a ≤ n ∧ n - a ≤ g ∧ dr.size = n ∧ Hid (SWK eF 2 w blk off dr wr2) ∧ Hid (Mid bs d a dr))
          case atStart => exact ⟨0, 2 * bs, dq, rfl, by go_num, by omega, Nat.zero_le _, by omega, hdq, S3, H4⟩
          case round =>
            obtain ⟨a3, b3, dr, rfl, rfl, hb3, ha3, hg3, hdr, S4, H5⟩ := hrel
            by_cases h3 : b3 ≤ n
            · have hz3 : (b3 : Int) ≤ (n : Int) := by omega
              obtain ⟨P, Y, Z, T, q1, q2, q3, q4, q5, q6, q7⟩ := mrg_split H5.out hdr (by omega)
              have hc := HM.out P Y Z T a3 (a3 + bs) b3 dr wr q2 (by omega) (by omega) (by omega) (by omega) q5 q6 S4.out hdr q1
              have Q7 : Hid (∀ d' : Array Fl, d'.toList = P ++ (isort (Y ++ Z) ++ T) → Mid bs d (a3 + 2 * bs) d') := q7
              have HB : Hid (b3 = a3 + 2 * bs) := hb3
              clear q1 q2 q3 q4 q5 q6 q7 hb3
              go_wp2_with (go_at_call 57; refine hc.mono ?_; rintro e w3 ⟨rfl, d3, S5, hd3, HT⟩)
              have hb3 := HB.out
              have H6 := Q7.out d3 HT.out
              rw [← hb3] at H6
              go_roundg (n - b3)
              case measure => omega
              case rel => exact ⟨b3, b3 + 2 * bs, d3, rfl, by go_num, rfl, h3, Nat.le_refl _, hd3, S5, H6⟩
            · have hz3 : ¬ (b3 : Int) ≤ (n : Int) := by omega
              by_cases h4 : a3 + bs < n
              · have hz4 : (a3 : Int) + (bs : Int) < (n : Int) := by omega
                obtain ⟨P, Y, Z, q1, q2, q3, q4, q5, q6, q7⟩ := mrg_last H5.out hdr h4 (by omega)
                have hc := HM.out P Y Z [] a3 (a3 + bs) n dr wr q2 (by omega) (by omega) (by omega) (by omega) q5 q6 S4.out hdr q1
                have Q7 : Hid (∀ d' : Array Fl, d'.toList = P ++ (isort (Y ++ Z) ++ []) → Whole (2 * bs) d d') := q7
                clear q1 q2 q3 q4 q5 q6 q7 hb3
                go_wp2_with (go_at_call 57; refine hc.mono ?_; rintro e w3 ⟨rfl, d3, S5, hd3, HT⟩)
                go_roundg (n - 2 * bs)
                case measure => omega
                case rel => exact ⟨2 * bs, d3, by go_num, by omega, by omega, Nat.le_refl _, hd3, S5, Q7.out d3 HT.out⟩
              · have hz4 : ¬ (a3 : Int) + (bs : Int) < (n : Int) := by omega
                have H6 : Hid (Whole (2 * bs) d dr) := mrg_done H5.out hdr (by omega)
                clear hb3
                go_wp2
                go_roundg (n - 2 * bs)
                case measure => omega
                case rel => exact ⟨2 * bs, dr, by go_num, by omega, by omega, Nat.le_refl _, hdr, S4, H6⟩
        · have hbz : ¬ (bs : Int) < (n : Int) := by omega
          go_wp2
          go_end0
          exact ⟨rfl, dq, S3.out, HR.out dq (mrg_all H3.out hdq (by omega))⟩

end Go.Proofs.Ytndblaemladppaa
