/-
  slices.swapRangeCmpFunc and rotateCmpFunc at files: two parts of a row, exchanged.
-/
import Derived.Test.YtndblaemladppaaFOrd
import Derived.Test.YtndblaemladppaaRSym
namespace Go.Proofs.Ytndblaemladppaa
open Go.RowKit Go.Shelf Go.SeqLib Go.DiffLib Go.TreeLib Go.Sort

set_option maxHeartbeats 4000000 in
set_option maxRecDepth 1000000 in
theorem swapRange_in (blk off cap N : Nat) (d : Array Fl) (w0 : World) (R : RowK eF 2 w0 blk off d) (hN : d.size = N) (hz : N ≤ 1000000) (f : Value) (X U V K T : List Fl) (a b n : Nat) (ha : X.length = a) (hU : U.length = n) (hK : K.length = n) (hb : a + n + V.length = b)
    (dk : Array Fl) (W : World) (h : SWK eF 2 w0 blk off dk W) (hs : dk.size = N) (hd : dk.toList = X ++ (U ++ (V ++ (K ++ T)))) :
    Calls Try.prog 67 #[.slice (some ⟨blk, off, none⟩) N cap, .int .i64 a, .int .i64 b, .int .i64 n, f] W fun e W' =>
      e = .returned (.tuple #[]) ∧ ∃ d', Hid (SWK eF 2 w0 blk off d' W') ∧ d'.size = N ∧ Hid (d'.toList = X ++ (K ++ (V ++ (U ++ T)))) := by
  have mixed : Try.prog.follows .mixedOrders = true := by kernel_rfl
  have hbn : b + n ≤ N := by
    have : dk.toList.length = N := by rw [← hs]; exact Array.length_toList
    rw [hd] at this
    simp at this
    omega
  have HD : Hid (dk.toList = X ++ ((K.take 0 ++ U.drop 0) ++ (V ++ ((U.take 0 ++ K.drop 0) ++ T)))) := by
    show _ = _
    rw [hd]; simp
  have HS : Hid (SWK eF 2 w0 blk off dk W) := h
  have HX : Hid (∀ (dk : Array Fl) (i : Nat), i < n → dk.toList = X ++ ((K.take i ++ U.drop i) ++ (V ++ ((U.take i ++ K.drop i) ++ T))) → (swp dk (a + i) (b + i)).toList = X ++ ((K.take (i + 1) ++ U.drop (i + 1)) ++ (V ++ ((U.take (i + 1) ++ K.drop (i + 1)) ++ T)))) := fun dk i hi hd => by
    have := swr_step hU hK hi hd
    rw [ha, hb] at this
    exact this
  have HE : Hid (∀ dk : Array Fl, dk.toList = X ++ ((K.take n ++ U.drop n) ++ (V ++ ((U.take n ++ K.drop n) ++ T))) → dk.toList = X ++ (K ++ (V ++ (U ++ T)))) := fun dk h => by
    rw [h, List.take_of_length_le (by omega), List.take_of_length_le (by omega), List.drop_eq_nil_of_le (by omega), List.drop_eq_nil_of_le (by omega)]
    simp
  have hab : a + n ≤ b := by omega
  clear h hd ha hU hK hb
  go_enter Try.func67, Try.ntmps67
  go_wp2
  go_loopg [10] n (fun g s10 wr => ∃ (i : Nat) (dk : Array Fl), s10 = .int .i64 i ∧ i ≤ n ∧ n - i ≤ g ∧ dk.size = N ∧ Hid (SWK eF 2 w0 blk off dk wr) ∧ Hid (dk.toList = X ++ ((K.take i ++ U.drop i) ++ (V ++ ((U.take i ++ K.drop i) ++ T)))))
  case atStart => exact ⟨0, dk, rfl, by omega, by omega, hs, HS, HD⟩
  case round =>
    obtain ⟨i, dk, rfl, hi, hg, hdk, S2, HT⟩ := hrel
    by_cases hlt : i < n
    · have hltz : (i : Int) < (n : Int) := by omega
      have HT2 : Hid _ := HX.out dk i hlt HT.out
      obtain ⟨x, hx⟩ : ∃ x, dk[a + i]! = x := ⟨_, rfl⟩
      obtain ⟨y, hy⟩ : ∃ y, dk[b + i]! = y := ⟨_, rfl⟩
      have S3 : Hid (SWK eF 2 w0 blk off (swp dk (a + i) (b + i)) ((((wr.setCell ⟨blk, off + (a + i) * 2, none⟩ (.string y.1)).setCell ⟨blk, off + (a + i) * 2 + 1, none⟩ (.string y.2)).setCell ⟨blk, off + (b + i) * 2, none⟩ (.string x.1)).setCell ⟨blk, off + (b + i) * 2 + 1, none⟩ (.string x.2)).drew) := by
        have := S2.out.swapped R (a + i) (b + i) (by omega) (by omega)
        rw [hx, hy] at this
        exact this
      obtain ⟨x1, x2, x3, x4⟩ := SWK.two R S2.out (by omega) (by omega) hx
      obtain ⟨y1, y2, y3, y4⟩ := SWK.two R S2.out (by omega) (by omega) hy
      have q1 : (a : Int) + (i : Int) < (N : Int) := by omega
      have q2 : (b : Int) + (i : Int) < (N : Int) := by omega
      have q3 : (0 : Int) ≤ (a : Int) + (i : Int) := by omega
      have q4 : (0 : Int) ≤ (b : Int) + (i : Int) := by omega
      have q5 : ((a : Int) + (i : Int)).toNat = a + i := by omega
      have q6 : ((b : Int) + (i : Int)).toNat = b + i := by omega
      clear hx hy
      go_wp2_with fail
      go_big_region_o
      all_goals go_wp2
      go_roundg (n - (i + 1))
      case measure => omega
      case rel => exact ⟨i + 1, swp dk (a + i) (b + i), by go_num, by omega, Nat.le_refl _, by rw [size_swp]; exact hdk, S3, HT2⟩
    · obtain rfl : i = n := by omega
      have hltz : ¬ (i : Int) < (i : Int) := by omega
      go_wp2
      go_end0
      exact ⟨rfl, dk, S2, hdk, HE.out dk HT.out⟩

set_option maxHeartbeats 4000000 in
set_option maxRecDepth 1000000 in
theorem rotate_in (blk off cap N : Nat) (d : Array Fl) (w0 : World) (R : RowK eF 2 w0 blk off d) (hN : d.size = N) (hz : N ≤ 1000000) (f : Value) (X U V T : List Fl) (a m b : Nat) (ha : X.length = a) (hm : a + U.length = m) (hb : m + V.length = b) (hU : 0 < U.length) (hV : 0 < V.length)
    (dk : Array Fl) (W : World) (h : SWK eF 2 w0 blk off dk W) (hs : dk.size = N) (hd : dk.toList = X ++ (U ++ (V ++ T))) :
    Calls Try.prog 65 #[.slice (some ⟨blk, off, none⟩) N cap, .int .i64 a, .int .i64 m, .int .i64 b, f] W fun e W' =>
      e = .returned (.tuple #[]) ∧ ∃ d', Hid (SWK eF 2 w0 blk off d' W') ∧ d'.size = N ∧ Hid (d'.toList = X ++ (V ++ (U ++ T))) := by
  have hbn : b ≤ N := by
    have : dk.toList.length = N := by rw [← hs]; exact Array.length_toList
    rw [hd] at this
    simp at this
    omega
  have HC : Hid (∀ (dk : Array Fl) (W : World) (X U V K T : List Fl) (a b n : Nat), X.length = a → U.length = n → K.length = n → a + n + V.length = b → SWK eF 2 w0 blk off dk W → dk.size = N → dk.toList = X ++ (U ++ (V ++ (K ++ T))) →
      Calls Try.prog 67 #[.slice (some ⟨blk, off, none⟩) N cap, .int .i64 a, .int .i64 b, .int .i64 n, f] W fun e W' => e = .returned (.tuple #[]) ∧ ∃ d', Hid (SWK eF 2 w0 blk off d' W') ∧ d'.size = N ∧ Hid (d'.toList = X ++ (K ++ (V ++ (U ++ T))))) :=
    fun dk W X U V K T a b n h1 h2 h3 h4 h5 h6 h7 => swapRange_in blk off cap N d w0 R hN hz f X U V K T a b n h1 h2 h3 h4 dk W h5 h6 h7
  have HS : Hid (SWK eF 2 w0 blk off dk W) := h
  obtain ⟨i0, hi0⟩ : ∃ i0, U.length = i0 := ⟨_, rfl⟩
  obtain ⟨j0, hj0⟩ : ∃ j0, V.length = j0 := ⟨_, rfl⟩
  obtain ⟨G, HG⟩ : ∃ G, Hid (X ++ (V ++ (U ++ T)) = G) := ⟨_, rfl⟩
  have HI : Hid (∃ X' U' V' T' : List Fl, X'.length = m - i0 ∧ U'.length = i0 ∧ V'.length = j0 ∧ dk.toList = X' ++ (U' ++ (V' ++ T')) ∧ X' ++ (V' ++ (U' ++ T')) = G) := ⟨X, U, V, T, by omega, hi0, hj0, hd, HG.out⟩
  rw [HG.out]
  have hm1 : (m : Int) - (a : Int) = (i0 : Int) := by omega
  have hb1 : (b : Int) - (m : Int) = (j0 : Int) := by omega
  have hbj : m + j0 = b := by omega
  have him : i0 ≤ m := by omega
  rw [hi0] at hU
  rw [hj0] at hV
  clear h hd ha hm hb hi0 hj0 HG
  clear X U V T
  go_enter Try.func65, Try.ntmps65
  go_wp2
  (try rw [hm1, hb1])
  go_loopg [10, 11] (i0 + j0) (fun g s10 s11 wr => ∃ (i j : Nat) (dk : Array Fl), s10 = .int .i64 i ∧ s11 = .int .i64 j ∧ 0 < i ∧ 0 < j ∧ i ≤ m ∧ m + j ≤ b ∧ i + j ≤ g ∧ dk.size = N ∧ Hid (SWK eF 2 w0 blk off dk wr) ∧
    Hid (∃ X' U' V' T' : List Fl, X'.length = m - i ∧ U'.length = i ∧ V'.length = j ∧ dk.toList = X' ++ (U' ++ (V' ++ T')) ∧ X' ++ (V' ++ (U' ++ T')) = G))
  case atStart => exact ⟨i0, j0, dk, rfl, rfl, hU, hV, him, by omega, Nat.le_refl _, hs, HS, HI⟩
  case round =>
    obtain ⟨i, j, dk, rfl, rfl, hi, hj, him2, hjb, hg, hdk, S2, HL⟩ := hrel
    have e1 : (m : Int) - (i : Int) = ((m - i : Nat) : Int) := by omega
    by_cases hij : i = j
    · subst hij
      obtain ⟨X', U', V', T', l1, l2, l3, l4, l5⟩ := HL.out
      have hne : ((i : Int) != (i : Int)) = false := by simp
      have hc := HC.out dk wr X' U' [] V' T' (m - i) m i l1 l2 l3 (by simp; omega) S2.out hdk (by rw [l4]; rfl)
      have HG : Hid (∀ d' : Array Fl, d'.toList = X' ++ (V' ++ ([] ++ (U' ++ T'))) → d'.toList = G) := fun d' h => by rw [h, ← l5]; rfl
      clear l1 l2 l3 l4 l5
      go_wp2_with (go_at_call 67; refine hc.mono ?_; rintro e w1 ⟨rfl, d', S3, hd', HT⟩)
      go_end0
      exact ⟨rfl, d', S3, hd', HG.out d' HT.out⟩
    · have hne : ((i : Int) != (j : Int)) = true := by simp; omega
      by_cases hgt : j < i
      · obtain ⟨X', U', V', T', l1, l2, l3, l4, l5⟩ := HL.out
        have hgtz : (j : Int) < (i : Int) := by omega
        have hc := HC.out dk wr X' (U'.take j) (U'.drop j) V' T' (m - i) m j l1 (by rw [List.length_take]; omega) l3 (by rw [List.length_drop]; omega) S2.out hdk (by
          rw [l4]
          conv => lhs; rw [← List.take_append_drop j U']
          simp only [List.append_assoc])
        have HN : Hid (∀ d' : Array Fl, d'.toList = X' ++ (V' ++ (U'.drop j ++ (U'.take j ++ T'))) → ∃ X2 U2 V2 T2 : List Fl, X2.length = m - (i - j) ∧ U2.length = i - j ∧ V2.length = j ∧ d'.toList = X2 ++ (U2 ++ (V2 ++ T2)) ∧ X2 ++ (V2 ++ (U2 ++ T2)) = G) := fun d' h =>
          ⟨X' ++ V', U'.drop j, U'.take j, T', by rw [List.length_append]; omega, by rw [List.length_drop]; omega, by rw [List.length_take]; omega, by rw [h]; simp only [List.append_assoc], by
            rw [← l5]
            conv => rhs; rw [← List.take_append_drop j U']
            simp only [List.append_assoc]⟩
        have e2 : (i : Int) - (j : Int) = ((i - j : Nat) : Int) := by omega
        clear l1 l2 l3 l4 l5 hij
        go_wp2_with (go_at_call 67; refine hc.mono ?_; rintro e w1 ⟨rfl, d', S3, hd', HT⟩)
        (try rw [e2])
        go_roundg (i - j + j)
        case measure => omega
        case rel => exact ⟨i - j, j, d', rfl, rfl, by omega, hj, by omega, hjb, Nat.le_refl _, hd', S3, HN.out d' HT.out⟩
      · obtain ⟨X', U', V', T', l1, l2, l3, l4, l5⟩ := HL.out
        have hgtz : ¬ (j : Int) < (i : Int) := by omega
        have hc := HC.out dk wr X' U' (V'.take (j - i)) (V'.drop (j - i)) T' (m - i) (m + j - i) i l1 l2 (by rw [List.length_drop]; omega) (by rw [List.length_take]; omega) S2.out hdk (by
          rw [l4]
          conv => lhs; rw [← List.take_append_drop (j - i) V']
          simp only [List.append_assoc])
        have HN : Hid (∀ d' : Array Fl, d'.toList = X' ++ (V'.drop (j - i) ++ (V'.take (j - i) ++ (U' ++ T'))) → ∃ X2 U2 V2 T2 : List Fl, X2.length = m - i ∧ U2.length = i ∧ V2.length = j - i ∧ d'.toList = X2 ++ (U2 ++ (V2 ++ T2)) ∧ X2 ++ (V2 ++ (U2 ++ T2)) = G) := fun d' h =>
          ⟨X', V'.drop (j - i), V'.take (j - i), U' ++ T', l1, by rw [List.length_drop]; omega, by rw [List.length_take]; omega, by rw [h], by
            rw [← l5]
            conv => rhs; rw [← List.take_append_drop (j - i) V']
            simp only [List.append_assoc]⟩
        have e2 : (j : Int) - (i : Int) = ((j - i : Nat) : Int) := by omega
        have e3 : (m : Int) + (j : Int) - (i : Int) = ((m + j - i : Nat) : Int) := by omega
        have hlt : 0 < j - i := by omega
        clear l1 l2 l3 l4 l5 hij
        go_wp2_with (go_at_call 67; refine hc.mono ?_; rintro e w1 ⟨rfl, d', S3, hd', HT⟩)
        (try rw [e2])
        go_roundg (i + (j - i))
        case measure => omega
        case rel => exact ⟨i, j - i, d', rfl, rfl, hi, hlt, him2, by omega, Nat.le_refl _, hd', S3, HN.out d' HT.out⟩

end Go.Proofs.Ytndblaemladppaa
