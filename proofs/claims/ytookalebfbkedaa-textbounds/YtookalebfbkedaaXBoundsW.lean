/-
  TextBounds answers true at every three texts and number, and turns nothing that lay.
-/
import Derived.Test.YtookalebfbkedaaXAwake
import Derived.Test.YtookalebfbkedaaLow
namespace Go.Proofs.Ytookalebfbkedaa
open Go.RowKit Go.Shelf Go.SeqLib Go.LineLib Go.DiffLib Go.TextLib Go.BigFrame
attribute [local go_sem] Oper.semAt_some

/-- A text with a byte 0 put in. -/
def zeroAt (a : ByteArray) (k : Nat) : ByteArray := a.extract 0 k ++ ⟨#[0]⟩ ++ a.extract k a.size
theorem zeroAt_has (a : ByteArray) (k : Nat) : (0 : UInt8) ∈ L (zeroAt a k) := by
  unfold zeroAt L
  simp
theorem zeroAt_size (a : ByteArray) (k : Nat) (h : k ≤ a.size) : (zeroAt a k).size = a.size + 1 := by
  unfold zeroAt
  rw [ByteArray.size_append, ByteArray.size_append, ByteArray.size_extract, ByteArray.size_extract, show (ByteArray.mk #[0]).size = 1 from rfl]
  omega

set_option maxRecDepth 100000 in
set_option maxHeartbeats 4000000 in
theorem bounds_law (o a b : ByteArray) (n : Int) (w : World) (_ : o.size ≤ maxLen) (_ : a.size ≤ maxLen) (_ : b.size ≤ maxLen) :
    CallsIn Fence.wide 0 Try.prog 5 #[.string o, .string a, .string b, .int .i64 n] w fun e w' => e = .returned (.bool true) ∧ Chg No w w' := by
  refine callsIn_of_wp Try.func5 rfl trivial ?_
  simp only [Try.ntmps5, List.size_toArray, List.length_cons, List.length_nil, Nat.reduceAdd, Nat.reduceSub, Array.replicate_succ, Array.replicate_zero, List.push_toArray, List.append_toArray, List.nil_append, List.cons_append]
  by_cases h1 : 500 < o.size
  · have g1 : (500 : Int) < (o.size : Int) := by omega
    gi_wp2_with fail
    refine ⟨trivial, rfl, (awake_in _).mono ?_⟩
    rintro e w1 ⟨rfl, c1⟩
    gi_wp2
    go_ret
    exact ⟨rfl, c1⟩
  have g1 : ¬ (500 : Int) < (o.size : Int) := by omega
  by_cases h2 : 500 < a.size
  · have g2 : (500 : Int) < (a.size : Int) := by omega
    gi_wp2_with fail
    refine ⟨trivial, rfl, (awake_in _).mono ?_⟩
    rintro e w1 ⟨rfl, c1⟩
    gi_wp2
    go_ret
    exact ⟨rfl, c1⟩
  have g2 : ¬ (500 : Int) < (a.size : Int) := by omega
  by_cases h3 : 500 < b.size
  · have g3 : (500 : Int) < (b.size : Int) := by omega
    gi_wp2_with fail
    refine ⟨trivial, rfl, (awake_in _).mono ?_⟩
    rintro e w1 ⟨rfl, c1⟩
    gi_wp2
    go_ret
    exact ⟨rfl, c1⟩
  have g3 : ¬ (500 : Int) < (b.size : Int) := by omega
  have M1 := tmerge_in o a b (by omega) (by omega) (by omega)
  obtain ⟨m, z, hmz, hc⟩ : ∃ m z, (txt (tm o a b) = m ∧ (tm o a b).isSome = z) ∧ (z = false ∨ (z = true ∧ ¬ (400 : Int) < (m.size : Int)) ∨ (z = true ∧ (400 : Int) < (m.size : Int) ∧ (m.toList == a.toList) = true) ∨ (z = true ∧ (400 : Int) < (m.size : Int) ∧ (m.toList == a.toList) = false ∧ (m.toList == b.toList) = true)) := by
    refine ⟨_, _, ⟨rfl, rfl⟩, ?_⟩
    cases ht : tm o a b with
    | none => exact .inl rfl
    | some m =>
      by_cases h4 : 400 < m.size
      · by_cases h5 : m = a
        · exact .inr (.inr (.inl ⟨rfl, by show (400 : Int) < (m.size : Int); omega, eqT_true h5⟩))
        · have h6 : m = b := (tm_bound o a b m ht h4).resolve_left h5
          exact .inr (.inr (.inr ⟨rfl, by show (400 : Int) < (m.size : Int); omega, eqT_false h5, eqT_true h6⟩))
      · exact .inr (.inl ⟨rfl, by show ¬ (400 : Int) < (m.size : Int); omega⟩)
  rw [hmz.1, hmz.2] at M1
  clear hmz
  have hlow := low_in n ((a.size : Int) + 1) (by omega) (by omega)
  obtain ⟨lo, hi⟩ := lowI_range n ((a.size : Int) + 1) (by omega) (by omega)
  obtain ⟨k, hk⟩ : ∃ k : Nat, lowI n ((a.size : Int) + 1) = (k : Int) := ⟨_, (Int.toNat_of_nonneg lo).symm⟩
  rw [hk] at hlow lo hi
  clear hk lo
  have hka : k ≤ a.size := by omega
  have hka' : (k : Int) ≤ (a.size : Int) := by omega
  have HZ : Hid (zeroAt a k = a.extract 0 k ++ ⟨#[0]⟩ ++ a.extract k a.size) := rfl
  have hz0 := odd_zero _ (zeroAt_has a k)
  have hzs := zeroAt_size a k hka
  have M2 := tmerge_in o (zeroAt a k) b (by omega) (by omega) (by omega)
  have M3 := tconf_in o (zeroAt a k) b (by omega) (by omega) (by omega)
  obtain ⟨t, u, c, hmz, hd⟩ : ∃ t u c, (txt (tm o (zeroAt a k) b) = t ∧ (tm o (zeroAt a k) b).isSome = u ∧ tc o (zeroAt a k) b = c) ∧
      ((u = true ∧ ((zeroAt a k).toList == b.toList) = true) ∨ (u = true ∧ ((zeroAt a k).toList == b.toList) = false ∧ (b.toList == o.toList) = true) ∨ (u = true ∧ ((zeroAt a k).toList == b.toList) = false ∧ (b.toList == o.toList) = false ∧ ((zeroAt a k).toList == o.toList) = true) ∨
       (u = false ∧ t = ⟨#[]⟩ ∧ c = 1 ∧ ((zeroAt a k).toList == b.toList) = false ∧ (b.toList == o.toList) = false ∧ ((zeroAt a k).toList == o.toList) = false)) := by
    refine ⟨_, _, _, ⟨rfl, rfl, rfl⟩, ?_⟩
    by_cases e1 : zeroAt a k = b
    · exact .inl ⟨tm_some _ _ _ (.inl e1), eqT_true e1⟩
    by_cases e2 : b = o
    · exact .inr (.inl ⟨tm_some _ _ _ (.inr (.inl e2)), eqT_false e1, eqT_true e2⟩)
    by_cases e3 : zeroAt a k = o
    · exact .inr (.inr (.inl ⟨tm_some _ _ _ (.inr (.inr e3)), eqT_false e1, eqT_false e2, eqT_true e3⟩))
    obtain ⟨x1, x2⟩ := tm_odd o (zeroAt a k) b hz0 e1 e2 e3
    exact .inr (.inr (.inr ⟨by rw [x1]; rfl, by rw [x1]; rfl, x2, eqT_false e1, eqT_false e2, eqT_false e3⟩))
  rw [hmz.1, hmz.2.1] at M2
  rw [hmz.2.2] at M3
  have hmix : Try.prog.follows .mixedOrders = true := by kernel_rfl
  clear h1 h2 h3 hmz hz0 hzs
  rcases hc with rfl | ⟨rfl, f1⟩ | ⟨rfl, f1, f2⟩ | ⟨rfl, f1, f2, f3⟩
  all_goals
    gi_wp2_with fail
    refine ⟨trivial, rfl, (M1 _).mono ?_⟩
    rintro e w1 ⟨rfl, c1⟩
    gi_wp2_with fail
    refine ⟨trivial, rfl, (hlow _).mono ?_⟩
    rintro e w2 ⟨rfl, rfl⟩
    gi_wp2
    gi_big_quiet_th_o (fail)
    have c3 := drewNC c1 nq
    generalize w2.drewN nq = w3 at *
    rw [← HZ.out]
    clear M1 hlow hi hka hka' HZ c1
    generalize zeroAt a k = y at *
    gi_wp2_with fail
    refine ⟨trivial, rfl, (M2 _).mono ?_⟩
    rintro e w4 ⟨rfl, c4⟩
    have c5 := Chg.seq c3 c4
    clear M2 c3 c4
    rcases hd with ⟨rfl, q1⟩ | ⟨rfl, q1, q2⟩ | ⟨rfl, q1, q2, q3⟩ | ⟨rfl, rfl, rfl, q1, q2, q3⟩
    · gi_wp2_with fail
      refine ⟨trivial, rfl, (awake_in _).mono ?_⟩
      rintro e w6 ⟨rfl, c6⟩
      gi_wp2
      go_ret
      exact ⟨rfl, Chg.seq c5 c6⟩
    · gi_wp2_with fail
      refine ⟨trivial, rfl, (awake_in _).mono ?_⟩
      rintro e w6 ⟨rfl, c6⟩
      gi_wp2
      go_ret
      exact ⟨rfl, Chg.seq c5 c6⟩
    · gi_wp2_with fail
      refine ⟨trivial, rfl, (awake_in _).mono ?_⟩
      rintro e w6 ⟨rfl, c6⟩
      gi_wp2
      go_ret
      exact ⟨rfl, Chg.seq c5 c6⟩
    · gi_wp2_with fail
      refine ⟨trivial, rfl, (M3 _).mono ?_⟩
      rintro e w6 ⟨rfl, c6⟩
      gi_wp2_with fail
      refine ⟨trivial, rfl, (awake_in _).mono ?_⟩
      rintro e w7 ⟨rfl, c7⟩
      gi_wp2
      go_ret
      exact ⟨rfl, Chg.seq c5 (Chg.seq c6 c7)⟩

end Go.Proofs.Ytookalebfbkedaa
