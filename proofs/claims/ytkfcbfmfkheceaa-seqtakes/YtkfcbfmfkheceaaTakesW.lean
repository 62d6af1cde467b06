/-
  SeqTakes answers true at every two lists and three numbers, and turns nothing that lay.
-/
import Derived.Test.YtkfcbfmfkheceaaAwake
import Derived.Test.YtkfcbfmfkheceaaJoins
import Derived.Test.YtkfcbfmfkheceaaApp
import Derived.Sort.CutIn
namespace Go.Proofs.Ytkfcbfmfkheceaa
open Go.RowKit Go.Shelf Go.SeqLib
attribute [local go_sem] Oper.semAt_some

theorem upto_get (lo : Int) {i m : Nat} (h : i < m) : (upto lo m)[i]? = some (lo + (i : Int)) := by simp [upto, h]
theorem upto_len (lo : Int) (m : Nat) : (upto lo m).length = m := by simp [upto]

/-- A token: which call comes next. -/
def Tok (_ : Nat) : Prop := True

/-- A beginning of a slice. -/
theorem SlI.take' {W : World} {p : Option Addr} {n cap : Nat} {zs : List Int} (h : SlI W (.slice p n cap) zs) (m : Nat) (hm : m ≤ n) : SlI W (.slice p m cap) (zs.take m) := by
  obtain ⟨p', cap', e, h1, h2, hc⟩ := h
  cases e
  refine ⟨p, cap, by rw [List.length_take, Nat.min_eq_left hm], by simp; omega, h2, fun i x hi => ?_⟩
  rw [List.getElem?_take] at hi
  split at hi
  · exact hc i x hi
  · cases hi

set_option maxRecDepth 100000 in
set_option maxHeartbeats 2000000 in
theorem takes_long (p q : Option Addr) (n m cap cap' : Nat) (hn : 60 < n ∨ 60 < m) (a b c : Int) (w : World) : CallsIn Fence.wide 0 Try.prog 4 #[.slice p n cap, .slice q m cap', .int .i64 a, .int .i64 b, .int .i64 c] w fun e w' => e = .returned (.bool true) ∧ Chg No w w' := by
  by_cases h1 : 60 < n
  all_goals
    have hn' : ((60 : Int) < (n : Int)) = (60 < n) := by rw [eq_iff_iff]; omega
    have hm' : ((60 : Int) < (m : Int)) = (60 < m) := by rw [eq_iff_iff]; omega
  · have h1' : (60 : Int) < (n : Int) := by omega
    clear hn' hm' hn
    refine callsIn_of_wp Try.func4 rfl trivial ?_
    simp only [Try.ntmps4, List.size_toArray, List.length_cons, List.length_nil, Nat.reduceAdd, Nat.reduceSub, Array.replicate_succ, Array.replicate_zero, List.push_toArray, List.append_toArray, List.nil_append, List.cons_append]
    gi_wp2_with fail
    refine ⟨trivial, rfl, (awake_in _).mono ?_⟩
    rintro e w1 ⟨rfl, c1⟩
    gi_wp2
    go_ret
    exact ⟨rfl, c1⟩
  · have h1' : ¬ (60 : Int) < (n : Int) := by omega
    have h2' : (60 : Int) < (m : Int) := by omega
    clear hn' hm' hn
    refine callsIn_of_wp Try.func4 rfl trivial ?_
    simp only [Try.ntmps4, List.size_toArray, List.length_cons, List.length_nil, Nat.reduceAdd, Nat.reduceSub, Array.replicate_succ, Array.replicate_zero, List.push_toArray, List.append_toArray, List.nil_append, List.cons_append]
    gi_wp2_with fail
    refine ⟨trivial, rfl, (awake_in _).mono ?_⟩
    rintro e w1 ⟨rfl, c1⟩
    gi_wp2
    go_ret
    exact ⟨rfl, c1⟩

set_option maxRecDepth 100000 in
set_option maxHeartbeats 20000000 in
theorem takes_in (p q : Option Addr) (cap cap' : Nat) (xs ys : List Int) (hn : xs.length ≤ 60) (hm : ys.length ≤ 60) (a b c : Int) (w : World) (hx : SlI w (.slice p xs.length cap) xs) (hy : SlI w (.slice q ys.length cap') ys) :
    CallsIn Fence.wide 0 Try.prog 4 #[.slice p xs.length cap, .slice q ys.length cap', .int .i64 a, .int .i64 b, .int .i64 c] w fun e w' => e = .returned (.bool true) ∧ Chg No w w' := by
  have hn' : ¬ (60 : Int) < (xs.length : Int) := by omega
  have hm' : ¬ (60 : Int) < (ys.length : Int) := by omega
  refine callsIn_of_wp Try.func4 rfl trivial ?_
  simp only [Try.ntmps4, List.size_toArray, List.length_cons, List.length_nil, Nat.reduceAdd, Nat.reduceSub, Array.replicate_succ, Array.replicate_zero, List.push_toArray, List.append_toArray, List.nil_append, List.cons_append]
  gi_wp2_with fail
  refine ⟨trivial, rfl, (low_in a 80 (by omega) (by omega) _).mono ?_⟩
  rintro e w' ⟨rfl, rfl⟩
  obtain ⟨ha1, ha2⟩ := lowI_range a 80 (by omega) (by omega)
  generalize lowI a 80 = n at *
  gi_wp2_with fail
  refine ⟨trivial, rfl, (low_in b 2000 (by omega) (by omega) _).mono ?_⟩
  rintro e w'' ⟨rfl, rfl⟩
  obtain ⟨hb1, hb2⟩ := lowI_range b 2000 (by omega) (by omega)
  generalize lowI b 2000 = lo at *
  gi_wp2_with fail
  refine ⟨trivial, rfl, (low_in c 60 (by omega) (by omega) _).mono ?_⟩
  rintro e w3 ⟨rfl, rfl⟩
  obtain ⟨hc1, hc2⟩ := lowI_range c 60 (by omega) (by omega)
  generalize lowI c 60 = more at *
  have ho0 := World.ownsRow_nil w3 w3.heap.size 3 1
  gi_wp2_with (first
    | (gi_at_builtin; refine wpListIn_append_sl _ rfl _ _ rfl w3.heap.size _ _ _ rfl ho0 p xs.length cap xs rfl hx (by omega) (Nat.le_refl _) ?_; intro v1 w1 r1 g1 o1; clear ho0; have c1 : Chg No w3 w1 := (Chg.refl _ w3).grown g1 (fun k e => by cases e); have hy1 := hy.chg c1 (fun _ _ h => h))
    | (gi_at_builtin; refine wpListIn_append_sl _ rfl _ _ rfl w3.heap.size _ _ _ rfl r1 q ys.length cap' ys rfl hy1 (by omega) c1.size ?_; intro v2 w2 r2 g2 o2; have c2 : Chg No w3 w2 := c1.grown g2 (fun k e => .inr (r1.lt k e).1); obtain ⟨p2, k2, rfl⟩ := row_slice r2)
    | fail)
  clear g1 o1 g2 o2 r1
  simp only [Nat.zero_add, List.nil_append, ← List.map_append] at r2
  have q2 : SlI w2 (.slice p2 (xs.length + ys.length) k2) (xs ++ ys) := by
    have := SlI.ofRow (zs := xs ++ ys) (W := w2) (base := w3.heap.size) (v := .slice p2 (xs.length + ys.length) k2) (by simpa using r2)
    exact this
  clear r2 c1 hy1
  have hx2 := hx.chg c2 (fun _ _ h => h)
  have hy2 := hy.chg c2 (fun _ _ h => h)
  generalize hN : n - 10 = N at *
  generalize hL : lo - 1000 = L at *
  generalize hM : more - 10 = M at *
  have hN1 : -10 ≤ N := by omega
  have hN2 : N < 70 := by omega
  have hL1 : -1000 ≤ L := by omega
  have hL2 : L < 1000 := by omega
  have hM1 : -10 ≤ M := by omega
  have hM2 : M < 50 := by omega
  clear hN hL hM ha1 ha2 hb1 hb2 hc1 hc2
  refine ⟨trivial, rfl, (of_seq _ xs (by omega) _ hx2).mono ?_⟩
  rintro e w4 ⟨g4, l4, D4, rfl, s4, c4, _⟩
  gi_wp2_with fail
  refine ⟨trivial, rfl, (of_seq _ ys (by omega) _ (hy2.chg c4 (fun _ _ h => h))).mono ?_⟩
  rintro e w5 ⟨g5, l5, D5, rfl, s5, c5, _⟩
  gi_wp2_with fail
  refine ⟨trivial, rfl, (join_three _ (s4.no c5) s5).mono ?_⟩
  rintro e w6 ⟨g6, l6, D6, rfl, s6, c6, _⟩
  have c26 : Chg No w2 w6 := (c4.trans c5 (Grew.refl _ _)).trans c6 (Grew.refl _ _)
  have q6 := q2.chg c26 (fun _ _ h => h)
  have c06 : Chg No w3 w6 := c2.trans c26 (Grew.refl _ _)
  clear s4 s5 c4 c5 c6 c26 q2 c2 hx hy hx2 hy2
  obtain ⟨ts, hts⟩ : ∃ ts, Hid (ts = (xs ++ ys).take N.toNat) := ⟨_, rfl⟩
  obtain ⟨us, hus⟩ : ∃ us, Hid (us = upto L ((L + M) - L).toNat) := ⟨_, rfl⟩
  have hul : us.length = M.toNat := by rw [hus.out]; simp [upto]; omega
  have hlen : (xs ++ ys).length = xs.length + ys.length := List.length_append
  have hcap2 : xs.length + ys.length ≤ k2 := by obtain ⟨p', c', e, h, _⟩ := q6; injection e with e1 e2 e3; omega
  have hsl : ∀ kk : Nat, (N < 0 ∧ kk = 0) ∨ (N = kk ∧ kk ≤ xs.length + ys.length) ∨ (¬ N < ↑(xs.length + ys.length) ∧ kk = xs.length + ys.length) → SlI w6 (.slice p2 kk k2) ts := by
    rw [hts.out]
    rintro kk (⟨h, rfl⟩ | ⟨h, h2⟩ | ⟨h, rfl⟩)
    · rw [show N.toNat = 0 by omega]
      exact q6.take' 0 (Nat.zero_le _)
    · rw [h, Int.toNat_natCast]
      exact q6.take' kk h2
    · rw [List.take_of_length_le (by omega)]
      exact q6
  have HS : Hid (∀ kk : Nat, (N < 0 ∧ kk = 0) ∨ (N = kk ∧ kk ≤ xs.length + ys.length) ∨ (¬ N < ↑(xs.length + ys.length) ∧ kk = xs.length + ys.length) → SlI w6 (.slice p2 kk k2) ts) := hsl
  have huc : (M < 0 → us.length = 0) ∧ (∀ mm : Nat, M = mm → us.length = mm) := ⟨fun h => by omega, fun mm h => by omega⟩
  have HU : Hid ((M < 0 → us.length = 0) ∧ (∀ mm : Nat, M = mm → us.length = mm)) := huc
  clear hul huc hlen hsl
  gi_upto_region 6 with (fail)
  gi_cut [13] from 44 (fun t w => w = w6 ∧ ∃ kk : Nat, t = .int .i64 (kk : Int) ∧ kk ≤ xs.length + ys.length ∧ SlI w6 (.slice p2 kk k2) ts)
  case first =>
    by_cases hN0 : N < 0
    · gi_wp2
      all_goals gi_meet
      all_goals exact ⟨rfl, 0, rfl, Nat.zero_le _, HS.out 0 (.inl ⟨hN0, rfl⟩)⟩
    · obtain ⟨nn, rfl⟩ := Int.eq_ofNat_of_zero_le (show 0 ≤ N by omega)
      by_cases hlt : xs.length + ys.length < nn
      · have hlt' : ((xs.length : Int) + (ys.length : Int)) < (nn : Int) := by omega
        gi_wp2
        all_goals gi_meet
        all_goals exact ⟨rfl, xs.length + ys.length, by simp, Nat.le_refl _, HS.out _ (.inr (.inr ⟨by omega, rfl⟩))⟩
      · have hlt' : ¬ ((xs.length : Int) + (ys.length : Int)) < (nn : Int) := by omega
        gi_wp2
        all_goals gi_meet
        all_goals exact ⟨rfl, nn, rfl, by omega, HS.out nn (.inr (.inl ⟨rfl, by omega⟩))⟩
  obtain ⟨rfl, kk, rfl, hkk, q7⟩ := hcut
  clear HS
  gi_wp2_with fail
  refine ⟨trivial, rfl, (count_seq L (L + M) (by omega) (by omega) (by omega) (by omega) _).mono ?_⟩
  rintro e w7 ⟨g7, l7, D7, rfl, s7, c7, _⟩
  rw [← hus.out] at s7
  gi_wp2_with fail
  refine ⟨trivial, rfl, (list_seq (by rw [hus.out]; simp [upto]; omega) _ s7).mono ?_⟩
  rintro e w8 ⟨v8, rfl, r8, c8⟩
  have c68 : Chg No wc w8 := c7.trans c8 (Grew.refl _ _)
  have c08 : Chg No w3 w8 := c06.trans c68 (Grew.refl _ _)
  have s8 := s6.no c68
  have q8 := q6.chg c68 (fun _ _ h => h)
  have t8 := q7.chg c68 (fun _ _ h => h)
  have u8 := SlI.ofRow r8
  obtain ⟨p8, k8, rfl⟩ := row_slice r8
  clear s6 q6 q7 c68 c06 s7 c7 c8 r8
  have hmix : Try.prog.follows .mixedOrders = true := by kernel_rfl
  have cd : Chg No w8 w8.drew := (Chg.refl _ w8).drew
  replace s8 := s8.no cd
  replace q8 := q8.chg cd (fun _ _ h => h)
  replace t8 := t8.chg cd (fun _ _ h => h)
  replace u8 := u8.chg cd (fun _ _ h => h)
  replace c08 := c08.trans cd (Grew.refl _ _)
  clear cd
  have hbl : (xs ++ ys).length ≤ 1000000 := by simp; omega
  have htl : ts.length ≤ 1000000 := by rw [hts.out]; simp; omega
  have T1 : Tok 1 := trivial
  gi_upto_region 8 with (fail)
  gi_cut [77] from 55 (fun t w => t = .bool false ∧ Chg No w3 w ∧ SlI w (.slice p8 us.length k8) us)
  case first =>
    by_cases hM0 : M < 0
    all_goals first | (have hu := HU.out.1 hM0; have he : ((us.length : Int) != 0) = false := by rw [hu]; rfl) | (obtain ⟨mm, rfl⟩ := Int.eq_ofNat_of_zero_le (show 0 ≤ M by omega); have hu := HU.out.2 mm rfl; have he : ((us.length : Int) != (mm : Int)) = false := by rw [hu]; simp)
    all_goals clear hu
    all_goals gi_region_with_o (first
      | (revert T1; intro T0; clear T0; refine ⟨trivial, rfl, (list_seq hbl _ s8).mono ?_⟩; rintro e w9 ⟨v9, rfl, r9, c9⟩; have T2 : Tok 2 := trivial)
      | (revert T2; intro T0; clear T0; refine ⟨trivial, rfl, (same_in _ _ (xs ++ ys) (xs ++ ys) _ (SlI.ofRow r9) (q8.chg c9 (fun _ _ h => h))).mono ?_⟩; rintro e w10 ⟨rfl, c10⟩; simp only [decide_true]; have c810 := c9.trans c10 (Grew.refl _ _); have s10 := s8.no c810; have T3 : Tok 3 := trivial)
      | (revert T3; intro T0; clear T0; refine ⟨trivial, rfl, (take_seq _ (by omega) _ s10).mono ?_⟩; rintro e w11 ⟨g11, l11, D11, rfl, s11, c11, _⟩; rw [← hts.out] at s11; have T4 : Tok 4 := trivial)
      | (revert T4; intro T0; clear T0; refine ⟨trivial, rfl, (list_seq htl _ s11).mono ?_⟩; rintro e w12 ⟨v12, rfl, r12, c12⟩; have c812 := (c810.trans c11 (Grew.refl _ _)).trans c12 (Grew.refl _ _); have T5 : Tok 5 := trivial)
      | (revert T5; intro T0; clear T0; refine ⟨trivial, rfl, (same_in _ _ ts ts _ (SlI.ofRow r12) (t8.chg c812 (fun _ _ h => h))).mono ?_⟩; rintro e w13 ⟨rfl, c13⟩; simp only [decide_true]; have c813 := c812.trans c13 (Grew.refl _ _)))
    all_goals gi_wp2
    all_goals gi_meet
    all_goals exact ⟨rfl, c08.trans c813 (Grew.refl _ _), u8.chg c813 (fun _ _ h => h)⟩
  obtain ⟨rfl, c13, u13⟩ := hcut
  clear s8 q8 t8 T1 c08 u8 HU
  obtain ⟨p9, k9, e9, hk9, hm9, hcells⟩ := u13
  cases e9
  have hcell : ∀ i, i < us.length → ∃ b off, p8 = some ⟨b, off, none⟩ ∧ wc.cell? ⟨b, off + i, none⟩ = some (.int .i64 (L + (i : Int))) := fun i hi => by
    refine hcells i (L + (i : Int)) ?_
    rw [hus.out] at hi ⊢
    rw [upto_len] at hi
    exact upto_get L hi
  have hul : us.length ≤ 60 := by rw [hus.out]; simp [upto]; omega
  clear hcells
  gi_wp2
  gi_loopw [15] (fun i wr => wr = wc ∧ ∃ k : Nat, k ≤ us.length ∧ i = .int .i64 (k : Int)) (fun i _ => us.length - (intOf i).toNat)
  case atStart => exact ⟨rfl, 0, Nat.zero_le _, rfl⟩
  case round =>
    obtain ⟨rfl, k, hk, rfl⟩ := hrel
    by_cases hlt : k < us.length
    · obtain ⟨b9, o9, rfl, hc9⟩ := hcell k hlt
      have he : ((L + (k : Int)) != (L + (k : Int))) = false := by simp
      gi_wp2
      go_roundw
      case rel => exact ⟨trivial, k + 1, hlt, by go_num⟩
      case measure => simp [intOf]; omega
    · obtain rfl : k = us.length := by omega
      gi_wp2_with fail
      refine ⟨trivial, rfl, (join_none _).mono ?_⟩
      rintro e w14 ⟨g14, l14, D14, rfl, s14, c14⟩
      gi_wp2_with fail
      refine ⟨trivial, rfl, (list_seq (by simp) _ s14).mono ?_⟩
      rintro e w15 ⟨v15, rfl, r15, c15⟩
      obtain ⟨p15, k15, rfl⟩ := row_slice r15
      rw [List.length_nil]
      gi_wp2_with fail
      refine ⟨trivial, rfl, (list_nil _).mono ?_⟩
      rintro e w16 ⟨rfl, c16⟩
      gi_wp2_with fail
      refine ⟨trivial, rfl, (fold_nil _ _).mono ?_⟩
      rintro e w17 ⟨rfl, c17⟩
      gi_wp2_with fail
      refine ⟨trivial, rfl, (awake_in _).mono ?_⟩
      rintro e w18 ⟨rfl, c18⟩
      have cf : Chg No w3 w18 := ((((c13.trans c14 (Grew.refl _ _)).trans c15 (Grew.refl _ _)).trans c16 (Grew.refl _ _)).trans c17 (Grew.refl _ _)).trans c18 (Grew.refl _ _)
      gi_wp2
      go_ret
      exact ⟨rfl, cf⟩

end Go.Proofs.Ytkfcbfmfkheceaa
