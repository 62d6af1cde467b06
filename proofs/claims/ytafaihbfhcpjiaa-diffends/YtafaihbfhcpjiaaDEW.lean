/-
  DiffEnds answers true at every four lists of texts, and turns nothing that lay.
-/
import Derived.Test.YtafaihbfhcpjiaaDAwake
import Derived.Test.YtafaihbfhcpjiaaDLib2
import Derived.Test.YtafaihbfhcpjiaaTxtL
namespace Go.Proofs.Ytafaihbfhcpjiaa
open Go.RowKit Go.Shelf Go.SeqLib Go.DiffLib Go.BigFrame
attribute [local go_sem] Oper.semAt_some

set_option maxRecDepth 100000 in
set_option maxHeartbeats 4000000 in
theorem ends_law (pa : Option Addr) (la ca : Nat) (a : List ByteArray) (pb : Option Addr) (lb cb : Nat) (b : List ByteArray) (ph : Option Addr) (lh ch : Nat) (hd : List ByteArray) (pt : Option Addr) (lt ct : Nat) (tt : List ByteArray) (w : World)
    (ha : SlV w (.slice pa la ca) (a.map Value.string)) (hla : a.length = la) (hb : SlV w (.slice pb lb cb) (b.map Value.string)) (hlb : b.length = lb) (hh : SlV w (.slice ph lh ch) (hd.map Value.string)) (hlh : hd.length = lh) (ht : SlV w (.slice pt lt ct) (tt.map Value.string)) (hlt : tt.length = lt) :
    CallsIn Fence.wide 0 Try.prog 7 #[.slice pa la ca, .slice pb lb cb, .slice ph lh ch, .slice pt lt ct] w fun e w' => e = .returned (.bool true) ∧ Chg No w w' := by
  have hmix : Try.prog.follows .mixedOrders = true := by kernel_rfl
  have hgd := guard_pair
  have HA : Hid (a.length = la) := hla
  have HB : Hid (b.length = lb) := hlb
  have HH : Hid (hd.length = lh) := hlh
  have HT : Hid (tt.length = lt) := hlt
  clear hla hlb hlh hlt
  refine callsIn_of_wp Try.func7 rfl trivial ?_
  simp only [Try.ntmps7, List.size_toArray, List.length_cons, List.length_nil, Nat.reduceAdd, Nat.reduceSub, Array.replicate_succ, Array.replicate_zero, List.push_toArray, List.append_toArray, List.nil_append, List.cons_append]
  gi_wp2_with fail
  refine ⟨trivial, rfl, (great_in _ a 20 20 _ ha).mono ?_⟩
  rintro e w0 ⟨rfl, rfl⟩
  obtain ⟨g, hg⟩ : ∃ g, greatB a 20 20 = g := ⟨_, rfl⟩
  rw [hg]
  cases g
  · have hn1 := (greatB_false hg).1
    rw [HA.out] at hn1
    clear hg
    gi_wp2_with fail
    refine ⟨trivial, rfl, (great_in _ b 20 20 _ hb).mono ?_⟩
    rintro e w0 ⟨rfl, rfl⟩
    obtain ⟨g, hg⟩ : ∃ g, greatB b 20 20 = g := ⟨_, rfl⟩
    rw [hg]
    cases g
    · have hn2 := (greatB_false hg).1
      rw [HB.out] at hn2
      clear hg
      gi_wp2_with fail
      refine ⟨trivial, rfl, (great_in _ hd 20 20 _ hh).mono ?_⟩
      rintro e w0 ⟨rfl, rfl⟩
      obtain ⟨g, hg⟩ : ∃ g, greatB hd 20 20 = g := ⟨_, rfl⟩
      rw [hg]
      cases g
      · have hn3 := (greatB_false hg).1
        rw [HH.out] at hn3
        clear hg
        gi_wp2_with fail
        refine ⟨trivial, rfl, (great_in _ tt 20 20 _ ht).mono ?_⟩
        rintro e w0 ⟨rfl, rfl⟩
        obtain ⟨g, hg⟩ : ∃ g, greatB tt 20 20 = g := ⟨_, rfl⟩
        rw [hg]
        cases g
        · have hn4 := (greatB_false hg).1
          rw [HT.out] at hn4
          clear hg
          gi_wp2_with (first
            | (gi_at_builtin; refine wpListIn_append_sv _ rfl _ _ rfl w0.heap.size _ 0 [] rfl (World.ownsRow_nil _ _ _ _) ph lh ch hd rfl hh (by omega) (Nat.le_refl _) ?_; intro v1 W1 o1 g1 _; rw [Nat.zero_add] at o1; have c1 : Chg No w0 W1 := (Chg.refl _ w0).grown g1 (fun k e => by cases e); obtain ⟨p1, k1, rfl⟩ := row_slice o1; have ha1 := ha.no c1)
            | (gi_at_builtin; refine wpListIn_append_sv _ rfl _ _ rfl w0.heap.size _ lh _ rfl o1 pa la ca a rfl ha1 (by omega) c1.size ?_; intro v2 W2 o2 g2 _; have c2 : Chg No w0 W2 := c1.grown g2 (fun k e => .inr (o1.lt k e).1); obtain ⟨p2, k2, rfl⟩ := row_slice o2; have ht2 := ht.no c2)
            | (gi_at_builtin; refine wpListIn_append_sv _ rfl _ _ rfl w0.heap.size _ (lh + la) _ rfl o2 pt lt ct tt rfl ht2 (by omega) c2.size ?_; intro v3 W3 o3 g3 _; have c3 : Chg No w0 W3 := c2.grown g3 (fun k e => .inr (o2.lt k e).1); obtain ⟨p3, k3, rfl⟩ := row_slice o3; have hh3 := hh.no c3; have hb3 := hb.no c3; have ht3 := ht.no c3)
            | (gi_at_builtin; refine wpListIn_append_sv _ rfl _ _ rfl W3.heap.size _ 0 [] rfl (World.ownsRow_nil _ _ _ _) ph lh ch hd rfl hh3 (by omega) (Nat.le_refl _) ?_; intro v4 W4 o4 g4 _; rw [Nat.zero_add] at o4; have c4 : Chg No W3 W4 := (Chg.refl _ W3).grown g4 (fun k e => by cases e); obtain ⟨p4, k4, rfl⟩ := row_slice o4; have hb4 := hb3.no c4)
            | (gi_at_builtin; refine wpListIn_append_sv _ rfl _ _ rfl W3.heap.size _ lh _ rfl o4 pb lb cb b rfl hb4 (by omega) c4.size ?_; intro v5 W5 o5 g5 _; have c5 : Chg No W3 W5 := c4.grown g5 (fun k e => .inr (o4.lt k e).1); obtain ⟨p5, k5, rfl⟩ := row_slice o5; have ht5 := ht3.no c5)
            | (gi_at_builtin; refine wpListIn_append_sv _ rfl _ _ rfl W3.heap.size _ (lh + lb) _ rfl o5 pt lt ct tt rfl ht5 (by omega) c5.size ?_; intro v6 W6 o6 g6 _; have c6 : Chg No W3 W6 := c5.grown g6 (fun k e => .inr (o5.lt k e).1); obtain ⟨p6, k6, rfl⟩ := row_slice o6))
          obtain ⟨X, HX⟩ : ∃ X, Hid (hd ++ a ++ tt = X) := ⟨_, rfl⟩
          obtain ⟨Y, HY⟩ : ∃ Y, Hid (hd ++ b ++ tt = Y) := ⟨_, rfl⟩
          have HXL : Hid (X.length = lh + la + lt) := by show _ = _; rw [← HX.out, List.length_append, List.length_append, HH.out, HA.out, HT.out]
          have HYL : Hid (Y.length = lh + lb + lt) := by show _ = _; rw [← HY.out, List.length_append, List.length_append, HH.out, HB.out, HT.out]
          have sx3 : SlV W3 (.slice p3 (lh + la + lt) k3) (X.map Value.string) := SlV.ofRow (by rw [List.length_map, HXL.out, ← HX.out, List.map_append, List.map_append]; exact o3)
          have sy6 : SlV W6 (.slice p6 (lh + lb + lt) k6) (Y.map Value.string) := SlV.ofRow (by rw [List.length_map, HYL.out, ← HY.out, List.map_append, List.map_append]; exact o6)
          have sx6 := sx3.no c6
          have c06 := Chg.seq c3 c6
          have ha6 := (ha.no c3).no c6
          have hb6 := hb3.no c6
          have htl := ends_tl hd a b tt
          have hat := ends_at hd a b tt
          rw [HX.out, HY.out] at htl hat
          rw [HH.out, HT.out] at htl
          rw [HH.out] at hat
          have hinc := pr_inc0 X Y
          have hlike := pr_like X Y 0 0
          have hlen := pr_length X Y 0 0
          have hlx : X.length ≤ 60 := by rw [HXL.out]; omega
          have hly : Y.length ≤ 60 := by rw [HYL.out]; omega
          have hP := pairs_in _ _ X Y _ sx6 sy6 (by omega) (by omega)
          clear o1 o2 o3 o4 o5 o6 g1 g2 g3 g4 g5 g6 c1 c2 c4 c5 sx3 ha1 ht2 hh3 hb3 ht3 hb4 ht5 ha hb hh ht c3 c6
          generalize lh + la + lt = lx at *
          generalize lh + lb + lt = ly at *
          refine ⟨trivial, rfl, hP.mono ?_⟩
          rintro e W7 ⟨v7, rfl, r7, c7⟩
          have s7 : SlP W7 v7 (pr X Y 0 0) := SlE.ofRow eP_len r7
          obtain ⟨p7, k7, rfl⟩ := row_slice r7
          rw [hlen] at r7 ⊢
          rw [hlen] at s7
          obtain ⟨n, HN⟩ : ∃ n, Hid (tl X Y = n) := ⟨_, rfl⟩
          obtain ⟨m, HM⟩ : ∃ m, Hid (tl a b = m) := ⟨_, rfl⟩
          have hn : n ≤ 60 := by rw [← HN.out]; exact Nat.le_trans (tl_le X Y).1 hlx
          have hm : m ≤ 20 := by rw [← HM.out]; exact Nat.le_trans (tl_le a b).1 (by rw [HA.out]; exact hn1)
          rw [HN.out] at s7 r7 hlen htl ⊢
          rw [HM.out] at htl
          obtain ⟨ps, HPS⟩ : ∃ ps, Hid (pr X Y 0 0 = ps) := ⟨_, rfl⟩
          rw [HPS.out] at s7 hat hinc hlike hlen
          have HAT : Hid (∀ k, k < lh → ps[k]? = some (k, k)) := hat
          have HINC : Hid (Inc X.length Y.length 0 0 ps) := hinc
          have HLIKE : Hid (∀ p ∈ ps, ∃ x, X[p.1]? = some x ∧ Y[p.2]? = some x) := fun p hp => by
            obtain ⟨_, _, x, h1, h2⟩ := hlike p hp
            exact ⟨x, h1, h2⟩
          have HLEN : Hid (ps.length = n) := hlen
          have HTL : Hid (n = lh + m + lt) := htl
          have sx7 := sx6.no c7
          have sy7 := sy6.no c7
          have ha7 := ha6.no c7
          have hb7 := hb6.no c7
          have c07 := Chg.seq c06 c7
          have hL1 := length_in _ _ X Y _ sx7 sy7 (by omega) (by omega)
          rw [HN.out] at hL1
          clear hP r7 hat hinc hlike hlen htl sx6 sy6 ha6 hb6 c06 c7
          gi_wp2_with fail
          refine ⟨trivial, rfl, hL1.mono ?_⟩
          rintro e W8 ⟨rfl, c8⟩
          have hL2 := length_in _ _ a b _ (ha7.no c8) (hb7.no c8) (by rw [HA.out]; omega) (by rw [HB.out]; omega)
          rw [HM.out] at hL2
          gi_wp2_with fail
          refine ⟨trivial, rfl, hL2.mono ?_⟩
          rintro e W9 ⟨rfl, c9⟩
          have sx9 := (sx7.no c8).no c9
          have sy9 := (sy7.no c8).no c9
          have s9 : SlP W9 (.slice p7 n k7) ps := SlE.no eP_len (by decide) (SlE.no eP_len (by decide) s7 c8) c9
          have c09 := Chg.seq (Chg.seq c07 c8) c9
          have hL3 := length_in _ _ X Y _ sx9 sy9 (by omega) (by omega)
          rw [HN.out] at hL3
          have d1 : ((n : Int) != (lh : Int) + (m : Int) + (lt : Int)) = false := by rw [HTL.out]; simp
          have d2 : ((n : Int) != (n : Int)) = false := by simp
          clear hL1 hL2 c8 c9 c07 sx7 sy7 ha7 hb7 s7
          gi_wp2_with fail
          refine ⟨trivial, rfl, hL3.mono ?_⟩
          rintro e W10 ⟨rfl, c10⟩
          have sx10 := sx9.no c10
          have sy10 := sy9.no c10
          have s10 : SlP W10 (.slice p7 n k7) ps := SlE.no eP_len (by decide) s9 c10
          have c010 := Chg.seq c09 c10
          clear hL3 c10 c09 sx9 sy9 s9
          gi_wp2
          gi_loopw [12] (fun vi wr => ∃ i : Nat, i ≤ n ∧ vi = .int .i64 (i : Int) ∧ Chg No W10 wr) (fun vi _ => n - (intOf vi).toNat)
          case atStart => exact ⟨0, Nat.zero_le _, rfl, Chg.refl _ _⟩
          case round =>
            obtain ⟨i, hi, rfl, cw⟩ := hrel
            by_cases hi1 : i < n
            · have hi1' : (i : Int) < (n : Int) := by omega
              have hip : i < ps.length := by rw [HLEN.out]; exact hi1
              obtain ⟨x, hx⟩ : ∃ x, ps[i]? = some x := ⟨_, List.getElem?_eq_getElem hip⟩
              have s11 : SlP wr (.slice p7 n k7) ps := SlE.no eP_len (by decide) s10 cw
              obtain ⟨tx, t1, t2⟩ := HLIKE.out x (List.mem_of_getElem? hx)
              obtain ⟨bp, op, rfl, y1, y2⟩ := SlP.at s11 i x hx
              have b1 : x.1 < lx := by rw [← HXL.out]; exact (List.getElem?_eq_some_iff.1 t1).1
              have b2 : x.2 < ly := by rw [← HYL.out]; exact (List.getElem?_eq_some_iff.1 t2).1
              obtain ⟨bx, ox, rfl, z1⟩ : ∃ bx ox, p3 = some ⟨bx, ox, none⟩ ∧ wr.cell? ⟨bx, ox + x.1, none⟩ = some (.string tx) := by
                obtain ⟨p', cap', e, _, _, hc⟩ := sx10.no cw
                cases e
                exact hc x.1 (.string tx) (by rw [List.getElem?_map, t1]; rfl)
              obtain ⟨by', oy, rfl, z2⟩ : ∃ by' oy, p6 = some ⟨by', oy, none⟩ ∧ wr.cell? ⟨by', oy + x.2, none⟩ = some (.string tx) := by
                obtain ⟨p', cap', e, _, _, hc⟩ := sy10.no cw
                cases e
                exact hc x.2 (.string tx) (by rw [List.getElem?_map, t2]; rfl)
              have HPV : Hid (∀ k, i = k + 1 → ∃ u1 u2 : Nat, u1 < x.1 ∧ u2 < x.2 ∧ wr.cell? ⟨bp, op + k * 2, none⟩ = some (.int .i64 (u1 : Int)) ∧ wr.cell? ⟨bp, op + k * 2 + 1, none⟩ = some (.int .i64 (u2 : Int))) := by
                intro k hk
                have hkp : k < ps.length := by omega
                obtain ⟨u, hu⟩ : ∃ u, ps[k]? = some u := ⟨_, List.getElem?_eq_getElem hkp⟩
                obtain ⟨g1, g2⟩ := HINC.out.get k u x hu (by rw [← hk]; exact hx)
                obtain ⟨b9, o9, e9, c1, c2⟩ := SlP.at s11 k u hu
                cases e9
                exact ⟨u.1, u.2, g1, g2, c1, c2⟩
              have HXI : Hid (i < lh → x = (i, i)) := fun h => by have := HAT.out i h; rw [hx] at this; exact Option.some.inj this
              have hte : (tx.toList == tx.toList) = true := by simp
              obtain ⟨x1, x2⟩ := x
              simp only at y1 y2 z1 z2 b1 b2 HPV
              have hn1' : decide ((x1 : Int) < 0) = false := decide_eq_false (by omega)
              have hn2' : decide ((x2 : Int) < 0) = false := decide_eq_false (by omega)
              have hl1 : decide (lx ≤ x1) = false := decide_eq_false (by omega)
              have hl2 : decide (ly ≤ x2) = false := decide_eq_false (by omega)
              clear hx t1 t2 hip s11
              by_cases hih : i < lh
              · have hih' : decide ((i : Int) < (lh : Int)) = true := decide_eq_true (by omega)
                have hne : ∀ w, (binOp .neq 50 (.agg #[.int .i64 (x1 : Int), .int .i64 (x2 : Int)]) (.agg #[.int .i64 (i : Int), .int .i64 (i : Int)])).run Try.prog w = .ok (.bool false) w := fun w => by
                  have hxi := HXI.out hih
                  rw [Prod.mk.injEq] at hxi
                  rw [run_neq_pair, hxi.1, hxi.2]; simp
                by_cases h0 : 0 < i
                · have h0' : decide ((0 : Int) < (i : Int)) = true := decide_eq_true (by omega)
                  obtain ⟨k, hk⟩ : ∃ k, i = k + 1 := ⟨i - 1, by omega⟩
                  obtain ⟨u1, u2, l1, l2, q1, q2⟩ := HPV.out k hk
                  have hki : (i : Int) - 1 = (k : Int) := by omega
                  have hkn : (k : Int) < (n : Int) := by omega
                  have hu1 : decide (x1 ≤ u1) = false := decide_eq_false (by omega)
                  have hu2 : decide (x2 ≤ u2) = false := decide_eq_false (by omega)
                  clear hk
                  gi_wp2
                  refine region_quiet_sees hmix (by kernel_rfl) ?_
                  simp only [List.append_eq, List.cons_append, List.nil_append]
                  repeat (gi_big_quiet_step (fail))
                  refine wpQuietIn_nil ?_
                  rintro w' ⟨j1, rfl⟩
                  gi_wp2
                  go_roundw
                  case rel => exact ⟨i + 1, hi1, by go_num, drewNC cw _⟩
                  case measure => simp [intOf]; omega
                · have h0' : decide ((0 : Int) < (i : Int)) = false := decide_eq_false (by omega)
                  gi_wp2
                  refine region_quiet_sees hmix (by kernel_rfl) ?_
                  simp only [List.append_eq, List.cons_append, List.nil_append]
                  repeat (gi_big_quiet_step (fail))
                  refine wpQuietIn_nil ?_
                  rintro w' ⟨j1, rfl⟩
                  gi_wp2
                  go_roundw
                  case rel => exact ⟨i + 1, hi1, by go_num, drewNC cw _⟩
                  case measure => simp [intOf]; omega
              · have hih' : decide ((i : Int) < (lh : Int)) = false := decide_eq_false (by omega)
                by_cases h0 : 0 < i
                · have h0' : decide ((0 : Int) < (i : Int)) = true := decide_eq_true (by omega)
                  obtain ⟨k, hk⟩ : ∃ k, i = k + 1 := ⟨i - 1, by omega⟩
                  obtain ⟨u1, u2, l1, l2, q1, q2⟩ := HPV.out k hk
                  have hki : (i : Int) - 1 = (k : Int) := by omega
                  have hkn : (k : Int) < (n : Int) := by omega
                  have hu1 : decide (x1 ≤ u1) = false := decide_eq_false (by omega)
                  have hu2 : decide (x2 ≤ u2) = false := decide_eq_false (by omega)
                  clear hk
                  gi_wp2
                  refine region_quiet_sees hmix (by kernel_rfl) ?_
                  simp only [List.append_eq, List.cons_append, List.nil_append]
                  repeat (gi_big_quiet_step (fail))
                  refine wpQuietIn_nil ?_
                  rintro w' ⟨j1, rfl⟩
                  gi_wp2
                  go_roundw
                  case rel => exact ⟨i + 1, hi1, by go_num, drewNC cw _⟩
                  case measure => simp [intOf]; omega
                · have h0' : decide ((0 : Int) < (i : Int)) = false := decide_eq_false (by omega)
                  gi_wp2
                  refine region_quiet_sees hmix (by kernel_rfl) ?_
                  simp only [List.append_eq, List.cons_append, List.nil_append]
                  repeat (gi_big_quiet_step (fail))
                  refine wpQuietIn_nil ?_
                  rintro w' ⟨j1, rfl⟩
                  gi_wp2
                  go_roundw
                  case rel => exact ⟨i + 1, hi1, by go_num, drewNC cw _⟩
                  case measure => simp [intOf]; omega
            · obtain rfl : i = n := by omega
              have hi1' : ¬ (i : Int) < (i : Int) := by omega
              have cE := Chg.seq c010 cw
              gi_wp2_with fail
              refine ⟨trivial, rfl, (awake_in _).mono ?_⟩
              rintro e W12 ⟨rfl, c12⟩
              gi_wp2
              go_ret
              exact ⟨rfl, Chg.seq cE c12⟩
        · gi_wp2_with fail
          refine ⟨trivial, rfl, (awake_in _).mono ?_⟩
          rintro e w1 ⟨rfl, c1⟩
          gi_wp2
          go_ret
          exact ⟨rfl, c1⟩
      · gi_wp2_with fail
        refine ⟨trivial, ?_⟩
        rename_i hKK
        apply hKK
        gi_wp2_with fail
        refine ⟨trivial, rfl, (awake_in _).mono ?_⟩
        rintro e w1 ⟨rfl, c1⟩
        gi_wp2
        go_ret
        exact ⟨rfl, c1⟩
    · gi_wp2_with fail
      refine ⟨trivial, ?_⟩
      rename_i hKK
      apply hKK
      gi_wp2_with fail
      refine ⟨trivial, ?_⟩
      rename_i hKK
      apply hKK
      gi_wp2_with fail
      refine ⟨trivial, rfl, (awake_in _).mono ?_⟩
      rintro e w1 ⟨rfl, c1⟩
      gi_wp2
      go_ret
      exact ⟨rfl, c1⟩
  · gi_wp2_with fail
    refine ⟨trivial, ?_⟩
    rename_i hKK
    apply hKK
    gi_wp2_with fail
    refine ⟨trivial, ?_⟩
    rename_i hKK
    apply hKK
    gi_wp2_with fail
    refine ⟨trivial, ?_⟩
    rename_i hKK
    apply hKK
    gi_wp2_with fail
    refine ⟨trivial, rfl, (awake_in _).mono ?_⟩
    rintro e w1 ⟨rfl, c1⟩
    gi_wp2
    go_ret
    exact ⟨rfl, c1⟩

end Go.Proofs.Ytafaihbfhcpjiaa
