/-
  PatchBack answers true at every two lists of files, and turns nothing that lay.
-/
import Derived.Test.YtndblaemladppaaDoorCAwake
import Derived.Test.YtndblaemladppaaDoorCTurn
import Derived.Test.YtndblaemladppaaDoorGFile
import Derived.Test.YtndblaemladppaaDoorFMay
import Derived.Test.YtndblaemladppaaDoorQuiet
import Derived.Shelf.RegionOpen
import Derived.Sort.QuietThIn
import Derived.Laws.Cover1
namespace Go.TreeLib
open Go
theorem turn_turn (c : Chn) : turn1 (turn1 c) = c := rfl
theorem turnP_length (cs : List Chn) : (turnP cs).length = cs.length := by unfold turnP; rw [List.length_reverse, List.length_map]
theorem turnP_get {cs : List Chn} {i : Nat} (h : i < cs.length) : (turnP cs)[cs.length - 1 - i]? = some (turn1 cs[i]) := by
  unfold turnP
  rw [List.getElem?_reverse (by rw [List.length_map]; omega), List.length_map, show cs.length - 1 - (cs.length - 1 - i) = i by omega, List.getElem?_map, List.getElem?_eq_getElem h]
  rfl
end Go.TreeLib
namespace Go.Proofs.YtndblaemladppaaDoor
open Go.RowKit Go.Shelf Go.SeqLib Go.DiffLib Go.BigFrame Go.TreeLib
attribute [local go_sem] Oper.semAt_some

set_option maxRecDepth 100000 in
set_option maxHeartbeats 8000000 in
theorem back_law (p0 : Option Addr) (na ca : Nat) (a : List Fl) (p1 : Option Addr) (nb cb : Nat) (b : List Fl) (w : World) (ha : SlF w (.slice p0 na ca) a) (hna : a.length = na) (hb : SlF w (.slice p1 nb cb) b) (hnb : b.length = nb) :
    CallsIn Fence.wide 0 Tryd.prog 3 #[.slice p0 na ca, .slice p1 nb cb] w fun e w' => e = .returned (.bool true) ∧ Chg No w w' := by
  have hmix : Tryd.prog.follows .mixedOrders = true := by kernel_rfl
  have HNA : Hid (a.length = na) := hna
  have HNB : Hid (b.length = nb) := hnb
  clear hna hnb
  refine callsIn_of_wp Tryd.func3 rfl trivial ?_
  simp only [Tryd.ntmps3, List.size_toArray, List.length_cons, List.length_nil, Nat.reduceAdd, Nat.reduceSub, Array.replicate_succ, Array.replicate_zero, List.push_toArray, List.append_toArray, List.nil_append, List.cons_append]
  gi_wp2_with fail
  refine ⟨trivial, rfl, (greatF_in (.slice p0 na ca) a 12 _ ha).mono ?_⟩
  rintro e x0 ⟨rfl, rfl⟩
  cases hg : greatF a 12 with
  | true =>
    gi_wp2_with fail
    refine ⟨trivial, ?_⟩
    rename_i hKK
    apply hKK
    gi_wp2_with fail
    refine ⟨trivial, ?_⟩
    rename_i hKK
    apply hKK
    gi_wp2_with fail
    refine ⟨trivial, ?_⟩
    rename_i hKK
    apply hKK
    gi_wp2_with fail
    refine ⟨trivial, rfl, (awake_in _).mono ?_⟩
    rintro e w9 ⟨rfl, c9⟩
    gi_wp2
    go_ret
    exact ⟨rfl, c9⟩
  | false =>
  obtain ⟨hlen0, hsz0⟩ := greatF_false hg
  clear hg
  gi_wp2_with fail
  refine ⟨trivial, rfl, (greatF_in (.slice p1 nb cb) b 12 _ hb).mono ?_⟩
  rintro e x1 ⟨rfl, rfl⟩
  cases hg : greatF b 12 with
  | true =>
    gi_wp2_with fail
    refine ⟨trivial, ?_⟩
    rename_i hKK
    apply hKK
    gi_wp2_with fail
    refine ⟨trivial, ?_⟩
    rename_i hKK
    apply hKK
    gi_wp2_with fail
    refine ⟨trivial, rfl, (awake_in _).mono ?_⟩
    rintro e w9 ⟨rfl, c9⟩
    gi_wp2
    go_ret
    exact ⟨rfl, c9⟩
  | false =>
  obtain ⟨hlen1, hsz1⟩ := greatF_false hg
  clear hg
  gi_wp2_with fail
  refine ⟨trivial, rfl, (may_in (.slice p0 na ca) a (fun f hf => by have := (hsz0 f hf).1; omega) _ ha).mono ?_⟩
  rintro e y0 ⟨rfl, cm0⟩
  cases hm0 : mayB a with
  | false =>
    gi_wp2_with fail
    refine ⟨trivial, ?_⟩
    rename_i hKK
    apply hKK
    gi_wp2_with fail
    refine ⟨trivial, rfl, (awake_in _).mono ?_⟩
    rintro e w9 ⟨rfl, c9⟩
    gi_wp2
    go_ret
    exact ⟨rfl, Chg.seq cm0 c9⟩
  | true =>
  have hT0 := mayB_iff.1 hm0
  clear hm0
  have cg0 := cm0
  gi_wp2_with fail
  refine ⟨trivial, rfl, (may_in (.slice p1 nb cb) b (fun f hf => by have := (hsz1 f hf).1; omega) _ (hb.no cg0)).mono ?_⟩
  rintro e y1 ⟨rfl, cm1⟩
  cases hm1 : mayB b with
  | false =>
    gi_wp2_with fail
    refine ⟨trivial, rfl, (awake_in _).mono ?_⟩
    rintro e w9 ⟨rfl, c9⟩
    gi_wp2
    go_ret
    exact ⟨rfl, Chg.seq (Chg.seq cg0 cm1) c9⟩
  | true =>
  have hT1 := mayB_iff.1 hm1
  clear hm1
  have cg1 := Chg.seq cg0 cm1
  have hOa := hT0.once
  have hOb := hT1.once
  have a1 := ha.no cg1
  have b1 := hb.no cg1
  have O1 := of_in _ _ a b (by omega) (by omega) y1 a1 b1
  have O2 := fun W h1 h2 => of_in (.slice p1 nb cb) (.slice p0 na ca) b a (by omega) (by omega) W h1 h2
  have hdl := ofP_length a b
  have A1 := fun u W h1 h2 => apply_in (.slice p0 na ca) u a (ofP a b) (by omega) W h1 h2
  have A2 := fun u W h1 h2 => apply_in (.slice p1 nb cb) u b (turnP (ofP a b)) (by rw [turnP_length]; omega) W h1 h2
  have A3 := fun u W h1 h2 => apply_in (.slice p1 nb cb) u b (ofP a b) (by omega) W h1 h2
  have T1 := fun u W h => turn_in u (ofP a b) (by omega) W h
  have l1 : appL a (ofP a b) = b := by unfold appL; rw [app_of hOa hOb]; rfl
  have l2 : appB a (ofP a b) = true := by unfold appB; rw [app_of hOa hOb]; rfl
  have l3 : appL b (turnP (ofP a b)) = a := by unfold appL; rw [app_turn hOa hOb]; rfl
  have l4 : appB b (turnP (ofP a b)) = true := by unfold appB; rw [app_turn hOa hOb]; rfl
  have l5 : appB b (ofP a b) = decide ((ofP a b).length = 0) := app_none a b
  have l6 : decide (a = b) = decide ((ofP a b).length = 0) := by rw [decide_eq_decide]; exact (of_nil hOa hOb).symm
  rw [l1, l2] at A1
  rw [l3, l4] at A2
  rw [l5] at A3
  generalize appL b (ofP a b) = nn at A3
  have HR : Hid ((ofP a b).Pairwise (fun x y => lt x.1 y.1 = true)) := of_rise a b
  have HB : Hid (ofP b a = (ofP a b).map turn1) := of_back a b
  have S1 := fun t W h1 h2 => sameF_in t (.slice p1 nb cb) b b W h1 h2 (by omega)
  have S2 := fun t W h1 h2 => sameF_in t (.slice p0 na ca) a a W h1 h2 (by omega)
  have S3 := fun W h1 h2 => sameF_in (.slice p0 na ca) (.slice p1 nb cb) a b W h1 h2 (by omega)
  rw [decide_eq_true rfl] at S1 S2
  rw [l6] at S3
  generalize ofP a b = d1 at *
  generalize ofP b a = d2 at *
  obtain ⟨n, hn⟩ : ∃ n, d1.length = n := ⟨_, rfl⟩
  have hn24 : n ≤ 24 := by omega
  have HN : Hid (d1.length = n) := hn
  have HD2 : Hid (d2.length = n) := by show _ = _; rw [HB.out, List.length_map, hn]
  have HTN : Hid ((turnP d1).length = n) := (turnP_length d1).trans hn
  rw [hn] at A3 S3
  obtain ⟨z, hz⟩ : ∃ z, decide (n = 0) = z := ⟨_, rfl⟩
  rw [hz] at A3 S3
  have hqz : ((n : Int) == 0) = z := by
    rw [← hz]
    by_cases e : n = 0
    · subst e; rfl
    · rw [decide_eq_false e, beq_eq_false_iff_ne]; omega
  have HZ : Hid (decide (n = 0) = z) := hz
  have hzz : (z != z) = false := by simp
  clear hT0 hT1 hOa hOb cg0 cm0 cm1 hn hdl l1 l2 l3 l4 l5 l6 hz
  gi_wp2_with fail
  refine ⟨trivial, rfl, O1.mono ?_⟩
  rintro e z1 ⟨v1, rfl, r1, k1⟩
  obtain ⟨q1, t1, rfl⟩ := OwnC.slice r1
  have s1 := OwnC.sl r1
  rw [HN.out] at s1 ⊢
  have a2 := a1.no k1
  have b2 := b1.no k1
  have cz1 := Chg.seq cg1 k1
  clear O1 r1 a1 b1 k1
  gi_wp2_with fail
  refine ⟨trivial, rfl, (A1 _ _ a2 s1).mono ?_⟩
  rintro e z2 ⟨v2, rfl, r2, k2⟩
  obtain ⟨q2, t2, rfl⟩ := r2.slice
  gi_wp2_with fail
  refine ⟨trivial, rfl, (T1 _ _ (s1.no k2)).mono ?_⟩
  rintro e z3 ⟨v3, rfl, r3, k3⟩
  obtain ⟨q3, t3, rfl⟩ := OwnC.slice r3
  have s3 := OwnC.sl r3
  have k23 := Chg.seq k2 k3
  gi_wp2_with fail
  refine ⟨trivial, rfl, (A2 _ _ (b2.no k23) s3).mono ?_⟩
  rintro e z4 ⟨v4, rfl, r4, k4⟩
  obtain ⟨q4, t4, rfl⟩ := r4.slice
  have k24 := Chg.seq k23 k4
  gi_wp2_with fail
  refine ⟨trivial, rfl, (A3 _ _ (b2.no k24) (s1.no k24)).mono ?_⟩
  rintro e z5 ⟨v5, rfl, r5, k5⟩
  have k25 := Chg.seq k24 k5
  have r25 := r2.no (Chg.seq k3 (Chg.seq k4 k5))
  have r45 := r4.no k5
  have a5 := a2.no k25
  have b5 := b2.no k25
  have s5 := s1.no k25
  have cz5 := Chg.seq cz1 k25
  clear A1 A2 A3 r5 s3 r3 r2 r4 k2 k3 k23 k4 k24 k5 k25 a2 b2 s1 cz1
  gi_wp2_with fail
  refine ⟨trivial, rfl, (S1 _ _ r25.sl b5).mono ?_⟩
  rintro e z6 ⟨rfl, k6⟩
  gi_wp2_with fail
  refine ⟨trivial, rfl, (S2 _ _ (r45.sl.no k6) (a5.no k6)).mono ?_⟩
  rintro e z7 ⟨rfl, k7⟩
  have k67 := Chg.seq k6 k7
  gi_wp2_with fail
  refine ⟨trivial, rfl, (S3 _ (a5.no k67) (b5.no k67)).mono ?_⟩
  rintro e z8 ⟨rfl, k8⟩
  have k68 := Chg.seq k67 k8
  have a8 := a5.no k68
  have b8 := b5.no k68
  have s8 := s5.no k68
  have cz8 := Chg.seq cz5 k68
  clear S1 S2 S3 r25 r45 k6 k7 k67 k8 k68 a5 b5 s5 cz5
  gi_wp2_with fail
  refine ⟨trivial, rfl, (T1 _ _ s8).mono ?_⟩
  rintro e z9 ⟨v9, rfl, r9, k9⟩
  obtain ⟨q9, t9, rfl⟩ := OwnC.slice r9
  have s9 := OwnC.sl r9
  rw [HTN.out] at s9 ⊢
  clear r9 T1
  gi_wp2_with fail
  refine ⟨trivial, rfl, (O2 _ (b8.no k9) (a8.no k9)).mono ?_⟩
  rintro e z10 ⟨v10, rfl, r10, k10⟩
  obtain ⟨q10, t10, rfl⟩ := OwnC.slice r10
  have s10 := OwnC.sl r10
  rw [HD2.out] at s10 ⊢
  have s910 := s9.no k10
  have s810 := s8.no (Chg.seq k9 k10)
  have cz10 := Chg.seq cz8 (Chg.seq k9 k10)
  clear r10 O2 s9 s8 a8 b8 k9 k10 cz8
  have hgd := guard_change
  gi_wp2
  gi_loopw [14] (fun i wr => ∃ k : Nat, k ≤ n ∧ i = .int .i64 (k : Int) ∧ Chg No z10 wr) (fun i _ => n - (intOf i).toNat)
  case atStart => exact ⟨0, Nat.zero_le _, rfl, Chg.refl _ _⟩
  case round =>
    obtain ⟨k, hk, rfl, c⟩ := hrel
    by_cases hlt : k < n
    · have hlt' : (k : Int) < (n : Int) := by omega
      have hkd : k < d1.length := by rw [HN.out]; exact hlt
      obtain ⟨x, hx⟩ : ∃ x, d1[k] = x := ⟨_, rfl⟩
      have HX : Hid (d1[k]? = some x) := by show _ = _; rw [List.getElem?_eq_getElem hkd, hx]
      have hxt : (turnP d1)[n - 1 - k]? = some (turn1 x) := by rw [← HN.out, turnP_get hkd, hx]
      have hxb : d2[k]? = some (turn1 x) := by rw [HB.out, List.getElem?_map, HX.out]; rfl
      obtain ⟨m, hm⟩ : ∃ m, n - 1 - k = m := ⟨_, rfl⟩
      have hmz : (n : Int) - 1 - (k : Int) = (m : Int) := by omega
      have hmn : (m : Int) < (n : Int) := by omega
      rw [hm] at hxt
      obtain ⟨p, c1, c2, od, nw⟩ := x
      obtain ⟨bt, ot, rfl, t1, t2, t3, t4, t5⟩ := SlC.at (s910.no c) m _ hxt
      obtain ⟨bb, ob, rfl, g1, g2, g3, g4, g5⟩ := SlC.at (s10.no c) k _ hxb
      have ca : Chg No wr (wr.alloc (.cells #[.string p, .bool c2, .bool c1, .string nw, .string od] 33)) := (Chg.refl _ wr).alloc _
      have cca := Chg.seq c ca
      obtain ⟨bb', ob', e', g1', g2', g3', g4', g5'⟩ := SlC.at (s10.no cca) k _ hxb
      cases e'
      obtain ⟨bc, oc, rfl, f1, f2, f3, f4, f5⟩ := SlC.at (s810.no cca) k _ HX.out
      have hne := run_neq_change (turn1 (p, c1, c2, od, nw)) (turn1 (p, c1, c2, od, nw))
      rw [decide_eq_true rfl] at hne
      dsimp only [turn1, vC] at hne t1 t2 t3 t4 t5 g1 g2 g3 g4 g5 g1' g2' g3' g4' g5' f1 f2 f3 f4 f5
      have e1 : (p.toList == p.toList) = true := beq_self_eq_true _
      have e2 : (nw.toList == nw.toList) = true := beq_self_eq_true _
      have e3 : (od.toList == od.toList) = true := beq_self_eq_true _
      have e4 : (c1 == c1) = true := beq_self_eq_true _
      have e5 : (c2 == c2) = true := beq_self_eq_true _
      have e6 : (c1 != c1) = false := by simp
      have e7 : (c2 != c2) = false := by simp
      clear hx hxt hxb hm g1 g2 g3 g4 g5
      have k0 : (wr.alloc (.cells #[.string p, .bool c2, .bool c1, .string nw, .string od] 33)).cell? ⟨wr.heap.size, 0, none⟩ = some (.string p) := World.cell?_alloc_at _ _ _ _ rfl
      have k1 : (wr.alloc (.cells #[.string p, .bool c2, .bool c1, .string nw, .string od] 33)).cell? ⟨wr.heap.size, 1, none⟩ = some (.bool c2) := World.cell?_alloc_at _ _ _ _ rfl
      have k2 : (wr.alloc (.cells #[.string p, .bool c2, .bool c1, .string nw, .string od] 33)).cell? ⟨wr.heap.size, 2, none⟩ = some (.bool c1) := World.cell?_alloc_at _ _ _ _ rfl
      have k3 : (wr.alloc (.cells #[.string p, .bool c2, .bool c1, .string nw, .string od] 33)).cell? ⟨wr.heap.size, 3, none⟩ = some (.string nw) := World.cell?_alloc_at _ _ _ _ rfl
      have k4 : (wr.alloc (.cells #[.string p, .bool c2, .bool c1, .string nw, .string od] 33)).cell? ⟨wr.heap.size, 4, none⟩ = some (.string od) := World.cell?_alloc_at _ _ _ _ rfl
      by_cases h0 : 0 < k
      · have h0' : decide ((0 : Int) < (k : Int)) = true := decide_eq_true (by omega)
        obtain ⟨j, hj⟩ : ∃ j, k = j + 1 := ⟨k - 1, by omega⟩
        obtain ⟨y, hy⟩ : ∃ y, d1[j]? = some y := ⟨_, List.getElem?_eq_getElem (by omega)⟩
        have hlty : lt y.1 p = true := by
          have h1 := HR.out
          rw [List.pairwise_iff_getElem] at h1
          have h2 := h1 j k (by omega) hkd (by omega)
          have h3 := HX.out
          rw [List.getElem?_eq_getElem hkd] at h3
          rw [List.getElem?_eq_getElem (by omega)] at hy
          rw [Option.some.inj hy, Option.some.inj h3] at h2
          exact h2
        obtain ⟨by1, oy1, ey, y1, _⟩ := SlC.at (s810.no cca) j y hy
        cases ey
        have hA : Op.bytesLess y.1.toList p.toList = true := hlty
        have hjn : (j : Int) < (n : Int) := by omega
        have hki : (k : Int) - 1 = (j : Int) := by omega
        clear hy hlty hj
        gi_wp2
        generalize wr.alloc (.cells #[.string p, .bool c2, .bool c1, .string nw, .string od] 33) = W3 at *
        generalize wr.heap.size = B at *
        refine region_quiet_sees hmix (by kernel_rfl) ?_
        simp only [List.append_eq, List.cons_append, List.nil_append]
        repeat (gi_big_quiet_step (fail))
        refine wpQuietIn_nil ?_
        rintro w' ⟨j1, rfl⟩
        gi_wp2
        refine ⟨⟨k + 1, hlt, by go_num, drewNC cca _⟩, by simp [intOf]; omega⟩
      · have h0' : decide ((0 : Int) < (k : Int)) = false := decide_eq_false (by omega)
        gi_wp2
        generalize wr.alloc (.cells #[.string p, .bool c2, .bool c1, .string nw, .string od] 33) = W3 at *
        generalize wr.heap.size = B at *
        refine region_quiet_sees hmix (by kernel_rfl) ?_
        simp only [List.append_eq, List.cons_append, List.nil_append]
        repeat (gi_big_quiet_step (fail))
        refine wpQuietIn_nil ?_
        rintro w' ⟨j1, rfl⟩
        gi_wp2
        refine ⟨⟨k + 1, hlt, by go_num, drewNC cca _⟩, by simp [intOf]; omega⟩
    · obtain rfl : k = n := by omega
      have hlt' : ¬ (k : Int) < (k : Int) := by omega
      clear s10 s910 s810
      gi_wp2_with fail
      refine ⟨trivial, rfl, (awake_in _).mono ?_⟩
      rintro e z11 ⟨rfl, k11⟩
      gi_wp2
      go_ret
      exact ⟨rfl, Chg.seq cz10 (Chg.seq c k11)⟩

end Go.Proofs.YtndblaemladppaaDoor
