/-
  DiffBack answers true at every two lists of texts, and turns nothing that lay.
-/
import Derived.Test.YtafaihbfhcpjiaaDAwake
import Derived.Test.YtafaihbfhcpjiaaDLib2
import Derived.Test.YtafaihbfhcpjiaaTxtL
namespace Go.Proofs.Ytafaihbfhcpjiaa
open Go.RowKit Go.Shelf Go.SeqLib Go.DiffLib Go.BigFrame
attribute [local go_sem] Oper.semAt_some

/-- A list of one step, just laid. -/
theorem oneStep (w : World) (x y z : Int) : SlS (w.alloc (.cells #[.int .i64 x, .int .i64 y, .int .i64 z] 40)) (.slice (some ⟨w.heap.size, 0, none⟩) 1 1) [(x, y, z)] := by
  refine ⟨_, 1, rfl, Nat.le_refl _, by unfold maxLen; decide, fun i u hi => ⟨w.heap.size, 0, rfl, fun q r hq => ?_⟩⟩
  rw [World.cell?_alloc_at _ _ _ _ rfl]
  have hi1 : i < 1 := (List.getElem?_eq_some_iff.1 hi).1
  obtain rfl : i = 0 := by omega
  cases hi
  rw [show 0 + 0 * 3 + q = q by omega]
  unfold eS at hq
  simpa using hq

set_option maxRecDepth 100000 in
set_option maxHeartbeats 4000000 in
theorem back_law (p : Option Addr) (la ca : Nat) (a : List ByteArray) (q : Option Addr) (lb cb : Nat) (b : List ByteArray) (w : World) (hv : SlV w (.slice p la ca) (a.map Value.string)) (hla : a.length = la) (hu : SlV w (.slice q lb cb) (b.map Value.string)) (hlb : b.length = lb) :
    CallsIn Fence.wide 0 Try.prog 4 #[.slice p la ca, .slice q lb cb] w fun e w' => e = .returned (.bool true) ∧ Chg No w w' := by
  have hmix : Try.prog.follows .mixedOrders = true := by kernel_rfl
  have HA : Hid (a.length = la) := hla
  have HB : Hid (b.length = lb) := hlb
  clear hla hlb
  refine callsIn_of_wp Try.func4 rfl trivial ?_
  simp only [Try.ntmps4, List.size_toArray, List.length_cons, List.length_nil, Nat.reduceAdd, Nat.reduceSub, Array.replicate_succ, Array.replicate_zero, List.push_toArray, List.append_toArray, List.nil_append, List.cons_append]
  gi_wp2_with fail
  refine ⟨trivial, rfl, (great_in _ a 40 20 _ hv).mono ?_⟩
  rintro e w0 ⟨rfl, rfl⟩
  obtain ⟨g, hg⟩ : ∃ g, greatB a 40 20 = g := ⟨_, rfl⟩
  rw [hg]
  cases g
  · have hz1 := (greatB_false hg).1
    rw [HA.out] at hz1
    clear hg
    gi_wp2_with fail
    refine ⟨trivial, rfl, (great_in _ b 40 20 _ hu).mono ?_⟩
    rintro e w0' ⟨rfl, rfl⟩
    obtain ⟨g, hg⟩ : ∃ g, greatB b 40 20 = g := ⟨_, rfl⟩
    rw [hg]
    cases g
    · have hz2 := (greatB_false hg).1
      rw [HB.out] at hz2
      clear hg
      gi_wp2_with fail
      refine ⟨trivial, rfl, (steps_in _ _ a b _ hv hu (by rw [HA.out]; omega) (by rw [HB.out]; omega)).mono ?_⟩
      rintro e w1 ⟨v1, rfl, r1, c1⟩
      have s1 : SlS w1 v1 (stp a b) := SlE.ofRow eS_len r1
      obtain ⟨p1, cp1, rfl⟩ := row_slice r1
      have hv1 := hv.no c1
      have hu1 := hu.no c1
      have hA := apply_in _ _ _ a b (stp a b) _ hv1 hu1 s1 (by rw [HA.out]; omega) (by rw [HB.out]; omega) (by have := stp_length a b; rw [HA.out, HB.out] at this; omega)
      rw [stp_app] at hA
      obtain ⟨n, HN⟩ : ∃ n, Hid ((stp a b).length = n) := ⟨_, rfl⟩
      have hn : n ≤ 80 := by rw [← HN.out]; have := stp_length a b; rw [HA.out, HB.out] at this; omega
      rw [HN.out] at s1 hA ⊢
      clear r1
      gi_wp2_with fail
      refine ⟨trivial, rfl, hA.mono ?_⟩
      rintro e w2 ⟨⟨v2, rfl, r2⟩, c2⟩
      have s2 : SlV w2 v2 (b.map Value.string) := SlV.ofRow (by simpa using r2)
      obtain ⟨p2, cp2, rfl⟩ := row_slice r2
      rw [HB.out] at s2 ⊢
      have hv2 := hv1.no c2
      have hu2 := hu1.no c2
      have ss2 : SlS w2 (.slice p1 n cp1) (stp a b) := SlE.no eS_len (by decide) s1 c2
      have c02 := Chg.seq c1 c2
      obtain ⟨ns, HNS⟩ : ∃ ns, Hid (stn a b = ns) := ⟨_, rfl⟩
      have HUP : Hid (stp a b = ns.map up) := by rw [← HNS.out]; exact rfl
      have hsum := stn_sums a b
      have hshp := stn_shape a b
      rw [HNS.out] at hsum hshp
      rw [HA.out, HB.out] at hsum
      obtain ⟨t1, ht1⟩ : ∃ t, Hid (tl a b = t) := ⟨_, rfl⟩
      rw [ht1.out] at hsum
      have HSum : Hid ((ns.map (·.1)).sum = t1 ∧ (ns.map (·.1)).sum + (ns.map (·.2.1)).sum = la ∧ (ns.map (·.1)).sum + (ns.map (·.2.2)).sum = lb) := hsum
      have HShp : Hid ((∀ k s, ns[k + 1]? = some s → 0 < s.1) ∧ (∀ k s, ns[k]? = some s → k + 1 < ns.length → 0 < s.2.1 + s.2.2)) := hshp
      have HNL : Hid (ns.length = n) := by
        have := HN.out
        rw [HUP.out, List.length_map] at this
        exact this
      clear hA hv1 hu1 s1 c1 c2 r2 hsum hshp
      gi_wp2
      gi_loopw [8, 9, 10, 11] (fun x y z i wr => ∃ k : Nat, k ≤ n ∧ i = .int .i64 (k : Int) ∧ x = .int .i64 (sm (·.1) ns k : Int) ∧ y = .int .i64 (sm (·.2.1) ns k : Int) ∧ z = .int .i64 (sm (·.2.2) ns k : Int) ∧ Chg No w2 wr) (fun x y z i _ => n - (intOf i).toNat)
      case atStart => exact ⟨0, Nat.zero_le _, rfl, by rw [sm_zero]; rfl, by rw [sm_zero]; rfl, by rw [sm_zero]; rfl, Chg.refl _ _⟩
      case round =>
        obtain ⟨k, hk, rfl, rfl, rfl, rfl, cw⟩ := hrel
        by_cases hlt : k < n
        · have hlt' : (k : Int) < (n : Int) := by omega
          have hkn : k < ns.length := by rw [HNL.out]; exact hlt
          have e1 := sm_succ (·.1) ns k hkn
          have e2 := sm_succ (·.2.1) ns k hkn
          have e3 := sm_succ (·.2.2) ns k hkn
          have l1 := sm_le (·.1) ns (k + 1)
          have l2 := sm_le (·.2.1) ns (k + 1)
          have l3 := sm_le (·.2.2) ns (k + 1)
          obtain ⟨s, hs⟩ : ∃ s, ns[k] = s := ⟨_, rfl⟩
          have hsk : ns[k]? = some s := by rw [List.getElem?_eq_getElem hkn, hs]
          rw [hs] at e1 e2 e3
          have hS := HSum.out
          have HB1 : Hid (k = 0 ∨ 0 < s.1) := by
            cases k with
            | zero => exact .inl rfl
            | succ k => exact .inr (HShp.out.1 k s hsk)
          have HB2 : Hid (k + 1 < n → 0 < s.2.1 + s.2.2) := fun h => HShp.out.2 k s hsk (by rw [HNL.out]; exact h)
          obtain ⟨b1, o1, rfl, x1, x2, x3⟩ := SlS.at (show SlS wr _ _ from SlE.no eS_len (by decide) ss2 cw) k (up s) (by rw [HUP.out, List.getElem?_map, hsk]; rfl)
          obtain ⟨s1, s2', s3⟩ := s
          simp only at x1 x2 x3 e1 e2 e3 HB1 HB2
          have hb1 : sm (·.1) ns k + s1 ≤ 100 := by omega
          have hb2 : sm (·.2.1) ns k + s2' ≤ 100 := by omega
          have hb3 : sm (·.2.2) ns k + s3 ≤ 100 := by omega
          have HE : Hid (sm (·.1) ns (k + 1) = sm (·.1) ns k + s1 ∧ sm (·.2.1) ns (k + 1) = sm (·.2.1) ns k + s2' ∧ sm (·.2.2) ns (k + 1) = sm (·.2.2) ns k + s3) := ⟨e1, e2, e3⟩
          clear e1 e2 e3 l1 l2 l3 hsk hs hS hkn
          generalize sm (·.1) ns k = m1 at *
          generalize sm (·.2.1) ns k = m2 at *
          generalize sm (·.2.2) ns k = m3 at *
          have hn1 : decide ((s1 : Int) < 0) = false := decide_eq_false (by omega)
          have hn2 : decide ((s2' : Int) < 0) = false := decide_eq_false (by omega)
          have hn3 : decide ((s3 : Int) < 0) = false := decide_eq_false (by omega)
          by_cases hk0 : 0 < k
          · have hk0' : decide ((0 : Int) < (k : Int)) = true := decide_eq_true (by omega)
            have hs1 : ((s1 : Int) == 0) = false := by rw [beq_eq_false_iff_ne]; have := HB1.out; omega
            by_cases hk1 : k + 1 < n
            · have hk1' : decide ((k : Int) + 1 < (n : Int)) = true := decide_eq_true (by omega)
              have hs2 : ((s2' : Int) + (s3 : Int) == 0) = false := by rw [beq_eq_false_iff_ne]; have := HB2.out hk1; omega
              gi_wp2
              refine wpIn_region_quiet_lit rfl hmix (by kernel_rfl) ?_
              repeat (gi_big_quiet_step (fail))
              refine wpQuietIn_nil ?_
              rintro w' ⟨j1, rfl⟩
              gi_wp2
              refine wpIn_region_quiet_lit rfl hmix (by kernel_rfl) ?_
              repeat (gi_big_quiet_step (fail))
              refine wpQuietIn_nil ?_
              rintro w' ⟨j2, rfl⟩
              gi_wp2
              go_roundw
              case rel => exact ⟨k + 1, hlt, by go_num, by rw [HE.out.1]; go_num, by rw [HE.out.2.1]; go_num, by rw [HE.out.2.2]; go_num, drewNC cw _⟩
              case measure => simp [intOf]; omega
            · have hk1' : decide ((k : Int) + 1 < (n : Int)) = false := decide_eq_false (by omega)
              gi_wp2
              refine wpIn_region_quiet_lit rfl hmix (by kernel_rfl) ?_
              repeat (gi_big_quiet_step (fail))
              refine wpQuietIn_nil ?_
              rintro w' ⟨j1, rfl⟩
              gi_wp2
              refine wpIn_region_quiet_lit rfl hmix (by kernel_rfl) ?_
              repeat (gi_big_quiet_step (fail))
              refine wpQuietIn_nil ?_
              rintro w' ⟨j2, rfl⟩
              gi_wp2
              go_roundw
              case rel => exact ⟨k + 1, hlt, by go_num, by rw [HE.out.1]; go_num, by rw [HE.out.2.1]; go_num, by rw [HE.out.2.2]; go_num, drewNC cw _⟩
              case measure => simp [intOf]; omega
          · have hk0' : decide ((0 : Int) < (k : Int)) = false := decide_eq_false (by omega)
            by_cases hk1 : k + 1 < n
            · have hk1' : decide ((k : Int) + 1 < (n : Int)) = true := decide_eq_true (by omega)
              have hs2 : ((s2' : Int) + (s3 : Int) == 0) = false := by rw [beq_eq_false_iff_ne]; have := HB2.out hk1; omega
              gi_wp2
              refine wpIn_region_quiet_lit rfl hmix (by kernel_rfl) ?_
              repeat (gi_big_quiet_step (fail))
              refine wpQuietIn_nil ?_
              rintro w' ⟨j1, rfl⟩
              gi_wp2
              refine wpIn_region_quiet_lit rfl hmix (by kernel_rfl) ?_
              repeat (gi_big_quiet_step (fail))
              refine wpQuietIn_nil ?_
              rintro w' ⟨j2, rfl⟩
              gi_wp2
              go_roundw
              case rel => exact ⟨k + 1, hlt, by go_num, by rw [HE.out.1]; go_num, by rw [HE.out.2.1]; go_num, by rw [HE.out.2.2]; go_num, drewNC cw _⟩
              case measure => simp [intOf]; omega
            · have hk1' : decide ((k : Int) + 1 < (n : Int)) = false := decide_eq_false (by omega)
              gi_wp2
              refine wpIn_region_quiet_lit rfl hmix (by kernel_rfl) ?_
              repeat (gi_big_quiet_step (fail))
              refine wpQuietIn_nil ?_
              rintro w' ⟨j1, rfl⟩
              gi_wp2
              refine wpIn_region_quiet_lit rfl hmix (by kernel_rfl) ?_
              repeat (gi_big_quiet_step (fail))
              refine wpQuietIn_nil ?_
              rintro w' ⟨j2, rfl⟩
              gi_wp2
              go_roundw
              case rel => exact ⟨k + 1, hlt, by go_num, by rw [HE.out.1]; go_num, by rw [HE.out.2.1]; go_num, by rw [HE.out.2.2]; go_num, drewNC cw _⟩
              case measure => simp [intOf]; omega
        · obtain rfl : k = n := by omega
          have hlt' : ¬ (k : Int) < (k : Int) := by omega
          have HE : Hid (sm (·.1) ns k = t1 ∧ sm (·.1) ns k + sm (·.2.1) ns k = la ∧ sm (·.1) ns k + sm (·.2.2) ns k = lb) := by
            have e : k = ns.length := HNL.out.symm
            rw [e, sm_all, sm_all, sm_all]
            exact HSum.out
          obtain ⟨e1, e2, e3⟩ := HE.out
          generalize sm (·.1) ns k = m1 at *
          generalize sm (·.2.1) ns k = m2 at *
          generalize sm (·.2.2) ns k = m3 at *
          subst e1
          have hb1 : m1 ≤ 40 := by omega
          have hb2 : m2 ≤ 40 := by omega
          have hb3 : m3 ≤ 40 := by omega
          have hv3 := hv2.no cw
          have hu3 := hu2.no cw
          gi_wp2_with fail
          refine ⟨trivial, rfl, (sameS_in _ _ b b _ (s2.no cw) hu3).mono ?_⟩
          rintro e w3 ⟨rfl, c3⟩
          rw [decide_eq_true rfl]
          have hv4 := hv3.no c3
          have hu4 := hu3.no c3
          have hL := length_in _ _ a b _ hv4 hu4 (by rw [HA.out]; omega) (by rw [HB.out]; omega)
          rw [ht1.out] at hL
          have c04 := Chg.seq (Chg.seq c02 cw) c3
          have d1 : ((m1 : Int) != (m1 : Int)) = false := by simp
          have d2 : ((m1 : Int) + (m2 : Int) != (la : Int)) = false := by rw [← e2]; simp
          have d3 : ((m1 : Int) + (m3 : Int) != (lb : Int)) = false := by rw [← e3]; simp
          have HE2 : Hid (m1 + m2 = la ∧ m1 + m3 = lb) := ⟨e2, e3⟩
          clear e2 e3 HE
          gi_wp2_with fail
          refine ⟨trivial, rfl, hL.mono ?_⟩
          rintro e w5 ⟨rfl, c5⟩
          have hv5 := hv4.no c5
          have c05 := Chg.seq c04 c5
          have hO := steps_in _ _ a a _ hv5 hv5 (by rw [HA.out]; omega) (by rw [HA.out]; omega)
          rw [stp_self] at hO
          clear hL
          gi_wp2_with fail
          refine ⟨trivial, rfl, hO.mono ?_⟩
          rintro e w6 ⟨v6, rfl, r6, c6⟩
          have c06 := Chg.seq c05 c6
          obtain ⟨p6, cp6, rfl⟩ := row_slice r6
          clear hO
          by_cases hz : a = []
          · rw [if_pos hz] at r6 ⊢
            have hla0 : la = 0 := by rw [← HA.out, hz]; rfl
            have hq : ((la : Int) == 0) = true := by rw [hla0]; rfl
            have hq2 : (((([] : List (Int × Int × Int)).length : Nat) : Int) == 0) = true := by simp
            generalize ([] : List (Int × Int × Int)).length = z0 at *
            clear hz hla0
            gi_wp2_with fail
            refine ⟨trivial, rfl, (awake_in _).mono ?_⟩
            rintro e w7 ⟨rfl, c7⟩
            gi_wp2
            go_ret
            exact ⟨rfl, Chg.seq c06 c7⟩
          · rw [if_neg hz] at r6 ⊢
            have hla0 : 0 < la := by rw [← HA.out]; exact List.length_pos_iff.2 hz
            have hq : ((la : Int) == 0) = false := by rw [beq_eq_false_iff_ne]; omega
            rw [HA.out] at r6 ⊢
            have s6 : SlS w6 _ [((la : Int), 0, 0)] := SlE.ofRow eS_len r6
            clear hz r6
            have c7 : Chg No w6 (w6.alloc (.cells #[.int .i64 (la : Int), .int .i64 0, .int .i64 0] 40)) := (Chg.refl _ w6).alloc _
            have s7 : SlS (w6.alloc (.cells #[.int .i64 (la : Int), .int .i64 0, .int .i64 0] 40)) _ [((la : Int), 0, 0)] := SlE.no eS_len (by decide) s6 c7
            have x7 := oneStep w6 (la : Int) 0 0
            have c07 := Chg.seq c06 c7
            gi_wp2_with fail
            refine ⟨trivial, rfl, (sameSteps_in _ _ _ _ _ s7 x7 (by simp)).mono ?_⟩
            rintro e w8 ⟨rfl, c8⟩
            rw [decide_eq_true rfl]
            gi_wp2_with fail
            refine ⟨trivial, rfl, (awake_in _).mono ?_⟩
            rintro e w9 ⟨rfl, c9⟩
            gi_wp2
            go_ret
            exact ⟨rfl, Chg.seq (Chg.seq c07 c8) c9⟩
    · gi_wp2_with fail
      refine ⟨trivial, rfl, (awake_in _).mono ?_⟩
      rintro e w1 ⟨rfl, c1⟩
      gi_wp2
      go_ret
      exact ⟨rfl, c1⟩
  · gi_wp2_with fail
    refine ⟨trivial, ?_⟩
    rename_i hKK
    apply hKK
    gi_wp2_with fail
    refine ⟨trivial, rfl, (awake_in _).mono ?_⟩
    rintro e w1 ⟨rfl, c1⟩
    gi_wp2
    go_ret
    exact ⟨rfl, c1⟩

end Go.Proofs.Ytafaihbfhcpjiaa
