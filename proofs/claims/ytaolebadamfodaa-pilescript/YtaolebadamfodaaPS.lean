/-
  An item sinks to its place.
-/
import Derived.Test.YtaolebadamfodaaPB
namespace Go.Proofs.Ytaolebadamfodaa
open Go.RowKit Go.Shelf Go.SeqLib Go.BigFrame Go.PileLib
attribute [local go_sem] Oper.semAt_some

set_option maxRecDepth 100000 in
set_option maxHeartbeats 4000000 in
theorem sink_in {lf : Nat} {lt : Int → Int → Bool} (hl : Less lf lt) (o : Ord (bef lt)) (B g cap : Nat) (puts : Int) (its : List (Int × Int)) (i : Nat) (w : World) (hn : its.length ≤ 1000000) (hi : i ≤ its.length)
    (hp : PBox w B lf (.slice (some ⟨g, 0, none⟩) its.length cap) puts) (hI : ItsAt w g cap its) (hu : DownInv (bef lt) its i) :
    CallsIn Fence.wide 0 Try.prog 43 #[.pointer (some ⟨B, 0, none⟩), .int .i64 i] w fun e w' => e = .returned (.tuple #[]) ∧ ∃ d, d.Perm its ∧ Heap (bef lt) d ∧ ItsAt w' g cap d ∧ Chg (fun k => k = g) w w' := by
  have hmix : Try.prog.follows .mixedOrders = true := by kernel_rfl
  have hne := hp.ne hI
  refine callsIn_of_wp Try.func43 rfl trivial ?_
  simp only [Try.ntmps43, List.size_toArray, List.length_cons, List.length_nil, Nat.reduceAdd, Nat.reduceSub, Array.replicate_succ, Array.replicate_zero, List.push_toArray, List.append_toArray, List.nil_append, List.cons_append]
  gi_wp2
  gi_loopw [1] (fun v wr => ∃ (k : Nat) (d : List (Int × Int)), k ≤ d.length ∧ v = .int .i64 (k : Int) ∧ Hid (d.Perm its) ∧ Hid (DownInv (bef lt) d k) ∧ ItsAt wr g cap d ∧ Chg (fun k => k = g) w wr) (fun v _ => its.length - (intOf v).toNat)
  case atStart => exact ⟨i, its, hi, rfl, List.Perm.refl _, hu, hI, Chg.refl _ _⟩
  case round =>
    obtain ⟨k, d, hk, rfl, hP, hU, hId, c⟩ := hrel
    have hd : d.length = its.length := hP.out.length_eq
    have hpd : PBox wr B lf (.slice (some ⟨g, 0, none⟩) its.length cap) puts := c.same hp hne
    obtain ⟨h0, h1, _⟩ := hpd.cells
    by_cases hk0 : its.length ≤ 2 * k + 1
    · have hk0' : (its.length : Int) ≤ 2 * (k : Int) + 1 := by omega
      have HH : Hid (Heap (bef lt) d) := down_none hU.out (by omega)
      gi_wp2
      refine bodyPost_ret (results_none rfl _ _ _) rfl ?_
      exact ⟨rfl, d, hP.out, HH.out, hId, c⟩
    · have hk0' : ¬ ((its.length : Int) ≤ 2 * (k : Int) + 1) := by omega
      have hkl : k < d.length := by omega
      -- which of the two comes first, and that one is least
      obtain ⟨m, hm⟩ : ∃ m, 2 * k + 1 = m := ⟨_, rfl⟩
      have hml : m < d.length := by omega
      have hmZ : 2 * (k : Int) + 1 = (m : Int) := by omega
      have HM : Hid (2 * k + 1 = m) := hm
      clear hm hk0
      have hmn : m < its.length := by omega
      obtain ⟨⟨x1, k1⟩, hy1⟩ : ∃ y, d[k] = y := ⟨_, rfl⟩
      obtain ⟨⟨x2, k2⟩, hy2⟩ : ∃ y, d[m] = y := ⟨_, rfl⟩
      have HY1 : Hid (d[k] = (x1, k1)) := hy1
      have HYm : Hid (d[m] = (x2, k2)) := hy2
      clear hy1 hy2
      obtain ⟨q, hq⟩ : ∃ q, m + 1 = q := ⟨_, rfl⟩
      have hqZ : (m : Int) + 1 = (q : Int) := by omega
      have HQ : Hid (m + 1 = q) := hq
      clear hq
      by_cases ho : q < its.length
      · have hoZ : (q : Int) < (its.length : Int) := by omega
        have hql : q < d.length := by omega
        obtain ⟨⟨x3, k3⟩, hy3⟩ : ∃ y, d[q] = y := ⟨_, rfl⟩
        have HYq : Hid (d[q] = (x3, k3)) := hy3
        clear hy3
        obtain ⟨r1, hr10⟩ : ∃ r, bef lt (x3, k3) (x2, k2) = r := ⟨_, rfl⟩
        have hr1 : Hid (bef lt (x3, k3) (x2, k2) = r1) := hr10
        clear hr10
        have A2 := hId.item m hml
        have A3 := hId.item q hql
        rw [HYm.out] at A2
        rw [HYq.out] at A3
        obtain ⟨p1, p2⟩ := A2
        obtain ⟨q1, q2⟩ := A3
        gi_wp2_with fail
        refine ⟨trivial, rfl, (before_in hl B g its.length cap q m x3 k3 x2 k2 wr h0 h1 ho hmn q1 q2 p1 p2 r1 hr1).mono ?_⟩
        rintro e w2 ⟨rfl, c2⟩
        have hId2 : ItsAt w2 g cap d := hId.kept (c2.block g hId.lt (fun h => h))
        have hpd2 : PBox w2 B lf (.slice (some ⟨g, 0, none⟩) its.length cap) puts := c2.same hpd (fun h => h)
        have c02 := c.trans c2 (S' := fun _ => False) (fun _ h => h.elim)
        clear h0 h1 p1 p2 q1 q2
        cases r1 with
        | true =>
          have HL : Hid (∀ j (hj : j < d.length), 0 < j → (j - 1) / 2 = k → bef lt d[j] d[q] = false) := fun j hj h0 hjk => by
            have h1 := HM.out
            have h2 := HQ.out
            rcases (show j = m ∨ j = q by omega) with rfl | rfl
            · rw [HYm.out, HYq.out]; exact o.as _ _ hr1.out
            · exact o.refl _
          gi_wp2_with fail
          obtain ⟨r2, hr20⟩ : ∃ r, bef lt (x3, k3) (x1, k1) = r := ⟨_, rfl⟩
          have hr2 : Hid (bef lt (x3, k3) (x1, k1) = r2) := hr20
          clear hr20
          have A1 := hId2.item k hkl
          have A2 := hId2.item q (by omega)
          rw [HY1.out] at A1
          rw [HYq.out] at A2
          obtain ⟨a1, a2⟩ := A1
          obtain ⟨b1, b2⟩ := A2
          obtain ⟨h0, h1, _⟩ := hpd2.cells
          refine ⟨trivial, rfl, (before_in hl B g its.length cap q k x3 k3 x1 k1 w2 h0 h1 (by omega) (by omega) b1 b2 a1 a2 r2 hr2).mono ?_⟩
          rintro e w3 ⟨rfl, c3⟩
          have hId3 : ItsAt w3 g cap d := hId2.kept (c3.block g hId2.lt (fun h => h))
          have hpd3 : PBox w3 B lf (.slice (some ⟨g, 0, none⟩) its.length cap) puts := c3.same hpd2 (fun h => h)
          clear a1 a2 b1 b2 h0 h1
          obtain ⟨h0, h1, _⟩ := hpd3.cells
          have c03 := c02.trans c3 (S' := fun _ => False) (fun _ h => h.elim)
          cases r2 with
          | false =>
            have HH : Hid (Heap (bef lt) d) := down_stop o hU.out (c := q) (by omega) hkl HL.out (by rw [HYq.out, HY1.out]; exact hr2.out)
            gi_wp2
            refine bodyPost_ret (results_none rfl _ _ _) rfl ?_
            exact ⟨rfl, d, hP.out, HH.out, hId3, c03⟩
          | true =>
            have A1 := hId3.item k hkl
            have A2 := hId3.item q (by omega)
            rw [HY1.out] at A1
            rw [HYq.out] at A2
            obtain ⟨a1, a2⟩ := A1
            obtain ⟨b1, b2⟩ := A2
            have f1 := hId3.frozen (k * 2)
            have f2 := hId3.frozen (k * 2 + 1)
            have f3 := hId3.frozen (q * 2)
            have f4 := hId3.frozen (q * 2 + 1)
            have hkn' : (k : Int) < (its.length : Int) := by omega
            have hun' : (q : Int) < (its.length : Int) := by omega
            have e1 : k * 2 ≠ q * 2 := by have := HM.out; omega
            have e2 : k * 2 ≠ q * 2 + 1 := by omega
            have e3 : k * 2 + 1 ≠ q * 2 := by omega
            have e4 : k * 2 + 1 ≠ q * 2 + 1 := by have := HM.out; omega
            gi_wp2
            gi_region_o
            all_goals gi_wp2
            have hcl : q < d.length := by omega
            refine ⟨⟨q, swp d k q hkl hcl, by rw [swp_length]; omega, rfl, (swp_perm d k q hkl hcl).trans hP.out, ?_, ?_, ?_⟩, by have := HM.out; simp [intOf]; omega⟩
            · refine down_step o hU.out hcl (by have := HM.out; omega) (by have := HM.out; omega) hkl HL.out ?_
              rw [HYq.out, HY1.out]
              exact hr2.out
            · unfold swp
              rw [HY1.out, HYq.out]
              exact ((hId3.set k (x3, k3)).set q (x1, k1)).drew
            · exact ((((c03.setCell (.inl rfl) _).setCell (.inl rfl) _).setCell (.inl rfl) _).setCell (.inl rfl) _).drew

        | false =>
          have HL : Hid (∀ j (hj : j < d.length), 0 < j → (j - 1) / 2 = k → bef lt d[j] d[m] = false) := fun j hj h0 hjk => by
            have h1 := HM.out
            have h2 := HQ.out
            rcases (show j = m ∨ j = q by omega) with rfl | rfl
            · exact o.refl _
            · rw [HYm.out, HYq.out]; exact hr1.out
          gi_wp2_with fail
          obtain ⟨r2, hr20⟩ : ∃ r, bef lt (x2, k2) (x1, k1) = r := ⟨_, rfl⟩
          have hr2 : Hid (bef lt (x2, k2) (x1, k1) = r2) := hr20
          clear hr20
          have A1 := hId2.item k hkl
          have A2 := hId2.item m (by omega)
          rw [HY1.out] at A1
          rw [HYm.out] at A2
          obtain ⟨a1, a2⟩ := A1
          obtain ⟨b1, b2⟩ := A2
          obtain ⟨h0, h1, _⟩ := hpd2.cells
          refine ⟨trivial, rfl, (before_in hl B g its.length cap m k x2 k2 x1 k1 w2 h0 h1 (by omega) (by omega) b1 b2 a1 a2 r2 hr2).mono ?_⟩
          rintro e w3 ⟨rfl, c3⟩
          have hId3 : ItsAt w3 g cap d := hId2.kept (c3.block g hId2.lt (fun h => h))
          have hpd3 : PBox w3 B lf (.slice (some ⟨g, 0, none⟩) its.length cap) puts := c3.same hpd2 (fun h => h)
          clear a1 a2 b1 b2 h0 h1
          obtain ⟨h0, h1, _⟩ := hpd3.cells
          have c03 := c02.trans c3 (S' := fun _ => False) (fun _ h => h.elim)
          cases r2 with
          | false =>
            have HH : Hid (Heap (bef lt) d) := down_stop o hU.out (c := m) (by omega) hkl HL.out (by rw [HYm.out, HY1.out]; exact hr2.out)
            gi_wp2
            refine bodyPost_ret (results_none rfl _ _ _) rfl ?_
            exact ⟨rfl, d, hP.out, HH.out, hId3, c03⟩
          | true =>
            have A1 := hId3.item k hkl
            have A2 := hId3.item m (by omega)
            rw [HY1.out] at A1
            rw [HYm.out] at A2
            obtain ⟨a1, a2⟩ := A1
            obtain ⟨b1, b2⟩ := A2
            have f1 := hId3.frozen (k * 2)
            have f2 := hId3.frozen (k * 2 + 1)
            have f3 := hId3.frozen (m * 2)
            have f4 := hId3.frozen (m * 2 + 1)
            have hkn' : (k : Int) < (its.length : Int) := by omega
            have hun' : (m : Int) < (its.length : Int) := by omega
            have e1 : k * 2 ≠ m * 2 := by have := HM.out; omega
            have e2 : k * 2 ≠ m * 2 + 1 := by omega
            have e3 : k * 2 + 1 ≠ m * 2 := by omega
            have e4 : k * 2 + 1 ≠ m * 2 + 1 := by have := HM.out; omega
            gi_wp2
            gi_region_o
            all_goals gi_wp2
            have hcl : m < d.length := by omega
            refine ⟨⟨m, swp d k m hkl hcl, by rw [swp_length]; omega, rfl, (swp_perm d k m hkl hcl).trans hP.out, ?_, ?_, ?_⟩, by have := HM.out; simp [intOf]; omega⟩
            · refine down_step o hU.out hcl (by have := HM.out; omega) (by have := HM.out; omega) hkl HL.out ?_
              rw [HYm.out, HY1.out]
              exact hr2.out
            · unfold swp
              rw [HY1.out, HYm.out]
              exact ((hId3.set k (x2, k2)).set m (x1, k1)).drew
            · exact ((((c03.setCell (.inl rfl) _).setCell (.inl rfl) _).setCell (.inl rfl) _).setCell (.inl rfl) _).drew

      · have hoZ : ¬ ((q : Int) < (its.length : Int)) := by omega
        have HL : Hid (∀ j (hj : j < d.length), 0 < j → (j - 1) / 2 = k → bef lt d[j] d[m] = false) := fun j hj h0 hjk => by
            have h1 := HM.out
            have h2 := HQ.out
            obtain rfl : j = m := by omega
            exact o.refl _
        gi_wp2_with fail
        refine ⟨trivial, ?_⟩
        gi_wp2_with fail
        obtain ⟨r2, hr20⟩ : ∃ r, bef lt (x2, k2) (x1, k1) = r := ⟨_, rfl⟩
        have hr2 : Hid (bef lt (x2, k2) (x1, k1) = r2) := hr20
        clear hr20
        have A1 := hId.item k hkl
        have A2 := hId.item m (by omega)
        rw [HY1.out] at A1
        rw [HYm.out] at A2
        obtain ⟨a1, a2⟩ := A1
        obtain ⟨b1, b2⟩ := A2
        obtain ⟨h0, h1, _⟩ := hpd.cells
        refine ⟨trivial, rfl, (before_in hl B g its.length cap m k x2 k2 x1 k1 wr h0 h1 (by omega) (by omega) b1 b2 a1 a2 r2 hr2).mono ?_⟩
        rintro e w3 ⟨rfl, c3⟩
        have hId3 : ItsAt w3 g cap d := hId.kept (c3.block g hId.lt (fun h => h))
        have hpd3 : PBox w3 B lf (.slice (some ⟨g, 0, none⟩) its.length cap) puts := c3.same hpd (fun h => h)
        clear a1 a2 b1 b2 h0 h1
        obtain ⟨h0, h1, _⟩ := hpd3.cells
        have c03 := c.trans c3 (S' := fun _ => False) (fun _ h => h.elim)
        cases r2 with
        | false =>
          have HH : Hid (Heap (bef lt) d) := down_stop o hU.out (c := m) (by omega) hkl HL.out (by rw [HYm.out, HY1.out]; exact hr2.out)
          gi_wp2
          refine bodyPost_ret (results_none rfl _ _ _) rfl ?_
          exact ⟨rfl, d, hP.out, HH.out, hId3, c03⟩
        | true =>
          have A1 := hId3.item k hkl
          have A2 := hId3.item m (by omega)
          rw [HY1.out] at A1
          rw [HYm.out] at A2
          obtain ⟨a1, a2⟩ := A1
          obtain ⟨b1, b2⟩ := A2
          have f1 := hId3.frozen (k * 2)
          have f2 := hId3.frozen (k * 2 + 1)
          have f3 := hId3.frozen (m * 2)
          have f4 := hId3.frozen (m * 2 + 1)
          have hkn' : (k : Int) < (its.length : Int) := by omega
          have hun' : (m : Int) < (its.length : Int) := by omega
          have e1 : k * 2 ≠ m * 2 := by have := HM.out; omega
          have e2 : k * 2 ≠ m * 2 + 1 := by omega
          have e3 : k * 2 + 1 ≠ m * 2 := by omega
          have e4 : k * 2 + 1 ≠ m * 2 + 1 := by have := HM.out; omega
          gi_wp2
          gi_region_o
          all_goals gi_wp2
          have hcl : m < d.length := by omega
          refine ⟨⟨m, swp d k m hkl hcl, by rw [swp_length]; omega, rfl, (swp_perm d k m hkl hcl).trans hP.out, ?_, ?_, ?_⟩, by have := HM.out; simp [intOf]; omega⟩
          · refine down_step o hU.out hcl (by have := HM.out; omega) (by have := HM.out; omega) hkl HL.out ?_
            rw [HYm.out, HY1.out]
            exact hr2.out
          · unfold swp
            rw [HY1.out, HYm.out]
            exact ((hId3.set k (x2, k2)).set m (x1, k1)).drew
          · exact ((((c03.setCell (.inl rfl) _).setCell (.inl rfl) _).setCell (.inl rfl) _).setCell (.inl rfl) _).drew

end Go.Proofs.Ytaolebadamfodaa
