/-
  An item rises to its place.
-/
import Derived.Test.YtaolebadamfodaaTPB
namespace Go.Proofs.Ytaolebadamfodaa.T
open Go.RowKit Go.Shelf Go.SeqLib Go.BigFrame Go.PileLib
attribute [local go_sem] Oper.semAt_some

set_option maxRecDepth 100000 in
set_option maxHeartbeats 4000000 in
theorem rise_in {lf : Nat} {lt : Int × Int → Int × Int → Bool} (hl : Less lf lt) (o : Ord (bef lt)) (B g cap : Nat) (puts : Int) (its : List ((Int × Int) × Int)) (i : Nat) (w : World) (hn : its.length ≤ 1000000) (hi : i < its.length)
    (hp : PBox w B lf (.slice (some ⟨g, 0, none⟩) its.length cap) puts) (hI : ItsAt w g cap its) (hu : UpInv (bef lt) its i) :
    CallsIn Fence.wide 0 Try.prog 34 #[.pointer (some ⟨B, 0, none⟩), .int .i64 i] w fun e w' => e = .returned (.tuple #[]) ∧ ∃ d, d.Perm its ∧ Heap (bef lt) d ∧ ItsAt w' g cap d ∧ Chg (fun k => k = g) w w' := by
  have hmix : Try.prog.follows .mixedOrders = true := by kernel_rfl
  have hne := hp.ne hI
  refine callsIn_of_wp Try.func34 rfl trivial ?_
  simp only [Try.ntmps34, List.size_toArray, List.length_cons, List.length_nil, Nat.reduceAdd, Nat.reduceSub, Array.replicate_succ, Array.replicate_zero, List.push_toArray, List.append_toArray, List.nil_append, List.cons_append]
  gi_wp2
  gi_loopw [1] (fun v wr => ∃ (k : Nat) (d : List ((Int × Int) × Int)), k < d.length ∧ v = .int .i64 (k : Int) ∧ Hid (d.Perm its) ∧ Hid (UpInv (bef lt) d k) ∧ ItsAt wr g cap d ∧ Chg (fun k => k = g) w wr) (fun v _ => (intOf v).toNat)
  case atStart => exact ⟨i, its, hi, rfl, List.Perm.refl _, hu, hI, Chg.refl _ _⟩
  case round =>
    obtain ⟨k, d, hk, rfl, hP, hU, hId, c⟩ := hrel
    have hd : d.length = its.length := hP.out.length_eq
    have hpd : PBox wr B lf (.slice (some ⟨g, 0, none⟩) its.length cap) puts := c.same hp hne
    obtain ⟨h0, h1, _⟩ := hpd.cells
    by_cases hk0 : k = 0
    · subst hk0
      have HH : Hid (Heap (bef lt) d) := up_stop hU.out (fun _ h => absurd h (by omega))
      gi_wp2
      go_end0
      exact ⟨rfl, d, hP.out, HH.out, hId, c⟩
    · obtain ⟨u, huk⟩ : ∃ u, (k - 1) / 2 = u := ⟨_, rfl⟩
      have hq : ((k : Int) - 1).tdiv 2 = (u : Int) := by
        rw [Int.tdiv_eq_ediv_of_nonneg (by omega)]; omega
      have hpos : (0 : Int) < (k : Int) := by omega
      have hul : u < d.length := by omega
      have huk' : u < k := by omega
      obtain ⟨a1, a2, a3⟩ := hId.item k hk
      obtain ⟨b1, b2, b3⟩ := hId.item u hul
      obtain ⟨⟨⟨x1, y1⟩, k1⟩, hy1⟩ : ∃ y, d[k] = y := ⟨_, rfl⟩
      obtain ⟨⟨⟨x2, y2⟩, k2⟩, hy2⟩ : ∃ y, d[u] = y := ⟨_, rfl⟩
      simp only [hy1] at a1 a2 a3
      simp only [hy2] at b1 b2 b3
      have HY1 : Hid (d[k] = ((x1, y1), k1)) := hy1
      have HY2 : Hid (d[u] = ((x2, y2), k2)) := hy2
      obtain ⟨r, hr0⟩ : ∃ r, bef lt ((x1, y1), k1) ((x2, y2), k2) = r := ⟨_, rfl⟩
      have hr : Hid (bef lt ((x1, y1), k1) ((x2, y2), k2) = r) := hr0
      have HU : Hid ((k - 1) / 2 = u) := huk
      clear hr0 hy1 hy2 huk hk0
      have hkn : k < its.length := by omega
      have hun : u < its.length := by omega
      gi_wp2_with fail
      refine ⟨trivial, rfl, (before_in hl B g its.length cap k u x1 y1 k1 x2 y2 k2 wr h0 h1 hkn hun a1 a2 a3 b1 b2 b3 r hr).mono ?_⟩
      rintro e w2 ⟨rfl, c2⟩
      have hId2 : ItsAt w2 g cap d := hId.kept (c2.block g hId.lt (fun h => h))
      have hpd2 : PBox w2 B lf (.slice (some ⟨g, 0, none⟩) its.length cap) puts := c2.same hpd (fun h => h)
      obtain ⟨h0, h1, _⟩ := hpd2.cells
      have c02 := c.trans c2 (S' := fun _ => False) (fun _ h => h.elim)
      cases r with
      | false =>
        have HH : Hid (Heap (bef lt) d) := up_stop hU.out (fun _ _ => by
          have := hr.out
          rw [← HY1.out, ← HY2.out] at this
          rw [← getE d HU.out.symm hul]
          exact this)
        gi_wp2
        refine bodyPost_ret (results_none rfl _ _ _) rfl ?_
        exact ⟨rfl, d, hP.out, HH.out, hId2, c02⟩
      | true =>
        have A1 := hId2.item k hk
        have A2 := hId2.item u hul
        rw [HY1.out] at A1
        rw [HY2.out] at A2
        obtain ⟨a1, a2, a3⟩ := A1
        obtain ⟨b1, b2, b3⟩ := A2
        have f1 := hId2.frozen (k * 3)
        have f2 := hId2.frozen (k * 3 + 1)
        have f3 := hId2.frozen (k * 3 + 2)
        have f4 := hId2.frozen (u * 3)
        have f5 := hId2.frozen (u * 3 + 1)
        have f6 := hId2.frozen (u * 3 + 2)
        have hkn' : (k : Int) < (its.length : Int) := by omega
        have hun' : (u : Int) < (its.length : Int) := by omega
        have e1 : k * 3 ≠ u * 3 := by omega
        have e2 : k * 3 ≠ u * 3 + 1 := by omega
        have e3 : k * 3 ≠ u * 3 + 2 := by omega
        have e4 : k * 3 + 1 ≠ u * 3 := by omega
        have e5 : k * 3 + 1 ≠ u * 3 + 1 := by omega
        have e6 : k * 3 + 1 ≠ u * 3 + 2 := by omega
        have e7 : k * 3 + 2 ≠ u * 3 := by omega
        have e8 : k * 3 + 2 ≠ u * 3 + 1 := by omega
        have e9 : k * 3 + 2 ≠ u * 3 + 2 := by omega
        gi_wp2
        gi_region_o
        all_goals gi_wp2
        refine ⟨⟨u, swp d k u hk hul, by rw [swp_length]; exact hul, rfl, (swp_perm d k u hk hul).trans hP.out, ?_, ?_, ?_⟩, by simp [intOf]; omega⟩
        · have e := HU.out
          subst e
          refine up_step o hU.out (by omega) hk ?_
          rw [HY1.out, HY2.out]
          exact hr.out
        · unfold swp
          rw [HY1.out, HY2.out]
          exact ((hId2.set k ((x2, y2), k2)).set u ((x1, y1), k1)).drew
        · exact ((((((c02.setCell (.inl rfl) _).setCell (.inl rfl) _).setCell (.inl rfl) _).setCell (.inl rfl) _).setCell (.inl rfl) _).setCell (.inl rfl) _).drew
end Go.Proofs.Ytaolebadamfodaa.T
