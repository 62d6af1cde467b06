/-
  DiffTells answers true at every two lists of texts and every list of steps, and turns nothing that lay.
-/
import Derived.Test.YtafaihbfhcpjiaaDAwake
import Derived.Test.YtafaihbfhcpjiaaDOver
import Derived.Test.YtafaihbfhcpjiaaRSteps
import Derived.Test.YtafaihbfhcpjiaaRApply
import Derived.Test.YtafaihbfhcpjiaaTxtL
namespace Go.Proofs.Ytafaihbfhcpjiaa
open Go.RowKit Go.Shelf Go.SeqLib Go.DiffLib Go.BigFrame
attribute [local go_sem] Oper.semAt_some

theorem app_len : ∀ (a b : List ByteArray) (st : List (Int × Int × Int)) (c : List ByteArray), app a b st = some c → c.length ≤ b.length
  | a, b, [], c, h => by
    unfold app at h
    split at h
    · cases h; exact Nat.zero_le _
    · cases h
  | a, b, x :: r, c, h => by
    rw [app_fit] at h
    split at h
    · rename_i hf
      have hfit := of_decide_eq_true hf.1
      obtain ⟨t, ht, rfl⟩ := Option.map_eq_some_iff.1 h
      have := app_len _ _ r t ht
      simp only [List.length_append, List.length_take, List.length_drop] at this ⊢
      omega
    · cases h

theorem appRes_un {w w' : World} {r : Option (List ByteArray)} {e : Ending} (h : appRes w r e w') : ∃ v, e = .returned (.tuple #[v, .bool r.isSome]) ∧ w'.ownsRow w.heap.size 9 1 v (r.getD []).length ((r.getD []).map Value.string) := by
  cases r with
  | none => exact ⟨_, h, World.ownsRow_nil _ _ _ _⟩
  | some c => exact h

set_option maxRecDepth 100000 in
set_option maxHeartbeats 8000000 in
theorem tells_law (p : Option Addr) (la ca : Nat) (a : List ByteArray) (q : Option Addr) (lb cb : Nat) (b : List ByteArray) (ps : Option Addr) (ls cs : Nat) (stps : List (Int × Int × Int)) (w : World)
    (hv : SlV w (.slice p la ca) (a.map Value.string)) (hla : a.length = la) (hu : SlV w (.slice q lb cb) (b.map Value.string)) (hlb : b.length = lb) (hs : SlS w (.slice ps ls cs) stps) (hls : stps.length = ls) :
    CallsIn Fence.wide 0 Try.prog 3 #[.slice p la ca, .slice q lb cb, .slice ps ls cs] w fun e w' => e = .returned (.bool true) ∧ Chg No w w' := by
  have hmax : ls ≤ maxLen := by
    obtain ⟨p', c', e, h1, h2, _⟩ := hs
    rw [hls] at h1
    rw [Value.slice.injEq] at e
    omega
  have HA : Hid (a.length = la) := hla
  have HB : Hid (b.length = lb) := hlb
  have HS : Hid (stps.length = ls) := hls
  clear hla hlb hls
  unfold maxLen at hmax
  refine callsIn_of_wp Try.func3 rfl trivial ?_
  simp only [Try.ntmps3, List.size_toArray, List.length_cons, List.length_nil, Nat.reduceAdd, Nat.reduceSub, Array.replicate_succ, Array.replicate_zero, List.push_toArray, List.append_toArray, List.nil_append, List.cons_append]
  gi_wp2_with fail
  refine ⟨trivial, rfl, (great_in _ a 40 20 _ hv).mono ?_⟩
  rintro e w0 ⟨rfl, rfl⟩
  obtain ⟨g, hg⟩ : ∃ g, greatB a 40 20 = g := ⟨_, rfl⟩
  rw [hg]
  cases g
  · have hn1 := (greatB_false hg).1
    rw [HA.out] at hn1
    clear hg
    gi_wp2_with fail
    refine ⟨trivial, rfl, (great_in _ b 40 20 _ hu).mono ?_⟩
    rintro e w0' ⟨rfl, rfl⟩
    obtain ⟨g, hg⟩ : ∃ g, greatB b 40 20 = g := ⟨_, rfl⟩
    rw [hg]
    cases g
    · have hn2 := (greatB_false hg).1
      rw [HB.out] at hn2
      clear hg
      by_cases hbig : 30 < ls
      · have hbig' : (30 : Int) < (ls : Int) := by omega
        gi_wp2_with fail
        refine ⟨trivial, rfl, (awake_in _).mono ?_⟩
        rintro e w1 ⟨rfl, c1⟩
        gi_wp2
        go_ret
        exact ⟨rfl, c1⟩
      have hbig' : ¬ (30 : Int) < (ls : Int) := by omega
      gi_wp2_with fail
      refine ⟨trivial, rfl, (lendS_in _ a (by rw [HA.out]; omega) _ hv).mono ?_⟩
      rintro e W1 ⟨vx, rfl, lx1, c1⟩
      have hu1 := hu.no c1
      gi_wp2_with fail
      refine ⟨trivial, rfl, (lendS_in _ b (by rw [HB.out]; omega) _ hu1).mono ?_⟩
      rintro e W2 ⟨vy, rfl, ly2, c2⟩
      have lx2 := lx1.no c2
      have c02 := Chg.seq c1 c2
      have hv2 := hv.no c02
      have hu2 := hu.no c02
      have hs2 : SlS W2 (.slice ps ls cs) stps := SlE.no eS_len (by decide) hs c02
      have sx2 := lx2.row
      have sy2 := ly2.row
      obtain ⟨gx, rfl, hgx, _⟩ := id lx1
      obtain ⟨gy, rfl, hgy, _⟩ := id ly2
      simp only [List.length_map, HA.out] at sx2 lx2
      simp only [List.length_map, HB.out] at sy2 ly2
      simp only [List.length_map, HA.out, HB.out]
      clear lx1 c1 c2 hu1 hv hu hs
      gi_wp2_with fail
      refine ⟨trivial, rfl, (steps_in _ _ a b _ sx2 sy2 (by rw [HA.out]; omega) (by rw [HB.out]; omega)).mono ?_⟩
      rintro e W3 ⟨v3, rfl, r3, c3⟩
      have s3 : SlS W3 v3 (stp a b) := SlE.ofRow eS_len r3
      obtain ⟨p3, cp3, rfl⟩ := row_slice r3
      obtain ⟨n3, HN3⟩ : ∃ n, Hid ((stp a b).length = n) := ⟨_, rfl⟩
      have hn3 : n3 ≤ 80 := by rw [← HN3.out]; have := stp_length a b; rw [HA.out, HB.out] at this; omega
      rw [HN3.out] at s3 r3 ⊢
      have hA := apply_in _ _ _ a b stps _ (sx2.no c3) (sy2.no c3) (SlE.no eS_len (by decide) hs2 c3) (by rw [HA.out]; omega) (by rw [HB.out]; omega) (by rw [HS.out]; omega)
      obtain ⟨r, HR⟩ : ∃ r, Hid (app a b stps = r) := ⟨_, rfl⟩
      rw [HR.out] at hA
      gi_wp2_with fail
      refine ⟨trivial, rfl, hA.mono ?_⟩
      rintro e W4 ⟨hres, c4⟩
      obtain ⟨v4, rfl, r4⟩ := appRes_un hres
      have c24 := Chg.seq c3 c4
      have hRf := refApply_in _ _ _ a b stps _ (hv2.no c24) (hu2.no c24) (SlE.no eS_len (by decide) hs2 c24) (by rw [HA.out]; omega) (by rw [HB.out]; omega) (by rw [HS.out]; omega)
      rw [HR.out] at hRf
      have hrl : (r.getD []).length ≤ 1000 := by
        cases r with
        | none => exact Nat.zero_le _
        | some c9 =>
          have := app_len a b stps c9 HR.out
          rw [HB.out] at this
          show c9.length ≤ 1000
          omega
      obtain ⟨z, hz⟩ : ∃ z, r.isSome = z := ⟨_, rfl⟩
      obtain ⟨cl, hcl⟩ : ∃ cl, r.getD [] = cl := ⟨_, rfl⟩
      obtain ⟨p4, cp4, rfl⟩ := row_slice r4
      rw [hcl] at r4 hrl ⊢
      rw [hz]
      gi_wp2_with fail
      refine ⟨trivial, rfl, hRf.mono ?_⟩
      rintro e W5 ⟨hres5, c5⟩
      obtain ⟨v5, rfl, r5⟩ := appRes_un hres5
      obtain ⟨p5, cp5, rfl⟩ := row_slice r5
      rw [hcl] at r5 ⊢
      rw [hz]
      have c25 := Chg.seq c24 c5
      have hcs4 : SlV W4 (.slice p4 cl.length cp4) (cl.map Value.string) := SlV.ofRow (by rw [List.length_map]; exact r4)
      have hcs5 : SlV W5 (.slice p5 cl.length cp5) (cl.map Value.string) := SlV.ofRow (by rw [List.length_map]; exact r5)
      have hc45 := hcs4.no c5
      have hs5 : SlS W5 (.slice p3 n3 cp3) (stp a b) := SlE.no eS_len (by decide) (SlE.no eS_len (by decide) s3 c4) c5
      obtain ⟨nc, HNC⟩ : ∃ n, Hid (cl.length = n) := ⟨_, rfl⟩
      rw [HNC.out] at r4 hrl hc45 hcs5 ⊢
      have sx5 := sx2.no c25
      have sy5 := sy2.no c25
      have hv5 := hv2.no c25
      have hu5 := hu2.no c25
      obtain ⟨t0, HT0⟩ : ∃ t, Hid (tl a b = t) := ⟨_, rfl⟩
      have h40a : a.length ≤ 400 := by rw [HA.out]; omega
      have h40b : b.length ≤ 400 := by rw [HB.out]; omega
      have hL1 := length_in _ _ a b _ sx5 sy5 h40a h40b
      rw [HT0.out] at hL1
      clear hA hRf hres hres5 hcs4 r5 hcl hz s3
      gi_wp2_with fail
      refine ⟨trivial, rfl, hL1.mono ?_⟩
      rintro e W6 ⟨rfl, c6⟩
      have c26 := Chg.seq c25 c6
      have hL2 := refLength_in _ _ a b _ (hv2.no c26) (hu2.no c26) h40a h40b
      rw [HT0.out] at hL2
      have htt : ((t0 : Int) == (t0 : Int)) = true := by simp
      gi_wp2_with fail
      refine ⟨trivial, rfl, hL2.mono ?_⟩
      rintro e W7 ⟨rfl, c7⟩
      have c27 := Chg.seq c26 c7
      clear hL1 hL2
      gi_wp2_with fail
      refine ⟨trivial, rfl, (pairs_in _ _ a b _ (sx2.no c27) (sy2.no c27) h40a h40b).mono ?_⟩
      rintro e W8 ⟨v8, rfl, r8, c8⟩
      have s8 : SlP W8 v8 (pr a b 0 0) := SlE.ofRow eP_len r8
      have c28 := Chg.seq c27 c8
      obtain ⟨p8, cp8, rfl⟩ := row_slice r8
      gi_wp2_with fail
      refine ⟨trivial, rfl, (refPairs_in _ _ a b _ (hv2.no c28) (hu2.no c28) h40a h40b).mono ?_⟩
      rintro e W9 ⟨v9, rfl, r9, c9⟩
      have s9 : SlP W9 v9 (pr a b 0 0) := SlE.ofRow eP_len r9
      have c29 := Chg.seq c28 c9
      have hpl : (pr a b 0 0).length ≤ 1000000 := by rw [pr_length]; exact Nat.le_trans (tl_le a b).1 (by omega)
      gi_wp2_with fail
      refine ⟨trivial, rfl, (samePairs_in _ _ _ _ _ (SlE.no eP_len (by decide) s8 c9) s9 hpl).mono ?_⟩
      rintro e W10 ⟨rfl, c10⟩
      rw [decide_eq_true rfl]
      have c210 := Chg.seq c29 c10
      clear r8 r9 s8 s9
      gi_wp2_with fail
      refine ⟨trivial, rfl, (refSteps_in _ _ a b _ (hv2.no c210) (hu2.no c210) h40a h40b).mono ?_⟩
      rintro e W11 ⟨v11, rfl, r11, c11⟩
      have s11 : SlS W11 v11 (stp a b) := SlE.ofRow eS_len r11
      have c211 := Chg.seq c210 c11
      have c511 : Chg No W5 W11 := Chg.seq (Chg.seq (Chg.seq (Chg.seq (Chg.seq c6 c7) c8) c9) c10) c11
      clear r11
      gi_wp2_with fail
      refine ⟨trivial, rfl, (sameSteps_in _ _ _ _ _ (SlE.no eS_len (by decide) hs5 c511) s11 (by have := stp_length a b; omega)).mono ?_⟩
      rintro e W12 ⟨rfl, c12⟩
      rw [decide_eq_true rfl]
      have c512 := Chg.seq c511 c12
      gi_wp2_with fail
      refine ⟨trivial, rfl, (sameS_in _ _ cl cl _ (hc45.no c512) (hcs5.no c512)).mono ?_⟩
      rintro e W13 ⟨rfl, c13⟩
      rw [decide_eq_true rfl]
      have c513 := Chg.seq c512 c13
      have c213 := Chg.seq c25 c513
      have c313 : Chg No W3 W13 := Chg.seq (Chg.seq c4 c5) c513
      have c413 : Chg No W4 W13 := Chg.seq c5 c513
      have hzz : (z == z) = true := by simp
      have r13 := row_keptS r3 (fun k hk => c313.block k (r3.lt k hk).2 (fun h => h))
      have q13 := row_keptS r4 (fun k hk => c413.block k (r4.lt k hk).2 (fun h => h))
      gi_wp2_with fail
      refine ⟨trivial, rfl, (overSt_in _ _ _ _ (by omega) _ c213.size r13).mono ?_⟩
      rintro e W14 ⟨⟨r14, rfl⟩, c14⟩
      have c214 : Chg No W2 W14 := c213.trans c14 (fun k hk => .inr (r3.lt k hk).1)
      have c314 : Chg (fun k => Value.ownBlock (.slice p3 n3 cp3) = some k) W3 W14 := (c313.mono (fun _ h => h.elim)).trans c14 (Grew.refl _ _)
      have q14 : W14.ownsRow W3.heap.size 9 1 (.slice p4 nc cp4) nc (cl.map Value.string) := row_keptS q13 (fun k hk => c14.block k (q13.lt k hk).2 (fun h => by have h1 := (q13.lt k hk).1; have h2 := (r3.lt k h).2; omega))
      gi_wp2_with fail
      refine ⟨trivial, rfl, (overS_in _ _ _ _ (by omega) _ c314.size q14).mono ?_⟩
      rintro e W15 ⟨⟨r15, rfl⟩, c15⟩
      have c215 : Chg No W2 W15 := c214.trans c15 (fun k hk => .inr (by have := (q14.lt k hk).1; have := c3.size; omega))
      gi_wp2_with fail
      refine ⟨trivial, rfl, (keptS_in _ _ a (by omega) _ _ (lx2.no c215) (hv2.no c215)).mono ?_⟩
      rintro e W16 ⟨rfl, c16⟩
      have c216 := Chg.seq c215 c16
      gi_wp2_with fail
      refine ⟨trivial, rfl, (keptS_in _ _ b (by omega) _ _ (ly2.no c216) (hu2.no c216)).mono ?_⟩
      rintro e W17 ⟨rfl, c17⟩
      have c217 := Chg.seq c216 c17
      gi_wp2_with fail
      refine ⟨trivial, rfl, (awake_in _).mono ?_⟩
      rintro e W18 ⟨rfl, c18⟩
      gi_wp2
      go_ret
      exact ⟨rfl, Chg.seq (Chg.seq c02 c217) c18⟩
    · gi_wp2_with fail
      refine ⟨trivial, rfl, (awake_in _).mono ?_⟩
      rintro e w1 ⟨rfl, c1⟩
      gi_wp2
      go_ret
      exact ⟨rfl, c1⟩
  · gi_wp2_with fail
    refine ⟨trivial, ?_⟩
    rename_i hKK
    apply hKK
    gi_wp2_with fail
    refine ⟨trivial, rfl, (awake_in _).mono ?_⟩
    rintro e w1 ⟨rfl, c1⟩
    gi_wp2
    go_ret
    exact ⟨rfl, c1⟩

end Go.Proofs.Ytafaihbfhcpjiaa
