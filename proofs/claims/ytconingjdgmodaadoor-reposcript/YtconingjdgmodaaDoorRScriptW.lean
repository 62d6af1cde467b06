/-
  RepoScript answers true at every two numbers, every list of commits, and every number more, and turns nothing that lay.
-/
import Derived.Test.YtconingjdgmodaaDoorRDuo
import Derived.Test.YtconingjdgmodaaDoorLow
import Derived.Sort.CutIn
import Derived.Sort.QuietThIn
import Derived.Shelf.RegionOpen
namespace Go.Proofs.YtconingjdgmodaaDoor
open Go.RowKit Go.Shelf Go.SeqLib Go.DiffLib Go.TreeLib Go.RepoLib Go.BigFrame
attribute [local go_sem] Oper.semAt_some

set_option maxRecDepth 100000 in
set_option maxHeartbeats 8000000 in
theorem rscript_law {Rep : Nat → Rp → Blk → Blk → World → Prop} (J : RepoSpec2 Rep) (room : Int) (p0 : Option Addr) (n0 k0 : Nat) (rows : List Rw) (cs : List Cm) (k more : Int) (w : World) (hv : LowM w.heap.size w (.slice p0 n0 k0) rows cs) (hn0 : cs.length = n0) :
    CallsIn Fence.wide 0 Tryd.prog 3 #[iv room, .slice p0 n0 k0, iv k, iv more] w fun e w' => e = .returned (.bool true) ∧ Chg No w w' := by
  have hmix : Tryd.prog.follows .mixedOrders = true := by kernel_rfl
  have hnil : ∀ (B : Nat) (w : World), (binOp .eql 26 (ptr B) (.pointer none)).run Tryd.prog w = .ok (.bool false) w := fun B w => by
    simp [go_sem]
  have G1 := greatL_in (.slice p0 n0 k0) rows cs 30 w.heap.size w hv
  have HG : Hid (greatL cs 30 = false → cs.length ≤ 30 ∧ ∀ c ∈ cs, SmallC c) := fun h => greatL_false h
  have K9 := fun W => awakeR_in J.one W
  have HN : Hid (cs.length = n0) := hn0
  generalize greatL cs 30 = g at G1 HG
  refine callsIn_of_wp Tryd.func3 rfl trivial ?_
  simp only [Tryd.ntmps3, List.size_toArray, List.length_cons, List.length_nil, Nat.reduceAdd, Nat.reduceSub, Array.replicate_succ, Array.replicate_zero, List.push_toArray, List.append_toArray, List.nil_append, List.cons_append]
  gi_wp2_with fail
  refine ⟨trivial, rfl, G1.mono ?_⟩
  rintro e w1 ⟨rfl, c1⟩
  cases g with
  | true =>
    gi_wp2_with fail
    refine ⟨trivial, rfl, (K9 _).mono ?_⟩
    rintro e w2 ⟨rfl, c2⟩
    gi_wp2
    go_ret
    exact ⟨rfl, Chg.seq c1 c2⟩
  | false =>
  obtain ⟨hl30, hsm⟩ := HG.out rfl
  have HSm : Hid (∀ c ∈ cs, SmallC c) := hsm
  rw [hn0] at hl30
  clear hn0 hsm HG G1
  have L1 := fun W => low_in room 50 (by omega) (by omega) W
  have L2 := fun W => low_in more 50 (by omega) (by omega) W
  have L3 := fun W => low_in k ((n0 : Int) + 1) (by omega) (by omega) W
  obtain ⟨hx0, hx1⟩ := lowI_range room 50 (by omega) (by omega)
  obtain ⟨hy0, hy1⟩ := lowI_range more 50 (by omega) (by omega)
  obtain ⟨hz0, hz1⟩ := lowI_range k ((n0 : Int) + 1) (by omega) (by omega)
  generalize lowI room 50 = x at L1 hx0 hx1
  generalize lowI more 50 = y at L2 hy0 hy1
  generalize lowI k ((n0 : Int) + 1) = z at L3 hz0 hz1
  obtain ⟨kk, rfl⟩ : ∃ q : Nat, z = (q : Int) := ⟨z.toNat, by omega⟩
  have hkk : kk ≤ n0 := by omega
  clear hz0 hz1
  gi_wp2_with fail
  refine ⟨trivial, rfl, (L1 _).mono ?_⟩
  rintro e w2 ⟨rfl, rfl⟩
  gi_wp2_with fail
  refine ⟨trivial, rfl, (L2 _).mono ?_⟩
  rintro e w3 ⟨rfl, rfl⟩
  have N1 := J.new (x - 5) w3 (by omega) (by omega)
  gi_wp2_with fail
  refine ⟨trivial, rfl, N1.mono ?_⟩
  rintro e w4 ⟨B, S0, O0, rfl, r0, s0, c4⟩
  have c04 := Chg.seq c1 c4
  have N2 := duo_new2 J (b := w.heap.size) (W := w4) (m := w3.heap.size) ⟨S0, O0, r0, fun k hk => Nat.le_trans c1.size (s0 k hk), fun k hk => s0 k (J.sub r0 k hk)⟩ c1.size c4.size (x - 5) (by omega) (by omega)
  gi_wp2_with fail
  refine ⟨trivial, rfl, N2.mono ?_⟩
  rintro e w5 ⟨Bw, T0, U0, rfl, d0, c5⟩
  have c05 := Chg.seq c04 c5
  clear N1 N2 r0 s0 c4 c04 c1 L1 L2
  gi_wp2_with fail
  refine ⟨trivial, rfl, (L3 _).mono ?_⟩
  rintro e w6 ⟨rfl, rfl⟩
  clear L3
  gi_wp2
  gi_loopw [11] (fun s11 wr => ∃ (i : Nat) (s : Rp) (T U : Blk), i ≤ kk ∧ s11 = .int .i64 (i : Int) ∧ Hid (Tame SmallC i s) ∧ Duo Rep w.heap.size B Bw s s T U wr ∧ Chg No w wr) (fun s11 _ => kk - (intOf s11).toNat)
  case atStart => exact ⟨0, newC (x - 5), T0, U0, Nat.zero_le _, rfl, Tame.new _, d0, c05⟩
  case round =>
    obtain ⟨i, s, T, U, hi, rfl, HT, hD, c⟩ := hrel
    clear d0 c05
    have hlow := Duo.low J hD
    have hsub := Duo.sub J hD
    by_cases hlt : i < kk
    · have hlt' : (i : Int) < (kk : Int) := by omega
      have hin : (i : Int) < (n0 : Int) := by omega
      obtain ⟨xc, hx⟩ : ∃ xc, cs[i]? = some xc := ⟨_, List.getElem?_eq_getElem (by rw [HN.out]; omega)⟩
      have hsx : SmallC xc := HSm.out xc (List.mem_of_getElem? hx)
      obtain ⟨⟨r1, r2, r3⟩, b1, o1, hrow, rfl, hc1, hc2, hc3, hcm⟩ := (hv.no c).cell hx
      dsimp only at hc1 hc2 hc3 hcm
      have HC : Hid (∀ W, Chg No w W → (W.cell? ⟨b1, o1 + i * 3, none⟩ = some r1 ∧ W.cell? ⟨b1, o1 + i * 3 + 1, none⟩ = some r2 ∧ W.cell? ⟨b1, o1 + i * 3 + 2, none⟩ = some (.string r3) ∧ CmD (fun j => j < w.heap.size) W (.agg #[r1, r2, .string r3]) xc)) := fun W cW => by
        obtain ⟨r', b', o', hr', e', g1, g2, g3, g4⟩ := (hv.no cW).cell hx
        rw [hrow] at hr'
        cases hr'
        cases e'
        exact ⟨g1, g2, g3, g4⟩
      have hls : s.1.length ≤ 200 := by have := HT.out.len; omega
      have HT2 : Hid (Tame SmallC (i + 1) (addC s xc).1) := HT.out.add hsx
      have A1 := duo_add1 J hD hcm hsx hls
      gi_wp2_with fail
      refine ⟨trivial, rfl, A1.mono ?_⟩
      rintro e w7 ⟨rfl, T1, U1, d7, c7, g7, _⟩
      have c07 : Chg No w w7 := c.trans c7 (fun j h => .inr (hlow j (hsub j h)).1)
      have hlow1 := Duo.low J d7
      have hsub1 := Duo.sub J d7
      obtain ⟨f1, f2, f3, hcm7⟩ := HC.out w7 c07
      have A2 := duo_add2 J d7 hcm7 hsx hls HT.out.all
      clear A1 hc1 hc2 hc3 hcm
      gi_wp2_with fail
      refine ⟨trivial, rfl, A2.mono ?_⟩
      rintro e w8 ⟨rfl, T2, U2, d8, c8, g8, _⟩
      have c08 : Chg No w w8 := c07.trans c8 (fun j h => .inr (hlow1 j (hsub1 j h)).1)
      obtain ⟨q1, q2, q3, hcm8⟩ := HC.out w8 c08
      have hls2 : (addC s xc).1.1.length ≤ 200 := by have := HT2.out.len; omega
      have hany := After.any w8
      have X1 : ∀ d : After w8, CallsIn Fence.wide 0 Tryd.prog 14 #[iv ((addC s xc).2.2 : Nat)] d.val fun e w' => e = .returned (iv ((addC s xc).2.2 : Nat)) ∧ Chg No d.val w' := fun d => num_in _ _
      have X2 : ∀ d : After w8, CallsIn Fence.wide 0 Tryd.prog 15 #[.agg #[r1, r2, .string r3]] d.val fun e w' => e = .returned (.bool (mayC xc)) ∧ Chg No d.val w' := fun d => J.may _ _ xc d.val (hcm8.no d.chg) hsx
      have X3 : ∀ d : After w8, CallsIn Fence.wide 0 Tryd.prog 16 #[.agg #[r1, r2, .string r3]] d.val fun e w' => e = .returned (.bool (mayC xc)) ∧ Chg No d.val w' := fun d => refMayC_in _ xc _ d.val (hcm8.no d.chg)
      have X4 : ∀ d : After w8, CallsIn Fence.wide 0 Tryd.prog 17 #[ptr B, .agg #[r1, r2, .string r3]] d.val fun e w' => e = .returned (iv (findC (addC s xc).1.1 xc : Nat)) ∧ Chg No d.val w' := fun d => duo_find1 J (Duo.no J d8 d.chg) (hcm8.no d.chg) hsx hls2
      have X5 : ∀ d : After w8, CallsIn Fence.wide 0 Tryd.prog 18 #[ptr Bw, .agg #[r1, r2, .string r3]] d.val fun e w' => e = .returned (iv (findC (addC s xc).1.1 xc : Nat)) ∧ Chg No d.val w' := fun d => duo_find2 (Duo.no J d8 d.chg) (hcm8.no d.chg) hls2 HT2.out.all
      have k1 : ∀ d : After w8, d.val.cell? ⟨b1, o1 + i * 3, none⟩ = some r1 := fun d => d.cell q1
      have k2 : ∀ d : After w8, d.val.cell? ⟨b1, o1 + i * 3 + 1, none⟩ = some r2 := fun d => d.cell q2
      have k3 : ∀ d : After w8, d.val.cell? ⟨b1, o1 + i * 3 + 2, none⟩ = some (.string r3) := fun d => d.cell q3
      clear A2 q1 q2 q3 hcm8 f1 f2 f3 hcm7 c7 g7 c8 g8 d7 hD
      generalize findC (addC s xc).1.1 xc = ff at X4 X5
      generalize (addC s xc).1 = s' at HT2 d8 hls2
      generalize (addC s xc).2.1 = nn
      generalize (addC s xc).2.2 = ee at X1
      generalize mayC xc = mm at X2 X3
      gi_wp2
      refine region_quietC hmix (by kernel_rfl) ?_
      repeat (gi_big_quiet_step (fail))
      refine wpQuietIn_want (fun _ _ _ _ => trivial) rfl ?_
      intro KQ hKQ
      gi_big_quiet_op
      gi_big_quiet_call (exact ⟨rfl, (X1 _).mono (by rintro e w'' ⟨rfl, c'⟩; exact ⟨rfl, After.more _ c'⟩)⟩)
      repeat (gi_big_quiet_step (fail))
      refine wpQuietIn_want (fun _ _ _ _ => trivial) rfl ?_
      intro KQ2 hKQ2
      gi_big_quiet_op
      gi_big_quiet_call (exact ⟨rfl, (X2 _).mono (by rintro e w'' ⟨rfl, c'⟩; exact ⟨rfl, After.more _ c'⟩)⟩)
      repeat (gi_big_quiet_step (fail))
      refine wpQuietIn_want (fun _ _ _ _ => trivial) rfl ?_
      intro KQ3 hKQ3
      gi_big_quiet_op
      gi_big_quiet_call (exact ⟨rfl, (X3 _).mono (by rintro e w'' ⟨rfl, c'⟩; exact ⟨rfl, After.more _ c'⟩)⟩)
      repeat (gi_big_quiet_step (fail))
      refine wpQuietIn_want (fun _ _ _ _ => trivial) rfl ?_
      intro KQ4 hKQ4
      gi_big_quiet_op
      gi_big_quiet_call (exact ⟨rfl, (X4 _).mono (by rintro e w'' ⟨rfl, c'⟩; exact ⟨rfl, After.more _ c'⟩)⟩)
      repeat (gi_big_quiet_step (fail))
      refine wpQuietIn_want (fun _ _ _ _ => trivial) rfl ?_
      intro KQ5 hKQ5
      gi_big_quiet_op
      gi_big_quiet_call (exact ⟨rfl, (X5 _).mono (by rintro e w'' ⟨rfl, c'⟩; exact ⟨rfl, After.more _ c'⟩)⟩)
      repeat (gi_big_quiet_step (fail))
      refine wpQuietIn_nil ?_
      rintro w' ⟨d, rfl⟩
      have d9 := Duo.no J d8 d.chg
      have c09 := Chg.seq c08 d.chg
      clear k1 k2 k3 X1 X2 X3 X4 X5 hany d8
      generalize d.val = W9 at *
      gi_wp2
      refine ⟨⟨i + 1, s', T2, U2, hlt, by go_num, HT2, d9, c09⟩, by simp [intOf]; omega⟩
    · obtain rfl : i = kk := by omega
      have hlt' : ¬ (i : Int) < (i : Int) := by omega
      have hls : s.1.length ≤ 200 := by have := HT.out.len; omega
      have C1 := duo_copy1 J hD c.size (y - 5) hls (by omega) (by omega)
      gi_wp2_with fail
      refine ⟨trivial, rfl, C1.mono ?_⟩
      rintro e w7 ⟨B2, rfl, hh, c7⟩
      have C2 := duo_copy2 J (Duo.no J hD c7) hh c7.size (y - 5) hls HT.out.room (by omega) (by omega)
      gi_wp2_with fail
      refine ⟨trivial, rfl, C2.mono ?_⟩
      rintro e w8 ⟨B3, T3, U3, rfl, d8, t8, c8⟩
      have h8 := Duo.no J hD (Chg.seq c7 c8)
      have c08 := Chg.seq c (Chg.seq c7 c8)
      have SM := duo_same J h8 hls HT.out.all
      have HTc : Hid (Tame SmallC i (copyC s (y - 5))) := HT.out.copy _
      have hM : wr.heap.size ≤ w8.heap.size := (Chg.seq c7 c8).size
      clear C1 C2 hh c7 c8
      gi_wp2_with fail
      refine ⟨trivial, rfl, SM.mono ?_⟩
      rintro e w9 ⟨rfl, c9⟩
      have h9 := Duo.no J h8 c9
      have d9 := Duo.no J d8 c9
      have c09 := Chg.seq c08 c9
      have hM9 : wr.heap.size ≤ w9.heap.size := Nat.le_trans hM c9.size
      generalize copyC s (y - 5) = u0 at HTc d9 d8
      clear SM h8 d8 c08 c9 hM
      obtain ⟨M, hMM⟩ : ∃ M, wr.heap.size = M := ⟨_, rfl⟩
      have hMw : w.heap.size ≤ M := by rw [← hMM]; exact c.size
      rw [hMM] at hlow t8 hM9
      clear hMM hD c
      generalize wr = wa at *
      gi_wp2
      gi_loopw [18] (fun s18 wr => ∃ (j : Nat) (u : Rp) (T2 U2 : Blk), i ≤ j ∧ j ≤ n0 ∧ s18 = .int .i64 (j : Int) ∧ Hid (Tame SmallC j u) ∧ Duo Rep w.heap.size B2 B3 u u T2 U2 wr ∧ (∀ q, U2 q → M ≤ q) ∧ Duo Rep w.heap.size B Bw s s T U wr ∧ M ≤ wr.heap.size ∧ Chg No w wr) (fun s18 _ => n0 - (intOf s18).toNat)
      case atStart => exact ⟨i, u0, T3, U3, Nat.le_refl _, hkk, rfl, HTc, d9, t8, h9, hM9, c09⟩
      case round =>
        obtain ⟨j, u, T2, U2, hij, hj, rfl, HT2, hD2, t2, hD1, hMr, c⟩ := hrel
        clear d9 t8 h9 hM9 c09 HTc
        have hlow2 : ∀ q, U2 q → w.heap.size ≤ q ∧ q < wr.heap.size := fun q h => Duo.low J hD2 q (Duo.sub J hD2 q h)
        by_cases hlt2 : j < n0
        · have hlt2' : (j : Int) < (n0 : Int) := by omega
          obtain ⟨xc, hx⟩ : ∃ xc, cs[j]? = some xc := ⟨_, List.getElem?_eq_getElem (by rw [HN.out]; omega)⟩
          have hsx : SmallC xc := HSm.out xc (List.mem_of_getElem? hx)
          obtain ⟨⟨r1, r2, r3⟩, b1, o1, hrow, rfl, hc1, hc2, hc3, hcm⟩ := (hv.no c).cell hx
          dsimp only at hc1 hc2 hc3 hcm
          have HC : Hid (∀ W, Chg No w W → (W.cell? ⟨b1, o1 + j * 3, none⟩ = some r1 ∧ W.cell? ⟨b1, o1 + j * 3 + 1, none⟩ = some r2 ∧ W.cell? ⟨b1, o1 + j * 3 + 2, none⟩ = some (.string r3) ∧ CmD (fun j => j < w.heap.size) W (.agg #[r1, r2, .string r3]) xc)) := fun W cW => by
            obtain ⟨r', b', o', hr', e', g1, g2, g3, g4⟩ := (hv.no cW).cell hx
            rw [hrow] at hr'
            cases hr'
            cases e'
            exact ⟨g1, g2, g3, g4⟩
          have hls2 : u.1.length ≤ 200 := by have := HT2.out.len; omega
          have HT3 : Hid (Tame SmallC (j + 1) (addC u xc).1) := HT2.out.add hsx
          have A1 := duo_add1 J hD2 hcm hsx hls2
          gi_wp2_with fail
          refine ⟨trivial, rfl, A1.mono ?_⟩
          rintro e w7 ⟨rfl, T5, U5, d7, c7, _, g7⟩
          have c07 : Chg No w w7 := c.trans c7 (fun j h => .inr (hlow2 j h).1)
          have hlow5 : ∀ q, U5 q → w.heap.size ≤ q ∧ q < w7.heap.size := fun q h => Duo.low J d7 q (Duo.sub J d7 q h)
          have hO7 := Duo.chg J hD1 c7 (fun q h h2 => by have := (hlow q h).2; have := t2 q h2; omega) (fun q h => (hlow2 q h).1)
          have t5 : ∀ q, U5 q → M ≤ q := fun q h => by
            rcases g7 q h with h | h
            · exact t2 q h
            · omega
          have hM7 : M ≤ w7.heap.size := Nat.le_trans hMr c7.size
          obtain ⟨f1, f2, f3, hcm7⟩ := HC.out w7 c07
          have A2 := duo_add2 J d7 hcm7 hsx hls2 HT2.out.all
          clear A1 hc1 hc2 hc3 hcm hD2 hD1
          gi_wp2_with fail
          refine ⟨trivial, rfl, A2.mono ?_⟩
          rintro e w8 ⟨rfl, T6, U6, d8, c8, _, g8⟩
          have c08 : Chg No w w8 := c07.trans c8 (fun j h => .inr (hlow5 j h).1)
          have hO8 := Duo.chg J hO7 c8 (fun q h h2 => by have := (hlow q h).2; have := t5 q h2; omega) (fun q h => (hlow5 q h).1)
          have t6 : ∀ q, U6 q → M ≤ q := fun q h => by
            rcases g8 q h with h | h
            · exact t5 q h
            · omega
          have hM8 : M ≤ w8.heap.size := Nat.le_trans hM7 c8.size
          clear A2 f1 f2 f3 hcm7 c7 g7 c8 g8 d7 hO7 t5 hM7 c07 hlow5
          generalize (addC u xc).1 = s' at HT3 d8
          generalize (addC u xc).2.1 = nn
          generalize (addC u xc).2.2 = ee
          have X1 := fun W => num_in (ee : Int) W
          gi_wp2_with fail
          refine ⟨trivial, rfl, (X1 _).mono ?_⟩
          rintro e w9 ⟨rfl, c9⟩
          have d9 := Duo.no J d8 c9
          have h9 := Duo.no J hO8 c9
          have c09 := Chg.seq c08 c9
          have hM9 : M ≤ w9.heap.size := Nat.le_trans hM8 c9.size
          clear X1 d8 hO8 c08 hM8
          gi_wp2
          refine ⟨⟨j + 1, s', T6, U6, by omega, hlt2, by go_num, HT3, d9, t6, h9, hM9, c09⟩, by simp [intOf]; omega⟩
        · obtain rfl : j = n0 := by omega
          have hlt2' : ¬ (j : Int) < (j : Int) := by omega
          have S1 := duo_same J hD2 (by have := HT2.out.len; omega) HT2.out.all
          gi_wp2_with fail
          refine ⟨trivial, rfl, S1.mono ?_⟩
          rintro e w7 ⟨rfl, c7⟩
          have S2 := duo_same J (Duo.no J hD1 c7) hls HT.out.all
          gi_wp2_with fail
          refine ⟨trivial, rfl, S2.mono ?_⟩
          rintro e w8 ⟨rfl, c8⟩
          gi_wp2_with fail
          refine ⟨trivial, rfl, (K9 _).mono ?_⟩
          rintro e w9 ⟨rfl, c9⟩
          gi_wp2
          go_ret
          exact ⟨rfl, Chg.seq c (Chg.seq c7 (Chg.seq c8 c9))⟩

end Go.Proofs.YtconingjdgmodaaDoor
