/-
  BaseBest, walked.
-/
import Derived.Test.YtmpgeacfnikbpaaDoorZAwake
import Derived.Test.YtmpgeacfnikbpaaDoorGLoud
namespace Go.Proofs.YtmpgeacfnikbpaaDoor
open Go.RowKit Go.Shelf Go.SeqLib Go.DiffLib Go.TreeLib Go.RepoLib Go.DagLib Go.BigFrame
attribute [local go_sem] Oper.semAt_some

set_option maxRecDepth 100000 in
set_option maxHeartbeats 1000000 in
theorem bbest_law {Rep : Nat → Rp → Blk → Blk → World → Prop} (P : PutSpec Rep) (J : BaseSpec Rep) (p : Option Addr) (len cap : Nat) (zs : List Int) (a b : Int) (w : World) (hv : SlV w (.slice p len cap) (zs.map iv)) (hlen : zs.length = len) : CallsIn Fence.wide 0 Tryd.prog 4 #[.slice p len cap, iv a, iv b] w fun e w' => e = .returned (.bool true) ∧ Chg No w w' := by
  have hmix : Tryd.prog.follows .mixedOrders = true := by kernel_rfl
  have hnil : ∀ (B : Nat) (w : World), (binOp .eql 24 (ptr B) (.pointer none)).run Tryd.prog w = .ok (.bool false) w := fun B w => by simp [go_sem]
  have hml : len ≤ 9223372036854775807 := by obtain ⟨_, _, e, hl, hm, _⟩ := hv; cases e; rw [List.length_map] at hl; unfold maxLen at hm; omega
  refine callsIn_of_wp Tryd.func4 rfl trivial ?_
  simp only [Tryd.ntmps4, List.size_toArray, List.length_cons, List.length_nil, Nat.reduceAdd, Nat.reduceSub, Array.replicate_succ, Array.replicate_zero, List.push_toArray, List.append_toArray, List.nil_append, List.cons_append]
  by_cases hbig : 30 < len
  · have hbig' : (30 : Int) < (len : Int) := by omega
    gi_wp2_with fail
    refine ⟨trivial, rfl, (awakeB_in P J _).mono ?_⟩
    rintro e w1 ⟨rfl, c1⟩
    gi_wp2
    go_ret
    exact ⟨rfl, c1⟩
  by_cases hzero : len = 0
  · subst hzero
    gi_wp2_with fail
    refine ⟨trivial, rfl, (awakeB_in P J _).mono ?_⟩
    rintro e w1 ⟨rfl, c1⟩
    gi_wp2
    go_ret
    exact ⟨rfl, c1⟩
  · have hbig' : ¬ (30 : Int) < (len : Int) := by omega
    have hz1 : ((len : Int) == 0) = false := by rw [beq_eq_false_iff_ne]; omega
    have hz2 : ¬ (len : Int) = 0 := by omega
    have M1 := made_in P p len cap zs hlen (by omega) w hv
    obtain ⟨L, hL⟩ : ∃ L, mkL 0 (zs.map uN) = L := ⟨_, rfl⟩
    have hok : ParOk L := hL ▸ made_ok _
    have hLl : L.length = len := by rw [← hL, mkL_length, List.length_map, hlen]
    rw [hL] at M1
    have L1 := fun W => low_in a (len : Int) (by omega) (by omega) W
    have L2 := fun W => low_in b (len : Int) (by omega) (by omega) W
    obtain ⟨al, ah⟩ := lowI_range a (len : Int) (by omega) (by omega)
    obtain ⟨bl, bh⟩ := lowI_range b (len : Int) (by omega) (by omega)
    generalize lowI a (len : Int) = a1 at *
    generalize lowI b (len : Int) = b1 at *
    obtain ⟨xa, hxa⟩ : ∃ xa : Int, 1 + a1 = xa := ⟨_, rfl⟩
    obtain ⟨xb, hxb⟩ : ∃ xb : Int, 1 + b1 = xb := ⟨_, rfl⟩
    have ra : 1 ≤ xa ∧ xa ≤ 30 := by omega
    have rb : 1 ≤ xb ∧ xb ≤ 30 := by omega
    have h60 : L.length ≤ 60 := by omega
    have hlow := hok.low
    clear hL hzero
    gi_wp2_with fail
    refine ⟨trivial, rfl, M1.mono ?_⟩
    rintro e w1 ⟨B, Bw, S, O, lv, rows, rfl, r1, _, hS, k1⟩
    clear M1
    gi_wp2_with fail
    refine ⟨trivial, rfl, (L1 w1).mono ?_⟩
    rintro e w2 ⟨rfl, hw⟩
    subst hw
    gi_wp2_with fail
    refine ⟨trivial, rfl, (L2 w2).mono ?_⟩
    rintro e w3 ⟨rfl, hw⟩
    subst hw
    have A1 := J.common B _ S O xa xb w3 r1 hok h60 (by omega) (by omega) (by omega) (by omega)
    have A2 := fun W hW => J.best B (L, 60) S O xa xb W hW hok h60 (by omega) (by omega) (by omega) (by omega)
    have A3 := fun W hW => J.common B (L, 60) S O xb xa W hW hok h60 (by omega) (by omega) (by omega) (by omega)
    have A4 := fun W hW => J.best B (L, 60) S O xb xa W hW hok h60 (by omega) (by omega) (by omega) (by omega)
    dsimp only at A1 A2 A3 A4
    rw [com_swap xb xa] at A3
    rw [best_swap xb xa] at A4
    have IA : ∀ (x y : Int) (W : World), Rep B (L, 60) S O W → -2000 ≤ x → x ≤ 2000 → -2000 ≤ y → y ≤ 2000 → CallsIn Fence.wide 0 Tryd.prog 16 #[ptr B, iv x, iv y] W fun e w' => e = .returned (.bool (decide (x ∈ aheadI L y))) ∧ Chg No W w' := fun x y W hW h1 h2 h3 h4 => J.is B (L, 60) S O x y W hW hok h60 h1 h2 h3 h4
    have hl1 : (comL L xa xb).length ≤ 60 := Nat.le_trans (com_len _ _) h60
    have hl2 : (bestL L xa xb).length ≤ 60 := Nat.le_trans (best_len _ _) h60
    have HCr : Hid (∀ x ∈ comL L xa xb, 1 ≤ x ∧ x ≤ 60) := fun x hx => by have := (aheadI_range' (com_mem.1 hx).1).1; omega
    have HYr : Hid (∀ x ∈ bestL L xa xb, 1 ≤ x ∧ x ≤ 60) := fun x hx => by have := (aheadI_range' (com_mem.1 (best_mem.1 hx).1).1).1; omega
    have HYa : Hid (∀ x ∈ bestL L xa xb, decide (x ∈ aheadI L xa) = true ∧ decide (x ∈ aheadI L xb) = true) := fun x hx => by
      have := com_mem.1 (best_mem.1 hx).1
      exact ⟨decide_eq_true this.1, decide_eq_true this.2⟩
    have HYn : Hid (∀ x ∈ bestL L xa xb, ∀ y ∈ bestL L xa xb, ¬ x = y → decide (x ∈ aheadI L y) = false) := fun x hx y hy hne => by
      rcases (best_mem.1 hx).2 y (best_mem.1 hy).1 with e | e
      · exact absurd e hne
      · exact decide_eq_false e
    have HUn : Hid (∀ x ∈ comL L xa xb, (bestL L xa xb).any (fun y => decide (x ∈ aheadI L y)) = true) := fun x hx => by
      obtain ⟨y, hy, h⟩ := com_best hlow hx
      exact List.any_eq_true.2 ⟨y, hy, decide_eq_true h⟩
    have HCp : Hid ((comL L xa xb).Pairwise (fun x y => x < y)) := com_rise _ _
    have HYp : Hid ((bestL L xa xb).Pairwise (fun x y => x < y)) := best_rise _ _
    have HOne : Hid (xa ∈ aheadI L xb → bestL L xa xb = [xa]) := best_one hlow
    have HZ : Hid ((((comL L xa xb).length : Int) == 0) = (((bestL L xa xb).length : Int) == 0)) := by
      show _ = _
      rw [Bool.eq_iff_iff, beq_iff_eq, beq_iff_eq]
      constructor
      · intro h
        have h2 : comL L xa xb = [] := List.length_eq_zero_iff.1 (by omega)
        have h3 : bestL L xa xb = [] := List.eq_nil_iff_forall_not_mem.2 (fun x hx => by have := (best_mem.1 hx).1; rw [h2] at this; cases this)
        rw [h3]; rfl
      · intro h
        have h2 : bestL L xa xb = [] := List.length_eq_zero_iff.1 (by omega)
        have h3 : comL L xa xb = [] := List.eq_nil_iff_forall_not_mem.2 (fun x hx => by obtain ⟨y, hy, _⟩ := com_best hlow hx; rw [h2] at hy; cases hy)
        rw [h3]; rfl
    obtain ⟨C, hC⟩ : ∃ C, comL L xa xb = C := ⟨_, rfl⟩
    obtain ⟨Y, hY⟩ : ∃ Y, bestL L xa xb = Y := ⟨_, rfl⟩
    rw [hC] at A1 A3 hl1 HCr HUn HCp HZ
    rw [hY] at A2 A4 hl2 HYr HYa HYn HUn HYp HOne HZ
    clear hC hY hlow
    gi_wp2_with fail
    refine ⟨trivial, rfl, A1.mono ?_⟩
    rintro e w4 ⟨v4, rfl, o4, c4⟩
    have k4 := Chg.seq k1 c4
    have r4 := P.no r1 c4
    clear hxa hxb L1 L2 al ah bl bh hz1
    gi_wp2_with fail
    refine ⟨trivial, rfl, (A2 _ r4).mono ?_⟩
    rintro e w5 ⟨v5, rfl, o5, c5⟩
    have k5 := Chg.seq k4 c5
    have r5 := P.no r4 c5
    have s4 := o4.sl.no c5
    have s5 := o5.sl
    clear A1 A2 r1 r4 k1 k4 c4 c5
    gi_wp2_with fail
    refine ⟨trivial, rfl, (A3 _ r5).mono ?_⟩
    rintro e w6 ⟨v6, rfl, o6, c6⟩
    have I6 := sameI_in v6 v4 C C w6 o6.sl (s4.no c6)
    rw [decide_eq_true rfl] at I6
    have k6 := Chg.seq k5 c6
    have r6 := P.no r5 c6
    gi_wp2_with fail
    refine ⟨trivial, rfl, I6.mono ?_⟩
    rintro e w7 ⟨rfl, c7⟩
    have d7 := Chg.seq c6 c7
    have k7 := Chg.seq k6 c7
    have r7 := P.no r6 c7
    clear A3 I6 o6 k5 r5 k6 r6 c6 c7
    gi_wp2_with fail
    refine ⟨trivial, rfl, (A4 _ r7).mono ?_⟩
    rintro e w8 ⟨v8, rfl, o8, c8⟩
    have d8 := Chg.seq d7 c8
    have I8 := sameI_in v8 v5 Y Y w8 o8.sl (s5.no d8)
    rw [decide_eq_true rfl] at I8
    have k8 := Chg.seq k7 c8
    have r8 := P.no r7 c8
    obtain ⟨p1, q1, rfl⟩ := row_slice o4
    obtain ⟨p2, q2, rfl⟩ := row_slice o5
    obtain ⟨NC, hNC⟩ : ∃ NC, C.length = NC := ⟨_, rfl⟩
    obtain ⟨NY, hNY⟩ : ∃ NY, Y.length = NY := ⟨_, rfl⟩
    have HNC : Hid (C.length = NC) := hNC
    have HNY : Hid (Y.length = NY) := hNY
    rw [hNC, hNY] at HZ
    rw [hNC] at s4 hl1
    rw [hNY] at s5 hl2
    rw [hNC, hNY]
    rw [hNY] at I8
    obtain ⟨z, hz⟩ : ∃ z, ((NY : Int) == 0) = z := ⟨_, rfl⟩
    have hz4 : ((NC : Int) == 0) = z := HZ.out.trans hz
    have hz3 : (z != z) = false := by simp
    have d9 := d8
    clear A4 o4 o5 o8 r7 k7 d7 c8 hNC hNY
    gi_wp2_with fail
    refine ⟨trivial, rfl, I8.mono ?_⟩
    rintro e w9 ⟨rfl, c9⟩
    have k9 := Chg.seq k8 c9
    have r9 := P.no r8 c9
    have t4 := (s4.no d8).no c9
    have t5 := (s5.no d8).no c9
    clear I8 k8 r8 d8 d9 c9 s4 s5
    gi_wp2
    gi_loopw [11] (fun s11 wr => ∃ i : Nat, i ≤ NY ∧ s11 = .int .i64 (i : Int) ∧ Chg No w9 wr) (fun s11 _ => NY - (intOf s11).toNat)
    case atStart => exact ⟨0, Nat.zero_le _, rfl, Chg.refl _ _⟩
    case round =>
      obtain ⟨i, hi, rfl, c⟩ := hrel
      by_cases hlt : i < NY
      · have hlt' : (i : Int) < (NY : Int) := by omega
        obtain ⟨u, hu⟩ : ∃ u, Y[i]? = some u := ⟨_, List.getElem?_eq_getElem (by rw [HNY.out]; exact hlt)⟩
        have hum := List.mem_of_getElem? hu
        have hur := HYr.out u hum
        obtain ⟨b1, o1, rfl, x1⟩ := (t5.no c).get1 (i := i) (x := iv u) (by rw [List.getElem?_map, hu]; rfl)
        have I1 := IA u xa wr (P.no r9 c) (by omega) (by omega) (by omega) (by omega)
        rw [(HYa.out u hum).1] at I1
        gi_wp2_with fail
        refine ⟨trivial, rfl, I1.mono ?_⟩
        rintro e w10 ⟨rfl, c10⟩
        have k10 := Chg.seq c c10
        have I2 := IA u xb w10 (P.no r9 k10) (by omega) (by omega) (by omega) (by omega)
        rw [(HYa.out u hum).2] at I2
        have y1 : w10.cell? ⟨b1, o1 + i, none⟩ = some (iv u) := (World.cell?_of_block (a := ⟨b1, o1 + i, none⟩) (c10.block b1 (World.block_lt_of_cell? wr _ x1) (fun h => h))).trans x1
        clear I1 x1 c10 c
        gi_wp2_with fail
        refine ⟨trivial, rfl, I2.mono ?_⟩
        rintro e w11 ⟨rfl, c11⟩
        have k11 := Chg.seq k10 c11
        clear I2 y1 c11 k10
        gi_wp2
        gi_loopw [12] (fun s12 wr2 => ∃ k : Nat, k ≤ i ∧ s12 = .int .i64 (k : Int) ∧ Chg No w9 wr2) (fun s12 _ => i - (intOf s12).toNat)
        case atStart => exact ⟨0, Nat.zero_le _, rfl, k11⟩
        case round =>
          clear k11
          obtain ⟨k, hk, rfl, c⟩ := hrel
          by_cases hki : k < i
          · have hki' : (k : Int) < (i : Int) := by omega
            have hkN : (k : Int) < (NY : Int) := by omega
            obtain ⟨v, hv2⟩ : ∃ v, Y[k]? = some v := ⟨_, List.getElem?_eq_getElem (by rw [HNY.out]; omega)⟩
            have hvm := List.mem_of_getElem? hv2
            have hvr := HYr.out v hvm
            have hvu : v < u := by
              obtain ⟨q1, e1⟩ := List.getElem?_eq_some_iff.1 hu
              obtain ⟨q2, e2⟩ := List.getElem?_eq_some_iff.1 hv2
              rw [← e1, ← e2]
              exact List.pairwise_iff_getElem.1 HYp.out k i q2 q1 hki
            have hne : ¬ u ≤ v := by omega
            have hnd : decide (u ≤ v) = false := decide_eq_false hne
            have N1 := HYn.out v hvm u hum (by omega)
            have N2 := HYn.out u hum v hvm (by omega)
            have hany := After.any wr
            obtain ⟨_, _, e1, x1⟩ := (t5.no c).get1 (i := i) (x := iv u) (by rw [List.getElem?_map, hu]; rfl)
            cases e1
            obtain ⟨_, _, e2, x2⟩ := (t5.no c).get1 (i := k) (x := iv v) (by rw [List.getElem?_map, hv2]; rfl)
            cases e2
            have f1 : ∀ d : After wr, d.val.cell? ⟨b1, o1 + i, none⟩ = some (.int .i64 u) := fun d => d.cell x1
            have f2 : ∀ d : After wr, d.val.cell? ⟨b1, o1 + k, none⟩ = some (.int .i64 v) := fun d => d.cell x2
            have I1 : ∀ d : After wr, CallsIn Fence.wide 0 Tryd.prog 16 #[ptr B, iv v, iv u] d.val fun e w' => e = .returned (.bool false) ∧ Chg No d.val w' := fun d => by
              have := IA v u d.val (P.no (P.no r9 c) d.chg) (by omega) (by omega) (by omega) (by omega)
              rw [N1] at this
              exact this
            have I2 : ∀ d : After wr, CallsIn Fence.wide 0 Tryd.prog 16 #[ptr B, iv u, iv v] d.val fun e w' => e = .returned (.bool false) ∧ Chg No d.val w' := fun d => by
              have := IA u v d.val (P.no (P.no r9 c) d.chg) (by omega) (by omega) (by omega) (by omega)
              rw [N2] at this
              exact this
            clear x1 x2 hu hv2
            gi_wp2
            refine region_quietC hmix (by kernel_rfl) ?_
            repeat (gi_big_quiet_step (fail))
            refine wpQuietIn_want (fun _ _ _ _ => trivial) rfl ?_
            intro KQ hKQ
            gi_big_quiet_op
            gi_big_quiet_call (exact ⟨rfl, (I1 _).mono (by rintro e w'' ⟨rfl, c'⟩; exact ⟨rfl, After.more _ c'⟩)⟩)
            repeat (gi_big_quiet_step (fail))
            refine wpQuietIn_want (fun _ _ _ _ => trivial) rfl ?_
            intro KQ2 hKQ2
            gi_big_quiet_op
            gi_big_quiet_call (exact ⟨rfl, (I2 _).mono (by rintro e w'' ⟨rfl, c'⟩; exact ⟨rfl, After.more _ c'⟩)⟩)
            repeat (gi_big_quiet_step (fail))
            refine wpQuietIn_nil ?_
            rintro w' ⟨d, rfl⟩
            have cd := Chg.seq c d.chg
            gi_wp2
            refine ⟨⟨k + 1, by omega, by go_num, cd⟩, by simp [intOf]; omega⟩
          · obtain rfl : k = i := by omega
            have hki' : ¬ (k : Int) < (k : Int) := by omega
            gi_wp2
            refine ⟨⟨k + 1, by omega, by go_num, c⟩, by simp [intOf]; omega⟩
      · obtain rfl : NY = i := by omega
        have hlt' : ¬ (NY : Int) < (NY : Int) := by omega
        gi_wp2
        gi_loopw [13] (fun s13 wr2 => ∃ i : Nat, i ≤ NC ∧ s13 = .int .i64 (i : Int) ∧ Chg No w9 wr2) (fun s13 _ => NC - (intOf s13).toNat)
        case atStart => exact ⟨0, Nat.zero_le _, rfl, c⟩
        case round =>
          clear c
          obtain ⟨i, hi, rfl, c⟩ := hrel
          by_cases hlt : i < NC
          · have hlt' : (i : Int) < (NC : Int) := by omega
            obtain ⟨u, hu⟩ : ∃ u, C[i]? = some u := ⟨_, List.getElem?_eq_getElem (by rw [HNC.out]; exact hlt)⟩
            have hum := List.mem_of_getElem? hu
            have hur := HCr.out u hum
            have HU : Hid (Y.any (fun y => decide (u ∈ aheadI L y)) = true) := HUn.out u hum
            obtain ⟨b1, o1, rfl, _⟩ := (t4.no c).get1 (i := i) (x := iv u) (by rw [List.getElem?_map, hu]; rfl)
            gi_wp2
            gi_loopw [14, 15] (fun s14 s15 wr2 => ∃ k : Nat, k ≤ NY ∧ s14 = .bool ((Y.take k).any (fun y => decide (u ∈ aheadI L y))) ∧ s15 = .int .i64 (k : Int) ∧ Chg No w9 wr2) (fun _ s15 _ => NY - (intOf s15).toNat)
            case atStart => exact ⟨0, Nat.zero_le _, rfl, rfl, c⟩
            case round =>
              clear c
              obtain ⟨k, hk, rfl, rfl, c⟩ := hrel
              by_cases hkN : k < NY
              · have hkN' : (k : Int) < (NY : Int) := by omega
                obtain ⟨v, hv2⟩ : ∃ v, Y[k]? = some v := ⟨_, List.getElem?_eq_getElem (by rw [HNY.out]; exact hkN)⟩
                have hvm := List.mem_of_getElem? hv2
                have hvr := HYr.out v hvm
                have HSt : Hid ((Y.take (k + 1)).any (fun y => decide (u ∈ aheadI L y)) = ((Y.take k).any (fun y => decide (u ∈ aheadI L y)) || decide (u ∈ aheadI L v))) := by
                  show _ = _
                  rw [List.take_add_one, hv2, List.any_append]
                  simp
                obtain ⟨un, hun⟩ : ∃ un, (Y.take k).any (fun y => decide (u ∈ aheadI L y)) = un := ⟨_, rfl⟩
                rw [hun] at HSt
                rw [hun]
                clear hun
                cases un with
                | true =>
                  have HS2 : Hid ((Y.take (k + 1)).any (fun y => decide (u ∈ aheadI L y)) = true) := by show _ = _; rw [HSt.out]; rfl
                  have hany := After.any wr
                  gi_wp2
                  refine region_quietC hmix (by kernel_rfl) ?_
                  repeat (gi_big_quiet_step (fail))
                  refine wpQuietIn_skip (fun _ _ _ _ => trivial) rfl ?_
                  simp only [Act.put, List.setIfInBounds_toArray, List.set_cons_succ, List.set_cons_zero]
                  repeat (gi_big_quiet_step (fail))
                  refine wpQuietIn_nil ?_
                  rintro w' ⟨d, rfl⟩
                  have cd := Chg.seq c d.chg
                  gi_wp2
                  refine ⟨⟨k + 1, by omega, by rw [HS2.out], by go_num, cd⟩, by simp [intOf]; omega⟩
                | false =>
                  obtain ⟨bb, hbb⟩ : ∃ bb, decide (u ∈ aheadI L v) = bb := ⟨_, rfl⟩
                  have HS2 : Hid ((Y.take (k + 1)).any (fun y => decide (u ∈ aheadI L y)) = bb) := by show _ = _; rw [HSt.out, hbb]; rfl
                  obtain ⟨_, _, e1, x1⟩ := (t4.no c).get1 (i := i) (x := iv u) (by rw [List.getElem?_map, hu]; rfl)
                  cases e1
                  obtain ⟨b2, o2, rfl, x2⟩ := (t5.no c).get1 (i := k) (x := iv v) (by rw [List.getElem?_map, hv2]; rfl)
                  have hany := After.any wr
                  have f1 : ∀ d : After wr, d.val.cell? ⟨b1, o1 + i, none⟩ = some (.int .i64 u) := fun d => d.cell x1
                  have f2 : ∀ d : After wr, d.val.cell? ⟨b2, o2 + k, none⟩ = some (.int .i64 v) := fun d => d.cell x2
                  have I1 : ∀ d : After wr, CallsIn Fence.wide 0 Tryd.prog 16 #[ptr B, iv u, iv v] d.val fun e w' => e = .returned (.bool bb) ∧ Chg No d.val w' := fun d => by
                    have := IA u v d.val (P.no (P.no r9 c) d.chg) (by omega) (by omega) (by omega) (by omega)
                    rw [hbb] at this
                    exact this
                  clear hbb HSt x1 x2 hu hv2
                  gi_wp2
                  refine region_quietC hmix (by kernel_rfl) ?_
                  repeat (gi_big_quiet_step (fail))
                  refine wpQuietIn_want (fun _ _ _ _ => trivial) rfl ?_
                  intro KQ hKQ
                  gi_big_quiet_op
                  gi_big_quiet_call (exact ⟨rfl, (I1 _).mono (by rintro e w'' ⟨rfl, c'⟩; exact ⟨rfl, After.more _ c'⟩)⟩)
                  repeat (gi_big_quiet_step (fail))
                  refine wpQuietIn_nil ?_
                  rintro w' ⟨d, rfl⟩
                  have cd := Chg.seq c d.chg
                  gi_wp2
                  refine ⟨⟨k + 1, by omega, by rw [HS2.out], by go_num, cd⟩, by simp [intOf]; omega⟩
              · obtain rfl : NY = k := by omega
                have hkN' : ¬ (NY : Int) < (NY : Int) := by omega
                have hall : (Y.take NY).any (fun y => decide (u ∈ aheadI L y)) = true := by rw [List.take_of_length_le (by rw [HNY.out]; exact Nat.le_refl _)]; exact HU.out
                rw [hall]
                obtain ⟨_, _, e1, x1⟩ := (t4.no c).get1 (i := i) (x := iv u) (by rw [List.getElem?_map, hu]; rfl)
                cases e1
                cases i with
                | zero =>
                  gi_wp2
                  refine wpIn_region_quiet_lit rfl hmix (by kernel_rfl) ?_
                  repeat (gi_big_quiet_step (fail))
                  refine wpQuietIn_nil ?_
                  rintro w' ⟨j, rfl⟩
                  have cj := drewNC (Chg.refl No wr) j
                  have cw4 := Chg.seq c cj
                  gi_wp2
                  refine ⟨⟨1, by omega, by go_num, cw4⟩, by simp [intOf]; omega⟩
                | succ i =>
                  obtain ⟨u0, hu0⟩ : ∃ u0, C[i]? = some u0 := ⟨_, List.getElem?_eq_getElem (by rw [HNC.out]; omega)⟩
                  have hlt0 : u0 < u := by
                    obtain ⟨q1, e1⟩ := List.getElem?_eq_some_iff.1 hu
                    obtain ⟨q2, e2⟩ := List.getElem?_eq_some_iff.1 hu0
                    rw [← e1, ← e2]
                    exact List.pairwise_iff_getElem.1 HCp.out i (i + 1) q2 q1 (by omega)
                  have hle : ¬ u ≤ u0 := by omega
                  have hle2 : decide (u ≤ u0) = false := decide_eq_false hle
                  obtain ⟨_, _, e2, x2⟩ := (t4.no c).get1 (i := i) (x := iv u0) (by rw [List.getElem?_map, hu0]; rfl)
                  cases e2
                  have hj1 : (0 : Int) < ((i + 1 : Nat) : Int) := by omega
                  have hj2 : ((i + 1 : Nat) : Int) - 1 = (i : Int) := by omega
                  have hj3 : (i : Int) < (NC : Int) := by omega
                  clear hu hu0
                  gi_wp2
                  refine wpIn_region_quiet_lit rfl hmix (by kernel_rfl) ?_
                  repeat (gi_big_quiet_step (fail))
                  refine wpQuietIn_nil ?_
                  rintro w' ⟨j, rfl⟩
                  have cj := drewNC (Chg.refl No wr) j
                  have cw4 := Chg.seq c cj
                  gi_wp2
                  refine ⟨⟨i + 2, by omega, by go_num, cw4⟩, by simp [intOf]; omega⟩
          · obtain rfl : NC = i := by omega
            have hlt' : ¬ (NC : Int) < (NC : Int) := by omega
            have I1 := IA xa xb wr (P.no r9 c) (by omega) (by omega) (by omega) (by omega)
            gi_wp2_with fail
            refine ⟨trivial, rfl, I1.mono ?_⟩
            rintro e w10 ⟨rfl, c10⟩
            have k10 := Chg.seq k9 (Chg.seq c c10)
            by_cases hone : xa ∈ aheadI L xb
            · have hY1 := HOne.out hone
              rw [decide_eq_true hone]
              have s1 : SlV (w10.alloc (.cells #[.int .i64 xa] 3)) (.slice (some ⟨w10.heap.size, 0, none⟩) 1 1) (([xa] : List Int).map iv) := SlV.made w10 [.int .i64 xa] 3 (by simp)
              have c11 : Chg No w10 (w10.alloc (.cells #[.int .i64 xa] 3)) := (Chg.refl _ w10).alloc _
              have I11 := sameI_in _ _ Y [xa] _ (((t5.no c).no c10).no c11) s1
              rw [decide_eq_true hY1] at I11
              have k11 := Chg.seq k10 c11
              clear c10 c c11 k10 s1
              gi_wp2_with fail
              refine ⟨trivial, rfl, I11.mono ?_⟩
              rintro e w12 ⟨rfl, c12⟩
              gi_wp2_with fail
              refine ⟨trivial, rfl, (awakeB_in P J _).mono ?_⟩
              rintro e w13 ⟨rfl, c13⟩
              gi_wp2
              go_ret
              exact ⟨rfl, Chg.seq k11 (Chg.seq c12 c13)⟩
            · rw [decide_eq_false hone]
              gi_wp2_with fail
              refine ⟨trivial, ?_⟩
              rename_i hKK
              apply hKK
              gi_wp2_with fail
              refine ⟨trivial, rfl, (awakeB_in P J _).mono ?_⟩
              rintro e w13 ⟨rfl, c13⟩
              gi_wp2
              go_ret
              exact ⟨rfl, Chg.seq k10 c13⟩

end Go.Proofs.YtmpgeacfnikbpaaDoor
