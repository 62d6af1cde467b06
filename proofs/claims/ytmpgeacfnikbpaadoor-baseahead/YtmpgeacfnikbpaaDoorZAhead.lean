/-
  BaseAhead, walked.
-/
import Derived.Test.YtmpgeacfnikbpaaDoorZAwake
namespace Go.DagLib
open Go.RepoLib
/-- What two falling lists have in common, of the first those from a place on, rising. -/
def cmD (X Y : List Int) (m : Nat) : List Int := ((X.drop m).filter (fun t => decide (t ∈ Y))).reverse
theorem cmD_start (X Y : List Int) : cmD X Y X.length = [] := by unfold cmD; rw [List.drop_length]; rfl
theorem cmD_end (X Y : List Int) : cmD X Y 0 = cmL X Y := by unfold cmD cmL; rw [List.drop_zero]
theorem cmD_len (X Y : List Int) (m : Nat) : (cmD X Y m).length ≤ X.length := by
  unfold cmD
  rw [List.length_reverse]
  refine Nat.le_trans (List.length_filter_le _ _) ?_
  rw [List.length_drop]
  omega
/-- The number, if it is among the first ones. -/
def inT (u : Int) (Y : List Int) (k : Nat) : List Int := if u ∈ Y.take k then [u] else []
theorem inT_zero (u : Int) (Y : List Int) : inT u Y 0 = [] := by unfold inT; rw [List.take_zero, if_neg (by simp)]
theorem inT_len (u : Int) (Y : List Int) (k : Nat) : (inT u Y k).length ≤ 1 := by unfold inT; split <;> simp
theorem inT_ne {u v : Int} {Y : List Int} {k : Nat} (h : Y[k]? = some v) (hne : ¬ u = v) : inT u Y (k + 1) = inT u Y k := by
  unfold inT
  rw [List.take_add_one, h]
  simp [hne]
theorem inT_eq {u : Int} {Y : List Int} {k : Nat} (hY : Y.Pairwise (fun x y => y < x)) (h : Y[k]? = some u) : inT u Y (k + 1) = inT u Y k ++ [u] := by
  have hn : ¬ u ∈ Y.take k := fun hm => by
    obtain ⟨hk, hk2⟩ := List.getElem?_eq_some_iff.1 h
    obtain ⟨i, hi, hi2⟩ := List.mem_iff_getElem.1 hm
    rw [List.length_take] at hi
    rw [List.getElem_take] at hi2
    have := List.pairwise_iff_getElem.1 hY i k (by omega) hk (by omega)
    omega
  unfold inT
  rw [if_neg hn, if_pos (by rw [List.take_add_one, h]; simp)]
  rfl
theorem cmD_step {X Y : List Int} {m : Nat} {u : Int} (h : X[m]? = some u) : cmD X Y m = cmD X Y (m + 1) ++ inT u Y Y.length := by
  unfold cmD inT
  obtain ⟨hk, rfl⟩ := List.getElem?_eq_some_iff.1 h
  rw [List.drop_eq_getElem_cons hk, List.filter_cons, List.take_length]
  by_cases e : X[m] ∈ Y
  · rw [if_pos (decide_eq_true e), if_pos e, List.reverse_cons]
  · rw [if_neg (by rw [decide_eq_false e]; exact Bool.false_ne_true), if_neg e, List.append_nil]
end Go.DagLib
namespace Go.Proofs.YtmpgeacfnikbpaaDoor
open Go.RowKit Go.Shelf Go.SeqLib Go.DiffLib Go.TreeLib Go.RepoLib Go.DagLib Go.BigFrame
attribute [local go_sem] Oper.semAt_some

set_option maxRecDepth 100000 in
set_option maxHeartbeats 1000000 in
theorem bahead_law {Rep : Nat → Rp → Blk → Blk → World → Prop} (P : PutSpec Rep) (J : BaseSpec Rep) (p : Option Addr) (len cap : Nat) (zs : List Int) (a b : Int) (w : World) (hv : SlV w (.slice p len cap) (zs.map iv)) (hlen : zs.length = len) : CallsIn Fence.wide 0 Tryd.prog 5 #[.slice p len cap, iv a, iv b] w fun e w' => e = .returned (.bool true) ∧ Chg No w w' := by
  have hmix : Tryd.prog.follows .mixedOrders = true := by kernel_rfl
  have hnil : ∀ (B : Nat) (w : World), (binOp .eql 24 (ptr B) (.pointer none)).run Tryd.prog w = .ok (.bool false) w := fun B w => by simp [go_sem]
  have hml : len ≤ 9223372036854775807 := by obtain ⟨_, _, e, hl, hm, _⟩ := hv; cases e; rw [List.length_map] at hl; unfold maxLen at hm; omega
  refine callsIn_of_wp Tryd.func5 rfl trivial ?_
  simp only [Tryd.ntmps5, List.size_toArray, List.length_cons, List.length_nil, Nat.reduceAdd, Nat.reduceSub, Array.replicate_succ, Array.replicate_zero, List.push_toArray, List.append_toArray, List.nil_append, List.cons_append]
  by_cases hbig : 30 < len
  · have hbig' : (30 : Int) < (len : Int) := by omega
    gi_wp2_with fail
    refine ⟨trivial, rfl, (awakeB_in P J _).mono ?_⟩
    rintro e w1 ⟨rfl, c1⟩
    gi_wp2
    go_ret
    exact ⟨rfl, c1⟩
  by_cases hzero : len = 0
  · subst hzero
    gi_wp2_with fail
    refine ⟨trivial, rfl, (awakeB_in P J _).mono ?_⟩
    rintro e w1 ⟨rfl, c1⟩
    gi_wp2
    go_ret
    exact ⟨rfl, c1⟩
  · have hbig' : ¬ (30 : Int) < (len : Int) := by omega
    have hz1 : ((len : Int) == 0) = false := by rw [beq_eq_false_iff_ne]; omega
    have hz2 : ¬ (len : Int) = 0 := by omega
    have M1 := made_in P p len cap zs hlen (by omega) w hv
    obtain ⟨L, hL⟩ : ∃ L, mkL 0 (zs.map uN) = L := ⟨_, rfl⟩
    have hok : ParOk L := hL ▸ made_ok _
    have hLl : L.length = len := by rw [← hL, mkL_length, List.length_map, hlen]
    rw [hL] at M1
    have L1 := fun W => low_in a (len : Int) (by omega) (by omega) W
    have L2 := fun W => low_in b (len : Int) (by omega) (by omega) W
    obtain ⟨al, ah⟩ := lowI_range a (len : Int) (by omega) (by omega)
    obtain ⟨bl, bh⟩ := lowI_range b (len : Int) (by omega) (by omega)
    generalize lowI a (len : Int) = a1 at *
    generalize lowI b (len : Int) = b1 at *
    obtain ⟨xa, hxa⟩ : ∃ xa : Int, 1 + a1 = xa := ⟨_, rfl⟩
    obtain ⟨xb, hxb⟩ : ∃ xb : Int, 1 + b1 = xb := ⟨_, rfl⟩
    have ra : 1 ≤ xa ∧ xa ≤ 30 := by omega
    have rb : 1 ≤ xb ∧ xb ≤ 30 := by omega
    have h60 : L.length ≤ 60 := by omega
    clear hL hzero
    gi_wp2_with fail
    refine ⟨trivial, rfl, M1.mono ?_⟩
    rintro e w1 ⟨B, Bw, S, O, lv, rows, rfl, r1, _, hS, k1⟩
    clear M1
    gi_wp2_with fail
    refine ⟨trivial, rfl, (L1 w1).mono ?_⟩
    rintro e w2 ⟨rfl, hw⟩
    subst hw
    gi_wp2_with fail
    refine ⟨trivial, rfl, (L2 w2).mono ?_⟩
    rintro e w3 ⟨rfl, hw⟩
    subst hw
    have A1 := J.ahead B _ S O xa w3 r1 hok h60 (by omega) (by omega)
    have A2 := fun W hW => J.ahead B (L, 60) S O xb W hW hok h60 (by omega) (by omega)
    have A3 := fun W hW => J.common B (L, 60) S O xa xb W hW hok h60 (by omega) (by omega) (by omega) (by omega)
    dsimp only at A1 A2 A3
    have la := Nat.le_trans (aheadI_len' (L := L) xa) h60
    have lb := Nat.le_trans (aheadI_len' (L := L) xb) h60
    have fb := aheadI_falls' (L := L) xb
    have HC : Hid (cmL (aheadI L xa) (aheadI L xb) = comL L xa xb) := cm_com _ _ _
    generalize aheadI L xa = A at *
    generalize aheadI L xb = Y at *
    generalize comL L xa xb = C at *
    have HFB : Hid (Y.Pairwise (fun x y => y < x)) := fb
    gi_wp2_with fail
    refine ⟨trivial, rfl, A1.mono ?_⟩
    rintro e w4 ⟨v4, rfl, s4, c4⟩
    have k4 := Chg.seq k1 c4
    have r4 := P.no r1 c4
    clear fb hxa hxb L1 L2 ra rb al ah bl bh hz1
    gi_wp2_with fail
    refine ⟨trivial, rfl, (intsV_in v4 _ A 99 (by omega) w4 s4 (List.take_of_length_le (by omega)).symm).mono ?_⟩
    rintro e w5 ⟨v5, rfl, o5, c5⟩
    have k5 := Chg.seq k4 c5
    have r5 := P.no r4 c5
    clear A1 s4 r1 r4 k1 k4 c4 c5
    gi_wp2_with fail
    refine ⟨trivial, rfl, (A2 _ r5).mono ?_⟩
    rintro e w6 ⟨v6, rfl, s6, c6⟩
    have k6 := Chg.seq k5 c6
    have r6 := P.no r5 c6
    gi_wp2_with fail
    refine ⟨trivial, rfl, (intsV_in v6 _ Y 99 (by omega) w6 s6 (List.take_of_length_le (by omega)).symm).mono ?_⟩
    rintro e w7 ⟨v7, rfl, o7, c7⟩
    have k7 := Chg.seq k6 c7
    have r7 := P.no r6 c7
    have s1 := (o5.sl.no c6).no c7
    have s2 := o7.sl
    obtain ⟨p1, q1, rfl⟩ := row_slice o5
    obtain ⟨p2, q2, rfl⟩ := row_slice o7
    obtain ⟨NA, hNA⟩ : ∃ NA, A.length = NA := ⟨_, rfl⟩
    obtain ⟨NB, hNB⟩ : ∃ NB, Y.length = NB := ⟨_, rfl⟩
    have HNA : Hid (A.length = NA) := hNA
    have HNB : Hid (Y.length = NB) := hNB
    rw [hNA] at s1 la ⊢
    rw [hNB] at s2 lb ⊢
    have hD0 : cmD A Y NA = [] := by rw [← hNA]; exact cmD_start _ _
    have HD0 : Hid _ := hD0
    have HCl : Hid (∀ m, (cmD A Y m).length ≤ 60) := fun m => Nat.le_trans (cmD_len _ _ _) (by rw [hNA]; exact la)
    have HE : Hid (cmD A Y 0 = C) := by show _ = _; rw [cmD_end]; exact HC.out
    clear A2 o5 o7 s6 r5 r6 k5 k6 c6 c7 hNA hNB hD0
    gi_wp2
    gi_loopw [11, 12] (fun s8 s9 wr => ∃ m : Nat, m ≤ NA ∧ s9 = .int .i64 ((m : Int) - 1) ∧ OwnI wr w7.heap.size s8 (cmD A Y m) ∧ Chg No w7 wr) (fun _ s9 _ => (intOf s9 + 1).toNat)
    case atStart => exact ⟨NA, Nat.le_refl _, rfl, by rw [HD0.out]; exact World.ownsRow_nil _ _ _ _, Chg.refl _ _⟩
    case round =>
      obtain ⟨m, hm, rfl, hown, c⟩ := hrel
      cases m with
      | zero =>
        have hn : ¬ (0 : Int) ≤ ((0 : Nat) : Int) - 1 := by omega
        rw [HE.out] at hown
        gi_wp2_with fail
        refine ⟨trivial, rfl, (A3 _ (P.no r7 c)).mono ?_⟩
        rintro e w8 ⟨v8, rfl, o8, c8⟩
        have I8 := sameI_in v8 _ C C w8 o8.sl ((OwnI.sl hown).no c8)
        rw [decide_eq_true rfl] at I8
        gi_wp2_with fail
        refine ⟨trivial, rfl, I8.mono ?_⟩
        rintro e w9 ⟨rfl, c9⟩
        gi_wp2_with fail
        refine ⟨trivial, rfl, (awakeB_in P J _).mono ?_⟩
        rintro e w10 ⟨rfl, c10⟩
        gi_wp2
        go_ret
        exact ⟨rfl, Chg.seq k7 (Chg.seq c (Chg.seq c8 (Chg.seq c9 c10)))⟩
      | succ m =>
        have hm0 : ((m + 1 : Nat) : Int) - 1 = (m : Int) := by omega
        rw [hm0]
        clear hm0
        have hmN : (m : Int) < (NA : Int) := by omega
        obtain ⟨u, hu⟩ : ∃ u, A[m]? = some u := ⟨_, List.getElem?_eq_getElem (by rw [HNA.out]; exact hm)⟩
        have HS : Hid (cmD A Y m = cmD A Y (m + 1) ++ inT u Y NB) := by show _ = _; rw [← HNB.out]; exact cmD_step hu
        obtain ⟨b1, o1, rfl, _⟩ := (s1.no c).get1 (i := m) (x := iv u) (by rw [List.getElem?_map, hu]; rfl)
        have hown00 : ∀ v, OwnI wr w7.heap.size v (cmD A Y (m + 1)) → OwnI wr w7.heap.size v (cmD A Y (m + 1) ++ inT u Y 0) := fun v h => by rw [inT_zero, List.append_nil]; exact h
        have hown0 := hown00 _ hown
        clear hown00
        clear hown
        gi_wp2
        gi_loopw [11, 13] (fun s8 s10 wr2 => ∃ k : Nat, k ≤ NB ∧ s10 = .int .i64 (k : Int) ∧ OwnI wr2 w7.heap.size s8 (cmD A Y (m + 1) ++ inT u Y k) ∧ Chg No w7 wr2) (fun _ s10 _ => NB - (intOf s10).toNat)
        case atStart => exact ⟨0, Nat.zero_le _, rfl, hown0, c⟩
        case round =>
          clear hown0 c
          obtain ⟨k, hk, rfl, hown, c⟩ := hrel
          by_cases hlt : k < NB
          · have hlt' : (k : Int) < (NB : Int) := by omega
            obtain ⟨v, hv2⟩ : ∃ v, Y[k]? = some v := ⟨_, List.getElem?_eq_getElem (by rw [HNB.out]; exact hlt)⟩
            obtain ⟨_, _, e1, x1⟩ := (s1.no c).get1 (i := m) (x := iv u) (by rw [List.getElem?_map, hu]; rfl)
            cases e1
            obtain ⟨b2, o2, rfl, x2⟩ := (s2.no c).get1 (i := k) (x := iv v) (by rw [List.getElem?_map, hv2]; rfl)
            by_cases huv : u = v
            · subst huv
              have hbe : (u == u) = true := by simp
              have HN : Hid (cmD A Y (m + 1) ++ inT u Y (k + 1) = (cmD A Y (m + 1) ++ inT u Y k) ++ [u]) := by
                show _ = _
                rw [inT_eq HFB.out hv2, List.append_assoc]
              have hol : (cmD A Y (m + 1) ++ inT u Y k).length ≤ 100 := by
                rw [List.length_append]
                have := HCl.out (m + 1)
                have := inT_len u Y k
                omega
              generalize cmD A Y (m + 1) ++ inT u Y k = out at *
              obtain ⟨ln, hln⟩ : ∃ ln, out.length = ln := ⟨_, rfl⟩
              have HLn : Hid (out.length = ln) := hln
              have hown2 := hown
              change World.ownsRow _ _ _ _ _ out.length _ at hown2
              rw [hln] at hown2 hol
              obtain ⟨q5, k5, rfl⟩ := row_slice hown2
              clear hown hln hu hv2
              gi_wp2
              refine wpIn_region_quiet_lit rfl hmix (by kernel_rfl) ?_
              repeat (gi_big_quiet_step (fail))
              refine wpQuietIn_nil ?_
              rintro w' ⟨j, rfl⟩
              have cj := drewNC (Chg.refl No wr) j
              have cw4 := Chg.seq c cj
              have y1 : (wr.drewN j).cell? ⟨b1, o1 + m, none⟩ = some (.int .i64 u) := x1
              have hown4 : (wr.drewN j).ownsRow w7.heap.size 3 1 (.slice q5 ln k5) ln (out.map iv) := row_kept hown2 (fun k e => cj.block k (World.ownsRow.lt hown2 k e).2 (fun h => h))
              clear x1 x2 hown2 cj c
              generalize wr.drewN j = W4 at *
              have hsl : SlV (W4.alloc (.cells #[.int .i64 u] 3)) (.slice (some ⟨W4.heap.size, 0, none⟩) 1 1) ([u].map iv) := SlV.made W4 [.int .i64 u] 3 (by simp)
              have oA := World.ownsRow.alloc hown4 (.cells #[.int .i64 u] 3)
              have cA : Chg No w7 (W4.alloc (.cells #[.int .i64 u] 3)) := cw4.alloc _
              have hbs := cA.size
              have HLow : Hid (∀ j, Value.ownBlock (.slice q5 ln k5) = some j → w7.heap.size ≤ j) := fun j e => (World.ownsRow.lt oA j e).1
              have HG5 : Hid (∀ (W5 : World), (W4.alloc (.cells #[.int .i64 u] 3)).grownBy W5 (Value.slice q5 ln k5).ownBlock → Chg No w7 W5) := fun W5 hg => cA.grown hg (fun k e => .inr (HLow.out k e))
              clear cA cw4 hown4
              gi_wp2_with (gi_at_builtin; refine wpListIn_append_i _ rfl _ _ rfl w7.heap.size _ _ _ rfl oA (some ⟨W4.heap.size, 0, none⟩) 1 1 [u] rfl hsl (by omega) hbs ?_; intro v5 w5 hown5 hgrow5 hat5; have c05 := HG5.out w5 hgrow5)
              refine ⟨⟨k + 1, by omega, by go_num, ?_, c05⟩, by simp [intOf]; omega⟩
              rw [HN.out]
              show World.ownsRow _ _ _ _ _ _ _
              rw [List.map_append, List.length_append, HLn.out]
              exact hown5
            · have hbe : (u == v) = false := by rw [beq_eq_false_iff_ne]; exact huv
              have HN : Hid (inT u Y (k + 1) = inT u Y k) := inT_ne hv2 huv
              clear huv hv2 hu
              gi_wp2
              refine wpIn_region_quiet_lit rfl hmix (by kernel_rfl) ?_
              repeat (gi_big_quiet_step (fail))
              refine wpQuietIn_nil ?_
              rintro w' ⟨j, rfl⟩
              have cj := drewNC (Chg.refl No wr) j
              have cw4 := Chg.seq c cj
              have hown4 : OwnI (wr.drewN j) w7.heap.size _ (cmD A Y (m + 1) ++ inT u Y k) := row_kept hown (fun k e => cj.block k (World.ownsRow.lt hown k e).2 (fun h => h))
              gi_wp2
              refine ⟨⟨k + 1, by omega, by go_num, by rw [HN.out]; exact hown4, cw4⟩, by simp [intOf]; omega⟩
          · obtain rfl : k = NB := by omega
            have hlt' : ¬ (k : Int) < (k : Int) := by omega
            rw [← HS.out] at hown
            gi_wp2
            refine ⟨⟨m, by omega, by go_num, hown, c⟩, by simp [intOf]⟩

end Go.Proofs.YtmpgeacfnikbpaaDoor
