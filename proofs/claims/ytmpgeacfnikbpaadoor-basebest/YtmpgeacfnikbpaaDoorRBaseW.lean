/-
  The document's own Common and Best.
-/
import Derived.Test.YtmpgeacfnikbpaaDoorRBase
import Derived.Test.YtmpgeacfnikbpaaDoorRRefE
import Derived.Sort.CutIn
import Derived.Sort.QuietThIn
import Derived.Shelf.RegionOpen
namespace Go.Proofs.YtmpgeacfnikbpaaDoor
open Go.RowKit Go.Shelf Go.SeqLib Go.DiffLib Go.TreeLib Go.RepoLib Go.DagLib Go.BigFrame
attribute [local go_sem] Oper.semAt_some

theorem aheadI_len' {L : List Cm} (n : Int) : (aheadI L n).length ≤ L.length := by
  unfold aheadI
  cases h : hasN L.length n with
  | false => rw [if_neg Bool.false_ne_true]; simp
  | true =>
    rw [if_pos rfl, List.length_map]
    unfold hasN at h
    rw [Bool.and_eq_true, decide_eq_true_eq, decide_eq_true_eq] at h
    have h1 : ((down n.toNat).filter (fun k => isA (parL L) k n.toNat)).length ≤ (down n.toNat).length := List.length_filter_le _ _
    rw [down_length] at h1
    show ((down n.toNat).filter (fun k => isA (parL L) k n.toNat)).length ≤ _
    omega
theorem rowSl {W : World} {b : Nat} {v : Value} {l : List Int} (h : OwnI W b v l) : SlV W v (l.map iv) := SlV.ofRow (by rw [List.length_map]; exact h)

set_option maxRecDepth 100000 in
set_option maxHeartbeats 2000000 in
theorem refCommon_in (B : Nat) (s : Rp) (lv : Value) (rows : List Rw) (a b : Int) (w : World) (h : RefVw B s lv rows w) (hp : ParOk s.1) (hl : s.1.length ≤ 1000) :
    CallsIn Fence.wide 0 Tryd.prog 13 #[ptr B, iv a, iv b] w fun e w' => ∃ v, e = .returned v ∧ OwnI w' w.heap.size v (comL s.1 a b) ∧ Chg No w w' := by
  have hmix : Tryd.prog.follows .mixedOrders = true := by kernel_rfl
  have A1 := refAhead_in B s lv rows a w h hp hl
  have A2 := fun W hW => refAhead_in B s lv rows b W hW hp hl
  have la := aheadI_len' (L := s.1) a
  have lb := aheadI_len' (L := s.1) b
  have fa := aheadI_falls' (L := s.1) a
  have fb := aheadI_falls' (L := s.1) b
  have HC : Hid (cmL (aheadI s.1 a) (aheadI s.1 b) = comL s.1 a b) := cm_com _ _ _
  generalize aheadI s.1 a = A at A1 la fa HC
  generalize aheadI s.1 b = Y at A2 lb fb HC
  obtain ⟨C, hC⟩ : ∃ C, comL s.1 a b = C := ⟨_, rfl⟩
  rw [hC] at HC ⊢
  have HFA : Hid (A.Pairwise (fun x y => y < x)) := fa
  have HFB : Hid (Y.Pairwise (fun x y => y < x)) := fb
  have HCl : Hid (C.length ≤ 1000) := by
    show _ ≤ _
    rw [← HC.out]
    unfold cmL
    rw [List.length_reverse]
    exact Nat.le_trans (List.length_filter_le _ _) (Nat.le_trans la hl)
  clear fa fb hC
  refine callsIn_of_wp Tryd.func13 rfl trivial ?_
  simp only [Tryd.ntmps13, List.size_toArray, List.length_cons, List.length_nil, Nat.reduceAdd, Nat.reduceSub, Array.replicate_succ, Array.replicate_zero, List.push_toArray, List.append_toArray, List.nil_append, List.cons_append]
  gi_wp2_with fail
  refine ⟨trivial, rfl, A1.mono ?_⟩
  rintro e w1 ⟨v1, rfl, o1, c1⟩
  gi_wp2_with fail
  refine ⟨trivial, rfl, (A2 _ (h.no c1)).mono ?_⟩
  rintro e w2 ⟨v2, rfl, o2, c2⟩
  have s1 := (rowSl o1).no c2
  have s2 := rowSl o2
  have c02 := Chg.seq c1 c2
  obtain ⟨p1, k1, rfl⟩ := row_slice o1
  obtain ⟨p2, k2, rfl⟩ := row_slice o2
  obtain ⟨NA, hNA⟩ : ∃ NA, A.length = NA := ⟨_, rfl⟩
  obtain ⟨NB, hNB⟩ : ∃ NB, Y.length = NB := ⟨_, rfl⟩
  have HNA : Hid (A.length = NA) := hNA
  have HNB : Hid (Y.length = NB) := hNB
  rw [hNA] at s1 la ⊢
  rw [hNB] at s2 lb ⊢
  have hsz := c02.size
  clear A1 A2 o1 o2 c1 c2 hNA hNB h hp
  gi_wp2
  gi_loopw [9, 10, 11] (fun s9 s10 s11 wr => ∃ (m q : Nat) (out : List Int), m ≤ NA ∧ q ≤ NB ∧ s10 = .int .i64 ((m : Int) - 1) ∧ s11 = .int .i64 ((q : Int) - 1) ∧ OwnI wr w2.heap.size s9 out ∧ Hid (out ++ cmL (A.take m) (Y.take q) = C) ∧ Chg No w2 wr) (fun _ s10 s11 _ => (intOf s10 + intOf s11 + 2).toNat)
  case atStart => exact ⟨NA, NB, [], Nat.le_refl _, Nat.le_refl _, rfl, rfl, World.ownsRow_nil _ _ _ _, by show _ = _; rw [List.nil_append, List.take_of_length_le (by rw [HNA.out]; exact Nat.le_refl _), List.take_of_length_le (by rw [HNB.out]; exact Nat.le_refl _)]; exact HC.out, Chg.refl _ _⟩
  case round =>
    obtain ⟨m, q, out, hm, hq, rfl, rfl, hown, HI, c⟩ := hrel
    have hcw := Chg.seq c02 c
    cases m with
    | zero =>
      have hn : ¬ (0 : Int) ≤ ((0 : Nat) : Int) - 1 := by omega
      have HO : Hid (out = C) := by have := HI.out; rw [List.take_zero, cm_nil_left, List.append_nil] at this; exact this
      gi_wp2
      go_ret
      exact ⟨_, rfl, by rw [← HO.out]; exact rowBase hown hsz, hcw⟩
    | succ m =>
      have hm0 : ((m + 1 : Nat) : Int) - 1 = (m : Int) := by omega
      rw [hm0]
      cases q with
      | zero =>
        have hn : ¬ (0 : Int) ≤ ((0 : Nat) : Int) - 1 := by omega
        have HO : Hid (out = C) := by have := HI.out; rw [List.take_zero, cm_nil_right, List.append_nil] at this; exact this
        gi_wp2
        go_ret
        exact ⟨_, rfl, by rw [← HO.out]; exact rowBase hown hsz, hcw⟩
      | succ q =>
        have hq0 : ((q + 1 : Nat) : Int) - 1 = (q : Int) := by omega
        rw [hq0]
        clear hm0 hq0
        have hmN : (m : Int) < (NA : Int) := by omega
        have hqN : (q : Int) < (NB : Int) := by omega
        obtain ⟨u, hu⟩ : ∃ u, A[m]? = some u := ⟨_, List.getElem?_eq_getElem (by rw [HNA.out]; exact hm)⟩
        obtain ⟨v, hv⟩ : ∃ v, Y[q]? = some v := ⟨_, List.getElem?_eq_getElem (by rw [HNB.out]; exact hq)⟩
        have htu : A.take (m + 1) = A.take m ++ [u] := by rw [List.take_add_one, hu]; rfl
        have htv : Y.take (q + 1) = Y.take q ++ [v] := by rw [List.take_add_one, hv]; rfl
        have hpa : (A.take m ++ [u]).Pairwise (fun x y => y < x) := by rw [← htu]; exact HFA.out.sublist (List.take_sublist _ _)
        have hpb : (Y.take q ++ [v]).Pairwise (fun x y => y < x) := by rw [← htv]; exact HFB.out.sublist (List.take_sublist _ _)
        have HI2 : Hid (out ++ cmL (A.take m ++ [u]) (Y.take q ++ [v]) = C) := by show _ = _; rw [← htu, ← htv]; exact HI.out
        have HPA : Hid _ := hpa
        have HPB : Hid _ := hpb
        have HTU : Hid _ := htu
        have HTV : Hid _ := htv
        obtain ⟨b1, o1, rfl, x1⟩ := (s1.no c).get1 (i := m) (x := iv u) (by rw [List.getElem?_map, hu]; rfl)
        obtain ⟨b2, o2, rfl, x2⟩ := (s2.no c).get1 (i := q) (x := iv v) (by rw [List.getElem?_map, hv]; rfl)
        have hol : out.length ≤ 1000 := by
          have := congrArg List.length HI.out
          rw [List.length_append] at this
          have := HCl.out
          omega
        clear htu htv hpa hpb HI hu hv
        by_cases huv : u = v
        · subst huv
          have hbe : (u == u) = true := by simp
          have HN : Hid ((out ++ [u]) ++ cmL (A.take m) (Y.take q) = C) := by
            show _ = _
            rw [List.append_assoc]
            show out ++ (u :: cmL (A.take m) (Y.take q)) = C
            rw [← cm_both HPA.out]
            exact HI2.out
          obtain ⟨ln, hln⟩ : ∃ ln, out.length = ln := ⟨_, rfl⟩
          have HLn : Hid (out.length = ln) := hln
          rw [hln] at hol
          have hown2 := hown
          change World.ownsRow _ _ _ _ _ out.length _ at hown2
          rw [hln] at hown2
          obtain ⟨q5, k5, rfl⟩ := row_slice hown2
          clear hown hln
          gi_wp2
          refine wpIn_region_quiet_lit rfl hmix (by kernel_rfl) ?_
          repeat (gi_big_quiet_step (fail))
          refine wpQuietIn_nil ?_
          rintro w' ⟨j, rfl⟩
          have cj := drewNC (Chg.refl No wr) j
          have cw4 := Chg.seq c cj
          have y1 : (wr.drewN j).cell? ⟨b1, o1 + m, none⟩ = some (.int .i64 u) := x1
          have hown4 : (wr.drewN j).ownsRow w2.heap.size 3 1 (.slice q5 ln k5) ln (out.map iv) := row_kept hown2 (fun k e => cj.block k (World.ownsRow.lt hown2 k e).2 (fun h => h))
          clear x1 x2 hown2 cj c hcw
          generalize wr.drewN j = W4 at *
          have hsl : SlV (W4.alloc (.cells #[.int .i64 u] 3)) (.slice (some ⟨W4.heap.size, 0, none⟩) 1 1) ([u].map iv) := SlV.made W4 [.int .i64 u] 3 (by simp)
          have oA := World.ownsRow.alloc hown4 (.cells #[.int .i64 u] 3)
          have cA : Chg No w2 (W4.alloc (.cells #[.int .i64 u] 3)) := cw4.alloc _
          have hbs := cA.size
          have HLow : Hid (∀ j, Value.ownBlock (.slice q5 ln k5) = some j → w2.heap.size ≤ j) := fun j e => (World.ownsRow.lt oA j e).1
          have HG5 : Hid (∀ (W5 : World), (W4.alloc (.cells #[.int .i64 u] 3)).grownBy W5 (Value.slice q5 ln k5).ownBlock → Chg No w2 W5) := fun W5 hg => cA.grown hg (fun k e => .inr (HLow.out k e))
          clear cA cw4 hown4
          gi_wp2_with (gi_at_builtin; refine wpListIn_append_i _ rfl _ _ rfl w2.heap.size _ _ _ rfl oA (some ⟨W4.heap.size, 0, none⟩) 1 1 [u] rfl hsl (by omega) hbs ?_; intro v5 w5 hown5 hgrow5 hat5; have c05 := HG5.out w5 hgrow5)
          refine ⟨⟨m, q, out ++ [u], by omega, by omega, by go_num, by go_num, ?_, HN, c05⟩, by simp [intOf]; omega⟩
          show World.ownsRow _ _ _ _ _ _ _
          rw [List.map_append, List.length_append, HLn.out]
          exact hown5
        · have hbe : (u == v) = false := by rw [beq_eq_false_iff_ne]; exact huv
          by_cases hlt : u < v
          · have HN : Hid (out ++ cmL (A.take m) (Y.take (q + 1)) = C) := by show _ = _; rw [HTV.out, ← cm_left HPB.out hlt]; exact HI2.out
            have hld : decide (u < v) = true := decide_eq_true hlt
            clear huv hol
            gi_wp2
            refine wpIn_region_quiet_lit rfl hmix (by kernel_rfl) ?_
            repeat (gi_big_quiet_step (fail))
            refine wpQuietIn_nil ?_
            rintro w' ⟨j, rfl⟩
            have cj := drewNC (Chg.refl No wr) j
            have cw4 := Chg.seq c cj
            have y1 : (wr.drewN j).cell? ⟨b1, o1 + m, none⟩ = some (.int .i64 u) := x1
            have y2 : (wr.drewN j).cell? ⟨b2, o2 + q, none⟩ = some (.int .i64 v) := x2
            have hown4 : OwnI (wr.drewN j) w2.heap.size _ out := row_kept hown (fun k e => cj.block k (World.ownsRow.lt hown k e).2 (fun h => h))
            clear x1 x2 hown cj c hcw
            generalize wr.drewN j = W4 at *
            gi_wp2
            refine wpIn_region_quiet_lit rfl hmix (by kernel_rfl) ?_
            repeat (gi_big_quiet_step (fail))
            refine wpQuietIn_nil ?_
            rintro w' ⟨j, rfl⟩
            have cj := drewNC (Chg.refl No W4) j
            have hown6 : OwnI (W4.drewN j) w2.heap.size _ out := row_kept hown4 (fun k e => cj.block k (World.ownsRow.lt hown4 k e).2 (fun h => h))
            have c6 := Chg.seq cw4 cj
            gi_wp2
            refine ⟨⟨m, q + 1, out, by omega, by omega, by go_num, by go_num, hown6, HN, c6⟩, by simp [intOf]; omega⟩
          · have HN : Hid (out ++ cmL (A.take (m + 1)) (Y.take q) = C) := by show _ = _; rw [HTU.out, ← cm_right (v := v) HPA.out (by omega)]; exact HI2.out
            have hld : decide (u < v) = false := decide_eq_false hlt
            clear huv hol
            gi_wp2
            refine wpIn_region_quiet_lit rfl hmix (by kernel_rfl) ?_
            repeat (gi_big_quiet_step (fail))
            refine wpQuietIn_nil ?_
            rintro w' ⟨j, rfl⟩
            have cj := drewNC (Chg.refl No wr) j
            have cw4 := Chg.seq c cj
            have y1 : (wr.drewN j).cell? ⟨b1, o1 + m, none⟩ = some (.int .i64 u) := x1
            have y2 : (wr.drewN j).cell? ⟨b2, o2 + q, none⟩ = some (.int .i64 v) := x2
            have hown4 : OwnI (wr.drewN j) w2.heap.size _ out := row_kept hown (fun k e => cj.block k (World.ownsRow.lt hown k e).2 (fun h => h))
            clear x1 x2 hown cj c hcw
            generalize wr.drewN j = W4 at *
            gi_wp2
            refine wpIn_region_quiet_lit rfl hmix (by kernel_rfl) ?_
            repeat (gi_big_quiet_step (fail))
            refine wpQuietIn_nil ?_
            rintro w' ⟨j, rfl⟩
            have cj := drewNC (Chg.refl No W4) j
            have hown6 : OwnI (W4.drewN j) w2.heap.size _ out := row_kept hown4 (fun k e => cj.block k (World.ownsRow.lt hown4 k e).2 (fun h => h))
            have c6 := Chg.seq cw4 cj
            gi_wp2
            refine ⟨⟨m + 1, q, out, by omega, by omega, by go_num, by go_num, hown6, HN, c6⟩, by simp [intOf]; omega⟩

end Go.Proofs.YtmpgeacfnikbpaaDoor
