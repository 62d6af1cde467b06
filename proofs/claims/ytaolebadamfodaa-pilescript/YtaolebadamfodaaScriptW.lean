/-
  The walk of cortegelaw2.PileScript.
-/
import Derived.Test.YtaolebadamfodaaScrB
import Derived.Test.YtaolebadamfodaaQuietR
import Derived.Test.YtaolebadamfodaaScrC
namespace Go.Proofs.Ytaolebadamfodaa.T
open Go.RowKit Go.Shelf Go.SeqLib Go.BigFrame Go.PileLib
attribute [local go_sem] Oper.semAt_some
attribute [local go_sem ↓] wpIn_append_pre wpIn_append_preC wpIn_slice_h wpIn_slice_l

set_option maxRecDepth 100000 in
set_option maxHeartbeats 1000000 in
theorem script_long (p : Option Addr) (n cap : Nat) (hn : 80 < n) (w : World) : CallsIn Fence.wide 0 Try.prog 3 #[.slice p n cap] w fun e w' => e = .returned (.bool true) ∧ Chg No w w' := by
  have hn' : (80 : Int) < (n : Int) := by omega
  refine callsIn_of_wp Try.func3 rfl trivial ?_
  simp only [Try.ntmps3, List.size_toArray, List.length_cons, List.length_nil, Nat.reduceAdd, Nat.reduceSub, Array.replicate_succ, Array.replicate_zero, List.push_toArray, List.append_toArray, List.nil_append, List.cons_append]
  gi_wp2_with fail
  refine ⟨trivial, rfl, (awake_in _).mono ?_⟩
  rintro e w1 ⟨rfl, c1⟩
  gi_wp2
  go_ret
  exact ⟨rfl, c1⟩

set_option maxRecDepth 100000 in
set_option maxHeartbeats 8000000 in
theorem script_in (p : Option Addr) (cap : Nat) (acts : List (Int × Int)) (hn : acts.length ≤ 80) (w : World) (hz : SlT w (.slice p acts.length cap) acts) : CallsIn Fence.wide 0 Try.prog 3 #[.slice p acts.length cap] w fun e w' => e = .returned (.bool true) ∧ Chg No w w' := by
  have hmix : Try.prog.follows .mixedOrders = true := by kernel_rfl
  refine callsIn_of_wp_marks Try.func3 rfl trivial ?_
  simp only [Try.ntmps3, List.size_toArray, List.length_cons, List.length_nil, Nat.reduceAdd, Nat.reduceSub, Array.replicate_succ, Array.replicate_zero, List.push_toArray, List.append_toArray, List.nil_append, List.cons_append]
  gi_wp2_with fail
  refine ⟨trivial, rfl, (new_seq 10 (ltK keyT) w).mono ?_⟩
  rintro e w1 ⟨rfl, p1, c1⟩
  have hB1 : w.heap.size < w1.heap.size := (Pile.part _ _ _ _ _).lt p1 _ rfl
  have H0 : Hid (Scr w w.heap.size w1.heap.size 0 (w1.alloc (.cells #[.slice none 0 0] 29))) := by
    refine ⟨[], .slice none 0 0, 0, _, (Pile.part _ _ _ _ _).chg p1 ((Chg.refl No w1).alloc _) (fun _ _ h => h), fun y h => (by cases h), Nat.le_refl _, Nat.le_refl _, Boxed.new w1 29 _, SlT.nil _, fun k h => absurd rfl h.1, by omega, fun k h => by omega, by omega, c1.alloc _, .inl rfl⟩
  obtain ⟨Bl, hBl⟩ : ∃ Bl, w1.heap.size = Bl := ⟨_, rfl⟩
  obtain ⟨B, hB⟩ : ∃ B, w.heap.size = B := ⟨_, rfl⟩
  gi_wp2
  rw [hBl] at H0
  rw [show Scr w w.heap.size Bl = Scr w B Bl by rw [hB]] at H0
  clear p1 hB1 hBl hB
  gi_loopw [5] (fun v wr => ∃ k : Nat, k ≤ acts.length ∧ v = .int .i64 (k : Int) ∧ Hid (Scr w B Bl k wr)) (fun v _ => acts.length - (intOf v).toNat)
  case atStart => exact ⟨0, Nat.zero_le _, rfl, H0⟩
  case round =>
    obtain ⟨k, hk, rfl, HS⟩ := hrel
    by_cases hlt : k < acts.length
    · have hkZ : (k : Int) < (acts.length : Int) := by omega
      obtain ⟨L, v, n, S, hV⟩ := HS.out
      have cw : Chg No w wr := hV.2.2.2.2.2.2.2.2.2.2.1
      obtain ⟨p', cap', e, ha1, ha2, hca⟩ := hz.chg cw (fun _ _ h => h)
      cases e
      obtain ⟨b, off, rfl, u1, u2⟩ := hca k acts[k] (by simp [hlt])
      obtain ⟨⟨dd, kk⟩, hd⟩ : ∃ d, acts[k] = d := ⟨_, rfl⟩
      rw [hd] at u1 u2
      simp only at u1 u2
      clear hca hd
      gi_wp2_with fail
      refine ⟨trivial, rfl, (low_in kk 9 (by omega) (by omega) _).mono ?_⟩
      rintro e wr' ⟨rfl, rfl⟩
      obtain ⟨xk, hxk⟩ : ∃ xk, lowI kk 9 = xk := ⟨_, rfl⟩
      rw [hxk]
      have hXw : w.heap.size ≤ wr'.heap.size := cw.size
      have hX1 : TBox (wr'.alloc (.cells #[.int .i64 xk, .int .i64 (k : Int)] 27)) wr'.heap.size xk k := World.alloc_heap_new wr' _
      have hV1 := hV.no ((Chg.refl No wr').alloc (.cells #[.int .i64 xk, .int .i64 (k : Int)] 27))
      have hXS : ¬ S wr'.heap.size := fun h => by have := (Pile.part _ _ _ _ _).lt hV.1 _ h; omega
      have hXB : wr'.heap.size ≠ Bl := by have := hV.2.2.2.2.1.lt; omega
      have hXs : ∀ j, slT v (L.map Prod.fst) j → j ≠ wr'.heap.size := fun j h => by have := hV.2.2.2.2.2.1.lt j h; omega
      have cw1 : Chg No w (wr'.alloc (.cells #[.int .i64 xk, .int .i64 (k : Int)] 27)) := cw.alloc _
      have u1' : (wr'.alloc (.cells #[.int .i64 xk, .int .i64 (k : Int)] 27)).cell? ⟨b, off + k * 2, none⟩ = some (.int .i64 dd) := (World.cell?_of_block (a := ⟨b, off + k * 2, none⟩) (Below.heap_alloc wr' _ b (World.block_lt_of_cell? wr' _ u1))).trans u1
      gi_upto_region 11 with (fail)
      rename_i K1 h1 K0 h0
      have HK0 := (show Hid _ from h0)
      clear h0
      generalize (wr'.alloc (.cells #[.int .i64 xk, .int .i64 (k : Int)] 27)) = W1 at hX1 hV1 cw1 u1' ⊢
      obtain ⟨X, hX⟩ : ∃ X, wr'.heap.size = X := ⟨_, rfl⟩
      rw [hX] at hX1 hXS hXB hXs ⊢
      clear u1 u2 hxk hV cw HS
      gi_wp2
      refine HK0.out _ _ ?_
      clear HK0 u1'
      gi_cut [] from 204 (fun w' => Hid (Scr w B Bl (k + 1) w'))
      case first =>
        rename_i JJ KK hJJ hKK
        have hV1' := hV1
        obtain ⟨hP, hlt2, hnm, hLm, hb, hs, hsd, hSB, hSw, hBw, hcw, hform⟩ := hV1
        have hcl := hb.cell
        obtain ⟨x1, x2⟩ := hX1.cells
        have HV1 : Hid (ScrV w B Bl k L v n S W1) := hV1'
        have HP : Hid (Pile B 10 (ltK keyT) L n S W1) := hP
        have HX1 : Hid (TBox W1 X xk k) := hX1
        have HXS : Hid (¬ S X) := hXS
        have HXs : Hid (∀ j, slT v (L.map Prod.fst) j → j ≠ X) := hXs
        have hPl := (Pile.part _ _ _ _ _).lt hP
        clear hV1' hP hX1 hXs H0
        by_cases d0 : dd = 0
        · subst d0
          obtain ⟨zs, hzs⟩ : ∃ zs, L.map Prod.fst = zs := ⟨_, rfl⟩
          have HZ : Hid (L.map Prod.fst = zs) := hzs
          have HZl : Hid (zs.length = L.length) := by show _ = _; rw [← hzs]; simp
          have hzl : zs.length ≤ 400 := by rw [← hzs]; simp; omega
          clear hzs
          have hso : L.Pairwise (fun a b => bef (ltK keyT) a b = true) := by obtain ⟨_, _, _, _, _, hg⟩ := HP.out; exact hg.sort
          have HSo := (show Hid _ from hso)
          clear hso
          gi_wp2_with fail
          refine ⟨trivial, rfl, (put_one less_less B L n (by omega) hlt2 S (by omega) W1 xk k HP.out).mono ?_⟩
          rintro e w2 ⟨rfl, S2, hP2, c2, g2⟩
          have hL2 := HV1.out.pile c2 g2
          rw [HZ.out] at hL2
          obtain ⟨hb2, hs2, hsd2, hSB2, hSw2, hcw2⟩ := hL2
          have hX2 : TBox w2 X xk k := c2.same HX1.out HXS.out
          have hcl2 := hb2.cell
          obtain ⟨x3, x4⟩ := hX2.cells
          have hv : ∃ pv cv, v = .slice pv zs.length cv := by obtain ⟨pv, cv, e, _⟩ := hs2; exact ⟨pv, cv, e⟩
          obtain ⟨pv, cv, rfl⟩ := hv
          have HP2 := (show Hid _ from hP2)
          have HS2 := (show Hid _ from hs2)
          clear hP2 hs hb hcl x1 x2 hs2
          gi_wp2_with fail
          refine ⟨trivial, rfl, (place_in pv cv zs (by omega) xk k w2 HS2.out).mono ?_⟩
          rintro e w3 ⟨k9, rfl, hk9, hq1, hq2, c3⟩
          have hb3 := c3.boxed hb2 (fun h => h)
          have hs3 := (show SlT _ _ _ from HS2.out).chg c3 (fun _ _ h => h)
          have hP3 := (Pile.part _ _ _ _ _).chg (show Pile _ _ _ _ _ _ _ from HP2.out) c3 (fun _ _ h => h)
          have hX3 : TBox w3 X xk k := c3.same hX2 (fun h => h)
          have hcw3 := hcw2.trans c3 (Grew.refl _ _)
          have hins : (ins (bef (ltK keyT)) L ((xk, (k : Int)), (n : Int))).map Prod.fst = zs.take k9 ++ [(xk, (k : Int))] ++ zs.drop k9 := by
            have := ins_place (x := (xk, (k : Int))) HSo.out hlt2 k9 (by rw [HZ.out]; exact hk9) (by simp only [HZ.out]; exact hq1) (by simp only [HZ.out]; exact hq2)
            rw [this, HZ.out]
          have HIns := (show Hid _ from hins)
          have Hlen : Hid ((ins (bef (ltK keyT)) L ((xk, (k : Int)), (n : Int))).length = L.length + 1) := by
            show _ = _
            rw [(ins_perm (r := bef (ltK keyT)) L ((xk, (k : Int)), (n : Int))).length_eq]; simp
          have Hltn : Hid (∀ y ∈ ins (bef (ltK keyT)) L ((xk, (k : Int)), (n : Int)), y.2 < ((n + 1 : Nat) : Int)) := fun y hy => by
            have := (ins_perm (r := bef (ltK keyT)) L ((xk, (k : Int)), (n : Int))).mem_iff.1 hy
            rcases List.mem_append.1 this with h | h
            · have := hlt2 y h; omega
            · simp at h; subst h; show (n : Int) < _; omega
          clear hins hq1 hq2
          have hcl3 := hb3.cell
          have hf3 := hb3.frozen
          obtain ⟨x5, x6⟩ := hX3.cells
          have hP3l := (Pile.part _ _ _ _ _).lt hP3
          have hbl3 := hb3.lt
          -- the end of it, for whatever row the list has become
          have HF : Hid (∀ v3 w4, w4.ownsRow w3.heap.size 27 2 v3 (zs.take k9 ++ [(xk, (k : Int))] ++ zs.drop k9).length (flatT (zs.take k9 ++ [(xk, (k : Int))] ++ zs.drop k9)) → Chg No w3 w4 → Scr w B Bl (k + 1) (w4.setCell ⟨Bl, 0, none⟩ v3)) := fun v3 w4 hr c4 => by
            refine ⟨_, v3, n + 1, S2, ScrV.list ((Pile.part _ _ _ _ _).chg hP3 c4 (fun _ _ h => h)) Hltn.out (by omega) (by rw [Hlen.out]; omega) (c4.boxed hb3 (fun h => h)) ?_ ?_ hSB2 hSw2 hBw (hcw3.trans c4 (Grew.refl _ _)) ?_⟩
            · rw [show _ = _ from HIns.out]; exact SlT.ofRow hr
            · intro q hq
              have h1 := World.ownsRow.lt hr q hq.2
              exact ⟨fun h => by have := hP3l q h; omega, by omega⟩
            · rcases row_form hr with h | ⟨b, off, c, h⟩
              · exact .inl h
              · refine .inr ⟨b, off, c, ?_⟩
                rw [h, Hlen.out]
                congr 1
                have := congrArg List.length (show _ = _ from HIns.out)
                rw [List.length_map, Hlen.out] at this
                exact this.symm
          -- what list[:k] and list[k:] read as
          have hdr : Chg No w3 w3.drew := (Chg.refl No w3).drew
          have hs4 := hs3.chg hdr (fun _ _ h => h)
          have hf : (pv = none ∧ zs = [] ∧ cv = 0) ∨ ∃ b off, pv = some ⟨b, off, none⟩ := by
            rcases hform with hf | ⟨bb, oo, cc, hf⟩
            · rw [Value.slice.injEq] at hf; exact .inl ⟨hf.1, List.length_eq_zero_iff.1 hf.2.1, hf.2.2⟩
            · rw [Value.slice.injEq] at hf; exact .inr ⟨_, _, hf.1⟩
          obtain ⟨tp, tc, dp, dc, hT1, hT, hD1, hD⟩ := cutT hs4 hf k9 hk9
          obtain ⟨ts, hts⟩ : ∃ ts, zs.take k9 = ts := ⟨_, rfl⟩
          obtain ⟨ds, hds⟩ : ∃ ds, zs.drop k9 = ds := ⟨_, rfl⟩
          have htl : ts.length = k9 := by rw [← hts]; simp; omega
          have hdl : ds.length = zs.length - k9 := by rw [← hds]; simp
          rw [hts] at hT
          rw [hds] at hD
          rw [hts, hds] at HF
          have hS1 := hT1.ok
          have hS2 := hT1.eq
          have hS3 := hD1.ok
          have hS4 := hD1.eq
          clear hf hform hT1 hD1
          -- one order: the slice is copied ahead of the thing's
          obtain ⟨v1, u1', A1, A2, A3, A4, A5, _⟩ := app_slT w3.drew w3.drew.heap.size (.slice none 0 0) [] (World.ownsRow_nil _ _ _ _) tp tc ts (by rw [htl]; exact hT) (by simp; omega) (Nat.le_refl _)
          have cA : Chg No w3.drew u1' := (Chg.refl No w3.drew).grown A5 (fun k e => by cases e)
          obtain ⟨v2, u2', v3, u3', C1, C2, C3, C4, C5, C6, C7, C8, C9⟩ := put_apps w3.drew xk k dp dc ts ds (by rw [hdl]; exact hD) (by omega) (u1'.alloc (.cells #[.int .i64 xk, .int .i64 (k : Int)] 27)) (cA.alloc _) u1'.heap.size (fun w h => (SlT.one u1' xk k).chg h (fun _ _ h => h)) v1 (rowKept A4 (fun k e => Below.heap_alloc u1' _ k (World.ownsRow.lt A4 k e).2))
          -- the other
          have cX : Chg No w3.drew (w3.alloc (.cells #[.int .i64 xk, .int .i64 (k : Int)] 27)).drew := ((Chg.refl No w3.drew).alloc _)
          obtain ⟨v4, u4', E1, E2, E3, E4, E5, _⟩ := app_slT (w3.alloc (.cells #[.int .i64 xk, .int .i64 (k : Int)] 27)).drew w3.drew.heap.size (.slice none 0 0) [] (World.ownsRow_nil _ _ _ _) tp tc ts (by rw [htl]; exact hT.chg cX (fun _ _ h => h)) (by simp; omega) cX.size
          have cE : Chg No (w3.alloc (.cells #[.int .i64 xk, .int .i64 (k : Int)] 27)).drew u4' := (Chg.refl No _).grown E5 (fun k e => by cases e)
          obtain ⟨v5, u5', v6, u6', F1, F2, F3, F4, F5, F6, F7, F8, F9⟩ := put_apps w3.drew xk k dp dc ts ds (by rw [hdl]; exact hD) (by omega) u4' (cX.trans cE (Grew.refl _ _)) w3.heap.size (fun w h => ((SlT.one w3 xk k).chg (S := No) (((Chg.refl No (w3.alloc (.cells #[.int .i64 xk, .int .i64 (k : Int)] 27))).drew).trans (cE.trans h (Grew.refl _ _)) (Grew.refl _ _)) (fun _ _ h => h))) v4 (by simpa using E4)
          have hc3 := (hb3 |> fun h => ((hdr.trans C8 (Grew.refl _ _)).boxed h (fun h => h))).cell
          have hfz3 := (hb3 |> fun h => ((hdr.trans C8 (Grew.refl _ _)).boxed h (fun h => h))).frozen
          have hc6 := (hb3 |> fun h => ((hdr.trans F8 (Grew.refl _ _)).boxed h (fun h => h))).cell
          have hfz6 := (hb3 |> fun h => ((hdr.trans F8 (Grew.refl _ _)).boxed h (fun h => h))).frozen
          rw [htl] at A1 A2 A3 E1 E2 E3
          rw [hdl] at C4 C5 C6 F4 F5 F6
          have hm1 := ((hdr.trans cA (Grew.refl _ _)).boxed hb3 (fun h => h)).cell
          have hm1' := (((hdr.trans cA (Grew.refl _ _)).boxed hb3 (fun h => h)).alloc (.cells #[.int .i64 xk, .int .i64 (k : Int)] 27)).cell
          have hm2 := ((hdr.trans C9 (Grew.refl _ _)).boxed hb3 (fun h => h)).cell
          have hm4 := ((hdr.trans (cX.trans cE (Grew.refl _ _)) (Grew.refl _ _)).boxed hb3 (fun h => h)).cell
          have hm5 := ((hdr.trans F9 (Grew.refl _ _)).boxed hb3 (fun h => h)).cell
          have hm0 := ((hdr.trans cX (Grew.refl _ _)).boxed hb3 (fun h => h)).cell
          obtain ⟨hy1, hy2⟩ := (show TBox u1' X xk k from (hdr.trans cA (Grew.refl _ _)).same hX3 (fun h => h)).cells
          obtain ⟨hy3, hy4⟩ := (show TBox u4' X xk k from (hdr.trans (cX.trans cE (Grew.refl _ _)) (Grew.refl _ _)).same hX3 (fun h => h)).cells
          have nX : w3.heap.size ≠ X := by have := hX3.lt; omega
          have nB : w3.heap.size ≠ Bl := by omega
          obtain ⟨N, hN⟩ : ∃ N, (ts ++ [(xk, (k : Int))] ++ ds).length = N := ⟨_, rfl⟩
          have HF' : Hid (∀ v3 w4, w4.ownsRow w3.heap.size 27 2 v3 N (flatT (ts ++ [(xk, (k : Int))] ++ ds)) → Chg No w3 w4 → Scr w B Bl (k + 1) (w4.setCell ⟨Bl, 0, none⟩ v3)) := fun v3 w4 hr c4 => HF.out v3 w4 (by rw [hN]; exact hr) c4
          rw [hN] at C7 F7
          clear hN
          obtain ⟨p3, n3, rfl⟩ := row_slice C7
          obtain ⟨p6, n6, rfl⟩ := row_slice F7
          have HC7 := (show Hid _ from C7)
          have HF7 := (show Hid _ from F7)
          clear C7 F7 A4 E4 hT hD hs3 hs4 hb2 hb3 hX2 hX3 hP3
          clear hk9 hts hds htl hdl
          clear HV1 HP HX1 HXS HXs HSo HS2 HP2 HIns Hlen Hltn HZ HZl hPl hP3l c2 g2 c3 hcw2 hcw3 hsd2 hSB2 hSw2 hcw hSw hSB hsd hlt2 cA cX cE C9 F9 A5 E5 HF hBw hXw ha1 ha2 hz c1
          gi_wp2
          gi_region_o
          all_goals gi_wp2
          all_goals gi_meet
          all_goals first | exact HF'.out _ _ HC7.out (hdr.trans C8 (Grew.refl _ _)) | exact HF'.out _ _ HF7.out (hdr.trans F8 (Grew.refl _ _))
        · have e0 : (dd == 0) = false := beq_eq_false_iff_ne.2 d0
          by_cases d1 : dd = 1
          · subst d1
            cases L with
            | nil =>
              have hv : ∃ pv cv, v = .slice pv 0 cv := by obtain ⟨pv, cv, e, _⟩ := hs; exact ⟨pv, cv, e⟩
              obtain ⟨pv, cv, rfl⟩ := hv
              gi_wp2_with fail
              refine ⟨trivial, rfl, (pop_none B n S W1 HP.out).mono ?_⟩
              rintro e w2 ⟨rfl, c2⟩
              have hV2 := HV1.out.no (c2.alloc (.cells #[.int .i64 0, .int .i64 0] 27))
              have hA : TBox (w2.alloc (.cells #[.int .i64 0, .int .i64 0] 27)) w2.heap.size 0 0 := World.alloc_heap_new w2 _
              have hcl2 := hV2.2.2.2.2.1.cell
              obtain ⟨a1, a2⟩ := hA.cells
              have HV2 : Hid (ScrV w B Bl k [] (.slice pv 0 cv) n S (w2.alloc (.cells #[.int .i64 0, .int .i64 0] 27))) := hV2
              clear hV2 hA
              gi_wp2
              generalize (w2.alloc (.cells #[.int .i64 0, .int .i64 0] 27)) = W2 at hcl2 a1 a2 HV2 ⊢
              generalize w2.heap.size = Xa at a1 a2 ⊢
              gi_big_quiet_th_o (fail)
              gi_wp2
              gi_meet
              exact ⟨[], _, n, S, (HV2.out.no (drewNC (Chg.refl _ _) nq)).mono (Nat.le_succ k)⟩
            | cons y M =>
              have hMl : M.length ≤ 100000 := by simp at hLm; omega
              gi_wp2_with fail
              refine ⟨trivial, rfl, (pop_in less_less (bef_ord keyT) B y M n S hMl W1 HP.out).mono ?_⟩
              rintro e w2 ⟨rfl, hP2, c2⟩
              have hL2 := HV1.out.pile c2 (Grew.refl S W1)
              have cA : Chg No w2 (w2.alloc (.cells #[.int .i64 y.1.1, .int .i64 y.1.2] 27)) := (Chg.refl No w2).alloc _
              have hA : TBox (w2.alloc (.cells #[.int .i64 y.1.1, .int .i64 y.1.2] 27)) w2.heap.size y.1.1 y.1.2 := World.alloc_heap_new w2 _
              obtain ⟨a1, a2⟩ := hA.cells
              obtain ⟨hb2, hs2, hsd2, hSB2, hSw2, hcw2⟩ := hL2
              have hb3 := cA.boxed hb2 (fun h => h)
              have hs3 := hs2.chg cA (fun _ _ h => h)
              have hP3 := (Pile.part _ _ _ _ _).chg hP2 cA (fun _ _ h => h)
              have hcw3 := hcw2.trans cA (Grew.refl _ _)
              have hcl3 := hb3.cell
              have hf3 := hb3.frozen
              have hs3' := hs3
              obtain ⟨pv, cv, rfl, hc1, hc2, hcells⟩ := hs3'
              obtain ⟨b9, o9, rfl, g1, g2⟩ := hcells 0 y.1 rfl
              simp only [Nat.zero_mul, Nat.add_zero] at g1 g2
              have hll : (List.map Prod.fst (y :: M)).length = M.length + 1 := by simp
              rw [hll] at hcl3 hc1
              have hpos : ((0 : Int) < (M.length : Int) + 1) = True := eq_true (by omega)
              have hposN : (0 < M.length + 1) = True := eq_true (by omega)
              have hcv : (1 : Int) ≤ (cv : Int) := by omega
              have HP3 : Hid (Pile B 10 (ltK keyT) M n S (w2.alloc (.cells #[.int .i64 y.1.1, .int .i64 y.1.2] 27))) := hP3
              have HS3 := (show Hid _ from hs3)
              have HB3 := (show Hid _ from hb3)
              clear hb2 hs2 hP2 hP3 hs3 hb3 hA hcells hcl hb hs
              gi_wp2
              generalize (w2.alloc (.cells #[.int .i64 y.1.1, .int .i64 y.1.2] 27)) = W2 at HP3 HS3 HB3 hcl3 hf3 a1 a2 g1 g2 hcw3 cA ⊢
              generalize w2.heap.size = Xa at a1 a2 ⊢
              gi_big_quiet_th_o (fail)
              have dn : Chg No W2 (W2.drewN nq) := drewNC (Chg.refl _ _) nq
              have HN : Hid (∀ u, SlT (W2.drewN nq) u (M.map Prod.fst) → u.ownBlock = some b9 → (u = .slice none 0 0 ∨ ∃ b off c, u = .slice (some ⟨b, off, none⟩) M.length c) → Scr w B Bl (k + 1) ((W2.drewN nq).setCell ⟨Bl, 0, none⟩ u)) := fun u h1 h2 h3 =>
                ⟨M, u, n, S, ScrV.list ((Pile.part _ _ _ _ _).chg HP3.out dn (fun _ _ h => h)) (fun z hz => hlt2 z (List.mem_cons_of_mem _ hz)) (by omega) (by simp at hLm; omega) (dn.boxed HB3.out (fun h => h)) h1 (fun j hj => by
                  have e : j = b9 := by have := hj.2; rw [h2] at this; cases this; rfl
                  subst e
                  exact hsd2 j ⟨by simp, rfl⟩) hSB2 hSw2 hBw (hcw3.trans dn (Grew.refl _ _)) h3⟩
              have hs4 := (show SlT _ _ _ from HS3.out).chg dn (fun _ _ h => h)
              rw [hll] at hs4
              have HS4 := (show Hid _ from hs4)
              clear hs4
              gi_wp2
              all_goals gi_meet
              · refine HN.out _ ?_ rfl (.inr ⟨_, _, _, rfl⟩)
                have hM0 : M = [] := List.length_eq_zero_iff.1 (by omega)
                subst hM0
                exact ⟨_, _, rfl, Nat.le_refl _, Nat.zero_le _, fun i x hi => by simp at hi⟩
              · refine HN.out _ ?_ rfl (.inr ⟨_, _, _, rfl⟩)
                have := (show SlT _ _ _ from HS4.out).drop 1 (by omega)
                simpa using this
          · have e1 : (dd == 1) = false := beq_eq_false_iff_ne.2 d1
            by_cases d2 : dd = 2
            · subst d2
              have hv : ∃ pv cv, v = .slice pv (L.map Prod.fst).length cv := by obtain ⟨pv, cv, e, _⟩ := hs; exact ⟨pv, cv, e⟩
              obtain ⟨pv, cv, rfl⟩ := hv
              obtain ⟨zs, hzs⟩ : ∃ zs, L.map Prod.fst = zs := ⟨_, rfl⟩
              have HZ : Hid (L.map Prod.fst = zs) := hzs
              rw [hzs] at hs hsd hcl hb HXs
              have hzl : zs.length ≤ 500 := by rw [← hzs]; simp; omega
              have HZl : Hid (zs.length = L.length) := by show _ = _; rw [← hzs]; simp
              have HHs := (show Hid _ from hs)
              clear hzs hs
              obtain ⟨i0, hi0, hz0, hz1, hz2⟩ := info_parts info27
              gi_wp2
              gi_loopw [10, 11] (fun r i wr => ∃ (j : Nat) (ys : List (Int × Int)), j ≤ zs.length ∧ i = .int .i64 (j : Int) ∧ Hid (ys = (zs.take j).filter (fun y => y.1 != xk)) ∧ wr.ownsRow W1.heap.size 27 2 r ys.length (flatT ys) ∧ Chg No W1 wr) (fun _ i _ => zs.length - (intOf i).toNat)
              case atStart => exact ⟨0, [], Nat.zero_le _, rfl, rfl, World.ownsRow_nil _ _ _ _, Chg.refl _ _⟩
              case round =>
                obtain ⟨j, ys, hj, rfl, HY, hrow, cj⟩ := hrel
                have hclj := (cj.boxed hb (fun h => h)).cell
                have hxj : TBox wr X xk k := cj.same HX1.out (fun h => h)
                obtain ⟨x3, x4⟩ := hxj.cells
                have hyl : ys.length ≤ 500 := by rw [HY.out]; exact Nat.le_trans (List.length_filter_le _ _) (by simp; omega)
                by_cases hltj : j < zs.length
                · have hjZ : (j : Int) < (zs.length : Int) := by omega
                  obtain ⟨pv', cv', e, h1, h2, hc⟩ := (show SlT _ _ _ from HHs.out).chg cj (fun _ _ h => h)
                  cases e
                  obtain ⟨b9, o9, rfl, g1, g2⟩ := hc j zs[j] (by simp [hltj])
                  obtain ⟨⟨y1, y2⟩, hy⟩ : ∃ y, zs[j] = y := ⟨_, rfl⟩
                  rw [hy] at g1 g2
                  simp only at g1 g2
                  have HT : Hid (zs.take (j + 1) = zs.take j ++ [(y1, y2)]) := by show _ = _; rw [List.take_succ_eq_append_getElem hltj, hy]
                  clear hc hy
                  by_cases hne : y1 = xk
                  · have hb' : (y1 != xk) = false := by simp [hne]
                    have HY2 : Hid (ys = (zs.take (j + 1)).filter (fun y => y.1 != xk)) := by
                      show _ = _
                      rw [HT.out, List.filter_append, ← HY.out]
                      simp [hne]
                    clear hne
                    gi_wp2
                    gi_big_quiet_th_o (fail)
                    gi_wp2
                    go_roundw
                    case rel => exact ⟨j + 1, ys, hltj, by go_num, HY2, rowKept hrow (fun _ _ => rfl), drewNC cj _⟩
                    case measure => simp [intOf]; omega
                  · have hb' : (y1 != xk) = true := by simp [hne]
                    have HY2 : Hid (ys ++ [(y1, y2)] = (zs.take (j + 1)).filter (fun y => y.1 != xk)) := by
                      show _ = _
                      rw [HT.out, List.filter_append, ← HY.out]
                      simp [hne]
                    clear hne
                    gi_wp2
                    gi_big_quiet_th_o (fail)
                    have hrow2 : (wr.drewN nq).ownsRow W1.heap.size 27 2 u10 ys.length (flatT ys) := rowKept hrow (fun _ _ => rfl)
                    have cj2 : Chg No W1 (wr.drewN nq) := drewNC cj nq
                    have g3 := (show (wr.drewN nq).cell? ⟨b9, o9 + j * 2, none⟩ = some (.int .i64 y1) from g1)
                    have g4 := (show (wr.drewN nq).cell? ⟨b9, o9 + j * 2 + 1, none⟩ = some (.int .i64 y2) from g2)
                    have hcl4 := (cj2.boxed hb (fun h => h)).cell
                    generalize wr.drewN nq = wq at hrow2 cj2 g3 g4 hcl4 ⊢
                    have hra := rowKept (W' := wq.alloc (.cells #[.int .i64 y1, .int .i64 y2] 27)) hrow2 (fun k e => Below.heap_alloc wq _ k (World.ownsRow.lt hrow2 k e).2)
                    obtain ⟨r', w9, hok, hv', hw', hown', hgrow, hat⟩ := app_slT (wq.alloc (.cells #[.int .i64 y1, .int .i64 y2] 27)) W1.heap.size u10 ys hra (some ⟨wq.heap.size, 0, none⟩) 1 [(y1, y2)] (SlT.one wq y1 y2) (by simp; omega) (by have := cj2.size; simp; omega)
                    simp only [List.length_singleton] at hok hv' hw'
                    have c9 : Chg No W1 w9 := (cj2.alloc _).grown hgrow (fun k e => .inr (World.ownsRow.lt hra k e).1)
                    have HO := (show Hid _ from hown')
                    clear hown' hra hrow2 hrow g1 g2 x3 x4 hclj
                    gi_wp2
                    go_roundw
                    case rel => exact ⟨j + 1, ys ++ [(y1, y2)], hltj, by go_num, HY2, HO.out, c9⟩
                    case measure => simp [intOf]; omega
                · obtain rfl : j = zs.length := by omega
                  have HYs : Hid (ys = zs.filter (fun y => y.1 != xk)) := by have := HY.out; rwa [List.take_length] at this
                  have hPj := (Pile.part _ _ _ _ _).chg HP.out cj (fun _ _ h => h)
                  have hyv : ∃ pr cr, u10 = .slice pr ys.length cr := row_slice hrow
                  obtain ⟨pr, cr, rfl⟩ := hyv
                  have hLl : L.length ≤ 100000 := by omega
                  have hxS := HXS.out
                  gi_wp2_with fail
                  refine ⟨trivial, rfl, (remove_in less_less B L n S hLl wr hPj (same_fun X xk k wr hxj) (fun j h h2 => hxS (h ▸ h2))).mono ?_⟩
                  rintro e w2 ⟨S2, M, rfl, hM, hP2, hlt3, c2, g2⟩
                  have hyM : ys = M.map Prod.fst := by
                    rw [hM, HZ.out, HYs.out]
                    congr 1
                  have hMl : M.length = ys.length := by rw [hyM]; simp
                  have hVj := HV1.out.no cj
                  have hL2 := hVj.pile c2 g2
                  rw [HZ.out] at hL2
                  obtain ⟨hb2, hs2, hsd2, hSB2, hSw2, hcw2⟩ := hL2
                  have hcl2 := hb2.cell
                  have hf2 := hb2.frozen
                  have hrl := World.ownsRow.lt hrow
                  have hrow2 : w2.ownsRow W1.heap.size 27 2 (.slice pr ys.length cr) ys.length (flatT ys) := rowKept hrow (fun k e => c2.block k (hrl k e).2 (fun h => by have := hPl k h; have := (hrl k e).1; omega))
                  have HF : Hid (Scr w B Bl (k + 1) (w2.setCell ⟨Bl, 0, none⟩ (.slice pr ys.length cr))) := by
                    refine ⟨M, _, M.length, S2, ScrV.list hP2 hlt3 ?_ ?_ hb2 ?_ ?_ hSB2 hSw2 hBw hcw2 ?_⟩
                    · rw [hMl, HYs.out]
                      have h1 := List.length_filter_le (fun y => y.1 != xk) zs
                      have h2 := HZl.out
                      omega
                    · rw [hMl, HYs.out]
                      have h1 := List.length_filter_le (fun y => y.1 != xk) zs
                      have h2 := HZl.out
                      omega
                    · rw [← hyM]; exact SlT.ofRow hrow2
                    · intro q hq
                      have h1 := hrl q hq.2
                      refine ⟨fun h => ?_, ?_⟩
                      · rcases g2 q h with h3 | h3
                        · have := hPl q h3; omega
                        · omega
                      · have := hb.lt; omega
                    · rcases row_form hrow2 with h | ⟨b, off, c, h⟩
                      · exact .inl h
                      · exact .inr ⟨b, off, c, by rw [h, hMl]⟩
                  rw [hMl]
                  have hLz := HZl.out
                  rw [← hLz]
                  have hee : ((zs.length : Int) - (ys.length : Int) != (zs.length : Int) - (ys.length : Int)) = false := by simp
                  have hyb : ys.length ≤ 500 := hyl
                  clear hP2 hrow2 hs2 hM hlt3 hyM hMl hVj hb2 hPj hrow hLz
                  gi_wp2
                  gi_meet
                  exact HF.out
            · have e2 : (dd == 2) = false := beq_eq_false_iff_ne.2 d2
              gi_wp2
              gi_meet
              exact ⟨L, v, n, S, HV1.out.mono (Nat.le_succ k)⟩
      obtain ⟨L, v, n, S, hV⟩ := hcut.out
      have hVV := (show Hid _ from hV)
      obtain ⟨hP, hlt2, hnm, hLm, hb, hs, hsd, hSB, hSw, hBw, hcw, hform⟩ := hV
      clear hsd hSB hSw hBw hform hlt2 hXS hXB hXs hX1 hV1 cw1
      gi_wp2_with fail
      refine ⟨trivial, rfl, (first_seq (bef_ord keyT) B L n S wc hP).mono ?_⟩
      rintro e w2 ⟨he, c2⟩
      rcases he with ⟨rfl, rfl⟩ | ⟨y, M, rfl, rfl⟩
      · have cA := c2.alloc (.cells #[.int .i64 0, .int .i64 0] 27)
        have hV2 := (show ScrV _ _ _ _ _ _ _ _ _ from hVV.out).no cA
        have hA : TBox (w2.alloc (.cells #[.int .i64 0, .int .i64 0] 27)) w2.heap.size 0 0 := World.alloc_heap_new w2 _
        obtain ⟨a1, a2⟩ := hA.cells
        have hcl2 := hV2.2.2.2.2.1.cell
        have hv : ∃ pv cv, v = .slice pv 0 cv := by obtain ⟨pv, cv, e, _⟩ := hs; exact ⟨pv, cv, e⟩
        obtain ⟨pv, cv, rfl⟩ := hv
        have HV2 := (show Hid _ from hV2)
        clear hV2 hs hb hP hA
        gi_wp2
        generalize (w2.alloc (.cells #[.int .i64 0, .int .i64 0] 27)) = W2 at hcl2 a1 a2 HV2 cA ⊢
        generalize w2.heap.size = Xa at a1 a2 ⊢
        have hP2 : Pile B 10 (ltK keyT) [] n S W2 := (show ScrV _ _ _ _ _ _ _ _ _ from HV2.out).1
        have hPd : ∀ q, Pile B 10 (ltK keyT) [] n S (W2.drewN q) := fun q => (Pile.part _ _ _ _ _).chg hP2 (drewNC (Chg.refl No W2) q) (fun _ _ h => h)
        refine wpIn_region_quiet_lit rfl (by assumption) (by kernel_rfl) ?_
        repeat (gi_big_quiet_step (fail))
        refine wpQuietIn_want (fun _ _ _ _ => trivial) rfl ?_
        intro KQ hKQ
        gi_big_quiet_op
        gi_big_quiet_call (exact ⟨rfl, (len_seq B [] n S _ (hPd _)).mono (by rintro e w'' ⟨rfl, rfl⟩; exact ⟨rfl, _, rfl⟩)⟩)
        repeat (gi_big_quiet_step (fail))
        refine wpQuietIn_nil ?_
        rintro _ ⟨nq, rfl⟩
        gi_wp2
        exact ⟨⟨k + 1, hlt, by go_num, ⟨[], _, n, S, (show ScrV _ _ _ _ _ _ _ _ _ from HV2.out).no (drewNC (Chg.refl _ _) nq)⟩⟩, by simp [intOf]; omega⟩
      · have cA := c2.alloc (.cells #[.int .i64 y.1.1, .int .i64 y.1.2] 27)
        have hV2 := (show ScrV _ _ _ _ _ _ _ _ _ from hVV.out).no cA
        have hA : TBox (w2.alloc (.cells #[.int .i64 y.1.1, .int .i64 y.1.2] 27)) w2.heap.size y.1.1 y.1.2 := World.alloc_heap_new w2 _
        obtain ⟨a1, a2⟩ := hA.cells
        have hcl2 := hV2.2.2.2.2.1.cell
        have hs2 := hV2.2.2.2.2.2.1
        obtain ⟨pv, cv, rfl, hc1, hc2, hcells⟩ := hs2
        obtain ⟨b9, o9, rfl, g1, g2⟩ := hcells 0 y.1 rfl
        simp only [Nat.zero_mul, Nat.add_zero] at g1 g2
        have hll : (List.map Prod.fst (y :: M)).length = M.length + 1 := by simp
        rw [hll] at hcl2
        have hpos : ((0 : Int) < (M.length : Int) + 1) = True := eq_true (by omega)
        have HV2 := (show Hid _ from hV2)
        clear hV2 hs hb hP hA hcells
        gi_wp2
        generalize (w2.alloc (.cells #[.int .i64 y.1.1, .int .i64 y.1.2] 27)) = W2 at hcl2 a1 a2 g1 g2 HV2 cA ⊢
        generalize w2.heap.size = Xa at a1 a2 ⊢
        have hP2 : Pile B 10 (ltK keyT) (y :: M) n S W2 := (show ScrV _ _ _ _ _ _ _ _ _ from HV2.out).1
        have hPd : ∀ q, Pile B 10 (ltK keyT) (y :: M) n S (W2.drewN q) := fun q => (Pile.part _ _ _ _ _).chg hP2 (drewNC (Chg.refl No W2) q) (fun _ _ h => h)
        have hee : ((M.length : Int) + 1 != (M.length : Int) + 1) = false := by simp
        refine wpIn_region_quiet_lit rfl (by assumption) (by kernel_rfl) ?_
        repeat (gi_big_quiet_step (fail))
        refine wpQuietIn_want (fun _ _ _ _ => trivial) rfl ?_
        intro KQ hKQ
        gi_big_quiet_op
        gi_big_quiet_call (exact ⟨rfl, (len_seq B (y :: M) n S _ (hPd _)).mono (by rintro e w'' ⟨rfl, rfl⟩; exact ⟨rfl, _, rfl⟩)⟩)
        repeat (gi_big_quiet_step (fail))
        refine wpQuietIn_nil ?_
        rintro _ ⟨nq, rfl⟩
        gi_wp2
        exact ⟨⟨k + 1, hlt, by go_num, ⟨y :: M, _, n, S, (show ScrV _ _ _ _ _ _ _ _ _ from HV2.out).no (drewNC (Chg.refl _ _) nq)⟩⟩, by simp [intOf]; omega⟩
    · obtain rfl : k = acts.length := by omega
      obtain ⟨L, v, n, S, hV⟩ := HS.out
      have hVV := (show Hid _ from hV)
      obtain ⟨hP, hlt2, hnm, hLm, hb, hs, hsd, hSB, hSw, hBw, hcw, hform⟩ := hV
      obtain ⟨zs, hzs⟩ : ∃ zs, L.map Prod.fst = zs := ⟨_, rfl⟩
      have HZ : Hid (L.map Prod.fst = zs) := hzs
      have HZl : Hid (zs.length = L.length) := by show _ = _; rw [← hzs]; simp
      have hzb : zs.length ≤ 400 := by rw [← hzs]; simp; omega
      rw [hzs] at hs hsd
      have hv : ∃ pv cv, v = .slice pv zs.length cv := by obtain ⟨pv, cv, e, _⟩ := hs; exact ⟨pv, cv, e⟩
      obtain ⟨pv, cv, rfl⟩ := hv
      have hLb : L.length ≤ 100000 := by omega
      have cB : Chg No wr ((wr.alloc (.cells #[.int .i64 0] 3)).alloc (.cells #[.bool true] 4)) := ((Chg.refl No wr).alloc _).alloc _
      have bN := (Boxed.new wr 3 (.int .i64 0)).alloc (.cells #[.bool true] 4)
      have bS := Boxed.new (wr.alloc (.cells #[.int .i64 0] 3)) 4 (.bool true)
      rw [World.size_alloc] at bS
      have hPl := (Pile.part _ _ _ _ _).lt hP
      have hP1 := (Pile.part _ _ _ _ _).chg hP cB (fun _ _ h => h)
      have hbl := hb.lt
      have hsl := hs.lt
      clear hzs hlt2 hform HS
      gi_wp2_with fail
      generalize ((wr.alloc (.cells #[.int .i64 0] 3)).alloc (.cells #[.bool true] 4)) = w1 at cB bN bS hP1 ⊢
      refine ⟨trivial, rfl, (all_seq less_less (bef_ord keyT) B L n S hLb w1 hP1).mono ?_⟩
      rintro e w2 ⟨g2, l2, D2, rfl, s2, c2, d2⟩
      rw [HZ.out] at s2
      have cB2 := cB.trans c2 (Grew.refl _ _)
      have bN2 := c2.boxed bN (fun h => h)
      have bS2 := c2.boxed bS (fun h => h)
      have bL2 := cB2.boxed hb (fun h => h)
      have hs2 := hs.chg cB2 (fun _ _ h => h)
      have hP2 := (Pile.part _ _ _ _ _).chg hP cB2 (fun _ _ h => h)
      have hc02 := hcw.trans cB2 (Grew.refl _ _)
      have hneq := fun w => run_neq_func_nil Try.underlying41 (.func g2) #[] l2 w
      have hNl := bN.lt
      have hSl := bS.lt
      clear hP hP1 hs hb bN bS
      obtain ⟨I0, it, hi, eg⟩ := s2
      have hDk : ∀ q, D2 q → S q ∨ w1.heap.size ≤ q := d2
      have hw1 := cB.size
      gi_wp2
      refine wpIn_rangeX (gf := g2) (lb := l2) rfl eg it (fun _ => rfl)
        (fun pre S2 W => S2 = (fun q => q = wr.heap.size ∨ q = wr.heap.size + 1 ∨ q = Bl ∨ slT (.slice pv zs.length cv) zs q) ∧ Boxed W wr.heap.size 3 (.int .i64 (pre.length : Int)) ∧ Boxed W (wr.heap.size + 1) 4 (.bool true) ∧ Boxed W Bl 29 (.slice pv zs.length cv) ∧ SlT W (.slice pv zs.length cv) zs ∧ ∀ q, slT (.slice pv zs.length cv) zs q → W.heap[q]? = w2.heap[q]?)
        (fun _ _ _ _ => False) ?_ (fun _ _ => Part.false) (S := fun q => q = wr.heap.size ∨ q = wr.heap.size + 1 ∨ q = Bl ∨ slT (.slice pv zs.length cv) zs q) hi ⟨rfl, bN2, bS2, bL2, hs2, fun _ _ => rfl⟩ ?_ ?a1 (fun x => .cells #[.int .i64 x.1, .int .i64 x.2] 27) ?assign ?body ?done ?stop
      case assign =>
        intro l x W K hK
        gi_wp2
        generalize W.heap.size = Xq at hK ⊢
        exact hK
      case body =>
        rintro lr pre x S2 W X hpre ⟨rfl, m1, m2, m3, m4, m5⟩ hX hXS hXn
        have y1 : W.cell? ⟨X, 0, none⟩ = some (.int .i64 x.1) := by simp [World.cell?, hX]
        have y2 : W.cell? ⟨X, 1, none⟩ = some (.int .i64 x.2) := by simp [World.cell?, hX]
        have hj : pre.length < zs.length := by have := hpre.length_le; simp at this; omega
        have hjx : zs[pre.length]? = some x := by
          obtain ⟨t, ht⟩ := hpre
          rw [← ht]
          simp
        have m4' := m4
        obtain ⟨pv', cv', e, q1, q2, hc⟩ := m4'
        cases e
        obtain ⟨b9, o9, rfl, z1, z2⟩ := hc pre.length x hjx
        have i1 := m1.cell
        have i2 := m2.cell
        have i3 := m3.cell
        have f1 := m1.frozen
        have f2 := m2.frozen
        have hjZ : ((pre.length : Int) < (zs.length : Int)) = True := eq_true (by omega)
        have hjZ' : (pre.length : Int) < (zs.length : Int) := by omega
        have nb : wr.heap.size + 1 ≠ wr.heap.size := by omega
        have hplb : pre.length ≤ 400 := by omega
        have HM := (show Hid _ from And.intro m1 (And.intro m2 (And.intro m3 (And.intro m4 m5))))
        clear hc m1 m2 m3 m4 m5 hX hjx hpre hVV HZ HZl hP2 bN2 bS2 bL2 hs2 hi it eg cB2 hc02 d2 hDk
        gi_wp2
        refine region_quietR_lit (by kernel_rfl) hmix (by kernel_rfl) ?_
        repeat (gi_big_quiet_step (fail))
        gi_big_quiet_want
        gi_big_quiet_op
        gi_big_quiet_call (exact ⟨setCell_kept (show W.cell? _ = _ from i2), rfl⟩)
        refine wpQuietIn_nil ?_
        intro _ hw'
        obtain ⟨nq, hw''⟩ := hw'
        subst hw''
        gi_wp2
        obtain ⟨m1, m2, m3, m4, m5⟩ := HM.out
        have hwr : wr.heap.size ≠ wr.heap.size + 1 := by omega
        have cS : Chg (fun q => q = wr.heap.size) W ((W.drewN nq).setCell ⟨wr.heap.size, 0, none⟩ (.int .i64 ((pre.length : Int) + 1))) := Chg.setCell (S := fun q => q = wr.heap.size) (drewNC (Chg.refl _ _) nq) (.inl rfl) _
        refine ⟨_, cS.mono (fun q h => .inl h), fun q h => .inl h, rfl, ?_, cS.boxed m2 (fun h => hwr h.symm), cS.boxed m3 (fun h => by have h : Bl = wr.heap.size := h; omega), m4.chg cS (fun q h e => by have := hsl q h; omega), fun q h => (cS.block q (m4.lt q h) (fun e => by have e : q = wr.heap.size := e; have := hsl q h; omega)).trans (m5 q h)⟩
        have := (show Boxed (W.drewN nq) _ _ _ from m1).set (.int .i64 ((pre.length : Int) + 1))
        have e : (((pre ++ [x]).length : Nat) : Int) = (pre.length : Int) + 1 := by simp
        rw [e]
        exact this
      case stop =>
        rintro d c pre S' W _ _ h
        exact h.elim
      case done =>
        rintro d S' W hd ⟨rfl, m1, m2, m3, m4, m5⟩ hI' hc9 hg9 hK9 hnd
        have hnl := bN2.lt
        have hc9' : Chg (fun q => q = wr.heap.size ∨ q = wr.heap.size + 1 ∨ q = Bl ∨ slT (.slice pv zs.length cv) zs q) w2 W := hc9.mono (fun q h => h.elim (fun h => h.elim) id)
        have hP9 := (Pile.part _ _ _ _ _).chg hP2 hc9' (fun q h1 h2 => by
          have h3 := hPl q h1
          rcases h2 with h | h | h | h
          · omega
          · omega
          · exact hSB (h ▸ h1)
          · exact (hsd q h).1 h1)
        have HP9 := (show Hid _ from hP9)
        have hn9 : ∀ c : After W, c.val.cell? ⟨wr.heap.size, 0, none⟩ = some (.int .i64 (zs.length : Int)) := fun c => (c.chg.boxed m1 (fun h => h)).cell
        have hs9 : ∀ c : After W, c.val.cell? ⟨wr.heap.size + 1, 0, none⟩ = some (.bool true) := fun c => (c.chg.boxed m2 (fun h => h)).cell
        have hl9 : ∀ c : After W, c.val.cell? ⟨Bl, 0, none⟩ = some (.slice pv zs.length cv) := fun c => (c.chg.boxed m3 (fun h => h)).cell
        have HM := (show Hid _ from And.intro m1 (And.intro m2 (And.intro m3 (And.intro m4 m5))))
        have hwrs := hcw.size
        have HC : Hid (Chg No w W) := by
          have e : Chg (fun q => q = wr.heap.size ∨ q = wr.heap.size + 1 ∨ q = Bl) w2 W := hc9'.less (fun q _ h1 h2 => by
            rcases h1 with h | h | h | h
            · exact (h2 (.inl h)).elim
            · exact (h2 (.inr (.inl h))).elim
            · exact (h2 (.inr (.inr h))).elim
            · exact m5 q h)
          exact hc02.trans e (fun q h => .inr (by rcases h with h | h | h <;> omega))
        have hw2s := hc02.size
        have hdW := (Array.getElem?_eq_some_iff.1 hK9).1
        have HLn : Hid (∀ c : After W, CallsIn Fence.wide 0 Try.prog 18 #[.pointer (some ⟨B, 0, none⟩)] c.val fun e w' => e = .returned (.int .i64 (zs.length : Int)) ∧ w' = c.val) := fun c => by
          rw [HZl.out]
          exact len_seq B L n S _ ((Pile.part _ _ _ _ _).chg (show Pile _ _ _ _ _ _ _ from HP9.out) c.chg (fun _ _ h => h))
        clear hP9 m1 m2 m3 m4 m5 hP2 bN2 bS2 bL2 hs2 hi it eg d2 hDk hI'
        gi_wp2
        have hany : Nonempty (After W) := After.any W
        refine region_quietC hmix (by kernel_rfl) ?_
        repeat (gi_big_quiet_step (fail))
        refine wpQuietIn_want (fun _ _ _ _ => trivial) rfl ?_
        intro KQ hKQ
        gi_big_quiet_op
        gi_big_quiet_call (exact ⟨rfl, (remove_nof B _).mono (by rintro e w'' ⟨rfl, c'⟩; exact ⟨rfl, After.more _ c'⟩)⟩)
        repeat (gi_big_quiet_step (fail))
        refine wpQuietIn_want (fun _ _ _ _ => trivial) rfl ?_
        intro KQ2 hKQ2
        gi_big_quiet_op
        gi_big_quiet_call (exact ⟨rfl, (HLn.out _).mono (by rintro e w'' ⟨rfl, rfl⟩; exact ⟨rfl, _, rfl⟩)⟩)
        repeat (gi_big_quiet_step (fail))
        refine wpQuietIn_want (fun _ _ _ _ => trivial) rfl ?_
        intro KQ3 hKQ3
        gi_big_quiet_op
        gi_big_quiet_call (exact ⟨rfl, (awake_in _).mono (by rintro e w'' ⟨rfl, c'⟩; exact ⟨rfl, After.more _ c'⟩)⟩)
        repeat (gi_big_quiet_step (fail))
        refine wpQuietIn_nil ?_
        rintro _ ⟨c, rfl⟩
        have hK10 : c.val.heap[d]? = some (.deferred (some [])) := (c.chg.block d hdW (fun h => h)).trans hK9
        gi_wp2
        refine ⟨by simp, .inl ⟨_, _, rfl, run_takeDeferred hK10, ?_⟩⟩
        refine ⟨_, results_tmp (t := 2) rfl _ _ _, rfl, ?_⟩
        exact Chg.putObj ((show Chg No w W from HC.out).trans c.chg (Grew.refl _ _)) (.inr (by have := hd; omega)) _
      · intro pre
        exact ⟨by
          rintro S2 W ⟨rfl, m1, m2, m3, m4, m5⟩ q (rfl | rfl | rfl | h)
          · exact m1.lt
          · exact m2.lt
          · exact m3.lt
          · exact m4.lt q h, by
          rintro S2 W W' ⟨rfl, m1, m2, m3, m4, m5⟩ _ hk
          exact ⟨rfl, (hk _ (.inl rfl)).trans m1, (hk _ (.inr (.inl rfl))).trans m2, (hk _ (.inr (.inr (.inl rfl)))).trans m3, m4.kept (fun q h => hk q (.inr (.inr (.inr h)))), fun q h => (hk q (.inr (.inr (.inr h)))).trans (m5 q h)⟩⟩
      · rintro q hq (h | h | h | h)
        · rcases hDk q hq with h1 | h1
          · have := hPl q h1; omega
          · omega
        · rcases hDk q hq with h1 | h1
          · have := hPl q h1; omega
          · omega
        · rcases hDk q hq with h1 | h1
          · exact hSB (h ▸ h1)
          · omega
        · rcases hDk q hq with h1 | h1
          · exact (hsd q h).1 h1
          · have := hsl q h; omega
end Go.Proofs.Ytaolebadamfodaa.T
