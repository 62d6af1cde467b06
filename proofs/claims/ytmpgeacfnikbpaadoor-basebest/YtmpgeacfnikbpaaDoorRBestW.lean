/-
  The document's own Best.
-/
import Derived.Test.YtmpgeacfnikbpaaDoorRBaseW
namespace Go.Proofs.YtmpgeacfnikbpaaDoor
open Go.RowKit Go.Shelf Go.SeqLib Go.DiffLib Go.TreeLib Go.RepoLib Go.DagLib Go.BigFrame
attribute [local go_sem] Oper.semAt_some

theorem one_own' (w : World) (x : Int) : OwnI (w.alloc (.cells #[.int .i64 x] 3)) w.heap.size (.slice (some ⟨w.heap.size, 0, none⟩) 1 1) [x] :=
  ⟨by simp, .inr ⟨w.heap.size, 1, #[.int .i64 x], rfl, Nat.le_refl _, World.alloc_heap_new w _, Nat.le_refl _, by unfold maxLen; simp, by simp, by simp⟩⟩

set_option maxRecDepth 100000 in
set_option maxHeartbeats 2000000 in
theorem refBest_in (B : Nat) (s : Rp) (lv : Value) (rows : List Rw) (a b : Int) (w : World) (h : RefVw B s lv rows w) (hp : ParOk s.1) (hl : s.1.length ≤ 1000) :
    CallsIn Fence.wide 0 Tryd.prog 14 #[ptr B, iv a, iv b] w fun e w' => ∃ v, e = .returned v ∧ OwnI w' w.heap.size v (bestL s.1 a b) ∧ Chg No w w' := by
  have C1 := refCommon_in B s lv rows a b w h hp hl
  have HLow : Hid (Low (parL s.1)) := hp.low
  obtain ⟨pv, kv, rfl⟩ := h.slice
  obtain ⟨N, hN⟩ : ∃ N, s.1.length = N := ⟨_, rfl⟩
  have HN : Hid (s.1.length = N) := hN
  obtain ⟨C, hC⟩ : ∃ C, comL s.1 a b = C := ⟨_, rfl⟩
  have HC : Hid (comL s.1 a b = C) := hC
  have hCl : C.length ≤ N := by rw [← hC, ← hN]; exact com_len a b
  have HCr : Hid (∀ x ∈ C, 1 ≤ x ∧ x ≤ (N : Int)) := fun x hx => by
    rw [← hC] at hx
    have := (aheadI_range' (com_mem.1 hx).1).1
    rw [hN] at this
    exact this
  have HBL : Hid (∀ k, (bestD s.1 a b k).length ≤ N) := fun k => by
    unfold bestD
    refine Nat.le_trans (List.length_filter_le _ _) ?_
    rw [List.length_drop, hC]
    omega
  have hl2 : N ≤ 1000 := by omega
  rw [hC] at C1
  clear hC hN
  refine callsIn_of_wp Tryd.func14 rfl trivial ?_
  simp only [Tryd.ntmps14, List.size_toArray, List.length_cons, List.length_nil, Nat.reduceAdd, Nat.reduceSub, Array.replicate_succ, Array.replicate_zero, List.push_toArray, List.append_toArray, List.nil_append, List.cons_append]
  gi_wp2_with fail
  refine ⟨trivial, rfl, C1.mono ?_⟩
  rintro e w1 ⟨v1, rfl, o1, c1⟩
  have s1 := rowSl o1
  have h1 := h.no c1
  obtain ⟨t0, _, _, _⟩ := h1.cells
  rw [HN.out] at t0
  obtain ⟨p1, k1, rfl⟩ := row_slice o1
  obtain ⟨NC, hNC⟩ : ∃ NC, C.length = NC := ⟨_, rfl⟩
  have HNC : Hid (C.length = NC) := hNC
  rw [hNC] at s1 hCl ⊢
  have hmk := fun W => makeB N (by omega) W
  have hB0 := madeB w1 (N + 1) (by omega)
  have c0 : Chg No w1 (w1.alloc (.cells (madeCells #[.bool false] (N + 1)) 4)) := (Chg.refl _ w1).alloc _
  have HB00 : Hid (bl (N + 1) (covL s.1 a b NC) = bl (N + 1) (fun _ => false)) := bl_congr (fun j _ => by
    rw [← HNC.out, ← HC.out]
    exact cov_start _ _ _ _)
  have HD0 : Hid (bestD s.1 a b NC = []) := by show _ = _; rw [← HNC.out, ← HC.out]; exact bestD_start _ _ _
  have hsz := c1.size
  clear C1 o1 hNC h
  gi_wp2
  gi_loopw [9, 10] (fun s9 s10 wr => ∃ k : Nat, k ≤ NC ∧ s10 = .int .i64 ((k : Int) - 1) ∧ OwnI wr w1.heap.size s9 (bestD s.1 a b k) ∧ OwnB wr w1.heap.size w1.heap.size (N + 1) (covL s.1 a b k) ∧ Chg No w1 wr) (fun _ s10 _ => (intOf s10 + 1).toNat)
  case atStart => exact ⟨NC, Nat.le_refl _, rfl, by rw [HD0.out]; exact World.ownsRow_nil _ _ _ _, by show World.ownsRow _ _ _ _ _ _ _; rw [HB00.out]; exact hB0, c0⟩
  case round =>
    obtain ⟨k, hk, rfl, hown, hB, c⟩ := hrel
    clear hB0 c0 hmk t0
    cases k with
    | zero =>
      have hn : ¬ (0 : Int) ≤ ((0 : Nat) : Int) - 1 := by omega
      have hE := bestD_end s.1 a b
      gi_wp2
      go_ret
      exact ⟨_, rfl, by rw [← hE]; exact rowBase hown hsz, Chg.seq c1 c⟩
    | succ k =>
      have hk0 : ((k + 1 : Nat) : Int) - 1 = (k : Int) := by omega
      rw [hk0]
      clear hk0
      have hkN : (k : Int) < (NC : Int) := by omega
      obtain ⟨x, hx⟩ : ∃ x, C[k]? = some x := ⟨_, List.getElem?_eq_getElem (by rw [HNC.out]; exact hk)⟩
      have hxr := HCr.out x (List.mem_of_getElem? hx)
      obtain ⟨xn, rfl⟩ : ∃ xn : Nat, x = (xn : Int) := ⟨x.toNat, by omega⟩
      have hx' : (comL s.1 a b)[k]? = some (xn : Int) := by rw [HC.out]; exact hx
      have hget := hB.get (j := xn) (by omega)
      rw [cov_is HLow.out hx'] at hget
      have HSt : Hid (bestD s.1 a b k = if (xn : Int) ∈ bestL s.1 a b then (xn : Int) :: bestD s.1 a b (k + 1) else bestD s.1 a b (k + 1)) := bestD_step hx'
      have HCv : Hid (∀ j, covL s.1 a b k j = (if (xn : Int) ∈ bestL s.1 a b then decide ((j : Int) ∈ aheadI s.1 (xn : Int)) || covL s.1 a b (k + 1) j else covL s.1 a b (k + 1) j)) := fun j => cov_step hx' j
      obtain ⟨b1, o1, rfl, hc1⟩ := (s1.no c).get1 (i := k) (x := iv (xn : Int)) (by rw [List.getElem?_map, hx]; rfl)
      have hxM : (xn : Int) < (N : Int) + 1 := by omega
      by_cases hb : (xn : Int) ∈ bestL s.1 a b
      · rw [decide_eq_true hb] at hget
        have HS2 : Hid (bestD s.1 a b k = (xn : Int) :: bestD s.1 a b (k + 1)) := by have := HSt.out; rw [if_pos hb] at this; exact this
        have HC2 : Hid (∀ j, covL s.1 a b k j = (decide ((j : Int) ∈ aheadI s.1 (xn : Int)) || covL s.1 a b (k + 1) j)) := fun j => by have := HCv.out j; rw [if_pos hb] at this; exact this
        obtain ⟨out, hout⟩ : ∃ out, bestD s.1 a b (k + 1) = out := ⟨_, rfl⟩
        have hol : out.length ≤ 1000 := by rw [← hout]; exact Nat.le_trans (HBL.out _) hl2
        have HOut : Hid (bestD s.1 a b k = [(xn : Int)] ++ out) := by show _ = _; rw [HS2.out, hout]; rfl
        rw [hout] at hown
        obtain ⟨ln, hln⟩ : ∃ ln, out.length = ln := ⟨_, rfl⟩
        have HLn : Hid (out.length = ln) := hln
        have sown := rowSl hown
        have hown2 := hown
        change World.ownsRow _ _ _ _ _ out.length _ at hown2
        rw [hln] at hown2 hol
        obtain ⟨q5, k5, rfl⟩ := row_slice hown2
        have hsl : SlV (wr.alloc (.cells #[.int .i64 (xn : Int)] 3)) (.slice q5 ln k5) (out.map iv) := sown.no ((Chg.refl _ wr).alloc _)
        have oA : OwnI (wr.alloc (.cells #[.int .i64 (xn : Int)] 3)) w1.heap.size (.slice (some ⟨wr.heap.size, 0, none⟩) 1 1) [(xn : Int)] := rowBase (one_own' wr (xn : Int)) c.size
        have oA' : World.ownsRow (wr.alloc (.cells #[.int .i64 (xn : Int)] 3)) w1.heap.size 3 1 (.slice (some ⟨wr.heap.size, 0, none⟩) 1 1) 1 ([(xn : Int)].map iv) := oA
        have cA : Chg No w1 (wr.alloc (.cells #[.int .i64 (xn : Int)] 3)) := c.alloc _
        have hBA : OwnB (wr.alloc (.cells #[.int .i64 (xn : Int)] 3)) w1.heap.size w1.heap.size (N + 1) (covL s.1 a b (k + 1)) := World.ownsRow.alloc hB _
        have hbs := cA.size
        have hGr : w1.heap.size < wr.heap.size := (World.ownsRow.lt hB _ rfl).2
        have HG5 : Hid (∀ (W5 : World), (wr.alloc (.cells #[.int .i64 (xn : Int)] 3)).grownBy W5 (Value.slice (some ⟨wr.heap.size, 0, none⟩) 1 1).ownBlock → Chg No w1 W5 ∧ OwnB W5 w1.heap.size w1.heap.size (N + 1) (covL s.1 a b (k + 1)) ∧ W5.cell? ⟨b1, o1 + k, none⟩ = some (.int .i64 (xn : Int))) := fun W5 hg => by
          have c5 := (Chg.refl (fun j => Value.ownBlock (.slice (some ⟨wr.heap.size, 0, none⟩) 1 1) = some j) (wr.alloc (.cells #[.int .i64 (xn : Int)] 3))).grown hg (fun j e => .inl e)
          have hcA := (World.cell?_of_block (a := ⟨b1, o1 + k, none⟩) (Below.heap_alloc wr (.cells #[.int .i64 (xn : Int)] 3 (0, 0)) b1 (World.block_lt_of_cell? wr _ hc1))).trans hc1
          have hb1 : b1 < wr.heap.size := World.block_lt_of_cell? wr _ hc1
          refine ⟨cA.grown hg (fun j e => .inr (by have e1 : wr.heap.size = j := Option.some.inj e; omega)), row_kept hBA (fun j e => c5.block j (World.ownsRow.lt hBA j e).2 (fun e2 => by have e1 : w1.heap.size = j := Option.some.inj e; have e3 : wr.heap.size = j := Option.some.inj e2; omega)), ?_⟩
          exact (World.cell?_of_block (a := ⟨b1, o1 + k, none⟩) (c5.block b1 (World.block_lt_of_cell? _ _ hcA) (fun e2 => by have e3 : wr.heap.size = b1 := Option.some.inj e2; omega))).trans hcA
        clear hown hown2 sown hln hout hB hBA HSt HCv hx'
        gi_wp2_with (gi_at_builtin; refine wpListIn_append_i _ rfl _ _ rfl w1.heap.size _ _ _ rfl oA' q5 ln k5 out rfl hsl (by omega) hbs ?_; intro v5 w5 hown5 hgrow5 hat5; obtain ⟨c05, hB5, y5⟩ := HG5.out w5 hgrow5)
        have hv5 : ∀ j, v5.ownBlock = some j → ¬ j = w1.heap.size := fun j e e2 => by
          rcases hat5 with h | h
          · have e3 : wr.heap.size = j := Option.some.inj ((show v5.ownBlock = some wr.heap.size from h).symm.trans e)
            omega
          · have e3 : (wr.alloc (.cells #[.int .i64 (xn : Int)] 3)).heap.size = j := Option.some.inj (h.symm.trans e)
            have e4 : (wr.alloc (.cells #[.int .i64 (xn : Int)] 3)).heap.size = wr.heap.size + 1 := by simp
            omega
        have ho5 : OwnI w5 w1.heap.size v5 (bestD s.1 a b k) := by
          show World.ownsRow _ _ _ _ _ _ _
          rw [HOut.out, List.map_append, List.length_append, HLn.out]
          exact hown5
        have A1 := refAhead_in B s _ rows (xn : Int) w5 (h1.no c05) hp hl
        obtain ⟨A, hA⟩ : ∃ A, aheadI s.1 (xn : Int) = A := ⟨_, rfl⟩
        have hA30 : A.length ≤ 1000 := by rw [← hA]; exact Nat.le_trans (aheadI_len' _) hl
        have HAr : Hid (∀ x ∈ A, 1 ≤ x ∧ x ≤ (N : Int)) := fun x hx => by
          have := (aheadI_range' (by rw [hA]; exact hx)).1
          rw [HN.out] at this
          exact this
        have HC3 : Hid (∀ j, covL s.1 a b k j = (decide ((j : Int) ∈ A) || covL s.1 a b (k + 1) j)) := fun j => by rw [HC2.out j, hA]
        rw [hA] at A1
        clear hat5 hown5 hgrow5 hsl oA oA' cA hbs HG5 hA hget c hb s1
        gi_wp2_with fail
        refine ⟨trivial, rfl, A1.mono ?_⟩
        rintro e w9 ⟨v9, rfl, o9, c9⟩
        have ci9 := Chg.seq c05 c9
        have hB9 : OwnB w9 w1.heap.size w1.heap.size (N + 1) (covL s.1 a b (k + 1)) := row_kept hB5 (fun j e => c9.block j (World.ownsRow.lt hB5 j e).2 (fun h => h))
        have ho9 : OwnI w9 w1.heap.size v5 (bestD s.1 a b k) := row_kept ho5 (fun j e => c9.block j (World.ownsRow.lt ho5 j e).2 (fun h => h))
        have hG8 : w1.heap.size < w5.heap.size := (World.ownsRow.lt hB5 _ rfl).2
        have l9 := rowSl o9
        have hlow9 : ∀ j, v9.ownBlock = some j → ¬ j = w1.heap.size := fun j e e2 => by have := (World.ownsRow.lt o9 j e).1; omega
        obtain ⟨pa, ka, rfl⟩ := row_slice o9
        obtain ⟨NA, hNA⟩ : ∃ NA, A.length = NA := ⟨_, rfl⟩
        have HNA : Hid (A.length = NA) := hNA
        rw [hNA] at l9 hA30 hlow9 ⊢
        have HL9 : Hid (∀ W, Chg (fun j => j = w1.heap.size) w9 W → SlV W (.slice pa NA ka) (A.map iv)) := fun W cW => l9.chg cW (fun j hj e => hlow9 j hj.2 e)
        have HO9 : Hid (∀ W, Chg (fun j => j = w1.heap.size) w9 W → OwnI W w1.heap.size v5 (bestD s.1 a b k)) := fun W cW => row_kept ho9 (fun j e => cW.block j (World.ownsRow.lt ho9 j e).2 (hv5 j e))
        have HM0 : Hid (bl (N + 1) (covL s.1 a b (k + 1)) = bl (N + 1) (fun j => decide ((j : Int) ∈ A.take 0) || covL s.1 a b (k + 1) j)) := bl_congr (fun j _ => by simp)
        have HM1 : Hid (bl (N + 1) (fun j => decide ((j : Int) ∈ A.take NA) || covL s.1 a b (k + 1) j) = bl (N + 1) (covL s.1 a b k)) := bl_congr (fun j _ => by
          rw [HC3.out j, show A.take NA = A from List.take_of_length_le (by rw [HNA.out]; exact Nat.le_refl _)])
        have hB10 : OwnB w9 w1.heap.size w1.heap.size (N + 1) (fun j => decide ((j : Int) ∈ A.take 0) || covL s.1 a b (k + 1) j) := by show World.ownsRow _ _ _ _ _ _ _; rw [← HM0.out]; exact hB9
        clear A1 o9 l9 hlow9 hB5 hB9 c9 c05 ho5 ho9 hv5 hNA y5
        gi_wp2
        gi_loopw [12] (fun s12 wr2 => ∃ t : Nat, t ≤ NA ∧ s12 = .int .i64 (t : Int) ∧ OwnB wr2 w1.heap.size w1.heap.size (N + 1) (fun j => decide ((j : Int) ∈ A.take t) || covL s.1 a b (k + 1) j) ∧ Chg (fun j => j = w1.heap.size) w9 wr2 ∧ Chg No w1 wr2) (fun s12 _ => NA - (intOf s12).toNat)
        case atStart => exact ⟨0, Nat.zero_le _, rfl, hB10, Chg.refl _ _, ci9⟩
        case round =>
          obtain ⟨t, ht, rfl, hBt, ct, c0t⟩ := hrel
          clear hB10 ci9
          by_cases htl : t < NA
          · have htl' : (t : Int) < (NA : Int) := by omega
            obtain ⟨q, hq⟩ : ∃ q, A[t]? = some q := ⟨_, List.getElem?_eq_getElem (by rw [HNA.out]; exact htl)⟩
            have hqr := HAr.out q (List.mem_of_getElem? hq)
            obtain ⟨qn, rfl⟩ : ∃ qn : Nat, q = (qn : Int) := ⟨q.toNat, by omega⟩
            obtain ⟨bp, op, rfl, hcp⟩ := (HL9.out wr ct).get1 (i := t) (x := iv (qn : Int)) (by rw [List.getElem?_map, hq]; rfl)
            have hqM : qn < N + 1 := by omega
            have hqM' : (qn : Int) < (N : Int) + 1 := by omega
            obtain ⟨⟨y0, hy0⟩, hyf, hBs⟩ := hBt.set (p := qn) (b := true) (g := fun j => decide ((j : Int) ∈ A.take (t + 1)) || covL s.1 a b (k + 1) j) hqM (fun j _ => by
              rw [List.take_add_one, hq]
              by_cases e : j = qn
              · rw [if_pos e, e]; simp
              · rw [if_neg e]
                congr 1
                rw [decide_eq_decide]
                have e' : ¬ (j : Int) = (qn : Int) := fun h => e (Int.ofNat.inj h)
                simp [e'])
            have ct2 := ct.setCell (p := ⟨w1.heap.size, qn, none⟩) (.inl rfl) (.bool true)
            have c0t2 := c0t.setCell (p := ⟨w1.heap.size, qn, none⟩) (.inr (Nat.le_refl _)) (.bool true)
            clear hBt ct c0t
            gi_wp2
            refine ⟨⟨t + 1, htl, by go_num, hBs, ct2, c0t2⟩, by simp [intOf]; omega⟩
          · obtain rfl : t = NA := by omega
            have htl' : ¬ (t : Int) < (t : Int) := by omega
            have hot := HO9.out _ ct
            gi_wp2
            refine ⟨⟨k, by omega, by go_num, hot, by show World.ownsRow _ _ _ _ _ _ _; rw [← HM1.out]; exact hBt, c0t⟩, by simp [intOf]⟩
      · rw [decide_eq_false hb] at hget
        have HS2 : Hid (bestD s.1 a b k = bestD s.1 a b (k + 1)) := by have := HSt.out; rw [if_neg hb] at this; exact this
        have HC2 : Hid (bl (N + 1) (covL s.1 a b k) = bl (N + 1) (covL s.1 a b (k + 1))) := bl_congr (fun j _ => by have := HCv.out j; rw [if_neg hb] at this; exact this)
        have hget' : wr.cell? ⟨w1.heap.size, xn, none⟩ = some (.bool true) := hget
        clear hget HSt HCv hb
        gi_wp2
        refine ⟨⟨k, by omega, by go_num, by rw [HS2.out]; exact hown, by show World.ownsRow _ _ _ _ _ _ _; rw [HC2.out]; exact hB, c⟩, by simp [intOf]⟩

end Go.Proofs.YtmpgeacfnikbpaaDoor
