/-
  DagDepths, walked.
-/
import Derived.Test.YtbhhkfmjbgakbaaDoorQOrder
namespace Go.DagLib
open Go.RepoLib
/-- The deepest of some. -/
def deepL (L : List Cm) (ps : List Int) : Nat := (ps.map (depI L)).foldl max 0
theorem deepL_snoc (L : List Cm) (ps : List Int) (p : Int) : deepL L (ps ++ [p]) = max (deepL L ps) (depI L p) := by
  unfold deepL
  rw [List.map_append, List.foldl_append]
  rfl
/-- Is the number ahead of one of them? -/
def manyL (L : List Cm) (ps : List Int) (j : Nat) : Bool := ps.any (fun p => decide ((j : Int) ∈ aheadI L p))
theorem manyL_snoc (L : List Cm) (ps : List Int) (p : Int) (j : Nat) : manyL L (ps ++ [p]) j = (manyL L ps j || decide ((j : Int) ∈ aheadI L p)) := by
  unfold manyL
  rw [List.any_append]
  simp
/-- What is put out when those above k are done. -/
def outF (f : Nat → Bool) (n k : Nat) : List Nat := ((down n).take (n - k)).filter f
theorem outF_start (f : Nat → Bool) (n : Nat) : outF f n n = [] := by unfold outF; rw [Nat.sub_self]; rfl
theorem outF_end (f : Nat → Bool) (n : Nat) : outF f n 0 = (down n).filter f := by unfold outF; rw [List.take_of_length_le (by rw [down_length]; omega)]
theorem outF_step {f : Nat → Bool} {n k : Nat} (hn : 1 ≤ k) (hk : k ≤ n) : outF f n (k - 1) = if f k = true then outF f n k ++ [k] else outF f n k := by
  unfold outF
  rw [show n - (k - 1) = (n - k) + 1 by omega, List.take_add_one, down_get (by omega), show n - (n - k) = k by omega, List.filter_append]
  show _ ++ [k].filter _ = _
  cases e : f k with
  | true => simp [e]
  | false => simp [e]
theorem outF_len (f : Nat → Bool) (n k : Nat) : (outF f n k).length ≤ n := by
  unfold outF
  refine Nat.le_trans (List.length_filter_le _ _) ?_
  rw [List.length_take, down_length]
  omega
theorem foldl_le {l : List Nat} {b : Nat} : ∀ {m : Nat}, m ≤ b → (∀ x ∈ l, x ≤ b) → l.foldl max m ≤ b := by
  induction l with
  | nil => intro m h _; exact h
  | cons x l ih =>
    intro m h hx
    exact ih (Nat.max_le.2 ⟨h, hx x (by simp)⟩) (fun y hy => hx y (by simp [hy]))
theorem depA_le {par : Nat → List Nat} (hl : Low par) : ∀ n, depA par n ≤ n + 1 := by
  intro n
  induction n using Nat.strongRecOn with
  | ind n ih =>
    rw [depA_eq hl]
    refine Nat.succ_le_succ (foldl_le (Nat.zero_le _) (fun x hx => ?_))
    obtain ⟨p, hp, rfl⟩ := List.mem_map.1 hx
    have h1 := hl n p hp
    have h2 := ih p h1
    omega
section
variable {L : List Cm}
theorem par_int (hok : ParOk L) {n : Nat} (h1 : 1 ≤ n) (h2 : n ≤ L.length) : (getC L (n : Int)).1 = (parL L n).map (fun (p : Nat) => (p : Int)) := by
  obtain ⟨i, rfl⟩ : ∃ i, n = i + 1 := ⟨n - 1, by omega⟩
  obtain ⟨c, hc⟩ : ∃ c, L[i]? = some c := ⟨_, List.getElem?_eq_getElem (by omega)⟩
  rw [hok.cast hc]
  unfold getC
  rw [has_nat h1 h2, if_pos rfl, Int.toNat_natCast, Nat.add_sub_cancel, List.getD_eq_getElem?_getD, hc]
  rfl
theorem par_range (hok : ParOk L) {n p : Nat} (h1 : 1 ≤ n) (h2 : n ≤ L.length) (hp : p ∈ parL L n) : 1 ≤ p ∧ p ≤ L.length := by
  obtain ⟨i, rfl⟩ : ∃ i, n = i + 1 := ⟨n - 1, by omega⟩
  obtain ⟨c, hc⟩ : ∃ c, L[i]? = some c := ⟨_, List.getElem?_eq_getElem (by omega)⟩
  rw [parL_at hc] at hp
  obtain ⟨q, hq, rfl⟩ := List.mem_map.1 hp
  have := hok i c hc q hq
  omega
theorem dep_deep (hok : ParOk L) {n : Nat} (h1 : 1 ≤ n) (h2 : n ≤ L.length) : depI L (n : Int) = deepL L (getC L (n : Int)).1 + 1 := by
  rw [dep_nat h1 h2, depA_eq hok.low, par_int hok h1 h2]
  unfold deepL
  rw [List.map_map]
  congr 2
  refine List.map_congr_left (fun p hp => ?_)
  have := par_range hok h1 h2 hp
  exact (dep_nat this.1 this.2).symm
theorem ahead_many (hok : ParOk L) {n : Nat} (h1 : 1 ≤ n) (h2 : n ≤ L.length) : aheadI L (n : Int) = (n : Int) :: ((down L.length).filter (manyL L (getC L (n : Int)).1)).map (fun (p : Nat) => (p : Int)) := by
  unfold aheadI
  rw [has_nat h1 h2, if_pos rfl, Int.toNat_natCast, ahead_cons hok.low h1 (m := L.length) (by omega), List.map_cons]
  congr 2
  refine List.filter_congr (fun k hk => ?_)
  have hk2 := down_mem.1 hk
  unfold manyL
  rw [par_int hok h1 h2, List.any_map]
  refine any_congr (fun p hp => ?_)
  have hp2 := par_range hok h1 h2 hp
  show isA (parL L) k p = decide ((k : Int) ∈ aheadI L (p : Int))
  rw [Bool.eq_iff_iff, decide_eq_true_iff, in_ahead hok.low hp2.1 hp2.2]
  exact ⟨fun h => ⟨hk2.1, h⟩, fun h => h.2⟩
end
end Go.DagLib
namespace Go.Proofs.YtbhhkfmjbgakbaaDoor
open Go.RowKit Go.Shelf Go.SeqLib Go.DiffLib Go.TreeLib Go.RepoLib Go.DagLib Go.BigFrame
attribute [local go_sem] Oper.semAt_some

theorem lowI_id (x n : Nat) (h : x < n) (h2 : n ≤ 1000000) : lowI (x : Int) (n : Int) = (x : Int) := by
  unfold lowI
  rw [u64_same _ (by omega) (by omega), Int.tmod_eq_of_lt (by omega) (by omega)]
  unfold wrap64
  omega
theorem one_own (w : World) (x : Int) : OwnI (w.alloc (.cells #[.int .i64 x] 3)) w.heap.size (.slice (some ⟨w.heap.size, 0, none⟩) 1 1) [x] :=
  ⟨by simp, .inr ⟨w.heap.size, 1, #[.int .i64 x], rfl, Nat.le_refl _, World.alloc_heap_new w _, Nat.le_refl _, by unfold maxLen; simp, by simp, by simp⟩⟩

set_option maxRecDepth 100000 in
set_option maxHeartbeats 2000000 in
theorem ddepths_law {Rep : Nat → Rp → Blk → Blk → World → Prop} (P : PutSpec Rep) (J : DagSpec Rep) (p : Option Addr) (len cap : Nat) (zs : List Int) (n : Int) (w : World) (hv : SlV w (.slice p len cap) (zs.map iv)) (hlen : zs.length = len) : CallsIn Fence.wide 0 Tryd.prog 7 #[.slice p len cap, iv n] w fun e w' => e = .returned (.bool true) ∧ Chg No w w' := by
  have hnil : ∀ (B : Nat) (w : World), (binOp .eql 24 (ptr B) (.pointer none)).run Tryd.prog w = .ok (.bool false) w := fun B w => by simp [go_sem]
  have hml : len ≤ 9223372036854775807 := by obtain ⟨_, _, e, hl, hm, _⟩ := hv; cases e; rw [List.length_map] at hl; unfold maxLen at hm; omega
  refine callsIn_of_wp Tryd.func7 rfl trivial ?_
  simp only [Tryd.ntmps7, List.size_toArray, List.length_cons, List.length_nil, Nat.reduceAdd, Nat.reduceSub, Array.replicate_succ, Array.replicate_zero, List.push_toArray, List.append_toArray, List.nil_append, List.cons_append]
  by_cases hbig : 30 < len
  · have hbig' : (30 : Int) < (len : Int) := by omega
    gi_wp2_with fail
    refine ⟨trivial, rfl, (awakeD_in P J _).mono ?_⟩
    rintro e w1 ⟨rfl, c1⟩
    gi_wp2
    go_ret
    exact ⟨rfl, c1⟩
  by_cases hzero : len = 0
  · subst hzero
    gi_wp2_with fail
    refine ⟨trivial, rfl, (awakeD_in P J _).mono ?_⟩
    rintro e w1 ⟨rfl, c1⟩
    gi_wp2
    go_ret
    exact ⟨rfl, c1⟩
  · have hbig' : ¬ (30 : Int) < (len : Int) := by omega
    have hz1 : ((len : Int) == 0) = false := by rw [beq_eq_false_iff_ne]; omega
    have hz2 : ¬ (len : Int) = 0 := by omega
    have M1 := made_in P p len cap zs hlen (by omega) w hv
    obtain ⟨L, hL⟩ : ∃ L, mkL 0 (zs.map uN) = L := ⟨_, rfl⟩
    have hok : ParOk L := hL ▸ made_ok _
    have hLl : L.length = len := by rw [← hL, mkL_length, List.length_map, hlen]
    have htwo : ∀ k, (getC L k).1.length ≤ 2 := fun k => hL ▸ made_two _ k
    rw [hL] at M1
    have hL30 : L.length ≤ 30 := by omega
    have L1 := fun W => low_in n (len : Int) (by omega) (by omega) W
    obtain ⟨al, ah⟩ := lowI_range n (len : Int) (by omega) (by omega)
    generalize lowI n (len : Int) = a1 at *
    obtain ⟨xn, hxn⟩ : ∃ xn : Nat, 1 + a1 = (xn : Int) := ⟨(1 + a1).toNat, by omega⟩
    have rn : 1 ≤ xn ∧ xn ≤ L.length := by omega
    have h60 : L.length ≤ 60 := by omega
    clear hL hzero
    gi_wp2_with fail
    refine ⟨trivial, rfl, M1.mono ?_⟩
    rintro e w1 ⟨B, Bw, S, O, lv, rows, rfl, r1, _, hS, k1⟩
    clear M1
    gi_wp2_with fail
    refine ⟨trivial, rfl, (L1 w1).mono ?_⟩
    rintro e w2 ⟨rfl, hw⟩
    subst hw
    obtain ⟨PI, hPI⟩ : ∃ PI, (getC L (xn : Int)).1 = PI := ⟨_, rfl⟩
    have HPI : Hid ((getC L (xn : Int)).1 = PI) := hPI
    have hP2 : PI.length ≤ 2 := hPI ▸ htwo _
    have HPr : Hid (∀ q ∈ PI, 1 ≤ q ∧ q ≤ (L.length : Int)) := fun q hq => by
      rw [← hPI, par_int hok rn.1 rn.2] at hq
      obtain ⟨k, hk, rfl⟩ := List.mem_map.1 hq
      have := par_range hok rn.1 rn.2 hk
      omega
    have HD : Hid (depI L (xn : Int) = deepL L PI + 1) := by show _ = _; rw [← hPI]; exact dep_deep hok rn.1 rn.2
    have HAM : Hid (aheadI L (xn : Int) = (xn : Int) :: ((down L.length).filter (manyL L PI)).map (fun (p : Nat) => (p : Int))) := by show _ = _; rw [← hPI]; exact ahead_many hok rn.1 rn.2
    have A1 := J.parents B _ S O (xn : Int) w2 r1 hok h60 (by omega) (by omega)
    dsimp only at A1
    rw [hPI] at A1
    clear L1 hPI htwo
    gi_wp2_with fail
    refine ⟨trivial, rfl, A1.mono ?_⟩
    rintro e w4 ⟨v4, rfl, s4, c4⟩
    have k4 := Chg.seq k1 c4
    have r4 := P.no r1 c4
    gi_wp2_with fail
    refine ⟨trivial, rfl, (intsV_in v4 _ PI 9 (by omega) w4 s4 (List.take_of_length_le (by omega)).symm).mono ?_⟩
    rintro e w5 ⟨v5, rfl, o5, c5⟩
    have k5 := Chg.seq k4 c5
    have r5 := P.no r4 c5
    have lp := o5.sl
    obtain ⟨pq, kq, rfl⟩ := row_slice o5
    obtain ⟨NP, hNP⟩ : ∃ NP, PI.length = NP := ⟨_, rfl⟩
    have HNP : Hid (PI.length = NP) := hNP
    rw [hNP] at lp hP2 ⊢
    have hmk := fun W => makeB len (by omega) W
    have hB0 := madeB w5 (len + 1) (by omega)
    have c6 : Chg No w5 (w5.alloc (.cells (madeCells #[.bool false] (len + 1)) 4)) := (Chg.refl _ w5).alloc _
    clear A1 s4 o5 k1 r1 k4 r4 c4 c5 hNP hxn
    gi_wp2
    gi_loopw [8, 10] (fun s8 s10 wr => ∃ i : Nat, i ≤ NP ∧ s8 = .int .i64 ((deepL L (PI.take i) : Nat) : Int) ∧ s10 = .int .i64 (i : Int) ∧ OwnB wr w5.heap.size w5.heap.size (len + 1) (manyL L (PI.take i)) ∧ Chg No w5 wr) (fun _ s10 _ => NP - (intOf s10).toNat)
    case atStart => exact ⟨0, Nat.zero_le _, rfl, rfl, hB0, c6⟩
    case round =>
      obtain ⟨i, hi, rfl, rfl, hB, ci⟩ := hrel
      clear hB0 c6 hmk hz1
      by_cases hlt : i < NP
      · have hlt' : (i : Int) < (NP : Int) := by omega
        obtain ⟨e1, he1⟩ : ∃ e1, PI[i]? = some e1 := ⟨_, List.getElem?_eq_getElem (by rw [HNP.out]; exact hlt)⟩
        have hr1 := HPr.out _ (List.mem_of_getElem? he1)
        have hts : PI.take (i + 1) = PI.take i ++ [e1] := by rw [List.take_add_one, he1]; rfl
        have HDS : Hid (deepL L (PI.take (i + 1)) = max (deepL L (PI.take i)) (depI L e1)) := by show _ = _; rw [hts]; exact deepL_snoc _ _ _
        have HMS : Hid (∀ j, manyL L (PI.take (i + 1)) j = (manyL L (PI.take i) j || decide ((j : Int) ∈ aheadI L e1))) := fun j => by rw [hts]; exact manyL_snoc _ _ _ _
        have rr := P.no r5 ci
        have D1 := J.depth B _ S O e1 wr rr hok h60 (by omega) (by omega)
        dsimp only at D1
        obtain ⟨d0, hd0⟩ : ∃ d0, deepL L (PI.take i) = d0 := ⟨_, rfl⟩
        obtain ⟨d1, hd1⟩ : ∃ d1, depI L e1 = d1 := ⟨_, rfl⟩
        obtain ⟨d2, hd2⟩ : ∃ d2, deepL L (PI.take (i + 1)) = d2 := ⟨_, rfl⟩
        have HD2 : Hid (deepL L (PI.take (i + 1)) = d2) := hd2
        have hmax : max (d0 : Int) (d1 : Int) = (d2 : Int) := by
          have := HDS.out
          rw [hd0, hd1, hd2] at this
          omega
        rw [hd0]
        rw [hd1] at D1
        obtain ⟨bq, oq, rfl, hc1⟩ := (lp.no ci).get1 (i := i) (x := iv e1) (by rw [List.getElem?_map, he1]; rfl)
        clear hts hd0 hd1 hd2
        gi_wp2_with fail
        refine ⟨trivial, rfl, D1.mono ?_⟩
        rintro e w7 ⟨rfl, c7⟩
        have ci7 := Chg.seq ci c7
        have r7 := P.no rr c7
        have hB7 : OwnB w7 w5.heap.size w5.heap.size (len + 1) (manyL L (PI.take i)) := row_kept hB (fun k e => c7.block k (World.ownsRow.lt hB k e).2 (fun h => h))
        have A7 := J.ahead B _ S O e1 w7 r7 hok h60 (by omega) (by omega)
        dsimp only at A7
        obtain ⟨A, hA⟩ : ∃ A, aheadI L e1 = A := ⟨_, rfl⟩
        have HAE : Hid (aheadI L e1 = A) := hA
        have hA30 : A.length ≤ 30 := by rw [← hA]; exact Nat.le_trans (aheadI_len _) hL30
        have HAr : Hid (∀ x ∈ A, 1 ≤ x ∧ x ≤ (L.length : Int)) := fun x hx => aheadI_range (by rw [hA]; exact hx)
        rw [hA] at A7
        have hc7 : w7.cell? ⟨bq, oq + i, none⟩ = some (iv e1) := (World.cell?_of_block (a := ⟨bq, oq + i, none⟩) (c7.block bq (World.block_lt_of_cell? wr _ hc1) (fun h => h))).trans hc1
        clear D1 hB rr ci c7 hc1 hA
        gi_wp2_with fail
        refine ⟨trivial, rfl, A7.mono ?_⟩
        rintro e w8 ⟨v8, rfl, s8, c8⟩
        have ci8 := Chg.seq ci7 c8
        have hB8 : OwnB w8 w5.heap.size w5.heap.size (len + 1) (manyL L (PI.take i)) := row_kept hB7 (fun k e => c8.block k (World.ownsRow.lt hB7 k e).2 (fun h => h))
        gi_wp2_with fail
        refine ⟨trivial, rfl, (intsV_in v8 _ A 99 (by omega) w8 s8 (List.take_of_length_le (by omega)).symm).mono ?_⟩
        rintro e w9 ⟨v9, rfl, o9, c9⟩
        have ci9 := Chg.seq ci8 c9
        have hB9 : OwnB w9 w5.heap.size w5.heap.size (len + 1) (manyL L (PI.take i)) := row_kept hB8 (fun k e => c9.block k (World.ownsRow.lt hB8 k e).2 (fun h => h))
        have hG8 : w5.heap.size < w8.heap.size := (World.ownsRow.lt hB8 _ rfl).2
        have l9 := o9.sl
        have hlow9 : ∀ k, v9.ownBlock = some k → ¬ k = w5.heap.size := fun k e e2 => by have := (World.ownsRow.lt o9 k e).1; omega
        obtain ⟨pa, ka, rfl⟩ := row_slice o9
        obtain ⟨NA, hNA⟩ : ∃ NA, A.length = NA := ⟨_, rfl⟩
        have HNA : Hid (A.length = NA) := hNA
        rw [hNA] at l9 hA30 hlow9 ⊢
        have HL9 : Hid (∀ W, Chg (fun k => k = w5.heap.size) w9 W → SlV W (.slice pa NA ka) (A.map iv)) := fun W cW => l9.chg cW (fun k hk e => hlow9 k hk.2 e)
        have HM0 : Hid (bl (len + 1) (manyL L (PI.take i)) = bl (len + 1) (fun j => manyL L (PI.take i) j || decide ((j : Int) ∈ A.take 0))) := bl_congr (fun j _ => by simp)
        have HM1 : Hid (bl (len + 1) (fun j => manyL L (PI.take i) j || decide ((j : Int) ∈ A.take NA)) = bl (len + 1) (manyL L (PI.take (i + 1)))) := bl_congr (fun j _ => by
          rw [HMS.out j, HAE.out, show A.take NA = A from List.take_of_length_le (by rw [HNA.out]; exact Nat.le_refl _)])
        have hB10 : OwnB w9 w5.heap.size w5.heap.size (len + 1) (fun j => manyL L (PI.take i) j || decide ((j : Int) ∈ A.take 0)) := by show World.ownsRow _ _ _ _ _ _ _; rw [← HM0.out]; exact hB9
        clear A7 s8 o9 l9 hlow9 hB7 hB8 hB9 c8 c9 ci7 ci8 hc7 hNA r7
        gi_wp2
        gi_loopw [12] (fun s12 wr2 => ∃ t : Nat, t ≤ NA ∧ s12 = .int .i64 (t : Int) ∧ OwnB wr2 w5.heap.size w5.heap.size (len + 1) (fun j => manyL L (PI.take i) j || decide ((j : Int) ∈ A.take t)) ∧ Chg (fun k => k = w5.heap.size) w9 wr2 ∧ Chg No w5 wr2) (fun s12 _ => NA - (intOf s12).toNat)
        case atStart => exact ⟨0, Nat.zero_le _, rfl, hB10, Chg.refl _ _, ci9⟩
        case round =>
          obtain ⟨t, ht, rfl, hBt, ct, c0t⟩ := hrel
          by_cases htl : t < NA
          · have htl' : (t : Int) < (NA : Int) := by omega
            obtain ⟨q, hq⟩ : ∃ q, A[t]? = some q := ⟨_, List.getElem?_eq_getElem (by rw [HNA.out]; exact htl)⟩
            have hqr := HAr.out q (List.mem_of_getElem? hq)
            obtain ⟨qn, rfl⟩ : ∃ qn : Nat, q = (qn : Int) := ⟨q.toNat, by omega⟩
            obtain ⟨bp, op, rfl, hcp⟩ := (HL9.out wr ct).get1 (i := t) (x := iv (qn : Int)) (by rw [List.getElem?_map, hq]; rfl)
            have hqM : qn < len + 1 := by omega
            have hqM' : (qn : Int) < (len : Int) + 1 := by omega
            have LW := low_in (qn : Int) ((len : Int) + 1) (by omega) (by omega) wr
            have hid := lowI_id qn (len + 1) hqM (by omega)
            rw [show ((len + 1 : Nat) : Int) = (len : Int) + 1 by omega] at hid
            rw [hid] at LW
            obtain ⟨⟨y0, hy0⟩, hyf, hBs⟩ := hBt.set (p := qn) (b := true) (g := fun j => manyL L (PI.take i) j || decide ((j : Int) ∈ A.take (t + 1))) hqM (fun j _ => by
              rw [List.take_add_one, hq]
              by_cases e : j = qn
              · rw [if_pos e, e]; simp
              · rw [if_neg e]
                congr 1
                rw [decide_eq_decide]
                have e' : ¬ (j : Int) = (qn : Int) := fun h => e (Int.ofNat.inj h)
                simp [e'])
            have ct2 := ct.setCell (p := ⟨w5.heap.size, qn, none⟩) (.inl rfl) (.bool true)
            have c0t2 := c0t.setCell (p := ⟨w5.heap.size, qn, none⟩) (.inr (Nat.le_refl _)) (.bool true)
            clear hBt ct c0t
            gi_wp2_with fail
            refine ⟨trivial, rfl, LW.mono ?_⟩
            rintro e w10 ⟨rfl, hw⟩
            subst hw
            gi_wp2
            refine ⟨⟨t + 1, htl, by go_num, hBs, ct2, c0t2⟩, by simp [intOf]; omega⟩
          · obtain rfl : t = NA := by omega
            have htl' : ¬ (t : Int) < (t : Int) := by omega
            gi_wp2
            refine ⟨⟨i + 1, by omega, by rw [HD2.out], by go_num, by show World.ownsRow _ _ _ _ _ _ _; rw [← HM1.out]; exact hBt, c0t⟩, by simp [intOf]; omega⟩
      · obtain rfl : i = NP := by omega
        have hlt' : ¬ (i : Int) < (i : Int) := by omega
        have hall : PI.take i = PI := List.take_of_length_le (by rw [HNP.out]; exact Nat.le_refl _)
        rw [hall] at hB ⊢
        have HB : Hid (OwnB wr w5.heap.size w5.heap.size (len + 1) (manyL L PI)) := hB
        obtain ⟨dd, hdd⟩ : ∃ dd, deepL L PI = dd := ⟨_, rfl⟩
        have HDD : Hid (depI L (xn : Int) = dd + 1) := by show _ = _; rw [HD.out, hdd]
        rw [hdd]
        have o0 := one_own wr (xn : Int)
        have c0 : Chg No wr (wr.alloc (.cells #[.int .i64 (xn : Int)] 3)) := (Chg.refl _ wr).alloc _
        have cs0 := Chg.seq ci c0
        have hB0 : OwnB (wr.alloc (.cells #[.int .i64 (xn : Int)] 3)) w5.heap.size w5.heap.size (len + 1) (manyL L PI) := row_kept hB (fun k e => c0.block k (World.ownsRow.lt hB k e).2 (fun h => h))
        have hGr : w5.heap.size < wr.heap.size := (World.ownsRow.lt hB _ rfl).2
        clear hdd hall lp hB
        gi_wp2
        generalize wr = wa at *
        gi_loopw [13, 14] (fun s13 s14 wr2 => ∃ k : Nat, k ≤ len ∧ s14 = .int .i64 (k : Int) ∧ OwnI wr2 wa.heap.size s13 ((xn : Int) :: (outF (manyL L PI) len k).map (fun (p : Nat) => (p : Int))) ∧ OwnB wr2 w5.heap.size w5.heap.size (len + 1) (manyL L PI) ∧ Chg No w5 wr2) (fun _ s14 _ => (intOf s14).toNat)
        case atStart => exact ⟨len, Nat.le_refl _, by go_num, by rw [outF_start]; exact o0, hB0, cs0⟩
        case round =>
          obtain ⟨k, hk, rfl, hown, hB, c⟩ := hrel
          clear o0 c0 cs0 hB0
          by_cases hk0 : 1 ≤ k
          · have hk0' : (0 : Int) < (k : Int) := by omega
            have hget := hB.get (j := k) (by omega)
            have hkM : (k : Int) < (len : Int) + 1 := by omega
            have hstep := outF_step (f := manyL L PI) (n := len) (k := k) hk0 hk
            obtain ⟨i', rfl⟩ : ∃ i', k = i' + 1 := ⟨k - 1, by omega⟩
            rw [Nat.add_sub_cancel] at hstep
            cases hf : manyL L PI (i' + 1) with
            | false =>
              rw [hf] at hget
              rw [hf, if_neg Bool.false_ne_true] at hstep
              have HO : Hid (outF (manyL L PI) len i' = outF (manyL L PI) len (i' + 1)) := hstep
              clear hstep
              gi_wp2
              refine ⟨⟨i', by omega, by go_num, by rw [HO.out]; exact hown, hB, c⟩, by simp [intOf]⟩
            | true =>
              rw [hf] at hget
              rw [hf, if_pos rfl] at hstep
              have HO : Hid (outF (manyL L PI) len i' = outF (manyL L PI) len (i' + 1) ++ [i' + 1]) := hstep
              obtain ⟨WL, hWL⟩ : ∃ WL, (xn : Int) :: (outF (manyL L PI) len (i' + 1)).map (fun (p : Nat) => (p : Int)) = WL := ⟨_, rfl⟩
              have HW : Hid ((xn : Int) :: (outF (manyL L PI) len i').map (fun (p : Nat) => (p : Int)) = WL ++ [((i' : Int) + 1)]) := by
                show _ = _
                rw [HO.out, List.map_append, ← hWL, List.cons_append]
                rfl
              obtain ⟨ln, hln⟩ : ∃ ln, WL.length = ln := ⟨_, rfl⟩
              have HLn : Hid (WL.length = ln) := hln
              have hlnN : ln ≤ len + 1 := by
                rw [← hln, ← hWL, List.length_cons, List.length_map]
                exact Nat.succ_le_succ (outF_len _ _ _)
              rw [hWL] at hown
              have hap := row_apart2 (by decide) hown hB
              have hown2 := hown
              change World.ownsRow _ _ _ _ _ WL.length _ at hown2
              rw [hln] at hown2
              obtain ⟨q5, k5, rfl⟩ := row_slice hown2
              have HLow : Hid (∀ j, Value.ownBlock (.slice q5 ln k5) = some j → wa.heap.size ≤ j ∧ ¬ j = w5.heap.size) := fun j e => ⟨(World.ownsRow.lt hown2 j e).1, fun e2 => hap j e (by rw [e2]; rfl)⟩
              have hsl : SlV (wr.alloc (.cells #[.int .i64 ((i' : Int) + 1)] 3)) (.slice (some ⟨wr.heap.size, 0, none⟩) 1 1) ([((i' : Int) + 1)].map iv) := SlV.made wr [.int .i64 ((i' : Int) + 1)] 3 (by simp)
              have oA := World.ownsRow.alloc hown2 (.cells #[.int .i64 ((i' : Int) + 1)] 3)
              have hcA := (Chg.refl (fun q => Value.ownBlock (.slice q5 ln k5) = some q) wr).alloc (.cells #[.int .i64 ((i' : Int) + 1)] 3)
              have cA : Chg No w5 (wr.alloc (.cells #[.int .i64 ((i' : Int) + 1)] 3)) := c.alloc _
              have hbs : wa.heap.size ≤ (wr.alloc (.cells #[.int .i64 ((i' : Int) + 1)] 3)).heap.size := by
                rw [World.size_alloc]
                rcases hown2.2 with ⟨h, h0⟩ | ⟨g, cap', cur, h, hb, hg, _⟩
                · have := hln; rw [← hWL] at this; simp at this; omega
                · have := (Array.getElem?_eq_some_iff.1 hg).1; omega
              have HG5 : Hid (∀ (W5 : World), (wr.alloc (.cells #[.int .i64 ((i' : Int) + 1)] 3)).grownBy W5 (Value.slice q5 ln k5).ownBlock → Chg No w5 W5 ∧ OwnB W5 w5.heap.size w5.heap.size (len + 1) (manyL L PI)) := fun W5 hg =>
                ⟨cA.grown hg (fun j e => .inr (by have := (HLow.out j e).1; omega)), by
                  have c5 := hcA.grown hg (fun j e => .inl e)
                  exact row_kept hB (fun j e => c5.block j (World.ownsRow.lt hB j e).2 (fun e2 => (HLow.out j e2).2 (by cases e; rfl)))⟩
              clear hstep hWL hln hown hown2 hap c cA hB hcA
              gi_wp2_with (gi_at_builtin; refine wpListIn_append_i _ rfl _ _ rfl wa.heap.size _ _ _ rfl oA (some ⟨wr.heap.size, 0, none⟩) 1 1 [((i' : Int) + 1)] rfl hsl (by omega) hbs ?_; intro v5 w6 hown5 hgrow5 hat5; obtain ⟨c05, hB5⟩ := HG5.out w6 hgrow5)
              refine ⟨⟨i', by omega, by go_num, ?_, hB5, c05⟩, by simp [intOf]⟩
              rw [HW.out]
              show World.ownsRow _ _ _ _ _ _ _
              rw [List.map_append, List.length_append, HLn.out]
              exact hown5
          · obtain rfl : k = 0 := by omega
            have rr := P.no r5 c
            rw [outF_end] at hown
            have HAL : Hid (aheadI L (xn : Int) = (xn : Int) :: ((down len).filter (manyL L PI)).map (fun (p : Nat) => (p : Int))) := by show _ = _; rw [HAM.out, hLl]
            rw [← HAL.out] at hown
            obtain ⟨AL, hAL⟩ : ∃ AL, aheadI L (xn : Int) = AL := ⟨_, rfl⟩
            have hA30 : AL.length ≤ 30 := by rw [← hAL]; exact Nat.le_trans (aheadI_len _) hL30
            have D1 := J.depth B _ S O (xn : Int) wr rr hok h60 (by omega) (by omega)
            have A1 := fun W hW => J.ahead B (L, 60) S O (xn : Int) W hW hok h60 (by omega) (by omega)
            dsimp only at D1 A1
            rw [HDD.out, show ((dd + 1 : Nat) : Int) = (dd : Int) + 1 by omega] at D1
            rw [hAL] at A1 hown
            have hdd31 : dd ≤ 31 := by
              have h1 := HDD.out
              rw [dep_nat rn.1 rn.2] at h1
              have h2 := depA_le hok.low xn
              omega
            have ls := hown.sl
            obtain ⟨q5, kk5, rfl⟩ := row_slice hown
            clear hown hB hAL
            gi_wp2_with fail
            refine ⟨trivial, rfl, D1.mono ?_⟩
            rintro e w7 ⟨rfl, c7⟩
            have r7 := P.no rr c7
            have k7 := Chg.seq c c7
            gi_wp2_with fail
            refine ⟨trivial, rfl, (A1 _ r7).mono ?_⟩
            rintro e w8 ⟨v8, rfl, s8, c8⟩
            have k8 := Chg.seq k7 c8
            gi_wp2_with fail
            refine ⟨trivial, rfl, (intsV_in v8 _ AL 99 (by omega) w8 s8 (List.take_of_length_le (by omega)).symm).mono ?_⟩
            rintro e w9 ⟨v9, rfl, o9, c9⟩
            have k9 := Chg.seq k8 c9
            have I9 := sameI_in v9 _ AL AL w9 o9.sl (((ls.no c7).no c8).no c9)
            rw [decide_eq_true rfl] at I9
            clear D1 A1 s8 o9 ls rr r7 k7 k8 c7 c8 c9
            gi_wp2_with fail
            refine ⟨trivial, rfl, I9.mono ?_⟩
            rintro e w10 ⟨rfl, c10⟩
            have k10 := Chg.seq k9 c10
            gi_wp2_with fail
            refine ⟨trivial, rfl, (awakeD_in P J _).mono ?_⟩
            rintro e w11 ⟨rfl, c11⟩
            gi_wp2
            go_ret
            exact ⟨rfl, Chg.seq k5 (Chg.seq k10 c11)⟩

end Go.Proofs.YtbhhkfmjbgakbaaDoor
