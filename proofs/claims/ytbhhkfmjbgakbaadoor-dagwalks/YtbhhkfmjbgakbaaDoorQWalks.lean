/-
  DagWalks, walked.
-/
import Derived.Test.YtbhhkfmjbgakbaaDoorQOrder
import Derived.Test.YtbhhkfmjbgakbaaDoorLoudK
import Derived.Test.YtbhhkfmjbgakbaaDoorSlCut
namespace Go.DagLib
open Go.RepoLib
theorem ahead_cons_i {L : List Cm} (hl : Low (parL L)) {n : Nat} (h1 : 1 ≤ n) (h2 : n ≤ L.length) : ∃ t, aheadI L (n : Int) = (n : Int) :: t := by
  unfold aheadI
  rw [has_nat h1 h2, if_pos rfl, Int.toNat_natCast]
  obtain ⟨t, ht⟩ := ahead_head hl h1
  exact ⟨_, by rw [ht]; rfl⟩
theorem first_cons_i {L : List Cm} (hl : Low (parL L)) {n : Nat} (h1 : 1 ≤ n) (h2 : n ≤ L.length) : ∃ t, fstI L (n : Int) = (n : Int) :: t := by
  unfold fstI
  rw [has_nat h1 h2, if_pos rfl, Int.toNat_natCast]
  obtain ⟨t, ht⟩ := fstA_head hl n
  exact ⟨_, by rw [ht]; rfl⟩
theorem fstI_falls {L : List Cm} (hl : Low (parL L)) (n : Int) : (fstI L n).Pairwise (fun x y => y < x) := by
  unfold fstI
  split
  · rw [List.pairwise_map]
    exact (fstA_falls hl n.toNat).imp (fun h => by omega)
  · exact List.Pairwise.nil
theorem fstI_dep {L : List Cm} (hl : Low (parL L)) (n : Int) : (fstI L n).length ≤ depI L n := by
  unfold fstI depI
  split
  · rw [List.length_map]; exact fstA_len hl n.toNat
  · exact Nat.le_refl _
theorem fstI_ahead {L : List Cm} (hok : ParOk L) {n : Nat} (h1 : 1 ≤ n) (h2 : n ≤ L.length) {x : Int} (h : x ∈ fstI L (n : Int)) : x ∈ aheadI L (n : Int) := by
  have hl := hok.low
  have h' := h
  unfold fstI at h
  rw [has_nat h1 h2, if_pos rfl, Int.toNat_natCast] at h
  obtain ⟨k, hk, rfl⟩ := List.mem_map.1 h
  have hi := fstA_is hl hk
  refine (in_ahead hl h1 h2).2 ⟨?_, hi⟩
  rcases isA_up hl hi with rfl | ⟨j, hj, _⟩
  · exact h1
  · cases j with
    | zero => simp [parL] at hj
    | succ i =>
      cases hc : L[i]? with
      | none => unfold parL at hj; rw [if_neg (by omega), Nat.add_sub_cancel, hc] at hj; simp at hj
      | some c =>
        rw [parL_at hc] at hj
        obtain ⟨q, hq, rfl⟩ := List.mem_map.1 hj
        have := hok i c hc q hq
        omega
theorem take_min_len {α : Type} (l : List α) (e : Nat) : l.take (min e l.length) = l.take e := by
  rcases Nat.le_total e l.length with h | h
  · rw [Nat.min_eq_left h]
  · rw [Nat.min_eq_right h, List.take_of_length_le (Nat.le_refl _), List.take_of_length_le h]
end Go.DagLib
namespace Go.Proofs.YtbhhkfmjbgakbaaDoor
open Go.RowKit Go.Shelf Go.SeqLib Go.DiffLib Go.TreeLib Go.RepoLib Go.DagLib Go.BigFrame
attribute [local go_sem] Oper.semAt_some

theorem elem_int : Tryd.prog.elem 22 = 3 := by simp [Program.elem, Tryd.underlying22]
theorem size_int (w : World) : (sizeOf 3).run Tryd.prog w = .ok 1 w := by
  obtain ⟨i0, hi, _, h2, _⟩ := info_parts infoInt
  rw [run_sizeOf w hi]
  have : Tryd.prog.cellsOf 3 = 1 := by kernel_rfl
  rw [this]
/-- The first ones of a list of numbers, cut. -/
theorem SlV.highI {W : World} {p : Option Addr} {n cap : Nat} {l : List Int} (h : SlV W (.slice p n cap) (l.map iv)) (hl : l.length = n) (hi : Nat) (h2 : hi ≤ n) :
    ∃ p' c', SlV W (.slice p' hi c') ((l.take hi).map iv) ∧ ∀ w, (Instr.sliceAt 22 (.slice p n cap) none (some (.int .i64 (hi : Int))) none).run Tryd.prog w = .ok (.slice p' hi c') w := by
  have hcap : n ≤ cap := by obtain ⟨p0, cap0, e0, q1, _⟩ := h; cases e0; omega
  obtain ⟨p', c', e, s, _⟩ := h.cutCore (by rw [List.length_map]; exact hl) 0 hi (Nat.zero_le _) h2
  refine ⟨p', c', by rw [List.map_take]; simpa using s, fun w => ?_⟩
  have ht : Tryd.prog.underlying 22 = some (.slice (Tryd.prog.elem 22)) := by rw [elem_int]; exact Tryd.underlying22
  rw [run_sliceAt_slice _ _ _ _ _ _ ht, run_slice_h _ _ _ _ _ ht .i64 (hi : Int) (by omega) (by omega), elem_int, size_int]
  show Result.ok (sliced p 0 hi cap 1) w = _
  rw [e]
  rfl

/-- What the last statement's operations are known to answer. -/
def wkOk (ka kl na dp : Nat) (v8 v25 : Value) : Nat → Value → Prop := fun i v =>
  if i = 2 then ∃ p k, v = .slice p ka k else if i = 7 then v = iv ka else if i = 8 then v = v8 else if i = 9 then v = .bool true else if i = 12 then ∃ p k, v = .slice p na k else if i = 14 then v = .bool true else
  if i = 19 then ∃ p k, v = .slice p kl k else if i = 24 then v = iv kl else if i = 25 then v = v25 else if i = 26 then v = .bool true else if i = 33 then v = iv dp else if i = 37 then v = .bool true else True
def wkVal (A F : List Int) (e : Nat) : Nat → Value → World → Prop := fun i v W =>
  if i = 2 then SlV W v ((A.take e).map iv) else if i = 12 then SlV W v (A.map iv) else if i = 19 then SlV W v ((F.take e).map iv) else True
theorem wkVal.no {A F : List Int} {e : Nat} : ∀ (i : Nat) (v : Value) (W W' : World), wkVal A F e i v W → Chg (fun _ => False) W W' → wkVal A F e i v W' := by
  intro i v W W' h c
  unfold wkVal at h ⊢
  repeat' split at h
  all_goals first
    | (rename_i hh; simp only [hh, if_true]; exact h.no c)
    | trivial
    | skip
  all_goals simp_all
  all_goals exact h.no c

/-- What they are held to be till they have come up. -/
def wkD (ka kl na dp : Nat) (v8 v25 : Value) : Nat → Value := fun i =>
  if i = 2 then .slice none ka 0 else if i = 7 then iv ka else if i = 8 then v8 else if i = 9 then .bool true else if i = 12 then .slice none na 0 else if i = 14 then .bool true else
  if i = 19 then .slice none kl 0 else if i = 24 then iv kl else if i = 25 then v25 else if i = 26 then .bool true else if i = 33 then iv dp else .bool true
theorem wkD_ok (ka kl na dp : Nat) (v8 v25 : Value) : ∀ i, wkOk ka kl na dp v8 v25 i (wkD ka kl na dp v8 v25 i) := by
  intro i
  by_cases h2 : i = 2
  · subst h2; simp [wkOk, wkD]
  by_cases h7 : i = 7
  · subst h7; simp [wkOk, wkD]
  by_cases h8 : i = 8
  · subst h8; simp [wkOk, wkD]
  by_cases h9 : i = 9
  · subst h9; simp [wkOk, wkD]
  by_cases h12 : i = 12
  · subst h12; simp [wkOk, wkD]
  by_cases h14 : i = 14
  · subst h14; simp [wkOk, wkD]
  by_cases h19 : i = 19
  · subst h19; simp [wkOk, wkD]
  by_cases h24 : i = 24
  · subst h24; simp [wkOk, wkD]
  by_cases h25 : i = 25
  · subst h25; simp [wkOk, wkD]
  by_cases h26 : i = 26
  · subst h26; simp [wkOk, wkD]
  by_cases h33 : i = 33
  · subst h33; simp [wkOk, wkD]
  by_cases h37 : i = 37
  · subst h37; simp [wkOk, wkD]
  · simp [wkOk, h2, h7, h8, h9, h12, h14, h19, h24, h25, h26, h33, h37]

set_option maxRecDepth 100000 in
set_option maxHeartbeats 2000000 in
theorem dwalks_law {Rep : Nat → Rp → Blk → Blk → World → Prop} (P : PutSpec Rep) (J : DagSpec Rep) (p : Option Addr) (len cap : Nat) (zs : List Int) (n early : Int) (w : World) (hv : SlV w (.slice p len cap) (zs.map iv)) (hlen : zs.length = len) : CallsIn Fence.wide 0 Tryd.prog 5 #[.slice p len cap, iv n, iv early] w fun e w' => e = .returned (.bool true) ∧ Chg No w w' := by
  have hmix : Tryd.prog.follows .mixedOrders = true := by kernel_rfl
  have hnil : ∀ (B : Nat) (w : World), (binOp .eql 24 (ptr B) (.pointer none)).run Tryd.prog w = .ok (.bool false) w := fun B w => by simp [go_sem]
  have hml : len ≤ 9223372036854775807 := by obtain ⟨_, _, e, hl, hm, _⟩ := hv; cases e; rw [List.length_map] at hl; unfold maxLen at hm; omega
  refine callsIn_of_wp Tryd.func5 rfl trivial ?_
  simp only [Tryd.ntmps5, List.size_toArray, List.length_cons, List.length_nil, Nat.reduceAdd, Nat.reduceSub, Array.replicate_succ, Array.replicate_zero, List.push_toArray, List.append_toArray, List.nil_append, List.cons_append]
  by_cases hbig : 30 < len
  · have hbig' : (30 : Int) < (len : Int) := by omega
    gi_wp2_with fail
    refine ⟨trivial, rfl, (awakeD_in P J _).mono ?_⟩
    rintro e w1 ⟨rfl, c1⟩
    gi_wp2
    go_ret
    exact ⟨rfl, c1⟩
  by_cases hzero : len = 0
  · subst hzero
    gi_wp2_with fail
    refine ⟨trivial, rfl, (awakeD_in P J _).mono ?_⟩
    rintro e w1 ⟨rfl, c1⟩
    gi_wp2
    go_ret
    exact ⟨rfl, c1⟩
  · have hbig' : ¬ (30 : Int) < (len : Int) := by omega
    have hz1 : ((len : Int) == 0) = false := by rw [beq_eq_false_iff_ne]; omega
    have hz2 : ¬ (len : Int) = 0 := by omega
    have M1 := made_in P p len cap zs hlen (by omega) w hv
    obtain ⟨L, hL⟩ : ∃ L, mkL 0 (zs.map uN) = L := ⟨_, rfl⟩
    have hok : ParOk L := hL ▸ made_ok _
    have hLl : L.length = len := by rw [← hL, mkL_length, List.length_map, hlen]
    rw [hL] at M1
    have hL30 : L.length ≤ 30 := by omega
    have L1 := fun W => low_in n (len : Int) (by omega) (by omega) W
    have L2 := fun W => low_in early 35 (by omega) (by omega) W
    obtain ⟨al, ah⟩ := lowI_range n (len : Int) (by omega) (by omega)
    obtain ⟨bl, bh⟩ := lowI_range early 35 (by omega) (by omega)
    generalize lowI n (len : Int) = a1 at *
    generalize lowI early 35 = b1 at *
    obtain ⟨xn, hxn⟩ : ∃ xn : Nat, 1 + a1 = (xn : Int) := ⟨(1 + a1).toNat, by omega⟩
    obtain ⟨en, rfl⟩ : ∃ en : Nat, b1 = (en : Int) := ⟨b1.toNat, by omega⟩
    have rn : 1 ≤ xn ∧ xn ≤ L.length := by omega
    have h60 : L.length ≤ 60 := by omega
    have hlow := hok.low
    clear hL hzero
    gi_wp2_with fail
    refine ⟨trivial, rfl, M1.mono ?_⟩
    rintro e w1 ⟨B, Bw, S, O, lv, rows, rfl, r1, _, hS, k1⟩
    clear M1
    gi_wp2_with fail
    refine ⟨trivial, rfl, (L1 w1).mono ?_⟩
    rintro e w2 ⟨rfl, hw⟩
    subst hw
    gi_wp2_with fail
    refine ⟨trivial, rfl, (L2 w2).mono ?_⟩
    rintro e w3 ⟨rfl, hw⟩
    subst hw
    obtain ⟨A, hA⟩ : ∃ A, aheadI L (xn : Int) = A := ⟨_, rfl⟩
    obtain ⟨F, hF⟩ : ∃ F, fstI L (xn : Int) = F := ⟨_, rfl⟩
    have hA30 : A.length ≤ 30 := by rw [← hA]; exact Nat.le_trans (aheadI_len _) hL30
    have hF31 : F.length ≤ 31 := by rw [← hF]; exact Nat.le_trans (fstI_len _) (by omega)
    have HA : Hid (∃ t, A = (xn : Int) :: t) := by obtain ⟨t, ht⟩ := ahead_cons_i hlow rn.1 rn.2; exact ⟨t, hA ▸ ht⟩
    have HF : Hid (∃ t, F = (xn : Int) :: t) := by obtain ⟨t, ht⟩ := first_cons_i hlow rn.1 rn.2; exact ⟨t, hF ▸ ht⟩
    have HFf : Hid (F.Pairwise (fun x y => y < x)) := hF ▸ fstI_falls hlow _
    have HFA : Hid (∀ x ∈ F, x ∈ A) := fun x hx => by rw [← hA]; exact fstI_ahead hok rn.1 rn.2 (by rw [hF]; exact hx)
    have HFd : Hid (F.length ≤ depI L (xn : Int)) := hF ▸ fstI_dep hlow _
    have HAr : Hid (∀ x ∈ A, 1 ≤ x ∧ x ≤ (L.length : Int)) := fun x hx => aheadI_range (by rw [hA]; exact hx)
    have A1 := J.ahead B _ S O (xn : Int) w3 r1 hok h60 (by omega) (by omega)
    dsimp only at A1
    rw [hA] at A1
    have HAE : Hid (aheadI L (xn : Int) = A) := hA
    clear L1 L2 hA
    gi_wp2_with fail
    refine ⟨trivial, rfl, A1.mono ?_⟩
    rintro e w4 ⟨v4, rfl, s4, c4⟩
    have k4 := Chg.seq k1 c4
    have r4 := P.no r1 c4
    have A2 := J.first B _ S O (xn : Int) w4 r4 hok h60 (by omega) (by omega)
    dsimp only at A2
    rw [hF] at A2
    clear A1 r1 k1 c4 hF hxn
    gi_wp2_with fail
    refine ⟨trivial, rfl, A2.mono ?_⟩
    rintro e w5 ⟨v5, rfl, s5, c5⟩
    have k5 := Chg.seq k4 c5
    have r5 := P.no r4 c5
    have s45 := s4.no c5
    clear A2 r4 k4 s4 c5
    gi_wp2_with fail
    refine ⟨trivial, rfl, (intsV_in v4 _ A 99 (by omega) w5 s45 (List.take_of_length_le (by omega)).symm).mono ?_⟩
    rintro e w6 ⟨v6, rfl, o6, c6⟩
    have k6 := Chg.seq k5 c6
    have r6 := P.no r5 c6
    have s46 := s45.no c6
    have s56 := s5.no c6
    gi_wp2_with fail
    refine ⟨trivial, rfl, (intsV_in v5 _ F 99 (by omega) w6 s56 (List.take_of_length_le (by omega)).symm).mono ?_⟩
    rintro e w7 ⟨v7, rfl, o7, c7⟩
    have k7 := Chg.seq k6 c7
    have r7 := P.no r6 c7
    have s47 := s46.no c7
    have s57 := s56.no c7
    have la := o6.sl.no c7
    have lf := o7.sl
    obtain ⟨pa, ka, rfl⟩ := row_slice o6
    obtain ⟨pf, kf, rfl⟩ := row_slice o7
    obtain ⟨NA, hNA⟩ : ∃ NA, A.length = NA := ⟨_, rfl⟩
    obtain ⟨NF, hNF⟩ : ∃ NF, F.length = NF := ⟨_, rfl⟩
    have HNA : Hid (A.length = NA) := hNA
    have HNF : Hid (F.length = NF) := hNF
    rw [hNA] at la hA30 ⊢
    rw [hNF] at lf hF31 HFd ⊢
    have hNA1 : 1 ≤ NA := by obtain ⟨t, ht⟩ := HA.out; rw [← hNA, ht]; simp
    have hNF1 : 1 ≤ NF := by obtain ⟨t, ht⟩ := HF.out; rw [← hNF, ht]; simp
    obtain ⟨ba, oa, rfl, ca0⟩ := la.get1 (i := 0) (x := iv (xn : Int)) (by obtain ⟨t, ht⟩ := HA.out; rw [ht]; rfl)
    obtain ⟨bf, of', rfl, cf0⟩ := lf.get1 (i := 0) (x := iv (xn : Int)) (by obtain ⟨t, ht⟩ := HF.out; rw [ht]; rfl)
    have ca : w7.cell? ⟨ba, oa, none⟩ = some (.int .i64 (xn : Int)) := ca0
    have cf : w7.cell? ⟨bf, of', none⟩ = some (.int .i64 (xn : Int)) := cf0
    have z1 : ((NA : Int) == 0) = false := by rw [beq_eq_false_iff_ne]; omega
    have z2 : ((NF : Int) == 0) = false := by rw [beq_eq_false_iff_ne]; omega
    have z3 : ((xn : Int) != (xn : Int)) = false := by simp
    have z4 : (0 : Int) < (NA : Int) := by omega
    have z5 : (0 : Int) < (NF : Int) := by omega
    clear s45 s5 o6 o7 k5 r5 k6 r6 c6 c7 s46 s56 hNA hNF ca0 cf0
    gi_wp2
    gi_loopw [13] (fun s13 wr => ∃ i : Nat, i ≤ NF ∧ s13 = .int .i64 (i : Int) ∧ Chg No w7 wr) (fun s13 _ => NF - (intOf s13).toNat)
    case atStart => exact ⟨0, Nat.zero_le _, rfl, Chg.refl _ _⟩
    case round =>
      obtain ⟨i, hi, rfl, ci⟩ := hrel
      clear ca cf z1 z2 z3
      by_cases hlt : i < NF
      · have hlt' : (i : Int) < (NF : Int) := by omega
        obtain ⟨e1, he1⟩ : ∃ e1, F[i]? = some e1 := ⟨_, List.getElem?_eq_getElem (by rw [HNF.out]; exact hlt)⟩
        have hmem : e1 ∈ A := HFA.out _ (List.mem_of_getElem? he1)
        have hr1 : -2000 ≤ e1 ∧ e1 ≤ 2000 := by
          have := HAr.out _ hmem
          omega
        have I16 : ∀ d : After wr, CallsIn Fence.wide 0 Tryd.prog 17 #[ptr B, iv e1, iv (xn : Int)] d.val fun e w' => e = .returned (.bool true) ∧ Chg No d.val w' := fun d => by
          have := J.is B (L, 60) S O e1 (xn : Int) d.val (P.no (P.no r7 ci) d.chg) hok h60 hr1.1 hr1.2 (by omega) (by omega)
          dsimp only at this
          rw [HAE.out, decide_eq_true hmem] at this
          exact this
        have sli := lf.no ci
        obtain ⟨_, _, e', hc1⟩ := sli.get1 (i := i) (x := iv e1) (by rw [List.getElem?_map, he1]; rfl)
        cases e'
        have hany := After.any wr
        have f1 : ∀ d : After wr, d.val.cell? ⟨bf, of' + i, none⟩ = some (.int .i64 e1) := fun d => d.cell hc1
        cases i with
        | zero =>
          have f0 : ∀ d : After wr, d.val.cell? ⟨bf, of', none⟩ = some (.int .i64 e1) := f1
          clear f1 hc1
          gi_wp2
          refine region_quietC hmix (by kernel_rfl) ?_
          repeat (gi_big_quiet_step (fail))
          refine wpQuietIn_want (fun _ _ _ _ => trivial) rfl ?_
          intro KQ hKQ
          gi_big_quiet_op
          gi_big_quiet_call (exact ⟨rfl, (I16 _).mono (by rintro e w'' ⟨rfl, c'⟩; exact ⟨rfl, After.more _ c'⟩)⟩)
          repeat (gi_big_quiet_step (fail))
          refine wpQuietIn_nil ?_
          rintro w' ⟨d, rfl⟩
          have cd := Chg.seq ci d.chg
          gi_wp2
          refine ⟨⟨1, by omega, by go_num, cd⟩, by simp [intOf]; omega⟩
        | succ j =>
          obtain ⟨e0, he0⟩ : ∃ e0, F[j]? = some e0 := ⟨_, List.getElem?_eq_getElem (by rw [HNF.out]; omega)⟩
          have hfall := falls_next HFf.out he0 he1
          obtain ⟨_, _, e', hc0⟩ := sli.get1 (i := j) (x := iv e0) (by rw [List.getElem?_map, he0]; rfl)
          cases e'
          have f0 : ∀ d : After wr, d.val.cell? ⟨bf, of' + j, none⟩ = some (.int .i64 e0) := fun d => d.cell hc0
          have hle : ¬ e0 ≤ e1 := by omega
          have hle2 : decide (e0 ≤ e1) = false := decide_eq_false hle
          have hj1 : (0 : Int) < ((j + 1 : Nat) : Int) := by omega
          have hj2 : ((j + 1 : Nat) : Int) - 1 = (j : Int) := by omega
          have hj3 : (j : Int) < (NF : Int) := by omega
          clear hc0 hc1
          gi_wp2
          refine region_quietC hmix (by kernel_rfl) ?_
          repeat (gi_big_quiet_step (fail))
          refine wpQuietIn_want (fun _ _ _ _ => trivial) rfl ?_
          intro KQ hKQ
          gi_big_quiet_op
          gi_big_quiet_call (exact ⟨rfl, (I16 _).mono (by rintro e w'' ⟨rfl, c'⟩; exact ⟨rfl, After.more _ c'⟩)⟩)
          repeat (gi_big_quiet_step (fail))
          refine wpQuietIn_nil ?_
          rintro w' ⟨d, rfl⟩
          have cd := Chg.seq ci d.chg
          gi_wp2
          refine ⟨⟨j + 2, by omega, by go_num, cd⟩, by simp [intOf]; omega⟩
      · obtain rfl : i = NF := by omega
        have hlt' : ¬ (i : Int) < (i : Int) := by omega
        have r8 := P.no r7 ci
        have la8 := la.no ci
        have lf8 := lf.no ci
        have s48 := s47.no ci
        have s58 := s57.no ci
        obtain ⟨kA, hkA⟩ : ∃ kA, min en NA = kA := ⟨_, rfl⟩
        obtain ⟨kF, hkF⟩ : ∃ kF, min en i = kF := ⟨_, rfl⟩
        have hmA : min (en : Int) (NA : Int) = (kA : Int) := by omega
        have hmF : min (en : Int) (i : Int) = (kF : Int) := by omega
        obtain ⟨p8, q8, sl8, hcut8⟩ := la8.highI HNA.out kA (by omega)
        obtain ⟨p25, q25, sl25, hcut25⟩ := lf8.highI HNF.out kF (by omega)
        have hTA : A.take kA = A.take en := by rw [← hkA, ← HNA.out]; exact take_min_len _ _
        have hTF : F.take kF = F.take en := by rw [← hkF, ← HNF.out]; exact take_min_len _ _
        have hlA : (A.take en).length = kA := by rw [List.length_take, HNA.out, hkA]
        have hlF : (F.take en).length = kF := by rw [List.length_take, HNF.out, hkF]
        rw [hTA] at sl8
        rw [hTF] at sl25
        obtain ⟨dp, hdp⟩ : ∃ dp, depI L (xn : Int) = dp := ⟨_, rfl⟩
        have HFd2 := HFd.out
        rw [hdp] at HFd2
        have hle : (i : Int) ≤ (dp : Int) := by omega
        have hle2 : decide (i ≤ dp) = true := decide_eq_true HFd2
        have D33 : ∀ W, Chg No wr W → CallsIn Fence.wide 0 Tryd.prog 19 #[ptr B, iv (xn : Int)] W fun e w' => e = .returned (iv (dp : Nat)) ∧ Chg No W w' := fun W cW => by
          have := J.depth B (L, 60) S O (xn : Int) W (P.no r8 cW) hok h60 (by omega) (by omega)
          dsimp only at this
          rw [hdp] at this
          exact this
        have I2 : ∀ W, Chg No wr W → CallsIn Fence.wide 0 Tryd.prog 13 #[v4, iv (en : Int)] W fun e w' => ∃ v', e = .returned v' ∧ OwnI w' W.heap.size v' (A.take en) ∧ Chg No W w' := fun W cW => intsV_in v4 A _ en (by omega) W (s48.no cW) rfl
        have I12 : ∀ W, Chg No wr W → CallsIn Fence.wide 0 Tryd.prog 13 #[v4, iv 99] W fun e w' => ∃ v', e = .returned v' ∧ OwnI w' W.heap.size v' A ∧ Chg No W w' := fun W cW => intsV_in v4 A A 99 (by omega) W (s48.no cW) (List.take_of_length_le (by rw [HNA.out]; omega)).symm
        have I19 : ∀ W, Chg No wr W → CallsIn Fence.wide 0 Tryd.prog 13 #[v5, iv (en : Int)] W fun e w' => ∃ v', e = .returned v' ∧ OwnI w' W.heap.size v' (F.take en) ∧ Chg No W w' := fun W cW => intsV_in v5 F _ en (by omega) W (s58.no cW) rfl
        have hany := After.any wr
        clear hdp HFd hkA hkF la lf s47 s57 s48 s58 r7 lf8
        gi_wp2
        refine region_loudG (fun i => i == 2 || i == 7 || i == 8 || i == 9 || i == 12 || i == 14 || i == 19 || i == 24 || i == 25 || i == 26 || i == 33 || i == 37) (fun w' => ∃ d : After wr, w' = d.val) (KInv wr (wkOk kA kF NA dp (.slice p8 kA q8) (.slice p25 kF q25)) (wkVal A F en))
          (wkD kA kF NA dp (.slice p8 kA q8) (.slice p25 kF q25)) hmix (by kernel_rfl) (by kernel_rfl) (fun d u W hI => ⟨⟨W, hI.chg⟩, rfl⟩) (KInv.start (wkD_ok _ _ _ _ _ _)) (fun u hu => ?_)
        obtain ⟨_, _, hu⟩ := hu
        obtain ⟨q2, m2, e2⟩ : ∃ p k, u 2 = .slice p kA k := by simpa [wkOk] using hu.ok 2
        have e7 : u 7 = iv kA := by simpa [wkOk] using hu.ok 7
        have e8 : u 8 = .slice p8 kA q8 := by simpa [wkOk] using hu.ok 8
        have e9 : u 9 = .bool true := by simpa [wkOk] using hu.ok 9
        obtain ⟨q12, m12, e12⟩ : ∃ p k, u 12 = .slice p NA k := by simpa [wkOk] using hu.ok 12
        have e14 : u 14 = .bool true := by simpa [wkOk] using hu.ok 14
        obtain ⟨q19, m19, e19⟩ : ∃ p k, u 19 = .slice p kF k := by simpa [wkOk] using hu.ok 19
        have e24 : u 24 = iv kF := by simpa [wkOk] using hu.ok 24
        have e25 : u 25 = .slice p25 kF q25 := by simpa [wkOk] using hu.ok 25
        have e26 : u 26 = .bool true := by simpa [wkOk] using hu.ok 26
        have e33 : u 33 = iv dp := by simpa [wkOk] using hu.ok 33
        have e37 : u 37 = .bool true := by simpa [wkOk] using hu.ok 37
        clear hu
        simp only [hushE, Nat.reduceAdd, Nat.reduceBEq, Bool.or_self, Bool.or_true, Bool.or_false, if_true, if_false, Bool.false_eq_true]
        simp only [e2, e7, e8, e9, e12, e14, e19, e24, e25, e26, e33, e37]
        repeat (gi_big_quiet_step (fail))
        refine wpQuietIn_nil ⟨?_, ?_, ?_⟩
        · intro i oo ho hm
          simp only [Bool.or_eq_true, beq_iff_eq] at hm
          rcases hm with ((((((((((rfl | rfl) | rfl) | rfl) | rfl) | rfl) | rfl) | rfl) | rfl) | rfl) | rfl) | rfl
          all_goals (cases ho; rfl)
        · intro j oo d W hjo hm hd hwt hI
          simp only [Bool.or_eq_true, beq_iff_eq] at hm
          rcases hm with ((((((((((rfl | rfl) | rfl) | rfl) | rfl) | rfl) | rfl) | rfl) | rfl) | rfl) | rfl) | rfl
          · cases hjo
            refine LeadsV.call (f := 13) (args := #[v4, iv (en : Int)]) (by simp [go_sem]) ((I2 W hI.chg).mono ?_)
            rintro e w2 ⟨v', rfl, o', c'⟩
            refine ⟨v', rfl, hI.step wkVal.no 2 v' c' ?_ ?_⟩
            · obtain ⟨q', k', e'⟩ := row_slice o'
              rw [hlA] at e'
              simp [wkOk, e']
            · simpa [wkVal] using o'.sl
          · cases hjo
            refine LeadsV.value (v := iv kA) (w' := W) ?_ (hI.step wkVal.no 7 _ (Chg.refl _ _) (by simp [wkOk]) (by simp [wkVal]))
            simp [go_sem]
            exact hmA
          · cases hjo
            refine LeadsV.value (v := .slice p8 kA q8) (w' := W) ?_ (hI.step wkVal.no 8 _ (Chg.refl _ _) (by simp [wkOk]) (by simp [wkVal]))
            simp [go_sem, hcut8]
          · cases hjo
            have h2 := hwt 2 rfl (by kernel_rfl)
            have x2 : SlV W (u 2) ((A.take en).map iv) := by simpa [wkVal] using hI.val 2 h2
            rw [e2] at x2
            have S9 := sameI_in _ _ _ _ W x2 (sl8.no hI.chg)
            rw [decide_eq_true rfl] at S9
            refine LeadsV.call (f := 12) (args := #[.slice q2 kA m2, .slice p8 kA q8]) (by simp [go_sem]) (S9.mono ?_)
            rintro e w2 ⟨rfl, c'⟩
            exact ⟨_, rfl, hI.step wkVal.no 9 _ c' (by simp [wkOk]) (by simp [wkVal])⟩
          · cases hjo
            refine LeadsV.call (f := 13) (args := #[v4, iv 99]) (by simp [go_sem]) ((I12 W hI.chg).mono ?_)
            rintro e w2 ⟨v', rfl, o', c'⟩
            refine ⟨v', rfl, hI.step wkVal.no 12 v' c' ?_ ?_⟩
            · obtain ⟨q', k', e'⟩ := row_slice o'
              rw [HNA.out] at e'
              simp [wkOk, e']
            · simpa [wkVal] using o'.sl
          · cases hjo
            have h12 := hwt 12 rfl (by kernel_rfl)
            have x12 : SlV W (u 12) (A.map iv) := by simpa [wkVal] using hI.val 12 h12
            rw [e12] at x12
            have S14 := sameI_in _ _ _ _ W x12 (la8.no hI.chg)
            rw [decide_eq_true rfl] at S14
            refine LeadsV.call (f := 12) (args := #[.slice q12 NA m12, .slice (some ⟨ba, oa, none⟩) NA ka]) (by simp [go_sem]) (S14.mono ?_)
            rintro e w2 ⟨rfl, c'⟩
            exact ⟨_, rfl, hI.step wkVal.no 14 _ c' (by simp [wkOk]) (by simp [wkVal])⟩
          · cases hjo
            refine LeadsV.call (f := 13) (args := #[v5, iv (en : Int)]) (by simp [go_sem]) ((I19 W hI.chg).mono ?_)
            rintro e w2 ⟨v', rfl, o', c'⟩
            refine ⟨v', rfl, hI.step wkVal.no 19 v' c' ?_ ?_⟩
            · obtain ⟨q', k', e'⟩ := row_slice o'
              rw [hlF] at e'
              simp [wkOk, e']
            · simpa [wkVal] using o'.sl
          · cases hjo
            refine LeadsV.value (v := iv kF) (w' := W) ?_ (hI.step wkVal.no 24 _ (Chg.refl _ _) (by simp [wkOk]) (by simp [wkVal]))
            simp [go_sem]
            exact hmF
          · cases hjo
            refine LeadsV.value (v := .slice p25 kF q25) (w' := W) ?_ (hI.step wkVal.no 25 _ (Chg.refl _ _) (by simp [wkOk]) (by simp [wkVal]))
            simp [go_sem, hcut25]
          · cases hjo
            have h19 := hwt 19 rfl (by kernel_rfl)
            have x19 : SlV W (u 19) ((F.take en).map iv) := by simpa [wkVal] using hI.val 19 h19
            rw [e19] at x19
            have S26 := sameI_in _ _ _ _ W x19 (sl25.no hI.chg)
            rw [decide_eq_true rfl] at S26
            refine LeadsV.call (f := 12) (args := #[.slice q19 kF m19, .slice p25 kF q25]) (by simp [go_sem]) (S26.mono ?_)
            rintro e w2 ⟨rfl, c'⟩
            exact ⟨_, rfl, hI.step wkVal.no 26 _ c' (by simp [wkOk]) (by simp [wkVal])⟩
          · cases hjo
            refine LeadsV.call (f := 19) (args := #[ptr B, iv (xn : Int)]) (by simp [go_sem]) ((D33 W hI.chg).mono ?_)
            rintro e w2 ⟨rfl, c'⟩
            exact ⟨_, rfl, hI.step wkVal.no 33 _ c' (by simp [wkOk]) (by simp [wkVal])⟩
          · cases hjo
            refine LeadsV.call (f := 8) (args := #[]) (by simp [go_sem]) ((awakeD_in P J W).mono ?_)
            rintro e w2 ⟨rfl, c'⟩
            exact ⟨_, rfl, hI.step wkVal.no 37 _ c' (by simp [wkOk]) (by simp [wkVal])⟩
        · intro d W hall hI
          have cW := Chg.seq k7 (Chg.seq ci hI.chg)
          clear hI hall
          gi_wp2
          go_ret
          exact ⟨rfl, cW⟩

end Go.Proofs.YtbhhkfmjbgakbaaDoor
