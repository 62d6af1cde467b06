/-
  DagOrder, walked.
-/
import Derived.Test.YtbhhkfmjbgakbaaDoorQTells
namespace Go.DagLib
open Go.RepoLib
theorem has_nat {L : List Cm} {b : Nat} (h1 : 1 ≤ b) (h2 : b ≤ L.length) : hasN L.length (b : Int) = true := by
  unfold hasN
  rw [Bool.and_eq_true, decide_eq_true_eq, decide_eq_true_eq]
  omega
theorem in_ahead {L : List Cm} (hl : Low (parL L)) {a b : Nat} (h1 : 1 ≤ b) (h2 : b ≤ L.length) : ((a : Int) ∈ aheadI L (b : Int)) ↔ 1 ≤ a ∧ isA (parL L) a b = true := by
  unfold aheadI
  rw [has_nat h1 h2, if_pos rfl, show ((b : Int)).toNat = b from Int.toNat_natCast b, ← ahead_mem hl, List.mem_map]
  constructor
  · rintro ⟨x, hx, e⟩
    have : x = a := by omega
    rw [← this]
    exact hx
  · intro h
    exact ⟨a, h, rfl⟩
theorem dep_nat {L : List Cm} {b : Nat} (h1 : 1 ≤ b) (h2 : b ≤ L.length) : depI L (b : Int) = depA (parL L) b := by
  unfold depI
  rw [has_nat h1 h2, if_pos rfl, Int.toNat_natCast]
theorem ord_self {L : List Cm} (hl : Low (parL L)) {a : Nat} (h1 : 1 ≤ a) (h2 : a ≤ L.length) : decide ((a : Int) ∈ aheadI L (a : Int)) = true :=
  decide_eq_true ((in_ahead hl h1 h2).2 ⟨h1, isA_self hl a⟩)
theorem ord_trans {L : List Cm} (hl : Low (parL L)) {a b c : Nat} (hb : 1 ≤ b) (hb2 : b ≤ L.length) (hc : 1 ≤ c) (hc2 : c ≤ L.length) (h1 : (a : Int) ∈ aheadI L (b : Int)) (h2 : (b : Int) ∈ aheadI L (c : Int)) : (a : Int) ∈ aheadI L (c : Int) := by
  rw [in_ahead hl hb hb2] at h1
  rw [in_ahead hl hc hc2] at h2 ⊢
  exact ⟨h1.1, isA_trans hl h1.2 h2.2⟩
theorem ord_strict {L : List Cm} (hl : Low (parL L)) {a b : Nat} (ha : 1 ≤ a) (ha2 : a ≤ L.length) (hb : 1 ≤ b) (hb2 : b ≤ L.length) (h : (a : Int) ∈ aheadI L (b : Int)) (hne : ¬ a = b) :
    decide ((b : Int) ∈ aheadI L (a : Int)) = false ∧ depI L (a : Int) < depI L (b : Int) ∧ a < b := by
  rw [in_ahead hl hb hb2] at h
  refine ⟨decide_eq_false (fun e => ?_), ?_, ?_⟩
  · rw [in_ahead hl ha ha2] at e
    have := isA_anti hl h.2 hne
    rw [e.2] at this
    cases this
  · rw [dep_nat ha ha2, dep_nat hb hb2]
    exact depA_is hl h.2 hne
  · have := isA_le hl h.2
    omega
theorem aheadI_falls (L : List Cm) (n : Int) : (aheadI L n).Pairwise (fun x y => y < x) := by
  unfold aheadI
  split
  · rw [List.pairwise_map]
    exact (ahead_falls (par := parL L) n.toNat).imp (fun h => by omega)
  · exact List.Pairwise.nil
theorem aheadI_range {L : List Cm} {n x : Int} (h : x ∈ aheadI L n) : 1 ≤ x ∧ x ≤ (L.length : Int) := by
  unfold aheadI at h
  split at h
  · rename_i hh
    obtain ⟨k, hk, rfl⟩ := List.mem_map.1 h
    have hk2 := (List.mem_filter.1 hk).1
    rw [down_mem] at hk2
    unfold hasN at hh
    rw [Bool.and_eq_true, decide_eq_true_eq, decide_eq_true_eq] at hh
    omega
  · cases h
theorem falls_next {l : List Int} (h : l.Pairwise (fun x y => y < x)) {i : Nat} {x y : Int} (hx : l[i]? = some x) (hy : l[i + 1]? = some y) : y < x := by
  obtain ⟨h1, rfl⟩ := List.getElem?_eq_some_iff.1 hx
  obtain ⟨h2, rfl⟩ := List.getElem?_eq_some_iff.1 hy
  exact List.pairwise_iff_getElem.1 h i (i + 1) h1 h2 (by omega)
end Go.DagLib
namespace Go.Proofs.YtbhhkfmjbgakbaaDoor
open Go.RowKit Go.Shelf Go.SeqLib Go.DiffLib Go.TreeLib Go.RepoLib Go.DagLib Go.BigFrame
attribute [local go_sem] Oper.semAt_some

set_option maxRecDepth 100000 in
set_option maxHeartbeats 2000000 in
theorem dorder_law {Rep : Nat → Rp → Blk → Blk → World → Prop} (P : PutSpec Rep) (J : DagSpec Rep) (p : Option Addr) (len cap : Nat) (zs : List Int) (a b c : Int) (w : World) (hv : SlV w (.slice p len cap) (zs.map iv)) (hlen : zs.length = len) : CallsIn Fence.wide 0 Tryd.prog 4 #[.slice p len cap, iv a, iv b, iv c] w fun e w' => e = .returned (.bool true) ∧ Chg No w w' := by
  have hmix : Tryd.prog.follows .mixedOrders = true := by kernel_rfl
  have hnil : ∀ (B : Nat) (w : World), (binOp .eql 24 (ptr B) (.pointer none)).run Tryd.prog w = .ok (.bool false) w := fun B w => by simp [go_sem]
  have hml : len ≤ 9223372036854775807 := by obtain ⟨_, _, e, hl, hm, _⟩ := hv; cases e; rw [List.length_map] at hl; unfold maxLen at hm; omega
  refine callsIn_of_wp Tryd.func4 rfl trivial ?_
  simp only [Tryd.ntmps4, List.size_toArray, List.length_cons, List.length_nil, Nat.reduceAdd, Nat.reduceSub, Array.replicate_succ, Array.replicate_zero, List.push_toArray, List.append_toArray, List.nil_append, List.cons_append]
  by_cases hbig : 30 < len
  · have hbig' : (30 : Int) < (len : Int) := by omega
    gi_wp2_with fail
    refine ⟨trivial, rfl, (awakeD_in P J _).mono ?_⟩
    rintro e w1 ⟨rfl, c1⟩
    gi_wp2
    go_ret
    exact ⟨rfl, c1⟩
  by_cases hzero : len = 0
  · subst hzero
    gi_wp2_with fail
    refine ⟨trivial, rfl, (awakeD_in P J _).mono ?_⟩
    rintro e w1 ⟨rfl, c1⟩
    gi_wp2
    go_ret
    exact ⟨rfl, c1⟩
  · have hbig' : ¬ (30 : Int) < (len : Int) := by omega
    have hz1 : ((len : Int) == 0) = false := by rw [beq_eq_false_iff_ne]; omega
    have hz2 : ¬ (len : Int) = 0 := by omega
    have M1 := made_in P p len cap zs hlen (by omega) w hv
    obtain ⟨L, hL⟩ : ∃ L, mkL 0 (zs.map uN) = L := ⟨_, rfl⟩
    have hok : ParOk L := hL ▸ made_ok _
    have hLl : L.length = len := by rw [← hL, mkL_length, List.length_map, hlen]
    rw [hL] at M1
    have hL30 : L.length ≤ 30 := by omega
    have L1 := fun W => low_in a (len : Int) (by omega) (by omega) W
    have L2 := fun W => low_in b (len : Int) (by omega) (by omega) W
    have L3 := fun W => low_in c (len : Int) (by omega) (by omega) W
    obtain ⟨al, ah⟩ := lowI_range a (len : Int) (by omega) (by omega)
    obtain ⟨bl, bh⟩ := lowI_range b (len : Int) (by omega) (by omega)
    obtain ⟨cl, ch⟩ := lowI_range c (len : Int) (by omega) (by omega)
    generalize lowI a (len : Int) = a1 at *
    generalize lowI b (len : Int) = b1 at *
    generalize lowI c (len : Int) = c1 at *
    obtain ⟨xa, hxa⟩ : ∃ xa : Nat, 1 + a1 = (xa : Int) := ⟨(1 + a1).toNat, by omega⟩
    obtain ⟨xb, hxb⟩ : ∃ xb : Nat, 1 + b1 = (xb : Int) := ⟨(1 + b1).toNat, by omega⟩
    obtain ⟨xc, hxc⟩ : ∃ xc : Nat, 1 + c1 = (xc : Int) := ⟨(1 + c1).toNat, by omega⟩
    have ra : 1 ≤ xa ∧ xa ≤ L.length := by omega
    have rb : 1 ≤ xb ∧ xb ≤ L.length := by omega
    have rc : 1 ≤ xc ∧ xc ≤ L.length := by omega
    have h60 : L.length ≤ 60 := by omega
    have hlow := hok.low
    clear hL hzero
    gi_wp2_with fail
    refine ⟨trivial, rfl, M1.mono ?_⟩
    rintro e w1 ⟨B, Bw, S, O, lv, rows, rfl, r1, _, hS, k1⟩
    clear M1
    gi_wp2_with fail
    refine ⟨trivial, rfl, (L1 w1).mono ?_⟩
    rintro e w2 ⟨rfl, hw⟩
    subst hw
    gi_wp2_with fail
    refine ⟨trivial, rfl, (L2 w2).mono ?_⟩
    rintro e w3 ⟨rfl, hw⟩
    subst hw
    gi_wp2_with fail
    refine ⟨trivial, rfl, (L3 w3).mono ?_⟩
    rintro e w4 ⟨rfl, hw⟩
    subst hw
    obtain ⟨x, hx⟩ : ∃ x, decide ((xa : Int) ∈ aheadI L (xb : Int)) = x := ⟨_, rfl⟩
    obtain ⟨y, hy⟩ : ∃ y, decide ((xb : Int) ∈ aheadI L (xc : Int)) = y := ⟨_, rfl⟩
    obtain ⟨z, hz⟩ : ∃ z, decide ((xa : Int) ∈ aheadI L (xc : Int)) = z := ⟨_, rfl⟩
    have HX : Hid (decide ((xa : Int) ∈ aheadI L (xb : Int)) = x) := hx
    have HXYZ : Hid (x = true → y = true → z = true) := fun e1 e2 => by
      subst e1; subst e2
      rw [← hz]
      exact decide_eq_true (ord_trans hlow rb.1 rb.2 rc.1 rc.2 (of_decide_eq_true hx) (of_decide_eq_true hy))
    have HST : Hid (x = true → ¬ xa = xb → decide ((xb : Int) ∈ aheadI L (xa : Int)) = false ∧ depI L (xa : Int) < depI L (xb : Int) ∧ xa < xb) := fun e hne => by
      subst e
      exact ord_strict hlow ra.1 ra.2 rb.1 rb.2 (of_decide_eq_true hx) hne
    have I1 := J.is B _ S O (xa : Int) (xb : Int) w4 r1 hok h60 (by omega) (by omega) (by omega) (by omega)
    dsimp only at I1
    rw [hx] at I1
    clear L1 L2 L3 hx
    gi_wp2_with fail
    refine ⟨trivial, rfl, I1.mono ?_⟩
    rintro e w5 ⟨rfl, c5⟩
    have k5 := Chg.seq k1 c5
    have r5 := P.no r1 c5
    have I2 := J.is B _ S O (xb : Int) (xc : Int) w5 r5 hok h60 (by omega) (by omega) (by omega) (by omega)
    dsimp only at I2
    rw [hy] at I2
    clear I1 r1 k1 c5 hxa hxb hxc hy
    gi_wp2_with fail
    refine ⟨trivial, rfl, I2.mono ?_⟩
    rintro e w6 ⟨rfl, c6⟩
    have k6 := Chg.seq k5 c6
    have r6 := P.no r5 c6
    have I3 := J.is B _ S O (xa : Int) (xc : Int) w6 r6 hok h60 (by omega) (by omega) (by omega) (by omega)
    dsimp only at I3
    rw [hz] at I3
    clear I2 r5 k5 c6 hz
    gi_wp2_with fail
    refine ⟨trivial, rfl, I3.mono ?_⟩
    rintro e w7 ⟨rfl, c7⟩
    have k7 := Chg.seq k6 c7
    have r7 := P.no r6 c7
    have I4 := J.is B _ S O (xa : Int) (xa : Int) w7 r7 hok h60 (by omega) (by omega) (by omega) (by omega)
    dsimp only at I4
    rw [ord_self hlow ra.1 ra.2] at I4
    clear I3 r6 k6 c7
    gi_upto_region 8 with (fail)
    gi_cut [102] from 200 (fun v w' => v = .bool false ∧ Chg No w7 w')
    case first =>
      rename_i JJ KK hJJ hKK
      gi_wp2_with fail
      refine ⟨trivial, rfl, I4.mono ?_⟩
      rintro e w8 ⟨rfl, c8⟩
      have k8 := Chg.seq k7 c8
      have r8 := P.no r7 c8
      cases x with
      | false =>
        gi_wp2_with fail
        refine ⟨trivial, ?_⟩
        rename_i hKK
        apply hKK
        gi_wp2_with fail
        · rename_i h1 _; exact absurd h1 (by simp [undef])
        · rename_i h1 _; exact absurd h1 (by simp [undef])
        refine ⟨trivial, ?_⟩
        rename_i hKK _ _
        apply hKK
        gi_wp2_with fail
        refine ⟨trivial, ?_⟩
        rename_i hKK
        apply hKK
        gi_wp2_with fail
        gi_meet
        exact ⟨rfl, c8⟩
      | true =>
        obtain ⟨xyz, hxyz⟩ : ∃ q : Bool, q = (y && !z) := ⟨_, rfl⟩
        have hyz : y = false ∨ (y = true ∧ z = true) := by
          cases y with
          | false => exact .inl rfl
          | true => exact .inr ⟨rfl, HXYZ.out rfl rfl⟩
        clear hxyz
        by_cases hab : xa = xb
        · have hne : ((xa : Int) != (xb : Int)) = false := by rw [hab]; simp
          clear hab
          rcases hyz with rfl | ⟨rfl, rfl⟩
          · gi_wp2_with fail
            refine ⟨trivial, ?_⟩
            rename_i hKK
            apply hKK
            gi_wp2_with fail
            · rename_i h1 _; exact absurd h1 (by simp [undef])
            · rename_i h1 _; exact absurd h1 (by simp [undef])
            refine ⟨trivial, ?_⟩
            rename_i hKK _ _
            apply hKK
            gi_wp2_with fail
            refine ⟨trivial, ?_⟩
            rename_i hKK
            apply hKK
            gi_wp2_with fail
            gi_meet
            exact ⟨rfl, c8⟩
          · gi_wp2_with fail
            refine ⟨trivial, ?_⟩
            rename_i hKK
            apply hKK
            gi_wp2_with fail
            · rename_i h1 _; exact absurd h1 (by simp [undef])
            · rename_i h1 _; exact absurd h1 (by simp [undef])
            refine ⟨trivial, ?_⟩
            rename_i hKK _ _
            apply hKK
            gi_wp2_with fail
            refine ⟨trivial, ?_⟩
            rename_i hKK
            apply hKK
            gi_wp2_with fail
            gi_meet
            exact ⟨rfl, c8⟩
        · have hne : ((xa : Int) != (xb : Int)) = true := by rw [bne_iff_ne]; omega
          obtain ⟨hba, hdd, hlt⟩ := HST.out rfl hab
          have I8 := J.is B _ S O (xb : Int) (xa : Int) w8 r8 hok h60 (by omega) (by omega) (by omega) (by omega)
          dsimp only at I8
          rw [hba] at I8
          have D1 := fun W hW => J.depth B (L, 60) S O (xa : Int) W hW hok h60 (by omega) (by omega)
          have D2 := fun W hW => J.depth B (L, 60) S O (xb : Int) W hW hok h60 (by omega) (by omega)
          dsimp only at D1 D2
          generalize depI L (xa : Int) = da at D1 hdd
          generalize depI L (xb : Int) = db at D2 hdd
          have hdi : ¬ (db : Int) ≤ (da : Int) := by omega
          have hdn : decide (db ≤ da) = false := decide_eq_false (by omega)
          have hxi : ¬ (xb : Int) ≤ (xa : Int) := by omega
          have hxn : decide (xb ≤ xa) = false := decide_eq_false (by omega)
          rcases hyz with rfl | ⟨rfl, rfl⟩
          all_goals
            gi_wp2_with fail
            refine ⟨trivial, rfl, I8.mono ?_⟩
            rintro e w9 ⟨rfl, c9⟩
            have r9 := P.no r8 c9
            gi_wp2_with fail
            refine ⟨trivial, rfl, (D1 _ r9).mono ?_⟩
            rintro e w10 ⟨rfl, c10⟩
            have r10 := P.no r9 c10
            gi_wp2_with fail
            refine ⟨trivial, rfl, (D2 _ r10).mono ?_⟩
            rintro e w11 ⟨rfl, c11⟩
            gi_wp2
            gi_meet
            exact ⟨rfl, Chg.seq c8 (Chg.seq c9 (Chg.seq c10 c11))⟩
    case rest =>
    obtain ⟨rfl, c8⟩ := hcut
    have k8 := Chg.seq k7 c8
    have r8 := P.no r7 c8
    generalize wc = w8 at *
    have A8 := J.ahead B _ S O (xb : Int) w8 r8 hok h60 (by omega) (by omega)
    dsimp only at A8
    obtain ⟨al2, hal⟩ : ∃ al2, aheadI L (xb : Int) = al2 := ⟨_, rfl⟩
    have HAL : Hid (aheadI L (xb : Int) = al2) := hal
    have hall : al2.length ≤ 30 := by rw [← hal]; exact Nat.le_trans (aheadI_len _) hL30
    have HFall : Hid (al2.Pairwise (fun x y => y < x)) := hal ▸ aheadI_falls L _
    rw [hal] at A8
    clear I4 r7 k7 c8 HXYZ HST hal
    gi_wp2_with fail
    refine ⟨trivial, rfl, A8.mono ?_⟩
    rintro e w9 ⟨v9, rfl, s9, c9⟩
    have k9 := Chg.seq k8 c9
    have r9 := P.no r8 c9
    gi_wp2_with fail
    refine ⟨trivial, rfl, (intsV_in v9 _ al2 99 (by omega) w9 s9 (List.take_of_length_le (by omega)).symm).mono ?_⟩
    rintro e w10 ⟨v10, rfl, o10, c10⟩
    have k10 := Chg.seq k9 c10
    have r10 := P.no r9 c10
    have sl10 := o10.sl
    obtain ⟨pq, kq, rfl⟩ := row_slice o10
    obtain ⟨N, hN⟩ : ∃ N, al2.length = N := ⟨_, rfl⟩
    have HN : Hid (al2.length = N) := hN
    rw [hN] at sl10 hall ⊢
    clear A8 s9 o10 k8 r8 k9 r9 c9 c10 hN
    gi_wp2
    gi_loopw [15, 16] (fun s15 s16 wr => ∃ i : Nat, i ≤ N ∧ s15 = .bool (decide ((xa : Int) ∈ al2.take i)) ∧ s16 = .int .i64 (i : Int) ∧ Chg No w10 wr) (fun _ s16 _ => N - (intOf s16).toNat)
    case atStart => exact ⟨0, Nat.zero_le _, by simp, rfl, Chg.refl _ _⟩
    case round =>
      obtain ⟨i, hi, rfl, rfl, ci⟩ := hrel
      by_cases hlt : i < N
      · have hlt' : (i : Int) < (N : Int) := by omega
        obtain ⟨e1, he1⟩ : ∃ e1, al2[i]? = some e1 := ⟨_, List.getElem?_eq_getElem (by rw [HN.out]; exact hlt)⟩
        have hmem : e1 ∈ al2 := List.mem_of_getElem? he1
        have hr1 : -2000 ≤ e1 ∧ e1 ≤ 2000 := by
          have := aheadI_range (HAL.out ▸ hmem)
          omega
        have I16 : ∀ d : After wr, CallsIn Fence.wide 0 Tryd.prog 17 #[ptr B, iv e1, iv (xb : Int)] d.val fun e w' => e = .returned (.bool true) ∧ Chg No d.val w' := fun d => by
          have := J.is B (L, 60) S O e1 (xb : Int) d.val (P.no (P.no r10 ci) d.chg) hok h60 hr1.1 hr1.2 (by omega) (by omega)
          dsimp only at this
          rw [HAL.out, decide_eq_true hmem] at this
          exact this
        have sli := sl10.no ci
        obtain ⟨bq, oq, rfl, hc1⟩ := sli.get1 (i := i) (x := iv e1) (by rw [List.getElem?_map, he1]; rfl)
        obtain ⟨in0, hin0⟩ : ∃ in0, decide ((xa : Int) ∈ al2.take i) = in0 := ⟨_, rfl⟩
        obtain ⟨in1, hin1⟩ : ∃ in1, decide ((xa : Int) ∈ al2.take (i + 1)) = in1 := ⟨_, rfl⟩
        have HIN : Hid (in1 = (in0 || decide (e1 = (xa : Int)))) := by
          show _ = _
          rw [← hin1, ← hin0, List.take_add_one, he1, Bool.eq_iff_iff, Bool.or_eq_true, decide_eq_true_iff, decide_eq_true_iff, decide_eq_true_iff, List.mem_append]
          constructor
          · rintro (h | h)
            · exact .inl h
            · exact .inr (by have h' : (xa : Int) = e1 := by simpa using h
                             exact h'.symm)
          · rintro (h | h)
            · exact .inl h
            · exact .inr (by simp [h])
        have HIN1 : Hid (decide ((xa : Int) ∈ al2.take (i + 1)) = in1) := hin1
        rw [hin0]
        clear hin0 hin1
        gi_upto_region 15 with (fail)
        gi_cut [15] from 200 (fun v w' => v = .bool in1 ∧ w' = wr)
        case first =>
          rename_i JJ KK hJJ hKK
          cases in0 with
          | true =>
            obtain rfl : in1 = true := by rw [HIN.out]; rfl
            gi_wp2
            gi_meet
            exact ⟨rfl, rfl⟩
          | false =>
            by_cases hex : e1 = (xa : Int)
            · have heq : (e1 == (xa : Int)) = true := by rw [hex]; simp
              obtain rfl : in1 = true := by rw [HIN.out, decide_eq_true hex]; rfl
              clear hex
              gi_wp2
              gi_meet
              exact ⟨rfl, rfl⟩
            · have heq : (e1 == (xa : Int)) = false := by rw [beq_eq_false_iff_ne]; exact hex
              obtain rfl : in1 = false := by rw [HIN.out, decide_eq_false hex]; rfl
              clear hex
              gi_wp2
              gi_meet
              exact ⟨rfl, rfl⟩
        case rest =>
        obtain ⟨rfl, hw⟩ := hcut
        subst hw
        have hany := After.any wc
        have f1 : ∀ d : After wc, d.val.cell? ⟨bq, oq + i, none⟩ = some (.int .i64 e1) := fun d => d.cell hc1
        cases i with
        | zero =>
          have f0 : ∀ d : After wc, d.val.cell? ⟨bq, oq, none⟩ = some (.int .i64 e1) := f1
          clear f1 hc1
          gi_wp2
          refine region_quietC hmix (by kernel_rfl) ?_
          repeat (gi_big_quiet_step (fail))
          refine wpQuietIn_want (fun _ _ _ _ => trivial) rfl ?_
          intro KQ hKQ
          gi_big_quiet_op
          gi_big_quiet_call (exact ⟨rfl, (I16 _).mono (by rintro e w'' ⟨rfl, c'⟩; exact ⟨rfl, After.more _ c'⟩)⟩)
          repeat (gi_big_quiet_step (fail))
          refine wpQuietIn_nil ?_
          rintro w' ⟨d, rfl⟩
          have cd := Chg.seq ci d.chg
          gi_wp2
          refine ⟨⟨1, by omega, by rw [HIN1.out], by go_num, cd⟩, by simp [intOf]; omega⟩
        | succ j =>
          obtain ⟨e0, he0⟩ : ∃ e0, al2[j]? = some e0 := ⟨_, List.getElem?_eq_getElem (by rw [HN.out]; omega)⟩
          have hfall := falls_next HFall.out he0 he1
          obtain ⟨_, _, e', hc0⟩ := sli.get1 (i := j) (x := iv e0) (by rw [List.getElem?_map, he0]; rfl)
          cases e'
          have f0 : ∀ d : After wc, d.val.cell? ⟨bq, oq + j, none⟩ = some (.int .i64 e0) := fun d => d.cell hc0
          have hle : ¬ e0 ≤ e1 := by omega
          have hle2 : decide (e0 ≤ e1) = false := decide_eq_false hle
          have hj1 : (0 : Int) < ((j + 1 : Nat) : Int) := by omega
          have hj2 : ((j + 1 : Nat) : Int) - 1 = (j : Int) := by omega
          have hj3 : (j : Int) < (N : Int) := by omega
          clear hc0 hc1
          gi_wp2
          refine region_quietC hmix (by kernel_rfl) ?_
          repeat (gi_big_quiet_step (fail))
          refine wpQuietIn_want (fun _ _ _ _ => trivial) rfl ?_
          intro KQ hKQ
          gi_big_quiet_op
          gi_big_quiet_call (exact ⟨rfl, (I16 _).mono (by rintro e w'' ⟨rfl, c'⟩; exact ⟨rfl, After.more _ c'⟩)⟩)
          repeat (gi_big_quiet_step (fail))
          refine wpQuietIn_nil ?_
          rintro w' ⟨d, rfl⟩
          have cd := Chg.seq ci d.chg
          gi_wp2
          refine ⟨⟨j + 2, by omega, by rw [HIN1.out], by go_num, cd⟩, by simp [intOf]; omega⟩
      · obtain rfl : i = N := by omega
        have hlt' : ¬ (i : Int) < (i : Int) := by omega
        have hin : decide ((xa : Int) ∈ al2.take i) = x := by rw [List.take_of_length_le (by rw [HN.out]; exact Nat.le_refl _), ← HAL.out]; exact HX.out
        have hbb : (x == x) = true := by simp
        rw [hin]
        clear hin
        gi_wp2_with fail
        refine ⟨trivial, rfl, (awakeD_in P J _).mono ?_⟩
        rintro e w20 ⟨rfl, c20⟩
        gi_wp2
        go_ret
        exact ⟨rfl, Chg.seq k10 (Chg.seq ci c20)⟩

end Go.Proofs.YtbhhkfmjbgakbaaDoor
