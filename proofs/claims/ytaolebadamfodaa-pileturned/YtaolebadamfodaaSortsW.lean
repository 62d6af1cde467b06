/-
  The walk of cortegelaw2.PileSorts.
-/
import Derived.Test.YtaolebadamfodaaLeftW
namespace Go.Proofs.Ytaolebadamfodaa
open Go.RowKit Go.Shelf Go.SeqLib Go.PileLib Go.BigFrame
attribute [local go_sem] Oper.semAt_some

theorem putAll_append (lt : Int → Int → Bool) (xs ys : List Int) : ∀ (L : List (Int × Int)) (n : Int), putAll lt L n (xs ++ ys) = putAll lt (putAll lt L n xs) (n + xs.length) ys := by
  induction xs with
  | nil => intro L n; simp [putAll]
  | cons x xs ih =>
    intro L n
    simp only [List.cons_append, putAll, ih, List.length_cons]
    congr 1
    omega

theorem putAll_lt (lt : Int → Int → Bool) (xs : List Int) : ∀ (L : List (Int × Int)) (n : Int), (∀ y ∈ L, y.2 < n) → ∀ y ∈ putAll lt L n xs, y.2 < n + xs.length := by
  induction xs with
  | nil => intro L n h; simpa [putAll] using h
  | cons x xs ih =>
    intro L n h y hy
    have := ih _ _ (fun z hz => by
      have h1 := (ins_perm (r := bef lt) L (x, n)).mem_iff.1 hz
      rcases List.mem_append.1 h1 with h2 | h2
      · have := h z h2; omega
      · simp at h2; subst h2; show n < n + 1; omega) y hy
    simp only [List.length_cons]
    omega

theorem SlI.one (w : World) (a : Int) : SlI (w.alloc (.cells #[.int .i64 a] 3)) (.slice (some ⟨w.heap.size, 0, none⟩) 1 1) [a] := by
  refine ⟨_, 1, rfl, by simp, by simp [maxLen], fun i x hi => ⟨w.heap.size, 0, rfl, ?_⟩⟩
  match i, hi with
  | 0, hi => simp at hi; subst hi; simp

/-- One number is put. -/
theorem put_one {lf : Nat} {key : Int → Int} (hl : Less lf (ltK key)) (w : World) (B : Nat) (S : Blk) (L : List (Int × Int)) (n : Nat) (hn : n ≤ 100000) (hlt : ∀ y ∈ L, y.2 < (n : Int)) (hL : L.length < 100000) (hP : Pile B lf (ltK key) L n S w) (x : Int) :
    CallsIn Fence.wide 0 Try.prog 22 #[.pointer (some ⟨B, 0, none⟩), .slice (some ⟨w.heap.size, 0, none⟩) 1 1] (w.alloc (.cells #[.int .i64 x] 3)) fun e w' => e = .returned (.tuple #[]) ∧ ∃ S', Pile B lf (ltK key) (putAll (ltK key) L n [x]) (n + 1 : Nat) S' w' ∧ Chg S w w' ∧ Grew S w S' := by
  have c : Chg No w (w.alloc (.cells #[.int .i64 x] 3)) := (Chg.refl _ w).alloc _
  have hlt' := (Pile.part _ _ _ _ _).lt hP
  refine (put_in hl B L n (by omega) (by omega) hlt S (some ⟨w.heap.size, 0, none⟩) 1 [x] (by simp; omega) (by simp) _ ((Pile.part _ _ _ _ _).chg hP c (fun _ _ h => h)) (SlI.one w x) (fun k hk hS => ?_)).mono ?_
  · have h1 := hk.2
    simp [Value.ownBlock] at h1
    have := hlt' k hS
    omega
  · rintro e w' ⟨rfl, S', hP', c', g'⟩
    refine ⟨rfl, S', by simpa using hP', (c.mono (fun _ h => h.elim)).trans c' (Grew.refl _ _), fun k hk => ?_⟩
    rcases g' k hk with h | h
    · exact .inl h
    · exact .inr (by simp at h; omega)

theorem pile_sorted {d L : List (Int × Int)} {key : Int → Int} (hg : PileLib.Good (bef (ltK key)) d L) : (L.map Prod.fst).Pairwise (fun a b => key a ≤ key b) := by
  refine List.Pairwise.map _ (fun a b h => ?_) hg.sort
  rw [bef_iff] at h
  omega

set_option maxRecDepth 100000 in
set_option maxHeartbeats 1000000 in
theorem sorts_long (p : Option Addr) (n cap : Nat) (hn : 100 < n) (w : World) : CallsIn Fence.wide 0 Try.prog 4 #[.slice p n cap] w fun e w' => e = .returned (.bool true) ∧ Chg No w w' := by
  have hn' : (100 : Int) < (n : Int) := by omega
  refine callsIn_of_wp Try.func4 rfl trivial ?_
  simp only [Try.ntmps4, List.size_toArray, List.length_cons, List.length_nil, Nat.reduceAdd, Nat.reduceSub, Array.replicate_succ, Array.replicate_zero, List.push_toArray, List.append_toArray, List.nil_append, List.cons_append]
  gi_wp2_with fail
  refine ⟨trivial, rfl, (awake_in _).mono ?_⟩
  rintro e w1 ⟨rfl, c1⟩
  gi_wp2
  go_ret
  exact ⟨rfl, c1⟩

set_option maxRecDepth 100000 in
set_option maxHeartbeats 4000000 in
theorem sorts_in (p : Option Addr) (cap : Nat) (zs : List Int) (hn : zs.length ≤ 100) (w : World) (hz : SlI w (.slice p zs.length cap) zs) : CallsIn Fence.wide 0 Try.prog 4 #[.slice p zs.length cap] w fun e w' => e = .returned (.bool true) ∧ Chg No w w' := by
  have hmix : Try.prog.follows .mixedOrders = true := by kernel_rfl
  refine callsIn_of_wp Try.func4 rfl trivial ?_
  simp only [Try.ntmps4, List.size_toArray, List.length_cons, List.length_nil, Nat.reduceAdd, Nat.reduceSub, Array.replicate_succ, Array.replicate_zero, List.push_toArray, List.append_toArray, List.nil_append, List.cons_append]
  gi_wp2_with fail
  refine ⟨trivial, rfl, (new_seq 21 (ltK id) w).mono ?_⟩
  rintro e w1 ⟨rfl, p1, c1⟩
  have p1l := (Pile.part _ _ _ _ _).lt p1
  gi_wp2_with fail
  refine ⟨trivial, rfl, (new_seq 21 (ltK id) w1).mono ?_⟩
  rintro e w2 ⟨rfl, q2, c2⟩
  have p2 := (Pile.part _ _ _ _ _).chg p1 c2 (fun _ _ h => h)
  have q2l := (Pile.part _ _ _ _ _).lt q2
  have c02 := c1.trans c2 (Grew.refl _ _)
  obtain ⟨B2, hB2⟩ : ∃ B2, w1.heap.size = B2 := ⟨_, rfl⟩
  rw [hB2] at q2 q2l
  rw [hB2]
  have hB12 : w.heap.size < B2 := by have := p1l w.heap.size rfl; omega
  have hB2l : B2 < w2.heap.size := q2l B2 rfl
  clear hB2 p1 c1 c2 p1l q2l
  gi_wp2_with fail
  refine ⟨trivial, rfl, (put_new lower_less w w2 w.heap.size _ (fun k h => by omega) c02 [] 0 (by omega) (fun y h => by cases h) p2 p cap zs (by simp; omega) hz).mono ?_⟩
  rintro e w3 ⟨rfl, S3, p3, c3, c03, hS3, g3⟩
  obtain ⟨L, hL⟩ : ∃ L, putAll (ltK id) [] (0 : Nat) zs = L := ⟨_, rfl⟩
  have HL : Hid (putAll (ltK id) [] (0 : Nat) zs = L) := hL
  rw [hL] at p3
  have q3 := (Pile.part _ _ _ _ _).chg q2 c3 (fun k hk h => by omega)
  have HD : Hid (∀ k, k = B2 → ¬ S3 k) := fun k hk h => by
    rcases g3 k h with h1 | h1
    · omega
    · omega
  have HLl : Hid (L.length = zs.length) := by show _ = _; rw [← hL, putAll_length]; simp
  clear hL p2 q2 c02 c3 g3
  gi_wp2
  gi_loopw [5] (fun i wr => ∃ (k : Nat) (S : Blk), k ≤ zs.length ∧ i = .int .i64 (k : Int) ∧ Pile B2 21 (ltK id) (putAll (ltK id) [] (0 : Nat) (zs.take k)) (k : Nat) S wr ∧ Pile w.heap.size 21 (ltK id) L ((0 + zs.length : Nat) : Int) S3 wr ∧ Hid (∀ k, S k → ¬ S3 k) ∧ Hid (∀ k, S k → w.heap.size ≤ k) ∧ Chg No w wr)
    (fun i _ => zs.length - (intOf i).toNat)
  case atStart => exact ⟨0, _, Nat.zero_le _, rfl, q3, p3, HD.out, fun k h => by omega, c03⟩
  case round =>
    obtain ⟨k, S, hk, rfl, hq, hp, HSS, HSn, c⟩ := hrel
    by_cases hlt : k < zs.length
    · have hkZ : (k : Int) < (zs.length : Int) := by omega
      obtain ⟨p', cap', e9, hc1, hc2, hcells⟩ := hz.chg c (fun _ _ h => h)
      cases e9
      obtain ⟨b, off, rfl, hcell⟩ := hcells k zs[k] (by simp [hlt])
      obtain ⟨x, hx⟩ : ∃ x, zs[k] = x := ⟨_, rfl⟩
      rw [hx] at hcell
      have HT : Hid (zs.take (k + 1) = zs.take k ++ [x]) := by
        show _ = _
        rw [List.take_succ_eq_append_getElem hlt, hx]
      have HLen : Hid ((putAll (ltK id) [] (0 : Nat) (zs.take k)).length = k) := by
        show _ = _
        rw [putAll_length]; simp; omega
      have HLt : Hid (∀ y ∈ putAll (ltK id) [] (0 : Nat) (zs.take k), y.2 < (k : Int)) := by
        intro y hy
        have := putAll_lt (ltK id) (zs.take k) [] (0 : Nat) (fun y h => by cases h) y hy
        simp at this; omega
      clear hx hcells
      gi_wp2_with fail
      refine ⟨trivial, rfl, (put_one lower_less wr B2 S _ k (by omega) HLt.out (by rw [HLen.out]; omega) hq x).mono ?_⟩
      rintro e w4 ⟨rfl, S4, q4, c4, g4⟩
      have hp4 := (Pile.part _ _ _ _ _).chg hp c4 (fun j h1 h2 => HSS.out j h2 h1)
      have hpl := (Pile.part _ _ _ _ _).lt hp
      have HS4 : Hid (∀ k, S4 k → ¬ S3 k) := fun j h1 h2 => by
        rcases g4 j h1 with h | h
        · exact HSS.out j h h2
        · have := hpl j h2; omega
      have HN4 : Hid (∀ k, S4 k → w.heap.size ≤ k) := fun j h1 => by
        rcases g4 j h1 with h | h
        · exact HSn.out j h
        · exact Nat.le_trans c.size h
      have c04 : Chg No w w4 := c.trans c4 (fun k h => .inr (HSn.out k h))
      have q5 : Pile B2 21 (ltK id) (putAll (ltK id) [] (0 : Nat) (zs.take (k + 1))) (k + 1 : Nat) S4 w4 := by
        rw [HT.out, putAll_append]
        have : ((0 : Nat) : Int) + ((zs.take k).length : Int) = (k : Int) := by simp; omega
        rw [this]
        exact q4
      clear q4 hq hp hpl
      gi_wp2
      go_roundw
      case rel => exact ⟨k + 1, S4, hlt, by go_num, q5, hp4, HS4, HN4, c04⟩
      case measure => simp [intOf]; omega
    · obtain rfl : k = zs.length := by omega
      rw [List.take_length, HL.out] at hq
      have hLb : L.length ≤ 100000 := by rw [HLl.out]; omega
      obtain ⟨As, hA⟩ : ∃ As, Hid (As = L.map Prod.fst) := ⟨_, rfl⟩
      have HAl : Hid (As.length = zs.length) := by show _ = _; rw [hA.out, List.length_map, HLl.out]
      have hAb : As.length ≤ 100 := by rw [HAl.out]; omega
      have HTk : Hid (As = (L.map Prod.fst).take (200 : Int).toNat) := by
        show _ = _
        rw [← hA.out, List.take_of_length_le (by show _ ≤ 200; omega)]
      have HPm : Hid (As.Perm zs) := by
        show List.Perm _ _
        rw [hA.out, ← HL.out]
        simpa using putAll_perm (ltK id) zs [] (0 : Nat)
      have HSo : Hid (As.Pairwise (fun a b => a ≤ b)) := by
        show List.Pairwise _ _
        rw [hA.out]
        obtain ⟨v, d, _, _, _, hg⟩ := hp
        exact pile_sorted hg
      gi_wp2_with fail
      refine ⟨trivial, rfl, (all_seq lower_less (bef_ord id) w.heap.size L _ S3 hLb _ hp).mono ?_⟩
      rintro e w5 ⟨g5, l5, D5, rfl, s5, c5, _⟩
      gi_wp2_with fail
      refine ⟨trivial, rfl, (ints_seq 200 (by omega) _ s5 As HTk).mono ?_⟩
      rintro e w6 ⟨v6, rfl, r6, c6⟩
      have c46 := c5.trans c6 (Grew.refl _ _)
      have hpl := (Pile.part _ _ _ _ _).lt hp
      have hrl : ∀ k, v6.ownBlock = some k → ¬ S3 k := fun k e h => by
        have h1 := (r6.lt k e).1
        have h2 := hpl k h
        have := c5.size
        omega
      have p6 := (Pile.part _ _ _ _ _).chg hp c46 (fun _ _ h => h)
      have q6 := (Pile.part _ _ _ _ _).chg hq c46 (fun _ _ h => h)
      have a6 := SlI.ofRow r6
      obtain ⟨pv6, cv6, rfl⟩ := row_slice r6
      have c06 := c.trans c46 (Grew.refl _ _)
      have HRl : Hid (∀ k, slD (.slice pv6 As.length cv6) As k → ¬ S3 k) := fun k h => hrl k h.2
      clear hp hq s5 c5 c6 c46 r6 hrl hpl c
      gi_wp2_with fail
      refine ⟨trivial, rfl, (all_seq lower_less (bef_ord id) B2 L _ S hLb _ q6).mono ?_⟩
      rintro e w7 ⟨g7, l7, D7, rfl, s7, c7, _⟩
      gi_wp2_with fail
      refine ⟨trivial, rfl, (ints_seq 200 (by omega) _ s7 As HTk).mono ?_⟩
      rintro e w8 ⟨v8, rfl, r8, c8⟩
      have c68 := c7.trans c8 (Grew.refl _ _)
      have p8 := (Pile.part _ _ _ _ _).chg p6 c68 (fun _ _ h => h)
      have q8 := (Pile.part _ _ _ _ _).chg q6 c68 (fun _ _ h => h)
      have a8 := a6.chg c68 (fun _ _ h => h)
      have b8 := SlI.ofRow r8
      have c08 := c06.trans c68 (Grew.refl _ _)
      obtain ⟨pv8, cv8, rfl⟩ := row_slice r8
      clear p6 q6 s7 c7 c8 c68 r8 a6 c06
      gi_wp2_with fail
      refine ⟨trivial, rfl, (same_in _ _ As As _ a8 b8).mono ?_⟩
      rintro e w9 ⟨rfl, c9⟩
      simp only [decide_true]
      have p9 := (Pile.part _ _ _ _ _).chg p8 c9 (fun _ _ h => h)
      have q9 := (Pile.part _ _ _ _ _).chg q8 c9 (fun _ _ h => h)
      have a9 := a8.chg c9 (fun _ _ h => h)
      have c09 := c08.trans c9 (Grew.refl _ _)
      have he : ((As.length : Int) != (zs.length : Int)) = false := by rw [HAl.out]; simp
      clear p8 q8 a8 b8 c9 c08
      gi_wp2
      gi_loopw [8] (fun i wr => ∃ (k : Nat), k ≤ As.length ∧ i = .int .i64 (k : Int) ∧ Pile w.heap.size 21 (ltK id) (L.drop k) ((0 + zs.length : Nat) : Int) S3 wr ∧ Pile B2 21 (ltK id) L (zs.length : Nat) S wr ∧ SlI wr (.slice pv6 As.length cv6) As ∧ Chg No w wr) (fun i _ => As.length - (intOf i).toNat)
      case atStart => exact ⟨0, Nat.zero_le _, rfl, p9, q9, a9, c09⟩
      case round =>
        obtain ⟨k, hk, rfl, hpk, hqk, hak, ck⟩ := hrel
        obtain ⟨wo, hwo⟩ : ∃ wo, wo = wr := ⟨_, rfl⟩
        subst hwo
        by_cases hlt : k < As.length
        · have hkZ : (k : Int) < (As.length : Int) := by omega
          obtain ⟨x, hx⟩ : ∃ x, As[k] = x := ⟨_, rfl⟩
          have HX : Hid (As[k] = x) := hx
          clear hx
          gi_wp2
          gi_loopw [9, 10] (fun n i wj => ∃ (j : Nat), j ≤ zs.length ∧ i = .int .i64 (j : Int) ∧ n = .int .i64 ((List.count x (zs.take j) : Int) - (List.count x (As.take j) : Int)) ∧ Chg No wo wj) (fun _ i _ => zs.length - (intOf i).toNat)
          case atStart => exact ⟨0, Nat.zero_le _, rfl, rfl, Chg.refl _ _⟩
          case round =>
            obtain ⟨j, hj, rfl, rfl, cj⟩ := hrel
            have hzj := hz.chg (ck.trans cj (Grew.refl _ _)) (fun _ _ h => h)
            have haj := hak.chg cj (fun _ _ h => h)
            have cc1 : List.count x (zs.take j) ≤ 100 := Nat.le_trans List.count_le_length (by simp; omega)
            have cc2 : List.count x (As.take j) ≤ 100 := Nat.le_trans List.count_le_length (by simp; omega)
            by_cases hltj : j < zs.length
            · have hjZ : (j : Int) < (zs.length : Int) := by omega
              have hltA : j < As.length := by rw [HAl.out]; exact hltj
              have hjA : (j : Int) < (As.length : Int) := by omega
              obtain ⟨p', cap', e9, hc1, hc2, hcz⟩ := hzj
              cases e9
              obtain ⟨pa, capa, e8, ha1, ha2, hca⟩ := haj
              cases e8
              obtain ⟨b1, o1, rfl, u1⟩ := hcz j zs[j] (by simp [hltj])
              obtain ⟨b2, o2, e7, u2⟩ := hca j As[j] (by simp [hltA])
              obtain ⟨b3, o3, e6, u3⟩ := hca k As[k] (by simp [hlt])
              rw [e7] at e6
              cases e6
              subst e7
              rw [HX.out] at u3
              have HZ : Hid (List.count x (zs.take (j + 1)) = List.count x (zs.take j) + if zs[j] = x then 1 else 0) := by
                show _ = _
                rw [List.take_succ_eq_append_getElem hltj, List.count_append]
                simp [List.count_cons]
              have HA2 : Hid (List.count x (As.take (j + 1)) = List.count x (As.take j) + if As[j] = x then 1 else 0) := by
                show _ = _
                rw [List.take_succ_eq_append_getElem hltA, List.count_append]
                simp [List.count_cons]
              obtain ⟨y1, hy1⟩ : ∃ y, zs[j] = y := ⟨_, rfl⟩
              obtain ⟨y2, hy2⟩ : ∃ y, As[j] = y := ⟨_, rfl⟩
              rw [hy1] at u1 HZ
              rw [hy2] at u2 HA2
              obtain ⟨c1, hc1'⟩ : ∃ c, List.count x (zs.take j) = c := ⟨_, rfl⟩
              obtain ⟨c2, hc2'⟩ : ∃ c, List.count x (As.take j) = c := ⟨_, rfl⟩
              rw [hc1'] at cc1 HZ ⊢
              rw [hc2'] at cc2 HA2 ⊢
              clear hcz hca hc1' hc2' hy1 hy2
              by_cases e1 : y1 = x <;> by_cases e2 : y2 = x
              all_goals have b1' : (y1 == x) = _ := (by first | exact beq_iff_eq.2 e1 | exact beq_eq_false_iff_ne.2 e1)
              all_goals have b2' : (y2 == x) = _ := (by first | exact beq_iff_eq.2 e2 | exact beq_eq_false_iff_ne.2 e2)
              all_goals have HZ2 : Hid (List.count x (zs.take (j + 1)) = _) := (by first | exact HZ.out.trans (by rw [if_pos e1]) | exact HZ.out.trans (by rw [if_neg e1]))
              all_goals have HA3 : Hid (List.count x (As.take (j + 1)) = _) := (by first | exact HA2.out.trans (by rw [if_pos e2]) | exact HA2.out.trans (by rw [if_neg e2]))
              all_goals clear HZ HA2 e1 e2
              all_goals gi_wp2
              all_goals gi_big_quiet_th_o (fail)
              all_goals gi_wp2
              all_goals have u8 := (show (wr.drewN nq).cell? ⟨b2, o2 + j, none⟩ = some (.int .i64 y2) from u2)
              all_goals have u9 := (show (wr.drewN nq).cell? ⟨b2, o2 + k, none⟩ = some (.int .i64 x) from u3)
              all_goals have cj1 := drewNC cj nq
              all_goals generalize wr.drewN nq = w10 at u8 u9 cj1 ⊢
              all_goals gi_big_quiet_th_o (fail)
              all_goals gi_wp2
              all_goals refine ⟨⟨j + 1, hltj, by go_num, ?_, drewNC cj1 _⟩, by simp [intOf]; omega⟩
              all_goals rw [HZ2.out, HA3.out]
              all_goals congr 1
              all_goals omega
            · obtain rfl : j = zs.length := by omega
              have hcnt : (List.count x (zs.take zs.length) : Int) - (List.count x (As.take zs.length) : Int) = 0 := by
                rw [List.take_length, ← HAl.out, List.take_length, HPm.out.count_eq]; omega
              rw [hcnt]
              have hpj := (Pile.part _ _ _ _ _).chg hpk cj (fun _ _ h => h)
              have hqj := (Pile.part _ _ _ _ _).chg hqk cj (fun _ _ h => h)
              have hLk : k < L.length := by rw [HLl.out, ← HAl.out]; exact hlt
              obtain ⟨y, hy⟩ : ∃ y, L[k] = y := ⟨_, rfl⟩
              rw [List.drop_eq_getElem_cons hLk, hy] at hpj
              have HYX : Hid (y.1 = x) := by
                show _ = _
                rw [← HX.out, ← hy]
                simp [hA.out]
              have hLd : (L.drop (k + 1)).length ≤ 100000 := by simp; omega
              have c0j := ck.trans cj (Grew.refl _ _)
              clear hcnt cc1 cc2 hy hpk hqk hzj
              gi_wp2_with fail
              refine ⟨trivial, rfl, (pop_in lower_less (bef_ord id) w.heap.size y (L.drop (k + 1)) _ S3 hLd _ hpj).mono ?_⟩
              rintro e w11 ⟨rfl, hp11, c11⟩
              rw [HYX.out]
              have hq11 := (Pile.part _ _ _ _ _).chg hqj c11 (fun j h1 h2 => HSS.out j h1 h2)
              have ha11 := haj.chg c11 (fun j h => HRl.out j h)
              have c011 : Chg No w w11 := c0j.trans c11 (fun k h => .inr (hS3 k h))
              have ha11' := ha11
              obtain ⟨pa, capa, e8, ha1, ha2, hca⟩ := ha11'
              cases e8
              obtain ⟨b3, o3, e6, u3⟩ := hca k As[k] (by simp [hlt])
              subst e6
              rw [HX.out] at u3
              have hxx : (x != x) = false := by simp
              by_cases hk0 : k = 0
              · subst hk0
                clear hca hpj hqj haj
                simp only [Nat.add_zero] at u3
                gi_wp2
                gi_big_quiet_th_o (fail)
                gi_wp2
                have dn : Chg No w11 (w11.drewN nq) := drewNC (Chg.refl _ _) nq
                exact ⟨⟨1, hlt, rfl, (Pile.part _ _ _ _ _).chg hp11 dn (fun _ _ h => h), (Pile.part _ _ _ _ _).chg hq11 dn (fun _ _ h => h), ha11.chg dn (fun _ _ h => h), c011.trans dn (Grew.refl _ _)⟩, by simp [intOf]; omega⟩
              · have hk1 : k - 1 < As.length := by omega
                obtain ⟨b4, o4, e6, u4⟩ := hca (k - 1) As[k - 1] (by simp [hk1])
                cases e6
                have hle : As[k - 1] ≤ x := by
                  rw [← HX.out]
                  exact (List.pairwise_iff_getElem.1 HSo.out) (k - 1) k hk1 hlt (by omega)
                obtain ⟨z, hz9⟩ : ∃ z, As[k - 1] = z := ⟨_, rfl⟩
                rw [hz9] at u4 hle
                obtain ⟨m, rfl⟩ : ∃ m, k = m + 1 := ⟨k - 1, by omega⟩
                simp only [Nat.add_sub_cancel] at u4
                have hgt : (x < z) = False := eq_false (by omega)
                have hgt2 : decide (x < z) = false := by simp only [hgt, decide_false]
                have hm1 : (m : Int) < (As.length : Int) := by omega
                clear hca hpj hqj haj hz9 hk0
                gi_wp2
                gi_big_quiet_th_o (fail)
                gi_wp2
                have dn : Chg No w11 (w11.drewN nq) := drewNC (Chg.refl _ _) nq
                exact ⟨⟨m + 1 + 1, hlt, by go_num, (Pile.part _ _ _ _ _).chg hp11 dn (fun _ _ h => h), (Pile.part _ _ _ _ _).chg hq11 dn (fun _ _ h => h), ha11.chg dn (fun _ _ h => h), c011.trans dn (Grew.refl _ _)⟩, by simp [intOf]; omega⟩
        · obtain rfl : k = As.length := by omega
          have hd : L.drop As.length = [] := by rw [List.drop_eq_nil_iff, HLl.out, HAl.out]; exact Nat.le_refl _
          rw [hd] at hpk
          clear hd
          gi_wp2_with fail
          refine ⟨trivial, rfl, (len_seq w.heap.size [] _ S3 _ hpk).mono ?_⟩
          rintro e w12 ⟨rfl, rfl⟩
          gi_wp2_with fail
          refine ⟨trivial, rfl, (len_seq B2 L _ S _ hqk).mono ?_⟩
          rintro e w13 ⟨rfl, rfl⟩
          rw [HLl.out]
          have he9 : (zs.length == zs.length) = true := by simp
          gi_wp2_with fail
          refine ⟨trivial, rfl, (awake_in _).mono ?_⟩
          rintro e w14 ⟨rfl, c14⟩
          gi_wp2
          go_ret
          exact ⟨rfl, ck.trans c14 (Grew.refl _ _)⟩
end Go.Proofs.Ytaolebadamfodaa
