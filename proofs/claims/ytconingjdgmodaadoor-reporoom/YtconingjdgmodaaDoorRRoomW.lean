/-
  RepoRoom answers true at every two numbers, and turns nothing that lay.
-/
import Derived.Test.YtconingjdgmodaaDoorRNote
import Derived.Test.YtconingjdgmodaaDoorLow
namespace Go.RepoLib
theorem clip_of {x : Int} (h0 : 0 ≤ x) : ((clip x : Nat) : Int) = min x 120 := by unfold clip; omega
end Go.RepoLib
namespace Go.Proofs.YtconingjdgmodaaDoor
open Go.RowKit Go.Shelf Go.SeqLib Go.DiffLib Go.TreeLib Go.RepoLib Go.BigFrame
attribute [local go_sem] Oper.semAt_some

set_option maxRecDepth 100000 in
set_option maxHeartbeats 4000000 in
theorem rroom_law {Rep2 : Nat → Rp → Blk → Blk → World → Prop} (J2 : RepoSpec2 Rep2) (room more : Int) (w : World) : CallsIn Fence.wide 0 Tryd.prog 5 #[iv room, iv more] w fun e w' => e = .returned (.bool true) ∧ Chg No w w' := by
  obtain ⟨Rep, hRep⟩ : ∃ R, R = Rep1 Rep2 := ⟨_, rfl⟩
  have J : RepoSpec Rep := hRep ▸ J2.one
  have hnil : ∀ (B : Nat) (w : World), (binOp .eql 26 (ptr B) (.pointer none)).run Tryd.prog w = .ok (.bool false) w := fun B w => by
    simp [go_sem]
  have W1 := fun W => low_in room 125 (by omega) (by omega) W
  have W2 := fun W => low_in more 10 (by omega) (by omega) W
  obtain ⟨hr0, hr1⟩ := lowI_range room 125 (by omega) (by omega)
  obtain ⟨hm0, hm1⟩ := lowI_range more 10 (by omega) (by omega)
  generalize lowI room 125 = x at W1 hr0 hr1
  generalize lowI more 10 = y at W2 hm0 hm1
  obtain ⟨m, hm⟩ : ∃ m, clip x = m := ⟨_, rfl⟩
  have hmx : min x 120 = (m : Int) := by rw [← hm, clip_of hr0]
  have N1 := fun W => J.new x W (by omega) (by omega)
  rw [show newC x = ([], m) from by unfold newC; rw [hm]] at N1
  have hm120 : m ≤ 120 := by omega
  have hif : (if (120 : Int) < x then (120 : Int) else x) = (m : Int) := by split <;> omega
  clear hm
  have K9 := fun W => awakeR_in J W
  have NB : ∀ (q : Nat), q ≤ 500 → ∀ W, _ := fun q hq W => note_in q (by omega) W
  refine callsIn_of_wp Tryd.func5 rfl trivial ?_
  simp only [Tryd.ntmps5, List.size_toArray, List.length_cons, List.length_nil, Nat.reduceAdd, Nat.reduceSub, Array.replicate_succ, Array.replicate_zero, List.push_toArray, List.append_toArray, List.nil_append, List.cons_append]
  gi_wp2_with fail
  refine ⟨trivial, rfl, (W1 _).mono ?_⟩
  rintro e w1 ⟨rfl, rfl⟩
  gi_wp2_with fail
  refine ⟨trivial, rfl, (W2 _).mono ?_⟩
  rintro e w2 ⟨rfl, rfl⟩
  gi_wp2_with fail
  refine ⟨trivial, rfl, (N1 _).mono ?_⟩
  rintro e w3 ⟨B, S0, rfl, r0, s0, c0⟩
  clear W1 W2 N1
  gi_wp2
  gi_loopw [7] (fun s7 wr => ∃ (q : Nat) (S : Blk), 1 ≤ q ∧ q ≤ m + 1 ∧ s7 = .int .i64 (q : Int) ∧ Rep B (roomL (q - 1), m) S wr ∧ (∀ k, S k → w2.heap.size ≤ k) ∧ Chg No w2 wr) (fun s7 _ => m + 1 - (intOf s7).toNat)
  case atStart => exact ⟨1, S0, Nat.le_refl _, by omega, rfl, r0, s0, c0⟩
  case round =>
    obtain ⟨q, S, hq1, hq, rfl, r, s, c⟩ := hrel
    clear r0 s0 c0
    by_cases hlt : q ≤ m
    · have hlt' : (q : Int) ≤ (m : Int) := by omega
      have hs := (J.part B _).lt r
      have hnb := NB q (by omega)
      have A1 : ∀ W, Chg No wr W → CallsIn Fence.wide 0 Tryd.prog 12 #[ptr B, bareV (noteB q)] W fun e w' => ∃ S', e = .returned (.tuple #[.int .i64 (q : Int), .int .i64 0]) ∧ Rep B (roomL q, m) S' w' ∧ Chg S W w' ∧ Grew S W S' := fun W cW => by
        have := J.add B (roomL (q - 1), m) S No (bareV (noteB q)) (noteC q) W (rep_no J r cW) (CmD.bare _ _ _) (fun k h => h.elim) (bare_small _ (by show 3 ≤ 100; omega)) (by rw [roomL_length]; omega)
        have e := room_put (k := q - 1) (r := m) (by omega) (by omega)
        rw [Nat.sub_add_cancel hq1] at e
        rw [e] at this
        exact this
      generalize noteB q = nb at hnb A1
      gi_wp2_with fail
      refine ⟨trivial, rfl, (hnb _).mono ?_⟩
      rintro e w4 ⟨rfl, c4⟩
      gi_wp2_with fail
      refine ⟨trivial, rfl, (A1 _ c4).mono ?_⟩
      rintro e w5 ⟨S', rfl, r5, c5, g5⟩
      have c05 : Chg No w2 w5 := (Chg.seq c c4).trans c5 (fun k h => .inr (s k h))
      have s5 : ∀ k, S' k → w2.heap.size ≤ k := fun k h => by
        rcases g5 k h with h | h
        · exact s k h
        · exact Nat.le_trans (Chg.seq c c4).size h
      clear A1 hnb hs
      gi_wp2
      refine ⟨⟨q + 1, S', by omega, by omega, by go_num, by rw [Nat.add_sub_cancel]; exact r5, s5, c05⟩, by simp [intOf]; omega⟩
    · obtain rfl : q = m + 1 := by omega
      have hlt' : ¬ ((m + 1 : Nat) : Int) ≤ (m : Int) := by omega
      rw [Nat.add_sub_cancel] at r
      have A1 : CallsIn Fence.wide 0 Tryd.prog 12 #[ptr B, bareV newB] wr fun e w' => ∃ S', e = .returned (.tuple #[.int .i64 0, .int .i64 3]) ∧ Rep B (roomL m, m) S' w' ∧ Chg S wr w' ∧ Grew S wr S' := by
        have := J.add B (roomL m, m) S No (bareV newB) freshC wr r (CmD.bare _ _ _) (fun k h => h.elim) (bare_small _ (by show 3 ≤ 100; omega)) (by rw [roomL_length]; omega)
        rw [room_full (k := m) (r := m) (by omega) (Nat.le_refl _)] at this
        exact this
      clear NB hq hq1 hlt
      gi_wp2_with fail
      refine ⟨trivial, rfl, A1.mono ?_⟩
      rintro e w4 ⟨S4, rfl, r4, c4, g4⟩
      have c04 : Chg No w2 w4 := c.trans c4 (fun k h => .inr (s k h))
      have s4 : ∀ k, S4 k → w2.heap.size ≤ k := fun k h => by
        rcases g4 k h with h | h
        · exact s k h
        · exact Nat.le_trans c.size h
      have L5 := J.len B _ S4 w4 r4 (by rw [roomL_length]; omega)
      rw [roomL_length] at L5
      clear A1 r s c c4 g4
      gi_wp2_with fail
      refine ⟨trivial, rfl, L5.mono ?_⟩
      rintro e w5 ⟨rfl, c5⟩
      have r5 := rep_no J r4 c5
      obtain ⟨O4, q5⟩ : ∃ O, Rep2 B (roomL m, m) S4 O w5 := by rw [hRep] at r5; exact r5
      have C6 := J2.copy B _ S4 O4 y w5 q5 (by rw [roomL_length]; omega) (by omega) (by omega)
      rw [show copyC (roomL m, m) y = (roomL m, min (m + clip y) 120) from rfl] at C6
      clear L5 r4
      gi_wp2_with fail
      refine ⟨trivial, rfl, C6.mono ?_⟩
      rintro e w6 ⟨B6, S6, O6, rfl, r6, s6, g6, c6⟩
      have rr6 := rep_no J r5 c6
      have hd46 : ∀ k, S4 k → ¬ O6 k := fun k h h' => by have := (J.part B _).lt r5 k h; have := s6 k h'; omega
      have c06 := Chg.seq c04 (Chg.seq c5 c6)
      have s6' : ∀ k, O6 k → w2.heap.size ≤ k := fun k h => Nat.le_trans (Chg.seq c04 c5).size (s6 k h)
      have hcy : ((clip y : Nat) : Int) = y := by rw [clip_of hm0]; omega
      clear C6
      by_cases hgo : 0 < y ∧ m < 120
      · have y1 : (0 : Int) < y := hgo.1
        have y2 : (m : Int) < (120 : Int) := by omega
        have A7 : CallsIn Fence.wide 0 Tryd.prog 12 #[ptr B6, bareV newB] w6 fun e w' => ∃ S' O', e = .returned (.tuple #[.int .i64 ((m + 1 : Nat) : Int), .int .i64 0]) ∧ Rep2 B6 (roomL m ++ [freshC], min (m + clip y) 120) S' O' w' ∧ Chg O6 w6 w' ∧ Grew S6 w6 S' ∧ Grew O6 w6 O' := by
          have := J2.add B6 (roomL m, min (m + clip y) 120) S6 O6 No (bareV newB) freshC w6 r6 (CmD.bare _ _ _) (fun k h => h.elim) (bare_small _ (by show 3 ≤ 100; omega)) (by rw [roomL_length]; omega)
          rw [room_more (k := m) (by omega) (by omega)] at this
          exact this
        have hmm : ((m + 1 : Nat) : Int) = (m : Int) + 1 := by omega
        rw [hmm] at A7
        clear hmm hgo
        gi_wp2_with fail
        refine ⟨trivial, rfl, A7.mono ?_⟩
        rintro e w7 ⟨S7, O7, rfl, r7, c7, g7, _⟩
        have rr7 := rep_chg J rr6 c7 hd46
        have c07 : Chg No w2 w7 := c06.trans c7 (fun k h => .inr (s6' k h))
        have L8 := J.len B _ S4 w7 rr7 (by rw [roomL_length]; omega)
        rw [roomL_length] at L8
        clear A7
        gi_wp2_with fail
        refine ⟨trivial, rfl, L8.mono ?_⟩
        rintro e w8 ⟨rfl, c8⟩
        gi_wp2_with fail
        refine ⟨trivial, rfl, (K9 _).mono ?_⟩
        rintro e w9 ⟨rfl, c9⟩
        gi_wp2
        go_ret
        exact ⟨rfl, Chg.seq c07 (Chg.seq c8 c9)⟩
      · have A7 : CallsIn Fence.wide 0 Tryd.prog 12 #[ptr B6, bareV newB] w6 fun e w' => ∃ S' O', e = .returned (.tuple #[.int .i64 0, .int .i64 3]) ∧ Rep2 B6 (roomL m, min (m + clip y) 120) S' O' w' ∧ Chg O6 w6 w' ∧ Grew S6 w6 S' ∧ Grew O6 w6 O' := by
          have := J2.add B6 (roomL m, min (m + clip y) 120) S6 O6 No (bareV newB) freshC w6 r6 (CmD.bare _ _ _) (fun k h => h.elim) (bare_small _ (by show 3 ≤ 100; omega)) (by rw [roomL_length]; omega)
          rw [room_full (k := m) (by omega) (by omega)] at this
          exact this
        have hor : (0 < y ∧ ¬ (m : Int) < 120) ∨ ¬ 0 < y := by omega
        clear hgo
        gi_wp2_with fail
        refine ⟨trivial, rfl, A7.mono ?_⟩
        rintro e w7 ⟨S7, O7, rfl, r7, c7, g7, _⟩
        have c07 : Chg No w2 w7 := c06.trans c7 (fun k h => .inr (s6' k h))
        clear A7
        rcases hor with ⟨y1, y2⟩ | y1
        · gi_wp2_with fail
          refine ⟨trivial, rfl, (K9 _).mono ?_⟩
          rintro e w9 ⟨rfl, c9⟩
          gi_wp2
          go_ret
          exact ⟨rfl, Chg.seq c07 c9⟩
        · gi_wp2_with fail
          refine ⟨trivial, rfl, (K9 _).mono ?_⟩
          rintro e w9 ⟨rfl, c9⟩
          gi_wp2
          go_ret
          exact ⟨rfl, Chg.seq c07 c9⟩

end Go.Proofs.YtconingjdgmodaaDoor
