/-
  LineTells answers true at every text and list of texts, and turns nothing that lay.
-/
import Derived.Test.YtlmjliomncjohaaLBW
import Derived.Test.YtlmjliomncjohaaTxtL
import Derived.Test.YtlmjliomncjohaaLineR
namespace Go.Proofs.Ytlmjliomncjohaa
open Go.RowKit Go.Shelf Go.SeqLib Go.LineLib
attribute [local go_sem] Oper.semAt_some

theorem catB_bound (b : Nat) : ∀ (xs : List ByteArray), (∀ x ∈ xs, x.size ≤ b) → (catB xs).size ≤ xs.length * b
  | [], _ => Nat.zero_le _
  | x :: r, h => by
    have ih := catB_bound b r (fun y hy => h y (List.mem_cons_of_mem _ hy))
    have h1 := h x List.mem_cons_self
    have e : (catB (x :: r)).size = x.size + (catB r).size := by
      show (((x :: r).map L).flatten).length = (L x).length + ((r.map L).flatten).length
      simp
    rw [e, List.length_cons, Nat.succ_mul]
    omega

set_option maxRecDepth 100000 in
set_option maxHeartbeats 4000000 in
theorem tells_law (s : ByteArray) (p : Option Addr) (len cap : Nat) (zs : List ByteArray) (w : World) (hs : s.size ≤ maxLen) (hv : SlV w (.slice p len cap) (zs.map Value.string)) (hl : zs.length = len) :
    CallsIn Fence.wide 0 Try.prog 3 #[.string s, .slice p len cap] w fun e w' => e = .returned (.bool true) ∧ Chg No w w' := by
  refine callsIn_of_wp Try.func3 rfl trivial ?_
  simp only [Try.ntmps3, List.size_toArray, List.length_cons, List.length_nil, Nat.reduceAdd, Nat.reduceSub, Array.replicate_succ, Array.replicate_zero, List.push_toArray, List.append_toArray, List.nil_append, List.cons_append]
  unfold maxLen at hs
  have HL : Hid (zs.length = len) := hl
  clear hl
  by_cases hbig : 500 < s.size
  · have h1' : (500 : Int) < (s.size : Int) := by omega
    gi_wp2_with fail
    refine ⟨trivial, ?_⟩
    rename_i hKK
    apply hKK
    gi_wp2_with fail
    refine ⟨trivial, rfl, (awake_in _).mono ?_⟩
    rintro e w1 ⟨rfl, c1⟩
    gi_wp2
    go_ret
    exact ⟨rfl, c1⟩
  · have h1 : s.size ≤ 500 := by omega
    have h1' : ¬ (500 : Int) < (s.size : Int) := by omega
    clear hbig
    gi_wp2_with fail
    refine ⟨trivial, rfl, (great_in _ zs 60 60 _ hv).mono ?_⟩
    rintro e w0 ⟨rfl, rfl⟩
    obtain ⟨g, hg⟩ : ∃ g, greatB zs 60 60 = g := ⟨_, rfl⟩
    rw [hg]
    cases g
    · obtain ⟨hz1, hz2⟩ := greatB_false hg
      have hcs : (catB zs).size ≤ 3600 := Nat.le_trans (catB_bound 60 zs hz2) (Nat.mul_le_mul_right _ hz1)
      clear hg hz2
      gi_wp2_with fail
      refine ⟨trivial, rfl, (lendS_in _ zs (by omega) _ hv).mono ?_⟩
      rintro e w1 ⟨v1, rfl, l1, c1⟩
      have u1 := hv.no c1
      gi_wp2_with fail
      refine ⟨trivial, rfl, (split_in s (by omega) _).mono ?_⟩
      rintro e w2 ⟨v2, rfl, r2a, c2⟩
      have r2 := rowBase r2a c1.size
      clear r2a
      have hln : (linesB s).length ≤ 500 := Nat.le_trans (linesB_len s) h1
      have l2 := l1.no c2
      have u2 := u1.no c2
      have c02 := Chg.seq c1 c2
      obtain ⟨g1, rfl, hg1, _⟩ := id l1
      obtain ⟨p2, cap2, rfl⟩ := row_slice r2
      obtain ⟨xs, hxs⟩ : ∃ xs, Hid (linesB s = xs) := ⟨_, rfl⟩
      rw [hxs.out] at r2 hln
      have s2 : SlV w2 (.slice p2 (linesB s).length cap2) (xs.map Value.string) := SlV.ofRow (by rw [hxs.out]; simpa using r2)
      obtain ⟨n, HN⟩ : ∃ n, Hid ((linesB s).length = n) := ⟨_, rfl⟩
      obtain ⟨m, HM⟩ : ∃ m, Hid ((zs.map Value.string).length = m) := ⟨_, rfl⟩
      have HLr : Hid (SlV w2 (.slice (some ⟨g1, 0, none⟩) (zs.map Value.string).length ((zs.map Value.string).length + 3)) (zs.map Value.string)) := l2.row
      rw [hxs.out] at HN
      rw [hxs.out] at s2 ⊢
      rw [HN.out] at s2 r2 hln ⊢
      rw [HM.out] at l2 HLr ⊢
      have hxl : xs.length ≤ 500 := by rw [HN.out]; exact hln
      clear l1 u1 c1 c2
      gi_wp2_with fail
      refine ⟨trivial, rfl, (refSplit_in s (by omega) _).mono ?_⟩
      rintro e w3 ⟨v3, rfl, r3, c3⟩
      rw [hxs.out] at r3
      have s3 : SlV w3 v3 (xs.map Value.string) := SlV.ofRow (by simpa using r3)
      have c23 := c3
      clear r3
      gi_wp2_with fail
      refine ⟨trivial, rfl, (sameS_in _ _ xs xs _ (s2.no c23) s3).mono ?_⟩
      rintro e w4 ⟨rfl, c4⟩
      rw [decide_eq_true rfl]
      have c24 := Chg.seq c23 c4
      clear c3 c4 c23 s3
      gi_wp2_with fail
      refine ⟨trivial, rfl, (join_in _ zs _ ((HLr.out).no c24) (by omega) (by omega)).mono ?_⟩
      rintro e w5 ⟨rfl, c5⟩
      have c25 := Chg.seq c24 c5
      clear c24 c5
      gi_wp2_with fail
      refine ⟨trivial, rfl, (refJoin_in _ zs _ (u2.no c25) (by omega) (by omega)).mono ?_⟩
      rintro e w6 ⟨rfl, c6⟩
      have c26 := Chg.seq c25 c6
      clear c25 c6
      generalize catB zs = ct at *
      gi_wp2_with fail
      refine ⟨trivial, rfl, (lines_seq s (by omega) _).mono ?_⟩
      rintro e w7 ⟨g7, l7, D7, rfl, ps, c7, _⟩
      rw [hxs.out] at ps
      have c27 := Chg.seq c26 c7
      clear c26 c7
      gi_wp2_with fail
      refine ⟨trivial, rfl, (textsV_in 1000 (by omega) _ ps).mono ?_⟩
      rintro e w8 ⟨v8, rfl, t8, c8⟩
      rw [List.take_of_length_le (show xs.length ≤ 1000 by omega)] at t8
      have c28 := Chg.seq c27 c8
      clear c27 c8 ps
      gi_wp2_with fail
      refine ⟨trivial, rfl, (refSplit_in s (by omega) _).mono ?_⟩
      rintro e w9 ⟨v9, rfl, r9, c9⟩
      rw [hxs.out] at r9
      have s9 : SlV w9 v9 (xs.map Value.string) := SlV.ofRow (by simpa using r9)
      have t9 := t8.no c9
      have c29 := Chg.seq c28 c9
      clear r9 c28 c9 t8
      gi_wp2_with fail
      refine ⟨trivial, rfl, (sameS_in _ _ xs xs _ t9 s9).mono ?_⟩
      rintro e w10 ⟨rfl, c10⟩
      rw [decide_eq_true rfl]
      have c210 := Chg.seq c29 c10
      clear c29 c10 t9 s9
      gi_wp2_with fail
      refine ⟨trivial, rfl, (binary_in s _).mono ?_⟩
      rintro e w11 ⟨rfl, rfl⟩
      obtain ⟨zb, hzb⟩ : ∃ z, decide ((0 : UInt8) ∈ L s) = z := ⟨_, rfl⟩
      rw [hzb]
      gi_wp2_with fail
      refine ⟨trivial, rfl, (refBinary_in s (by omega) _).mono ?_⟩
      rintro e w12 ⟨rfl, rfl⟩
      rw [hzb]
      clear hzb
      have hzz : (zb == zb) = true := by simp
      gi_wp2_with fail
      refine ⟨trivial, rfl, (few_in s (by omega) _).mono ?_⟩
      rintro e w13 ⟨rfl, c13⟩
      obtain ⟨zf, hzf⟩ : ∃ z, decide ((linesB s).length ≤ 60) = z := ⟨_, rfl⟩
      rw [hzf]
      have c213 := Chg.seq c210 c13
      gi_wp2_with fail
      refine ⟨trivial, rfl, (refFew_in s (by omega) _).mono ?_⟩
      rintro e w14 ⟨rfl, c14⟩
      rw [hzf]
      clear hzf
      have c214 := Chg.seq c213 c14
      have hzz2 : (zf == zf) = true := by simp
      gi_wp2_with fail
      refine ⟨trivial, rfl, (keptS_in _ _ zs (by omega) _ _ (l2.no c214) (u2.no c214)).mono ?_⟩
      rintro e w15 ⟨rfl, c15⟩
      have c215 := Chg.seq c214 c15
      have r15 := row_kept r2 (fun k hk => c215.block k (r2.lt k hk).2 (fun h => h))
      gi_wp2_with fail
      refine ⟨trivial, rfl, (overS_in _ _ _ _ (by omega) _ (Nat.le_trans c02.size c215.size) r15).mono ?_⟩
      rintro e w16 ⟨⟨r, rfl⟩, c16⟩
      have c016 : Chg No w0 w16 := (Chg.seq c02 c215).trans c16 (fun k hk => .inr (r2.lt k hk).1)
      gi_wp2_with fail
      refine ⟨trivial, rfl, (split_in s (by omega) _).mono ?_⟩
      rintro e w17 ⟨v17, rfl, r17, c17⟩
      rw [hxs.out] at r17
      have s17 : SlV w17 v17 (xs.map Value.string) := SlV.ofRow (by simpa using r17)
      clear r17
      gi_wp2_with fail
      refine ⟨trivial, rfl, (refSplit_in s (by omega) _).mono ?_⟩
      rintro e w18 ⟨v18, rfl, r18, c18⟩
      rw [hxs.out] at r18
      have s18 : SlV w18 v18 (xs.map Value.string) := SlV.ofRow (by simpa using r18)
      clear r18
      gi_wp2_with fail
      refine ⟨trivial, rfl, (sameS_in _ _ xs xs _ (s17.no c18) s18).mono ?_⟩
      rintro e w19 ⟨rfl, c19⟩
      rw [decide_eq_true rfl]
      gi_wp2_with fail
      refine ⟨trivial, rfl, (awake_in _).mono ?_⟩
      rintro e w20 ⟨rfl, c20⟩
      gi_wp2
      go_ret
      exact ⟨rfl, Chg.seq (Chg.seq (Chg.seq (Chg.seq c016 c17) c18) c19) c20⟩
    · gi_wp2_with fail
      refine ⟨trivial, rfl, (awake_in _).mono ?_⟩
      rintro e w1 ⟨rfl, c1⟩
      gi_wp2
      go_ret
      exact ⟨rfl, c1⟩

end Go.Proofs.Ytlmjliomncjohaa
