/-
  Package line: what each call answers. Lines' iterator keeps an iterator's word: the lines of the text.
-/
import Derived.Test.YtookalebfbkedaaTxtC
import Derived.Test.YtookalebfbkedaaTxtH
import Derived.Test.YtookalebfbkedaaLineL
import Derived.Test.YtookalebfbkedaaShelf
namespace Go.Proofs.Ytookalebfbkedaa
open Go.RowKit Go.Shelf Go.SeqLib Go.LineLib
attribute [local go_sem] Oper.semAt_some

theorem indexByte_in (s : ByteArray) (c : Int) (w : World) : CallsIn Fence.wide 0 Try.prog 39 #[.string s, .int .u8 c] w fun e w' =>
    e = .returned (.int .i64 (Lib.indexByte s.data.toList c.toNat.toUInt8)) ∧ w' = w := callsIn_wide.2 (Any.strings_IndexByte Try.lays137 s c w)

set_option maxHeartbeats 1000000 in
theorem lineEnd_in (s : ByteArray) (hs : s.size ≤ 1000000) (w : World) : CallsIn Fence.wide 0 Try.prog 42 #[.string s] w fun e w' => e = .returned (.int .i64 (endL (L s) : Int)) ∧ w' = w := by
  refine callsIn_of_wp Try.func42 rfl trivial ?_
  simp only [Try.ntmps42, List.size_toArray, List.length_cons, List.length_nil, Nat.reduceAdd, Nat.reduceSub, Array.replicate_succ, Array.replicate_zero, List.push_toArray, List.append_toArray, List.nil_append, List.cons_append]
  gi_wp2_with fail
  refine ⟨trivial, rfl, (indexByte_in s 10 _).mono ?_⟩
  rintro e w1 ⟨rfl, rfl⟩
  have he : Hid ((if 0 ≤ Lib.indexByte (L s) 10 then Lib.indexByte (L s) 10 + 1 else ((L s).length : Int)) = (endL (L s) : Int)) := endL_index (L s)
  have hle : Hid (endL (L s) ≤ 1000000) := Nat.le_trans (endL_le _) hs
  rw [show (10 : Int).toNat.toUInt8 = 10 from rfl]
  obtain ⟨k, hk⟩ : ∃ k, k = Lib.indexByte s.data.toList 10 := ⟨_, rfl⟩
  rw [← hk] at he ⊢
  by_cases h0 : 0 ≤ k
  · have hk1 : Hid (k + 1 = (endL (L s) : Int)) := by have := he.out; rw [if_pos h0] at this; exact this
    have hk2 : k ≤ 1000000 := by have := hk1.out; have := hle.out; omega
    clear he hk
    gi_wp2
    go_ret
    exact ⟨by rw [hk1.out]; rfl, rfl⟩
  · have hk1 : Hid (((L s).length : Int) = (endL (L s) : Int)) := by have := he.out; rw [if_neg h0] at this; exact this
    clear he hk
    gi_wp2
    go_ret
    exact ⟨by rw [size_L, hk1.out]; rfl, rfl⟩

set_option maxHeartbeats 1000000 in
theorem binary_in (s : ByteArray) (w : World) : CallsIn Fence.wide 0 Try.prog 23 #[.string s] w fun e w' => e = .returned (.bool (decide ((0 : UInt8) ∈ L s))) ∧ w' = w := by
  refine callsIn_of_wp Try.func23 rfl trivial ?_
  simp only [Try.ntmps23, List.size_toArray, List.length_cons, List.length_nil, Nat.reduceAdd, Nat.reduceSub, Array.replicate_succ, Array.replicate_zero, List.push_toArray, List.append_toArray, List.nil_append, List.cons_append]
  gi_wp2_with fail
  refine ⟨trivial, rfl, (indexByte_in s 0 _).mono ?_⟩
  rintro e w1 ⟨rfl, rfl⟩
  have he : Hid (decide (0 ≤ Lib.indexByte s.data.toList 0) = decide ((0 : UInt8) ∈ L s)) := by
    show _ = _
    exact decide_eq_decide.2 (index_has 0 _)
  rw [show (0 : Int).toNat.toUInt8 = 0 from rfl]
  generalize Lib.indexByte s.data.toList 0 = k at *
  gi_wp2
  go_ret
  exact ⟨by rw [← he.out]; rfl, rfl⟩

theorem cat_join (xs : List ByteArray) : (⟨(Lib.join (xs.map (·.data.toList)) (⟨#[]⟩ : ByteArray).data.toList).toArray⟩ : ByteArray) = catB xs := by
  have h : ∀ ys : List (List UInt8), ([] : List UInt8).intercalate ys = ys.flatten := by
    intro ys
    unfold List.intercalate
    induction ys with
    | nil => rfl
    | cons y r ih =>
      cases r with
      | nil => simp
      | cons z r' => simp at ih ⊢; exact ih
  unfold catB Lib.join
  rw [h]

set_option maxHeartbeats 1000000 in
theorem sjoin_in (v : Value) (xs : List ByteArray) (w : World) (hv : SlV w v (xs.map Value.string)) (hlen : (catB xs).size ≤ 1000000) (hn : xs.length ≤ 1000000) :
    CallsIn Fence.wide 0 Try.prog 29 #[v, .string ⟨#[]⟩] w fun e w' => e = .returned (.string (catB xs)) ∧ Chg No w w' := by
  obtain ⟨p, cap, rfl, h1, h2, hc⟩ := hv
  rw [List.length_map] at h1 ⊢
  cases xs with
  | nil =>
    refine (callsIn_wide.2 (Any.strings_Join_none Try.lays156 Try.Builder_Extra_156 p cap ⟨#[]⟩ w)).mono ?_
    rintro e w' ⟨rfl, rfl⟩
    exact ⟨rfl, Chg.refl _ _⟩
  | cons x r =>
    obtain ⟨b, off, rfl, hcell⟩ := hc 0 (.string x) rfl
    have hb := World.block_lt_of_cell? w _ hcell
    have hlen' : (Lib.join ((x :: r).map (·.data.toList)) (⟨#[]⟩ : ByteArray).data.toList).length ≤ 140737488355328 := by
      have e := cat_join (x :: r)
      have : (Lib.join ((x :: r).map (·.data.toList)) (⟨#[]⟩ : ByteArray).data.toList).length = (catB (x :: r)).size := by rw [← e]; rfl
      omega
    refine (callsIn_wide.2 (Any.strings_Join Try.lays156 Try.Builder_Extra_156 b off cap (x :: r) ⟨#[]⟩ w (fun j y hj => ?_) hb (by omega) h1 hlen')).mono ?_
    · obtain ⟨b', off', e, h⟩ := hc j (.string y) (by rw [List.getElem?_map, hj]; rfl)
      cases e
      exact h
    · rintro e w' ⟨rfl, hb'⟩
      exact ⟨by rw [cat_join], Chg.none hb' _⟩

set_option maxHeartbeats 1000000 in
theorem join_in (v : Value) (xs : List ByteArray) (w : World) (hv : SlV w v (xs.map Value.string)) (hlen : (catB xs).size ≤ 1000000) (hn : xs.length ≤ 1000000) :
    CallsIn Fence.wide 0 Try.prog 16 #[v] w fun e w' => e = .returned (.string (catB xs)) ∧ Chg No w w' := by
  have HV : Hid (SlV w v (xs.map Value.string)) := hv
  obtain ⟨p, cap, rfl, _⟩ := hv
  generalize hm : (xs.map Value.string).length = m at HV ⊢
  clear hm
  refine callsIn_of_wp Try.func16 rfl trivial ?_
  simp only [Try.ntmps16, List.size_toArray, List.length_cons, List.length_nil, Nat.reduceAdd, Nat.reduceSub, Array.replicate_succ, Array.replicate_zero, List.push_toArray, List.append_toArray, List.nil_append, List.cons_append]
  gi_wp2_with fail
  refine ⟨trivial, rfl, (sjoin_in _ xs _ HV.out hlen hn).mono ?_⟩
  rintro e w1 ⟨rfl, c1⟩
  gi_wp2
  go_ret
  exact ⟨rfl, c1⟩

/-- A text's length, off its value. -/
def strSize : Value → Nat
  | .string s => s.size
  | _ => 0

set_option maxRecDepth 100000 in
set_option maxHeartbeats 1000000 in
theorem lines1 (s : ByteArray) (hs : s.size ≤ 1000000) (B : Nat) :
    Iter Try.prog 41 #[.pointer (some ⟨B, 0, none⟩)] encS (linesB s) (fun k => k = B) (fun _ => False)
      (fun W => Boxed W B 9 (.string s)) (fun _ W => Boxed W B 9 (.string s)) := {
  sub := fun _ h => h.elim
  lt0 := by rintro W b1 k rfl; exact b1.lt
  kept0 := by rintro W W' b1 _ hk; exact (hk _ rfl).trans b1
  kept := by rintro pre W W' b1 _ hk; exact (hk _ rfl).trans b1
  runs := by
    intro l J Jx S W pJ pJx hY hI hJ hDS
    have b1 := hI
    have hc1 := b1.cell
    refine callsIn_of_wp Try.func41 rfl trivial ?_
    simp only [Try.ntmps41, List.size_toArray, List.length_cons, List.length_nil, Nat.reduceAdd, Nat.reduceSub, Array.replicate_succ, Array.replicate_zero, List.push_toArray, List.append_toArray, List.nil_append, List.cons_append]
    gi_wp2
    gi_loopw [3] (fun r wr => ∃ (q : ByteArray) (pre : List ByteArray) (So : Blk), q.size ≤ 1000000 ∧ r = .string q ∧ Hid (pre ++ linesB q = linesB s) ∧ J pre So wr ∧ Chg S W wr ∧ Grew S W So)
      (fun r _ => strSize r)
    case atStart => exact ⟨s, [], S, hs, rfl, rfl, hJ, Chg.refl _ _, Grew.refl _ _⟩
    case round =>
      obtain ⟨q, pre, So, hq, rfl, HP, j, c, g⟩ := hrel
      have hfin : ∀ {W9 : World}, Chg S W W9 → Boxed W9 B 9 (.string s) := fun c9 => c9.boxed b1 (hDS _ rfl)
      by_cases h0 : q.size = 0
      · have HE : Hid (pre = linesB s) := by have := HP.out; rw [linesB_nil h0, List.append_nil] at this; exact this
        have hq0 : q.toList.isEmpty = true := by
          rw [Go.ByteArray.toList_eq, List.isEmpty_iff]; exact List.length_eq_zero_iff.1 h0
        gi_wp2
        go_end0
        exact ⟨⟨_, rfl⟩, _, So, .inl ⟨HE.out, j⟩, hfin c, c.mono (fun _ => .inr), g⟩
      · have hq0 : q.toList.isEmpty = false := by
          rw [Go.ByteArray.toList_eq]
          cases hd : q.data.toList with
          | nil => exact absurd (by rw [size_L]; show q.data.toList.length = 0; rw [hd]; rfl) h0
          | cons x r => rfl
        have HF : Hid (linesB q = q.extract 0 (endL (L q)) :: linesB (q.extract (endL (L q)) q.size)) := linesB_first h0
        have hk1 : 1 ≤ endL (L q) := endL_pos (L_ne h0)
        have hk2 : endL (L q) ≤ q.size := endL_le _
        gi_wp2_with fail
        refine ⟨trivial, rfl, (lineEnd_in q hq _).mono ?_⟩
        rintro e w1 ⟨rfl, rfl⟩
        generalize endL (L q) = k at *
        have HP2 : Hid ((pre ++ [q.extract 0 k]) ++ linesB (q.extract k q.size) = linesB s) := by
          show _ = _
          have := HP.out
          rw [HF.out] at this
          simpa using this
        have hpr : pre ++ [q.extract 0 k] <+: linesB s := ⟨_, HP2.out⟩
        have hsz : (q.extract k q.size).size = q.size - k := by rw [ByteArray.size_extract]; omega
        obtain ⟨fnr, tmps, assign, body, hy, hR⟩ := hY pre (q.extract 0 k) So w1 hpr j
        clear HF HP h0
        gi_wp2
        refine ⟨rfl, hR.mono ?_⟩
        rintro e W3 ⟨S3, c3, g3, (⟨rfl, j3⟩ | ⟨rfl, j3⟩)⟩
        · have cc := c.trans c3 g
          have gg := g.trans g3 c.size
          gi_wp2
          go_roundw
          case rel => exact ⟨q.extract k q.size, _, S3, by omega, rfl, HP2, j3, cc, gg⟩
          case measure => simp [strSize]; omega
        · have cc := c.trans c3 g
          have gg := g.trans g3 c.size
          gi_wp2
          refine bodyPost_ret (results_none rfl _ _ _) rfl ?_
          exact ⟨⟨_, rfl⟩, _, S3, .inr ⟨hpr, j3⟩, hfin cc, cc.mono (fun _ => .inr), gg⟩ }

end Go.Proofs.Ytookalebfbkedaa
