/-
  Of: TxtC, LineI, LineC, XBy, XMerge, XConf, LineR.
-/
import Derived.Test.YtndblaemladppabGreatDoorTxt
import Derived.Test.YtndblaemladppabGreatDoorTxtH
import Derived.Test.YtndblaemladppabGreatDoorGPure
import Derived.Test.YtndblaemladppabGreatDoorShelf
import Derived.Test.YtndblaemladppabGreatDoorGDiff
import Derived.Lib.AppendStr
import Derived.Laws.IdiomStrings
import Derived.Laws.BytesArg
section
-- TxtC
namespace Go.Proofs.YtndblaemladppabGreatDoor
open Go.RowKit Go.Shelf Go.SeqLib
attribute [local go_sem] Oper.semAt_some

set_option maxRecDepth 100000 in
set_option maxHeartbeats 1000000 in
theorem listS_in {gs : Nat} {lbs : Array Value} {xs : List ByteArray} {D M : Blk} {I0 : World → Prop} {I : List ByteArray → World → Prop} (it : Iter Tryz.prog gs lbs encS xs D M I0 I) (eg : ∀ args w, (callFunc gs args).run Tryz.prog w = .ok (.enter gs args) w)
    (hlen : xs.length ≤ 1000000) (w : World) (hI : I0 w) :
    CallsIn Fence.wide 0 Tryz.prog 83 #[.func (.func gs) #[] lbs] w fun e w' => ∃ v, e = .returned v ∧ w'.ownsRow w.heap.size 9 1 v xs.length (xs.map (Value.string)) ∧ I xs w' ∧ Chg M w w' := by
  obtain ⟨i0, hi, hz0, hz1, hz2⟩ := info_parts info9
  have hnil := fun w => run_eql_func_nil Tryz.underlying105 (.func gs) #[] lbs w
  refine callsIn_of_wp_marks Tryz.func83 rfl trivial ?_
  simp only [Tryz.ntmps83, List.size_toArray, List.length_cons, List.length_nil, Nat.reduceAdd, Nat.reduceSub, Array.replicate_succ, Array.replicate_zero, List.push_toArray, List.append_toArray, List.nil_append, List.cons_append]
  gi_wp2
  have bO := Boxed.new w 29 (.slice none 0 0)
  have c0 : Chg (fun _ => False) w (w.alloc (.cells #[.slice none 0 0] 29)) := (Chg.refl _ w).alloc _
  refine wpIn_range (gf := gs) (lb := lbs) rfl eg it (fun _ => rfl)
    (fun pre S W => RowBox w.heap.size w.heap.size 29 9 (pre.map (Value.string)) S W ∧ w.heap.size ≤ W.heap.size) (fun _ _ _ _ => False) (fun pre => ⟨fun h => (RowBox.part _ _ _ _ _).lt h.1, fun h hs hk => ⟨(RowBox.part _ _ _ _ _).kept h.1 hs hk, Nat.le_trans h.2 hs⟩⟩) (fun _ _ => Part.false)
    (S := fun k => k = w.heap.size ∨ Value.ownBlock (.slice none 0 0) = some k) (it.kept0 hI c0.size (fun k hk => c0.block k (it.lt0 hI k hk) (fun h => h))) ⟨⟨_, rfl, bO, World.ownsRow_nil _ _ _ _⟩, c0.size⟩
    (fun k hk h => by
      rcases h with h | h
      · have := it.lt0 hI k hk; omega
      · cases h)
    (fun x => { tmps := #[.func (.func gs) #[] lbs, undef, .slice none 0 0, .pointer (some ⟨w.heap.size, 0, none⟩), .string x, .func (.func gs) #[] lbs, .bool false, .func (.func gs) #[] lbs, .string x, undef, undef, undef, undef, undef], defers := [] }) ?assign ?body ?done ?stop
  case assign =>
    intro l x W K hK
    gi_wp2
    exact hK
  case body =>
    rintro lr pre x S2 W hpre ⟨⟨v, rfl, hv, hrow⟩, hsz⟩
    have hc := hv.cell
    have hpl : pre.length + 1 ≤ 1000000 := by have := hpre.length_le; simp at this; omega
    have hml : (pre.map (Value.string)).length + 1 ≤ 1000000 := by simpa using hpl
    have hmx : (pre.map (Value.string)).length + 1 ≤ maxLen := by unfold maxLen; omega
    gi_wp2_with (gi_at_builtin; refine wpListIn_append_at _ rfl _ _ 29 rfl w.heap.size 9 i0 (.string ⟨#[]⟩) 1 16 Tryz.underlying29 hi hz0 hz1 hz2 rfl (by decide) _ _ _ rfl (hrow.alloc _) ⟨W.heap.size, 0, none⟩ 1 1 [.string x] rfl rfl (cell_one_new _ _ _) (by simp [Value.oneCell']) hmx (by omega) (by simp; omega) ?_; intro v' w1 hown' hgrow _ hat; obtain ⟨g', cap', rfl⟩ := ownsRow_succ hown'; obtain ⟨hv1, hv2, hr2, hcg, hgw⟩ := RowBox.step hv (by decide) hrow hown' hgrow hat; have hc1 := hv1.cell; have hf1 := hv1.frozen)
    simp only [List.length_map] at hcg hgw hv2 hr2
    refine ⟨_, hcg, hgw, ⟨⟨_, rfl, hv2, ?_⟩, Nat.le_trans hsz hcg.size⟩⟩
    simpa using hr2
  case done =>
    rintro d S' W hd ⟨⟨v, rfl, hv, hrow⟩, hsz⟩ hI' hc hg hK hnd
    have hd' : w.heap.size + 1 ≤ d := by simpa using hd
    have hcl := hv.cell
    gi_wp2
    refine ⟨by simp, .inl ⟨_, _, rfl, run_takeDeferred hK, ?_⟩⟩
    refine ⟨_, results_tmp rfl _ _ _, v, rfl, ?_, it.kept hI' (by simp) (fun k hk => World.putObj_heap_other (by have := it.lt0 hI k hk; omega)), ?_⟩
    · have := ownsRow_putObj hrow (.deferred none) hK rfl
      simpa using this
    · refine ⟨hc.os, hc.tape, hc.output, by simpa using hsz, fun k hk hn => ?_⟩
      refine (World.putObj_heap_other (by omega)).trans ((hc.block k (by simp; omega) ?_).trans (c0.block k hk (fun h => h)))
      rintro (h | h | h)
      · exact hn h
      · omega
      · cases h
  case stop =>
    rintro d c pre S' W _ _ h
    exact h.elim

end Go.Proofs.YtndblaemladppabGreatDoor

end
section
-- LineI
namespace Go.Proofs.YtndblaemladppabGreatDoor
open Go.RowKit Go.Shelf Go.SeqLib Go.LineLib
attribute [local go_sem] Oper.semAt_some

theorem indexByte_in (s : ByteArray) (c : Int) (w : World) : CallsIn Fence.wide 0 Tryz.prog 97 #[.string s, .int .u8 c] w fun e w' =>
    e = .returned (.int .i64 (Lib.indexByte s.data.toList c.toNat.toUInt8)) ∧ w' = w := callsIn_wide.2 (Any.strings_IndexByte Tryz.lays137 s c w)

set_option maxHeartbeats 1000000 in
theorem lineEnd_in (s : ByteArray) (hs : s.size ≤ 1000000) (w : World) : CallsIn Fence.wide 0 Tryz.prog 104 #[.string s] w fun e w' => e = .returned (.int .i64 (endL (L s) : Int)) ∧ w' = w := by
  refine callsIn_of_wp Tryz.func104 rfl trivial ?_
  simp only [Tryz.ntmps104, List.size_toArray, List.length_cons, List.length_nil, Nat.reduceAdd, Nat.reduceSub, Array.replicate_succ, Array.replicate_zero, List.push_toArray, List.append_toArray, List.nil_append, List.cons_append]
  gi_wp2_with fail
  refine ⟨trivial, rfl, (indexByte_in s 10 _).mono ?_⟩
  rintro e w1 ⟨rfl, rfl⟩
  have he : Hid ((if 0 ≤ Lib.indexByte (L s) 10 then Lib.indexByte (L s) 10 + 1 else ((L s).length : Int)) = (endL (L s) : Int)) := endL_index (L s)
  have hle : Hid (endL (L s) ≤ 1000000) := Nat.le_trans (endL_le _) hs
  rw [show (10 : Int).toNat.toUInt8 = 10 from rfl]
  obtain ⟨k, hk⟩ : ∃ k, k = Lib.indexByte s.data.toList 10 := ⟨_, rfl⟩
  rw [← hk] at he ⊢
  by_cases h0 : 0 ≤ k
  · have hk1 : Hid (k + 1 = (endL (L s) : Int)) := by have := he.out; rw [if_pos h0] at this; exact this
    have hk2 : k ≤ 1000000 := by have := hk1.out; have := hle.out; omega
    clear he hk
    gi_wp2
    go_ret
    exact ⟨by rw [hk1.out]; rfl, rfl⟩
  · have hk1 : Hid (((L s).length : Int) = (endL (L s) : Int)) := by have := he.out; rw [if_neg h0] at this; exact this
    clear he hk
    gi_wp2
    go_ret
    exact ⟨by rw [size_L, hk1.out]; rfl, rfl⟩

set_option maxHeartbeats 1000000 in
theorem binary_in (s : ByteArray) (w : World) : CallsIn Fence.wide 0 Tryz.prog 78 #[.string s] w fun e w' => e = .returned (.bool (decide ((0 : UInt8) ∈ L s))) ∧ w' = w := by
  refine callsIn_of_wp Tryz.func78 rfl trivial ?_
  simp only [Tryz.ntmps78, List.size_toArray, List.length_cons, List.length_nil, Nat.reduceAdd, Nat.reduceSub, Array.replicate_succ, Array.replicate_zero, List.push_toArray, List.append_toArray, List.nil_append, List.cons_append]
  gi_wp2_with fail
  refine ⟨trivial, rfl, (indexByte_in s 0 _).mono ?_⟩
  rintro e w1 ⟨rfl, rfl⟩
  have he : Hid (decide (0 ≤ Lib.indexByte s.data.toList 0) = decide ((0 : UInt8) ∈ L s)) := by
    show _ = _
    exact decide_eq_decide.2 (index_has 0 _)
  rw [show (0 : Int).toNat.toUInt8 = 0 from rfl]
  generalize Lib.indexByte s.data.toList 0 = k at *
  gi_wp2
  go_ret
  exact ⟨by rw [← he.out]; rfl, rfl⟩

theorem cat_join (xs : List ByteArray) : (⟨(Lib.join (xs.map (·.data.toList)) (⟨#[]⟩ : ByteArray).data.toList).toArray⟩ : ByteArray) = catB xs := by
  have h : ∀ ys : List (List UInt8), ([] : List UInt8).intercalate ys = ys.flatten := by
    intro ys
    unfold List.intercalate
    induction ys with
    | nil => rfl
    | cons y r ih =>
      cases r with
      | nil => simp
      | cons z r' => simp at ih ⊢; exact ih
  unfold catB Lib.join
  rw [h]

set_option maxHeartbeats 1000000 in
theorem sjoin_in (v : Value) (xs : List ByteArray) (w : World) (hv : SlV w v (xs.map Value.string)) (hlen : (catB xs).size ≤ 1000000) (hn : xs.length ≤ 1000000) :
    CallsIn Fence.wide 0 Tryz.prog 85 #[v, .string ⟨#[]⟩] w fun e w' => e = .returned (.string (catB xs)) ∧ Chg No w w' := by
  obtain ⟨p, cap, rfl, h1, h2, hc⟩ := hv
  rw [List.length_map] at h1 ⊢
  cases xs with
  | nil =>
    refine (callsIn_wide.2 (Any.strings_Join_none Tryz.lays156 Tryz.Builder_Extra_156 p cap ⟨#[]⟩ w)).mono ?_
    rintro e w' ⟨rfl, rfl⟩
    exact ⟨rfl, Chg.refl _ _⟩
  | cons x r =>
    obtain ⟨b, off, rfl, hcell⟩ := hc 0 (.string x) rfl
    have hb := World.block_lt_of_cell? w _ hcell
    have hlen' : (Lib.join ((x :: r).map (·.data.toList)) (⟨#[]⟩ : ByteArray).data.toList).length ≤ 140737488355328 := by
      have e := cat_join (x :: r)
      have : (Lib.join ((x :: r).map (·.data.toList)) (⟨#[]⟩ : ByteArray).data.toList).length = (catB (x :: r)).size := by rw [← e]; rfl
      omega
    refine (callsIn_wide.2 (Any.strings_Join Tryz.lays156 Tryz.Builder_Extra_156 b off cap (x :: r) ⟨#[]⟩ w (fun j y hj => ?_) hb (by omega) h1 hlen')).mono ?_
    · obtain ⟨b', off', e, h⟩ := hc j (.string y) (by rw [List.getElem?_map, hj]; rfl)
      cases e
      exact h
    · rintro e w' ⟨rfl, hb'⟩
      exact ⟨by rw [cat_join], Chg.none hb' _⟩

set_option maxHeartbeats 1000000 in
theorem join_in (v : Value) (xs : List ByteArray) (w : World) (hv : SlV w v (xs.map Value.string)) (hlen : (catB xs).size ≤ 1000000) (hn : xs.length ≤ 1000000) :
    CallsIn Fence.wide 0 Tryz.prog 61 #[v] w fun e w' => e = .returned (.string (catB xs)) ∧ Chg No w w' := by
  have HV : Hid (SlV w v (xs.map Value.string)) := hv
  obtain ⟨p, cap, rfl, _⟩ := hv
  generalize hm : (xs.map Value.string).length = m at HV ⊢
  clear hm
  refine callsIn_of_wp Tryz.func61 rfl trivial ?_
  simp only [Tryz.ntmps61, List.size_toArray, List.length_cons, List.length_nil, Nat.reduceAdd, Nat.reduceSub, Array.replicate_succ, Array.replicate_zero, List.push_toArray, List.append_toArray, List.nil_append, List.cons_append]
  gi_wp2_with fail
  refine ⟨trivial, rfl, (sjoin_in _ xs _ HV.out hlen hn).mono ?_⟩
  rintro e w1 ⟨rfl, c1⟩
  gi_wp2
  go_ret
  exact ⟨rfl, c1⟩

/-- A text's length, off its value. -/
def strSize : Value → Nat
  | .string s => s.size
  | _ => 0

set_option maxRecDepth 100000 in
set_option maxHeartbeats 1000000 in
theorem lines1 (s : ByteArray) (hs : s.size ≤ 1000000) (B : Nat) :
    Iter Tryz.prog 103 #[.pointer (some ⟨B, 0, none⟩)] encS (linesB s) (fun k => k = B) (fun _ => False)
      (fun W => Boxed W B 9 (.string s)) (fun _ W => Boxed W B 9 (.string s)) := {
  sub := fun _ h => h.elim
  lt0 := by rintro W b1 k rfl; exact b1.lt
  kept0 := by rintro W W' b1 _ hk; exact (hk _ rfl).trans b1
  kept := by rintro pre W W' b1 _ hk; exact (hk _ rfl).trans b1
  runs := by
    intro l J Jx S W pJ pJx hY hI hJ hDS
    have b1 := hI
    have hc1 := b1.cell
    refine callsIn_of_wp Tryz.func103 rfl trivial ?_
    simp only [Tryz.ntmps103, List.size_toArray, List.length_cons, List.length_nil, Nat.reduceAdd, Nat.reduceSub, Array.replicate_succ, Array.replicate_zero, List.push_toArray, List.append_toArray, List.nil_append, List.cons_append]
    gi_wp2
    gi_loopw [3] (fun r wr => ∃ (q : ByteArray) (pre : List ByteArray) (So : Blk), q.size ≤ 1000000 ∧ r = .string q ∧ Hid (pre ++ linesB q = linesB s) ∧ J pre So wr ∧ Chg S W wr ∧ Grew S W So)
      (fun r _ => strSize r)
    case atStart => exact ⟨s, [], S, hs, rfl, rfl, hJ, Chg.refl _ _, Grew.refl _ _⟩
    case round =>
      obtain ⟨q, pre, So, hq, rfl, HP, j, c, g⟩ := hrel
      have hfin : ∀ {W9 : World}, Chg S W W9 → Boxed W9 B 9 (.string s) := fun c9 => c9.boxed b1 (hDS _ rfl)
      by_cases h0 : q.size = 0
      · have HE : Hid (pre = linesB s) := by have := HP.out; rw [linesB_nil h0, List.append_nil] at this; exact this
        have hq0 : q.toList.isEmpty = true := by
          rw [Go.ByteArray.toList_eq, List.isEmpty_iff]; exact List.length_eq_zero_iff.1 h0
        gi_wp2
        go_end0
        exact ⟨⟨_, rfl⟩, _, So, .inl ⟨HE.out, j⟩, hfin c, c.mono (fun _ => .inr), g⟩
      · have hq0 : q.toList.isEmpty = false := by
          rw [Go.ByteArray.toList_eq]
          cases hd : q.data.toList with
          | nil => exact absurd (by rw [size_L]; show q.data.toList.length = 0; rw [hd]; rfl) h0
          | cons x r => rfl
        have HF : Hid (linesB q = q.extract 0 (endL (L q)) :: linesB (q.extract (endL (L q)) q.size)) := linesB_first h0
        have hk1 : 1 ≤ endL (L q) := endL_pos (L_ne h0)
        have hk2 : endL (L q) ≤ q.size := endL_le _
        gi_wp2_with fail
        refine ⟨trivial, rfl, (lineEnd_in q hq _).mono ?_⟩
        rintro e w1 ⟨rfl, rfl⟩
        generalize endL (L q) = k at *
        have HP2 : Hid ((pre ++ [q.extract 0 k]) ++ linesB (q.extract k q.size) = linesB s) := by
          show _ = _
          have := HP.out
          rw [HF.out] at this
          simpa using this
        have hpr : pre ++ [q.extract 0 k] <+: linesB s := ⟨_, HP2.out⟩
        have hsz : (q.extract k q.size).size = q.size - k := by rw [ByteArray.size_extract]; omega
        obtain ⟨fnr, tmps, assign, body, hy, hR⟩ := hY pre (q.extract 0 k) So w1 hpr j
        clear HF HP h0
        gi_wp2
        refine ⟨rfl, hR.mono ?_⟩
        rintro e W3 ⟨S3, c3, g3, (⟨rfl, j3⟩ | ⟨rfl, j3⟩)⟩
        · have cc := c.trans c3 g
          have gg := g.trans g3 c.size
          gi_wp2
          go_roundw
          case rel => exact ⟨q.extract k q.size, _, S3, by omega, rfl, HP2, j3, cc, gg⟩
          case measure => simp [strSize]; omega
        · have cc := c.trans c3 g
          have gg := g.trans g3 c.size
          gi_wp2
          refine bodyPost_ret (results_none rfl _ _ _) rfl ?_
          exact ⟨⟨_, rfl⟩, _, S3, .inr ⟨hpr, j3⟩, hfin cc, cc.mono (fun _ => .inr), gg⟩ }

end Go.Proofs.YtndblaemladppabGreatDoor

end
section
-- LineC
namespace Go.Proofs.YtndblaemladppabGreatDoor
open Go.RowKit Go.Shelf Go.SeqLib Go.LineLib
attribute [local go_sem] Oper.semAt_some

set_option maxHeartbeats 1000000 in
theorem lines_in (s : ByteArray) (w : World) : CallsIn Fence.wide 0 Tryz.prog 84 #[.string s] w fun e w' =>
    e = .returned (.func (.func 103) #[] #[.pointer (some ⟨w.heap.size, 0, none⟩)]) ∧ w' = w.alloc (.cells #[.string s] 9) := by
  refine callsIn_of_wp Tryz.func84 rfl trivial ?_
  simp only [Tryz.ntmps84, List.size_toArray, List.length_cons, List.length_nil, Nat.reduceAdd, Nat.reduceSub, Array.replicate_succ, Array.replicate_zero, List.push_toArray, List.append_toArray, List.nil_append, List.cons_append]
  gi_wp2
  go_ret
  exact ⟨rfl, rfl⟩

/-- Lines: the sequence of the lines. -/
theorem lines_seq (s : ByteArray) (hs : s.size ≤ 1000000) (w : World) : CallsIn Fence.wide 0 Tryz.prog 84 #[.string s] w fun e w' =>
    ∃ gf lb D, e = .returned (.func (.func gf) #[] lb) ∧ PSeqS w' gf lb (linesB s) D ∧ Chg No w w' ∧ ∀ k, D k → w.heap.size ≤ k := by
  refine (lines_in s w).mono ?_
  rintro e w' ⟨rfl, rfl⟩
  exact ⟨_, _, _, rfl, ⟨_, lines1 s hs w.heap.size, Boxed.new _ _ _, enters_of Tryz.func103 (by kernel_rfl) rfl⟩, (Chg.refl _ w).alloc _, fun k hk => by subst hk; exact Nat.le_refl _⟩

/-- seq.List of a sequence that turns nothing, with what it owns. -/
theorem listR_seq {gs : Nat} {lbs : Array Value} {xs : List ByteArray} {D : Blk} (hlen : xs.length ≤ 1000000) (w : World) (hs : PSeqS w gs lbs xs D) :
    CallsIn Fence.wide 0 Tryz.prog 83 #[.func (.func gs) #[] lbs] w fun e w' => ∃ v, e = .returned v ∧ w'.ownsRow w.heap.size 9 1 v xs.length (xs.map Value.string) ∧ Chg No w w' := by
  obtain ⟨I0, it, hi, eg⟩ := hs
  refine (listS_in it eg hlen w hi).mono ?_
  rintro e w' ⟨v, rfl, hr, _, c⟩
  exact ⟨v, rfl, hr, c⟩

set_option maxHeartbeats 1000000 in
theorem split_in (s : ByteArray) (hs : s.size ≤ 1000000) (w : World) : CallsIn Fence.wide 0 Tryz.prog 60 #[.string s] w fun e w' =>
    ∃ v, e = .returned v ∧ w'.ownsRow w.heap.size 9 1 v (linesB s).length ((linesB s).map Value.string) ∧ Chg No w w' := by
  refine callsIn_of_wp Tryz.func60 rfl trivial ?_
  simp only [Tryz.ntmps60, List.size_toArray, List.length_cons, List.length_nil, Nat.reduceAdd, Nat.reduceSub, Array.replicate_succ, Array.replicate_zero, List.push_toArray, List.append_toArray, List.nil_append, List.cons_append]
  gi_wp2_with fail
  refine ⟨trivial, rfl, (lines_seq s hs _).mono ?_⟩
  rintro e w1 ⟨g1, l1, D1, rfl, s1, c1, _⟩
  gi_wp2_with fail
  refine ⟨trivial, rfl, (listR_seq (Nat.le_trans (linesB_len s) hs) _ s1).mono ?_⟩
  rintro e w2 ⟨v2, rfl, r2, c2⟩
  gi_wp2
  go_ret
  exact ⟨_, rfl, rowBase r2 c1.size, Chg.seq c1 c2⟩

set_option maxRecDepth 100000 in
set_option maxHeartbeats 1000000 in
theorem few_in (s : ByteArray) (hs : s.size ≤ 1000000) (w : World) : CallsIn Fence.wide 0 Tryz.prog 79 #[.string s] w fun e w' =>
    e = .returned (.bool (decide ((linesB s).length ≤ 60))) ∧ Chg No w w' := by
  refine callsIn_of_wp_marks Tryz.func79 rfl trivial ?_
  simp only [Tryz.ntmps79, List.size_toArray, List.length_cons, List.length_nil, Nat.reduceAdd, Nat.reduceSub, Array.replicate_succ, Array.replicate_zero, List.push_toArray, List.append_toArray, List.nil_append, List.cons_append]
  gi_wp2_with fail
  refine ⟨trivial, rfl, (lines_seq s hs _).mono ?_⟩
  rintro e w1 ⟨g1, l1, D1, rfl, ⟨I0, it, hI, eg⟩, c1, hD1⟩
  have b0 : Boxed w1 w.heap.size 4 (.bool false) :=
    c1.boxed ((Boxed.new w 4 (.bool false)).alloc (.cells #[.int .i64 0] 3)) (fun h => h)
  have b1 : Boxed w1 (w.heap.size + 1) 3 (.int .i64 0) := by
    have := Boxed.new (w.alloc (.cells #[.bool false] 4)) 3 (.int .i64 0)
    rw [World.size_alloc] at this
    exact c1.boxed this (fun h => h)
  have c0 : Chg No w w1 := Chg.seq (((Chg.refl _ w).alloc _).alloc _) c1
  have hlow : ∀ k, D1 k → w.heap.size + 2 ≤ k := fun k hk => by have := hD1 k hk; simpa using this
  clear c1 hD1
  gi_wp2
  have pK : ∀ pre : List ByteArray, Part (fun S W => S = (fun k => k = w.heap.size ∨ k = w.heap.size + 1) ∧ Boxed W w.heap.size 4 (.bool false) ∧ Boxed W (w.heap.size + 1) 3 (.int .i64 (pre.length : Int))) := fun pre =>
    ⟨by
      rintro S W ⟨rfl, h1, h2⟩ k (h | h)
      · subst h; exact h1.lt
      · subst h; exact h2.lt, by
      rintro S W W' ⟨rfl, h1, h2⟩ hs hk
      exact ⟨rfl, (hk _ (.inl rfl)).trans h1, (hk _ (.inr rfl)).trans h2⟩⟩
  refine wpIn_range (gf := g1) (lb := l1) rfl eg it (fun _ => rfl)
    (fun pre S W => (S = (fun k => k = w.heap.size ∨ k = w.heap.size + 1) ∧ Boxed W w.heap.size 4 (.bool false) ∧ Boxed W (w.heap.size + 1) 3 (.int .i64 (pre.length : Int))) ∧ pre.length ≤ 60)
    (fun c pre S W => (S = (fun k => k = w.heap.size ∨ k = w.heap.size + 1) ∧ Boxed W w.heap.size 4 (.bool false) ∧ Boxed W (w.heap.size + 1) 3 (.int .i64 (pre.length : Int))) ∧ (c = .ret ∧ 60 < pre.length))
    (fun pre => (pK pre).andP _) (fun c pre => (pK pre).andP _)
    (S := fun k => k = w.heap.size ∨ k = w.heap.size + 1) hI ⟨⟨rfl, b0, b1⟩, by simp⟩
    (fun k hk h => by have := hlow k hk; omega)
    (fun x => { tmps := #[.string s, undef, .pointer (some ⟨w.heap.size, 0, none⟩), .pointer (some ⟨w.heap.size + 1, 0, none⟩), .string s, .func (.func g1) #[] l1, .string x, undef, undef, undef, undef], defers := [] }) ?assign ?body ?done ?stop
  case assign =>
    intro l x W K hK
    gi_wp2
    simpa using hK
  case body =>
    rintro lr pre x S2 W hpre ⟨⟨rfl, h0, h1⟩, hle⟩
    have hc0 := h0.cell
    have hc1 := h1.cell
    have hf0 := h0.frozen
    have hf1 := h1.frozen
    have n1 : (W.setCell ⟨w.heap.size + 1, 0, none⟩ (.int .i64 ((pre.length : Int) + 1))).cell? ⟨w.heap.size + 1, 0, none⟩ = some (.int .i64 ((pre.length : Int) + 1)) := (h1.set _).cell
    have h0' := h0.other (show w.heap.size ≠ w.heap.size + 1 by omega) (.int .i64 ((pre.length : Int) + 1))
    have h1' := h1.set (.int .i64 ((pre.length : Int) + 1))
    have hc0' := h0'.cell
    have hf0' := h0'.frozen
    have cs : Chg (fun k => k = w.heap.size ∨ k = w.heap.size + 1) W (W.setCell ⟨w.heap.size + 1, 0, none⟩ (.int .i64 ((pre.length : Int) + 1))) := (Chg.refl _ W).setCell (p := ⟨w.heap.size + 1, 0, none⟩) (.inl (.inr rfl)) _
    have hlen : Hid (((pre ++ [x]).length : Int) = (pre.length : Int) + 1) := by show _ = _; simp
    by_cases hend : 60 < pre.length + 1
    · have hend' : (60 : Int) < (pre.length : Int) + 1 := by omega
      gi_wp2
      refine ⟨_, cs.setCell (p := ⟨w.heap.size, 0, none⟩) (.inl (.inl rfl)) _, Grew.refl _ _, ⟨rfl, h0'.set _, ?_⟩, rfl, by simpa using hend⟩
      rw [hlen.out]
      exact h1'.other (show w.heap.size + 1 ≠ w.heap.size by omega) _
    · have hend' : ¬ (60 : Int) < (pre.length : Int) + 1 := by omega
      gi_wp2
      refine ⟨_, cs, Grew.refl _ _, ⟨rfl, h0', ?_⟩, by simp; omega⟩
      rw [hlen.out]
      exact h1'
  case done =>
    rintro d S' W hd ⟨⟨rfl, h0, h1⟩, hle⟩ hI' hc hg hK hnd
    have hc0 := h0.cell
    have hf0 := h0.frozen
    have hdn : d ≠ w.heap.size := fun e => hnd (.inl e)
    have hd2 : w.heap.size ≤ d := Nat.le_trans c0.size hd
    gi_wp2
    have hK' : (W.setCell ⟨w.heap.size, 0, none⟩ (.bool true)).heap[d]? = some (.deferred (some [])) := (Below.heap_setCell W _ _ d (fun e => hdn e)).trans hK
    refine ⟨by simp, .inl ⟨_, _, rfl, run_takeDeferred hK', ?_⟩⟩
    have h2 : Boxed ((W.setCell ⟨w.heap.size, 0, none⟩ (.bool true)).putObj d (.deferred none)) w.heap.size 4 (.bool true) := (World.putObj_heap_other (fun e => hdn e.symm)).trans (h0.set _)
    have hc2 := h2.cell
    refine ⟨.bool true, ?_, ?_, ?_⟩
    · rw [results_cell1 rfl]
      go_simp
    · first | rfl | rw [decide_eq_true hle]
    · refine Chg.putObj (Chg.setCell (p := ⟨w.heap.size, 0, none⟩) ?_ (.inr (Nat.le_refl _)) _) (.inr hd2) _
      refine c0.trans hc (fun k hk => ?_)
      rcases hk with h | h | h
      · exact h.elim
      · exact .inr (by omega)
      · exact .inr (by omega)
  case stop =>
    rintro d c pre S' W hd hpre ⟨⟨rfl, h0, h1⟩, rfl, hlt⟩ hI' hc hg hK hnd
    have hc0 := h0.cell
    have hdn : d ≠ w.heap.size := fun e => hnd (.inl e)
    have hd2 : w.heap.size ≤ d := Nat.le_trans c0.size hd
    have hl := hpre.length_le
    gi_wp2
    refine ⟨by simp, .inl ⟨_, _, rfl, run_takeDeferred hK, ?_⟩⟩
    have h2 : Boxed (W.putObj d (.deferred none)) w.heap.size 4 (.bool false) := (World.putObj_heap_other (fun e => hdn e.symm)).trans h0
    have hc2 := h2.cell
    refine ⟨.bool false, ?_, ?_, ?_⟩
    · rw [results_cell1 rfl]
      go_simp
    · first | rfl | rw [decide_eq_false (by omega)]
    · refine Chg.putObj ?_ (.inr hd2) _
      refine c0.trans hc (fun k hk => ?_)
      rcases hk with h | h | h
      · exact h.elim
      · exact .inr (by omega)
      · exact .inr (by omega)

end Go.Proofs.YtndblaemladppabGreatDoor

end
section
-- XBy
namespace Go.Proofs.YtndblaemladppabGreatDoor
open Go.RowKit Go.Shelf Go.SeqLib Go.LineLib Go.TextLib
attribute [local go_sem] Oper.semAt_some

set_option maxRecDepth 100000 in
set_option maxHeartbeats 1000000 in
theorem byLines_in (v : Value) (xs : List ByteArray) (w : World) (hv : SlV w v (xs.map Value.string)) (hn : xs.length ≤ 1000) (hs : ∀ x ∈ xs, x.size ≤ 100000) :
    CallsIn Fence.wide 0 Tryz.prog 58 #[v] w fun e w' => e = .returned (.bool (xs.all (fun s => !odd s))) ∧ Chg No w w' := by
  obtain ⟨p, c1, rfl, hp1, hp2, hpc⟩ := hv
  rw [List.length_map] at hp1 ⊢
  obtain ⟨n, HN⟩ : ∃ n, Hid (xs.length = n) := ⟨_, rfl⟩
  rw [HN.out] at hp1 hn ⊢
  obtain ⟨tt, HT⟩ : ∃ t, Hid (xs.all (fun s => !odd s) = t) := ⟨_, rfl⟩
  rw [HT.out]
  refine callsIn_of_wp Tryz.func58 rfl trivial ?_
  simp only [Tryz.ntmps58, List.size_toArray, List.length_cons, List.length_nil, Nat.reduceAdd, Nat.reduceSub, Array.replicate_succ, Array.replicate_zero, List.push_toArray, List.append_toArray, List.nil_append, List.cons_append]
  gi_wp2
  gi_loopw [7] (fun i wr => ∃ k : Nat, k ≤ n ∧ i = .int .i64 (k : Int) ∧ Hid ((xs.drop k).all (fun s => !odd s) = tt) ∧ Chg No w wr) (fun i _ => n - (intOf i).toNat)
  case atStart => exact ⟨0, Nat.zero_le _, rfl, HT, Chg.refl _ _⟩
  case round =>
    obtain ⟨k, hk, rfl, HK, c⟩ := hrel
    by_cases hlt : k < n
    · have hkz : k < xs.length := by rw [HN.out]; exact hlt
      have hlt' : (k : Int) < (n : Int) := by omega
      obtain ⟨b1, o1, rfl, hc1⟩ := hpc k (.string xs[k]) (by simp [hkz])
      have hw1 : wr.cell? ⟨b1, o1 + k, none⟩ = some (.string xs[k]) := (World.cell?_of_block (a := ⟨b1, o1 + k, none⟩) (c.block b1 (World.block_lt_of_cell? w _ hc1) (fun h => h))).trans hc1
      have hsz : xs[k].size ≤ 1000000 := Nat.le_trans (hs xs[k] (List.getElem_mem hkz)) (by decide)
      have HD : Hid ((!odd xs[k] && (xs.drop (k + 1)).all (fun s => !odd s)) = tt) := by
        have := HK.out
        rw [List.drop_eq_getElem_cons hkz, List.all_cons] at this
        exact this
      clear hc1 hpc
      generalize xs[k] = x at *
      have hb := binary_in x wr
      have hf := few_in x hsz wr
      unfold odd at HD
      generalize decide ((0 : UInt8) ∈ L x) = bz at *
      generalize decide ((linesB x).length ≤ 60) = bf at *
      gi_wp2_with fail
      refine ⟨trivial, rfl, hb.mono ?_⟩
      rintro e w1 ⟨rfl, rfl⟩
      clear hb
      cases bz with
      | true =>
        obtain rfl : tt = false := HD.out.symm
        clear hf
        gi_wp2_with fail
        refine ⟨trivial, ?_⟩
        rename_i hKK
        apply hKK
        gi_wp2
        go_ret
        exact ⟨rfl, c⟩
      | false =>
        gi_wp2_with fail
        refine ⟨trivial, rfl, hf.mono ?_⟩
        rintro e w2 ⟨rfl, c2⟩
        clear hf
        cases bf with
        | false =>
          obtain rfl : tt = false := HD.out.symm
          gi_wp2
          go_ret
          exact ⟨rfl, Chg.seq c c2⟩
        | true =>
          have HK2 : Hid ((xs.drop (k + 1)).all (fun s => !odd s) = tt) := HD.out
          gi_wp2
          go_roundw
          case rel => exact ⟨k + 1, hlt, by go_num, HK2, Chg.seq c c2⟩
          case measure => simp [intOf]; omega
    · obtain rfl : k = n := by omega
      have hlt' : ¬ (k : Int) < (k : Int) := by omega
      obtain rfl : tt = true := by
        have := HK.out
        rw [List.drop_eq_nil_of_le (by rw [HN.out]; exact Nat.le_refl _)] at this
        exact this.symm
      gi_wp2
      go_ret
      exact ⟨rfl, c⟩

end Go.Proofs.YtndblaemladppabGreatDoor

end
section
-- XMerge
namespace Go.Proofs.YtndblaemladppabGreatDoor
open Go.RowKit Go.Shelf Go.SeqLib Go.LineLib Go.DiffLib Go.TextLib Go.BigFrame
attribute [local go_sem] Oper.semAt_some

theorem eqT_true {x y : ByteArray} (h : x = y) : (x.toList == y.toList) = true := by rw [h]; simp
theorem eqT_false {x y : ByteArray} (h : ¬ x = y) : (x.toList == y.toList) = false := by rw [beq_eq_false_iff_ne]; exact fun e => h (text_ext e)
theorem lined_all (o a b : ByteArray) : [o, a, b].all (fun s => !odd s) = lined o a b := by
  unfold lined
  simp only [List.all_cons, List.all_nil, Bool.and_true]
theorem lined_few {o a b : ByteArray} (h : lined o a b = true) : (linesB o).length ≤ 60 ∧ (linesB a).length ≤ 60 ∧ (linesB b).length ≤ 60 := by
  have hh : ∀ s, odd s = false → (linesB s).length ≤ 60 := by
    intro s hs
    unfold odd at hs
    simp only [Bool.or_eq_false_iff, Bool.not_eq_false', decide_eq_true_eq] at hs
    exact hs.2
  unfold lined at h
  simp only [Bool.and_eq_true, Bool.not_eq_true'] at h
  exact ⟨hh _ h.1, hh _ h.2.1, hh _ h.2.2⟩

set_option maxRecDepth 100000 in
set_option maxHeartbeats 2000000 in
theorem tmerge_in (o a b : ByteArray) (ho : o.size ≤ 100000) (ha : a.size ≤ 100000) (hb : b.size ≤ 100000) (w : World) :
    CallsIn Fence.wide 0 Tryz.prog 43 #[.string o, .string a, .string b] w fun e w' => e = .returned (.tuple #[.string (txt (tm o a b)), .bool (tm o a b).isSome]) ∧ Chg No w w' := by
  obtain ⟨r, HR⟩ : ∃ r, Hid (tm o a b = r) := ⟨_, rfl⟩
  rw [HR.out]
  have hso := split_in o (by omega)
  have hsa := split_in a (by omega)
  have hsb := split_in b (by omega)
  refine callsIn_of_wp Tryz.func43 rfl trivial ?_
  simp only [Tryz.ntmps43, List.size_toArray, List.length_cons, List.length_nil, Nat.reduceAdd, Nat.reduceSub, Array.replicate_succ, Array.replicate_zero, List.push_toArray, List.append_toArray, List.nil_append, List.cons_append]
  by_cases h1 : a = b
  · have e1 := eqT_true h1
    obtain rfl : r = some a := by rw [← HR.out]; unfold tm; rw [if_pos h1]
    clear h1 HR
    gi_wp2
    go_ret2
    exact ⟨rfl, Chg.refl _ _⟩
  have e1 := eqT_false h1
  by_cases h2 : b = o
  · have e2 := eqT_true h2
    obtain rfl : r = some a := by rw [← HR.out]; unfold tm; rw [if_neg h1, if_pos h2]
    clear h1 h2 HR
    gi_wp2
    go_ret2
    exact ⟨rfl, Chg.refl _ _⟩
  have e2 := eqT_false h2
  by_cases h3 : a = o
  · have e3 := eqT_true h3
    obtain rfl : r = some b := by rw [← HR.out]; unfold tm; rw [if_neg h1, if_neg h2, if_pos h3]
    clear h1 h2 h3 HR
    gi_wp2
    go_ret2
    exact ⟨rfl, Chg.refl _ _⟩
  have e3 := eqT_false h3
  have HR2 : Hid ((if lined o a b = true then byL o a b else none) = r) := by
    rw [← HR.out]; unfold tm; rw [if_neg h1, if_neg h2, if_neg h3]; exact rfl
  clear HR h1 h2 h3
  have hby := fun W v (hv : SlV W v ([o, a, b].map Value.string)) => byLines_in v [o, a, b] W hv (by simp) (fun x hx => by
    rcases List.mem_cons.1 hx with e | hx
    · rw [e]; exact ho
    rcases List.mem_cons.1 hx with e | hx
    · rw [e]; exact ha
    rcases List.mem_cons.1 hx with e | hx
    · rw [e]; exact hb
    · cases hx)
  rw [lined_all] at hby
  obtain ⟨bl, HB⟩ : ∃ q, Hid (lined o a b = q) := ⟨_, rfl⟩
  rw [HB.out] at hby HR2
  gi_wp2_with fail
  refine ⟨trivial, rfl, (hby _ _ (SlV.made w [.string o, .string a, .string b] 9 (by simp))).mono ?_⟩
  rintro e w1 ⟨rfl, c1⟩
  have c0 : Chg No w w1 := Chg.seq ((Chg.refl _ w).alloc _) c1
  clear c1 hby
  cases bl with
  | false =>
    obtain rfl : r = none := HR2.out.symm
    gi_wp2
    go_ret2
    exact ⟨rfl, c0⟩
  | true =>
    obtain ⟨f1, f2, f3⟩ := lined_few HB.out
    have HM : Hid ((mrg (linesB o) (linesB a) (linesB b)).bind fit = r) := HR2.out
    clear HR2 HB
    gi_wp2_with fail
    refine ⟨trivial, rfl, (hso _).mono ?_⟩
    rintro e w2 ⟨v2, rfl, r2, k2⟩
    gi_wp2_with fail
    refine ⟨trivial, rfl, (hsa _).mono ?_⟩
    rintro e w3 ⟨v3, rfl, r3, k3⟩
    gi_wp2_with fail
    refine ⟨trivial, rfl, (hsb _).mono ?_⟩
    rintro e w4 ⟨v4, rfl, r4, k4⟩
    have s2 : SlV w4 v2 ((linesB o).map Value.string) := ((SlV.ofRow (by simpa using r2)).no k3).no k4
    have s3 : SlV w4 v3 ((linesB a).map Value.string) := (SlV.ofRow (by simpa using r3)).no k4
    have s4 : SlV w4 v4 ((linesB b).map Value.string) := SlV.ofRow (by simpa using r4)
    have c4 := Chg.seq c0 (Chg.seq k2 (Chg.seq k3 k4))
    clear r2 r3 r4 k2 k3 k4 c0 hso hsa hsb
    gi_wp2_with fail
    refine ⟨trivial, rfl, (merge_in v2 v3 v4 _ _ _ _ s2 s3 s4 (by omega) (by omega) (by omega)).mono ?_⟩
    rintro e w5 ⟨hres, k5⟩
    have c5 := Chg.seq c4 k5
    clear s2 s3 s4 c4 k5
    unfold appRes at hres
    cases hm : mrg (linesB o) (linesB a) (linesB b) with
    | none =>
      rw [hm] at hres HM
      obtain rfl : r = none := HM.out.symm
      clear hm
      subst hres
      gi_wp2
      go_ret2
      exact ⟨rfl, c5⟩
    | some l =>
      have hz := mrg_size hm
      rw [catB_lines, catB_lines] at hz
      rw [hm] at hres HM
      have HF : Hid (fit l = r) := HM.out
      clear HM hm
      obtain ⟨v', rfl, rr⟩ := hres
      have hj := join_in v' l w5 (SlV.ofRow (by simpa using rr)) (by omega) (by omega)
      clear rr
      unfold fit at HF
      generalize catB l = t at *
      gi_wp2_with fail
      refine ⟨trivial, rfl, hj.mono ?_⟩
      rintro e w6 ⟨rfl, k6⟩
      have c6 := Chg.seq c5 k6
      clear hj k6 c5
      by_cases h4 : 400 < t.size
      · obtain rfl : r = none := by rw [← HF.out, if_pos h4]
        have h4' : (400 : Int) < (t.size : Int) := by omega
        clear HF h4
        gi_wp2
        go_ret2
        exact ⟨rfl, c6⟩
      · obtain rfl : r = some t := by rw [← HF.out, if_neg h4]
        have h4' : ¬ (400 : Int) < (t.size : Int) := by omega
        clear HF h4
        gi_wp2
        go_ret2
        exact ⟨rfl, c6⟩

end Go.Proofs.YtndblaemladppabGreatDoor

end
section
-- XConf
namespace Go.Proofs.YtndblaemladppabGreatDoor
open Go.RowKit Go.Shelf Go.SeqLib Go.LineLib Go.DiffLib Go.TextLib Go.BigFrame
attribute [local go_sem] Oper.semAt_some

theorem cnt_cons (p : Prt ByteArray) (r : List (Prt ByteArray)) : cnt (p :: r) = cnt r + if p.c = true then 1 else 0 := by
  unfold cnt
  rw [List.countP_cons]

end Go.Proofs.YtndblaemladppabGreatDoor

end
section
-- LineR
namespace Go.LineLib
open Go

/-- The lines behind a place, where the first of them ends at i. -/
theorem linesL_cut (l : List UInt8) (a i : Nat) (hai : a ≤ i) (hi : i < l.length) (h1 : ∀ j, a ≤ j → j < i → l[j]? ≠ some 10) (h2 : l[i]? = some 10 ∨ i + 1 = l.length) :
    linesL (l.drop a) = ((l.drop a).take (i + 1 - a)) :: linesL (l.drop (i + 1)) := by
  have hne : l.drop a ≠ [] := by
    intro h
    have := congrArg List.length h
    rw [List.length_drop] at this
    simp at this
    omega
  have he : endL (l.drop a) = (i - a) + 1 := by
    refine endL_at (l.drop a) (i - a) (by rw [List.length_drop]; omega) (fun j hj => ?_) ?_
    · rw [List.getElem?_drop]; exact h1 (a + j) (by omega) (by omega)
    · rw [List.getElem?_drop, List.length_drop, show a + (i - a) = i by omega]
      rcases h2 with h | h
      · exact .inl h
      · exact .inr (by omega)
  rw [linesL_first hne, he, List.drop_drop, show a + (i - a + 1) = i + 1 by omega, show i - a + 1 = i + 1 - a by omega]

/-- As texts: what stands in out, the place at which the next line begins, how far it was looked. -/
def SplitAt (s : ByteArray) (pre : List ByteArray) (a i : Nat) : Prop :=
  a ≤ i ∧ i ≤ s.size ∧ (pre ++ (linesL ((L s).drop a)).map T = linesB s) ∧ (∀ j, a ≤ j → j < i → (L s)[j]? ≠ some 10) ∧ (i = s.size → a = s.size)

theorem SplitAt.start (s : ByteArray) : SplitAt s [] 0 0 := ⟨Nat.le_refl _, Nat.zero_le _, rfl, fun j h1 h2 => by omega, fun h => h⟩
theorem SplitAt.take {s : ByteArray} {pre : List ByteArray} {a i : Nat} (h : SplitAt s pre a i) (hi : i < s.size) (h2 : (s[i]'hi).toNat = 10 ∨ i + 1 = s.size) : SplitAt s (pre ++ [s.extract a (i + 1)]) (i + 1) (i + 1) := by
  obtain ⟨k1, k2, k3, k4, k5⟩ := h
  refine ⟨Nat.le_refl _, hi, ?_, fun j h1 h2 => by omega, fun h => h⟩
  have := linesL_cut (L s) a i k1 hi k4 (by
    rcases h2 with h | h
    · left
      rw [List.getElem?_eq_getElem (show i < (L s).length from hi)]
      exact congrArg some (UInt8.toNat.inj h)
    · exact .inr h)
  rw [this, List.map_cons, ← extract_T] at k3
  rw [← k3]
  simp
theorem SplitAt.pass {s : ByteArray} {pre : List ByteArray} {a i : Nat} (h : SplitAt s pre a i) (hi : i < s.size) (h1 : ¬ (s[i]'hi).toNat = 10) (h2 : ¬ i + 1 = s.size) : SplitAt s pre a (i + 1) := by
  obtain ⟨k1, k2, k3, k4, k5⟩ := h
  refine ⟨by omega, hi, k3, fun j g1 g2 => ?_, fun h => absurd h h2⟩
  by_cases e : j = i
  · subst e
    rw [List.getElem?_eq_getElem (show j < (L s).length from hi)]
    intro h
    exact h1 (congrArg UInt8.toNat (Option.some.inj h))
  · exact k4 j g1 (by omega)
theorem SplitAt.done {s : ByteArray} {pre : List ByteArray} {a : Nat} (h : SplitAt s pre a s.size) : pre = linesB s := by
  obtain ⟨k1, k2, k3, k4, k5⟩ := h
  rw [k5 rfl, List.drop_eq_nil_of_le (show (L s).length ≤ s.size from Nat.le_refl _)] at k3
  simpa [linesL] using k3
theorem SplitAt.len {s : ByteArray} {pre : List ByteArray} {a i : Nat} (h : SplitAt s pre a i) : pre.length ≤ s.size := by
  have h1 := congrArg List.length h.2.2.1
  rw [List.length_append] at h1
  have := linesB_len s
  omega

end Go.LineLib
namespace Go.Proofs.YtndblaemladppabGreatDoor
open Go.RowKit Go.Shelf Go.SeqLib Go.LineLib
open Go.Lib (strCells run_append_own_string)
attribute [local go_sem] Oper.semAt_some

theorem byte_zero {s : ByteArray} {k : Nat} (hk : k < s.size) (h : (s[k]'hk).toNat = 0) : (0 : UInt8) ∈ L s := by
  have h1 : (L s)[k]'(hk) = 0 := UInt8.toNat.inj h
  rw [← h1]
  exact List.getElem_mem _

theorem info5 : (Tryz.prog.info? 5).map (fun i => (i.zero, i.size, i.bytes)) = some (some (.int .u8 0), 1, 1) := by kernel_rfl

theorem wpListIn_append_str {F : Fence} {n : Nat} (w : World) {ops : Array Oper} {rest : List Oper} {o : Oper} {a : Act} {Q : Exit → Act → World → Prop}
    (hg : o.guard = none) (s x : Operand) (hop : o.op = Op.call { callee := Callee.builtin Builtin.append, args := #[s, x], argTypes := #[126, 9] })
    (base : Nat) (v : Value) (k : Nat) (vals : List Value) (hs : a.eval s = v) (hown : w.ownsRow base 5 1 v k vals) (t : ByteArray) (hx : a.eval x = .string t)
    (b1 : k + t.size ≤ 1000000) (b3 : base ≤ w.heap.size)
    (hK : ∀ v' w', w'.ownsRow base 5 1 v' (k + t.size) (vals ++ strCells t) → w.grownBy w' v.ownBlock → wpListIn F n Tryz.prog ops Q rest (a.put o.dst v') w') :
    wpListIn F n Tryz.prog ops Q (o :: rest) a w := by
  obtain ⟨i0, hi, hz0, hz1, hz2⟩ := info_parts info5
  refine wpListIn_plain hg fun K hK' => ?_
  obtain ⟨v', w', hr, h2, h3, h4⟩ := run_append_own_string (P := Tryz.prog) w base 126 9 o.type 5 i0 Tryz.underlying126 Tryz.underlying9 hi hz0 hz1 hz2 v k vals hown t (by unfold maxLen; omega) (by omega) b3
  unfold Oper.wpIn
  refine ⟨?_, ?_⟩
  · simp [Oper.about, hop, resolve, Target.leads, Sem.run_pure]
  · rw [Oper.semAt_plain F _ _ (by rw [hop]; intro c hc'; cases hc')]
    simp [execOp, hop, resolve, invoke, builtin, hs, hx, hr, Result.andThen]
    exact hK' _ _ (hK v' w' h2 h3)

theorem catB_snoc (xs : List ByteArray) (x : ByteArray) : (catB (xs ++ [x])).size = (catB xs).size + x.size := by
  show (((xs ++ [x]).map L).flatten).length = ((xs.map L).flatten).length + (L x).length
  rw [List.map_append, List.flatten_append, List.length_append]
  simp
theorem catB_cells (xs : List ByteArray) (x : ByteArray) : strCells (catB (xs ++ [x])) = strCells (catB xs) ++ strCells x := by
  unfold strCells
  show (((xs ++ [x]).map L).flatten).map _ = (((xs.map L).flatten).map _) ++ _
  rw [List.map_append, List.flatten_append, List.map_append]
  simp
theorem catB_le (xs : List ByteArray) (k : Nat) : (catB (xs.take k)).size ≤ (catB xs).size := by
  show (((xs.take k).map L).flatten).length ≤ ((xs.map L).flatten).length
  conv => rhs; rw [← List.take_append_drop k xs, List.map_append, List.flatten_append, List.length_append]
  omega

/-- Bytes that are owned, as a text. -/
theorem run_bytes_text {w : World} {base : Nat} {p : Option Addr} {n cap : Nat} {t : ByteArray} (hr : w.ownsRow base 5 1 (.slice p n cap) n (strCells t)) (hn : n = t.size) : (convert 126 9 (.slice p n cap)).run Tryz.prog w = .ok (.string t) w := by
  rcases hr.2 with ⟨h, h0⟩ | ⟨g, cap', cur, h, h1⟩
  · rw [Value.slice.injEq] at h
    obtain ⟨rfl, rfl, rfl⟩ := h
    have ht : t = ⟨#[]⟩ := by
      have : L t = [] := List.length_eq_zero_iff.1 hn.symm
      rw [← T_L t, this]
    rw [ht]
    exact run_convert_bytes_nil _ 126 5 Tryz.underlying126 Tryz.underlying5 0 0 9 Tryz.underlying9
  · rw [Value.slice.injEq] at h
    obtain ⟨rfl, _, rfl⟩ := h
    have := run_convert_bytes_back (P := Tryz.prog) w 126 9 5 ⟨g, 0, none⟩ cap (L t) Tryz.underlying126 Tryz.underlying5 Tryz.underlying9 (fun j hj => hr.cells (g := g) rfl j _ (by
      unfold strCells
      rw [List.getElem?_map, List.getElem?_eq_getElem hj]
      rfl))
    rw [show (L t).length = n from by rw [hn]; rfl] at this
    exact this

end Go.Proofs.YtndblaemladppabGreatDoor

end
