/-
  Of: CSpot, TxtC, LineI, LineC, XBy, DLike, SlCut, DFits.
-/
import Derived.Test.YtakbeololabmhaaGreatDoorG03
import Derived.Test.YtakbeololabmhaaGreatDoorG10
import Derived.Test.YtakbeololabmhaaGreatDoorG04
import Derived.Test.YtakbeololabmhaaGreatDoorG02
import Derived.Deep.QuietTactic
import Derived.BigQuiet
import Derived.Test.YtakbeololabmhaaGreatDoorShelf
import Derived.Test.YtakbeololabmhaaGreatDoorG11
import Derived.Test.YtakbeololabmhaaGreatDoorChecked
import Derived.RecoverIn
import Derived.Test.YtakbeololabmhaaGreatDoorG12
import Derived.Test.YtakbeololabmhaaGreatDoorG06
section
-- CSpot
namespace Go.Proofs.YtakbeololabmhaaGreatDoor
open Go.RowKit Go.Shelf Go.SeqLib Go.DiffLib Go.TreeLib

theorem two_of {α : Type} {l : List α} (h : l.length = 2) : ∃ a b, l = [a, b] := by
  match l, h with
  | [a, b], _ => exact ⟨a, b, rfl⟩
/-! ### What a tree has at a path, compared -/
theorem guard_at : Tryz.prog.eqGuardType Tryz.prog.depth 107 = false := by kernel_rfl
theorem run_equalIn_at (x y : Bool × ByteArray) (w : World) : (Op.equalIn 10000 107 (.agg #[.bool x.1, .string x.2]) (.agg #[.bool y.1, .string y.2])).run Tryz.prog w = .ok (decide (x = y)) w := by
  have hbeq : (x.1 == y.1 && x.2.toList == y.2.toList) = decide (x = y) := by
    by_cases h : x = y
    · subst h; simp
    · rw [decide_eq_false h]
      cases hb : (x.1 == y.1 && x.2.toList == y.2.toList) with
      | false => rfl
      | true =>
        exfalso
        simp only [Bool.and_eq_true, beq_iff_eq] at hb
        exact h (Prod.ext hb.1 (toList_inj hb.2))
  have h2 : Tryz.prog.underlying 9 = some .string := by kernel_rfl
  have h3 : Tryz.prog.underlying 4 = some .bool := by kernel_rfl
  have he : ∀ (a b : ByteArray) (w : World), (Op.equalIn 9999 9 (.string a) (.string b)).run Tryz.prog w = .ok (a.toList == b.toList) w := fun a b w => by
    exact run_equalIn_string w 9998 _ a b h2
  have hb : ∀ (a b : Bool) (w : World), (Op.equalIn 9999 4 (.bool a) (.bool b)).run Tryz.prog w = .ok (a == b) w := fun a b w => by
    exact run_equalIn_bool w 9998 _ a b h3
  have hp : Tryz.prog.stoodInHeld 107 = false := by kernel_rfl
  have hu : Tryz.prog.underlying 107 = some (.struct (Tryz.prog.fieldsOf 107)) := by kernel_rfl
  have hf : ((Tryz.prog.fieldsOf 107).toList.map fun f => (f.name == "_", f.type, f.offset)) = [(false, 4, 0), (false, 9, 1)] := by kernel_rfl
  rw [← hbeq, run_equalIn_agg w 9999 _ _ _ hu hp]
  generalize (Tryz.prog.fieldsOf 107).toList = l at hf
  obtain ⟨f1, f2, rfl⟩ := two_of (by have := congrArg List.length hf; simpa using this)
  simp at hf
  obtain ⟨⟨n1, t1, o1⟩, ⟨n2, t2, o2⟩⟩ := hf
  have hpart : ∀ (xs : Array Value) (off : Nat) (v : Value) (w : World), xs[off]? = some v → (part 9 xs off).run Tryz.prog w = .ok v w := fun xs off v w h => run_part_plain w (by kernel_rfl) h
  have hpartb : ∀ (xs : Array Value) (off : Nat) (v : Value) (w : World), xs[off]? = some v → (part 4 xs off).run Tryz.prog w = .ok v w := fun xs off v w h => run_part_plain w (by kernel_rfl) h
  simp [Op.eqFields, n1, n2, t1, t2, o1, o2, hpart, hpartb, he, hb]
  by_cases e1 : x.1 = y.1
  · simp [e1]
    by_cases e2 : x.2.toList = y.2.toList
    · simp [e2]
    · simp [e2]
  · simp [e1]
theorem run_eql_at (x y : Bool × ByteArray) (w : World) : (binOp .eql 107 (.agg #[.bool x.1, .string x.2]) (.agg #[.bool y.1, .string y.2])).run Tryz.prog w = .ok (.bool (decide (x = y))) w := by
  rw [run_eql_struct, run_equalIn_at]
  rfl

attribute [local go_sem] Oper.semAt_some

theorem atP_get (zs : List Fl) (p : ByteArray) : atP zs p = ((TreeLib.get zs p).isSome, getD zs p) := rfl

set_option maxRecDepth 100000 in
set_option maxHeartbeats 1000000 in
theorem at_in (v : Value) (zs : List Fl) (p : ByteArray) (w : World) (hv : SlF w v zs) : CallsIn Fence.wide 0 Tryz.prog 72 #[v, .string p] w fun e w' =>
    e = .returned (.agg #[.bool (atP zs p).1, .string (atP zs p).2]) ∧ Chg No w w' := by
  have hv0 : SlF (w.alloc (.cells #[.bool false, .string ⟨#[]⟩] 107)) v zs := hv.no ((Chg.refl _ w).alloc _)
  have c0 : Chg No w (w.alloc (.cells #[.bool false, .string ⟨#[]⟩] 107)) := (Chg.refl _ w).alloc _
  have G := get_in v zs p _ hv0
  rw [atP_get]
  generalize getD zs p = gs at G ⊢
  generalize (TreeLib.get zs p).isSome = gb at G ⊢
  have hb0 : (w.alloc (.cells #[.bool false, .string ⟨#[]⟩] 107)).heap[w.heap.size]? = some (.cells #[.bool false, .string ⟨#[]⟩] 107 (0, 0)) := World.alloc_heap_new w _
  refine callsIn_of_wp Tryz.func72 rfl trivial ?_
  simp only [Tryz.ntmps72, List.size_toArray, List.length_cons, List.length_nil, Nat.reduceAdd, Nat.reduceSub, Array.replicate_succ, Array.replicate_zero, List.push_toArray, List.append_toArray, List.nil_append, List.cons_append]
  gi_wp2_with fail
  refine ⟨trivial, rfl, G.mono ?_⟩
  rintro e w1 ⟨rfl, c1⟩
  have hb1 : w1.heap[w.heap.size]? = some (.cells #[.bool false, .string ⟨#[]⟩] 107 (0, 0)) := c1.same hb0 (fun h => h)
  have k1 : w1.cell? ⟨w.heap.size, 0, none⟩ = some (.bool false) := by simp [World.cell?, hb1]
  have k2 : w1.cell? ⟨w.heap.size, 1, none⟩ = some (.string ⟨#[]⟩) := by simp [World.cell?, hb1]
  have f1 : w1.frozen? ⟨w.heap.size, 0, none⟩ = false := by simp [World.frozen?, hb1]
  have f2 : w1.frozen? ⟨w.heap.size, 1, none⟩ = false := by simp [World.frozen?, hb1]
  clear hb0 hb1 G hv0
  gi_wp2
  refine bodyPost_ret (v := .agg #[.bool gb, .string gs]) ?_ rfl ⟨rfl, ((Chg.seq c0 c1).setCell (p := ⟨w.heap.size, 0, none⟩) (.inr (Nat.le_refl _)) _).setCell (p := ⟨w.heap.size, 1, none⟩) (.inr (Nat.le_refl _)) _⟩
  rw [results_cell1 rfl]
  go_simp

end Go.Proofs.YtakbeololabmhaaGreatDoor

end
section
-- TxtC
namespace Go.Proofs.YtakbeololabmhaaGreatDoor
open Go.RowKit Go.Shelf Go.SeqLib
attribute [local go_sem] Oper.semAt_some

set_option maxRecDepth 100000 in
set_option maxHeartbeats 1000000 in
theorem listS_in {gs : Nat} {lbs : Array Value} {xs : List ByteArray} {D M : Blk} {I0 : World → Prop} {I : List ByteArray → World → Prop} (it : Iter Tryz.prog gs lbs encS xs D M I0 I) (eg : ∀ args w, (callFunc gs args).run Tryz.prog w = .ok (.enter gs args) w)
    (hlen : xs.length ≤ 1000000) (w : World) (hI : I0 w) :
    CallsIn Fence.wide 0 Tryz.prog 143 #[.func (.func gs) #[] lbs] w fun e w' => ∃ v, e = .returned v ∧ w'.ownsRow w.heap.size 9 1 v xs.length (xs.map (Value.string)) ∧ I xs w' ∧ Chg M w w' := by
  obtain ⟨i0, hi, hz0, hz1, hz2⟩ := info_parts info9
  have hnil := fun w => run_eql_func_nil Tryz.underlying166 (.func gs) #[] lbs w
  refine callsIn_of_wp_marks Tryz.func143 rfl trivial ?_
  simp only [Tryz.ntmps143, List.size_toArray, List.length_cons, List.length_nil, Nat.reduceAdd, Nat.reduceSub, Array.replicate_succ, Array.replicate_zero, List.push_toArray, List.append_toArray, List.nil_append, List.cons_append]
  gi_wp2
  have bO := Boxed.new w 86 (.slice none 0 0)
  have c0 : Chg (fun _ => False) w (w.alloc (.cells #[.slice none 0 0] 86)) := (Chg.refl _ w).alloc _
  refine wpIn_range (gf := gs) (lb := lbs) rfl eg it (fun _ => rfl)
    (fun pre S W => RowBox w.heap.size w.heap.size 86 9 (pre.map (Value.string)) S W ∧ w.heap.size ≤ W.heap.size) (fun _ _ _ _ => False) (fun pre => ⟨fun h => (RowBox.part _ _ _ _ _).lt h.1, fun h hs hk => ⟨(RowBox.part _ _ _ _ _).kept h.1 hs hk, Nat.le_trans h.2 hs⟩⟩) (fun _ _ => Part.false)
    (S := fun k => k = w.heap.size ∨ Value.ownBlock (.slice none 0 0) = some k) (it.kept0 hI c0.size (fun k hk => c0.block k (it.lt0 hI k hk) (fun h => h))) ⟨⟨_, rfl, bO, World.ownsRow_nil _ _ _ _⟩, c0.size⟩
    (fun k hk h => by
      rcases h with h | h
      · have := it.lt0 hI k hk; omega
      · cases h)
    (fun x => { tmps := #[.func (.func gs) #[] lbs, undef, .slice none 0 0, .pointer (some ⟨w.heap.size, 0, none⟩), .string x, .func (.func gs) #[] lbs, .bool false, .func (.func gs) #[] lbs, .string x, undef, undef, undef, undef, undef], defers := [] }) ?assign ?body ?done ?stop
  case assign =>
    intro l x W K hK
    gi_wp2
    exact hK
  case body =>
    rintro lr pre x S2 W hpre ⟨⟨v, rfl, hv, hrow⟩, hsz⟩
    have hc := hv.cell
    have hpl : pre.length + 1 ≤ 1000000 := by have := hpre.length_le; simp at this; omega
    have hml : (pre.map (Value.string)).length + 1 ≤ 1000000 := by simpa using hpl
    have hmx : (pre.map (Value.string)).length + 1 ≤ maxLen := by unfold maxLen; omega
    gi_wp2_with (gi_at_builtin; refine wpListIn_append_at _ rfl _ _ 86 rfl w.heap.size 9 i0 (.string ⟨#[]⟩) 1 16 Tryz.underlying86 hi hz0 hz1 hz2 rfl (by decide) _ _ _ rfl (hrow.alloc _) ⟨W.heap.size, 0, none⟩ 1 1 [.string x] rfl rfl (cell_one_new _ _ _) (by simp [Value.oneCell']) hmx (by omega) (by simp; omega) ?_; intro v' w1 hown' hgrow _ hat; obtain ⟨g', cap', rfl⟩ := ownsRow_succ hown'; obtain ⟨hv1, hv2, hr2, hcg, hgw⟩ := RowBox.step hv (by decide) hrow hown' hgrow hat; have hc1 := hv1.cell; have hf1 := hv1.frozen)
    simp only [List.length_map] at hcg hgw hv2 hr2
    refine ⟨_, hcg, hgw, ⟨⟨_, rfl, hv2, ?_⟩, Nat.le_trans hsz hcg.size⟩⟩
    simpa using hr2
  case done =>
    rintro d S' W hd ⟨⟨v, rfl, hv, hrow⟩, hsz⟩ hI' hc hg hK hnd
    have hd' : w.heap.size + 1 ≤ d := by simpa using hd
    have hcl := hv.cell
    gi_wp2
    refine ⟨by simp, .inl ⟨_, _, rfl, run_takeDeferred hK, ?_⟩⟩
    refine ⟨_, results_tmp rfl _ _ _, v, rfl, ?_, it.kept hI' (by simp) (fun k hk => World.putObj_heap_other (by have := it.lt0 hI k hk; omega)), ?_⟩
    · have := ownsRow_putObj hrow (.deferred none) hK rfl
      simpa using this
    · refine ⟨hc.os, hc.tape, hc.output, by simpa using hsz, fun k hk hn => ?_⟩
      refine (World.putObj_heap_other (by omega)).trans ((hc.block k (by simp; omega) ?_).trans (c0.block k hk (fun h => h)))
      rintro (h | h | h)
      · exact hn h
      · omega
      · cases h
  case stop =>
    rintro d c pre S' W _ _ h
    exact h.elim

end Go.Proofs.YtakbeololabmhaaGreatDoor

end
section
-- LineI
namespace Go.Proofs.YtakbeololabmhaaGreatDoor
open Go.RowKit Go.Shelf Go.SeqLib Go.LineLib
attribute [local go_sem] Oper.semAt_some

theorem indexByte_in (s : ByteArray) (c : Int) (w : World) : CallsIn Fence.wide 0 Tryz.prog 163 #[.string s, .int .u8 c] w fun e w' =>
    e = .returned (.int .i64 (Lib.indexByte s.data.toList c.toNat.toUInt8)) ∧ w' = w := callsIn_wide.2 (Any.strings_IndexByte Tryz.lays137 s c w)

set_option maxHeartbeats 1000000 in
theorem lineEnd_in (s : ByteArray) (hs : s.size ≤ 1000000) (w : World) : CallsIn Fence.wide 0 Tryz.prog 170 #[.string s] w fun e w' => e = .returned (.int .i64 (endL (L s) : Int)) ∧ w' = w := by
  refine callsIn_of_wp Tryz.func170 rfl trivial ?_
  simp only [Tryz.ntmps170, List.size_toArray, List.length_cons, List.length_nil, Nat.reduceAdd, Nat.reduceSub, Array.replicate_succ, Array.replicate_zero, List.push_toArray, List.append_toArray, List.nil_append, List.cons_append]
  gi_wp2_with fail
  refine ⟨trivial, rfl, (indexByte_in s 10 _).mono ?_⟩
  rintro e w1 ⟨rfl, rfl⟩
  have he : Hid ((if 0 ≤ Lib.indexByte (L s) 10 then Lib.indexByte (L s) 10 + 1 else ((L s).length : Int)) = (endL (L s) : Int)) := endL_index (L s)
  have hle : Hid (endL (L s) ≤ 1000000) := Nat.le_trans (endL_le _) hs
  rw [show (10 : Int).toNat.toUInt8 = 10 from rfl]
  obtain ⟨k, hk⟩ : ∃ k, k = Lib.indexByte s.data.toList 10 := ⟨_, rfl⟩
  rw [← hk] at he ⊢
  by_cases h0 : 0 ≤ k
  · have hk1 : Hid (k + 1 = (endL (L s) : Int)) := by have := he.out; rw [if_pos h0] at this; exact this
    have hk2 : k ≤ 1000000 := by have := hk1.out; have := hle.out; omega
    clear he hk
    gi_wp2
    go_ret
    exact ⟨by rw [hk1.out]; rfl, rfl⟩
  · have hk1 : Hid (((L s).length : Int) = (endL (L s) : Int)) := by have := he.out; rw [if_neg h0] at this; exact this
    clear he hk
    gi_wp2
    go_ret
    exact ⟨by rw [size_L, hk1.out]; rfl, rfl⟩

set_option maxHeartbeats 1000000 in
theorem binary_in (s : ByteArray) (w : World) : CallsIn Fence.wide 0 Tryz.prog 138 #[.string s] w fun e w' => e = .returned (.bool (decide ((0 : UInt8) ∈ L s))) ∧ w' = w := by
  refine callsIn_of_wp Tryz.func138 rfl trivial ?_
  simp only [Tryz.ntmps138, List.size_toArray, List.length_cons, List.length_nil, Nat.reduceAdd, Nat.reduceSub, Array.replicate_succ, Array.replicate_zero, List.push_toArray, List.append_toArray, List.nil_append, List.cons_append]
  gi_wp2_with fail
  refine ⟨trivial, rfl, (indexByte_in s 0 _).mono ?_⟩
  rintro e w1 ⟨rfl, rfl⟩
  have he : Hid (decide (0 ≤ Lib.indexByte s.data.toList 0) = decide ((0 : UInt8) ∈ L s)) := by
    show _ = _
    exact decide_eq_decide.2 (index_has 0 _)
  rw [show (0 : Int).toNat.toUInt8 = 0 from rfl]
  generalize Lib.indexByte s.data.toList 0 = k at *
  gi_wp2
  go_ret
  exact ⟨by rw [← he.out]; rfl, rfl⟩

theorem cat_join (xs : List ByteArray) : (⟨(Lib.join (xs.map (·.data.toList)) (⟨#[]⟩ : ByteArray).data.toList).toArray⟩ : ByteArray) = catB xs := by
  have h : ∀ ys : List (List UInt8), ([] : List UInt8).intercalate ys = ys.flatten := by
    intro ys
    unfold List.intercalate
    induction ys with
    | nil => rfl
    | cons y r ih =>
      cases r with
      | nil => simp
      | cons z r' => simp at ih ⊢; exact ih
  unfold catB Lib.join
  rw [h]

set_option maxHeartbeats 1000000 in
theorem sjoin_in (v : Value) (xs : List ByteArray) (w : World) (hv : SlV w v (xs.map Value.string)) (hlen : (catB xs).size ≤ 1000000) (hn : xs.length ≤ 1000000) :
    CallsIn Fence.wide 0 Tryz.prog 145 #[v, .string ⟨#[]⟩] w fun e w' => e = .returned (.string (catB xs)) ∧ Chg No w w' := by
  obtain ⟨p, cap, rfl, h1, h2, hc⟩ := hv
  rw [List.length_map] at h1 ⊢
  cases xs with
  | nil =>
    refine (callsIn_wide.2 (Any.strings_Join_none Tryz.lays156 Tryz.Builder_Extra_156 p cap ⟨#[]⟩ w)).mono ?_
    rintro e w' ⟨rfl, rfl⟩
    exact ⟨rfl, Chg.refl _ _⟩
  | cons x r =>
    obtain ⟨b, off, rfl, hcell⟩ := hc 0 (.string x) rfl
    have hb := World.block_lt_of_cell? w _ hcell
    have hlen' : (Lib.join ((x :: r).map (·.data.toList)) (⟨#[]⟩ : ByteArray).data.toList).length ≤ 140737488355328 := by
      have e := cat_join (x :: r)
      have : (Lib.join ((x :: r).map (·.data.toList)) (⟨#[]⟩ : ByteArray).data.toList).length = (catB (x :: r)).size := by rw [← e]; rfl
      omega
    refine (callsIn_wide.2 (Any.strings_Join Tryz.lays156 Tryz.Builder_Extra_156 b off cap (x :: r) ⟨#[]⟩ w (fun j y hj => ?_) hb (by omega) h1 hlen')).mono ?_
    · obtain ⟨b', off', e, h⟩ := hc j (.string y) (by rw [List.getElem?_map, hj]; rfl)
      cases e
      exact h
    · rintro e w' ⟨rfl, hb'⟩
      exact ⟨by rw [cat_join], Chg.none hb' _⟩

set_option maxHeartbeats 1000000 in
theorem join_in (v : Value) (xs : List ByteArray) (w : World) (hv : SlV w v (xs.map Value.string)) (hlen : (catB xs).size ≤ 1000000) (hn : xs.length ≤ 1000000) :
    CallsIn Fence.wide 0 Tryz.prog 113 #[v] w fun e w' => e = .returned (.string (catB xs)) ∧ Chg No w w' := by
  have HV : Hid (SlV w v (xs.map Value.string)) := hv
  obtain ⟨p, cap, rfl, _⟩ := hv
  generalize hm : (xs.map Value.string).length = m at HV ⊢
  clear hm
  refine callsIn_of_wp Tryz.func113 rfl trivial ?_
  simp only [Tryz.ntmps113, List.size_toArray, List.length_cons, List.length_nil, Nat.reduceAdd, Nat.reduceSub, Array.replicate_succ, Array.replicate_zero, List.push_toArray, List.append_toArray, List.nil_append, List.cons_append]
  gi_wp2_with fail
  refine ⟨trivial, rfl, (sjoin_in _ xs _ HV.out hlen hn).mono ?_⟩
  rintro e w1 ⟨rfl, c1⟩
  gi_wp2
  go_ret
  exact ⟨rfl, c1⟩

/-- A text's length, off its value. -/
def strSize : Value → Nat
  | .string s => s.size
  | _ => 0

set_option maxRecDepth 100000 in
set_option maxHeartbeats 1000000 in
theorem lines1 (s : ByteArray) (hs : s.size ≤ 1000000) (B : Nat) :
    Iter Tryz.prog 169 #[.pointer (some ⟨B, 0, none⟩)] encS (linesB s) (fun k => k = B) (fun _ => False)
      (fun W => Boxed W B 9 (.string s)) (fun _ W => Boxed W B 9 (.string s)) := {
  sub := fun _ h => h.elim
  lt0 := by rintro W b1 k rfl; exact b1.lt
  kept0 := by rintro W W' b1 _ hk; exact (hk _ rfl).trans b1
  kept := by rintro pre W W' b1 _ hk; exact (hk _ rfl).trans b1
  runs := by
    intro l J Jx S W pJ pJx hY hI hJ hDS
    have b1 := hI
    have hc1 := b1.cell
    refine callsIn_of_wp Tryz.func169 rfl trivial ?_
    simp only [Tryz.ntmps169, List.size_toArray, List.length_cons, List.length_nil, Nat.reduceAdd, Nat.reduceSub, Array.replicate_succ, Array.replicate_zero, List.push_toArray, List.append_toArray, List.nil_append, List.cons_append]
    gi_wp2
    gi_loopw [3] (fun r wr => ∃ (q : ByteArray) (pre : List ByteArray) (So : Blk), q.size ≤ 1000000 ∧ r = .string q ∧ Hid (pre ++ linesB q = linesB s) ∧ J pre So wr ∧ Chg S W wr ∧ Grew S W So)
      (fun r _ => strSize r)
    case atStart => exact ⟨s, [], S, hs, rfl, rfl, hJ, Chg.refl _ _, Grew.refl _ _⟩
    case round =>
      obtain ⟨q, pre, So, hq, rfl, HP, j, c, g⟩ := hrel
      have hfin : ∀ {W9 : World}, Chg S W W9 → Boxed W9 B 9 (.string s) := fun c9 => c9.boxed b1 (hDS _ rfl)
      by_cases h0 : q.size = 0
      · have HE : Hid (pre = linesB s) := by have := HP.out; rw [linesB_nil h0, List.append_nil] at this; exact this
        have hq0 : q.toList.isEmpty = true := by
          rw [Go.ByteArray.toList_eq, List.isEmpty_iff]; exact List.length_eq_zero_iff.1 h0
        gi_wp2
        go_end0
        exact ⟨⟨_, rfl⟩, _, So, .inl ⟨HE.out, j⟩, hfin c, c.mono (fun _ => .inr), g⟩
      · have hq0 : q.toList.isEmpty = false := by
          rw [Go.ByteArray.toList_eq]
          cases hd : q.data.toList with
          | nil => exact absurd (by rw [size_L]; show q.data.toList.length = 0; rw [hd]; rfl) h0
          | cons x r => rfl
        have HF : Hid (linesB q = q.extract 0 (endL (L q)) :: linesB (q.extract (endL (L q)) q.size)) := linesB_first h0
        have hk1 : 1 ≤ endL (L q) := endL_pos (L_ne h0)
        have hk2 : endL (L q) ≤ q.size := endL_le _
        gi_wp2_with fail
        refine ⟨trivial, rfl, (lineEnd_in q hq _).mono ?_⟩
        rintro e w1 ⟨rfl, rfl⟩
        generalize endL (L q) = k at *
        have HP2 : Hid ((pre ++ [q.extract 0 k]) ++ linesB (q.extract k q.size) = linesB s) := by
          show _ = _
          have := HP.out
          rw [HF.out] at this
          simpa using this
        have hpr : pre ++ [q.extract 0 k] <+: linesB s := ⟨_, HP2.out⟩
        have hsz : (q.extract k q.size).size = q.size - k := by rw [ByteArray.size_extract]; omega
        obtain ⟨fnr, tmps, assign, body, hy, hR⟩ := hY pre (q.extract 0 k) So w1 hpr j
        clear HF HP h0
        gi_wp2
        refine ⟨rfl, hR.mono ?_⟩
        rintro e W3 ⟨S3, c3, g3, (⟨rfl, j3⟩ | ⟨rfl, j3⟩)⟩
        · have cc := c.trans c3 g
          have gg := g.trans g3 c.size
          gi_wp2
          go_roundw
          case rel => exact ⟨q.extract k q.size, _, S3, by omega, rfl, HP2, j3, cc, gg⟩
          case measure => simp [strSize]; omega
        · have cc := c.trans c3 g
          have gg := g.trans g3 c.size
          gi_wp2
          refine bodyPost_ret (results_none rfl _ _ _) rfl ?_
          exact ⟨⟨_, rfl⟩, _, S3, .inr ⟨hpr, j3⟩, hfin cc, cc.mono (fun _ => .inr), gg⟩ }

end Go.Proofs.YtakbeololabmhaaGreatDoor

end
section
-- LineC
namespace Go.Proofs.YtakbeololabmhaaGreatDoor
open Go.RowKit Go.Shelf Go.SeqLib Go.LineLib
attribute [local go_sem] Oper.semAt_some

set_option maxHeartbeats 1000000 in
theorem lines_in (s : ByteArray) (w : World) : CallsIn Fence.wide 0 Tryz.prog 144 #[.string s] w fun e w' =>
    e = .returned (.func (.func 169) #[] #[.pointer (some ⟨w.heap.size, 0, none⟩)]) ∧ w' = w.alloc (.cells #[.string s] 9) := by
  refine callsIn_of_wp Tryz.func144 rfl trivial ?_
  simp only [Tryz.ntmps144, List.size_toArray, List.length_cons, List.length_nil, Nat.reduceAdd, Nat.reduceSub, Array.replicate_succ, Array.replicate_zero, List.push_toArray, List.append_toArray, List.nil_append, List.cons_append]
  gi_wp2
  go_ret
  exact ⟨rfl, rfl⟩

/-- Lines: the sequence of the lines. -/
theorem lines_seq (s : ByteArray) (hs : s.size ≤ 1000000) (w : World) : CallsIn Fence.wide 0 Tryz.prog 144 #[.string s] w fun e w' =>
    ∃ gf lb D, e = .returned (.func (.func gf) #[] lb) ∧ PSeqS w' gf lb (linesB s) D ∧ Chg No w w' ∧ ∀ k, D k → w.heap.size ≤ k := by
  refine (lines_in s w).mono ?_
  rintro e w' ⟨rfl, rfl⟩
  exact ⟨_, _, _, rfl, ⟨_, lines1 s hs w.heap.size, Boxed.new _ _ _, enters_of Tryz.func169 (by kernel_rfl) rfl⟩, (Chg.refl _ w).alloc _, fun k hk => by subst hk; exact Nat.le_refl _⟩

/-- seq.List of a sequence that turns nothing, with what it owns. -/
theorem listR_seq {gs : Nat} {lbs : Array Value} {xs : List ByteArray} {D : Blk} (hlen : xs.length ≤ 1000000) (w : World) (hs : PSeqS w gs lbs xs D) :
    CallsIn Fence.wide 0 Tryz.prog 143 #[.func (.func gs) #[] lbs] w fun e w' => ∃ v, e = .returned v ∧ w'.ownsRow w.heap.size 9 1 v xs.length (xs.map Value.string) ∧ Chg No w w' := by
  obtain ⟨I0, it, hi, eg⟩ := hs
  refine (listS_in it eg hlen w hi).mono ?_
  rintro e w' ⟨v, rfl, hr, _, c⟩
  exact ⟨v, rfl, hr, c⟩

set_option maxHeartbeats 1000000 in
theorem split_in (s : ByteArray) (hs : s.size ≤ 1000000) (w : World) : CallsIn Fence.wide 0 Tryz.prog 112 #[.string s] w fun e w' =>
    ∃ v, e = .returned v ∧ w'.ownsRow w.heap.size 9 1 v (linesB s).length ((linesB s).map Value.string) ∧ Chg No w w' := by
  refine callsIn_of_wp Tryz.func112 rfl trivial ?_
  simp only [Tryz.ntmps112, List.size_toArray, List.length_cons, List.length_nil, Nat.reduceAdd, Nat.reduceSub, Array.replicate_succ, Array.replicate_zero, List.push_toArray, List.append_toArray, List.nil_append, List.cons_append]
  gi_wp2_with fail
  refine ⟨trivial, rfl, (lines_seq s hs _).mono ?_⟩
  rintro e w1 ⟨g1, l1, D1, rfl, s1, c1, _⟩
  gi_wp2_with fail
  refine ⟨trivial, rfl, (listR_seq (Nat.le_trans (linesB_len s) hs) _ s1).mono ?_⟩
  rintro e w2 ⟨v2, rfl, r2, c2⟩
  gi_wp2
  go_ret
  exact ⟨_, rfl, rowBase r2 c1.size, Chg.seq c1 c2⟩

set_option maxRecDepth 100000 in
set_option maxHeartbeats 1000000 in
theorem few_in (s : ByteArray) (hs : s.size ≤ 1000000) (w : World) : CallsIn Fence.wide 0 Tryz.prog 139 #[.string s] w fun e w' =>
    e = .returned (.bool (decide ((linesB s).length ≤ 60))) ∧ Chg No w w' := by
  refine callsIn_of_wp_marks Tryz.func139 rfl trivial ?_
  simp only [Tryz.ntmps139, List.size_toArray, List.length_cons, List.length_nil, Nat.reduceAdd, Nat.reduceSub, Array.replicate_succ, Array.replicate_zero, List.push_toArray, List.append_toArray, List.nil_append, List.cons_append]
  gi_wp2_with fail
  refine ⟨trivial, rfl, (lines_seq s hs _).mono ?_⟩
  rintro e w1 ⟨g1, l1, D1, rfl, ⟨I0, it, hI, eg⟩, c1, hD1⟩
  have b0 : Boxed w1 w.heap.size 4 (.bool false) :=
    c1.boxed ((Boxed.new w 4 (.bool false)).alloc (.cells #[.int .i64 0] 3)) (fun h => h)
  have b1 : Boxed w1 (w.heap.size + 1) 3 (.int .i64 0) := by
    have := Boxed.new (w.alloc (.cells #[.bool false] 4)) 3 (.int .i64 0)
    rw [World.size_alloc] at this
    exact c1.boxed this (fun h => h)
  have c0 : Chg No w w1 := Chg.seq (((Chg.refl _ w).alloc _).alloc _) c1
  have hlow : ∀ k, D1 k → w.heap.size + 2 ≤ k := fun k hk => by have := hD1 k hk; simpa using this
  clear c1 hD1
  gi_wp2
  have pK : ∀ pre : List ByteArray, Part (fun S W => S = (fun k => k = w.heap.size ∨ k = w.heap.size + 1) ∧ Boxed W w.heap.size 4 (.bool false) ∧ Boxed W (w.heap.size + 1) 3 (.int .i64 (pre.length : Int))) := fun pre =>
    ⟨by
      rintro S W ⟨rfl, h1, h2⟩ k (h | h)
      · subst h; exact h1.lt
      · subst h; exact h2.lt, by
      rintro S W W' ⟨rfl, h1, h2⟩ hs hk
      exact ⟨rfl, (hk _ (.inl rfl)).trans h1, (hk _ (.inr rfl)).trans h2⟩⟩
  refine wpIn_range (gf := g1) (lb := l1) rfl eg it (fun _ => rfl)
    (fun pre S W => (S = (fun k => k = w.heap.size ∨ k = w.heap.size + 1) ∧ Boxed W w.heap.size 4 (.bool false) ∧ Boxed W (w.heap.size + 1) 3 (.int .i64 (pre.length : Int))) ∧ pre.length ≤ 60)
    (fun c pre S W => (S = (fun k => k = w.heap.size ∨ k = w.heap.size + 1) ∧ Boxed W w.heap.size 4 (.bool false) ∧ Boxed W (w.heap.size + 1) 3 (.int .i64 (pre.length : Int))) ∧ (c = .ret ∧ 60 < pre.length))
    (fun pre => (pK pre).andP _) (fun c pre => (pK pre).andP _)
    (S := fun k => k = w.heap.size ∨ k = w.heap.size + 1) hI ⟨⟨rfl, b0, b1⟩, by simp⟩
    (fun k hk h => by have := hlow k hk; omega)
    (fun x => { tmps := #[.string s, undef, .pointer (some ⟨w.heap.size, 0, none⟩), .pointer (some ⟨w.heap.size + 1, 0, none⟩), .string s, .func (.func g1) #[] l1, .string x, undef, undef, undef, undef], defers := [] }) ?assign ?body ?done ?stop
  case assign =>
    intro l x W K hK
    gi_wp2
    simpa using hK
  case body =>
    rintro lr pre x S2 W hpre ⟨⟨rfl, h0, h1⟩, hle⟩
    have hc0 := h0.cell
    have hc1 := h1.cell
    have hf0 := h0.frozen
    have hf1 := h1.frozen
    have n1 : (W.setCell ⟨w.heap.size + 1, 0, none⟩ (.int .i64 ((pre.length : Int) + 1))).cell? ⟨w.heap.size + 1, 0, none⟩ = some (.int .i64 ((pre.length : Int) + 1)) := (h1.set _).cell
    have h0' := h0.other (show w.heap.size ≠ w.heap.size + 1 by omega) (.int .i64 ((pre.length : Int) + 1))
    have h1' := h1.set (.int .i64 ((pre.length : Int) + 1))
    have hc0' := h0'.cell
    have hf0' := h0'.frozen
    have cs : Chg (fun k => k = w.heap.size ∨ k = w.heap.size + 1) W (W.setCell ⟨w.heap.size + 1, 0, none⟩ (.int .i64 ((pre.length : Int) + 1))) := (Chg.refl _ W).setCell (p := ⟨w.heap.size + 1, 0, none⟩) (.inl (.inr rfl)) _
    have hlen : Hid (((pre ++ [x]).length : Int) = (pre.length : Int) + 1) := by show _ = _; simp
    by_cases hend : 60 < pre.length + 1
    · have hend' : (60 : Int) < (pre.length : Int) + 1 := by omega
      gi_wp2
      refine ⟨_, cs.setCell (p := ⟨w.heap.size, 0, none⟩) (.inl (.inl rfl)) _, Grew.refl _ _, ⟨rfl, h0'.set _, ?_⟩, rfl, by simpa using hend⟩
      rw [hlen.out]
      exact h1'.other (show w.heap.size + 1 ≠ w.heap.size by omega) _
    · have hend' : ¬ (60 : Int) < (pre.length : Int) + 1 := by omega
      gi_wp2
      refine ⟨_, cs, Grew.refl _ _, ⟨rfl, h0', ?_⟩, by simp; omega⟩
      rw [hlen.out]
      exact h1'
  case done =>
    rintro d S' W hd ⟨⟨rfl, h0, h1⟩, hle⟩ hI' hc hg hK hnd
    have hc0 := h0.cell
    have hf0 := h0.frozen
    have hdn : d ≠ w.heap.size := fun e => hnd (.inl e)
    have hd2 : w.heap.size ≤ d := Nat.le_trans c0.size hd
    gi_wp2
    have hK' : (W.setCell ⟨w.heap.size, 0, none⟩ (.bool true)).heap[d]? = some (.deferred (some [])) := (Below.heap_setCell W _ _ d (fun e => hdn e)).trans hK
    refine ⟨by simp, .inl ⟨_, _, rfl, run_takeDeferred hK', ?_⟩⟩
    have h2 : Boxed ((W.setCell ⟨w.heap.size, 0, none⟩ (.bool true)).putObj d (.deferred none)) w.heap.size 4 (.bool true) := (World.putObj_heap_other (fun e => hdn e.symm)).trans (h0.set _)
    have hc2 := h2.cell
    refine ⟨.bool true, ?_, ?_, ?_⟩
    · rw [results_cell1 rfl]
      go_simp
    · first | rfl | rw [decide_eq_true hle]
    · refine Chg.putObj (Chg.setCell (p := ⟨w.heap.size, 0, none⟩) ?_ (.inr (Nat.le_refl _)) _) (.inr hd2) _
      refine c0.trans hc (fun k hk => ?_)
      rcases hk with h | h | h
      · exact h.elim
      · exact .inr (by omega)
      · exact .inr (by omega)
  case stop =>
    rintro d c pre S' W hd hpre ⟨⟨rfl, h0, h1⟩, rfl, hlt⟩ hI' hc hg hK hnd
    have hc0 := h0.cell
    have hdn : d ≠ w.heap.size := fun e => hnd (.inl e)
    have hd2 : w.heap.size ≤ d := Nat.le_trans c0.size hd
    have hl := hpre.length_le
    gi_wp2
    refine ⟨by simp, .inl ⟨_, _, rfl, run_takeDeferred hK, ?_⟩⟩
    have h2 : Boxed (W.putObj d (.deferred none)) w.heap.size 4 (.bool false) := (World.putObj_heap_other (fun e => hdn e.symm)).trans h0
    have hc2 := h2.cell
    refine ⟨.bool false, ?_, ?_, ?_⟩
    · rw [results_cell1 rfl]
      go_simp
    · first | rfl | rw [decide_eq_false (by omega)]
    · refine Chg.putObj ?_ (.inr hd2) _
      refine c0.trans hc (fun k hk => ?_)
      rcases hk with h | h | h
      · exact h.elim
      · exact .inr (by omega)
      · exact .inr (by omega)

end Go.Proofs.YtakbeololabmhaaGreatDoor

end
section
-- XBy
namespace Go.Proofs.YtakbeololabmhaaGreatDoor
open Go.RowKit Go.Shelf Go.SeqLib Go.LineLib Go.TextLib
attribute [local go_sem] Oper.semAt_some

set_option maxRecDepth 100000 in
set_option maxHeartbeats 1000000 in
theorem byLines_in (v : Value) (xs : List ByteArray) (w : World) (hv : SlV w v (xs.map Value.string)) (hn : xs.length ≤ 1000) (hs : ∀ x ∈ xs, x.size ≤ 100000) :
    CallsIn Fence.wide 0 Tryz.prog 110 #[v] w fun e w' => e = .returned (.bool (xs.all (fun s => !odd s))) ∧ Chg No w w' := by
  obtain ⟨p, c1, rfl, hp1, hp2, hpc⟩ := hv
  rw [List.length_map] at hp1 ⊢
  obtain ⟨n, HN⟩ : ∃ n, Hid (xs.length = n) := ⟨_, rfl⟩
  rw [HN.out] at hp1 hn ⊢
  obtain ⟨tt, HT⟩ : ∃ t, Hid (xs.all (fun s => !odd s) = t) := ⟨_, rfl⟩
  rw [HT.out]
  refine callsIn_of_wp Tryz.func110 rfl trivial ?_
  simp only [Tryz.ntmps110, List.size_toArray, List.length_cons, List.length_nil, Nat.reduceAdd, Nat.reduceSub, Array.replicate_succ, Array.replicate_zero, List.push_toArray, List.append_toArray, List.nil_append, List.cons_append]
  gi_wp2
  gi_loopw [7] (fun i wr => ∃ k : Nat, k ≤ n ∧ i = .int .i64 (k : Int) ∧ Hid ((xs.drop k).all (fun s => !odd s) = tt) ∧ Chg No w wr) (fun i _ => n - (intOf i).toNat)
  case atStart => exact ⟨0, Nat.zero_le _, rfl, HT, Chg.refl _ _⟩
  case round =>
    obtain ⟨k, hk, rfl, HK, c⟩ := hrel
    by_cases hlt : k < n
    · have hkz : k < xs.length := by rw [HN.out]; exact hlt
      have hlt' : (k : Int) < (n : Int) := by omega
      obtain ⟨b1, o1, rfl, hc1⟩ := hpc k (.string xs[k]) (by simp [hkz])
      have hw1 : wr.cell? ⟨b1, o1 + k, none⟩ = some (.string xs[k]) := (World.cell?_of_block (a := ⟨b1, o1 + k, none⟩) (c.block b1 (World.block_lt_of_cell? w _ hc1) (fun h => h))).trans hc1
      have hsz : xs[k].size ≤ 1000000 := Nat.le_trans (hs xs[k] (List.getElem_mem hkz)) (by decide)
      have HD : Hid ((!odd xs[k] && (xs.drop (k + 1)).all (fun s => !odd s)) = tt) := by
        have := HK.out
        rw [List.drop_eq_getElem_cons hkz, List.all_cons] at this
        exact this
      clear hc1 hpc
      generalize xs[k] = x at *
      have hb := binary_in x wr
      have hf := few_in x hsz wr
      unfold odd at HD
      generalize decide ((0 : UInt8) ∈ L x) = bz at *
      generalize decide ((linesB x).length ≤ 60) = bf at *
      gi_wp2_with fail
      refine ⟨trivial, rfl, hb.mono ?_⟩
      rintro e w1 ⟨rfl, rfl⟩
      clear hb
      cases bz with
      | true =>
        obtain rfl : tt = false := HD.out.symm
        clear hf
        gi_wp2_with fail
        refine ⟨trivial, ?_⟩
        rename_i hKK
        apply hKK
        gi_wp2
        go_ret
        exact ⟨rfl, c⟩
      | false =>
        gi_wp2_with fail
        refine ⟨trivial, rfl, hf.mono ?_⟩
        rintro e w2 ⟨rfl, c2⟩
        clear hf
        cases bf with
        | false =>
          obtain rfl : tt = false := HD.out.symm
          gi_wp2
          go_ret
          exact ⟨rfl, Chg.seq c c2⟩
        | true =>
          have HK2 : Hid ((xs.drop (k + 1)).all (fun s => !odd s) = tt) := HD.out
          gi_wp2
          go_roundw
          case rel => exact ⟨k + 1, hlt, by go_num, HK2, Chg.seq c c2⟩
          case measure => simp [intOf]; omega
    · obtain rfl : k = n := by omega
      have hlt' : ¬ (k : Int) < (k : Int) := by omega
      obtain rfl : tt = true := by
        have := HK.out
        rw [List.drop_eq_nil_of_le (by rw [HN.out]; exact Nat.le_refl _)] at this
        exact this.symm
      gi_wp2
      go_ret
      exact ⟨rfl, c⟩

end Go.Proofs.YtakbeololabmhaaGreatDoor

end
section
-- DLike
namespace Go.Proofs.YtakbeololabmhaaGreatDoor
open Go.RowKit Go.Shelf Go.SeqLib
attribute [local go_sem] Oper.semAt_some

theorem likeD_in (w : World) :
    CallsDIn Fence.wide 0 Tryz.prog 195 #[] .returning w fun e u' w' => e = .returned (.tuple #[]) ∧ u' = .returning ∧ w' = w := by
  refine callsDIn_of_wpSIn Tryz.func195 rfl trivial fun c₀ cs hu => ?_
  apply wpSIn_region
  cases c₀
  simp_all [wpOpsSIn, go_sem, recoverD, Tryz.ntmps195, bodyPostS, results, Tryz.results195]

theorem like_in (x y : ByteArray) (w : World) :
    CallsIn Fence.wide 0 Tryz.prog 187 #[.string x, .string y] w fun e w' => e = .returned (.bool (decide (x = y))) ∧ w' = w := by
  have hb : Hid ((x.toList == y.toList) = decide (x = y)) := by
    show _ = _
    by_cases h : x = y
    · subst h; simp
    · rw [decide_eq_false h, beq_eq_false_iff_ne]; exact fun e => h (text_ext e)
  refine callsIn_of_wp_defers Tryz.func187 rfl trivial ?_
  simp only [Tryz.ntmps187, List.size_toArray, List.length_cons, List.length_nil, Nat.reduceAdd, Nat.reduceSub, Array.replicate_succ, Array.replicate_zero, List.push_toArray, List.append_toArray, List.nil_append, List.cons_append]
  gi_wp2
  refine leavesIn_cons (f := 195) (args := #[]) (by simp) (by simp [Fence.wide]) (by simp [go_sem]) (by simp [Target.leads]; try trivial) ?_
  refine (likeD_in _).mono ?_
  rintro e u' w'' ⟨rfl, rfl, rfl⟩
  simp [LeavesIn, settle, results, Tryz.results187, go_sem, hb.out]

end Go.Proofs.YtakbeololabmhaaGreatDoor

end
section
-- SlCut
namespace Go.Proofs.YtakbeololabmhaaGreatDoor
open Go.RowKit Go.Shelf Go.SeqLib Go.DiffLib Go.BigFrame
attribute [local go_sem] Oper.semAt_some

/-- A slice that reads, cut. -/
theorem SlV.cutCore {W : World} {p : Option Addr} {n cap : Nat} {vals : List Value} (h : SlV W (.slice p n cap) vals) (hl : vals.length = n) (lo hi : Nat) (h1 : lo ≤ hi) (h2 : hi ≤ n) :
    ∃ p' c', sliced p lo hi cap 1 = .slice p' (hi - lo) c' ∧ SlV W (.slice p' (hi - lo) c') ((vals.take hi).drop lo) ∧ (∀ k, Value.ownBlock (.slice p' (hi - lo) c') = some k → Value.ownBlock (.slice p n cap) = some k) := by
  obtain ⟨p0, cap0, e0, q1, q2, hc⟩ := h
  rw [Value.slice.injEq] at e0
  obtain ⟨rfl, _, rfl⟩ := e0
  have hlen : ((vals.take hi).drop lo).length = hi - lo := by rw [List.length_drop, List.length_take]; omega
  refine ⟨_, _, rfl, ⟨_, _, by rw [hlen], by rw [hlen]; omega, by omega, fun i x hi' => ?_⟩, fun k hk => ?_⟩
  · rw [List.getElem?_drop, List.getElem?_take] at hi'
    split at hi'
    · obtain ⟨b, off, rfl, hcell⟩ := hc _ _ hi'
      have hne : ¬ cap = lo := by omega
      rw [if_neg hne]
      have ea : (⟨b, off, none⟩ : Addr).add (lo * 1) = ⟨b, off + lo, none⟩ := by unfold Addr.add; split <;> simp_all
      refine ⟨b, off + lo, by rw [Option.map_some, ea], ?_⟩
      rw [Nat.add_assoc]
      exact hcell
    · cases hi'
  · cases p with
    | none =>
      by_cases e : cap = lo
      · rw [if_pos e] at hk; cases hk
      · rw [if_neg e] at hk; cases hk
    | some ad =>
      by_cases e : cap = lo
      · rw [if_pos e] at hk; exact hk
      · rw [if_neg e] at hk
        have : (ad.add (lo * 1)).block = ad.block := by unfold Addr.add; split <;> rfl
        simp only [Option.map_some, Value.ownBlock, this] at hk
        exact hk
theorem size_string (w : World) : (sizeOf 9).run Tryz.prog w = .ok 1 w := by
  obtain ⟨i0, hi, _, h2, _⟩ := info_parts info9
  rw [run_sizeOf w hi]
  have : Tryz.prog.cellsOf 9 = 1 := by kernel_rfl
  rw [this]
section
variable {W : World} {p : Option Addr} {n cap : Nat} {vals : List Value}
theorem elem_texts : Tryz.prog.elem 86 = 9 := by simp [Program.elem, Tryz.underlying86]
theorem SlV.high (h : SlV W (.slice p n cap) vals) (hl : vals.length = n) (hi : Nat) (h2 : hi ≤ n) :
    ∃ p' c', SlV W (.slice p' hi c') (vals.take hi) ∧ (∀ k, Value.ownBlock (.slice p' hi c') = some k → Value.ownBlock (.slice p n cap) = some k) ∧ ∀ w, (Instr.sliceAt 86 (.slice p n cap) none (some (.int .i64 (hi : Int))) none).run Tryz.prog w = .ok (.slice p' hi c') w := by
  have hcap : n ≤ cap := by obtain ⟨p0, cap0, e0, q1, _⟩ := h; cases e0; omega
  obtain ⟨p', c', e, s, o⟩ := h.cutCore hl 0 hi (Nat.zero_le _) h2
  refine ⟨p', c', by simpa using s, o, fun w => ?_⟩
  have ht : Tryz.prog.underlying 86 = some (.slice (Tryz.prog.elem 86)) := by rw [elem_texts]; exact Tryz.underlying86
  rw [run_sliceAt_slice _ _ _ _ _ _ ht, run_slice_h _ _ _ _ _ ht .i64 (hi : Int) (by omega) (by omega), elem_texts, size_string]
  show Result.ok (sliced p 0 hi cap 1) w = _
  rw [e]
  rfl
theorem SlV.low (h : SlV W (.slice p n cap) vals) (hl : vals.length = n) (lo : Nat) (h2 : lo ≤ n) :
    ∃ p' c', SlV W (.slice p' (n - lo) c') (vals.drop lo) ∧ (∀ k, Value.ownBlock (.slice p' (n - lo) c') = some k → Value.ownBlock (.slice p n cap) = some k) ∧ ∀ w, (Instr.sliceAt 86 (.slice p n cap) (some (.int .i64 (lo : Int))) none none).run Tryz.prog w = .ok (.slice p' (n - lo) c') w := by
  obtain ⟨p', c', e, s, o⟩ := h.cutCore hl lo n h2 (Nat.le_refl _)
  rw [List.take_of_length_le (by omega)] at s
  refine ⟨p', c', s, o, fun w => ?_⟩
  have ht : Tryz.prog.underlying 86 = some (.slice (Tryz.prog.elem 86)) := by rw [elem_texts]; exact Tryz.underlying86
  rw [run_sliceAt_slice _ _ _ _ _ _ ht, run_slice_l _ _ _ _ _ ht .i64 (lo : Int) (by omega) (by omega), elem_texts, size_string]
  show Result.ok (sliced p lo n cap 1) w = _
  rw [e]
theorem SlV.mid (h : SlV W (.slice p n cap) vals) (hl : vals.length = n) (lo hi : Nat) (h1 : lo ≤ hi) (h2 : hi ≤ n) :
    ∃ p' c', SlV W (.slice p' (hi - lo) c') ((vals.take hi).drop lo) ∧ (∀ k, Value.ownBlock (.slice p' (hi - lo) c') = some k → Value.ownBlock (.slice p n cap) = some k) ∧ ∀ w, (Instr.sliceAt 86 (.slice p n cap) (some (.int .i64 (lo : Int))) (some (.int .i64 (hi : Int))) none).run Tryz.prog w = .ok (.slice p' (hi - lo) c') w := by
  have hcap : n ≤ cap := by obtain ⟨p0, cap0, e0, q1, _⟩ := h; cases e0; omega
  obtain ⟨p', c', e, s, o⟩ := h.cutCore hl lo hi h1 h2
  refine ⟨p', c', s, o, fun w => ?_⟩
  have ht : Tryz.prog.underlying 86 = some (.slice (Tryz.prog.elem 86)) := by rw [elem_texts]; exact Tryz.underlying86
  rw [run_sliceAt_slice _ _ _ _ _ _ ht, run_slice_lh _ _ _ _ _ ht .i64 .i64 (lo : Int) (hi : Int) (by omega) (by omega) (by omega), elem_texts, size_string]
  show Result.ok (sliced p lo hi cap 1) w = _
  rw [e]
end

end Go.Proofs.YtakbeololabmhaaGreatDoor

end
section
-- DFits
namespace Go.Proofs.YtakbeololabmhaaGreatDoor
open Go.RowKit Go.Shelf Go.SeqLib Go.DiffLib Go.BigFrame
attribute [local go_sem] Oper.semAt_some

/-- May the step be done where so many are left? -/
def fitsB (x : Int × Int × Int) (la lb : Nat) : Bool := decide (0 ≤ x.1 ∧ 0 ≤ x.2.1 ∧ 0 ≤ x.2.2 ∧ x.1 ≤ la ∧ x.1 ≤ lb ∧ x.2.1 ≤ (la : Int) - x.1 ∧ x.2.2 ≤ (lb : Int) - x.1)

set_option maxHeartbeats 1000000 in
theorem fits_in (s o n : Int) (la lb : Nat) (hla : la ≤ 1000) (hlb : lb ≤ 1000) (w : World) :
    CallsIn Fence.wide 0 Tryz.prog 188 #[.agg #[.int .i64 s, .int .i64 o, .int .i64 n], .int .i64 (la : Int), .int .i64 (lb : Int)] w fun e w' => e = .returned (.bool (fitsB (s, o, n) la lb)) ∧ Chg No w w' := by
  refine callsIn_of_wp Tryz.func188 rfl trivial ?_
  simp only [Tryz.ntmps188, List.size_toArray, List.length_cons, List.length_nil, Nat.reduceAdd, Nat.reduceSub, Array.replicate_succ, Array.replicate_zero, List.push_toArray, List.append_toArray, List.nil_append, List.cons_append]
  have hF : ∀ {b : Bool}, (¬ (0 ≤ s ∧ 0 ≤ o ∧ 0 ≤ n ∧ s ≤ la ∧ s ≤ lb ∧ o ≤ (la : Int) - s ∧ n ≤ (lb : Int) - s)) → Hid (fitsB (s, o, n) la lb = false) := fun h => decide_eq_false h
  by_cases h1 : s < 0
  · have HF := hF (b := true) (by omega)
    gi_wp2
    go_ret
    exact ⟨by rw [HF.out]; rfl, (Chg.refl _ w).alloc _⟩
  by_cases h2 : o < 0
  · have HF := hF (b := true) (by omega)
    gi_wp2
    go_ret
    exact ⟨by rw [HF.out]; rfl, (Chg.refl _ w).alloc _⟩
  by_cases h3 : n < 0
  · have HF := hF (b := true) (by omega)
    gi_wp2
    go_ret
    exact ⟨by rw [HF.out]; rfl, (Chg.refl _ w).alloc _⟩
  obtain ⟨s', rfl⟩ := Int.eq_ofNat_of_zero_le (show 0 ≤ s by omega)
  by_cases h4 : s' ≤ la ∧ s' ≤ lb
  · have hmin : (s' : Int) ≤ min (la : Int) (lb : Int) := by omega
    by_cases h5 : o ≤ (la : Int) - (s' : Int)
    · by_cases h6 : n ≤ (lb : Int) - (s' : Int)
      · have HF : Hid (fitsB (s', o, n) la lb = true) := by
          refine decide_eq_true ?_
          simp only
          omega
        gi_wp2
        all_goals (go_ret; exact ⟨by rw [HF.out]; rfl, (Chg.refl _ w).alloc _⟩)
      · have HF := hF (b := true) (by omega)
        gi_wp2
        all_goals (go_ret; exact ⟨by rw [HF.out]; rfl, (Chg.refl _ w).alloc _⟩)
    · have HF := hF (b := true) (by omega)
      gi_wp2
      all_goals (go_ret; exact ⟨by rw [HF.out]; rfl, (Chg.refl _ w).alloc _⟩)
  · have HF := hF (b := true) (by omega)
    have hmin : ¬ (s' : Int) ≤ min (la : Int) (lb : Int) := by omega
    gi_wp2
    all_goals (go_ret; exact ⟨by rw [HF.out]; rfl, (Chg.refl _ w).alloc _⟩)

set_option maxHeartbeats 1000000 in
theorem equalTx_in (v u : Value) (xs ys : List ByteArray) (w : World) (hv : SlV w v (xs.map Value.string)) (hu : SlV w u (ys.map Value.string)) (hx : xs.length ≤ 1000) (hy : ys.length = xs.length) :
    CallsIn Fence.wide 0 Tryz.prog 189 #[v, u, .func (.func 187) #[] #[]] w fun e w' => e = .returned (.bool (decide (xs = ys))) ∧ w' = w := by
  obtain ⟨p, c1, rfl, hp1, hp2, hpc⟩ := hv
  obtain ⟨q, c2, rfl, hq1, hq2, hqc⟩ := hu
  rw [List.length_map] at hp1 hq1
  rw [List.length_map, List.length_map, hy]
  obtain ⟨n, HN⟩ : ∃ n, Hid (xs.length = n) := ⟨_, rfl⟩
  have HY : Hid (ys.length = n) := hy.trans HN.out
  rw [HN.out] at hx ⊢
  clear hy hp1 hq1
  refine callsIn_of_wp Tryz.func189 rfl trivial ?_
  simp only [Tryz.ntmps189, List.size_toArray, List.length_cons, List.length_nil, Nat.reduceAdd, Nat.reduceSub, Array.replicate_succ, Array.replicate_zero, List.push_toArray, List.append_toArray, List.nil_append, List.cons_append]
  gi_wp2
  gi_loopw [17] (fun i wr => ∃ k : Nat, k ≤ n ∧ i = .int .i64 (k : Int) ∧ Hid (xs.take k = ys.take k) ∧ wr = w) (fun i _ => n - (intOf i).toNat)
  case atStart => exact ⟨0, Nat.zero_le _, rfl, rfl, rfl⟩
  case round =>
    obtain ⟨k, hk, rfl, HT, rfl⟩ := hrel
    by_cases hlt : k < n
    · have hlt' : (k : Int) < (n : Int) := by omega
      have hk1 : k < xs.length := by rw [HN.out]; exact hlt
      have hk2 : k < ys.length := by rw [HY.out]; exact hlt
      obtain ⟨b1, o1, rfl, hw1⟩ := hpc k (.string xs[k]) (by simp [hk1])
      obtain ⟨b2, o2, rfl, hw2⟩ := hqc k (.string ys[k]) (by simp [hk2])
      have hlk := like_in xs[k] ys[k]
      by_cases hxy : xs[k] = ys[k]
      · have HT2 : Hid (xs.take (k + 1) = ys.take (k + 1)) := by
          show _ = _
          rw [List.take_succ_eq_append_getElem hk1, List.take_succ_eq_append_getElem hk2, HT.out, hxy]
        rw [decide_eq_true hxy] at hlk
        clear hxy
        generalize xs[k] = x at *
        generalize ys[k] = y at *
        gi_wp2_with fail
        refine ⟨trivial, rfl, (hlk _).mono ?_⟩
        rintro e w1 ⟨rfl, rfl⟩
        gi_wp2
        go_roundw
        case rel => exact ⟨k + 1, hlt, by go_num, HT2, trivial⟩
        case measure => simp [intOf]; omega
      · have HD : Hid (decide (xs = ys) = false) := by
          show _ = _
          rw [decide_eq_false_iff_not]; rintro rfl; exact hxy rfl
        rw [decide_eq_false hxy] at hlk
        clear hxy
        generalize xs[k] = x at *
        generalize ys[k] = y at *
        gi_wp2_with fail
        refine ⟨trivial, rfl, (hlk _).mono ?_⟩
        rintro e w1 ⟨rfl, rfl⟩
        gi_wp2
        go_ret
        exact ⟨by rw [HD.out]; rfl, rfl⟩
    · obtain rfl : k = n := by omega
      have hlt' : ¬ (k : Int) < (k : Int) := by omega
      have HD : Hid (decide (xs = ys) = true) := by
        show _ = _
        rw [decide_eq_true_iff]
        have h := HT.out
        rw [List.take_of_length_le (by rw [HN.out]; exact Nat.le_refl _), List.take_of_length_le (by rw [HY.out]; exact Nat.le_refl _)] at h
        exact h
      gi_wp2
      go_ret
      exact ⟨by rw [HD.out]; rfl, rfl⟩

end Go.Proofs.YtakbeololabmhaaGreatDoor

end
