/-
  Of: CSpot, JIs, JTog, JOf, JVir, JSpec.
-/
import Derived.Test.YtndblaemladppabGreatDoorGFile
import Derived.Test.YtndblaemladppabGreatDoorGPure
import Derived.Test.YtndblaemladppabGreatDoorFGoes
import Derived.Test.YtndblaemladppabGreatDoorFMay
import Derived.Test.YtndblaemladppabGreatDoorGLine
import Derived.Laws.ResultCell
import Derived.Test.YtndblaemladppabGreatDoorJApp
import Derived.Test.YtndblaemladppabGreatDoorFPaths
import Derived.Test.YtndblaemladppabGreatDoorJLaw
import Derived.Test.YtndblaemladppabGreatDoorLoudG
import Derived.Test.YtndblaemladppabGreatDoorQuiet
import Derived.Sort.CutIn
import Derived.Sort.QuietThIn
import Derived.Shelf.RegionOpen
section
-- CSpot
namespace Go.Proofs.YtndblaemladppabGreatDoor
open Go.RowKit Go.Shelf Go.SeqLib Go.DiffLib Go.TreeLib

theorem two_of {α : Type} {l : List α} (h : l.length = 2) : ∃ a b, l = [a, b] := by
  match l, h with
  | [a, b], _ => exact ⟨a, b, rfl⟩
/-! ### What a tree has at a path, compared -/
theorem guard_at : Tryz.prog.eqGuardType Tryz.prog.depth 50 = false := by kernel_rfl
theorem run_equalIn_at (x y : Bool × ByteArray) (w : World) : (Op.equalIn 10000 50 (.agg #[.bool x.1, .string x.2]) (.agg #[.bool y.1, .string y.2])).run Tryz.prog w = .ok (decide (x = y)) w := by
  have hbeq : (x.1 == y.1 && x.2.toList == y.2.toList) = decide (x = y) := by
    by_cases h : x = y
    · subst h; simp
    · rw [decide_eq_false h]
      cases hb : (x.1 == y.1 && x.2.toList == y.2.toList) with
      | false => rfl
      | true =>
        exfalso
        simp only [Bool.and_eq_true, beq_iff_eq] at hb
        exact h (Prod.ext hb.1 (toList_inj hb.2))
  have h2 : Tryz.prog.underlying 9 = some .string := by kernel_rfl
  have h3 : Tryz.prog.underlying 4 = some .bool := by kernel_rfl
  have he : ∀ (a b : ByteArray) (w : World), (Op.equalIn 9999 9 (.string a) (.string b)).run Tryz.prog w = .ok (a.toList == b.toList) w := fun a b w => by
    exact run_equalIn_string w 9998 _ a b h2
  have hb : ∀ (a b : Bool) (w : World), (Op.equalIn 9999 4 (.bool a) (.bool b)).run Tryz.prog w = .ok (a == b) w := fun a b w => by
    exact run_equalIn_bool w 9998 _ a b h3
  have hp : Tryz.prog.stoodInHeld 50 = false := by kernel_rfl
  have hu : Tryz.prog.underlying 50 = some (.struct (Tryz.prog.fieldsOf 50)) := by kernel_rfl
  have hf : ((Tryz.prog.fieldsOf 50).toList.map fun f => (f.name == "_", f.type, f.offset)) = [(false, 4, 0), (false, 9, 1)] := by kernel_rfl
  rw [← hbeq, run_equalIn_agg w 9999 _ _ _ hu hp]
  generalize (Tryz.prog.fieldsOf 50).toList = l at hf
  obtain ⟨f1, f2, rfl⟩ := two_of (by have := congrArg List.length hf; simpa using this)
  simp at hf
  obtain ⟨⟨n1, t1, o1⟩, ⟨n2, t2, o2⟩⟩ := hf
  have hpart : ∀ (xs : Array Value) (off : Nat) (v : Value) (w : World), xs[off]? = some v → (part 9 xs off).run Tryz.prog w = .ok v w := fun xs off v w h => run_part_plain w (by kernel_rfl) h
  have hpartb : ∀ (xs : Array Value) (off : Nat) (v : Value) (w : World), xs[off]? = some v → (part 4 xs off).run Tryz.prog w = .ok v w := fun xs off v w h => run_part_plain w (by kernel_rfl) h
  simp [Op.eqFields, n1, n2, t1, t2, o1, o2, hpart, hpartb, he, hb]
  by_cases e1 : x.1 = y.1
  · simp [e1]
    by_cases e2 : x.2.toList = y.2.toList
    · simp [e2]
    · simp [e2]
  · simp [e1]
theorem run_neq_at (x y : Bool × ByteArray) (w : World) : (binOp .neq 50 (.agg #[.bool x.1, .string x.2]) (.agg #[.bool y.1, .string y.2])).run Tryz.prog w = .ok (.bool (!decide (x = y))) w := by
  rw [run_neq_struct, run_equalIn_at]
  rfl
theorem run_eql_at (x y : Bool × ByteArray) (w : World) : (binOp .eql 50 (.agg #[.bool x.1, .string x.2]) (.agg #[.bool y.1, .string y.2])).run Tryz.prog w = .ok (.bool (decide (x = y))) w := by
  rw [run_eql_struct, run_equalIn_at]
  rfl

attribute [local go_sem] Oper.semAt_some

theorem atP_get (zs : List Fl) (p : ByteArray) : atP zs p = ((TreeLib.get zs p).isSome, getD zs p) := rfl

set_option maxRecDepth 100000 in
set_option maxHeartbeats 1000000 in
theorem at_in (v : Value) (zs : List Fl) (p : ByteArray) (w : World) (hv : SlF w v zs) : CallsIn Fence.wide 0 Tryz.prog 29 #[v, .string p] w fun e w' =>
    e = .returned (.agg #[.bool (atP zs p).1, .string (atP zs p).2]) ∧ Chg No w w' := by
  have hv0 : SlF (w.alloc (.cells #[.bool false, .string ⟨#[]⟩] 50)) v zs := hv.no ((Chg.refl _ w).alloc _)
  have c0 : Chg No w (w.alloc (.cells #[.bool false, .string ⟨#[]⟩] 50)) := (Chg.refl _ w).alloc _
  have G := get_in v zs p _ hv0
  rw [atP_get]
  generalize getD zs p = gs at G ⊢
  generalize (TreeLib.get zs p).isSome = gb at G ⊢
  have hb0 : (w.alloc (.cells #[.bool false, .string ⟨#[]⟩] 50)).heap[w.heap.size]? = some (.cells #[.bool false, .string ⟨#[]⟩] 50 (0, 0)) := World.alloc_heap_new w _
  refine callsIn_of_wp Tryz.func29 rfl trivial ?_
  simp only [Tryz.ntmps29, List.size_toArray, List.length_cons, List.length_nil, Nat.reduceAdd, Nat.reduceSub, Array.replicate_succ, Array.replicate_zero, List.push_toArray, List.append_toArray, List.nil_append, List.cons_append]
  gi_wp2_with fail
  refine ⟨trivial, rfl, G.mono ?_⟩
  rintro e w1 ⟨rfl, c1⟩
  have hb1 : w1.heap[w.heap.size]? = some (.cells #[.bool false, .string ⟨#[]⟩] 50 (0, 0)) := c1.same hb0 (fun h => h)
  have k1 : w1.cell? ⟨w.heap.size, 0, none⟩ = some (.bool false) := by simp [World.cell?, hb1]
  have k2 : w1.cell? ⟨w.heap.size, 1, none⟩ = some (.string ⟨#[]⟩) := by simp [World.cell?, hb1]
  have f1 : w1.frozen? ⟨w.heap.size, 0, none⟩ = false := by simp [World.frozen?, hb1]
  have f2 : w1.frozen? ⟨w.heap.size, 1, none⟩ = false := by simp [World.frozen?, hb1]
  clear hb0 hb1 G hv0
  gi_wp2
  refine bodyPost_ret (v := .agg #[.bool gb, .string gs]) ?_ rfl ⟨rfl, ((Chg.seq c0 c1).setCell (p := ⟨w.heap.size, 0, none⟩) (.inr (Nat.le_refl _)) _).setCell (p := ⟨w.heap.size, 1, none⟩) (.inr (Nat.le_refl _)) _⟩
  rw [results_cell1 rfl]
  go_simp

end Go.Proofs.YtndblaemladppabGreatDoor

end
section
-- JIs
namespace Go.Proofs.YtndblaemladppabGreatDoor
open Go.RowKit Go.Shelf Go.SeqLib Go.DiffLib Go.TreeLib Go.TextLib Go.BigFrame
attribute [local go_sem] Oper.semAt_some

set_option maxHeartbeats 1000000 in
theorem isU_in (x : Fl) (p : ByteArray) (B : Nat) (hxs : x.1.size ≤ 100000) (w : World) (hB : Boxed w B 9 (.string p)) : CallsIn Fence.wide 0 Tryz.prog 45 #[.agg #[.string x.1, .string x.2], .pointer (some ⟨B, 0, none⟩)] w fun e w' =>
    e = .returned (.bool (under (Bs p) (Bs x.1))) ∧ Chg No w w' := by
  have hb := (hB.alloc (.cells #[.string x.1, .string x.2] 27)).cell
  have hss : slash.size = 1 := rfl
  have hpf := prefix_in p (x.1 ++ slash)
  rw [append_bytes, show Bs slash = [47] from rfl, prefix_under] at hpf
  generalize under (Bs p) (Bs x.1) = u at hpf ⊢
  refine callsIn_of_wp Tryz.func45 rfl trivial ?_
  simp only [Tryz.ntmps45, List.size_toArray, List.length_cons, List.length_nil, Nat.reduceAdd, Nat.reduceSub, Array.replicate_succ, Array.replicate_zero, List.push_toArray, List.append_toArray, List.nil_append, List.cons_append]
  gi_wp2_with fail
  refine ⟨trivial, rfl, (hpf _).mono ?_⟩
  rintro e w2 ⟨rfl, rfl⟩
  gi_wp2
  go_ret
  exact ⟨rfl, (Chg.refl _ w).alloc _⟩

theorem isU_enters : ∀ args w, (callFunc 45 args).run Tryz.prog w = .ok (.enter 45 args) w := enters_of Tryz.func45 (by kernel_rfl) rfl

set_option maxHeartbeats 1000000 in
theorem indexU_in (v : Value) (t : List Fl) (p : ByteArray) (B : Nat) (hz : ∀ f ∈ t, f.1.size ≤ 100000) (w : World) (hv : SlF w v t) (hB : Boxed w B 9 (.string p)) :
    CallsIn Fence.wide 0 Tryz.prog 62 #[v, .func (.func 45) #[] #[.pointer (some ⟨B, 0, none⟩)]] w fun e w' =>
      ((∃ k : Nat, e = .returned (.int .i64 (k : Int)) ∧ nested t p = true) ∨ (e = .returned (.int .i64 (-1)) ∧ nested t p = false)) ∧ Chg No w w' := by
  obtain ⟨p0, cap, rfl, _, hmx⟩ := hv.slice
  have hml : t.length ≤ 9223372036854775807 := by unfold maxLen at hmx; omega
  obtain ⟨n, HN⟩ : ∃ n, Hid (t.length = n) := ⟨_, rfl⟩
  rw [HN.out] at hv hml ⊢
  clear hmx
  obtain ⟨z, HZ⟩ : ∃ z, Hid (nested t p = z) := ⟨_, rfl⟩
  rw [HZ.out]
  have ef := isU_enters
  refine callsIn_of_wp Tryz.func62 rfl trivial ?_
  simp only [Tryz.ntmps62, List.size_toArray, List.length_cons, List.length_nil, Nat.reduceAdd, Nat.reduceSub, Array.replicate_succ, Array.replicate_zero, List.push_toArray, List.append_toArray, List.nil_append, List.cons_append]
  gi_wp2
  gi_loopw [8] (fun i wr => ∃ k : Nat, k ≤ n ∧ i = .int .i64 (k : Int) ∧ Hid (∀ f ∈ t.take k, under (Bs p) (Bs f.1) = false) ∧ Chg No w wr) (fun i _ => n - (intOf i).toNat)
  case atStart => exact ⟨0, Nat.zero_le _, rfl, fun f hf => by simp at hf, Chg.refl _ _⟩
  case round =>
    obtain ⟨k, hk, rfl, HT, c⟩ := hrel
    by_cases hlt : k < n
    · have hlt' : (k : Int) < (n : Int) := by omega
      have hkl : k < t.length := by rw [HN.out]; exact hlt
      obtain ⟨x, hx⟩ : ∃ x, t[k]? = some x := ⟨_, List.getElem?_eq_getElem hkl⟩
      obtain ⟨b1, o1, rfl, hc1, hc2⟩ := SlF.at (hv.no c) k x hx
      have U1 := isU_in x p B (hz x (List.mem_of_getElem? hx)) wr (c.boxed hB (fun h => h))
      obtain ⟨u, HU⟩ : ∃ u, Hid (under (Bs p) (Bs x.1) = u) := ⟨_, rfl⟩
      rw [HU.out] at U1
      gi_wp2_with fail
      refine ⟨trivial, rfl, U1.mono ?_⟩
      rintro e w1 ⟨rfl, c1⟩
      cases u with
      | true =>
        have HR : Hid (z = true) := by
          show _ = _
          rw [← HZ.out]
          exact nested_iff.2 ⟨x, List.mem_of_getElem? hx, HU.out⟩
        gi_wp2
        go_ret
        exact ⟨.inl ⟨k, rfl, HR.out⟩, Chg.seq c c1⟩
      | false =>
        have HT2 : Hid (∀ f ∈ t.take (k + 1), under (Bs p) (Bs f.1) = false) := by
          intro f hf
          rw [List.take_add_one, hx] at hf
          rcases List.mem_append.1 hf with h | h
          · exact HT.out f h
          · rw [List.mem_singleton.1 h]; exact HU.out
        gi_wp2
        refine ⟨⟨k + 1, hlt, by go_num, HT2, Chg.seq c c1⟩, by simp [intOf]; omega⟩
    · have hlt' : ¬ (k : Int) < (n : Int) := by omega
      have HR : Hid (z = false) := by
        show _ = _
        rw [← HZ.out]
        refine List.any_eq_false.2 (fun f hf => ?_)
        rw [HT.out f (by rw [List.take_of_length_le (by rw [HN.out]; omega)]; exact hf)]
        exact Bool.false_ne_true
      gi_wp2
      go_ret
      exact ⟨.inr ⟨rfl, HR.out⟩, c⟩

set_option maxHeartbeats 1000000 in
theorem containsU_in (v : Value) (t : List Fl) (p : ByteArray) (B : Nat) (hz : ∀ f ∈ t, f.1.size ≤ 100000) (w : World) (hv : SlF w v t) (hB : Boxed w B 9 (.string p)) :
    CallsIn Fence.wide 0 Tryz.prog 44 #[v, .func (.func 45) #[] #[.pointer (some ⟨B, 0, none⟩)]] w fun e w' =>
      e = .returned (.bool (nested t p)) ∧ Chg No w w' := by
  have I1 := indexU_in v t p B hz w hv hB
  generalize nested t p = z at I1 ⊢
  refine callsIn_of_wp Tryz.func44 rfl trivial ?_
  simp only [Tryz.ntmps44, List.size_toArray, List.length_cons, List.length_nil, Nat.reduceAdd, Nat.reduceSub, Array.replicate_succ, Array.replicate_zero, List.push_toArray, List.append_toArray, List.nil_append, List.cons_append]
  gi_wp2_with fail
  refine ⟨trivial, rfl, I1.mono ?_⟩
  rintro e w1 ⟨⟨k, rfl, rfl⟩ | ⟨rfl, rfl⟩, c1⟩
  · have hk : (0 : Int) ≤ (k : Int) := by omega
    gi_wp2
    go_ret
    exact ⟨by simp, c1⟩
  · gi_wp2
    go_ret
    exact ⟨by simp, c1⟩

set_option maxHeartbeats 1000000 in
theorem isUnder_in (v : Value) (t : List Fl) (p : ByteArray) (hz : ∀ f ∈ t, f.1.size ≤ 100000) (w : World) (hv : SlF w v t) :
    CallsIn Fence.wide 0 Tryz.prog 30 #[v, .string p] w fun e w' => e = .returned (.bool (nested t p)) ∧ Chg No w w' := by
  have c0 : Chg No w (w.alloc (.cells #[.string p] 9)) := (Chg.refl _ w).alloc _
  have C1 := containsU_in v t p w.heap.size hz _ (hv.no c0) (Boxed.new w 9 (.string p))
  generalize nested t p = z at C1 ⊢
  refine callsIn_of_wp Tryz.func30 rfl trivial ?_
  simp only [Tryz.ntmps30, List.size_toArray, List.length_cons, List.length_nil, Nat.reduceAdd, Nat.reduceSub, Array.replicate_succ, Array.replicate_zero, List.push_toArray, List.append_toArray, List.nil_append, List.cons_append]
  gi_wp2_with fail
  refine ⟨trivial, rfl, C1.mono ?_⟩
  rintro e w1 ⟨rfl, c1⟩
  gi_wp2
  go_ret
  exact ⟨rfl, Chg.seq c0 c1⟩

end Go.Proofs.YtndblaemladppabGreatDoor

end
section
-- JTog
namespace Go.TreeLib
open Go Go.TextLib
/-- What together answers of what comes of one path. -/
def togR (R : At × Bool) : At × Bool := if R.2 = true then ((false, ⟨#[]⟩), false) else (R.1, true)
theorem togR_like (o x y : At) (h : decide (x = y) = true) : togR (one3 o x y) = (x, true) := by
  unfold one3
  rw [if_pos (of_decide_eq_true h)]
  rfl
theorem togR_right (o x y : At) (h : decide (y = o) = true) : togR (one3 o x y) = (x, true) := by
  rw [of_decide_eq_true h, one3_right]
  rfl
theorem togR_left (o x y : At) (h : decide (x = o) = true) : togR (one3 o x y) = (y, true) := by
  rw [of_decide_eq_true h, one3_left]
  rfl
theorem togR_mid (o x y : At) (h1 : decide (x = y) = false) (h2 : decide (y = o) = false) (h3 : decide (x = o) = false) : togR (one3 o x y) = togR (mid o x y) := by
  unfold one3
  rw [if_neg (of_decide_eq_false h1), if_neg (of_decide_eq_false h3), if_neg (of_decide_eq_false h2)]
theorem togR_none (o x y : At) (h : ¬ (x.1 = true ∧ y.1 = true)) : togR (mid o x y) = ((false, ⟨#[]⟩), false) := by
  unfold mid
  rw [if_neg h]
  rfl
theorem togR_both (o x y : At) (h : x.1 = true ∧ y.1 = true) : togR (mid o x y) = (((tm o.2 x.2 y.2).isSome, txt (tm o.2 x.2 y.2)), (tm o.2 x.2 y.2).isSome) := by
  unfold mid
  rw [if_pos h]
  cases tm o.2 x.2 y.2 with
  | none => rfl
  | some m => rfl
end Go.TreeLib
namespace Go.Proofs.YtndblaemladppabGreatDoor
open Go.RowKit Go.Shelf Go.SeqLib Go.DiffLib Go.TreeLib Go.TextLib Go.BigFrame
attribute [local go_sem] Oper.semAt_some

set_option maxRecDepth 100000 in
set_option maxHeartbeats 1000000 in
theorem areTrees_in (tv : Value) (ps : List (Value × List Fl)) (hl : ps.length ≤ 1000) (hz : ∀ q ∈ ps, ∀ f ∈ q.2, f.1.size ≤ 100000) (w : World) (hs : SlV w tv (ps.map (·.1))) (hi : ∀ q ∈ ps, SlF w q.1 q.2) :
    CallsIn Fence.wide 0 Tryz.prog 27 #[tv] w fun e w' => e = .returned (.bool (ps.all (fun q => mayB q.2))) ∧ Chg No w w' := by
  have hs' := hs
  obtain ⟨p0, cap, rfl, _, _, _⟩ := hs'
  rw [List.length_map] at hs ⊢
  obtain ⟨n, HN⟩ : ∃ n, Hid (ps.length = n) := ⟨_, rfl⟩
  rw [HN.out] at hs hl ⊢
  have hn0 : n ≤ 9223372036854775807 := by omega
  obtain ⟨z, HZ⟩ : ∃ z, Hid (ps.all (fun q => mayB q.2) = z) := ⟨_, rfl⟩
  rw [HZ.out]
  refine callsIn_of_wp Tryz.func27 rfl trivial ?_
  simp only [Tryz.ntmps27, List.size_toArray, List.length_cons, List.length_nil, Nat.reduceAdd, Nat.reduceSub, Array.replicate_succ, Array.replicate_zero, List.push_toArray, List.append_toArray, List.nil_append, List.cons_append]
  gi_wp2
  gi_loopw [7] (fun i wr => ∃ k : Nat, k ≤ n ∧ i = .int .i64 (k : Int) ∧ Hid (∀ q ∈ ps.take k, mayB q.2 = true) ∧ Chg No w wr) (fun i _ => n - (intOf i).toNat)
  case atStart => exact ⟨0, Nat.zero_le _, rfl, fun f hf => by simp at hf, Chg.refl _ _⟩
  case round =>
    obtain ⟨k, hk, rfl, HT, c⟩ := hrel
    by_cases hlt : k < n
    · have hlt' : (k : Int) < (n : Int) := by omega
      have hkl : k < ps.length := by rw [HN.out]; exact hlt
      obtain ⟨q, hq⟩ : ∃ q, ps[k]? = some q := ⟨_, List.getElem?_eq_getElem hkl⟩
      have hmem := List.mem_of_getElem? hq
      have hs1 := hs.no c
      obtain ⟨p2, cap2, e2, _, _, hcells2⟩ := hs1
      rw [List.length_map, HN.out] at e2
      cases e2
      obtain ⟨bb, off, rfl, hcw⟩ := hcells2 k q.1 (by rw [List.getElem?_map, hq]; rfl)
      have M1 := may_in q.1 q.2 (hz q hmem) wr ((hi q hmem).no c)
      obtain ⟨u, HU⟩ : ∃ u, Hid (mayB q.2 = u) := ⟨_, rfl⟩
      rw [HU.out] at M1
      clear hcells2
      gi_wp2_with fail
      refine ⟨trivial, rfl, M1.mono ?_⟩
      rintro e w1 ⟨rfl, c1⟩
      cases u with
      | false =>
        have HR : Hid (z = false) := by
          show _ = _
          rw [← HZ.out]
          exact List.all_eq_false.2 ⟨q, hmem, by rw [HU.out]; exact Bool.false_ne_true⟩
        gi_wp2
        go_ret
        exact ⟨by rw [HR.out]; rfl, Chg.seq c c1⟩
      | true =>
        have HT2 : Hid (∀ q ∈ ps.take (k + 1), mayB q.2 = true) := by
          intro f hf
          rw [List.take_add_one, hq] at hf
          rcases List.mem_append.1 hf with h | h
          · exact HT.out f h
          · rw [List.mem_singleton.1 h]; exact HU.out
        gi_wp2
        refine ⟨⟨k + 1, hlt, by go_num, HT2, Chg.seq c c1⟩, by simp [intOf]; omega⟩
    · have hlt' : ¬ (k : Int) < (n : Int) := by omega
      have HR : Hid (z = true) := by
        show _ = _
        rw [← HZ.out]
        exact List.all_eq_true.2 (fun f hf => HT.out f (by rw [List.take_of_length_le (by rw [HN.out]; omega)]; exact hf))
      gi_wp2
      go_ret
      exact ⟨by rw [HR.out]; rfl, c⟩

abbrev vA (z : At) : Value := .agg #[.bool z.1, .string z.2]

set_option maxRecDepth 100000 in
set_option maxHeartbeats 4000000 in
theorem together_in (o x y : At) (so : o.2.size ≤ 100000) (sx : x.2.size ≤ 100000) (sy : y.2.size ≤ 100000) (w : World) :
    CallsIn Fence.wide 0 Tryz.prog 28 #[vA o, vA x, vA y] w fun e w' => e = .returned (.tuple #[vA (togR (one3 o x y)).1, .bool (togR (one3 o x y)).2]) ∧ Chg No w w' := by
  have hgd := guard_at
  have E1 := run_eql_at x y
  have E2 := run_eql_at y o
  have E3 := run_eql_at x o
  have M1 := fun W => tmerge_in o.2 x.2 y.2 so sx sy W
  have HL : Hid (decide (x = y) = true → togR (one3 o x y) = (x, true)) := togR_like o x y
  have HRt : Hid (decide (y = o) = true → togR (one3 o x y) = (x, true)) := togR_right o x y
  have HLf : Hid (decide (x = o) = true → togR (one3 o x y) = (y, true)) := togR_left o x y
  have HM : Hid (decide (x = y) = false → decide (y = o) = false → decide (x = o) = false → togR (one3 o x y) = togR (mid o x y)) := togR_mid o x y
  have HN : Hid (¬ (x.1 = true ∧ y.1 = true) → togR (mid o x y) = ((false, ⟨#[]⟩), false)) := togR_none o x y
  have HB : Hid (x.1 = true ∧ y.1 = true → togR (mid o x y) = (((tm o.2 x.2 y.2).isSome, txt (tm o.2 x.2 y.2)), (tm o.2 x.2 y.2).isSome)) := togR_both o x y
  generalize togR (one3 o x y) = R at HL HRt HLf HM ⊢
  generalize togR (mid o x y) = R2 at HM HN HB
  generalize txt (tm o.2 x.2 y.2) = td at M1 HB
  generalize (tm o.2 x.2 y.2).isSome = tb at M1 HB
  generalize decide (x = y) = t1 at E1 HL HM
  generalize decide (y = o) = t2 at E2 HRt HM
  generalize decide (x = o) = t3 at E3 HLf HM
  obtain ⟨o1, o2⟩ := o
  obtain ⟨x1, x2⟩ := x
  obtain ⟨y1, y2⟩ := y
  dsimp only at E1 E2 E3 M1 HN HB so sx sy
  have c4 : Chg No w ((((w.alloc (.cells #[.bool o1, .string o2] 50)).alloc (.cells #[.bool x1, .string x2] 50)).alloc (.cells #[.bool y1, .string y2] 50)).alloc (.cells #[.bool false, .string ⟨#[]⟩] 50)) := ((((Chg.refl _ w).alloc _).alloc _).alloc _).alloc _
  clear so sx sy
  refine callsIn_of_wp Tryz.func28 rfl trivial ?_
  simp only [Tryz.ntmps28, List.size_toArray, List.length_cons, List.length_nil, Nat.reduceAdd, Nat.reduceSub, Array.replicate_succ, Array.replicate_zero, List.push_toArray, List.append_toArray, List.nil_append, List.cons_append]
  cases t1 with
  | true =>
    obtain rfl : R = ((x1, x2), true) := HL.out rfl
    gi_wp2
    refine bodyPost_ret (v := .tuple #[.agg #[.bool x1, .string x2], .bool true]) ?_ rfl ⟨rfl, ((((Chg.refl _ w).alloc _).alloc _).alloc _).alloc _⟩
    rw [results_cell_tmp rfl]
    go_simp
  | false =>
  cases t2 with
  | true =>
    obtain rfl : R = ((x1, x2), true) := HRt.out rfl
    gi_wp2
    refine bodyPost_ret (v := .tuple #[.agg #[.bool x1, .string x2], .bool true]) ?_ rfl ⟨rfl, ((((Chg.refl _ w).alloc _).alloc _).alloc _).alloc _⟩
    rw [results_cell_tmp rfl]
    go_simp
  | false =>
  cases t3 with
  | true =>
    obtain rfl : R = ((y1, y2), true) := HLf.out rfl
    gi_wp2
    refine bodyPost_ret (v := .tuple #[.agg #[.bool y1, .string y2], .bool true]) ?_ rfl ⟨rfl, ((((Chg.refl _ w).alloc _).alloc _).alloc _).alloc _⟩
    rw [results_cell_tmp rfl]
    go_simp
  | false =>
  obtain rfl : R = R2 := HM.out rfl rfl rfl
  clear HL HRt HLf HM
  cases x1 with
  | false =>
    obtain rfl : R = ((false, ⟨#[]⟩), false) := HN.out (fun e => by cases e.1)
    gi_wp2
    refine bodyPost_ret (v := .tuple #[.agg #[.bool false, .string ⟨#[]⟩], .bool false]) ?_ rfl ⟨rfl, ((((Chg.refl _ w).alloc _).alloc _).alloc _).alloc _⟩
    rw [results_cell_tmp rfl]
    go_simp
  | true =>
  cases y1 with
  | false =>
    obtain rfl : R = ((false, ⟨#[]⟩), false) := HN.out (fun e => by cases e.2)
    gi_wp2
    refine bodyPost_ret (v := .tuple #[.agg #[.bool false, .string ⟨#[]⟩], .bool false]) ?_ rfl ⟨rfl, ((((Chg.refl _ w).alloc _).alloc _).alloc _).alloc _⟩
    rw [results_cell_tmp rfl]
    go_simp
  | true =>
  obtain rfl : R = ((tb, td), tb) := HB.out ⟨rfl, rfl⟩
  clear HN HB
  gi_wp2_with fail
  refine ⟨trivial, rfl, (M1 _).mono ?_⟩
  rintro e w1 ⟨rfl, c1⟩
  have hst : ∀ (q : Bool) (d : ByteArray) (W : World), Chg No w W → Chg No w ((W.setCell ⟨w.heap.size + 1 + 1 + 1, 0, none⟩ (.bool q)).setCell ⟨w.heap.size + 1 + 1 + 1, 1, none⟩ (.string d)) := fun q d W c => (c.setCell (p := ⟨w.heap.size + 1 + 1 + 1, 0, none⟩) (.inr (by show w.heap.size ≤ w.heap.size + 1 + 1 + 1; omega)) _).setCell (p := ⟨w.heap.size + 1 + 1 + 1, 1, none⟩) (.inr (by show w.heap.size ≤ w.heap.size + 1 + 1 + 1; omega)) _
  have hb1 : w1.heap[w.heap.size + 1 + 1 + 1]? = some (.cells #[.bool false, .string ⟨#[]⟩] 50 (0, 0)) := c1.same (by
    have := World.alloc_heap_new (((w.alloc (.cells #[.bool o1, .string o2] 50)).alloc (.cells #[.bool true, .string x2] 50)).alloc (.cells #[.bool true, .string y2] 50)) (.cells #[.bool false, .string ⟨#[]⟩] 50 (0, 0))
    rw [World.size_alloc, World.size_alloc, World.size_alloc] at this
    exact this) (fun h => h)
  have k1 : w1.cell? ⟨w.heap.size + 1 + 1 + 1, 0, none⟩ = some (.bool false) := by simp [World.cell?, hb1]
  have k2 : w1.cell? ⟨w.heap.size + 1 + 1 + 1, 1, none⟩ = some (.string ⟨#[]⟩) := by simp [World.cell?, hb1]
  have f1 : w1.frozen? ⟨w.heap.size + 1 + 1 + 1, 0, none⟩ = false := by simp [World.frozen?, hb1]
  have f2 : w1.frozen? ⟨w.heap.size + 1 + 1 + 1, 1, none⟩ = false := by simp [World.frozen?, hb1]
  clear M1 E1 E2 E3
  gi_wp2
  refine bodyPost_ret (v := .tuple #[.agg #[.bool tb, .string td], .bool tb]) ?_ rfl ⟨rfl, hst _ _ _ (Chg.seq c4 c1)⟩
  rw [results_cell_tmp rfl]
  go_simp

end Go.Proofs.YtndblaemladppabGreatDoor

end
section
-- JOf
namespace Go.TreeLib
theorem all3_le (o a b : List Fl) : (all3 o a b).length ≤ o.length + a.length + b.length := by
  unfold all3 paths
  refine Nat.le_trans (rise_len _) ?_
  simp
  omega
theorem came_size {o a b : List Fl} (h : IsTree o ∧ IsTree a ∧ IsTree b) (l : List ByteArray) (hl : ∀ p ∈ l, p ∈ all3 o a b) : ∀ f ∈ cameL o a b l, f.1.size ≤ 100000 := by
  intro f hf
  have := path_of h (hl _ (mem_cameL.1 hf).1)
  have h2 := (pathB_iff.1 this).len
  have h3 : (Bs f.1).length = f.1.size := rfl
  omega
end Go.TreeLib
namespace Go.Proofs.YtndblaemladppabGreatDoor
open Go.RowKit Go.Shelf Go.SeqLib Go.DiffLib Go.TreeLib Go.TextLib Go.BigFrame
attribute [local go_sem] Oper.semAt_some

/-- Three lists, side by side in a row. -/
theorem three_row (vo va vb : Value) (o a b : List Fl) (w : World) (ho : SlF w vo o) (ha : SlF w va a) (hb : SlF w vb b) :
    SlV (w.alloc (.cells #[vo, va, vb] 22)) (.slice (some ⟨w.heap.size, 0, none⟩) 3 3) ([(vo, o), (va, a), (vb, b)].map (·.1)) ∧ ∀ q ∈ [(vo, o), (va, a), (vb, b)], SlF (w.alloc (.cells #[vo, va, vb] 22)) q.1 q.2 := by
  have c0 : Chg No w (w.alloc (.cells #[vo, va, vb] 22)) := (Chg.refl _ w).alloc _
  refine ⟨SlV.made w [vo, va, vb] 22 (by simp), fun q hq => ?_⟩
  rcases List.mem_cons.1 hq with rfl | hq
  · exact ho.no c0
  rcases List.mem_cons.1 hq with rfl | hq
  · exact ha.no c0
  · rw [List.mem_singleton.1 hq]; exact hb.no c0

/-- The texts of a list that is owned, sorted and each once. -/
theorem compactT_in (v : Value) (xs : List ByteArray) (base : Nat) (hl : xs.length ≤ 1000000) (w : World) (h : w.ownsRow base 9 1 v xs.length (((xs.map Bs).mergeSort fun x y => decide (x ≤ y)).map encStr)) : CallsIn Fence.wide 0 Tryz.prog 32 #[v] w fun e w' =>
    ∃ v', e = .returned v' ∧ OwnT w' base v' (rise xs) ∧ Chg (fun k => v.ownBlock = some k) w w' := by
  have hz : ((xs.map Bs).mergeSort (fun x y => decide (x ≤ y))).length = xs.length := by rw [List.length_mergeSort, List.length_map]
  rw [← hz] at h
  have C1 := compactS_in v _ base (by omega) w h
  rw [sort_compact, map_encStr, List.length_map] at C1
  refine C1.mono ?_
  rintro e w2 ⟨v2, rfl, r2, _, c2⟩
  exact ⟨v2, rfl, r2, c2⟩

/-- A box for what stands at a path. -/
theorem spot_box (w : World) (b : Bool) (d : ByteArray) : Chg No w (w.alloc (.cells #[.bool b, .string d] 50)) ∧ (w.alloc (.cells #[.bool b, .string d] 50)).heap[w.heap.size]? = some (.cells #[.bool b, .string d] 50 (0, 0)) :=
  ⟨(Chg.refl _ w).alloc _, World.alloc_heap_new w _⟩

theorem two_cells {W : World} {g : Nat} {x y : Value} {t : TypeId} (h : W.heap[g]? = some (.cells #[x, y] t (0, 0))) : W.cell? ⟨g, 0, none⟩ = some x ∧ W.cell? ⟨g, 1, none⟩ = some y ∧ W.frozen? ⟨g, 0, none⟩ = false ∧ W.frozen? ⟨g, 1, none⟩ = false := by
  refine ⟨?_, ?_, ?_, ?_⟩ <;> simp [World.cell?, World.frozen?, h]

set_option maxRecDepth 100000 in
set_option maxHeartbeats 4000000 in
theorem joinOf_in (vo va vb : Value) (o a b : List Fl) (w : World) (ho : SlF w vo o) (ha : SlF w va a) (hb : SlF w vb b) (fo : Few o) (fa : Few a) (fb : Few b) :
    CallsIn Fence.wide 0 Tryz.prog 11 #[vo, va, vb] w fun e w' =>
      ∃ v1 v2, e = .returned (.tuple #[v1, v2]) ∧ OwnF w' w.heap.size v1 (ofJ o a b).1 ∧ OwnT w' w.heap.size v2 (ofJ o a b).2 ∧ Chg No w w' := by
  obtain ⟨s0, i0⟩ := three_row vo va vb o a b w ho ha hb
  have c0 : Chg No w (w.alloc (.cells #[vo, va, vb] 22)) := (Chg.refl _ w).alloc _
  have A1 := areTrees_in (.slice (some ⟨w.heap.size, 0, none⟩) 3 3) [(vo, o), (va, a), (vb, b)] (by simp) (by
    intro q hq
    rcases List.mem_cons.1 hq with rfl | hq
    · exact fun f hf => Nat.le_trans (fo.2 f hf).1 (by omega)
    rcases List.mem_cons.1 hq with rfl | hq
    · exact fun f hf => Nat.le_trans (fa.2 f hf).1 (by omega)
    · rw [List.mem_singleton.1 hq]; exact fun f hf => Nat.le_trans (fb.2 f hf).1 (by omega)) _ s0 i0
  rw [show ([(vo, o), (va, a), (vb, b)].all (fun q => mayB q.2)) = may3 o a b from by simp [may3]] at A1
  obtain ⟨po, ko, rfl, _, _⟩ := ho.slice
  obtain ⟨pa, ka, rfl, _, _⟩ := ha.slice
  obtain ⟨pb, kb, rfl, _, _⟩ := hb.slice
  obtain ⟨no, hno⟩ : ∃ no, o.length = no := ⟨_, rfl⟩
  obtain ⟨na, hna⟩ : ∃ na, a.length = na := ⟨_, rfl⟩
  obtain ⟨nb, hnb⟩ : ∃ nb, b.length = nb := ⟨_, rfl⟩
  rw [hno] at ho A1 c0 s0 i0 ⊢
  rw [hna] at ha A1 c0 s0 i0 ⊢
  rw [hnb] at hb A1 c0 s0 i0 ⊢
  have HMT : Hid (may3 o a b = true → ofJ o a b = if confL o a b (all3 o a b) ++ tooL o a b = [] then (came3 o a b, []) else ([], rise (confL o a b (all3 o a b) ++ tooL o a b))) := fun h => ofJ_conf h
  have HMF : Hid (may3 o a b = false → ofJ o a b = ([], [ques])) := fun h => ofJ_not h
  have H3 : Hid (may3 o a b = true → IsTree o ∧ IsTree a ∧ IsTree b) := fun h => may3_iff.1 h
  generalize ofJ o a b = J at HMT HMF ⊢
  generalize may3 o a b = m at A1 HMT HMF H3
  clear s0 i0 hno hna hnb fo fa fb
  refine callsIn_of_wp Tryz.func11 rfl trivial ?_
  simp only [Tryz.ntmps11, List.size_toArray, List.length_cons, List.length_nil, Nat.reduceAdd, Nat.reduceSub, Array.replicate_succ, Array.replicate_zero, List.push_toArray, List.append_toArray, List.nil_append, List.cons_append]
  gi_wp2_with fail
  refine ⟨trivial, rfl, A1.mono ?_⟩
  rintro e w1 ⟨rfl, c1⟩
  have c01 := Chg.seq c0 c1
  have hs01 := c01.size
  cases m with
  | false =>
    obtain rfl : J = ([], [ques]) := HMF.out rfl
    gi_wp2
    go_ret2
    exact ⟨_, _, rfl, OwnF.nil _ _, OwnT.base (OwnT.one w1 ques) hs01, c01.alloc _⟩
  | true =>
  have HJ := HMT.out rfl
  have h3 := H3.out rfl
  have ho1 := ho.no c01
  have ha1 := ha.no c01
  have hb1 := hb.no c01
  obtain ⟨s1, i1⟩ := three_row (.slice po no ko) (.slice pa na ka) (.slice pb nb kb) o a b w1 ho1 ha1 hb1
  have P1 := paths_in (.slice (some ⟨w1.heap.size, 0, none⟩) 3 3) [((.slice po no ko), o), ((.slice pa na ka), a), ((.slice pb nb kb), b)] _ s1 i1 (by
    have h1 := h3.1.len; have h2 := h3.2.1.len; have h4 := h3.2.2.len
    simp [toldP]; omega)
  rw [show ([((Value.slice po no ko), o), ((.slice pa na ka), a), ((.slice pb nb kb), b)].map (·.2)) = [o, a, b] from rfl] at P1
  have hal : (all3 o a b).length ≤ 36 := by
    have h1 := h3.1.len; have h2 := h3.2.1.len; have h4 := h3.2.2.len
    have := all3_le o a b
    omega
  have cP : Chg No w1 (w1.alloc (.cells #[(.slice po no ko), (.slice pa na ka), (.slice pb nb kb)] 22)) := (Chg.refl _ w1).alloc _
  have HCA : Hid (∀ k p, (all3 o a b)[k]? = some p → nested (cameL o a b ((all3 o a b).take k)) p = nested (came3 o a b) p) := fun k p h => came_ahead (split_at h)
  have HC3 : Hid (came3 o a b = cameL o a b (all3 o a b)) := rfl
  have HCZ : Hid (∀ k, ∀ f ∈ cameL o a b ((all3 o a b).take k), f.1.size ≤ 100000) := fun k => came_size h3 _ (fun p hp => List.mem_of_mem_take hp)
  have HSZ : Hid (∀ p, (atP o p).2.size ≤ 100000 ∧ (atP a p).2.size ≤ 100000 ∧ (atP b p).2.size ≤ 100000) := fun p => ⟨Nat.le_trans (tree_size h3.1 p) (by decide), Nat.le_trans (tree_size h3.2.1 p) (by decide), Nat.le_trans (tree_size h3.2.2 p) (by decide)⟩
  have HTO : Hid (tooL o a b = if 12 < (came3 o a b).length then [star] else []) := rfl
  have HCF : Hid (∀ p, cfB o a b p = ((res o a b p).2 || ((res o a b p).1.1 && nested (came3 o a b) p))) := fun _ => rfl
  obtain ⟨all, HA⟩ : ∃ all, Hid (all3 o a b = all) := ⟨_, rfl⟩
  rw [show paths [o, a, b] = all from HA.out] at P1
  rw [HA.out] at hal HJ HCA HC3 HCZ
  have HJ2 : Hid _ := HJ
  obtain ⟨n, HN⟩ : ∃ n, Hid (all.length = n) := ⟨_, rfl⟩
  clear HMT HMF H3 A1 c0 c1 s1 i1 ho ha hb h3 HJ
  gi_wp2_with fail
  refine ⟨trivial, rfl, P1.mono ?_⟩
  rintro e w2 ⟨tv, rfl, r1, c2⟩
  have c12 := Chg.seq cP c2
  have c02 := Chg.seq c01 c12
  have hs02 := c02.size
  have st : SlT w2 tv all := OwnT.sl r1
  obtain ⟨pt, kt, rfl⟩ := row_slice r1
  rw [HN.out] at st hal ⊢
  have ho2 := ho1.no c12
  have ha2 := ha1.no c12
  have hb2 := hb1.no c12
  have hn0 : n ≤ 9223372036854775807 := by omega
  clear P1 r1 c2 cP c12 ho1 ha1 hb1 hs01 c01
  gi_wp2
  gi_loopw [8, 9, 27] (fun s8 s9 s27 wr => ∃ k : Nat, k ≤ n ∧ s27 = .int .i64 (k : Int) ∧ OwnF wr w2.heap.size s8 (cameL o a b (all.take k)) ∧ OwnT wr w2.heap.size s9 (confL o a b (all.take k)) ∧ Chg No w2 wr) (fun _ _ s27 _ => n - (intOf s27).toNat)
  case atStart => exact ⟨0, Nat.zero_le _, rfl, OwnF.nil _ _, OwnT.nil _ _, Chg.refl _ _⟩
  case round =>
    obtain ⟨k, hk, rfl, ho8, ho9, c⟩ := hrel
    by_cases hlt : k < n
    · have hlt' : (k : Int) < (n : Int) := by omega
      have hko : k < all.length := by rw [HN.out]; exact hlt
      obtain ⟨p, hp⟩ : ∃ p, all[k]? = some p := ⟨_, List.getElem?_eq_getElem hko⟩
      obtain ⟨bb, off, rfl, hcw⟩ := SlT.at (st.no c) k p hp
      have HTS : Hid (all.take (k + 1) = all.take k ++ [p]) := by show _ = _; rw [List.take_add_one, hp]; rfl
      have HS8 : Hid (cameL o a b (all.take (k + 1)) = cameL o a b (all.take k) ++ (if (res o a b p).2 = false ∧ (res o a b p).1.1 = true then [(p, (res o a b p).1.2)] else [])) := by show _ = _; rw [HTS.out, cameL_snoc, cameL_one]
      have HS9 : Hid (confL o a b (all.take (k + 1)) = confL o a b (all.take k) ++ (if ((res o a b p).2 || ((res o a b p).1.1 && nested (came3 o a b) p)) = true then [p] else [])) := by show _ = _; rw [HTS.out, confL_snoc, HCF.out]
      have HLF : Hid ((cameL o a b (all.take k)).length ≤ 36) := by
        have := cameL_le o a b (all.take k)
        rw [List.length_take] at this
        show _ ≤ _
        omega
      have HLT : Hid ((confL o a b (all.take k)).length ≤ 36) := by
        have := confL_len o a b (all.take k)
        rw [List.length_take] at this
        show _ ≤ _
        omega
      have U1 := fun v W h => isUnder_in v (cameL o a b (all.take k)) p (HCZ.out k) W h
      simp only [HCA.out k p hp] at U1
      have T1 := fun W => together_in (atP o p) (atP a p) (atP b p) (HSZ.out p).1 (HSZ.out p).2.1 (HSZ.out p).2.2 W
      simp only [show one3 (atP o p) (atP a p) (atP b p) = res o a b p from rfl] at T1
      have G1 := at_in (.slice po no ko) o p wr (ho2.no c)
      have G2 := fun W h => at_in (.slice pa na ka) a p W h
      have G3 := fun W h => at_in (.slice pb nb kb) b p W h
      generalize res o a b p = R at T1 HS8 HS9
      generalize nested (came3 o a b) p = u at U1 HS9
      generalize atP o p = xo at G1 T1
      generalize atP a p = xa at G2 T1
      generalize atP b p = xb at G3 T1
      generalize cameL o a b (all.take k) = fs at ho8 HS8 HLF U1
      generalize confL o a b (all.take k) = ls at ho9 HS9 HLT
      obtain ⟨⟨r1, r2⟩, r3⟩ := R
      obtain ⟨xo1, xo2⟩ := xo
      obtain ⟨xa1, xa2⟩ := xa
      obtain ⟨xb1, xb2⟩ := xb
      obtain ⟨p8, k8, rfl⟩ := ho8.slice
      obtain ⟨p9, k9, rfl⟩ := row_slice ho9
      obtain ⟨T, hT⟩ : ∃ T, togR ((r1, r2), r3) = T := ⟨_, rfl⟩
      have HTg : Hid (togR ((r1, r2), r3) = T) := hT
      rw [hT] at T1
      obtain ⟨⟨t1, t2⟩, t3⟩ := T
      dsimp only at G1 G2 G3 T1 HS8 HS9
      clear hp hko HTS hT
      gi_wp2_with fail
      refine ⟨trivial, rfl, G1.mono ?_⟩
      rintro e w3 ⟨rfl, c3⟩
      have c23 := Chg.seq c c3
      gi_wp2_with fail
      refine ⟨trivial, rfl, (G2 _ (ha2.no c23)).mono ?_⟩
      rintro e w4 ⟨rfl, c4⟩
      have c24 := Chg.seq c23 c4
      gi_wp2_with fail
      refine ⟨trivial, rfl, (G3 _ (hb2.no c24)).mono ?_⟩
      rintro e w5 ⟨rfl, c5⟩
      have c25 := Chg.seq c24 c5
      gi_wp2_with fail
      refine ⟨trivial, rfl, (T1 _).mono ?_⟩
      rintro e w6 ⟨rfl, c6⟩
      have c26 := Chg.seq c25 c6
      have c36 := Chg.seq c3 (Chg.seq c4 (Chg.seq c5 c6))
      clear G1 G2 G3 T1 c23 c24 c25 c3 c4 c5 c6
      have o8 := ho8.no c36
      have o9 := OwnT.no ho9 c36
      clear ho8 ho9 c36
      cases r3 with
      | true =>
        have et : (((t1, t2), t3) : At × Bool) = ((false, ⟨#[]⟩), false) := HTg.out.symm
        cases et
        obtain ⟨c8, hb8⟩ := spot_box w6 false ⟨#[]⟩
        have c28 := Chg.seq c26 c8
        have o88 := o8.no c8
        have o98 := OwnT.no o9 c8
        have hsl := SlT.one (w6.alloc (.cells #[.bool false, .string ⟨#[]⟩] 50)) p
        rw [World.size_alloc] at hsl
        have cA : Chg No (w6.alloc (.cells #[.bool false, .string ⟨#[]⟩] 50)) ((w6.alloc (.cells #[.bool false, .string ⟨#[]⟩] 50)).alloc (.cells #[.string p] 9)) := (Chg.refl _ (w6.alloc (.cells #[.bool false, .string ⟨#[]⟩] 50))).alloc _
        have oA := OwnT.no o98 cA
        have ccA := Chg.seq c28 cA
        have hbs := ccA.size
        have HG : Hid (∀ W5, ((w6.alloc (.cells #[.bool false, .string ⟨#[]⟩] 50)).alloc (.cells #[.string p] 9)).grownBy W5 (Value.slice p9 ls.length k9).ownBlock → Chg No w2 W5 ∧ OwnF W5 w2.heap.size (.slice p8 fs.length k8) fs ∧ W5.cell? ⟨w6.heap.size, 0, none⟩ = some (.bool false)) := fun W5 hg => by
          have c45 : Chg (fun q => Value.ownBlock (.slice p9 ls.length k9) = some q) (w6.alloc (.cells #[.bool false, .string ⟨#[]⟩] 50)) W5 := ((Chg.refl _ (w6.alloc (.cells #[.bool false, .string ⟨#[]⟩] 50))).alloc _).grown hg (fun k e => .inl e)
          refine ⟨ccA.grown hg (fun q e => .inr (World.ownsRow.lt o98 q e).1), o88.chg c45 (fun q h7 h8 => row_apart (by decide) o88 o98 q h7 h8), ?_⟩
          have h5 := c45.same hb8 (fun e => by have := (World.ownsRow.lt o9 _ e).2; omega)
          exact (two_cells h5).1
        rw [if_neg (fun e => by cases e.1), List.append_nil] at HS8
        rw [Bool.true_or, if_pos rfl] at HS9
        gi_wp2_with fail
        any_goals (exact absurd (by assumption : some undef = some (Value.bool _)) (by simp [undef]))
        refine ⟨trivial, ?_⟩
        rename_i hKK _ _
        apply hKK
        gi_wp2_with (gi_at_builtin; refine wpListIn_append_t _ rfl _ _ rfl w2.heap.size _ ls rfl oA (some ⟨w6.heap.size + 1, 0, none⟩) 1 1 [p] rfl hsl (by have := HLT.out; omega) hbs ?_; intro v' W5 hown' hgrow' _; obtain ⟨p', c', rfl⟩ := row_slice hown'; obtain ⟨c5, of5, q5⟩ := HG.out W5 hgrow')
        refine ⟨⟨k + 1, hlt, by go_num, by rw [HS8.out]; exact of5, by rw [HS9.out]; rw [List.length_append] at hown'; exact hown', c5⟩, by simp [intOf]; omega⟩
      | false =>
      have et : (((t1, t2), t3) : At × Bool) = ((r1, r2), true) := HTg.out.symm
      cases et
      clear HTg
      obtain ⟨c8, hb8⟩ := spot_box w6 r1 r2
      have c28 := Chg.seq c26 c8
      have o88 := o8.no c8
      have o98 := OwnT.no o9 c8
      have q0 : (w6.alloc (.cells #[.bool r1, .string r2] 50)).cell? ⟨w6.heap.size, 0, none⟩ = some (.bool r1) := (two_cells hb8).1
      have hg8 : ∀ q, (Value.slice p8 fs.length k8).ownBlock = some q → q ≠ w6.heap.size := fun q e => by have := (World.ownsRow.lt o8 q e).2; omega
      have hg9 : ∀ q, (Value.slice p9 ls.length k9).ownBlock = some q → q ≠ w6.heap.size := fun q e => by have := (World.ownsRow.lt o9 q e).2; omega
      rw [Bool.false_or] at HS9
      cases r1 with
      | false =>
        rw [if_neg (fun e => by cases e.2), List.append_nil] at HS8
        rw [Bool.false_and, if_neg Bool.false_ne_true, List.append_nil] at HS9
        gi_wp2_with fail
        refine ⟨trivial, ?_⟩
        rename_i hKK
        apply hKK
        gi_wp2
        refine ⟨⟨k + 1, hlt, by go_num, by rw [HS8.out]; exact o88, by rw [HS9.out]; exact o98, c28⟩, by simp [intOf]; omega⟩
      | true =>
      rw [if_pos ⟨rfl, rfl⟩] at HS8
      rw [Bool.true_and] at HS9
      have U2 := U1 (.slice p8 fs.length k8) (w6.alloc (.cells #[.bool true, .string r2] 50)) o88.sl
      gi_wp2_with fail
      refine ⟨trivial, rfl, U2.mono ?_⟩
      rintro e w9 ⟨rfl, c9⟩
      have c29 := Chg.seq c28 c9
      have o89 := o88.no c9
      have o99 := OwnT.no o98 c9
      have hb9 := c9.same hb8 (fun h => h)
      have HB : Hid (∀ W v9 l9, Chg No w2 W → OwnF W w2.heap.size (.slice p8 fs.length k8) fs → OwnT W w2.heap.size v9 l9 →
          OwnF (W.alloc (.cells #[.string p, .string r2] 27)) w2.heap.size (.slice p8 fs.length k8) fs ∧ SlF (W.alloc (.cells #[.string p, .string r2] 27)) (.slice (some ⟨W.heap.size, 0, none⟩) 1 1) [(p, r2)] ∧ w2.heap.size ≤ (W.alloc (.cells #[.string p, .string r2] 27)).heap.size ∧
          ∀ W7, (W.alloc (.cells #[.string p, .string r2] 27)).grownBy W7 (Value.slice p8 fs.length k8).ownBlock → Chg No w2 W7 ∧ OwnT W7 w2.heap.size v9 l9) := fun W v9 l9 cW hF hT => by
        refine ⟨hF.no ((Chg.refl _ W).alloc _), SlF.one W (p, r2), (cW.alloc _).size, fun W7 hg => ⟨(cW.alloc _).grown hg (fun q e => .inr (World.ownsRow.lt hF q e).1), ?_⟩⟩
        have c47 : Chg (fun q => Value.ownBlock (.slice p8 fs.length k8) = some q) W W7 := ((Chg.refl _ W).alloc _).grown hg (fun k e => .inl e)
        exact OwnT.chg hT c47 (fun q h9 h8 => row_apart (by decide) hT hF q h9 h8)
      clear U1 U2 q0 hcw
      cases u with
      | false =>
        rw [if_neg Bool.false_ne_true, List.append_nil] at HS9
        have q0 : w9.cell? ⟨w6.heap.size, 0, none⟩ = some (.bool true) := (two_cells hb9).1
        have q1 : w9.cell? ⟨w6.heap.size, 1, none⟩ = some (.string r2) := (two_cells hb9).2.1
        obtain ⟨oB8, hslB, hbsB, HB5⟩ := HB.out w9 _ _ c29 o89 o99
        gi_wp2_with (gi_at_builtin; refine wpListIn_append_sf _ rfl _ _ rfl w2.heap.size _ fs rfl oB8 (some ⟨w9.heap.size, 0, none⟩) 1 1 [(p, r2)] rfl hslB (by have := HLF.out; omega) hbsB ?_; intro v8' W7 hown8 hgrow8 _; obtain ⟨p8', c8', rfl⟩ := hown8.slice; obtain ⟨c7, o79⟩ := HB5 W7 hgrow8)
        refine ⟨⟨k + 1, hlt, by go_num, by rw [HS8.out]; rw [List.length_append] at hown8; exact hown8, by rw [HS9.out]; exact o79, c7⟩, by simp [intOf]; omega⟩
      | true =>
        rw [if_pos rfl] at HS9
        have hsl := SlT.one w9 p
        have cA : Chg No w9 (w9.alloc (.cells #[.string p] 9)) := (Chg.refl _ w9).alloc _
        have oA := OwnT.no o99 cA
        have ccA := Chg.seq c29 cA
        have hbs := ccA.size
        have HG : Hid (∀ W5, (w9.alloc (.cells #[.string p] 9)).grownBy W5 (Value.slice p9 ls.length k9).ownBlock → Chg No w2 W5 ∧ OwnF W5 w2.heap.size (.slice p8 fs.length k8) fs ∧ W5.cell? ⟨w6.heap.size, 0, none⟩ = some (.bool true) ∧ W5.cell? ⟨w6.heap.size, 1, none⟩ = some (.string r2)) := fun W5 hg => by
          have c45 : Chg (fun q => Value.ownBlock (.slice p9 ls.length k9) = some q) w9 W5 := ((Chg.refl _ w9).alloc _).grown hg (fun k e => .inl e)
          have h5 := c45.same hb9 (fun e => hg9 _ e rfl)
          exact ⟨ccA.grown hg (fun q e => .inr (World.ownsRow.lt o99 q e).1), o89.chg c45 (fun q h7 h8 => row_apart (by decide) o89 o99 q h7 h8), (two_cells h5).1, (two_cells h5).2.1⟩
        gi_wp2_with (gi_at_builtin; first
          | (refine wpListIn_append_t _ rfl _ _ rfl w2.heap.size _ ls rfl oA (some ⟨w9.heap.size, 0, none⟩) 1 1 [p] rfl hsl (by have := HLT.out; omega) hbs ?_; intro v9' W5 hown9 hgrow9 _; obtain ⟨p9', c9', rfl⟩ := row_slice hown9; obtain ⟨c5, of5, q50, q51⟩ := HG.out W5 hgrow9; obtain ⟨oB8, hslB, hbsB, HB5⟩ := HB.out W5 _ _ c5 of5 hown9)
          | (refine wpListIn_append_sf _ rfl _ _ rfl w2.heap.size _ fs rfl oB8 (some ⟨W5.heap.size, 0, none⟩) 1 1 [(p, r2)] rfl hslB (by have := HLF.out; omega) hbsB ?_; intro v8' W7 hown8 hgrow8 _; obtain ⟨p8', c8', rfl⟩ := hown8.slice; obtain ⟨c7, o79⟩ := HB5 W7 hgrow8))
        refine ⟨⟨k + 1, hlt, by go_num, by rw [HS8.out]; rw [List.length_append] at hown8; exact hown8, by rw [HS9.out]; rw [List.length_append] at o79; exact o79, c7⟩, by simp [intOf]; omega⟩
    · obtain rfl : k = n := by omega
      have hlt' : ¬ (k : Int) < (k : Int) := by omega
      have hkn : all.take k = all := List.take_of_length_le (by rw [HN.out]; exact Nat.le_refl _)
      rw [hkn] at ho8 ho9
      have HTL : Hid ((confL o a b all).length ≤ 36) := by
        have := confL_len o a b all
        have h2 := HN.out
        show _ ≤ _
        omega
      have HML : Hid ((cameL o a b all).length ≤ 36) := by
        have := cameL_le o a b all
        have h2 := HN.out
        show _ ≤ _
        omega
      have HJ3 : Hid (J = if confL o a b all ++ (if 12 < (cameL o a b all).length then [star] else []) = [] then (cameL o a b all, []) else ([], rise (confL o a b all ++ (if 12 < (cameL o a b all).length then [star] else [])))) := by
        show _ = _
        rw [HJ2.out, HTO.out, HC3.out]
      clear HJ2 HTO HC3 HCA HCZ HSZ HCF HA
      generalize cameL o a b all = cm at ho8 HML HJ3
      generalize confL o a b all = ls at ho9 HTL HJ3
      obtain ⟨m, HMl⟩ : ∃ m, Hid (cm.length = m) := ⟨_, rfl⟩
      have hm36 : m ≤ 36 := by have := HML.out; rw [HMl.out] at this; exact this
      have hm0 : m ≤ 9223372036854775807 := by omega
      obtain ⟨p8, k8, rfl⟩ := ho8.slice
      obtain ⟨p9, k9, rfl⟩ := row_slice ho9
      have of0 : OwnF wr w2.heap.size (.slice p8 cm.length k8) cm := ho8
      rw [HMl.out] at HJ3 of0 ⊢
      clear ho8 hkn hlt hk st HML
      by_cases h12 : 12 < m
      · have h12' : (12 : Int) < (m : Int) := by omega
        rw [if_pos h12] at HJ3
        have hsl := SlT.one wr star
        have cA : Chg No wr (wr.alloc (.cells #[.string ⟨#[42]⟩] 9)) := (Chg.refl _ wr).alloc _
        have oA := OwnT.no ho9 cA
        have ccA := Chg.seq c cA
        have hbs := ccA.size
        have HG : Hid (∀ W5, (wr.alloc (.cells #[.string ⟨#[42]⟩] 9)).grownBy W5 (Value.slice p9 ls.length k9).ownBlock → Chg No w2 W5) := fun W5 hg => ccA.grown hg (fun q e => .inr (World.ownsRow.lt ho9 q e).1)
        have HJ4 : Hid (J = ([], rise (ls ++ [star]))) := by
          show _ = _
          rw [HJ3.out, if_neg (by simp)]
        have hq1 : ls.length + 1 ≤ 37 := by have := HTL.out; omega
        have HLq : Hid ((ls ++ [star]).length = ls.length + 1) := by show _ = _; rw [List.length_append]; rfl
        obtain ⟨q, hq⟩ : ∃ q, ls.length + 1 = q := ⟨_, rfl⟩
        rw [hq] at hq1 HLq
        have hq0 : (0 : Int) < (q : Int) := by omega
        gi_wp2_with (first
          | (gi_at_builtin; refine wpListIn_append_t _ rfl _ _ rfl w2.heap.size _ ls rfl oA (some ⟨wr.heap.size, 0, none⟩) 1 1 [star] rfl hsl (by have := HTL.out; omega) hbs ?_; intro v' w5 hown' hgrow' _; obtain ⟨p', c', rfl⟩ := row_slice hown'; have c5 := HG.out w5 hgrow'; have S5 := sortS_in _ (ls ++ [star]) w2.heap.size (by rw [HLq.out]; omega) w5 hown'; rw [HLq.out] at S5 hown' ⊢))
        refine ⟨trivial, rfl, S5.mono ?_⟩
        rintro e w6 ⟨rfl, r6, c6⟩
        have c26 : Chg No w2 w6 := c5.trans c6 (fun k h => .inr (World.ownsRow.lt hown' k h).1)
        have C6 := compactT_in _ (ls ++ [star]) w2.heap.size (by rw [HLq.out]; omega) w6 (by rw [HLq.out]; exact r6)
        gi_wp2_with fail
        refine ⟨trivial, rfl, C6.mono ?_⟩
        rintro e w7 ⟨v7, rfl, r7, c7⟩
        have c27 : Chg No w2 w7 := c26.trans c7 (fun k h => .inr (World.ownsRow.lt r6 k h).1)
        gi_wp2
        go_ret2
        refine ⟨_, _, rfl, ?_, ?_, Chg.seq c02 c27⟩
        · rw [HJ4.out]; exact OwnF.nil _ _
        · rw [HJ4.out]; exact OwnT.base r7 hs02
      · have h12' : ¬ (12 : Int) < (m : Int) := by omega
        rw [if_neg h12, List.append_nil] at HJ3
        cases ls with
        | nil =>
          have HJ4 : Hid (J = (cm, [])) := by show _ = _; rw [HJ3.out, if_pos rfl]
          gi_wp2
          go_ret2
          refine ⟨_, _, rfl, ?_, ?_, Chg.seq c02 c⟩
          · rw [HJ4.out]; show OwnF _ _ _ cm; rw [HMl.out] at *; exact of0.base hs02
          · rw [HJ4.out]; exact OwnT.nil _ _
        | cons z r =>
          have HJ4 : Hid (J = ([], rise (z :: r))) := by show _ = _; rw [HJ3.out, if_neg (by simp)]
          have S5 := sortS_in (.slice p9 (z :: r).length k9) (z :: r) w2.heap.size (by have := HTL.out; omega) wr ho9
          have C5 := fun W h => compactT_in (.slice p9 (z :: r).length k9) (z :: r) w2.heap.size (by have := HTL.out; omega) W h
          obtain ⟨q, hq⟩ : ∃ q, (z :: r).length = q := ⟨_, rfl⟩
          have hq1 : q ≤ 36 := by have := HTL.out; omega
          have hq0 : (0 : Int) < (q : Int) := by rw [List.length_cons] at hq; omega
          rw [hq] at S5 C5 ho9 ⊢
          clear hq
          gi_wp2_with fail
          refine ⟨trivial, rfl, S5.mono ?_⟩
          rintro e w6 ⟨rfl, r6, c6⟩
          have c26 : Chg No w2 w6 := c.trans c6 (fun k h => .inr (World.ownsRow.lt ho9 k h).1)
          gi_wp2_with fail
          refine ⟨trivial, rfl, (C5 _ r6).mono ?_⟩
          rintro e w7 ⟨v7, rfl, r7, c7⟩
          have c27 : Chg No w2 w7 := c26.trans c7 (fun k h => .inr (World.ownsRow.lt r6 k h).1)
          gi_wp2
          go_ret2
          refine ⟨_, _, rfl, ?_, ?_, Chg.seq c02 c27⟩
          · rw [HJ4.out]; exact OwnF.nil _ _
          · rw [HJ4.out]; exact OwnT.base r7 hs02

end Go.Proofs.YtndblaemladppabGreatDoor

end
section
-- JVir
namespace Go.TreeLib
open Go Go.TextLib
theorem one3_clash {o x y : At} (h : (one3 o x y).2 = true) : (one3 o x y).1 = o := by
  unfold one3 at h ⊢
  by_cases h1 : x = y
  · rw [if_pos h1] at h; cases h
  rw [if_neg h1] at h ⊢
  by_cases h2 : x = o
  · rw [if_pos h2] at h; cases h
  rw [if_neg h2] at h ⊢
  by_cases h3 : y = o
  · rw [if_pos h3] at h; cases h
  rw [if_neg h3] at h ⊢
  unfold mid at h ⊢
  by_cases h4 : x.1 = true ∧ y.1 = true
  · rw [if_pos h4] at h ⊢
    cases hm : tm o.2 x.2 y.2 with
    | none => rfl
    | some m => rw [hm] at h; cases h
  · rw [if_neg h4]
theorem kept_size {o a b : List Fl} (h : IsTree o ∧ IsTree a ∧ IsTree b) (l : List ByteArray) (hl : ∀ p ∈ l, p ∈ all3 o a b) : ∀ f ∈ keptL o a b l, f.1.size ≤ 100000 := by
  intro f hf
  have := path_of h (hl _ (mem_outL.1 (List.mem_filter.1 hf).1).1)
  have h2 := (pathB_iff.1 this).len
  have h3 : (Bs f.1).length = f.1.size := rfl
  omega
end Go.TreeLib
namespace Go.Proofs.YtndblaemladppabGreatDoor
open Go.RowKit Go.Shelf Go.SeqLib Go.DiffLib Go.TreeLib Go.TextLib Go.BigFrame
attribute [local go_sem] Oper.semAt_some

/-- A list of files that is owned, cut short. -/
theorem OwnF.cut {W : World} {base : Nat} {p : Option Addr} {n cap : Nat} {zs : List Fl} (h : OwnF W base (.slice p n cap) zs) (hn : zs.length = n) (hi : Nat) (h2 : hi ≤ n) :
    OwnF W base (.slice p hi cap) (zs.take hi) ∧ ∀ w, (Instr.sliceAt 22 (.slice p n cap) none (some (.int .i64 (hi : Int))) none).run Tryz.prog w = .ok (.slice p hi cap) w := by
  subst hn
  have hl : (zs.take hi).length = hi := by rw [List.length_take]; omega
  have hs := h.sl
  have hcap : zs.length ≤ cap := by obtain ⟨p0, cap0, e0, q1, _⟩ := hs; cases e0; omega
  have hrun : (sliced p 0 hi cap 2) = .slice p hi cap → ∀ w, (Instr.sliceAt 22 (.slice p zs.length cap) none (some (.int .i64 (hi : Int))) none).run Tryz.prog w = .ok (.slice p hi cap) w := fun e w => by
    have ht : Tryz.prog.underlying 22 = some (.slice (Tryz.prog.elem 22)) := by rw [elem_files]; exact Tryz.underlying22
    rw [run_sliceAt_slice _ _ _ _ _ _ ht, run_slice_h _ _ _ _ _ ht .i64 (hi : Int) (by omega) (by omega), elem_files, size_file]
    show Result.ok (sliced p 0 hi cap 2) w = _
    rw [e]
  obtain ⟨h1, h2' | ⟨g, cap', cur, hv, hb, hg, hn, hm, hc, ht⟩⟩ := h
  · obtain ⟨e, e0⟩ := h2'
    rw [Value.slice.injEq] at e
    obtain ⟨rfl, e2, rfl⟩ := e
    have hz : zs = [] := List.length_eq_zero_iff.1 e0
    obtain rfl : hi = 0 := by omega
    subst hz
    exact ⟨OwnF.nil _ _, hrun (by simp [sliced])⟩
  · cases hv
    refine ⟨⟨by rw [flatF_length], .inr ⟨g, cap, cur, by rw [hl], hb, hg, by omega, hm, hc, ?_⟩⟩, hrun ?_⟩
    · rw [hl]
      have h5 : (cur.toList.take (zs.length * 2)).take (hi * 2) = cur.toList.take (hi * 2) := by rw [List.take_take, Nat.min_eq_left (by omega)]
      rw [← h5, ht]
      conv => lhs; rw [← List.take_append_drop hi zs, List.flatMap_append]
      exact List.take_left' (by rw [flatF_length, hl])
    · unfold sliced
      have : (Addr.add ⟨g, 0, none⟩ (0 * 2)) = ⟨g, 0, none⟩ := by rw [addr_add]
      rw [Option.map_some, this]
      simp

/-- What holds while what came of a path is asked for and laid in a box. -/
structure VirInv (W0 : World) (va vb vR : Value) (r : At) (d : Nat → Bool) (u : Nat → Value) (W : World) : Prop where
  chg : Chg No W0 W
  v3 : u 3 = va
  v6 : u 6 = vb
  v7 : u 7 = vR
  v11 : ∃ g, u 11 = .pointer (some ⟨g, 0, none⟩)
  o12 : d 12 = true → d 11 = true
  b11 : d 11 = true → ∃ g, u 11 = .pointer (some ⟨g, 0, none⟩) ∧ W0.heap.size ≤ g ∧ W.heap[g]? = some (.cells (if d 12 = true then #[.bool r.1, .string r.2] else #[.bool false, .string ⟨#[]⟩]) 50 (0, 0))
section
variable {W0 W W' : World} {va vb vR : Value} {r : At} {d : Nat → Bool} {u : Nat → Value}
theorem VirInv.step (h : VirInv W0 va vb vR r d u W) (i : Nat) (v : Value) (c : Chg No W W') (h11 : ¬ 11 = i) (h12 : ¬ 12 = i) (h3 : 3 = i → v = va) (h6 : 6 = i → v = vb) (h7 : 7 = i → v = vR) :
    VirInv W0 va vb vR r (fun j => if j = i then true else d j) (fun j => if j = i then v else u j) W' := by
  refine ⟨Chg.seq h.chg c, ?_, ?_, ?_, ?_, fun e => ?_, fun e => ?_⟩
  · by_cases hh : 3 = i
    · simp only [if_pos hh]; exact h3 hh
    · simp only [if_neg hh]; exact h.v3
  · by_cases hh : 6 = i
    · simp only [if_pos hh]; exact h6 hh
    · simp only [if_neg hh]; exact h.v6
  · by_cases hh : 7 = i
    · simp only [if_pos hh]; exact h7 hh
    · simp only [if_neg hh]; exact h.v7
  · simp only [if_neg h11]; exact h.v11
  · simp only [if_neg h11, if_neg h12] at e ⊢; exact h.o12 e
  · simp only [if_neg h11, if_neg h12] at e ⊢
    obtain ⟨g, e1, g1, g2⟩ := h.b11 e
    exact ⟨g, e1, g1, c.same g2 (fun h => h)⟩
theorem VirInv.made (h : VirInv W0 va vb vR r d u W) (h12 : d 12 = false) :
    VirInv W0 va vb vR r (fun j => if j = 11 then true else d j) (fun j => if j = 11 then .pointer (some ⟨W.heap.size, 0, none⟩) else u j) (W.alloc (.cells #[.bool false, .string ⟨#[]⟩] 50)) :=
  ⟨h.chg.alloc _, h.v3, h.v6, h.v7, ⟨W.heap.size, rfl⟩, fun _ => rfl, fun _ => ⟨W.heap.size, rfl, h.chg.size, by
    show (W.alloc _).heap[W.heap.size]? = some (.cells (if d 12 = true then _ else _) _ _)
    rw [h12]
    exact World.alloc_heap_new W _⟩⟩
theorem VirInv.filled (h : VirInv W0 va vb vR r d u W) {g : Nat} (hg1 : W0.heap.size ≤ g) (hg2 : W.heap[g]? = some (.cells #[.bool false, .string ⟨#[]⟩] 50 (0, 0))) (e : u 11 = .pointer (some ⟨g, 0, none⟩)) (h11 : d 11 = true) (v : Value) :
    VirInv W0 va vb vR r (fun j => if j = 12 then true else d j) (fun j => if j = 12 then v else u j) ((W.setCell ⟨g, 0, none⟩ (.bool r.1)).setCell ⟨g, 1, none⟩ (.string r.2)) :=
  ⟨(h.chg.setCell (p := ⟨g, 0, none⟩) (.inr hg1) _).setCell (p := ⟨g, 1, none⟩) (.inr hg1) _, h.v3, h.v6, h.v7, ⟨g, e⟩, fun _ => h11, fun _ => ⟨g, e, hg1, by
    show ((W.setCell ⟨g, 0, none⟩ (.bool r.1)).setCell ⟨g, 1, none⟩ (.string r.2)).heap[g]? = some (.cells #[.bool r.1, .string r.2] 50 (0, 0))
    simp [World.setCell, Array.getElem?_modify, hg2]⟩⟩
end

set_option maxRecDepth 100000 in
set_option maxHeartbeats 4000000 in
theorem joinVir_in (vo va vb : Value) (o a b : List Fl) (w : World) (ho : SlF w vo o) (ha : SlF w va a) (hb : SlF w vb b) (fo : Few o) (fa : Few a) (fb : Few b) :
    CallsIn Fence.wide 0 Tryz.prog 18 #[vo, va, vb] w fun e w' => ∃ v1, e = .returned v1 ∧ OwnF w' w.heap.size v1 (virJ o a b) ∧ Chg No w w' := by
  have hmix : Tryz.prog.follows .mixedOrders = true := by kernel_rfl
  obtain ⟨s0, i0⟩ := three_row vo va vb o a b w ho ha hb
  have c0 : Chg No w (w.alloc (.cells #[vo, va, vb] 22)) := (Chg.refl _ w).alloc _
  have A1 := areTrees_in (.slice (some ⟨w.heap.size, 0, none⟩) 3 3) [(vo, o), (va, a), (vb, b)] (by simp) (by
    intro q hq
    rcases List.mem_cons.1 hq with rfl | hq
    · exact fun f hf => Nat.le_trans (fo.2 f hf).1 (by omega)
    rcases List.mem_cons.1 hq with rfl | hq
    · exact fun f hf => Nat.le_trans (fa.2 f hf).1 (by omega)
    · rw [List.mem_singleton.1 hq]; exact fun f hf => Nat.le_trans (fb.2 f hf).1 (by omega)) _ s0 i0
  rw [show ([(vo, o), (va, a), (vb, b)].all (fun q => mayB q.2)) = may3 o a b from by simp [may3]] at A1
  obtain ⟨po, ko, rfl, _, _⟩ := ho.slice
  obtain ⟨pa, ka, rfl, _, _⟩ := ha.slice
  obtain ⟨pb, kb, rfl, _, _⟩ := hb.slice
  obtain ⟨no, hno⟩ : ∃ no, o.length = no := ⟨_, rfl⟩
  obtain ⟨na, hna⟩ : ∃ na, a.length = na := ⟨_, rfl⟩
  obtain ⟨nb, hnb⟩ : ∃ nb, b.length = nb := ⟨_, rfl⟩
  rw [hno] at ho A1 c0 s0 i0 ⊢
  rw [hna] at ha A1 c0 s0 i0 ⊢
  rw [hnb] at hb A1 c0 s0 i0 ⊢
  have HMT : Hid (may3 o a b = true → virJ o a b = (keptL o a b (all3 o a b)).take 12) := fun h => virJ_kept h
  have HMF : Hid (may3 o a b = false → virJ o a b = []) := fun h => by
    show _ = _
    unfold virJ
    rw [if_neg (by rw [h]; exact Bool.false_ne_true)]
  have H3 : Hid (may3 o a b = true → IsTree o ∧ IsTree a ∧ IsTree b) := fun h => may3_iff.1 h
  generalize virJ o a b = J at HMT HMF ⊢
  generalize may3 o a b = m at A1 HMT HMF H3
  clear s0 i0 hno hna hnb fo fa fb
  refine callsIn_of_wp Tryz.func18 rfl trivial ?_
  simp only [Tryz.ntmps18, List.size_toArray, List.length_cons, List.length_nil, Nat.reduceAdd, Nat.reduceSub, Array.replicate_succ, Array.replicate_zero, List.push_toArray, List.append_toArray, List.nil_append, List.cons_append]
  gi_wp2_with fail
  refine ⟨trivial, rfl, A1.mono ?_⟩
  rintro e w1 ⟨rfl, c1⟩
  have c01 := Chg.seq c0 c1
  have hs01 := c01.size
  cases m with
  | false =>
    obtain rfl : J = [] := HMF.out rfl
    gi_wp2
    go_ret
    exact ⟨_, rfl, OwnF.nil _ _, c01⟩
  | true =>
  have HJ := HMT.out rfl
  have h3 := H3.out rfl
  have ho1 := ho.no c01
  have ha1 := ha.no c01
  have hb1 := hb.no c01
  obtain ⟨s1, i1⟩ := three_row (.slice po no ko) (.slice pa na ka) (.slice pb nb kb) o a b w1 ho1 ha1 hb1
  have P1 := paths_in (.slice (some ⟨w1.heap.size, 0, none⟩) 3 3) [((.slice po no ko), o), ((.slice pa na ka), a), ((.slice pb nb kb), b)] _ s1 i1 (by
    have h1 := h3.1.len; have h2 := h3.2.1.len; have h4 := h3.2.2.len
    simp [toldP]; omega)
  rw [show ([((Value.slice po no ko), o), ((.slice pa na ka), a), ((.slice pb nb kb), b)].map (·.2)) = [o, a, b] from rfl] at P1
  have hal : (all3 o a b).length ≤ 36 := by
    have h1 := h3.1.len; have h2 := h3.2.1.len; have h4 := h3.2.2.len
    have := all3_le o a b
    omega
  have cP : Chg No w1 (w1.alloc (.cells #[(.slice po no ko), (.slice pa na ka), (.slice pb nb kb)] 22)) := (Chg.refl _ w1).alloc _
  have HCA : Hid (∀ k p, (all3 o a b)[k]? = some p → nested (keptL o a b ((all3 o a b).take k)) p = nested (out3 o a b) p) := fun k p h => kept_ahead (split_at h)
  have HCZ : Hid (∀ k, ∀ f ∈ keptL o a b ((all3 o a b).take k), f.1.size ≤ 100000) := fun k => kept_size h3 _ (fun p hp => List.mem_of_mem_take hp)
  have HSZ : Hid (∀ p, (atP o p).2.size ≤ 100000 ∧ (atP a p).2.size ≤ 100000 ∧ (atP b p).2.size ≤ 100000) := fun p => ⟨Nat.le_trans (tree_size h3.1 p) (by decide), Nat.le_trans (tree_size h3.2.1 p) (by decide), Nat.le_trans (tree_size h3.2.2 p) (by decide)⟩
  have HRO : Hid (∀ p, (res o a b p).2 = true → (res o a b p).1 = atP o p) := fun p h => one3_clash h
  obtain ⟨all, HA⟩ : ∃ all, Hid (all3 o a b = all) := ⟨_, rfl⟩
  rw [show paths [o, a, b] = all from HA.out] at P1
  rw [HA.out] at hal HJ HCA HCZ
  have HJ2 : Hid _ := HJ
  obtain ⟨n, HN⟩ : ∃ n, Hid (all.length = n) := ⟨_, rfl⟩
  clear HMT HMF H3 A1 c0 c1 s1 i1 ho ha hb h3 HJ
  gi_wp2_with fail
  refine ⟨trivial, rfl, P1.mono ?_⟩
  rintro e w2 ⟨tv, rfl, r1, c2⟩
  have c12 := Chg.seq cP c2
  have c02 := Chg.seq c01 c12
  have hs02 := c02.size
  have st : SlT w2 tv all := OwnT.sl r1
  obtain ⟨pt, kt, rfl⟩ := row_slice r1
  rw [HN.out] at st hal ⊢
  have ho2 := ho1.no c12
  have ha2 := ha1.no c12
  have hb2 := hb1.no c12
  have hn0 : n ≤ 9223372036854775807 := by omega
  clear P1 r1 c2 cP c12 ho1 ha1 hb1 hs01 c01
  gi_wp2
  gi_loopw [7, 25] (fun s7 s25 wr => ∃ k : Nat, k ≤ n ∧ s25 = .int .i64 (k : Int) ∧ OwnF wr w2.heap.size s7 (keptL o a b (all.take k)) ∧ Chg No w2 wr) (fun _ s25 _ => n - (intOf s25).toNat)
  case atStart => exact ⟨0, Nat.zero_le _, rfl, OwnF.nil _ _, Chg.refl _ _⟩
  case round =>
    obtain ⟨k, hk, rfl, ho7, c⟩ := hrel
    by_cases hlt : k < n
    · have hlt' : (k : Int) < (n : Int) := by omega
      have hko : k < all.length := by rw [HN.out]; exact hlt
      obtain ⟨p, hp⟩ : ∃ p, all[k]? = some p := ⟨_, List.getElem?_eq_getElem hko⟩
      obtain ⟨bb, off, rfl, hcw⟩ := SlT.at (st.no c) k p hp
      have HTS : Hid (all.take (k + 1) = all.take k ++ [p]) := by show _ = _; rw [List.take_add_one, hp]; rfl
      have HS7 : Hid (keptL o a b (all.take (k + 1)) = keptL o a b (all.take k) ++ (if ((res o a b p).1.1 && !nested (out3 o a b) p) = true then [(p, (res o a b p).1.2)] else [])) := by show _ = _; rw [HTS.out, keptL_snoc]
      have HLF : Hid ((keptL o a b (all.take k)).length ≤ 36) := by
        have := keptL_len o a b (all.take k)
        rw [List.length_take] at this
        show _ ≤ _
        omega
      have U1 := fun v W h => isUnder_in v (keptL o a b (all.take k)) p (HCZ.out k) W h
      simp only [HCA.out k p hp] at U1
      have T1 := fun W => together_in (atP o p) (atP a p) (atP b p) (HSZ.out p).1 (HSZ.out p).2.1 (HSZ.out p).2.2 W
      simp only [show one3 (atP o p) (atP a p) (atP b p) = res o a b p from rfl] at T1
      have HRo : Hid ((res o a b p).2 = true → (res o a b p).1 = atP o p) := HRO.out p
      have G1 := at_in (.slice po no ko) o p wr (ho2.no c)
      have G2 := fun W h => at_in (.slice pa na ka) a p W h
      have G3 := fun W h => at_in (.slice pb nb kb) b p W h
      generalize res o a b p = R at T1 HS7 HRo
      generalize nested (out3 o a b) p = u at U1 HS7
      generalize atP o p = xo at G1 T1 HRo
      generalize atP a p = xa at G2 T1
      generalize atP b p = xb at G3 T1
      generalize keptL o a b (all.take k) = fs at ho7 HS7 HLF U1
      obtain ⟨⟨r1, r2⟩, r3⟩ := R
      obtain ⟨xo1, xo2⟩ := xo
      obtain ⟨xa1, xa2⟩ := xa
      obtain ⟨xb1, xb2⟩ := xb
      obtain ⟨p7, k7, rfl⟩ := ho7.slice
      dsimp only at G1 G2 G3 T1 HS7 HRo
      clear hp hko HTS
      gi_wp2_with fail
      refine ⟨trivial, rfl, G1.mono ?_⟩
      rintro e w3 ⟨rfl, c3⟩
      have c23 := Chg.seq c c3
      obtain ⟨W4, hW4⟩ : ∃ W4, w3.alloc (.cells #[.bool xo1, .string xo2] 50) = W4 := ⟨_, rfl⟩
      have c4 : Chg No w3 W4 := hW4 ▸ (spot_box w3 xo1 xo2).1
      have hb4 : W4.heap[w3.heap.size]? = some (.cells #[.bool xo1, .string xo2] 50 (0, 0)) := hW4 ▸ (spot_box w3 xo1 xo2).2
      have c24 := Chg.seq c23 c4
      have o7 := (ho7.no c3).no c4
      have ha4 := ha2.no c24
      have hb4' := hb2.no c24
      have hany := After.any W4
      have q0 : W4.cell? ⟨w3.heap.size, 0, none⟩ = some (.bool xo1) := by simp [World.cell?, hb4]
      have q1 : W4.cell? ⟨w3.heap.size, 1, none⟩ = some (.string xo2) := by simp [World.cell?, hb4]
      have f0 : ∀ c : After W4, c.val.cell? ⟨w3.heap.size, 0, none⟩ = some (.bool xo1) := fun c => c.cell q0
      have f1 : ∀ c : After W4, c.val.cell? ⟨w3.heap.size, 1, none⟩ = some (.string xo2) := fun c => c.cell q1
      obtain ⟨T, hT⟩ : ∃ T, togR ((r1, r2), r3) = T := ⟨_, rfl⟩
      have HTg : Hid (togR ((r1, r2), r3) = T) := hT
      rw [hT] at T1
      obtain ⟨⟨t1, t2⟩, t3⟩ := T
      dsimp only at T1
      clear G1 q0 q1 hT c3 c4 c23 ho7
      gi_wp2
      refine region_loudG (fun i => i == 3 || i == 6 || i == 7 || i == 11 || i == 12) (fun w' => ∃ c : After W4, w' = c.val) (VirInv W4 (.agg #[.bool xa1, .string xa2]) (.agg #[.bool xb1, .string xb2]) (.tuple #[.agg #[.bool t1, .string t2], .bool t3]) (t1, t2))
        (fun j => if j = 3 then .agg #[.bool xa1, .string xa2] else if j = 6 then .agg #[.bool xb1, .string xb2] else if j = 7 then .tuple #[.agg #[.bool t1, .string t2], .bool t3] else .pointer (some ⟨0, 0, none⟩)) hmix (by kernel_rfl) (by kernel_rfl) (fun d u W h => ⟨⟨W, h.chg⟩, rfl⟩)
        ⟨(Chg.refl _ W4).drew, rfl, rfl, rfl, ⟨0, rfl⟩, fun h => (by cases h), fun h => (by cases h)⟩ (fun u' hu => ?_)
      obtain ⟨_, _, hu⟩ := hu
      obtain ⟨g, e11⟩ := hu.v11
      have e3 := hu.v3
      have e6 := hu.v6
      have e7 := hu.v7
      clear hu
      simp only [hushE, Nat.reduceAdd, Nat.reduceBEq, Bool.or_self, Bool.or_true, Bool.or_false, if_true, if_false, Bool.false_eq_true]
      simp only [e3, e6, e7, e11]
      repeat (gi_big_quiet_step (fail))
      refine wpQuietIn_nil ⟨?_, ?_, ?_⟩
      · intro i oo ho hm
        simp only [Bool.or_eq_true, beq_iff_eq] at hm
        rcases hm with (((rfl | rfl) | rfl) | rfl) | rfl
        all_goals (cases ho; rfl)
      · intro i oo d W hjo hm hd hwt hI
        simp only [Bool.or_eq_true, beq_iff_eq] at hm
        rcases hm with (((rfl | rfl) | rfl) | rfl) | rfl
        · cases hjo
          refine LeadsV.call (f := 29) (args := #[.slice pa na ka, .string p]) (by simp [go_sem]) ((G2 W (ha4.no hI.chg)).mono ?_)
          rintro e W' ⟨rfl, c'⟩
          exact ⟨_, rfl, hI.step 3 _ c' (by omega) (by omega) (fun _ => rfl) (by omega) (by omega)⟩
        · cases hjo
          refine LeadsV.call (f := 29) (args := #[.slice pb nb kb, .string p]) (by simp [go_sem]) ((G3 W (hb4'.no hI.chg)).mono ?_)
          rintro e W' ⟨rfl, c'⟩
          exact ⟨_, rfl, hI.step 6 _ c' (by omega) (by omega) (by omega) (fun _ => rfl) (by omega)⟩
        · cases hjo
          refine LeadsV.call (f := 28) (args := #[.agg #[.bool xo1, .string xo2], .agg #[.bool xa1, .string xa2], .agg #[.bool xb1, .string xb2]]) (by simp [go_sem]) ((T1 W).mono ?_)
          rintro e W' ⟨rfl, c'⟩
          exact ⟨_, rfl, hI.step 7 _ c' (by omega) (by omega) (by omega) (by omega) (fun _ => rfl)⟩
        · cases hjo
          have h12 : d 12 = false := by
            cases h : d 12 with
            | false => rfl
            | true => have := hI.o12 h; rw [hd] at this; cases this
          refine LeadsV.value (v := .pointer (some ⟨W.heap.size, 0, none⟩)) (w' := W.alloc (.cells #[.bool false, .string ⟨#[]⟩] 50)) ?_ ?_
          · simp [go_sem]
          · exact hI.made h12
        · cases hjo
          obtain ⟨g', e', hg1, hg2⟩ := hI.b11 (hwt 11 rfl (by kernel_rfl))
          rw [e11] at e'
          cases e'
          simp only [hd, Bool.false_eq_true, if_false] at hg2
          have k1 : W.cell? ⟨g, 0, none⟩ = some (.bool false) := by simp [World.cell?, hg2]
          have k2 : W.cell? ⟨g, 1, none⟩ = some (.string ⟨#[]⟩) := by simp [World.cell?, hg2]
          have z1 : W.frozen? ⟨g, 0, none⟩ = false := by simp [World.frozen?, hg2]
          have z2 : W.frozen? ⟨g, 1, none⟩ = false := by simp [World.frozen?, hg2]
          refine LeadsV.skip (w' := (W.setCell ⟨g, 0, none⟩ (.bool t1)).setCell ⟨g, 1, none⟩ (.string t2)) ?_ ?_
          · simp [go_sem, k1, k2, z1, z2]
          · exact hI.filled hg1 hg2 e11 (hwt 11 rfl (by kernel_rfl)) undef
      intro d W hall hI
      obtain ⟨g', e', hg1, hg2⟩ := hI.b11 (hall 11 rfl (by simp))
      rw [e11] at e'
      cases e'
      rw [if_pos (hall 12 rfl (by simp))] at hg2
      have cW := hI.chg
      clear hI hall e11 e3 e6 e7 f0 f1 hany G2 G3 T1 ha4 hb4'
      have c2W := Chg.seq c24 cW
      have o7W := o7.no cW
      have hb5 := cW.same hb4 (fun h => h)
      have hgb : w3.heap.size < W4.heap.size := (Array.getElem?_eq_some_iff.1 hb4).1
      have hgw : w2.heap.size ≤ g := by have := c24.size; omega
      have hgo : ∀ q, (Value.slice p7 fs.length k7).ownBlock = some q → q ≠ g := fun q e => by have := (World.ownsRow.lt o7 q e).2; omega
      cases r3 with
      | true =>
        have e0 : (r1, r2) = (xo1, xo2) := HRo.out rfl
        cases e0
        have et : (((t1, t2), t3) : At × Bool) = ((false, ⟨#[]⟩), false) := HTg.out.symm
        cases et
        have p0 : W.cell? ⟨w3.heap.size, 0, none⟩ = some (.bool r1) := by simp [World.cell?, hb5]
        have p1 : W.cell? ⟨w3.heap.size, 1, none⟩ = some (.string r2) := by simp [World.cell?, hb5]
        have k1 : W.cell? ⟨g, 0, none⟩ = some (.bool false) := by simp [World.cell?, hg2]
        have k2 : W.cell? ⟨g, 1, none⟩ = some (.string ⟨#[]⟩) := by simp [World.cell?, hg2]
        have z1 : W.frozen? ⟨g, 0, none⟩ = false := by simp [World.frozen?, hg2]
        have z2 : W.frozen? ⟨g, 1, none⟩ = false := by simp [World.frozen?, hg2]
        obtain ⟨Wz, hWz⟩ : ∃ Wz, (W.setCell ⟨g, 0, none⟩ (.bool r1)).setCell ⟨g, 1, none⟩ (.string r2) = Wz := ⟨_, rfl⟩
        have hbz : Wz.heap[g]? = some (.cells #[.bool r1, .string r2] 50 (0, 0)) := by rw [← hWz]; simp [World.setCell, Array.getElem?_modify, hg2]
        have czg : Chg (fun q => q = g) W Wz := by rw [← hWz]; exact ((Chg.refl (fun q => q = g) W).setCell (p := ⟨g, 0, none⟩) (.inl rfl) _).setCell (p := ⟨g, 1, none⟩) (.inl rfl) _
        have ccz : Chg No w2 Wz := c2W.trans czg (fun q e => .inr (by rw [e]; exact hgw))
        have o7z : OwnF Wz w2.heap.size (.slice p7 fs.length k7) fs := o7W.chg czg (fun q h e => hgo q h e)
        have q0 : Wz.cell? ⟨g, 0, none⟩ = some (.bool r1) := by simp [World.cell?, hbz]
        clear hb4 hb5 o7 o7W c24 cW czg hcw HRo HTg
        cases r1 with
        | false =>
          rw [Bool.false_and, if_neg Bool.false_ne_true, List.append_nil] at HS7
          gi_wp2_with fail
          refine ⟨trivial, ?_⟩
          rename_i hKK
          apply hKK
          gi_wp2
          refine ⟨⟨k + 1, hlt, by go_num, by rw [HS7.out]; exact o7z, ccz⟩, by simp [intOf]; omega⟩
        | true =>
        have U2 := U1 (.slice p7 fs.length k7) Wz o7z.sl
        clear U1
        gi_wp2_with fail
        refine ⟨trivial, rfl, U2.mono ?_⟩
        rintro e w9 ⟨rfl, c9⟩
        have c29 := Chg.seq ccz c9
        have o79 := o7z.no c9
        have hb9 := c9.same hbz (fun h => h)
        clear U2 c9 q0
        cases u with
        | true =>
          rw [show (true && !true) = false from rfl, if_neg Bool.false_ne_true, List.append_nil] at HS7
          gi_wp2
          refine ⟨⟨k + 1, hlt, by go_num, by rw [HS7.out]; exact o79, c29⟩, by simp [intOf]; omega⟩
        | false =>
          rw [show (true && !false) = true from rfl, if_pos rfl] at HS7
          have q1 : w9.cell? ⟨g, 1, none⟩ = some (.string r2) := by simp [World.cell?, hb9]
          have cA : Chg No w9 (w9.alloc (.cells #[.string p, .string r2] 27)) := (Chg.refl _ w9).alloc _
          have oA := o79.no cA
          have hsl := SlF.one w9 (p, r2)
          have ccA := Chg.seq c29 cA
          have hbs := ccA.size
          gi_wp2_with (gi_at_builtin; refine wpListIn_append_sf _ rfl _ _ rfl w2.heap.size _ fs rfl oA (some ⟨w9.heap.size, 0, none⟩) 1 1 [(p, r2)] rfl hsl (by have := HLF.out; omega) hbs ?_; intro v8' W7 hown8 hgrow8 _; obtain ⟨p8', c8', rfl⟩ := hown8.slice)
          refine ⟨⟨k + 1, hlt, by go_num, by rw [HS7.out]; rw [List.length_append] at hown8; exact hown8, ccA.grown hgrow8 (fun q e => .inr (World.ownsRow.lt o79 q e).1)⟩, by simp [intOf]; omega⟩
      | false =>
        have et : (((t1, t2), t3) : At × Bool) = ((r1, r2), true) := HTg.out.symm
        cases et
        obtain ⟨Wz, hWz⟩ : ∃ Wz, W = Wz := ⟨_, rfl⟩
        subst hWz
        have hbz := hg2
        have ccz := c2W
        have o7z := o7W
        have q0 : W.cell? ⟨g, 0, none⟩ = some (.bool r1) := by simp [World.cell?, hbz]
        clear hb4 hb5 o7 o7W c24 cW hcw HRo HTg hg2 c2W
        cases r1 with
        | false =>
          rw [Bool.false_and, if_neg Bool.false_ne_true, List.append_nil] at HS7
          gi_wp2_with fail
          refine ⟨trivial, ?_⟩
          rename_i hKK
          apply hKK
          gi_wp2
          refine ⟨⟨k + 1, hlt, by go_num, by rw [HS7.out]; exact o7z, ccz⟩, by simp [intOf]; omega⟩
        | true =>
        have U2 := U1 (.slice p7 fs.length k7) W o7z.sl
        clear U1
        gi_wp2_with fail
        refine ⟨trivial, rfl, U2.mono ?_⟩
        rintro e w9 ⟨rfl, c9⟩
        have c29 := Chg.seq ccz c9
        have o79 := o7z.no c9
        have hb9 := c9.same hbz (fun h => h)
        clear U2 c9 q0
        cases u with
        | true =>
          rw [show (true && !true) = false from rfl, if_neg Bool.false_ne_true, List.append_nil] at HS7
          gi_wp2
          refine ⟨⟨k + 1, hlt, by go_num, by rw [HS7.out]; exact o79, c29⟩, by simp [intOf]; omega⟩
        | false =>
          rw [show (true && !false) = true from rfl, if_pos rfl] at HS7
          have q1 : w9.cell? ⟨g, 1, none⟩ = some (.string r2) := by simp [World.cell?, hb9]
          have cA : Chg No w9 (w9.alloc (.cells #[.string p, .string r2] 27)) := (Chg.refl _ w9).alloc _
          have oA := o79.no cA
          have hsl := SlF.one w9 (p, r2)
          have ccA := Chg.seq c29 cA
          have hbs := ccA.size
          gi_wp2_with (gi_at_builtin; refine wpListIn_append_sf _ rfl _ _ rfl w2.heap.size _ fs rfl oA (some ⟨w9.heap.size, 0, none⟩) 1 1 [(p, r2)] rfl hsl (by have := HLF.out; omega) hbs ?_; intro v8' W7 hown8 hgrow8 _; obtain ⟨p8', c8', rfl⟩ := hown8.slice)
          refine ⟨⟨k + 1, hlt, by go_num, by rw [HS7.out]; rw [List.length_append] at hown8; exact hown8, ccA.grown hgrow8 (fun q e => .inr (World.ownsRow.lt o79 q e).1)⟩, by simp [intOf]; omega⟩
    · obtain rfl : k = n := by omega
      have hlt' : ¬ (k : Int) < (k : Int) := by omega
      have hkn : all.take k = all := List.take_of_length_le (by rw [HN.out]; exact Nat.le_refl _)
      rw [hkn] at ho7
      have HML : Hid ((keptL o a b all).length ≤ 36) := by
        have := keptL_len o a b all
        have h2 := HN.out
        show _ ≤ _
        omega
      clear HCA HCZ HSZ HRO HA
      generalize keptL o a b all = cm at ho7 HML HJ2
      obtain ⟨m, HMl⟩ : ∃ m, Hid (cm.length = m) := ⟨_, rfl⟩
      have hm36 : m ≤ 36 := by have := HML.out; rw [HMl.out] at this; exact this
      have hm0 : m ≤ 9223372036854775807 := by omega
      obtain ⟨p7, k7, rfl⟩ := ho7.slice
      have of0 : OwnF wr w2.heap.size (.slice p7 cm.length k7) cm := ho7
      rw [HMl.out] at of0 ⊢
      clear ho7 hkn hlt hk st HML
      by_cases h12 : 12 < m
      · have h12' : (12 : Int) < (m : Int) := by omega
        obtain ⟨oc, hc⟩ := OwnF.cut of0 HMl.out 12 (by omega)
        have hmin : min (m : Int) 12 = 12 := by omega
        have hc' : ∀ w, (Instr.sliceAt 22 (.slice p7 m k7) none (some (.int .i64 12)) none).run Tryz.prog w = .ok (.slice p7 12 k7) w := hc
        clear hc
        gi_wp2
        go_ret
        exact ⟨_, rfl, by rw [HJ2.out]; exact oc.base hs02, Chg.seq c02 c⟩
      · have h12' : ¬ (12 : Int) < (m : Int) := by omega
        have hmin : min (m : Int) 12 = (m : Int) := by omega
        obtain ⟨oc, hc⟩ := OwnF.cut of0 HMl.out m (Nat.le_refl _)
        gi_wp2
        go_ret
        refine ⟨_, rfl, ?_, Chg.seq c02 c⟩
        rw [HJ2.out, List.take_of_length_le (by rw [HMl.out]; omega)]
        rw [List.take_of_length_le (by rw [HMl.out]; exact Nat.le_refl _)] at oc
        exact oc.base hs02

end Go.Proofs.YtndblaemladppabGreatDoor

end
section
-- JSpec
namespace Go.Proofs.YtndblaemladppabGreatDoor
open Go.TreeLib

theorem joinSpec : JoinSpec := ⟨joinOf_in, joinVir_in⟩

end Go.Proofs.YtndblaemladppabGreatDoor

end
