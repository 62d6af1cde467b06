/-
  JoinEach answers true at every three lists of files, and turns nothing that lay.
-/
import Derived.Test.YtndblaemladppabGreatDoorJHas
import Derived.Test.YtndblaemladppabGreatDoorFMay
import Derived.Test.YtndblaemladppabGreatDoorGFile
import Derived.Test.YtndblaemladppabGreatDoorQuiet
import Derived.Test.YtndblaemladppabGreatDoorLoudG
import Derived.Test.YtndblaemladppabGreatDoorGDiff
import Derived.Test.YtndblaemladppabGreatDoorFRefP
import Derived.Sort.CutIn
import Derived.Sort.QuietThIn
import Derived.Shelf.RegionOpen
namespace Go.TreeLib
open Go Go.TextLib
theorem tree_Few {t : List Fl} (h : IsTree t) : Few t := ⟨by have := h.len; omega, fun f hf => by
  have := h.file f hf
  unfold fileB at this
  rw [Bool.and_eq_true, decide_eq_true_eq] at this
  have h2 := (pathB_iff.1 this.1).len
  have e : (Bs f.1).length = f.1.size := rfl
  omega⟩
theorem cameL_len (o a b : List Fl) (l : List ByteArray) : (cameL o a b l).length ≤ l.length := List.length_filterMap_le _ _
end Go.TreeLib
namespace Go.Proofs.YtndblaemladppabGreatDoor
open Go.RowKit Go.Shelf Go.SeqLib Go.DiffLib Go.TreeLib Go.TextLib Go.BigFrame
attribute [local go_sem] Oper.semAt_some

set_option maxHeartbeats 1000000 in
theorem alone_in (v : Value) (t : List Fl) (p : ByteArray) (w : World) (hv : SlF w v t) : CallsIn Fence.wide 0 Tryz.prog 19 #[v, .string p] w fun e w' => ∃ v', e = .returned v' ∧ OwnF w' w.heap.size v' (aloneP t p) ∧ Chg No w w' := by
  have G1 := get_in v t p w hv
  unfold getD at G1
  obtain ⟨m, HM⟩ : ∃ m, Hid (TreeLib.get t p = m) := ⟨_, rfl⟩
  rw [HM.out] at G1
  have HA : Hid (aloneP t p = m.toList.map (fun d => (p, d))) := by show _ = _; unfold aloneP; rw [HM.out]
  rw [HA.out]
  clear HA HM
  refine callsIn_of_wp Tryz.func19 rfl trivial ?_
  simp only [Tryz.ntmps19, List.size_toArray, List.length_cons, List.length_nil, Nat.reduceAdd, Nat.reduceSub, Array.replicate_succ, Array.replicate_zero, List.push_toArray, List.append_toArray, List.nil_append, List.cons_append]
  cases m with
  | none =>
    have G2 : CallsIn Fence.wide 0 Tryz.prog 15 #[v, .string p] w fun e w' => e = .returned (.tuple #[.string ⟨#[]⟩, .bool false]) ∧ Chg No w w' := G1
    gi_wp2_with fail
    refine ⟨trivial, rfl, G2.mono ?_⟩
    rintro e w1 ⟨rfl, c1⟩
    gi_wp2
    go_ret
    exact ⟨_, rfl, OwnF.nil _ _, c1⟩
  | some d =>
    have G2 : CallsIn Fence.wide 0 Tryz.prog 15 #[v, .string p] w fun e w' => e = .returned (.tuple #[.string d, .bool true]) ∧ Chg No w w' := G1
    gi_wp2_with fail
    refine ⟨trivial, rfl, G2.mono ?_⟩
    rintro e w1 ⟨rfl, c1⟩
    gi_wp2
    go_ret
    exact ⟨_, rfl, OwnF.base (OwnF.one w1 (p, d)) c1.size, c1.alloc _⟩

/-- What holds while a path is asked alone: the three lists that bear it alone, and what they come to. -/
structure EachInv (W0 : World) (o a b : List Fl) (R : List Fl × List ByteArray) (d : Nat → Bool) (u : Nat → Value) (W : World) : Prop where
  chg : Chg No W0 W
  v18 : ∃ p1 n1 c1 p2 n2 c2, u 18 = .tuple #[.slice p1 n1 c1, .slice p2 n2 c2]
  f5 : d 5 = true → SlF W (u 5) o
  f11 : d 11 = true → SlF W (u 11) a
  f17 : d 17 = true → SlF W (u 17) b
  f18 : d 18 = true → ∃ v1 v2, u 18 = .tuple #[v1, v2] ∧ OwnF W W0.heap.size v1 R.1 ∧ OwnT W W0.heap.size v2 R.2
theorem EachInv.step {W0 W W' : World} {o a b : List Fl} {R : List Fl × List ByteArray} {d : Nat → Bool} {u : Nat → Value} (h : EachInv W0 o a b R d u W) (i : Nat) (v : Value) (c : Chg No W W') (hi : ¬ 18 = i) (h5 : 5 = i → SlF W' v o) (h11 : 11 = i → SlF W' v a) (h17 : 17 = i → SlF W' v b) :
    EachInv W0 o a b R (fun j => if j = i then true else d j) (fun j => if j = i then v else u j) W' := by
  refine ⟨Chg.seq h.chg c, ?_, fun e => ?_, fun e => ?_, fun e => ?_, fun e => ?_⟩
  · simp only [if_neg hi]; exact h.v18
  · by_cases hh : 5 = i
    · simp only [if_pos hh]; exact h5 hh
    · simp only [if_neg hh] at e ⊢; exact (h.f5 e).no c
  · by_cases hh : 11 = i
    · simp only [if_pos hh]; exact h11 hh
    · simp only [if_neg hh] at e ⊢; exact (h.f11 e).no c
  · by_cases hh : 17 = i
    · simp only [if_pos hh]; exact h17 hh
    · simp only [if_neg hh] at e ⊢; exact (h.f17 e).no c
  · simp only [if_neg hi] at e ⊢
    obtain ⟨v1, v2, e1, k1, k2⟩ := h.f18 e
    exact ⟨v1, v2, e1, k1.no c, OwnT.no k2 c⟩
theorem EachInv.last {W0 W W' : World} {o a b : List Fl} {R : List Fl × List ByteArray} {d : Nat → Bool} {u : Nat → Value} (h : EachInv W0 o a b R d u W) {v1 v2 : Value} (c : Chg No W W') (k1 : OwnF W' W0.heap.size v1 R.1) (k2 : OwnT W' W0.heap.size v2 R.2) :
    EachInv W0 o a b R (fun j => if j = 18 then true else d j) (fun j => if j = 18 then .tuple #[v1, v2] else u j) W' := by
  obtain ⟨p1, c1, e1⟩ := row_slice k1
  obtain ⟨p2, c2, e2⟩ := row_slice k2
  exact ⟨Chg.seq h.chg c, ⟨p1, _, c1, p2, _, c2, by rw [e1, e2]; rfl⟩, fun e => (h.f5 e).no c, fun e => (h.f11 e).no c, fun e => (h.f17 e).no c, fun _ => ⟨v1, v2, rfl, k1, k2⟩⟩

set_option maxRecDepth 100000 in
set_option maxHeartbeats 8000000 in
theorem jeach_law (J : JoinSpec) (p0 : Option Addr) (n0 k0 : Nat) (o : List Fl) (p1 : Option Addr) (n1 k1 : Nat) (a : List Fl) (p2 : Option Addr) (n2 k2 : Nat) (b : List Fl) (w : World) (ho : SlF w (.slice p0 n0 k0) o) (hn0 : o.length = n0) (ha : SlF w (.slice p1 n1 k1) a) (hn1 : a.length = n1) (hb : SlF w (.slice p2 n2 k2) b) (hn2 : b.length = n2) :
    CallsIn Fence.wide 0 Tryz.prog 6 #[.slice p0 n0 k0, .slice p1 n1 k1, .slice p2 n2 k2] w fun e w' => e = .returned (.bool true) ∧ Chg No w w' := by
  have hmix : Tryz.prog.follows .mixedOrders = true := by kernel_rfl
  have G1 := great_in (.slice p0 n0 k0) (.slice p1 n1 k1) (.slice p2 n2 k2) o a b w ho ha hb
  have HN0 : Hid (o.length = n0) := hn0
  have HN1 : Hid (a.length = n1) := hn1
  have HN2 : Hid (b.length = n2) := hn2
  clear hn0 hn1 hn2
  obtain ⟨g, hg⟩ : ∃ g, greatJ o a b = g := ⟨_, rfl⟩
  have HGr : Hid (greatJ o a b = g) := hg
  rw [hg] at G1
  clear hg
  refine callsIn_of_wp Tryz.func6 rfl trivial ?_
  simp only [Tryz.ntmps6, List.size_toArray, List.length_cons, List.length_nil, Nat.reduceAdd, Nat.reduceSub, Array.replicate_succ, Array.replicate_zero, List.push_toArray, List.append_toArray, List.nil_append, List.cons_append]
  gi_wp2_with fail
  refine ⟨trivial, rfl, G1.mono ?_⟩
  rintro e w0 ⟨rfl, rfl⟩
  cases g with
  | true =>
    gi_wp2_with fail
    refine ⟨trivial, ?_⟩
    rename_i hKK
    apply hKK
    gi_wp2_with fail
    refine ⟨trivial, ?_⟩
    rename_i hKK
    apply hKK
    gi_wp2_with fail
    refine ⟨trivial, ?_⟩
    rename_i hKK
    apply hKK
    gi_wp2_with fail
    refine ⟨trivial, rfl, (awake_in J _).mono ?_⟩
    rintro e9 w9 ⟨rfl, c9⟩
    gi_wp2
    go_ret
    exact ⟨rfl, c9⟩
  | false =>
  obtain ⟨⟨lo, fo⟩, ⟨la, fa⟩, ⟨lb, fb⟩⟩ := greatJ_few HGr.out
  have HMo := fun W h => may_in (.slice p0 n0 k0) o (fun f hf => by have := (fo.2 f hf).1; omega) W h
  have HMa := fun W h => may_in (.slice p1 n1 k1) a (fun f hf => by have := (fa.2 f hf).1; omega) W h
  have HMb := fun W h => may_in (.slice p2 n2 k2) b (fun f hf => by have := (fb.2 f hf).1; omega) W h
  obtain ⟨mo, hmo⟩ : ∃ mo, mayB o = mo := ⟨_, rfl⟩
  obtain ⟨ma, hma⟩ : ∃ ma, mayB a = ma := ⟨_, rfl⟩
  obtain ⟨mb, hmb⟩ : ∃ mb, mayB b = mb := ⟨_, rfl⟩
  have H1 : Hid (mayB o = mo) := hmo
  have H2 : Hid (mayB a = ma) := hma
  have H3 : Hid (mayB b = mb) := hmb
  rw [hmo] at HMo
  rw [hma] at HMa
  rw [hmb] at HMb
  clear HGr G1 hmo hma hmb
  gi_wp2_with fail
  refine ⟨trivial, rfl, (HMo _ ho).mono ?_⟩
  rintro e w1 ⟨rfl, c1⟩
  cases mo with
  | false =>
    gi_wp2_with fail
    refine ⟨trivial, ?_⟩
    rename_i hKK
    apply hKK
    gi_wp2_with fail
    refine ⟨trivial, ?_⟩
    rename_i hKK
    apply hKK
    gi_wp2_with fail
    refine ⟨trivial, rfl, (awake_in J _).mono ?_⟩
    rintro e9 w9 ⟨rfl, c9⟩
    gi_wp2
    go_ret
    exact ⟨rfl, Chg.seq c1 c9⟩
  | true =>
  gi_wp2_with fail
  refine ⟨trivial, rfl, (HMa _ (ha.no c1)).mono ?_⟩
  rintro e w2 ⟨rfl, c2⟩
  have c02 := Chg.seq c1 c2
  cases ma with
  | false =>
    gi_wp2_with fail
    refine ⟨trivial, ?_⟩
    rename_i hKK
    apply hKK
    gi_wp2_with fail
    refine ⟨trivial, rfl, (awake_in J _).mono ?_⟩
    rintro e9 w9 ⟨rfl, c9⟩
    gi_wp2
    go_ret
    exact ⟨rfl, Chg.seq c02 c9⟩
  | true =>
  gi_wp2_with fail
  refine ⟨trivial, rfl, (HMb _ (hb.no c02)).mono ?_⟩
  rintro e w3 ⟨rfl, c3⟩
  have c03 := Chg.seq c02 c3
  cases mb with
  | false =>
    gi_wp2_with fail
    refine ⟨trivial, rfl, (awake_in J _).mono ?_⟩
    rintro e9 w9 ⟨rfl, c9⟩
    gi_wp2
    go_ret
    exact ⟨rfl, Chg.seq c03 c9⟩
  | true =>
  have HT3 : Hid (IsTree o ∧ IsTree a ∧ IsTree b) := ⟨mayB_iff.1 H1.out, mayB_iff.1 H2.out, mayB_iff.1 H3.out⟩
  have HM : Hid (may3 o a b = true) := may3_iff.2 HT3.out
  have ho3 := ho.no c03
  have ha3 := ha.no c03
  have hb3 := hb.no c03
  clear HMo HMa HMb H1 H2 H3 ho ha hb c1 c2 c02 c3
  have HEND : Hid (((ofJ o a b).2 = [] → anyC o a b (all3 o a b) = false ∧ came3 o a b = (ofJ o a b).1) ∧ (¬ (ofJ o a b).2 = [] → (anyC o a b (all3 o a b) = true ∨ mayB (came3 o a b) = false) ∧ (ofJ o a b).1 = [])) := each_end HT3.out
  have HHAS : Hid (∀ p ∈ all3 o a b, (res o a b p).2 = true → p ∈ (ofJ o a b).2) := fun p hp hr => ofJ_has HM.out hp hr
  have HCF : Hid (∀ f ∈ came3 o a b, f.1.size ≤ 100000) := fun f hf => by
    have := came_file HT3.out f hf
    unfold fileB at this
    rw [Bool.and_eq_true] at this
    have h2 := (pathB_iff.1 this.1).len
    have e : (Bs f.1).length = f.1.size := rfl
    omega
  have HAO : Hid (∀ p, ofJ (aloneP o p) (aloneP a p) (aloneP b p) = if (res o a b p).2 = true then ([], [p]) else (cameL o a b [p], [])) := fun p => alone_of HT3.out p
  have HAF : Hid (∀ p, Few (aloneP o p) ∧ Few (aloneP a p) ∧ Few (aloneP b p)) := fun p => ⟨tree_Few (alone_tree HT3.out.1 p), tree_Few (alone_tree HT3.out.2.1 p), tree_Few (alone_tree HT3.out.2.2 p)⟩
  have HC3 : Hid (came3 o a b = cameL o a b (all3 o a b)) := rfl
  have J1 := J.of _ _ _ o a b w3 ho3 ha3 hb3 fo fa fb
  have hal := all3_most o a b
  obtain ⟨all, HAL⟩ : ∃ all, Hid (all3 o a b = all) := ⟨_, rfl⟩
  have P1 := fun W h1 h2 h3 => paths3_in p0 n0 k0 o p1 n1 k1 a p2 n2 k2 b W h1 h2 h3 (by omega)
  rw [HAL.out] at P1 hal HEND HHAS HC3
  have htl := ofJ_len o a b
  have hbl := bad_most o a b (by omega) (by omega) (by omega)
  generalize (ofJ o a b).1 = t at J1 HEND htl
  generalize (ofJ o a b).2 = bd at J1 HEND HHAS hbl
  generalize came3 o a b = cm at HEND HCF HC3
  have hall2 : all.length ≤ 42 := by omega
  clear hal
  gi_wp2_with fail
  refine ⟨trivial, rfl, J1.mono ?_⟩
  rintro e w4 ⟨v4, x4, rfl, r4, t4, c4⟩
  obtain ⟨q4, j4, rfl⟩ := r4.slice
  obtain ⟨q5, j5, rfl⟩ := row_slice t4
  have c04 := Chg.seq c03 c4
  gi_wp2_with fail
  refine ⟨trivial, rfl, (P1 _ (ho3.no c4) (ha3.no c4) (hb3.no c4)).mono ?_⟩
  rintro e w5 ⟨v5, rfl, y5, c5⟩
  obtain ⟨q6, j6, rfl⟩ := row_slice y5
  have c05 := Chg.seq c04 c5
  have c35 := Chg.seq c4 c5
  have ho5 := ho3.no c35
  have ha5 := ha3.no c35
  have hb5 := hb3.no c35
  have st : SlF w5 (.slice q4 t.length j4) t := (r4.no c5).sl
  have sb : SlT w5 (.slice q5 bd.length j5) bd := OwnT.sl (OwnT.no t4 c5)
  have sall : SlT w5 (.slice q6 all.length j6) all := OwnT.sl y5
  clear J1 P1 r4 t4 y5 c4 c5 c04 c35 ho3 ha3 hb3 c03
  obtain ⟨n, HN⟩ : ∃ n, Hid (all.length = n) := ⟨_, rfl⟩
  obtain ⟨m, HMm⟩ : ∃ m, Hid (t.length = m) := ⟨_, rfl⟩
  obtain ⟨nb, HNB⟩ : ∃ nb, Hid (bd.length = nb) := ⟨_, rfl⟩
  rw [HNB.out] at sb hbl ⊢
  rw [HN.out] at sall hall2 ⊢
  rw [HMm.out] at st htl ⊢
  have hn0 : n ≤ 9223372036854775807 := by omega
  gi_wp2
  gi_loopw [10, 11, 12] (fun s10 s11 s12 wr => ∃ k : Nat, k ≤ n ∧ s12 = .int .i64 (k : Int) ∧ s11 = .bool (anyC o a b (all.take k)) ∧ OwnF wr w5.heap.size s10 (cameL o a b (all.take k)) ∧ Chg No w5 wr) (fun _ _ s12 _ => n - (intOf s12).toNat)
  case atStart => exact ⟨0, Nat.zero_le _, rfl, rfl, OwnF.nil _ _, Chg.refl _ _⟩
  case round =>
    obtain ⟨k, hk, rfl, rfl, hown, c⟩ := hrel
    by_cases hlt : k < n
    · have hlt' : (k : Int) < (n : Int) := by omega
      have hkn1 : k + 1 ≤ n := hlt
      have hka : k < all.length := by rw [HN.out]; exact hlt
      obtain ⟨p, hp⟩ : ∃ p, all[k]? = some p := ⟨_, List.getElem?_eq_getElem hka⟩
      have HTS : Hid (all.take (k + 1) = all.take k ++ [p]) := by show _ = _; rw [List.take_add_one, hp]; rfl
      have HS1 : Hid (cameL o a b (all.take (k + 1)) = cameL o a b (all.take k) ++ cameL o a b [p]) := by show _ = _; rw [HTS.out, cameL_snoc]
      have HS2 : Hid (anyC o a b (all.take (k + 1)) = (anyC o a b (all.take k) || (res o a b p).2)) := by show _ = _; rw [HTS.out, anyC_snoc]
      have HLc : Hid ((cameL o a b (all.take k)).length ≤ 42) := by
        have := cameL_len o a b (all.take k)
        rw [List.length_take] at this
        show _ ≤ _
        omega
      obtain ⟨b1, o1, rfl, hc1⟩ := SlT.at (sall.no c) k p hp
      have HP : Hid (∀ W, Chg No w5 W → W.cell? ⟨b1, o1 + k, none⟩ = some (.string p)) := fun W c' => by
        obtain ⟨_, _, e, h⟩ := SlT.at (sall.no c') k p hp
        cases e
        exact h
      have hmem := List.mem_of_getElem? hp
      have HHp : Hid ((res o a b p).2 = true → p ∈ bd) := HHAS.out p hmem
      have HRp := HAO.out p
      have HFp := HAF.out p
      have JA := fun W x y z h1 h2 h3 => J.of x y z (aloneP o p) (aloneP a p) (aloneP b p) W h1 h2 h3 HFp.1 HFp.2.1 HFp.2.2
      rw [HRp] at JA
      have LO := fun W h => alone_in (.slice p0 n0 k0) o p W h
      have LA := fun W h => alone_in (.slice p1 n1 k1) a p W h
      have LB := fun W h => alone_in (.slice p2 n2 k2) b p W h
      have HCL : Hid ((res o a b p).2 = true → cameL o a b [p] = []) := fun h => cameL_clash h
      generalize (res o a b p).2 = rb at JA HS2 HHp HCL
      generalize cameL o a b (all.take k) = fs at hown HS1 HLc
      generalize anyC o a b (all.take k) = cl at HS2 ⊢
      obtain ⟨R, hR⟩ : ∃ R, (if rb = true then (([], [p]) : List Fl × List ByteArray) else (cameL o a b [p], [])) = R := ⟨_, rfl⟩
      have HR : Hid ((if rb = true then (([], [p]) : List Fl × List ByteArray) else (cameL o a b [p], [])) = R) := hR
      rw [hR] at JA
      have ho6 := ho5.no c
      have ha6 := ha5.no c
      have hb6 := hb5.no c
      obtain ⟨q10, j10, rfl⟩ := hown.slice
      have HMid : Hid (((all.map Value.string).take (k + 1)).drop k = [p].map Value.string) := by
        show _ = _
        rw [← List.map_take, HTS.out, List.map_append, List.drop_left' (by rw [List.length_map, List.length_take, Nat.min_eq_left (by omega)])]
      clear hR HRp HFp hp hka hmem HTS
      generalize aloneP o p = lo' at LO JA
      generalize aloneP a p = la' at LA JA
      generalize aloneP b p = lb' at LB JA
      have hany := After.any wr
      have f1 : ∀ c : After wr, c.val.cell? ⟨b1, o1 + k, none⟩ = some (.string p) := fun c => c.cell hc1
      gi_wp2
      refine region_loudG (fun i => i == 5 || i == 11 || i == 17 || i == 18) (fun w' => ∃ c : After wr, w' = c.val) (EachInv wr lo' la' lb' R) (fun j => .tuple #[.slice none 0 0, .slice none 0 0]) hmix (by kernel_rfl) (by kernel_rfl) (fun d u W h => ⟨⟨W, h.chg⟩, rfl⟩)
        ⟨(Chg.refl _ wr).drew, ⟨none, 0, 0, none, 0, 0, rfl⟩, fun h => (by cases h), fun h => (by cases h), fun h => (by cases h), fun h => (by cases h)⟩ (fun u hu => ?_)
      obtain ⟨_, _, hu⟩ := hu
      obtain ⟨pa, na, ca, pb, nbb, cb, e18⟩ := hu.v18
      clear hu
      simp only [hushE, Nat.reduceAdd, Nat.reduceBEq, Bool.or_self, Bool.or_true, Bool.or_false, if_true, if_false, Bool.false_eq_true]
      rw [e18]
      repeat (gi_big_quiet_step (fail))
      refine wpQuietIn_nil ⟨?_, ?_, ?_⟩
      · intro i o ho hm
        simp only [Bool.or_eq_true, beq_iff_eq] at hm
        rcases hm with ((rfl | rfl) | rfl) | rfl
        all_goals (cases ho; rfl)
      · intro i oo d W hjo hm hd hwt hI
        simp only [Bool.or_eq_true, beq_iff_eq] at hm
        rcases hm with ((rfl | rfl) | rfl) | rfl
        · cases hjo
          refine LeadsV.call (f := 19) (args := #[.slice p0 n0 k0, .string p]) (by simp [go_sem]) ((LO W (ho6.no hI.chg)).mono ?_)
          rintro e W' ⟨v', rfl, r', c'⟩
          exact ⟨v', rfl, hI.step 5 v' c' (by omega) (fun _ => r'.sl) (by omega) (by omega)⟩
        · cases hjo
          refine LeadsV.call (f := 19) (args := #[.slice p1 n1 k1, .string p]) (by simp [go_sem]) ((LA W (ha6.no hI.chg)).mono ?_)
          rintro e W' ⟨v', rfl, r', c'⟩
          exact ⟨v', rfl, hI.step 11 v' c' (by omega) (by omega) (fun _ => r'.sl) (by omega)⟩
        · cases hjo
          refine LeadsV.call (f := 19) (args := #[.slice p2 n2 k2, .string p]) (by simp [go_sem]) ((LB W (hb6.no hI.chg)).mono ?_)
          rintro e W' ⟨v', rfl, r', c'⟩
          exact ⟨v', rfl, hI.step 17 v' c' (by omega) (by omega) (by omega) (fun _ => r'.sl)⟩
        · cases hjo
          refine LeadsV.call (f := 11) (args := #[u 5, u 11, u 17]) (by simp [go_sem]) ((JA W _ _ _ (hI.f5 (hwt 5 rfl (by kernel_rfl))) (hI.f11 (hwt 11 rfl (by kernel_rfl))) (hI.f17 (hwt 17 rfl (by kernel_rfl)))).mono ?_)
          rintro e W' ⟨v1, v2, rfl, r1, r2, c'⟩
          exact ⟨_, rfl, hI.last c' (r1.base hI.chg.size) (OwnT.base r2 hI.chg.size)⟩
      · intro d W hall hI
        obtain ⟨v1, v2, e19, g1, g2⟩ := hI.f18 (hall 18 rfl (by simp))
        rw [e18] at e19
        cases e19
        obtain ⟨_, _, e1⟩ := row_slice g1
        cases e1
        obtain ⟨_, _, e2⟩ := row_slice g2
        cases e2
        have cW := hI.chg
        have ccW := Chg.seq c cW
        have ownW := hown.no cW
        have hbsW := ccW.size
        have hcW := HP.out _ ccW
        have sbW := sb.no ccW
        have sallW := sall.no ccW
        clear hI hall f1 hany LO LA LB JA e18 hc1
        cases rb with
        | false =>
          obtain rfl : R = (cameL o a b [p], []) := HR.out.symm
          dsimp only at g1 g2
          have hsl : SlF W (.slice pa (cameL o a b [p]).length ca) (cameL o a b [p]) := g1.sl
          have HL1 : Hid ((cameL o a b [p]).length ≤ 1) := cameL_len o a b [p]
          generalize cameL o a b [p] = xs at hsl HL1 HS1
          clear g1 g2
          gi_wp2_with (gi_at_builtin; refine wpListIn_append_sf _ rfl _ _ rfl w5.heap.size _ fs rfl ownW pa xs.length ca xs rfl hsl (by have := HLc.out; have h1 := HL1.out; omega) hbsW ?_; intro v' w6 hown' hgrow' _; obtain ⟨p', c', rfl⟩ := hown'.slice)
          refine ⟨⟨k + 1, hlt, by go_num, by rw [HS2.out, Bool.or_false], by rw [HS1.out]; rw [List.length_append] at hown'; exact hown', ccW.grown hgrow' (fun q e => .inr (World.ownsRow.lt ownW q e).1)⟩, by simp [intOf]; omega⟩
        | true =>
          obtain rfl : R = ([], [p]) := HR.out.symm
          dsimp only at g1 g2
          rw [HCL.out rfl, List.append_nil] at HS1
          obtain ⟨pm, cm', sM, oM, hM⟩ := SlV.mid sallW (by rw [List.length_map]; exact HN.out) k (k + 1) (by omega) hkn1
          rw [HMid.out] at sM
          simp only [Nat.add_sub_cancel_left, Int.natCast_add, Int.natCast_one] at sM hM
          have S1 := sameS_in (.slice pb 1 cb) (.slice pm 1 cm') [p] [p] W (OwnT.sl g2) sM
          rw [decide_eq_true rfl] at S1
          have HB : Hid (∀ W', Chg No W W' → CallsIn Fence.wide 0 Tryz.prog 14 #[.slice q5 nb j5, .string p] W' fun e w' => e = .returned (.bool true) ∧ Chg No W' w') := fun W' c' => by
            have := lHas_in (.slice q5 nb j5) bd p W' (SlV.no sbW c') (by rw [HNB.out]; omega)
            rw [hasB_iff.2 (HHp.out rfl)] at this
            exact this
          clear oM
          gi_wp2_with fail
          refine ⟨trivial, rfl, S1.mono ?_⟩
          rintro e w6 ⟨rfl, c6⟩
          have hc6 := HP.out _ (Chg.seq ccW c6)
          gi_wp2_with fail
          refine ⟨trivial, rfl, (HB.out _ c6).mono ?_⟩
          rintro e w7 ⟨rfl, c7⟩
          have c67 := Chg.seq c6 c7
          have own7 := ownW.no c67
          have hsl : SlF w7 (.slice pa 0 ca) [] := (g1.no c67).sl
          have cc7 := Chg.seq ccW c67
          have hb7 := cc7.size
          clear S1 sM g1 g2
          gi_wp2_with (gi_at_builtin; refine wpListIn_append_sf _ rfl _ _ rfl w5.heap.size _ fs rfl own7 pa 0 ca [] rfl hsl (by have := HLc.out; omega) hb7 ?_; intro v' w8 hown' hgrow' _; rw [List.append_nil] at hown'; obtain ⟨p', c', rfl⟩ := hown'.slice)
          refine ⟨⟨k + 1, hlt, by go_num, by rw [HS2.out, Bool.or_true], by rw [HS1.out]; exact hown', cc7.grown hgrow' (fun q e => .inr (World.ownsRow.lt own7 q e).1)⟩, by simp [intOf]; omega⟩
    · obtain rfl : k = n := by omega
      have hlt' : ¬ (k : Int) < (k : Int) := by omega
      rw [List.take_of_length_le (by rw [HN.out]; exact Nat.le_refl _)] at hown ⊢
      rw [← HC3.out] at hown
      obtain ⟨q10, j10, rfl⟩ := hown.slice
      have stw := st.no c
      have cw := Chg.seq c05 c
      generalize anyC o a b all = cl at HEND ⊢
      have hcl : cm.length ≤ 1000000 := by
        have := cameL_len o a b all
        rw [← HC3.out, HN.out] at this
        omega
      clear st sb sall hlt HAO HAF HHAS HC3
      by_cases hbd : bd = []
      · obtain ⟨rfl, e2⟩ := HEND.out.1 hbd
        obtain rfl : nb = 0 := by rw [← HNB.out, hbd]; rfl
        have S1 := sameF_in (.slice q10 cm.length j10) (.slice q4 m j4) cm t wr hown.sl stw hcl
        rw [decide_eq_true e2] at S1
        clear hbd e2
        gi_wp2_with fail
        refine ⟨trivial, rfl, S1.mono ?_⟩
        rintro e w6 ⟨rfl, c6⟩
        gi_wp2_with fail
        refine ⟨trivial, rfl, (awake_in J _).mono ?_⟩
        rintro e w7 ⟨rfl, c7⟩
        gi_wp2
        go_ret
        exact ⟨rfl, Chg.seq cw (Chg.seq c6 c7)⟩
      · obtain ⟨e1, e2⟩ := HEND.out.2 hbd
        have hnp : ((nb : Int) == (0 : Int)) = false := beq_eq_false_iff_ne.2 (fun e => hbd (List.length_eq_zero_iff.1 (by rw [HNB.out]; omega)))
        obtain rfl : m = 0 := by rw [← HMm.out, e2]; rfl
        have HE : Hid (cl = true ∨ mayB cm = false) := e1
        clear e1 e2 hbd
        cases cl with
        | true =>
          gi_wp2_with fail
          refine ⟨trivial, ?_⟩
          rename_i hKK
          apply hKK
          gi_wp2_with fail
          refine ⟨trivial, rfl, (awake_in J _).mono ?_⟩
          rintro e w7 ⟨rfl, c7⟩
          gi_wp2
          go_ret
          exact ⟨rfl, Chg.seq cw c7⟩
        | false =>
          have M1 := may_in (.slice q10 cm.length j10) cm HCF.out wr hown.sl
          have hmf : mayB cm = false := by
            rcases HE.out with h | h
            · cases h
            · exact h
          rw [hmf] at M1
          clear hmf
          gi_wp2_with fail
          refine ⟨trivial, rfl, M1.mono ?_⟩
          rintro e w6 ⟨rfl, c6⟩
          gi_wp2_with fail
          refine ⟨trivial, rfl, (awake_in J _).mono ?_⟩
          rintro e w7 ⟨rfl, c7⟩
          gi_wp2
          go_ret
          exact ⟨rfl, Chg.seq cw (Chg.seq c6 c7)⟩

end Go.Proofs.YtndblaemladppabGreatDoor
