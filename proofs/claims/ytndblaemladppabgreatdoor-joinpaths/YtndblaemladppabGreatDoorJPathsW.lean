/-
  JoinPaths answers true at every three lists of files, and turns nothing that lay.
-/
import Derived.Test.YtndblaemladppabGreatDoorJHas
import Derived.Test.YtndblaemladppabGreatDoorFMay
import Derived.Test.YtndblaemladppabGreatDoorGFile
import Derived.Test.YtndblaemladppabGreatDoorQuiet
import Derived.Sort.CutIn
import Derived.Sort.QuietThIn
import Derived.Shelf.RegionOpen
import Derived.Laws.Cover1
namespace Go.TreeLib
open Go Go.TextLib
theorem star_list : (⟨#[42]⟩ : ByteArray).toList = [42] := by rw [ByteArray.toList_eq]
theorem ent_or (p : Bool) (d x : ByteArray) : (p = true ∧ (d.toList == x.toList) = true ∧ d = x) ∨ (p = true ∧ (d.toList == x.toList) = false ∧ ¬ d = x) ∨ p = false := by
  cases p with
  | false => exact .inr (.inr rfl)
  | true =>
    by_cases h : d = x
    · exact .inl ⟨rfl, eqH_true h, h⟩
    · exact .inr (.inl ⟨rfl, eqH_false h, h⟩)
theorem from_last {p q r : Bool} {x y z d : ByteArray} (h : fromB (p, x) (q, y) (r, z) d = true) (h1 : ¬ (p = true ∧ d = x)) (h2 : ¬ (q = true ∧ d = y)) (h3 : ¬ (r = true ∧ d = z)) : q = true ∧ r = true ∧ ¬ y = z ∧ ¬ y = x ∧ ¬ z = x := by
  unfold fromB at h
  simp only [Bool.or_eq_true, Bool.and_eq_true, decide_eq_true_eq, Bool.not_eq_true', decide_eq_false_iff_not] at h
  rcases h with (h | h | h) | h
  · exact absurd h h1
  · exact absurd h h2
  · exact absurd h h3
  · exact ⟨h.1, h.2.1, h.2.2⟩
end Go.TreeLib
namespace Go.Proofs.YtndblaemladppabGreatDoor
open Go.RowKit Go.Shelf Go.SeqLib Go.DiffLib Go.TreeLib Go.TextLib Go.BigFrame
attribute [local go_sem] Oper.semAt_some

set_option maxRecDepth 100000 in
set_option maxHeartbeats 8000000 in
theorem jpaths_law (J : JoinSpec) (p0 : Option Addr) (n0 k0 : Nat) (o : List Fl) (p1 : Option Addr) (n1 k1 : Nat) (a : List Fl) (p2 : Option Addr) (n2 k2 : Nat) (b : List Fl) (w : World) (ho : SlF w (.slice p0 n0 k0) o) (hn0 : o.length = n0) (ha : SlF w (.slice p1 n1 k1) a) (hn1 : a.length = n1) (hb : SlF w (.slice p2 n2 k2) b) (hn2 : b.length = n2) :
    CallsIn Fence.wide 0 Tryz.prog 4 #[.slice p0 n0 k0, .slice p1 n1 k1, .slice p2 n2 k2] w fun e w' => e = .returned (.bool true) ∧ Chg No w w' := by
  have hmix : Tryz.prog.follows .mixedOrders = true := by kernel_rfl
  have G1 := great_in (.slice p0 n0 k0) (.slice p1 n1 k1) (.slice p2 n2 k2) o a b w ho ha hb
  have HN0 : Hid (o.length = n0) := hn0
  have HN1 : Hid (a.length = n1) := hn1
  have HN2 : Hid (b.length = n2) := hn2
  clear hn0 hn1 hn2
  obtain ⟨g, hg⟩ : ∃ g, greatJ o a b = g := ⟨_, rfl⟩
  have HGr : Hid (greatJ o a b = g) := hg
  rw [hg] at G1
  clear hg
  refine callsIn_of_wp Tryz.func4 rfl trivial ?_
  simp only [Tryz.ntmps4, List.size_toArray, List.length_cons, List.length_nil, Nat.reduceAdd, Nat.reduceSub, Array.replicate_succ, Array.replicate_zero, List.push_toArray, List.append_toArray, List.nil_append, List.cons_append]
  gi_wp2_with fail
  refine ⟨trivial, rfl, G1.mono ?_⟩
  rintro e w0 ⟨rfl, rfl⟩
  cases g with
  | true =>
    gi_wp2_with fail
    refine ⟨trivial, ?_⟩
    rename_i hKK
    apply hKK
    gi_wp2_with fail
    refine ⟨trivial, ?_⟩
    rename_i hKK
    apply hKK
    gi_wp2_with fail
    refine ⟨trivial, ?_⟩
    rename_i hKK
    apply hKK
    gi_wp2_with fail
    refine ⟨trivial, rfl, (awake_in J _).mono ?_⟩
    rintro e9 w9 ⟨rfl, c9⟩
    gi_wp2
    go_ret
    exact ⟨rfl, c9⟩
  | false =>
  obtain ⟨⟨lo, fo⟩, ⟨la, fa⟩, ⟨lb, fb⟩⟩ := greatJ_few HGr.out
  have HMo := fun W h => may_in (.slice p0 n0 k0) o (fun f hf => by have := (fo.2 f hf).1; omega) W h
  have HMa := fun W h => may_in (.slice p1 n1 k1) a (fun f hf => by have := (fa.2 f hf).1; omega) W h
  have HMb := fun W h => may_in (.slice p2 n2 k2) b (fun f hf => by have := (fb.2 f hf).1; omega) W h
  obtain ⟨mo, hmo⟩ : ∃ mo, mayB o = mo := ⟨_, rfl⟩
  obtain ⟨ma, hma⟩ : ∃ ma, mayB a = ma := ⟨_, rfl⟩
  obtain ⟨mb, hmb⟩ : ∃ mb, mayB b = mb := ⟨_, rfl⟩
  have H1 : Hid (mayB o = mo) := hmo
  have H2 : Hid (mayB a = ma) := hma
  have H3 : Hid (mayB b = mb) := hmb
  rw [hmo] at HMo
  rw [hma] at HMa
  rw [hmb] at HMb
  clear HGr G1 hmo hma hmb
  gi_wp2_with fail
  refine ⟨trivial, rfl, (HMo _ ho).mono ?_⟩
  rintro e w1 ⟨rfl, c1⟩
  cases mo with
  | false =>
    gi_wp2_with fail
    refine ⟨trivial, ?_⟩
    rename_i hKK
    apply hKK
    gi_wp2_with fail
    refine ⟨trivial, ?_⟩
    rename_i hKK
    apply hKK
    gi_wp2_with fail
    refine ⟨trivial, rfl, (awake_in J _).mono ?_⟩
    rintro e9 w9 ⟨rfl, c9⟩
    gi_wp2
    go_ret
    exact ⟨rfl, Chg.seq c1 c9⟩
  | true =>
  gi_wp2_with fail
  refine ⟨trivial, rfl, (HMa _ (ha.no c1)).mono ?_⟩
  rintro e w2 ⟨rfl, c2⟩
  have c02 := Chg.seq c1 c2
  cases ma with
  | false =>
    gi_wp2_with fail
    refine ⟨trivial, ?_⟩
    rename_i hKK
    apply hKK
    gi_wp2_with fail
    refine ⟨trivial, rfl, (awake_in J _).mono ?_⟩
    rintro e9 w9 ⟨rfl, c9⟩
    gi_wp2
    go_ret
    exact ⟨rfl, Chg.seq c02 c9⟩
  | true =>
  gi_wp2_with fail
  refine ⟨trivial, rfl, (HMb _ (hb.no c02)).mono ?_⟩
  rintro e w3 ⟨rfl, c3⟩
  have c03 := Chg.seq c02 c3
  cases mb with
  | false =>
    gi_wp2_with fail
    refine ⟨trivial, rfl, (awake_in J _).mono ?_⟩
    rintro e9 w9 ⟨rfl, c9⟩
    gi_wp2
    go_ret
    exact ⟨rfl, Chg.seq c03 c9⟩
  | true =>
  have HT3 : Hid (IsTree o ∧ IsTree a ∧ IsTree b) := ⟨mayB_iff.1 H1.out, mayB_iff.1 H2.out, mayB_iff.1 H3.out⟩
  have HM : Hid (may3 o a b = true) := may3_iff.2 HT3.out
  have ho3 := ho.no c03
  have ha3 := ha.no c03
  have hb3 := hb.no c03
  clear HMo HMa HMb H1 H2 H3 ho ha hb c1 c2 c02 c3
  have HUP : Hid (UpT (ofJ o a b).2 ∧ ∀ z ∈ (ofJ o a b).2, z = star ∨ z ∈ all3 o a b) := ofJ_up HM.out
  have HFR : Hid (∀ f ∈ (ofJ o a b).1, fromB (atP o f.1) (atP a f.1) (atP b f.1) f.2 = true) := fun f hf => ofJ_from hf
  have J1 := J.of _ _ _ o a b w3 ho3 ha3 hb3 fo fa fb
  have hal := all3_most o a b
  obtain ⟨all, HAL⟩ : ∃ all, Hid (all3 o a b = all) := ⟨_, rfl⟩
  have P1 := fun W h1 h2 h3 => paths3_in p0 n0 k0 o p1 n1 k1 a p2 n2 k2 b W h1 h2 h3 (by omega)
  rw [HAL.out] at P1 hal HUP
  have htl := ofJ_len o a b
  generalize (ofJ o a b).1 = t at J1 HFR htl
  generalize (ofJ o a b).2 = bd at J1 HUP
  have hall2 : all.length ≤ 100000 := by omega
  clear hal
  gi_wp2_with fail
  refine ⟨trivial, rfl, J1.mono ?_⟩
  rintro e w4 ⟨v4, x4, rfl, r4, t4, c4⟩
  obtain ⟨q4, j4, rfl⟩ := r4.slice
  obtain ⟨q5, j5, rfl⟩ := row_slice t4
  have c04 := Chg.seq c03 c4
  gi_wp2_with fail
  refine ⟨trivial, rfl, (P1 _ (ho3.no c4) (ha3.no c4) (hb3.no c4)).mono ?_⟩
  rintro e w5 ⟨v5, rfl, y5, c5⟩
  have c05 := Chg.seq c04 c5
  have c35 := Chg.seq c4 c5
  have ho5 := ho3.no c35
  have ha5 := ha3.no c35
  have hb5 := hb3.no c35
  have st : SlF w5 (.slice q4 t.length j4) t := (r4.no c5).sl
  have sb : SlT w5 (.slice q5 bd.length j5) bd := OwnT.sl (OwnT.no t4 c5)
  have sall : SlT w5 v5 all := OwnT.sl y5
  clear J1 P1 r4 t4 y5 c4 c5 c04 c35 ho3 ha3 hb3 c03
  obtain ⟨n, HN⟩ : ∃ n, Hid (bd.length = n) := ⟨_, rfl⟩
  obtain ⟨m, HMm⟩ : ∃ m, Hid (t.length = m) := ⟨_, rfl⟩
  have hnb : n ≤ 9223372036854775807 := by
    obtain ⟨_, cap, _, h1, h2, _⟩ := sb
    rw [List.length_map, HN.out] at h1
    unfold maxLen at h2
    omega
  rw [HN.out] at sb ⊢
  rw [HMm.out] at st htl ⊢
  have hm0 : m ≤ 9223372036854775807 := by omega
  gi_wp2
  gi_loopw [10] (fun s10 wr => ∃ k : Nat, k ≤ n ∧ s10 = .int .i64 (k : Int) ∧ Chg No w5 wr) (fun s10 _ => n - (intOf s10).toNat)
  case atStart => exact ⟨0, Nat.zero_le _, rfl, Chg.refl _ _⟩
  case round =>
    obtain ⟨k, hk, rfl, c⟩ := hrel
    by_cases hlt : k < n
    · have hlt' : (k : Int) < (n : Int) := by omega
      have hkb : k < bd.length := by rw [HN.out]; exact hlt
      obtain ⟨z, hz⟩ : ∃ z, bd[k]? = some z := ⟨_, List.getElem?_eq_getElem hkb⟩
      have HZ : Hid (z = star ∨ hasB all z = true) := by
        rcases HUP.out.2 z (List.mem_of_getElem? hz) with h | h
        · exact .inl h
        · exact .inr (hasB_iff.2 h)
      obtain ⟨b1, o1, rfl, hc1⟩ := SlT.at (sb.no c) k z hz
      have hany := After.any wr
      have f0 : ∀ c : After wr, c.val.cell? ⟨b1, o1 + k, none⟩ = some (.string z) := fun c => c.cell hc1
      have HH : Hid (∀ c : After wr, CallsIn Fence.wide 0 Tryz.prog 14 #[v5, .string z] c.val fun e w' => e = .returned (.bool (hasB all z)) ∧ Chg No c.val w') := fun c' => lHas_in v5 all z c'.val (SlV.no (SlV.no sall c) c'.chg) hall2
      clear hc1
      by_cases hs : z = ⟨#[42]⟩
      · have qs : (z.toList == [42]) = true := by rw [hs, star_list]; rfl
        clear hs
        by_cases h0 : k = 0
        · have h0' : decide (0 < k) = false := decide_eq_false (by omega)
          clear h0
          gi_wp2
          refine region_quietC hmix (by kernel_rfl) ?_
          repeat (gi_big_quiet_step (fail))
          refine wpQuietIn_skip (fun _ _ _ _ => trivial) rfl ?_
          simp only [Act.put, List.setIfInBounds_toArray, List.set_cons_succ, List.set_cons_zero]
          repeat (gi_big_quiet_step (fail))
          refine wpQuietIn_nil ?_
          rintro w' ⟨c', rfl⟩
          gi_wp2
          refine ⟨⟨k + 1, hlt, by go_num, Chg.seq c c'.chg⟩, by simp [intOf]; omega⟩
        · have h0' : decide (0 < k) = true := decide_eq_true (by omega)
          obtain ⟨y, hy⟩ : ∃ y, bd[k - 1]? = some y := ⟨_, List.getElem?_eq_getElem (by omega)⟩
          obtain ⟨b2, o2, e2, hc3⟩ := SlT.at (sb.no c) (k - 1) y hy
          cases e2
          have f2 : ∀ c : After wr, c.val.cell? ⟨b1, o1 + (k - 1), none⟩ = some (.string y) := fun c => c.cell hc3
          have hA : Op.bytesLess y.toList z.toList = true := by
            obtain ⟨i1, e1⟩ := List.getElem?_eq_some_iff.1 hy
            obtain ⟨i2, e3⟩ := List.getElem?_eq_some_iff.1 hz
            have := List.pairwise_iff_getElem.1 HUP.out.1 (k - 1) k i1 i2 (by omega)
            rw [e1, e3] at this
            exact this
          clear hc3 hy
          have hk1 : 1 ≤ k := by omega
          gi_wp2
          refine region_quietC hmix (by kernel_rfl) ?_
          repeat (gi_big_quiet_step (fail))
          refine wpQuietIn_skip (fun _ _ _ _ => trivial) rfl ?_
          simp only [Act.put, List.setIfInBounds_toArray, List.set_cons_succ, List.set_cons_zero]
          repeat (gi_big_quiet_step (fail))
          refine wpQuietIn_nil ?_
          rintro w' ⟨c', rfl⟩
          gi_wp2
          refine ⟨⟨k + 1, hlt, by go_num, Chg.seq c c'.chg⟩, by simp [intOf]; omega⟩
      · have qs : (z.toList == [42]) = false := beq_eq_false_iff_ne.2 (fun e => hs (toList_inj (e.trans star_list.symm)))
        have hh : hasB all z = true := by
          rcases HZ.out with h | h
          · exact absurd h hs
          · exact h
        rw [hh] at HH
        clear hs hh
        by_cases h0 : k = 0
        · have h0' : decide (0 < k) = false := decide_eq_false (by omega)
          clear h0
          gi_wp2
          refine region_quietC hmix (by kernel_rfl) ?_
          repeat (gi_big_quiet_step (fail))
          refine wpQuietIn_want (fun _ _ _ _ => trivial) rfl ?_
          intro KQ hKQ
          gi_big_quiet_op
          gi_big_quiet_call (exact ⟨rfl, (HH.out _).mono (by rintro e w'' ⟨rfl, c'⟩; exact ⟨rfl, After.more _ c'⟩)⟩)
          repeat (gi_big_quiet_step (fail))
          refine wpQuietIn_nil ?_
          rintro w' ⟨c', rfl⟩
          gi_wp2
          refine ⟨⟨k + 1, hlt, by go_num, Chg.seq c c'.chg⟩, by simp [intOf]; omega⟩
        · have h0' : decide (0 < k) = true := decide_eq_true (by omega)
          obtain ⟨y, hy⟩ : ∃ y, bd[k - 1]? = some y := ⟨_, List.getElem?_eq_getElem (by omega)⟩
          obtain ⟨b2, o2, e2, hc3⟩ := SlT.at (sb.no c) (k - 1) y hy
          cases e2
          have f2 : ∀ c : After wr, c.val.cell? ⟨b1, o1 + (k - 1), none⟩ = some (.string y) := fun c => c.cell hc3
          have hA : Op.bytesLess y.toList z.toList = true := by
            obtain ⟨i1, e1⟩ := List.getElem?_eq_some_iff.1 hy
            obtain ⟨i2, e3⟩ := List.getElem?_eq_some_iff.1 hz
            have := List.pairwise_iff_getElem.1 HUP.out.1 (k - 1) k i1 i2 (by omega)
            rw [e1, e3] at this
            exact this
          clear hc3 hy
          have hk1 : 1 ≤ k := by omega
          gi_wp2
          refine region_quietC hmix (by kernel_rfl) ?_
          repeat (gi_big_quiet_step (fail))
          refine wpQuietIn_want (fun _ _ _ _ => trivial) rfl ?_
          intro KQ hKQ
          gi_big_quiet_op
          gi_big_quiet_call (exact ⟨rfl, (HH.out _).mono (by rintro e w'' ⟨rfl, c'⟩; exact ⟨rfl, After.more _ c'⟩)⟩)
          repeat (gi_big_quiet_step (fail))
          refine wpQuietIn_nil ?_
          rintro w' ⟨c', rfl⟩
          gi_wp2
          refine ⟨⟨k + 1, hlt, by go_num, Chg.seq c c'.chg⟩, by simp [intOf]; omega⟩
    · obtain rfl : k = n := by omega
      have hlt' : ¬ (k : Int) < (k : Int) := by omega
      have ho6 := ho5.no c
      have ha6 := ha5.no c
      have hb6 := hb5.no c
      have st6 := st.no c
      have c06 := Chg.seq c05 c
      clear hlt sb sall st ho5 ha5 hb5
      gi_wp2
      generalize wr = wa at *
      gi_loopw [11] (fun s11 wr => ∃ k : Nat, k ≤ m ∧ s11 = .int .i64 (k : Int) ∧ Chg No wa wr) (fun s11 _ => m - (intOf s11).toNat)
      case atStart => exact ⟨0, Nat.zero_le _, rfl, Chg.refl _ _⟩
      case round =>
        obtain ⟨i, hi, rfl, cc⟩ := hrel
        by_cases hlt : i < m
        · have hlt' : (i : Int) < (m : Int) := by omega
          have hkt : i < t.length := by rw [HMm.out]; exact hlt
          obtain ⟨f, hf⟩ : ∃ f, t[i]? = some f := ⟨_, List.getElem?_eq_getElem hkt⟩
          have HFf : Hid (fromB (atP o f.1) (atP a f.1) (atP b f.1) f.2 = true) := HFR.out f (List.mem_of_getElem? hf)
          obtain ⟨b1, o1, rfl, hc1, hc2⟩ := SlF.at (st6.no cc) i f hf
          have HC : Hid (∀ W, Chg No wr W → W.cell? ⟨b1, o1 + i * 2, none⟩ = some (.string f.1) ∧ W.cell? ⟨b1, o1 + i * 2 + 1, none⟩ = some (.string f.2)) := fun W c' => by
            obtain ⟨_, _, e, h1, h2⟩ := SlF.at ((st6.no cc).no c') i f hf
            cases e
            exact ⟨h1, h2⟩
          obtain ⟨fp, fd⟩ := f
          dsimp only at hc1 hc2 HC HFf
          have G1 := get_in (.slice p0 n0 k0) o fp wr (ho6.no cc)
          have G2 := fun W h => get_in (.slice p1 n1 k1) a fp W h
          have G3 := fun W h => get_in (.slice p2 n2 k2) b fp W h
          have HFg : Hid (fromB ((TreeLib.get o fp).isSome, getD o fp) ((TreeLib.get a fp).isSome, getD a fp) ((TreeLib.get b fp).isSome, getD b fp) fd = true) := HFf.out
          generalize (TreeLib.get o fp).isSome = p at G1 HFg
          generalize getD o fp = x at G1 HFg
          generalize (TreeLib.get a fp).isSome = q at G2 HFg
          generalize getD a fp = y at G2 HFg
          generalize (TreeLib.get b fp).isSome = r at G3 HFg
          generalize getD b fp = z at G3 HFg
          clear hf HFf
          gi_wp2_with fail
          refine ⟨trivial, rfl, G1.mono ?_⟩
          rintro e wb ⟨rfl, d1⟩
          obtain ⟨hd1, hd2⟩ := HC.out _ d1
          gi_wp2_with fail
          refine ⟨trivial, rfl, (G2 _ (ha6.no (Chg.seq cc d1))).mono ?_⟩
          rintro e wc ⟨rfl, d2⟩
          have d12 := Chg.seq d1 d2
          obtain ⟨he1, he2⟩ := HC.out _ d12
          gi_wp2_with fail
          refine ⟨trivial, rfl, (G3 _ (hb6.no (Chg.seq cc d12))).mono ?_⟩
          rintro e wd ⟨rfl, d3⟩
          have d13 := Chg.seq d12 d3
          obtain ⟨hg1, hg2⟩ := HC.out _ d13
          have ccd := Chg.seq cc d13
          clear G1 G2 G3 hc1 hc2 hd1 hd2 he1 he2 d1 d2 d3 d12 d13 HC cc
          have E1 := ent_or p fd x
          have E2 := ent_or q fd y
          have E3 := ent_or r fd z
          have HE2 : Hid _ := E2
          have HE3 : Hid _ := E3
          clear E2 E3
          rcases E1 with ⟨rfl, a1, -⟩ | E1
          · gi_wp2
            refine ⟨⟨i + 1, hlt, by go_num, ccd⟩, by simp [intOf]; omega⟩
          have HA : Hid (¬ (p = true ∧ fd = x)) := by
            rcases E1 with ⟨_, _, h⟩ | h
            · exact fun e => h e.2
            · exact fun e => by rw [h] at e; cases e.1
          have HE1 : Hid _ := E1
          clear E1
          rcases HE2.out with ⟨rfl, b1', -⟩ | E2
          · rcases HE1.out with ⟨rfl, a1, -⟩ | rfl
            · gi_wp2
              refine ⟨⟨i + 1, hlt, by go_num, ccd⟩, by simp [intOf]; omega⟩
            · gi_wp2
              refine ⟨⟨i + 1, hlt, by go_num, ccd⟩, by simp [intOf]; omega⟩
          have HB : Hid (¬ (q = true ∧ fd = y)) := by
            rcases E2 with ⟨_, _, h⟩ | h
            · exact fun e => h e.2
            · exact fun e => by rw [h] at e; cases e.1
          have HE2' : Hid _ := E2
          clear E2 HE2
          rcases HE3.out with ⟨rfl, c1', -⟩ | E3
          · rcases HE1.out with ⟨rfl, a1, -⟩ | rfl
            · rcases HE2'.out with ⟨rfl, b1', -⟩ | rfl
              · gi_wp2
                refine ⟨⟨i + 1, hlt, by go_num, ccd⟩, by simp [intOf]; omega⟩
              · gi_wp2
                refine ⟨⟨i + 1, hlt, by go_num, ccd⟩, by simp [intOf]; omega⟩
            · rcases HE2'.out with ⟨rfl, b1', -⟩ | rfl
              · gi_wp2
                refine ⟨⟨i + 1, hlt, by go_num, ccd⟩, by simp [intOf]; omega⟩
              · gi_wp2
                refine ⟨⟨i + 1, hlt, by go_num, ccd⟩, by simp [intOf]; omega⟩
          have HCc : Hid (¬ (r = true ∧ fd = z)) := by
            rcases E3 with ⟨_, _, h⟩ | h
            · exact fun e => h e.2
            · exact fun e => by rw [h] at e; cases e.1
          obtain ⟨rfl, rfl, m1, m2, m3⟩ := from_last HFg.out HA.out HB.out HCc.out
          have s1 := eqH_false m1
          have s2 := eqH_false m2
          have s3 := eqH_false m3
          have b1' := eqH_false (fun e => HB.out ⟨rfl, e⟩)
          have c1' := eqH_false (fun e => HCc.out ⟨rfl, e⟩)
          clear m1 m2 m3 E3
          rcases HE1.out with ⟨rfl, a1, -⟩ | rfl
          · gi_wp2
            refine ⟨⟨i + 1, hlt, by go_num, ccd⟩, by simp [intOf]; omega⟩
          · gi_wp2
            refine ⟨⟨i + 1, hlt, by go_num, ccd⟩, by simp [intOf]; omega⟩
        · obtain rfl : i = m := by omega
          have hlt' : ¬ (i : Int) < (i : Int) := by omega
          gi_wp2_with fail
          refine ⟨trivial, rfl, (awake_in J _).mono ?_⟩
          rintro e w9 ⟨rfl, c9⟩
          gi_wp2
          go_ret
          exact ⟨rfl, Chg.seq c06 (Chg.seq cc c9)⟩

end Go.Proofs.YtndblaemladppabGreatDoor
