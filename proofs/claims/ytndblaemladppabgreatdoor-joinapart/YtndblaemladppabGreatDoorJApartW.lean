/-
  JoinApart answers true at every three lists of files, and turns nothing that lay.
-/
import Derived.Test.YtndblaemladppabGreatDoorJApart
namespace Go.Proofs.YtndblaemladppabGreatDoor
open Go.RowKit Go.Shelf Go.SeqLib Go.DiffLib Go.TreeLib Go.TextLib Go.BigFrame
attribute [local go_sem] Oper.semAt_some

set_option maxRecDepth 100000 in
set_option maxHeartbeats 2000000 in
theorem japart_law (J : JoinSpec) (p0 : Option Addr) (n0 k0 : Nat) (o : List Fl) (p1 : Option Addr) (n1 k1 : Nat) (a : List Fl) (p2 : Option Addr) (n2 k2 : Nat) (b : List Fl) (w : World) (ho : SlF w (.slice p0 n0 k0) o) (hn0 : o.length = n0) (ha : SlF w (.slice p1 n1 k1) a) (hn1 : a.length = n1) (hb : SlF w (.slice p2 n2 k2) b) (hn2 : b.length = n2) :
    CallsIn Fence.wide 0 Tryz.prog 3 #[.slice p0 n0 k0, .slice p1 n1 k1, .slice p2 n2 k2] w fun e w' => e = .returned (.bool true) ∧ Chg No w w' := by
  have hmix : Tryz.prog.follows .mixedOrders = true := by kernel_rfl
  have G1 := great_in (.slice p0 n0 k0) (.slice p1 n1 k1) (.slice p2 n2 k2) o a b w ho ha hb
  have HN0 : Hid (o.length = n0) := hn0
  have HN1 : Hid (a.length = n1) := hn1
  have HN2 : Hid (b.length = n2) := hn2
  clear hn0 hn1 hn2
  obtain ⟨g, hg⟩ : ∃ g, greatJ o a b = g := ⟨_, rfl⟩
  have HGr : Hid (greatJ o a b = g) := hg
  rw [hg] at G1
  clear hg
  refine callsIn_of_wp Tryz.func3 rfl trivial ?_
  simp only [Tryz.ntmps3, List.size_toArray, List.length_cons, List.length_nil, Nat.reduceAdd, Nat.reduceSub, Array.replicate_succ, Array.replicate_zero, List.push_toArray, List.append_toArray, List.nil_append, List.cons_append]
  gi_wp2_with fail
  refine ⟨trivial, rfl, G1.mono ?_⟩
  rintro e w0 ⟨rfl, rfl⟩
  cases g with
  | true =>
    gi_wp2_with fail
    refine ⟨trivial, ?_⟩
    rename_i hKK
    apply hKK
    gi_wp2_with fail
    refine ⟨trivial, ?_⟩
    rename_i hKK
    apply hKK
    gi_wp2_with fail
    refine ⟨trivial, ?_⟩
    rename_i hKK
    apply hKK
    gi_wp2_with fail
    refine ⟨trivial, rfl, (awake_in J _).mono ?_⟩
    rintro e9 w9 ⟨rfl, c9⟩
    gi_wp2
    go_ret
    exact ⟨rfl, c9⟩
  | false =>
  obtain ⟨⟨lo, fo⟩, ⟨la, fa⟩, ⟨lb, fb⟩⟩ := greatJ_few HGr.out
  have HMo := fun W h => may_in (.slice p0 n0 k0) o (fun f hf => by have := (fo.2 f hf).1; omega) W h
  have HMa := fun W h => may_in (.slice p1 n1 k1) a (fun f hf => by have := (fa.2 f hf).1; omega) W h
  have HMb := fun W h => may_in (.slice p2 n2 k2) b (fun f hf => by have := (fb.2 f hf).1; omega) W h
  obtain ⟨mo, hmo⟩ : ∃ mo, mayB o = mo := ⟨_, rfl⟩
  obtain ⟨ma, hma⟩ : ∃ ma, mayB a = ma := ⟨_, rfl⟩
  obtain ⟨mb, hmb⟩ : ∃ mb, mayB b = mb := ⟨_, rfl⟩
  have H1 : Hid (mayB o = mo) := hmo
  have H2 : Hid (mayB a = ma) := hma
  have H3 : Hid (mayB b = mb) := hmb
  rw [hmo] at HMo
  rw [hma] at HMa
  rw [hmb] at HMb
  clear HGr G1 hmo hma hmb
  gi_wp2_with fail
  refine ⟨trivial, rfl, (HMo _ ho).mono ?_⟩
  rintro e w1 ⟨rfl, c1⟩
  cases mo with
  | false =>
    gi_wp2_with fail
    refine ⟨trivial, ?_⟩
    rename_i hKK
    apply hKK
    gi_wp2_with fail
    refine ⟨trivial, ?_⟩
    rename_i hKK
    apply hKK
    gi_wp2_with fail
    refine ⟨trivial, rfl, (awake_in J _).mono ?_⟩
    rintro e9 w9 ⟨rfl, c9⟩
    gi_wp2
    go_ret
    exact ⟨rfl, Chg.seq c1 c9⟩
  | true =>
  gi_wp2_with fail
  refine ⟨trivial, rfl, (HMa _ (ha.no c1)).mono ?_⟩
  rintro e w2 ⟨rfl, c2⟩
  have c02 := Chg.seq c1 c2
  cases ma with
  | false =>
    gi_wp2_with fail
    refine ⟨trivial, ?_⟩
    rename_i hKK
    apply hKK
    gi_wp2_with fail
    refine ⟨trivial, rfl, (awake_in J _).mono ?_⟩
    rintro e9 w9 ⟨rfl, c9⟩
    gi_wp2
    go_ret
    exact ⟨rfl, Chg.seq c02 c9⟩
  | true =>
  gi_wp2_with fail
  refine ⟨trivial, rfl, (HMb _ (hb.no c02)).mono ?_⟩
  rintro e w3 ⟨rfl, c3⟩
  have c03 := Chg.seq c02 c3
  cases mb with
  | false =>
    gi_wp2_with fail
    refine ⟨trivial, rfl, (awake_in J _).mono ?_⟩
    rintro e9 w9 ⟨rfl, c9⟩
    gi_wp2
    go_ret
    exact ⟨rfl, Chg.seq c03 c9⟩
  | true =>
  have b0 : n0 ≤ 14 := by rw [← HN0.out]; exact lo
  have b1 : n1 ≤ 14 := by rw [← HN1.out]; exact la
  have b2 : n2 ≤ 14 := by rw [← HN2.out]; exact lb
  by_cases hsum : 12 < n1 + n2 + n0
  · have hsum' : (12 : Int) < (n1 : Int) + (n2 : Int) + (n0 : Int) := by omega
    gi_wp2_with fail
    refine ⟨trivial, rfl, (awake_in J _).mono ?_⟩
    rintro e9 w9 ⟨rfl, c9⟩
    gi_wp2
    go_ret
    exact ⟨rfl, Chg.seq c03 c9⟩
  have hsum' : ¬ (12 : Int) < (n1 : Int) + (n2 : Int) + (n0 : Int) := by omega
  have HT3 : Hid (IsTree o ∧ IsTree a ∧ IsTree b) := ⟨mayB_iff.1 H1.out, mayB_iff.1 H2.out, mayB_iff.1 H3.out⟩
  have HM : Hid (may3 o a b = true) := may3_iff.2 HT3.out
  have ho3 := ho.no c03
  have ha3 := ha.no c03
  have hb3 := hb.no c03
  clear HMo HMa HMb H1 H2 H3 ho ha hb c1 c2 c02 c3
  gi_wp2
  gi_loopw [7, 8, 9, 10] (fun s7 s8 s9 s10 wr => ∃ k : Nat, k ≤ n0 ∧ s10 = .int .i64 (k : Int) ∧ OwnF wr w3.heap.size s7 ((o.take k).map (pre 111)) ∧ OwnF wr w3.heap.size s8 ((o.take k).map (pre 111)) ∧ OwnF wr w3.heap.size s9 ((o.take k).map (pre 111)) ∧ Hid ((∀ q, s7.ownBlock = some q → ¬ s8.ownBlock = some q) ∧ (∀ q, s7.ownBlock = some q → ¬ s9.ownBlock = some q) ∧ (∀ q, s8.ownBlock = some q → ¬ s9.ownBlock = some q)) ∧ Chg No w3 wr) (fun _ _ _ s10 _ => n0 - (intOf s10).toNat)
  case atStart => exact ⟨0, Nat.zero_le _, rfl, OwnF.nil _ _, OwnF.nil _ _, OwnF.nil _ _, ⟨fun q h => (by cases h), fun q h => (by cases h), fun q h => (by cases h)⟩, Chg.refl _ _⟩
  case round =>
    obtain ⟨k, hk, rfl, x7, x8, x9, HAp, c⟩ := hrel
    by_cases hlt : k < n0
    · have hlt' : (k : Int) < (n0 : Int) := by omega
      have hko : k < o.length := by rw [HN0.out]; exact hlt
      obtain ⟨x, hx⟩ : ∃ x, o[k]? = some x := ⟨_, List.getElem?_eq_getElem hko⟩
      have HTS : Hid ((o.take (k + 1)).map (pre 111) = (o.take k).map (pre 111) ++ [pre 111 x]) := by show _ = _; rw [List.take_add_one, hx, List.map_append]; rfl
      have HTL : Hid (((o.take k).map (pre 111)).length ≤ 14) := by
        show _ ≤ _
        rw [List.length_map, List.length_take]
        omega
      have hxs := fo.2 x (List.mem_of_getElem? hx)
      obtain ⟨b1, o1, rfl, hc1, hc2⟩ := SlF.at (ho3.no c) k x hx
      generalize (o.take k).map (pre 111) = fs at x7 x8 x9 HTS HTL
      obtain ⟨p7, k7, rfl⟩ := x7.slice
      obtain ⟨p8, k8, rfl⟩ := x8.slice
      obtain ⟨p9, k9, rfl⟩ := x9.slice
      have hany := After.any wr
      have f0 : ∀ c : After wr, c.val.cell? ⟨b1, o1 + k * 2, none⟩ = some (.string x.1) := fun c => c.cell hc1
      have f1 : ∀ c : After wr, c.val.cell? ⟨b1, o1 + k * 2 + 1, none⟩ = some (.string x.2) := fun c => c.cell hc2
      clear hx hko hc1 hc2
      have hsz : (ByteArray.mk #[111] ++ x.1).size = 1 + x.1.size := by rw [ByteArray.size_append]; rfl
      have HPe : Hid (ByteArray.mk #[111] ++ x.1 = (pre 111 x).1) := pre_eq 111 x
      gi_wp2
      refine region_loudG (fun i => i == 12 || i == 13) (fun w' => ∃ c : After wr, w' = c.val) (BoxInv wr (ByteArray.mk #[111] ++ x.1, x.2)) (fun _ => .pointer (some ⟨0, 0, none⟩)) hmix (by kernel_rfl) (by kernel_rfl) (fun d u W h => ⟨⟨W, h.chg⟩, rfl⟩)
        ⟨(Chg.refl _ wr).drew, ⟨0, rfl⟩, fun h => (by cases h), fun h => (by cases h)⟩ (fun u hu => ?_)
      obtain ⟨_, _, hu⟩ := hu
      obtain ⟨g, e12⟩ := hu.v12
      clear hu
      simp only [hushE, Nat.reduceAdd, Nat.reduceBEq, Bool.or_self, Bool.or_true, Bool.or_false, if_true, if_false, Bool.false_eq_true]
      rw [e12]
      repeat (gi_big_quiet_step (fail))
      refine wpQuietIn_nil ⟨?_, ?_, ?_⟩
      · intro i oo ho hm
        simp only [Bool.or_eq_true, beq_iff_eq] at hm
        rcases hm with rfl | rfl
        all_goals (cases ho; rfl)
      · intro i oo d W hjo hm hd hwt hI
        simp only [Bool.or_eq_true, beq_iff_eq] at hm
        rcases hm with rfl | rfl
        · cases hjo
          have h13 : d 13 = false := by
            cases h : d 13 with
            | false => rfl
            | true => have := hI.o13 h; rw [hd] at this; cases this
          refine LeadsV.value (v := .pointer (some ⟨W.heap.size, 0, none⟩)) (w' := W.alloc (.cells #[.string ⟨#[]⟩, .string ⟨#[]⟩] 27)) ?_ ?_
          · simp [go_sem]
          · exact hI.made h13
        · cases hjo
          obtain ⟨g', e', hg1, hg2⟩ := hI.b12 (hwt 12 rfl (by kernel_rfl))
          rw [e12] at e'
          cases e'
          simp only [hd, Bool.false_eq_true, if_false] at hg2
          have k1 : W.cell? ⟨g, 0, none⟩ = some (.string ⟨#[]⟩) := by simp [World.cell?, hg2]
          have k2 : W.cell? ⟨g, 1, none⟩ = some (.string ⟨#[]⟩) := by simp [World.cell?, hg2]
          have z1 : W.frozen? ⟨g, 0, none⟩ = false := by simp [World.frozen?, hg2]
          have z2 : W.frozen? ⟨g, 1, none⟩ = false := by simp [World.frozen?, hg2]
          refine LeadsV.skip (w' := (W.setCell ⟨g, 0, none⟩ (.string (ByteArray.mk #[111] ++ x.1))).setCell ⟨g, 1, none⟩ (.string x.2)) ?_ ?_
          · simp [go_sem, k1, k2, z1, z2]
          · exact hI.filled hg1 hg2 e12 (hwt 12 rfl (by kernel_rfl)) undef
      · intro d W hall hI
        obtain ⟨g', e', hg1, hg2⟩ := hI.b12 (hall 12 rfl (by simp))
        rw [e12] at e'
        cases e'
        rw [if_pos (hall 13 rfl (by simp)), HPe.out] at hg2
        have cW := hI.chg
        clear hI hall e12
        have ccW := Chg.seq c cW
        have y7 := x7.no cW
        have y8 := x8.no cW
        have y9 := x9.no cW
        have hgW : g < W.heap.size := (Array.getElem?_eq_some_iff.1 hg2).1
        have hq0 : W.cell? ⟨g, 0, none⟩ = some (.string (pre 111 x).1) := by simp [World.cell?, hg2]
        have hq1 : W.cell? ⟨g, 1, none⟩ = some (.string x.2) := by simp [World.cell?, hg2]
        have hS := Inv3.start (fs := fs) (f := pre 111 x) (g0 := g) (u := fun _ => .slice none 0 0) ccW y7 y8 y9 HAp.out.1 HAp.out.2.1 HAp.out.2.2 (fun e => by have := (World.ownsRow.lt x7 g e).2; omega) (fun e => by have := (World.ownsRow.lt x8 g e).2; omega) (fun e => by have := (World.ownsRow.lt x9 g e).2; omega)
        have hany2 : Nonempty (AfterB (fun k => w3.heap.size ≤ k ∧ k ≠ g) W) := AfterB.any _ _
        have q0 : ∀ c : AfterB (fun k => w3.heap.size ≤ k ∧ k ≠ g) W, c.val.cell? ⟨g, 0, none⟩ = some (.string (pre 111 x).1) := fun c => c.cell hq0 (fun h => h.2 rfl)
        have q1 : ∀ c : AfterB (fun k => w3.heap.size ≤ k ∧ k ≠ g) W, c.val.cell? ⟨g, 1, none⟩ = some (.string x.2) := fun c => c.cell hq1 (fun h => h.2 rfl)
        clear f0 f1 hany hq0 hq1 hg2 x7 x8 x9 y7 y8 y9
        gi_wp2
        refine region_loudG (fun i => i == 2 || i == 3 || i == 6 || i == 7 || i == 10 || i == 11) (fun w' => ∃ c : AfterB (fun k => w3.heap.size ≤ k ∧ k ≠ g) W, w' = c.val) (Inv3 w3 W (three (.slice p7 fs.length k7) (.slice p8 fs.length k8) (.slice p9 fs.length k9)) g fs (pre 111 x)) (fun _ => .slice none 0 0) hmix (by kernel_rfl) (by kernel_rfl) (fun d u W' h => ⟨⟨W', h.aft⟩, rfl⟩) hS (fun u hu => ?_)
        clear hu
        simp only [hushE, Nat.reduceAdd, Nat.reduceBEq, Bool.or_self, Bool.or_true, Bool.or_false, if_true, if_false, Bool.false_eq_true]
        repeat (gi_big_quiet_step (fail))
        refine wpQuietIn_nil ⟨?_, ?_, ?_⟩
        · intro i oo ho hm
          simp only [Bool.or_eq_true, beq_iff_eq] at hm
          rcases hm with ((((rfl | rfl) | rfl) | rfl) | rfl) | rfl
          all_goals (cases ho; rfl)
        · intro i oo d W' hjo hm hd hwt hI
          have hg0 : g < W'.heap.size := Nat.lt_of_lt_of_le hgW hI.aft.size
          simp only [Bool.or_eq_true, beq_iff_eq] at hm
          rcases hm with ((((rfl | rfl) | rfl) | rfl) | rfl) | rfl
          · cases hjo
            have h3 : d (4 * 0 + 3) = false := by
              cases h : d (4 * 0 + 3) with
              | false => rfl
              | true => have := hI.ord 0 (by decide) h; exact absurd (hd.symm.trans this) (by decide)
            refine LeadsV.value (v := .slice (some ⟨W'.heap.size, 0, none⟩) 1 1) (w' := W'.alloc (.cells #[.string (pre 111 x).1, .string x.2] 27)) ?_ (hI.build (j := 0) (by decide) h3 hg0)
            simp [go_sem]
          · cases hjo
            have h2 : d (4 * 0 + 2) = true := hwt 2 rfl (by kernel_rfl)
            obtain ⟨g', e', g1, g2, g3⟩ := hI.new 0 (by decide) h2 hd
            have ho : OwnF W' w3.heap.size (.slice p7 fs.length k7) fs := by
              have := hI.own 0 (by decide)
              rw [show d (4 * 0 + 3) = false from hd] at this
              exact this
            refine LeadsV.append_sf _ _ rfl w3.heap.size (.slice p7 fs.length k7) fs rfl ho (some ⟨g', 0, none⟩) 1 1 [pre 111 x] e' g3 (by have := HTL.out; omega) hI.chg.size ?_
            intro v' w' ho' hg' hat'
            exact hI.app (j := 0) (by decide) h2 hd hg0 ho' hg' hat'
          · cases hjo
            have h3 : d (4 * 1 + 3) = false := by
              cases h : d (4 * 1 + 3) with
              | false => rfl
              | true => have := hI.ord 1 (by decide) h; exact absurd (hd.symm.trans this) (by decide)
            refine LeadsV.value (v := .slice (some ⟨W'.heap.size, 0, none⟩) 1 1) (w' := W'.alloc (.cells #[.string (pre 111 x).1, .string x.2] 27)) ?_ (hI.build (j := 1) (by decide) h3 hg0)
            simp [go_sem]
          · cases hjo
            have h2 : d (4 * 1 + 2) = true := hwt 6 rfl (by kernel_rfl)
            obtain ⟨g', e', g1, g2, g3⟩ := hI.new 1 (by decide) h2 hd
            have ho : OwnF W' w3.heap.size (.slice p8 fs.length k8) fs := by
              have := hI.own 1 (by decide)
              rw [show d (4 * 1 + 3) = false from hd] at this
              exact this
            refine LeadsV.append_sf _ _ rfl w3.heap.size (.slice p8 fs.length k8) fs rfl ho (some ⟨g', 0, none⟩) 1 1 [pre 111 x] e' g3 (by have := HTL.out; omega) hI.chg.size ?_
            intro v' w' ho' hg' hat'
            exact hI.app (j := 1) (by decide) h2 hd hg0 ho' hg' hat'
          · cases hjo
            have h3 : d (4 * 2 + 3) = false := by
              cases h : d (4 * 2 + 3) with
              | false => rfl
              | true => have := hI.ord 2 (by decide) h; exact absurd (hd.symm.trans this) (by decide)
            refine LeadsV.value (v := .slice (some ⟨W'.heap.size, 0, none⟩) 1 1) (w' := W'.alloc (.cells #[.string (pre 111 x).1, .string x.2] 27)) ?_ (hI.build (j := 2) (by decide) h3 hg0)
            simp [go_sem]
          · cases hjo
            have h2 : d (4 * 2 + 2) = true := hwt 10 rfl (by kernel_rfl)
            obtain ⟨g', e', g1, g2, g3⟩ := hI.new 2 (by decide) h2 hd
            have ho : OwnF W' w3.heap.size (.slice p9 fs.length k9) fs := by
              have := hI.own 2 (by decide)
              rw [show d (4 * 2 + 3) = false from hd] at this
              exact this
            refine LeadsV.append_sf _ _ rfl w3.heap.size (.slice p9 fs.length k9) fs rfl ho (some ⟨g', 0, none⟩) 1 1 [pre 111 x] e' g3 (by have := HTL.out; omega) hI.chg.size ?_
            intro v' w' ho' hg' hat'
            exact hI.app (j := 2) (by decide) h2 hd hg0 ho' hg' hat'
        · intro d W' hall hI
          have d3 : d 3 = true := hall 3 rfl (by simp)
          have d7 : d 7 = true := hall 7 rfl (by simp)
          have d11 : d 11 = true := hall 11 rfl (by simp)
          have z7 := hI.own 0 (by decide)
          have z8 := hI.own 1 (by decide)
          have z9 := hI.own 2 (by decide)
          simp only [Nat.reduceMul, Nat.reduceAdd, d3, d7, d11, if_true] at z7 z8 z9
          have a1 := hI.apart 0 1 (by decide) (by decide) (by decide)
          have a2 := hI.apart 0 2 (by decide) (by decide) (by decide)
          have a3 := hI.apart 1 2 (by decide) (by decide) (by decide)
          have HAp2 : Hid ((∀ q, (u 3).ownBlock = some q → ¬ (u 7).ownBlock = some q) ∧ (∀ q, (u 3).ownBlock = some q → ¬ (u 11).ownBlock = some q) ∧ (∀ q, (u 7).ownBlock = some q → ¬ (u 11).ownBlock = some q)) :=
            ⟨fun q h1 h2 => a1 q (.inl (by simp only [Nat.reduceMul, Nat.reduceAdd, d3, if_true]; exact h1)) (.inl (by simp only [Nat.reduceMul, Nat.reduceAdd, d7, if_true]; exact h2)),
             fun q h1 h2 => a2 q (.inl (by simp only [Nat.reduceMul, Nat.reduceAdd, d3, if_true]; exact h1)) (.inl (by simp only [Nat.reduceMul, Nat.reduceAdd, d11, if_true]; exact h2)),
             fun q h1 h2 => a3 q (.inl (by simp only [Nat.reduceMul, Nat.reduceAdd, d7, if_true]; exact h1)) (.inl (by simp only [Nat.reduceMul, Nat.reduceAdd, d11, if_true]; exact h2))⟩
          have cE := hI.chg
          clear hI hall hS a1 a2 a3 q0 q1 hany2 d3 d7 d11
          gi_wp2
          refine ⟨⟨k + 1, hlt, by go_num, by rw [HTS.out]; exact z7, by rw [HTS.out]; exact z8, by rw [HTS.out]; exact z9, HAp2, cE⟩, by simp [intOf]; omega⟩
    · obtain rfl : k = n0 := by omega
      have hlt' : ¬ (k : Int) < (k : Int) := by omega
      rw [List.take_of_length_le (by rw [HN0.out]; exact Nat.le_refl _)] at x7 x8 x9
      have HOL0 : (o.map (pre 111)).length ≤ 14 := by rw [List.length_map, HN0.out]; omega
      obtain ⟨OO, HOO⟩ : ∃ OO, Hid (o.map (pre 111) = OO) := ⟨_, rfl⟩
      rw [HOO.out] at x7 x8 x9 HOL0
      have HOL : Hid (OO.length ≤ 14) := HOL0
      clear HOL0
      obtain ⟨p7, k7, rfl⟩ := x7.slice
      obtain ⟨p8, k8, rfl⟩ := x8.slice
      obtain ⟨p9, k9, rfl⟩ := x9.slice
      have s7a := x7.sl
      have s8a := x8.sl
      have s9a := x9.sl
      have ha4 := ha3.no c
      have hb4 := hb3.no c
      have cr := Chg.seq c03 c
      clear x7 x8 x9 HAp ho3 ha3 hb3 hlt c03 c
      gi_wp2_with (gi_at_builtin; refine wpListIn_append_sf _ rfl _ _ rfl wr.heap.size _ [] rfl (OwnF.nil _ _) p7 OO.length k7 OO rfl s7a (by have := HOL.out; simp only [List.length_nil]; omega) (Nat.le_refl _) ?_; intro v12 wL hown hgrow _; have cL : Chg No wr wL := (Chg.refl _ wr).grown hgrow (fun k e => by cases e); have r12 : OwnF wL wr.heap.size v12 OO := hown; clear hown hgrow; obtain ⟨p12, k12, rfl⟩ := r12.slice)
      have s12 := r12.sl
      have s7b := s7a.no cL
      have s8b := s8a.no cL
      have s9b := s9a.no cL
      have ha5 := ha4.no cL
      have hb5 := hb4.no cL
      have crL := Chg.seq cr cL
      clear s7a s8a s9a ha4 hb4 cr cL r12
      generalize wr = wq at *
      have hin := ha5
      have HX0 : Hid (OO.length ≤ 100) := by have := HOL.out; show _ ≤ _; omega
      have HB0 := HX0
      gi_wp2
      gi_loopw [7, 9, 13] (fun sx s9 si wr => ∃ k : Nat, k ≤ n1 ∧ si = .int .i64 (k : Int) ∧ SlF wr sx (putsP OO ((a.take k).map (pre 97))) ∧ SlF wr s9 (putsP OO ((a.take k).map (pre 97))) ∧ Chg No wL wr) (fun _ _ si _ => n1 - (intOf si).toNat)
      case atStart => exact ⟨0, Nat.zero_le _, rfl, s7b, s9b, Chg.refl _ _⟩
      case round =>
        obtain ⟨k, hk, rfl, x7, x9, c⟩ := hrel
        by_cases hlt : k < n1
        · have hlt' : (k : Int) < (n1 : Int) := by omega
          have hko : k < a.length := by rw [HN1.out]; exact hlt
          obtain ⟨x, hx⟩ : ∃ x, a[k]? = some x := ⟨_, List.getElem?_eq_getElem hko⟩
          have HT1 : Hid (putsP OO ((a.take (k + 1)).map (pre 97)) = put (putsP OO ((a.take k).map (pre 97))) (pre 97 x).1 x.2) := by show _ = _; rw [List.take_add_one, hx, List.map_append]; exact putsP_snoc _ _ _
          have HT2 : Hid (putsP OO ((a.take (k + 1)).map (pre 97)) = put (putsP OO ((a.take k).map (pre 97))) (pre 97 x).1 x.2) := by show _ = _; rw [List.take_add_one, hx, List.map_append]; exact putsP_snoc _ _ _
          have HL1 : Hid ((putsP OO ((a.take k).map (pre 97))).length ≤ 50000) := by
            have h1 := putsP_len ((a.take k).map (pre 97)) (OO)
            rw [List.length_map, List.length_take] at h1
            have h2 := HX0.out
            show _ ≤ _
            omega
          have HL2 : Hid ((putsP OO ((a.take k).map (pre 97))).length ≤ 50000) := by
            have h1 := putsP_len ((a.take k).map (pre 97)) (OO)
            rw [List.length_map, List.length_take] at h1
            have h2 := HB0.out
            show _ ≤ _
            omega
          have hxs := fa.2 x (List.mem_of_getElem? hx)
          obtain ⟨b1, o1, rfl, hc1, hc2⟩ := SlF.at (hin.no c) k x hx
          generalize putsP OO ((a.take k).map (pre 97)) = fx at x7 HT1 HL1
          generalize putsP OO ((a.take k).map (pre 97)) = fb at x9 HT2 HL2
          obtain ⟨p7', k7', rfl, _, _⟩ := x7.slice
          obtain ⟨p9', k9', rfl, _, _⟩ := x9.slice
          have hany := After.any wr
          have f0 : ∀ c : After wr, c.val.cell? ⟨b1, o1 + k * 2, none⟩ = some (.string x.1) := fun c => c.cell hc1
          have f1 : ∀ c : After wr, c.val.cell? ⟨b1, o1 + k * 2 + 1, none⟩ = some (.string x.2) := fun c => c.cell hc2
          clear hx hko hc1 hc2
          have hsz : (ByteArray.mk #[97] ++ x.1).size = 1 + x.1.size := by rw [ByteArray.size_append]; rfl
          have HPe : Hid (ByteArray.mk #[97] ++ x.1 = (pre 97 x).1) := pre_eq 97 x
          gi_wp2
          refine region_loudG (fun i => i == 12 || i == 13) (fun w' => ∃ c : After wr, w' = c.val) (BoxInv wr (ByteArray.mk #[97] ++ x.1, x.2)) (fun _ => .pointer (some ⟨0, 0, none⟩)) hmix (by kernel_rfl) (by kernel_rfl) (fun d u W h => ⟨⟨W, h.chg⟩, rfl⟩)
            ⟨(Chg.refl _ wr).drew, ⟨0, rfl⟩, fun h => (by cases h), fun h => (by cases h)⟩ (fun u hu => ?_)
          obtain ⟨_, _, hu⟩ := hu
          obtain ⟨g, e12⟩ := hu.v12
          clear hu
          simp only [hushE, Nat.reduceAdd, Nat.reduceBEq, Bool.or_self, Bool.or_true, Bool.or_false, if_true, if_false, Bool.false_eq_true]
          rw [e12]
          repeat (gi_big_quiet_step (fail))
          refine wpQuietIn_nil ⟨?_, ?_, ?_⟩
          · intro i oo ho hm
            simp only [Bool.or_eq_true, beq_iff_eq] at hm
            rcases hm with rfl | rfl
            all_goals (cases ho; rfl)
          · intro i oo d W hjo hm hd hwt hI
            simp only [Bool.or_eq_true, beq_iff_eq] at hm
            rcases hm with rfl | rfl
            · cases hjo
              have h13 : d 13 = false := by
                cases h : d 13 with
                | false => rfl
                | true => have := hI.o13 h; rw [hd] at this; cases this
              refine LeadsV.value (v := .pointer (some ⟨W.heap.size, 0, none⟩)) (w' := W.alloc (.cells #[.string ⟨#[]⟩, .string ⟨#[]⟩] 27)) ?_ ?_
              · simp [go_sem]
              · exact hI.made h13
            · cases hjo
              obtain ⟨g', e', hg1, hg2⟩ := hI.b12 (hwt 12 rfl (by kernel_rfl))
              rw [e12] at e'
              cases e'
              simp only [hd, Bool.false_eq_true, if_false] at hg2
              have k1 : W.cell? ⟨g, 0, none⟩ = some (.string ⟨#[]⟩) := by simp [World.cell?, hg2]
              have k2 : W.cell? ⟨g, 1, none⟩ = some (.string ⟨#[]⟩) := by simp [World.cell?, hg2]
              have z1 : W.frozen? ⟨g, 0, none⟩ = false := by simp [World.frozen?, hg2]
              have z2 : W.frozen? ⟨g, 1, none⟩ = false := by simp [World.frozen?, hg2]
              refine LeadsV.skip (w' := (W.setCell ⟨g, 0, none⟩ (.string (ByteArray.mk #[97] ++ x.1))).setCell ⟨g, 1, none⟩ (.string x.2)) ?_ ?_
              · simp [go_sem, k1, k2, z1, z2]
              · exact hI.filled hg1 hg2 e12 (hwt 12 rfl (by kernel_rfl)) undef
          · intro d W hall hI
            obtain ⟨g', e', hg1, hg2⟩ := hI.b12 (hall 12 rfl (by simp))
            rw [e12] at e'
            cases e'
            rw [if_pos (hall 13 rfl (by simp)), HPe.out] at hg2
            have cW := hI.chg
            clear hI hall e12
            have ccW := Chg.seq c cW
            have y7 := x7.no cW
            have y9 := x9.no cW
            have hq0 : W.cell? ⟨g, 0, none⟩ = some (.string (pre 97 x).1) := by simp [World.cell?, hg2]
            have hq1 : W.cell? ⟨g, 1, none⟩ = some (.string x.2) := by simp [World.cell?, hg2]
            have hany2 := After.any W
            have q0 : ∀ c : After W, c.val.cell? ⟨g, 0, none⟩ = some (.string (pre 97 x).1) := fun c => c.cell hq0
            have q1 : ∀ c : After W, c.val.cell? ⟨g, 1, none⟩ = some (.string x.2) := fun c => c.cell hq1
            clear f0 f1 hany hq0 hq1 hg2 x7 x9
            gi_wp2
            refine region_loudG (fun i => i == 5 || i == 11) (fun w' => ∃ c : After W, w' = c.val) (PutInv2 W (put fx (pre 97 x).1 x.2) (put fb (pre 97 x).1 x.2)) (fun _ => .slice none 0 0) hmix (by kernel_rfl) (by kernel_rfl) (fun d u W' h => ⟨⟨W', h.chg⟩, rfl⟩) ⟨(Chg.refl _ W).drew, fun h => (by cases h), fun h => (by cases h)⟩ (fun u hu => ?_)
            clear hu
            simp only [hushE, Nat.reduceAdd, Nat.reduceBEq, Bool.or_self, Bool.or_true, Bool.or_false, if_true, if_false, Bool.false_eq_true]
            repeat (gi_big_quiet_step (fail))
            refine wpQuietIn_nil ⟨?_, ?_, ?_⟩
            · intro i oo ho hm
              simp only [Bool.or_eq_true, beq_iff_eq] at hm
              rcases hm with rfl | rfl
              all_goals (cases ho; rfl)
            · intro i oo d W' hjo hm hd hwt hI
              simp only [Bool.or_eq_true, beq_iff_eq] at hm
              rcases hm with rfl | rfl
              · cases hjo
                refine LeadsV.call (f := 10) (args := #[.slice p7' fx.length k7', .string (pre 97 x).1, .string x.2]) (by simp [go_sem]) ((put_in (.slice p7' fx.length k7') fx (pre 97 x).1 x.2 HL1.out W' (y7.no hI.chg)).mono ?_)
                rintro e W5 ⟨v', rfl, r', c'⟩
                exact ⟨v', rfl, hI.s5 r'.sl c'⟩
              · cases hjo
                refine LeadsV.call (f := 10) (args := #[.slice p9' fb.length k9', .string (pre 97 x).1, .string x.2]) (by simp [go_sem]) ((put_in (.slice p9' fb.length k9') fb (pre 97 x).1 x.2 HL2.out W' (y9.no hI.chg)).mono ?_)
                rintro e W5 ⟨v', rfl, r', c'⟩
                exact ⟨v', rfl, hI.s11 r'.sl c'⟩
            · intro d W' hall hI
              have z5 := hI.f5 (hall 5 rfl (by simp))
              have z11 := hI.f11 (hall 11 rfl (by simp))
              have cE := Chg.seq ccW hI.chg
              clear hI hall q0 q1 hany2
              gi_wp2
              refine ⟨⟨k + 1, hlt, by go_num, by rw [HT1.out]; exact z5, by rw [HT2.out]; exact z11, cE⟩, by simp [intOf]; omega⟩
        · obtain rfl : k = n1 := by omega
          have hlt' : ¬ (k : Int) < (k : Int) := by omega
          rw [List.take_of_length_le (by rw [HN1.out]; exact Nat.le_refl _)] at x7 x9
          have HXL : Hid ((putsP OO (a.map (pre 97))).length ≤ 50) := by
            have h1 := putsP_len (a.map (pre 97)) OO
            rw [List.length_map, HN1.out] at h1
            have := HOL.out
            show _ ≤ _
            omega
          obtain ⟨XX, HXX⟩ : ∃ XX, Hid (putsP OO (a.map (pre 97)) = XX) := ⟨_, rfl⟩
          rw [HXX.out] at x7 x9 HXL
          obtain ⟨p7', k7', rfl, _, _⟩ := x7.slice
          have s8c := s8b.no c
          have s12d := s12.no c
          have s7d := x7
          have hin := hb5.no c
          have crM := Chg.seq crL c
          have HX0 : Hid (OO.length ≤ 100) := by have := HOL.out; show _ ≤ _; omega
          have HB0 : Hid (XX.length ≤ 100) := by have := HXL.out; show _ ≤ _; omega
          clear s7b s8b s9b s12 ha5 hb5 crL c hlt x7
          gi_wp2
          generalize wr = wm at *
          gi_loopw [8, 9, 15] (fun sx s9 si wr => ∃ k : Nat, k ≤ n2 ∧ si = .int .i64 (k : Int) ∧ SlF wr sx (putsP OO ((b.take k).map (pre 98))) ∧ SlF wr s9 (putsP XX ((b.take k).map (pre 98))) ∧ Chg No wm wr) (fun _ _ si _ => n2 - (intOf si).toNat)
          case atStart => exact ⟨0, Nat.zero_le _, rfl, s8c, x9, Chg.refl _ _⟩
          case round =>
            obtain ⟨k, hk, rfl, x7, x9, c⟩ := hrel
            by_cases hlt : k < n2
            · have hlt' : (k : Int) < (n2 : Int) := by omega
              have hko : k < b.length := by rw [HN2.out]; exact hlt
              obtain ⟨x, hx⟩ : ∃ x, b[k]? = some x := ⟨_, List.getElem?_eq_getElem hko⟩
              have HT1 : Hid (putsP OO ((b.take (k + 1)).map (pre 98)) = put (putsP OO ((b.take k).map (pre 98))) (pre 98 x).1 x.2) := by show _ = _; rw [List.take_add_one, hx, List.map_append]; exact putsP_snoc _ _ _
              have HT2 : Hid (putsP XX ((b.take (k + 1)).map (pre 98)) = put (putsP XX ((b.take k).map (pre 98))) (pre 98 x).1 x.2) := by show _ = _; rw [List.take_add_one, hx, List.map_append]; exact putsP_snoc _ _ _
              have HL1 : Hid ((putsP OO ((b.take k).map (pre 98))).length ≤ 50000) := by
                have h1 := putsP_len ((b.take k).map (pre 98)) (OO)
                rw [List.length_map, List.length_take] at h1
                have h2 := HX0.out
                show _ ≤ _
                omega
              have HL2 : Hid ((putsP XX ((b.take k).map (pre 98))).length ≤ 50000) := by
                have h1 := putsP_len ((b.take k).map (pre 98)) (XX)
                rw [List.length_map, List.length_take] at h1
                have h2 := HB0.out
                show _ ≤ _
                omega
              have hxs := fb.2 x (List.mem_of_getElem? hx)
              obtain ⟨b1, o1, rfl, hc1, hc2⟩ := SlF.at (hin.no c) k x hx
              generalize putsP OO ((b.take k).map (pre 98)) = fx at x7 HT1 HL1
              generalize putsP XX ((b.take k).map (pre 98)) = fb at x9 HT2 HL2
              obtain ⟨p7', k7', rfl, _, _⟩ := x7.slice
              obtain ⟨p9', k9', rfl, _, _⟩ := x9.slice
              have hany := After.any wr
              have f0 : ∀ c : After wr, c.val.cell? ⟨b1, o1 + k * 2, none⟩ = some (.string x.1) := fun c => c.cell hc1
              have f1 : ∀ c : After wr, c.val.cell? ⟨b1, o1 + k * 2 + 1, none⟩ = some (.string x.2) := fun c => c.cell hc2
              clear hx hko hc1 hc2
              have hsz : (ByteArray.mk #[98] ++ x.1).size = 1 + x.1.size := by rw [ByteArray.size_append]; rfl
              have HPe : Hid (ByteArray.mk #[98] ++ x.1 = (pre 98 x).1) := pre_eq 98 x
              gi_wp2
              refine region_loudG (fun i => i == 12 || i == 13) (fun w' => ∃ c : After wr, w' = c.val) (BoxInv wr (ByteArray.mk #[98] ++ x.1, x.2)) (fun _ => .pointer (some ⟨0, 0, none⟩)) hmix (by kernel_rfl) (by kernel_rfl) (fun d u W h => ⟨⟨W, h.chg⟩, rfl⟩)
                ⟨(Chg.refl _ wr).drew, ⟨0, rfl⟩, fun h => (by cases h), fun h => (by cases h)⟩ (fun u hu => ?_)
              obtain ⟨_, _, hu⟩ := hu
              obtain ⟨g, e12⟩ := hu.v12
              clear hu
              simp only [hushE, Nat.reduceAdd, Nat.reduceBEq, Bool.or_self, Bool.or_true, Bool.or_false, if_true, if_false, Bool.false_eq_true]
              rw [e12]
              repeat (gi_big_quiet_step (fail))
              refine wpQuietIn_nil ⟨?_, ?_, ?_⟩
              · intro i oo ho hm
                simp only [Bool.or_eq_true, beq_iff_eq] at hm
                rcases hm with rfl | rfl
                all_goals (cases ho; rfl)
              · intro i oo d W hjo hm hd hwt hI
                simp only [Bool.or_eq_true, beq_iff_eq] at hm
                rcases hm with rfl | rfl
                · cases hjo
                  have h13 : d 13 = false := by
                    cases h : d 13 with
                    | false => rfl
                    | true => have := hI.o13 h; rw [hd] at this; cases this
                  refine LeadsV.value (v := .pointer (some ⟨W.heap.size, 0, none⟩)) (w' := W.alloc (.cells #[.string ⟨#[]⟩, .string ⟨#[]⟩] 27)) ?_ ?_
                  · simp [go_sem]
                  · exact hI.made h13
                · cases hjo
                  obtain ⟨g', e', hg1, hg2⟩ := hI.b12 (hwt 12 rfl (by kernel_rfl))
                  rw [e12] at e'
                  cases e'
                  simp only [hd, Bool.false_eq_true, if_false] at hg2
                  have k1 : W.cell? ⟨g, 0, none⟩ = some (.string ⟨#[]⟩) := by simp [World.cell?, hg2]
                  have k2 : W.cell? ⟨g, 1, none⟩ = some (.string ⟨#[]⟩) := by simp [World.cell?, hg2]
                  have z1 : W.frozen? ⟨g, 0, none⟩ = false := by simp [World.frozen?, hg2]
                  have z2 : W.frozen? ⟨g, 1, none⟩ = false := by simp [World.frozen?, hg2]
                  refine LeadsV.skip (w' := (W.setCell ⟨g, 0, none⟩ (.string (ByteArray.mk #[98] ++ x.1))).setCell ⟨g, 1, none⟩ (.string x.2)) ?_ ?_
                  · simp [go_sem, k1, k2, z1, z2]
                  · exact hI.filled hg1 hg2 e12 (hwt 12 rfl (by kernel_rfl)) undef
              · intro d W hall hI
                obtain ⟨g', e', hg1, hg2⟩ := hI.b12 (hall 12 rfl (by simp))
                rw [e12] at e'
                cases e'
                rw [if_pos (hall 13 rfl (by simp)), HPe.out] at hg2
                have cW := hI.chg
                clear hI hall e12
                have ccW := Chg.seq c cW
                have y7 := x7.no cW
                have y9 := x9.no cW
                have hq0 : W.cell? ⟨g, 0, none⟩ = some (.string (pre 98 x).1) := by simp [World.cell?, hg2]
                have hq1 : W.cell? ⟨g, 1, none⟩ = some (.string x.2) := by simp [World.cell?, hg2]
                have hany2 := After.any W
                have q0 : ∀ c : After W, c.val.cell? ⟨g, 0, none⟩ = some (.string (pre 98 x).1) := fun c => c.cell hq0
                have q1 : ∀ c : After W, c.val.cell? ⟨g, 1, none⟩ = some (.string x.2) := fun c => c.cell hq1
                clear f0 f1 hany hq0 hq1 hg2 x7 x9
                gi_wp2
                refine region_loudG (fun i => i == 5 || i == 11) (fun w' => ∃ c : After W, w' = c.val) (PutInv2 W (put fx (pre 98 x).1 x.2) (put fb (pre 98 x).1 x.2)) (fun _ => .slice none 0 0) hmix (by kernel_rfl) (by kernel_rfl) (fun d u W' h => ⟨⟨W', h.chg⟩, rfl⟩) ⟨(Chg.refl _ W).drew, fun h => (by cases h), fun h => (by cases h)⟩ (fun u hu => ?_)
                clear hu
                simp only [hushE, Nat.reduceAdd, Nat.reduceBEq, Bool.or_self, Bool.or_true, Bool.or_false, if_true, if_false, Bool.false_eq_true]
                repeat (gi_big_quiet_step (fail))
                refine wpQuietIn_nil ⟨?_, ?_, ?_⟩
                · intro i oo ho hm
                  simp only [Bool.or_eq_true, beq_iff_eq] at hm
                  rcases hm with rfl | rfl
                  all_goals (cases ho; rfl)
                · intro i oo d W' hjo hm hd hwt hI
                  simp only [Bool.or_eq_true, beq_iff_eq] at hm
                  rcases hm with rfl | rfl
                  · cases hjo
                    refine LeadsV.call (f := 10) (args := #[.slice p7' fx.length k7', .string (pre 98 x).1, .string x.2]) (by simp [go_sem]) ((put_in (.slice p7' fx.length k7') fx (pre 98 x).1 x.2 HL1.out W' (y7.no hI.chg)).mono ?_)
                    rintro e W5 ⟨v', rfl, r', c'⟩
                    exact ⟨v', rfl, hI.s5 r'.sl c'⟩
                  · cases hjo
                    refine LeadsV.call (f := 10) (args := #[.slice p9' fb.length k9', .string (pre 98 x).1, .string x.2]) (by simp [go_sem]) ((put_in (.slice p9' fb.length k9') fb (pre 98 x).1 x.2 HL2.out W' (y9.no hI.chg)).mono ?_)
                    rintro e W5 ⟨v', rfl, r', c'⟩
                    exact ⟨v', rfl, hI.s11 r'.sl c'⟩
                · intro d W' hall hI
                  have z5 := hI.f5 (hall 5 rfl (by simp))
                  have z11 := hI.f11 (hall 11 rfl (by simp))
                  have cE := Chg.seq ccW hI.chg
                  clear hI hall q0 q1 hany2
                  gi_wp2
                  refine ⟨⟨k + 1, hlt, by go_num, by rw [HT1.out]; exact z5, by rw [HT2.out]; exact z11, cE⟩, by simp [intOf]; omega⟩
            · obtain rfl : k = n2 := by omega
              have hlt' : ¬ (k : Int) < (k : Int) := by omega
              rw [List.take_of_length_le (by rw [HN2.out]; exact Nat.le_refl _)] at x7 x9
              have HYL : Hid ((putsP OO (b.map (pre 98))).length ≤ 50) := by
                have h1 := putsP_len (b.map (pre 98)) OO
                rw [List.length_map, HN2.out] at h1
                have := HOL.out
                show _ ≤ _
                omega
              have HBL : Hid ((putsP XX (b.map (pre 98))).length ≤ 1000000) := by
                have h1 := putsP_len (b.map (pre 98)) XX
                rw [List.length_map, HN2.out] at h1
                have := HXL.out
                show _ ≤ _
                omega
              obtain ⟨YY, HYY⟩ : ∃ YY, Hid (putsP OO (b.map (pre 98)) = YY) := ⟨_, rfl⟩
              obtain ⟨BB, HBB⟩ : ∃ BB, Hid (putsP XX (b.map (pre 98)) = BB) := ⟨_, rfl⟩
              rw [HYY.out] at x7 HYL
              rw [HBB.out] at x9 HBL
              obtain ⟨px, kx, rfl, _, _⟩ := x7.slice
              obtain ⟨pb, kb, rfl, _, _⟩ := x9.slice
              have s7e := s7d.no c
              have s12e := s12d.no c
              have cE := Chg.seq crM c
              have sm0 : Small OO := by rw [← HOO.out]; exact pre_small HT3.out.1
              have smX : Small XX := by rw [← HXX.out]; exact sm0.puts (pre_small HT3.out.2.1)
              have smY : Small YY := by rw [← HYY.out]; exact sm0.puts (pre_small HT3.out.2.2)
              have la0 : OO.length ≤ 14 := HOL.out
              have laX : XX.length ≤ 50 := HXL.out
              have laY : YY.length ≤ 50 := HYL.out
              have hbl : BB.length ≤ 1000000 := HBL.out
              have HSum : Hid (a.length + b.length + o.length ≤ 12) := by
                show _ ≤ _
                rw [HN0.out, HN1.out, HN2.out]
                omega
              have HOF : Hid (may3 OO XX YY = true → ofJ OO XX YY = (BB, [])) := by
                rw [← HBB.out, ← HYY.out, ← HXX.out, ← HOO.out]
                exact fun h => apart_of HT3.out.1.once HT3.out.2.1.once HT3.out.2.2.once h HSum.out
              have J1 := fun W h1 h2 h3 => J.of (.slice p12 OO.length k12) (.slice p7' XX.length k7') (.slice px YY.length kx) _ _ _ W h1 h2 h3 ⟨by omega, sm0⟩ ⟨laX, smX⟩ ⟨laY, smY⟩
              have M1 := may_in (.slice p12 OO.length k12) OO (fun f hf => by have := (sm0 f hf).1; omega) wr s12e
              have M2 := fun W h => may_in (.slice p7' XX.length k7') XX (fun f hf => by have := (smX f hf).1; omega) W h
              have M3 := fun W h => may_in (.slice px YY.length kx) YY (fun f hf => by have := (smY f hf).1; omega) W h
              unfold may3 at HOF
              generalize mayB OO = m1 at M1 HOF
              generalize mayB XX = m2 at M2 HOF
              generalize mayB YY = m3 at M3 HOF
              clear sm0 smX smY la0 laX laY HX0 HB0 hin s7d s12d crM c
              gi_wp2_with fail
              refine ⟨trivial, rfl, M1.mono ?_⟩
              rintro e z1 ⟨rfl, d1⟩
              cases m1 with
              | false =>
                gi_wp2_with fail
                refine ⟨trivial, ?_⟩
                rename_i hKK
                apply hKK
                gi_wp2_with fail
                refine ⟨trivial, ?_⟩
                rename_i hKK
                apply hKK
                gi_wp2_with fail
                refine ⟨trivial, rfl, (awake_in J _).mono ?_⟩
                rintro e9 w9 ⟨rfl, c9⟩
                gi_wp2
                go_ret
                exact ⟨rfl, Chg.seq cE (Chg.seq d1 c9)⟩
              | true =>
              gi_wp2_with fail
              refine ⟨trivial, rfl, (M2 _ (s7e.no d1)).mono ?_⟩
              rintro e z2 ⟨rfl, d2⟩
              have d12 := Chg.seq d1 d2
              cases m2 with
              | false =>
                gi_wp2_with fail
                refine ⟨trivial, ?_⟩
                rename_i hKK
                apply hKK
                gi_wp2_with fail
                refine ⟨trivial, rfl, (awake_in J _).mono ?_⟩
                rintro e9 w9 ⟨rfl, c9⟩
                gi_wp2
                go_ret
                exact ⟨rfl, Chg.seq cE (Chg.seq d12 c9)⟩
              | true =>
              gi_wp2_with fail
              refine ⟨trivial, rfl, (M3 _ (x7.no d12)).mono ?_⟩
              rintro e z3 ⟨rfl, d3⟩
              have d13 := Chg.seq d12 d3
              cases m3 with
              | false =>
                gi_wp2_with fail
                refine ⟨trivial, rfl, (awake_in J _).mono ?_⟩
                rintro e9 w9 ⟨rfl, c9⟩
                gi_wp2
                go_ret
                exact ⟨rfl, Chg.seq cE (Chg.seq d13 c9)⟩
              | true =>
              rw [HOF.out rfl] at J1
              gi_wp2_with fail
              refine ⟨trivial, rfl, (J1 _ (s12e.no d13) (s7e.no d13) (x7.no d13)).mono ?_⟩
              rintro e z4 ⟨v4, x4, rfl, r4, t4, d4⟩
              obtain ⟨q4, j4, rfl⟩ := row_slice t4
              have S1 := sameF_in v4 (.slice pb BB.length kb) BB BB z4 r4.sl (x9.no (Chg.seq d13 d4)) hbl
              rw [decide_eq_true rfl] at S1
              gi_wp2_with fail
              refine ⟨trivial, rfl, S1.mono ?_⟩
              rintro e z5 ⟨rfl, d5⟩
              gi_wp2_with fail
              refine ⟨trivial, rfl, (awake_in J _).mono ?_⟩
              rintro e9 w9 ⟨rfl, c9⟩
              gi_wp2
              go_ret
              exact ⟨rfl, Chg.seq cE (Chg.seq d13 (Chg.seq d4 (Chg.seq d5 c9)))⟩

end Go.Proofs.YtndblaemladppabGreatDoor
