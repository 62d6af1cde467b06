/-
  PatchCounts answers true at every two lists of files, and turns nothing that lay.
-/
import Derived.Test.YtndblaemladppaaDoorCAwake
import Derived.Test.YtndblaemladppaaDoorGFile
import Derived.Test.YtndblaemladppaaDoorFMay
import Derived.Test.YtndblaemladppaaDoorRCounts
namespace Go.Proofs.YtndblaemladppaaDoor
open Go.RowKit Go.Shelf Go.SeqLib Go.DiffLib Go.TreeLib
attribute [local go_sem] Oper.semAt_some

set_option maxRecDepth 100000 in
set_option maxHeartbeats 4000000 in
theorem counts_law (p0 : Option Addr) (na ca : Nat) (a : List Fl) (p1 : Option Addr) (nb cb : Nat) (b : List Fl) (w : World) (ha : SlF w (.slice p0 na ca) a) (hna : a.length = na) (hb : SlF w (.slice p1 nb cb) b) (hnb : b.length = nb) :
    CallsIn Fence.wide 0 Tryd.prog 5 #[.slice p0 na ca, .slice p1 nb cb] w fun e w' => e = .returned (.bool true) ∧ Chg No w w' := by
  have HNA : Hid (a.length = na) := hna
  have HNB : Hid (b.length = nb) := hnb
  clear hna hnb
  refine callsIn_of_wp Tryd.func5 rfl trivial ?_
  simp only [Tryd.ntmps5, List.size_toArray, List.length_cons, List.length_nil, Nat.reduceAdd, Nat.reduceSub, Array.replicate_succ, Array.replicate_zero, List.push_toArray, List.append_toArray, List.nil_append, List.cons_append]
  gi_wp2_with fail
  refine ⟨trivial, rfl, (greatF_in (.slice p0 na ca) a 12 _ ha).mono ?_⟩
  rintro e x0 ⟨rfl, rfl⟩
  cases hg : greatF a 12 with
  | true =>
    gi_wp2_with fail
    refine ⟨trivial, ?_⟩
    rename_i hKK
    apply hKK
    gi_wp2_with fail
    refine ⟨trivial, ?_⟩
    rename_i hKK
    apply hKK
    gi_wp2_with fail
    refine ⟨trivial, ?_⟩
    rename_i hKK
    apply hKK
    gi_wp2_with fail
    refine ⟨trivial, rfl, (awake_in _).mono ?_⟩
    rintro e w9 ⟨rfl, c9⟩
    gi_wp2
    go_ret
    exact ⟨rfl, c9⟩
  | false =>
  obtain ⟨hlen0, hsz0⟩ := greatF_false hg
  clear hg
  gi_wp2_with fail
  refine ⟨trivial, rfl, (greatF_in (.slice p1 nb cb) b 12 _ hb).mono ?_⟩
  rintro e x1 ⟨rfl, rfl⟩
  cases hg : greatF b 12 with
  | true =>
    gi_wp2_with fail
    refine ⟨trivial, ?_⟩
    rename_i hKK
    apply hKK
    gi_wp2_with fail
    refine ⟨trivial, ?_⟩
    rename_i hKK
    apply hKK
    gi_wp2_with fail
    refine ⟨trivial, rfl, (awake_in _).mono ?_⟩
    rintro e w9 ⟨rfl, c9⟩
    gi_wp2
    go_ret
    exact ⟨rfl, c9⟩
  | false =>
  obtain ⟨hlen1, hsz1⟩ := greatF_false hg
  clear hg
  gi_wp2_with fail
  refine ⟨trivial, rfl, (may_in (.slice p0 na ca) a (fun f hf => by have := (hsz0 f hf).1; omega) _ ha).mono ?_⟩
  rintro e y0 ⟨rfl, cm0⟩
  cases hm0 : mayB a with
  | false =>
    gi_wp2_with fail
    refine ⟨trivial, ?_⟩
    rename_i hKK
    apply hKK
    gi_wp2_with fail
    refine ⟨trivial, rfl, (awake_in _).mono ?_⟩
    rintro e w9 ⟨rfl, c9⟩
    gi_wp2
    go_ret
    exact ⟨rfl, Chg.seq cm0 c9⟩
  | true =>
  have hT0 := mayB_iff.1 hm0
  clear hm0
  have cg0 := cm0
  gi_wp2_with fail
  refine ⟨trivial, rfl, (may_in (.slice p1 nb cb) b (fun f hf => by have := (hsz1 f hf).1; omega) _ (hb.no cg0)).mono ?_⟩
  rintro e y1 ⟨rfl, cm1⟩
  cases hm1 : mayB b with
  | false =>
    gi_wp2_with fail
    refine ⟨trivial, rfl, (awake_in _).mono ?_⟩
    rintro e w9 ⟨rfl, c9⟩
    gi_wp2
    go_ret
    exact ⟨rfl, Chg.seq (Chg.seq cg0 cm1) c9⟩
  | true =>
  have hT1 := mayB_iff.1 hm1
  clear hm1
  have cg1 := Chg.seq cg0 cm1
  have hOa := hT0.once
  have hOb := hT1.once
  have a1 := ha.no cg1
  have b1 := hb.no cg1
  have hna12 : na ≤ 12 := by have := HNA.out; omega
  have hnb12 : nb ≤ 12 := by have := HNB.out; omega
  have O1 := of_in _ _ a b (by omega) (by omega) y1 a1 b1
  have O2 := fun W h => of_in (.slice none 0 0) (.slice p0 na ca) [] a (by simp) (by omega) W SlE.nil h
  have O3 := fun W h => of_in (.slice p0 na ca) (.slice none 0 0) a [] (by omega) (by simp) W h SlE.nil
  have HE1 : Hid ((ofP a b).countP outC = leftN a b) := of_outs hOa hOb
  have HE2 : Hid ((ofP a b).countP inC = leftN b a) := of_ins hOa hOb
  have HE3 : Hid ((paths [a, b]).length = (ofP a b).length + sameN a b) := (of_same hOa hOb).symm
  have HE4 : Hid ((ofP [] a).length = na) := (of_none hOa).trans HNA.out
  have HE5 : Hid ((ofP a []).length = na) := (of_none2 hOa).trans HNA.out
  have HK : Hid (∀ c ∈ ofP a b, (c.2.1 = true ∨ c.2.2.1 = true) ∧ (c.2.1 = false → c.2.2.2.1 = ⟨#[]⟩) ∧ (c.2.2.1 = false → c.2.2.2.2 = ⟨#[]⟩)) := fun c hc => of_kind hc
  have hdl := ofP_length a b
  have hS12 : sameN a b ≤ 12 := by unfold sameN; exact Nat.le_trans List.countP_le_length hlen0
  have hL12 : leftN a b ≤ 12 := by unfold leftN; exact Nat.le_trans List.countP_le_length hlen0
  have hP12 : leftN b a ≤ 12 := by unfold leftN; exact Nat.le_trans List.countP_le_length hlen1
  generalize ofP a b = d1 at *
  generalize ofP [] a = d2 at *
  generalize ofP a [] = d3 at *
  obtain ⟨n, hn⟩ : ∃ n, d1.length = n := ⟨_, rfl⟩
  have hn24 : n ≤ 24 := by omega
  have HN : Hid (d1.length = n) := hn
  clear hT0 hT1 hOa hOb cg0 cm0 cm1 hn hdl
  rw [HN.out] at HE3
  gi_wp2_with fail
  refine ⟨trivial, rfl, O1.mono ?_⟩
  rintro e z1 ⟨v1, rfl, r1, k1⟩
  obtain ⟨q1, t1, rfl⟩ := OwnC.slice r1
  have s1 := OwnC.sl r1
  rw [HN.out] at s1 ⊢
  have a2 := a1.no k1
  have b2 := b1.no k1
  have cz1 := Chg.seq cg1 k1
  clear O1 r1 a1 b1 k1
  gi_wp2
  gi_loopw [6, 7, 9] (fun s6 s7 s9 wr => ∃ k : Nat, k ≤ na ∧ s9 = .int .i64 (k : Int) ∧ s6 = .int .i64 (((a.take k).countP (fun f => decide (TreeLib.get b f.1 = some f.2)) : Nat) : Int) ∧ s7 = .int .i64 (((a.take k).countP (fun f => (TreeLib.get b f.1).isNone) : Nat) : Int) ∧ Chg No z1 wr) (fun _ _ s9 _ => na - (intOf s9).toNat)
  case atStart => exact ⟨0, Nat.zero_le _, rfl, rfl, rfl, Chg.refl _ _⟩
  case round =>
    obtain ⟨k, hk, rfl, rfl, rfl, c⟩ := hrel
    have m1 := count_le (fun f => decide (TreeLib.get b f.1 = some f.2)) a k
    have m2 := count_le (fun f => (TreeLib.get b f.1).isNone) a k
    by_cases hlt : k < na
    · have hka : k < a.length := by rw [HNA.out]; exact hlt
      have hlt' : (k : Int) < (na : Int) := by omega
      have t1 := count_step (fun f => decide (TreeLib.get b f.1 = some f.2)) hka
      have t2 := count_step (fun f => (TreeLib.get b f.1).isNone) hka
      obtain ⟨x, hx⟩ : ∃ x, a[k] = x := ⟨_, rfl⟩
      rw [hx] at t1 t2
      have HKX : Hid (a[k]? = some x) := by show _ = _; rw [List.getElem?_eq_getElem hka, hx]
      obtain ⟨bb, off, rfl, hc1, hc2⟩ := SlF.at (a2.no c) k x HKX.out
      obtain ⟨n1, hn1⟩ : ∃ n1, (a.take k).countP (fun f => decide (TreeLib.get b f.1 = some f.2)) = n1 := ⟨_, rfl⟩
      obtain ⟨n2, hn2⟩ : ∃ n2, (a.take k).countP (fun f => (TreeLib.get b f.1).isNone) = n2 := ⟨_, rfl⟩
      rw [hn1] at t1 m1 ⊢
      rw [hn2] at t2 m2 ⊢
      have G := get_in (.slice p1 nb cb) b x.1 wr (b2.no c)
      clear hx hn1 hn2
      have b12 : n1 ≤ 12 ∧ n2 ≤ 12 := by omega
      obtain ⟨b121, b122⟩ := b12
      cases hg : TreeLib.get b x.1 with
      | none =>
        have T1 : Hid ((a.take (k + 1)).countP (fun f => decide (TreeLib.get b f.1 = some f.2)) = n1) := by show _ = _; rw [t1, hg]; simp
        have T2 : Hid ((a.take (k + 1)).countP (fun f => (TreeLib.get b f.1).isNone) = n2 + 1) := by show _ = _; rw [t2, hg]; simp
        have hgd : getD b x.1 = ⟨#[]⟩ := by unfold getD; rw [hg]; rfl
        rw [hgd, hg] at G
        clear t1 t2 m1 m2 hg hgd hka
        dsimp only [Option.isSome] at G
        gi_wp2_with fail
        refine ⟨trivial, rfl, G.mono ?_⟩
        rintro e z2 ⟨rfl, c2⟩
        gi_wp2
        refine ⟨⟨k + 1, hlt, by go_num, by rw [T1.out], by rw [T2.out]; go_num, Chg.seq c c2⟩, by simp [intOf]; omega⟩
      | some d =>
        have T2 : Hid ((a.take (k + 1)).countP (fun f => (TreeLib.get b f.1).isNone) = n2) := by show _ = _; rw [t2, hg]; simp
        have hgd : getD b x.1 = d := by unfold getD; rw [hg]; rfl
        rw [hgd, hg] at G
        dsimp only [Option.isSome] at G
        by_cases hd : d = x.2
        · have T1 : Hid ((a.take (k + 1)).countP (fun f => decide (TreeLib.get b f.1 = some f.2)) = n1 + 1) := by show _ = _; rw [t1, hg]; simp [hd]
          have hq : (d.toList == x.2.toList) = true := by rw [hd]; simp
          clear t1 t2 m1 m2 hg hgd hka hd
          gi_wp2_with fail
          refine ⟨trivial, rfl, G.mono ?_⟩
          rintro e z2 ⟨rfl, c2⟩
          obtain ⟨bb', off', e', hc1', hc2'⟩ := SlF.at (a2.no (Chg.seq c c2)) k x HKX.out
          cases e'
          gi_wp2
          refine ⟨⟨k + 1, hlt, by go_num, by rw [T1.out]; go_num, by rw [T2.out], Chg.seq c c2⟩, by simp [intOf]; omega⟩
        · have T1 : Hid ((a.take (k + 1)).countP (fun f => decide (TreeLib.get b f.1 = some f.2)) = n1) := by show _ = _; rw [t1, hg]; simp [hd]
          have hq : (d.toList == x.2.toList) = false := by rw [beq_eq_false_iff_ne]; exact fun e => hd (toList_inj e)
          clear t1 t2 m1 m2 hg hgd hka hd
          gi_wp2_with fail
          refine ⟨trivial, rfl, G.mono ?_⟩
          rintro e z2 ⟨rfl, c2⟩
          obtain ⟨bb', off', e', hc1', hc2'⟩ := SlF.at (a2.no (Chg.seq c c2)) k x HKX.out
          cases e'
          gi_wp2
          refine ⟨⟨k + 1, hlt, by go_num, by rw [T1.out], by rw [T2.out], Chg.seq c c2⟩, by simp [intOf]; omega⟩
    · obtain rfl : k = na := by omega
      have hlt' : ¬ (k : Int) < (k : Int) := by omega
      rw [List.take_of_length_le (by rw [HNA.out]; exact Nat.le_refl _)]
      have HS : Hid (a.countP (fun f => decide (TreeLib.get b f.1 = some f.2)) = sameN a b) := rfl
      have HL : Hid (a.countP (fun f => (TreeLib.get b f.1).isNone) = leftN a b) := rfl
      rw [HS.out, HL.out]
      clear m1 m2
      have a3 := a2.no c
      have b3 := b2.no c
      have s3 := s1.no c
      have cz3 := Chg.seq cz1 c
      clear a2 b2 s1 cz1 c
      generalize sameN a b = S at *
      generalize leftN a b = L at *
      generalize wr = wa at *
      gi_wp2
      gi_loopw [8, 12] (fun s8 s12 wr2 => ∃ k2 : Nat, k2 ≤ nb ∧ s12 = .int .i64 (k2 : Int) ∧ s8 = .int .i64 (((b.take k2).countP (fun f => (TreeLib.get a f.1).isNone) : Nat) : Int) ∧ Chg No wa wr2) (fun _ s12 _ => nb - (intOf s12).toNat)
      case atStart => exact ⟨0, Nat.zero_le _, rfl, rfl, Chg.refl _ _⟩
      case round =>
        obtain ⟨k2, hk2, rfl, rfl, c2⟩ := hrel
        have m2 := count_le (fun f => (TreeLib.get a f.1).isNone) b k2
        by_cases hlt2 : k2 < nb
        · have hkb : k2 < b.length := by rw [HNB.out]; exact hlt2
          have hlt2' : (k2 : Int) < (nb : Int) := by omega
          have t2 := count_step (fun f => (TreeLib.get a f.1).isNone) hkb
          obtain ⟨x, hx⟩ : ∃ x, b[k2] = x := ⟨_, rfl⟩
          rw [hx] at t2
          have HKX : Hid (b[k2]? = some x) := by show _ = _; rw [List.getElem?_eq_getElem hkb, hx]
          obtain ⟨bb, off, rfl, hc1, hc2⟩ := SlF.at (b3.no c2) k2 x HKX.out
          obtain ⟨n2, hn2⟩ : ∃ n2, (b.take k2).countP (fun f => (TreeLib.get a f.1).isNone) = n2 := ⟨_, rfl⟩
          rw [hn2] at t2 m2 ⊢
          have G := get_in (.slice p0 k ca) a x.1 wr (a3.no c2)
          clear hx hn2
          have b122 : n2 ≤ 12 := by omega
          cases hg : TreeLib.get a x.1 with
          | none =>
            have T2 : Hid ((b.take (k2 + 1)).countP (fun f => (TreeLib.get a f.1).isNone) = n2 + 1) := by show _ = _; rw [t2, hg]; simp
            rw [hg] at G
            clear t2 m2 hg hkb
            dsimp only [Option.isSome] at G
            gi_wp2_with fail
            refine ⟨trivial, rfl, G.mono ?_⟩
            rintro e z2 ⟨rfl, c4⟩
            gi_wp2
            refine ⟨⟨k2 + 1, hlt2, by go_num, by rw [T2.out]; go_num, Chg.seq c2 c4⟩, by simp [intOf]; omega⟩
          | some d =>
            have T2 : Hid ((b.take (k2 + 1)).countP (fun f => (TreeLib.get a f.1).isNone) = n2) := by show _ = _; rw [t2, hg]; simp
            rw [hg] at G
            clear t2 m2 hg hkb
            dsimp only [Option.isSome] at G
            gi_wp2_with fail
            refine ⟨trivial, rfl, G.mono ?_⟩
            rintro e z2 ⟨rfl, c4⟩
            gi_wp2
            refine ⟨⟨k2 + 1, hlt2, by go_num, by rw [T2.out], Chg.seq c2 c4⟩, by simp [intOf]; omega⟩
        · obtain rfl : k2 = nb := by omega
          have hlt2' : ¬ (k2 : Int) < (k2 : Int) := by omega
          rw [List.take_of_length_le (by rw [HNB.out]; exact Nat.le_refl _)]
          have HP : Hid (b.countP (fun f => (TreeLib.get a f.1).isNone) = leftN b a) := rfl
          rw [HP.out]
          clear m2
          have a4 := a3.no c2
          have b4 := b3.no c2
          have s4 := s3.no c2
          have cz4 := Chg.seq cz3 c2
          clear a3 b3 s3 cz3 c2
          generalize leftN b a = P at *
          generalize wr = wb at *
          gi_wp2
          gi_loopw [7, 8, 15] (fun s7 s8 s15 wr3 => ∃ k3 : Nat, k3 ≤ n ∧ s15 = .int .i64 (k3 : Int) ∧ s7 = .int .i64 ((L : Int) - (((d1.take k3).countP outC : Nat) : Int)) ∧ s8 = .int .i64 ((P : Int) - (((d1.take k3).countP inC : Nat) : Int)) ∧ wr3 = wb) (fun _ _ s15 _ => n - (intOf s15).toNat)
          case atStart => exact ⟨0, Nat.zero_le _, rfl, by simp, by simp, rfl⟩
          case round =>
            obtain ⟨k3, hk3, rfl, rfl, rfl, rfl⟩ := hrel
            have m1 := count_le outC d1 k3
            have m2 := count_le inC d1 k3
            have hnl := HN.out
            by_cases hlt3 : k3 < n
            · have hkd : k3 < d1.length := by rw [HN.out]; exact hlt3
              have hlt3' : (k3 : Int) < (n : Int) := by omega
              have t1 := count_step outC hkd
              have t2 := count_step inC hkd
              obtain ⟨x, hx⟩ : ∃ x, d1[k3] = x := ⟨_, rfl⟩
              have hk := HK.out x (by rw [← hx]; exact List.getElem_mem hkd)
              rw [hx] at t1 t2
              obtain ⟨bb, off, rfl, hc1, hc2, hc3, hc4, hc5⟩ := SlC.at s4 k3 x (by rw [List.getElem?_eq_getElem hkd, hx])
              obtain ⟨n1, hn1⟩ : ∃ n1, (d1.take k3).countP outC = n1 := ⟨_, rfl⟩
              obtain ⟨n2, hn2⟩ : ∃ n2, (d1.take k3).countP inC = n2 := ⟨_, rfl⟩
              rw [hn1] at t1 m1 ⊢
              rw [hn2] at t2 m2 ⊢
              obtain ⟨p, q1, q2, od, nw⟩ := x
              dsimp only at hk hc1 hc2 hc3 hc4 hc5
              have b121 : n1 ≤ 24 := by omega
              have b122 : n2 ≤ 24 := by omega
              obtain ⟨hk1, hk2', hk3'⟩ := hk
              clear hx hn1 hn2 m1 m2 hnl hkd
              cases q1 with
              | true =>
                cases q2 with
                | true =>
                  have T1 : Hid ((d1.take (k3 + 1)).countP outC = n1) := by show _ = _; rw [t1]; simp [outC]
                  have T2 : Hid ((d1.take (k3 + 1)).countP inC = n2) := by show _ = _; rw [t2]; simp [inC]
                  clear t1 t2 hk1 hk2' hk3'
                  gi_wp2
                  refine ⟨⟨k3 + 1, hlt3, by go_num, by rw [T1.out], by rw [T2.out]; exact ⟨rfl, trivial⟩⟩, by simp [intOf]; omega⟩
                | false =>
                  have T1 : Hid ((d1.take (k3 + 1)).countP outC = n1 + 1) := by show _ = _; rw [t1]; simp [outC]
                  have T2 : Hid ((d1.take (k3 + 1)).countP inC = n2) := by show _ = _; rw [t2]; simp [inC]
                  obtain rfl := hk3' rfl
                  clear t1 t2 hk1 hk2' hk3'
                  gi_wp2
                  refine ⟨⟨k3 + 1, hlt3, by go_num, by rw [T1.out]; congr 1; omega, by rw [T2.out]; exact ⟨rfl, trivial⟩⟩, by simp [intOf]; omega⟩
              | false =>
                cases q2 with
                | true =>
                  have T1 : Hid ((d1.take (k3 + 1)).countP outC = n1) := by show _ = _; rw [t1]; simp [outC]
                  have T2 : Hid ((d1.take (k3 + 1)).countP inC = n2 + 1) := by show _ = _; rw [t2]; simp [inC]
                  obtain rfl := hk2' rfl
                  clear t1 t2 hk1 hk2' hk3'
                  gi_wp2
                  refine ⟨⟨k3 + 1, hlt3, by go_num, by rw [T1.out], by rw [T2.out]; refine ⟨?_, trivial⟩; congr 1; omega⟩, by simp [intOf]; omega⟩
                | false => rcases hk1 with h | h <;> cases h
            · obtain rfl : k3 = n := by omega
              have hlt3' : ¬ (k3 : Int) < (k3 : Int) := by omega
              rw [List.take_of_length_le (by rw [HN.out]; exact Nat.le_refl _), HE1.out, HE2.out]
              clear m1 m2 hnl
              rw [Int.sub_self, Int.sub_self]
              have c0 : Chg No wr (wr.alloc (.cells #[.slice p0 k ca, .slice p1 k2 cb] 22)) := (Chg.refl _ wr).alloc _
              have sp : SlV (wr.alloc (.cells #[.slice p0 k ca, .slice p1 k2 cb] 22)) (.slice (some ⟨wr.heap.size, 0, none⟩) 2 2) [.slice p0 k ca, .slice p1 k2 cb] := SlV.made wr [.slice p0 k ca, .slice p1 k2 cb] 22 (by simp)
              have P1 := paths_in (.slice (some ⟨wr.heap.size, 0, none⟩) 2 2) [(.slice p0 k ca, a), (.slice p1 k2 cb, b)] (wr.alloc (.cells #[.slice p0 k ca, .slice p1 k2 cb] 22)) sp (by
                intro q hq
                rcases List.mem_cons.1 hq with rfl | hq
                · exact a4.no c0
                · rw [List.mem_singleton.1 hq]; exact b4.no c0) (by simp [toldP]; omega)
              rw [show ([(Value.slice p0 k ca, a), (.slice p1 k2 cb, b)].map (·.2)) = [a, b] from rfl, HE3.out] at P1
              generalize (paths [a, b]).map Value.string = pv at P1
              clear sp HE1 HE2 HE3 HK s4 b4
              gi_wp2_with fail
              refine ⟨trivial, rfl, P1.mono ?_⟩
              rintro e z5 ⟨v5, rfl, r5, k5⟩
              obtain ⟨q5, t5, rfl⟩ := row_slice r5
              have k05 := Chg.seq c0 k5
              have a5 := a4.no k05
              have cz5 := Chg.seq cz4 k05
              clear P1 r5 c0 k5 k05 a4 cz4
              gi_wp2_with fail
              refine ⟨trivial, rfl, (O2 _ a5).mono ?_⟩
              rintro e z6 ⟨v6, rfl, r6, k6⟩
              obtain ⟨q6, t6, rfl⟩ := OwnC.slice r6
              rw [HE4.out]
              have a6 := a5.no k6
              clear O2 r6
              gi_wp2_with fail
              refine ⟨trivial, rfl, (O3 _ a6).mono ?_⟩
              rintro e z7 ⟨v7, rfl, r7, k7⟩
              obtain ⟨q7, t7, rfl⟩ := OwnC.slice r7
              rw [HE5.out]
              clear O3 r7
              gi_wp2_with fail
              refine ⟨trivial, rfl, (awake_in _).mono ?_⟩
              rintro e z8 ⟨rfl, k8⟩
              gi_wp2
              go_ret
              exact ⟨rfl, Chg.seq cz5 (Chg.seq k6 (Chg.seq k7 k8))⟩

end Go.Proofs.YtndblaemladppaaDoor
