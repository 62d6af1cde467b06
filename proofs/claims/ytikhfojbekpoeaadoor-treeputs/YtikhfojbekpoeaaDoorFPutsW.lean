/-
  TreePuts answers true at every list of files, path, data and place, and turns nothing that lay.
-/
import Derived.Test.YtikhfojbekpoeaaDoorFAwake
import Derived.Test.YtikhfojbekpoeaaDoorFGet
import Derived.Test.YtikhfojbekpoeaaDoorFLend
import Derived.Test.YtikhfojbekpoeaaDoorLow
namespace Go.TreeLib
open Go
theorem get_put_is {t : List Fl} (h : Once t) (p d : ByteArray) {x : Fl} (hx : x ∈ t) : (get (put t p d) x.1).isSome = true := by
  by_cases e : p = x.1
  · rw [← e, get_put_self]; rfl
  · rw [get_put_other e, h.get hx]; rfl
theorem eqS_true {x y : ByteArray} (h : x = y) : (x.toList == y.toList) = true := by rw [h]; exact beq_self_eq_true _
theorem eqS_false {x y : ByteArray} (h : ¬ x = y) : (x.toList == y.toList) = false := beq_eq_false_iff_ne.2 (fun e => h (toList_inj e))
end Go.TreeLib
namespace Go.Proofs.YtikhfojbekpoeaaDoor
open Go.RowKit Go.Shelf Go.SeqLib Go.DiffLib Go.TreeLib Go.BigFrame
attribute [local go_sem] Oper.semAt_some

set_option maxRecDepth 100000 in
set_option maxHeartbeats 8000000 in
theorem puts_law (p0 : Option Addr) (n cap : Nat) (zs : List Fl) (p d : ByteArray) (at0 : Int) (w : World) (hv : SlF w (.slice p0 n cap) zs) (hn : zs.length = n) (_ : p.size ≤ maxLen) (_ : d.size ≤ maxLen) :
    CallsIn Fence.wide 0 Tryd.prog 4 #[.slice p0 n cap, .string p, .string d, .int .i64 at0] w fun e w' => e = .returned (.bool true) ∧ Chg No w w' := by
  refine callsIn_of_wp Tryd.func4 rfl trivial ?_
  simp only [Tryd.ntmps4, List.size_toArray, List.length_cons, List.length_nil, Nat.reduceAdd, Nat.reduceSub, Array.replicate_succ, Array.replicate_zero, List.push_toArray, List.append_toArray, List.nil_append, List.cons_append]
  gi_wp2_with fail
  refine ⟨trivial, rfl, (greatF_in (.slice p0 n cap) zs 12 w hv).mono ?_⟩
  rintro e w0 ⟨rfl, rfl⟩
  cases hg : greatF zs 12 with
  | true =>
    gi_wp2_with fail
    refine ⟨trivial, ?_⟩
    rename_i hKK
    apply hKK
    gi_wp2_with fail
    refine ⟨trivial, rfl, (awake_in _).mono ?_⟩
    rintro e w1 ⟨rfl, c1⟩
    gi_wp2
    go_ret
    exact ⟨rfl, c1⟩
  | false =>
  obtain ⟨hlen, hsz⟩ := greatF_false hg
  clear hg
  by_cases h1 : 100 < p.size
  · have g1 : (100 : Int) < (p.size : Int) := by omega
    gi_wp2_with fail
    refine ⟨trivial, ?_⟩
    rename_i hKK
    apply hKK
    gi_wp2_with fail
    refine ⟨trivial, rfl, (awake_in _).mono ?_⟩
    rintro e w1 ⟨rfl, c1⟩
    gi_wp2
    go_ret
    exact ⟨rfl, c1⟩
  have g1 : ¬ (100 : Int) < (p.size : Int) := by omega
  by_cases h2 : 400 < d.size
  · have g2 : (400 : Int) < (d.size : Int) := by omega
    gi_wp2_with fail
    refine ⟨trivial, ?_⟩
    rename_i hKK
    apply hKK
    gi_wp2_with fail
    refine ⟨trivial, rfl, (awake_in _).mono ?_⟩
    rintro e w1 ⟨rfl, c1⟩
    gi_wp2
    go_ret
    exact ⟨rfl, c1⟩
  have g2 : ¬ (400 : Int) < (d.size : Int) := by omega
  gi_wp2_with fail
  refine ⟨trivial, rfl, (may_in _ zs (fun f hf => by have := (hsz f hf).1; omega) _ hv).mono ?_⟩
  rintro e w1 ⟨rfl, c1⟩
  cases hm : mayB zs with
  | false =>
    gi_wp2_with fail
    refine ⟨trivial, rfl, (awake_in _).mono ?_⟩
    rintro e w2 ⟨rfl, c2⟩
    gi_wp2
    go_ret
    exact ⟨rfl, Chg.seq c1 c2⟩
  | true =>
  have hT := mayB_iff.1 hm
  have hO := hT.once
  have hdrop : ∀ q, mayB (TreeLib.drop zs q) = true := fun q => mayB_iff.2 (hT.drop q)
  have hv1 := hv.no c1
  gi_wp2_with fail
  refine ⟨trivial, rfl, (put_in _ zs p d (by omega) _ hv1).mono ?_⟩
  rintro e w2 ⟨v2, rfl, r2, c2⟩
  have hlp : (TreeLib.put zs p d).length ≤ 13 := by unfold TreeLib.put; rw [isort_length, List.length_append]; have := (drop_sub zs p).length_le; simp; omega
  have G1 := get_in v2 (TreeLib.put zs p d) p w2 r2.sl
  have eg : getD (TreeLib.put zs p d) p = d := by unfold getD; rw [get_put_self]; rfl
  rw [eg, get_put_self] at G1
  have hss : (some d : Option ByteArray).isSome = true := rfl
  rw [hss] at G1
  have qd := eqS_true (rfl : d = d)
  clear eg hss
  gi_wp2_with fail
  refine ⟨trivial, rfl, G1.mono ?_⟩
  rintro e w3 ⟨rfl, c3⟩
  have c03 := Chg.seq c1 (Chg.seq c2 c3)
  have r3 := r2.sl.no c3
  have hv3 := hv.no c03
  clear G1 c1 c2 c3 r2 hv1 hm g1 g2
  gi_wp2
  gi_loopw [12] (fun i wr => ∃ k : Nat, k ≤ n ∧ i = .int .i64 (k : Int) ∧ Chg No w3 wr) (fun i _ => n - (intOf i).toNat)
  case atStart => exact ⟨0, Nat.zero_le _, rfl, Chg.refl _ _⟩
  case round =>
    obtain ⟨k, hk, rfl, c⟩ := hrel
    by_cases hlt : k < n
    · have hlt' : (k : Int) < (n : Int) := by omega
      have hkl : k < zs.length := by rw [hn]; exact hlt
      obtain ⟨x, hx⟩ : ∃ x, zs[k] = x := ⟨_, rfl⟩
      have hxm : x ∈ zs := by rw [← hx]; exact List.getElem_mem hkl
      have hv4 := hv3.no c
      obtain ⟨b1, o1, rfl, hc1, hc2⟩ := SlF.at hv4 k x (by rw [List.getElem?_eq_getElem hkl, hx])
      have G2 := get_in v2 (TreeLib.put zs p d) x.1 wr (r3.no c)
      rw [get_put_is hO p d hxm] at G2
      gi_wp2_with fail
      refine ⟨trivial, rfl, G2.mono ?_⟩
      rintro e w4 ⟨rfl, c4⟩
      obtain ⟨b2, o2, e2, d1, d2⟩ := SlF.at (hv4.no c4) k x (by rw [List.getElem?_eq_getElem hkl, hx])
      cases e2
      have c' := Chg.seq c c4
      by_cases he : x.1 = p
      · have qe := eqS_true he
        gi_wp2
        go_roundw
        case rel => exact ⟨k + 1, hlt, by go_num, c'⟩
        case measure => simp [intOf]; omega
      · have qe := eqS_false he
        have ex : getD (TreeLib.put zs p d) x.1 = x.2 := by unfold getD; rw [get_put_other (fun e => he e.symm), hO.get hxm]; rfl
        rw [ex]
        have qx := eqS_true (rfl : x.2 = x.2)
        gi_wp2
        go_roundw
        case rel => exact ⟨k + 1, hlt, by go_num, c'⟩
        case measure => simp [intOf]; omega
    · have hlt' : ¬ (k : Int) < (n : Int) := by omega
      have D1 := drop_in v2 (TreeLib.put zs p d) p (by omega) wr (r3.no c)
      rw [drop_put hO.up] at D1
      have hv4 := hv3.no c
      have c04 := Chg.seq c03 c
      clear r3 hv3 c03 c hk hlt
      gi_wp2_with fail
      refine ⟨trivial, rfl, D1.mono ?_⟩
      rintro e w5 ⟨v5, rfl, r5, c5⟩
      have G3 := get_in v5 (TreeLib.drop zs p) p w5 r5.sl
      have en : (TreeLib.get (TreeLib.drop zs p) p).isSome = false := by rw [get_drop_self]; rfl
      rw [en] at G3
      clear D1 en
      gi_wp2_with fail
      refine ⟨trivial, rfl, G3.mono ?_⟩
      rintro e w6 ⟨rfl, c6⟩
      have M6 := may_in v5 (TreeLib.drop zs p) (fun f hf => by have := (hsz f ((drop_sub zs p).subset hf)).1; omega) w6 (r5.sl.no c6)
      rw [hdrop p] at M6
      clear G3
      gi_wp2_with fail
      refine ⟨trivial, rfl, M6.mono ?_⟩
      rintro e w7 ⟨rfl, c7⟩
      have c47 := Chg.seq c5 (Chg.seq c6 c7)
      have D7 := drop_in (.slice p0 n cap) zs p (by omega) w7 (hv4.no c47)
      have r7 := r5.sl.no (Chg.seq c6 c7)
      clear M6 r5 c5 c6 c7
      gi_wp2_with fail
      refine ⟨trivial, rfl, D7.mono ?_⟩
      rintro e w8 ⟨v8, rfl, r8, c8⟩
      have S8 := sameF_in v5 v8 (TreeLib.drop zs p) (TreeLib.drop zs p) w8 (r7.no c8) r8.sl (by have := (drop_sub zs p).length_le; omega)
      rw [decide_eq_true rfl] at S8
      clear D7
      gi_wp2_with fail
      refine ⟨trivial, rfl, S8.mono ?_⟩
      rintro e w9 ⟨rfl, c9⟩
      have c49 := Chg.seq c47 (Chg.seq c8 c9)
      have c09 := Chg.seq c04 c49
      have hv9 := hv4.no c49
      clear S8 r7 r8 c47 c8 c9 c49 c04 hv4
      by_cases hz : n = 0
      · have hz' : ((n : Int) == 0) = true := by subst hz; rfl
        gi_wp2_with fail
        refine ⟨trivial, rfl, (awake_in _).mono ?_⟩
        rintro e w10 ⟨rfl, c10⟩
        gi_wp2
        go_ret
        exact ⟨rfl, Chg.seq c09 c10⟩
      have hz' : ((n : Int) == 0) = false := beq_eq_false_iff_ne.2 (by omega)
      obtain ⟨h0, h25⟩ := lowI_range at0 (n : Int) (by omega) (by omega)
      obtain ⟨m, HM⟩ : ∃ m : Nat, Hid (lowI at0 (n : Int) = (m : Int)) := ⟨(lowI at0 (n : Int)).toNat, by show _ = _; omega⟩
      have hmn : m < n := by have := HM.out; omega
      have L9 := low_in at0 (n : Int) (by omega) (by omega)
      rw [HM.out] at L9
      clear h0 h25 HM
      gi_wp2_with fail
      refine ⟨trivial, rfl, (L9 _).mono ?_⟩
      rintro e w10 ⟨rfl, rfl⟩
      have hml : m < zs.length := by rw [hn]; exact hmn
      obtain ⟨x, hx⟩ : ∃ x, zs[m] = x := ⟨_, rfl⟩
      have hxm : x ∈ zs := by rw [← hx]; exact List.getElem_mem hml
      have hxg : zs[m]? = some x := by rw [List.getElem?_eq_getElem hml, hx]
      obtain ⟨b1, o1, rfl, hc1, hc2⟩ := SlF.at hv9 m x hxg
      have c10 : Chg No w10 (w10.alloc (.cells #[.string x.1, .string x.2] 46)) := (Chg.refl _ w10).alloc _
      have s10 := SlF.one w10 x
      have k0 : (w10.alloc (.cells #[.string x.1, .string x.2] 46)).cell? ⟨w10.heap.size, 0, none⟩ = some (.string x.1) := World.cell?_alloc_at _ _ _ _ rfl
      have k1 : (w10.alloc (.cells #[.string x.1, .string x.2] 46)).cell? ⟨w10.heap.size, 1, none⟩ = some (.string x.2) := World.cell?_alloc_at _ _ _ _ rfl
      have D10 := drop_in (.slice (some ⟨b1, o1, none⟩) n cap) zs x.1 (by omega) (w10.alloc (.cells #[.string x.1, .string x.2] 46)) (hv9.no c10)
      clear L9 hx hxg hml
      gi_wp2_with fail
      refine ⟨trivial, rfl, D10.mono ?_⟩
      rintro e w11 ⟨v11, rfl, r11, c11⟩
      have hL := hO.drop_length hxm
      obtain ⟨p11, k11, rfl⟩ := r11.slice
      have M11 := may_in _ (TreeLib.drop zs x.1) (fun f hf => by have := (hsz f ((drop_sub zs x.1).subset hf)).1; omega) w11 r11.sl
      rw [hdrop x.1] at M11
      have P11 := fun W h => put_in (.slice p11 (TreeLib.drop zs x.1).length k11) (TreeLib.drop zs x.1) x.1 x.2 (by omega) W h
      rw [hO.put_drop hxm] at P11
      have HL : (TreeLib.drop zs x.1).length = n - 1 := by omega
      rw [HL] at M11 P11 r11 ⊢
      have hq : (((n - 1 : Nat) : Int) == (n : Int) - 1) = true := by rw [beq_iff_eq]; omega
      clear D10 hL HL k0 k1 hc1 hc2
      gi_wp2_with fail
      refine ⟨trivial, rfl, M11.mono ?_⟩
      rintro e w12 ⟨rfl, c12⟩
      obtain ⟨b2, o2, e2, d0, d1⟩ := SlF.at ((s10.no c11).no c12) 0 x rfl
      cases e2
      have d0' : w12.cell? ⟨w10.heap.size, 0, none⟩ = some (.string x.1) := by simpa using d0
      have d1' : w12.cell? ⟨w10.heap.size, 1, none⟩ = some (.string x.2) := by simpa using d1
      clear d0 d1
      gi_wp2_with fail
      refine ⟨trivial, rfl, (P11 _ (r11.sl.no c12)).mono ?_⟩
      rintro e w13 ⟨v13, rfl, r13, c13⟩
      have c9d := Chg.seq c10 (Chg.seq c11 (Chg.seq c12 c13))
      have S13 := sameF_in v13 (.slice (some ⟨b1, o1, none⟩) n cap) zs zs w13 r13.sl (hv9.no c9d) (by omega)
      rw [decide_eq_true rfl] at S13
      gi_wp2_with fail
      refine ⟨trivial, rfl, S13.mono ?_⟩
      rintro e w14 ⟨rfl, c14⟩
      gi_wp2_with fail
      refine ⟨trivial, rfl, (awake_in _).mono ?_⟩
      rintro e w15 ⟨rfl, c15⟩
      gi_wp2
      go_ret
      exact ⟨rfl, Chg.seq c09 (Chg.seq c9d (Chg.seq c14 c15))⟩

end Go.Proofs.YtikhfojbekpoeaaDoor
