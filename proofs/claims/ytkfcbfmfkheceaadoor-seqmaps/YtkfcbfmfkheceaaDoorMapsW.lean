/-
  SeqMaps answers true at every list and number where the library's table is laid, and turns nothing that lay.
-/
import Derived.Test.YtkfcbfmfkheceaaDoorAwake
import Derived.Test.YtkfcbfmfkheceaaDoorPureS
import Derived.Sort.CutIn
namespace Go.Proofs.YtkfcbfmfkheceaaDoor
open Go.RowKit Go.Shelf Go.SeqLib
attribute [local go_sem] Oper.semAt_some

set_option maxRecDepth 100000 in
set_option maxHeartbeats 2000000 in
theorem maps_long (p : Option Addr) (n cap : Nat) (hn : 60 < n) (a : Int) (w : World) : CallsIn Fence.wide 0 Tryd.prog 3 #[.slice p n cap, .int .i64 a] w fun e w' => e = .returned (.bool true) ∧ Chg No w w' := by
  have hn' : (60 : Int) < (n : Int) := by omega
  refine callsIn_of_wp Tryd.func3 rfl trivial ?_
  simp only [Tryd.ntmps3, List.size_toArray, List.length_cons, List.length_nil, Nat.reduceAdd, Nat.reduceSub, Array.replicate_succ, Array.replicate_zero, List.push_toArray, List.append_toArray, List.nil_append, List.cons_append]
  gi_wp2_with fail
  refine ⟨trivial, rfl, (awake_in _).mono ?_⟩
  rintro e w1 ⟨rfl, c1⟩
  gi_wp2
  go_ret
  exact ⟨rfl, c1⟩

/-- Rows of unlike things lie apart. -/
theorem rows_apart {W : World} {b b' : Nat} {e e' : TypeId} {v u : Value} {n m : Nat} {xs ys : List Value} (he : e ≠ e') (h : W.ownsRow b e 1 v n xs) (h' : W.ownsRow b' e' 1 u m ys) : v.ownBlock = none ∨ v.ownBlock ≠ u.ownBlock := by
  rcases h.2 with ⟨rfl, _⟩ | ⟨g, cap, cur, rfl, _, hg, _⟩
  · exact .inl rfl
  · refine .inr fun e1 => ?_
    rcases h'.2 with ⟨rfl, _⟩ | ⟨g', cap', cur', rfl, _, hg', _⟩
    · cases e1
    · simp [Value.ownBlock] at e1
      subst e1
      rw [hg] at hg'
      simp at hg'
      exact he hg'.2

/-- What the loop has made of the first ones. -/
structure MapsAt (w wr : World) (zs : List Int) (vT vE : Value) : Prop where
  t : wr.ownsRow w.heap.size 9 1 vT zs.length (zs.map fun x => Value.string (itoaS x))
  e : wr.ownsRow w.heap.size 3 1 vE (zs.filter evenB).length ((zs.filter evenB).map (Value.int .i64))
  c : Chg No w wr

set_option maxRecDepth 100000 in
set_option maxHeartbeats 4000000 in
theorem maps_in (p : Option Addr) (cap : Nat) (zs : List Int) (hn : zs.length ≤ 60) (a : Int) (w : World) (hz : SlI w (.slice p zs.length cap) zs) (hok : ∀ x ∈ zs, okI x) (ht : TabAt w) : CallsIn Fence.wide 0 Tryd.prog 3 #[.slice p zs.length cap, .int .i64 a] w fun e w' => e = .returned (.bool true) ∧ Chg No w w' := by
  have hn' : ¬ (60 : Int) < (zs.length : Int) := by omega
  obtain ⟨i3, hi3, hz30, hz31, hz32⟩ := info_parts info3
  obtain ⟨i9, hi9, hz90, hz91, hz92⟩ := info_parts info9
  obtain ⟨p', cap', e', hcap, hmax, hcells⟩ := id hz
  cases e'
  refine callsIn_of_wp Tryd.func3 rfl trivial ?_
  simp only [Tryd.ntmps3, List.size_toArray, List.length_cons, List.length_nil, Nat.reduceAdd, Nat.reduceSub, Array.replicate_succ, Array.replicate_zero, List.push_toArray, List.append_toArray, List.nil_append, List.cons_append]
  gi_wp2
  gi_loopw [5, 6, 7, 8] (fun t5 t6 t7 t8 wr => ∃ k : Nat, k ≤ zs.length ∧ t8 = .int .i64 (k : Int) ∧ t7 = .int .i64 ((zs.take k).foldl sumW a) ∧ MapsAt w wr (zs.take k) t5 t6) (fun _ _ _ i _ => zs.length - (intOf i).toNat)
  case atStart => exact ⟨0, Nat.zero_le _, rfl, rfl, ⟨World.ownsRow_nil _ _ _ _, World.ownsRow_nil _ _ _ _, Chg.refl _ _⟩⟩
  case round =>
    obtain ⟨k, hk, rfl, rfl, hM⟩ := hrel
    by_cases hlt : k < zs.length
    · obtain ⟨b, off, rfl, hcell⟩ := hcells k zs[k] (by simp [hlt])
      have hat : ∀ W', Chg No w W' → W'.cell? ⟨b, off + k, none⟩ = some (.int .i64 zs[k]) := fun W' c => (World.cell?_of_block (a := ⟨b, off + k, none⟩) (c.block b (World.block_lt_of_cell? w _ hcell) (fun h => h))).trans hcell
      have hx : okI zs[k] := hok _ (List.getElem_mem hlt)
      have hts : zs.take (k + 1) = zs.take k ++ [zs[k]] := by rw [List.take_succ_eq_append_getElem hlt]
      have HT : Hid (zs.take (k + 1) = zs.take k ++ [zs[k]]) := hts
      have hkl : (zs.take k).length ≤ 60 := by simp; omega
      have hel : ((zs.take k).filter evenB).length ≤ 60 := Nat.le_trans (List.length_filter_le _ _) hkl
      clear hts hcell hcells
      generalize zs.take k = ps at *
      generalize zs[k] = x at *
      have HAT : Hid (∀ W', Chg No w W' → W'.cell? ⟨b, off + k, none⟩ = some (.int .i64 x)) := hat
      clear hat
      have h0 := HAT.out wr hM.c
      have hmT : (ps.map fun x => Value.string (itoaS x)).length + 1 ≤ maxLen := by unfold maxLen; simp; omega
      have hmE : ((ps.filter evenB).map (Value.int .i64)).length + 1 ≤ maxLen := by unfold maxLen; simp; omega
      have hlT : (ps.map fun x => Value.string (itoaS x)).length + 1 ≤ 1000000 := by simp; omega
      have hlE : ((ps.filter evenB).map (Value.int .i64)).length + 1 ≤ 1000000 := by simp; omega
      gi_wp2_with fail
      refine ⟨trivial, rfl, (text_in x hx _ (ht.no hM.c)).mono ?_⟩
      rintro e w1 ⟨rfl, c1⟩
      have cw1 : Chg No w w1 := hM.c.trans c1 (Grew.refl _ _)
      have rT1 : w1.ownsRow w.heap.size 9 1 u5 (ps.map fun x => Value.string (itoaS x)).length (ps.map fun x => Value.string (itoaS x)) := by
        have := row_kept hM.t (fun k hk => c1.block k (hM.t.lt k hk).2 (fun h => h))
        simpa using this
      have rE1 : w1.ownsRow w.heap.size 3 1 u6 ((ps.filter evenB).map (Value.int .i64)).length ((ps.filter evenB).map (Value.int .i64)) := by
        have := row_kept hM.e (fun k hk => c1.block k (hM.e.lt k hk).2 (fun h => h))
        simpa using this
      gi_wp2_with (gi_at_builtin; refine wpListIn_append_at _ rfl _ _ 24 rfl w.heap.size 9 i9 (.string ⟨#[]⟩) 1 16 Tryd.underlying24 hi9 hz90 hz91 hz92 rfl (by decide) _ _ _ rfl (rT1.alloc _) ⟨w1.heap.size, 0, none⟩ 1 1 [.string (itoaS x)] rfl rfl (cell_one_new _ _ _) (by simp [Value.oneCell']) hmT (by omega) (by have := cw1.size; simp; omega) ?_; intro vT w2 rT2 gT _ atT; have cw2 : Chg No w w2 := (cw1.alloc _).grown gT (fun k e => .inr (rT1.lt k e).1); have rE2 := (rE1.alloc (.cells #[.string (itoaS x)] 9)).kept gT (rows_apart (by decide) rE1 rT1); have h2 := HAT.out w2 cw2)
      refine ⟨trivial, rfl, (even_in x _).mono ?_⟩
      rintro e w2' ⟨rfl, rfl⟩
      have HF : Hid ((ps ++ [x]).foldl sumW a = wrap64 (ps.foldl sumW a + x)) := by show _ = _; simp [sumW]
      have hTT : Hid ((ps ++ [x]).map (fun x => Value.string (itoaS x)) = ps.map (fun x => Value.string (itoaS x)) ++ [.string (itoaS x)]) := by show _ = _; simp
      have rT : w2'.ownsRow w.heap.size 9 1 vT (ps ++ [x]).length ((ps ++ [x]).map fun x => Value.string (itoaS x)) := by rw [hTT.out]; simpa using rT2
      clear rT2
      generalize ps.foldl sumW a = q at *
      cases hE : evenB x
      · have hEE : Hid ((ps ++ [x]).filter evenB = ps.filter evenB) := by show _ = _; simp [hE]
        gi_wp2_with fail
        refine ⟨trivial, rfl, (plus_in q x _).mono ?_⟩
        rintro e w3 ⟨rfl, rfl⟩
        gi_wp2
        go_roundw
        case rel => exact ⟨k + 1, hlt, by go_num, by rw [HT.out, HF.out], ⟨by rw [HT.out]; exact rT, by rw [HT.out, hEE.out]; simpa using rE2, cw2⟩⟩
        case measure => simp [intOf]; omega
      · have hEE : Hid ((ps ++ [x]).filter evenB = ps.filter evenB ++ [x]) := by show _ = _; simp [hE]
        gi_wp2_with (gi_at_builtin; refine wpListIn_append_at _ rfl _ _ 22 rfl w.heap.size 3 i3 (.int .i64 0) 1 8 Tryd.underlying22 hi3 hz30 hz31 hz32 rfl (by decide) _ _ _ rfl (rE2.alloc _) ⟨w2'.heap.size, 0, none⟩ 1 1 [.int .i64 x] rfl rfl (cell_one_new _ _ _) (by simp [Value.oneCell']) hmE (by omega) (by have := cw2.size; simp; omega) ?_; intro vE w3 rE3 gE _ atE; have cw3 : Chg No w w3 := (cw2.alloc _).grown gE (fun k e => .inr (rE2.lt k e).1); have rT3 := (rT.alloc (.cells #[.int .i64 x] 3)).kept gE (rows_apart (by decide) rT rE2); have h3 := HAT.out w3 cw3)
        refine ⟨trivial, rfl, (plus_in q x _).mono ?_⟩
        rintro e w4 ⟨rfl, rfl⟩
        gi_wp2
        go_roundw
        case rel => exact ⟨k + 1, hlt, by go_num, by rw [HT.out, HF.out], ⟨by rw [HT.out]; exact rT3, by rw [HT.out, hEE.out]; simpa using rE3, cw3⟩⟩
        case measure => simp [intOf]; omega
    · obtain rfl : k = zs.length := by omega
      rw [List.take_length] at hM ⊢
      have cW := hM.c
      have T1 := SlV.ofRow (W := wr) (base := w.heap.size) (e := 9) (vals := zs.map fun x => Value.string (itoaS x)) (by simpa using hM.t)
      have E1 := SlI.ofRow (W := wr) hM.e
      have tA := ht.no cW
      have zA := hz.chg cW (fun _ _ h => h)
      have hT0 : 0 < w.heap.size := by obtain ⟨_, _, ho⟩ := ht.obj; exact (Array.getElem?_eq_some_iff.1 ho).1
      rw [show (fun x => Value.string (itoaS x)) = Value.string ∘ itoaS from rfl, ← List.map_map] at T1
      clear hM hcells
      gi_wp2_with fail
      refine ⟨trivial, rfl, (of_seq _ zs (by omega) _ zA).mono ?_⟩
      rintro e w1 ⟨g1, l1, D1, rfl, s1, c1, d1⟩
      gi_wp2_with fail
      refine ⟨trivial, rfl, (mapS_seq _ s1 hok (tA.no c1) (fun k hk => by have := d1 k hk; have := cW.size; omega)).mono ?_⟩
      rintro e w2 ⟨g2, l2, D2, rfl, s2, c2, _⟩
      gi_wp2_with fail
      refine ⟨trivial, rfl, (listS_seq (by simp; omega) _ s2).mono ?_⟩
      rintro e w3 ⟨v3, rfl, q3, c3⟩
      have c13 : Chg No wr w3 := (c1.trans c2 (Grew.refl _ _)).trans c3 (Grew.refl _ _)
      gi_wp2_with fail
      refine ⟨trivial, rfl, (sameS_in _ _ (zs.map itoaS) (zs.map itoaS) _ q3 (T1.no c13)).mono ?_⟩
      rintro e w4 ⟨rfl, c4⟩
      simp only [decide_true]
      have c24 : Chg No w2 w4 := c3.trans c4 (Grew.refl _ _)
      have c14 : Chg No wr w4 := c13.trans c4 (Grew.refl _ _)
      gi_wp2_with fail
      refine ⟨trivial, rfl, (texts_seq 100 (by omega) (by omega) _ (s2.no c24) (zs.map itoaS) (show zs.map itoaS = (zs.map itoaS).take _ from (List.take_of_length_le (by simp; omega)).symm)).mono ?_⟩
      rintro e w5 ⟨v5, rfl, q5, c5⟩
      have c15 : Chg No wr w5 := c14.trans c5 (Grew.refl _ _)
      gi_wp2_with fail
      refine ⟨trivial, rfl, (sameS_in _ _ (zs.map itoaS) (zs.map itoaS) _ q5 (T1.no c15)).mono ?_⟩
      rintro e w6 ⟨rfl, c6⟩
      simp only [decide_true]
      have c16 : Chg No wr w6 := c15.trans c6 (Grew.refl _ _)
      have c116 : Chg No w1 w6 := ((c2.trans c24 (Grew.refl _ _)).trans c5 (Grew.refl _ _)).trans c6 (Grew.refl _ _)
      gi_wp2_with fail
      refine ⟨trivial, rfl, (filter_seq _ (s1.no c116) (even_fun _) (fun _ _ h => h)).mono ?_⟩
      rintro e w7 ⟨g7, l7, D7, rfl, s7, c7, _⟩
      gi_wp2_with fail
      refine ⟨trivial, rfl, (list_seq (by have := List.length_filter_le evenB zs; omega) _ s7).mono ?_⟩
      rintro e w8 ⟨v8, rfl, r8, c8⟩
      have c18 : Chg No wr w8 := (c16.trans c7 (Grew.refl _ _)).trans c8 (Grew.refl _ _)
      gi_wp2_with fail
      refine ⟨trivial, rfl, (same_in _ _ (zs.filter evenB) (zs.filter evenB) _ (SlI.ofRow r8) (E1.chg c18 (fun _ _ h => h))).mono ?_⟩
      rintro e w9 ⟨rfl, c9⟩
      simp only [decide_true]
      have c19 : Chg No wr w9 := c18.trans c9 (Grew.refl _ _)
      have c119 : Chg No w1 w9 := ((c116.trans c7 (Grew.refl _ _)).trans c8 (Grew.refl _ _)).trans c9 (Grew.refl _ _)
      gi_wp2_with fail
      refine ⟨trivial, rfl, (fold_seq a _ (s1.no c119)).mono ?_⟩
      rintro e w10 ⟨rfl, c10⟩
      generalize List.foldl sumW a zs = total at *
      gi_wp2_with fail
      refine ⟨trivial, rfl, (awake_in _).mono ?_⟩
      rintro e w11 ⟨rfl, c11⟩
      have cF : Chg No w w11 := ((cW.trans c19 (Grew.refl _ _)).trans c10 (Grew.refl _ _)).trans c11 (Grew.refl _ _)
      gi_wp2
      go_ret
      exact ⟨rfl, cF⟩

end Go.Proofs.YtkfcbfmfkheceaaDoor
