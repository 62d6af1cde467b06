/-
  Of: TMerge, XMerge, JTog.
-/
import Derived.Test.YtakbeololabmhaaGreatDoorTParts
import Derived.Test.YtakbeololabmhaaGreatDoorG20
import Derived.Test.YtakbeololabmhaaGreatDoorG07
import Derived.Test.YtakbeololabmhaaGreatDoorG19
import Derived.Laws.ResultCell
section
-- TMerge
namespace Go.Proofs.YtakbeololabmhaaGreatDoor
open Go.RowKit Go.Shelf Go.SeqLib Go.DiffLib Go.BigFrame
attribute [local go_sem] Oper.semAt_some

abbrev SlR := @SlE PRow 4 eR
theorem SlR.at {W : World} {p : Option Addr} {n cap : Nat} {zs : List PRow} (h : SlR W (.slice p n cap) zs) (i : Nat) (x : PRow) (hi : zs[i]? = some x) :
    ∃ b off, p = some ⟨b, off, none⟩ ∧ W.cell? ⟨b, off + i * 4, none⟩ = some (.bool x.1) ∧ W.cell? ⟨b, off + i * 4 + 1, none⟩ = some x.2.1 ∧ W.cell? ⟨b, off + i * 4 + 2, none⟩ = some x.2.2.1 ∧ W.cell? ⟨b, off + i * 4 + 3, none⟩ = some x.2.2.2 := by
  obtain ⟨p', cap', e, _, _, hc⟩ := h
  cases e
  obtain ⟨b, off, e, h1⟩ := hc i x hi
  exact ⟨b, off, e, h1 0 _ rfl, h1 1 _ rfl, h1 2 _ rfl, h1 3 _ rfl⟩
theorem Own3.reads {W : World} {base : Nat} {x y z : Value} {p : Prt ByteArray} (h : Own3 W base x y z p) : SlV W x (p.o.map Value.string) ∧ SlV W y (p.a.map Value.string) ∧ SlV W z (p.b.map Value.string) :=
  ⟨SlV.ofRow (by simpa using h.o), SlV.ofRow (by simpa using h.a), SlV.ofRow (by simpa using h.b)⟩

theorem gather_cons (p : Prt ByteArray) (r : List (Prt ByteArray)) : gather (p :: r) = if p.c = true then none else (gather r).map (fun t => pick p ++ t) := rfl

set_option maxRecDepth 100000 in
set_option maxHeartbeats 4000000 in
theorem merge_in (vo va vb : Value) (o a b : List ByteArray) (w : World) (hv : SlV w vo (o.map Value.string)) (hu : SlV w va (a.map Value.string)) (ht : SlV w vb (b.map Value.string)) (ho : o.length ≤ 400) (ha : a.length ≤ 400) (hb : b.length ≤ 400) :
    CallsIn Fence.wide 0 Tryz.prog 111 #[vo, va, vb] w fun e w' => appRes w (mrg o a b) e w' ∧ Chg No w w' := by
  have hP := parts_in vo va vb o a b w hv hu ht ho ha hb
  have hpl := parts_length o a b
  have hlens := parts_lens o a b
  obtain ⟨p, cp, rfl, _⟩ := id hv
  obtain ⟨q, cq, rfl, _⟩ := id hu
  obtain ⟨r, cr, rfl, _⟩ := id ht
  have hl := tooLong3_in p q r (o.map Value.string).length (a.map Value.string).length (b.map Value.string).length cp cq cr (by rw [List.length_map]; exact ho) (by rw [List.length_map]; exact ha) (by rw [List.length_map]; exact hb) w
  clear hv hu ht
  generalize (o.map Value.string).length = lo at *
  generalize (a.map Value.string).length = la at *
  generalize (b.map Value.string).length = lb at *
  have HLn : Hid (∀ p ∈ parts o a b, p.o.length ≤ 400 ∧ p.a.length ≤ 400 ∧ p.b.length ≤ 400) := fun p hp => by have := hlens p hp; omega
  unfold mrg
  generalize parts o a b = ps at *
  have hpl' : ps.length ≤ 801 := by omega
  clear hlens hpl ho ha hb
  obtain ⟨tot, HTot⟩ : ∃ t, Hid (gather ps = t) := ⟨_, rfl⟩
  rw [HTot.out]
  refine callsIn_of_wp Tryz.func111 rfl trivial ?_
  simp only [Tryz.ntmps111, List.size_toArray, List.length_cons, List.length_nil, Nat.reduceAdd, Nat.reduceSub, Array.replicate_succ, Array.replicate_zero, List.push_toArray, List.append_toArray, List.nil_append, List.cons_append]
  gi_wp2_with fail
  refine ⟨trivial, rfl, hl.mono ?_⟩
  rintro e w1 ⟨rfl, rfl⟩
  clear hl
  gi_wp2_with fail
  refine ⟨trivial, rfl, hP.mono ?_⟩
  rintro e wP ⟨vP, rfl, ⟨rs, PA⟩, cP⟩
  clear hP
  have sR : SlR wP vP rs := SlE.ofRow eR_len PA.row
  obtain ⟨pP, ccP, rfl⟩ := row_slice PA.row
  have hrl := PA.len
  obtain ⟨np, HNP⟩ : ∃ n, Hid (rs.length = n) := ⟨_, rfl⟩
  have HNS : Hid (ps.length = np) := by show _ = _; rw [← hrl, HNP.out]
  rw [HNP.out] at sR ⊢
  rw [HNS.out] at hpl'
  clear hrl
  gi_wp2
  gi_loopw [8, 20] (fun v8 i wr => ∃ (k : Nat) (acc : List ByteArray), k ≤ np ∧ i = .int .i64 (k : Int) ∧ acc.length ≤ k * 400 ∧ wr.ownsRow wP.heap.size 9 1 v8 acc.length (acc.map Value.string) ∧ Hid ((gather (ps.drop k)).map (fun t => acc ++ t) = tot) ∧ Chg No wP wr) (fun v8 i _ => np - (intOf i).toNat)
  case atStart => exact ⟨0, [], Nat.zero_le _, rfl, by simp, World.ownsRow_nil _ _ _ _, by show _ = _; rw [← HTot.out, List.drop_zero]; cases gather ps <;> rfl, Chg.refl _ _⟩
  case round =>
    obtain ⟨k, acc, hk, rfl, hacc, hr, HT, cw⟩ := hrel
    obtain ⟨p8, c8, rfl⟩ := row_slice hr
    by_cases hlt : k < np
    · have hlt' : (k : Int) < (np : Int) := by omega
      have hkr : k < rs.length := by rw [HNP.out]; exact hlt
      obtain ⟨x, hx⟩ : ∃ x, rs[k]? = some x := ⟨_, List.getElem?_eq_getElem hkr⟩
      obtain ⟨pp, hpp, hxc, o3⟩ := PA.at hx
      have hkp : k < ps.length := by rw [HNS.out]; exact hlt
      have HTk : Hid (ps.drop k = pp :: ps.drop (k + 1)) := by
        rw [List.drop_eq_getElem_cons hkp]
        rw [List.getElem?_eq_getElem hkp] at hpp
        rw [Option.some.inj hpp]
        exact rfl
      have hln := HLn.out pp (List.mem_of_getElem? hpp)
      obtain ⟨b1, o1, rfl, x1, x2, x3, x4⟩ := SlR.at (show SlR wr _ _ from SlE.no eR_len (by decide) sR cw) k x hx
      obtain ⟨xc, xo, xa, xb⟩ := x
      simp only at hxc o3 x1 x2 x3 x4
      have o4 := o3.chg cw (fun _ _ h => h)
      obtain ⟨v1, v2, v3⟩ := o4.reads
      obtain ⟨q1, d1, rfl, _⟩ := id v1
      obtain ⟨q2, d2, rfl, _⟩ := id v2
      obtain ⟨q3, d3, rfl, _⟩ := id v3
      have HXC : Hid (xc = pp.c) := hxc
      clear hx hpp hkr hkp o3 o4 hxc
      have cb : Chg No wr (wr.alloc (.cells #[.bool xc, .slice q1 (pp.o.map Value.string).length d1, .slice q2 (pp.a.map Value.string).length d2, .slice q3 (pp.b.map Value.string).length d3] 162)) := (Chg.refl _ wr).alloc _
      have bx : Box4 (wr.alloc (.cells #[.bool xc, .slice q1 (pp.o.map Value.string).length d1, .slice q2 (pp.a.map Value.string).length d2, .slice q3 (pp.b.map Value.string).length d3] 162)) wr.heap.size (.bool xc) _ _ _ := World.alloc_heap_new wr _
      have hr1 := hr.alloc (.cells #[.bool xc, .slice q1 (pp.o.map Value.string).length d1, .slice q2 (pp.a.map Value.string).length d2, .slice q3 (pp.b.map Value.string).length d3] 162)
      have w1' := v1.no cb
      have w2' := v2.no cb
      have w3' := v3.no cb
      have hch := choice_in xc _ _ _ pp _ w1' w2' w3' hln.1 hln.2.1 hln.2.2
      generalize (pp.o.map Value.string).length = n1 at *
      generalize (pp.a.map Value.string).length = n2 at *
      generalize (pp.b.map Value.string).length = n3 at *
      obtain ⟨a0, a1, a2, a3⟩ := bx.cells
      clear v1 v2 v3
      cases xc with
      | true =>
        obtain rfl : tot = none := by
          have := HT.out
          rw [HTk.out, gather_cons, if_pos HXC.out.symm] at this
          exact this.symm
        clear hch
        gi_wp2
        go_ret2
        exact ⟨rfl, Chg.seq (Chg.seq cP cw) cb⟩
      | false =>
        have HT2 : Hid ((gather (ps.drop (k + 1))).map (fun t => (acc ++ pick pp) ++ t) = tot) := by
          have := HT.out
          rw [HTk.out, gather_cons, if_neg (by rw [← HXC.out]; simp), Option.map_map] at this
          rw [← this]
          show _ = _
          congr 1
          funext t
          simp
        have HPk : Hid (∀ W, Chg No (wr.alloc (.cells #[.bool false, .slice q1 n1 d1, .slice q2 n2 d2, .slice q3 n3 d3] 162)) W → SlV W (if pp.a = pp.b ∨ pp.b = pp.o then .slice q2 n2 d2 else .slice q3 n3 d3) ((pick pp).map Value.string)) := fun W c => by
          unfold pick
          split
          · exact w2'.no c
          · exact w3'.no c
        have hpk : (pick pp).length ≤ 400 := by unfold pick; split; exact hln.2.1; exact hln.2.2
        obtain ⟨vr, hvr⟩ : ∃ v, (if pp.a = pp.b ∨ pp.b = pp.o then (.slice q2 n2 d2 : Value) else .slice q3 n3 d3) = v := ⟨_, rfl⟩
        rw [hvr] at hch HPk
        clear hvr w1' w2' w3'
        have cb2 := Chg.seq cw cb
        gi_wp2_with fail
        generalize wr.alloc (.cells #[.bool false, .slice q1 n1 d1, .slice q2 n2 d2, .slice q3 n3 d3] 162) = W1 at *
        refine ⟨trivial, rfl, hch.mono ?_⟩
        rintro e W2 ⟨rfl, k2⟩
        have sP := HPk.out W2 k2
        have hr2 := own_still hr1 k2 (fun _ _ h => h)
        have cb3 := Chg.seq cb2 k2
        obtain ⟨pv, cv, rfl, _⟩ := id sP
        obtain ⟨nv, HNV⟩ : ∃ n, Hid (((pick pp).map Value.string).length = n) := ⟨_, rfl⟩
        rw [HNV.out] at sP ⊢
        have hnv : nv ≤ 400 := by rw [← HNV.out, List.length_map]; exact hpk
        have hbs := cb3.size
        have hka : k * 400 ≤ 801 * 400 := Nat.mul_le_mul_right _ (by omega)
        clear hch HPk a0 a1 a2 a3
        gi_wp2_with (gi_at_builtin; refine wpListIn_append_sv _ rfl _ _ rfl wP.heap.size _ acc.length _ rfl hr2 pv nv cv (pick pp) rfl sP (by omega) hbs ?_; intro v5 W5 hown5 hgrow5 hat5)
        have c5 : Chg No wP W5 := cb3.grown hgrow5 (fun k e => .inr (hr2.lt k e).1)
        have hlen : (acc ++ pick pp).length = acc.length + nv := by rw [List.length_append, ← HNV.out, List.length_map]
        go_roundw
        case rel => exact ⟨k + 1, acc ++ pick pp, hlt, by go_num, by rw [hlen, Nat.succ_mul]; omega, by rw [hlen, List.map_append]; exact hown5, HT2, c5⟩
        case measure => simp [intOf]; omega
    · obtain rfl : k = np := by omega
      have hlt' : ¬ (k : Int) < (k : Int) := by omega
      obtain rfl : tot = some acc := by
        have := HT.out
        rw [List.drop_eq_nil_of_le (by rw [HNS.out]; exact Nat.le_refl _)] at this
        rw [← this]
        simp [gather]
      gi_wp2
      go_ret2
      exact ⟨⟨_, rfl, rowBase hr cP.size⟩, Chg.seq cP cw⟩

end Go.Proofs.YtakbeololabmhaaGreatDoor

end
section
-- XMerge
namespace Go.Proofs.YtakbeololabmhaaGreatDoor
open Go.RowKit Go.Shelf Go.SeqLib Go.LineLib Go.DiffLib Go.TextLib Go.BigFrame
attribute [local go_sem] Oper.semAt_some

theorem eqT_true {x y : ByteArray} (h : x = y) : (x.toList == y.toList) = true := by rw [h]; simp
theorem eqT_false {x y : ByteArray} (h : ¬ x = y) : (x.toList == y.toList) = false := by rw [beq_eq_false_iff_ne]; exact fun e => h (text_ext e)
theorem lined_all (o a b : ByteArray) : [o, a, b].all (fun s => !odd s) = lined o a b := by
  unfold lined
  simp only [List.all_cons, List.all_nil, Bool.and_true]
theorem lined_few {o a b : ByteArray} (h : lined o a b = true) : (linesB o).length ≤ 60 ∧ (linesB a).length ≤ 60 ∧ (linesB b).length ≤ 60 := by
  have hh : ∀ s, odd s = false → (linesB s).length ≤ 60 := by
    intro s hs
    unfold odd at hs
    simp only [Bool.or_eq_false_iff, Bool.not_eq_false', decide_eq_true_eq] at hs
    exact hs.2
  unfold lined at h
  simp only [Bool.and_eq_true, Bool.not_eq_true'] at h
  exact ⟨hh _ h.1, hh _ h.2.1, hh _ h.2.2⟩

set_option maxRecDepth 100000 in
set_option maxHeartbeats 2000000 in
theorem tmerge_in (o a b : ByteArray) (ho : o.size ≤ 100000) (ha : a.size ≤ 100000) (hb : b.size ≤ 100000) (w : World) :
    CallsIn Fence.wide 0 Tryz.prog 95 #[.string o, .string a, .string b] w fun e w' => e = .returned (.tuple #[.string (txt (tm o a b)), .bool (tm o a b).isSome]) ∧ Chg No w w' := by
  obtain ⟨r, HR⟩ : ∃ r, Hid (tm o a b = r) := ⟨_, rfl⟩
  rw [HR.out]
  have hso := split_in o (by omega)
  have hsa := split_in a (by omega)
  have hsb := split_in b (by omega)
  refine callsIn_of_wp Tryz.func95 rfl trivial ?_
  simp only [Tryz.ntmps95, List.size_toArray, List.length_cons, List.length_nil, Nat.reduceAdd, Nat.reduceSub, Array.replicate_succ, Array.replicate_zero, List.push_toArray, List.append_toArray, List.nil_append, List.cons_append]
  by_cases h1 : a = b
  · have e1 := eqT_true h1
    obtain rfl : r = some a := by rw [← HR.out]; unfold tm; rw [if_pos h1]
    clear h1 HR
    gi_wp2
    go_ret2
    exact ⟨rfl, Chg.refl _ _⟩
  have e1 := eqT_false h1
  by_cases h2 : b = o
  · have e2 := eqT_true h2
    obtain rfl : r = some a := by rw [← HR.out]; unfold tm; rw [if_neg h1, if_pos h2]
    clear h1 h2 HR
    gi_wp2
    go_ret2
    exact ⟨rfl, Chg.refl _ _⟩
  have e2 := eqT_false h2
  by_cases h3 : a = o
  · have e3 := eqT_true h3
    obtain rfl : r = some b := by rw [← HR.out]; unfold tm; rw [if_neg h1, if_neg h2, if_pos h3]
    clear h1 h2 h3 HR
    gi_wp2
    go_ret2
    exact ⟨rfl, Chg.refl _ _⟩
  have e3 := eqT_false h3
  have HR2 : Hid ((if lined o a b = true then byL o a b else none) = r) := by
    rw [← HR.out]; unfold tm; rw [if_neg h1, if_neg h2, if_neg h3]; exact rfl
  clear HR h1 h2 h3
  have hby := fun W v (hv : SlV W v ([o, a, b].map Value.string)) => byLines_in v [o, a, b] W hv (by simp) (fun x hx => by
    rcases List.mem_cons.1 hx with e | hx
    · rw [e]; exact ho
    rcases List.mem_cons.1 hx with e | hx
    · rw [e]; exact ha
    rcases List.mem_cons.1 hx with e | hx
    · rw [e]; exact hb
    · cases hx)
  rw [lined_all] at hby
  obtain ⟨bl, HB⟩ : ∃ q, Hid (lined o a b = q) := ⟨_, rfl⟩
  rw [HB.out] at hby HR2
  gi_wp2_with fail
  refine ⟨trivial, rfl, (hby _ _ (SlV.made w [.string o, .string a, .string b] 9 (by simp))).mono ?_⟩
  rintro e w1 ⟨rfl, c1⟩
  have c0 : Chg No w w1 := Chg.seq ((Chg.refl _ w).alloc _) c1
  clear c1 hby
  cases bl with
  | false =>
    obtain rfl : r = none := HR2.out.symm
    gi_wp2
    go_ret2
    exact ⟨rfl, c0⟩
  | true =>
    obtain ⟨f1, f2, f3⟩ := lined_few HB.out
    have HM : Hid ((mrg (linesB o) (linesB a) (linesB b)).bind fit = r) := HR2.out
    clear HR2 HB
    gi_wp2_with fail
    refine ⟨trivial, rfl, (hso _).mono ?_⟩
    rintro e w2 ⟨v2, rfl, r2, k2⟩
    gi_wp2_with fail
    refine ⟨trivial, rfl, (hsa _).mono ?_⟩
    rintro e w3 ⟨v3, rfl, r3, k3⟩
    gi_wp2_with fail
    refine ⟨trivial, rfl, (hsb _).mono ?_⟩
    rintro e w4 ⟨v4, rfl, r4, k4⟩
    have s2 : SlV w4 v2 ((linesB o).map Value.string) := ((SlV.ofRow (by simpa using r2)).no k3).no k4
    have s3 : SlV w4 v3 ((linesB a).map Value.string) := (SlV.ofRow (by simpa using r3)).no k4
    have s4 : SlV w4 v4 ((linesB b).map Value.string) := SlV.ofRow (by simpa using r4)
    have c4 := Chg.seq c0 (Chg.seq k2 (Chg.seq k3 k4))
    clear r2 r3 r4 k2 k3 k4 c0 hso hsa hsb
    gi_wp2_with fail
    refine ⟨trivial, rfl, (merge_in v2 v3 v4 _ _ _ _ s2 s3 s4 (by omega) (by omega) (by omega)).mono ?_⟩
    rintro e w5 ⟨hres, k5⟩
    have c5 := Chg.seq c4 k5
    clear s2 s3 s4 c4 k5
    unfold appRes at hres
    cases hm : mrg (linesB o) (linesB a) (linesB b) with
    | none =>
      rw [hm] at hres HM
      obtain rfl : r = none := HM.out.symm
      clear hm
      subst hres
      gi_wp2
      go_ret2
      exact ⟨rfl, c5⟩
    | some l =>
      have hz := mrg_size hm
      rw [catB_lines, catB_lines] at hz
      rw [hm] at hres HM
      have HF : Hid (fit l = r) := HM.out
      clear HM hm
      obtain ⟨v', rfl, rr⟩ := hres
      have hj := join_in v' l w5 (SlV.ofRow (by simpa using rr)) (by omega) (by omega)
      clear rr
      unfold fit at HF
      generalize catB l = t at *
      gi_wp2_with fail
      refine ⟨trivial, rfl, hj.mono ?_⟩
      rintro e w6 ⟨rfl, k6⟩
      have c6 := Chg.seq c5 k6
      clear hj k6 c5
      by_cases h4 : 400 < t.size
      · obtain rfl : r = none := by rw [← HF.out, if_pos h4]
        have h4' : (400 : Int) < (t.size : Int) := by omega
        clear HF h4
        gi_wp2
        go_ret2
        exact ⟨rfl, c6⟩
      · obtain rfl : r = some t := by rw [← HF.out, if_neg h4]
        have h4' : ¬ (400 : Int) < (t.size : Int) := by omega
        clear HF h4
        gi_wp2
        go_ret2
        exact ⟨rfl, c6⟩

end Go.Proofs.YtakbeololabmhaaGreatDoor

end
section
-- JTog
namespace Go.TreeLib
open Go Go.TextLib
/-- What together answers of what comes of one path. -/
def togR (R : At × Bool) : At × Bool := if R.2 = true then ((false, ⟨#[]⟩), false) else (R.1, true)
theorem togR_like (o x y : At) (h : decide (x = y) = true) : togR (one3 o x y) = (x, true) := by
  unfold one3
  rw [if_pos (of_decide_eq_true h)]
  rfl
theorem togR_right (o x y : At) (h : decide (y = o) = true) : togR (one3 o x y) = (x, true) := by
  rw [of_decide_eq_true h, one3_right]
  rfl
theorem togR_left (o x y : At) (h : decide (x = o) = true) : togR (one3 o x y) = (y, true) := by
  rw [of_decide_eq_true h, one3_left]
  rfl
theorem togR_mid (o x y : At) (h1 : decide (x = y) = false) (h2 : decide (y = o) = false) (h3 : decide (x = o) = false) : togR (one3 o x y) = togR (mid o x y) := by
  unfold one3
  rw [if_neg (of_decide_eq_false h1), if_neg (of_decide_eq_false h3), if_neg (of_decide_eq_false h2)]
theorem togR_none (o x y : At) (h : ¬ (x.1 = true ∧ y.1 = true)) : togR (mid o x y) = ((false, ⟨#[]⟩), false) := by
  unfold mid
  rw [if_neg h]
  rfl
theorem togR_both (o x y : At) (h : x.1 = true ∧ y.1 = true) : togR (mid o x y) = (((tm o.2 x.2 y.2).isSome, txt (tm o.2 x.2 y.2)), (tm o.2 x.2 y.2).isSome) := by
  unfold mid
  rw [if_pos h]
  cases tm o.2 x.2 y.2 with
  | none => rfl
  | some m => rfl
end Go.TreeLib
namespace Go.Proofs.YtakbeololabmhaaGreatDoor
open Go.RowKit Go.Shelf Go.SeqLib Go.DiffLib Go.TreeLib Go.TextLib Go.BigFrame
attribute [local go_sem] Oper.semAt_some

set_option maxRecDepth 100000 in
set_option maxHeartbeats 1000000 in
theorem areTrees_in (tv : Value) (ps : List (Value × List Fl)) (hl : ps.length ≤ 1000) (hz : ∀ q ∈ ps, ∀ f ∈ q.2, f.1.size ≤ 100000) (w : World) (hs : SlV w tv (ps.map (·.1))) (hi : ∀ q ∈ ps, SlF w q.1 q.2) :
    CallsIn Fence.wide 0 Tryz.prog 70 #[tv] w fun e w' => e = .returned (.bool (ps.all (fun q => mayB q.2))) ∧ Chg No w w' := by
  have hs' := hs
  obtain ⟨p0, cap, rfl, _, _, _⟩ := hs'
  rw [List.length_map] at hs ⊢
  obtain ⟨n, HN⟩ : ∃ n, Hid (ps.length = n) := ⟨_, rfl⟩
  rw [HN.out] at hs hl ⊢
  have hn0 : n ≤ 9223372036854775807 := by omega
  obtain ⟨z, HZ⟩ : ∃ z, Hid (ps.all (fun q => mayB q.2) = z) := ⟨_, rfl⟩
  rw [HZ.out]
  refine callsIn_of_wp Tryz.func70 rfl trivial ?_
  simp only [Tryz.ntmps70, List.size_toArray, List.length_cons, List.length_nil, Nat.reduceAdd, Nat.reduceSub, Array.replicate_succ, Array.replicate_zero, List.push_toArray, List.append_toArray, List.nil_append, List.cons_append]
  gi_wp2
  gi_loopw [7] (fun i wr => ∃ k : Nat, k ≤ n ∧ i = .int .i64 (k : Int) ∧ Hid (∀ q ∈ ps.take k, mayB q.2 = true) ∧ Chg No w wr) (fun i _ => n - (intOf i).toNat)
  case atStart => exact ⟨0, Nat.zero_le _, rfl, fun f hf => by simp at hf, Chg.refl _ _⟩
  case round =>
    obtain ⟨k, hk, rfl, HT, c⟩ := hrel
    by_cases hlt : k < n
    · have hlt' : (k : Int) < (n : Int) := by omega
      have hkl : k < ps.length := by rw [HN.out]; exact hlt
      obtain ⟨q, hq⟩ : ∃ q, ps[k]? = some q := ⟨_, List.getElem?_eq_getElem hkl⟩
      have hmem := List.mem_of_getElem? hq
      have hs1 := hs.no c
      obtain ⟨p2, cap2, e2, _, _, hcells2⟩ := hs1
      rw [List.length_map, HN.out] at e2
      cases e2
      obtain ⟨bb, off, rfl, hcw⟩ := hcells2 k q.1 (by rw [List.getElem?_map, hq]; rfl)
      have M1 := may_in q.1 q.2 (hz q hmem) wr ((hi q hmem).no c)
      obtain ⟨u, HU⟩ : ∃ u, Hid (mayB q.2 = u) := ⟨_, rfl⟩
      rw [HU.out] at M1
      clear hcells2
      gi_wp2_with fail
      refine ⟨trivial, rfl, M1.mono ?_⟩
      rintro e w1 ⟨rfl, c1⟩
      cases u with
      | false =>
        have HR : Hid (z = false) := by
          show _ = _
          rw [← HZ.out]
          exact List.all_eq_false.2 ⟨q, hmem, by rw [HU.out]; exact Bool.false_ne_true⟩
        gi_wp2
        go_ret
        exact ⟨by rw [HR.out]; rfl, Chg.seq c c1⟩
      | true =>
        have HT2 : Hid (∀ q ∈ ps.take (k + 1), mayB q.2 = true) := by
          intro f hf
          rw [List.take_add_one, hq] at hf
          rcases List.mem_append.1 hf with h | h
          · exact HT.out f h
          · rw [List.mem_singleton.1 h]; exact HU.out
        gi_wp2
        refine ⟨⟨k + 1, hlt, by go_num, HT2, Chg.seq c c1⟩, by simp [intOf]; omega⟩
    · have hlt' : ¬ (k : Int) < (n : Int) := by omega
      have HR : Hid (z = true) := by
        show _ = _
        rw [← HZ.out]
        exact List.all_eq_true.2 (fun f hf => HT.out f (by rw [List.take_of_length_le (by rw [HN.out]; omega)]; exact hf))
      gi_wp2
      go_ret
      exact ⟨by rw [HR.out]; rfl, c⟩

abbrev vA (z : At) : Value := .agg #[.bool z.1, .string z.2]

set_option maxRecDepth 100000 in
set_option maxHeartbeats 4000000 in
theorem together_in (o x y : At) (so : o.2.size ≤ 100000) (sx : x.2.size ≤ 100000) (sy : y.2.size ≤ 100000) (w : World) :
    CallsIn Fence.wide 0 Tryz.prog 73 #[vA o, vA x, vA y] w fun e w' => e = .returned (.tuple #[vA (togR (one3 o x y)).1, .bool (togR (one3 o x y)).2]) ∧ Chg No w w' := by
  have hgd := guard_at
  have E1 := run_eql_at x y
  have E2 := run_eql_at y o
  have E3 := run_eql_at x o
  have M1 := fun W => tmerge_in o.2 x.2 y.2 so sx sy W
  have HL : Hid (decide (x = y) = true → togR (one3 o x y) = (x, true)) := togR_like o x y
  have HRt : Hid (decide (y = o) = true → togR (one3 o x y) = (x, true)) := togR_right o x y
  have HLf : Hid (decide (x = o) = true → togR (one3 o x y) = (y, true)) := togR_left o x y
  have HM : Hid (decide (x = y) = false → decide (y = o) = false → decide (x = o) = false → togR (one3 o x y) = togR (mid o x y)) := togR_mid o x y
  have HN : Hid (¬ (x.1 = true ∧ y.1 = true) → togR (mid o x y) = ((false, ⟨#[]⟩), false)) := togR_none o x y
  have HB : Hid (x.1 = true ∧ y.1 = true → togR (mid o x y) = (((tm o.2 x.2 y.2).isSome, txt (tm o.2 x.2 y.2)), (tm o.2 x.2 y.2).isSome)) := togR_both o x y
  generalize togR (one3 o x y) = R at HL HRt HLf HM ⊢
  generalize togR (mid o x y) = R2 at HM HN HB
  generalize txt (tm o.2 x.2 y.2) = td at M1 HB
  generalize (tm o.2 x.2 y.2).isSome = tb at M1 HB
  generalize decide (x = y) = t1 at E1 HL HM
  generalize decide (y = o) = t2 at E2 HRt HM
  generalize decide (x = o) = t3 at E3 HLf HM
  obtain ⟨o1, o2⟩ := o
  obtain ⟨x1, x2⟩ := x
  obtain ⟨y1, y2⟩ := y
  dsimp only at E1 E2 E3 M1 HN HB so sx sy
  have c4 : Chg No w ((((w.alloc (.cells #[.bool o1, .string o2] 107)).alloc (.cells #[.bool x1, .string x2] 107)).alloc (.cells #[.bool y1, .string y2] 107)).alloc (.cells #[.bool false, .string ⟨#[]⟩] 107)) := ((((Chg.refl _ w).alloc _).alloc _).alloc _).alloc _
  clear so sx sy
  refine callsIn_of_wp Tryz.func73 rfl trivial ?_
  simp only [Tryz.ntmps73, List.size_toArray, List.length_cons, List.length_nil, Nat.reduceAdd, Nat.reduceSub, Array.replicate_succ, Array.replicate_zero, List.push_toArray, List.append_toArray, List.nil_append, List.cons_append]
  cases t1 with
  | true =>
    obtain rfl : R = ((x1, x2), true) := HL.out rfl
    gi_wp2
    refine bodyPost_ret (v := .tuple #[.agg #[.bool x1, .string x2], .bool true]) ?_ rfl ⟨rfl, ((((Chg.refl _ w).alloc _).alloc _).alloc _).alloc _⟩
    rw [results_cell_tmp rfl]
    go_simp
  | false =>
  cases t2 with
  | true =>
    obtain rfl : R = ((x1, x2), true) := HRt.out rfl
    gi_wp2
    refine bodyPost_ret (v := .tuple #[.agg #[.bool x1, .string x2], .bool true]) ?_ rfl ⟨rfl, ((((Chg.refl _ w).alloc _).alloc _).alloc _).alloc _⟩
    rw [results_cell_tmp rfl]
    go_simp
  | false =>
  cases t3 with
  | true =>
    obtain rfl : R = ((y1, y2), true) := HLf.out rfl
    gi_wp2
    refine bodyPost_ret (v := .tuple #[.agg #[.bool y1, .string y2], .bool true]) ?_ rfl ⟨rfl, ((((Chg.refl _ w).alloc _).alloc _).alloc _).alloc _⟩
    rw [results_cell_tmp rfl]
    go_simp
  | false =>
  obtain rfl : R = R2 := HM.out rfl rfl rfl
  clear HL HRt HLf HM
  cases x1 with
  | false =>
    obtain rfl : R = ((false, ⟨#[]⟩), false) := HN.out (fun e => by cases e.1)
    gi_wp2
    refine bodyPost_ret (v := .tuple #[.agg #[.bool false, .string ⟨#[]⟩], .bool false]) ?_ rfl ⟨rfl, ((((Chg.refl _ w).alloc _).alloc _).alloc _).alloc _⟩
    rw [results_cell_tmp rfl]
    go_simp
  | true =>
  cases y1 with
  | false =>
    obtain rfl : R = ((false, ⟨#[]⟩), false) := HN.out (fun e => by cases e.2)
    gi_wp2
    refine bodyPost_ret (v := .tuple #[.agg #[.bool false, .string ⟨#[]⟩], .bool false]) ?_ rfl ⟨rfl, ((((Chg.refl _ w).alloc _).alloc _).alloc _).alloc _⟩
    rw [results_cell_tmp rfl]
    go_simp
  | true =>
  obtain rfl : R = ((tb, td), tb) := HB.out ⟨rfl, rfl⟩
  clear HN HB
  gi_wp2_with fail
  refine ⟨trivial, rfl, (M1 _).mono ?_⟩
  rintro e w1 ⟨rfl, c1⟩
  have hst : ∀ (q : Bool) (d : ByteArray) (W : World), Chg No w W → Chg No w ((W.setCell ⟨w.heap.size + 1 + 1 + 1, 0, none⟩ (.bool q)).setCell ⟨w.heap.size + 1 + 1 + 1, 1, none⟩ (.string d)) := fun q d W c => (c.setCell (p := ⟨w.heap.size + 1 + 1 + 1, 0, none⟩) (.inr (by show w.heap.size ≤ w.heap.size + 1 + 1 + 1; omega)) _).setCell (p := ⟨w.heap.size + 1 + 1 + 1, 1, none⟩) (.inr (by show w.heap.size ≤ w.heap.size + 1 + 1 + 1; omega)) _
  have hb1 : w1.heap[w.heap.size + 1 + 1 + 1]? = some (.cells #[.bool false, .string ⟨#[]⟩] 107 (0, 0)) := c1.same (by
    have := World.alloc_heap_new (((w.alloc (.cells #[.bool o1, .string o2] 107)).alloc (.cells #[.bool true, .string x2] 107)).alloc (.cells #[.bool true, .string y2] 107)) (.cells #[.bool false, .string ⟨#[]⟩] 107 (0, 0))
    rw [World.size_alloc, World.size_alloc, World.size_alloc] at this
    exact this) (fun h => h)
  have k1 : w1.cell? ⟨w.heap.size + 1 + 1 + 1, 0, none⟩ = some (.bool false) := by simp [World.cell?, hb1]
  have k2 : w1.cell? ⟨w.heap.size + 1 + 1 + 1, 1, none⟩ = some (.string ⟨#[]⟩) := by simp [World.cell?, hb1]
  have f1 : w1.frozen? ⟨w.heap.size + 1 + 1 + 1, 0, none⟩ = false := by simp [World.frozen?, hb1]
  have f2 : w1.frozen? ⟨w.heap.size + 1 + 1 + 1, 1, none⟩ = false := by simp [World.frozen?, hb1]
  clear M1 E1 E2 E3
  gi_wp2
  refine bodyPost_ret (v := .tuple #[.agg #[.bool tb, .string td], .bool tb]) ?_ rfl ⟨rfl, hst _ _ _ (Chg.seq c4 c1)⟩
  rw [results_cell_tmp rfl]
  go_simp

end Go.Proofs.YtakbeololabmhaaGreatDoor

end
