/-
  three's own Merge, at texts.
-/
import Derived.Test.YtookalebfbkedaaTParts
namespace Go.Proofs.Ytookalebfbkedaa
open Go.RowKit Go.Shelf Go.SeqLib Go.DiffLib Go.BigFrame
attribute [local go_sem] Oper.semAt_some

abbrev SlR := @SlE PRow 4 eR
theorem SlR.at {W : World} {p : Option Addr} {n cap : Nat} {zs : List PRow} (h : SlR W (.slice p n cap) zs) (i : Nat) (x : PRow) (hi : zs[i]? = some x) :
    ∃ b off, p = some ⟨b, off, none⟩ ∧ W.cell? ⟨b, off + i * 4, none⟩ = some (.bool x.1) ∧ W.cell? ⟨b, off + i * 4 + 1, none⟩ = some x.2.1 ∧ W.cell? ⟨b, off + i * 4 + 2, none⟩ = some x.2.2.1 ∧ W.cell? ⟨b, off + i * 4 + 3, none⟩ = some x.2.2.2 := by
  obtain ⟨p', cap', e, _, _, hc⟩ := h
  cases e
  obtain ⟨b, off, e, h1⟩ := hc i x hi
  exact ⟨b, off, e, h1 0 _ rfl, h1 1 _ rfl, h1 2 _ rfl, h1 3 _ rfl⟩
theorem Own3.reads {W : World} {base : Nat} {x y z : Value} {p : Prt ByteArray} (h : Own3 W base x y z p) : SlV W x (p.o.map Value.string) ∧ SlV W y (p.a.map Value.string) ∧ SlV W z (p.b.map Value.string) :=
  ⟨SlV.ofRow (by simpa using h.o), SlV.ofRow (by simpa using h.a), SlV.ofRow (by simpa using h.b)⟩

theorem gather_cons (p : Prt ByteArray) (r : List (Prt ByteArray)) : gather (p :: r) = if p.c = true then none else (gather r).map (fun t => pick p ++ t) := rfl

set_option maxRecDepth 100000 in
set_option maxHeartbeats 4000000 in
theorem merge_in (vo va vb : Value) (o a b : List ByteArray) (w : World) (hv : SlV w vo (o.map Value.string)) (hu : SlV w va (a.map Value.string)) (ht : SlV w vb (b.map Value.string)) (ho : o.length ≤ 400) (ha : a.length ≤ 400) (hb : b.length ≤ 400) :
    CallsIn Fence.wide 0 Try.prog 14 #[vo, va, vb] w fun e w' => appRes w (mrg o a b) e w' ∧ Chg No w w' := by
  have hP := parts_in vo va vb o a b w hv hu ht ho ha hb
  have hpl := parts_length o a b
  have hlens := parts_lens o a b
  obtain ⟨p, cp, rfl, _⟩ := id hv
  obtain ⟨q, cq, rfl, _⟩ := id hu
  obtain ⟨r, cr, rfl, _⟩ := id ht
  have hl := tooLong3_in p q r (o.map Value.string).length (a.map Value.string).length (b.map Value.string).length cp cq cr (by rw [List.length_map]; exact ho) (by rw [List.length_map]; exact ha) (by rw [List.length_map]; exact hb) w
  clear hv hu ht
  generalize (o.map Value.string).length = lo at *
  generalize (a.map Value.string).length = la at *
  generalize (b.map Value.string).length = lb at *
  have HLn : Hid (∀ p ∈ parts o a b, p.o.length ≤ 400 ∧ p.a.length ≤ 400 ∧ p.b.length ≤ 400) := fun p hp => by have := hlens p hp; omega
  unfold mrg
  generalize parts o a b = ps at *
  have hpl' : ps.length ≤ 801 := by omega
  clear hlens hpl ho ha hb
  obtain ⟨tot, HTot⟩ : ∃ t, Hid (gather ps = t) := ⟨_, rfl⟩
  rw [HTot.out]
  refine callsIn_of_wp Try.func14 rfl trivial ?_
  simp only [Try.ntmps14, List.size_toArray, List.length_cons, List.length_nil, Nat.reduceAdd, Nat.reduceSub, Array.replicate_succ, Array.replicate_zero, List.push_toArray, List.append_toArray, List.nil_append, List.cons_append]
  gi_wp2_with fail
  refine ⟨trivial, rfl, hl.mono ?_⟩
  rintro e w1 ⟨rfl, rfl⟩
  clear hl
  gi_wp2_with fail
  refine ⟨trivial, rfl, hP.mono ?_⟩
  rintro e wP ⟨vP, rfl, ⟨rs, PA⟩, cP⟩
  clear hP
  have sR : SlR wP vP rs := SlE.ofRow eR_len PA.row
  obtain ⟨pP, ccP, rfl⟩ := row_slice PA.row
  have hrl := PA.len
  obtain ⟨np, HNP⟩ : ∃ n, Hid (rs.length = n) := ⟨_, rfl⟩
  have HNS : Hid (ps.length = np) := by show _ = _; rw [← hrl, HNP.out]
  rw [HNP.out] at sR ⊢
  rw [HNS.out] at hpl'
  clear hrl
  gi_wp2
  gi_loopw [8, 20] (fun v8 i wr => ∃ (k : Nat) (acc : List ByteArray), k ≤ np ∧ i = .int .i64 (k : Int) ∧ acc.length ≤ k * 400 ∧ wr.ownsRow wP.heap.size 9 1 v8 acc.length (acc.map Value.string) ∧ Hid ((gather (ps.drop k)).map (fun t => acc ++ t) = tot) ∧ Chg No wP wr) (fun v8 i _ => np - (intOf i).toNat)
  case atStart => exact ⟨0, [], Nat.zero_le _, rfl, by simp, World.ownsRow_nil _ _ _ _, by show _ = _; rw [← HTot.out, List.drop_zero]; cases gather ps <;> rfl, Chg.refl _ _⟩
  case round =>
    obtain ⟨k, acc, hk, rfl, hacc, hr, HT, cw⟩ := hrel
    obtain ⟨p8, c8, rfl⟩ := row_slice hr
    by_cases hlt : k < np
    · have hlt' : (k : Int) < (np : Int) := by omega
      have hkr : k < rs.length := by rw [HNP.out]; exact hlt
      obtain ⟨x, hx⟩ : ∃ x, rs[k]? = some x := ⟨_, List.getElem?_eq_getElem hkr⟩
      obtain ⟨pp, hpp, hxc, o3⟩ := PA.at hx
      have hkp : k < ps.length := by rw [HNS.out]; exact hlt
      have HTk : Hid (ps.drop k = pp :: ps.drop (k + 1)) := by
        rw [List.drop_eq_getElem_cons hkp]
        rw [List.getElem?_eq_getElem hkp] at hpp
        rw [Option.some.inj hpp]
        exact rfl
      have hln := HLn.out pp (List.mem_of_getElem? hpp)
      obtain ⟨b1, o1, rfl, x1, x2, x3, x4⟩ := SlR.at (show SlR wr _ _ from SlE.no eR_len (by decide) sR cw) k x hx
      obtain ⟨xc, xo, xa, xb⟩ := x
      simp only at hxc o3 x1 x2 x3 x4
      have o4 := o3.chg cw (fun _ _ h => h)
      obtain ⟨v1, v2, v3⟩ := o4.reads
      obtain ⟨q1, d1, rfl, _⟩ := id v1
      obtain ⟨q2, d2, rfl, _⟩ := id v2
      obtain ⟨q3, d3, rfl, _⟩ := id v3
      have HXC : Hid (xc = pp.c) := hxc
      clear hx hpp hkr hkp o3 o4 hxc
      have cb : Chg No wr (wr.alloc (.cells #[.bool xc, .slice q1 (pp.o.map Value.string).length d1, .slice q2 (pp.a.map Value.string).length d2, .slice q3 (pp.b.map Value.string).length d3] 42)) := (Chg.refl _ wr).alloc _
      have bx : Box4 (wr.alloc (.cells #[.bool xc, .slice q1 (pp.o.map Value.string).length d1, .slice q2 (pp.a.map Value.string).length d2, .slice q3 (pp.b.map Value.string).length d3] 42)) wr.heap.size (.bool xc) _ _ _ := World.alloc_heap_new wr _
      have hr1 := hr.alloc (.cells #[.bool xc, .slice q1 (pp.o.map Value.string).length d1, .slice q2 (pp.a.map Value.string).length d2, .slice q3 (pp.b.map Value.string).length d3] 42)
      have w1' := v1.no cb
      have w2' := v2.no cb
      have w3' := v3.no cb
      have hch := choice_in xc _ _ _ pp _ w1' w2' w3' hln.1 hln.2.1 hln.2.2
      generalize (pp.o.map Value.string).length = n1 at *
      generalize (pp.a.map Value.string).length = n2 at *
      generalize (pp.b.map Value.string).length = n3 at *
      obtain ⟨a0, a1, a2, a3⟩ := bx.cells
      clear v1 v2 v3
      cases xc with
      | true =>
        obtain rfl : tot = none := by
          have := HT.out
          rw [HTk.out, gather_cons, if_pos HXC.out.symm] at this
          exact this.symm
        clear hch
        gi_wp2
        go_ret2
        exact ⟨rfl, Chg.seq (Chg.seq cP cw) cb⟩
      | false =>
        have HT2 : Hid ((gather (ps.drop (k + 1))).map (fun t => (acc ++ pick pp) ++ t) = tot) := by
          have := HT.out
          rw [HTk.out, gather_cons, if_neg (by rw [← HXC.out]; simp), Option.map_map] at this
          rw [← this]
          show _ = _
          congr 1
          funext t
          simp
        have HPk : Hid (∀ W, Chg No (wr.alloc (.cells #[.bool false, .slice q1 n1 d1, .slice q2 n2 d2, .slice q3 n3 d3] 42)) W → SlV W (if pp.a = pp.b ∨ pp.b = pp.o then .slice q2 n2 d2 else .slice q3 n3 d3) ((pick pp).map Value.string)) := fun W c => by
          unfold pick
          split
          · exact w2'.no c
          · exact w3'.no c
        have hpk : (pick pp).length ≤ 400 := by unfold pick; split; exact hln.2.1; exact hln.2.2
        obtain ⟨vr, hvr⟩ : ∃ v, (if pp.a = pp.b ∨ pp.b = pp.o then (.slice q2 n2 d2 : Value) else .slice q3 n3 d3) = v := ⟨_, rfl⟩
        rw [hvr] at hch HPk
        clear hvr w1' w2' w3'
        have cb2 := Chg.seq cw cb
        gi_wp2_with fail
        generalize wr.alloc (.cells #[.bool false, .slice q1 n1 d1, .slice q2 n2 d2, .slice q3 n3 d3] 42) = W1 at *
        refine ⟨trivial, rfl, hch.mono ?_⟩
        rintro e W2 ⟨rfl, k2⟩
        have sP := HPk.out W2 k2
        have hr2 := own_still hr1 k2 (fun _ _ h => h)
        have cb3 := Chg.seq cb2 k2
        obtain ⟨pv, cv, rfl, _⟩ := id sP
        obtain ⟨nv, HNV⟩ : ∃ n, Hid (((pick pp).map Value.string).length = n) := ⟨_, rfl⟩
        rw [HNV.out] at sP ⊢
        have hnv : nv ≤ 400 := by rw [← HNV.out, List.length_map]; exact hpk
        have hbs := cb3.size
        have hka : k * 400 ≤ 801 * 400 := Nat.mul_le_mul_right _ (by omega)
        clear hch HPk a0 a1 a2 a3
        gi_wp2_with (gi_at_builtin; refine wpListIn_append_sv _ rfl _ _ rfl wP.heap.size _ acc.length _ rfl hr2 pv nv cv (pick pp) rfl sP (by omega) hbs ?_; intro v5 W5 hown5 hgrow5 hat5)
        have c5 : Chg No wP W5 := cb3.grown hgrow5 (fun k e => .inr (hr2.lt k e).1)
        have hlen : (acc ++ pick pp).length = acc.length + nv := by rw [List.length_append, ← HNV.out, List.length_map]
        go_roundw
        case rel => exact ⟨k + 1, acc ++ pick pp, hlt, by go_num, by rw [hlen, Nat.succ_mul]; omega, by rw [hlen, List.map_append]; exact hown5, HT2, c5⟩
        case measure => simp [intOf]; omega
    · obtain rfl : k = np := by omega
      have hlt' : ¬ (k : Int) < (k : Int) := by omega
      obtain rfl : tot = some acc := by
        have := HT.out
        rw [List.drop_eq_nil_of_le (by rw [HNS.out]; exact Nat.le_refl _)] at this
        rw [← this]
        simp [gather]
      gi_wp2
      go_ret2
      exact ⟨⟨_, rfl, rowBase hr cP.size⟩, Chg.seq cP cw⟩

end Go.Proofs.Ytookalebfbkedaa
