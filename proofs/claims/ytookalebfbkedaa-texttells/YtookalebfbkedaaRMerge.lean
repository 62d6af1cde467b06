/-
  The reference's own Merge, of chapter 5.
-/
import Derived.Test.YtookalebfbkedaaRParts
namespace Go.Proofs.Ytookalebfbkedaa
open Go.RowKit Go.Shelf Go.SeqLib Go.DiffLib Go.BigFrame
attribute [local go_sem] Oper.semAt_some

theorem boxR {W W' : World} {B : Nat} {c x y z : Value} (h : W.heap[B]? = some (.cells #[c, x, y, z] 45)) (k : Chg No W W') : W'.heap[B]? = some (.cells #[c, x, y, z] 45) ∧ W'.cell? ⟨B, 0, none⟩ = some c ∧ W'.cell? ⟨B, 1, none⟩ = some x ∧ W'.cell? ⟨B, 2, none⟩ = some y ∧ W'.cell? ⟨B, 3, none⟩ = some z := by
  have h1 := k.same h (fun h => h)
  refine ⟨h1, ?_⟩
  simp [World.cell?, h1]

set_option maxRecDepth 100000 in
set_option maxHeartbeats 8000000 in
theorem refMerge_in (vo va vb : Value) (o a b : List ByteArray) (w : World) (hv : SlV w vo (o.map Value.string)) (hu : SlV w va (a.map Value.string)) (ht : SlV w vb (b.map Value.string)) (ho : o.length ≤ 400) (ha : a.length ≤ 400) (hb : b.length ≤ 400) :
    CallsIn Fence.wide 0 Try.prog 18 #[vo, va, vb] w fun e w' => appRes w (mrg o a b) e w' ∧ Chg No w w' := by
  have hP := refParts_in vo va vb o a b w hv hu ht ho ha hb
  have hpl := parts_length o a b
  have hlens := parts_lens o a b
  obtain ⟨p, cp, rfl, _⟩ := id hv
  obtain ⟨q, cq, rfl, _⟩ := id hu
  obtain ⟨r, cr, rfl, _⟩ := id ht
  have b1 : ¬ (400 : Int) < ((o.map Value.string).length : Int) := by rw [List.length_map]; omega
  have b2 : ¬ (400 : Int) < ((a.map Value.string).length : Int) := by rw [List.length_map]; omega
  have b3 : ¬ (400 : Int) < ((b.map Value.string).length : Int) := by rw [List.length_map]; omega
  clear hv hu ht
  generalize (o.map Value.string).length = lo at *
  generalize (a.map Value.string).length = la at *
  generalize (b.map Value.string).length = lb at *
  have HLn : Hid (∀ p ∈ parts o a b, p.o.length ≤ 400 ∧ p.a.length ≤ 400 ∧ p.b.length ≤ 400) := fun p hp => by have := hlens p hp; omega
  unfold mrg
  generalize parts o a b = ps at *
  have hpl' : ps.length ≤ 801 := by omega
  clear hlens hpl ho ha hb
  obtain ⟨tot, HTot⟩ : ∃ t, Hid (gather ps = t) := ⟨_, rfl⟩
  rw [HTot.out]
  refine callsIn_of_wp Try.func18 rfl trivial ?_
  simp only [Try.ntmps18, List.size_toArray, List.length_cons, List.length_nil, Nat.reduceAdd, Nat.reduceSub, Array.replicate_succ, Array.replicate_zero, List.push_toArray, List.append_toArray, List.nil_append, List.cons_append]
  gi_wp2_with fail
  refine ⟨trivial, rfl, hP.mono ?_⟩
  rintro e wP ⟨vP, rfl, ⟨rs, PA⟩, cP⟩
  clear hP
  have sR : SlR wP vP rs := SlE.ofRow eR_len PA.row
  obtain ⟨pP, ccP, rfl⟩ := row_slice PA.row
  have hrl := PA.len
  obtain ⟨np, HNP⟩ : ∃ n, Hid (rs.length = n) := ⟨_, rfl⟩
  have HNS : Hid (ps.length = np) := by show _ = _; rw [← hrl, HNP.out]
  rw [HNP.out] at sR ⊢
  rw [HNS.out] at hpl'
  clear hrl
  gi_wp2
  gi_loopw [9, 10] (fun v8 i wr => ∃ (k : Nat) (acc : List ByteArray), k ≤ np ∧ i = .int .i64 (k : Int) ∧ acc.length ≤ k * 400 ∧ wr.ownsRow wP.heap.size 9 1 v8 acc.length (acc.map Value.string) ∧ Hid ((gather (ps.drop k)).map (fun t => acc ++ t) = tot) ∧ Chg No wP wr) (fun v8 i _ => np - (intOf i).toNat)
  case atStart => exact ⟨0, [], Nat.zero_le _, rfl, by simp, World.ownsRow_nil _ _ _ _, by show _ = _; rw [← HTot.out, List.drop_zero]; cases gather ps <;> rfl, Chg.refl _ _⟩
  case round =>
    obtain ⟨k, acc, hk, rfl, hacc, hr, HT, cw⟩ := hrel
    obtain ⟨p8, c8, rfl⟩ := row_slice hr
    by_cases hlt : k < np
    · have hlt' : (k : Int) < (np : Int) := by omega
      have hkr : k < rs.length := by rw [HNP.out]; exact hlt
      obtain ⟨x, hx⟩ : ∃ x, rs[k]? = some x := ⟨_, List.getElem?_eq_getElem hkr⟩
      obtain ⟨pp, hpp, hxc, o3⟩ := PA.at hx
      have hkp : k < ps.length := by rw [HNS.out]; exact hlt
      have HTk : Hid (ps.drop k = pp :: ps.drop (k + 1)) := by
        rw [List.drop_eq_getElem_cons hkp]
        rw [List.getElem?_eq_getElem hkp] at hpp
        rw [Option.some.inj hpp]
        exact rfl
      have hln := HLn.out pp (List.mem_of_getElem? hpp)
      obtain ⟨b1, o1, rfl, x1, x2, x3, x4⟩ := SlR.at (show SlR wr _ _ from SlE.no eR_len (by decide) sR cw) k x hx
      obtain ⟨xc, xo, xa, xb⟩ := x
      simp only at hxc o3 x1 x2 x3 x4
      have HXC : Hid (xc = pp.c) := hxc
      obtain ⟨⟨v1, v2, v3⟩, _⟩ := o3.chg cw (fun _ _ h => h)
      obtain ⟨q1, d1, rfl, _⟩ := id v1
      obtain ⟨q2, d2, rfl, _⟩ := id v2
      obtain ⟨q3, d3, rfl, _⟩ := id v3
      rw [List.length_map] at v1 v2 v3 x2 x3 x4
      clear hx hpp hkr hkp o3 hxc
      obtain ⟨n1, HN1⟩ : ∃ n, Hid (pp.o.length = n) := ⟨_, rfl⟩
      obtain ⟨n2, HN2⟩ : ∃ n, Hid (pp.a.length = n) := ⟨_, rfl⟩
      obtain ⟨n3, HN3⟩ : ∃ n, Hid (pp.b.length = n) := ⟨_, rfl⟩
      rw [HN1.out] at v1 x2 hln
      rw [HN2.out] at v2 x3 hln
      rw [HN3.out] at v3 x4 hln
      have cb : Chg No wr (wr.alloc (.cells #[.bool xc, .slice q1 n1 d1, .slice q2 n2 d2, .slice q3 n3 d3] 45)) := (Chg.refl _ wr).alloc _
      have bx : (wr.alloc (.cells #[.bool xc, .slice q1 n1 d1, .slice q2 n2 d2, .slice q3 n3 d3] 45)).heap[wr.heap.size]? = some (.cells #[.bool xc, .slice q1 n1 d1, .slice q2 n2 d2, .slice q3 n3 d3] 45) := World.alloc_heap_new wr _
      have hr1 := hr.alloc (.cells #[.bool xc, .slice q1 n1 d1, .slice q2 n2 d2, .slice q3 n3 d3] 45)
      have w1' := v1.no cb
      have w2' := v2.no cb
      have w3' := v3.no cb
      obtain ⟨_, a0, a1, a2, a3⟩ := boxR bx (Chg.refl No _)
      clear v1 v2 v3
      have hka : k * 400 ≤ 801 * 400 := Nat.mul_le_mul_right _ (by omega)
      cases xc with
      | true =>
        obtain rfl : tot = none := by
          have := HT.out
          rw [HTk.out, gather_cons, if_pos HXC.out.symm] at this
          exact this.symm
        gi_wp2
        go_ret2
        exact ⟨rfl, Chg.seq (Chg.seq cP cw) cb⟩
      | false =>
        have HT2 : Hid ((gather (ps.drop (k + 1))).map (fun t => (acc ++ pick pp) ++ t) = tot) := by
          have := HT.out
          rw [HTk.out, gather_cons, if_neg (by rw [← HXC.out]; simp), Option.map_map] at this
          rw [← this]
          show _ = _
          congr 1
          funext t
          simp
        have cb2 := Chg.seq cw cb
        gi_wp2_with fail
        generalize wr.alloc (.cells #[.bool false, .slice q1 n1 d1, .slice q2 n2 d2, .slice q3 n3 d3] 45) = W1 at *
        refine ⟨trivial, rfl, (refSame_in _ _ pp.a pp.b W1 w2' w3').mono ?_⟩
        rintro e W2 ⟨rfl, k2⟩
        obtain ⟨bx2, e0, e1, e2, e3⟩ := boxR bx k2
        have hr2 := own_still hr1 k2 (fun _ _ h => h)
        have u1' := w1'.no k2
        have u2' := w2'.no k2
        have u3' := w3'.no k2
        have cb3 := Chg.seq cb2 k2
        have hbs := cb3.size
        clear a0 a1 a2 a3 w1' w2' w3' bx hr1 hr cb
        by_cases h1 : pp.a = pp.b
        · have HP : Hid (pick pp = pp.a) := if_pos (.inl h1)
          rw [decide_eq_true h1]
          clear h1
          gi_wp2_with fail
          refine ⟨trivial, ?_⟩
          rename_i hKK
          apply hKK
          gi_wp2_with (gi_at_builtin; refine wpListIn_append_sv _ rfl _ _ rfl wP.heap.size _ acc.length _ rfl hr2 q2 n2 d2 pp.a rfl u2' (by omega) hbs ?_; intro v5 W5 hown5 hgrow5 hat5)
          have c5 : Chg No wP W5 := cb3.grown hgrow5 (fun k e => .inr (hr2.lt k e).1)
          have hlen : (acc ++ pick pp).length = acc.length + n2 := by rw [HP.out, List.length_append, HN2.out]
          go_roundw
          case rel => exact ⟨k + 1, acc ++ pick pp, hlt, by go_num, by rw [hlen, Nat.succ_mul]; omega, by rw [hlen, HP.out, List.map_append]; exact hown5, HT2, c5⟩
          case measure => simp [intOf]; omega
        · rw [decide_eq_false h1]
          gi_wp2_with fail
          refine ⟨trivial, rfl, (refSame_in _ _ pp.b pp.o W2 u3' u1').mono ?_⟩
          rintro e W3 ⟨rfl, k3⟩
          obtain ⟨bx3, f0, f1, f2, f3⟩ := boxR bx2 k3
          have hr3 := own_still hr2 k3 (fun _ _ h => h)
          have y2' := u2'.no k3
          have y3' := u3'.no k3
          have cb4 := Chg.seq cb3 k3
          have hbs4 := cb4.size
          clear e0 e1 e2 e3 u1' u2' u3' bx2 hr2
          by_cases h2 : pp.b = pp.o
          · have HP : Hid (pick pp = pp.a) := if_pos (.inr h2)
            rw [decide_eq_true h2]
            clear h1 h2
            gi_wp2_with (gi_at_builtin; refine wpListIn_append_sv _ rfl _ _ rfl wP.heap.size _ acc.length _ rfl hr3 q2 n2 d2 pp.a rfl y2' (by omega) hbs4 ?_; intro v5 W5 hown5 hgrow5 hat5)
            have c5 : Chg No wP W5 := cb4.grown hgrow5 (fun k e => .inr (hr3.lt k e).1)
            have hlen : (acc ++ pick pp).length = acc.length + n2 := by rw [HP.out, List.length_append, HN2.out]
            go_roundw
            case rel => exact ⟨k + 1, acc ++ pick pp, hlt, by go_num, by rw [hlen, Nat.succ_mul]; omega, by rw [hlen, HP.out, List.map_append]; exact hown5, HT2, c5⟩
            case measure => simp [intOf]; omega
          · have HP : Hid (pick pp = pp.b) := if_neg (by rintro (h | h); exact h1 h; exact h2 h)
            rw [decide_eq_false h2]
            clear h1 h2
            gi_wp2_with (gi_at_builtin; refine wpListIn_append_sv _ rfl _ _ rfl wP.heap.size _ acc.length _ rfl hr3 q3 n3 d3 pp.b rfl y3' (by omega) hbs4 ?_; intro v5 W5 hown5 hgrow5 hat5)
            have c5 : Chg No wP W5 := cb4.grown hgrow5 (fun k e => .inr (hr3.lt k e).1)
            have hlen : (acc ++ pick pp).length = acc.length + n3 := by rw [HP.out, List.length_append, HN3.out]
            go_roundw
            case rel => exact ⟨k + 1, acc ++ pick pp, hlt, by go_num, by rw [hlen, Nat.succ_mul]; omega, by rw [hlen, HP.out, List.map_append]; exact hown5, HT2, c5⟩
            case measure => simp [intOf]; omega
    · obtain rfl : k = np := by omega
      have hlt' : ¬ (k : Int) < (k : Int) := by omega
      obtain rfl : tot = some acc := by
        have := HT.out
        rw [List.drop_eq_nil_of_le (by rw [HNS.out]; exact Nat.le_refl _)] at this
        rw [← this]
        simp [gather]
      gi_wp2
      go_ret2
      exact ⟨⟨_, rfl, rowBase hr cP.size⟩, Chg.seq cP cw⟩

end Go.Proofs.Ytookalebfbkedaa
