/-
  three's own standing, at texts.
-/
import Derived.Test.YtookalebfbkedaaTOn
import Derived.Test.YtookalebfbkedaaLoudP
import Derived.Test.YtookalebfbkedaaDPairs
namespace Go.Proofs.Ytookalebfbkedaa
open Go.RowKit Go.Shelf Go.SeqLib Go.DiffLib Go.BigFrame
attribute [local go_sem] Oper.semAt_some

theorem pairBox (w : World) (x y : Int) : (w.alloc (.cells #[.int .i64 x, .int .i64 y] 78)).cell? ⟨w.heap.size, 0, none⟩ = some (.int .i64 x) ∧ (w.alloc (.cells #[.int .i64 x, .int .i64 y] 78)).cell? ⟨w.heap.size, 1, none⟩ = some (.int .i64 y) :=
  ⟨World.cell?_alloc_at _ _ _ _ rfl, World.cell?_alloc_at _ _ _ _ rfl⟩

theorem chgCell {S : Blk} {w w' : World} (c : Chg S w w') {p : Addr} {v : Value} (h : w.cell? p = some v) (hp : ¬ S p.block) : w'.cell? p = some v :=
  (World.cell?_of_block (a := p) (c.block p.block (World.block_lt_of_cell? w _ h) hp)).trans h

theorem row_keptN {W W' : World} {base : Nat} {e : TypeId} {s : Nat} {v : Value} {n : Nat} {xs : List Value} (h : W.ownsRow base e s v n xs) (hk : ∀ k, v.ownBlock = some k → W'.heap[k]? = W.heap[k]?) : W'.ownsRow base e s v n xs := by
  refine ⟨h.1, ?_⟩
  rcases h.2 with hn | ⟨g, cap, cur, rfl, hb, hgg, rest⟩
  · exact .inl hn
  · exact .inr ⟨g, cap, cur, rfl, hb, (hk g rfl).trans hgg, rest⟩

set_option maxRecDepth 100000 in
set_option maxHeartbeats 4000000 in
theorem standing_in (v u t : Value) (o a b : List ByteArray) (w : World) (hv : SlV w v (o.map Value.string)) (hu : SlV w u (a.map Value.string)) (ht : SlV w t (b.map Value.string)) (ho : o.length ≤ 400) (ha : a.length ≤ 400) (hb : b.length ≤ 400) :
    CallsIn Fence.wide 0 Try.prog 33 #[v, u, t] w fun e w' => ∃ v', e = .returned v' ∧ w'.ownsRow w.heap.size 56 3 v' (std o a b).length ((std o a b).flatMap eT) ∧ Chg No w w' := by
  have hmix : Try.prog.follows .mixedOrders = true := by kernel_rfl
  obtain ⟨i0, hi, hz0, hz1, hz2⟩ := info_parts info56
  have hlen := std_length o a b
  unfold std at hlen ⊢
  have hP1 := pairs_in _ _ o b w hv ht ho hb
  have hP2 : ∀ w1, Chg No w w1 → _ := fun w1 c1 => pairs_in _ _ o a w1 (hv.no c1) (hu.no c1) ho ha
  obtain ⟨p, cp, rfl, _⟩ := id hv
  obtain ⟨q, cq, rfl, _⟩ := id hu
  obtain ⟨r, cr, rfl, _⟩ := id ht
  clear hv hu ht
  generalize (o.map Value.string).length = lo at *
  generalize (a.map Value.string).length = la at *
  generalize (b.map Value.string).length = lb at *
  have hl1 : (pr o a 0 0).length ≤ 400 := by rw [pr_length]; exact Nat.le_trans (tl_le o a).1 ho
  have hl2 : (pr o b 0 0).length ≤ 400 := by rw [pr_length]; exact Nat.le_trans (tl_le o b).1 ho
  generalize pr o a 0 0 = ps0 at *
  generalize pr o b 0 0 = qs0 at *
  obtain ⟨tot, HTot⟩ : ∃ t, Hid (sd ps0 qs0 = t) := ⟨_, rfl⟩
  rw [HTot.out] at hlen ⊢
  have HB : Hid (tot.length ≤ 400) := Nat.le_trans hlen ho
  clear hlen ho ha hb
  refine callsIn_of_wp Try.func33 rfl trivial ?_
  simp only [Try.ntmps33, List.size_toArray, List.length_cons, List.length_nil, Nat.reduceAdd, Nat.reduceSub, Array.replicate_succ, Array.replicate_zero, List.push_toArray, List.append_toArray, List.nil_append, List.cons_append]
  gi_wp2_with fail
  refine ⟨trivial, rfl, hP1.mono ?_⟩
  rintro e w1 ⟨vq, rfl, rq, c1⟩
  have sq1 : SlP w1 vq qs0 := SlE.ofRow eP_len rq
  obtain ⟨pq, cpq, rfl⟩ := row_slice rq
  have hP2' := hP2 w1 c1
  clear hP1 hP2 rq
  obtain ⟨nq, HNQ⟩ : ∃ n, Hid (qs0.length = n) := ⟨_, rfl⟩
  rw [HNQ.out] at sq1 hl2 ⊢
  gi_wp2_with fail
  refine ⟨trivial, rfl, hP2'.mono ?_⟩
  rintro e w2 ⟨vp, rfl, rp, c2⟩
  have sp : SlP w2 vp ps0 := SlE.ofRow eP_len rp
  have sq : SlP w2 (.slice pq nq cpq) qs0 := SlE.no eP_len (by decide) sq1 c2
  obtain ⟨pp, cpp, rfl⟩ := row_slice rp
  have c02 := Chg.seq c1 c2
  clear hP2' rp sq1
  obtain ⟨np, HNP⟩ : ∃ n, Hid (ps0.length = n) := ⟨_, rfl⟩
  rw [HNP.out] at sp hl1 ⊢
  gi_wp2
  gi_loopw [7, 8, 18] (fun v7 v8 i wr => ∃ (acc : List Pl) (qs : List (Nat × Nat)) (k nr : Nat) (pr : Option Addr) (cpr : Nat), k ≤ np ∧ i = .int .i64 (k : Int) ∧ v8 = .slice pr nr cpr ∧ Hid (qs.length = nr) ∧ nr ≤ 400 ∧ SlP w2 (.slice pr nr cpr) qs ∧ Hid (acc ++ sd (ps0.drop k) qs = tot) ∧ wr.ownsRow w2.heap.size 56 3 v7 acc.length (acc.flatMap eT) ∧ Chg No w2 wr) (fun v7 v8 i _ => np - (intOf i).toNat)
  case atStart => exact ⟨[], qs0, 0, nq, pq, cpq, Nat.zero_le _, rfl, rfl, HNQ, hl2, sq, by show _ = _; simpa using HTot.out, World.ownsRow_nil _ _ _ _, Chg.refl _ _⟩
  case round =>
    obtain ⟨acc, qs, k, nr, prr, cpr, hk, rfl, rfl, HNR, hnr, sR, HA, hr, cw⟩ := hrel
    obtain ⟨pr0, cr0, rfl⟩ := row_slice hr
    by_cases hlt : k < np
    · have hlt' : (k : Int) < (np : Int) := by omega
      have hkp : k < ps0.length := by rw [HNP.out]; exact hlt
      obtain ⟨x, hx⟩ : ∃ x, ps0[k]? = some x := ⟨_, List.getElem?_eq_getElem hkp⟩
      have HTk : Hid (ps0.drop k = x :: ps0.drop (k + 1)) := by
        rw [List.drop_eq_getElem_cons hkp]
        rw [List.getElem?_eq_getElem hkp] at hx
        rw [Option.some.inj hx]
        exact rfl
      obtain ⟨bp, op, rfl, x1, x2⟩ := SlP.at (show SlP wr _ _ from SlE.no eP_len (by decide) sp cw) k x hx
      obtain ⟨xa, xb⟩ := x
      simp only at x1 x2
      clear hx hkp
      obtain ⟨y1, y2⟩ := pairBox wr (xa : Int) (xb : Int)
      have cw1 : Chg No w2 (wr.alloc (.cells #[.int .i64 (xa : Int), .int .i64 (xb : Int)] 78)) := cw.alloc _
      have hr1 := hr.alloc (.cells #[.int .i64 (xa : Int), .int .i64 (xb : Int)] 78)
      have hBn : ∀ k, Value.ownBlock (.slice pr0 acc.length cr0) = some k → w2.heap.size ≤ k ∧ k ≠ wr.heap.size := fun k hk => by
        have := hr.lt k hk
        omega
      gi_wp2
      generalize wr.alloc (.cells #[.int .i64 (xa : Int), .int .i64 (xb : Int)] 78) = W1 at *
      generalize wr.heap.size = B at *
      have HA1 : Hid (acc ++ (hd3 (xa, xb) (dw xa qs) ++ sd (ps0.drop (k + 1)) (dw xa qs)) = tot) := by
        have := HA.out
        rw [HTk.out] at this
        exact this
      clear x1 x2 cw hr HA
      gi_loopw [8] (fun v8 wi => ∃ (qs1 : List (Nat × Nat)) (n1 : Nat) (p1 : Option Addr) (c1 : Nat), v8 = .slice p1 n1 c1 ∧ Hid (qs1.length = n1) ∧ n1 ≤ 400 ∧ SlP w2 (.slice p1 n1 c1) qs1 ∧ Hid (dw xa qs = dw xa qs1) ∧ Chg No W1 wi) (fun v8 _ => match v8 with | .slice _ n _ => n | _ => 0)
      case atStart => exact ⟨qs, nr, prr, cpr, rfl, HNR, hnr, sR, rfl, Chg.refl _ _⟩
      case round =>
        obtain ⟨qs1, n1, p1, c1', rfl, HN1, hn1, sR1, HD, ci⟩ := hrel
        have cw2 := Chg.seq cw1 ci
        have z1 := chgCell ci y1 (fun h => h)
        have z2 := chgCell ci y2 (fun h => h)
        have hr2 := row_keptN hr1 (fun k hk => ci.block k (hr1.lt k hk).2 (fun h => h))
        cases qs1 with
        | nil =>
          obtain rfl : n1 = 0 := by have := HN1.out; simp at this; omega
          have HA2 : Hid (acc ++ sd (ps0.drop (k + 1)) [] = tot) := by
            have := HA1.out
            rw [HD.out] at this
            show _ = _
            simpa [dw, hd3] using this
          have hg : decide ((0 : Int) < ((0 : Nat) : Int)) = false := by simp
          have hg' : decide ((0 : Int) < 0) = false := by simp
          gi_wp2
          refine wpIn_region_quiet_lit rfl hmix (by kernel_rfl) ?_
          repeat (gi_big_quiet_step (fail))
          refine wpQuietIn_nil ?_
          rintro w' ⟨j1, rfl⟩
          gi_wp2
          refine wpIn_region_quiet_lit rfl hmix (by kernel_rfl) ?_
          repeat (gi_big_quiet_step (fail))
          refine wpQuietIn_nil ?_
          rintro w' ⟨j2, rfl⟩
          gi_wp2
          go_roundw
          case rel => exact ⟨acc, [], k + 1, 0, p1, c1', hlt, by go_num, rfl, rfl, Nat.zero_le _, sR1, HA2, hr2, drewNC cw2 _⟩
          case measure => simp [intOf]; omega
        | cons y qs2 =>
          have hpos : 0 < n1 := by have := HN1.out; simp at this; omega
          have hg : decide ((0 : Int) < (n1 : Int)) = true := decide_eq_true (by omega)
          have hg' : (0 : Int) < (n1 : Int) := by omega
          obtain ⟨bq, oq, rfl, q1, q2⟩ := SlP.at (show SlP wr _ _ from SlE.no eP_len (by decide) sR1 cw2) 0 y rfl
          simp only [Nat.zero_mul, Nat.add_zero] at q1 q2
          obtain ⟨ya, yb⟩ := y
          simp only at q1 q2
          by_cases hlt2 : ya < xa
          · have hl2 : decide ((ya : Int) < (xa : Int)) = true := decide_eq_true (by omega)
            have hl2' : (ya : Int) < (xa : Int) := by omega
            obtain ⟨p3, c3, s3, _, hcut⟩ := SlE.low Try.underlying76 size_pair sR1 HN1.out 1 hpos .i64
            have HD2 : Hid (dw xa qs = dw xa qs2) := by
              show _ = _
              rw [HD.out, dw_step, if_pos hlt2]
            have HN2 : Hid (qs2.length = n1 - 1) := by have := HN1.out; rw [List.length_cons] at this; show _ = _; omega
            have hcut' : ∀ w, (Instr.sliceAt 76 (.slice (some ⟨bq, oq, none⟩) n1 c1') (some (.int .i64 1)) none none).run Try.prog w = .ok (.slice p3 (n1 - 1) c3) w := hcut
            have hn3 : n1 - 1 < n1 := by omega
            have hn3' : n1 - 1 ≤ 400 := by omega
            generalize n1 - 1 = n3 at *
            gi_wp2
            refine wpIn_region_quiet_lit rfl hmix (by kernel_rfl) ?_
            repeat (gi_big_quiet_step (fail))
            refine wpQuietIn_nil ?_
            rintro w' ⟨j1, rfl⟩
            gi_wp2
            go_roundw
            case rel => exact ⟨qs2, n3, p3, c3, rfl, HN2, hn3', s3, HD2, drewNC ci _⟩
            case measure => simpa using hn3
          · have hl2 : decide ((ya : Int) < (xa : Int)) = false := decide_eq_false (by omega)
            have HD2 : Hid (dw xa qs = (ya, yb) :: qs2) := by
              show _ = _
              rw [HD.out, dw_step, if_neg hlt2]
            by_cases heq : ya = xa
            · have he : ((ya : Int) == (xa : Int)) = true := by rw [heq]; simp
              have HA2 : Hid ((acc ++ [(xa, xb, yb)]) ++ sd (ps0.drop (k + 1)) ((ya, yb) :: qs2) = tot) := by
                have := HA1.out
                rw [HD2.out, hd3, if_pos heq] at this
                rw [List.append_assoc]
                exact this
              have hacc : acc.length + 1 ≤ 400 := by
                have h9 := congrArg List.length HA2.out
                have := HB.out
                simp only [List.length_append, List.length_singleton] at h9
                omega
              have hmx : acc.length + 1 ≤ maxLen := by unfold maxLen; omega
              clear heq
              gi_wp2
              refine wpIn_region_quiet_lit rfl hmix (by kernel_rfl) ?_
              repeat (gi_big_quiet_step (fail))
              refine wpQuietIn_nil ?_
              rintro w' ⟨j1, rfl⟩
              gi_wp2
              refine wpIn_region_quiet_lit rfl hmix (by kernel_rfl) ?_
              repeat (gi_big_quiet_step (fail))
              refine wpQuietIn_nil ?_
              rintro w' ⟨j2, rfl⟩
              gi_wp2
              have cw3 : Chg No w2 ((wr.drewN j1).drewN j2) := drewNC (drewNC cw2 j1) j2
              have hr3 : ((wr.drewN j1).drewN j2).ownsRow w2.heap.size 56 3 (.slice pr0 acc.length cr0) acc.length (acc.flatMap eT) := hr2
              have k1 : ((wr.drewN j1).drewN j2).cell? ⟨B, 0, none⟩ = some (.int .i64 (xa : Int)) := z1
              have k2 : ((wr.drewN j1).drewN j2).cell? ⟨B, 1, none⟩ = some (.int .i64 (xb : Int)) := z2
              have k3 : ((wr.drewN j1).drewN j2).cell? ⟨bq, oq + 1, none⟩ = some (.int .i64 (yb : Int)) := q2
              generalize (wr.drewN j1).drewN j2 = W0 at *
              have hbq : bq < w2.heap.size := SlE.lt eP_len (by decide) sR1 bq ⟨by simp, rfl⟩
              have hany := AfterB.any (fun k => Value.ownBlock (.slice pr0 acc.length cr0) = some k) W0
              have f1 : ∀ c : AfterB (fun k => Value.ownBlock (.slice pr0 acc.length cr0) = some k) W0, c.val.cell? ⟨B, 0, none⟩ = some (.int .i64 (xa : Int)) := fun c => c.cell k1 (fun h => (hBn B h).2 rfl)
              have f2 : ∀ c : AfterB (fun k => Value.ownBlock (.slice pr0 acc.length cr0) = some k) W0, c.val.cell? ⟨B, 1, none⟩ = some (.int .i64 (xb : Int)) := fun c => c.cell k2 (fun h => (hBn B h).2 rfl)
              have f3 : ∀ c : AfterB (fun k => Value.ownBlock (.slice pr0 acc.length cr0) = some k) W0, c.val.cell? ⟨bq, oq + 1, none⟩ = some (.int .i64 (yb : Int)) := fun c => c.cell k3 (fun h => by have := (hBn bq h).1; omega)
              refine region_push 10 11 _ _ hmix (by kernel_rfl) (by kernel_rfl) rfl rfl (by kernel_rfl) rfl _ _ 57 rfl w2.heap.size 56 i0 (.agg #[.int .i64 0, .int .i64 0, .int .i64 0]) 3 24 Try.underlying57 hi hz0 hz1 hz2 rfl (by decide) (.slice pr0 acc.length cr0) acc.length (acc.flatMap eT) [.int .i64 (xa : Int), .int .i64 (xb : Int), .int .i64 (yb : Int)] hr3 rfl (by simp [Value.oneCell']) hmx (by omega) cw3.size ?_
              intro v1 v2
              simp only [hushE, Nat.reduceAdd, Nat.reduceBEq, Bool.or_self, Bool.or_true, Bool.or_false, if_true, if_false, Bool.false_eq_true]
              repeat (gi_big_quiet_step (fail))
              refine wpQuietIn_nil ⟨fun W => ?_, ⟨rfl, rfl⟩, ?_⟩
              · simp [execOp, go_sem]
              · intro W hown' c' hmv
                have c9 : Chg No w2 W := cw3.trans c' (fun k h => .inr (hBn k h).1)
                gi_wp2
                go_roundw
                case rel => exact ⟨acc ++ [(xa, xb, yb)], (ya, yb) :: qs2, k + 1, n1, _, c1', hlt, by go_num, rfl, HN1, hn1, sR1, HA2, by rw [List.length_append, List.flatMap_append]; exact hown', c9⟩
                case measure => simp [intOf]; omega
            · have he : ((ya : Int) == (xa : Int)) = false := by rw [beq_eq_false_iff_ne]; omega
              have HA2 : Hid (acc ++ sd (ps0.drop (k + 1)) ((ya, yb) :: qs2) = tot) := by
                have := HA1.out
                rw [HD2.out, hd3, if_neg heq, List.nil_append] at this
                exact this
              clear heq
              gi_wp2
              refine wpIn_region_quiet_lit rfl hmix (by kernel_rfl) ?_
              repeat (gi_big_quiet_step (fail))
              refine wpQuietIn_nil ?_
              rintro w' ⟨j1, rfl⟩
              gi_wp2
              refine wpIn_region_quiet_lit rfl hmix (by kernel_rfl) ?_
              repeat (gi_big_quiet_step (fail))
              refine wpQuietIn_nil ?_
              rintro w' ⟨j2, rfl⟩
              gi_wp2
              go_roundw
              case rel => exact ⟨acc, (ya, yb) :: qs2, k + 1, n1, _, c1', hlt, by go_num, rfl, HN1, hn1, sR1, HA2, hr2, drewNC cw2 _⟩
              case measure => simp [intOf]; omega
    · obtain rfl : k = np := by omega
      have hlt' : ¬ (k : Int) < (k : Int) := by omega
      have HD : Hid (acc = tot) := by
        have := HA.out
        rw [List.drop_eq_nil_of_le (by rw [HNP.out]; exact Nat.le_refl _)] at this
        show _ = _
        simpa [sd] using this
      have hres : wr.ownsRow w.heap.size 56 3 (.slice pr0 acc.length cr0) tot.length (tot.flatMap eT) := by
        have := rowBase hr c02.size
        rw [HD.out] at this ⊢
        exact this
      gi_wp2
      go_ret
      exact ⟨_, rfl, hres, Chg.seq c02 cw⟩

end Go.Proofs.Ytookalebfbkedaa
