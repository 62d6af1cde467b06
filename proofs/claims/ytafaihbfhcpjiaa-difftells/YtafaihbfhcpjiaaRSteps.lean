/-
  The reference's own Steps.
-/
import Derived.Test.YtafaihbfhcpjiaaRPairs
import Derived.Sort.CutIn
namespace Go.Proofs.Ytafaihbfhcpjiaa
open Go.RowKit Go.Shelf Go.SeqLib Go.DiffLib Go.BigFrame
attribute [local go_sem] Oper.semAt_some

theorem row_keptS {W W' : World} {base : Nat} {e : TypeId} {s : Nat} {v : Value} {n : Nat} {xs : List Value} (h : W.ownsRow base e s v n xs) (hk : ∀ k, v.ownBlock = some k → W'.heap[k]? = W.heap[k]?) : W'.ownsRow base e s v n xs := by
  refine ⟨h.1, ?_⟩
  rcases h.2 with hn | ⟨g, cap, cur, rfl, hb, hgg, rest⟩
  · exact .inl hn
  · exact .inr ⟨g, cap, cur, rfl, hb, (hk g rfl).trans hgg, rest⟩

/-- A step in a box. -/
def Box3 (W : World) (B : Nat) (x y z : Int) : Prop := W.heap[B]? = some (.cells #[.int .i64 x, .int .i64 y, .int .i64 z] 40 (0, 0))
section
variable {W W' : World} {B : Nat} {x y z : Int}
theorem Box3.new (w : World) (x y z : Int) : Box3 (w.alloc (.cells #[.int .i64 x, .int .i64 y, .int .i64 z] 40)) w.heap.size x y z := World.alloc_heap_new w _
theorem Box3.lt (h : Box3 W B x y z) : B < W.heap.size := (Array.getElem?_eq_some_iff.1 h).1
theorem Box3.c0 (h : Box3 W B x y z) : W.cell? ⟨B, 0, none⟩ = some (.int .i64 x) := by unfold Box3 at h; simp [World.cell?, h]
theorem Box3.c1 (h : Box3 W B x y z) : W.cell? ⟨B, 1, none⟩ = some (.int .i64 y) := by unfold Box3 at h; simp [World.cell?, h]
theorem Box3.c2 (h : Box3 W B x y z) : W.cell? ⟨B, 2, none⟩ = some (.int .i64 z) := by unfold Box3 at h; simp [World.cell?, h]
theorem Box3.fr (h : Box3 W B x y z) (i : Nat) : W.frozen? ⟨B, i, none⟩ = false := by unfold Box3 at h; simp [World.frozen?, h]
theorem Box3.s0 (h : Box3 W B x y z) (u : Int) : Box3 (W.setCell ⟨B, 0, none⟩ (.int .i64 u)) B u y z := by
  unfold Box3 at h ⊢; simp [World.setCell, Array.getElem?_modify, h]
theorem Box3.s1 (h : Box3 W B x y z) (u : Int) : Box3 (W.setCell ⟨B, 1, none⟩ (.int .i64 u)) B x u z := by
  unfold Box3 at h ⊢; simp [World.setCell, Array.getElem?_modify, h]
theorem Box3.s2 (h : Box3 W B x y z) (u : Int) : Box3 (W.setCell ⟨B, 2, none⟩ (.int .i64 u)) B x y u := by
  unfold Box3 at h ⊢; simp [World.setCell, Array.getElem?_modify, h]
theorem Box3.no (h : Box3 W B x y z) (c : Chg No W W') : Box3 W' B x y z := c.same h (fun h => h)
end

set_option maxRecDepth 100000 in
set_option maxHeartbeats 8000000 in
theorem refSteps_in (v u : Value) (a b : List ByteArray) (w : World) (hv : SlV w v (a.map Value.string)) (hu : SlV w u (b.map Value.string)) (ha : a.length ≤ 400) (hb : b.length ≤ 400) :
    CallsIn Fence.wide 0 Try.prog 20 #[v, u] w fun e w' => ∃ v', e = .returned v' ∧ w'.ownsRow w.heap.size 40 3 v' (stp a b).length ((stp a b).flatMap eS) ∧ Chg No w w' := by
  have hmix : Try.prog.follows .mixedOrders = true := by kernel_rfl
  obtain ⟨i0, hi, hz0, hz1, hz2⟩ := info_parts info40
  obtain ⟨p, cp, rfl, hp1, hp2, hpc⟩ := id hv
  obtain ⟨q, cq, rfl, hq1, hq2, hqc⟩ := id hu
  have HT := refPairs_in _ _ a b w hv hu (by omega) (by omega)
  rw [List.length_map] at hp1 hq1
  obtain ⟨n, HN⟩ : ∃ n, Hid (a.length = n) := ⟨_, rfl⟩
  obtain ⟨m, HM⟩ : ∃ m, Hid (b.length = m) := ⟨_, rfl⟩
  rw [List.length_map, List.length_map, HN.out, HM.out] at HT
  have hinc := pr_inc0 a b
  have hprl : (pr a b 0 0).length ≤ 400 := by rw [pr_length]; exact Nat.le_trans (tl_le a b).1 ha
  obtain ⟨tot, HTot⟩ : ∃ t, Hid (stp a b = t) := ⟨_, rfl⟩
  have HB : Hid (tot.length ≤ 800) := by
    show _ ≤ _
    rw [← HTot.out]
    have := stp_length a b
    omega
  have HT0 : Hid ((st (n + m) (pr a b 0 0) 0 0 n m).map up = tot) := by
    have := HTot.out
    unfold stp at this
    rw [HN.out, HM.out] at this
    exact this
  rw [HTot.out]
  rw [List.length_map, List.length_map, HN.out, HM.out]
  rw [HN.out] at ha hp1 hinc
  rw [HM.out] at hb hq1 hinc
  generalize pr a b 0 0 = ps at *
  have hl := refGreat_in p q n m cp cq ha hb w
  clear hpc hqc hv hu
  refine callsIn_of_wp Try.func20 rfl trivial ?_
  simp only [Try.ntmps20, List.size_toArray, List.length_cons, List.length_nil, Nat.reduceAdd, Nat.reduceSub, Array.replicate_succ, Array.replicate_zero, List.push_toArray, List.append_toArray, List.nil_append, List.cons_append]
  gi_wp2_with fail
  refine ⟨trivial, rfl, hl.mono ?_⟩
  rintro e w1 ⟨rfl, rfl⟩
  gi_wp2_with fail
  refine ⟨trivial, rfl, HT.mono ?_⟩
  rintro e w2 ⟨v2, rfl, r2, c⟩
  have s2 : SlP w2 v2 ps := SlE.ofRow eP_len r2
  have hlt2 := r2.lt
  obtain ⟨pv, cv, rfl⟩ := row_slice r2
  obtain ⟨np, HNP⟩ : ∃ np, Hid (ps.length = np) := ⟨_, rfl⟩
  rw [HNP.out] at s2 hprl hlt2 ⊢
  clear HT hl r2
  have HPB : Hid (∀ k, Value.ownBlock (.slice pv np cv) = some k → k < w2.heap.size) := fun k hk => (hlt2 k hk).2
  gi_wp2
  gi_loopw [6, 7, 8, 9] (fun v i j k wr => ∃ (acc : List (Int × Int × Int)) (f ki kj kk : Nat), kk ≤ np ∧ SlP wr (.slice pv np cv) ps ∧ Hid (Inc n m ki kj (ps.drop kk)) ∧ (n - ki) + (m - kj) ≤ f ∧ ki ≤ n ∧ kj ≤ m ∧ i = .int .i64 (ki : Int) ∧ j = .int .i64 (kj : Int) ∧ k = .int .i64 (kk : Int) ∧ Hid (acc ++ (st f (ps.drop kk) ki kj n m).map up = tot) ∧ wr.ownsRow w2.heap.size 40 3 v acc.length (acc.flatMap eS) ∧ Chg No w2 wr) (fun v i j k _ => (n - (intOf i).toNat) + (m - (intOf j).toNat))
  case atStart => exact ⟨[], n + m, 0, 0, 0, Nat.zero_le _, s2, hinc, by omega, Nat.zero_le _, Nat.zero_le _, rfl, rfl, rfl, HT0.out, World.ownsRow_nil _ _ _ _, Chg.refl _ _⟩
  case round =>
    obtain ⟨acc, f, ki, kj, kk, hkk, hsp, HI, hf, hki, hkj, rfl, rfl, rfl, HA, hr, cw⟩ := hrel
    obtain ⟨pr0, cr0, rfl⟩ := row_slice hr
    by_cases hlt : ki < n ∨ kj < m
    · obtain ⟨g1, g2, g3, g4, g5, g6⟩ := HI.out.next hlt
      have hst := st_step f (ps.drop kk) ki kj n m hlt (by omega)
      have hrl := rn_le (ps.drop kk) ki kj
      rw [List.length_drop, HNP.out] at hrl
      generalize hsv : rn (ps.drop kk) ki kj = s at *
      rw [List.drop_drop] at hst g1 g2 g3 g4 g5 g6
      generalize hqv : nx (ps.drop (kk + s)) n m = qv at *
      obtain ⟨q1, q2⟩ := qv
      simp only at g1 g2 g3 g4 g5 g6 hst
      have HRN : Hid (rn (ps.drop kk) ki kj = s) := hsv
      have e1 : ((q1 - (ki + s) : Nat) : Int) = (q1 : Int) - ((ki : Int) + (s : Int)) := by omega
      have e2 : ((q2 - (kj + s) : Nat) : Int) = (q2 : Int) - ((kj : Int) + (s : Int)) := by omega
      have HST : Hid (acc ++ [((s : Int), (q1 : Int) - ((ki : Int) + (s : Int)), (q2 : Int) - ((kj : Int) + (s : Int)))] ++ (st (f - 1) (ps.drop (kk + s)) q1 q2 n m).map up = tot) := by
        have := HA.out
        rw [hst, List.map_cons] at this
        rw [List.append_assoc, ← e1, ← e2]
        exact this
      have HG5 : Hid (Inc n m q1 q2 (ps.drop (kk + s))) := g5
      have hacc : acc.length + 1 ≤ 800 := by
        have h9 := congrArg List.length HST.out
        have := HB.out
        simp only [List.length_append, List.length_singleton] at h9
        omega
      have HDA : Hid (kk + s = np ∧ q1 = n ∧ q2 = m ∨ kk + s < np ∧ ps[kk + s]? = some (q1, q2)) := by
        by_cases hks : kk + s < np
        · have hkl : kk + s < ps.length := by rw [HNP.out]; exact hks
          rw [List.drop_eq_getElem_cons hkl] at hqv
          have hqv' : ps[kk + s] = (q1, q2) := hqv
          exact .inr ⟨hks, by rw [List.getElem?_eq_getElem hkl, hqv']⟩
        · rw [List.drop_eq_nil_of_le (by rw [HNP.out]; omega)] at hqv
          simp [nx] at hqv
          exact .inl ⟨by omega, hqv.1.symm, hqv.2.symm⟩
      have hmx : acc.length + 1 ≤ maxLen := by unfold maxLen; omega
      clear hst hqv g5 hsv HA e1 e2
      refine wpIn_seq_k (fun KD hKD => ?_)
      gi_cut [] from 200 (fun w' => w' = wr)
      case first =>
        rename_i JJ KK hJJ hKK
        by_cases hk1 : ki < n
        · have hk1' : (ki : Int) < (n : Int) := by omega
          gi_wp2
          gi_meet
          exact rfl
        · have hk1' : ¬ (ki : Int) < (n : Int) := by omega
          have hk2' : (kj : Int) < (m : Int) := by omega
          gi_wp2
          gi_meet
          exact rfl
      have hwc : wc = wr := hcut
      rw [hwc]
      clear hcut hwc
      refine hKD _ _ ?_
      clear hKD
      gi_upto_region 7 with (fail)
      rename_i K1 h1 K0 h0
      have HK0 := (show Hid _ from h0)
      clear h0
      gi_wp2
      refine HK0.out _ _ ?_
      clear HK0
      have bx3 := Box3.new wr 0 0 0
      have cw3 := cw.alloc (.cells #[.int .i64 0, .int .i64 0, .int .i64 0] 40)
      have hsp3 : SlP (wr.alloc (.cells #[.int .i64 0, .int .i64 0, .int .i64 0] 40)) (.slice pv np cv) ps := SlE.no eP_len (by decide) hsp ((Chg.refl No wr).alloc _)
      have hr3 := hr.alloc (.cells #[.int .i64 0, .int .i64 0, .int .i64 0] 40)
      obtain ⟨B, hB⟩ : ∃ B, wr.heap.size = B := ⟨_, rfl⟩
      rw [hB] at bx3 ⊢
      generalize wr.alloc (.cells #[.int .i64 0, .int .i64 0, .int .i64 0] 40) = W3 at *
      refine wpIn_seq_k (fun KC hKC => ?_)
      gi_cut [7, 8, 9] from 200 (fun vi vj vk w' => vi = .int .i64 ((ki + s : Nat) : Int) ∧ vj = .int .i64 ((kj + s : Nat) : Int) ∧ vk = .int .i64 ((kk + s : Nat) : Int) ∧ Box3 w' B (s : Int) 0 0 ∧ Chg (fun k => k = B) W3 w')
      case first =>
        rename_i JJ KK hJJ hKK
        gi_wp2
        gi_loopw [7, 8, 9] (fun vi vj vk wk => ∃ t : Nat, t ≤ s ∧ kk + t ≤ np ∧ vi = .int .i64 ((ki + t : Nat) : Int) ∧ vj = .int .i64 ((kj + t : Nat) : Int) ∧ vk = .int .i64 ((kk + t : Nat) : Int) ∧ Hid (t + rn (ps.drop (kk + t)) (ki + t) (kj + t) = s) ∧ Box3 wk B (t : Int) 0 0 ∧ Chg (fun k => k = B) W3 wk) (fun vi vj vk _ => np - (intOf vk).toNat)
        case atStart => exact ⟨0, Nat.zero_le _, by omega, rfl, rfl, rfl, by show _ = _; simpa using HRN.out, bx3, Chg.refl _ _⟩
        case round =>
          obtain ⟨t, hts, htn, rfl, rfl, rfl, HR, bx, cB⟩ := hrel
          have hspt : SlP wr (.slice pv np cv) ps := SlE.chg eP_len (by decide) hsp3 cB (fun k hk h => by have := HPB.out k hk.2; have := cw.size; omega)
          obtain ⟨I, hI⟩ : ∃ I, ki + t = I := ⟨_, rfl⟩
          obtain ⟨J, hJ⟩ : ∃ J, kj + t = J := ⟨_, rfl⟩
          obtain ⟨T, hT⟩ : ∃ T, kk + t = T := ⟨_, rfl⟩
          rw [hI, hJ, hT] at HR
          rw [hI, hJ, hT]
          by_cases hlt3 : T < np
          · have hlt3' : (T : Int) < (np : Int) := by omega
            have hTp : T < ps.length := by rw [HNP.out]; exact hlt3
            obtain ⟨x, hx⟩ : ∃ x, ps[T]? = some x := ⟨_, List.getElem?_eq_getElem hTp⟩
            have hxT : ps[T] = x := by rw [List.getElem?_eq_getElem hTp] at hx; exact Option.some.inj hx
            obtain ⟨bp, op, rfl, x1, x2⟩ := SlP.at hspt T x hx
            have HRX : Hid (t + (if x = (I, J) then rn (ps.drop (T + 1)) (I + 1) (J + 1) + 1 else 0) = s) := by
              have := HR.out
              rw [List.drop_eq_getElem_cons hTp, hxT] at this
              exact this
            obtain ⟨a1, a2⟩ := x
            simp only at x1 x2
            clear hx hxT hTp HR hspt
            by_cases ha1 : a1 = I
            · have ha1' : ((a1 : Int) == (I : Int)) = true := by rw [ha1]; simp
              by_cases ha2 : a2 = J
              · have ha2' : ((a2 : Int) == (J : Int)) = true := by rw [ha2]; simp
                have HR2 : Hid (t + 1 + rn (ps.drop (T + 1)) (I + 1) (J + 1) = s) := by
                  have := HRX.out
                  rw [if_pos (by rw [ha1, ha2])] at this
                  show _ = _
                  omega
                have hts2 : t + 1 ≤ s := by have := HR2.out; omega
                have y0 := bx.c0
                have y1 := bx.fr 0
                have HBX : Hid (Box3 (wr.setCell ⟨B, 0, none⟩ (.int .i64 ((t : Int) + 1))) B ((t + 1 : Nat) : Int) 0 0) := bx.s0 ((t : Int) + 1)
                have cB' := cB.setCell (p := ⟨B, 0, none⟩) (.inl rfl) (.int .i64 ((t : Int) + 1))
                clear ha1 ha2 HRX
                gi_wp2
                go_roundw
                case rel => exact ⟨t + 1, hts2, by omega, by rw [← Nat.add_assoc, hI]; go_num, by rw [← Nat.add_assoc, hJ]; go_num, by rw [← Nat.add_assoc, hT]; go_num, by rw [← Nat.add_assoc, ← Nat.add_assoc, ← Nat.add_assoc, hI, hJ, hT]; exact HR2, HBX.out, cB'⟩
                case measure => simp [intOf]; omega
              · have ha2' : ((a2 : Int) == (J : Int)) = false := by rw [beq_eq_false_iff_ne]; omega
                have hts3 : t = s := by
                  have := HRX.out
                  rw [if_neg (by rw [Prod.mk.injEq]; exact fun h => ha2 h.2)] at this
                  exact this
                clear ha1 ha2 HRX
                subst hts3
                gi_wp2
                gi_meet
                exact ⟨by rw [hI], by rw [hJ], by rw [hT], bx, cB⟩
            · have ha1' : ((a1 : Int) == (I : Int)) = false := by rw [beq_eq_false_iff_ne]; omega
              have hts3 : t = s := by
                have := HRX.out
                rw [if_neg (by rw [Prod.mk.injEq]; exact fun h => ha1 h.1)] at this
                exact this
              clear ha1 HRX
              subst hts3
              gi_wp2
              gi_meet
              exact ⟨by rw [hI], by rw [hJ], by rw [hT], bx, cB⟩
          · have hlt3' : ¬ (T : Int) < (np : Int) := by omega
            have hts3 : t = s := by
              have := HR.out
              rw [List.drop_eq_nil_of_le (by rw [HNP.out]; omega)] at this
              exact this
            subst hts3
            gi_wp2
            gi_meet
            exact ⟨by rw [hI], by rw [hJ], by rw [hT], bx, cB⟩
      case rest =>
        obtain ⟨rfl, rfl, rfl, bx5, cB5⟩ := hcut
        refine hKC _ _ ?_
        clear hKC
        rcases HDA.out with ⟨hd1, rfl, rfl⟩ | ⟨hd1, hd2⟩
        · have hd1' : ¬ ((kk + s : Nat) : Int) < (np : Int) := by omega
          have bx6 : Box3 ((wc.setCell ⟨B, 1, none⟩ (.int .i64 ((q1 : Int) - ((ki : Int) + (s : Int))))).setCell ⟨B, 2, none⟩ (.int .i64 ((q2 : Int) - ((kj : Int) + (s : Int))))) B (s : Int) ((q1 : Int) - ((ki : Int) + (s : Int))) ((q2 : Int) - ((kj : Int) + (s : Int))) := (bx5.s1 _).s2 _
          have cB6 : Chg (fun k => k = B) W3 ((wc.setCell ⟨B, 1, none⟩ (.int .i64 ((q1 : Int) - ((ki : Int) + (s : Int))))).setCell ⟨B, 2, none⟩ (.int .i64 ((q2 : Int) - ((kj : Int) + (s : Int))))) := (cB5.setCell (p := ⟨B, 1, none⟩) (.inl rfl) _).setCell (p := ⟨B, 2, none⟩) (.inl rfl) _
          have f1 := bx5.fr 1
          have f2 := bx5.fr 2
          have g1 := bx5.c1
          have g2 := bx5.c2
          have g3' : (wc.setCell ⟨B, 1, none⟩ (.int .i64 ((q1 : Int) - ((ki : Int) + (s : Int))))).cell? ⟨B, 2, none⟩ = some (.int .i64 0) := (bx5.s1 _).c2
          have f3 := (bx5.s1 ((q1 : Int) - ((ki : Int) + (s : Int)))).fr 2
          have y0 := bx6.c0
          have y1 := bx6.c1
          have y2 := bx6.c2
          obtain ⟨W6, hW6⟩ : ∃ W6, (wc.setCell ⟨B, 1, none⟩ (.int .i64 ((q1 : Int) - ((ki : Int) + (s : Int))))).setCell ⟨B, 2, none⟩ (.int .i64 ((q2 : Int) - ((kj : Int) + (s : Int)))) = W6 := ⟨_, rfl⟩
          rw [hW6] at bx6 cB6 y0 y1 y2
          have cw6 : Chg No w2 W6 := cw3.trans cB6 (fun k hk => .inr (by have := cw.size; omega))
          have hsp6 : SlP W6 (.slice pv np cv) ps := SlE.chg eP_len (by decide) hsp3 cB6 (fun k hk h => by have := HPB.out k hk.2; have := cw.size; omega)
          have hr6 : W6.ownsRow w2.heap.size 40 3 (.slice pr0 acc.length cr0) acc.length (acc.flatMap eS) := row_keptS hr3 (fun k hk => cB6.block k (hr3.lt k hk).2 (fun e => by have := hr.lt k hk; omega))
          have hbs : w2.heap.size ≤ (W6.alloc (.cells #[.int .i64 (s : Int), .int .i64 ((q1 : Int) - ((ki : Int) + (s : Int))), .int .i64 ((q2 : Int) - ((kj : Int) + (s : Int)))] 40)).heap.size := (cw6.alloc _).size
          have hcn := cells_new W6 [.int .i64 (s : Int), .int .i64 ((q1 : Int) - ((ki : Int) + (s : Int))), .int .i64 ((q2 : Int) - ((kj : Int) + (s : Int)))] 40
          have hki' : ((ki + s : Nat) : Int) = (ki : Int) + (s : Int) := by omega
          have hkj' : ((kj + s : Nat) : Int) = (kj : Int) + (s : Int) := by omega
          rw [hki', hkj']
          clear hki' hkj' cB5
          gi_wp2_with (gi_at_builtin; refine wpListIn_append_at _ rfl _ _ 23 rfl w2.heap.size 40 i0 (.agg #[.int .i64 0, .int .i64 0, .int .i64 0]) 3 24 Try.underlying23 hi hz0 hz1 hz2 rfl (by decide) _ _ _ rfl (hr6.alloc _) ⟨W6.heap.size, 0, none⟩ 1 1 [.int .i64 (s : Int), .int .i64 ((q1 : Int) - ((ki : Int) + (s : Int))), .int .i64 ((q2 : Int) - ((kj : Int) + (s : Int)))] rfl rfl hcn (by simp [Value.oneCell']) hmx (by omega) hbs ?_; intro v' w7 hown' hgrow _ hat; have c7 : Chg No w2 w7 := (cw6.alloc _).grown hgrow (fun k e => .inr (hr6.lt k e).1); have c67 : Chg (fun k => Value.ownBlock (.slice pr0 acc.length cr0) = some k) W6 w7 := ((Chg.refl _ W6).alloc _).grown hgrow (fun k e => .inl e))
          go_roundw
          case rel => exact ⟨acc ++ [((s : Int), (q1 : Int) - ((ki : Int) + (s : Int)), (q2 : Int) - ((kj : Int) + (s : Int)))], f - 1, q1, q2, kk + s, by omega, SlE.chg eP_len (by decide) hsp6 c67 (fun k hk h => by have := HPB.out k hk.2; have := (hr6.lt k h).1; omega), HG5, by omega, by omega, by omega, rfl, rfl, by go_num, HST, by rw [List.length_append, List.flatMap_append]; exact hown', c7⟩
          case measure => simp [intOf]; omega
        · have hd1' : ((kk + s : Nat) : Int) < (np : Int) := by omega
          have hspc : SlP wc (.slice pv np cv) ps := SlE.chg eP_len (by decide) hsp3 cB5 (fun k hk h => by have := HPB.out k hk.2; have := cw.size; omega)
          obtain ⟨bp, op, rfl, x1, x2⟩ := SlP.at hspc (kk + s) _ hd2
          simp only at x1 x2
          obtain ⟨T, hT⟩ : ∃ T, kk + s = T := ⟨_, rfl⟩
          rw [hT] at hd1' x1 x2 HST HG5
          rw [hT]
          clear hd2
          gi_wp2
          refine wpIn_region_quiet_lit rfl hmix (by kernel_rfl) ?_
          repeat (gi_big_quiet_step (fail))
          refine wpQuietIn_nil ?_
          rintro w' ⟨k9, rfl⟩
          have bx9 : Box3 (wc.drewN k9) B (s : Int) 0 0 := bx5
          have cB9 : Chg (fun k => k = B) W3 (wc.drewN k9) := drewNC cB5 k9
          clear bx5 cB5 hspc
          have bx6 : Box3 (((wc.drewN k9).setCell ⟨B, 1, none⟩ (.int .i64 ((q1 : Int) - ((ki : Int) + (s : Int))))).setCell ⟨B, 2, none⟩ (.int .i64 ((q2 : Int) - ((kj : Int) + (s : Int))))) B (s : Int) ((q1 : Int) - ((ki : Int) + (s : Int))) ((q2 : Int) - ((kj : Int) + (s : Int))) := (bx9.s1 _).s2 _
          have cB6 : Chg (fun k => k = B) W3 (((wc.drewN k9).setCell ⟨B, 1, none⟩ (.int .i64 ((q1 : Int) - ((ki : Int) + (s : Int))))).setCell ⟨B, 2, none⟩ (.int .i64 ((q2 : Int) - ((kj : Int) + (s : Int))))) := (cB9.setCell (p := ⟨B, 1, none⟩) (.inl rfl) _).setCell (p := ⟨B, 2, none⟩) (.inl rfl) _
          have f1 := bx9.fr 1
          have f2 := bx9.fr 2
          have g1 := bx9.c1
          have g2 := bx9.c2
          have g3' : ((wc.drewN k9).setCell ⟨B, 1, none⟩ (.int .i64 ((q1 : Int) - ((ki : Int) + (s : Int))))).cell? ⟨B, 2, none⟩ = some (.int .i64 0) := (bx9.s1 _).c2
          have f3 := (bx9.s1 ((q1 : Int) - ((ki : Int) + (s : Int)))).fr 2
          have y0 := bx6.c0
          have y1 := bx6.c1
          have y2 := bx6.c2
          obtain ⟨W6, hW6⟩ : ∃ W6, ((wc.drewN k9).setCell ⟨B, 1, none⟩ (.int .i64 ((q1 : Int) - ((ki : Int) + (s : Int))))).setCell ⟨B, 2, none⟩ (.int .i64 ((q2 : Int) - ((kj : Int) + (s : Int)))) = W6 := ⟨_, rfl⟩
          rw [hW6] at bx6 cB6 y0 y1 y2
          have cw6 : Chg No w2 W6 := cw3.trans cB6 (fun k hk => .inr (by have := cw.size; omega))
          have hsp6 : SlP W6 (.slice (some ⟨bp, op, none⟩) np cv) ps := SlE.chg eP_len (by decide) hsp3 cB6 (fun k hk h => by have := HPB.out k hk.2; have := cw.size; omega)
          have hr6 : W6.ownsRow w2.heap.size 40 3 (.slice pr0 acc.length cr0) acc.length (acc.flatMap eS) := row_keptS hr3 (fun k hk => cB6.block k (hr3.lt k hk).2 (fun e => by have := hr.lt k hk; omega))
          have hbs : w2.heap.size ≤ (W6.alloc (.cells #[.int .i64 (s : Int), .int .i64 ((q1 : Int) - ((ki : Int) + (s : Int))), .int .i64 ((q2 : Int) - ((kj : Int) + (s : Int)))] 40)).heap.size := (cw6.alloc _).size
          have hcn := cells_new W6 [.int .i64 (s : Int), .int .i64 ((q1 : Int) - ((ki : Int) + (s : Int))), .int .i64 ((q2 : Int) - ((kj : Int) + (s : Int)))] 40
          gi_wp2_with (gi_at_builtin; refine wpListIn_append_at _ rfl _ _ 23 rfl w2.heap.size 40 i0 (.agg #[.int .i64 0, .int .i64 0, .int .i64 0]) 3 24 Try.underlying23 hi hz0 hz1 hz2 rfl (by decide) _ _ _ rfl (hr6.alloc _) ⟨W6.heap.size, 0, none⟩ 1 1 [.int .i64 (s : Int), .int .i64 ((q1 : Int) - ((ki : Int) + (s : Int))), .int .i64 ((q2 : Int) - ((kj : Int) + (s : Int)))] rfl rfl hcn (by simp [Value.oneCell']) hmx (by omega) hbs ?_; intro v' w7 hown' hgrow _ hat; have c7 : Chg No w2 w7 := (cw6.alloc _).grown hgrow (fun k e => .inr (hr6.lt k e).1); have c67 : Chg (fun k => Value.ownBlock (.slice pr0 acc.length cr0) = some k) W6 w7 := ((Chg.refl _ W6).alloc _).grown hgrow (fun k e => .inl e))
          go_roundw
          case rel => exact ⟨acc ++ [((s : Int), (q1 : Int) - ((ki : Int) + (s : Int)), (q2 : Int) - ((kj : Int) + (s : Int)))], f - 1, q1, q2, T, by omega, SlE.chg eP_len (by decide) hsp6 c67 (fun k hk h => by have := HPB.out k hk.2; have := (hr6.lt k h).1; omega), HG5, by omega, by omega, by omega, rfl, rfl, by go_num, HST, by rw [List.length_append, List.flatMap_append]; exact hown', c7⟩
          case measure => simp [intOf]; omega
    · have h1' : ¬ (ki : Int) < (n : Int) := by omega
      have h2' : ¬ (kj : Int) < (m : Int) := by omega
      have HD : Hid (acc = tot) := by
        have := HA.out
        rw [st_done _ _ _ _ _ _ hlt, List.map_nil, List.append_nil] at this
        exact this
      have hres : wr.ownsRow w1.heap.size 40 3 (.slice pr0 acc.length cr0) tot.length (tot.flatMap eS) := by
        have := rowBase hr c.size
        rw [HD.out] at this ⊢
        exact this
      gi_wp2
      go_ret
      exact ⟨_, rfl, hres, Chg.seq c cw⟩

end Go.Proofs.Ytafaihbfhcpjiaa
