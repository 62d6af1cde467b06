/-
  diff's own Apply, at texts.
-/
import Derived.Test.YtookalebfbkedaaDFits
import Derived.Test.YtookalebfbkedaaDLen
namespace Go.Proofs.Ytookalebfbkedaa
open Go.RowKit Go.Shelf Go.SeqLib Go.DiffLib Go.BigFrame
attribute [local go_sem] Oper.semAt_some

/-- What a round leans on: what is left of both lists, the steps, the step at hand in its box. -/
structure ApSt (base B : Nat) (x : Int × Int × Int) (va : Value) (ra : List ByteArray) (vb : Value) (rb : List ByteArray) (vs : Value) (stps : List (Int × Int × Int)) (W : World) : Prop where
  a : SlV W va (ra.map Value.string)
  b : SlV W vb (rb.map Value.string)
  s : SlS W vs stps
  c0 : W.cell? ⟨B, 0, none⟩ = some (.int .i64 x.1)
  c1 : W.cell? ⟨B, 1, none⟩ = some (.int .i64 x.2.1)
  c2 : W.cell? ⟨B, 2, none⟩ = some (.int .i64 x.2.2)
  da : ∀ k, svD va (ra.map Value.string) k → k < base
  db : ∀ k, svD vb (rb.map Value.string) k → k < base
  ds : ∀ k, slE vs stps k → k < base
theorem ApSt.chg {base B : Nat} {x : Int × Int × Int} {va vb vs : Value} {ra rb : List ByteArray} {stps : List (Int × Int × Int)} {W W' : World} (h : ApSt base B x va ra vb rb vs stps W) {U : Blk} (c : Chg U W W') (hU : ∀ k, U k → base ≤ k ∧ k ≠ B) : ApSt base B x va ra vb rb vs stps W' := {
  a := h.a.chg c (fun k hk hu => by have := h.da k hk; have := (hU k hu).1; omega)
  b := h.b.chg c (fun k hk hu => by have := h.db k hk; have := (hU k hu).1; omega)
  s := SlE.chg eS_len (by decide) h.s c (fun k hk hu => by have := h.ds k hk; have := (hU k hu).1; omega)
  c0 := (World.cell?_of_block (a := ⟨B, 0, none⟩) (c.block B (World.block_lt_of_cell? W _ h.c0) (fun hu => (hU B hu).2 rfl))).trans h.c0
  c1 := (World.cell?_of_block (a := ⟨B, 1, none⟩) (c.block B (World.block_lt_of_cell? W _ h.c0) (fun hu => (hU B hu).2 rfl))).trans h.c1
  c2 := (World.cell?_of_block (a := ⟨B, 2, none⟩) (c.block B (World.block_lt_of_cell? W _ h.c0) (fun hu => (hU B hu).2 rfl))).trans h.c2
  da := h.da
  db := h.db
  ds := h.ds }

/-- What is appended to grows elsewhere. -/
theorem ApSt.grow {base B : Nat} {x : Int × Int × Int} {va vb vs v v' : Value} {ra rb : List ByteArray} {stps : List (Int × Int × Int)} {W W' : World} {e : TypeId} {n : Nat} {xs : List Value} (h : ApSt base B x va ra vb rb vs stps W)
    (hr : W.ownsRow base e 1 v n xs) (hB : ∀ k, v.ownBlock = some k → k ≠ B) (hg : W.grownBy W' v.ownBlock) (hat : v'.ownBlock = v.ownBlock ∨ v'.ownBlock = some W.heap.size) :
    ApSt base B x va ra vb rb vs stps W' ∧ (∀ k, v'.ownBlock = some k → k ≠ B) ∧ Chg (fun k => v.ownBlock = some k) W W' := by
  have c : Chg (fun k => v.ownBlock = some k) W W' := (Chg.refl _ W).grown hg (fun k e => .inl e)
  refine ⟨h.chg c (fun k hk => ⟨(hr.lt k hk).1, hB k hk⟩), fun k hk => ?_, c⟩
  rcases hat with h' | h'
  · exact hB k (h'.symm.trans hk)
  · have h1 := Option.some.inj (h'.symm.trans hk)
    have h2 := World.block_lt_of_cell? W _ h.c0
    intro e
    subst e
    simp only at h2
    omega

/-- How the answer is told. -/
def appRes (w : World) (r : Option (List ByteArray)) (e : Ending) (w' : World) : Prop := match r with
  | none => e = .returned (.tuple #[.slice none 0 0, .bool false])
  | some c => ∃ v', e = .returned (.tuple #[v', .bool true]) ∧ w'.ownsRow w.heap.size 9 1 v' c.length (c.map Value.string)

theorem app_fit {a b : List ByteArray} {x : Int × Int × Int} {r : List (Int × Int × Int)} : app a b (x :: r) = if fitsB x a.length b.length = true ∧ a.take x.1.toNat = b.take x.1.toNat then
      (app (a.drop (x.1.toNat + x.2.1.toNat)) (b.drop (x.1.toNat + x.2.2.toNat)) r).map (fun t => a.take x.1.toNat ++ ((b.drop x.1.toNat).take x.2.2.toNat ++ t)) else none := by
  obtain ⟨s, o, n⟩ := x
  show (if _ then _ else _) = _
  unfold fitsB
  simp only [decide_eq_true_eq]
  by_cases h : 0 ≤ s ∧ 0 ≤ o ∧ 0 ≤ n ∧ s ≤ a.length ∧ s ≤ b.length ∧ o ≤ (a.length : Int) - s ∧ n ≤ (b.length : Int) - s ∧ a.take s.toNat = b.take s.toNat
  · rw [if_pos h, if_pos ⟨by omega, h.2.2.2.2.2.2.2⟩]
  · rw [if_neg h, if_neg (fun h2 => h ⟨by omega, by omega, by omega, by omega, by omega, by omega, by omega, h2.2⟩)]

set_option maxRecDepth 100000 in
set_option maxHeartbeats 2000000 in
theorem apply_in (v u vs : Value) (a b : List ByteArray) (stps : List (Int × Int × Int)) (w : World) (hv : SlV w v (a.map Value.string)) (hu : SlV w u (b.map Value.string)) (hs : SlS w vs stps) (ha : a.length ≤ 400) (hb : b.length ≤ 400) (hss : stps.length ≤ 1000) :
    CallsIn Fence.wide 0 Try.prog 50 #[v, u, vs] w fun e w' => appRes w (app a b stps) e w' ∧ Chg No w w' := by
  have hmix : Try.prog.follows .mixedOrders = true := by kernel_rfl
  obtain ⟨i0, hi, hz0, hz1, hz2⟩ := info_parts info9
  obtain ⟨p, cp, rfl, hp1, hp2, hpc⟩ := id hv
  obtain ⟨q, cq, rfl, hq1, hq2, hqc⟩ := id hu
  obtain ⟨ps, cs, rfl, hs1, hs2, hsc⟩ := id hs
  rw [List.length_map] at hp1 hq1
  obtain ⟨n, HN⟩ : ∃ n, Hid (a.length = n) := ⟨_, rfl⟩
  obtain ⟨m, HM⟩ : ∃ m, Hid (b.length = m) := ⟨_, rfl⟩
  obtain ⟨ns, HS⟩ : ∃ n, Hid (stps.length = n) := ⟨_, rfl⟩
  rw [List.length_map, HN.out] at hv
  rw [List.length_map, HM.out] at hu
  rw [HS.out] at hs hss hs1
  rw [List.length_map, List.length_map, HN.out, HM.out, HS.out]
  rw [HN.out] at ha hp1
  rw [HM.out] at hb hq1
  have hl := tooLong_in p q n m cp cq w
  rw [decide_eq_false (by omega)] at hl
  have dA := hv.lt
  have dB := hu.lt
  have dS := SlE.lt eS_len (by decide) hs
  obtain ⟨tot, HTot⟩ : ∃ t, Hid (app a b stps = t) := ⟨_, rfl⟩
  rw [HTot.out]
  clear hpc hqc hsc
  refine callsIn_of_wp Try.func50 rfl trivial ?_
  simp only [Try.ntmps50, List.size_toArray, List.length_cons, List.length_nil, Nat.reduceAdd, Nat.reduceSub, Array.replicate_succ, Array.replicate_zero, List.push_toArray, List.append_toArray, List.nil_append, List.cons_append]
  gi_wp2_with fail
  refine ⟨trivial, rfl, hl.mono ?_⟩
  rintro e w1 ⟨rfl, rfl⟩
  clear hl
  have hmm : m ≤ maxLen := by unfold maxLen; omega
  gi_wp2_with (gi_at_make; refine wpListIn_make_own _ rfl _ _ 29 rfl w1.heap.size 9 i0 (.string ⟨#[]⟩) 1 Try.underlying29 hi hz0 hz1 .i64 .i64 (m : Int) m rfl rfl rfl (by rw [hz2]; omega) hmm (Nat.le_refl _) ?_; intro w2 hown2 hgrow1; have c2 : Chg No w1 w2 := (Chg.refl _ w1).grown hgrow1 (fun k e => by cases e))
  have hv2 := hv.no c2
  have hu2 := hu.no c2
  have hs2' := SlE.no eS_len (by decide) hs c2
  gi_loopw [8, 9, 10, 23] (fun vm v9 v10 i wr => ∃ (k na nb : Nat) (acc ra rb : List ByteArray) (pa pb : Option Addr) (ca cb : Nat), k ≤ ns ∧ i = .int .i64 (k : Int) ∧ v9 = .slice pa na ca ∧ v10 = .slice pb nb cb ∧ Hid (ra.length = na) ∧ Hid (rb.length = nb) ∧ na ≤ 400 ∧ acc.length + nb ≤ 400 ∧
      SlV wr (.slice pa na ca) (ra.map Value.string) ∧ SlV wr (.slice pb nb cb) (rb.map Value.string) ∧ Hid (∀ k, svD (.slice pa na ca) (ra.map Value.string) k → k < w1.heap.size) ∧ Hid (∀ k, svD (.slice pb nb cb) (rb.map Value.string) k → k < w1.heap.size) ∧
      wr.ownsRow w1.heap.size 9 1 vm acc.length (acc.map Value.string) ∧ Hid ((app ra rb (stps.drop k)).map (fun t => acc ++ t) = tot) ∧ SlS wr (.slice ps ns cs) stps ∧ Chg No w1 wr) (fun vm v9 v10 i _ => ns - (intOf i).toNat)
  case atStart => exact ⟨0, n, m, [], a, b, p, q, cp, cq, Nat.zero_le _, rfl, rfl, rfl, HN, HM, ha, by simpa using hb, hv2, hu2, dA, dB, hown2, by show _ = _; simpa using HTot.out, hs2', c2⟩
  case round =>
    obtain ⟨k, na, nb, acc, ra, rb, pa, pb, ca, cb, hk, rfl, rfl, rfl, HNA, HNB, hna, hnb, sA, sB, HDA, HDB, hr, HT, sS, cw⟩ := hrel
    by_cases hlt : k < ns
    · have hlt' : (k : Int) < (ns : Int) := by omega
      have hks : k < stps.length := by rw [HS.out]; exact hlt
      obtain ⟨x, hx⟩ : ∃ x, stps[k]? = some x := ⟨_, List.getElem?_eq_getElem hks⟩
      obtain ⟨bs, os, rfl, q1, q2, q3⟩ := SlS.at sS k x hx
      have HTk : Hid (stps.drop k = x :: stps.drop (k + 1)) := by
        rw [List.drop_eq_getElem_cons hks]
        rw [List.getElem?_eq_getElem hks] at hx
        rw [Option.some.inj hx]
        exact rfl
      obtain ⟨s, o, nn⟩ := x
      simp only at q1 q2 q3
      clear hx hks
      obtain ⟨pm, cm, rfl⟩ := row_slice hr
      have hr3 := hr.alloc (.cells #[.int .i64 s, .int .i64 o, .int .i64 nn] 82)
      have cw3 := cw.alloc (.cells #[.int .i64 s, .int .i64 o, .int .i64 nn] 82)
      have hBn : ∀ k, Value.ownBlock (.slice pm acc.length cm) = some k → w1.heap.size ≤ k ∧ k ≠ wr.heap.size := fun k hk => by
        have := hr.lt k hk
        omega
      have st3 : ApSt w1.heap.size wr.heap.size (s, o, nn) (.slice pa na ca) ra (.slice pb nb cb) rb (.slice (some ⟨bs, os, none⟩) ns cs) stps (wr.alloc (.cells #[.int .i64 s, .int .i64 o, .int .i64 nn] 82)) := {
        a := sA.no ((Chg.refl _ wr).alloc _)
        b := sB.no ((Chg.refl _ wr).alloc _)
        s := SlE.no eS_len (by decide) sS ((Chg.refl _ wr).alloc _)
        c0 := World.cell?_alloc_at _ _ _ _ rfl
        c1 := World.cell?_alloc_at _ _ _ _ rfl
        c2 := World.cell?_alloc_at _ _ _ _ rfl
        da := HDA.out
        db := HDB.out
        ds := dS }
      have hsz3 : (wr.alloc (.cells #[.int .i64 s, .int .i64 o, .int .i64 nn] 82)).heap.size = wr.heap.size + 1 := by simp
      gi_wp2
      generalize wr.alloc (.cells #[.int .i64 s, .int .i64 o, .int .i64 nn] 82) = W3 at *
      generalize wr.heap.size = B at *
      have hany : Nonempty (After W3) := After.any W3
      have f0 : ∀ c : After W3, c.val.cell? ⟨B, 0, none⟩ = some (.int .i64 s) := fun c => c.cell st3.c0
      have f1 : ∀ c : After W3, c.val.cell? ⟨B, 1, none⟩ = some (.int .i64 o) := fun c => c.cell st3.c1
      have f2 : ∀ c : After W3, c.val.cell? ⟨B, 2, none⟩ = some (.int .i64 nn) := fun c => c.cell st3.c2
      have HFt : Hid (∀ c : After W3, CallsIn Fence.wide 0 Try.prog 59 #[.agg #[.int .i64 s, .int .i64 o, .int .i64 nn], .int .i64 (na : Int), .int .i64 (nb : Int)] c.val fun e w' => e = .returned (.bool (fitsB (s, o, nn) na nb)) ∧ Chg No c.val w') := fun c => fits_in s o nn na nb (by omega) (by omega) c.val
      have HAP := app_fit (a := ra) (b := rb) (x := (s, o, nn)) (r := stps.drop (k + 1))
      rw [HNA.out, HNB.out] at HAP
      clear q1 q2 q3 sA sB sS hr cw
      cases hfz : fitsB (s, o, nn) na nb with
      | false =>
        rw [hfz] at HFt HAP
        obtain rfl : tot = none := by
          have := HT.out
          rw [HTk.out, HAP, if_neg (by simp)] at this
          exact this.symm
        clear HAP hfz
        refine region_quietC hmix (by kernel_rfl) ?_
        repeat (gi_big_quiet_step (fail))
        refine wpQuietIn_want (fun _ _ _ _ => trivial) rfl ?_
        intro KQ hKQ
        gi_big_quiet_op
        gi_big_quiet_call (exact ⟨rfl, (HFt.out _).mono (by rintro e w'' ⟨rfl, c'⟩; exact ⟨rfl, After.more _ c'⟩)⟩)
        repeat (gi_big_quiet_step (fail))
        refine wpQuietIn_skip (fun _ _ _ _ => trivial) rfl ?_
        simp only [Act.put, List.setIfInBounds_toArray, List.set_cons_succ, List.set_cons_zero]
        repeat (gi_big_quiet_step (fail))
        refine wpQuietIn_nil ?_
        rintro w' ⟨c, rfl⟩
        have cc := Chg.seq cw3 c.chg
        gi_wp2
        go_ret2
        exact ⟨rfl, cc⟩
      | true =>
        rw [hfz] at HFt HAP
        have hfit := of_decide_eq_true hfz
        simp only at hfit
        obtain ⟨e1, e2, e3, e4, e5, e6, e7⟩ := hfit
        obtain ⟨s', rfl⟩ := Int.eq_ofNat_of_zero_le e1
        obtain ⟨o', rfl⟩ := Int.eq_ofNat_of_zero_le e2
        obtain ⟨n', rfl⟩ := Int.eq_ofNat_of_zero_le e3
        have g1 : s' + o' ≤ na := by omega
        have g2 : s' + n' ≤ nb := by omega
        simp only [Int.toNat_natCast] at HAP
        have hla : (ra.map Value.string).length = na := by rw [List.length_map]; exact HNA.out
        have hlb : (rb.map Value.string).length = nb := by rw [List.length_map]; exact HNB.out
        obtain ⟨pa1, ca1, sA1, oA1, hcA1⟩ := SlV.high st3.a hla s' (by omega)
        obtain ⟨pb1, cb1, sB1, oB1, hcB1⟩ := SlV.high st3.b hlb s' (by omega)
        obtain ⟨pb2, cb2, sB2, oB2, hcB2⟩ := SlV.mid st3.b hlb s' (s' + n') (by omega) (by omega)
        obtain ⟨pa3, ca3, sA3, oA3, hcA3⟩ := SlV.low st3.a hla (s' + o') (by omega)
        obtain ⟨pb3, cb3, sB3, oB3, hcB3⟩ := SlV.low st3.b hlb (s' + n') (by omega)
        rw [← List.map_take] at sA1 sB1
        rw [← List.map_take, ← List.map_drop, List.drop_take, show s' + n' - s' = n' by omega] at sB2
        rw [show s' + n' - s' = n' by omega] at hcB2 oB2
        rw [← List.map_drop] at sA3 sB3
        rw [Int.natCast_add] at hcB2 hcA3 hcB3
        have HEq : Hid (∀ c : After W3, CallsIn Fence.wide 0 Try.prog 60 #[.slice pa1 s' ca1, .slice pb1 s' cb1, .func (.func 55) #[] #[]] c.val fun e w' => e = .returned (.bool (decide (ra.take s' = rb.take s'))) ∧ w' = c.val) := fun c =>
          equalF_in _ _ (ra.take s') (rb.take s') c.val (sA1.no c.chg) (sB1.no c.chg) (by rw [List.length_take, HNA.out]; omega) (by rw [List.length_take, List.length_take, HNA.out, HNB.out]; omega)
        cases hz : decide (ra.take s' = rb.take s') with
        | false =>
          rw [hz] at HEq
          obtain rfl : tot = none := by
            have := HT.out
            rw [HTk.out, HAP, if_neg (fun h => of_decide_eq_false hz h.2)] at this
            exact this.symm
          clear HAP hfz hz hcB2 hcA3 hcB3
          refine region_quietC hmix (by kernel_rfl) ?_
          repeat (gi_big_quiet_step (fail))
          refine wpQuietIn_want (fun _ _ _ _ => trivial) rfl ?_
          intro KQ hKQ
          gi_big_quiet_op
          gi_big_quiet_call (exact ⟨rfl, (HFt.out _).mono (by rintro e w'' ⟨rfl, c'⟩; exact ⟨rfl, After.more _ c'⟩)⟩)
          repeat (gi_big_quiet_step (fail))
          refine wpQuietIn_want (fun _ _ _ _ => trivial) rfl ?_
          intro KQ2 hKQ2
          gi_big_quiet_op
          gi_big_quiet_call (exact ⟨rfl, (HEq.out _).mono (by rintro e w'' ⟨rfl, rfl⟩; exact ⟨rfl, _, rfl⟩)⟩)
          repeat (gi_big_quiet_step (fail))
          refine wpQuietIn_nil ?_
          rintro w' ⟨c, rfl⟩
          have cc := Chg.seq cw3 c.chg
          gi_wp2
          go_ret2
          exact ⟨rfl, cc⟩
        | true =>
          rw [hz] at HEq
          have HT2 : Hid ((app (ra.drop (s' + o')) (rb.drop (s' + n')) (stps.drop (k + 1))).map (fun t => (acc ++ ra.take s' ++ (rb.drop s').take n') ++ t) = tot) := by
            have := HT.out
            rw [HTk.out, HAP, if_pos ⟨by trivial, of_decide_eq_true hz⟩, Option.map_map] at this
            rw [← this]
            show _ = _
            congr 1
            funext t
            simp [List.append_assoc]
          clear HAP hfz hz
          refine region_quietC hmix (by kernel_rfl) ?_
          repeat (gi_big_quiet_step (fail))
          refine wpQuietIn_want (fun _ _ _ _ => trivial) rfl ?_
          intro KQ hKQ
          gi_big_quiet_op
          gi_big_quiet_call (exact ⟨rfl, (HFt.out _).mono (by rintro e w'' ⟨rfl, c'⟩; exact ⟨rfl, After.more _ c'⟩)⟩)
          repeat (gi_big_quiet_step (fail))
          refine wpQuietIn_want (fun _ _ _ _ => trivial) rfl ?_
          intro KQ2 hKQ2
          gi_big_quiet_op
          gi_big_quiet_call (exact ⟨rfl, (HEq.out _).mono (by rintro e w'' ⟨rfl, rfl⟩; exact ⟨rfl, _, rfl⟩)⟩)
          repeat (gi_big_quiet_step (fail))
          refine wpQuietIn_nil ?_
          rintro w' ⟨c, rfl⟩
          have cc := Chg.seq cw3 c.chg
          have st4 := st3.chg c.chg (fun _ h => h.elim)
          have hr4 := row_kept hr3 (fun k hk => c.chg.block k (hr3.lt k hk).2 (fun h => h))
          have sA1' := sA1.no c.chg
          have sB2' := sB2.no c.chg
          have sA3' := sA3.no c.chg
          have sB3' := sB3.no c.chg
          have DB2 : Hid (∀ k, svD (.slice pb2 n' cb2) (((rb.drop s').take n').map Value.string) k → k < w1.heap.size) := fun k hk => HDB.out k ⟨fun h => hk.1 (by rw [List.map_eq_nil_iff] at h; rw [h]; simp), oB2 k hk.2⟩
          have DA3 : Hid (∀ k, svD (.slice pa3 (na - (s' + o')) ca3) ((ra.drop (s' + o')).map Value.string) k → k < w1.heap.size) := fun k hk => HDA.out k ⟨fun h => hk.1 (by rw [List.map_eq_nil_iff] at h; rw [h]; simp), oA3 k hk.2⟩
          have DB3 : Hid (∀ k, svD (.slice pb3 (nb - (s' + n')) cb3) ((rb.drop (s' + n')).map Value.string) k → k < w1.heap.size) := fun k hk => HDB.out k ⟨fun h => hk.1 (by rw [List.map_eq_nil_iff] at h; rw [h]; simp), oB3 k hk.2⟩
          generalize c.val = W4 at *
          clear sA1 sB1 sB2 sA3 sB3 oA1 oB1 oB2 oA3 oB3 f0 f1 f2 hany HFt HEq hcB1 st3 hr3
          have y0 := st4.c0
          have y1 := st4.c1
          have y2 := st4.c2
          have hb4 : w1.heap.size ≤ W4.heap.size := cc.size
          have hB4 : ∀ k, Value.ownBlock (.slice pm acc.length cm) = some k → k ≠ B := fun k hk => (hBn k hk).2
          gi_wp2_with (first
            | (gi_at_builtin; refine wpListIn_append_sv _ rfl _ _ rfl w1.heap.size _ acc.length _ rfl hr4 pa1 s' ca1 (ra.take s') rfl sA1' (by omega) hb4 ?_; intro v5 W5 hown5 hgrow5 hat5; obtain ⟨st5, hB5, c5⟩ := st4.grow hr4 hB4 hgrow5 hat5; have z0 := st5.c0; have z1 := st5.c1; have z2 := st5.c2; obtain ⟨pm5, cm5, rfl⟩ := row_slice hown5; have sB5 := sB2'.chg c5 (fun k hk h => by have := DB2.out k hk; have := (hBn k h).1; omega); have hb5 := Nat.le_trans hb4 c5.size)
            | (gi_at_builtin; refine wpListIn_append_sv _ rfl _ _ rfl w1.heap.size _ (acc.length + s') _ rfl hown5 pb2 n' cb2 ((rb.drop s').take n') rfl sB5 (by omega) hb5 ?_; intro v6 W6 hown6 hgrow6 hat6; obtain ⟨st6, hB6, c6⟩ := st5.grow hown5 hB5 hgrow6 hat6; have z3 := st6.c0; have z4 := st6.c1; have z5 := st6.c2))
          have hno : ∀ {v : Value} {vals : List Value}, SlV W4 v vals → (∀ k, svD v vals k → k < w1.heap.size) → SlV W6 v vals := fun h hd =>
            (h.chg c5 (fun k hk e => by have := hd k hk; have := (hr4.lt k e).1; omega)).chg c6 (fun k hk e => by have := hd k hk; have := (hown5.lt k e).1; omega)
          have c16 : Chg No w1 W6 := (cc.trans c5 (fun k hk => .inr (hr4.lt k hk).1)).trans c6 (fun k hk => .inr (hown5.lt k hk).1)
          have hlen : (acc ++ ra.take s' ++ (rb.drop s').take n').length = acc.length + s' + n' := by
            rw [List.length_append, List.length_append, List.length_take, List.length_take, List.length_drop, HNA.out, HNB.out]
            omega
          go_roundw
          case rel => exact ⟨k + 1, na - (s' + o'), nb - (s' + n'), acc ++ ra.take s' ++ (rb.drop s').take n', ra.drop (s' + o'), rb.drop (s' + n'), pa3, pb3, ca3, cb3, hlt, by go_num, rfl, rfl, by show _ = _; rw [List.length_drop, HNA.out], by show _ = _; rw [List.length_drop, HNB.out], by omega, by rw [hlen]; omega, hno sA3' DA3.out, hno sB3' DB3.out, DA3, DB3, by rw [hlen, List.map_append, List.map_append]; exact hown6, HT2, st6.s, c16⟩
          case measure => simp [intOf]; omega
    · obtain rfl : k = ns := by omega
      have hlt' : ¬ (k : Int) < (k : Int) := by omega
      obtain ⟨pm, cm, rfl⟩ := row_slice hr
      have HD : Hid ((if ra = [] ∧ rb = [] then some acc else none) = tot) := by
        have := HT.out
        rw [List.drop_eq_nil_of_le (by rw [HS.out]; exact Nat.le_refl _)] at this
        rw [← this]
        show _ = _
        unfold app
        split <;> simp
      by_cases h1 : 0 < na
      · have h1' : (na : Int) > 0 := by omega
        have h1'' : (0 : Int) < (na : Int) := by omega
        obtain rfl : tot = none := by
          rw [← HD.out, if_neg]
          rintro ⟨rfl, _⟩
          have := HNA.out
          simp at this
          omega
        gi_wp2
        go_ret2
        exact ⟨rfl, cw⟩
      · have h1'' : ¬ (0 : Int) < (na : Int) := by omega
        by_cases h2 : 0 < nb
        · have h2'' : (0 : Int) < (nb : Int) := by omega
          obtain rfl : tot = none := by
            rw [← HD.out, if_neg]
            rintro ⟨_, rfl⟩
            have := HNB.out
            simp at this
            omega
          gi_wp2
          go_ret2
          exact ⟨rfl, cw⟩
        · have h2'' : ¬ (0 : Int) < (nb : Int) := by omega
          obtain rfl : tot = some acc := by
            rw [← HD.out, if_pos]
            exact ⟨List.length_eq_zero_iff.1 (by rw [HNA.out]; omega), List.length_eq_zero_iff.1 (by rw [HNB.out]; omega)⟩
          gi_wp2
          go_ret2
          exact ⟨⟨_, rfl, hr⟩, cw⟩

end Go.Proofs.Ytookalebfbkedaa
