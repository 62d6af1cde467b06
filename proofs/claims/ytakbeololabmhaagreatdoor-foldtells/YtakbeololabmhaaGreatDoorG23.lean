/-
  Of: DApply, TOwn, TOn.
-/
import Derived.Test.YtakbeololabmhaaGreatDoorG20
import Derived.Test.YtakbeololabmhaaGreatDoorG22
import Derived.Test.YtakbeololabmhaaGreatDoorG11
import Derived.Laws.ResultCell
section
-- DApply
namespace Go.Proofs.YtakbeololabmhaaGreatDoor
open Go.RowKit Go.Shelf Go.SeqLib Go.DiffLib Go.BigFrame
attribute [local go_sem] Oper.semAt_some

/-- What a round leans on: what is left of both lists, the steps, the step at hand in its box. -/
structure ApSt (base B : Nat) (x : Int × Int × Int) (va : Value) (ra : List ByteArray) (vb : Value) (rb : List ByteArray) (vs : Value) (stps : List (Int × Int × Int)) (W : World) : Prop where
  a : SlV W va (ra.map Value.string)
  b : SlV W vb (rb.map Value.string)
  s : SlS W vs stps
  c0 : W.cell? ⟨B, 0, none⟩ = some (.int .i64 x.1)
  c1 : W.cell? ⟨B, 1, none⟩ = some (.int .i64 x.2.1)
  c2 : W.cell? ⟨B, 2, none⟩ = some (.int .i64 x.2.2)
  da : ∀ k, svD va (ra.map Value.string) k → k < base
  db : ∀ k, svD vb (rb.map Value.string) k → k < base
  ds : ∀ k, slE vs stps k → k < base
theorem ApSt.chg {base B : Nat} {x : Int × Int × Int} {va vb vs : Value} {ra rb : List ByteArray} {stps : List (Int × Int × Int)} {W W' : World} (h : ApSt base B x va ra vb rb vs stps W) {U : Blk} (c : Chg U W W') (hU : ∀ k, U k → base ≤ k ∧ k ≠ B) : ApSt base B x va ra vb rb vs stps W' := {
  a := h.a.chg c (fun k hk hu => by have := h.da k hk; have := (hU k hu).1; omega)
  b := h.b.chg c (fun k hk hu => by have := h.db k hk; have := (hU k hu).1; omega)
  s := SlE.chg eS_len (by decide) h.s c (fun k hk hu => by have := h.ds k hk; have := (hU k hu).1; omega)
  c0 := (World.cell?_of_block (a := ⟨B, 0, none⟩) (c.block B (World.block_lt_of_cell? W _ h.c0) (fun hu => (hU B hu).2 rfl))).trans h.c0
  c1 := (World.cell?_of_block (a := ⟨B, 1, none⟩) (c.block B (World.block_lt_of_cell? W _ h.c0) (fun hu => (hU B hu).2 rfl))).trans h.c1
  c2 := (World.cell?_of_block (a := ⟨B, 2, none⟩) (c.block B (World.block_lt_of_cell? W _ h.c0) (fun hu => (hU B hu).2 rfl))).trans h.c2
  da := h.da
  db := h.db
  ds := h.ds }

/-- What is appended to grows elsewhere. -/
theorem ApSt.grow {base B : Nat} {x : Int × Int × Int} {va vb vs v v' : Value} {ra rb : List ByteArray} {stps : List (Int × Int × Int)} {W W' : World} {e : TypeId} {n : Nat} {xs : List Value} (h : ApSt base B x va ra vb rb vs stps W)
    (hr : W.ownsRow base e 1 v n xs) (hB : ∀ k, v.ownBlock = some k → k ≠ B) (hg : W.grownBy W' v.ownBlock) (hat : v'.ownBlock = v.ownBlock ∨ v'.ownBlock = some W.heap.size) :
    ApSt base B x va ra vb rb vs stps W' ∧ (∀ k, v'.ownBlock = some k → k ≠ B) ∧ Chg (fun k => v.ownBlock = some k) W W' := by
  have c : Chg (fun k => v.ownBlock = some k) W W' := (Chg.refl _ W).grown hg (fun k e => .inl e)
  refine ⟨h.chg c (fun k hk => ⟨(hr.lt k hk).1, hB k hk⟩), fun k hk => ?_, c⟩
  rcases hat with h' | h'
  · exact hB k (h'.symm.trans hk)
  · have h1 := Option.some.inj (h'.symm.trans hk)
    have h2 := World.block_lt_of_cell? W _ h.c0
    intro e
    subst e
    simp only at h2
    omega

/-- How the answer is told. -/
def appRes (w : World) (r : Option (List ByteArray)) (e : Ending) (w' : World) : Prop := match r with
  | none => e = .returned (.tuple #[.slice none 0 0, .bool false])
  | some c => ∃ v', e = .returned (.tuple #[v', .bool true]) ∧ w'.ownsRow w.heap.size 9 1 v' c.length (c.map Value.string)

theorem app_fit {a b : List ByteArray} {x : Int × Int × Int} {r : List (Int × Int × Int)} : app a b (x :: r) = if fitsB x a.length b.length = true ∧ a.take x.1.toNat = b.take x.1.toNat then
      (app (a.drop (x.1.toNat + x.2.1.toNat)) (b.drop (x.1.toNat + x.2.2.toNat)) r).map (fun t => a.take x.1.toNat ++ ((b.drop x.1.toNat).take x.2.2.toNat ++ t)) else none := by
  obtain ⟨s, o, n⟩ := x
  show (if _ then _ else _) = _
  unfold fitsB
  simp only [decide_eq_true_eq]
  by_cases h : 0 ≤ s ∧ 0 ≤ o ∧ 0 ≤ n ∧ s ≤ a.length ∧ s ≤ b.length ∧ o ≤ (a.length : Int) - s ∧ n ≤ (b.length : Int) - s ∧ a.take s.toNat = b.take s.toNat
  · rw [if_pos h, if_pos ⟨by omega, h.2.2.2.2.2.2.2⟩]
  · rw [if_neg h, if_neg (fun h2 => h ⟨by omega, by omega, by omega, by omega, by omega, by omega, by omega, h2.2⟩)]

set_option maxRecDepth 100000 in
set_option maxHeartbeats 2000000 in
theorem apply_in (v u vs : Value) (a b : List ByteArray) (stps : List (Int × Int × Int)) (w : World) (hv : SlV w v (a.map Value.string)) (hu : SlV w u (b.map Value.string)) (hs : SlS w vs stps) (ha : a.length ≤ 400) (hb : b.length ≤ 400) (hss : stps.length ≤ 1000) :
    CallsIn Fence.wide 0 Tryz.prog 181 #[v, u, vs] w fun e w' => appRes w (app a b stps) e w' ∧ Chg No w w' := by
  have hmix : Tryz.prog.follows .mixedOrders = true := by kernel_rfl
  obtain ⟨i0, hi, hz0, hz1, hz2⟩ := info_parts info9
  obtain ⟨p, cp, rfl, hp1, hp2, hpc⟩ := id hv
  obtain ⟨q, cq, rfl, hq1, hq2, hqc⟩ := id hu
  obtain ⟨ps, cs, rfl, hs1, hs2, hsc⟩ := id hs
  rw [List.length_map] at hp1 hq1
  obtain ⟨n, HN⟩ : ∃ n, Hid (a.length = n) := ⟨_, rfl⟩
  obtain ⟨m, HM⟩ : ∃ m, Hid (b.length = m) := ⟨_, rfl⟩
  obtain ⟨ns, HS⟩ : ∃ n, Hid (stps.length = n) := ⟨_, rfl⟩
  rw [List.length_map, HN.out] at hv
  rw [List.length_map, HM.out] at hu
  rw [HS.out] at hs hss hs1
  rw [List.length_map, List.length_map, HN.out, HM.out, HS.out]
  rw [HN.out] at ha hp1
  rw [HM.out] at hb hq1
  have hl := tooLong_in p q n m cp cq w
  rw [decide_eq_false (by omega)] at hl
  have dA := hv.lt
  have dB := hu.lt
  have dS := SlE.lt eS_len (by decide) hs
  obtain ⟨tot, HTot⟩ : ∃ t, Hid (app a b stps = t) := ⟨_, rfl⟩
  rw [HTot.out]
  clear hpc hqc hsc
  refine callsIn_of_wp Tryz.func181 rfl trivial ?_
  simp only [Tryz.ntmps181, List.size_toArray, List.length_cons, List.length_nil, Nat.reduceAdd, Nat.reduceSub, Array.replicate_succ, Array.replicate_zero, List.push_toArray, List.append_toArray, List.nil_append, List.cons_append]
  gi_wp2_with fail
  refine ⟨trivial, rfl, hl.mono ?_⟩
  rintro e w1 ⟨rfl, rfl⟩
  clear hl
  have hmm : m ≤ maxLen := by unfold maxLen; omega
  gi_wp2_with (gi_at_make; refine wpListIn_make_own _ rfl _ _ 86 rfl w1.heap.size 9 i0 (.string ⟨#[]⟩) 1 Tryz.underlying86 hi hz0 hz1 .i64 .i64 (m : Int) m rfl rfl rfl (by rw [hz2]; omega) hmm (Nat.le_refl _) ?_; intro w2 hown2 hgrow1; have c2 : Chg No w1 w2 := (Chg.refl _ w1).grown hgrow1 (fun k e => by cases e))
  have hv2 := hv.no c2
  have hu2 := hu.no c2
  have hs2' := SlE.no eS_len (by decide) hs c2
  gi_loopw [8, 9, 10, 23] (fun vm v9 v10 i wr => ∃ (k na nb : Nat) (acc ra rb : List ByteArray) (pa pb : Option Addr) (ca cb : Nat), k ≤ ns ∧ i = .int .i64 (k : Int) ∧ v9 = .slice pa na ca ∧ v10 = .slice pb nb cb ∧ Hid (ra.length = na) ∧ Hid (rb.length = nb) ∧ na ≤ 400 ∧ acc.length + nb ≤ 400 ∧
      SlV wr (.slice pa na ca) (ra.map Value.string) ∧ SlV wr (.slice pb nb cb) (rb.map Value.string) ∧ Hid (∀ k, svD (.slice pa na ca) (ra.map Value.string) k → k < w1.heap.size) ∧ Hid (∀ k, svD (.slice pb nb cb) (rb.map Value.string) k → k < w1.heap.size) ∧
      wr.ownsRow w1.heap.size 9 1 vm acc.length (acc.map Value.string) ∧ Hid ((app ra rb (stps.drop k)).map (fun t => acc ++ t) = tot) ∧ SlS wr (.slice ps ns cs) stps ∧ Chg No w1 wr) (fun vm v9 v10 i _ => ns - (intOf i).toNat)
  case atStart => exact ⟨0, n, m, [], a, b, p, q, cp, cq, Nat.zero_le _, rfl, rfl, rfl, HN, HM, ha, by simpa using hb, hv2, hu2, dA, dB, hown2, by show _ = _; simpa using HTot.out, hs2', c2⟩
  case round =>
    obtain ⟨k, na, nb, acc, ra, rb, pa, pb, ca, cb, hk, rfl, rfl, rfl, HNA, HNB, hna, hnb, sA, sB, HDA, HDB, hr, HT, sS, cw⟩ := hrel
    by_cases hlt : k < ns
    · have hlt' : (k : Int) < (ns : Int) := by omega
      have hks : k < stps.length := by rw [HS.out]; exact hlt
      obtain ⟨x, hx⟩ : ∃ x, stps[k]? = some x := ⟨_, List.getElem?_eq_getElem hks⟩
      obtain ⟨bs, os, rfl, q1, q2, q3⟩ := SlS.at sS k x hx
      have HTk : Hid (stps.drop k = x :: stps.drop (k + 1)) := by
        rw [List.drop_eq_getElem_cons hks]
        rw [List.getElem?_eq_getElem hks] at hx
        rw [Option.some.inj hx]
        exact rfl
      obtain ⟨s, o, nn⟩ := x
      simp only at q1 q2 q3
      clear hx hks
      obtain ⟨pm, cm, rfl⟩ := row_slice hr
      have hr3 := hr.alloc (.cells #[.int .i64 s, .int .i64 o, .int .i64 nn] 211)
      have cw3 := cw.alloc (.cells #[.int .i64 s, .int .i64 o, .int .i64 nn] 211)
      have hBn : ∀ k, Value.ownBlock (.slice pm acc.length cm) = some k → w1.heap.size ≤ k ∧ k ≠ wr.heap.size := fun k hk => by
        have := hr.lt k hk
        omega
      have st3 : ApSt w1.heap.size wr.heap.size (s, o, nn) (.slice pa na ca) ra (.slice pb nb cb) rb (.slice (some ⟨bs, os, none⟩) ns cs) stps (wr.alloc (.cells #[.int .i64 s, .int .i64 o, .int .i64 nn] 211)) := {
        a := sA.no ((Chg.refl _ wr).alloc _)
        b := sB.no ((Chg.refl _ wr).alloc _)
        s := SlE.no eS_len (by decide) sS ((Chg.refl _ wr).alloc _)
        c0 := World.cell?_alloc_at _ _ _ _ rfl
        c1 := World.cell?_alloc_at _ _ _ _ rfl
        c2 := World.cell?_alloc_at _ _ _ _ rfl
        da := HDA.out
        db := HDB.out
        ds := dS }
      have hsz3 : (wr.alloc (.cells #[.int .i64 s, .int .i64 o, .int .i64 nn] 211)).heap.size = wr.heap.size + 1 := by simp
      gi_wp2
      generalize wr.alloc (.cells #[.int .i64 s, .int .i64 o, .int .i64 nn] 211) = W3 at *
      generalize wr.heap.size = B at *
      have hany : Nonempty (After W3) := After.any W3
      have f0 : ∀ c : After W3, c.val.cell? ⟨B, 0, none⟩ = some (.int .i64 s) := fun c => c.cell st3.c0
      have f1 : ∀ c : After W3, c.val.cell? ⟨B, 1, none⟩ = some (.int .i64 o) := fun c => c.cell st3.c1
      have f2 : ∀ c : After W3, c.val.cell? ⟨B, 2, none⟩ = some (.int .i64 nn) := fun c => c.cell st3.c2
      have HFt : Hid (∀ c : After W3, CallsIn Fence.wide 0 Tryz.prog 188 #[.agg #[.int .i64 s, .int .i64 o, .int .i64 nn], .int .i64 (na : Int), .int .i64 (nb : Int)] c.val fun e w' => e = .returned (.bool (fitsB (s, o, nn) na nb)) ∧ Chg No c.val w') := fun c => fits_in s o nn na nb (by omega) (by omega) c.val
      have HAP := app_fit (a := ra) (b := rb) (x := (s, o, nn)) (r := stps.drop (k + 1))
      rw [HNA.out, HNB.out] at HAP
      clear q1 q2 q3 sA sB sS hr cw
      cases hfz : fitsB (s, o, nn) na nb with
      | false =>
        rw [hfz] at HFt HAP
        obtain rfl : tot = none := by
          have := HT.out
          rw [HTk.out, HAP, if_neg (by simp)] at this
          exact this.symm
        clear HAP hfz
        refine region_quietC hmix (by kernel_rfl) ?_
        repeat (gi_big_quiet_step (fail))
        refine wpQuietIn_want (fun _ _ _ _ => trivial) rfl ?_
        intro KQ hKQ
        gi_big_quiet_op
        gi_big_quiet_call (exact ⟨rfl, (HFt.out _).mono (by rintro e w'' ⟨rfl, c'⟩; exact ⟨rfl, After.more _ c'⟩)⟩)
        repeat (gi_big_quiet_step (fail))
        refine wpQuietIn_skip (fun _ _ _ _ => trivial) rfl ?_
        simp only [Act.put, List.setIfInBounds_toArray, List.set_cons_succ, List.set_cons_zero]
        repeat (gi_big_quiet_step (fail))
        refine wpQuietIn_nil ?_
        rintro w' ⟨c, rfl⟩
        have cc := Chg.seq cw3 c.chg
        gi_wp2
        go_ret2
        exact ⟨rfl, cc⟩
      | true =>
        rw [hfz] at HFt HAP
        have hfit := of_decide_eq_true hfz
        simp only at hfit
        obtain ⟨e1, e2, e3, e4, e5, e6, e7⟩ := hfit
        obtain ⟨s', rfl⟩ := Int.eq_ofNat_of_zero_le e1
        obtain ⟨o', rfl⟩ := Int.eq_ofNat_of_zero_le e2
        obtain ⟨n', rfl⟩ := Int.eq_ofNat_of_zero_le e3
        have g1 : s' + o' ≤ na := by omega
        have g2 : s' + n' ≤ nb := by omega
        simp only [Int.toNat_natCast] at HAP
        have hla : (ra.map Value.string).length = na := by rw [List.length_map]; exact HNA.out
        have hlb : (rb.map Value.string).length = nb := by rw [List.length_map]; exact HNB.out
        obtain ⟨pa1, ca1, sA1, oA1, hcA1⟩ := SlV.high st3.a hla s' (by omega)
        obtain ⟨pb1, cb1, sB1, oB1, hcB1⟩ := SlV.high st3.b hlb s' (by omega)
        obtain ⟨pb2, cb2, sB2, oB2, hcB2⟩ := SlV.mid st3.b hlb s' (s' + n') (by omega) (by omega)
        obtain ⟨pa3, ca3, sA3, oA3, hcA3⟩ := SlV.low st3.a hla (s' + o') (by omega)
        obtain ⟨pb3, cb3, sB3, oB3, hcB3⟩ := SlV.low st3.b hlb (s' + n') (by omega)
        rw [← List.map_take] at sA1 sB1
        rw [← List.map_take, ← List.map_drop, List.drop_take, show s' + n' - s' = n' by omega] at sB2
        rw [show s' + n' - s' = n' by omega] at hcB2 oB2
        rw [← List.map_drop] at sA3 sB3
        rw [Int.natCast_add] at hcB2 hcA3 hcB3
        have HEq : Hid (∀ c : After W3, CallsIn Fence.wide 0 Tryz.prog 189 #[.slice pa1 s' ca1, .slice pb1 s' cb1, .func (.func 187) #[] #[]] c.val fun e w' => e = .returned (.bool (decide (ra.take s' = rb.take s'))) ∧ w' = c.val) := fun c =>
          equalTx_in _ _ (ra.take s') (rb.take s') c.val (sA1.no c.chg) (sB1.no c.chg) (by rw [List.length_take, HNA.out]; omega) (by rw [List.length_take, List.length_take, HNA.out, HNB.out]; omega)
        cases hz : decide (ra.take s' = rb.take s') with
        | false =>
          rw [hz] at HEq
          obtain rfl : tot = none := by
            have := HT.out
            rw [HTk.out, HAP, if_neg (fun h => of_decide_eq_false hz h.2)] at this
            exact this.symm
          clear HAP hfz hz hcB2 hcA3 hcB3
          refine region_quietC hmix (by kernel_rfl) ?_
          repeat (gi_big_quiet_step (fail))
          refine wpQuietIn_want (fun _ _ _ _ => trivial) rfl ?_
          intro KQ hKQ
          gi_big_quiet_op
          gi_big_quiet_call (exact ⟨rfl, (HFt.out _).mono (by rintro e w'' ⟨rfl, c'⟩; exact ⟨rfl, After.more _ c'⟩)⟩)
          repeat (gi_big_quiet_step (fail))
          refine wpQuietIn_want (fun _ _ _ _ => trivial) rfl ?_
          intro KQ2 hKQ2
          gi_big_quiet_op
          gi_big_quiet_call (exact ⟨rfl, (HEq.out _).mono (by rintro e w'' ⟨rfl, rfl⟩; exact ⟨rfl, _, rfl⟩)⟩)
          repeat (gi_big_quiet_step (fail))
          refine wpQuietIn_nil ?_
          rintro w' ⟨c, rfl⟩
          have cc := Chg.seq cw3 c.chg
          gi_wp2
          go_ret2
          exact ⟨rfl, cc⟩
        | true =>
          rw [hz] at HEq
          have HT2 : Hid ((app (ra.drop (s' + o')) (rb.drop (s' + n')) (stps.drop (k + 1))).map (fun t => (acc ++ ra.take s' ++ (rb.drop s').take n') ++ t) = tot) := by
            have := HT.out
            rw [HTk.out, HAP, if_pos ⟨by trivial, of_decide_eq_true hz⟩, Option.map_map] at this
            rw [← this]
            show _ = _
            congr 1
            funext t
            simp [List.append_assoc]
          clear HAP hfz hz
          refine region_quietC hmix (by kernel_rfl) ?_
          repeat (gi_big_quiet_step (fail))
          refine wpQuietIn_want (fun _ _ _ _ => trivial) rfl ?_
          intro KQ hKQ
          gi_big_quiet_op
          gi_big_quiet_call (exact ⟨rfl, (HFt.out _).mono (by rintro e w'' ⟨rfl, c'⟩; exact ⟨rfl, After.more _ c'⟩)⟩)
          repeat (gi_big_quiet_step (fail))
          refine wpQuietIn_want (fun _ _ _ _ => trivial) rfl ?_
          intro KQ2 hKQ2
          gi_big_quiet_op
          gi_big_quiet_call (exact ⟨rfl, (HEq.out _).mono (by rintro e w'' ⟨rfl, rfl⟩; exact ⟨rfl, _, rfl⟩)⟩)
          repeat (gi_big_quiet_step (fail))
          refine wpQuietIn_nil ?_
          rintro w' ⟨c, rfl⟩
          have cc := Chg.seq cw3 c.chg
          have st4 := st3.chg c.chg (fun _ h => h.elim)
          have hr4 := row_kept hr3 (fun k hk => c.chg.block k (hr3.lt k hk).2 (fun h => h))
          have sA1' := sA1.no c.chg
          have sB2' := sB2.no c.chg
          have sA3' := sA3.no c.chg
          have sB3' := sB3.no c.chg
          have DB2 : Hid (∀ k, svD (.slice pb2 n' cb2) (((rb.drop s').take n').map Value.string) k → k < w1.heap.size) := fun k hk => HDB.out k ⟨fun h => hk.1 (by rw [List.map_eq_nil_iff] at h; rw [h]; simp), oB2 k hk.2⟩
          have DA3 : Hid (∀ k, svD (.slice pa3 (na - (s' + o')) ca3) ((ra.drop (s' + o')).map Value.string) k → k < w1.heap.size) := fun k hk => HDA.out k ⟨fun h => hk.1 (by rw [List.map_eq_nil_iff] at h; rw [h]; simp), oA3 k hk.2⟩
          have DB3 : Hid (∀ k, svD (.slice pb3 (nb - (s' + n')) cb3) ((rb.drop (s' + n')).map Value.string) k → k < w1.heap.size) := fun k hk => HDB.out k ⟨fun h => hk.1 (by rw [List.map_eq_nil_iff] at h; rw [h]; simp), oB3 k hk.2⟩
          generalize c.val = W4 at *
          clear sA1 sB1 sB2 sA3 sB3 oA1 oB1 oB2 oA3 oB3 f0 f1 f2 hany HFt HEq hcB1 st3 hr3
          have y0 := st4.c0
          have y1 := st4.c1
          have y2 := st4.c2
          have hb4 : w1.heap.size ≤ W4.heap.size := cc.size
          have hB4 : ∀ k, Value.ownBlock (.slice pm acc.length cm) = some k → k ≠ B := fun k hk => (hBn k hk).2
          gi_wp2_with (first
            | (gi_at_builtin; refine wpListIn_append_sv _ rfl _ _ rfl w1.heap.size _ acc.length _ rfl hr4 pa1 s' ca1 (ra.take s') rfl sA1' (by omega) hb4 ?_; intro v5 W5 hown5 hgrow5 hat5; obtain ⟨st5, hB5, c5⟩ := st4.grow hr4 hB4 hgrow5 hat5; have z0 := st5.c0; have z1 := st5.c1; have z2 := st5.c2; obtain ⟨pm5, cm5, rfl⟩ := row_slice hown5; have sB5 := sB2'.chg c5 (fun k hk h => by have := DB2.out k hk; have := (hBn k h).1; omega); have hb5 := Nat.le_trans hb4 c5.size)
            | (gi_at_builtin; refine wpListIn_append_sv _ rfl _ _ rfl w1.heap.size _ (acc.length + s') _ rfl hown5 pb2 n' cb2 ((rb.drop s').take n') rfl sB5 (by omega) hb5 ?_; intro v6 W6 hown6 hgrow6 hat6; obtain ⟨st6, hB6, c6⟩ := st5.grow hown5 hB5 hgrow6 hat6; have z3 := st6.c0; have z4 := st6.c1; have z5 := st6.c2))
          have hno : ∀ {v : Value} {vals : List Value}, SlV W4 v vals → (∀ k, svD v vals k → k < w1.heap.size) → SlV W6 v vals := fun h hd =>
            (h.chg c5 (fun k hk e => by have := hd k hk; have := (hr4.lt k e).1; omega)).chg c6 (fun k hk e => by have := hd k hk; have := (hown5.lt k e).1; omega)
          have c16 : Chg No w1 W6 := (cc.trans c5 (fun k hk => .inr (hr4.lt k hk).1)).trans c6 (fun k hk => .inr (hown5.lt k hk).1)
          have hlen : (acc ++ ra.take s' ++ (rb.drop s').take n').length = acc.length + s' + n' := by
            rw [List.length_append, List.length_append, List.length_take, List.length_take, List.length_drop, HNA.out, HNB.out]
            omega
          go_roundw
          case rel => exact ⟨k + 1, na - (s' + o'), nb - (s' + n'), acc ++ ra.take s' ++ (rb.drop s').take n', ra.drop (s' + o'), rb.drop (s' + n'), pa3, pb3, ca3, cb3, hlt, by go_num, rfl, rfl, by show _ = _; rw [List.length_drop, HNA.out], by show _ = _; rw [List.length_drop, HNB.out], by omega, by rw [hlen]; omega, hno sA3' DA3.out, hno sB3' DB3.out, DA3, DB3, by rw [hlen, List.map_append, List.map_append]; exact hown6, HT2, st6.s, c16⟩
          case measure => simp [intOf]; omega
    · obtain rfl : k = ns := by omega
      have hlt' : ¬ (k : Int) < (k : Int) := by omega
      obtain ⟨pm, cm, rfl⟩ := row_slice hr
      have HD : Hid ((if ra = [] ∧ rb = [] then some acc else none) = tot) := by
        have := HT.out
        rw [List.drop_eq_nil_of_le (by rw [HS.out]; exact Nat.le_refl _)] at this
        rw [← this]
        show _ = _
        unfold app
        split <;> simp
      by_cases h1 : 0 < na
      · have h1' : (na : Int) > 0 := by omega
        have h1'' : (0 : Int) < (na : Int) := by omega
        obtain rfl : tot = none := by
          rw [← HD.out, if_neg]
          rintro ⟨rfl, _⟩
          have := HNA.out
          simp at this
          omega
        gi_wp2
        go_ret2
        exact ⟨rfl, cw⟩
      · have h1'' : ¬ (0 : Int) < (na : Int) := by omega
        by_cases h2 : 0 < nb
        · have h2'' : (0 : Int) < (nb : Int) := by omega
          obtain rfl : tot = none := by
            rw [← HD.out, if_neg]
            rintro ⟨_, rfl⟩
            have := HNB.out
            simp at this
            omega
          gi_wp2
          go_ret2
          exact ⟨rfl, cw⟩
        · have h2'' : ¬ (0 : Int) < (nb : Int) := by omega
          obtain rfl : tot = some acc := by
            rw [← HD.out, if_pos]
            exact ⟨List.length_eq_zero_iff.1 (by rw [HNA.out]; omega), List.length_eq_zero_iff.1 (by rw [HNB.out]; omega)⟩
          gi_wp2
          go_ret2
          exact ⟨⟨_, rfl, hr⟩, cw⟩

end Go.Proofs.YtakbeololabmhaaGreatDoor

end
section
-- TOwn
namespace Go.Proofs.YtakbeololabmhaaGreatDoor
open Go.RowKit Go.Shelf Go.SeqLib Go.DiffLib Go.BigFrame
attribute [local go_sem] Oper.semAt_some

theorem oneStep (w : World) (x y z : Int) : SlS (w.alloc (.cells #[.int .i64 x, .int .i64 y, .int .i64 z] 211)) (.slice (some ⟨w.heap.size, 0, none⟩) 1 1) [(x, y, z)] := by
  refine ⟨_, 1, rfl, Nat.le_refl _, by unfold maxLen; decide, fun i u hi => ⟨w.heap.size, 0, rfl, fun q r hq => ?_⟩⟩
  rw [World.cell?_alloc_at _ _ _ _ rfl]
  have hi1 : i < 1 := (List.getElem?_eq_some_iff.1 hi).1
  obtain rfl : i = 0 := by omega
  cases hi
  rw [show 0 + 0 * 3 + q = q by omega]
  unfold eS at hq
  simpa using hq

theorem run_max3 {P : Program} (ts : Array TypeId) (t : TypeId) (x y z : Nat) (w : World) : (Builtin.max_ ts t #[.int .i64 (x : Int), .int .i64 (y : Int), .int .i64 (z : Int)]).run P w = .ok (.int .i64 ((max (max x y) z : Nat) : Int)) w := by
  simp [Builtin.max_, Builtin.max2]
  split <;> split <;> simp_all <;> omega

theorem tooLong3_in (p q r : Option Addr) (n m k cp cq cr : Nat) (hn : n ≤ 400) (hm : m ≤ 400) (hk : k ≤ 400) (w : World) : CallsIn Fence.wide 0 Tryz.prog 140 #[.slice p n cp, .slice q m cq, .slice r k cr] w fun e w' => e = .returned (.bool false) ∧ w' = w := by
  refine callsIn_of_wp Tryz.func140 rfl trivial ?_
  simp only [Tryz.ntmps140, List.size_toArray, List.length_cons, List.length_nil, Nat.reduceAdd, Nat.reduceSub, Array.replicate_succ, Array.replicate_zero, List.push_toArray, List.append_toArray, List.nil_append, List.cons_append]
  obtain ⟨M, hM⟩ : ∃ M, max (max n m) k = M := ⟨_, rfl⟩
  have hmx : ¬ (400 : Int) < (M : Int) := by omega
  have hr : ∀ w, (Builtin.max_ #[3, 3, 3] 3 #[.int .i64 (n : Int), .int .i64 (m : Int), .int .i64 (k : Int)]).run Tryz.prog w = .ok (.int .i64 (M : Int)) w := fun w => by rw [run_max3, hM]
  clear hM
  gi_wp2
  go_ret
  exact ⟨rfl, rfl⟩

theorem own_in (p : Option Addr) (n cap : Nat) (zs : List ByteArray) (w : World) (h : SlV w (.slice p n cap) (zs.map Value.string)) (hn : n ≤ 1000) :
    CallsIn Fence.wide 0 Tryz.prog 180 #[.slice p n cap] w fun e w' => ∃ v', e = .returned v' ∧ w'.ownsRow w.heap.size 9 1 v' zs.length (zs.map Value.string) ∧ Chg No w w' := by
  have hl : zs.length = n := by obtain ⟨p', c', e, _⟩ := h; cases e; simp
  refine callsIn_of_wp Tryz.func180 rfl trivial ?_
  simp only [Tryz.ntmps180, List.size_toArray, List.length_cons, List.length_nil, Nat.reduceAdd, Nat.reduceSub, Array.replicate_succ, Array.replicate_zero, List.push_toArray, List.append_toArray, List.nil_append, List.cons_append]
  have hr0 : w.ownsRow w.heap.size 9 1 (.slice none 0 0) 0 [] := World.ownsRow_nil _ _ _ _
  have HL : Hid (zs.length = n) := hl
  clear hl
  gi_wp2_with (gi_at_builtin; refine wpListIn_append_sv _ rfl _ _ rfl w.heap.size _ 0 _ rfl hr0 p n cap zs rfl h (by omega) (Nat.le_refl _) ?_; intro v5 W5 hown5 hgrow5 hat5)
  go_ret
  exact ⟨_, rfl, by rw [HL.out]; simpa using hown5, (Chg.refl _ w).grown hgrow5 (fun k e => by cases e)⟩

theorem app_alike (x y : List ByteArray) : (app x y [((x.length : Int), 0, 0)]).isSome = decide (x = y) := by
  unfold app
  by_cases h : x = y
  · subst h
    rw [if_pos (by refine ⟨by omega, by omega, by omega, by omega, by omega, by omega, by omega, rfl⟩)]
    simp [app]
  · rw [decide_eq_false h]
    split
    · rename_i h2
      obtain ⟨_, _, _, _, h5, _, _, h8⟩ := h2
      have hne : y.drop x.length ≠ [] := by
        intro e
        apply h
        have hl : y.length ≤ x.length := by rw [List.drop_eq_nil_iff] at e; exact e
        simp only [Int.toNat_natCast] at h8
        rw [List.take_length, List.take_of_length_le hl] at h8
        exact h8
      simp [app, hne]
    · rfl

set_option maxRecDepth 100000 in
set_option maxHeartbeats 1000000 in
theorem alike_in (v u : Value) (x y : List ByteArray) (w : World) (hv : SlV w v (x.map Value.string)) (hu : SlV w u (y.map Value.string)) (hx : x.length ≤ 400) (hy : y.length ≤ 400) :
    CallsIn Fence.wide 0 Tryz.prog 168 #[v, u] w fun e w' => e = .returned (.bool (decide (x = y))) ∧ Chg No w w' := by
  obtain ⟨p, cp, rfl, _⟩ := id hv
  obtain ⟨q, cq, rfl, _⟩ := id hu
  rw [List.length_map] at hv ⊢
  rw [List.length_map] at hu ⊢
  have ha := app_alike x y
  have hc : Chg No w (w.alloc (.cells #[.int .i64 (x.length : Int), .int .i64 0, .int .i64 0] 211)) := (Chg.refl _ w).alloc _
  have hA := apply_in _ _ _ x y [((x.length : Int), 0, 0)] _ (hv.no hc) (hu.no hc) (oneStep w (x.length : Int) 0 0) hx hy (by simp)
  refine callsIn_of_wp Tryz.func168 rfl trivial ?_
  simp only [Tryz.ntmps168, List.size_toArray, List.length_cons, List.length_nil, Nat.reduceAdd, Nat.reduceSub, Array.replicate_succ, Array.replicate_zero, List.push_toArray, List.append_toArray, List.nil_append, List.cons_append]
  obtain ⟨n, HN⟩ : ∃ n, Hid (x.length = n) := ⟨_, rfl⟩
  obtain ⟨m, HM⟩ : ∃ n, Hid (y.length = n) := ⟨_, rfl⟩
  rw [HN.out] at ha hA hc hx ⊢
  rw [HM.out] at hA hy ⊢
  clear hv hu
  obtain ⟨z, hz⟩ : ∃ z, app x y [((n : Int), 0, 0)] = z := ⟨_, rfl⟩
  rw [hz] at hA ha
  clear hz
  gi_wp2_with fail
  refine ⟨trivial, rfl, hA.mono ?_⟩
  rintro e w2 ⟨hres, c2⟩
  have HF : Hid (z.isSome = decide (x = y)) := ha
  clear ha hA
  cases z with
  | none =>
    obtain rfl := hres
    gi_wp2
    go_ret
    exact ⟨by rw [← HF.out]; rfl, Chg.seq hc c2⟩
  | some c =>
    obtain ⟨v', rfl, r⟩ := hres
    gi_wp2
    go_ret
    exact ⟨by rw [← HF.out]; rfl, Chg.seq hc c2⟩

end Go.Proofs.YtakbeololabmhaaGreatDoor

end
section
-- TOn
namespace Go.Proofs.YtakbeololabmhaaGreatDoor
open Go.RowKit Go.Shelf Go.SeqLib Go.DiffLib Go.BigFrame
attribute [local go_sem] Oper.semAt_some

/-- A place's cells. -/
def eT (x : Pl) : List Value := [.int .i64 (x.1 : Int), .int .i64 (x.2.1 : Int), .int .i64 (x.2.2 : Int)]
theorem eT_len (x : Pl) : (eT x).length = 3 := rfl
abbrev vT (x : Pl) : Value := .agg #[.int .i64 (x.1 : Int), .int .i64 (x.2.1 : Int), .int .i64 (x.2.2 : Int)]
abbrev SlPl := @SlE Pl 3 eT
theorem SlPl.at {W : World} {p : Option Addr} {n cap : Nat} {zs : List Pl} (h : SlPl W (.slice p n cap) zs) (i : Nat) (x : Pl) (hi : zs[i]? = some x) :
    ∃ b off, p = some ⟨b, off, none⟩ ∧ W.cell? ⟨b, off + i * 3, none⟩ = some (.int .i64 (x.1 : Int)) ∧ W.cell? ⟨b, off + i * 3 + 1, none⟩ = some (.int .i64 (x.2.1 : Int)) ∧ W.cell? ⟨b, off + i * 3 + 2, none⟩ = some (.int .i64 (x.2.2 : Int)) := by
  obtain ⟨p', cap', e, _, _, hc⟩ := h
  cases e
  obtain ⟨b, off, e, h1⟩ := hc i x hi
  exact ⟨b, off, e, h1 0 _ rfl, h1 1 _ rfl, h1 2 _ rfl⟩
theorem info181 : (Tryz.prog.info? 181).map (fun i => (i.zero, i.size, i.bytes)) = some (some (.agg #[.int .i64 0, .int .i64 0, .int .i64 0]), 3, 24) := by kernel_rfl
theorem guard_place : Tryz.prog.eqGuardType Tryz.prog.depth 181 = false := by kernel_rfl
theorem size_place (w : World) : (sizeOf 181).run Tryz.prog w = .ok 3 w := by
  obtain ⟨i0, hi, _, h2, _⟩ := info_parts info181
  rw [run_sizeOf w hi]
  have : Tryz.prog.cellsOf 181 = 3 := by kernel_rfl
  rw [this]

theorem run_equalIn_place (a b c a' b' c' : Int) (w : World) : (Op.equalIn 10000 181 (.agg #[.int .i64 a, .int .i64 b, .int .i64 c]) (.agg #[.int .i64 a', .int .i64 b', .int .i64 c'])).run Tryz.prog w = .ok (a == a' && b == b' && c == c') w := by
  have h2 : Tryz.prog.underlying 3 = some (.int .i64) := by kernel_rfl
  have he : ∀ (x y : Int) (w : World), (Op.equalIn 9999 3 (.int .i64 x) (.int .i64 y)).run Tryz.prog w = .ok (x == y) w := fun x y w => run_equalIn_int w 9998 3 .i64 .i64 x y h2
  have hp : Tryz.prog.stoodInHeld 181 = false := by kernel_rfl
  have hu : Tryz.prog.underlying 181 = some (.struct (Tryz.prog.fieldsOf 181)) := by kernel_rfl
  have hf : ((Tryz.prog.fieldsOf 181).toList.map fun f => (f.name == "_", f.type, f.offset)) = [(false, 3, 0), (false, 3, 1), (false, 3, 2)] := by kernel_rfl
  rw [run_equalIn_agg w 9999 _ _ _ hu hp]
  obtain ⟨f1, f2, f3, hfl⟩ : ∃ f1 f2 f3, (Tryz.prog.fieldsOf 181).toList = [f1, f2, f3] := by
    generalize (Tryz.prog.fieldsOf 181).toList = l at hf
    have hl := congrArg List.length hf
    rw [List.length_map] at hl
    obtain ⟨x1, l1, rfl⟩ := List.exists_cons_of_length_eq_add_one hl
    obtain ⟨x2, l2, rfl⟩ := List.exists_cons_of_length_eq_add_one (Nat.succ.inj hl)
    obtain ⟨x3, l3, rfl⟩ := List.exists_cons_of_length_eq_add_one (Nat.succ.inj (Nat.succ.inj hl))
    obtain rfl := List.length_eq_zero_iff.1 (Nat.succ.inj (Nat.succ.inj (Nat.succ.inj hl)))
    exact ⟨x1, x2, x3, rfl⟩
  rw [hfl] at hf ⊢
  simp at hf
  obtain ⟨⟨n1, t1, o1⟩, ⟨n2, t2, o2⟩, ⟨n3, t3, o3⟩⟩ := hf
  have hpart : ∀ (xs : Array Value) (off : Nat) (v : Value) (w : World), xs[off]? = some v → (part 3 xs off).run Tryz.prog w = .ok v w := fun xs off v w h => run_part_plain w (by kernel_rfl) h
  simp [Op.eqFields, n1, n2, n3, t1, t2, t3, o1, o2, o3, hpart, he]
  by_cases e1 : a = a'
  · by_cases e2 : b = b'
    · by_cases e3 : c = c'
      · simp [e1, e2, e3]
      · simp [e1, e2, e3]
    · simp [e1, e2]
  · simp [e1]
theorem run_eql_place (p q : Pl) (w : World) : (binOp .eql 181 (vT p) (vT q)).run Tryz.prog w = .ok (.bool (decide (p = q))) w := by
  obtain ⟨a, b, c⟩ := p
  obtain ⟨d, e, f⟩ := q
  simp only [binOp]
  simp [Op.equal, Op.maxDepth, run_equalIn_place]
  by_cases e1 : a = d
  · by_cases e2 : b = e
    · by_cases e3 : c = f
      · simp [e1, e2, e3]
      · simp [e1, e2, e3]; omega
    · simp [e1, e2]; omega
  · simp [e1]; omega
theorem run_neq_place (p q : Pl) (w : World) : (binOp .neq 181 (vT p) (vT q)).run Tryz.prog w = .ok (.bool (!decide (p = q))) w := by
  obtain ⟨a, b, c⟩ := p
  obtain ⟨d, e, f⟩ := q
  simp only [binOp]
  simp [Op.equal, Op.maxDepth, run_equalIn_place]
  by_cases e1 : a = d
  · by_cases e2 : b = e
    · by_cases e3 : c = f
      · simp [e1, e2, e3]
      · simp [e1, e2, e3]; omega
    · simp [e1, e2]; omega
  · simp [e1]; omega

set_option maxHeartbeats 1000000 in
theorem on_in (p : Pl) (n : Nat) (h1 : p.1 ≤ 1000) (h2 : p.2.1 ≤ 1000) (h3 : p.2.2 ≤ 1000) (hn : n ≤ 1000) (w : World) :
    CallsIn Fence.wide 0 Tryz.prog 167 #[vT p, .int .i64 (n : Int)] w fun e w' => e = .returned (vT (on p n)) ∧ Chg No w w' := by
  obtain ⟨a, b, c⟩ := p
  simp only at h1 h2 h3
  refine callsIn_of_wp Tryz.func167 rfl trivial ?_
  simp only [Tryz.ntmps167, List.size_toArray, List.length_cons, List.length_nil, Nat.reduceAdd, Nat.reduceSub, Array.replicate_succ, Array.replicate_zero, List.push_toArray, List.append_toArray, List.nil_append, List.cons_append]
  gi_wp2
  refine bodyPost_ret (v := vT (on (a, b, c) n)) ?_ rfl ⟨rfl, ((Chg.refl _ w).alloc _).alloc _⟩
  rw [results_cell1 rfl]
  simp only [on]
  go_simp

set_option maxRecDepth 100000 in
set_option maxHeartbeats 2000000 in
theorem run3_in (p : Option Addr) (n cap : Nat) (ps : List Pl) (s : Pl) (w : World) (h : SlPl w (.slice p n cap) ps) (hl : ps.length = n) (hs : ps[0]? = some s) (hb : s.1 ≤ 400 ∧ s.2.1 ≤ 400 ∧ s.2.2 ≤ 400) (hn : n ≤ 400) :
    CallsIn Fence.wide 0 Tryz.prog 166 #[.slice p n cap] w fun e w' => e = .returned (.int .i64 (rn3 ps s : Int)) ∧ Chg No w w' := by
  have hmix : Tryz.prog.follows .mixedOrders = true := by kernel_rfl
  have hgd := guard_place
  have HL : Hid (ps.length = n) := hl
  have HS : Hid (ps[0]? = some s) := hs
  clear hl hs
  refine callsIn_of_wp Tryz.func166 rfl trivial ?_
  simp only [Tryz.ntmps166, List.size_toArray, List.length_cons, List.length_nil, Nat.reduceAdd, Nat.reduceSub, Array.replicate_succ, Array.replicate_zero, List.push_toArray, List.append_toArray, List.nil_append, List.cons_append]
  gi_wp2
  gi_loopw [3] (fun t wr => ∃ k : Nat, k ≤ n ∧ t = .int .i64 (k : Int) ∧ Hid (rn3 ps s = k + rn3 (ps.drop k) (on s k)) ∧ Chg No w wr) (fun t _ => n - (intOf t).toNat)
  case atStart => exact ⟨0, Nat.zero_le _, rfl, by show _ = _; simp [on_zero], Chg.refl _ _⟩
  case round =>
    obtain ⟨k, hk, rfl, HK, cw⟩ := hrel
    have hany : Nonempty (After wr) := After.any wr
    by_cases hlt : k < n
    · have hlt' : (k : Int) < (n : Int) := by omega
      have hn0 : (0 : Int) < (n : Int) := by omega
      have hkp : k < ps.length := by rw [HL.out]; exact hlt
      obtain ⟨x, hx⟩ : ∃ x, ps[k]? = some x := ⟨_, List.getElem?_eq_getElem hkp⟩
      have h' : SlPl wr _ ps := SlE.no eT_len (by decide) h cw
      obtain ⟨b, off, rfl, c1, c2, c3⟩ := SlPl.at h' k x hx
      obtain ⟨b0, off0, e0, d1, d2, d3⟩ := SlPl.at h' 0 s HS.out
      cases e0
      simp only [Nat.zero_mul, Nat.add_zero] at d1 d2 d3
      have hxk : ps[k] = x := by rw [List.getElem?_eq_getElem hkp] at hx; exact Option.some.inj hx
      have hat := rn3_at ps s k hkp
      rw [hxk] at hat
      have HOn : Hid (∀ c : After wr, CallsIn Fence.wide 0 Tryz.prog 167 #[vT s, .int .i64 (k : Int)] c.val fun e w' => e = .returned (vT (on s k)) ∧ Chg No c.val w') := fun c => on_in s k (by omega) (by omega) (by omega) (by omega) c.val
      have g1 : ∀ c : After wr, c.val.cell? ⟨b, off + k * 3, none⟩ = some (.int .i64 (x.1 : Int)) := fun c => c.cell c1
      have g2 : ∀ c : After wr, c.val.cell? ⟨b, off + k * 3 + 1, none⟩ = some (.int .i64 (x.2.1 : Int)) := fun c => c.cell c2
      have g3 : ∀ c : After wr, c.val.cell? ⟨b, off + k * 3 + 2, none⟩ = some (.int .i64 (x.2.2 : Int)) := fun c => c.cell c3
      have g4 : ∀ c : After wr, c.val.cell? ⟨b, off, none⟩ = some (.int .i64 (s.1 : Int)) := fun c => c.cell d1
      have g5 : ∀ c : After wr, c.val.cell? ⟨b, off + 1, none⟩ = some (.int .i64 (s.2.1 : Int)) := fun c => c.cell d2
      have g6 : ∀ c : After wr, c.val.cell? ⟨b, off + 2, none⟩ = some (.int .i64 (s.2.2 : Int)) := fun c => c.cell d3
      obtain ⟨z, hz⟩ : ∃ z, decide (x = on s k) = z := ⟨_, rfl⟩
      have heq : ∀ w, (binOp .eql 181 (vT x) (vT (on s k))).run Tryz.prog w = .ok (.bool z) w := fun w => by rw [run_eql_place, hz]
      have HAt : Hid (rn3 ps s = if z = true then (k + 1) + rn3 (ps.drop (k + 1)) (on s (k + 1)) else k) := by
        show _ = _
        rw [HK.out, hat, ← hz]
        by_cases e : x = on s k
        · simp [e]; omega
        · simp [e]
      clear hat hxk hx c1 c2 c3 d1 d2 d3 h' hz
      generalize on s k = y at *
      gi_wp2
      refine region_quietC hmix (by kernel_rfl) ?_
      repeat (gi_big_quiet_step (fail))
      refine wpQuietIn_want (fun _ _ _ _ => trivial) rfl ?_
      intro KQ hKQ
      gi_big_quiet_op
      gi_big_quiet_call (exact ⟨rfl, (HOn.out _).mono (by rintro e w'' ⟨rfl, c'⟩; exact ⟨rfl, After.more _ c'⟩)⟩)
      repeat (gi_big_quiet_step (fail))
      refine wpQuietIn_nil ?_
      rintro w' ⟨c, rfl⟩
      have cc := Chg.seq cw c.chg
      cases z
      · have HR : Hid (rn3 ps s = k) := HAt.out
        gi_wp2
        go_ret
        exact ⟨by rw [HR.out]; rfl, cc⟩
      · have HR : Hid (rn3 ps s = (k + 1) + rn3 (ps.drop (k + 1)) (on s (k + 1))) := HAt.out
        gi_wp2
        go_roundw
        case rel => exact ⟨k + 1, hlt, by go_num, HR, cc⟩
        case measure => simp [intOf]; omega
    · obtain rfl : k = n := by omega
      have hlt' : decide ((k : Int) < (k : Int)) = false := by simp
      have HR : Hid (rn3 ps s = k) := by
        show _ = _
        rw [HK.out, List.drop_eq_nil_of_le (by rw [HL.out]; exact Nat.le_refl _)]
        rfl
      gi_wp2
      refine region_quietC hmix (by kernel_rfl) ?_
      repeat (gi_big_quiet_step (fail))
      refine wpQuietIn_skip (fun _ _ _ _ => trivial) rfl ?_
      simp only [Act.put, List.setIfInBounds_toArray, List.set_cons_succ, List.set_cons_zero]
      repeat (gi_big_quiet_step (fail))
      refine wpQuietIn_nil ?_
      rintro w' ⟨c, rfl⟩
      have cc := Chg.seq cw c.chg
      gi_wp2
      go_ret
      exact ⟨by rw [HR.out]; rfl, cc⟩

end Go.Proofs.YtakbeololabmhaaGreatDoor

end
