/-
  ThreeTells answers true at every three lists of texts, and turns nothing that lay.
-/
import Derived.Test.YtfpceedjkmkidaaTAwake
import Derived.Test.YtfpceedjkmkidaaTxtH
import Derived.Test.YtfpceedjkmkidaaTxtL
import Derived.Test.YtfpceedjkmkidaaRMerge
namespace Go.Proofs.Ytfpceedjkmkidaa
open Go.RowKit Go.Shelf Go.SeqLib Go.DiffLib Go.BigFrame
attribute [local go_sem] Oper.semAt_some

theorem gather_most : ∀ (ps : List (Prt ByteArray)) (c : List ByteArray), gather ps = some c → c.length ≤ (ps.flatMap (·.a)).length + (ps.flatMap (·.b)).length
  | [], c, h => by cases h; simp
  | p :: ps, c, h => by
    rw [gather_cons] at h
    split at h
    · cases h
    · cases hg : gather ps with
      | none => rw [hg] at h; cases h
      | some t =>
        rw [hg] at h
        cases h
        have ih := gather_most ps t hg
        have hp : (pick p).length ≤ p.a.length + p.b.length := by unfold pick; split <;> omega
        simp only [List.flatMap_cons, List.length_append]
        omega
theorem mrg_most {o a b c : List ByteArray} (h : mrg o a b = some c) : c.length ≤ a.length + b.length := by
  have := gather_most _ c h
  rw [parts_a, parts_b] at this
  exact this
theorem three_few {o a b : List ByteArray} (h : (greatB o 30 20 || (greatB a 30 20 || greatB b 30 20)) = false) : o.length ≤ 30 ∧ a.length ≤ 30 ∧ b.length ≤ 30 := by
  simp only [Bool.or_eq_false_iff] at h
  exact ⟨(greatB_false h.1).1, (greatB_false h.2.1).1, (greatB_false h.2.2).1⟩

theorem appRes_un {w w' : World} {r : Option (List ByteArray)} {e : Ending} (h : appRes w r e w') : ∃ v, e = .returned (.tuple #[v, .bool r.isSome]) ∧ w'.ownsRow w.heap.size 9 1 v (r.getD []).length ((r.getD []).map Value.string) := by
  cases r with
  | none => exact ⟨_, h, World.ownsRow_nil _ _ _ _⟩
  | some c => exact h

/-- The blocks of the first k parts. -/
def upTo (rs : List PRow) (k : Nat) : Blk := fun b => ∃ (j : Nat) (r : PRow), j < k ∧ rs[j]? = some r ∧ blkR r b
theorem upTo.more {rs : List PRow} {k : Nat} : ∀ b, upTo rs k b → upTo rs (k + 1) b := fun _ ⟨j, r, h1, h2, h3⟩ => ⟨j, r, Nat.lt_succ_of_lt h1, h2, h3⟩

/-- What lies ready ahead of the rounds. -/
structure Ready (W : World) (B W3 W4 W5 : Nat) (v10 v11 v12 : Value) (rs rq : List PRow) (ps : List (Prt ByteArray)) (nc : Nat) (cl : List ByteArray) : Prop where
  pa : PartsAt W W3 v10 rs ps
  lt : ∀ (j : Nat) (r : PRow) (b : Nat), rs[j]? = some r → blkR r b → b < W4
  ra : RPartsAt W W4 B v11 rq ps
  m : W.ownsRow W5 9 1 v12 nc (cl.map Value.string)
  h1 : B ≤ W3
  h2 : W3 ≤ W4
  h3 : W4 ≤ W5
section
variable {W wr : World} {B W3 W4 W5 : Nat} {v10 v11 v12 : Value} {rs rq : List PRow} {ps : List (Prt ByteArray)} {nc : Nat} {cl : List ByteArray} {k : Nat}
theorem Ready.no {W' : World} (h : Ready W B W3 W4 W5 v10 v11 v12 rs rq ps nc cl) (c : Chg No W W') : Ready W' B W3 W4 W5 v10 v11 v12 rs rq ps nc cl :=
  ⟨h.pa.no c, h.lt, h.ra.no c, own_still h.m c (fun _ _ h => h), h.h1, h.h2, h.h3⟩
theorem Ready.from (h : Ready W B W3 W4 W5 v10 v11 v12 rs rq ps nc cl) : ∀ b, upTo rs k b → W3 ≤ b ∧ b < W4 := fun b ⟨j, r, _, hr, hb⟩ => ⟨(h.pa.lt hr hb).1, h.lt j r b hr hb⟩
theorem Ready.p (h : Ready W B W3 W4 W5 v10 v11 v12 rs rq ps nc cl) (c : Chg (upTo rs k) W wr) : SlR wr v10 rs :=
  SlE.kept (SlE.ofRow eR_len h.pa.row) (fun b hb => c.block b (h.pa.row.lt b hb.2).2 (fun ⟨j, r, _, hr, hbk⟩ => h.pa.out j r b hr hbk hb.2))
theorem Ready.q (h : Ready W B W3 W4 W5 v10 v11 v12 rs rq ps nc cl) (c : Chg (upTo rs k) W wr) : RPartsAt wr W4 B v11 rq ps :=
  h.ra.chg c (fun b hb hu => by
    have h1 := h.from b hu
    have h2 := h.h1
    rcases hb with hb | hb
    · omega
    · have := (h.ra.row.lt b hb).1
      omega)
theorem Ready.own (h : Ready W B W3 W4 W5 v10 v11 v12 rs rq ps nc cl) (c : Chg (upTo rs k) W wr) {x : PRow} (hx : rs[k]? = some x) : ∃ p, ps[k]? = some p ∧ x.1 = p.c ∧ Own3 wr W3 x.2.1 x.2.2.1 x.2.2.2 p := by
  obtain ⟨p, h1, h2, o3⟩ := h.pa.at hx
  exact ⟨p, h1, h2, o3.chg c (fun b hb ⟨j, r, hj, hr, hbk⟩ => h.pa.apart j k r x hr hx (by omega) b hbk hb)⟩
theorem Ready.out (h : Ready W B W3 W4 W5 v10 v11 v12 rs rq ps nc cl) {x : PRow} (hx : rs[k]? = some x) {b : Nat} (hb : v10.ownBlock = some b) : ¬ blkR x b := fun h1 => h.pa.out k x b hx h1 hb
theorem Ready.mm (h : Ready W B W3 W4 W5 v10 v11 v12 rs rq ps nc cl) (c : Chg (upTo rs k) W wr) : wr.ownsRow W5 9 1 v12 nc (cl.map Value.string) :=
  own_still h.m c (fun b hb hu => by
    have h1 := h.from b hu
    have h2 := h.h3
    have := (h.m.lt b hb).1
    omega)
end

set_option maxRecDepth 100000 in
set_option maxHeartbeats 16000000 in
theorem tells_law (p : Option Addr) (lo cp : Nat) (o : List ByteArray) (q : Option Addr) (la cq : Nat) (a : List ByteArray) (r : Option Addr) (lb cr : Nat) (b : List ByteArray) (w : World) (hv : SlV w (.slice p lo cp) (o.map Value.string)) (hlo : o.length = lo) (hu : SlV w (.slice q la cq) (a.map Value.string)) (hla : a.length = la) (ht : SlV w (.slice r lb cr) (b.map Value.string)) (hlb : b.length = lb) :
    CallsIn Fence.wide 0 Try.prog 3 #[.slice p lo cp, .slice q la cq, .slice r lb cr] w fun e w' => e = .returned (.bool true) ∧ Chg No w w' := by
  have hmix : Try.prog.follows .mixedOrders = true := by kernel_rfl
  have LO : Hid (o.length = lo) := hlo
  have LA : Hid (a.length = la) := hla
  have LB : Hid (b.length = lb) := hlb
  clear hlo hla hlb
  refine callsIn_of_wp Try.func3 rfl trivial ?_
  simp only [Try.ntmps3, List.size_toArray, List.length_cons, List.length_nil, Nat.reduceAdd, Nat.reduceSub, Array.replicate_succ, Array.replicate_zero, List.push_toArray, List.append_toArray, List.nil_append, List.cons_append]
  gi_wp2_with fail
  refine ⟨trivial, rfl, (great3_in p q r lo la lb cp cq cr o a b w hv hu ht).mono ?_⟩
  rintro e w0 ⟨rfl, rfl⟩
  obtain ⟨g, hg⟩ : ∃ g, (greatB o 30 20 || (greatB a 30 20 || greatB b 30 20)) = g := ⟨_, rfl⟩
  rw [hg]
  cases g with
  | true =>
    gi_wp2_with fail
    refine ⟨trivial, rfl, (awake_in _).mono ?_⟩
    rintro e w1 ⟨rfl, c1⟩
    gi_wp2
    go_ret
    exact ⟨rfl, c1⟩
  | false =>
    obtain ⟨h1, h2, h3⟩ := three_few hg
    have H1 : Hid (o.length ≤ 30) := h1
    have H2 : Hid (a.length ≤ 30) := h2
    have H3 : Hid (b.length ≤ 30) := h3
    have hpl := parts_length o a b
    have HLn : Hid (∀ p ∈ parts o a b, p.o.length ≤ 30 ∧ p.a.length ≤ 30 ∧ p.b.length ≤ 30) := fun p hp => by have := parts_lens o a b p hp; omega
    have hpl' : (parts o a b).length ≤ 61 := by omega
    have HG : Hid (∀ c, mrg o a b = some c → c.length ≤ 60) := fun c h => by have := mrg_most h; omega
    clear hg hpl h1 h2 h3
    gi_wp2_with fail
    refine ⟨trivial, rfl, (lendS_in _ o (Nat.le_trans H1.out (by omega)) _ hv).mono ?_⟩
    rintro e W1 ⟨vx, rfl, lx1, c1⟩
    have hu1 := hu.no c1
    gi_wp2_with fail
    refine ⟨trivial, rfl, (lendS_in _ a (Nat.le_trans H2.out (by omega)) _ hu1).mono ?_⟩
    rintro e W2 ⟨vy, rfl, ly2, c2⟩
    have ht2 := ht.no (Chg.seq c1 c2)
    gi_wp2_with fail
    refine ⟨trivial, rfl, (lendS_in _ b (Nat.le_trans H3.out (by omega)) _ ht2).mono ?_⟩
    rintro e W3 ⟨vz, rfl, lz3, c3⟩
    have c03 := Chg.seq (Chg.seq c1 c2) c3
    have HX : Hid (LentS w0 W3 vx (o.map Value.string)) := (lx1.no c2).no c3
    have HY : Hid (LentS W1 W3 vy (a.map Value.string)) := ly2.no c3
    have HZ : Hid (LentS W2 W3 vz (b.map Value.string)) := lz3
    have HV : Hid (SlV W3 (.slice p lo cp) (o.map Value.string)) := hv.no c03
    have HU : Hid (SlV W3 (.slice q la cq) (a.map Value.string)) := hu.no c03
    have HT : Hid (SlV W3 (.slice r lb cr) (b.map Value.string)) := ht.no c03
    have dO := hv.lt
    have dA := hu.lt
    have dB := ht.lt
    have H1' : Hid (o.length ≤ 400) := Nat.le_trans H1.out (by omega)
    have H2' : Hid (a.length ≤ 400) := Nat.le_trans H2.out (by omega)
    have H3' : Hid (b.length ≤ 400) := Nat.le_trans H3.out (by omega)
    clear lx1 ly2 lz3 hu1 ht2 hv hu ht c1 c2 c3
    gi_wp2_with fail
    refine ⟨trivial, rfl, (parts_in _ _ _ o a b W3 HX.out.row HY.out.row HZ.out.row H1'.out H2'.out H3'.out).mono ?_⟩
    rintro e W4 ⟨v10, rfl, ⟨rs, PA4⟩, c4⟩
    gi_wp2_with fail
    refine ⟨trivial, rfl, (refParts_at _ _ _ o a b W4 w0.heap.size (Nat.le_trans c03.size c4.size) (HV.out.no c4) (HU.out.no c4) (HT.out.no c4) H1'.out H2'.out H3'.out dO dA dB).mono ?_⟩
    rintro e W5 ⟨v11, rfl, ⟨rq, RA5⟩, c5⟩
    have c35 := Chg.seq c4 c5
    have hM := merge_in _ _ _ o a b W5 (HX.out.row.no c35) (HY.out.row.no c35) (HZ.out.row.no c35) H1'.out H2'.out H3'.out
    have hR : ∀ W, Chg No W5 W → _ := fun W c => refMerge_in _ _ _ o a b W (HV.out.no (Chg.seq c35 c)) (HU.out.no (Chg.seq c35 c)) (HT.out.no (Chg.seq c35 c)) H1'.out H2'.out H3'.out
    generalize mrg o a b = res at *
    generalize parts o a b = ps at *
    have hrl : (res.getD []).length ≤ 60 := by
      cases res with
      | none => exact Nat.zero_le _
      | some c9 => exact HG.out c9 rfl
    obtain ⟨p10, c10, rfl⟩ := row_slice PA4.row
    obtain ⟨p11, c11, rfl⟩ := row_slice RA5.row
    obtain ⟨np, HNP⟩ : ∃ n, Hid (rs.length = n) := ⟨_, rfl⟩
    have HNQ : Hid (rq.length = np) := by show _ = _; rw [RA5.len, ← PA4.len, HNP.out]
    have hnp : np ≤ 61 := by rw [← HNP.out, PA4.len]; exact hpl'
    rw [HNP.out] at PA4 ⊢
    rw [HNQ.out] at RA5 ⊢
    gi_wp2_with fail
    refine ⟨trivial, rfl, hM.mono ?_⟩
    rintro e W6 ⟨hres, c6⟩
    obtain ⟨v12, rfl, r6⟩ := appRes_un hres
    obtain ⟨p12, c12, rfl⟩ := row_slice r6
    obtain ⟨z, HZz⟩ : ∃ z, Hid (res.isSome = z) := ⟨_, rfl⟩
    obtain ⟨cl, HCl⟩ : ∃ cl, Hid (res.getD [] = cl) := ⟨_, rfl⟩
    rw [HCl.out] at r6 hrl ⊢
    rw [HZz.out]
    gi_wp2_with fail
    refine ⟨trivial, rfl, (hR W6 c6).mono ?_⟩
    rintro e W7 ⟨hres7, c7⟩
    obtain ⟨v14, rfl, r7⟩ := appRes_un hres7
    obtain ⟨p14, c14, rfl⟩ := row_slice r7
    rw [HCl.out] at r7 ⊢
    rw [HZz.out]
    have sM6 : SlV W6 (.slice p12 cl.length c12) (cl.map Value.string) := SlV.ofRow (by rw [List.length_map]; exact r6)
    have sM7 : SlV W7 (.slice p14 cl.length c14) (cl.map Value.string) := SlV.ofRow (by rw [List.length_map]; exact r7)
    have sM67 := sM6.no c7
    obtain ⟨nc, HNC⟩ : ∃ n, Hid (cl.length = n) := ⟨_, rfl⟩
    rw [HNC.out] at r6 hrl sM67 sM7 ⊢
    have c57 := Chg.seq c6 c7
    have RD7 : Ready W7 w0.heap.size W3.heap.size W4.heap.size W5.heap.size (.slice p10 np c10) (.slice p11 np c11) (.slice p12 nc c12) rs rq ps nc cl := {
      pa := PA4.no (Chg.seq c5 c57)
      lt := fun j r b hr hb => (PA4.lt hr hb).2
      ra := RA5.no c57
      m := own_still r6 c7 (fun _ _ h => h)
      h1 := c03.size
      h2 := c4.size
      h3 := c5.size }
    have c37 := Chg.seq c35 c57
    have hs57 := c57.size
    clear hM hR hres hres7 r6 r7 sM6 PA4 RA5 c4 c5 c6 c7 c35 c57 hpl' HG dO dA dB
    have hnn : ((np : Int) == (np : Int)) = true := by simp
    have hzz : (z == z) = true := by simp
    gi_wp2_with fail
    refine ⟨trivial, rfl, (sameS_in _ _ cl cl _ sM67 sM7).mono ?_⟩
    rintro e W8 ⟨rfl, c8⟩
    rw [decide_eq_true rfl]
    have RD := RD7.no c8
    have c38 := Chg.seq c37 c8
    have hs58 : W5.heap.size ≤ W8.heap.size := Nat.le_trans hs57 c8.size
    clear RD7 c37 c8 sM67 sM7
    gi_wp2
    gi_loopw [16] (fun i wr => ∃ k : Nat, k ≤ np ∧ i = .int .i64 (k : Int) ∧ Chg (upTo rs k) W8 wr) (fun i _ => np - (intOf i).toNat)
    case atStart => exact ⟨0, Nat.zero_le _, rfl, Chg.refl _ _⟩
    case round =>
      obtain ⟨k, hk, rfl, cw⟩ := hrel
      by_cases hlt : k < np
      · have hlt' : (k : Int) < (np : Int) := by omega
        obtain ⟨x, hx⟩ : ∃ x, rs[k]? = some x := ⟨_, List.getElem?_eq_getElem (by rw [HNP.out]; exact hlt)⟩
        obtain ⟨y, hy⟩ : ∃ y, rq[k]? = some y := ⟨_, List.getElem?_eq_getElem (by rw [HNQ.out]; exact hlt)⟩
        obtain ⟨pp, hpp, hxc, o3⟩ := RD.own cw hx
        have RQ := RD.q cw
        obtain ⟨pp', hpp', hyc, rd3⟩ := RQ.at hy
        obtain rfl : pp = pp' := by rw [hpp] at hpp'; exact Option.some.inj hpp'
        have hln := HLn.out pp (List.mem_of_getElem? hpp)
        have sP := RD.p cw
        have sQ : SlR wr (.slice p11 np c11) rq := SlE.ofRow eR_len RQ.row
        obtain ⟨b1, o1, rfl, x1, x2, x3, x4⟩ := SlR.at sP k x hx
        obtain ⟨b2, o2, rfl, y1, y2, y3, y4⟩ := SlR.at sQ k y hy
        have hout : ¬ blkR x b1 := RD.out hx rfl
        have hup : ∀ b, blkR x b → upTo rs (k + 1) b := fun b hb => ⟨k, x, Nat.lt_succ_self k, hx, hb⟩
        have cw1 : Chg (upTo rs (k + 1)) W8 wr := cw.mono upTo.more
        obtain ⟨xc, xo, xa, xb⟩ := x
        obtain ⟨yc, yo, ya, yb⟩ := y
        simp only at hxc hyc o3 rd3 x1 x2 x3 x4 y1 y2 y3 y4
        obtain ⟨cc, HCC⟩ : ∃ c, Hid (pp.c = c) := ⟨_, rfl⟩
        rw [HCC.out] at hxc hyc
        subst hyc hxc
        obtain ⟨v1, v2, v3⟩ := o3.reads
        obtain ⟨⟨u1, u2, u3⟩, _⟩ := rd3
        obtain ⟨q1, d1, rfl, _⟩ := id v1
        obtain ⟨q2, d2, rfl, _⟩ := id v2
        obtain ⟨q3, d3, rfl, _⟩ := id v3
        obtain ⟨t1, e1, rfl, _⟩ := id u1
        obtain ⟨t2, e2, rfl, _⟩ := id u2
        obtain ⟨t3, e3, rfl, _⟩ := id u3
        rw [List.length_map] at v1 v2 v3 u1 u2 u3 x2 x3 x4 y2 y3 y4
        rw [List.length_map, List.length_map, List.length_map] at o3 hout hup
        obtain ⟨n1, HN1⟩ : ∃ n, Hid (pp.o.length = n) := ⟨_, rfl⟩
        obtain ⟨n2, HN2⟩ : ∃ n, Hid (pp.a.length = n) := ⟨_, rfl⟩
        obtain ⟨n3, HN3⟩ : ∃ n, Hid (pp.b.length = n) := ⟨_, rfl⟩
        obtain ⟨ow1, ow2, ow3, d12, d13, d23⟩ := o3
        rw [HN1.out] at v1 u1 x2 y2 hln ow1 hout hup d12 d13
        rw [HN2.out] at v2 u2 x3 y3 hln ow2 hout hup d12 d23
        rw [HN3.out] at v3 u3 x4 y4 hln ow3 hout hup d13 d23
        have hcc : (xc == xc) = true := by simp
        have HS1 : Hid (∀ c : After wr, CallsIn Fence.wide 0 Try.prog 15 #[.slice q1 n1 d1, .slice t1 n1 e1] c.val fun e w' => e = .returned (.bool true) ∧ Chg No c.val w') := fun c => by rw [← decide_eq_true (rfl : pp.o = pp.o)]; exact sameS_in _ _ pp.o pp.o c.val (v1.no c.chg) (u1.no c.chg)
        have HS2 : Hid (∀ c : After wr, CallsIn Fence.wide 0 Try.prog 15 #[.slice q2 n2 d2, .slice t2 n2 e2] c.val fun e w' => e = .returned (.bool true) ∧ Chg No c.val w') := fun c => by rw [← decide_eq_true (rfl : pp.a = pp.a)]; exact sameS_in _ _ pp.a pp.a c.val (v2.no c.chg) (u2.no c.chg)
        have HS3 : Hid (∀ c : After wr, CallsIn Fence.wide 0 Try.prog 15 #[.slice q3 n3 d3, .slice t3 n3 e3] c.val fun e w' => e = .returned (.bool true) ∧ Chg No c.val w') := fun c => by rw [← decide_eq_true (rfl : pp.b = pp.b)]; exact sameS_in _ _ pp.b pp.b c.val (v3.no c.chg) (u3.no c.chg)
        have hany := After.any wr
        have g0 : ∀ c : After wr, c.val.cell? ⟨b1, o1 + k * 4, none⟩ = some (.bool xc) := fun c => c.cell x1
        have g1 : ∀ c : After wr, c.val.cell? ⟨b1, o1 + k * 4 + 1, none⟩ = some (.slice q1 n1 d1) := fun c => c.cell x2
        have g2 : ∀ c : After wr, c.val.cell? ⟨b1, o1 + k * 4 + 2, none⟩ = some (.slice q2 n2 d2) := fun c => c.cell x3
        have g3 : ∀ c : After wr, c.val.cell? ⟨b1, o1 + k * 4 + 3, none⟩ = some (.slice q3 n3 d3) := fun c => c.cell x4
        have f0 : ∀ c : After wr, c.val.cell? ⟨b2, o2 + k * 4, none⟩ = some (.bool xc) := fun c => c.cell y1
        have f1 : ∀ c : After wr, c.val.cell? ⟨b2, o2 + k * 4 + 1, none⟩ = some (.slice t1 n1 e1) := fun c => c.cell y2
        have f2 : ∀ c : After wr, c.val.cell? ⟨b2, o2 + k * 4 + 2, none⟩ = some (.slice t2 n2 e2) := fun c => c.cell y3
        have f3 : ∀ c : After wr, c.val.cell? ⟨b2, o2 + k * 4 + 3, none⟩ = some (.slice t3 n3 e3) := fun c => c.cell y4
        have X2 : Hid (wr.cell? ⟨b1, o1 + k * 4 + 1, none⟩ = some (.slice q1 n1 d1)) := x2
        have X3 : Hid (wr.cell? ⟨b1, o1 + k * 4 + 2, none⟩ = some (.slice q2 n2 d2)) := x3
        have X4 : Hid (wr.cell? ⟨b1, o1 + k * 4 + 3, none⟩ = some (.slice q3 n3 d3)) := x4
        clear x1 x2 x3 x4 y1 y2 y3 y4 v1 v2 v3 u1 u2 u3 hx hy hpp hpp' sP sQ RQ HLn
        gi_wp2
        refine region_quietC hmix (by kernel_rfl) ?_
        repeat (gi_big_quiet_step (fail))
        refine wpQuietIn_want (fun _ _ _ _ => trivial) rfl ?_
        intro KQ hKQ
        gi_big_quiet_op
        gi_big_quiet_call (exact ⟨rfl, (HS1.out _).mono (by rintro e w'' ⟨rfl, c'⟩; exact ⟨rfl, After.more _ c'⟩)⟩)
        repeat (gi_big_quiet_step (fail))
        refine wpQuietIn_want (fun _ _ _ _ => trivial) rfl ?_
        intro KQ2 hKQ2
        gi_big_quiet_op
        gi_big_quiet_call (exact ⟨rfl, (HS2.out _).mono (by rintro e w'' ⟨rfl, c'⟩; exact ⟨rfl, After.more _ c'⟩)⟩)
        repeat (gi_big_quiet_step (fail))
        refine wpQuietIn_want (fun _ _ _ _ => trivial) rfl ?_
        intro KQ3 hKQ3
        gi_big_quiet_op
        gi_big_quiet_call (exact ⟨rfl, (HS3.out _).mono (by rintro e w'' ⟨rfl, c'⟩; exact ⟨rfl, After.more _ c'⟩)⟩)
        repeat (gi_big_quiet_step (fail))
        refine wpQuietIn_nil ?_
        rintro w' ⟨c, rfl⟩
        have cw2 : Chg (upTo rs (k + 1)) W8 c.val := cw1.trans c.chg (fun _ h => h.elim)
        have Z2 := c.cell X2.out
        have Z3 := c.cell X3.out
        have Z4 := c.cell X4.out
        have w1 := own_still ow1 c.chg (fun _ _ h => h)
        have w2 := own_still ow2 c.chg (fun _ _ h => h)
        have w3 := own_still ow3 c.chg (fun _ _ h => h)
        have hsz : W3.heap.size ≤ c.val.heap.size := Nat.le_trans c38.size cw2.size
        clear g0 g1 g2 g3 f0 f1 f2 f3 hany HS1 HS2 HS3 X2 X3 X4 ow1 ow2 ow3 cw cw1
        generalize c.val = W9 at *
        gi_wp2_with fail
        refine ⟨trivial, rfl, (overS_in _ _ n1 W3.heap.size (by omega) _ hsz w1).mono ?_⟩
        rintro e W10 ⟨⟨r10, rfl⟩, c10'⟩
        have hb1 : ¬ Value.ownBlock (.slice q1 n1 d1) = some b1 := fun h => hout (.inl h)
        have hb2 : ¬ Value.ownBlock (.slice q2 n2 d2) = some b1 := fun h => hout (.inr (.inl h))
        have A3 := chgCell c10' Z3 hb1
        have A4 := chgCell c10' Z4 hb1
        have cw3 := cw2.trans c10' (fun b hb => .inl (hup b (.inl hb)))
        have w2' := own_still w2 c10' (fun b hb h => d12 b h hb)
        have w3' := own_still w3 c10' (fun b hb h => d13 b h hb)
        have hsz' := Nat.le_trans hsz c10'.size
        clear Z2 Z3 Z4 w1 w2 w3
        gi_wp2_with fail
        refine ⟨trivial, rfl, (overS_in _ _ n2 W3.heap.size (by omega) _ hsz' w2').mono ?_⟩
        rintro e W11 ⟨⟨r11, rfl⟩, c11'⟩
        have B4 := chgCell c11' A4 hb2
        have cw4 := cw3.trans c11' (fun b hb => .inl (hup b (.inr (.inl hb))))
        have w3'' := own_still w3' c11' (fun b hb h => d23 b h hb)
        have hsz'' := Nat.le_trans hsz' c11'.size
        clear A3 A4 w2' w3'
        gi_wp2_with fail
        refine ⟨trivial, rfl, (overS_in _ _ n3 W3.heap.size (by omega) _ hsz'' w3'').mono ?_⟩
        rintro e W12 ⟨⟨r12, rfl⟩, c12'⟩
        have cw5 := cw4.trans c12' (fun b hb => .inl (hup b (.inr (.inr hb))))
        gi_wp2
        go_roundw
        case rel => exact ⟨k + 1, hlt, by go_num, cw5⟩
        case measure => simp [intOf]; omega
      · obtain rfl : k = np := by omega
        have hlt' : ¬ (k : Int) < (k : Int) := by omega
        have rM := RD.mm cw
        have c3w : Chg No W3 wr := c38.trans cw (fun b hb => .inr (RD.from b hb).1)
        have hs5 : W5.heap.size ≤ wr.heap.size := Nat.le_trans hs58 cw.size
        gi_wp2_with fail
        refine ⟨trivial, rfl, (overS_in _ _ nc W5.heap.size (by omega) _ hs5 rM).mono ?_⟩
        rintro e W13 ⟨⟨r13, rfl⟩, c13⟩
        have c3e : Chg No W3 W13 := c3w.trans c13 (fun b hb => .inr (by have h1 := (rM.lt b hb).1; have h2 := RD.h2; have h3 := RD.h3; omega))
        gi_wp2_with fail
        refine ⟨trivial, rfl, (keptS_in _ _ o (Nat.le_trans H1.out (by omega)) _ _ (HX.out.no c3e) (HV.out.no c3e)).mono ?_⟩
        rintro e W14 ⟨rfl, c14'⟩
        have c3f := Chg.seq c3e c14'
        gi_wp2_with fail
        refine ⟨trivial, rfl, (keptS_in _ _ a (Nat.le_trans H2.out (by omega)) _ _ (HY.out.no c3f) (HU.out.no c3f)).mono ?_⟩
        rintro e W15 ⟨rfl, c15⟩
        have c3g := Chg.seq c3f c15
        gi_wp2_with fail
        refine ⟨trivial, rfl, (keptS_in _ _ b (Nat.le_trans H3.out (by omega)) _ _ (HZ.out.no c3g) (HT.out.no c3g)).mono ?_⟩
        rintro e W16 ⟨rfl, c16⟩
        have c3h := Chg.seq c3g c16
        gi_wp2_with fail
        refine ⟨trivial, rfl, (awake_in _).mono ?_⟩
        rintro e W17 ⟨rfl, c17⟩
        gi_wp2
        go_ret
        exact ⟨rfl, Chg.seq (Chg.seq c03 c3h) c17⟩

end Go.Proofs.Ytfpceedjkmkidaa
