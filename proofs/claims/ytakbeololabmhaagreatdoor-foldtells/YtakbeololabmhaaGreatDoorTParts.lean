/-
  three's own Parts, at texts.
-/
import Derived.Test.YtakbeololabmhaaGreatDoorTPiece
import Derived.Test.YtakbeololabmhaaGreatDoorG24
namespace Go.Proofs.YtakbeololabmhaaGreatDoor
open Go.RowKit Go.Shelf Go.SeqLib Go.DiffLib Go.BigFrame
attribute [local go_sem] Oper.semAt_some

/-- A part's row of values: whether it is a conflict, its three lists. -/
abbrev PRow := Bool × Value × Value × Value
def eR (r : PRow) : List Value := [.bool r.1, r.2.1, r.2.2.1, r.2.2.2]
theorem eR_len (r : PRow) : (eR r).length = 4 := rfl
def blkR (r : PRow) : Blk := fun k => r.2.1.ownBlock = some k ∨ r.2.2.1.ownBlock = some k ∨ r.2.2.2.ownBlock = some k

/-- Parts as they lie in memory, each list in a block of its own. -/
structure PartsAt (W : World) (base : Nat) (v : Value) (rs : List PRow) (ps : List (Prt ByteArray)) : Prop where
  row : W.ownsRow base 162 4 v rs.length (rs.flatMap eR)
  len : rs.length = ps.length
  own : ∀ (i : Nat) (r : PRow) (p : Prt ByteArray), rs[i]? = some r → ps[i]? = some p → r.1 = p.c ∧ Own3 W base r.2.1 r.2.2.1 r.2.2.2 p
  apart : ∀ (i j : Nat) (r r' : PRow), rs[i]? = some r → rs[j]? = some r' → i ≠ j → ∀ k, blkR r k → ¬ blkR r' k
  out : ∀ (i : Nat) (r : PRow) (k : Nat), rs[i]? = some r → blkR r k → ¬ v.ownBlock = some k

section
variable {W W' : World} {base : Nat} {v : Value} {rs : List PRow} {ps : List (Prt ByteArray)}
theorem PartsAt.nil (W : World) (base : Nat) : PartsAt W base (.slice none 0 0) [] [] := {
  row := World.ownsRow_nil _ _ _ _
  len := rfl
  own := fun i r p h => by simp at h
  apart := fun i j r r' h => by simp at h
  out := fun i r k h => by simp at h }
theorem PartsAt.at (h : PartsAt W base v rs ps) {i : Nat} {r : PRow} (hr : rs[i]? = some r) : ∃ p, ps[i]? = some p ∧ r.1 = p.c ∧ Own3 W base r.2.1 r.2.2.1 r.2.2.2 p := by
  have hi : i < ps.length := by rw [← h.len]; exact (List.getElem?_eq_some_iff.1 hr).1
  exact ⟨ps[i], List.getElem?_eq_getElem hi, h.own i r _ hr (List.getElem?_eq_getElem hi)⟩
theorem PartsAt.lt (h : PartsAt W base v rs ps) {i : Nat} {r : PRow} (hr : rs[i]? = some r) {k : Nat} (hk : blkR r k) : base ≤ k ∧ k < W.heap.size := by
  obtain ⟨p, _, _, o3⟩ := h.at hr
  exact o3.lt k hk
theorem PartsAt.chg (h : PartsAt W base v rs ps) {S : Blk} (c : Chg S W W') (hS : ∀ k, base ≤ k → ¬ S k) : PartsAt W' base v rs ps := {
  row := own_still h.row c (fun k hk => hS k (h.row.lt k hk).1)
  len := h.len
  own := fun i r p hr hp => by
    obtain ⟨h1, o3⟩ := h.own i r p hr hp
    exact ⟨h1, o3.chg c (fun k hk => hS k (o3.lt k hk).1)⟩
  apart := h.apart
  out := h.out }
theorem PartsAt.no (h : PartsAt W base v rs ps) (c : Chg No W W') : PartsAt W' base v rs ps := h.chg c (fun _ _ h => h)
theorem PartsAt.less (h : PartsAt W base v rs ps) {base' : Nat} (hb : base' ≤ base) : PartsAt W base' v rs ps := {
  row := rowBase h.row hb
  len := h.len
  own := fun i r p hr hp => by
    obtain ⟨h1, o3⟩ := h.own i r p hr hp
    exact ⟨h1, o3.less hb⟩
  apart := h.apart
  out := h.out }
/-- One more. -/
theorem PartsAt.push {W1 W2 : World} {v2 x y z : Value} {p : Prt ByteArray} {c : Bool} (h : PartsAt W base v rs ps) (k1 : Chg No W W1) (o3 : Own3 W1 W.heap.size x y z p)
    (hown : W2.ownsRow base 162 4 v2 (rs.length + 1) (rs.flatMap eR ++ aggCells (.agg #[.bool c, x, y, z]))) (k2 : Chg (fun k => v.ownBlock = some k) W1 W2) (hmv : Moved v v2 W1) (hc : c = p.c) (hbase : base ≤ W.heap.size) :
    PartsAt W2 base v2 (rs ++ [(c, x, y, z)]) (ps ++ [p]) := by
  have hnew : ∀ k, blkR (c, x, y, z) k → W.heap.size ≤ k ∧ k < W1.heap.size := fun k hk => o3.lt k hk
  have hvlt : ∀ k, v.ownBlock = some k → k < W.heap.size := fun k hk => (h.row.lt k hk).2
  have old : ∀ i r, (rs ++ [(c, x, y, z)])[i]? = some r → i < rs.length → rs[i]? = some r := fun i r hr hi => by rwa [List.getElem?_append_left hi] at hr
  have last : ∀ i r, (rs ++ [(c, x, y, z)])[i]? = some r → ¬ i < rs.length → i = rs.length ∧ r = (c, x, y, z) := fun i r hr hi => by
    rw [List.getElem?_append_right (by omega)] at hr
    have : i - rs.length = 0 := by
      have := (List.getElem?_eq_some_iff.1 hr).1
      simpa using this
    rw [this] at hr
    simp at hr
    exact ⟨by omega, hr.symm⟩
  refine {
    row := by
      rw [List.length_append, List.length_singleton, List.flatMap_append]
      exact hown
    len := by simp [h.len]
    own := fun i r q hr hq => ?_
    apart := fun i j r r' hr hr' hne k hk hk' => ?_
    out := fun i r k hr hk hv => ?_ }
  · by_cases hi : i < rs.length
    · have hr := old i r hr hi
      rw [List.getElem?_append_left (by rw [← h.len]; exact hi)] at hq
      obtain ⟨h1, o4⟩ := h.own i r q hr hq
      exact ⟨h1, (o4.chg k1 (fun _ _ h => h)).chg k2 (fun k hk => h.out i r k hr hk)⟩
    · obtain ⟨rfl, rfl⟩ := last i r hr hi
      rw [List.getElem?_append_right (by rw [h.len]; exact Nat.le_refl _), h.len, Nat.sub_self] at hq
      simp at hq
      subst hq
      exact ⟨hc, (o3.chg k2 (fun k hk hv => by have := (hnew k hk).1; have := hvlt k hv; omega)).less hbase⟩
  · by_cases hi : i < rs.length
    · have hr := old i r hr hi
      by_cases hj : j < rs.length
      · exact h.apart i j r r' hr (old j r' hr' hj) hne k hk hk'
      · obtain ⟨rfl, rfl⟩ := last j r' hr' hj
        have := (h.lt hr hk).2
        have := (hnew k hk').1
        omega
    · obtain ⟨rfl, rfl⟩ := last i r hr hi
      by_cases hj : j < rs.length
      · have := (h.lt (old j r' hr' hj) hk').2
        have := (hnew k hk).1
        omega
      · obtain ⟨rfl, rfl⟩ := last j r' hr' hj
        exact hne rfl
  · have hklt : k < W1.heap.size := by
      by_cases hi : i < rs.length
      · have := (h.lt (old i r hr hi) hk).2
        have := k1.size
        omega
      · obtain ⟨rfl, rfl⟩ := last i r hr hi
        exact (hnew k hk).2
    rcases hmv with hm | ⟨g, hm, hg⟩
    · rw [hm] at hv
      by_cases hi : i < rs.length
      · exact h.out i r k (old i r hr hi) hk hv
      · obtain ⟨rfl, rfl⟩ := last i r hr hi
        have := (hnew k hk).1
        have := hvlt k hv
        omega
    · rw [hm] at hv
      cases hv
      omega
end

theorem part_cells {o a b : List ByteArray} {s t : Pl} {base : Nat} : ∀ (v0 : Value) (W : World), (∃ x y z, v0 = .agg #[.bool (prt o a b s t).c, x, y, z] ∧ Own3 W base x y z (prt o a b s t)) → (aggCells v0).length = 4 ∧ ∀ u ∈ aggCells v0, u.oneCell' = true := by
  rintro v0 W ⟨x, y, z, rfl, o3⟩
  refine ⟨rfl, ?_⟩
  obtain ⟨_, _, rfl⟩ := row_slice o3.o
  obtain ⟨_, _, rfl⟩ := row_slice o3.a
  obtain ⟨_, _, rfl⟩ := row_slice o3.b
  intro u hu
  simp [aggCells] at hu
  rcases hu with rfl | rfl | rfl | rfl <;> rfl

/-- A place in its box. -/
def TBox (W : World) (B : Nat) (p : Pl) : Prop := W.heap[B]? = some (.cells #[.int .i64 (p.1 : Int), .int .i64 (p.2.1 : Int), .int .i64 (p.2.2 : Int)] 181)
section
variable {W W' : World} {B : Nat} {p : Pl}
theorem TBox.lt (h : TBox W B p) : B < W.heap.size := (Array.getElem?_eq_some_iff.1 h).1
theorem TBox.cells (h : TBox W B p) : W.cell? ⟨B, 0, none⟩ = some (.int .i64 (p.1 : Int)) ∧ W.cell? ⟨B, 1, none⟩ = some (.int .i64 (p.2.1 : Int)) ∧ W.cell? ⟨B, 2, none⟩ = some (.int .i64 (p.2.2 : Int)) := by
  unfold TBox at h
  simp [World.cell?, h]
theorem TBox.frozen (h : TBox W B p) (j : Nat) : W.frozen? ⟨B, j, none⟩ = false := by
  unfold TBox at h
  simp [World.frozen?, h]
theorem TBox.chg (h : TBox W B p) {S : Blk} (k : Chg S W W') (hS : ¬ S B) : TBox W' B p := k.same h hS
theorem TBox.set (h : TBox W B p) (q : Pl) : TBox (((W.setCell ⟨B, 0, none⟩ (.int .i64 (q.1 : Int))).setCell ⟨B, 1, none⟩ (.int .i64 (q.2.1 : Int))).setCell ⟨B, 2, none⟩ (.int .i64 (q.2.2 : Int))) B q :=
  set_cells (set_cells (set_cells h 0 _) 1 _) 2 _
end

set_option maxRecDepth 100000 in
set_option maxHeartbeats 8000000 in
theorem parts_in (vo va vb : Value) (o a b : List ByteArray) (w : World) (hv : SlV w vo (o.map Value.string)) (hu : SlV w va (a.map Value.string)) (ht : SlV w vb (b.map Value.string)) (ho : o.length ≤ 400) (ha : a.length ≤ 400) (hb : b.length ≤ 400) :
    CallsIn Fence.wide 0 Tryz.prog 141 #[vo, va, vb] w fun e w' => ∃ v', e = .returned v' ∧ (∃ rs, PartsAt w' w.heap.size v' rs (parts o a b)) ∧ Chg No w w' := by
  have hmix : Tryz.prog.follows .mixedOrders = true := by kernel_rfl
  have hgd := guard_place
  obtain ⟨i0, hi, hz0, hz1, hz2⟩ := info_parts info162
  obtain ⟨p, cp, rfl, _⟩ := id hv
  obtain ⟨q, cq, rfl, _⟩ := id hu
  obtain ⟨r, cr, rfl, _⟩ := id ht
  rw [List.length_map] at hv hu ht
  rw [List.length_map, List.length_map, List.length_map]
  have hinc := std_inc o a b
  have hsl := std_length o a b
  have hpl := parts_length o a b
  unfold parts at hpl ⊢
  have hst : ∀ W, Chg No w W → _ := fun W c => standing_in _ _ _ o a b W (hv.no c) (hu.no c) (ht.no c) ho ha hb
  obtain ⟨lo, HLo⟩ : ∃ n, Hid (o.length = n) := ⟨_, rfl⟩
  obtain ⟨la, HLa⟩ : ∃ n, Hid (a.length = n) := ⟨_, rfl⟩
  obtain ⟨lb, HLb⟩ : ∃ n, Hid (b.length = n) := ⟨_, rfl⟩
  rw [HLo.out] at hv hinc hsl hpl ho hst ⊢
  rw [HLa.out] at hu hinc ha hst ⊢
  rw [HLb.out] at ht hinc hb hst ⊢
  generalize std o a b = S0 at *
  obtain ⟨tot, HTot⟩ : ∃ t, Hid (pt o a b (lo + 1) S0 (0, 0, 0) = t) := ⟨_, rfl⟩
  rw [HTot.out] at hpl ⊢
  have HB : Hid (tot.length ≤ 801) := by show _ ≤ _; omega
  clear hpl
  have hl := tooLong3_in p q r lo la lb cp cq cr ho ha hb w
  refine callsIn_of_wp Tryz.func141 rfl trivial ?_
  simp only [Tryz.ntmps141, List.size_toArray, List.length_cons, List.length_nil, Nat.reduceAdd, Nat.reduceSub, Array.replicate_succ, Array.replicate_zero, List.push_toArray, List.append_toArray, List.nil_append, List.cons_append]
  gi_wp2_with fail
  refine ⟨trivial, rfl, hl.mono ?_⟩
  rintro e w1 ⟨rfl, rfl⟩
  clear hl
  have c2 : Chg No w1 ((w1.alloc (.cells #[.bool false, .slice p lo cp, .slice q la cq, .slice r lb cr] 162)).alloc (.cells #[.int .i64 0, .int .i64 0, .int .i64 0] 181)) := ((Chg.refl _ w1).alloc _).alloc _
  have bx2 : Box4 ((w1.alloc (.cells #[.bool false, .slice p lo cp, .slice q la cq, .slice r lb cr] 162)).alloc (.cells #[.int .i64 0, .int .i64 0, .int .i64 0] 181)) w1.heap.size (.bool false) (.slice p lo cp) (.slice q la cq) (.slice r lb cr) := by
    have h : Box4 (w1.alloc (.cells #[.bool false, .slice p lo cp, .slice q la cq, .slice r lb cr] 162)) w1.heap.size (.bool false) (.slice p lo cp) (.slice q la cq) (.slice r lb cr) := World.alloc_heap_new w1 _
    exact h.chg ((Chg.refl No _).alloc _) (fun h => h)
  have tb2 : TBox ((w1.alloc (.cells #[.bool false, .slice p lo cp, .slice q la cq, .slice r lb cr] 162)).alloc (.cells #[.int .i64 0, .int .i64 0, .int .i64 0] 181)) (w1.heap.size + 1) (0, 0, 0) := by
    have := World.alloc_heap_new (w1.alloc (.cells #[.bool false, .slice p lo cp, .slice q la cq, .slice r lb cr] 162)) (.cells #[.int .i64 0, .int .i64 0, .int .i64 0] 181)
    unfold TBox
    simpa using this
  gi_wp2_with fail
  generalize ((w1.alloc (.cells #[.bool false, .slice p lo cp, .slice q la cq, .slice r lb cr] 162)).alloc (.cells #[.int .i64 0, .int .i64 0, .int .i64 0] 181)) = W2 at *
  have hA0lt := bx2.lt
  have hTlt := tb2.lt
  obtain ⟨A0, hA0⟩ : ∃ n, w1.heap.size = n := ⟨_, rfl⟩
  obtain ⟨T, hTe⟩ : ∃ n, w1.heap.size + 1 = n := ⟨_, rfl⟩
  have hA0T : ¬ A0 = T := by omega
  have hAw : w1.heap.size ≤ A0 := by omega
  have hTw : w1.heap.size ≤ T := by omega
  rw [hA0] at bx2 hA0lt ⊢
  rw [hTe] at tb2 hTlt
  rw [show A0 + 1 = T by omega]
  clear hA0 hTe
  refine ⟨trivial, rfl, (hst W2 c2).mono ?_⟩
  rintro e wS ⟨vS, rfl, rS, cS⟩
  have sS0 : SlPl wS vS S0 := SlE.ofRow eT_len rS
  have hS0b : ∀ k, vS.ownBlock = some k → W2.heap.size ≤ k ∧ k < wS.heap.size := fun k hk => rS.lt k hk
  obtain ⟨pS, cpS, rfl⟩ := row_slice rS
  have bxS := bx2.chg cS (fun h => h)
  have tbS := tb2.chg cS (fun h => h)
  have c1S := Chg.seq c2 cS
  have hT := tbS.lt
  have hA := bxS.lt
  have hvS := hv.no c1S
  have huS := hu.no c1S
  have htS := ht.no c1S
  have HSv : Hid (∀ W, Chg (fun k => k = T) wS W → SlV W (.slice p lo cp) (o.map Value.string) ∧ SlV W (.slice q la cq) (a.map Value.string) ∧ SlV W (.slice r lb cr) (b.map Value.string)) := fun W c =>
    ⟨hvS.chg c (fun k hk e => by have := hv.lt k hk; omega), huS.chg c (fun k hk e => by have := hu.lt k hk; omega), htS.chg c (fun k hk e => by have := ht.lt k hk; omega)⟩
  clear hst hv hu ht hvS huS htS rS bx2 tb2 hA0lt
  obtain ⟨nS, HNS⟩ : ∃ n, Hid (S0.length = n) := ⟨_, rfl⟩
  rw [HNS.out] at sS0 hS0b hsl ⊢
  gi_wp2
  gi_loopw [8, 10] (fun v8 v10 wr => ∃ (acc : List (Prt ByteArray)) (rs : List PRow) (S : List Pl) (at_ : Pl) (f ns : Nat) (ps : Option Addr) (cs : Nat), v10 = .slice ps ns cs ∧ Hid (S.length = ns) ∧ ns ≤ 400 ∧ SlPl wr (.slice ps ns cs) S ∧ Hid (∀ k, k = T → ¬ Value.ownBlock (.slice ps ns cs) = some k) ∧ Hid (∀ k, Value.ownBlock (.slice ps ns cs) = some k → k < wS.heap.size) ∧
      Hid (Inc3 (lo, la, lb) at_ S) ∧ Hid (S.length < f) ∧ Hid (acc ++ pt o a b f S at_ = tot) ∧ PartsAt wr wS.heap.size v8 rs acc ∧ TBox wr T at_ ∧ Box4 wr A0 (.bool false) (.slice p lo cp) (.slice q la cq) (.slice r lb cr) ∧ Chg (fun k => k = T) wS wr) (fun v8 v10 _ => match v10 with | .slice _ n _ => n | _ => 0)
  case atStart => exact ⟨[], [], S0, (0, 0, 0), lo + 1, nS, pS, cpS, rfl, HNS, by omega, sS0, fun k e h => by have := (hS0b k h).1; omega, fun k h => (hS0b k h).2, hinc, by show _ < _; rw [HNS.out]; omega, HTot, PartsAt.nil _ _, tbS, bxS, Chg.refl _ _⟩
  case round =>
    obtain ⟨acc, rs, S, at_, f, ns, ps, cs, rfl, HSL, hns, sS, HSb, HSo, HIn, HF, HA, PA, tb, bx, cW⟩ := hrel
    cases hSc : S with
    | cons s rr =>
      have HSc : Hid (s :: S.tail = S) := by show _ = _; rw [hSc]; rfl
      have HS0 : Hid (S[0]? = some s) := by show _ = _; rw [hSc]; rfl
      have hpos : 0 < ns := by rw [← HSL.out, hSc]; simp
      have hI := HIn.out
      rw [hSc] at hI
      obtain ⟨b1, b2, b3, b4, b5, b6, _⟩ := hI
      simp only at b4 b5 b6
      have hns' : (0 : Int) < (ns : Int) := by omega
      obtain ⟨f', rfl⟩ : ∃ f', f = f' + 1 := ⟨f - 1, by have := HF.out; omega⟩
      rename_i hSc'
      have HA0 : Hid (acc ++ ((if s = at_ then [] else [prt o a b at_ s]) ++ prt o a b s (on s (rn3 S s)) :: pt o a b f' (S.drop (rn3 S s)) (on s (rn3 S s))) = tot) := by
        have := HA.out
        rw [hSc, pt_cons, ← hSc] at this
        exact this
      have HIn' : Hid (Inc3 (lo, la, lb) at_ (s :: S.tail)) := by rw [HSc.out]; exact HIn.out
      by_cases hne : s = at_
      · have HA1 : Hid (acc ++ prt o a b s (on s (rn3 S s)) :: pt o a b f' (S.drop (rn3 S s)) (on s (rn3 S s)) = tot) := by
          have := HA0.out
          rw [if_pos hne, List.nil_append] at this
          exact this
        obtain ⟨bs0, os0, rfl, y1, y2, y3⟩ := SlPl.at sS 0 s HS0.out
        simp only [Nat.zero_mul, Nat.add_zero] at y1 y2 y3
        obtain ⟨t0, t1, t2⟩ := tb.cells
        have hneq : ∀ w, (binOp .neq 181 (vT s) (vT at_)).run Tryz.prog w = .ok (.bool false) w := fun w => by rw [run_neq_place, decide_eq_true hne]; rfl
        clear hne HA HA0
        gi_wp2
        refine wpIn_region_quiet_lit rfl hmix (by kernel_rfl) ?_
        repeat (gi_big_quiet_step (fail))
        refine wpQuietIn_nil ?_
        rintro w' ⟨j1, rfl⟩
        have cd : Chg No wr (wr.drewN j1) := drewNC (Chg.refl _ wr) j1
        have PA' := PA.no cd
        have tb' : TBox (wr.drewN j1) T at_ := tb
        have bx' : Box4 (wr.drewN j1) A0 _ _ _ _ := bx
        have sS' : SlPl (wr.drewN j1) _ S := SlE.no eT_len (by decide) sS cd
        have cW' := drewNC cW j1
        clear y1 y2 y3 t0 t1 t2 PA tb bx sS cW cd
        generalize wr.drewN j1 = W at *
        obtain ⟨acc1, hacc1⟩ : ∃ x, x = acc := ⟨_, rfl⟩
        obtain ⟨rs1, hrs1⟩ : ∃ x, x = rs := ⟨_, rfl⟩
        rw [← hacc1] at PA' HA1
        rw [← hrs1] at PA'
        clear hacc1 hrs1
        rename_i f _
        have HF : Hid (S.length < f' + 1) := HF
        obtain ⟨f, hf⟩ : ∃ x, x = f' := ⟨_, rfl⟩
        rw [← hf] at HA1 HF
        clear hf
        obtain ⟨ps, hps⟩ : ∃ x, x = some (⟨bs0, os0, none⟩ : Addr) := ⟨_, rfl⟩
        rw [← hps] at sS' HSb HSo ⊢
        clear hps
        have HA := HA1
        have PA := PA'
        have tb := tb'
        have bx := bx'
        have sS := sS'
        have cW := cW'
        clear HA1 PA' tb' bx' sS' cW'
        obtain ⟨n, hrn⟩ : ∃ n, rn3 S s = n := ⟨_, rfl⟩
        have hrun := run3_in ps ns cs S s W (by exact sS) HSL.out HS0.out (by omega) (by omega)
        rw [hrn] at hrun
        have hn1 : n ≤ ns := by rw [← hrn, ← HSL.out]; exact rn3_le S s
        obtain ⟨ps', cs', sS', oS', hcut⟩ := SlE.low Tryz.underlying182 size_place sS HSL.out n hn1 .i64
        obtain ⟨bs, os, rfl, y1, y2, y3⟩ := SlPl.at sS 0 s HS0.out
        simp only [Nat.zero_mul, Nat.add_zero] at y1 y2 y3
        have hns' : (0 : Int) < (ns : Int) := by omega
        rw [hrn] at HA
        have HI2 : Hid (Inc3 (lo, la, lb) (on s n) (S.drop n)) := by
          rw [← hrn]
          have := HIn'.out.first.run
          rw [HSc.out] at this
          exact this
        have HI3 := HI2.out.le
        simp only [on] at HI3
        have HF2 : Hid ((S.drop n).length < f) := by
          show _ < _
          have h1 := drop_less s S.tail
          rw [HSc.out, hrn] at h1
          have h2 : S.length = S.tail.length + 1 := by rw [← HSc.out]; simp
          have := HF.out
          omega
        have HSL2 : Hid ((S.drop n).length = ns - n) := by rw [List.length_drop, HSL.out]; exact rfl
        have hnpos : 0 < n := by rw [← hrn, ← HSc.out, rn3_self]; omega
        clear hrn
        gi_wp2_with fail
        refine ⟨trivial, rfl, hrun.mono ?_⟩
        rintro e W4 ⟨rfl, k4⟩
        clear hrun
        have cW4 : Chg (fun k => k = T) wS W4 := cW.trans k4 (fun _ h => h.elim)
        have sS4 : SlPl W4 (.slice (some ⟨bs, os, none⟩) ns cs) S := SlE.no eT_len (by decide) sS k4
        have sS4' : SlPl W4 (.slice ps' (ns - n) cs') (S.drop n) := SlE.no eT_len (by decide) sS' k4
        have PA4 := PA.no k4
        have bx4 := bx.chg k4 (fun h => h)
        have tb4 := tb.chg k4 (fun h => h)
        obtain ⟨_, _, e0, y1, y2, y3⟩ := SlPl.at sS4 0 s HS0.out
        cases e0
        simp only [Nat.zero_mul, Nat.add_zero] at y1 y2 y3
        have hOn := on_in s n (by omega) (by omega) (by omega) (by omega) W4
        gi_wp2_with fail
        refine ⟨trivial, rfl, hOn.mono ?_⟩
        rintro e W5 ⟨rfl, k5⟩
        clear hOn
        have tb5 := tb4.chg k5 (fun h => h)
        obtain ⟨t0, t1, t2⟩ := tb5.cells
        have u0 := tb5.frozen 0
        have u1 := tb5.frozen 1
        have u2 := tb5.frozen 2
        have tb6 := tb5.set (on s n)
        have k6 : Chg (fun k => k = T) W5 (((W5.setCell ⟨T, 0, none⟩ (.int .i64 ((on s n).1 : Int))).setCell ⟨T, 1, none⟩ (.int .i64 ((on s n).2.1 : Int))).setCell ⟨T, 2, none⟩ (.int .i64 ((on s n).2.2 : Int))) :=
          (((Chg.refl (fun k => k = T) W5).setCell (p := ⟨T, 0, none⟩) (.inl rfl) _).setCell (p := ⟨T, 1, none⟩) (.inl rfl) _).setCell (p := ⟨T, 2, none⟩) (.inl rfl) _
        gi_wp2
        generalize (((W5.setCell ⟨T, 0, none⟩ (.int .i64 ((on s n).1 : Int))).setCell ⟨T, 1, none⟩ (.int .i64 ((on s n).2.1 : Int))).setCell ⟨T, 2, none⟩ (.int .i64 ((on s n).2.2 : Int))) = W6 at *
        have k46 : Chg (fun k => k = T) W4 W6 := (k5.mono (fun _ h => h.elim)).trans k6 (Grew.refl _ _)
        have cW6 : Chg (fun k => k = T) wS W6 := cW4.trans k46 (Grew.refl _ _)
        have sS6 : SlPl W6 (.slice (some ⟨bs, os, none⟩) ns cs) S := SlE.chg eT_len (by decide) sS4 k46 (fun k hk e => HSb.out k (by rw [e]) hk.2)
        have sS6' : SlPl W6 (.slice ps' (ns - n) cs') (S.drop n) := SlE.chg eT_len (by decide) sS4' k46 (fun k hk e => HSb.out k (by rw [e]) (oS' k hk.2))
        have PA6 := PA4.chg k46 (fun k hk e => by have := hT; omega)
        have bx6 := bx4.chg k46 hA0T
        obtain ⟨t0, t1, t2⟩ := tb6.cells
        obtain ⟨a0, a1, a2, a3⟩ := bx6.cells
        obtain ⟨_, _, e0, y1, y2, y3⟩ := SlPl.at sS6 0 s HS0.out
        cases e0
        simp only [Nat.zero_mul, Nat.add_zero] at y1 y2 y3
        obtain ⟨p8, c8, rfl⟩ := row_slice PA6.row
        have hbo : ∀ k, Value.ownBlock (.slice p8 rs1.length c8) = some k → wS.heap.size ≤ k := fun k hk => (PA6.row.lt k hk).1
        have hbs : bs < wS.heap.size := by
          have := HSo.out bs rfl
          exact this
        have hlacc : rs1.length + 1 ≤ 801 := by
          rw [PA6.len]
          have h9 := congrArg List.length HA.out
          have := HB.out
          simp only [List.length_append, List.length_cons] at h9
          omega
        have hany := AfterB.any (fun k => Value.ownBlock (.slice p8 rs1.length c8) = some k) W6
        have g1 : ∀ c : AfterB (fun k => Value.ownBlock (.slice p8 rs1.length c8) = some k) W6, c.val.cell? ⟨A0, 0, none⟩ = some (.bool false) := fun c => c.cell a0 (fun h => by have := hbo _ h; simp only at this; omega)
        have g2 : ∀ c : AfterB (fun k => Value.ownBlock (.slice p8 rs1.length c8) = some k) W6, c.val.cell? ⟨A0, 1, none⟩ = some (.slice p lo cp) := fun c => c.cell a1 (fun h => by have := hbo _ h; simp only at this; omega)
        have g3 : ∀ c : AfterB (fun k => Value.ownBlock (.slice p8 rs1.length c8) = some k) W6, c.val.cell? ⟨A0, 2, none⟩ = some (.slice q la cq) := fun c => c.cell a2 (fun h => by have := hbo _ h; simp only at this; omega)
        have g4 : ∀ c : AfterB (fun k => Value.ownBlock (.slice p8 rs1.length c8) = some k) W6, c.val.cell? ⟨A0, 3, none⟩ = some (.slice r lb cr) := fun c => c.cell a3 (fun h => by have := hbo _ h; simp only at this; omega)
        have g5 : ∀ c : AfterB (fun k => Value.ownBlock (.slice p8 rs1.length c8) = some k) W6, c.val.cell? ⟨T, 0, none⟩ = some (.int .i64 ((on s n).1 : Int)) := fun c => c.cell t0 (fun h => by have := hbo _ h; simp only at this; omega)
        have g6 : ∀ c : AfterB (fun k => Value.ownBlock (.slice p8 rs1.length c8) = some k) W6, c.val.cell? ⟨T, 1, none⟩ = some (.int .i64 ((on s n).2.1 : Int)) := fun c => c.cell t1 (fun h => by have := hbo _ h; simp only at this; omega)
        have g7 : ∀ c : AfterB (fun k => Value.ownBlock (.slice p8 rs1.length c8) = some k) W6, c.val.cell? ⟨T, 2, none⟩ = some (.int .i64 ((on s n).2.2 : Int)) := fun c => c.cell t2 (fun h => by have := hbo _ h; simp only at this; omega)
        have g8 : ∀ c : AfterB (fun k => Value.ownBlock (.slice p8 rs1.length c8) = some k) W6, c.val.cell? ⟨bs, os, none⟩ = some (.int .i64 (s.1 : Int)) := fun c => c.cell y1 (fun h => by have := hbo _ h; simp only at this; omega)
        have g9 : ∀ c : AfterB (fun k => Value.ownBlock (.slice p8 rs1.length c8) = some k) W6, c.val.cell? ⟨bs, os + 1, none⟩ = some (.int .i64 (s.2.1 : Int)) := fun c => c.cell y2 (fun h => by have := hbo _ h; simp only at this; omega)
        have g10 : ∀ c : AfterB (fun k => Value.ownBlock (.slice p8 rs1.length c8) = some k) W6, c.val.cell? ⟨bs, os + 2, none⟩ = some (.int .i64 (s.2.2 : Int)) := fun c => c.cell y3 (fun h => by have := hbo _ h; simp only at this; omega)
        have HCl : Hid (∀ W, Chg No W6 W → CallsIn Fence.wide 0 Tryz.prog 165 #[.agg #[.bool false, .slice p lo cp, .slice q la cq, .slice r lb cr], vT s, vT (on s n)] W fun ex W' => ∃ v0, ex = .returned v0 ∧ (∃ x y z, v0 = .agg #[.bool (prt o a b s (on s n)).c, x, y, z] ∧ Own3 W' W6.heap.size x y z (prt o a b s (on s n))) ∧ Chg No W W') := fun W cw => by
          have sv := HSv.out W (cW6.trans cw (fun _ h => h.elim))
          have hh := piece_in false _ _ _ o a b s (on s n) W sv.1 sv.2.1 sv.2.2 (by rw [HLo.out]; omega) (by rw [HLa.out]; omega) (by rw [HLb.out]; omega) (by simp only [on]; omega) (by simp only [on]; omega) (by simp only [on]; omega) (by rw [HLo.out]; exact HI3.1) (by rw [HLa.out]; exact HI3.2.1) (by rw [HLb.out]; exact HI3.2.2)
          refine hh.mono ?_
          rintro e W' ⟨x, y, z, rfl, o3, c3⟩
          exact ⟨_, rfl, ⟨x, y, z, rfl, o3.less cw.size⟩, c3⟩
        clear y1 y2 y3 t0 t1 t2 a0 a1 a2 a3
        refine region_pushc 6 7 8 _ _ _ hmix (by kernel_rfl) (by kernel_rfl) rfl rfl rfl (by kernel_rfl) (by kernel_rfl) rfl rfl _ _ 159 rfl wS.heap.size 162 i0 (.agg #[.bool false, .slice none 0 0, .slice none 0 0, .slice none 0 0]) 4 80 Tryz.underlying159 hi hz0 hz1 hz2 rfl (by decide) (.slice p8 rs1.length c8) rs1.length (rs1.flatMap eR) (fun v0 W' => ∃ x y z, v0 = .agg #[.bool (prt o a b s (on s n)).c, x, y, z] ∧ Own3 W' W6.heap.size x y z (prt o a b s (on s n))) PA6.row (by unfold maxLen; omega) (by omega) cW6.size 165 #[.agg #[.bool false, .slice p lo cp, .slice q la cq, .slice r lb cr], vT s, vT (on s n)] HCl.out part_cells ?_
        intro v0 v1 v2
        simp only [hushE, Nat.reduceAdd, Nat.reduceBEq, Bool.or_self, Bool.or_true, Bool.or_false, if_true, if_false, Bool.false_eq_true]
        repeat (gi_big_quiet_step (fail))
        refine wpQuietIn_nil ⟨fun W => ?_, ?_, ⟨rfl, rfl⟩, ?_⟩
        · simp [go_sem]
        · rintro W W' ⟨x, y, z, rfl, o3⟩
          obtain ⟨_, _, rfl⟩ := row_slice o3.o
          obtain ⟨_, _, rfl⟩ := row_slice o3.a
          obtain ⟨_, _, rfl⟩ := row_slice o3.b
          simp [execOp, go_sem, aggCells]
        · rintro W7 W8 k7 ⟨x, y, z, rfl, o3⟩ hown' k8 hmv
          have PA8 := PA6.push k7 o3 hown' k8 hmv rfl cW6.size
          have bx8 := (bx6.chg k7 (fun h => h)).chg k8 (fun h => by have := hbo _ h; omega)
          have tb8 := (tb6.chg k7 (fun h => h)).chg k8 (fun h => by have := hbo _ h; omega)
          have k68 : Chg (fun k => Value.ownBlock (.slice p8 rs1.length c8) = some k) W6 W8 := (k7.mono (fun _ h => h.elim)).trans k8 (Grew.refl _ _)
          have sS8' : SlPl W8 (.slice ps' (ns - n) cs') (S.drop n) := SlE.chg eT_len (by decide) sS6' k68 (fun k hk h => by have h1 := hbo _ h; have h2 := HSo.out k (oS' k hk.2); omega)
          have cW8 : Chg (fun k => k = T) wS W8 := cW6.trans k68 (fun k h => .inr (hbo k h))
          have HA8 : Hid ((acc1 ++ [prt o a b s (on s n)]) ++ pt o a b f (S.drop n) (on s n) = tot) := by rw [List.append_assoc]; exact HA.out
          have HSb8 : Hid (∀ k, k = T → ¬ Value.ownBlock (.slice ps' (ns - n) cs') = some k) := fun k e h => HSb.out k e (oS' k h)
          have HSo8 : Hid (∀ k, Value.ownBlock (.slice ps' (ns - n) cs') = some k → k < wS.heap.size) := fun k h => HSo.out k (oS' k h)
          have hnz : 0 < n := hnpos
          gi_wp2
          go_roundw
          case rel => exact ⟨acc1 ++ [prt o a b s (on s n)], rs1 ++ [((prt o a b s (on s n)).c, x, y, z)], S.drop n, on s n, f, ns - n, ps', cs', rfl, HSL2, by omega, sS8', HSb8, HSo8, HI2, HF2, HA8, by exact PA8, tb8, bx8, cW8⟩
          case measure => simp; omega
      · have HA1 : Hid ((acc ++ [prt o a b at_ s]) ++ prt o a b s (on s (rn3 S s)) :: pt o a b f' (S.drop (rn3 S s)) (on s (rn3 S s)) = tot) := by
          have := HA0.out
          rw [if_neg hne] at this
          rw [List.append_assoc]
          exact this
        obtain ⟨bs, os, rfl, y1, y2, y3⟩ := SlPl.at sS 0 s HS0.out
        simp only [Nat.zero_mul, Nat.add_zero] at y1 y2 y3
        obtain ⟨t0, t1, t2⟩ := tb.cells
        have hneq : ∀ w, (binOp .neq 181 (vT s) (vT at_)).run Tryz.prog w = .ok (.bool true) w := fun w => by rw [run_neq_place, decide_eq_false hne]; rfl
        clear hne HA HA0
        obtain ⟨p8, c8, rfl⟩ := row_slice PA.row
        gi_wp2
        refine wpIn_region_quiet_lit rfl hmix (by kernel_rfl) ?_
        repeat (gi_big_quiet_step (fail))
        refine wpQuietIn_nil ?_
        rintro w' ⟨j1, rfl⟩
        have cd : Chg No wr (wr.drewN j1) := drewNC (Chg.refl _ wr) j1
        have PA6 := PA.no cd
        have tb6 : TBox (wr.drewN j1) T at_ := tb
        have bx6 : Box4 (wr.drewN j1) A0 _ _ _ _ := bx
        have sS6 : SlPl (wr.drewN j1) _ S := SlE.no eT_len (by decide) sS cd
        have cW6 := drewNC cW j1
        gi_wp2
        clear y1 y2 y3 t0 t1 t2 PA tb bx sS cW cd hneq
        generalize wr.drewN j1 = W6 at *
        obtain ⟨t0, t1, t2⟩ := tb6.cells
        obtain ⟨a0, a1, a2, a3⟩ := bx6.cells
        obtain ⟨_, _, e0, y1, y2, y3⟩ := SlPl.at sS6 0 s HS0.out
        cases e0
        simp only [Nat.zero_mul, Nat.add_zero] at y1 y2 y3
        have hbo : ∀ k, Value.ownBlock (.slice p8 rs.length c8) = some k → wS.heap.size ≤ k := fun k hk => (PA6.row.lt k hk).1
        have hbs : bs < wS.heap.size := by
          have := HSo.out bs rfl
          exact this
        have hlacc : rs.length + 1 ≤ 801 := by
          rw [PA6.len]
          have h9 := congrArg List.length HA1.out
          have := HB.out
          simp only [List.length_append, List.length_cons, List.length_nil] at h9
          omega
        have hany := AfterB.any (fun k => Value.ownBlock (.slice p8 rs.length c8) = some k) W6
        have g1 : ∀ c : AfterB (fun k => Value.ownBlock (.slice p8 rs.length c8) = some k) W6, c.val.cell? ⟨A0, 0, none⟩ = some (.bool false) := fun c => c.cell a0 (fun h => by have := hbo _ h; simp only at this; omega)
        have g2 : ∀ c : AfterB (fun k => Value.ownBlock (.slice p8 rs.length c8) = some k) W6, c.val.cell? ⟨A0, 1, none⟩ = some (.slice p lo cp) := fun c => c.cell a1 (fun h => by have := hbo _ h; simp only at this; omega)
        have g3 : ∀ c : AfterB (fun k => Value.ownBlock (.slice p8 rs.length c8) = some k) W6, c.val.cell? ⟨A0, 2, none⟩ = some (.slice q la cq) := fun c => c.cell a2 (fun h => by have := hbo _ h; simp only at this; omega)
        have g4 : ∀ c : AfterB (fun k => Value.ownBlock (.slice p8 rs.length c8) = some k) W6, c.val.cell? ⟨A0, 3, none⟩ = some (.slice r lb cr) := fun c => c.cell a3 (fun h => by have := hbo _ h; simp only at this; omega)
        have g5 : ∀ c : AfterB (fun k => Value.ownBlock (.slice p8 rs.length c8) = some k) W6, c.val.cell? ⟨T, 0, none⟩ = some (.int .i64 (at_.1 : Int)) := fun c => c.cell t0 (fun h => by have := hbo _ h; simp only at this; omega)
        have g6 : ∀ c : AfterB (fun k => Value.ownBlock (.slice p8 rs.length c8) = some k) W6, c.val.cell? ⟨T, 1, none⟩ = some (.int .i64 (at_.2.1 : Int)) := fun c => c.cell t1 (fun h => by have := hbo _ h; simp only at this; omega)
        have g7 : ∀ c : AfterB (fun k => Value.ownBlock (.slice p8 rs.length c8) = some k) W6, c.val.cell? ⟨T, 2, none⟩ = some (.int .i64 (at_.2.2 : Int)) := fun c => c.cell t2 (fun h => by have := hbo _ h; simp only at this; omega)
        have g8 : ∀ c : AfterB (fun k => Value.ownBlock (.slice p8 rs.length c8) = some k) W6, c.val.cell? ⟨bs, os, none⟩ = some (.int .i64 (s.1 : Int)) := fun c => c.cell y1 (fun h => by have := hbo _ h; simp only at this; omega)
        have g9 : ∀ c : AfterB (fun k => Value.ownBlock (.slice p8 rs.length c8) = some k) W6, c.val.cell? ⟨bs, os + 1, none⟩ = some (.int .i64 (s.2.1 : Int)) := fun c => c.cell y2 (fun h => by have := hbo _ h; simp only at this; omega)
        have g10 : ∀ c : AfterB (fun k => Value.ownBlock (.slice p8 rs.length c8) = some k) W6, c.val.cell? ⟨bs, os + 2, none⟩ = some (.int .i64 (s.2.2 : Int)) := fun c => c.cell y3 (fun h => by have := hbo _ h; simp only at this; omega)
        have HCl : Hid (∀ W, Chg No W6 W → CallsIn Fence.wide 0 Tryz.prog 165 #[.agg #[.bool false, .slice p lo cp, .slice q la cq, .slice r lb cr], vT at_, vT s] W fun ex W' => ∃ v0, ex = .returned v0 ∧ (∃ x y z, v0 = .agg #[.bool (prt o a b at_ s).c, x, y, z] ∧ Own3 W' W6.heap.size x y z (prt o a b at_ s)) ∧ Chg No W W') := fun W cw => by
          have sv := HSv.out W (cW6.trans cw (fun _ h => h.elim))
          have hh := piece_in false _ _ _ o a b at_ s W sv.1 sv.2.1 sv.2.2 (by rw [HLo.out]; omega) (by rw [HLa.out]; omega) (by rw [HLb.out]; omega) b1 b2 b3 (by rw [HLo.out]; omega) (by rw [HLa.out]; omega) (by rw [HLb.out]; omega)
          refine hh.mono ?_
          rintro e W' ⟨x, y, z, rfl, o3, c3⟩
          exact ⟨_, rfl, ⟨x, y, z, rfl, o3.less cw.size⟩, c3⟩
        clear y1 y2 y3 t0 t1 t2 a0 a1 a2 a3
        refine region_pushc 6 7 8 _ _ _ hmix (by kernel_rfl) (by kernel_rfl) rfl rfl rfl (by kernel_rfl) (by kernel_rfl) rfl rfl _ _ 159 rfl wS.heap.size 162 i0 (.agg #[.bool false, .slice none 0 0, .slice none 0 0, .slice none 0 0]) 4 80 Tryz.underlying159 hi hz0 hz1 hz2 rfl (by decide) (.slice p8 rs.length c8) rs.length (rs.flatMap eR) (fun v0 W' => ∃ x y z, v0 = .agg #[.bool (prt o a b at_ s).c, x, y, z] ∧ Own3 W' W6.heap.size x y z (prt o a b at_ s)) PA6.row (by unfold maxLen; omega) (by omega) cW6.size 165 #[.agg #[.bool false, .slice p lo cp, .slice q la cq, .slice r lb cr], vT at_, vT s] HCl.out part_cells ?_
        intro v0 v1 v2
        simp only [hushE, Nat.reduceAdd, Nat.reduceBEq, Bool.or_self, Bool.or_true, Bool.or_false, if_true, if_false, Bool.false_eq_true]
        repeat (gi_big_quiet_step (fail))
        refine wpQuietIn_nil ⟨fun W => ?_, ?_, ⟨rfl, rfl⟩, ?_⟩
        · simp [go_sem]
        · rintro W W' ⟨x, y, z, rfl, o3⟩
          obtain ⟨_, _, rfl⟩ := row_slice o3.o
          obtain ⟨_, _, rfl⟩ := row_slice o3.a
          obtain ⟨_, _, rfl⟩ := row_slice o3.b
          simp [execOp, go_sem, aggCells]
        · rintro W7 W8 k7 ⟨x, y, z, rfl, o3⟩ hown' k8 hmv
          have PA := PA6.push k7 o3 hown' k8 hmv rfl cW6.size
          have bx := (bx6.chg k7 (fun h => h)).chg k8 (fun h => by have := hbo _ h; omega)
          have tb := (tb6.chg k7 (fun h => h)).chg k8 (fun h => by have := hbo _ h; omega)
          have k68 : Chg (fun k => Value.ownBlock (.slice p8 rs.length c8) = some k) W6 W8 := (k7.mono (fun _ h => h.elim)).trans k8 (Grew.refl _ _)
          have sS : SlPl W8 (.slice (some ⟨bs, os, none⟩) ns cs) S := SlE.chg eT_len (by decide) sS6 k68 (fun k hk h => by have h1 := hbo _ h; have h2 := HSo.out k hk.2; omega)
          have cW : Chg (fun k => k = T) wS W8 := cW6.trans k68 (fun k h => .inr (hbo k h))
          have HA := HA1
          clear PA6 bx6 tb6 sS6 cW6 k68 hown' k8 hmv o3 k7 HA1 HCl g1 g2 g3 g4 g5 g6 g7 g8 g9 g10 hany hbo hlacc
          generalize rs ++ [((prt o a b at_ s).c, x, y, z)] = rs1 at *
          generalize acc ++ [prt o a b at_ s] = acc1 at *
          obtain ⟨f, hf⟩ : ∃ x, x = f' := ⟨_, rfl⟩
          rw [← hf] at HA HF
          clear hf
          obtain ⟨ps, hps⟩ : ∃ x, x = some (⟨bs, os, none⟩ : Addr) := ⟨_, rfl⟩
          rw [← hps] at sS HSb HSo ⊢
          clear hps hbs
          generalize W8 = W at *
          gi_wp2_with fail
          obtain ⟨n, hrn⟩ : ∃ n, rn3 S s = n := ⟨_, rfl⟩
          have hrun := run3_in ps ns cs S s W (by exact sS) HSL.out HS0.out (by omega) (by omega)
          rw [hrn] at hrun
          have hn1 : n ≤ ns := by rw [← hrn, ← HSL.out]; exact rn3_le S s
          obtain ⟨ps', cs', sS', oS', hcut⟩ := SlE.low Tryz.underlying182 size_place sS HSL.out n hn1 .i64
          obtain ⟨bs, os, rfl, y1, y2, y3⟩ := SlPl.at sS 0 s HS0.out
          simp only [Nat.zero_mul, Nat.add_zero] at y1 y2 y3
          have hns' : (0 : Int) < (ns : Int) := by omega
          rw [hrn] at HA
          have HI2 : Hid (Inc3 (lo, la, lb) (on s n) (S.drop n)) := by
            rw [← hrn]
            have := HIn'.out.first.run
            rw [HSc.out] at this
            exact this
          have HI3 := HI2.out.le
          simp only [on] at HI3
          have HF2 : Hid ((S.drop n).length < f) := by
            show _ < _
            have h1 := drop_less s S.tail
            rw [HSc.out, hrn] at h1
            have h2 : S.length = S.tail.length + 1 := by rw [← HSc.out]; simp
            have := HF.out
            omega
          have HSL2 : Hid ((S.drop n).length = ns - n) := by rw [List.length_drop, HSL.out]; exact rfl
          have hnpos : 0 < n := by rw [← hrn, ← HSc.out, rn3_self]; omega
          clear hrn
          refine ⟨trivial, rfl, hrun.mono ?_⟩
          rintro e W4 ⟨rfl, k4⟩
          clear hrun
          have cW4 : Chg (fun k => k = T) wS W4 := cW.trans k4 (fun _ h => h.elim)
          have sS4 : SlPl W4 (.slice (some ⟨bs, os, none⟩) ns cs) S := SlE.no eT_len (by decide) sS k4
          have sS4' : SlPl W4 (.slice ps' (ns - n) cs') (S.drop n) := SlE.no eT_len (by decide) sS' k4
          have PA4 := PA.no k4
          have bx4 := bx.chg k4 (fun h => h)
          have tb4 := tb.chg k4 (fun h => h)
          obtain ⟨_, _, e0, y1, y2, y3⟩ := SlPl.at sS4 0 s HS0.out
          cases e0
          simp only [Nat.zero_mul, Nat.add_zero] at y1 y2 y3
          have hOn := on_in s n (by omega) (by omega) (by omega) (by omega) W4
          gi_wp2_with fail
          refine ⟨trivial, rfl, hOn.mono ?_⟩
          rintro e W5 ⟨rfl, k5⟩
          clear hOn
          have tb5 := tb4.chg k5 (fun h => h)
          obtain ⟨t0, t1, t2⟩ := tb5.cells
          have u0 := tb5.frozen 0
          have u1 := tb5.frozen 1
          have u2 := tb5.frozen 2
          have tb6 := tb5.set (on s n)
          have k6 : Chg (fun k => k = T) W5 (((W5.setCell ⟨T, 0, none⟩ (.int .i64 ((on s n).1 : Int))).setCell ⟨T, 1, none⟩ (.int .i64 ((on s n).2.1 : Int))).setCell ⟨T, 2, none⟩ (.int .i64 ((on s n).2.2 : Int))) :=
            (((Chg.refl (fun k => k = T) W5).setCell (p := ⟨T, 0, none⟩) (.inl rfl) _).setCell (p := ⟨T, 1, none⟩) (.inl rfl) _).setCell (p := ⟨T, 2, none⟩) (.inl rfl) _
          gi_wp2
          generalize (((W5.setCell ⟨T, 0, none⟩ (.int .i64 ((on s n).1 : Int))).setCell ⟨T, 1, none⟩ (.int .i64 ((on s n).2.1 : Int))).setCell ⟨T, 2, none⟩ (.int .i64 ((on s n).2.2 : Int))) = W6 at *
          have k46 : Chg (fun k => k = T) W4 W6 := (k5.mono (fun _ h => h.elim)).trans k6 (Grew.refl _ _)
          have cW6 : Chg (fun k => k = T) wS W6 := cW4.trans k46 (Grew.refl _ _)
          have sS6 : SlPl W6 (.slice (some ⟨bs, os, none⟩) ns cs) S := SlE.chg eT_len (by decide) sS4 k46 (fun k hk e => HSb.out k (by rw [e]) hk.2)
          have sS6' : SlPl W6 (.slice ps' (ns - n) cs') (S.drop n) := SlE.chg eT_len (by decide) sS4' k46 (fun k hk e => HSb.out k (by rw [e]) (oS' k hk.2))
          have PA6 := PA4.chg k46 (fun k hk e => by have := hT; omega)
          have bx6 := bx4.chg k46 hA0T
          obtain ⟨t0, t1, t2⟩ := tb6.cells
          obtain ⟨a0, a1, a2, a3⟩ := bx6.cells
          obtain ⟨_, _, e0, y1, y2, y3⟩ := SlPl.at sS6 0 s HS0.out
          cases e0
          simp only [Nat.zero_mul, Nat.add_zero] at y1 y2 y3
          obtain ⟨p8, c8, rfl⟩ := row_slice PA6.row
          have hbo : ∀ k, Value.ownBlock (.slice p8 rs1.length c8) = some k → wS.heap.size ≤ k := fun k hk => (PA6.row.lt k hk).1
          have hbs : bs < wS.heap.size := by
            have := HSo.out bs rfl
            exact this
          have hlacc : rs1.length + 1 ≤ 801 := by
            rw [PA6.len]
            have h9 := congrArg List.length HA.out
            have := HB.out
            simp only [List.length_append, List.length_cons] at h9
            omega
          have hany := AfterB.any (fun k => Value.ownBlock (.slice p8 rs1.length c8) = some k) W6
          have g1 : ∀ c : AfterB (fun k => Value.ownBlock (.slice p8 rs1.length c8) = some k) W6, c.val.cell? ⟨A0, 0, none⟩ = some (.bool false) := fun c => c.cell a0 (fun h => by have := hbo _ h; simp only at this; omega)
          have g2 : ∀ c : AfterB (fun k => Value.ownBlock (.slice p8 rs1.length c8) = some k) W6, c.val.cell? ⟨A0, 1, none⟩ = some (.slice p lo cp) := fun c => c.cell a1 (fun h => by have := hbo _ h; simp only at this; omega)
          have g3 : ∀ c : AfterB (fun k => Value.ownBlock (.slice p8 rs1.length c8) = some k) W6, c.val.cell? ⟨A0, 2, none⟩ = some (.slice q la cq) := fun c => c.cell a2 (fun h => by have := hbo _ h; simp only at this; omega)
          have g4 : ∀ c : AfterB (fun k => Value.ownBlock (.slice p8 rs1.length c8) = some k) W6, c.val.cell? ⟨A0, 3, none⟩ = some (.slice r lb cr) := fun c => c.cell a3 (fun h => by have := hbo _ h; simp only at this; omega)
          have g5 : ∀ c : AfterB (fun k => Value.ownBlock (.slice p8 rs1.length c8) = some k) W6, c.val.cell? ⟨T, 0, none⟩ = some (.int .i64 ((on s n).1 : Int)) := fun c => c.cell t0 (fun h => by have := hbo _ h; simp only at this; omega)
          have g6 : ∀ c : AfterB (fun k => Value.ownBlock (.slice p8 rs1.length c8) = some k) W6, c.val.cell? ⟨T, 1, none⟩ = some (.int .i64 ((on s n).2.1 : Int)) := fun c => c.cell t1 (fun h => by have := hbo _ h; simp only at this; omega)
          have g7 : ∀ c : AfterB (fun k => Value.ownBlock (.slice p8 rs1.length c8) = some k) W6, c.val.cell? ⟨T, 2, none⟩ = some (.int .i64 ((on s n).2.2 : Int)) := fun c => c.cell t2 (fun h => by have := hbo _ h; simp only at this; omega)
          have g8 : ∀ c : AfterB (fun k => Value.ownBlock (.slice p8 rs1.length c8) = some k) W6, c.val.cell? ⟨bs, os, none⟩ = some (.int .i64 (s.1 : Int)) := fun c => c.cell y1 (fun h => by have := hbo _ h; simp only at this; omega)
          have g9 : ∀ c : AfterB (fun k => Value.ownBlock (.slice p8 rs1.length c8) = some k) W6, c.val.cell? ⟨bs, os + 1, none⟩ = some (.int .i64 (s.2.1 : Int)) := fun c => c.cell y2 (fun h => by have := hbo _ h; simp only at this; omega)
          have g10 : ∀ c : AfterB (fun k => Value.ownBlock (.slice p8 rs1.length c8) = some k) W6, c.val.cell? ⟨bs, os + 2, none⟩ = some (.int .i64 (s.2.2 : Int)) := fun c => c.cell y3 (fun h => by have := hbo _ h; simp only at this; omega)
          have HCl : Hid (∀ W, Chg No W6 W → CallsIn Fence.wide 0 Tryz.prog 165 #[.agg #[.bool false, .slice p lo cp, .slice q la cq, .slice r lb cr], vT s, vT (on s n)] W fun ex W' => ∃ v0, ex = .returned v0 ∧ (∃ x y z, v0 = .agg #[.bool (prt o a b s (on s n)).c, x, y, z] ∧ Own3 W' W6.heap.size x y z (prt o a b s (on s n))) ∧ Chg No W W') := fun W cw => by
            have sv := HSv.out W (cW6.trans cw (fun _ h => h.elim))
            have hh := piece_in false _ _ _ o a b s (on s n) W sv.1 sv.2.1 sv.2.2 (by rw [HLo.out]; omega) (by rw [HLa.out]; omega) (by rw [HLb.out]; omega) (by simp only [on]; omega) (by simp only [on]; omega) (by simp only [on]; omega) (by rw [HLo.out]; exact HI3.1) (by rw [HLa.out]; exact HI3.2.1) (by rw [HLb.out]; exact HI3.2.2)
            refine hh.mono ?_
            rintro e W' ⟨x, y, z, rfl, o3, c3⟩
            exact ⟨_, rfl, ⟨x, y, z, rfl, o3.less cw.size⟩, c3⟩
          clear y1 y2 y3 t0 t1 t2 a0 a1 a2 a3
          refine region_pushc 6 7 8 _ _ _ hmix (by kernel_rfl) (by kernel_rfl) rfl rfl rfl (by kernel_rfl) (by kernel_rfl) rfl rfl _ _ 159 rfl wS.heap.size 162 i0 (.agg #[.bool false, .slice none 0 0, .slice none 0 0, .slice none 0 0]) 4 80 Tryz.underlying159 hi hz0 hz1 hz2 rfl (by decide) (.slice p8 rs1.length c8) rs1.length (rs1.flatMap eR) (fun v0 W' => ∃ x y z, v0 = .agg #[.bool (prt o a b s (on s n)).c, x, y, z] ∧ Own3 W' W6.heap.size x y z (prt o a b s (on s n))) PA6.row (by unfold maxLen; omega) (by omega) cW6.size 165 #[.agg #[.bool false, .slice p lo cp, .slice q la cq, .slice r lb cr], vT s, vT (on s n)] HCl.out part_cells ?_
          intro v0 v1 v2
          simp only [hushE, Nat.reduceAdd, Nat.reduceBEq, Bool.or_self, Bool.or_true, Bool.or_false, if_true, if_false, Bool.false_eq_true]
          repeat (gi_big_quiet_step (fail))
          refine wpQuietIn_nil ⟨fun W => ?_, ?_, ⟨rfl, rfl⟩, ?_⟩
          · simp [go_sem]
          · rintro W W' ⟨x, y, z, rfl, o3⟩
            obtain ⟨_, _, rfl⟩ := row_slice o3.o
            obtain ⟨_, _, rfl⟩ := row_slice o3.a
            obtain ⟨_, _, rfl⟩ := row_slice o3.b
            simp [execOp, go_sem, aggCells]
          · rintro W7 W8 k7 ⟨x, y, z, rfl, o3⟩ hown' k8 hmv
            have PA8 := PA6.push k7 o3 hown' k8 hmv rfl cW6.size
            have bx8 := (bx6.chg k7 (fun h => h)).chg k8 (fun h => by have := hbo _ h; omega)
            have tb8 := (tb6.chg k7 (fun h => h)).chg k8 (fun h => by have := hbo _ h; omega)
            have k68 : Chg (fun k => Value.ownBlock (.slice p8 rs1.length c8) = some k) W6 W8 := (k7.mono (fun _ h => h.elim)).trans k8 (Grew.refl _ _)
            have sS8' : SlPl W8 (.slice ps' (ns - n) cs') (S.drop n) := SlE.chg eT_len (by decide) sS6' k68 (fun k hk h => by have h1 := hbo _ h; have h2 := HSo.out k (oS' k hk.2); omega)
            have cW8 : Chg (fun k => k = T) wS W8 := cW6.trans k68 (fun k h => .inr (hbo k h))
            have HA8 : Hid ((acc1 ++ [prt o a b s (on s n)]) ++ pt o a b f (S.drop n) (on s n) = tot) := by rw [List.append_assoc]; exact HA.out
            have HSb8 : Hid (∀ k, k = T → ¬ Value.ownBlock (.slice ps' (ns - n) cs') = some k) := fun k e h => HSb.out k e (oS' k h)
            have HSo8 : Hid (∀ k, Value.ownBlock (.slice ps' (ns - n) cs') = some k → k < wS.heap.size) := fun k h => HSo.out k (oS' k h)
            have hnz : 0 < n := hnpos
            gi_wp2
            go_roundw
            case rel => exact ⟨acc1 ++ [prt o a b s (on s n)], rs1 ++ [((prt o a b s (on s n)).c, x, y, z)], S.drop n, on s n, f, ns - n, ps', cs', rfl, HSL2, by omega, sS8', HSb8, HSo8, HI2, HF2, HA8, by exact PA8, tb8, bx8, cW8⟩
            case measure => simp; omega
    | nil =>
      obtain rfl : ns = 0 := by have := HSL.out; rw [hSc] at this; simpa using this.symm
      have hns' : ¬ (0 : Int) < ((0 : Nat) : Int) := by simp
      obtain ⟨f', rfl⟩ : ∃ f', f = f' + 1 := ⟨f - 1, by have := HF.out; omega⟩
      have HA0 : Hid (acc ++ (if at_ = (lo, la, lb) then [] else [prt o a b at_ (lo, la, lb)]) = tot) := by
        have := HA.out
        rw [hSc, pt_nil, HLo.out, HLa.out, HLb.out] at this
        exact this
      have hI := HIn.out.le
      simp only at hI
      obtain ⟨p8, c8, rfl⟩ := row_slice PA.row
      have tbE : TBox (wr.alloc (.cells #[.int .i64 (lo : Int), .int .i64 (la : Int), .int .i64 (lb : Int)] 181)) wr.heap.size (lo, la, lb) := World.alloc_heap_new wr _
      have ce : Chg No wr (wr.alloc (.cells #[.int .i64 (lo : Int), .int .i64 (la : Int), .int .i64 (lb : Int)] 181)) := (Chg.refl _ wr).alloc _
      have PA6 := PA.no ce
      have tb6 := tb.chg ce (fun h => h)
      have bx6 := bx.chg ce (fun h => h)
      have cW6 : Chg (fun k => k = T) wS (wr.alloc (.cells #[.int .i64 (lo : Int), .int .i64 (la : Int), .int .i64 (lb : Int)] 181)) := cW.trans ce (fun _ h => h.elim)
      obtain ⟨q0, q1, q2⟩ := tbE.cells
      obtain ⟨t0, t1, t2⟩ := tb6.cells
      obtain ⟨a0, a1, a2, a3⟩ := bx6.cells
      have hwS : w1.heap.size ≤ wS.heap.size := c1S.size
      by_cases hne : at_ = (lo, la, lb)
      · have hneq : ∀ w, (binOp .neq 181 (vT at_) (vT (lo, la, lb))).run Tryz.prog w = .ok (.bool false) w := fun w => by rw [run_neq_place, decide_eq_true hne]; rfl
        have HD : Hid (acc = tot) := by
          have := HA0.out
          rw [if_pos hne, List.append_nil] at this
          exact this
        clear hne
        gi_wp2
        go_ret
        exact ⟨_, rfl, ⟨rs, by rw [← HD.out]; exact PA6.less hwS⟩, c1S.trans cW6 (fun k e => .inr (by omega))⟩
      · have hneq : ∀ w, (binOp .neq 181 (vT at_) (vT (lo, la, lb))).run Tryz.prog w = .ok (.bool true) w := fun w => by rw [run_neq_place, decide_eq_false hne]; rfl
        have HD : Hid (acc ++ [prt o a b at_ (lo, la, lb)] = tot) := by
          have := HA0.out
          rw [if_neg hne] at this
          exact this
        have hlacc : rs.length + 1 ≤ 801 := by
          rw [PA6.len]
          have h9 := congrArg List.length HD.out
          have := HB.out
          simp only [List.length_append, List.length_cons, List.length_nil] at h9
          omega
        have hmx : rs.length + 1 ≤ maxLen := by unfold maxLen; omega
        clear hne
        gi_wp2_with fail
        generalize wr.alloc (.cells #[.int .i64 (lo : Int), .int .i64 (la : Int), .int .i64 (lb : Int)] 181) = W6 at *
        have sv := HSv.out W6 cW6
        have hh := piece_in false _ _ _ o a b at_ (lo, la, lb) W6 sv.1 sv.2.1 sv.2.2 (by rw [HLo.out]; omega) (by rw [HLa.out]; omega) (by rw [HLb.out]; omega) hI.1 hI.2.1 hI.2.2 (by rw [HLo.out]; exact Nat.le_refl _) (by rw [HLa.out]; exact Nat.le_refl _) (by rw [HLb.out]; exact Nat.le_refl _)
        refine ⟨trivial, rfl, hh.mono ?_⟩
        rintro e W7 ⟨x, y, z, rfl, o3, k7⟩
        obtain ⟨x1, x2, rfl⟩ := row_slice o3.o
        obtain ⟨y1, y2, rfl⟩ := row_slice o3.a
        obtain ⟨z1, z2, rfl⟩ := row_slice o3.b
        have hr7 := own_still PA6.row k7 (fun _ _ h => h)
        have cW7 : Chg (fun k => k = T) wS W7 := cW6.trans k7 (fun _ h => h.elim)
        generalize hpp : prt o a b at_ (lo, la, lb) = pp at *
        generalize pp.o.length = n1 at *
        generalize pp.a.length = n2 at *
        generalize pp.b.length = n3 at *
        have hcn := cells_laid W7 [.bool pp.c, .slice x1 n1 x2, .slice y1 n2 y2, .slice z1 n3 z2] 162
        have hbs7 : wS.heap.size ≤ (W7.alloc (.cells #[.bool pp.c, .slice x1 n1 x2, .slice y1 n2 y2, .slice z1 n3 z2] 162)).heap.size := (cW7.alloc _).size
        clear hh
        gi_wp2_with (gi_at_builtin; refine wpListIn_append_at _ rfl _ _ 159 rfl wS.heap.size 162 i0 (.agg #[.bool false, .slice none 0 0, .slice none 0 0, .slice none 0 0]) 4 80 Tryz.underlying159 hi hz0 hz1 hz2 rfl (by decide) _ _ _ rfl (hr7.alloc _) ⟨W7.heap.size, 0, none⟩ 1 1 [.bool pp.c, .slice x1 n1 x2, .slice y1 n2 y2, .slice z1 n3 z2] rfl rfl hcn (by simp [Value.oneCell']) hmx (by omega) hbs7 ?_; intro v' W8 hown' hgrow _ hat)
        have k8 : Chg (fun k => Value.ownBlock (.slice p8 rs.length c8) = some k) W7 W8 := ((Chg.refl _ W7).alloc _).grown hgrow (fun k e => .inl e)
        have hmv : Moved (.slice p8 rs.length c8) v' W7 := by
          rcases hat with h | h
          · exact .inl h
          · exact .inr ⟨_, h, by simp⟩
        have PA8 := PA6.push (c := pp.c) k7 o3 hown' k8 hmv rfl cW6.size
        go_ret
        exact ⟨_, rfl, ⟨_, by rw [← HD.out]; exact PA8.less hwS⟩, (c1S.trans cW7 (fun k e => .inr (by omega))).trans k8 (fun k h => .inr (by have := (PA6.row.lt k h).1; omega))⟩

end Go.Proofs.YtakbeololabmhaaGreatDoor
