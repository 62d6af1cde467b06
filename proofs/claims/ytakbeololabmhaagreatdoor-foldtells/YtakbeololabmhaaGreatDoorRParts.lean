/-
  The reference's own Parts, of chapter 5.
-/
import Derived.Test.YtakbeololabmhaaGreatDoorG31
import Derived.Test.YtakbeololabmhaaGreatDoorG25
namespace Go.DiffLib
theorem sg_head {g : Nat → Option (Nat × Nat)} {N k : Nat} {s : Pl} {r : List Pl} (h : sg g (N - k) k = s :: r) (hs : s.1 = k) : k < N ∧ g k = some (s.2.1, s.2.2) ∧ r = sg g (N - (k + 1)) (k + 1) := by
  have hk : k < N := by
    rcases Nat.lt_or_ge k N with h1 | h1
    · exact h1
    · rw [show N - k = 0 by omega] at h; cases h
  cases hg : g k with
  | none =>
    rw [sg_skip hk hg] at h
    have := sg_from (g := g) (N - (k + 1)) (k + 1) s (by rw [h]; exact List.mem_cons_self)
    omega
  | some q =>
    rw [sg_hit hk (u := q.1) (v := q.2) hg] at h
    obtain ⟨h1, h2⟩ := List.cons.inj h
    rw [← h1]
    exact ⟨hk, rfl, h2.symm⟩
theorem sg_no {g : Nat → Option (Nat × Nat)} {N k : Nat} {e : Pl} (hk : k < N) (hs : k ≠ ((sg g (N - k) k).headD e).1) : g k = none := by
  cases hg : g k with
  | none => rfl
  | some q =>
    rw [sg_hit hk (u := q.1) (v := q.2) hg] at hs
    exact absurd rfl hs
theorem head_eq {S : List Pl} {e : Pl} : (S = [] ∧ S.headD e = e) ∨ ∃ r, S = S.headD e :: r := by
  cases S with
  | nil => exact .inl ⟨rfl, rfl⟩
  | cons s r => exact .inr ⟨r, rfl⟩
theorem Inc3.head {e s : Pl} {S : List Pl} (h : Inc3 e s S) : s.1 ≤ (S.headD e).1 ∧ s.2.1 ≤ (S.headD e).2.1 ∧ s.2.2 ≤ (S.headD e).2.2 ∧ (S.headD e).1 ≤ e.1 ∧ (S.headD e).2.1 ≤ e.2.1 ∧ (S.headD e).2.2 ≤ e.2.2 := by
  cases S with
  | nil => obtain ⟨h1, h2, h3⟩ := h; exact ⟨h1, h2, h3, Nat.le_refl _, Nat.le_refl _, Nat.le_refl _⟩
  | cons p r => obtain ⟨h1, h2, h3, h4, h5, h6, _⟩ := h; exact ⟨h1, h2, h3, Nat.le_of_lt h4, Nat.le_of_lt h5, Nat.le_of_lt h6⟩
end Go.DiffLib

namespace Go.Proofs.YtakbeololabmhaaGreatDoor
open Go.RowKit Go.Shelf Go.SeqLib Go.DiffLib Go.BigFrame
attribute [local go_sem] Oper.semAt_some

/-- Three lists that read, in blocks below B. -/
def Read3 (W : World) (B : Nat) (x y z : Value) (p : Prt ByteArray) : Prop :=
  (SlV W x (p.o.map Value.string) ∧ SlV W y (p.a.map Value.string) ∧ SlV W z (p.b.map Value.string)) ∧ ∀ k, (svD x (p.o.map Value.string) k ∨ svD y (p.a.map Value.string) k ∨ svD z (p.b.map Value.string) k) → k < B
theorem Read3.chg {W W' : World} {B : Nat} {x y z : Value} {p : Prt ByteArray} (h : Read3 W B x y z p) {S : Blk} (c : Chg S W W') (hS : ∀ k, k < B → ¬ S k) : Read3 W' B x y z p :=
  ⟨⟨h.1.1.chg c (fun k hk => hS k (h.2 k (.inl hk))), h.1.2.1.chg c (fun k hk => hS k (h.2 k (.inr (.inl hk)))), h.1.2.2.chg c (fun k hk => hS k (h.2 k (.inr (.inr hk))))⟩, h.2⟩
/-- The reference's parts as they lie in memory. -/
structure RPartsAt (W : World) (base B : Nat) (v : Value) (rs : List PRow) (ps : List (Prt ByteArray)) : Prop where
  row : W.ownsRow base 171 4 v rs.length (rs.flatMap eR)
  len : rs.length = ps.length
  own : ∀ (i : Nat) (r : PRow) (p : Prt ByteArray), rs[i]? = some r → ps[i]? = some p → r.1 = p.c ∧ Read3 W B r.2.1 r.2.2.1 r.2.2.2 p
section
variable {W W' : World} {base B : Nat} {v : Value} {rs : List PRow} {ps : List (Prt ByteArray)}
theorem RPartsAt.nil (W : World) (base B : Nat) : RPartsAt W base B (.slice none 0 0) [] [] := {
  row := World.ownsRow_nil _ _ _ _
  len := rfl
  own := fun i r p h => by simp at h }
theorem RPartsAt.at (h : RPartsAt W base B v rs ps) {i : Nat} {r : PRow} (hr : rs[i]? = some r) : ∃ p, ps[i]? = some p ∧ r.1 = p.c ∧ Read3 W B r.2.1 r.2.2.1 r.2.2.2 p := by
  have hi : i < ps.length := by rw [← h.len]; exact (List.getElem?_eq_some_iff.1 hr).1
  exact ⟨ps[i], List.getElem?_eq_getElem hi, h.own i r _ hr (List.getElem?_eq_getElem hi)⟩
theorem RPartsAt.chg (h : RPartsAt W base B v rs ps) {S : Blk} (c : Chg S W W') (hS : ∀ k, k < B ∨ v.ownBlock = some k → ¬ S k) : RPartsAt W' base B v rs ps := {
  row := own_still h.row c (fun k hk => hS k (.inr hk))
  len := h.len
  own := fun i r p hr hp => by
    obtain ⟨h1, o3⟩ := h.own i r p hr hp
    exact ⟨h1, o3.chg c (fun k hk => hS k (.inl hk))⟩ }
theorem RPartsAt.no (h : RPartsAt W base B v rs ps) (c : Chg No W W') : RPartsAt W' base B v rs ps := h.chg c (fun _ _ h => h)
theorem RPartsAt.less (h : RPartsAt W base B v rs ps) {base' : Nat} (hb : base' ≤ base) : RPartsAt W base' B v rs ps := ⟨rowBase h.row hb, h.len, h.own⟩
/-- One more. -/
theorem RPartsAt.push {W2 : World} {v2 x y z : Value} {p : Prt ByteArray} {c : Bool} (h : RPartsAt W base B v rs ps) (o3 : Read3 W B x y z p)
    (hown : W2.ownsRow base 171 4 v2 (rs.length + 1) (rs.flatMap eR ++ [.bool c, x, y, z])) {S : Blk} (k2 : Chg S W W2) (hS : ∀ k, k < B → ¬ S k) (hc : c = p.c) :
    RPartsAt W2 base B v2 (rs ++ [(c, x, y, z)]) (ps ++ [p]) := by
  refine ⟨by rw [List.length_append, List.length_singleton, List.flatMap_append]; exact hown, by simp [h.len], fun i r q hr hq => ?_⟩
  by_cases hi : i < rs.length
  · rw [List.getElem?_append_left hi] at hr
    rw [List.getElem?_append_left (by rw [← h.len]; exact hi)] at hq
    obtain ⟨h1, o4⟩ := h.own i r q hr hq
    exact ⟨h1, o4.chg k2 hS⟩
  · rw [List.getElem?_append_right (by omega)] at hr
    rw [List.getElem?_append_right (by rw [← h.len]; omega), ← h.len] at hq
    have : i - rs.length = 0 := by
      have := (List.getElem?_eq_some_iff.1 hr).1
      simpa using this
    rw [this] at hr hq
    simp at hr hq
    subst hr hq
    exact ⟨hc, o3.chg k2 hS⟩
end

set_option maxRecDepth 100000 in
set_option maxHeartbeats 16000000 in
theorem refParts_at (vo va vb : Value) (o a b : List ByteArray) (w : World) (B : Nat) (hB : B ≤ w.heap.size) (hv : SlV w vo (o.map Value.string)) (hu : SlV w va (a.map Value.string)) (ht : SlV w vb (b.map Value.string)) (ho : o.length ≤ 400) (ha : a.length ≤ 400) (hb : b.length ≤ 400) (dO : ∀ k, svD vo (o.map Value.string) k → k < B) (dA : ∀ k, svD va (a.map Value.string) k → k < B) (dB : ∀ k, svD vb (b.map Value.string) k → k < B) :
    CallsIn Fence.wide 0 Tryz.prog 148 #[vo, va, vb] w fun e w' => ∃ v', e = .returned v' ∧ (∃ rs, RPartsAt w' w.heap.size B v' rs (parts o a b)) ∧ Chg No w w' := by
  have hmix : Tryz.prog.follows .mixedOrders = true := by kernel_rfl
  obtain ⟨i0, hi, hz0, hz1, hz2⟩ := info_parts info171
  obtain ⟨p, cp, rfl, _⟩ := id hv
  obtain ⟨q, cq, rfl, _⟩ := id hu
  obtain ⟨r, cr, rfl, _⟩ := id ht
  have P1 := places_in _ _ o a w hv hu ho ha
  have P2 : ∀ W, Chg No w W → _ := fun W c => places_in _ _ o b W (hv.no c) (ht.no c) ho hb
  rw [List.length_map] at hv hu ht P1 P2 dO dA dB
  rw [List.length_map] at P1 P2
  rw [List.length_map, List.length_map, List.length_map]
  have hinc := std_inc o a b
  have hsl := std_length o a b
  have hpl := parts_length o a b
  have hlk := std_like o a b
  have hI1 := pr_inc0 o a
  have hI2 := pr_inc0 o b
  unfold parts at hpl ⊢
  rw [std_sg] at hinc hsl hpl hlk ⊢
  obtain ⟨lo, HLo⟩ : ∃ n, Hid (o.length = n) := ⟨_, rfl⟩
  obtain ⟨la, HLa⟩ : ∃ n, Hid (a.length = n) := ⟨_, rfl⟩
  obtain ⟨lb, HLb⟩ : ∃ n, Hid (b.length = n) := ⟨_, rfl⟩
  rw [HLo.out] at hv hinc hsl hpl ho P1 P2 hI1 hI2 dO hlk ⊢
  rw [HLa.out] at hu hinc ha P1 hI1 dA ⊢
  rw [HLb.out] at ht hinc hb P2 hI2 dB ⊢
  have HX : Hid (∀ x, x < lo → (plcs (pr o a 0 0) lo)[x]? = some (pv (fx x (pr o a 0 0)))) := fun x hx => plcs_get hI1 x hx
  have HY : Hid (∀ x, x < lo → (plcs (pr o b 0 0) lo)[x]? = some (pv (fx x (pr o b 0 0)))) := fun x hx => plcs_get hI2 x hx
  generalize plcs (pr o a 0 0) lo = XS at *
  generalize plcs (pr o b 0 0) lo = YS at *
  generalize pr o a 0 0 = ps0 at *
  generalize pr o b 0 0 = qs0 at *
  have HG : Hid (∀ x, both ps0 qs0 x = none ↔ fx x ps0 = none ∨ fx x qs0 = none) := fun x => both_none
  have HG2 : Hid (∀ x u v, both ps0 qs0 x = some (u, v) ↔ fx x ps0 = some u ∧ fx x qs0 = some v) := fun x u v => both_some
  generalize both ps0 qs0 = g at *
  clear hI1 hI2
  obtain ⟨tot, HTot⟩ : ∃ t, Hid (pt o a b (lo + 1) (sg g lo 0) (0, 0, 0) = t) := ⟨_, rfl⟩
  rw [HTot.out] at hpl ⊢
  have HB : Hid (tot.length ≤ 801) := by show _ ≤ _; omega
  clear hpl
  refine callsIn_of_wp Tryz.func148 rfl trivial ?_
  simp only [Tryz.ntmps148, List.size_toArray, List.length_cons, List.length_nil, Nat.reduceAdd, Nat.reduceSub, Array.replicate_succ, Array.replicate_zero, List.push_toArray, List.append_toArray, List.nil_append, List.cons_append]
  have b1 : ¬ (400 : Int) < (lo : Int) := by omega
  have b2 : ¬ (400 : Int) < (la : Int) := by omega
  have b3 : ¬ (400 : Int) < (lb : Int) := by omega
  gi_wp2_with fail
  refine ⟨trivial, rfl, P1.mono ?_⟩
  rintro e w1 ⟨v7, rfl, r7, k1⟩
  gi_wp2_with fail
  refine ⟨trivial, rfl, (P2 w1 k1).mono ?_⟩
  rintro e Wp ⟨v8, rfl, r8, k2⟩
  have s7 : SlV w1 v7 (XS.map (Value.int .i64)) := SlV.ofRow (by have h := r7.1; rw [Nat.mul_one] at h; rw [h]; exact r7)
  have s8 : SlV Wp v8 (YS.map (Value.int .i64)) := SlV.ofRow (by have h := r8.1; rw [Nat.mul_one] at h; rw [h]; exact r8)
  have s7p := s7.no k2
  obtain ⟨p7, c7, rfl⟩ := row_slice r7
  obtain ⟨p8, c8, rfl⟩ := row_slice r8
  have cP := Chg.seq k1 k2
  have hvP := hv.no cP
  have huP := hu.no cP
  have htP := ht.no cP
  have hwP : B ≤ Wp.heap.size := Nat.le_trans hB cP.size
  clear P1 P2 r7 r8 k1 k2 s7 hv hu ht
  have hcx : ∀ W, Chg No Wp W → ∀ x, x < lo → ∃ b off, p7 = some ⟨b, off, none⟩ ∧ W.cell? ⟨b, off + x, none⟩ = some (.int .i64 (pv (fx x ps0))) := fun W c x hx => by
    obtain ⟨p', cap', e, _, _, hc⟩ := s7p.no c
    cases e
    exact hc x _ (by rw [List.getElem?_map, HX.out x hx]; rfl)
  have hcy : ∀ W, Chg No Wp W → ∀ x, x < lo → ∃ b off, p8 = some ⟨b, off, none⟩ ∧ W.cell? ⟨b, off + x, none⟩ = some (.int .i64 (pv (fx x qs0))) := fun W c x hx => by
    obtain ⟨p', cap', e, _, _, hc⟩ := s8.no c
    cases e
    exact hc x _ (by rw [List.getElem?_map, HY.out x hx]; rfl)
  have HCX : Hid (∀ W, Chg No Wp W → ∀ x, x < lo → ∃ b off, p7 = some ⟨b, off, none⟩ ∧ W.cell? ⟨b, off + x, none⟩ = some (.int .i64 (pv (fx x ps0)))) := hcx
  have HCY : Hid (∀ W, Chg No Wp W → ∀ x, x < lo → ∃ b off, p8 = some ⟨b, off, none⟩ ∧ W.cell? ⟨b, off + x, none⟩ = some (.int .i64 (pv (fx x qs0)))) := hcy
  clear hcx hcy s7p s8 HX HY
  gi_wp2
  gi_loopw [9, 10, 11, 12] (fun v9 v10 v11 v12 wr => ∃ (acc : List (Prt ByteArray)) (rs : List PRow) (at_ : Pl) (f : Nat), v10 = .int .i64 (at_.1 : Int) ∧ v11 = .int .i64 (at_.2.1 : Int) ∧ v12 = .int .i64 (at_.2.2 : Int) ∧ at_.1 ≤ lo ∧ Hid (Inc3 (lo, la, lb) at_ (sg g (lo - at_.1) at_.1)) ∧ Hid ((sg g (lo - at_.1) at_.1).length < f) ∧ Hid (∀ s ∈ sg g (lo - at_.1) at_.1, ∃ x, o[s.1]? = some x ∧ a[s.2.1]? = some x ∧ b[s.2.2]? = some x) ∧
      Hid (acc ++ pt o a b f (sg g (lo - at_.1) at_.1) at_ = tot) ∧ RPartsAt wr Wp.heap.size B v9 rs acc ∧ Chg No Wp wr) (fun v9 v10 v11 v12 _ => lo - (intOf v10).toNat)
  case atStart => exact ⟨[], [], (0, 0, 0), lo + 1, rfl, rfl, rfl, Nat.zero_le _, hinc, by show _ < _; simpa using Nat.lt_succ_of_le hsl, hlk, HTot, RPartsAt.nil _ _ _, Chg.refl _ _⟩
  case round =>
    obtain ⟨acc, rs, at_, f, rfl, rfl, rfl, hat, HIn, HF, HLk, HA, PA, cw⟩ := hrel
    obtain ⟨p9, c9, rfl⟩ := row_slice PA.row
    obtain ⟨S, hS⟩ : ∃ S, sg g (lo - at_.1) at_.1 = S := ⟨_, rfl⟩
    have HS : Hid (sg g (lo - at_.1) at_.1 = S) := hS
    rw [hS] at HIn HF HLk HA
    obtain ⟨s, hs⟩ : ∃ s, S.headD (lo, la, lb) = s := ⟨_, rfl⟩
    have hh := HIn.out.head
    have HSs := head_eq (S := S) (e := (lo, la, lb))
    rw [hs] at hh HSs
    obtain ⟨h1, h2, h3, h4, h5, h6⟩ := hh
    simp only at h4 h5 h6
    have HSs' : Hid ((S = [] ∧ s = (lo, la, lb)) ∨ ∃ r, S = s :: r) := HSs
    have HSh : Hid (S.headD (lo, la, lb) = s) := hs
    clear hS hs HSs
    gi_wp2
    gi_loopw [13] (fun v13 wk => ∃ k : Nat, at_.1 ≤ k ∧ k ≤ s.1 ∧ v13 = .int .i64 (k : Int) ∧ Hid (sg g (lo - k) k = S) ∧ wk = wr) (fun v13 _ => lo - (intOf v13).toNat)
    case atStart => exact ⟨at_.1, Nat.le_refl _, h1, rfl, HS, rfl⟩
    case round =>
      obtain ⟨k, hk1, hk2, rfl, HK, rfl⟩ := hrel
      gi_upto_region 7 with (fail)
      gi_cut [54] from 500 (fun v w' => v = .bool (!decide (k = s.1)) ∧ w' = wr)
      case first =>
        rename_i JJ KK hJJ hKK
        by_cases hkl : k < lo
        · have hkl' : (k : Int) < (lo : Int) := by omega
          obtain ⟨bx, ox, rfl, x1⟩ := HCX.out wr cw k hkl
          obtain ⟨by_, oy, rfl, y1⟩ := HCY.out wr cw k hkl
          cases hfx : fx k ps0 with
          | none =>
            have HN : Hid (decide (k = s.1) = false) := by
              refine decide_eq_false (fun e => ?_)
              rcases HSs'.out with ⟨hn, rfl⟩ | ⟨r', hr⟩
              · simp only at e; omega
              · have h9 := HK.out
                rw [hr] at h9
                have := (sg_head h9 e.symm).2.1
                have := ((HG2.out k _ _).1 this).1
                rw [hfx] at this
                cases this
            rw [hfx] at x1
            simp only [pv] at x1
            gi_wp2
            gi_meet
            exact ⟨by rw [HN.out]; rfl, rfl⟩
          | some jx =>
            rw [hfx] at x1
            simp only [pv] at x1
            have hx0 : ¬ (jx : Int) < 0 := by omega
            cases hfy : fx k qs0 with
            | none =>
              have HN : Hid (decide (k = s.1) = false) := by
                refine decide_eq_false (fun e => ?_)
                rcases HSs'.out with ⟨hn, rfl⟩ | ⟨r', hr⟩
                · simp only at e; omega
                · have h9 := HK.out
                  rw [hr] at h9
                  have := (sg_head h9 e.symm).2.1
                  have := ((HG2.out k _ _).1 this).2
                  rw [hfy] at this
                  cases this
              rw [hfy] at y1
              simp only [pv] at y1
              gi_wp2
              gi_meet
              exact ⟨by rw [HN.out]; rfl, rfl⟩
            | some jy =>
              have HN : Hid (decide (k = s.1) = true) := by
                refine decide_eq_true ?_
                refine Classical.byContradiction (fun hne => ?_)
                have h9 : g k = none := sg_no (e := (lo, la, lb)) hkl (by rw [HK.out, HSh.out]; exact hne)
                have h10 := (HG2.out k jx jy).2 ⟨hfx, hfy⟩
                rw [h9] at h10
                cases h10
              rw [hfy] at y1
              simp only [pv] at y1
              have hy0 : ¬ (jy : Int) < 0 := by omega
              gi_wp2
              gi_meet
              exact ⟨by rw [HN.out]; rfl, rfl⟩
        · have hkl' : ¬ (k : Int) < (lo : Int) := by omega
          have HN : Hid (decide (k = s.1) = true) := decide_eq_true (by omega)
          gi_wp2
          gi_meet
          exact ⟨by rw [HN.out]; rfl, rfl⟩
      case rest =>
      obtain ⟨rfl, rfl⟩ := hcut
      by_cases hke : k = s.1
      · rw [decide_eq_true hke]
        subst hke
        have hp1 : at_.1 ≤ 400 := by omega
        -- the three places
        gi_upto_if 64 with (fail)
        gi_cut [14, 15] from 57 (fun v14 v15 w' => v14 = .int .i64 (s.2.1 : Int) ∧ v15 = .int .i64 (s.2.2 : Int) ∧ ∃ j, w' = wc.drewN j)
        case first =>
          rename_i JJ KK hJJ hKK
          by_cases hkl : s.1 < lo
          · have hkl' : (s.1 : Int) < (lo : Int) := by omega
            obtain ⟨r', hr⟩ : ∃ r, S = s :: r := by
              rcases HSs'.out with ⟨hn, e⟩ | h
              · rw [e] at hkl; simp at hkl
              · exact h
            have h9 := HK.out
            rw [hr] at h9
            obtain ⟨_, h10, _⟩ := sg_head h9 rfl
            obtain ⟨h11, h12⟩ := (HG2.out s.1 _ _).1 h10
            obtain ⟨bx, ox, rfl, x1⟩ := HCX.out wc cw s.1 hkl
            obtain ⟨by_, oy, rfl, y1⟩ := HCY.out wc cw s.1 hkl
            rw [h11] at x1
            rw [h12] at y1
            simp only [pv] at x1 y1
            clear h9 h10 h11 h12 hr
            gi_wp2
            refine wpIn_region_quiet_lit rfl hmix (by kernel_rfl) ?_
            repeat (gi_big_quiet_step (fail))
            refine wpQuietIn_nil ?_
            rintro w' ⟨j1, rfl⟩
            gi_wp2
            gi_meet
            exact ⟨rfl, rfl, _, rfl⟩
          · have hkl' : ¬ (s.1 : Int) < (lo : Int) := by omega
            have HE : Hid (s = (lo, la, lb)) := by
              rcases HSs'.out with ⟨hn, e⟩ | ⟨r', hr⟩
              · exact e
              · have h9 := HK.out
                rw [hr] at h9
                have := (sg_head h9 rfl).1
                omega
            gi_wp2
            gi_meet
            exact ⟨by rw [HE.out], by rw [HE.out], 0, rfl⟩
        case rest =>
        obtain ⟨rfl, rfl, j1, rfl⟩ := hcut
        have cw1 : Chg No Wp (wc.drewN j1) := drewNC cw j1
        have PA1 := PA.no (drewNC (Chg.refl No wc) j1)
        clear cw PA
        generalize wc.drewN j1 = W1 at *
        gi_upto_region 12 with (fail)
        gi_cut [85] from 500 (fun v w' => v = .bool (!decide (s = at_)) ∧ w' = W1)
        case first =>
          rename_i JJ KK hJJ hKK
          by_cases c1 : at_.1 < s.1
          · have c1' : (at_.1 : Int) < (s.1 : Int) := by omega
            have HN : Hid (decide (s = at_) = false) := decide_eq_false (fun e => by rw [e] at c1; omega)
            gi_wp2
            gi_meet
            exact ⟨by rw [HN.out]; rfl, rfl⟩
          · have c1' : ¬ (at_.1 : Int) < (s.1 : Int) := by omega
            by_cases c2 : at_.2.1 < s.2.1
            · have c2' : (at_.2.1 : Int) < (s.2.1 : Int) := by omega
              have HN : Hid (decide (s = at_) = false) := decide_eq_false (fun e => by rw [e] at c2; omega)
              gi_wp2
              gi_meet
              exact ⟨by rw [HN.out]; rfl, rfl⟩
            · have c2' : ¬ (at_.2.1 : Int) < (s.2.1 : Int) := by omega
              by_cases c3 : at_.2.2 < s.2.2
              · have c3' : (at_.2.2 : Int) < (s.2.2 : Int) := by omega
                have HN : Hid (decide (s = at_) = false) := decide_eq_false (fun e => by rw [e] at c3; omega)
                gi_wp2
                gi_meet
                exact ⟨by rw [HN.out]; rfl, rfl⟩
              · have c3' : ¬ (at_.2.2 : Int) < (s.2.2 : Int) := by omega
                have HN : Hid (decide (s = at_) = true) := decide_eq_true (by
                  obtain ⟨x1, x2, x3⟩ := s
                  obtain ⟨y1, y2, y3⟩ := at_
                  simp only at c1 c2 c3 h1 h2 h3
                  rw [show x1 = y1 by omega, show x2 = y2 by omega, show x3 = y3 by omega])
                gi_wp2
                gi_meet
                exact ⟨by rw [HN.out]; rfl, rfl⟩
        case rest =>
        obtain ⟨rfl, rfl⟩ := hcut
        generalize wc = W1 at *
        have hlacc : rs.length ≤ 801 := by
          rw [PA1.len]
          have h9 := congrArg List.length HA.out
          have := HB.out
          simp only [List.length_append] at h9
          omega
        have HAcc : Hid (s ≠ at_ → acc.length + 1 ≤ 801) := fun hne => by
          obtain ⟨f', rfl⟩ : ∃ f', f = f' + 1 := ⟨f - 1, by have := HF.out; omega⟩
          have h9 := congrArg List.length HA.out
          have := HB.out
          rcases HSs'.out with ⟨hn, e⟩ | ⟨r', hr⟩
          · rw [hn, pt_nil, HLo.out, HLa.out, HLb.out, ← e, if_neg (fun e2 => hne e2.symm)] at h9
            simp only [List.length_append, List.length_singleton] at h9
            omega
          · rw [hr, pt_cons, if_neg hne] at h9
            simp only [List.length_append, List.length_cons, List.length_nil] at h9
            omega
        have hvW := hvP.no cw1
        have huW := huP.no cw1
        have htW := htP.no cw1
        gi_upto_if 85 with (fail)
        gi_cut [9] from 73 (fun v9 w' => (∃ p9 n9 c9 rs1, v9 = .slice p9 n9 c9 ∧ n9 = rs1.length ∧ RPartsAt w' Wp.heap.size B (.slice p9 n9 c9) rs1 (acc ++ if s = at_ then [] else [prt o a b at_ s])) ∧ Chg No Wp w')
        case first =>
          rename_i JJ KK hJJ hKK
          by_cases hne : s = at_
          · rw [decide_eq_true hne]
            have PA2 := PA1
            rw [← List.append_nil acc] at PA2
            gi_wp2
            gi_meet
            exact ⟨⟨_, _, _, rs, rfl, rfl, by rw [if_pos hne]; exact PA2⟩, cw1⟩
          · rw [decide_eq_false hne]
            have hacc1 := HAcc.out hne
            rw [← PA1.len] at hacc1
            obtain ⟨q1, d1, m1, o1, hc1⟩ := SlV.mid hvW (by rw [List.length_map]; exact HLo.out) at_.1 s.1 h1 h4
            obtain ⟨q2, d2, m2, o2, hc2⟩ := SlV.mid huW (by rw [List.length_map]; exact HLa.out) at_.2.1 s.2.1 h2 h5
            obtain ⟨q3, d3, m3, o3, hc3⟩ := SlV.mid htW (by rw [List.length_map]; exact HLb.out) at_.2.2 s.2.2 h3 h6
            rw [← List.map_take, ← List.map_drop] at m1 m2 m3
            have R3 : Read3 W1 B (.slice q1 (s.1 - at_.1) d1) (.slice q2 (s.2.1 - at_.2.1) d2) (.slice q3 (s.2.2 - at_.2.2) d3) (prt o a b at_ s) := ⟨⟨m1, m2, m3⟩, fun k hk => by
              rcases hk with hk | hk | hk
              · exact dO k ⟨fun e => hk.1 (by simp only [prt, mk3, cut]; rw [List.map_eq_nil_iff] at e; rw [e]; simp), o1 k hk.2⟩
              · exact dA k ⟨fun e => hk.1 (by simp only [prt, mk3, cut]; rw [List.map_eq_nil_iff] at e; rw [e]; simp), o2 k hk.2⟩
              · exact dB k ⟨fun e => hk.1 (by simp only [prt, mk3, cut]; rw [List.map_eq_nil_iff] at e; rw [e]; simp), o3 k hk.2⟩⟩
            generalize s.1 - at_.1 = n1 at *
            generalize s.2.1 - at_.2.1 = n2 at *
            generalize s.2.2 - at_.2.2 = n3 at *
            have HCl : Hid (∀ W, Chg No W1 W → CallsIn Fence.wide 0 Tryz.prog 175 #[.slice q1 n1 d1, .slice q2 n2 d2, .slice q3 n3 d3] W fun ex W' => ∃ v0, ex = .returned v0 ∧ v0 = .agg #[.bool (prt o a b at_ s).c, .slice q1 n1 d1, .slice q2 n2 d2, .slice q3 n3 d3] ∧ Chg No W W') := fun W c => by
              refine (loose_in q1 q2 q3 n1 n2 n3 d1 d2 d3 _ _ _ W (m1.no c) (m2.no c) (m3.no c)).mono ?_
              rintro e W' ⟨rfl, c'⟩
              exact ⟨_, rfl, rfl, c'⟩
            have hany := AfterB.any (fun k => Value.ownBlock (.slice p9 rs.length c9) = some k) W1
            clear m1 m2 m3
            gi_wp2
            refine region_pushc 13 14 15 _ _ _ hmix (by kernel_rfl) (by kernel_rfl) rfl rfl rfl (by kernel_rfl) (by kernel_rfl) rfl rfl _ _ 169 rfl Wp.heap.size 171 i0 (.agg #[.bool false, .slice none 0 0, .slice none 0 0, .slice none 0 0]) 4 80 Tryz.underlying169 hi hz0 hz1 hz2 rfl (by decide) (.slice p9 rs.length c9) rs.length (rs.flatMap eR) (fun v0 W' => v0 = .agg #[.bool (prt o a b at_ s).c, .slice q1 n1 d1, .slice q2 n2 d2, .slice q3 n3 d3]) PA1.row (by unfold maxLen; omega) (by omega) cw1.size 175 #[.slice q1 n1 d1, .slice q2 n2 d2, .slice q3 n3 d3] HCl.out (fun v0 W e => by rw [e]; exact ⟨rfl, by intro u hu; simp [aggCells] at hu; rcases hu with rfl | rfl | rfl | rfl <;> rfl⟩) ?_
            intro v0 v1 v2
            simp only [hushE, Nat.reduceAdd, Nat.reduceBEq, Bool.or_self, Bool.or_true, Bool.or_false, if_true, if_false, Bool.false_eq_true]
            repeat (gi_big_quiet_step (fail))
            refine wpQuietIn_nil ⟨fun W => ?_, ?_, ⟨rfl, rfl⟩, ?_⟩
            · simp [go_sem]
            · rintro W W' rfl
              simp [execOp, go_sem, aggCells]
            · rintro W7 W8 k7 rfl hown' k8 hmv
              have k18 : Chg (fun k => Value.ownBlock (.slice p9 rs.length c9) = some k) W1 W8 := (k7.mono (fun _ h => h.elim)).trans k8 (Grew.refl _ _)
              have hbo : ∀ k, Value.ownBlock (.slice p9 rs.length c9) = some k → Wp.heap.size ≤ k := fun k hk => (PA1.row.lt k hk).1
              have PA8 := PA1.push R3 hown' k18 (fun k hk h => by have := hbo k h; omega) rfl
              obtain ⟨p99, c99, rfl⟩ := row_slice hown'
              have cw8 : Chg No Wp W8 := cw1.trans k18 (fun k h => .inr (hbo k h))
              gi_wp2
              gi_meet
              exact ⟨⟨_, _, _, rs ++ [((prt o a b at_ s).c, .slice q1 n1 d1, .slice q2 n2 d2, .slice q3 n3 d3)], rfl, by simp, by rw [if_neg hne]; exact PA8⟩, cw8⟩
        case rest =>
        obtain ⟨⟨p9', n9, c9', rs1, rfl, hn9, PA2⟩, cw2⟩ := hcut
        have HN9 : Hid (n9 = rs1.length) := hn9
        clear hn9 PA1 cw1 hvW huW htW
        generalize hac : (acc ++ if s = at_ then [] else [prt o a b at_ s]) = acc1 at *
        have HAc : Hid ((acc ++ if s = at_ then [] else [prt o a b at_ s]) = acc1) := hac
        clear hac
        rcases HSs'.out with ⟨hn, he⟩ | ⟨r', hr⟩
        · -- nothing stands any more
          have HD : Hid (acc1 = tot) := by
            obtain ⟨f', rfl⟩ : ∃ f', f = f' + 1 := ⟨f - 1, by have := HF.out; omega⟩
            have h9 := HA.out
            rw [hn, pt_nil, HLo.out, HLa.out, HLb.out, ← he] at h9
            rw [← HAc.out, ← h9]
            show _ = _
            congr 1
            by_cases e : s = at_
            · rw [if_pos e, if_pos e.symm]
            · rw [if_neg e, if_neg (fun h => e h.symm)]
          have hq : ((s.1 : Int) == (lo : Int)) = true := by rw [he]; simp
          clear hn he
          gi_wp2
          go_ret
          exact ⟨_, rfl, ⟨rs1, by rw [← HD.out]; exact PA2.less cP.size⟩, Chg.seq cP cw2⟩
        · have h9 := HK.out
          rw [hr] at h9
          obtain ⟨hkl, _, _⟩ := sg_head h9 rfl
          have hq : ((s.1 : Int) == (lo : Int)) = false := by rw [beq_eq_false_iff_ne]; omega
          obtain ⟨n, hn⟩ : ∃ n, rn3 S s = n := ⟨_, rfl⟩
          have hn1 : 1 ≤ n := by rw [← hn, hr, rn3_self]; omega
          have HI2 : Hid (Inc3 (lo, la, lb) (on s n) (S.drop n)) := by
            have h10 := HIn.out
            rw [hr] at h10
            have h11 := h10.first.run
            rw [← hr, hn] at h11
            exact h11
          have HI3 := HI2.out.le
          simp only [on] at HI3
          have HFl := fast_like o a b S HLk.out s n (by omega)
          have HFa : Hid (cut a s.2.1 (s.2.1 + n) = cut o s.1 (s.1 + n) ∧ cut b s.2.2 (s.2.2 + n) = cut o s.1 (s.1 + n)) := HFl
          have HRn : Hid (rn3 S s = n) := hn
          have HSr : Hid (S = s :: r') := hr
          have HA2 : Hid (∃ f', f = f' + 1 ∧ (S.drop n).length < f' ∧ acc1 ++ prt o a b s (on s n) :: pt o a b f' (S.drop n) (on s n) = tot) := by
            obtain ⟨f', rfl⟩ : ∃ f', f = f' + 1 := ⟨f - 1, by have := HF.out; omega⟩
            refine ⟨f', rfl, ?_, ?_⟩
            · have h10 := drop_less s r'
              rw [← hr, hn] at h10
              have h11 := HF.out
              rw [hr, List.length_cons] at h11
              omega
            · have h10 := HA.out
              rw [hr, pt_cons, ← hr, hn, ← List.append_assoc, HAc.out] at h10
              exact h10
          clear HFl hn hr h9
          gi_wp2
          gi_loopw [16] (fun v16 wk => ∃ m : Nat, 1 ≤ m ∧ m ≤ n ∧ v16 = .int .i64 (m : Int) ∧ Hid (n = m + rn3 (sg g (lo - (s.1 + m)) (s.1 + m)) (on s m)) ∧ Hid (S.drop m = sg g (lo - (s.1 + m)) (s.1 + m)) ∧ wk = wc) (fun v16 _ => n - (intOf v16).toNat)
          case atStart =>
            have h9 := HK.out
            rw [HSr.out] at h9
            obtain ⟨_, _, h10⟩ := sg_head h9 rfl
            refine ⟨1, Nat.le_refl _, hn1, rfl, ?_, ?_, rfl⟩
            · show _ = _
              rw [← HRn.out, HSr.out, rn3_self, h10]
              omega
            · show _ = _
              rw [HSr.out, h10]; rfl
          case round =>
            obtain ⟨m, hm1, hm2, rfl, HM, HDr, rfl⟩ := hrel
            have hml : s.1 + m ≤ lo := by omega
            gi_upto_region 17 with (fail)
            gi_cut [136] from 500 (fun v w' => v = .bool (!decide (m = n)) ∧ w' = wr)
            case first =>
              rename_i JJ KK hJJ hKK
              by_cases hlt : s.1 + m < lo
              · have hlt' : (s.1 : Int) + (m : Int) < (lo : Int) := by omega
                obtain ⟨bx, ox, rfl, x1⟩ := HCX.out wr cw2 (s.1 + m) hlt
                obtain ⟨by_, oy, rfl, y1⟩ := HCY.out wr cw2 (s.1 + m) hlt
                have hz : g (s.1 + m) ≠ some (s.2.1 + m, s.2.2 + m) → m = n := fun h => by
                  have h9 := HM.out
                  have h10 : rn3 (sg g (lo - (s.1 + m)) (s.1 + m)) (on s m) = 0 := rn3_sg_zero (q := on s m) h
                  rw [h10] at h9
                  omega
                by_cases e1 : fx (s.1 + m) ps0 = some (s.2.1 + m)
                · have ex : (pv (fx (s.1 + m) ps0) == (s.2.1 : Int) + (m : Int)) = true := by rw [e1]; simp [pv]
                  by_cases e2 : fx (s.1 + m) qs0 = some (s.2.2 + m)
                  · have ey : (pv (fx (s.1 + m) qs0) == (s.2.2 : Int) + (m : Int)) = true := by rw [e2]; simp [pv]
                    have HN : Hid (decide (m = n) = false) := by
                      refine decide_eq_false (fun e => ?_)
                      have h9 := HM.out
                      rw [sg_hit hlt ((HG2.out _ _ _).2 ⟨e1, e2⟩)] at h9
                      have : rn3 ((s.1 + m, s.2.1 + m, s.2.2 + m) :: sg g (lo - (s.1 + m + 1)) (s.1 + m + 1)) (on s m) = rn3 (sg g (lo - (s.1 + m + 1)) (s.1 + m + 1)) (on (on s m) 1) + 1 := rn3_self _ _
                      omega
                    generalize pv (fx (s.1 + m) ps0) = vx at *
                    generalize pv (fx (s.1 + m) qs0) = vy at *
                    clear e1 e2 hz
                    gi_wp2
                    gi_meet
                    exact ⟨by rw [HN.out]; rfl, rfl⟩
                  · have ey : (pv (fx (s.1 + m) qs0) == (s.2.2 : Int) + (m : Int)) = false := by
                      rw [beq_eq_false_iff_ne]
                      intro e3
                      apply e2
                      cases hf : fx (s.1 + m) qs0 with
                      | none => rw [hf] at e3; simp only [pv] at e3; omega
                      | some jj => rw [hf] at e3; simp only [pv] at e3; rw [show jj = s.2.2 + m by omega]
                    have HN : Hid (decide (m = n) = true) := decide_eq_true (hz (fun h => e2 ((HG2.out _ _ _).1 h).2))
                    generalize pv (fx (s.1 + m) ps0) = vx at *
                    generalize pv (fx (s.1 + m) qs0) = vy at *
                    clear e1 e2 hz
                    gi_wp2
                    gi_meet
                    exact ⟨by rw [HN.out]; rfl, rfl⟩
                · have ex : (pv (fx (s.1 + m) ps0) == (s.2.1 : Int) + (m : Int)) = false := by
                    rw [beq_eq_false_iff_ne]
                    intro e3
                    apply e1
                    cases hf : fx (s.1 + m) ps0 with
                    | none => rw [hf] at e3; simp only [pv] at e3; omega
                    | some jj => rw [hf] at e3; simp only [pv] at e3; rw [show jj = s.2.1 + m by omega]
                  have HN : Hid (decide (m = n) = true) := decide_eq_true (hz (fun h => e1 ((HG2.out _ _ _).1 h).1))
                  generalize pv (fx (s.1 + m) ps0) = vx at *
                  generalize pv (fx (s.1 + m) qs0) = vy at *
                  clear e1 hz
                  gi_wp2
                  gi_meet
                  exact ⟨by rw [HN.out]; rfl, rfl⟩
              · have hlt' : ¬ (s.1 : Int) + (m : Int) < (lo : Int) := by omega
                have HN : Hid (decide (m = n) = true) := by
                  have h9 := HM.out
                  rw [show lo - (s.1 + m) = 0 by omega] at h9
                  exact decide_eq_true (by simp only [sg, rn3] at h9; omega)
                gi_wp2
                gi_meet
                exact ⟨by rw [HN.out]; rfl, rfl⟩
            case rest =>
            obtain ⟨rfl, rfl⟩ := hcut
            by_cases hmn : m = n
            · rw [decide_eq_true hmn]
              subst hmn
              obtain ⟨f', rfl, hfl, hA3⟩ := HA2.out
              have hvW := hvP.no cw2
              have huW := huP.no cw2
              have htW := htP.no cw2
              obtain ⟨q1, d1, m1, o1, hc1⟩ := SlV.mid hvW (by rw [List.length_map]; exact HLo.out) s.1 (s.1 + m) (by omega) HI3.1
              obtain ⟨q2, d2, m2, o2, hc2⟩ := SlV.mid huW (by rw [List.length_map]; exact HLa.out) s.2.1 (s.2.1 + m) (by omega) HI3.2.1
              obtain ⟨q3, d3, m3, o3, hc3⟩ := SlV.mid htW (by rw [List.length_map]; exact HLb.out) s.2.2 (s.2.2 + m) (by omega) HI3.2.2
              rw [← List.map_take, ← List.map_drop] at m1 m2 m3
              have R3 : Read3 wc B (.slice q1 (s.1 + m - s.1) d1) (.slice q2 (s.2.1 + m - s.2.1) d2) (.slice q3 (s.2.2 + m - s.2.2) d3) (prt o a b s (on s m)) := ⟨⟨m1, m2, m3⟩, fun k hk => by
                rcases hk with hk | hk | hk
                · exact dO k ⟨fun e => hk.1 (by simp only [prt, mk3, cut]; rw [List.map_eq_nil_iff] at e; rw [e]; simp), o1 k hk.2⟩
                · exact dA k ⟨fun e => hk.1 (by simp only [prt, mk3, cut]; rw [List.map_eq_nil_iff] at e; rw [e]; simp), o2 k hk.2⟩
                · exact dB k ⟨fun e => hk.1 (by simp only [prt, mk3, cut]; rw [List.map_eq_nil_iff] at e; rw [e]; simp), o3 k hk.2⟩⟩
              have HPc : Hid (false = (prt o a b s (on s m)).c) := by
                refine Eq.symm ?_
                show (mk3 (cut o s.1 (s.1 + m)) (cut a s.2.1 (s.2.1 + m)) (cut b s.2.2 (s.2.2 + m))).c = false
                rw [mk3_c]
                exact .inr (.inl HFa.out.1)
              rw [show s.1 + m - s.1 = m by omega] at R3 hc1
              rw [show s.2.1 + m - s.2.1 = m by omega] at R3 hc2
              rw [show s.2.2 + m - s.2.2 = m by omega] at R3 hc3
              rw [Int.natCast_add] at hc1 hc2 hc3
              have hlacc1 : rs1.length + 1 ≤ 801 := by
                rw [PA2.len]
                have h9 := congrArg List.length hA3
                have := HB.out
                simp only [List.length_append, List.length_cons] at h9
                omega
              obtain ⟨z1, z2, z3⟩ := id HI3
              obtain rfl := HN9.out
              have hany := AfterB.any (fun k => Value.ownBlock (.slice p9' rs1.length c9') = some k) wc
              have HA3 : Hid ((acc1 ++ [prt o a b s (on s m)]) ++ pt o a b f' (sg g (lo - (on s m).1) (on s m).1) (on s m) = tot) := by
                rw [List.append_assoc]
                show _ ++ ([_] ++ pt o a b f' (sg g (lo - (s.1 + m)) (s.1 + m)) (on s m)) = tot
                rw [← HDr.out]
                exact hA3
              have HI4 : Hid (Inc3 (lo, la, lb) (on s m) (sg g (lo - (on s m).1) (on s m).1)) := by
                show Inc3 _ _ (sg g (lo - (s.1 + m)) (s.1 + m))
                rw [← HDr.out]
                exact HI2.out
              have HF4 : Hid ((sg g (lo - (on s m).1) (on s m).1).length < f') := by
                show (sg g (lo - (s.1 + m)) (s.1 + m)).length < f'
                rw [← HDr.out]
                exact hfl
              have HL4 : Hid (∀ t ∈ sg g (lo - (on s m).1) (on s m).1, ∃ x, o[t.1]? = some x ∧ a[t.2.1]? = some x ∧ b[t.2.2]? = some x) := by
                show ∀ t ∈ sg g (lo - (s.1 + m)) (s.1 + m), _
                rw [← HDr.out]
                exact fun t ht => HLk.out t (List.mem_of_mem_drop ht)
              clear m1 m2 m3 hA3 hfl
              gi_wp2
              refine region_push 20 21 _ _ hmix (by kernel_rfl) (by kernel_rfl) rfl rfl (by kernel_rfl) rfl _ _ 169 rfl Wp.heap.size 171 i0 (.agg #[.bool false, .slice none 0 0, .slice none 0 0, .slice none 0 0]) 4 80 Tryz.underlying169 hi hz0 hz1 hz2 rfl (by decide) (.slice p9' rs1.length c9') rs1.length (rs1.flatMap eR) [.bool false, .slice q1 m d1, .slice q2 m d2, .slice q3 m d3] PA2.row rfl (by simp [Value.oneCell']) (by unfold maxLen; omega) (by omega) cw2.size ?_
              intro v1 v2
              simp only [hushE, Nat.reduceAdd, Nat.reduceBEq, Bool.or_self, Bool.or_true, Bool.or_false, if_true, if_false, Bool.false_eq_true]
              repeat (gi_big_quiet_step (fail))
              refine wpQuietIn_nil ⟨fun W => ?_, ⟨rfl, rfl⟩, ?_⟩
              · simp [execOp, go_sem]
              · intro W hown' c' hmv
                have hbo : ∀ k, Value.ownBlock (.slice p9' rs1.length c9') = some k → Wp.heap.size ≤ k := fun k hk => (PA2.row.lt k hk).1
                have PA9 := PA2.push R3 hown' c' (fun k hk h => by have := hbo k h; omega) HPc.out
                have cw9 : Chg No Wp W := cw2.trans c' (fun k h => .inr (hbo k h))
                gi_wp2
                go_roundw
                case rel => exact ⟨acc1 ++ [prt o a b s (on s m)], rs1 ++ [(false, .slice q1 m d1, .slice q2 m d2, .slice q3 m d3)], on s m, f', by simp only [on]; go_num, by simp only [on]; go_num, by simp only [on]; go_num, HI3.1, HI4, HF4, HL4, HA3, PA9, cw9⟩
                case measure => simp [intOf]; omega
            · rw [decide_eq_false hmn]
              have hlt : s.1 + m < lo := by
                rcases Nat.lt_or_ge (s.1 + m) lo with h | h
                · exact h
                · have h9 := HM.out
                  rw [show lo - (s.1 + m) = 0 by omega] at h9
                  simp only [sg, rn3] at h9
                  omega
              have hg : g (s.1 + m) = some (s.2.1 + m, s.2.2 + m) := by
                refine Classical.byContradiction (fun h => ?_)
                have h9 := HM.out
                have h10 : rn3 (sg g (lo - (s.1 + m)) (s.1 + m)) (on s m) = 0 := rn3_sg_zero (q := on s m) h
                rw [h10] at h9
                omega
              have HM2 : Hid (n = (m + 1) + rn3 (sg g (lo - (s.1 + (m + 1))) (s.1 + (m + 1))) (on s (m + 1))) := by
                have h9 := HM.out
                rw [sg_hit hlt hg] at h9
                have h10 : rn3 ((s.1 + m, s.2.1 + m, s.2.2 + m) :: sg g (lo - (s.1 + m + 1)) (s.1 + m + 1)) (on s m) = rn3 (sg g (lo - (s.1 + m + 1)) (s.1 + m + 1)) (on (on s m) 1) + 1 := rn3_self _ _
                rw [h10, on_on] at h9
                show _ = _
                rw [← Nat.add_assoc s.1 m 1]
                omega
              have HD2 : Hid (S.drop (m + 1) = sg g (lo - (s.1 + (m + 1))) (s.1 + (m + 1))) := by
                show _ = _
                rw [← List.drop_drop, HDr.out, sg_hit hlt hg]
                rfl
              gi_wp2
              go_roundw
              case rel => exact ⟨m + 1, by omega, by omega, by go_num, HM2, HD2, trivial⟩
              case measure => simp [intOf]; omega
      · rw [decide_eq_false hke]
        have hkl : k < lo := by omega
        have HK2 : Hid (sg g (lo - (k + 1)) (k + 1) = S) := by
          show _ = _
          rw [← sg_skip hkl (sg_no (e := (lo, la, lb)) hkl (by rw [HK.out, HSh.out]; exact hke))]
          exact HK.out
        gi_wp2
        go_roundw
        case rel => exact ⟨k + 1, by omega, by omega, by go_num, HK2, trivial⟩
        case measure => simp [intOf]; omega

theorem refParts_in (vo va vb : Value) (o a b : List ByteArray) (w : World) (hv : SlV w vo (o.map Value.string)) (hu : SlV w va (a.map Value.string)) (ht : SlV w vb (b.map Value.string)) (ho : o.length ≤ 400) (ha : a.length ≤ 400) (hb : b.length ≤ 400) :
    CallsIn Fence.wide 0 Tryz.prog 148 #[vo, va, vb] w fun e w' => ∃ v', e = .returned v' ∧ (∃ rs, RPartsAt w' w.heap.size w.heap.size v' rs (parts o a b)) ∧ Chg No w w' :=
  refParts_at vo va vb o a b w w.heap.size (Nat.le_refl _) hv hu ht ho ha hb hv.lt hu.lt ht.lt

end Go.Proofs.YtakbeololabmhaaGreatDoor
