/-
  ThreeApart answers true at every three lists of numbers, and turns nothing that lay.
-/
import Derived.Test.YtfpceedjkmkidaaTAwake
import Derived.Test.YtfpceedjkmkidaaLow
import Derived.Test.YtfpceedjkmkidaaLoudP
namespace Go.Proofs.Ytfpceedjkmkidaa
open Go.RowKit Go.Shelf Go.SeqLib Go.DiffLib Go.BigFrame
attribute [local go_sem] Oper.semAt_some

/-- The three lists. -/
def bl (n : Nat) : List Int := (List.range n).map (fun (i : Nat) => (3 * (i : Int) : Int))
def ll (d : Int) (l : List Int) : List Int := l.map fun x => 3 * lowI x 100 + d
theorem bl_length (n : Nat) : (bl n).length = n := by simp [bl]
theorem bl_succ (n : Nat) : bl (n + 1) = bl n ++ [3 * (n : Int)] := by simp [bl, List.range_succ]
theorem ll_length (d : Int) (l : List Int) : (ll d l).length = l.length := by simp [ll]
theorem ll_not (n : Nat) (l : List Int) : ∀ x ∈ ll 1 l, x ∉ bl n := by
  intro x hx hb
  obtain ⟨y, _, rfl⟩ := List.mem_map.1 hx
  obtain ⟨i, _, h⟩ := List.mem_map.1 hb
  omega

theorem mergeI_tells (vo va vb : Value) (o a b : List Int) (w : World) (hv : SlV w vo (o.map (Value.int .i64))) (hu : SlV w va (a.map (Value.int .i64))) (ht : SlV w vb (b.map (Value.int .i64))) (ho : o.length ≤ 400) (ha : a.length ≤ 400) (hb : b.length ≤ 400) :
    CallsIn Fence.wide 0 Try.prog 19 #[vo, va, vb] w fun e w' => ∃ p n c, e = .returned (.tuple #[.slice p n c, .bool (mrg o a b).isSome]) ∧ SlV w' (.slice p n c) (((mrg o a b).getD []).map (Value.int .i64)) ∧ Chg No w w' := by
  refine (I.merge_in vo va vb o a b w hv hu ht ho ha hb).mono ?_
  rintro e w' ⟨h, c⟩
  cases hm : mrg o a b with
  | none =>
    rw [hm] at h
    exact ⟨none, 0, 0, h, ⟨none, 0, rfl, Nat.le_refl _, Nat.zero_le _, by simp⟩, c⟩
  | some l =>
    rw [hm] at h
    obtain ⟨v', rfl, r⟩ := h
    obtain ⟨p, cc, rfl⟩ := row_slice r
    exact ⟨p, _, cc, rfl, SlV.ofRow (by simpa using r), c⟩

theorem oneInt (w : World) (x : Int) : ∀ j u, ([.int .i64 x] : List Value)[j]? = some u → (w.alloc (.cells #[.int .i64 x] 3)).cell? ((⟨w.heap.size, 0, none⟩ : Addr).add j) = some u := cells_laid w [.int .i64 x] 3

set_option maxRecDepth 100000 in
set_option maxHeartbeats 8000000 in
theorem apart_law (p : Option Addr) (lo cp : Nat) (o : List Int) (q : Option Addr) (la cq : Nat) (a : List Int) (r : Option Addr) (lb cr : Nat) (b : List Int) (w : World) (_ : SlV w (.slice p lo cp) (o.map (Value.int .i64))) (_ : o.length = lo) (hu : SlV w (.slice q la cq) (a.map (Value.int .i64))) (hla : a.length = la) (ht : SlV w (.slice r lb cr) (b.map (Value.int .i64))) (hlb : b.length = lb) :
    CallsIn Fence.wide 0 Try.prog 6 #[.slice p lo cp, .slice q la cq, .slice r lb cr] w fun e w' => e = .returned (.bool true) ∧ Chg No w w' := by
  obtain ⟨i0, hi, hz0, hz1, hz2⟩ := info_parts info3
  have HLA : Hid (a.length = la) := hla
  have HLB : Hid (b.length = lb) := hlb
  clear hla hlb
  refine callsIn_of_wp Try.func6 rfl trivial ?_
  simp only [Try.ntmps6, List.size_toArray, List.length_cons, List.length_nil, Nat.reduceAdd, Nat.reduceSub, Array.replicate_succ, Array.replicate_zero, List.push_toArray, List.append_toArray, List.nil_append, List.cons_append]
  by_cases hg : lo > 20 ∨ la > 20 ∨ lb > 20 ∨ lo = 0
  · -- too many, or none
    by_cases g1 : lo > 20
    · have g1' : (20 : Int) < (lo : Int) := by omega
      gi_wp2_with fail
      refine ⟨trivial, rfl, (awake_in _).mono ?_⟩
      rintro e w1 ⟨rfl, c1⟩
      gi_wp2
      go_ret
      exact ⟨rfl, c1⟩
    have g1' : ¬ (20 : Int) < (lo : Int) := by omega
    by_cases g2 : la > 20
    · have g2' : (20 : Int) < (la : Int) := by omega
      gi_wp2_with fail
      refine ⟨trivial, rfl, (awake_in _).mono ?_⟩
      rintro e w1 ⟨rfl, c1⟩
      gi_wp2
      go_ret
      exact ⟨rfl, c1⟩
    have g2' : ¬ (20 : Int) < (la : Int) := by omega
    by_cases g3 : lb > 20
    · have g3' : (20 : Int) < (lb : Int) := by omega
      gi_wp2_with fail
      refine ⟨trivial, rfl, (awake_in _).mono ?_⟩
      rintro e w1 ⟨rfl, c1⟩
      gi_wp2
      go_ret
      exact ⟨rfl, c1⟩
    have g3' : ¬ (20 : Int) < (lb : Int) := by omega
    obtain rfl : lo = 0 := by omega
    gi_wp2_with fail
    refine ⟨trivial, rfl, (awake_in _).mono ?_⟩
    rintro e w1 ⟨rfl, c1⟩
    gi_wp2
    go_ret
    exact ⟨rfl, c1⟩
  · have g1 : ¬ (20 : Int) < (lo : Int) := by omega
    have g2 : ¬ (20 : Int) < (la : Int) := by omega
    have g3 : ¬ (20 : Int) < (lb : Int) := by omega
    have g4 : ((lo : Int) == 0) = false := by rw [beq_eq_false_iff_ne]; omega
    have b1 : lo ≤ 20 := by omega
    have b2 : la ≤ 20 := by omega
    have b3 : lb ≤ 20 := by omega
    have b4 : 0 < lo := by omega
    clear hg
    gi_wp2
    gi_loopw [7, 10] (fun v i wr => ∃ k : Nat, k ≤ lo ∧ i = .int .i64 (k : Int) ∧ wr.ownsRow w.heap.size 3 1 v k ((bl k).map (Value.int .i64)) ∧ Chg No w wr) (fun v i _ => lo - (intOf i).toNat)
    case atStart => exact ⟨0, Nat.zero_le _, rfl, World.ownsRow_nil _ _ _ _, Chg.refl _ _⟩
    case round =>
      obtain ⟨k, hk, rfl, hr, cw⟩ := hrel
      obtain ⟨p7, c7, rfl⟩ := row_slice hr
      by_cases hlt : k < lo
      · have hlt' : (k : Int) < (lo : Int) := by omega
        have hcn := oneInt wr (3 * (k : Int))
        have hmx : k + 1 ≤ maxLen := by unfold maxLen; omega
        have hbs : w.heap.size ≤ (wr.alloc (.cells #[.int .i64 (3 * (k : Int))] 3)).heap.size := (cw.alloc _).size
        gi_wp2_with (gi_at_builtin; refine wpListIn_append_at _ rfl _ _ 37 rfl w.heap.size 3 i0 (.int .i64 0) 1 8 Try.underlying37 hi hz0 hz1 hz2 rfl (by decide) _ _ _ rfl (hr.alloc _) ⟨wr.heap.size, 0, none⟩ 1 1 [.int .i64 (3 * (k : Int))] rfl rfl hcn (by simp [Value.oneCell']) hmx (by omega) hbs ?_; intro v' w4 hown' hgrow _ hat; have c1 : Chg No w w4 := (cw.alloc _).grown hgrow (fun k e => .inr (hr.lt k e).1))
        go_roundw
        case rel => exact ⟨k + 1, hlt, by go_num, by rw [bl_succ, List.map_append]; exact hown', c1⟩
        case measure => simp [intOf]; omega
      · obtain rfl : k = lo := by omega
        have hlt' : ¬ (k : Int) < (k : Int) := by omega
        clear hlt
        gi_wp2
        generalize hW1 : wr = W1 at *
        clear hW1
        gi_loopw [8, 11] (fun v i wr => ∃ j : Nat, j ≤ la ∧ i = .int .i64 (j : Int) ∧ wr.ownsRow W1.heap.size 3 1 v j ((ll 1 (a.take j)).map (Value.int .i64)) ∧ Chg No W1 wr) (fun v i _ => la - (intOf i).toNat)
        case atStart => exact ⟨0, Nat.zero_le _, rfl, World.ownsRow_nil _ _ _ _, Chg.refl _ _⟩
        case round =>
          obtain ⟨j, hj, rfl, hr2, cw2⟩ := hrel
          obtain ⟨p8, c8, rfl⟩ := row_slice hr2
          by_cases hlt : j < la
          · have hlt' : (j : Int) < (la : Int) := by omega
            have hja : j < a.length := by rw [HLA.out]; exact hlt
            obtain ⟨ba, oa, rfl, hca⟩ : ∃ ba oa, q = some ⟨ba, oa, none⟩ ∧ wr.cell? ⟨ba, oa + j, none⟩ = some (.int .i64 a[j]) := by
              obtain ⟨p', cap', e, _, _, hc⟩ := hu.no (Chg.seq cw cw2)
              cases e
              exact hc j (.int .i64 a[j]) (by rw [List.getElem?_map, List.getElem?_eq_getElem hja]; rfl)
            have HTk : Hid (ll 1 (a.take (j + 1)) = ll 1 (a.take j) ++ [3 * lowI a[j] 100 + 1]) := by
              show _ = _
              rw [List.take_succ_eq_append_getElem hja]
              unfold ll
              rw [List.map_append]
              rfl
            generalize a[j] = x at *
            obtain ⟨r1, r2⟩ := lowI_range x 100 (by omega) (by omega)
            gi_wp2_with fail
            refine ⟨trivial, rfl, (low_in x 100 (by omega) (by omega) _).mono ?_⟩
            rintro e w3 ⟨rfl, rfl⟩
            generalize lowI x 100 = y at *
            have hcn := oneInt w3 (3 * y + 1)
            have hmx : j + 1 ≤ maxLen := by unfold maxLen; omega
            have hbs : W1.heap.size ≤ (w3.alloc (.cells #[.int .i64 (3 * y + 1)] 3)).heap.size := (cw2.alloc _).size
            gi_wp2_with (gi_at_builtin; refine wpListIn_append_at _ rfl _ _ 37 rfl W1.heap.size 3 i0 (.int .i64 0) 1 8 Try.underlying37 hi hz0 hz1 hz2 rfl (by decide) _ _ _ rfl (hr2.alloc _) ⟨w3.heap.size, 0, none⟩ 1 1 [.int .i64 (3 * y + 1)] rfl rfl hcn (by simp [Value.oneCell']) hmx (by omega) hbs ?_; intro v' w4 hown' hgrow _ hat; have c1 : Chg No W1 w4 := (cw2.alloc _).grown hgrow (fun k e => .inr (hr2.lt k e).1))
            go_roundw
            case rel => exact ⟨j + 1, hlt, by go_num, by rw [HTk.out, List.map_append]; exact hown', c1⟩
            case measure => simp [intOf]; omega
          · obtain rfl : j = la := by omega
            have hlt' : ¬ (j : Int) < (j : Int) := by omega
            clear hlt
            rw [List.take_of_length_le (by rw [HLA.out]; exact Nat.le_refl _)] at hr2
            gi_wp2
            generalize hW2 : wr = W2 at *
            clear hW2
            gi_loopw [9, 12] (fun v i wr => ∃ m : Nat, m ≤ lb ∧ i = .int .i64 (m : Int) ∧ wr.ownsRow W2.heap.size 3 1 v m ((ll 2 (b.take m)).map (Value.int .i64)) ∧ Chg No W2 wr) (fun v i _ => lb - (intOf i).toNat)
            case atStart => exact ⟨0, Nat.zero_le _, rfl, World.ownsRow_nil _ _ _ _, Chg.refl _ _⟩
            case round =>
              obtain ⟨m, hm, rfl, hr3, cw3⟩ := hrel
              obtain ⟨p9, c9, rfl⟩ := row_slice hr3
              by_cases hlt : m < lb
              · have hlt' : (m : Int) < (lb : Int) := by omega
                have hjb : m < b.length := by rw [HLB.out]; exact hlt
                obtain ⟨bb, ob, rfl, hcb⟩ : ∃ ba oa, r = some ⟨ba, oa, none⟩ ∧ wr.cell? ⟨ba, oa + m, none⟩ = some (.int .i64 b[m]) := by
                  obtain ⟨p', cap', e, _, _, hc⟩ := ht.no (Chg.seq (Chg.seq cw cw2) cw3)
                  cases e
                  exact hc m (.int .i64 b[m]) (by rw [List.getElem?_map, List.getElem?_eq_getElem hjb]; rfl)
                have HTk : Hid (ll 2 (b.take (m + 1)) = ll 2 (b.take m) ++ [3 * lowI b[m] 100 + 2]) := by
                  show _ = _
                  rw [List.take_succ_eq_append_getElem hjb]
                  unfold ll
                  rw [List.map_append]
                  rfl
                generalize b[m] = x at *
                obtain ⟨r1, r2⟩ := lowI_range x 100 (by omega) (by omega)
                gi_wp2_with fail
                refine ⟨trivial, rfl, (low_in x 100 (by omega) (by omega) _).mono ?_⟩
                rintro e w3 ⟨rfl, rfl⟩
                generalize lowI x 100 = y at *
                have hcn := oneInt w3 (3 * y + 2)
                have hmx : m + 1 ≤ maxLen := by unfold maxLen; omega
                have hbs : W2.heap.size ≤ (w3.alloc (.cells #[.int .i64 (3 * y + 2)] 3)).heap.size := (cw3.alloc _).size
                gi_wp2_with (gi_at_builtin; refine wpListIn_append_at _ rfl _ _ 37 rfl W2.heap.size 3 i0 (.int .i64 0) 1 8 Try.underlying37 hi hz0 hz1 hz2 rfl (by decide) _ _ _ rfl (hr3.alloc _) ⟨w3.heap.size, 0, none⟩ 1 1 [.int .i64 (3 * y + 2)] rfl rfl hcn (by simp [Value.oneCell']) hmx (by omega) hbs ?_; intro v' w4 hown' hgrow _ hat; have c1 : Chg No W2 w4 := (cw3.alloc _).grown hgrow (fun k e => .inr (hr3.lt k e).1))
                go_roundw
                case rel => exact ⟨m + 1, hlt, by go_num, by rw [HTk.out, List.map_append]; exact hown', c1⟩
                case measure => simp [intOf]; omega
              · obtain rfl : m = lb := by omega
                have hlt' : ¬ (m : Int) < (m : Int) := by omega
                clear hlt
                rw [List.take_of_length_le (by rw [HLB.out]; exact Nat.le_refl _)] at hr3
                have cW : Chg No w wr := Chg.seq (Chg.seq cw cw2) cw3
                have sB : SlV wr (.slice p7 k c7) ((bl k).map (Value.int .i64)) := ((SlV.ofRow (by simpa [bl_length] using hr)).no cw2).no cw3
                have sA : SlV wr (.slice p8 j c8) ((ll 1 a).map (Value.int .i64)) := (SlV.ofRow (by simpa [ll_length, HLA.out] using hr2)).no cw3
                have sE : SlV wr (.slice p9 m c9) ((ll 2 b).map (Value.int .i64)) := SlV.ofRow (by simpa [ll_length, HLB.out] using hr3)
                have HM := mrg_apart (bl k) (ll 1 a) (ll 2 b) (by intro h; have := bl_length k; rw [h] at this; simp at this; omega) (ll_not k a)
                have L1 : Hid ((bl k).length = k) := bl_length k
                have L2 : Hid ((ll 1 a).length = j) := (ll_length 1 a).trans HLA.out
                have L3 : Hid ((ll 2 b).length = m) := (ll_length 2 b).trans HLB.out
                clear hr hr2 hr3 cw cw2 cw3
                generalize bl k = B at *
                generalize ll 1 a = A at *
                generalize ll 2 b = E at *
                have hn0 : ∀ W : World, W.ownsRow W.heap.size 3 1 (.slice none 0 0) 0 [] := fun W => World.ownsRow_nil _ _ _ _
                gi_wp2_with (first
                  | (gi_at_builtin; refine I.wpListIn_append_sv _ rfl _ _ rfl wr.heap.size _ 0 _ rfl (hn0 wr) p8 j c8 A rfl sA (by omega) (Nat.le_refl _) ?_; intro v1 X1 own1 grow1 hat1; rw [Nat.zero_add, List.nil_append] at own1; have d1 : Chg No wr X1 := (Chg.refl _ wr).grown grow1 (fun k e => by cases e); obtain ⟨e1, f1, rfl⟩ := row_slice own1; have sB1 := sB.no d1)
                  | (gi_at_builtin; refine I.wpListIn_append_sv _ rfl _ _ rfl wr.heap.size _ j _ rfl own1 p7 k c7 B rfl sB1 (by omega) d1.size ?_; intro v2 X2 own2 grow2 hat2; rw [← List.map_append] at own2; have d2 : Chg No wr X2 := d1.grown grow2 (fun k e => .inr (own1.lt k e).1); obtain ⟨e2, f2, rfl⟩ := row_slice own2; have sX2 : SlV X2 (.slice e2 (j + k) f2) ((A ++ B).map (Value.int .i64)) := SlV.ofRow (by rw [List.length_map, List.length_append, L1.out, L2.out]; exact own2); have sB2 := sB.no d2; have sE2 := sE.no d2)
                  | (gi_at_builtin; refine I.wpListIn_append_sv _ rfl _ _ rfl X2.heap.size _ 0 _ rfl (hn0 X2) p7 k c7 B rfl sB2 (by omega) (Nat.le_refl _) ?_; intro v3 X3 own3 grow3 hat3; rw [Nat.zero_add, List.nil_append] at own3; have d3 : Chg No X2 X3 := (Chg.refl _ X2).grown grow3 (fun k e => by cases e); obtain ⟨e3, f3, rfl⟩ := row_slice own3; have sE3 := sE2.no d3)
                  | (gi_at_builtin; refine I.wpListIn_append_sv _ rfl _ _ rfl X2.heap.size _ k _ rfl own3 p9 m c9 E rfl sE3 (by omega) d3.size ?_; intro v4 X4 own4 grow4 hat4; rw [← List.map_append] at own4; have d4 : Chg No X2 X4 := d3.grown grow4 (fun k e => .inr (own3.lt k e).1); obtain ⟨e4, f4, rfl⟩ := row_slice own4; have sY4 : SlV X4 (.slice e4 (k + m) f4) ((B ++ E).map (Value.int .i64)) := SlV.ofRow (by rw [List.length_map, List.length_append, L1.out, L3.out]; exact own4); have sX4 := sX2.no d4; have sE4 := sE2.no d4)
                  | (gi_at_builtin; refine I.wpListIn_append_sv _ rfl _ _ rfl X4.heap.size _ 0 _ rfl (hn0 X4) e2 (j + k) f2 (A ++ B) rfl sX4 (by omega) (Nat.le_refl _) ?_; intro v5 X5 own5 grow5 hat5; rw [Nat.zero_add, List.nil_append] at own5; have d5 : Chg No X4 X5 := (Chg.refl _ X4).grown grow5 (fun k e => by cases e); obtain ⟨e5, f5, rfl⟩ := row_slice own5; have sE5 := sE4.no d5)
                  | (gi_at_builtin; refine I.wpListIn_append_sv _ rfl _ _ rfl X4.heap.size _ (j + k) _ rfl own5 p9 m c9 E rfl sE5 (by omega) d5.size ?_; intro v6 X6 own6 grow6 hat6; rw [← List.map_append] at own6; have d6 : Chg No X4 X6 := d5.grown grow6 (fun k e => .inr (own5.lt k e).1); obtain ⟨e6, f6, rfl⟩ := row_slice own6; have sW6 : SlV X6 (.slice e6 (j + k + m) f6) ((A ++ B ++ E).map (Value.int .i64)) := SlV.ofRow (by rw [List.length_map, List.length_append, List.length_append, L1.out, L2.out, L3.out]; exact own6))
                  | fail)
                have sX6 := sX4.no d6
                have sY6 := sY4.no d6
                have sB6 := (sB2.no d4).no d6
                have cX6 : Chg No w X6 := Chg.seq (Chg.seq (Chg.seq cW d2) d4) d6
                have hM := mergeI_tells _ _ _ B (A ++ B) (B ++ E) X6 sB6 sX6 sY6 (by rw [L1.out]; omega) (by rw [List.length_append, L1.out, L2.out]; omega) (by rw [List.length_append, L1.out, L3.out]; omega)
                rw [HM] at hM
                refine ⟨trivial, rfl, hM.mono ?_⟩
                rintro e Y1 ⟨pm, nm, cm, rfl, sM, k1⟩
                simp only [Option.isSome_some, Option.getD_some] at sM ⊢
                gi_wp2_with fail
                refine ⟨trivial, rfl, (sameI_in _ _ _ _ _ sM (sW6.no k1)).mono ?_⟩
                rintro e Y2 ⟨rfl, k2⟩
                rw [decide_eq_true rfl]
                gi_wp2_with fail
                refine ⟨trivial, rfl, (awake_in _).mono ?_⟩
                rintro e Y3 ⟨rfl, k3⟩
                gi_wp2
                go_ret
                exact ⟨rfl, Chg.seq (Chg.seq (Chg.seq cX6 k1) k2) k3⟩

end Go.Proofs.Ytfpceedjkmkidaa
