/-
  TextLines answers true at every bool and two numbers, and turns nothing that lay.
-/
import Derived.Test.YtookalebfbkedaaXAwake
import Derived.Test.YtookalebfbkedaaLow
import Derived.Test.YtookalebfbkedaaLineR
import Derived.Test.YtookalebfbkedaaXLinesL
namespace Go.Proofs.Ytookalebfbkedaa
open Go.RowKit Go.Shelf Go.SeqLib Go.LineLib Go.DiffLib Go.TextLib Go.BigFrame
attribute [local go_sem] Oper.semAt_some

theorem letter_nat {i : Nat} (h : i < 26) : (letter i).toNat = 65 + i := by
  unfold letter
  rw [UInt8.toNat_ofNat']
  omega
theorem letter_cells {i : Nat} (h : i < 26) : Lib.strCells (T [letter i]) = [.int .u8 (65 + (i : Int))] := by
  show [Value.int .u8 ((letter i).toNat : Int)] = _
  rw [letter_nat h]
  rfl
theorem wrap_i64 {i : Nat} (h : i < 26) : IntKind.i64.wrap (65 + (i : Int)) = 65 + (i : Int) := by
  simp only [IntKind.wrap, IntKind.signed, IntKind.bits]
  simp
  omega
theorem wrap_u8 {i : Nat} (h : i < 26) : IntKind.u8.wrap (65 + (i : Int)) = 65 + (i : Int) := by
  simp only [IntKind.wrap, IntKind.signed, IntKind.bits]
  simp
  omega
theorem letter_ln (i : Nat) : T [letter i] ++ ⟨#[10]⟩ = ln (letter i) := rfl

/-- What the k-th operation leaves, of the six that make a line of a number, from the b-th on. -/
def need (b i k : Nat) (v : Value) (W : World) : Prop :=
  (k = b → v = .int .i64 (i : Int)) ∧ (k = b + 1 → v = .int .i64 (65 + (i : Int))) ∧ (k = b + 2 → v = .int .u8 (65 + (i : Int))) ∧
  (k = b + 3 → ∃ g, v = .slice (some ⟨g, 0, none⟩) 1 1 ∧ W.heap[g]? = some (.cells #[.int .u8 (65 + (i : Int))] 5)) ∧
  (k = b + 4 → v = .string (T [letter i])) ∧ (k = b + 5 → v = .string (ln (letter i)))
theorem need.no {b i k : Nat} {v : Value} {W W' : World} (h : need b i k v W) (c : Chg No W W') : need b i k v W' :=
  ⟨h.1, h.2.1, h.2.2.1, fun e => by obtain ⟨g, h1, h2⟩ := h.2.2.2.1 e; exact ⟨g, h1, c.same h2 (fun h => h)⟩, h.2.2.2.2⟩
theorem need.other {b i k : Nat} {v : Value} {W : World} (h : k < b ∨ b + 5 < k) : need b i k v W :=
  ⟨fun e => by omega, fun e => by omega, fun e => by omega, fun e => by omega, fun e => by omega, fun e => by omega⟩
structure LInv (W0 : World) (i j : Nat) (d : Nat → Bool) (u : Nat → Value) (W : World) : Prop where
  chg : Chg No W0 W
  one : ∀ k, d k = true → need 1 i k (u k) W
  two : ∀ k, d k = true → need 8 j k (u k) W
theorem LInv.step {W0 W W' : World} {i j : Nat} {d : Nat → Bool} {u : Nat → Value} (h : LInv W0 i j d u W) (k : Nat) (v : Value) (c : Chg No W W') (h1 : need 1 i k v W') (h2 : need 8 j k v W') :
    LInv W0 i j (fun n => if n = k then true else d n) (fun n => if n = k then v else u n) W' := by
  refine ⟨Chg.seq h.chg c, fun n hn => ?_, fun n hn => ?_⟩
  · by_cases e : n = k
    · subst e; simpa using h1
    · simp only [if_neg e] at hn ⊢; exact (h.one n hn).no c
  · by_cases e : n = k
    · subst e; simpa using h2
    · simp only [if_neg e] at hn ⊢; exact (h.two n hn).no c

set_option maxRecDepth 100000 in
set_option maxHeartbeats 4000000 in
theorem lines_law (far : Bool) (x y : Int) (w : World) :
    CallsIn Fence.wide 0 Try.prog 6 #[.bool far, .int .i64 x, .int .i64 y] w fun e w' => e = .returned (.bool true) ∧ Chg No w w' := by
  have hmix : Try.prog.follows .mixedOrders = true := by kernel_rfl
  have hl1 := low_in x 26 (by omega) (by omega)
  have hl2 := low_in y 26 (by omega) (by omega)
  obtain ⟨lo1, hi1⟩ := lowI_range x 26 (by omega) (by omega)
  obtain ⟨lo2, hi2⟩ := lowI_range y 26 (by omega) (by omega)
  obtain ⟨i, hi⟩ : ∃ k : Nat, lowI x 26 = (k : Int) := ⟨_, (Int.toNat_of_nonneg lo1).symm⟩
  obtain ⟨j, hj⟩ : ∃ k : Nat, lowI y 26 = (k : Int) := ⟨_, (Int.toNat_of_nonneg lo2).symm⟩
  rw [hi] at hl1 lo1 hi1
  rw [hj] at hl2 lo2 hi2
  clear hi hj
  refine callsIn_of_wp Try.func6 rfl trivial ?_
  simp only [Try.ntmps6, List.size_toArray, List.length_cons, List.length_nil, Nat.reduceAdd, Nat.reduceSub, Array.replicate_succ, Array.replicate_zero, List.push_toArray, List.append_toArray, List.nil_append, List.cons_append]
  gi_wp2
  have c0 : Chg No w (w.alloc (.cells #[.string (ln 97), .string (ln 98), .string (ln 99), .string (ln 100), .string (ln 101)] 9)) := (Chg.refl _ w).alloc _
  have hblk := World.alloc_heap_new w (.cells #[.string (ln 97), .string (ln 98), .string (ln 99), .string (ln 100), .string (ln 101)] 9)
  change Chg No w (w.alloc (.cells #[.string ⟨#[97, 10]⟩, .string ⟨#[98, 10]⟩, .string ⟨#[99, 10]⟩, .string ⟨#[100, 10]⟩, .string ⟨#[101, 10]⟩] 9)) at c0
  change (w.alloc (.cells #[.string ⟨#[97, 10]⟩, .string ⟨#[98, 10]⟩, .string ⟨#[99, 10]⟩, .string ⟨#[100, 10]⟩, .string ⟨#[101, 10]⟩] 9)).heap[w.heap.size]? = _ at hblk
  generalize w.alloc (.cells #[.string ⟨#[97, 10]⟩, .string ⟨#[98, 10]⟩, .string ⟨#[99, 10]⟩, .string ⟨#[100, 10]⟩, .string ⟨#[101, 10]⟩] 9) = W0 at *
  have hi1' : i < 26 := by omega
  have hi2' : j < 26 := by omega
  refine region_loudE (fun i => i == 1 || i == 2 || i == 3 || i == 4 || i == 5 || i == 6 || i == 8 || i == 9 || i == 10 || i == 11 || i == 12 || i == 13) (fun w' => ∃ c : After W0, w' = c.val) (LInv W0 i j) hmix (by kernel_rfl) (by kernel_rfl) (fun d u W h => ⟨⟨W, h.chg⟩, rfl⟩) (fun u => ?_) (fun u => ?_)
  · exact ⟨(Chg.refl _ W0).drew, fun _ h => by simp at h, fun _ h => by simp at h⟩
  simp only [hushE, Nat.reduceAdd, Nat.reduceBEq, Bool.or_self, Bool.or_true, Bool.or_false, if_true, if_false, Bool.false_eq_true]
  have hany := After.any W0
  repeat (gi_big_quiet_step (fail))
  refine wpQuietIn_nil ⟨?_, ?_⟩
  · intro k o d W ho hm hd hwt hI
    simp only [Bool.or_eq_true, beq_iff_eq] at hm
    rcases hm with ((((((((((rfl | rfl) | rfl) | rfl) | rfl) | rfl) | rfl) | rfl) | rfl) | rfl) | rfl) | rfl
    · cases ho
      refine LeadsV.call (f := 12) (args := #[.int .i64 x, .int .i64 26]) (by simp [go_sem]) ((hl1 W).mono ?_)
      rintro e W' ⟨rfl, rfl⟩
      exact ⟨_, rfl, hI.step 1 _ (Chg.refl _ _) ⟨fun _ => rfl, by omega, by omega, by omega, by omega, by omega⟩ (need.other (by omega))⟩
    · cases ho
      have e1 := (hI.one 1 (hwt 1 rfl (by kernel_rfl))).1 rfl
      refine LeadsV.value (v := .int .i64 (65 + (i : Int))) (w' := W) ?_ (hI.step 2 _ (Chg.refl _ _) ⟨by omega, fun _ => rfl, by omega, by omega, by omega, by omega⟩ (need.other (by omega)))
      simp [execOp, go_sem, e1, wrap_i64 hi1']
    · cases ho
      have e1 := (hI.one 2 (hwt 2 rfl (by kernel_rfl))).2.1 rfl
      refine LeadsV.value (v := .int .u8 (65 + (i : Int))) (w' := W) ?_ (hI.step 3 _ (Chg.refl _ _) ⟨by omega, by omega, fun _ => rfl, by omega, by omega, by omega⟩ (need.other (by omega)))
      simp [execOp, go_sem, e1, wrap_u8 hi1']
    · cases ho
      have e1 := (hI.one 3 (hwt 3 rfl (by kernel_rfl))).2.2.1 rfl
      refine LeadsV.value (v := .slice (some ⟨W.heap.size, 0, none⟩) 1 1) (w' := W.alloc (.cells #[.int .u8 (65 + (i : Int))] 5)) ?_ (hI.step 4 _ ((Chg.refl _ _).alloc _) ⟨by omega, by omega, by omega, fun _ => ⟨_, rfl, World.alloc_heap_new _ _⟩, by omega, by omega⟩ (need.other (by omega)))
      simp [execOp, go_sem, e1]
    · cases ho
      obtain ⟨g, e1, e2⟩ := (hI.one 4 (hwt 4 rfl (by kernel_rfl))).2.2.2.1 rfl
      have hrun := run_bytes_text (w := W) (base := 0) (p := some ⟨g, 0, none⟩) (n := 1) (cap := 1) (t := T [letter i]) ⟨rfl, .inr ⟨g, 1, _, rfl, Nat.zero_le _, e2, Nat.le_refl _, by decide, rfl, by rw [letter_cells hi1']; rfl⟩⟩ rfl
      refine LeadsV.value (v := .string (T [letter i])) (w' := W) ?_ (hI.step 5 _ (Chg.refl _ _) ⟨by omega, by omega, by omega, by omega, fun _ => rfl, by omega⟩ (need.other (by omega)))
      simp [execOp, go_sem, e1, hrun]
    · cases ho
      have e1 := (hI.one 5 (hwt 5 rfl (by kernel_rfl))).2.2.2.2.1 rfl
      refine LeadsV.value (v := .string (ln (letter i))) (w' := W) ?_ (hI.step 6 _ (Chg.refl _ _) ⟨by omega, by omega, by omega, by omega, by omega, fun _ => rfl⟩ (need.other (by omega)))
      simp [execOp, go_sem, e1, letter_ln]
    · cases ho
      refine LeadsV.call (f := 12) (args := #[.int .i64 y, .int .i64 26]) (by simp [go_sem]) ((hl2 W).mono ?_)
      rintro e W' ⟨rfl, rfl⟩
      exact ⟨_, rfl, hI.step 8 _ (Chg.refl _ _) (need.other (by omega)) ⟨fun _ => rfl, by omega, by omega, by omega, by omega, by omega⟩⟩
    · cases ho
      have e1 := (hI.two 8 (hwt 8 rfl (by kernel_rfl))).1 rfl
      refine LeadsV.value (v := .int .i64 (65 + (j : Int))) (w' := W) ?_ (hI.step 9 _ (Chg.refl _ _) (need.other (by omega)) ⟨by omega, fun _ => rfl, by omega, by omega, by omega, by omega⟩)
      simp [execOp, go_sem, e1, wrap_i64 hi2']
    · cases ho
      have e1 := (hI.two 9 (hwt 9 rfl (by kernel_rfl))).2.1 rfl
      refine LeadsV.value (v := .int .u8 (65 + (j : Int))) (w' := W) ?_ (hI.step 10 _ (Chg.refl _ _) (need.other (by omega)) ⟨by omega, by omega, fun _ => rfl, by omega, by omega, by omega⟩)
      simp [execOp, go_sem, e1, wrap_u8 hi2']
    · cases ho
      have e1 := (hI.two 10 (hwt 10 rfl (by kernel_rfl))).2.2.1 rfl
      refine LeadsV.value (v := .slice (some ⟨W.heap.size, 0, none⟩) 1 1) (w' := W.alloc (.cells #[.int .u8 (65 + (j : Int))] 5)) ?_ (hI.step 11 _ ((Chg.refl _ _).alloc _) (need.other (by omega)) ⟨by omega, by omega, by omega, fun _ => ⟨_, rfl, World.alloc_heap_new _ _⟩, by omega, by omega⟩)
      simp [execOp, go_sem, e1]
    · cases ho
      obtain ⟨g, e1, e2⟩ := (hI.two 11 (hwt 11 rfl (by kernel_rfl))).2.2.2.1 rfl
      have hrun := run_bytes_text (w := W) (base := 0) (p := some ⟨g, 0, none⟩) (n := 1) (cap := 1) (t := T [letter j]) ⟨rfl, .inr ⟨g, 1, _, rfl, Nat.zero_le _, e2, Nat.le_refl _, by decide, rfl, by rw [letter_cells hi2']; rfl⟩⟩ rfl
      refine LeadsV.value (v := .string (T [letter j])) (w' := W) ?_ (hI.step 12 _ (Chg.refl _ _) (need.other (by omega)) ⟨by omega, by omega, by omega, by omega, fun _ => rfl, by omega⟩)
      simp [execOp, go_sem, e1, hrun]
    · cases ho
      have e1 := (hI.two 12 (hwt 12 rfl (by kernel_rfl))).2.2.2.2.1 rfl
      refine LeadsV.value (v := .string (ln (letter j))) (w' := W) ?_ (hI.step 13 _ (Chg.refl _ _) (need.other (by omega)) ⟨by omega, by omega, by omega, by omega, by omega, fun _ => rfl⟩)
      simp [execOp, go_sem, e1, letter_ln]
  · intro d W hall hI
    have e1 := (hI.one 6 (hall 6 rfl (by decide))).2.2.2.2.2 rfl
    have e2 := (hI.two 13 (hall 13 rfl (by decide))).2.2.2.2.2 rfl
    have c1 := hI.chg
    rw [e1, e2]
    clear hI hall e1 e2 hany
    generalize u 1 = u1
    generalize u 2 = u2
    generalize u 3 = u3
    generalize u 4 = u4
    generalize u 5 = u5
    generalize u 8 = u8
    generalize u 9 = u9
    generalize u 10 = u10
    generalize u 11 = u11
    generalize u 12 = u12
    have hb := c1.same hblk (fun h => h)
    have c2 := Chg.seq c0 c1
    have hcell : ∀ k v, (#[.string (ln 97), .string (ln 98), .string (ln 99), .string (ln 100), .string (ln 101)] : Array Value)[k]? = some v → W.cell? ⟨w.heap.size, k, none⟩ = some v := fun k v hk => by
      simp only [World.cell?, hb]
      simpa using hk
    clear hblk c0 c1 hb hl1 hl2 lo1 lo2 hi1 hi2
    obtain ⟨ol, Hos⟩ : ∃ l, Hid (l = [97, 98, 99, 100, 101].map ln) := ⟨_, rfl⟩
    obtain ⟨al, Has⟩ : ∃ l, Hid (l = [97, letter i, 99, 100, 101].map ln) := ⟨_, rfl⟩
    cases far with
    | true =>
      obtain ⟨bl, Hbs⟩ : ∃ l, Hid (l = [97, 98, 99, letter j, 101].map ln) := ⟨_, rfl⟩
      obtain ⟨wl, Hws⟩ : ∃ l, Hid (l = [97, letter i, 99, letter j, 101].map ln) := ⟨_, rfl⟩
      have HM : Hid (tm (catB (ol.take 5)) (catB (al.take 5)) (catB (bl.take 5)) = some (catB (wl.take 5))) := by
        rw [Hos.out, Has.out, Hbs.out, Hws.out]
        exact tm_far hi1' hi2'
      have HS : Hid ((catB (ol.take 5)).size ≤ 100000 ∧ (catB (al.take 5)).size ≤ 100000 ∧ (catB (bl.take 5)).size ≤ 100000) := by
        rw [Hos.out, Has.out, Hbs.out]
        refine ⟨?_, ?_, ?_⟩
        · exact Nat.le_trans (Nat.le_of_eq (letters_size [97, 98, 99, 100, 101])) (by decide)
        · exact Nat.le_trans (Nat.le_of_eq (letters_size [97, letter i, 99, 100, 101])) (show 2 * 5 ≤ 100000 by decide)
        · exact Nat.le_trans (Nat.le_of_eq (letters_size [97, 98, 99, letter j, 101])) (show 2 * 5 ≤ 100000 by decide)
      have M := tmerge_in _ _ _ HS.out.1 HS.out.2.1 HS.out.2.2
      rw [HM.out] at M
      clear HM HS
      have HL : Hid (∀ k, k < 5 → ∃ x, x.size ≤ 100 ∧ W.cell? ⟨w.heap.size, k, none⟩ = some (.string x) ∧ ol[k]? = some x ∧ al[k]? = some (if k = 1 then ln (letter i) else x) ∧ bl[k]? = some (if k = 3 then ln (letter j) else x) ∧ wl[k]? = some (if k = 3 then ln (letter j) else if k = 1 then ln (letter i) else x)) := by
        rw [Hos.out, Has.out, Hbs.out, Hws.out]
        intro k hk
        rcases k with _ | _ | _ | _ | _ | k
        · exact ⟨ln 97, (show 2 ≤ 100 by decide), hcell 0 _ rfl, rfl, rfl, rfl, rfl⟩
        · exact ⟨ln 98, (show 2 ≤ 100 by decide), hcell 1 _ rfl, rfl, rfl, rfl, rfl⟩
        · exact ⟨ln 99, (show 2 ≤ 100 by decide), hcell 2 _ rfl, rfl, rfl, rfl, rfl⟩
        · exact ⟨ln 100, (show 2 ≤ 100 by decide), hcell 3 _ rfl, rfl, rfl, rfl, rfl⟩
        · exact ⟨ln 101, (show 2 ≤ 100 by decide), hcell 4 _ rfl, rfl, rfl, rfl, rfl⟩
        · omega
      have HB : Hid (∀ k, (catB (ol.take k)).size ≤ 100 ∧ (catB (al.take k)).size ≤ 100 ∧ (catB (bl.take k)).size ≤ 100 ∧ (catB (wl.take k)).size ≤ 100) := by
        rw [Hos.out, Has.out, Hbs.out, Hws.out]
        intro k
        refine ⟨?_, ?_, ?_, ?_⟩
        · exact Nat.le_trans (catB_le _ k) (Nat.le_trans (Nat.le_of_eq (letters_size _)) (show 2 * 5 ≤ 100 by decide))
        · exact Nat.le_trans (catB_le _ k) (Nat.le_trans (Nat.le_of_eq (letters_size _)) (show 2 * 5 ≤ 100 by decide))
        · exact Nat.le_trans (catB_le _ k) (Nat.le_trans (Nat.le_of_eq (letters_size _)) (show 2 * 5 ≤ 100 by decide))
        · exact Nat.le_trans (catB_le _ k) (Nat.le_trans (Nat.le_of_eq (letters_size _)) (show 2 * 5 ≤ 100 by decide))
      have hls : (ln (letter i)).size ≤ 100 := show 2 ≤ 100 by decide
      have hrs : (ln (letter j)).size ≤ 100 := show 2 ≤ 100 by decide
      clear Hos Has Hbs Hws hcell
      generalize ln (letter i) = left at *
      generalize ln (letter j) = right at *
      gi_wp2
      gi_loopw [11, 12, 13, 14, 15] (fun v1 v2 v3 v4 v5 wr => ∃ k : Nat, k ≤ 5 ∧ v5 = .int .i64 (k : Int) ∧ v1 = .string (catB (ol.take k)) ∧ v2 = .string (catB (al.take k)) ∧ v3 = .string (catB (bl.take k)) ∧ v4 = .string (catB (wl.take k)) ∧ Chg No W wr) (fun v1 v2 v3 v4 v5 _ => 5 - (intOf v5).toNat)
      case atStart => exact ⟨0, Nat.zero_le _, rfl, rfl, rfl, rfl, rfl, Chg.refl _ _⟩
      case round =>
        obtain ⟨k, hk, rfl, rfl, rfl, rfl, rfl, cw⟩ := hrel
        by_cases hlt : k < 5
        · have hlt' : (k : Int) < 5 := by omega
          obtain ⟨z, hzs, hz, x1, x2, x3, x4⟩ := HL.out k hlt
          obtain ⟨n1, n2, n3, n4⟩ := HB.out k
          have hz' : wr.cell? ⟨w.heap.size, k, none⟩ = some (.string z) := (After.mk wr cw).cell hz
          have H1 : Hid (catB (ol.take k) ++ z = catB (ol.take (k + 1))) := catB_add x1
          have B2 := catB_add x2
          have B3 := catB_add x3
          have B4 := catB_add x4
          clear x1 x2 x3 x4 hz
          by_cases h1 : k = 1
          · have e1 : ((k : Int) == 1) = true := by rw [h1]; rfl
            have h3 : ¬ k = 3 := by omega
            have e3 : ((k : Int) == 3) = false := by rw [h1]; rfl
            rw [if_pos h1] at B2
            rw [if_neg h3] at B3
            rw [if_neg h3, if_pos h1] at B4
            have H2 : Hid (catB (al.take k) ++ left = catB (al.take (k + 1))) := B2
            have H3 : Hid (catB (bl.take k) ++ z = catB (bl.take (k + 1))) := B3
            have H4 : Hid (catB (wl.take k) ++ left = catB (wl.take (k + 1))) := B4
            clear B2 B3 B4 h1 h3
            generalize catB (ol.take k) = s1 at *
            generalize catB (al.take k) = s2 at *
            generalize catB (bl.take k) = s3 at *
            generalize catB (wl.take k) = s4 at *
            gi_wp2
            gi_big_quiet_th_o (fail)
            gi_wp2
            go_roundw
            case rel => exact ⟨k + 1, hlt, by go_num, by rw [← H1.out], by rw [← H2.out], by rw [← H3.out], by rw [← H4.out], drewNC cw _⟩
            case measure => simp [intOf]; omega
          · have e1 : ((k : Int) == 1) = false := by rw [beq_eq_false_iff_ne]; omega
            rw [if_neg h1] at B2 B4
            have H2 : Hid (catB (al.take k) ++ z = catB (al.take (k + 1))) := B2
            clear B2 h1
            by_cases h3 : k = 3
            · have e3 : ((k : Int) == 3) = true := by rw [h3]; rfl
              rw [if_pos h3] at B3 B4
              have H3 : Hid (catB (bl.take k) ++ right = catB (bl.take (k + 1))) := B3
              have H4 : Hid (catB (wl.take k) ++ right = catB (wl.take (k + 1))) := B4
              clear B3 B4 h3
              generalize catB (ol.take k) = s1 at *
              generalize catB (al.take k) = s2 at *
              generalize catB (bl.take k) = s3 at *
              generalize catB (wl.take k) = s4 at *
              gi_wp2
              gi_big_quiet_th_o (fail)
              gi_wp2
              go_roundw
              case rel => exact ⟨k + 1, hlt, by go_num, by rw [← H1.out], by rw [← H2.out], by rw [← H3.out], by rw [← H4.out], drewNC cw _⟩
              case measure => simp [intOf]; omega
            · have e3 : ((k : Int) == 3) = false := by rw [beq_eq_false_iff_ne]; omega
              rw [if_neg h3] at B3 B4
              have H3 : Hid (catB (bl.take k) ++ z = catB (bl.take (k + 1))) := B3
              have H4 : Hid (catB (wl.take k) ++ z = catB (wl.take (k + 1))) := B4
              clear B3 B4 h3
              generalize catB (ol.take k) = s1 at *
              generalize catB (al.take k) = s2 at *
              generalize catB (bl.take k) = s3 at *
              generalize catB (wl.take k) = s4 at *
              gi_wp2
              gi_big_quiet_th_o (fail)
              gi_wp2
              go_roundw
              case rel => exact ⟨k + 1, hlt, by go_num, by rw [← H1.out], by rw [← H2.out], by rw [← H3.out], by rw [← H4.out], drewNC cw _⟩
              case measure => simp [intOf]; omega
        · obtain rfl : k = 5 := by omega
          generalize catB (ol.take 5) = s1 at *
          generalize catB (al.take 5) = s2 at *
          generalize catB (bl.take 5) = s3 at *
          generalize catB (wl.take 5) = s4 at *
          have ht : txt (some s4) = s4 := rfl
          have hs : (some s4).isSome = true := rfl
          rw [ht, hs] at M
          have q := eqT_true (rfl : s4 = s4)
          clear ht hs
          gi_wp2_with fail
          refine ⟨trivial, rfl, (M _).mono ?_⟩
          rintro e w5 ⟨rfl, c5⟩
          gi_wp2_with fail
          refine ⟨trivial, rfl, (awake_in _).mono ?_⟩
          rintro e w6 ⟨rfl, c6⟩
          gi_wp2
          go_ret
          exact ⟨rfl, Chg.seq (Chg.seq c2 cw) (Chg.seq c5 c6)⟩
    | false =>
      obtain ⟨bl, Hbs⟩ : ∃ l, Hid (l = [97, 98, letter j, 100, 101].map ln) := ⟨_, rfl⟩
      obtain ⟨wl, Hws⟩ : ∃ l, Hid (l = [97, letter i, letter j, 100, 101].map ln) := ⟨_, rfl⟩
      have HM : Hid (tm (catB (ol.take 5)) (catB (al.take 5)) (catB (bl.take 5)) = none) := by
        rw [Hos.out, Has.out, Hbs.out]
        exact tm_near hi1' hi2'
      have HS : Hid ((catB (ol.take 5)).size ≤ 100000 ∧ (catB (al.take 5)).size ≤ 100000 ∧ (catB (bl.take 5)).size ≤ 100000) := by
        rw [Hos.out, Has.out, Hbs.out]
        refine ⟨?_, ?_, ?_⟩
        · exact Nat.le_trans (Nat.le_of_eq (letters_size [97, 98, 99, 100, 101])) (by decide)
        · exact Nat.le_trans (Nat.le_of_eq (letters_size [97, letter i, 99, 100, 101])) (show 2 * 5 ≤ 100000 by decide)
        · exact Nat.le_trans (Nat.le_of_eq (letters_size [97, 98, letter j, 100, 101])) (show 2 * 5 ≤ 100000 by decide)
      have M := tmerge_in _ _ _ HS.out.1 HS.out.2.1 HS.out.2.2
      rw [HM.out] at M
      clear HM HS
      have HL : Hid (∀ k, k < 5 → ∃ x, x.size ≤ 100 ∧ W.cell? ⟨w.heap.size, k, none⟩ = some (.string x) ∧ ol[k]? = some x ∧ al[k]? = some (if k = 1 then ln (letter i) else x) ∧ bl[k]? = some (if k = 2 then ln (letter j) else x) ∧ wl[k]? = some (if k = 2 then ln (letter j) else if k = 1 then ln (letter i) else x)) := by
        rw [Hos.out, Has.out, Hbs.out, Hws.out]
        intro k hk
        rcases k with _ | _ | _ | _ | _ | k
        · exact ⟨ln 97, (show 2 ≤ 100 by decide), hcell 0 _ rfl, rfl, rfl, rfl, rfl⟩
        · exact ⟨ln 98, (show 2 ≤ 100 by decide), hcell 1 _ rfl, rfl, rfl, rfl, rfl⟩
        · exact ⟨ln 99, (show 2 ≤ 100 by decide), hcell 2 _ rfl, rfl, rfl, rfl, rfl⟩
        · exact ⟨ln 100, (show 2 ≤ 100 by decide), hcell 3 _ rfl, rfl, rfl, rfl, rfl⟩
        · exact ⟨ln 101, (show 2 ≤ 100 by decide), hcell 4 _ rfl, rfl, rfl, rfl, rfl⟩
        · omega
      have HB : Hid (∀ k, (catB (ol.take k)).size ≤ 100 ∧ (catB (al.take k)).size ≤ 100 ∧ (catB (bl.take k)).size ≤ 100 ∧ (catB (wl.take k)).size ≤ 100) := by
        rw [Hos.out, Has.out, Hbs.out, Hws.out]
        intro k
        refine ⟨?_, ?_, ?_, ?_⟩
        · exact Nat.le_trans (catB_le _ k) (Nat.le_trans (Nat.le_of_eq (letters_size _)) (show 2 * 5 ≤ 100 by decide))
        · exact Nat.le_trans (catB_le _ k) (Nat.le_trans (Nat.le_of_eq (letters_size _)) (show 2 * 5 ≤ 100 by decide))
        · exact Nat.le_trans (catB_le _ k) (Nat.le_trans (Nat.le_of_eq (letters_size _)) (show 2 * 5 ≤ 100 by decide))
        · exact Nat.le_trans (catB_le _ k) (Nat.le_trans (Nat.le_of_eq (letters_size _)) (show 2 * 5 ≤ 100 by decide))
      have hls : (ln (letter i)).size ≤ 100 := show 2 ≤ 100 by decide
      have hrs : (ln (letter j)).size ≤ 100 := show 2 ≤ 100 by decide
      clear Hos Has Hbs Hws hcell
      generalize ln (letter i) = left at *
      generalize ln (letter j) = right at *
      gi_wp2
      gi_loopw [11, 12, 13, 14, 15] (fun v1 v2 v3 v4 v5 wr => ∃ k : Nat, k ≤ 5 ∧ v5 = .int .i64 (k : Int) ∧ v1 = .string (catB (ol.take k)) ∧ v2 = .string (catB (al.take k)) ∧ v3 = .string (catB (bl.take k)) ∧ v4 = .string (catB (wl.take k)) ∧ Chg No W wr) (fun v1 v2 v3 v4 v5 _ => 5 - (intOf v5).toNat)
      case atStart => exact ⟨0, Nat.zero_le _, rfl, rfl, rfl, rfl, rfl, Chg.refl _ _⟩
      case round =>
        obtain ⟨k, hk, rfl, rfl, rfl, rfl, rfl, cw⟩ := hrel
        by_cases hlt : k < 5
        · have hlt' : (k : Int) < 5 := by omega
          obtain ⟨z, hzs, hz, x1, x2, x3, x4⟩ := HL.out k hlt
          obtain ⟨n1, n2, n3, n4⟩ := HB.out k
          have hz' : wr.cell? ⟨w.heap.size, k, none⟩ = some (.string z) := (After.mk wr cw).cell hz
          have H1 : Hid (catB (ol.take k) ++ z = catB (ol.take (k + 1))) := catB_add x1
          have B2 := catB_add x2
          have B3 := catB_add x3
          have B4 := catB_add x4
          clear x1 x2 x3 x4 hz
          by_cases h1 : k = 1
          · have e1 : ((k : Int) == 1) = true := by rw [h1]; rfl
            have h3 : ¬ k = 2 := by omega
            have e3 : ((k : Int) == 2) = false := by rw [h1]; rfl
            rw [if_pos h1] at B2
            rw [if_neg h3] at B3
            rw [if_neg h3, if_pos h1] at B4
            have H2 : Hid (catB (al.take k) ++ left = catB (al.take (k + 1))) := B2
            have H3 : Hid (catB (bl.take k) ++ z = catB (bl.take (k + 1))) := B3
            have H4 : Hid (catB (wl.take k) ++ left = catB (wl.take (k + 1))) := B4
            clear B2 B3 B4 h1 h3
            generalize catB (ol.take k) = s1 at *
            generalize catB (al.take k) = s2 at *
            generalize catB (bl.take k) = s3 at *
            generalize catB (wl.take k) = s4 at *
            gi_wp2
            gi_big_quiet_th_o (fail)
            gi_wp2
            go_roundw
            case rel => exact ⟨k + 1, hlt, by go_num, by rw [← H1.out], by rw [← H2.out], by rw [← H3.out], by rw [← H4.out], drewNC cw _⟩
            case measure => simp [intOf]; omega
          · have e1 : ((k : Int) == 1) = false := by rw [beq_eq_false_iff_ne]; omega
            rw [if_neg h1] at B2 B4
            have H2 : Hid (catB (al.take k) ++ z = catB (al.take (k + 1))) := B2
            clear B2 h1
            by_cases h3 : k = 2
            · have e3 : ((k : Int) == 2) = true := by rw [h3]; rfl
              rw [if_pos h3] at B3 B4
              have H3 : Hid (catB (bl.take k) ++ right = catB (bl.take (k + 1))) := B3
              have H4 : Hid (catB (wl.take k) ++ right = catB (wl.take (k + 1))) := B4
              clear B3 B4 h3
              generalize catB (ol.take k) = s1 at *
              generalize catB (al.take k) = s2 at *
              generalize catB (bl.take k) = s3 at *
              generalize catB (wl.take k) = s4 at *
              gi_wp2
              gi_big_quiet_th_o (fail)
              gi_wp2
              go_roundw
              case rel => exact ⟨k + 1, hlt, by go_num, by rw [← H1.out], by rw [← H2.out], by rw [← H3.out], by rw [← H4.out], drewNC cw _⟩
              case measure => simp [intOf]; omega
            · have e3 : ((k : Int) == 2) = false := by rw [beq_eq_false_iff_ne]; omega
              rw [if_neg h3] at B3 B4
              have H3 : Hid (catB (bl.take k) ++ z = catB (bl.take (k + 1))) := B3
              have H4 : Hid (catB (wl.take k) ++ z = catB (wl.take (k + 1))) := B4
              clear B3 B4 h3
              generalize catB (ol.take k) = s1 at *
              generalize catB (al.take k) = s2 at *
              generalize catB (bl.take k) = s3 at *
              generalize catB (wl.take k) = s4 at *
              gi_wp2
              gi_big_quiet_th_o (fail)
              gi_wp2
              go_roundw
              case rel => exact ⟨k + 1, hlt, by go_num, by rw [← H1.out], by rw [← H2.out], by rw [← H3.out], by rw [← H4.out], drewNC cw _⟩
              case measure => simp [intOf]; omega
        · obtain rfl : k = 5 := by omega
          generalize catB (ol.take 5) = s1 at *
          generalize catB (al.take 5) = s2 at *
          generalize catB (bl.take 5) = s3 at *
          generalize catB (wl.take 5) = s4 at *
          have ht : txt none = ⟨#[]⟩ := rfl
          have hs : (none : Option ByteArray).isSome = false := rfl
          rw [ht, hs] at M
          clear ht hs
          gi_wp2_with fail
          refine ⟨trivial, rfl, (M _).mono ?_⟩
          rintro e w5 ⟨rfl, c5⟩
          gi_wp2_with fail
          refine ⟨trivial, rfl, (awake_in _).mono ?_⟩
          rintro e w6 ⟨rfl, c6⟩
          gi_wp2
          go_ret
          exact ⟨rfl, Chg.seq (Chg.seq c2 cw) (Chg.seq c5 c6)⟩

end Go.Proofs.Ytookalebfbkedaa
