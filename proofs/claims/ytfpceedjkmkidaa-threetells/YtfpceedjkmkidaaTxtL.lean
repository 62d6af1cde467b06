/-
  The statements' own GreatTexts, LendTexts, KeptTexts and OverTexts.
-/
import Derived.Test.YtfpceedjkmkidaaTxtH
namespace Go.Proofs.Ytfpceedjkmkidaa
open Go.RowKit Go.Shelf Go.SeqLib
attribute [local go_sem] Oper.semAt_some

/-- The mark of the room that is lent. -/
abbrev lentB : ByteArray := ⟨#[108, 101, 110, 116]⟩
abbrev overB : ByteArray := ⟨#[111, 118, 101, 114]⟩

/-- What GreatTexts answers. -/
def greatB (zs : List ByteArray) (most long : Nat) : Bool := decide (most < zs.length) || zs.any (fun x => decide (long < x.size))

theorem greatB_false {zs : List ByteArray} {most long : Nat} (h : greatB zs most long = false) : zs.length ≤ most ∧ ∀ x ∈ zs, x.size ≤ long := by
  unfold greatB at h
  rw [Bool.or_eq_false_iff] at h
  refine ⟨by have := of_decide_eq_false h.1; omega, fun x hx => ?_⟩
  have := List.any_eq_false.1 h.2 x hx
  simp at this
  exact this

set_option maxHeartbeats 1000000 in
theorem great_in (v : Value) (zs : List ByteArray) (most long : Nat) (w : World) (hv : SlV w v (zs.map Value.string)) :
    CallsIn Fence.wide 0 Try.prog 21 #[v, .int .i64 (most : Int), .int .i64 (long : Int)] w fun e w' => e = .returned (.bool (greatB zs most long)) ∧ w' = w := by
  obtain ⟨p, c1, rfl, hp1, hp2, hpc⟩ := hv
  rw [List.length_map] at hp1
  have hl1 : zs.length ≤ maxLen := by omega
  unfold maxLen at hl1
  rw [List.length_map]
  obtain ⟨n, HN⟩ : ∃ n, Hid (zs.length = n) := ⟨_, rfl⟩
  rw [HN.out] at hp1 hl1 ⊢
  have HG : Hid (greatB zs most long = (decide (most < n) || zs.any (fun x => decide (long < x.size)))) := by unfold greatB; rw [HN.out]; exact rfl
  refine callsIn_of_wp Try.func21 rfl trivial ?_
  simp only [Try.ntmps21, List.size_toArray, List.length_cons, List.length_nil, Nat.reduceAdd, Nat.reduceSub, Array.replicate_succ, Array.replicate_zero, List.push_toArray, List.append_toArray, List.nil_append, List.cons_append]
  gi_wp2
  by_cases hm : most < n
  · have hm1 : ¬ (n : Int) ≤ (most : Int) := by omega
    have hm2 : (most : Int) < (n : Int) := by omega
    have hm0 : (0 : Int) < (n : Int) := by omega
    have HG2 : Hid (greatB zs most long = true) := by rw [HG.out, decide_eq_true hm]; exact rfl
    clear hm
    gi_loopw [7] (fun i wr => i = .int .i64 0 ∧ wr = w) (fun i _ => 1 - (intOf i).toNat)
    case atStart => exact ⟨rfl, rfl⟩
    case round =>
      obtain ⟨rfl, rfl⟩ := hrel
      gi_wp2
      go_ret
      exact ⟨by rw [HG2.out]; rfl, rfl⟩
  · have hm1 : (n : Int) ≤ (most : Int) := by omega
    have hm2 : ¬ (most : Int) < (n : Int) := by omega
    have HG2 : Hid (greatB zs most long = zs.any (fun x => decide (long < x.size))) := by rw [HG.out, decide_eq_false hm]; exact rfl
    clear hm
    gi_loopw [7] (fun i wr => ∃ k : Nat, k ≤ n ∧ i = .int .i64 (k : Int) ∧ Hid (∀ x ∈ zs.take k, x.size ≤ long) ∧ wr = w) (fun i _ => n - (intOf i).toNat)
    case atStart => exact ⟨0, Nat.zero_le _, rfl, (fun x h => by simp at h), rfl⟩
    case round =>
      obtain ⟨k, hk, rfl, HT, rfl⟩ := hrel
      by_cases hlt : k < n
      · have hkz : k < zs.length := by rw [HN.out]; exact hlt
        have hlt' : (k : Int) < (n : Int) := by omega
        obtain ⟨b1, o1, rfl, hc1⟩ := hpc k (.string zs[k]) (by simp [hkz])
        by_cases hbig : long < zs[k].size
        · have hbig' : (long : Int) < ((zs[k].size : Nat) : Int) := by omega
          have HG3 : Hid (greatB zs most long = true) := by
            show _ = _
            rw [HG2.out, List.any_eq_true]
            exact ⟨zs[k], List.getElem_mem hkz, decide_eq_true hbig⟩
          clear hbig HG HG2
          generalize zs[k] = x at *
          gi_wp2
          go_ret
          exact ⟨by rw [HG3.out]; rfl, rfl⟩
        · have hbig' : ¬ (long : Int) < ((zs[k].size : Nat) : Int) := by omega
          have HT2 : Hid (∀ x ∈ zs.take (k + 1), x.size ≤ long) := by
            intro x hx
            rw [List.take_succ_eq_append_getElem hkz, List.mem_append] at hx
            rcases hx with hx | hx
            · exact HT.out x hx
            · rw [List.mem_singleton] at hx; subst hx; omega
          clear hbig
          generalize zs[k] = x at *
          gi_wp2
          go_roundw
          case rel => exact ⟨k + 1, hlt, by go_num, HT2, trivial⟩
          case measure => simp [intOf]; omega
      · obtain rfl : k = n := by omega
        have HG3 : Hid (greatB zs most long = false) := by
          show _ = _
          rw [HG2.out, List.any_eq_false]
          intro x hx
          have := HT.out x (by rw [← HN.out, List.take_length]; exact hx)
          simp; omega
        clear HG HG2
        gi_wp2
        go_ret
        exact ⟨by rw [HG3.out]; rfl, rfl⟩

set_option maxRecDepth 100000 in
set_option maxHeartbeats 1000000 in
theorem overS_in (v : Value) (vals : List Value) (n base : Nat) (hlen : n ≤ 1000000) (w : World) (hb : base ≤ w.heap.size) (hv : w.ownsRow base 9 1 v n vals) : CallsIn Fence.wide 0 Try.prog 16 #[v] w fun e w' =>
    (∃ r, e = .returned r) ∧ Chg (fun k => v.ownBlock = some k) w w' := by
  obtain ⟨i0, hi, hz0, hz1, hz2⟩ := info_parts info9
  obtain ⟨p, cap, rfl⟩ := row_slice hv
  refine callsIn_of_wp Try.func16 rfl trivial ?_
  simp only [Try.ntmps16, List.size_toArray, List.length_cons, List.length_nil, Nat.reduceAdd, Nat.reduceSub, Array.replicate_succ, Array.replicate_zero, List.push_toArray, List.append_toArray, List.nil_append, List.cons_append]
  gi_wp2
  gi_loopw [2] (fun i wr => ∃ (k : Nat) (ys : List Value), k ≤ n ∧ i = .int .i64 (k : Int) ∧ wr.ownsRow base 9 1 (.slice p n cap) n ys ∧ base ≤ wr.heap.size ∧ Chg (fun k => Value.ownBlock (.slice p n cap) = some k) w wr) (fun i _ => n - (intOf i).toNat)
  case atStart => exact ⟨0, vals, Nat.zero_le _, rfl, hv, hb, Chg.refl _ _⟩
  case round =>
    obtain ⟨k, ys, hk, rfl, hr, hbw, c⟩ := hrel
    by_cases hlt : k < n
    · obtain ⟨b, rfl, hcap⟩ : ∃ b, p = some ⟨b, 0, none⟩ ∧ n ≤ cap := by
        rcases hr.2 with ⟨_, h0⟩ | ⟨g, cap', cur, h, _, _, h3, _⟩
        · omega
        · cases h; exact ⟨g, rfl, h3⟩
      obtain ⟨⟨x, hc⟩, hf, zs, hr2, _⟩ := rowPut hr (show k < cap by omega) (.string overB)
      have c2 := c.setCell (p := ⟨b, k, none⟩) (.inl rfl) (.string overB)
      gi_wp2
      go_roundw
      case rel => exact ⟨k + 1, zs, hlt, by go_num, hr2, by have := c2.size; simp at this; simp; omega, c2⟩
      case measure => simp [intOf]; omega
    · obtain rfl : k = n := by omega
      have hmx : k + 1 ≤ maxLen := by unfold maxLen; omega
      gi_wp2_with (gi_at_builtin; refine wpListIn_append_at _ rfl _ _ 22 rfl base 9 i0 (.string ⟨#[]⟩) 1 16 Try.underlying22 hi hz0 hz1 hz2 rfl (by decide) _ _ _ rfl (hr.alloc _) ⟨wr.heap.size, 0, none⟩ 1 1 [.string overB] rfl rfl (cell_one_new _ _ _) (by simp [Value.oneCell']) hmx (by omega) (by simp; omega) ?_; intro v' w1 hown' hgrow _ hat)
      go_end0
      exact ⟨⟨_, rfl⟩, (c.alloc _).grown hgrow (fun j e => .inl e)⟩

/-- The room behind a row: k of its cells bear the mark; the row is as it was. -/
def roomRel (w : World) (g n : Nat) (vals : List Value) (k : Nat) (wr : World) : Prop :=
  wr.ownsRow w.heap.size 9 1 (.slice (some ⟨g, 0, none⟩) n (n + 3)) n vals ∧ Chg No w wr ∧ ∀ j, j < k → wr.cell? ⟨g, n + j, none⟩ = some (.string lentB)

theorem roomRel.step {w wr : World} {g n k : Nat} {vals : List Value} (h : roomRel w g n vals k wr) (hk : k < 3) (hg : w.heap.size ≤ g) :
    (∃ x, wr.cell? ⟨g, n + k, none⟩ = some x) ∧ wr.frozen? ⟨g, n + k, none⟩ = false ∧ roomRel w g n vals (k + 1) (wr.setCell ⟨g, n + k, none⟩ (.string lentB)) := by
  obtain ⟨hr, c, hl⟩ := h
  obtain ⟨⟨x, hcx⟩, hf, ys, hr2, hys⟩ := rowPut hr (j := n + k) (by omega) (.string lentB)
  obtain rfl := hys (by omega)
  refine ⟨⟨x, hcx⟩, hf, hr2, c.setCell (p := ⟨g, n + k, none⟩) (.inr hg) (.string lentB), fun j hj => ?_⟩
  by_cases e : j = k
  · subst e; exact World.cell?_setCell_same' _ _ _ (by rw [hcx]; rfl)
  · rw [World.cell?_setCell_other]
    · exact hl j (by omega)
    · intro h; rw [Addr.mk.injEq] at h; have := h.2.1; omega

/-- What is lent: the row, the mark in its room behind it, a block of its own. -/
def LentS (w w' : World) (v : Value) (vals : List Value) : Prop :=
  ∃ g, v = .slice (some ⟨g, 0, none⟩) vals.length (vals.length + 3) ∧ w.heap.size ≤ g ∧ SlV w' (.slice (some ⟨g, 0, none⟩) (vals.length + 3) (vals.length + 3)) (vals ++ [.string lentB, .string lentB, .string lentB])

theorem roomRel.lent {w wr : World} {g : Nat} {vals : List Value} (h : roomRel w g vals.length vals 3 wr) (hm : vals.length + 3 ≤ maxLen) (hg : w.heap.size ≤ g) : LentS w wr (.slice (some ⟨g, 0, none⟩) vals.length (vals.length + 3)) vals := by
  obtain ⟨hr, c, hl⟩ := h
  refine ⟨g, rfl, hg, _, _, by simp, by simp, hm, fun i x hi => ⟨g, 0, rfl, ?_⟩⟩
  rw [Nat.zero_add]
  rw [List.getElem?_append] at hi
  split at hi
  · have := hr.cells (g := g) rfl i x hi
    have e : (⟨g, 0, none⟩ : Addr).add i = ⟨g, 0 + i, none⟩ := by unfold Addr.add; split <;> simp_all
    rw [e, Nat.zero_add] at this
    exact this
  · rename_i hge
    obtain ⟨j, rfl⟩ : ∃ j, i = vals.length + j := ⟨i - vals.length, by omega⟩
    rw [show vals.length + j - vals.length = j by omega] at hi
    have hj : j < 3 := by
      have := (List.getElem?_eq_some_iff.1 hi).1
      simpa using this
    have hx : x = .string lentB := by
      match j, hj with
      | 0, _ => simpa using hi.symm
      | 1, _ => simpa using hi.symm
      | 2, _ => simpa using hi.symm
    rw [hx]
    exact hl j hj

theorem LentS.no {w w1 w2 : World} {v : Value} {vals : List Value} (h : LentS w w1 v vals) (c : Chg No w1 w2) : LentS w w2 v vals := by
  obtain ⟨g, e, hg, hs⟩ := h
  exact ⟨g, e, hg, hs.no c⟩
theorem LentS.row {w w1 : World} {v : Value} {vals : List Value} (h : LentS w w1 v vals) : SlV w1 v vals := by
  obtain ⟨g, rfl, hg, p, cap, e, h1, h2, hc⟩ := h
  rw [Value.slice.injEq] at e
  obtain ⟨rfl, _, rfl⟩ := e
  refine ⟨_, _, rfl, by omega, h2, fun i x hi => hc i x ?_⟩
  rw [List.getElem?_append_left (List.getElem?_eq_some_iff.1 hi).1]
  exact hi

set_option maxRecDepth 100000 in
set_option maxHeartbeats 1000000 in
theorem lendS_in (v : Value) (zs : List ByteArray) (hlen : zs.length ≤ 1000) (w : World) (hv : SlV w v (zs.map Value.string)) : CallsIn Fence.wide 0 Try.prog 10 #[v] w fun e w' =>
    ∃ v', e = .returned v' ∧ LentS w w' v' (zs.map Value.string) ∧ Chg No w w' := by
  obtain ⟨i0, hi, hz0, hz1, hz2⟩ := info_parts info9
  obtain ⟨p, cap, rfl, h1, h2, hc⟩ := hv
  cases p with
  | none =>
    have hz : zs = [] := by
      cases zs with
      | nil => rfl
      | cons x r => obtain ⟨b, off, h, _⟩ := hc 0 (.string x) rfl; cases h
    subst hz
    refine callsIn_of_wp Try.func10 rfl trivial ?_
    simp only [Try.ntmps10, List.size_toArray, List.length_cons, List.length_nil, Nat.reduceAdd, Nat.reduceSub, Array.replicate_succ, Array.replicate_zero, List.push_toArray, List.append_toArray, List.nil_append, List.cons_append]
    gi_wp2_with (first
      | (gi_at_make; refine wpListIn_make_own _ rfl _ _ 22 rfl w.heap.size 9 i0 (.string ⟨#[]⟩) 1 Try.underlying22 hi hz0 hz1 .i64 .i64 3 3 rfl rfl (by omega) (by rw [hz2]; omega) (by unfold maxLen; omega) (Nat.le_refl _) ?_; intro w2 hown2 hgrow1; have c2 : Chg No w w2 := (Chg.refl _ w).grown hgrow1 (fun k e => by cases e)))
    gi_loopw [5] (fun i wr => ∃ k : Nat, k ≤ 3 ∧ i = .int .i64 (k : Int) ∧ roomRel w w.heap.size 0 [] k wr) (fun i _ => 3 - (intOf i).toNat)
    case atStart => exact ⟨0, by omega, rfl, by simpa using hown2, c2, fun j h => by omega⟩
    case round =>
      obtain ⟨k, hk, rfl, hr⟩ := hrel
      by_cases hlt : k < 3
      · obtain ⟨⟨x, hcx⟩, hf, hr2⟩ := hr.step hlt (Nat.le_refl _)
        simp only [Nat.zero_add] at hcx hf hr2
        gi_wp2
        go_roundw
        case rel => exact ⟨k + 1, hlt, by go_num, hr2⟩
        case measure => simp [intOf]; omega
      · obtain rfl : k = 3 := by omega
        gi_wp2
        go_ret
        exact ⟨_, rfl, roomRel.lent (vals := []) hr (by unfold maxLen; decide) (Nat.le_refl _), hr.2.1⟩
  | some a =>
    have hone : ∀ u ∈ zs.map Value.string, u.oneCell' = true := by
      intro u hu
      obtain ⟨x, _, rfl⟩ := List.mem_map.1 hu
      rfl
    have hnews : ∀ w1 : World, Chg No w w1 → ∀ j u, (zs.map Value.string)[j]? = some u → w1.cell? (a.add j) = some u := by
      intro w1 c1 j u hj
      obtain ⟨b, off, e, hcell⟩ := hc j u hj
      cases e
      have ea : (⟨b, off, none⟩ : Addr).add j = ⟨b, off + j, none⟩ := by unfold Addr.add; split <;> simp_all
      rw [ea]
      exact (World.cell?_of_block (a := ⟨b, off + j, none⟩) (c1.block b (World.block_lt_of_cell? w _ hcell) (fun h => h))).trans hcell
    clear hc
    have hvl : (zs.map Value.string).length ≤ 1000 := by rw [List.length_map]; exact hlen
    generalize zs.map Value.string = vals at *
    obtain ⟨n, HN⟩ : ∃ n, Hid (vals.length = n) := ⟨_, rfl⟩
    have hn := HN.out
    rw [HN.out] at h1 hvl
    have hmx : n + 3 ≤ maxLen := by unfold maxLen; omega
    have HLen : Hid (∀ wr g, roomRel w g n vals 3 wr → w.heap.size ≤ g → LentS w wr (.slice (some ⟨g, 0, none⟩) n (n + 3)) vals) := by
      intro wr g h hg
      rw [← HN.out] at h ⊢
      exact h.lent (by rw [HN.out]; exact hmx) hg
    rw [HN.out]
    refine callsIn_of_wp Try.func10 rfl trivial ?_
    simp only [Try.ntmps10, List.size_toArray, List.length_cons, List.length_nil, Nat.reduceAdd, Nat.reduceSub, Array.replicate_succ, Array.replicate_zero, List.push_toArray, List.append_toArray, List.nil_append, List.cons_append]
    have hvn : Hid (vals.length = n * 1) := by rw [HN.out]; exact (Nat.mul_one _).symm
    clear hn
    gi_wp2_with (first
      | (gi_at_make; refine wpListIn_make_own _ rfl _ _ 22 rfl w.heap.size 9 i0 (.string ⟨#[]⟩) 1 Try.underlying22 hi hz0 hz1 .i64 .i64 ((n : Int) + 3) (n + 3) rfl rfl (by omega) (by rw [hz2]; omega) hmx (Nat.le_refl _) ?_; intro w1 hown1 hgrow1; have c1 : Chg No w w1 := (Chg.refl _ w).grown hgrow1 (fun k e => by cases e))
      | (gi_at_builtin; refine wpListIn_append_fits _ rfl _ _ 22 rfl w.heap.size 9 i0 1 Try.underlying22 hi hz1 w.heap.size 0 (n + 3) _ rfl hown1 a n cap vals rfl hvn.out (hnews w1 c1) hone (by omega) ?_; intro w2 hown2 hgrow2; have c2 : Chg No w w2 := c1.grown hgrow2 (fun k e => by cases e; exact .inr (Nat.le_refl _))))
    rw [show n + 3 - n = 3 by omega]
    gi_loopw [5] (fun i wr => ∃ k : Nat, k ≤ 3 ∧ i = .int .i64 (k : Int) ∧ roomRel w w.heap.size n vals k wr) (fun i _ => 3 - (intOf i).toNat)
    case atStart => exact ⟨0, by omega, rfl, by simpa using hown2, c2, fun j h => by omega⟩
    case round =>
      obtain ⟨k, hk, rfl, hr⟩ := hrel
      by_cases hlt : k < 3
      · obtain ⟨⟨x, hcx⟩, hf, hr2⟩ := hr.step hlt (Nat.le_refl _)
        gi_wp2
        go_roundw
        case rel => exact ⟨k + 1, hlt, by go_num, hr2⟩
        case measure => simp [intOf]; omega
      · obtain rfl : k = 3 := by omega
        gi_wp2
        go_ret
        exact ⟨_, rfl, HLen.out _ _ hr (Nat.le_refl _), hr.2.1⟩

set_option maxRecDepth 100000 in
set_option maxHeartbeats 1000000 in
theorem keptS_in (v u : Value) (zs : List ByteArray) (hlen : zs.length ≤ 1000) (w0 w : World) (hv : LentS w0 w v (zs.map Value.string)) (hu : SlV w u (zs.map Value.string)) : CallsIn Fence.wide 0 Try.prog 17 #[v, u] w fun e w' =>
    e = .returned (.bool true) ∧ Chg No w w' := by
  have HR : Hid (SlV w v (zs.map Value.string)) := hv.row
  have HU : Hid (SlV w u (zs.map Value.string)) := hu
  obtain ⟨g, rfl, hg, p, cap, e, h1, h2, hc⟩ := hv
  rw [Value.slice.injEq] at e
  obtain ⟨rfl, _, rfl⟩ := e
  obtain ⟨pu, capu, rfl, _⟩ := hu
  have hroom : ∀ j, j < 3 → w.cell? ⟨g, zs.length + j, none⟩ = some (.string lentB) := by
    intro j hj
    obtain ⟨b, off, e, hcell⟩ := hc ((zs.map Value.string).length + j) (.string lentB) (by
      rw [List.getElem?_append_right (Nat.le_add_right _ _), show (zs.map Value.string).length + j - (zs.map Value.string).length = j by omega]
      match j, hj with
      | 0, _ => rfl
      | 1, _ => rfl
      | 2, _ => rfl)
    cases e
    rw [List.length_map, Nat.zero_add] at hcell
    exact hcell
  clear hc h1 h2
  obtain ⟨m, HM⟩ : ∃ m, Hid ((zs.map Value.string).length = m) := ⟨_, rfl⟩
  have hm : zs.length = m := by rw [← HM.out, List.length_map]
  rw [HM.out] at HR HU ⊢
  rw [hm] at hroom hlen
  clear hm
  refine callsIn_of_wp Try.func17 rfl trivial ?_
  simp only [Try.ntmps17, List.size_toArray, List.length_cons, List.length_nil, Nat.reduceAdd, Nat.reduceSub, Array.replicate_succ, Array.replicate_zero, List.push_toArray, List.append_toArray, List.nil_append, List.cons_append]
  gi_wp2
  rw [show m + 3 - m = 3 by omega]
  gi_loopw [6] (fun i wr => ∃ k : Nat, k ≤ 3 ∧ i = .int .i64 (k : Int) ∧ wr = w) (fun i _ => 3 - (intOf i).toNat)
  case atStart => exact ⟨0, by omega, rfl, rfl⟩
  case round =>
    obtain ⟨k, hk, rfl, rfl⟩ := hrel
    by_cases hlt : k < 3
    · have hcx := hroom k hlt
      gi_wp2
      go_roundw
      case rel => exact ⟨k + 1, hlt, by go_num, trivial⟩
      case measure => simp [intOf]; omega
    · obtain rfl : k = 3 := by omega
      gi_wp2_with fail
      refine ⟨trivial, rfl, (sameS_in _ _ zs zs _ HR.out HU.out).mono ?_⟩
      rintro e w1 ⟨rfl, c1⟩
      rw [decide_eq_true rfl]
      gi_wp2
      go_ret
      exact ⟨rfl, c1⟩

end Go.Proofs.Ytfpceedjkmkidaa
