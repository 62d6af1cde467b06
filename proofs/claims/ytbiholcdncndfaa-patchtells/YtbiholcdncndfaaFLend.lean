/-
  The statements' own GreatFiles, OverFiles, LendFiles and KeptFiles.
-/
import Derived.Test.YtbiholcdncndfaaFSame
namespace Go.Proofs.Ytbiholcdncndfaa
open Go.RowKit Go.Shelf Go.SeqLib Go.DiffLib Go.TreeLib
attribute [local go_sem] Oper.semAt_some

/-- What GreatFiles answers. -/
def greatF (zs : List Fl) (most : Nat) : Bool := decide (most < zs.length) || zs.any (fun x => decide (100 < x.1.size) || decide (500 < x.2.size))

theorem greatF_false {zs : List Fl} {most : Nat} (h : greatF zs most = false) : zs.length ≤ most ∧ ∀ x ∈ zs, x.1.size ≤ 100 ∧ x.2.size ≤ 500 := by
  unfold greatF at h
  rw [Bool.or_eq_false_iff] at h
  refine ⟨by have := of_decide_eq_false h.1; omega, fun x hx => ?_⟩
  have := List.any_eq_false.1 h.2 x hx
  simp at this
  exact this

set_option maxHeartbeats 1000000 in
theorem greatF_in (v : Value) (zs : List Fl) (most : Nat) (w : World) (hv : SlF w v zs) :
    CallsIn Fence.wide 0 Try.prog 4 #[v, .int .i64 (most : Int)] w fun e w' => e = .returned (.bool (greatF zs most)) ∧ w' = w := by
  obtain ⟨p, c1, rfl, hp1, hp2⟩ := hv.slice
  have hl1 : zs.length ≤ 9223372036854775807 := by unfold maxLen at hp2; omega
  obtain ⟨n, HN⟩ : ∃ n, Hid (zs.length = n) := ⟨_, rfl⟩
  rw [HN.out] at hv hl1 ⊢
  clear hp1 hp2
  have HG : Hid (greatF zs most = (decide (most < n) || zs.any (fun x => decide (100 < x.1.size) || decide (500 < x.2.size)))) := by unfold greatF; rw [HN.out]; exact rfl
  refine callsIn_of_wp Try.func4 rfl trivial ?_
  simp only [Try.ntmps4, List.size_toArray, List.length_cons, List.length_nil, Nat.reduceAdd, Nat.reduceSub, Array.replicate_succ, Array.replicate_zero, List.push_toArray, List.append_toArray, List.nil_append, List.cons_append]
  gi_wp2
  by_cases hm : most < n
  · have hm1 : ¬ (n : Int) ≤ (most : Int) := by omega
    have hm2 : (most : Int) < (n : Int) := by omega
    have hm0 : (0 : Int) < (n : Int) := by omega
    have HG2 : Hid (greatF zs most = true) := by rw [HG.out, decide_eq_true hm]; exact rfl
    clear hm
    gi_loopw [5] (fun i wr => i = .int .i64 0 ∧ wr = w) (fun i _ => 1 - (intOf i).toNat)
    case atStart => exact ⟨rfl, rfl⟩
    case round =>
      obtain ⟨rfl, rfl⟩ := hrel
      gi_wp2
      go_ret
      exact ⟨by rw [HG2.out]; rfl, rfl⟩
  · have hm1 : (n : Int) ≤ (most : Int) := by omega
    have hm2 : ¬ (most : Int) < (n : Int) := by omega
    have HG2 : Hid (greatF zs most = zs.any (fun x => decide (100 < x.1.size) || decide (500 < x.2.size))) := by rw [HG.out, decide_eq_false hm]; exact rfl
    clear hm
    gi_loopw [5] (fun i wr => ∃ k : Nat, k ≤ n ∧ i = .int .i64 (k : Int) ∧ Hid (∀ x ∈ zs.take k, x.1.size ≤ 100 ∧ x.2.size ≤ 500) ∧ wr = w) (fun i _ => n - (intOf i).toNat)
    case atStart => exact ⟨0, Nat.zero_le _, rfl, (fun x h => by simp at h), rfl⟩
    case round =>
      obtain ⟨k, hk, rfl, HT, rfl⟩ := hrel
      by_cases hlt : k < n
      · have hkz : k < zs.length := by rw [HN.out]; exact hlt
        have hlt' : (k : Int) < (n : Int) := by omega
        obtain ⟨b1, o1, rfl, hc1, hc2⟩ := SlF.at hv k zs[k] (by simp [hkz])
        by_cases hbig : 100 < zs[k].1.size ∨ 500 < zs[k].2.size
        · have HG3 : Hid (greatF zs most = true) := by
            show _ = _
            rw [HG2.out, List.any_eq_true]
            refine ⟨zs[k], List.getElem_mem hkz, ?_⟩
            rw [Bool.or_eq_true, decide_eq_true_eq, decide_eq_true_eq]
            exact hbig
          clear HG HG2
          generalize zs[k] = x at *
          by_cases hb1 : 100 < x.1.size
          · have hbig' : (100 : Int) < ((x.1.size : Nat) : Int) := by omega
            clear hbig hb1
            gi_wp2
            go_ret
            exact ⟨by rw [HG3.out]; rfl, rfl⟩
          · have hbig' : ¬ (100 : Int) < ((x.1.size : Nat) : Int) := by omega
            have hbig2 : (500 : Int) < ((x.2.size : Nat) : Int) := by omega
            clear hbig hb1
            gi_wp2
            go_ret
            exact ⟨by rw [HG3.out]; rfl, rfl⟩
        · have hbig' : ¬ (100 : Int) < ((zs[k].1.size : Nat) : Int) := by omega
          have hbig2 : ¬ (500 : Int) < ((zs[k].2.size : Nat) : Int) := by omega
          have HT2 : Hid (∀ x ∈ zs.take (k + 1), x.1.size ≤ 100 ∧ x.2.size ≤ 500) := by
            intro x hx
            rw [List.take_succ_eq_append_getElem hkz, List.mem_append] at hx
            rcases hx with hx | hx
            · exact HT.out x hx
            · rw [List.mem_singleton] at hx; subst hx; omega
          clear hbig
          generalize zs[k] = x at *
          gi_wp2
          go_roundw
          case rel => exact ⟨k + 1, hlt, by go_num, HT2, trivial⟩
          case measure => simp [intOf]; omega
      · obtain rfl : k = n := by omega
        have HG3 : Hid (greatF zs most = false) := by
          show _ = _
          rw [HG2.out, List.any_eq_false]
          intro x hx
          have := HT.out x (by rw [← HN.out, List.take_length]; exact hx)
          simp; omega
        clear HG HG2
        gi_wp2
        go_ret
        exact ⟨by rw [HG3.out]; rfl, rfl⟩

/-- A cell of a row that is owned: it is there, it may be written; written, the row is owned still; behind what is owned nothing of that is changed. -/
theorem rowPutF {W : World} {base : Nat} {e : TypeId} {s g n cap : Nat} {xs : List Value} (h : W.ownsRow base e s (.slice (some ⟨g, 0, none⟩) n cap) n xs) {j : Nat} (hj : j < cap * s) (u : Value) :
    (∃ x, W.cell? ⟨g, j, none⟩ = some x) ∧ W.frozen? ⟨g, j, none⟩ = false ∧ ∃ ys, (W.setCell ⟨g, j, none⟩ u).ownsRow base e s (.slice (some ⟨g, 0, none⟩) n cap) n ys ∧ (n * s ≤ j → ys = xs) := by
  obtain ⟨h1, h2⟩ := h
  rcases h2 with ⟨h2, _⟩ | ⟨g', cap', cur, hv, hb, hg, hn, hm, hs, ht⟩
  · cases h2
  · cases hv
    have hjs : j < cur.size := by omega
    refine ⟨⟨cur[j], by simp [World.cell?, hg, hjs]⟩, by simp [World.frozen?, hg], (cur.setIfInBounds j u).toList.take (n * s), ⟨?_, .inr ⟨g, cap, cur.setIfInBounds j u, rfl, hb, ?_, hn, hm, by simpa using hs, rfl⟩⟩, fun hnj => ?_⟩
    · have := congrArg List.length ht
      simp at this ⊢
      omega
    · obtain ⟨hlt, hk⟩ := Array.getElem?_eq_some_iff.1 hg
      show (W.heap.modify g _)[g]? = _
      rw [Array.getElem?_eq_getElem (by rw [Array.size_modify]; exact hlt), Array.getElem_modify_self, hk]
      rfl
    · rw [← ht]
      refine List.ext_getElem? fun i => ?_
      simp only [List.getElem?_take, Array.getElem?_toList, Array.getElem?_setIfInBounds]
      split
      · rw [if_neg (by omega)]
      · rfl

set_option maxRecDepth 100000 in
set_option maxHeartbeats 1000000 in
theorem overF_in (v : Value) (vals : List Value) (n base : Nat) (hlen : n ≤ 1000000) (w : World) (hb : base ≤ w.heap.size) (hv : w.ownsRow base 43 2 v n vals) : CallsIn Fence.wide 0 Try.prog 13 #[v] w fun e w' =>
    (∃ r, e = .returned r) ∧ Chg (fun k => v.ownBlock = some k) w w' := by
  obtain ⟨i0, hi, hz0, hz1, hz2⟩ := info_parts info43
  obtain ⟨p, cap, rfl⟩ := row_slice hv
  refine callsIn_of_wp Try.func13 rfl trivial ?_
  simp only [Try.ntmps13, List.size_toArray, List.length_cons, List.length_nil, Nat.reduceAdd, Nat.reduceSub, Array.replicate_succ, Array.replicate_zero, List.push_toArray, List.append_toArray, List.nil_append, List.cons_append]
  gi_wp2
  gi_loopw [2] (fun i wr => ∃ (k : Nat) (ys : List Value), k ≤ n ∧ i = .int .i64 (k : Int) ∧ wr.ownsRow base 43 2 (.slice p n cap) n ys ∧ base ≤ wr.heap.size ∧ Chg (fun k => Value.ownBlock (.slice p n cap) = some k) w wr) (fun i _ => n - (intOf i).toNat)
  case atStart => exact ⟨0, vals, Nat.zero_le _, rfl, hv, hb, Chg.refl _ _⟩
  case round =>
    obtain ⟨k, ys, hk, rfl, hr, hbw, c⟩ := hrel
    by_cases hlt : k < n
    · obtain ⟨b, rfl, hcap⟩ : ∃ b, p = some ⟨b, 0, none⟩ ∧ n ≤ cap := by
        rcases hr.2 with ⟨_, h0⟩ | ⟨g, cap', cur, h, _, _, h3, _⟩
        · omega
        · cases h; exact ⟨g, rfl, h3⟩
      obtain ⟨⟨x1, a1⟩, f1, z1, r1, _⟩ := rowPutF hr (j := k * 2) (by omega) (.string ⟨#[111, 118, 101, 114]⟩)
      obtain ⟨⟨x2, a2⟩, f2, z2, r2, _⟩ := rowPutF r1 (j := k * 2 + 1) (by omega) (.string ⟨#[]⟩)
      obtain ⟨⟨x4, a4⟩, f4, _⟩ := rowPutF hr (j := k * 2 + 1) (by omega) (.string ⟨#[]⟩)
      have c2 := (c.setCell (p := ⟨b, k * 2, none⟩) (.inl rfl) (.string ⟨#[111, 118, 101, 114]⟩)).setCell (p := ⟨b, k * 2 + 1, none⟩) (.inl rfl) (.string ⟨#[]⟩)
      gi_wp2
      go_roundw
      case rel => exact ⟨k + 1, z2, hlt, by go_num, r2, by have := c2.size; simp at this; simp; omega, c2⟩
      case measure => simp [intOf]; omega
    · obtain rfl : k = n := by omega
      have hmx : k + 1 ≤ maxLen := by unfold maxLen; omega
      have hcn : ∀ j u, [Value.string ⟨#[111, 118, 101, 114]⟩, Value.string ⟨#[]⟩][j]? = some u → (wr.alloc (.cells #[Value.string ⟨#[111, 118, 101, 114]⟩, Value.string ⟨#[]⟩] 43)).cell? ((⟨wr.heap.size, 0, none⟩ : Addr).add j) = some u := flatF_cells (SlF.one wr (⟨#[111, 118, 101, 114]⟩, ⟨#[]⟩))
      gi_wp2_with (gi_at_builtin; refine wpListIn_append_at _ rfl _ _ 22 rfl base 43 i0 (.agg #[.string ⟨#[]⟩, .string ⟨#[]⟩]) 2 32 Try.underlying22 hi hz0 hz1 hz2 rfl (by decide) _ _ _ rfl (hr.alloc _) ⟨wr.heap.size, 0, none⟩ 1 1 [.string ⟨#[111, 118, 101, 114]⟩, .string ⟨#[]⟩] rfl rfl hcn (by simp [Value.oneCell']) hmx (by omega) (by simp; omega) ?_; intro v' w1 hown' hgrow _ hat)
      go_end0
      exact ⟨⟨_, rfl⟩, (c.alloc _).grown hgrow (fun j e => .inl e)⟩

end Go.Proofs.Ytbiholcdncndfaa
