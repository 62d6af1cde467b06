/-
  Slices of things: how they read, how they are cut and joined; where a thing has its place; Remove's question in the script.
-/
import Derived.Test.YtaolebadamfodaaTPM
import Derived.Test.YtaolebadamfodaaAppS
import Derived.Sort.CutIn
namespace Go.Proofs.Ytaolebadamfodaa.T
open Go.RowKit Go.Shelf Go.SeqLib Go.BigFrame Go.PileLib
attribute [local go_sem] Oper.semAt_some

/-- A slice that reads as things. -/
def SlT (W : World) (v : Value) (zs : List (Int × Int)) : Prop :=
  ∃ p cap, v = .slice p zs.length cap ∧ zs.length ≤ cap ∧ cap ≤ maxLen ∧ ∀ i x, zs[i]? = some x → ∃ b off, p = some ⟨b, off, none⟩ ∧ W.cell? ⟨b, off + i * 2, none⟩ = some (.int .i64 x.1) ∧ W.cell? ⟨b, off + i * 2 + 1, none⟩ = some (.int .i64 x.2)
def slT (v : Value) (zs : List (Int × Int)) : Blk := fun k => zs ≠ [] ∧ v.ownBlock = some k

theorem SlT.lt {W : World} {v : Value} {zs : List (Int × Int)} (h : SlT W v zs) : ∀ k, slT v zs k → k < W.heap.size := by
  obtain ⟨p, cap, rfl, _, _, hc⟩ := h
  rintro k ⟨hz, hk⟩
  cases zs with
  | nil => exact absurd rfl hz
  | cons x r =>
    obtain ⟨b, off, rfl, hcell, _⟩ := hc 0 x rfl
    simp [Value.ownBlock] at hk
    subst hk
    exact World.block_lt_of_cell? W _ hcell
theorem SlT.kept {W W' : World} {v : Value} {zs : List (Int × Int)} (h : SlT W v zs) (hk : ∀ k, slT v zs k → W'.heap[k]? = W.heap[k]?) : SlT W' v zs := by
  obtain ⟨p, cap, rfl, h1, h2, hc⟩ := h
  refine ⟨p, cap, rfl, h1, h2, fun i x hi => ?_⟩
  obtain ⟨b, off, rfl, hcell, hcell2⟩ := hc i x hi
  have hz : zs ≠ [] := by rintro rfl; simp at hi
  exact ⟨b, off, rfl, (World.cell?_of_block (a := ⟨b, off + i * 2, none⟩) (hk b ⟨hz, rfl⟩)).trans hcell, (World.cell?_of_block (a := ⟨b, off + i * 2 + 1, none⟩) (hk b ⟨hz, rfl⟩)).trans hcell2⟩
theorem SlT.chg {W W' : World} {v : Value} {zs : List (Int × Int)} (h : SlT W v zs) {S : Blk} (c : Chg S W W') (hd : ∀ k, slT v zs k → ¬ S k) : SlT W' v zs :=
  h.kept (fun k hk => c.block k (h.lt k hk) (hd k hk))
theorem SlT.nil (W : World) : SlT W (.slice none 0 0) [] := ⟨none, 0, rfl, Nat.le_refl _, Nat.zero_le _, by simp⟩
theorem SlT.take {W : World} {p : Option Addr} {n cap : Nat} {zs : List (Int × Int)} (h : SlT W (.slice p n cap) zs) (m : Nat) (hm : m ≤ n) : SlT W (.slice p m cap) (zs.take m) := by
  obtain ⟨p', cap', e, h1, h2, hc⟩ := h
  cases e
  have hl : (zs.take m).length = m := by simp; omega
  refine ⟨p, cap, by rw [hl], by omega, h2, fun i x hi => ?_⟩
  rw [List.getElem?_take] at hi
  split at hi
  · exact hc i x hi
  · cases hi
theorem SlT.drop {W : World} {b off n cap : Nat} {zs : List (Int × Int)} (h : SlT W (.slice (some ⟨b, off, none⟩) n cap) zs) (m : Nat) (hm : m ≤ n) : SlT W (.slice (some ⟨b, off + m * 2, none⟩) (n - m) (cap - m)) (zs.drop m) := by
  obtain ⟨p', cap', e, h1, h2, hc⟩ := h
  cases e
  refine ⟨_, _, by rw [List.length_drop], by simp; omega, by omega, fun i x hi => ?_⟩
  rw [List.getElem?_drop] at hi
  obtain ⟨b', off', e, u1, u2⟩ := hc (m + i) x hi
  cases e
  refine ⟨b, off + m * 2, rfl, ?_, ?_⟩
  · rw [show off + m * 2 + i * 2 = off + (m + i) * 2 by omega]; exact u1
  · rw [show off + m * 2 + i * 2 + 1 = off + (m + i) * 2 + 1 by omega]; exact u2

/-- A thing's cells. -/
def eT (x : Int × Int) : List Value := [.int .i64 x.1, .int .i64 x.2]
def flatT (zs : List (Int × Int)) : List Value := zs.flatMap eT
theorem flatT_length (zs : List (Int × Int)) : (flatT zs).length = zs.length * 2 := flat_length (enc := eT) (s := 2) (fun _ => rfl) zs
theorem flatT_app (a b : List (Int × Int)) : flatT a ++ flatT b = flatT (a ++ b) := by simp [flatT]
theorem flatT_one (d : List (Int × Int)) : ∀ u ∈ flatT d, u.oneCell' = true := by
  intro u hu
  unfold flatT at hu
  obtain ⟨y, _, hy⟩ := List.mem_flatMap.1 hu
  simp [eT] at hy
  rcases hy with rfl | rfl <;> rfl
theorem flatT_cells {W : World} {b off m cap : Nat} {zs : List (Int × Int)} (h : SlT W (.slice (some ⟨b, off, none⟩) m cap) zs) : ∀ j u, (flatT zs)[j]? = some u → W.cell? ((⟨b, off, none⟩ : Addr).add j) = some u := by
  intro j u hj
  obtain ⟨p', cap', e, h1, h2, hc⟩ := h
  cases e
  have ea : (⟨b, off, none⟩ : Addr).add j = ⟨b, off + j, none⟩ := by unfold Addr.add; split <;> simp_all
  rw [ea]
  have hj2 : j = (j / 2) * 2 + j % 2 := by omega
  have hq : j % 2 < 2 := Nat.mod_lt _ (by omega)
  rw [hj2, show flatT zs = zs.flatMap eT from rfl, flat_get (enc := eT) (s := 2) (fun _ => rfl) zs (j / 2) (j % 2) hq] at hj
  obtain ⟨x, hx, hj⟩ := Option.bind_eq_some_iff.1 hj
  obtain ⟨b', off', e, u1, u2⟩ := hc _ x hx
  cases e
  rcases (show j % 2 = 0 ∨ j % 2 = 1 by omega) with h0 | h0
  · rw [h0] at hj
    simp [eT] at hj
    subst hj
    rw [show off + j = off + j / 2 * 2 by omega]; exact u1
  · rw [h0] at hj
    simp [eT] at hj
    subst hj
    rw [show off + j = off + j / 2 * 2 + 1 by omega]; exact u2
theorem SlT.ofRow {W : World} {base : Nat} {v : Value} {zs : List (Int × Int)} (h : W.ownsRow base 27 2 v zs.length (flatT zs)) : SlT W v zs := by
  have h' := h
  rcases h.2 with ⟨rfl, h0⟩ | ⟨g, cap, cur, rfl, hb, hg, hn, hm, hs, ht⟩
  · obtain rfl : zs = [] := List.length_eq_zero_iff.1 h0
    exact SlT.nil W
  · refine ⟨_, cap, rfl, hn, hm, fun i x hi => ⟨g, 0, rfl, ?_, ?_⟩⟩
    · have := World.ownsRow.cellAt h' (i * 2 + 0) (by have := (List.getElem?_eq_some_iff.1 hi).1; omega)
      rw [show flatT zs = zs.flatMap eT from rfl, flat_get (enc := eT) (s := 2) (fun _ => rfl) zs i 0 (by omega)] at this
      rw [hi] at this
      simpa [eT] using this
    · have := World.ownsRow.cellAt h' (i * 2 + 1) (by have := (List.getElem?_eq_some_iff.1 hi).1; omega)
      rw [show flatT zs = zs.flatMap eT from rfl, flat_get (enc := eT) (s := 2) (fun _ => rfl) zs i 1 (by omega)] at this
      rw [hi] at this
      simpa [eT] using this

theorem info27 : (Try.prog.info? 27).map (fun i => (i.zero, i.size, i.bytes)) = some (some (Value.agg #[.int .i64 0, .int .i64 0]), 2, 16) := by kernel_rfl

/-- append of any slice of things that reads behind a row that is owned. -/
theorem app_slT (w : World) (base : Nat) (v : Value) (ds : List (Int × Int)) (hown : w.ownsRow base 27 2 v ds.length (flatT ds)) (p : Option Addr) (c : Nat) (zs : List (Int × Int)) (hz : SlT w (.slice p zs.length c) zs) (b1 : ds.length + zs.length ≤ 1000) (b3 : base ≤ w.heap.size) :
    ∃ v' w', AppOk Try.prog 29 29 w v (.slice p zs.length c) ∧ appV Try.prog 29 29 w v (.slice p zs.length c) = v' ∧ appW Try.prog 29 29 w v (.slice p zs.length c) = w' ∧ w'.ownsRow base 27 2 v' (ds ++ zs).length (flatT (ds ++ zs)) ∧ w.grownBy w' v.ownBlock ∧ (v'.ownBlock = v.ownBlock ∨ v'.ownBlock = some w.heap.size) := by
  obtain ⟨i0, hi, hz0, hz1, hz2⟩ := info_parts info27
  cases p with
  | none =>
    have hzn : zs = [] := by
      cases zs with
      | nil => rfl
      | cons x r => obtain ⟨_, _, e, _, _, hc⟩ := hz; cases e; obtain ⟨b, off, h, _⟩ := hc 0 x rfl; cases h
    subst hzn
    obtain ⟨pv, cv, rfl⟩ := row_slice hown
    have hkc : ds.length ≤ cv ∧ (pv = none → ds.length = 0 ∧ cv = 0) := by
      rcases hown.2 with ⟨h, h0⟩ | ⟨g, cap, cur, h, _, _, h3, _⟩
      · rw [Value.slice.injEq] at h
        obtain ⟨_, _, h2⟩ := h
        exact ⟨by omega, fun _ => ⟨h0, h2⟩⟩
      · cases h; exact ⟨h3, fun h => by cases h⟩
    have hrun := run_append_nothing (P := Try.prog) w (ty := 29) Try.underlying29 hi pv ds.length cv c hkc.1 hkc.2
    refine ⟨_, w, ⟨_, _, hrun⟩, ?_, ?_, by simpa using hown, ⟨rfl, rfl, rfl, Nat.le_refl _, fun _ _ _ => rfl⟩, .inl rfl⟩
    · unfold appV appR; rw [show (Builtin.append_ #[29, 29] 29 #[.slice pv ds.length cv, .slice none ([] : List (Int × Int)).length c]).run Try.prog w = _ from hrun]
    · unfold appW appR; rw [show (Builtin.append_ #[29, 29] 29 #[.slice pv ds.length cv, .slice none ([] : List (Int × Int)).length c]).run Try.prog w = _ from hrun]
  | some ad =>
    by_cases hzn : zs = []
    · subst hzn
      obtain ⟨v', w', h1, h2, h3, h4, h5, h6⟩ := app_own (P := Try.prog) w base 29 29 27 i0 _ 2 16 Try.underlying29 hi hz0 hz1 hz2 rfl (by decide) v ds.length (flatT ds) hown ad 0 c [] rfl (by simp) (by simp) (by unfold maxLen; omega) (by omega) b3
      exact ⟨v', w', h1, h2, h3, by simpa using h4, h5, h6⟩
    · obtain ⟨b, off, e⟩ : ∃ b off, ad = ⟨b, off, none⟩ := by
        obtain ⟨p', cap', e, _, _, hc⟩ := hz
        cases e
        cases zs with
        | nil => exact absurd rfl hzn
        | cons x r => obtain ⟨b, off, h, _⟩ := hc 0 x rfl; cases h; exact ⟨b, off, rfl⟩
      subst e
      obtain ⟨v', w', h1, h2, h3, h4, h5, h6⟩ := app_own (P := Try.prog) w base 29 29 27 i0 _ 2 16 Try.underlying29 hi hz0 hz1 hz2 rfl (by decide) v ds.length (flatT ds) hown ⟨b, off, none⟩ zs.length c (flatT zs) (flatT_length zs) (flatT_cells hz) (flatT_one zs) (by unfold maxLen; omega) (by omega) b3
      exact ⟨v', w', h1, h2, h3, by rw [List.length_append, ← flatT_app]; exact h4, h5, h6⟩

/-- Remove's question: the same key. -/
theorem same_fun (X : Nat) (k t : Int) (W : World) (h : TBox W X k t) : PFun W 16 #[.pointer (some ⟨X, 0, none⟩)] (fun y => .bool (y.1 == k)) (fun j => j = X) := by
  refine ⟨fun W => TBox W X k t, ⟨?_, ?_, ?_⟩, h, ?_, enters_of Try.func16 (by kernel_rfl) rfl⟩
  · rintro _ W h j rfl
    exact h.lt
  · rintro _ W W' h _ hk
    exact (hk X rfl).trans h
  · rintro _ x W h
    have hl := h.lt
    have h' : TBox (W.alloc (.cells #[.int .i64 x.1, .int .i64 x.2] 27)) X k t := (Below.heap_alloc W _ X hl).trans h
    obtain ⟨c1, c2⟩ := h'.cells
    refine callsIn_of_wp Try.func16 rfl trivial ?_
    simp only [Try.ntmps16, List.size_toArray, List.length_cons, List.length_nil, Nat.reduceAdd, Nat.reduceSub, Array.replicate_succ, Array.replicate_zero, List.push_toArray, List.append_toArray, List.nil_append, List.cons_append]
    gi_wp2
    go_ret
    exact ⟨rfl, h', (Chg.refl _ W).alloc _⟩
  · rintro W W' h h' k rfl
    exact (show W'.heap[k]? = _ from h').trans (show W.heap[k]? = _ from h).symm

set_option maxRecDepth 100000 in
set_option maxHeartbeats 2000000 in
/-- Where a thing has its place: behind all that are not above it. -/
theorem place_in (p : Option Addr) (cap : Nat) (zs : List (Int × Int)) (hz : zs.length ≤ 1000) (x1 x2 : Int) (w : World) (h : SlT w (.slice p zs.length cap) zs) :
    CallsIn Fence.wide 0 Try.prog 13 #[.slice p zs.length cap, .agg #[.int .i64 x1, .int .i64 x2]] w fun e w' => ∃ k : Nat, e = .returned (.int .i64 k) ∧ k ≤ zs.length ∧ (∀ i (hi : i < zs.length), k ≤ i → x1 < zs[i].1) ∧ (∀ (hk : k - 1 < zs.length), 0 < k → zs[k - 1].1 ≤ x1) ∧ Chg No w w' := by
  have hmix : Try.prog.follows .mixedOrders = true := by kernel_rfl
  refine callsIn_of_wp Try.func13 rfl trivial ?_
  simp only [Try.ntmps13, List.size_toArray, List.length_cons, List.length_nil, Nat.reduceAdd, Nat.reduceSub, Array.replicate_succ, Array.replicate_zero, List.push_toArray, List.append_toArray, List.nil_append, List.cons_append]
  gi_wp2
  have c0 : Chg No w (w.alloc (.cells #[.int .i64 x1, .int .i64 x2] 27)) := (Chg.refl _ w).alloc _
  have hX : TBox (w.alloc (.cells #[.int .i64 x1, .int .i64 x2] 27)) w.heap.size x1 x2 := World.alloc_heap_new w _
  gi_loopw [5] (fun v wr => ∃ k : Nat, k ≤ zs.length ∧ v = .int .i64 (k : Int) ∧ Hid (∀ i (hi : i < zs.length), k ≤ i → x1 < zs[i].1) ∧ Chg No w wr ∧ TBox wr w.heap.size x1 x2) (fun v _ => (intOf v).toNat)
  case atStart => exact ⟨zs.length, Nat.le_refl _, rfl, fun i hi h => absurd hi (by omega), c0, hX⟩
  case round =>
    obtain ⟨k, hk, rfl, HA, c, hx⟩ := hrel
    obtain ⟨m1, m2⟩ := hx.cells
    by_cases hk0 : k = 0
    · subst hk0
      gi_wp2
      gi_big_quiet_th_o (fail)
      gi_wp2
      go_ret
      exact ⟨0, rfl, Nat.zero_le _, HA.out, fun _ h => absurd h (by omega), drewNC c _⟩
    · obtain ⟨j, rfl⟩ : ∃ j, k = j + 1 := ⟨k - 1, by omega⟩
      have hj : j < zs.length := by omega
      have hjZ : (j : Int) < (zs.length : Int) := by omega
      obtain ⟨p', cap', e, h1, h2, hc⟩ := h.chg c (fun _ _ h => h)
      cases e
      obtain ⟨b, off, rfl, u1, u2⟩ := hc j zs[j] (by simp [hj])
      obtain ⟨y, hy⟩ : ∃ y, zs[j].1 = y := ⟨_, rfl⟩
      rw [hy] at u1
      by_cases hgt : x1 < y
      · have hgt2 : (x1 < y) = True := eq_true hgt
        have HA2 : Hid (∀ i (hi : i < zs.length), j ≤ i → x1 < zs[i].1) := fun i hi h => by
          by_cases e : i = j
          · subst e; rw [hy]; exact hgt
          · exact HA.out i hi (by omega)
        clear hc hy
        gi_wp2
        gi_big_quiet_th_o (fail)
        gi_wp2
        go_roundw
        case rel => exact ⟨j, by omega, rfl, HA2, drewNC c _, hx⟩
        case measure => simp [intOf]
      · have hgt2 : (x1 < y) = False := eq_false hgt
        have HB : Hid (zs[j].1 ≤ x1) := by show _ ≤ _; rw [hy]; omega
        clear hc hy
        gi_wp2
        gi_big_quiet_th_o (fail)
        gi_wp2
        go_ret
        exact ⟨j + 1, by go_num, by omega, HA.out, fun _ _ => HB.out, drewNC c _⟩
end Go.Proofs.Ytaolebadamfodaa.T
