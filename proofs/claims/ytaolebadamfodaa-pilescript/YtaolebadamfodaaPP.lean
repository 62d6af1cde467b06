/-
  Put.
-/
import Derived.Test.YtaolebadamfodaaPR
import Derived.Test.YtaolebadamfodaaPQ
import Derived.Test.YtaolebadamfodaaApp
namespace Go.Proofs.Ytaolebadamfodaa
open Go.RowKit Go.Shelf Go.SeqLib Go.BigFrame Go.PileLib
attribute [local go_sem] Oper.semAt_some
attribute [local go_sem ↓] wpIn_append_pre

theorem info74 : (Try.prog.info? 74).map (fun i => (i.zero, i.size, i.bytes)) = some (some (Value.agg #[.int .i64 0, .int .i64 0]), 2, 16) := by kernel_rfl

/-- The items of a pile, and where they lie. -/
def PRow (W : World) (v : Value) (d : List (Int × Int)) : Prop := W.ownsRow 0 74 2 v d.length (flatI d)

theorem PBox.ne' {W : World} {B lf : Nat} {v u : Value} {puts : Int} (h : PBox W B lf v puts) {n : Nat} {xs : List Value} (h2 : W.ownsRow 0 74 2 u n xs) : u.ownBlock ≠ some B := by
  intro e
  rcases h2.2 with ⟨rfl, _⟩ | ⟨g', cap', cur, rfl, hb, hg, _⟩
  · cases e
  · cases e
    have := h.symm.trans hg
    simp at this
theorem flatI_app (d : List (Int × Int)) (y : Int × Int) : flatI d ++ eI y = flatI (d ++ [y]) := by simp [flatI]

/-- A pile that holds what L tells. -/
def Pile (B lf : Nat) (lt : Int → Int → Bool) (L : List (Int × Int)) (puts : Int) : Blk → World → Prop := fun S W =>
  ∃ v d, S = (fun k => k = B ∨ v.ownBlock = some k) ∧ PBox W B lf v puts ∧ PRow W v d ∧ PileLib.Good (bef lt) d L

/-- Those that are put one by one. -/
def putAll (lt : Int → Int → Bool) (L : List (Int × Int)) (n : Int) : List Int → List (Int × Int)
  | [] => L
  | x :: xs => putAll lt (ins (bef lt) L (x, n)) (n + 1) xs

set_option maxRecDepth 100000 in
set_option maxHeartbeats 4000000 in
theorem put_in {lf : Nat} {key : Int → Int} (hl : Less lf (ltK key)) (B : Nat) (L : List (Int × Int)) (puts : Int) (hp0 : 0 ≤ puts) (hp1 : puts ≤ 100000) (hlt : ∀ y ∈ L, y.2 < puts) (S : Blk) (p : Option Addr) (cap : Nat) (xs : List Int) (hlen : L.length + xs.length ≤ 100000) (hx : xs.length ≤ 100000) (w : World)
    (hP : Pile B lf (ltK key) L puts S w) (hxs : SlI w (.slice p xs.length cap) xs) (hD : ∀ k, slD (.slice p xs.length cap) xs k → ¬ S k) :
    CallsIn Fence.wide 0 Try.prog 22 #[.pointer (some ⟨B, 0, none⟩), .slice p xs.length cap] w fun e w' => e = .returned (.tuple #[]) ∧ ∃ S', Pile B lf (ltK key) (putAll (ltK key) L puts xs) (puts + xs.length) S' w' ∧ Chg S w w' ∧ Grew S w S' := by
  obtain ⟨i0, hi0, hz0, hz1, hz2⟩ := info_parts info74
  have hmix : Try.prog.follows .mixedOrders = true := by kernel_rfl
  obtain ⟨p', cap', e9, hc1, hc2, hcells⟩ := hxs
  cases e9
  refine callsIn_of_wp Try.func22 rfl trivial ?_
  simp only [Try.ntmps22, List.size_toArray, List.length_cons, List.length_nil, Nat.reduceAdd, Nat.reduceSub, Array.replicate_succ, Array.replicate_zero, List.push_toArray, List.append_toArray, List.nil_append, List.cons_append]
  gi_wp2
  gi_loopw [10] (fun i wr => ∃ (k : Nat) (M : List (Int × Int)) (Sk : Blk), k ≤ xs.length ∧ i = .int .i64 (k : Int) ∧ M.length = L.length + k ∧ (∀ y ∈ M, y.2 < puts + k) ∧ Hid (putAll (ltK key) M (puts + k) (xs.drop k) = putAll (ltK key) L puts xs) ∧
      Pile B lf (ltK key) M (puts + k) Sk wr ∧ Chg S w wr ∧ Grew S w Sk) (fun i _ => xs.length - (intOf i).toNat)
  case atStart => exact ⟨0, L, S, Nat.zero_le _, rfl, rfl, by simpa using hlt, by show _ = _; simp, by simpa using hP, Chg.refl _ _, Grew.refl _ _⟩
  case round =>
    obtain ⟨k, M, Sk, hk, rfl, hM, hlt2, HA, hPk, c, gr⟩ := hrel
    by_cases hlt : k < xs.length
    · obtain ⟨b, off, rfl, hcell⟩ := hcells k xs[k] (by simp [hlt])
      have hxs : xs ≠ [] := by rintro rfl; simp at hlt
      have hcw : wr.cell? ⟨b, off + k, none⟩ = some (.int .i64 xs[k]) := (World.cell?_of_block (a := ⟨b, off + k, none⟩) (c.block b (World.block_lt_of_cell? w _ hcell) (hD b ⟨hxs, rfl⟩))).trans hcell
      obtain ⟨x, hx⟩ : ∃ x, xs[k] = x := ⟨_, rfl⟩
      rw [hx] at hcw
      have HX : Hid (xs[k] = x) := hx
      clear hx hcell
      obtain ⟨v, d, rfl, hb, hr, hg⟩ := hPk
      obtain ⟨q0, q1, q2⟩ := hb.cells
      have f1 := hb.frozen 1
      have f2 := hb.frozen 2
      have hBl := hb.lt
      have HD : Hid (d.length = L.length + k) := hg.perm.length_eq.trans hM
      have hdl : d.length ≤ 200000 := by have := HD.out; omega
      have n1 : wr.heap.size ≠ B := by omega
      have hkZ : (k : Int) < (xs.length : Int) := by omega
      obtain ⟨n, hn⟩ : ∃ n, puts + (k : Int) = n := ⟨_, rfl⟩
      have HN : Hid (puts + (k : Int) = n) := hn
      rw [hn] at q2
      have hW1 : (wr.alloc (.cells #[.int .i64 x, .int .i64 n] 74)).drew.ownsRow 0 74 2 v d.length (flatI d) := rowKept hr (fun k e => (Below.heap_alloc wr _ k ((World.ownsRow.lt hr k e).2)))
      obtain ⟨v', w1, hok, hv', hw', hown', hgrow, hat⟩ := app_own (P := Try.prog) (wr.alloc (.cells #[.int .i64 x, .int .i64 n] 74)).drew 0 70 70 74 i0 _ 2 16 Try.underlying70 hi0 hz0 hz1 hz2 rfl (by decide) v d.length (flatI d) hW1 ⟨wr.heap.size, 0, none⟩ 1 1 (eI (x, n)) rfl (by
        intro j u hj
        match j, hj with
        | 0, hj => simp [eI] at hj; subst hj; simp [Addr.add]
        | 1, hj => simp [eI] at hj; subst hj; simp [Addr.add]) (by simp [eI, Value.oneCell']) (by unfold maxLen; omega) (by omega) (Nat.zero_le _)
      clear hn
      have hbW : PBox (wr.alloc (.cells #[.int .i64 x, .int .i64 n] 74)).drew B lf v (puts + k) := (Below.heap_alloc wr _ B hb.lt).trans hb
      have hb1 : PBox w1 B lf v (puts + k) := (hgrow.block B hbW.lt (fun e => hbW.ne' hW1 e.symm)).trans hbW
      rw [HN.out] at hb1
      have hb2 := hb1.set1 v'
      have hb3 := hb2.set2 (n + 1)
      obtain ⟨_, r1, _⟩ := hb1.cells
      have s1 := hb1.frozen 1
      obtain ⟨_, _, t2⟩ := hb2.cells
      have s2 := hb2.frozen 2
      obtain ⟨g', cap', rfl⟩ := ownsRow_succ hown'
      obtain ⟨_, u1, _⟩ := hb3.cells
      have hne' : B ≠ g' := fun e => hb1.ne' hown' (by rw [e]; rfl)
      have hIt : ItsAt ((w1.setCell ⟨B, 1, none⟩ (.slice (some ⟨g', 0, none⟩) (d.length + 1) cap')).setCell ⟨B, 2, none⟩ (.int .i64 (n + 1))) g' cap' (d ++ [(x, n)]) := by
        unfold ItsAt
        rw [← flatI_app, List.length_append, List.length_singleton]
        exact rowKept hown' (fun k e => by cases e; exact (Below.heap_setCell _ _ _ _ (Ne.symm hne')).trans (Below.heap_setCell _ _ _ _ (Ne.symm hne')))
      have hnb : -1000000 ≤ n ∧ n ≤ 1000000 := by have := HN.out; omega
      obtain ⟨hnb1, hnb2⟩ := hnb
      gi_wp2
      gi_region_o
      all_goals gi_wp2_with fail
      have hlen' : (d ++ [(x, n)]).length = d.length + 1 := by simp
      have hr3 := rise_in hl (bef_ord key) B g' cap' (n + 1) (d ++ [(x, n)]) d.length _ (by rw [hlen']; omega) (by rw [hlen']; omega) (by rw [hlen']; exact hb3) hIt (heap_put hg.heap (x, n))
      refine ⟨trivial, rfl, hr3.mono ?_⟩
      rintro e w2 ⟨rfl, d2, hpm, hh, hI2, c2⟩
      have hb4 : PBox w2 B lf (.slice (some ⟨g', 0, none⟩) (d.length + 1) cap') (n + 1) := c2.same hb3 hne'
      have c1 : Chg (fun k => k = B ∨ v.ownBlock = some k) wr ((w1.setCell ⟨B, 1, none⟩ (.slice (some ⟨g', 0, none⟩) (d.length + 1) cap')).setCell ⟨B, 2, none⟩ (.int .i64 (n + 1))) :=
        (((((Chg.refl _ wr).alloc _).drew).grown hgrow (fun k e => .inl (.inr e))).setCell (p := ⟨B, 1, none⟩) (.inl (.inl rfl)) _).setCell (p := ⟨B, 2, none⟩) (.inl (.inl rfl)) _
      have gg : v.ownBlock = some g' ∨ wr.heap.size ≤ g' := by
        rcases hat with h | h
        · exact .inl h.symm
        · cases h; exact .inr (by simp)
      have c3 : Chg (fun k => k = B ∨ v.ownBlock = some k) wr w2 := c1.trans c2 (fun k hk => by
        subst hk
        rcases gg with h | h
        · exact .inl (.inr h)
        · exact .inr h)
      have g3 : Grew (fun k => k = B ∨ v.ownBlock = some k) wr (fun k => k = B ∨ (Value.slice (some ⟨g', 0, none⟩) (d.length + 1) cap').ownBlock = some k) := by
        rintro k (h | h)
        · exact .inl (.inl h)
        · cases h
          rcases gg with h | h
          · exact .inl (.inr h)
          · exact .inr h
      have hgood : PileLib.Good (bef (ltK key)) d2 (ins (bef (ltK key)) M (x, n)) :=
        ⟨hh, hpm.trans ((hg.perm.append_right [(x, n)]).trans (ins_perm M (x, n)).symm), ins_sort (bef_ord key) hg.sort (fun y hy hf => bef_new key y (x, n) (by have := hlt2 y hy; rw [HN.out] at this; exact this) hf)⟩
      have hd2 : d2.length = d.length + 1 := hpm.length_eq.trans hlen'
      have hrow2 : PRow w2 (.slice (some ⟨g', 0, none⟩) (d.length + 1) cap') d2 := by
        have := hI2
        unfold ItsAt at this
        unfold PRow
        rw [hd2] at this ⊢
        exact this
      have HP : Hid (Pile B lf (ltK key) (ins (bef (ltK key)) M (x, n)) (n + 1) (fun k => k = B ∨ (Value.slice (some ⟨g', 0, none⟩) (d.length + 1) cap').ownBlock = some k) w2) := ⟨_, d2, rfl, hb4, hrow2, hgood⟩
      have HL : Hid ((ins (bef (ltK key)) M (x, n)).length = L.length + (k + 1)) := by
        have := (ins_perm (r := bef (ltK key)) M (x, n)).length_eq
        show _ = _
        rw [this]; simp; omega
      have HE : Hid (putAll (ltK key) (ins (bef (ltK key)) M (x, n)) (n + 1) (xs.drop (k + 1)) = putAll (ltK key) L puts xs) := by
        show _ = _
        rw [← HA.out, List.drop_eq_getElem_cons hlt, HX.out, HN.out]
        rfl
      have HLT : Hid (∀ y ∈ ins (bef (ltK key)) M (x, n), y.2 < n + 1) := fun y hy => by
        have := (ins_perm (r := bef (ltK key)) M (x, n)).mem_iff.1 hy
        rcases List.mem_append.1 this with h | h
        · have := hlt2 y h; rw [HN.out] at this; omega
        · simp at h; subst h; show n < n + 1; omega
      clear hd2 hlen' hr3 hgood hrow2 hb4 hb1 hb2 hb3 hI2 hIt hown'
      gi_wp2
      go_roundw
      case rel =>
        have e9 : puts + ((k + 1 : Nat) : Int) = n + 1 := by have := HN.out; omega
        refine ⟨k + 1, ins (bef (ltK key)) M (x, n), _, hlt, by go_num, HL.out, ?_, ?_, ?_, c.trans c3 gr, gr.trans g3 c.size⟩
        · rw [e9]; exact HLT.out
        · rw [e9]; exact HE
        · rw [e9]; exact HP.out
      case measure => simp [intOf]; omega
    · obtain rfl : k = xs.length := by omega
      have HA2 : Hid (putAll (ltK key) L puts xs = M) := by
        have := HA.out
        rw [List.drop_length] at this
        exact this.symm
      have HPk : Hid (Pile B lf (ltK key) M (puts + (xs.length : Int)) Sk wr) := hPk
      clear hPk
      gi_wp2
      go_end0
      rw [HA2.out]
      exact ⟨rfl, Sk, HPk.out, c, gr⟩

set_option maxHeartbeats 1000000 in
theorem put_nil (v : Value) (w : World) : CallsIn Fence.wide 0 Try.prog 22 #[.pointer none, v] w fun e w' => e = .returned (.tuple #[]) ∧ w' = w := by
  refine callsIn_of_wp Try.func22 rfl trivial ?_
  simp only [Try.ntmps22, List.size_toArray, List.length_cons, List.length_nil, Nat.reduceAdd, Nat.reduceSub, Array.replicate_succ, Array.replicate_zero, List.push_toArray, List.append_toArray, List.nil_append, List.cons_append]
  gi_wp2
  refine bodyPost_ret (results_none rfl _ _ _) rfl ?_
  exact ⟨rfl, rfl⟩
end Go.Proofs.Ytaolebadamfodaa
