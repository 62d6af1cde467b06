/-
  The iterators of seq.Of, seq.Count and seq.none keep an iterator's word: the numbers of the list; those from lo to below hi; none.
-/
import Derived.Test.YtkfcbfmfkheceaaDoorBase
namespace Go.Proofs.YtkfcbfmfkheceaaDoor
open Go.RowKit Go.Shelf Go.SeqLib
attribute [local go_sem] Oper.semAt_some

/-- lo, the next number, and so on: m of them. -/
def upto (lo : Int) (m : Nat) : List Int := (List.range m).map fun (i : Nat) => lo + (i : Int)
theorem upto_succ (lo : Int) (m : Nat) : upto lo (m + 1) = upto lo m ++ [lo + (m : Int)] := by simp [upto, List.range_succ]
theorem upto_pre (lo : Int) {k m : Nat} (h : k ≤ m) : upto lo k <+: upto lo m := by
  unfold upto
  refine List.IsPrefix.map _ ?_
  obtain ⟨d, rfl⟩ := Nat.exists_eq_add_of_le h
  exact ⟨_, List.range_add.symm⟩

set_option maxHeartbeats 1000000 in
theorem none1 : Iter Tryd.prog 28 #[] encI [] (fun _ => False) (fun _ => False) (fun _ => True) (fun _ _ => True) := {
  sub := fun _ h => h
  lt0 := fun _ _ h => h.elim
  kept0 := fun _ _ _ => trivial
  kept := fun _ _ _ => trivial
  runs := by
    intro l J Jx S W pJ pJx hY hI hJ hDS
    refine callsIn_of_wp Tryd.func28 rfl trivial ?_
    simp only [Tryd.ntmps28, List.size_toArray, List.length_cons, List.length_nil, Nat.reduceAdd, Nat.reduceSub, Array.replicate_succ, Array.replicate_zero, List.push_toArray, List.append_toArray, List.nil_append, List.cons_append]
    gi_wp2
    go_end0
    exact ⟨⟨_, rfl⟩, [], S, .inl ⟨rfl, hJ⟩, trivial, Chg.refl _ _, Grew.refl _ _⟩ }

set_option maxRecDepth 100000 in
set_option maxHeartbeats 1000000 in
theorem count1 (lo hi : Int) (h1 : -1000000 ≤ lo) (h2 : lo ≤ 1000000) (h3 : -1000000 ≤ hi) (h4 : hi ≤ 1000000) (Bl Bh : Nat) :
    Iter Tryd.prog 35 #[.pointer (some ⟨Bl, 0, none⟩), .pointer (some ⟨Bh, 0, none⟩)] encI (upto lo (hi - lo).toNat) (fun k => k = Bl ∨ k = Bh) (fun _ => False)
      (fun W => Boxed W Bl 3 (.int .i64 lo) ∧ Boxed W Bh 3 (.int .i64 hi)) (fun _ W => Boxed W Bl 3 (.int .i64 lo) ∧ Boxed W Bh 3 (.int .i64 hi)) := {
  sub := fun _ h => h.elim
  lt0 := by
    rintro W ⟨b1, b2⟩ k (rfl | rfl)
    · exact b1.lt
    · exact b2.lt
  kept0 := by
    rintro W W' ⟨b1, b2⟩ _ hk
    exact ⟨(hk _ (.inl rfl)).trans b1, (hk _ (.inr rfl)).trans b2⟩
  kept := by
    rintro pre W W' ⟨b1, b2⟩ _ hk
    exact ⟨(hk _ (.inl rfl)).trans b1, (hk _ (.inr rfl)).trans b2⟩
  runs := by
    intro l J Jx S W pJ pJx hY hI hJ hDS
    obtain ⟨b1, b2⟩ := hI
    have hc1 := b1.cell
    obtain ⟨m, hm⟩ : ∃ m, (hi - lo).toNat = m := ⟨_, rfl⟩
    rw [hm] at hY ⊢
    have HM : Hid ((hi - lo).toNat = m) := hm
    clear hm
    refine callsIn_of_wp Tryd.func35 rfl trivial ?_
    simp only [Tryd.ntmps35, List.size_toArray, List.length_cons, List.length_nil, Nat.reduceAdd, Nat.reduceSub, Array.replicate_succ, Array.replicate_zero, List.push_toArray, List.append_toArray, List.nil_append, List.cons_append]
    gi_wp2
    gi_loopw [4] (fun i wr => ∃ (k : Nat) (So : Blk), k ≤ m ∧ i = .int .i64 (lo + (k : Int)) ∧ J (upto lo k) So wr ∧ Boxed wr Bl 3 (.int .i64 lo) ∧ Boxed wr Bh 3 (.int .i64 hi) ∧ Chg S W wr ∧ Grew S W So)
      (fun i _ => m - (intOf i - lo).toNat)
    case atStart => exact ⟨0, S, Nat.zero_le _, by simp, hJ, b1, b2, Chg.refl _ _, Grew.refl _ _⟩
    case round =>
      obtain ⟨k, So, hk, rfl, j, b3, b4, c, g⟩ := hrel
      have hcl := b4.cell
      have hm9 := HM.out
      by_cases hlt : k < m
      · have hl2 : lo + (k : Int) < hi := by omega
        clear hm9
        obtain ⟨fnr, tmps, assign, body, hy, hR⟩ := hY (upto lo k) (lo + k) So wr (by rw [← upto_succ]; exact upto_pre lo hlt) j
        gi_wp2
        refine ⟨rfl, hR.mono ?_⟩
        rintro e W3 ⟨S3, c3, g3, (⟨rfl, j3⟩ | ⟨rfl, j3⟩)⟩
        · have hB : ∀ B, B = Bl ∨ B = Bh → B < W.heap.size → ¬ So B := fun B hB hlt h => by
            rcases g B h with h5 | h5
            · exact hDS B hB h5
            · omega
          have cc := c.trans c3 g
          have gg := g.trans g3 c.size
          have b5 := c3.boxed b3 (hB _ (.inl rfl) b1.lt)
          have b6 := c3.boxed b4 (hB _ (.inr rfl) b2.lt)
          gi_wp2
          go_roundw
          case rel => exact ⟨k + 1, S3, hlt, by go_num, by rw [upto_succ]; exact j3, b5, b6, cc, gg⟩
          case measure => simp [intOf]; omega
        · have hB : ∀ B, B = Bl ∨ B = Bh → B < W.heap.size → ¬ So B := fun B hB hlt h => by
            rcases g B h with h5 | h5
            · exact hDS B hB h5
            · omega
          have cc := c.trans c3 g
          have gg := g.trans g3 c.size
          have b5 := c3.boxed b3 (hB _ (.inl rfl) b1.lt)
          have b6 := c3.boxed b4 (hB _ (.inr rfl) b2.lt)
          gi_wp2
          refine bodyPost_ret (results_none rfl _ _ _) rfl ?_
          exact ⟨⟨_, rfl⟩, _, S3, .inr ⟨by rw [← upto_succ]; exact upto_pre lo hlt, j3⟩, ⟨b5, b6⟩, cc.mono (fun _ => .inr), gg⟩
      · have hl2 : hi ≤ lo + (k : Int) := by omega
        obtain rfl : k = m := by omega
        clear hm9
        gi_wp2
        go_end0
        exact ⟨⟨_, rfl⟩, _, So, .inl ⟨rfl, j⟩, ⟨b3, b4⟩, c.mono (fun _ => .inr), g⟩ }

set_option maxRecDepth 100000 in
set_option maxHeartbeats 1000000 in
theorem of1 (v : Value) (zs : List Int) (Bk : Nat) (hD : ¬ slD v zs Bk) :
    Iter Tryd.prog 25 #[.pointer (some ⟨Bk, 0, none⟩)] encI zs (fun k => k = Bk ∨ slD v zs k) (fun _ => False)
      (fun W => Boxed W Bk 22 v ∧ SlI W v zs) (fun _ W => Boxed W Bk 22 v ∧ SlI W v zs) := {
  sub := fun _ h => h.elim
  lt0 := by
    rintro W ⟨b1, b2⟩ k (rfl | h)
    · exact b1.lt
    · exact b2.lt k h
  kept0 := by
    rintro W W' ⟨b1, b2⟩ _ hk
    exact ⟨(hk _ (.inl rfl)).trans b1, b2.kept (fun k h => hk k (.inr h))⟩
  kept := by
    rintro pre W W' ⟨b1, b2⟩ _ hk
    exact ⟨(hk _ (.inl rfl)).trans b1, b2.kept (fun k h => hk k (.inr h))⟩
  runs := by
    intro l J Jx S W pJ pJx hY hI hJ hDS
    obtain ⟨b1, b2⟩ := hI
    have b2' := b2
    obtain ⟨p, cap, rfl, hcap, hmax, hcells⟩ := b2
    have hc1 := b1.cell
    have hml : zs.length ≤ maxLen := by omega
    unfold maxLen at hml
    refine callsIn_of_wp Tryd.func25 rfl trivial ?_
    simp only [Tryd.ntmps25, List.size_toArray, List.length_cons, List.length_nil, Nat.reduceAdd, Nat.reduceSub, Array.replicate_succ, Array.replicate_zero, List.push_toArray, List.append_toArray, List.nil_append, List.cons_append]
    gi_wp2
    gi_loopw [7] (fun i wr => ∃ (k : Nat) (So : Blk), k ≤ zs.length ∧ i = .int .i64 (k : Int) ∧ J (zs.take k) So wr ∧ Chg S W wr ∧ Grew S W So)
      (fun i _ => zs.length - (intOf i).toNat)
    case atStart => exact ⟨0, S, Nat.zero_le _, rfl, hJ, Chg.refl _ _, Grew.refl _ _⟩
    case round =>
      obtain ⟨k, So, hk, rfl, j, c, g⟩ := hrel
      have hfin : ∀ {W9 : World}, Chg S W W9 → Boxed W9 Bk 22 (.slice p zs.length cap) ∧ SlI W9 (.slice p zs.length cap) zs := fun c9 => ⟨c9.boxed b1 (hDS _ (.inl rfl)), b2'.chg c9 (fun k hk => hDS k (.inr hk))⟩
      by_cases hlt : k < zs.length
      · obtain ⟨b, off, rfl, hcell⟩ := hcells k zs[k] (by simp [hlt])
        have hzs : zs ≠ [] := by rintro rfl; simp at hlt
        have hcw : wr.cell? ⟨b, off + k, none⟩ = some (.int .i64 zs[k]) := (World.cell?_of_block (a := ⟨b, off + k, none⟩) (c.block b (World.block_lt_of_cell? W _ hcell) (hDS b (.inr ⟨hzs, rfl⟩)))).trans hcell
        have hts : zs.take (k + 1) = zs.take k ++ [zs[k]] := by rw [List.take_succ_eq_append_getElem hlt]
        have HT : Hid (zs.take (k + 1) = zs.take k ++ [zs[k]]) := hts
        have hpr : zs.take k ++ [zs[k]] <+: zs := by rw [← hts]; exact List.take_prefix _ _
        clear hts hcell
        obtain ⟨x, hx⟩ : ∃ x, zs[k] = x := ⟨_, rfl⟩
        rw [hx] at hcw hpr
        have HX : Hid (zs[k] = x) := hx
        clear hx
        obtain ⟨fnr, tmps, assign, body, hy, hR⟩ := hY (zs.take k) x So wr hpr j
        gi_wp2
        refine ⟨rfl, hR.mono ?_⟩
        rintro e W3 ⟨S3, c3, g3, (⟨rfl, j3⟩ | ⟨rfl, j3⟩)⟩
        · have cc := c.trans c3 g
          have gg := g.trans g3 c.size
          gi_wp2
          go_roundw
          case rel => exact ⟨k + 1, S3, hlt, by go_num, by rw [HT.out, HX.out]; exact j3, cc, gg⟩
          case measure => simp [intOf]; omega
        · have cc := c.trans c3 g
          have gg := g.trans g3 c.size
          gi_wp2
          refine bodyPost_ret (results_none rfl _ _ _) rfl ?_
          exact ⟨⟨_, rfl⟩, _, S3, .inr ⟨hpr, j3⟩, hfin cc, cc.mono (fun _ => .inr), gg⟩
      · obtain rfl : k = zs.length := by omega
        gi_wp2
        go_end0
        exact ⟨⟨_, rfl⟩, _, So, .inl ⟨List.take_length, j⟩, hfin c, c.mono (fun _ => .inr), g⟩ }

end Go.Proofs.YtkfcbfmfkheceaaDoor
