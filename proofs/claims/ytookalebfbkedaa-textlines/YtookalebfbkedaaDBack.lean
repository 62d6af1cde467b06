/-
  slices.Backward's iterator keeps an iterator's word: the places of the list from the last one to the first, each with what stands there.
-/
import Derived.Test.YtookalebfbkedaaTxt
import Derived.Test.YtookalebfbkedaaSeqN
namespace Go.Proofs.Ytookalebfbkedaa
open Go.RowKit Go.Shelf Go.SeqLib
attribute [local go_sem] Oper.semAt_some

/-- The places from n - 1 down to k. -/
def dn (n k : Nat) : List Nat := (List.range n).reverse.take (n - k)
theorem dn_self (n : Nat) : dn n n = [] := by simp [dn]
theorem dn_zero (n : Nat) : dn n 0 = (List.range n).reverse := by
  unfold dn; rw [List.take_of_length_le]; simp
theorem dn_step {n k : Nat} (h : k < n) : dn n (k + 1) ++ [k] = dn n k := by
  unfold dn
  have hl : (List.range n).reverse.length = n := by simp
  rw [show n - k = (n - (k + 1)) + 1 by omega, List.take_succ_eq_append_getElem (by rw [hl]; omega)]
  congr 2
  rw [List.getElem_reverse, List.getElem_range]
  simp; omega
theorem dn_pre (n k : Nat) : dn n k <+: (List.range n).reverse := List.take_prefix _ _

/-- A place, and what stands there, as yield takes them. -/
abbrev encB (zs : List ByteArray) (i : Nat) : Array Value := #[.int .i64 (i : Int), .string (zs.getD i ⟨#[]⟩)]

set_option maxRecDepth 100000 in
set_option maxHeartbeats 1000000 in
theorem back1 (v : Value) (zs : List ByteArray) (hzs : zs.length ≤ 1000000) (Bk : Nat) :
    IterB Try.prog 65 #[.pointer (some ⟨Bk, 0, none⟩)] (encB zs) (List.range zs.length).reverse (fun k => k = Bk ∨ svD v (zs.map Value.string) k)
      (fun W => Boxed W Bk 29 v ∧ SlV W v (zs.map Value.string)) := {
  lt0 := by
    rintro W ⟨b1, b2⟩ k (rfl | h)
    · exact b1.lt
    · exact b2.lt k h
  kept0 := by
    rintro W W' ⟨b1, b2⟩ _ hk
    exact ⟨(hk _ (.inl rfl)).trans b1, b2.kept (fun k h => hk k (.inr h))⟩
  runs := by
    intro l J Jx S W hY hI hJ hDS
    obtain ⟨b1, b2⟩ := hI
    have b2' := b2
    obtain ⟨p, cap, rfl, hcap, hmax, hcells⟩ := b2
    have hc1 := b1.cell
    obtain ⟨n, HN⟩ : ∃ n, Hid (zs.length = n) := ⟨_, rfl⟩
    have hmn : (zs.map Value.string).length = n := by rw [List.length_map]; exact HN.out
    have hfin : ∀ {W9 : World}, Chg S W W9 → Boxed W9 Bk 29 (.slice p (zs.map Value.string).length cap) ∧ SlV W9 (.slice p (zs.map Value.string).length cap) (zs.map Value.string) := fun c9 => ⟨c9.boxed b1 (hDS _ (.inl rfl)), b2'.chg c9 (fun k hk => hDS k (.inr hk))⟩
    rw [HN.out] at hY hzs ⊢
    have hcap' : n ≤ cap := by omega
    have HF : Hid (∀ {W9 : World}, Chg S W W9 → Boxed W9 Bk 29 (.slice p (zs.map Value.string).length cap) ∧ SlV W9 (.slice p (zs.map Value.string).length cap) (zs.map Value.string)) := hfin
    have HD : Hid (∀ k, k = Bk ∨ svD (.slice p (zs.map Value.string).length cap) (zs.map Value.string) k → ¬ S k) := hDS
    have HC : Hid (∀ i x, (zs.map Value.string)[i]? = some x → ∃ b off, p = some ⟨b, off, none⟩ ∧ W.cell? ⟨b, off + i, none⟩ = some x) := hcells
    have hbx : Boxed W Bk 29 (.slice p n cap) := by rw [← hmn]; exact b1
    have hc2 := hbx.cell
    clear hfin hDS hcells hcap b2' hc1 b1 hmn
    refine callsIn_of_wp Try.func65 rfl trivial ?_
    simp only [Try.ntmps65, List.size_toArray, List.length_cons, List.length_nil, Nat.reduceAdd, Nat.reduceSub, Array.replicate_succ, Array.replicate_zero, List.push_toArray, List.append_toArray, List.nil_append, List.cons_append]
    gi_wp2
    gi_loopw [3] (fun i wr => ∃ (k : Nat) (So : Blk), k ≤ n ∧ i = .int .i64 ((k : Int) - 1) ∧ J (dn n k) So wr ∧ Chg S W wr ∧ Grew S W So)
      (fun i _ => (intOf i + 1).toNat)
    case atStart => exact ⟨n, S, Nat.le_refl _, by go_num, by rw [dn_self]; exact hJ, Chg.refl _ _, Grew.refl _ _⟩
    case round =>
      obtain ⟨k, So, hk, rfl, j, c, g⟩ := hrel
      by_cases hlt : 0 < k
      · obtain ⟨m, rfl⟩ : ∃ m, k = m + 1 := ⟨k - 1, by omega⟩
        have hmz : m < zs.length := by rw [HN.out]; omega
        obtain ⟨b, off, rfl, hcell⟩ := HC.out m (.string zs[m]) (by simp [hmz])
        have hzne : zs.map Value.string ≠ [] := by intro h; have := congrArg List.length h; simp at this; subst this; simp at hmz
        have hcw : wr.cell? ⟨b, off + m, none⟩ = some (.string zs[m]) := (World.cell?_of_block (a := ⟨b, off + m, none⟩) (c.block b (World.block_lt_of_cell? W _ hcell) (HD.out b (.inr ⟨hzne, rfl⟩)))).trans hcell
        have hbw : Boxed wr Bk 29 (.slice (some ⟨b, off, none⟩) n cap) := c.boxed hbx (HD.out Bk (.inl rfl))
        have hbc := hbw.cell
        have HX : Hid (zs.getD m ⟨#[]⟩ = zs[m]) := by
          show _ = _
          simp [List.getD, hmz]
        clear hcell hc2
        obtain ⟨x, hx⟩ : ∃ x, zs[m] = x := ⟨_, rfl⟩
        rw [hx] at hcw
        have hX2 : zs.getD m ⟨#[]⟩ = x := HX.out.trans hx
        clear hx HX
        have hpr : dn n (m + 1) ++ [m] <+: (List.range n).reverse := by rw [dn_step (by omega)]; exact dn_pre n m
        have HP : Hid (dn n (m + 1) ++ [m] = dn n m) := dn_step (by omega)
        obtain ⟨fnr, tmps, assign, body, hy, hR⟩ := hY (dn n (m + 1)) m So wr hpr j
        simp only [encB, hX2] at hy
        have hm0 : ((m + 1 : Nat) : Int) - 1 = (m : Int) := by omega
        rw [hm0]
        clear hX2
        gi_wp2
        refine ⟨rfl, hR.mono ?_⟩
        rintro e W3 ⟨S3, c3, g3, (⟨rfl, j3⟩ | ⟨rfl, j3⟩)⟩
        · have cc := c.trans c3 g
          have gg := g.trans g3 c.size
          gi_wp2
          go_roundw
          case rel => exact ⟨m, S3, by omega, by go_num, by rw [← HP.out]; exact j3, cc, gg⟩
          case measure => simp [intOf]
        · have cc := c.trans c3 g
          have gg := g.trans g3 c.size
          gi_wp2
          refine bodyPost_ret (results_none rfl _ _ _) rfl ?_
          exact ⟨⟨_, rfl⟩, _, S3, .inr ⟨hpr, j3⟩, HF.out cc, cc, gg⟩
      · obtain rfl : k = 0 := by omega
        gi_wp2
        go_end0
        exact ⟨⟨_, rfl⟩, _, So, .inl ⟨dn_zero n, j⟩, HF.out c, c, g⟩ }

set_option maxHeartbeats 1000000 in
theorem back_in (p : Option Addr) (n cap : Nat) (w : World) : CallsIn Fence.wide 0 Try.prog 63 #[.slice p n cap] w fun e w' =>
    e = .returned (.func (.func 65) #[] #[.pointer (some ⟨w.heap.size, 0, none⟩)]) ∧ Boxed w' w.heap.size 29 (.slice p n cap) ∧ Chg No w w' := by
  refine callsIn_of_wp Try.func63 rfl trivial ?_
  simp only [Try.ntmps63, List.size_toArray, List.length_cons, List.length_nil, Nat.reduceAdd, Nat.reduceSub, Array.replicate_succ, Array.replicate_zero, List.push_toArray, List.append_toArray, List.nil_append, List.cons_append]
  gi_wp2
  go_ret
  exact ⟨rfl, Boxed.new _ _ _, (Chg.refl _ w).alloc _⟩

theorem back_enters : ∀ args w, (callFunc 65 args).run Try.prog w = .ok (.enter 65 args) w := enters_of Try.func65 (by kernel_rfl) rfl

end Go.Proofs.Ytookalebfbkedaa
