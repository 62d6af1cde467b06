/-
  Of: Of, Make, Take.
-/
import Derived.Test.YtmpgeacfnikbpaaDoorBase
import Derived.Test.YtmpgeacfnikbpaaDoorCons
section
-- Of
namespace Go.Proofs.YtmpgeacfnikbpaaDoor
open Go.RowKit Go.Shelf Go.SeqLib
attribute [local go_sem] Oper.semAt_some

/-- lo, the next number, and so on: m of them. -/
def upto (lo : Int) (m : Nat) : List Int := (List.range m).map fun (i : Nat) => lo + (i : Int)
theorem upto_succ (lo : Int) (m : Nat) : upto lo (m + 1) = upto lo m ++ [lo + (m : Int)] := by simp [upto, List.range_succ]
theorem upto_pre (lo : Int) {k m : Nat} (h : k ≤ m) : upto lo k <+: upto lo m := by
  unfold upto
  refine List.IsPrefix.map _ ?_
  obtain ⟨d, rfl⟩ := Nat.exists_eq_add_of_le h
  exact ⟨_, List.range_add.symm⟩

set_option maxHeartbeats 1000000 in
theorem none1 : Iter Tryd.prog 57 #[] encI [] (fun _ => False) (fun _ => False) (fun _ => True) (fun _ _ => True) := {
  sub := fun _ h => h
  lt0 := fun _ _ h => h.elim
  kept0 := fun _ _ _ => trivial
  kept := fun _ _ _ => trivial
  runs := by
    intro l J Jx S W pJ pJx hY hI hJ hDS
    refine callsIn_of_wp Tryd.func57 rfl trivial ?_
    simp only [Tryd.ntmps57, List.size_toArray, List.length_cons, List.length_nil, Nat.reduceAdd, Nat.reduceSub, Array.replicate_succ, Array.replicate_zero, List.push_toArray, List.append_toArray, List.nil_append, List.cons_append]
    gi_wp2
    go_end0
    exact ⟨⟨_, rfl⟩, [], S, .inl ⟨rfl, hJ⟩, trivial, Chg.refl _ _, Grew.refl _ _⟩ }

set_option maxRecDepth 100000 in
set_option maxHeartbeats 1000000 in
theorem of1 (v : Value) (zs : List Int) (Bk : Nat) (hD : ¬ slD v zs Bk) :
    Iter Tryd.prog 59 #[.pointer (some ⟨Bk, 0, none⟩)] encI zs (fun k => k = Bk ∨ slD v zs k) (fun _ => False)
      (fun W => Boxed W Bk 22 v ∧ SlI W v zs) (fun _ W => Boxed W Bk 22 v ∧ SlI W v zs) := {
  sub := fun _ h => h.elim
  lt0 := by
    rintro W ⟨b1, b2⟩ k (rfl | h)
    · exact b1.lt
    · exact b2.lt k h
  kept0 := by
    rintro W W' ⟨b1, b2⟩ _ hk
    exact ⟨(hk _ (.inl rfl)).trans b1, b2.kept (fun k h => hk k (.inr h))⟩
  kept := by
    rintro pre W W' ⟨b1, b2⟩ _ hk
    exact ⟨(hk _ (.inl rfl)).trans b1, b2.kept (fun k h => hk k (.inr h))⟩
  runs := by
    intro l J Jx S W pJ pJx hY hI hJ hDS
    obtain ⟨b1, b2⟩ := hI
    have b2' := b2
    obtain ⟨p, cap, rfl, hcap, hmax, hcells⟩ := b2
    have hc1 := b1.cell
    have hml : zs.length ≤ maxLen := by omega
    unfold maxLen at hml
    refine callsIn_of_wp Tryd.func59 rfl trivial ?_
    simp only [Tryd.ntmps59, List.size_toArray, List.length_cons, List.length_nil, Nat.reduceAdd, Nat.reduceSub, Array.replicate_succ, Array.replicate_zero, List.push_toArray, List.append_toArray, List.nil_append, List.cons_append]
    gi_wp2
    gi_loopw [7] (fun i wr => ∃ (k : Nat) (So : Blk), k ≤ zs.length ∧ i = .int .i64 (k : Int) ∧ J (zs.take k) So wr ∧ Chg S W wr ∧ Grew S W So)
      (fun i _ => zs.length - (intOf i).toNat)
    case atStart => exact ⟨0, S, Nat.zero_le _, rfl, hJ, Chg.refl _ _, Grew.refl _ _⟩
    case round =>
      obtain ⟨k, So, hk, rfl, j, c, g⟩ := hrel
      have hfin : ∀ {W9 : World}, Chg S W W9 → Boxed W9 Bk 22 (.slice p zs.length cap) ∧ SlI W9 (.slice p zs.length cap) zs := fun c9 => ⟨c9.boxed b1 (hDS _ (.inl rfl)), b2'.chg c9 (fun k hk => hDS k (.inr hk))⟩
      by_cases hlt : k < zs.length
      · obtain ⟨b, off, rfl, hcell⟩ := hcells k zs[k] (by simp [hlt])
        have hzs : zs ≠ [] := by rintro rfl; simp at hlt
        have hcw : wr.cell? ⟨b, off + k, none⟩ = some (.int .i64 zs[k]) := (World.cell?_of_block (a := ⟨b, off + k, none⟩) (c.block b (World.block_lt_of_cell? W _ hcell) (hDS b (.inr ⟨hzs, rfl⟩)))).trans hcell
        have hts : zs.take (k + 1) = zs.take k ++ [zs[k]] := by rw [List.take_succ_eq_append_getElem hlt]
        have HT : Hid (zs.take (k + 1) = zs.take k ++ [zs[k]]) := hts
        have hpr : zs.take k ++ [zs[k]] <+: zs := by rw [← hts]; exact List.take_prefix _ _
        clear hts hcell
        obtain ⟨x, hx⟩ : ∃ x, zs[k] = x := ⟨_, rfl⟩
        rw [hx] at hcw hpr
        have HX : Hid (zs[k] = x) := hx
        clear hx
        obtain ⟨fnr, tmps, assign, body, hy, hR⟩ := hY (zs.take k) x So wr hpr j
        gi_wp2
        refine ⟨rfl, hR.mono ?_⟩
        rintro e W3 ⟨S3, c3, g3, (⟨rfl, j3⟩ | ⟨rfl, j3⟩)⟩
        · have cc := c.trans c3 g
          have gg := g.trans g3 c.size
          gi_wp2
          go_roundw
          case rel => exact ⟨k + 1, S3, hlt, by go_num, by rw [HT.out, HX.out]; exact j3, cc, gg⟩
          case measure => simp [intOf]; omega
        · have cc := c.trans c3 g
          have gg := g.trans g3 c.size
          gi_wp2
          refine bodyPost_ret (results_none rfl _ _ _) rfl ?_
          exact ⟨⟨_, rfl⟩, _, S3, .inr ⟨hpr, j3⟩, hfin cc, cc.mono (fun _ => .inr), gg⟩
      · obtain rfl : k = zs.length := by omega
        gi_wp2
        go_end0
        exact ⟨⟨_, rfl⟩, _, So, .inl ⟨List.take_length, j⟩, hfin c, c.mono (fun _ => .inr), g⟩ }

end Go.Proofs.YtmpgeacfnikbpaaDoor

end
section
-- Make
namespace Go.Proofs.YtmpgeacfnikbpaaDoor
open Go.RowKit Go.Shelf Go.SeqLib
attribute [local go_sem] Oper.semAt_some

section
variable {P : Program} {t e : TypeId}
theorem run_equalIn_slice_nil (h : P.underlying t = some (.slice e)) (d : Nat) (p : Option Addr) (n c : Nat) (w : World) :
    (Op.equalIn (d + 1) t (.slice p n c) (.slice none 0 0)).run P w = .ok p.isNone w := by
  cases p <;> simp [Op.equalIn, run_underlying h]
/-- A slice that is there is not nil. -/
theorem run_eql_slice_nil' (h : P.underlying t = some (.slice e)) (p : Option Addr) (n c : Nat) (w : World) :
    (binOp .eql t (.slice p n c) (.slice none 0 0)).run P w = .ok (.bool p.isNone) w := by
  simp only [binOp]
  simp [Op.equal, Op.maxDepth, run_equalIn_slice_nil h 9999]
end
theorem row_slice {W : World} {b : Nat} {e : TypeId} {s : Nat} {v : Value} {n : Nat} {xs : List Value} (h : W.ownsRow b e s v n xs) : ∃ p c, v = .slice p n c := by
  rcases h.2 with ⟨rfl, rfl⟩ | ⟨g, cap, cur, rfl, _⟩
  · exact ⟨_, _, rfl⟩
  · exact ⟨_, _, rfl⟩

set_option maxHeartbeats 1000000 in
theorem filter_in (gs : Nat) (lbs : Array Value) (ff : Nat) (capf : Array Value) (w : World) : CallsIn Fence.wide 0 Tryd.prog 41 #[.func (.func gs) #[] lbs, .func (.func ff) #[] capf] w fun e w' =>
    e = .returned (.func (.func 58) #[] #[.pointer (some ⟨w.heap.size, 0, none⟩), .pointer (some ⟨w.heap.size + 1, 0, none⟩)]) ∧ w' = (w.alloc (.cells #[.func (.func gs) #[] lbs] 37)).alloc (.cells #[.func (.func ff) #[] capf] 59) := by
  have hnil := fun w => run_eql_func_nil Tryd.underlying37 (.func gs) #[] lbs w
  have hnil2 := fun w => run_eql_func_nil Tryd.underlying59 (.func ff) #[] capf w
  have hc1 := ((Boxed.new w 37 (.func (.func gs) #[] lbs)).alloc (.cells #[.func (.func ff) #[] capf] 59)).cell
  refine callsIn_of_wp Tryd.func41 rfl trivial ?_
  simp only [Tryd.ntmps41, List.size_toArray, List.length_cons, List.length_nil, Nat.reduceAdd, Nat.reduceSub, Array.replicate_succ, Array.replicate_zero, List.push_toArray, List.append_toArray, List.nil_append, List.cons_append]
  gi_wp2
  go_ret
  exact ⟨rfl, rfl⟩

set_option maxRecDepth 100000 in
set_option maxHeartbeats 1000000 in
theorem clone_in (v : Value) (zs : List Int) (hlen : zs.length ≤ 1000000) (w : World) (hv : SlI w v zs) : CallsIn Fence.wide 0 Tryd.prog 53 #[v] w fun e w' =>
    ∃ v', e = .returned v' ∧ w'.ownsRow w.heap.size 3 1 v' zs.length (zs.map (Value.int .i64)) ∧ Chg (fun _ => False) w w' := by
  obtain ⟨i0, hi, hz0, hz1, hz2⟩ := info_parts info3
  obtain ⟨p, cap, rfl, h1, h2, hc⟩ := hv
  cases p with
  | none =>
    have hz : zs = [] := by
      cases zs with
      | nil => rfl
      | cons x r => obtain ⟨b, off, h, _⟩ := hc 0 x rfl; cases h
    subst hz
    have hnil := fun w => run_eql_slice_nil' Tryd.underlying22 none 0 cap w
    simp only [Option.isNone_none] at hnil
    refine callsIn_of_wp Tryd.func53 rfl trivial ?_
    simp only [Tryd.ntmps53, List.size_toArray, List.length_cons, List.length_nil, Nat.reduceAdd, Nat.reduceSub, Array.replicate_succ, Array.replicate_zero, List.push_toArray, List.append_toArray, List.nil_append, List.cons_append]
    gi_wp2
    go_ret
    exact ⟨_, rfl, World.ownsRow_nil _ _ _ _, Chg.refl _ _⟩
  | some a =>
    have hnil := fun w => run_eql_slice_nil' Tryd.underlying22 (some a) zs.length cap w
    simp only [Option.isNone_some] at hnil
    refine callsIn_of_wp Tryd.func53 rfl trivial ?_
    simp only [Tryd.ntmps53, List.size_toArray, List.length_cons, List.length_nil, Nat.reduceAdd, Nat.reduceSub, Array.replicate_succ, Array.replicate_zero, List.push_toArray, List.append_toArray, List.nil_append, List.cons_append]
    have hown0 : (w.alloc (.cells #[] 3)).ownsRow w.heap.size 3 1 (.slice (some ⟨w.heap.size, 0, none⟩) 0 0) 0 [] := World.ownsRow_made w #[] 0 (Nat.le_refl _) (Nat.zero_le _) rfl
    have hnews : ∀ j u, (zs.map (Value.int .i64))[j]? = some u → (w.alloc (.cells #[] 3)).cell? (a.add j) = some u := by
      intro j u hj
      rw [List.getElem?_map] at hj
      obtain ⟨x, hx, rfl⟩ := Option.map_eq_some_iff.1 hj
      obtain ⟨b, off, e, hcell⟩ := hc j x hx
      cases e
      have ea : (⟨b, off, none⟩ : Addr).add j = ⟨b, off + j, none⟩ := by unfold Addr.add; split <;> simp_all
      rw [ea]
      exact (World.cell?_of_block (a := ⟨b, off + j, none⟩) (Below.heap_alloc w _ b (World.block_lt_of_cell? w _ hcell))).trans hcell
    have hone : ∀ u ∈ zs.map (Value.int .i64), u.oneCell' = true := by
      intro u hu
      obtain ⟨x, _, rfl⟩ := List.mem_map.1 hu
      rfl
    have hmx : 0 + zs.length ≤ maxLen := by unfold maxLen; omega
    clear hc
    gi_wp2_with (gi_at_builtin; refine wpListIn_append_at _ rfl _ _ 22 rfl w.heap.size 3 i0 (.int .i64 0) 1 8 Tryd.underlying22 hi hz0 hz1 hz2 rfl (by decide) _ _ _ rfl hown0 a zs.length cap (zs.map (Value.int .i64)) rfl (by simp) hnews hone hmx (by omega) (by simp) ?_; intro v' w1 hown' hgrow _ hat; obtain ⟨p', c', rfl⟩ := row_slice hown')
    go_ret
    refine ⟨_, rfl, by simpa using hown', ((Chg.refl _ w).alloc _).grown hgrow (fun k e => .inr ?_)⟩
    cases e
    exact Nat.le_refl _

set_option maxHeartbeats 1000000 in
theorem of_in (v : Value) (zs : List Int) (hlen : zs.length ≤ 1000000) (w : World) (hv : SlI w v zs) : CallsIn Fence.wide 0 Tryd.prog 43 #[v] w fun e w' =>
    ∃ v' B, e = .returned (.func (.func 59) #[] #[.pointer (some ⟨B, 0, none⟩)]) ∧ Boxed w' B 22 v' ∧ w.heap.size ≤ B ∧ v'.ownBlock ≠ some B ∧ w'.ownsRow w.heap.size 3 1 v' zs.length (zs.map (Value.int .i64)) ∧ Chg (fun _ => False) w w' := by
  refine callsIn_of_wp Tryd.func43 rfl trivial ?_
  simp only [Tryd.ntmps43, List.size_toArray, List.length_cons, List.length_nil, Nat.reduceAdd, Nat.reduceSub, Array.replicate_succ, Array.replicate_zero, List.push_toArray, List.append_toArray, List.nil_append, List.cons_append]
  gi_wp2_with fail
  refine ⟨trivial, rfl, (clone_in v zs hlen _ hv).mono ?_⟩
  rintro e w1 ⟨v', rfl, hr, c⟩
  obtain ⟨p', c', rfl⟩ := row_slice hr
  gi_wp2
  go_ret
  refine ⟨_, w1.heap.size, rfl, Boxed.new _ _ _, c.size, fun h => ?_, hr.alloc _, c.alloc _⟩
  have := (hr.lt _ h).2
  omega

end Go.Proofs.YtmpgeacfnikbpaaDoor

end
section
-- Take
namespace Go.Proofs.YtmpgeacfnikbpaaDoor
open Go.RowKit Go.Shelf Go.SeqLib
attribute [local go_sem] Oper.semAt_some

end Go.Proofs.YtmpgeacfnikbpaaDoor

end
