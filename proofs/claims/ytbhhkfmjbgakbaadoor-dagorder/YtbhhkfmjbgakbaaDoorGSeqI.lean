/-
  Of: Of, Make, Take.
-/
import Derived.Test.YtbhhkfmjbgakbaaDoorBase
import Derived.Test.YtbhhkfmjbgakbaaDoorCons
section
-- Of
namespace Go.Proofs.YtbhhkfmjbgakbaaDoor
open Go.RowKit Go.Shelf Go.SeqLib
attribute [local go_sem] Oper.semAt_some

/-- lo, the next number, and so on: m of them. -/
def upto (lo : Int) (m : Nat) : List Int := (List.range m).map fun (i : Nat) => lo + (i : Int)
theorem upto_succ (lo : Int) (m : Nat) : upto lo (m + 1) = upto lo m ++ [lo + (m : Int)] := by simp [upto, List.range_succ]
theorem upto_pre (lo : Int) {k m : Nat} (h : k ≤ m) : upto lo k <+: upto lo m := by
  unfold upto
  refine List.IsPrefix.map _ ?_
  obtain ⟨d, rfl⟩ := Nat.exists_eq_add_of_le h
  exact ⟨_, List.range_add.symm⟩

set_option maxHeartbeats 1000000 in
theorem none1 : Iter Tryd.prog 60 #[] encI [] (fun _ => False) (fun _ => False) (fun _ => True) (fun _ _ => True) := {
  sub := fun _ h => h
  lt0 := fun _ _ h => h.elim
  kept0 := fun _ _ _ => trivial
  kept := fun _ _ _ => trivial
  runs := by
    intro l J Jx S W pJ pJx hY hI hJ hDS
    refine callsIn_of_wp Tryd.func60 rfl trivial ?_
    simp only [Tryd.ntmps60, List.size_toArray, List.length_cons, List.length_nil, Nat.reduceAdd, Nat.reduceSub, Array.replicate_succ, Array.replicate_zero, List.push_toArray, List.append_toArray, List.nil_append, List.cons_append]
    gi_wp2
    go_end0
    exact ⟨⟨_, rfl⟩, [], S, .inl ⟨rfl, hJ⟩, trivial, Chg.refl _ _, Grew.refl _ _⟩ }

set_option maxRecDepth 100000 in
set_option maxHeartbeats 1000000 in
theorem of1 (v : Value) (zs : List Int) (Bk : Nat) (hD : ¬ slD v zs Bk) :
    Iter Tryd.prog 41 #[.pointer (some ⟨Bk, 0, none⟩)] encI zs (fun k => k = Bk ∨ slD v zs k) (fun _ => False)
      (fun W => Boxed W Bk 22 v ∧ SlI W v zs) (fun _ W => Boxed W Bk 22 v ∧ SlI W v zs) := {
  sub := fun _ h => h.elim
  lt0 := by
    rintro W ⟨b1, b2⟩ k (rfl | h)
    · exact b1.lt
    · exact b2.lt k h
  kept0 := by
    rintro W W' ⟨b1, b2⟩ _ hk
    exact ⟨(hk _ (.inl rfl)).trans b1, b2.kept (fun k h => hk k (.inr h))⟩
  kept := by
    rintro pre W W' ⟨b1, b2⟩ _ hk
    exact ⟨(hk _ (.inl rfl)).trans b1, b2.kept (fun k h => hk k (.inr h))⟩
  runs := by
    intro l J Jx S W pJ pJx hY hI hJ hDS
    obtain ⟨b1, b2⟩ := hI
    have b2' := b2
    obtain ⟨p, cap, rfl, hcap, hmax, hcells⟩ := b2
    have hc1 := b1.cell
    have hml : zs.length ≤ maxLen := by omega
    unfold maxLen at hml
    refine callsIn_of_wp Tryd.func41 rfl trivial ?_
    simp only [Tryd.ntmps41, List.size_toArray, List.length_cons, List.length_nil, Nat.reduceAdd, Nat.reduceSub, Array.replicate_succ, Array.replicate_zero, List.push_toArray, List.append_toArray, List.nil_append, List.cons_append]
    gi_wp2
    gi_loopw [7] (fun i wr => ∃ (k : Nat) (So : Blk), k ≤ zs.length ∧ i = .int .i64 (k : Int) ∧ J (zs.take k) So wr ∧ Chg S W wr ∧ Grew S W So)
      (fun i _ => zs.length - (intOf i).toNat)
    case atStart => exact ⟨0, S, Nat.zero_le _, rfl, hJ, Chg.refl _ _, Grew.refl _ _⟩
    case round =>
      obtain ⟨k, So, hk, rfl, j, c, g⟩ := hrel
      have hfin : ∀ {W9 : World}, Chg S W W9 → Boxed W9 Bk 22 (.slice p zs.length cap) ∧ SlI W9 (.slice p zs.length cap) zs := fun c9 => ⟨c9.boxed b1 (hDS _ (.inl rfl)), b2'.chg c9 (fun k hk => hDS k (.inr hk))⟩
      by_cases hlt : k < zs.length
      · obtain ⟨b, off, rfl, hcell⟩ := hcells k zs[k] (by simp [hlt])
        have hzs : zs ≠ [] := by rintro rfl; simp at hlt
        have hcw : wr.cell? ⟨b, off + k, none⟩ = some (.int .i64 zs[k]) := (World.cell?_of_block (a := ⟨b, off + k, none⟩) (c.block b (World.block_lt_of_cell? W _ hcell) (hDS b (.inr ⟨hzs, rfl⟩)))).trans hcell
        have hts : zs.take (k + 1) = zs.take k ++ [zs[k]] := by rw [List.take_succ_eq_append_getElem hlt]
        have HT : Hid (zs.take (k + 1) = zs.take k ++ [zs[k]]) := hts
        have hpr : zs.take k ++ [zs[k]] <+: zs := by rw [← hts]; exact List.take_prefix _ _
        clear hts hcell
        obtain ⟨x, hx⟩ : ∃ x, zs[k] = x := ⟨_, rfl⟩
        rw [hx] at hcw hpr
        have HX : Hid (zs[k] = x) := hx
        clear hx
        obtain ⟨fnr, tmps, assign, body, hy, hR⟩ := hY (zs.take k) x So wr hpr j
        gi_wp2
        refine ⟨rfl, hR.mono ?_⟩
        rintro e W3 ⟨S3, c3, g3, (⟨rfl, j3⟩ | ⟨rfl, j3⟩)⟩
        · have cc := c.trans c3 g
          have gg := g.trans g3 c.size
          gi_wp2
          go_roundw
          case rel => exact ⟨k + 1, S3, hlt, by go_num, by rw [HT.out, HX.out]; exact j3, cc, gg⟩
          case measure => simp [intOf]; omega
        · have cc := c.trans c3 g
          have gg := g.trans g3 c.size
          gi_wp2
          refine bodyPost_ret (results_none rfl _ _ _) rfl ?_
          exact ⟨⟨_, rfl⟩, _, S3, .inr ⟨hpr, j3⟩, hfin cc, cc.mono (fun _ => .inr), gg⟩
      · obtain rfl : k = zs.length := by omega
        gi_wp2
        go_end0
        exact ⟨⟨_, rfl⟩, _, So, .inl ⟨List.take_length, j⟩, hfin c, c.mono (fun _ => .inr), g⟩ }

end Go.Proofs.YtbhhkfmjbgakbaaDoor

end
section
-- Make
namespace Go.Proofs.YtbhhkfmjbgakbaaDoor
open Go.RowKit Go.Shelf Go.SeqLib
attribute [local go_sem] Oper.semAt_some

section
variable {P : Program} {t e : TypeId}
theorem run_equalIn_slice_nil (h : P.underlying t = some (.slice e)) (d : Nat) (p : Option Addr) (n c : Nat) (w : World) :
    (Op.equalIn (d + 1) t (.slice p n c) (.slice none 0 0)).run P w = .ok p.isNone w := by
  cases p <;> simp [Op.equalIn, run_underlying h]
/-- A slice that is there is not nil. -/
theorem run_eql_slice_nil' (h : P.underlying t = some (.slice e)) (p : Option Addr) (n c : Nat) (w : World) :
    (binOp .eql t (.slice p n c) (.slice none 0 0)).run P w = .ok (.bool p.isNone) w := by
  simp only [binOp]
  simp [Op.equal, Op.maxDepth, run_equalIn_slice_nil h 9999]
end
theorem row_slice {W : World} {b : Nat} {e : TypeId} {s : Nat} {v : Value} {n : Nat} {xs : List Value} (h : W.ownsRow b e s v n xs) : ∃ p c, v = .slice p n c := by
  rcases h.2 with ⟨rfl, rfl⟩ | ⟨g, cap, cur, rfl, _⟩
  · exact ⟨_, _, rfl⟩
  · exact ⟨_, _, rfl⟩

set_option maxHeartbeats 1000000 in
theorem take_in (gs : Nat) (lbs : Array Value) (n : Int) (hn : 1 ≤ n) (w : World) : CallsIn Fence.wide 0 Tryd.prog 48 #[.func (.func gs) #[] lbs, .int .i64 n] w fun e w' =>
    e = .returned (.func (.func 61) #[] #[.pointer (some ⟨w.heap.size + 1, 0, none⟩), .pointer (some ⟨w.heap.size, 0, none⟩)]) ∧ w' = (w.alloc (.cells #[.func (.func gs) #[] lbs] 39)).alloc (.cells #[.int .i64 n] 3) := by
  have hnil := fun w => run_eql_func_nil Tryd.underlying39 (.func gs) #[] lbs w
  refine callsIn_of_wp Tryd.func48 rfl trivial ?_
  simp only [Tryd.ntmps48, List.size_toArray, List.length_cons, List.length_nil, Nat.reduceAdd, Nat.reduceSub, Array.replicate_succ, Array.replicate_zero, List.push_toArray, List.append_toArray, List.nil_append, List.cons_append]
  gi_wp2
  go_ret
  exact ⟨rfl, rfl⟩

set_option maxHeartbeats 1000000 in
theorem take_none (gs : Nat) (lbs : Array Value) (n : Int) (hn : n < 1) (w : World) : CallsIn Fence.wide 0 Tryd.prog 48 #[.func (.func gs) #[] lbs, .int .i64 n] w fun e w' =>
    e = .returned (.func (.func 60) #[] #[]) ∧ Chg (fun _ => False) w w' := by
  have hnil := fun w => run_eql_func_nil Tryd.underlying39 (.func gs) #[] lbs w
  refine callsIn_of_wp Tryd.func48 rfl trivial ?_
  simp only [Tryd.ntmps48, List.size_toArray, List.length_cons, List.length_nil, Nat.reduceAdd, Nat.reduceSub, Array.replicate_succ, Array.replicate_zero, List.push_toArray, List.append_toArray, List.nil_append, List.cons_append]
  gi_wp2
  go_ret
  exact ⟨rfl, ((Chg.refl _ w).alloc _).alloc _⟩

set_option maxRecDepth 100000 in
set_option maxHeartbeats 1000000 in
theorem clone_in (v : Value) (zs : List Int) (hlen : zs.length ≤ 1000000) (w : World) (hv : SlI w v zs) : CallsIn Fence.wide 0 Tryd.prog 40 #[v] w fun e w' =>
    ∃ v', e = .returned v' ∧ w'.ownsRow w.heap.size 3 1 v' zs.length (zs.map (Value.int .i64)) ∧ Chg (fun _ => False) w w' := by
  obtain ⟨i0, hi, hz0, hz1, hz2⟩ := info_parts info3
  obtain ⟨p, cap, rfl, h1, h2, hc⟩ := hv
  cases p with
  | none =>
    have hz : zs = [] := by
      cases zs with
      | nil => rfl
      | cons x r => obtain ⟨b, off, h, _⟩ := hc 0 x rfl; cases h
    subst hz
    have hnil := fun w => run_eql_slice_nil' Tryd.underlying22 none 0 cap w
    simp only [Option.isNone_none] at hnil
    refine callsIn_of_wp Tryd.func40 rfl trivial ?_
    simp only [Tryd.ntmps40, List.size_toArray, List.length_cons, List.length_nil, Nat.reduceAdd, Nat.reduceSub, Array.replicate_succ, Array.replicate_zero, List.push_toArray, List.append_toArray, List.nil_append, List.cons_append]
    gi_wp2
    go_ret
    exact ⟨_, rfl, World.ownsRow_nil _ _ _ _, Chg.refl _ _⟩
  | some a =>
    have hnil := fun w => run_eql_slice_nil' Tryd.underlying22 (some a) zs.length cap w
    simp only [Option.isNone_some] at hnil
    refine callsIn_of_wp Tryd.func40 rfl trivial ?_
    simp only [Tryd.ntmps40, List.size_toArray, List.length_cons, List.length_nil, Nat.reduceAdd, Nat.reduceSub, Array.replicate_succ, Array.replicate_zero, List.push_toArray, List.append_toArray, List.nil_append, List.cons_append]
    have hown0 : (w.alloc (.cells #[] 3)).ownsRow w.heap.size 3 1 (.slice (some ⟨w.heap.size, 0, none⟩) 0 0) 0 [] := World.ownsRow_made w #[] 0 (Nat.le_refl _) (Nat.zero_le _) rfl
    have hnews : ∀ j u, (zs.map (Value.int .i64))[j]? = some u → (w.alloc (.cells #[] 3)).cell? (a.add j) = some u := by
      intro j u hj
      rw [List.getElem?_map] at hj
      obtain ⟨x, hx, rfl⟩ := Option.map_eq_some_iff.1 hj
      obtain ⟨b, off, e, hcell⟩ := hc j x hx
      cases e
      have ea : (⟨b, off, none⟩ : Addr).add j = ⟨b, off + j, none⟩ := by unfold Addr.add; split <;> simp_all
      rw [ea]
      exact (World.cell?_of_block (a := ⟨b, off + j, none⟩) (Below.heap_alloc w _ b (World.block_lt_of_cell? w _ hcell))).trans hcell
    have hone : ∀ u ∈ zs.map (Value.int .i64), u.oneCell' = true := by
      intro u hu
      obtain ⟨x, _, rfl⟩ := List.mem_map.1 hu
      rfl
    have hmx : 0 + zs.length ≤ maxLen := by unfold maxLen; omega
    clear hc
    gi_wp2_with (gi_at_builtin; refine wpListIn_append_at _ rfl _ _ 22 rfl w.heap.size 3 i0 (.int .i64 0) 1 8 Tryd.underlying22 hi hz0 hz1 hz2 rfl (by decide) _ _ _ rfl hown0 a zs.length cap (zs.map (Value.int .i64)) rfl (by simp) hnews hone hmx (by omega) (by simp) ?_; intro v' w1 hown' hgrow _ hat; obtain ⟨p', c', rfl⟩ := row_slice hown')
    go_ret
    refine ⟨_, rfl, by simpa using hown', ((Chg.refl _ w).alloc _).grown hgrow (fun k e => .inr ?_)⟩
    cases e
    exact Nat.le_refl _

set_option maxHeartbeats 1000000 in
theorem of_in (v : Value) (zs : List Int) (hlen : zs.length ≤ 1000000) (w : World) (hv : SlI w v zs) : CallsIn Fence.wide 0 Tryd.prog 28 #[v] w fun e w' =>
    ∃ v' B, e = .returned (.func (.func 41) #[] #[.pointer (some ⟨B, 0, none⟩)]) ∧ Boxed w' B 22 v' ∧ w.heap.size ≤ B ∧ v'.ownBlock ≠ some B ∧ w'.ownsRow w.heap.size 3 1 v' zs.length (zs.map (Value.int .i64)) ∧ Chg (fun _ => False) w w' := by
  refine callsIn_of_wp Tryd.func28 rfl trivial ?_
  simp only [Tryd.ntmps28, List.size_toArray, List.length_cons, List.length_nil, Nat.reduceAdd, Nat.reduceSub, Array.replicate_succ, Array.replicate_zero, List.push_toArray, List.append_toArray, List.nil_append, List.cons_append]
  gi_wp2_with fail
  refine ⟨trivial, rfl, (clone_in v zs hlen _ hv).mono ?_⟩
  rintro e w1 ⟨v', rfl, hr, c⟩
  obtain ⟨p', c', rfl⟩ := row_slice hr
  gi_wp2
  go_ret
  refine ⟨_, w1.heap.size, rfl, Boxed.new _ _ _, c.size, fun h => ?_, hr.alloc _, c.alloc _⟩
  have := (hr.lt _ h).2
  omega

end Go.Proofs.YtbhhkfmjbgakbaaDoor

end
section
-- Take
namespace Go.Proofs.YtbhhkfmjbgakbaaDoor
open Go.RowKit Go.Shelf Go.SeqLib
attribute [local go_sem] Oper.semAt_some

set_option maxRecDepth 100000 in
set_option maxHeartbeats 1000000 in
theorem take1 {gs : Nat} {lbs : Array Value} {xs : List Int} {Ds Ms : Blk} {Is0 : World → Prop} {Is : List Int → World → Prop} (it : Iter Tryd.prog gs lbs encI xs Ds Ms Is0 Is) (eg : ∀ args w, (callFunc gs args).run Tryd.prog w = .ok (.enter gs args) w)
    (n : Nat) (hn1 : 1 ≤ n) (hn2 : n ≤ 1000000) (Bs Bn : Nat) (h1 : Bs ≠ Bn) (h2 : ¬ Ds Bs) (h3 : ¬ Ds Bn) :
    Iter Tryd.prog 61 #[.pointer (some ⟨Bn, 0, none⟩), .pointer (some ⟨Bs, 0, none⟩)] encI (xs.take n) (fun k => k = Bs ∨ k = Bn ∨ Ds k) Ms
      (fun W => Boxed W Bs 39 (.func (.func gs) #[] lbs) ∧ Boxed W Bn 3 (.int .i64 n) ∧ Is0 W)
      (fun pre W => Boxed W Bs 39 (.func (.func gs) #[] lbs) ∧ Boxed W Bn 3 (.int .i64 n) ∧ Is pre W) := {
  sub := fun k hk => .inr (.inr (it.sub k hk))
  lt0 := by
    rintro W ⟨b1, b2, i1⟩ k (rfl | rfl | h)
    · exact b1.lt
    · exact b2.lt
    · exact it.lt0 i1 k h
  kept0 := by
    rintro W W' ⟨b1, b2, i1⟩ hs hk
    exact ⟨(hk _ (.inl rfl)).trans b1, (hk _ (.inr (.inl rfl))).trans b2, it.kept0 i1 hs (fun k h => hk k (.inr (.inr h)))⟩
  kept := by
    rintro pre W W' ⟨b1, b2, i1⟩ hs hk
    exact ⟨(hk _ (.inl rfl)).trans b1, (hk _ (.inr (.inl rfl))).trans b2, it.kept i1 hs (fun k h => hk k (.inr (.inr h)))⟩
  runs := by
    intro l J Jx S W pJ pJx hY hI hJ hDS
    obtain ⟨b1, b2, i1⟩ := hI
    have hc1 := ((b1.alloc (.cells #[.func (.yield l) #[] #[]] 29)).alloc (.cells #[.int .i64 n] 3)).cell
    have hc2 := (b2.alloc (.cells #[.func (.yield l) #[] #[]] 29)).cell
    refine callsIn_of_wp_marks Tryd.func61 rfl trivial ?_
    simp only [Tryd.ntmps61, List.size_toArray, List.length_cons, List.length_nil, Nat.reduceAdd, Nat.reduceSub, Array.replicate_succ, Array.replicate_zero, List.push_toArray, List.append_toArray, List.nil_append, List.cons_append]
    gi_wp2
    have hYn : ∀ k, S k → k < W.heap.size := (pJ _).lt hJ
    refine wpIn_range (gf := gs) (lb := lbs) rfl eg it (fun _ => rfl)
      (fun zs S W' => ∃ So, S = (fun k => So k ∨ k = W.heap.size ∨ k = W.heap.size + 1) ∧ J zs So W' ∧ Boxed W' W.heap.size 29 (.func (.yield l) #[] #[]) ∧ Boxed W' (W.heap.size + 1) 3 (.int .i64 ((n : Int) - zs.length)) ∧ zs.length < n ∧ ¬ So W.heap.size ∧ ¬ So (W.heap.size + 1))
      (fun c zs S W' => ∃ So, S = (fun k => So k ∨ k = W.heap.size ∨ k = W.heap.size + 1) ∧ ((zs.length ≤ n ∧ Jx zs So W') ∨ (zs = xs.take n ∧ J zs So W')) ∧ (∃ u q, Boxed W' W.heap.size 29 u ∧ Boxed W' (W.heap.size + 1) 3 q) ∧ c = .ret ∧ ¬ So W.heap.size ∧ ¬ So (W.heap.size + 1))
      ?_ ?_ (S := fun k => S k ∨ k = W.heap.size ∨ k = W.heap.size + 1) (it.kept0 i1 (by simp; omega) (fun k hk => (Below.heap_alloc _ _ _ (by have := it.lt0 i1 k hk; simp; omega)).trans (Below.heap_alloc _ _ _ (it.lt0 i1 k hk)))) ?_ ?_
      (fun x => { tmps := #[.func (.yield l) #[] #[], .pointer (some ⟨Bn, 0, none⟩), .pointer (some ⟨Bs, 0, none⟩), .pointer (some ⟨W.heap.size, 0, none⟩), .pointer (some ⟨W.heap.size + 1, 0, none⟩), .int .i64 x, .int .i64 n, .func (.func gs) #[] lbs, .int .i64 x, undef, undef, undef, undef, undef, undef, undef, undef, undef, undef], defers := [] }) ?assign ?body ?done ?stop
    case assign =>
      intro l x W K hK
      gi_wp2
      exact hK
    case body =>
      rintro lr zs x S2 W2 hpre ⟨So, rfl, j, b3, b4, hz, n1, n2⟩
      have hcy := b3.cell
      have hcl := b4.cell
      have hfl := b4.frozen
      obtain ⟨q, hq⟩ : ∃ q : Int, (n : Int) - zs.length = q := ⟨_, rfl⟩
      have hq1 : 1 ≤ q := by omega
      have hq2 : q ≤ 1000000 := by omega
      rw [hq] at b4 hcl
      have HQ : Hid ((n : Int) - zs.length = q) := hq
      clear hq
      have b4' := b4.set (.int .i64 (q - 1))
      have b3' : Boxed (W2.setCell ⟨W.heap.size + 1, 0, none⟩ (.int .i64 (q - 1))) W.heap.size 29 (.func (.yield l) #[] #[]) := b3.other (by omega) _
      have hcy' := b3'.cell
      have hcl' := b4'.cell
      have c2 : Chg (fun k => k = W.heap.size + 1) W2 (W2.setCell ⟨W.heap.size + 1, 0, none⟩ (.int .i64 (q - 1))) := Chg.setCell (S := fun k => k = W.heap.size + 1) (Chg.refl _ W2) (.inl rfl) _
      have j2 := (pJ _).chg j c2 (fun k hk e => n2 (e ▸ hk))
      have hpre2 : zs ++ [x] <+: xs.take n := List.prefix_take_iff.2 ⟨hpre, by simp; omega⟩
      obtain ⟨fnr, tmps, assign, body, hy, hR⟩ := hY _ x So _ hpre2 j2
      gi_wp2
      refine ⟨rfl, (inR lr hR).mono ?_⟩
      rintro e W4 ⟨S5, c5, g5, hj5⟩
      have b5 := c5.boxed b3' n1
      have b6 := c5.boxed b4' n2
      have hc6 := b6.cell
      have hn5 : ∀ k, k < W2.heap.size → ¬ So k → ¬ S5 k := fun k hk hn h => by
        rcases g5 k h with h1 | h1
        · exact hn h1
        · simp at h1; omega
      have m1 := hn5 _ b3.lt n1
      have m2 := hn5 _ b4.lt n2
      have cc : Chg (fun k => So k ∨ k = W.heap.size ∨ k = W.heap.size + 1) W2 W4 := (c2.mono (fun k hk => .inr (.inr hk))).trans (S' := So) c5 (fun k hk => .inl (.inl hk))
      have gg : Grew (fun k => So k ∨ k = W.heap.size ∨ k = W.heap.size + 1) W2 (fun k => S5 k ∨ k = W.heap.size ∨ k = W.heap.size + 1) := by
        rintro k (hk | hk)
        · rcases g5 k hk with h1 | h1
          · exact .inl (.inl h1)
          · exact .inr (by simpa using h1)
        · exact .inl (.inr hk)
      rcases hj5 with ⟨rfl, j5⟩ | ⟨rfl, j5⟩
      · by_cases hq0 : q = 1
        · have he : ((q - 1 : Int) == 0) = true := by simp; omega
          have HT : Hid (zs ++ [x] = xs.take n) := by
            refine (List.prefix_iff_eq_take.1 hpre).trans ?_
            have h9 := HQ.out
            have : (zs ++ [x]).length = n := by simp; omega
            rw [this]
          clear hq0
          gi_wp2
          exact ⟨_, cc, gg, S5, rfl, .inr ⟨HT.out, j5⟩, ⟨_, _, b5, b6⟩, rfl, m1, m2⟩
        · have he : ((q - 1 : Int) == 0) = false := by simp; omega
          have hlt : zs.length + 1 < n := by have h9 := HQ.out; omega
          clear hq0
          gi_wp2
          refine ⟨_, cc, gg, S5, rfl, j5, b5, ?_, by simpa using hlt, m1, m2⟩
          have h9 := HQ.out
          rw [show ((n : Int) - (zs ++ [x]).length) = q - 1 from by simp; omega]
          exact b6
      · gi_wp2
        exact ⟨_, cc, gg, S5, rfl, .inl ⟨by simp; omega, j5⟩, ⟨_, _, b5, b6⟩, rfl, m1, m2⟩
    case done =>
      rintro d S' W9 hd ⟨So, rfl, j, b3, b4, hz, n1, n2⟩ hi hc hg hK hnd
      have hd' : W.heap.size + 1 + 1 ≤ d := by simpa using hd
      have hwd : ∀ k, k < W.heap.size → k ≠ d := fun k hk => by omega
      have b5 : Boxed W9 Bs 39 (.func (.func gs) #[] lbs) := hc.boxed ((b1.alloc _).alloc _) (fun h => by
        rcases h with h | h | h | h
        · exact h2 (it.sub _ h)
        · exact hDS _ (.inl rfl) h
        · have := b1.lt; omega
        · have := b1.lt; omega)
      have b6 : Boxed W9 Bn 3 (.int .i64 n) := hc.boxed ((b2.alloc _).alloc _) (fun h => by
        rcases h with h | h | h | h
        · exact h3 (it.sub _ h)
        · exact hDS _ (.inr (.inl rfl)) h
        · have := b2.lt; omega
        · have := b2.lt; omega)
      have c9 := Chg.put1 W9 d (.deferred none)
      gi_wp2
      refine ⟨by simp, .inl ⟨_, _, rfl, run_takeDeferred hK, ?_⟩⟩
      refine ⟨_, results_none rfl _ _ _, ⟨_, rfl⟩, xs, So, .inl ⟨by rw [List.take_of_length_le (by omega)], (pJ _).chg j c9 (fun k hk e => hnd (.inl (e ▸ hk)))⟩,
        ⟨c9.boxed b5 (hwd _ b1.lt), c9.boxed b6 (hwd _ b2.lt), it.kept hi (by simp) (fun k hk => World.putObj_heap_other (hwd _ (it.lt0 i1 k hk)))⟩,
        endChg (((Chg.refl _ W).alloc _).alloc _) hc (fun k hk h hn => ?_) (by omega) _, endGrew (by simp; omega) hg (fun _ => .inl) (fun k hk hk1 h => ?_)⟩
      · rcases h with h | h | h | h
        · exact (hn (.inl h)).elim
        · exact (hn (.inr h)).elim
        · omega
        · omega
      · rcases h with h | h | h
        · exact h
        · omega
        · omega
    case stop =>
      rintro d c zs S' W9 hd hpre ⟨So, rfl, hj, b3, rfl, n1, n2⟩ hi hc hg hK hnd
      have hd' : W.heap.size + 1 + 1 ≤ d := by simpa using hd
      have hwd : ∀ k, k < W.heap.size → k ≠ d := fun k hk => by omega
      have b5 : Boxed W9 Bs 39 (.func (.func gs) #[] lbs) := hc.boxed ((b1.alloc _).alloc _) (fun h => by
        rcases h with h | h | h | h
        · exact h2 (it.sub _ h)
        · exact hDS _ (.inl rfl) h
        · have := b1.lt; omega
        · have := b1.lt; omega)
      have b6 : Boxed W9 Bn 3 (.int .i64 n) := hc.boxed ((b2.alloc _).alloc _) (fun h => by
        rcases h with h | h | h | h
        · exact h3 (it.sub _ h)
        · exact hDS _ (.inr (.inl rfl)) h
        · have := b2.lt; omega
        · have := b2.lt; omega)
      have c9 := Chg.put1 W9 d (.deferred none)
      gi_wp2
      refine ⟨by simp, .inl ⟨_, _, rfl, run_takeDeferred hK, ?_⟩⟩
      rcases hj with j | ⟨hz, j⟩
      · refine ⟨_, results_none rfl _ _ _, ⟨_, rfl⟩, zs, So, .inr ⟨List.prefix_take_iff.2 ⟨hpre, j.1⟩, (pJx _).chg j.2 c9 (fun k hk e => hnd (.inl (e ▸ hk)))⟩,
          ⟨c9.boxed b5 (hwd _ b1.lt), c9.boxed b6 (hwd _ b2.lt), it.kept hi (by simp) (fun k hk => World.putObj_heap_other (hwd _ (it.lt0 i1 k hk)))⟩,
          endChg (((Chg.refl _ W).alloc _).alloc _) hc (fun k hk h hn => ?_) (by omega) _, endGrew (by simp; omega) hg (fun _ => .inl) (fun k hk hk1 h => ?_)⟩
        · rcases h with h | h | h | h
          · exact (hn (.inl h)).elim
          · exact (hn (.inr h)).elim
          · omega
          · omega
        · rcases h with h | h | h
          · exact h
          · omega
          · omega
      · refine ⟨_, results_none rfl _ _ _, ⟨_, rfl⟩, zs, So, .inl ⟨hz, (pJ _).chg j c9 (fun k hk e => hnd (.inl (e ▸ hk)))⟩,
          ⟨c9.boxed b5 (hwd _ b1.lt), c9.boxed b6 (hwd _ b2.lt), it.kept hi (by simp) (fun k hk => World.putObj_heap_other (hwd _ (it.lt0 i1 k hk)))⟩,
          endChg (((Chg.refl _ W).alloc _).alloc _) hc (fun k hk h hn => ?_) (by omega) _, endGrew (by simp; omega) hg (fun _ => .inl) (fun k hk hk1 h => ?_)⟩
        · rcases h with h | h | h | h
          · exact (hn (.inl h)).elim
          · exact (hn (.inr h)).elim
          · omega
          · omega
        · rcases h with h | h | h
          · exact h
          · omega
          · omega
    · intro zs
      exact ⟨by
        rintro S W' ⟨So, rfl, j, b3, b4, _⟩ k (h | h | h)
        · exact (pJ _).lt j k h
        · subst h; exact b3.lt
        · subst h; exact b4.lt, by
        rintro S W' W2 ⟨So, rfl, j, b3, b4, r⟩ hs hk
        exact ⟨So, rfl, (pJ _).kept j hs (fun k h => hk k (.inl h)), (hk _ (.inr (.inl rfl))).trans b3, (hk _ (.inr (.inr rfl))).trans b4, r⟩⟩
    · intro c zs
      exact ⟨by
        rintro S W' ⟨So, rfl, j, ⟨u, q, b3, b4⟩, _⟩ k (h | h | h)
        · rcases j with j | j
          · exact (pJx _).lt j.2 k h
          · exact (pJ _).lt j.2 k h
        · subst h; exact b3.lt
        · subst h; exact b4.lt, by
        rintro S W' W2 ⟨So, rfl, j, ⟨u, q, b3, b4⟩, r⟩ hs hk
        refine ⟨So, rfl, ?_, ⟨u, q, (hk _ (.inr (.inl rfl))).trans b3, (hk _ (.inr (.inr rfl))).trans b4⟩, r⟩
        rcases j with j | j
        · exact .inl ⟨j.1, (pJx _).kept j.2 hs (fun k h => hk k (.inl h))⟩
        · exact .inr ⟨j.1, (pJ _).kept j.2 hs (fun k h => hk k (.inl h))⟩⟩
    · have c1 : Chg (fun _ => False) W ((W.alloc (.cells #[.func (.yield l) #[] #[]] 29)).alloc (.cells #[.int .i64 n] 3)) := ((Chg.refl _ W).alloc _).alloc _
      have bn := Boxed.new (W.alloc (.cells #[.func (.yield l) #[] #[]] 29)) 3 (.int .i64 n)
      rw [World.size_alloc] at bn
      exact ⟨S, rfl, (pJ _).chg hJ c1 (fun _ _ h => h), (Boxed.new _ _ _).alloc _, by simpa using bn, by simp; omega, fun h => by have := hYn _ h; omega, fun h => by have := hYn _ h; omega⟩
    · rintro k hk (h | h | h)
      · exact hDS k (.inr (.inr hk)) h
      · have := it.lt0 i1 k hk; omega
      · have := it.lt0 i1 k hk; omega }

end Go.Proofs.YtbhhkfmjbgakbaaDoor

end
