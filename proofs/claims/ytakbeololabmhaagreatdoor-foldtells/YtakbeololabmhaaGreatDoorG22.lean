/-
  Of: DTails, DLen.
-/
import Derived.Test.YtakbeololabmhaaGreatDoorG12
import Derived.Test.YtakbeololabmhaaGreatDoorG21
import Derived.Test.YtakbeololabmhaaGreatDoorG20
section
-- DTails
namespace Go.Proofs.YtakbeololabmhaaGreatDoor
open Go.RowKit Go.Shelf Go.SeqLib Go.DiffLib
attribute [local go_sem] Oper.semAt_some

theorem dn_at {n x : Nat} {pre : List Nat} (h : pre ++ [x] <+: (List.range n).reverse) : pre.length + 1 ≤ n ∧ x + pre.length + 1 = n := by
  have h1 := h.length_le
  simp at h1
  refine ⟨h1, ?_⟩
  obtain ⟨t, ht⟩ := h
  have h2 : (List.range n).reverse[pre.length]? = some x := by rw [← ht]; simp
  rw [List.getElem?_reverse (by simp; omega), List.getElem?_range (by simp; omega)] at h2
  have := Option.some.inj h2
  simp at this
  omega

set_option maxRecDepth 100000 in
set_option maxHeartbeats 1000000 in
theorem tails_in (v u : Value) (a b : List ByteArray) (w : World) (hv : SlV w v (a.map Value.string)) (hu : SlV w u (b.map Value.string)) (ha : a.length ≤ 1000) (hb : b.length ≤ 1000) :
    CallsIn Fence.wide 0 Tryz.prog 186 #[v, u] w fun e w' => ∃ G R, e = .returned (.slice (some ⟨G, 0, none⟩) (a.length + 1) (a.length + 1)) ∧ Tab w' G a.length b.length 0 R (fillV a b 0 0) ∧ (∀ k, tabB G a.length 0 R k → w.heap.size ≤ k) ∧ Chg No w w' := by
  have hmix : Tryz.prog.follows .mixedOrders = true := by kernel_rfl
  obtain ⟨p, cp, rfl, hp1, hp2, hpc⟩ := id hv
  obtain ⟨q, cq, rfl, hq1, hq2, hqc⟩ := id hu
  rw [List.length_map] at hp1 hq1
  obtain ⟨n, HN⟩ : ∃ n, Hid (a.length = n) := ⟨_, rfl⟩
  obtain ⟨m, HM⟩ : ∃ m, Hid (b.length = m) := ⟨_, rfl⟩
  rw [List.length_map, HN.out] at hv
  rw [List.length_map, HM.out] at hu
  rw [List.length_map, List.length_map, HN.out, HM.out]
  rw [HN.out] at ha hp1
  rw [HM.out] at hb hq1
  have hmR := makeR n (by omega)
  have hmI := makeI m (by omega)
  refine callsIn_of_wp_marks Tryz.func186 rfl trivial ?_
  simp only [Tryz.ntmps186, List.size_toArray, List.length_cons, List.length_nil, Nat.reduceAdd, Nat.reduceSub, Array.replicate_succ, Array.replicate_zero, List.push_toArray, List.append_toArray, List.nil_append, List.cons_append]
  gi_wp2
  have hB0 : Boxed (((w.alloc (.cells #[.slice q m cq] 86)).alloc (.cells (madeCells #[.slice none 0 0] (n + 1)) 40)).alloc (.cells #[.slice (some ⟨w.heap.size + 1, 0, none⟩) (n + 1) (n + 1)] 214)) w.heap.size 86 (.slice q m cq) := ((Boxed.new _ _ _).alloc _).alloc _
  have hL0 : Boxed (((w.alloc (.cells #[.slice q m cq] 86)).alloc (.cells (madeCells #[.slice none 0 0] (n + 1)) 40)).alloc (.cells #[.slice (some ⟨w.heap.size + 1, 0, none⟩) (n + 1) (n + 1)] 214)) (w.heap.size + 1 + 1) 214 (.slice (some ⟨w.heap.size + 1, 0, none⟩) (n + 1) (n + 1)) := by
    have := Boxed.new ((w.alloc (.cells #[.slice q m cq] 86)).alloc (.cells (madeCells #[.slice none 0 0] (n + 1)) 40)) 214 (.slice (some ⟨w.heap.size + 1, 0, none⟩) (n + 1) (n + 1))
    simpa using this
  have hT0 : Tab (((w.alloc (.cells #[.slice q m cq] 86)).alloc (.cells (madeCells #[.slice none 0 0] (n + 1)) 40)).alloc (.cells #[.slice (some ⟨w.heap.size + 1, 0, none⟩) (n + 1) (n + 1)] 214)) (w.heap.size + 1) n m (n + 1) (fun _ => 0) (fun _ _ => 0) := by
    have h := Tab.empty (w.alloc (.cells #[.slice q m cq] 86)) n m (fun _ => 0) (fun _ _ => 0)
    rw [World.size_alloc] at h
    exact h.kept (fun k hk => Below.heap_alloc _ _ _ (h.lt k hk))
  have hc0 : Chg No w (((w.alloc (.cells #[.slice q m cq] 86)).alloc (.cells (madeCells #[.slice none 0 0] (n + 1)) 40)).alloc (.cells #[.slice (some ⟨w.heap.size + 1, 0, none⟩) (n + 1) (n + 1)] 214)) := (((Chg.refl _ w).alloc _).alloc _).alloc _
  have hz0 : (((w.alloc (.cells #[.slice q m cq] 86)).alloc (.cells (madeCells #[.slice none 0 0] (n + 1)) 40)).alloc (.cells #[.slice (some ⟨w.heap.size + 1, 0, none⟩) (n + 1) (n + 1)] 214)).heap.size = w.heap.size + 3 := by simp
  generalize (((w.alloc (.cells #[.slice q m cq] 86)).alloc (.cells (madeCells #[.slice none 0 0] (n + 1)) 40)).alloc (.cells #[.slice (some ⟨w.heap.size + 1, 0, none⟩) (n + 1) (n + 1)] 214)) = W0 at *
  have hany : Nonempty (After W0) := After.any W0
  have f1 : ∀ c : After W0, c.val.cell? ⟨w.heap.size, 0, none⟩ = some (.slice q m cq) := fun c => c.cell hB0.cell
  have f2 : ∀ c : After W0, c.val.cell? ⟨w.heap.size + 1 + 1, 0, none⟩ = some (.slice (some ⟨w.heap.size + 1, 0, none⟩) (n + 1) (n + 1)) := fun c => c.cell hL0.cell
  refine region_make_lit (m := 6) (vm := .slice (some ⟨w.heap.size + 3, 0, none⟩) (m + 1) (m + 1)) (.cells (madeCells #[.int .i64 0] (m + 1)) 3) hmix rfl rfl (by kernel_rfl) (by kernel_rfl) rfl rfl (by kernel_rfl) ?_
  simp only [makeHush, hush, List.replicate, List.length_cons, List.length_nil, List.nil_append, List.cons_append, Nat.reduceAdd, Nat.reduceSub]
  repeat (gi_big_quiet_step (fail))
  refine wpQuietIn_nil ⟨fun k => ?_, fun k => ⟨((W0.drewN k).alloc (.cells (madeCells #[.int .i64 0] (m + 1)) 3)).setCell ⟨w.heap.size + 1, n, none⟩ (.slice (some ⟨w.heap.size + 3, 0, none⟩) (m + 1) (m + 1)), ?_, ?_⟩⟩
  · simp [execOp, go_sem, hmI]
  · have hr := hT0.outer.alloc (.cells (madeCells #[.int .i64 0] (m + 1)) 3)
    have hcx := hr.cell (i := n) (by omega)
    have hfx := hr.frozen n
    have hcx' : ((W0.drewN k).alloc (.cells (madeCells #[.int .i64 0] (m + 1)) 3)).cell? ⟨w.heap.size + 1, n, none⟩ = some (.slice none 0 0) := by
      refine Eq.trans hcx ?_
      rw [if_neg (by omega)]
    have hfx' : ((W0.drewN k).alloc (.cells (madeCells #[.int .i64 0] (m + 1)) 3)).frozen? ⟨w.heap.size + 1, n, none⟩ = false := hfx
    simp [execOp, go_sem, hcx', hfx']
  have hT1 := (hT0.kept (W' := W0.drewN k) (fun _ _ => rfl)).new (Nat.le_refl n)
  rw [show (W0.drewN k).heap.size = w.heap.size + 3 from hz0] at hT1
  have hT2 : Tab (((W0.drewN k).alloc (.cells (madeCells #[.int .i64 0] (m + 1)) 3)).setCell ⟨w.heap.size + 1, n, none⟩ (.slice (some ⟨w.heap.size + 3, 0, none⟩) (m + 1) (m + 1))) (w.heap.size + 1) n m n (fun i => if i = n then w.heap.size + 3 else 0) (fillV a b n 0) := by
    refine hT1.congr (fun i j h1 h2 _ => ?_)
    obtain rfl : i = n := by omega
    rw [if_pos rfl, fillV_now (Nat.zero_le _), ← HN.out, tl_end]
    rfl
  have hb2 := (show Boxed (W0.drewN k) _ _ _ from hB0).alloc (.cells (madeCells #[.int .i64 0] (m + 1)) 3)
  have hl2 := (show Boxed (W0.drewN k) _ _ _ from hL0).alloc (.cells (madeCells #[.int .i64 0] (m + 1)) 3)
  have cT : Chg (fun k => k = w.heap.size + 1) ((W0.drewN k).alloc (.cells (madeCells #[.int .i64 0] (m + 1)) 3)) (((W0.drewN k).alloc (.cells (madeCells #[.int .i64 0] (m + 1)) 3)).setCell ⟨w.heap.size + 1, n, none⟩ (.slice (some ⟨w.heap.size + 3, 0, none⟩) (m + 1) (m + 1))) := Chg.setCell (S := fun k => k = w.heap.size + 1) (Chg.refl _ _) (p := ⟨w.heap.size + 1, n, none⟩) (.inl rfl) _
  have hb3 := cT.boxed hb2 (by omega)
  have hl3 := cT.boxed hl2 (by omega)
  have hc3 : Chg No w (((W0.drewN k).alloc (.cells (madeCells #[.int .i64 0] (m + 1)) 3)).setCell ⟨w.heap.size + 1, n, none⟩ (.slice (some ⟨w.heap.size + 3, 0, none⟩) (m + 1) (m + 1))) := ((drewNC hc0 k).alloc _).setCell (p := ⟨w.heap.size + 1, n, none⟩) (.inr (by simp)) _
  have hz3 : (((W0.drewN k).alloc (.cells (madeCells #[.int .i64 0] (m + 1)) 3)).setCell ⟨w.heap.size + 1, n, none⟩ (.slice (some ⟨w.heap.size + 3, 0, none⟩) (m + 1) (m + 1))).heap.size = w.heap.size + 4 := by
    simp [World.setCell]
    exact hz0
  generalize (((W0.drewN k).alloc (.cells (madeCells #[.int .i64 0] (m + 1)) 3)).setCell ⟨w.heap.size + 1, n, none⟩ (.slice (some ⟨w.heap.size + 3, 0, none⟩) (m + 1) (m + 1))) = W3 at *
  clear hT0 hT1 hB0 hL0 hc0 hb2 hl2 cT f1 f2 hany hz0 hmR
  gi_wp2_with fail
  refine ⟨trivial, rfl, (back_in p n cp _).mono ?_⟩
  rintro e W4 ⟨rfl, bk4, c4⟩
  rw [hz3] at bk4 ⊢
  have hv4 := (hv.no hc3).no c4
  have hu4 := (hu.no hc3).no c4
  have hT4 := hT2.chg c4 (fun _ _ h => h)
  have hb4 := c4.boxed hb3 (fun h => h)
  have hl4 := c4.boxed hl3 (fun h => h)
  have hc4 := Chg.seq hc3 c4
  have hz4 : w.heap.size + 4 < W4.heap.size := bk4.lt
  clear hT2 hb3 hl3 hc3 c4 hz3
  gi_wp2
  refine wpIn_rangeB (gf := 196) (lb := #[.pointer (some ⟨w.heap.size + 4, 0, none⟩)]) rfl back_enters (back1 (.slice p n cp) a (by rw [HN.out]; omega) (w.heap.size + 4)) (fun _ => rfl)
    (fun pre S W => ∃ R, S = tabB (w.heap.size + 1) n (n - pre.length) R ∧ Tab W (w.heap.size + 1) n m (n - pre.length) R (fillV a b (n - pre.length) 0) ∧ Boxed W w.heap.size 86 (.slice q m cq) ∧ Boxed W (w.heap.size + 1 + 1) 214 (.slice (some ⟨w.heap.size + 1, 0, none⟩) (n + 1) (n + 1)) ∧ SlV W (.slice q m cq) (b.map Value.string) ∧ (∀ k, S k → w.heap.size < k) ∧ ¬ S (w.heap.size + 1 + 1))
    (fun _ _ _ _ => False) ?parts (fun _ _ => PartB.false _) ⟨bk4, hv4⟩ ⟨_, rfl, hT4, hb4, hl4, hu4, ?own, ?own2⟩ ?apart
    (fun x a' X W => ∃ b1 b2, b1 ≠ b2 ∧ X = (fun k => k = b1 ∨ k = b2) ∧ Boxed W b1 3 (.int .i64 x) ∧ Boxed W b2 9 (.string (a[x]?.getD ⟨#[]⟩)) ∧ a' = { tmps := #[.slice p n cp, .slice q m cq, undef, .pointer (some ⟨w.heap.size, 0, none⟩), .slice none 0 0, .pointer (some ⟨w.heap.size + 1 + 1, 0, none⟩), .pointer (some ⟨b1, 0, none⟩), .pointer (some ⟨b2, 0, none⟩), undef, undef, .slice p n cp, .int .i64 n, .int .i64 (n + 1), .slice (some ⟨w.heap.size + 1, 0, none⟩) (n + 1) (n + 1), .slice (some ⟨w.heap.size + 1, 0, none⟩) (n + 1) (n + 1), .slice p n cp, .int .i64 n, .slice q m cq, .int .i64 m, .int .i64 (m + 1), .slice (some ⟨w.heap.size + 3, 0, none⟩) (m + 1) (m + 1), .pointer (some ⟨w.heap.size + 1, n, none⟩), .slice p n cp, .func (.func 196) #[] #[.pointer (some ⟨w.heap.size + 4, 0, none⟩)], .int .i64 (x : Nat), .string (a[x]?.getD ⟨#[]⟩), undef, undef, undef, undef, undef, undef, undef, undef, undef, undef, undef, undef, undef, undef, undef, undef, undef, undef, undef, undef, undef, undef, undef, undef, undef, undef, undef, undef, undef, undef, undef, undef, undef, undef, undef, undef, undef, undef, undef, undef, undef, undef, undef, undef, undef, undef, undef, undef, undef, undef, undef, undef, undef, undef], defers := [] })
    ?partx ?assign ?body ?done (fun _ _ _ _ _ _ _ h => h.elim)
  case parts =>
    intro pre
    refine ⟨?_, ?_⟩
    · rintro S W ⟨R, rfl, h, _⟩ k hk
      exact h.lt k hk
    · rintro S U W W' ⟨R, rfl, h, g1, g2, g3, g4, g5⟩ c hd
      exact ⟨R, rfl, h.chg c (fun k hk => hd k (.inl hk)), c.boxed g1 (hd _ (.inr (by omega))), c.boxed g2 (hd _ (.inr (by omega))), g3.chg c (fun k hk => hd k (.inr (by have := hu.lt k hk; omega))), g4, g5⟩
  case own =>
    rintro k (rfl | ⟨i, h1, h2, rfl⟩)
    · omega
    · simp at h1
      obtain rfl : i = n := by omega
      simp
  case own2 =>
    rintro (h | ⟨i, h1, h2, h⟩)
    · omega
    · simp at h1
      obtain rfl : i = n := by omega
      simp at h
  case apart =>
    have hown : ∀ k, tabB (w.heap.size + 1) n (n - ([] : List Nat).length) (fun i => if i = n then w.heap.size + 3 else 0) k → w.heap.size < k ∧ k ≠ w.heap.size + 4 := by
      rintro k (rfl | ⟨i, h1, h2, rfl⟩)
      · omega
      · simp at h1
        obtain rfl : i = n := by omega
        simp
    rintro k (rfl | hk) hs
    · exact (hown _ hs).2 rfl
    · have := hv.lt k hk
      have := (hown _ hs).1
      omega
  case partx =>
    intro x a'
    refine ⟨?_, ?_⟩
    · rintro X W ⟨b1, b2, _, rfl, g1, g2, _⟩ k (rfl | rfl)
      · exact g1.lt
      · exact g2.lt
    · rintro X W W' ⟨b1, b2, h, rfl, g1, g2, h3⟩ _ hk
      exact ⟨b1, b2, h, rfl, (hk _ (.inl rfl)).trans g1, (hk _ (.inr rfl)).trans g2, h3⟩
  case assign =>
    intro l x W K hK
    gi_wp2
    refine hK _ (fun k => k = W.heap.size ∨ k = W.heap.size + 1) _ (((Chg.refl _ W).alloc _).alloc _) (fun k hk => by omega) ⟨W.heap.size, W.heap.size + 1, by omega, rfl, (Boxed.new _ _ _).alloc _, ?_, rfl⟩
    have := Boxed.new (W.alloc (.cells #[.int .i64 (x : Int)] 3)) 9 (.string (a[x]?.getD ⟨#[]⟩))
    simpa using this
  case done =>
    rintro d S' W9 hd ⟨R, rfl, hT9, g1, g2, g3, g4, g5⟩ hI' hc hg hK hnd
    have e0 : n - (List.range a.length).reverse.length = 0 := by rw [List.length_reverse, List.length_range, HN.out]; omega
    rw [e0] at hT9 g4 hg hnd
    have hcl := g2.cell
    gi_wp2
    refine ⟨by simp, .inl ⟨_, _, rfl, run_takeDeferred hK, ?_⟩⟩
    refine ⟨_, results_tmp rfl _ _ _, w.heap.size + 1, R, rfl, hT9.kept (fun k hk => World.putObj_heap_other (fun e => hnd (e ▸ hk))), fun k hk => Nat.le_of_lt (g4 k hk), ?_⟩
    refine Chg.putObj (Chg.trans hc4 hc (fun k hk => ?_)) (.inr (by omega)) _
    refine .inr ?_
    have : ∀ k, tabB (w.heap.size + 1) n (n - ([] : List Nat).length) (fun i => if i = n then w.heap.size + 3 else 0) k → w.heap.size ≤ k := by
      rintro k (rfl | ⟨i, h1, h2, rfl⟩)
      · omega
      · simp at h1
        obtain rfl : i = n := by omega
        simp
    exact this k hk
  case body =>
    rintro l pre x S W a' X hpre ⟨R, rfl, hT, hbB, hbL, hsu, hown, hown2⟩ ⟨b1, b2, hne, rfl, hx1, hx2, rfl⟩ hXS ⟨rl, hl⟩ hSl hXl hlw
    obtain ⟨hpl, hpx⟩ := dn_at hpre
    rw [HN.out] at hpx
    have hx : n - pre.length = x + 1 := by omega
    have hx' : n - (pre ++ [x]).length = x := by rw [List.length_append, List.length_singleton]; omega
    have hxn : x < n := by omega
    obtain ⟨ax, HAX⟩ : ∃ ax, Hid (a[x]?.getD ⟨#[]⟩ = ax) := ⟨_, rfl⟩
    rw [HAX.out] at hx2 ⊢
    have HX : Hid (n - (pre ++ [x]).length = x) := hx'
    rw [hx] at hT hown hown2 hSl hXS
    simp only [hx]
    have hGl : w.heap.size + 1 < W.heap.size := hT.outer.lt
    have hany : Nonempty (After W) := After.any W
    have f1 : ∀ c : After W, c.val.cell? ⟨w.heap.size, 0, none⟩ = some (.slice q m cq) := fun c => c.cell hbB.cell
    have f2 : ∀ c : After W, c.val.cell? ⟨w.heap.size + 1 + 1, 0, none⟩ = some (.slice (some ⟨w.heap.size + 1, 0, none⟩) (n + 1) (n + 1)) := fun c => c.cell hbL.cell
    have f3 : ∀ c : After W, c.val.cell? ⟨b1, 0, none⟩ = some (.int .i64 (x : Int)) := fun c => c.cell hx1.cell
    have hxi : (x : Int) < (n : Int) + 1 := by omega
    have hmI' : ∀ w, (Instr.makeSlice 40 (.int .i64 ((m : Int) + 1)) (.int .i64 ((m : Int) + 1))).run Tryz.prog w = .ok (.slice (some ⟨w.heap.size, 0, none⟩) (m + 1) (m + 1)) (w.alloc (.cells (madeCells #[.int .i64 0] (m + 1)) 3)) := hmI
    clear hpre hx hx' hpx hpl
    gi_wp2
    refine region_makeR_lit (m := 5) (vm := .slice (some ⟨W.heap.size, 0, none⟩) (m + 1) (m + 1)) (.cells (madeCells #[.int .i64 0] (m + 1)) 3) hmix rfl rfl (by kernel_rfl) (by kernel_rfl) (by kernel_rfl) rfl rfl (by kernel_rfl) ?_
    simp only [makeHush, hush, List.replicate, List.length_cons, List.length_nil, List.nil_append, List.cons_append, Nat.reduceAdd, Nat.reduceSub]
    repeat (gi_big_quiet_step (fail))
    refine wpQuietIn_nil ⟨fun k => ?_, fun k => ⟨((W.drewN k).alloc (.cells (madeCells #[.int .i64 0] (m + 1)) 3)).setCell ⟨w.heap.size + 1, x, none⟩ (.slice (some ⟨W.heap.size, 0, none⟩) (m + 1) (m + 1)), ?_, ?_⟩⟩
    · simp [execOp, go_sem, hmI']
    · have hr := hT.outer.alloc (.cells (madeCells #[.int .i64 0] (m + 1)) 3)
      have hcx := hr.cell (i := x) (by omega)
      have hfx := hr.frozen x
      have hcx' : ((W.drewN k).alloc (.cells (madeCells #[.int .i64 0] (m + 1)) 3)).cell? ⟨w.heap.size + 1, x, none⟩ = some (.slice none 0 0) := by
        refine Eq.trans hcx ?_
        rw [if_neg (by omega)]
      have hfx' : ((W.drewN k).alloc (.cells (madeCells #[.int .i64 0] (m + 1)) 3)).frozen? ⟨w.heap.size + 1, x, none⟩ = false := hfx
      simp [execOp, go_sem, hcx', hfx']
    have hT5 : Tab (((W.drewN k).alloc (.cells (madeCells #[.int .i64 0] (m + 1)) 3)).setCell ⟨w.heap.size + 1, x, none⟩ (.slice (some ⟨W.heap.size, 0, none⟩) (m + 1) (m + 1))) (w.heap.size + 1) n m x (fun i => if i = x then W.heap.size else R i) (fillV a b x m) := by
      have h := (hT.kept (W' := W.drewN k) (fun _ _ => rfl)).new (show x ≤ n by omega)
      rw [show (W.drewN k).heap.size = W.heap.size from rfl] at h
      refine h.congr (fun i j h1 h2 h3 => ?_)
      by_cases e : i = x
      · subst e
        rw [if_pos rfl]
        unfold fillV
        split
        · obtain rfl : j = m := by omega
          rw [← HM.out, tl_end']
          rfl
        · rfl
      · rw [if_neg e, fillV_old _ (show x < i by omega)]
        unfold fillV
        rw [if_pos (by omega)]
    have cT : Chg (tabB (w.heap.size + 1) n (x + 1) R) W (((W.drewN k).alloc (.cells (madeCells #[.int .i64 0] (m + 1)) 3)).setCell ⟨w.heap.size + 1, x, none⟩ (.slice (some ⟨W.heap.size, 0, none⟩) (m + 1) (m + 1))) :=
      ((drewNC (Chg.refl _ W) k).alloc _).setCell (p := ⟨w.heap.size + 1, x, none⟩) (.inl (.inl rfl)) _
    have g1 := cT.boxed hbB (fun h => by have := hown _ h; omega)
    have g2 := cT.boxed hbL hown2
    have g3 := cT.boxed hx1 (hXS b1 (.inl rfl)).1
    have g4 := cT.boxed hx2 (hXS b2 (.inr rfl)).1
    have g5 := cT.same hl hSl
    have g6 := hsu.chg cT (fun k hk h => by have := hu.lt k hk; have := hown _ h; omega)
    have gz : (((W.drewN k).alloc (.cells (madeCells #[.int .i64 0] (m + 1)) 3)).setCell ⟨w.heap.size + 1, x, none⟩ (.slice (some ⟨W.heap.size, 0, none⟩) (m + 1) (m + 1))).heap.size = W.heap.size + 1 := by
      simp [World.setCell]
    generalize (((W.drewN k).alloc (.cells (madeCells #[.int .i64 0] (m + 1)) 3)).setCell ⟨w.heap.size + 1, x, none⟩ (.slice (some ⟨W.heap.size, 0, none⟩) (m + 1) (m + 1))) = W5 at *
    have hb1 := hx1.lt
    have hb2 := hx2.lt
    have hll : l < W.heap.size := (Array.getElem?_eq_some_iff.1 hl).1
    have hLl := hbL.lt
    clear f1 f2 f3 hany hxi hx1 hx2 hl hbL hbB hsu
    have gc := g1.cell
    gi_wp2_with fail
    refine ⟨trivial, rfl, (back_in q m cq _).mono ?_⟩
    rintro e W6 ⟨rfl, bk6, c6⟩
    rw [gz] at bk6 ⊢
    have hT6 := hT5.chg c6 (fun _ _ h => h)
    have k1 := c6.boxed g1 (fun h => h)
    have k2 := c6.boxed g2 (fun h => h)
    have k3 := c6.boxed g3 (fun h => h)
    have k4 := c6.boxed g4 (fun h => h)
    have k5 := c6.same g5 (fun h => h)
    have k6 := g6.no c6
    have hz6 := c6.size
    have hz7 := bk6.lt
    clear g1 g2 g3 g4 g5 g6 hT5
    gi_wp2
    refine wpIn_rangeN k5 (gf := 196) (lb := #[.pointer (some ⟨W.heap.size + 1, 0, none⟩)]) rfl back_enters (back1 (.slice q m cq) b (by rw [HM.out]; omega) (W.heap.size + 1)) (fun _ => rfl)
      (fun pre2 S2 W2 => S2 = (fun k => k = W.heap.size) ∧ Tab W2 (w.heap.size + 1) n m x (fun i => if i = x then W.heap.size else R i) (fillV a b x (m - pre2.length)) ∧ Boxed W2 w.heap.size 86 (.slice q m cq) ∧ Boxed W2 (w.heap.size + 1 + 1) 214 (.slice (some ⟨w.heap.size + 1, 0, none⟩) (n + 1) (n + 1)) ∧ Boxed W2 b1 3 (.int .i64 x) ∧ Boxed W2 b2 9 (.string ax))
      (fun _ _ _ _ => False) ?parts2 (fun _ _ => PartB.false _) (S := fun k => k = W.heap.size) ⟨bk6, k6⟩ ⟨rfl, hT6, k1, k2, k3, k4⟩ ?apart2
      (fun j => { tmps := #[.slice p n cp, .slice q m cq, undef, .pointer (some ⟨w.heap.size, 0, none⟩), .slice none 0 0, .pointer (some ⟨w.heap.size + 1 + 1, 0, none⟩), .pointer (some ⟨b1, 0, none⟩), .pointer (some ⟨b2, 0, none⟩), .int .i64 (j : Nat), .string (b[j]?.getD ⟨#[]⟩), .slice p n cp, .int .i64 n, .int .i64 (n + 1), .slice (some ⟨w.heap.size + 1, 0, none⟩) (n + 1) (n + 1), .slice (some ⟨w.heap.size + 1, 0, none⟩) (n + 1) (n + 1), .slice p n cp, .int .i64 n, .slice q m cq, .int .i64 m, .int .i64 (m + 1), .slice (some ⟨w.heap.size + 3, 0, none⟩) (m + 1) (m + 1), .pointer (some ⟨w.heap.size + 1, n, none⟩), .slice p n cp, .func (.func 196) #[] #[.pointer (some ⟨w.heap.size + 4, 0, none⟩)], .int .i64 (x : Nat), .string ax, .slice (some ⟨w.heap.size + 1, 0, none⟩) (n + 1) (n + 1), .int .i64 (x : Nat), .slice q m cq, .int .i64 m, .int .i64 (m + 1), .slice (some ⟨W.heap.size, 0, none⟩) (m + 1) (m + 1), .pointer (some ⟨w.heap.size + 1, x, none⟩), .slice q m cq, .func (.func 196) #[] #[.pointer (some ⟨W.heap.size + 1, 0, none⟩)], .int .i64 (j : Nat), .string (b[j]?.getD ⟨#[]⟩), undef, undef, undef, undef, undef, undef, undef, undef, undef, undef, undef, undef, undef, undef, undef, undef, undef, undef, undef, undef, undef, undef, undef, undef, undef, undef, undef, undef, undef, undef, undef, undef, undef, undef, undef, undef, undef, undef, undef, undef, undef, undef, undef], defers := [] })
      ?assign2 ?body2 ?done2 (fun _ _ _ _ _ h => h.elim)
    case parts2 =>
      intro pre2
      have hlt := hT6.lt
      refine ⟨?_, ?_⟩
      · rintro S2 W2 ⟨rfl, h, _⟩ k hk
        exact h.lt k (.inr ⟨x, Nat.le_refl _, by omega, by simp [hk]⟩)
      · rintro S2 U W2 W2' ⟨rfl, h, h1, h2, h3, h4⟩ c hd
        exact ⟨rfl, h.chg c (fun k hk => hd k (.inr (hlt k hk))), c.boxed h1 (hd _ (.inr (by omega))), c.boxed h2 (hd _ (.inr (by omega))), c.boxed h3 (hd _ (.inr (by omega))), c.boxed h4 (hd _ (.inr (by omega)))⟩
    case apart2 =>
      rintro k (hk | hk) hk2
      · omega
      · have := hu.lt _ hk; omega
    case assign2 =>
      intro l2 j W2 K hK
      gi_wp2
      exact hK
    case done2 =>
      rintro S2 W2 ⟨rfl, h, h1, h2, h3, h4⟩ hi2 c2 gr2
      rw [List.length_reverse, List.length_range, HM.out, Nat.sub_self] at h
      gi_wp2
      have cc : Chg (tabB (w.heap.size + 1) n (x + 1) R) W W2 := (cT.trans (c6.mono (fun _ h => h.elim)) (Grew.refl _ _)).trans c2 (fun k hk => .inr (by omega))
      refine ⟨tabB (w.heap.size + 1) n x (fun i => if i = x then W.heap.size else R i), cc, ?_, fun i => if i = x then W.heap.size else R i, ?_⟩
      · rintro k (hk | ⟨i, e1, e2, hk⟩)
        · exact .inl (.inl hk)
        · by_cases ei : i = x
          · simp only [if_pos ei] at hk
            exact .inr (by omega)
          · simp only [if_neg ei] at hk
            exact .inl (.inr ⟨i, by omega, e2, hk⟩)
      rw [HX.out]
      refine ⟨rfl, h, h1, h2, hi2.2, ?_, ?_⟩
      · rintro k (hk | ⟨i, e1, e2, hk⟩)
        · omega
        · by_cases ei : i = x
          · simp only [if_pos ei] at hk
            omega
          · simp only [if_neg ei] at hk
            exact hown k (.inr ⟨i, by omega, e2, hk⟩)
      · rintro (hk | ⟨i, e1, e2, hk⟩)
        · omega
        · by_cases ei : i = x
          · simp only [if_pos ei] at hk
            omega
          · simp only [if_neg ei] at hk
            exact hown2 (.inr ⟨i, by omega, e2, hk⟩)
    case body2 =>
      rintro l2 pre2 j S2 W2 hpre2 ⟨rfl, h, h1, h2, h3, h4⟩
      obtain ⟨hpl2, hpx2⟩ := dn_at hpre2
      rw [HM.out] at hpx2
      have hj : m - pre2.length = j + 1 := by omega
      have HJ : Hid (m - (pre2 ++ [j]).length = j) := by rw [List.length_append, List.length_singleton]; show _ = _; omega
      have hjm : j < m := by omega
      rw [hj] at h
      have i1 := h4.cell
      clear hpre2 hj hpx2 hpl2
      obtain ⟨bj, HBJ⟩ : ∃ bj, Hid (b[j]?.getD ⟨#[]⟩ = bj) := ⟨_, rfl⟩
      simp only [HBJ.out]
      gi_wp2_with fail
      refine ⟨trivial, rfl, (like_in _ _ _).mono ?_⟩
      rintro e W7 ⟨rfl, rfl⟩
      have HTL : Hid (tl (a.drop x) (b.drop j) = if ax = bj then tl (a.drop (x + 1)) (b.drop (j + 1)) + 1 else max (tl (a.drop (x + 1)) (b.drop j)) (tl (a.drop x) (b.drop (j + 1)))) := by
        have hxa : x < a.length := by rw [HN.out]; exact hxn
        have hjb : j < b.length := by rw [HM.out]; exact hjm
        have hax : a[x]?.getD ⟨#[]⟩ = a[x] := by rw [List.getElem?_eq_getElem hxa]; rfl
        have hbj : b[j]?.getD ⟨#[]⟩ = b[j] := by rw [List.getElem?_eq_getElem hjb]; rfl
        have htl := tl_at a b x j hxa hjb
        rw [← hax, ← hbj, HAX.out, HBJ.out] at htl
        exact htl
      have HR0 : Hid (W7.cell? ⟨w.heap.size + 1, x, none⟩ = some (.slice (some ⟨W.heap.size, 0, none⟩) (m + 1) (m + 1))) := by
        have := h.row (i := x) (Nat.le_refl _) (by omega)
        simp only [if_pos] at this
        exact this
      have HR1 : Hid (W7.cell? ⟨w.heap.size + 1, x + 1, none⟩ = some (.slice (some ⟨R (x + 1), 0, none⟩) (m + 1) (m + 1))) := by
        have := h.row (i := x + 1) (by omega) (by omega)
        simp only [if_neg (show ¬ x + 1 = x by omega)] at this
        exact this
      have HV1 : Hid (∀ j', j' ≤ m → W7.cell? ⟨R (x + 1), j', none⟩ = some (.int .i64 (tl (a.drop (x + 1)) (b.drop j') : Int))) := by
        intro j' hj'
        have := h.num (i := x + 1) (by omega) (by omega) hj'
        rw [fillV_old _ (by omega)] at this
        simp only [if_neg (show ¬ x + 1 = x by omega)] at this
        exact this
      have HV0 : Hid (W7.cell? ⟨W.heap.size, j + 1, none⟩ = some (.int .i64 (tl (a.drop x) (b.drop (j + 1)) : Int))) := by
        have := h.num (i := x) (Nat.le_refl _) (by omega) (show j + 1 ≤ m by omega)
        rw [fillV_now (Nat.le_refl _)] at this
        simp only [if_pos] at this
        exact this
      have HF : Hid ((∃ u, W7.cell? ⟨W.heap.size, j, none⟩ = some u) ∧ W7.frozen? ⟨W.heap.size, j, none⟩ = false) := by
        have h9 := h.inner x (Nat.le_refl _) (by omega)
        simp only [if_pos] at h9
        exact ⟨⟨_, h9.cell (by omega)⟩, h9.frozen j⟩
      have HP : Hid (∀ (k : Nat) (z : Int), z = (tl (a.drop x) (b.drop j) : Int) → ∃ S', Chg (fun k => k = W.heap.size) W7 ((W7.drewN k).setCell ⟨W.heap.size, j, none⟩ (.int .i64 z)) ∧ Grew (fun k => k = W.heap.size) W7 S' ∧ S' = (fun k => k = W.heap.size) ∧ Tab ((W7.drewN k).setCell ⟨W.heap.size, j, none⟩ (.int .i64 z)) (w.heap.size + 1) n m x (fun i => if i = x then W.heap.size else R i) (fillV a b x (m - (pre2 ++ [j]).length)) ∧ Boxed ((W7.drewN k).setCell ⟨W.heap.size, j, none⟩ (.int .i64 z)) w.heap.size 86 (.slice q m cq) ∧ Boxed ((W7.drewN k).setCell ⟨W.heap.size, j, none⟩ (.int .i64 z)) (w.heap.size + 1 + 1) 214 (.slice (some ⟨w.heap.size + 1, 0, none⟩) (n + 1) (n + 1)) ∧ Boxed ((W7.drewN k).setCell ⟨W.heap.size, j, none⟩ (.int .i64 z)) b1 3 (.int .i64 x) ∧ Boxed ((W7.drewN k).setCell ⟨W.heap.size, j, none⟩ (.int .i64 z)) b2 9 (.string ax)) := by
        intro k z hz
        have c : Chg (fun k => k = W.heap.size) W7 ((W7.drewN k).setCell ⟨W.heap.size, j, none⟩ (.int .i64 z)) := Chg.setCell (S := fun k => k = W.heap.size) (drewNC (Chg.refl _ W7) k) (p := ⟨W.heap.size, j, none⟩) (.inl rfl) _
        refine ⟨_, c, Grew.refl _ _, rfl, ?_, c.boxed h1 (by omega), c.boxed h2 (by omega), c.boxed h3 (by omega), c.boxed h4 (by omega)⟩
        have h9 := (h.kept (W' := W7.drewN k) (fun _ _ => rfl)).put (i := x) (Nat.le_refl _) (by omega) j z
        simp only [if_pos] at h9
        rw [HJ.out]
        refine h9.congr (fun i j' e1 e2 e3 => ?_)
        by_cases ei : i = x
        · subst ei
          by_cases ej : j' = j
          · subst ej
            rw [if_pos ⟨rfl, rfl⟩, fillV_now (Nat.le_refl _), hz]
          · rw [if_neg (fun h => ej h.2)]
            by_cases hjj : j ≤ j'
            · rw [fillV_now (by omega), fillV_now hjj]
            · unfold fillV
              rw [if_neg (by omega), if_neg (by omega)]
        · rw [if_neg (fun h => ei h.1), fillV_old _ (by omega), fillV_old _ (by omega)]
      have q1 := h2.cell
      have q2 := h3.cell
      have r0 := HR0.out
      have r1 := HR1.out
      have v11 := HV1.out (j + 1) (by omega)
      have v10 := HV1.out j (by omega)
      have v01 := HV0.out
      obtain ⟨⟨uu, w1⟩, w2⟩ := HF.out
      have hx1 : (x : Int) < (n : Int) + 1 := by omega
      have hx2 : (x : Int) + 1 < (n : Int) + 1 := by omega
      have hj1 : (j : Int) < (m : Int) + 1 := by omega
      have hj2 : (j : Int) + 1 < (m : Int) + 1 := by omega
      have hbd := (tl_le (a.drop (x + 1)) (b.drop (j + 1))).1
      rw [List.length_drop, HN.out] at hbd
      generalize tl (a.drop (x + 1)) (b.drop (j + 1)) = t11 at *
      generalize tl (a.drop (x + 1)) (b.drop j) = t10 at *
      generalize tl (a.drop x) (b.drop (j + 1)) = t01 at *
      generalize tl (a.drop x) (b.drop j) = t00 at *
      have hRx : R (x + 1) ≠ W.heap.size := by
        have := hT.lt (R (x + 1)) (.inr ⟨x + 1, Nat.le_refl _, by omega, rfl⟩)
        omega
      clear h h1 h2 h3 h4 HR0 HR1 HV1 HV0 HF hT hT6
      by_cases hxy : ax = bj
      · have HT0 : Hid (((t11 : Int) + 1) = (t00 : Int)) := by
          have := HTL.out
          rw [if_pos hxy] at this
          rw [this]; exact rfl
        rw [decide_eq_true hxy]
        clear hxy HTL
        gi_wp2
        refine region_storeR_lit hmix rfl (by kernel_rfl) (by kernel_rfl) (by kernel_rfl) rfl ?_
        simp only [lastHush, hush, List.replicate, List.length_cons, List.length_nil, List.nil_append, List.cons_append, Nat.reduceAdd, Nat.reduceSub]
        repeat (gi_big_quiet_step (fail))
        refine wpQuietIn_nil ?_
        rintro w' ⟨k, rfl⟩
        refine ⟨(W7.drewN k).setCell ⟨W.heap.size, j, none⟩ (.int .i64 ((t11 : Int) + 1)), ?_, ?_⟩
        · simp [execOp, go_sem, w1, w2]
        gi_wp2
        exact HP.out k _ HT0.out
      · have HT0 : Hid ((if t10 < t01 then (t01 : Int) else (t10 : Int)) = (t00 : Int)) := by
          have := HTL.out
          rw [if_neg hxy] at this
          rw [this]
          show _ = _
          split <;> omega
        rw [decide_eq_false hxy]
        clear hxy HTL
        gi_wp2
        refine region_storeR_lit hmix rfl (by kernel_rfl) (by kernel_rfl) (by kernel_rfl) rfl ?_
        simp only [lastHush, hush, List.replicate, List.length_cons, List.length_nil, List.nil_append, List.cons_append, Nat.reduceAdd, Nat.reduceSub]
        repeat (gi_big_quiet_step (fail))
        refine wpQuietIn_nil ?_
        rintro w' ⟨k, rfl⟩
        refine ⟨(W7.drewN k).setCell ⟨W.heap.size, j, none⟩ (.int .i64 (if t10 < t01 then (t01 : Int) else (t10 : Int))), ?_, ?_⟩
        · simp [execOp, go_sem, w1, w2]
          try (congr 2; split <;> omega)
        rw [HT0.out]
        gi_wp2
        exact HP.out k _ rfl

end Go.Proofs.YtakbeololabmhaaGreatDoor

end
section
-- DLen
namespace Go.Proofs.YtakbeololabmhaaGreatDoor
open Go.RowKit Go.Shelf Go.SeqLib Go.DiffLib
attribute [local go_sem] Oper.semAt_some

set_option maxHeartbeats 1000000 in
theorem tooLong_in (p q : Option Addr) (n m c d : Nat) (w : World) : CallsIn Fence.wide 0 Tryz.prog 185 #[.slice p n c, .slice q m d] w fun e w' => e = .returned (.bool (decide (400 < n ∨ 400 < m))) ∧ w' = w := by
  have HD : Hid (decide (400 < n ∨ 400 < m) = (decide ((400 : Int) < n) || decide ((400 : Int) < m))) := by
    rw [← Bool.decide_or]
    exact decide_eq_decide.2 (by omega)
  refine callsIn_of_wp Tryz.func185 rfl trivial ?_
  simp only [Tryz.ntmps185, List.size_toArray, List.length_cons, List.length_nil, Nat.reduceAdd, Nat.reduceSub, Array.replicate_succ, Array.replicate_zero, List.push_toArray, List.append_toArray, List.nil_append, List.cons_append]
  rw [HD.out]
  by_cases h : (400 : Int) < n
  · gi_wp2
    go_ret
    exact ⟨by simp [h], rfl⟩
  · gi_wp2
    go_ret
    exact ⟨by rw [decide_eq_false (show ¬ (400 : Int) < n by omega)]; simp, rfl⟩

end Go.Proofs.YtakbeololabmhaaGreatDoor

end
