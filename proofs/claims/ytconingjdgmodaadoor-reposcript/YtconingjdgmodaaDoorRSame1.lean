/-
  The statements' own same: a repo and the document's, commit by commit.
-/
import Derived.Test.YtconingjdgmodaaDoorRSameH
import Derived.Sort.CutIn
import Derived.Sort.QuietThIn
import Derived.Shelf.RegionOpen
namespace Go.Proofs.YtconingjdgmodaaDoor
open Go.RowKit Go.Shelf Go.SeqLib Go.DiffLib Go.TreeLib Go.RepoLib Go.BigFrame
attribute [local go_sem] Oper.semAt_some

set_option maxRecDepth 100000 in
set_option maxHeartbeats 8000000 in
theorem sameR_in {Rep : Nat → Rp → Blk → World → Prop} (J : RepoSpec Rep) (b B Bw : Nat) (s : Rp) (S : Blk) (lv : Value) (rows : List Rw) (w : World) (r : Rep B s S w) (hS : ∀ k, S k → b ≤ k) (h : RefRep b Bw s lv rows w) (hd : ∀ k, refS Bw lv k → ¬ S k) (hl : s.1.length ≤ 200) (hsm : ∀ c ∈ s.1, SmallC c) :
    CallsIn Fence.wide 0 Tryd.prog 21 #[ptr B, ptr Bw] w fun e w' => e = .returned (.bool true) ∧ Chg No w w' := by
  have hmix : Tryd.prog.follows .mixedOrders = true := by kernel_rfl
  obtain ⟨pv, kv, rfl⟩ := h.slice
  obtain ⟨N, hN⟩ : ∃ N, s.1.length = N := ⟨_, rfl⟩
  have HN : Hid (s.1.length = N) := hN
  have HSm : Hid (∀ c ∈ s.1, SmallC c) := hsm
  have HD : Hid (∀ k, refS Bw (.slice pv s.1.length kv) k → ¬ S k) := hd
  have HS : Hid (∀ k, S k → b ≤ k) := hS
  rw [hN] at h hl
  obtain ⟨W1, hW1⟩ : ∃ W1, w.alloc (.cells #[ptr Bw] 28) = W1 := ⟨_, rfl⟩
  have ca : Chg No w W1 := hW1 ▸ (Chg.refl _ w).alloc _
  have x0 : W1.heap[w.heap.size]? = some (.cells #[ptr Bw] 28 (0, 0)) := hW1 ▸ World.alloc_heap_new w _
  have HX : Hid (∀ W, Chg No W1 W → W.cell? ⟨w.heap.size, 0, none⟩ = some (ptr Bw)) := fun W cW => by
    have z0 := cW.same x0 (fun h => h)
    show _ = _
    simp [World.cell?, z0]
  have h1 := h.no ca
  have r1 := rep_no J r ca
  obtain ⟨t0, _, _, _⟩ := h1.cells
  have HLS : Hid (∀ k, S k → k < w.heap.size) := fun k hk => (J.part B s).lt r k hk
  have y0 := HX.out W1 (Chg.refl _ _)
  have hany := After.any W1
  have f0 : ∀ d : After W1, d.val.cell? ⟨w.heap.size, 0, none⟩ = some (ptr Bw) := fun d => d.cell y0
  have f1 : ∀ d : After W1, d.val.cell? ⟨Bw, 0, none⟩ = some (.slice pv N kv) := fun d => d.cell t0
  have L1 : ∀ d : After W1, CallsIn Fence.wide 0 Tryd.prog 23 #[ptr B] d.val fun e w' => e = .returned (iv (N : Nat)) ∧ Chg No d.val w' := fun d => by
    have := J.len B s S d.val (rep_no J r1 d.chg) (by rw [hN]; exact hl)
    rw [hN] at this
    exact this
  clear hd hsm hS h x0 t0 y0 hN
  refine callsIn_of_wp_marks Tryd.func21 rfl trivial ?_
  simp only [Tryd.ntmps21, List.size_toArray, List.length_cons, List.length_nil, Nat.reduceAdd, Nat.reduceSub, Array.replicate_succ, Array.replicate_zero, List.push_toArray, List.append_toArray, List.nil_append, List.cons_append]
  gi_wp2
  refine region_quietC hmix (by kernel_rfl) ?_
  repeat (gi_big_quiet_step (fail))
  refine wpQuietIn_want (fun _ _ _ _ => trivial) rfl ?_
  intro KQ hKQ
  gi_big_quiet_op
  gi_big_quiet_call (exact ⟨rfl, (L1 _).mono (by rintro e w'' ⟨rfl, c'⟩; exact ⟨rfl, After.more _ c'⟩)⟩)
  repeat (gi_big_quiet_step (fail))
  refine wpQuietIn_nil ?_
  rintro w' ⟨d, rfl⟩
  have c1d := d.chg
  have r2 := rep_no J r1 c1d
  have h2 := h1.no c1d
  clear f0 f1 L1 hany
  generalize d.val = W2 at *
  gi_wp2
  gi_loopw [5] (fun s5 wr => ∃ n : Nat, n ≤ N + 2 ∧ s5 = .int .i64 (n : Int) ∧ Chg No W2 wr) (fun s5 _ => N + 2 - (intOf s5).toNat)
  case atStart => exact ⟨0, Nat.zero_le _, rfl, Chg.refl _ _⟩
  case round =>
    obtain ⟨n, hn, rfl, cn⟩ := hrel
    have hrn := rep_no J r2 cn
    have hwn := h2.no cn
    have c1n := Chg.seq c1d cn
    have y0 := HX.out wr c1n
    obtain ⟨t0, _, _, _⟩ := hwn.cells
    by_cases hlt : n ≤ N + 1
    · have hlt' : (n : Int) ≤ (N : Int) + 1 := by omega
      have G1 := J.get B s S (n : Int) wr hrn (by rw [HN.out]; exact hl) (by omega) (by omega)
      rw [HN.out] at G1
      by_cases hr : 1 ≤ n ∧ n ≤ N
      · obtain ⟨m, rfl⟩ : ∃ m, n = m + 1 := ⟨n - 1, by omega⟩
        obtain ⟨x, hx⟩ : ∃ x, s.1[m]? = some x := ⟨_, List.getElem?_eq_getElem (by rw [HN.out]; omega)⟩
        obtain ⟨e1, e2⟩ := getC_in hx
        rw [HN.out] at e2
        rw [e1, e2] at G1
        have HE2 : Hid (hasN N ((m + 1 : Nat) : Int) = true) := e2
        have hsx := HSm.out x (List.mem_of_getElem? hx)
        clear e1 e2
        gi_wp2_with fail
        refine ⟨trivial, rfl, G1.mono ?_⟩
        rintro e w3 ⟨pv3, tv3, rfl, o1, o2, c3⟩
        have hcm := OwnI.cm o1 o2
        obtain ⟨pa, ka, rfl⟩ := row_slice o1
        obtain ⟨ta, kt, rfl⟩ := o2.slice
        obtain ⟨W3, hW3⟩ : ∃ W3, w3.alloc (.cells #[.slice pa x.1.length ka, .slice ta x.2.1.length kt, .string x.2.2] 36) = W3 := ⟨_, rfl⟩
        have c3a : Chg No w3 W3 := hW3 ▸ (Chg.refl _ w3).alloc _
        have z0 : W3.heap[w3.heap.size]? = some (.cells #[.slice pa x.1.length ka, .slice ta x.2.1.length kt, .string x.2.2] 36 (0, 0)) := hW3 ▸ World.alloc_heap_new w3 _
        have cW : Chg No wr W3 := Chg.seq c3 c3a
        have hW := hwn.no cW
        obtain ⟨y1, _, _, _⟩ := hW.cells
        obtain ⟨⟨r1, r2, r3⟩, b1, k1, _, rfl, f1, f2, f3, hcx⟩ := hW.row.cell hx
        dsimp only at f1 f2 f3 hcx
        have y2 := HX.out W3 (Chg.seq c1n cW)
        have p0 : W3.cell? ⟨w3.heap.size, 0, none⟩ = some (.slice pa x.1.length ka) := by simp [World.cell?, z0]
        have p1 : W3.cell? ⟨w3.heap.size, 1, none⟩ = some (.slice ta x.2.1.length kt) := by simp [World.cell?, z0]
        have p2 : W3.cell? ⟨w3.heap.size, 2, none⟩ = some (.string x.2.2) := by simp [World.cell?, z0]
        have hcm3 := hcm.no c3a
        have hany := After.any W3
        have H1 : ∀ d : After W3, CallsIn Fence.wide 0 Tryd.prog 30 #[ptr Bw, iv ((m + 1 : Nat) : Int)] d.val fun e w' => e = .returned (.bool true) ∧ Chg No d.val w' := fun d => by
          have h0 := refHas_in b Bw s _ rows ((m + 1 : Nat) : Int) d.val (hW.no d.chg)
          rw [HN.out, HE2.out] at h0
          exact h0.mono (by rintro e w'' ⟨rfl, rfl⟩; exact ⟨rfl, Chg.refl _ _⟩)
        have C1 : ∀ d : After W3, CallsIn Fence.wide 0 Tryd.prog 22 #[.agg #[.slice pa x.1.length ka, .slice ta x.2.1.length kt, .string x.2.2], .agg #[r1, r2, .string r3]] d.val fun e w' => e = .returned (.bool true) ∧ Chg No d.val w' := fun d => by
          have h0 := sameC_in _ _ x x _ _ (by have := hsx.2.1; omega) d.val (hcm3.no d.chg) (hcx.no d.chg)
          rw [decide_eq_true rfl] at h0
          exact h0
        have g0 : ∀ d : After W3, d.val.cell? ⟨w.heap.size, 0, none⟩ = some (ptr Bw) := fun d => d.cell y2
        have g1 : ∀ d : After W3, d.val.cell? ⟨Bw, 0, none⟩ = some (.slice (some ⟨b1, k1, none⟩) N kv) := fun d => d.cell y1
        have g2 : ∀ d : After W3, d.val.cell? ⟨b1, k1 + m * 3, none⟩ = some r1 := fun d => d.cell f1
        have g3 : ∀ d : After W3, d.val.cell? ⟨b1, k1 + m * 3 + 1, none⟩ = some r2 := fun d => d.cell f2
        have g4 : ∀ d : After W3, d.val.cell? ⟨b1, k1 + m * 3 + 2, none⟩ = some (.string r3) := fun d => d.cell f3
        have g5 : ∀ d : After W3, d.val.cell? ⟨w3.heap.size, 0, none⟩ = some (.slice pa x.1.length ka) := fun d => d.cell p0
        have g6 : ∀ d : After W3, d.val.cell? ⟨w3.heap.size, 1, none⟩ = some (.slice ta x.2.1.length kt) := fun d => d.cell p1
        have g7 : ∀ d : After W3, d.val.cell? ⟨w3.heap.size, 2, none⟩ = some (.string x.2.2) := fun d => d.cell p2
        have hm1 : (m : Int) < (N : Int) := by omega
        clear G1 z0 p0 p1 p2 f1 f2 f3 y1 y2 hcx hcm hcm3 hW hr
        gi_wp2
        refine region_quietC hmix (by kernel_rfl) ?_
        repeat (gi_big_quiet_step (fail))
        refine wpQuietIn_want (fun _ _ _ _ => trivial) rfl ?_
        intro KQ hKQ
        gi_big_quiet_op
        gi_big_quiet_call (exact ⟨rfl, (H1 _).mono (by rintro e w'' ⟨rfl, c'⟩; exact ⟨rfl, After.more _ c'⟩)⟩)
        repeat (gi_big_quiet_step (fail))
        refine wpQuietIn_want (fun _ _ _ _ => trivial) rfl ?_
        intro KQ2 hKQ2
        gi_big_quiet_op
        gi_big_quiet_call (exact ⟨rfl, (C1 _).mono (by rintro e w'' ⟨rfl, c'⟩; exact ⟨rfl, After.more _ c'⟩)⟩)
        repeat (gi_big_quiet_step (fail))
        refine wpQuietIn_skip (fun _ _ _ _ => trivial) rfl ?_
        simp only [Act.put, List.setIfInBounds_toArray, List.set_cons_succ, List.set_cons_zero]
        repeat (gi_big_quiet_step (fail))
        refine wpQuietIn_nil ?_
        rintro w' ⟨d, rfl⟩
        have c4 := Chg.seq c3a d.chg
        have q0 := g5 d
        have q1 := g6 d
        have q2 := g7 d
        have o1' : OwnI d.val wr.heap.size (.slice pa x.1.length ka) x.1 := row_kept o1 (fun k e => c4.block k (World.ownsRow.lt o1 k e).2 (fun h => h))
        have o2' := o2.no c4
        have cn4 : Chg No W2 d.val := Chg.seq cn (Chg.seq c3 c4)
        have hb4 : wr.heap.size ≤ d.val.heap.size := (Chg.seq c3 c4).size
        clear g0 g1 g2 g3 g4 g5 g6 g7 H1 C1 hany o1 o2 c3 c3a c4 cW
        generalize d.val = W4 at *
        have OV := overC_in _ _ x wr.heap.size W4 hb4 o1' o2' (by have := hsx.1; omega) (by have := hsx.2.1; omega)
        clear o1' o2'
        gi_wp2_with fail
        refine ⟨trivial, rfl, OV.mono ?_⟩
        rintro e w5 ⟨⟨r, rfl⟩, c5⟩
        have cn5 : Chg No W2 w5 := cn4.trans c5 (fun k h => .inr (Nat.le_trans cn.size h))
        gi_wp2
        refine ⟨⟨m + 2, by omega, by go_num, cn5⟩, by simp [intOf]; omega⟩
      · obtain ⟨e1, e2⟩ := getC_out (L := s.1) (n := (n : Int)) (by rw [HN.out]; omega)
        rw [HN.out] at e2
        rw [e1, e2] at G1
        have HE2 : Hid (hasN N (n : Int) = false) := e2
        have G2 : CallsIn Fence.wide 0 Tryd.prog 25 #[ptr B, iv (n : Int)] wr fun e w' => ∃ pv tv, e = .returned (.tuple #[.agg #[pv, tv, .string ⟨#[]⟩], .bool false]) ∧ OwnI w' wr.heap.size pv [] ∧ OwnF w' wr.heap.size tv [] ∧ Chg No wr w' := G1
        clear e1 e2 G1
        gi_wp2_with fail
        refine ⟨trivial, rfl, G2.mono ?_⟩
        rintro e w3 ⟨pv3, tv3, rfl, o1, o2, c3⟩
        have hcm : CmD (fun _ => True) w3 (.agg #[pv3, tv3, .string ⟨#[]⟩]) noC := OwnI.cm (c := noC) o1 o2
        obtain ⟨pa, ka, rfl⟩ : ∃ p k, pv3 = .slice p 0 k := row_slice o1
        obtain ⟨ta, kt, rfl⟩ : ∃ p k, tv3 = .slice p 0 k := row_slice o2
        obtain ⟨W3, hW3⟩ : ∃ W3, w3.alloc (.cells #[.slice pa 0 ka, .slice ta 0 kt, .string ⟨#[]⟩] 36) = W3 := ⟨_, rfl⟩
        have c3a : Chg No w3 W3 := hW3 ▸ (Chg.refl _ w3).alloc _
        have z0 : W3.heap[w3.heap.size]? = some (.cells #[.slice pa 0 ka, .slice ta 0 kt, .string ⟨#[]⟩] 36 (0, 0)) := hW3 ▸ World.alloc_heap_new w3 _
        have HW3 : Hid (w3.alloc (.cells #[.slice pa 0 ka, .slice ta 0 kt, .string ⟨#[]⟩] 36) = W3) := hW3
        clear hW3
        have cW : Chg No wr W3 := Chg.seq c3 c3a
        have hW := hwn.no cW
        have y2 := HX.out W3 (Chg.seq c1n cW)
        have p0 : W3.cell? ⟨w3.heap.size, 0, none⟩ = some (.slice pa 0 ka) := by simp [World.cell?, z0]
        have p1 : W3.cell? ⟨w3.heap.size, 1, none⟩ = some (.slice ta 0 kt) := by simp [World.cell?, z0]
        have p2 : W3.cell? ⟨w3.heap.size, 2, none⟩ = some (.string ⟨#[]⟩) := by simp [World.cell?, z0]
        have hcm3 := hcm.no c3a
        have hany := After.any W3
        have H1 : ∀ d : After W3, CallsIn Fence.wide 0 Tryd.prog 30 #[ptr Bw, iv (n : Int)] d.val fun e w' => e = .returned (.bool false) ∧ Chg No d.val w' := fun d => by
          have h0 := refHas_in b Bw s _ rows (n : Int) d.val (hW.no d.chg)
          rw [HN.out, HE2.out] at h0
          exact h0.mono (by rintro e w'' ⟨rfl, rfl⟩; exact ⟨rfl, Chg.refl _ _⟩)
        have C1 : ∀ d : After W3, CallsIn Fence.wide 0 Tryd.prog 22 #[.agg #[.slice pa 0 ka, .slice ta 0 kt, .string ⟨#[]⟩], bareV ⟨#[]⟩] d.val fun e w' => e = .returned (.bool true) ∧ Chg No d.val w' := fun d => by
          have h0 := sameC_in _ _ noC noC _ No (by show 0 ≤ 1000000; omega) d.val (hcm3.no d.chg) (CmD.bare _ _ _)
          rw [decide_eq_true rfl] at h0
          exact h0
        have g0 : ∀ d : After W3, d.val.cell? ⟨w.heap.size, 0, none⟩ = some (ptr Bw) := fun d => d.cell y2
        have g5 : ∀ d : After W3, d.val.cell? ⟨w3.heap.size, 0, none⟩ = some (.slice pa 0 ka) := fun d => d.cell p0
        have g6 : ∀ d : After W3, d.val.cell? ⟨w3.heap.size, 1, none⟩ = some (.slice ta 0 kt) := fun d => d.cell p1
        have g7 : ∀ d : After W3, d.val.cell? ⟨w3.heap.size, 2, none⟩ = some (.string ⟨#[]⟩) := fun d => d.cell p2
        clear G2 z0 p0 p1 p2 y2 hcm hcm3 hW hr
        gi_wp2
        rw [HW3.out]
        refine region_quietC hmix (by kernel_rfl) ?_
        repeat (gi_big_quiet_step (fail))
        refine wpQuietIn_want (fun _ _ _ _ => trivial) rfl ?_
        intro KQ hKQ
        gi_big_quiet_op
        gi_big_quiet_call (exact ⟨rfl, (H1 _).mono (by rintro e w'' ⟨rfl, c'⟩; exact ⟨rfl, After.more _ c'⟩)⟩)
        repeat (gi_big_quiet_step (fail))
        refine wpQuietIn_skip (fun _ _ _ _ => trivial) rfl ?_
        simp only [Act.put, List.setIfInBounds_toArray, List.set_cons_succ, List.set_cons_zero]
        repeat (gi_big_quiet_step (fail))
        refine wpQuietIn_want (fun _ _ _ _ => trivial) rfl ?_
        intro KQ2 hKQ2
        gi_big_quiet_op
        gi_big_quiet_call (exact ⟨rfl, (C1 _).mono (by rintro e w'' ⟨rfl, c'⟩; exact ⟨rfl, After.more _ c'⟩)⟩)
        repeat (gi_big_quiet_step (fail))
        refine wpQuietIn_nil ?_
        rintro w' ⟨d, rfl⟩
        have c4 := Chg.seq c3a d.chg
        have q0 := g5 d
        have q1 := g6 d
        have q2 := g7 d
        have o1' : OwnI d.val wr.heap.size (.slice pa 0 ka) [] := row_kept o1 (fun k e => c4.block k (World.ownsRow.lt o1 k e).2 (fun h => h))
        have o2' : OwnF d.val wr.heap.size (.slice ta 0 kt) [] := o2.no c4
        have cn4 : Chg No W2 d.val := Chg.seq cn (Chg.seq c3 c4)
        have hb4 : wr.heap.size ≤ d.val.heap.size := (Chg.seq c3 c4).size
        clear g0 g5 g6 g7 H1 C1 hany o1 o2 c3 c3a c4 cW
        generalize d.val = W4 at *
        have OV := overC_in _ _ noC wr.heap.size W4 hb4 o1' o2' (by show 0 ≤ 1000; omega) (by show 0 ≤ 1000; omega)
        clear o1' o2'
        gi_wp2_with fail
        refine ⟨trivial, rfl, OV.mono ?_⟩
        rintro e w5 ⟨⟨r, rfl⟩, c5⟩
        have cn5 : Chg No W2 w5 := cn4.trans c5 (fun k h => .inr (Nat.le_trans cn.size h))
        gi_wp2
        refine ⟨⟨n + 1, by omega, by go_num, cn5⟩, by simp [intOf]; omega⟩
    · obtain rfl : n = N + 2 := by omega
      have hlt' : ¬ ((N + 2 : Nat) : Int) ≤ (N : Int) + 1 := by omega
      obtain ⟨W3, hW3⟩ : ∃ W3, (wr.alloc (.cells #[.int .i64 0] 3)).alloc (.cells #[.bool true] 4) = W3 := ⟨_, rfl⟩
      have c3 : Chg No wr W3 := hW3 ▸ ((Chg.refl _ wr).alloc _).alloc _
      have s3 : W3.heap.size = wr.heap.size + 2 := by rw [← hW3]; simp
      have b8 : Boxed W3 wr.heap.size 3 (.int .i64 0) := hW3 ▸ (Boxed.new wr 3 (.int .i64 0)).alloc _
      have b9 : Boxed W3 (wr.heap.size + 1) 4 (.bool true) := by
        have h0 := Boxed.new (wr.alloc (.cells #[.int .i64 0] 3)) 4 (.bool true)
        rw [World.size_alloc, hW3] at h0
        exact h0
      have A1 := J.all B s S W3 (rep_no J hrn c3) (by rw [HN.out]; exact hl)
      have hwl := hwn.low
      have cwr : Chg No w wr := Chg.seq ca c1n
      gi_wp2_with fail
      refine ⟨trivial, rfl, A1.mono ?_⟩
      rintro e w4 ⟨gf, lb, D, I0, rfl, it, hI, eg, c4, hD⟩
      have cw4 : Chg No wr w4 := Chg.seq c3 c4
      have hw4 := hwn.no cw4
      have hnil := fun w => run_neq_func_nilR Tryd.underlying63 (.func gf) #[] lb w
      have hsame4 : SameK w4 (fun k => k < b ∨ refS Bw (.slice pv N kv) k ∨ k = w.heap.size) wr.heap.size 0 (fun k => (k < b ∨ refS Bw (.slice pv N kv) k ∨ k = w.heap.size) ∨ k = wr.heap.size ∨ k = wr.heap.size + 1) w4 :=
        ⟨rfl, fun k hk => by
          have h1 := cwr.size
          have h2 := cw4.size
          have h3 : k < wr.heap.size := by
            rcases hk with hk | hk | rfl
            · have := hwn.lowB
              have := (hwl Bw (.inl rfl)).2
              omega
            · exact (hwl k hk).2
            · have := ca.size
              have h4 : w.heap.size < W1.heap.size := (Array.getElem?_eq_some_iff.1 (hW1 ▸ World.alloc_heap_new w _ : W1.heap[w.heap.size]? = some _)).1
              have := c1n.size
              omega
          omega, Nat.le_refl _, fun k _ => rfl, c4.boxed b8 (fun h => h), c4.boxed b9 (fun h => h)⟩
      have HDS : Hid (∀ k, D k → ¬ ((k < b ∨ refS Bw (.slice pv N kv) k ∨ k = w.heap.size) ∨ k = wr.heap.size ∨ k = wr.heap.size + 1)) := fun k hk h => by
        have z1 := cwr.size
        have z2 := hwn.lowB
        have z3 := hwl Bw (.inl rfl)
        have z4 := (hsame4.low w.heap.size (.inr (.inr rfl))).2.1
        rcases hD k hk with h0 | h0
        · have y1 := HS.out k h0
          have y2 := HLS.out k h0
          rcases h with (h | h | h) | h | h
          · omega
          · exact HD.out k (by rw [HN.out]; exact h) h0
          · omega
          · omega
          · omega
        · rcases h with (h | h | h) | h | h
          · omega
          · have := (hwl k h).2; omega
          · omega
          · omega
          · omega
      clear A1 c3 hW3 b8 b9 hD hrn hwn t0 y0
      gi_wp2
      refine wpIn_rangeR2 (gf := gf) (lb := lb) (fun a x vals X => { tmps := (((a.tmps.setIfInBounds 75 (valA vals)).setIfInBounds 76 (valB vals)).setIfInBounds 11 (valA vals)).setIfInBounds 12 (ptr X), defers := [] })
        (fun _ vals => .cells (aggA (valB vals)) 36) rfl eg it (fun T W vals x h => h.size) (fun T W W' vals x S h c hd => h.kept c hd)
        (fun pre => SameK w4 (fun k => k < b ∨ refS Bw (.slice pv N kv) k ∨ k = w.heap.size) wr.heap.size pre.length) (fun _ _ _ _ => False) (fun pre => SameK.part) (fun _ _ => Part.false)
        hI hsame4 HDS.out ?assign ?body ?done ?stop
      case assign =>
        rintro l x T vals W R ⟨v, rfl, p1, n1, k1, q1, m1, l1, rfl, -⟩ hR
        simp only [valA_mk, valB_mk, aggA_mk, List.setIfInBounds_toArray, List.set_cons_succ, List.set_cons_zero] at hR
        gi_wp2
        exact hR
      case body =>
        rintro lr pre ⟨xi, xc⟩ T vals S5 W X hpre ⟨v, rfl, hcm⟩ hT hK hX hXS hXge
        obtain ⟨hx1, hx2⟩ := enumC_pre hpre
        dsimp only at hx1 hx2 hcm
        have hxs := HSm.out xc (List.mem_of_getElem? hx2)
        have hi1 : pre.length < N := by rw [← HN.out]; exact (List.getElem?_eq_some_iff.1 hx2).1
        have HL : Hid ((pre ++ [(xi, xc)]).length = pre.length + 1) := by show _ = _; simp
        generalize pre.length = i at hx1 hx2 hK hi1 HL
        subst hx1
        generalize pre ++ [(xi, xc)] = pre' at HL
        obtain ⟨p1, n1, k1, q1, m1, l1, rfl, e1, e2, e3, e4⟩ := hcm
        have hcm : CmD T W (.agg #[.slice p1 n1 k1, .slice q1 m1 l1, .string xc.2.2]) xc := ⟨_, _, _, _, _, _, rfl, e1, e2, e3, e4⟩
        clear e1 e2 e3 e4 hpre
        simp only [valB_mk, aggA_mk] at hX
        have h8 := hK.b8.cell
        have h8f := hK.b8.frozen
        obtain ⟨W', hW'⟩ : ∃ W', W.setCell ⟨wr.heap.size, 0, none⟩ (.int .i64 ((xi : Int) + 1)) = W' := ⟨_, rfl⟩
        have cset : Chg (fun k => k = wr.heap.size) W W' := hW' ▸ (Chg.refl (fun k => k = wr.heap.size) W).setCell (p := ⟨wr.heap.size, 0, none⟩) (.inl rfl) _
        have b8' : Boxed W' wr.heap.size 3 (iv ((xi + 1 : Nat) : Int)) := by
          rw [show ((xi + 1 : Nat) : Int) = (xi : Int) + 1 by omega, ← hW']
          exact hK.b8.set _
        obtain ⟨hst, cS⟩ := hK.step cset b8'
        have hRef := hw4.heap hst.size (fun k hk => hst.same k (hk.elim .inl (fun h => .inr (.inl h))))
        have hcm' := hcm.chg cset (fun k hk e => hT k hk (by rw [hK.eq]; exact .inr (.inl e)))
        have hX' := cset.same hX (fun e => hXS (by rw [hK.eq]; exact .inr (.inl e)))
        have g8 : W'.cell? ⟨wr.heap.size, 0, none⟩ = some (.int .i64 ((xi : Int) + 1)) := by
          have h0 := b8'.cell
          rw [show ((xi + 1 : Nat) : Int) = (xi : Int) + 1 by omega] at h0
          exact h0
        have g9 := hst.b9.cell
        have gq : W'.cell? ⟨w.heap.size, 0, none⟩ = some (ptr Bw) := by
          have h0 := hst.same w.heap.size (.inr (.inr rfl))
          have h1 := HX.out w4 (Chg.seq c1n cw4)
          unfold World.cell? at h1 ⊢
          rw [h0]
          exact h1
        obtain ⟨gB, _, _, _⟩ := hRef.cells
        obtain ⟨⟨r1, r2, r3⟩, bb, kb, _, rfl, f1, f2, f3, hcx⟩ := hRef.row.cell hx2
        dsimp only at f1 f2 f3 hcx
        have x0 : W'.cell? ⟨X, 0, none⟩ = some (.slice p1 n1 k1) := by simp [World.cell?, hX']
        have x1 : W'.cell? ⟨X, 1, none⟩ = some (.slice q1 m1 l1) := by simp [World.cell?, hX']
        have x2 : W'.cell? ⟨X, 2, none⟩ = some (.string xc.2.2) := by simp [World.cell?, hX']
        have hany := After.any W'
        have C1 : ∀ d : After W', CallsIn Fence.wide 0 Tryd.prog 22 #[.agg #[.slice p1 n1 k1, .slice q1 m1 l1, .string xc.2.2], .agg #[r1, r2, .string r3]] d.val fun e w' => e = .returned (.bool true) ∧ Chg No d.val w' := fun d => by
          have h0 := sameC_in _ _ xc xc _ _ (by have := hxs.2.1; omega) d.val (hcm'.no d.chg) (hcx.no d.chg)
          rw [decide_eq_true rfl] at h0
          exact h0
        have k8 : ∀ d : After W', d.val.cell? ⟨wr.heap.size, 0, none⟩ = some (.int .i64 ((xi : Int) + 1)) := fun d => d.cell g8
        have k9 : ∀ d : After W', d.val.cell? ⟨wr.heap.size + 1, 0, none⟩ = some (.bool true) := fun d => d.cell g9
        have k9f : ∀ d : After W', d.val.frozen? ⟨wr.heap.size + 1, 0, none⟩ = false := fun d => (d.chg.boxed hst.b9 (fun h => h)).frozen
        have kq : ∀ d : After W', d.val.cell? ⟨w.heap.size, 0, none⟩ = some (ptr Bw) := fun d => d.cell gq
        have kB : ∀ d : After W', d.val.cell? ⟨Bw, 0, none⟩ = some (.slice (some ⟨bb, kb, none⟩) N kv) := fun d => d.cell gB
        have kr1 : ∀ d : After W', d.val.cell? ⟨bb, kb + xi * 3, none⟩ = some r1 := fun d => d.cell f1
        have kr2 : ∀ d : After W', d.val.cell? ⟨bb, kb + xi * 3 + 1, none⟩ = some r2 := fun d => d.cell f2
        have kr3 : ∀ d : After W', d.val.cell? ⟨bb, kb + xi * 3 + 2, none⟩ = some (.string r3) := fun d => d.cell f3
        have m0 : ∀ d : After W', d.val.cell? ⟨X, 0, none⟩ = some (.slice p1 n1 k1) := fun d => d.cell x0
        have m1' : ∀ d : After W', d.val.cell? ⟨X, 1, none⟩ = some (.slice q1 m1 l1) := fun d => d.cell x1
        have m2 : ∀ d : After W', d.val.cell? ⟨X, 2, none⟩ = some (.string xc.2.2) := fun d => d.cell x2
        have hi2 : (xi : Int) + 1 ≤ (N : Int) := by omega
        have hi3 : decide ((xi : Int) + 1 ≤ (N : Int)) = true := decide_eq_true hi2
        have hi4 : decide (xi + 1 ≤ N) = true := decide_eq_true hi1
        clear hX hX' g9 gq gB f1 f2 f3 x0 x1 x2 hcx hcm hcm' hRef
        simp only [valA_mk, valB_mk, List.setIfInBounds_toArray, List.set_cons_succ, List.set_cons_zero]
        gi_wp2
        refine region_quietCR (by kernel_rfl) hmix (by kernel_rfl) ?_
        repeat (gi_big_quiet_step (fail))
        refine wpQuietIn_want (fun _ _ _ _ => trivial) rfl ?_
        intro KQ2 hKQ2
        gi_big_quiet_op
        gi_big_quiet_call (exact ⟨rfl, (C1 _).mono (by rintro e w'' ⟨rfl, c'⟩; exact ⟨rfl, After.more _ c'⟩)⟩)
        repeat (gi_big_quiet_step (fail))
        refine wpQuietIn_want (fun _ _ _ _ => trivial) rfl ?_
        intro KQ3 hKQ3
        gi_big_quiet_op
        gi_big_quiet_call (exact ⟨setCell_kept (k9 _), rfl⟩)
        repeat (gi_big_quiet_step (fail))
        refine wpQuietIn_nil ?_
        rintro w' ⟨d, rfl⟩
        have hd2 := SameK.part.chg hst d.chg (fun _ _ h => h)
        have cd := cS.trans (d.chg.mono (fun _ h => h.elim)) (Grew.refl _ _)
        clear k8 k9 k9f kq kB kr1 kr2 kr3 m0 m1' m2 C1 hany
        generalize d.val = W6 at *
        gi_wp2
        exact ⟨S5, cd, Grew.refl _ _, by show SameK _ _ _ pre'.length S5 W6; rw [HL.out]; exact hd2⟩
      case done =>
        rintro d S' W hd hK hI' hc hg hdd hnd
        have HLN : Hid ((enumC s.1).length = N) := by show _ = _; rw [enumC_length, HN.out]
        rw [HLN.out] at hK
        have h8 := hK.b8.cell
        have h9 := hK.b9.cell
        have hRef := hw4.heap hK.size (fun k hk => hK.same k (hk.elim .inl (fun h => .inr (.inl h))))
        have gq : W.cell? ⟨w.heap.size, 0, none⟩ = some (ptr Bw) := by
          have h0 := hK.same w.heap.size (.inr (.inr rfl))
          have h1 := HX.out w4 (Chg.seq c1n cw4)
          unfold World.cell? at h1 ⊢
          rw [h0]
          exact h1
        obtain ⟨gB, _, _, _⟩ := hRef.cells
        have cW := hK.out (by rw [hK.eq]; exact hc)
        have cwW : Chg No w W := (Chg.seq cwr cw4).trans cW (fun k h => .inr (Nat.le_trans cwr.size h))
        have hany := After.any W
        have k8 : ∀ d : After W, d.val.cell? ⟨wr.heap.size, 0, none⟩ = some (iv (N : Nat)) := fun d => d.cell h8
        have k9 : ∀ d : After W, d.val.cell? ⟨wr.heap.size + 1, 0, none⟩ = some (.bool true) := fun d => d.cell h9
        have kq : ∀ d : After W, d.val.cell? ⟨w.heap.size, 0, none⟩ = some (ptr Bw) := fun d => d.cell gq
        have kB : ∀ d : After W, d.val.cell? ⟨Bw, 0, none⟩ = some (.slice pv N kv) := fun d => d.cell gB
        clear h8 h9 gq gB
        gi_wp2
        refine region_quietC hmix (by kernel_rfl) ?_
        repeat (gi_big_quiet_step (fail))
        refine wpQuietIn_nil ?_
        rintro w' ⟨e, rfl⟩
        have ce := e.chg
        have hdd' := ce.same hdd (fun h => h)
        clear k8 k9 kq kB hany
        generalize e.val = W6 at *
        gi_wp2
        refine ⟨by simp, .inl ⟨_, _, rfl, run_takeDeferred hdd', ?_⟩⟩
        refine ⟨_, results_tmp rfl _ _ _, rfl, Chg.putObj (Chg.seq cwW ce) (.inr ?_) _⟩
        exact Nat.le_trans (Chg.seq cwr cw4).size hd
      case stop =>
        rintro d c pre S' W _ _ h
        exact h.elim

end Go.Proofs.YtconingjdgmodaaDoor
