/-
  Pop, of things.
-/
import Derived.Test.YtaolebadamfodaaTPS
import Derived.Test.YtaolebadamfodaaTPP
namespace Go.Proofs.Ytaolebadamfodaa.T
open Go.RowKit Go.Shelf Go.SeqLib Go.BigFrame Go.PileLib
attribute [local go_sem] Oper.semAt_some

theorem Pile.part (B lf : Nat) (lt : Int × Int → Int × Int → Bool) (L : List ((Int × Int) × Int)) (puts : Int) : Part (Pile B lf lt L puts) := {
  lt := by
    rintro S W ⟨v, d, rfl, hb, hr, hg⟩ k (rfl | h)
    · exact hb.lt
    · exact (World.ownsRow.lt hr k h).2
  kept := by
    rintro S W W' ⟨v, d, rfl, hb, hr, hg⟩ _ hk
    exact ⟨v, d, rfl, (hk _ (.inl rfl)).trans hb, hr.kept (fun k h => hk k (.inr h)), hg⟩ }
theorem prow_slice {W : World} {v : Value} {d : List ((Int × Int) × Int)} (h : PRow W v d) : ∃ p c, v = .slice p d.length c := by
  rcases h.2 with ⟨rfl, h0⟩ | ⟨g, cap, cur, rfl, _⟩
  · exact ⟨none, 0, by rw [h0]⟩
  · exact ⟨_, _, rfl⟩
theorem prow_at {W : World} {v : Value} {d : List ((Int × Int) × Int)} (h : PRow W v d) (h0 : 0 < d.length) : ∃ g c, v = .slice (some ⟨g, 0, none⟩) d.length c ∧ ItsAt W g c d := by
  have h' := h
  rcases h.2 with ⟨rfl, h1⟩ | ⟨g, cap, cur, rfl, _⟩
  · omega
  · exact ⟨_, _, rfl, h'⟩
/-- A block of a thing. -/
def TBox (W : World) (X : Nat) (x y : Int) : Prop := W.heap[X]? = some (.cells #[.int .i64 x, .int .i64 y] 27)
theorem TBox.cells {W : World} {X : Nat} {x y : Int} (h : TBox W X x y) : W.cell? ⟨X, 0, none⟩ = some (.int .i64 x) ∧ W.cell? ⟨X, 1, none⟩ = some (.int .i64 y) := by
  unfold TBox at h
  simp [World.cell?, h]
theorem TBox.frozen {W : World} {X : Nat} {x y : Int} (h : TBox W X x y) (j : Nat) : W.frozen? ⟨X, j, none⟩ = false := by
  unfold TBox at h
  simp [World.frozen?, h]
theorem TBox.set {W : World} {X : Nat} {x y : Int} (h : TBox W X x y) (x' y' : Int) : TBox ((W.setCell ⟨X, 0, none⟩ (.int .i64 x')).setCell ⟨X, 1, none⟩ (.int .i64 y')) X x' y' := by
  unfold TBox at *
  simp only [World.setCell, Array.getElem?_modify, if_true, h]
  simp
theorem TBox.lt {W : World} {X : Nat} {x y : Int} (h : TBox W X x y) : X < W.heap.size := (Array.getElem?_eq_some_iff.1 h).1

set_option maxHeartbeats 1000000 in
theorem pop_none {lf : Nat} {lt : Int × Int → Int × Int → Bool} (B : Nat) (puts : Int) (S : Blk) (w : World) (hP : Pile B lf lt [] puts S w) : CallsIn Fence.wide 0 Try.prog 14 #[.pointer (some ⟨B, 0, none⟩)] w fun e w' => e = .returned (.tuple #[.agg #[.int .i64 0, .int .i64 0], .bool false]) ∧ Chg (fun _ => False) w w' := by
  have c0 : Chg (fun _ => False) w (w.alloc (.cells #[.int .i64 0, .int .i64 0] 27)) := (Chg.refl _ w).alloc _
  have hP0 := (Pile.part _ _ _ _ _).chg hP c0 (fun _ _ h => h)
  obtain ⟨v, d, rfl, hb, hr, hg⟩ := hP0
  obtain ⟨p, c, rfl⟩ := prow_slice hr
  obtain ⟨_, h1, _⟩ := hb.cells
  rw [hg.perm.length_eq] at h1
  have hR : TBox (w.alloc (.cells #[.int .i64 0, .int .i64 0] 27)) w.heap.size 0 0 := World.alloc_heap_new w _
  refine callsIn_of_wp Try.func14 rfl trivial ?_
  simp only [Try.ntmps14, List.size_toArray, List.length_cons, List.length_nil, Nat.reduceAdd, Nat.reduceSub, Array.replicate_succ, Array.replicate_zero, List.push_toArray, List.append_toArray, List.nil_append, List.cons_append]
  gi_wp2_with fail
  refine ⟨trivial, rfl, (first_none B p c _ h1).mono ?_⟩
  rintro e w1 ⟨rfl, c1⟩
  have c01 := c0.trans c1 (Grew.refl _ _)
  have hR1 : TBox (w1.alloc (.cells #[.int .i64 0, .int .i64 0] 27)) w.heap.size 0 0 := (Below.heap_alloc w1 _ _ (by have := c1.size; simp at this; omega)).trans (c1.same hR (fun h => h))
  have hF1 : TBox (w1.alloc (.cells #[.int .i64 0, .int .i64 0] 27)) w1.heap.size 0 0 := World.alloc_heap_new w1 _
  obtain ⟨k1, k2⟩ := hR1.cells
  have k3 := hR1.frozen 0
  have k4 := hR1.frozen 1
  have hne : w1.heap.size ≠ w.heap.size := by have := c1.size; simp at this; omega
  have hne' : w.heap.size ≠ w1.heap.size := Ne.symm hne
  have hR2 := (hR1.set 0 0).cells
  obtain ⟨j1, j2⟩ := hR2
  gi_wp2
  refine bodyPost_ret (v := .tuple #[.agg #[.int .i64 0, .int .i64 0], .bool false]) ?_ rfl ⟨rfl, ((c01.alloc _).setCell (p := ⟨w.heap.size, 0, none⟩) (.inr (Nat.le_refl _)) _).setCell (p := ⟨w.heap.size, 1, none⟩) (.inr (Nat.le_refl _)) _⟩
  rw [results_cell_tmp rfl]
  go_simp

set_option maxRecDepth 100000 in
set_option maxHeartbeats 4000000 in
theorem pop_in {lf : Nat} {lt : Int × Int → Int × Int → Bool} (hl : Less lf lt) (o : Ord (bef lt)) (B : Nat) (y : (Int × Int) × Int) (L : List ((Int × Int) × Int)) (puts : Int) (S : Blk) (hlen : L.length ≤ 100000) (w : World) (hP : Pile B lf lt (y :: L) puts S w) :
    CallsIn Fence.wide 0 Try.prog 14 #[.pointer (some ⟨B, 0, none⟩)] w fun e w' => e = .returned (.tuple #[.agg #[.int .i64 y.1.1, .int .i64 y.1.2], .bool true]) ∧ Pile B lf lt L puts S w' ∧ Chg S w w' := by
  have hmix : Try.prog.follows .mixedOrders = true := by kernel_rfl
  have HSl : Hid (∀ k, S k → k < w.heap.size) := (Pile.part _ _ _ _ _).lt hP
  have c0 : Chg (fun _ => False) w (w.alloc (.cells #[.int .i64 0, .int .i64 0] 27)) := (Chg.refl _ w).alloc _
  have hP0 := (Pile.part _ _ _ _ _).chg hP c0 (fun _ _ h => h)
  have hR : TBox (w.alloc (.cells #[.int .i64 0, .int .i64 0] 27)) w.heap.size 0 0 := World.alloc_heap_new w _
  obtain ⟨v, d, hS, hb, hr, hg⟩ := hP0
  obtain ⟨h0, hy⟩ := hg.head o
  have hdl : d.length = L.length + 1 := hg.perm.length_eq
  obtain ⟨g, cap, rfl, hI⟩ := prow_at hr h0
  have hne := hb.ne hI
  obtain ⟨m, hm⟩ : ∃ m, d.length - 1 = m := ⟨_, rfl⟩
  have HM : Hid (d.length = m + 1) := (show _ = _ by omega)
  have hml : m < d.length := by omega
  obtain ⟨a1, a2, a3⟩ := hI.item 0 h0
  rw [hy] at a1 a2 a3
  simp only [Nat.zero_mul, Nat.zero_add] at a1 a2 a3
  obtain ⟨⟨⟨x1, y1⟩, k1⟩, hy1⟩ : ∃ z, d[m] = z := ⟨_, rfl⟩
  have HY1 : Hid (d[m] = ((x1, y1), k1)) := hy1
  have HY : Hid (d[0] = y) := hy
  obtain ⟨q0, q1, q2⟩ := hb.cells
  rw [HM.out] at q1
  have hgl : g < w.heap.size := HSl.out g (by rw [hS]; exact .inr rfl)
  have hBl : B < w.heap.size := HSl.out B (by rw [hS]; exact .inl rfl)
  refine callsIn_of_wp Try.func14 rfl trivial ?_
  simp only [Try.ntmps14, List.size_toArray, List.length_cons, List.length_nil, Nat.reduceAdd, Nat.reduceSub, Array.replicate_succ, Array.replicate_zero, List.push_toArray, List.append_toArray, List.nil_append, List.cons_append]
  gi_wp2_with fail
  refine ⟨trivial, rfl, (first_in B g (m + 1) cap y.1.1 y.1.2 _ (by omega) q1 a1 a2).mono ?_⟩
  rintro e w1 ⟨rfl, c1⟩
  have c2 : Chg (fun _ => False) (w.alloc (.cells #[.int .i64 0, .int .i64 0] 27)) (w1.alloc (.cells #[.int .i64 y.1.1, .int .i64 y.1.2] 27)) := c1.alloc _
  have hF2 : TBox (w1.alloc (.cells #[.int .i64 y.1.1, .int .i64 y.1.2] 27)) w1.heap.size y.1.1 y.1.2 := World.alloc_heap_new w1 _
  have hR2 : TBox (w1.alloc (.cells #[.int .i64 y.1.1, .int .i64 y.1.2] 27)) w.heap.size 0 0 := c2.same hR (fun h => h)
  have hb2 := c2.same hb (fun h => h)
  have hI2 : ItsAt (w1.alloc (.cells #[.int .i64 y.1.1, .int .i64 y.1.2] 27)) g cap d := hI.kept (c2.block g hI.lt (fun h => h))
  have hsz := c1.size
  rw [World.size_alloc] at hsz
  have hq1 : (w1.alloc (.cells #[.int .i64 y.1.1, .int .i64 y.1.2] 27)).cell? ⟨B, 1, none⟩ = some (.slice (some ⟨g, 0, none⟩) (m + 1) cap) := by
    have := (show PBox _ _ _ _ _ from hb2).cells.2.1
    rw [HM.out] at this
    exact this
  have c02 := c0.trans c2 (Grew.refl _ _)
  clear q0 q1 q2 a1 a2 a3
  gi_wp2
  obtain ⟨F, hF⟩ : ∃ F, w1.heap.size = F := ⟨_, rfl⟩
  obtain ⟨R, hR9⟩ : ∃ R, w.heap.size = R := ⟨_, rfl⟩
  rw [hF] at hF2 ⊢
  rw [hR9] at hR2 ⊢
  generalize (w1.alloc (.cells #[.int .i64 y.1.1, .int .i64 y.1.2] 27)) = wz at c2 hF2 hR2 hb2 hI2 hq1 c02 ⊢
  have hFB : F ≠ B := by omega
  have hFg : F ≠ g := by omega
  have hRB : R ≠ B := by omega
  have hRg : R ≠ g := by omega
  have hFR : F ≠ R := by omega
  obtain ⟨b1, b2, b3⟩ := hI2.item m hml
  rw [hy1] at b1 b2 b3
  simp only at b1 b2 b3
  obtain ⟨a1, a2, a3⟩ := hI2.item 0 h0
  simp only [Nat.zero_mul, Nat.zero_add] at a1 a2 a3
  have f2 := hI2.frozen 0
  have f3 := hI2.frozen 1
  have f4 := hI2.frozen 2
  have hne' : g ≠ B := Ne.symm hne
  have hcapm := hI2.cap
  obtain ⟨hcap1, hcap2⟩ := hcapm
  have hm1 : m + 1 ≤ cap := by omega
  have hmZ : (m : Int) ≤ (cap : Int) := by omega
  have hmb : m ≤ 100000 := by omega
  have HI : Hid (ItsAt wz g cap d) := hI2
  have HB : Hid (PBox wz B lf (.slice (some ⟨g, 0, none⟩) d.length cap) puts) := hb2
  have HG : Hid (PileLib.Good (bef lt) d (y :: L)) := hg
  have H0 : Hid (0 < d.length) := h0
  have HML : Hid (m < d.length) := hml
  have HF2 : Hid (TBox wz F y.1.1 y.1.2) := hF2
  have HR2 : Hid (TBox wz R 0 0) := hR2
  have HRw : Hid (w.heap.size = R) := hR9
  have HS : Hid (S = fun k => k = B ∨ (Value.slice (some ⟨g, 0, none⟩) d.length cap).ownBlock = some k) := hS
  clear hm hI hb hg hr hy hy1 hdl hcap1 hI2 hb2 hF2 hR2 hF hR9 hS hP c0 c2 hR c1 hsz
  gi_region_o
  generalize hw2 : (((wz.setCell ⟨g, 0, none⟩ (.int .i64 x1)).setCell ⟨g, 1, none⟩ (.int .i64 y1)).setCell ⟨g, 2, none⟩ (.int .i64 k1)).drew = w2
  have hI2 : ItsAt w2 g cap (d.set 0 ((x1, y1), k1)) := by
    rw [← hw2]
    have := (HI.out.set 0 ((x1, y1), k1)).drew
    simpa only [Nat.zero_mul, Nat.zero_add] using this
  have hb2 : PBox w2 B lf (.slice (some ⟨g, 0, none⟩) (m + 1) cap) puts := by
    rw [← hw2]
    have := HB.out
    rw [HM.out] at this
    exact ((this.other (a := ⟨g, 0, none⟩) hne _).other (a := ⟨g, 1, none⟩) hne _).other (a := ⟨g, 2, none⟩) hne _
  have c2 : Chg (fun k => k = B ∨ k = g) wz w2 := by
    rw [← hw2]
    exact ((((Chg.refl _ wz).setCell (p := ⟨g, 0, none⟩) (.inl (.inr rfl)) _).setCell (p := ⟨g, 1, none⟩) (.inl (.inr rfl)) _).setCell (p := ⟨g, 2, none⟩) (.inl (.inr rfl)) _).drew
  have hIm := hI2.item m (by rw [List.length_set]; exact HML.out)
  have hmv : (d.set 0 ((x1, y1), k1))[m]'(by rw [List.length_set]; exact HML.out) = ((x1, y1), k1) := by
    rw [List.getElem_set]
    split
    · rfl
    · exact HY1.out
  rw [hmv] at hIm
  clear b1 b2 b3 a1 a2 a3 f2 f3 f4
  obtain ⟨b1, b2, b3⟩ := hIm
  have f4 := hI2.frozen (m * 3)
  have f5 := hI2.frozen (m * 3 + 1)
  have f6 := hI2.frozen (m * 3 + 2)
  obtain ⟨q0, q1, q2⟩ := hb2.cells
  have f1 := hb2.frozen 1
  have HI2 : Hid (ItsAt w2 g cap (d.set 0 ((x1, y1), k1))) := hI2
  clear hI2 hmv hw2 hq1
  gi_wp2_with fail
  have hb3 := ((hb2.other (a := ⟨g, m * 3, none⟩) hne (.int .i64 0)).other (a := ⟨g, m * 3 + 1, none⟩) hne (.int .i64 0)).other (a := ⟨g, m * 3 + 2, none⟩) hne (.int .i64 0)
  have hb4 := hb3.set1 (.slice (some ⟨g, 0, none⟩) m cap)
  have hI3 := (HI2.out.set m ((0, 0), 0)).take m (by have := HML.out; simp; omega)
  have hpop : ((d.set 0 ((x1, y1), k1)).set m ((0, 0), 0)).take m = popped d H0.out := by
    unfold popped
    have e : d.length - 1 = m := by have := HM.out; omega
    simp only [e, HY1.out]
    rw [List.take_set_of_le (Nat.le_refl _)]
  rw [hpop] at hI3
  have hpl : (popped d H0.out).length = m := by rw [popped_length, HM.out]; omega
  have hI4 : ItsAt ((((w2.setCell ⟨g, m * 3, none⟩ (.int .i64 0)).setCell ⟨g, m * 3 + 1, none⟩ (.int .i64 0)).setCell ⟨g, m * 3 + 2, none⟩ (.int .i64 0)).setCell ⟨B, 1, none⟩ (.slice (some ⟨g, 0, none⟩) m cap)) g cap (popped d H0.out) := hI3.kept (Below.heap_setCell _ _ _ _ hne')
  have c4 : Chg (fun k => k = B ∨ k = g) wz ((((w2.setCell ⟨g, m * 3, none⟩ (.int .i64 0)).setCell ⟨g, m * 3 + 1, none⟩ (.int .i64 0)).setCell ⟨g, m * 3 + 2, none⟩ (.int .i64 0)).setCell ⟨B, 1, none⟩ (.slice (some ⟨g, 0, none⟩) m cap)) :=
    (((c2.setCell (p := ⟨g, m * 3, none⟩) (.inl (.inr rfl)) _).setCell (p := ⟨g, m * 3 + 1, none⟩) (.inl (.inr rfl)) _).setCell (p := ⟨g, m * 3 + 2, none⟩) (.inl (.inr rfl)) _).setCell (p := ⟨B, 1, none⟩) (.inl (.inl rfl)) _
  have hs := sink_in hl o B g cap puts (popped d H0.out) 0 _ (by omega) (Nat.zero_le _) (by rw [hpl]; exact hb4) hI4 (heap_pop HG.out.heap H0.out)
  refine ⟨trivial, rfl, hs.mono ?_⟩
  rintro e w5 ⟨rfl, d2, hpm, hh, hI5, c5⟩
  have hb5 : PBox w5 B lf (.slice (some ⟨g, 0, none⟩) m cap) puts := c5.same hb4 hne
  have hgood : PileLib.Good (bef lt) d2 L := by
    have h1 := popped_perm H0.out
    rw [HY.out] at h1
    exact ⟨hh, hpm.trans ((h1.trans HG.out.perm).cons_inv), (List.pairwise_cons.1 HG.out.sort).2⟩
  have hd2 : d2.length = m := hpm.length_eq.trans hpl
  have hrow : PRow w5 (.slice (some ⟨g, 0, none⟩) m cap) d2 := by
    have := hI5
    unfold ItsAt at this
    unfold PRow
    rw [hd2] at this ⊢
    exact this
  have c6 : Chg (fun k => k = B ∨ k = g) wz w5 := c4.trans c5 (fun k h => .inl (.inr h))
  have HP : Hid (Pile B lf lt L puts S w5) := by
    show Pile B lf lt L puts S w5
    rw [HS.out]
    exact ⟨.slice (some ⟨g, 0, none⟩) m cap, d2, rfl, hb5, hrow, hgood⟩
  have hF5 : TBox w5 F y.1.1 y.1.2 := c6.same HF2.out (by rintro (h | h); exact hFB h; exact hFg h)
  have hR5 : TBox w5 R 0 0 := c6.same HR2.out (by rintro (h | h); exact hRB h; exact hRg h)
  obtain ⟨i1, i2⟩ := hF5.cells
  obtain ⟨j1, j2⟩ := hR5.cells
  have j3 := hR5.frozen 0
  have j4 := hR5.frozen 1
  obtain ⟨l1, l2⟩ := (hR5.set y.1.1 y.1.2).cells
  clear hs hpl hpop hgood hrow hI5 hI4 hI3 hb5 hb4 hb3 hb2 hd2 q0 q1 q2 b1 b2 b3 f1 f4 f5 f6
  have c7 : Chg S w w5 := (c02.mono (fun _ h => h.elim)).trans c6 (fun k h => .inl (by
    rw [HS.out]
    rcases h with h | h
    · exact .inl h
    · exact .inr (by rw [h]; rfl)))
  have hRS : ∀ k, S k → ¬ (k = R) := fun k h1 h2 => by
    have := HSl.out k h1
    have := HRw.out
    omega
  have c8 : Chg (fun k => k = R) w5 ((w5.setCell ⟨R, 0, none⟩ (.int .i64 y.1.1)).setCell ⟨R, 1, none⟩ (.int .i64 y.1.2)) := ((Chg.refl (fun k => k = R) w5).setCell (p := ⟨R, 0, none⟩) (.inl rfl) _).setCell (p := ⟨R, 1, none⟩) (.inl rfl) _
  gi_wp2
  refine bodyPost_ret (v := .tuple #[.agg #[.int .i64 y.1.1, .int .i64 y.1.2], .bool true]) ?_ rfl ⟨rfl, (Pile.part _ _ _ _ _).chg HP.out c8 hRS, c7.trans c8 (fun k h => .inr (by have := HRw.out; omega))⟩
  rw [results_cell_tmp rfl]
  go_simp
end Go.Proofs.Ytaolebadamfodaa.T
