/-
  Pop.
-/
import Derived.Test.YtaolebadamfodaaPS
import Derived.Test.YtaolebadamfodaaPP
namespace Go.Proofs.Ytaolebadamfodaa
open Go.RowKit Go.Shelf Go.SeqLib Go.BigFrame Go.PileLib
attribute [local go_sem] Oper.semAt_some

set_option maxHeartbeats 1000000 in
theorem pop_nil (w : World) : CallsIn Fence.wide 0 Try.prog 26 #[.pointer none] w fun e w' => e = .returned (.tuple #[.int .i64 0, .bool false]) ∧ Chg (fun _ => False) w w' := by
  refine callsIn_of_wp Try.func26 rfl trivial ?_
  simp only [Try.ntmps26, List.size_toArray, List.length_cons, List.length_nil, Nat.reduceAdd, Nat.reduceSub, Array.replicate_succ, Array.replicate_zero, List.push_toArray, List.append_toArray, List.nil_append, List.cons_append]
  gi_wp2_with fail
  refine ⟨trivial, rfl, (first_nil _).mono ?_⟩
  rintro e w1 ⟨rfl, c⟩
  gi_wp2
  go_ret2
  exact ⟨rfl, c⟩

theorem prow_slice {W : World} {v : Value} {d : List (Int × Int)} (h : PRow W v d) : ∃ p c, v = .slice p d.length c := by
  rcases h.2 with ⟨rfl, h0⟩ | ⟨g, cap, cur, rfl, _⟩
  · exact ⟨none, 0, by rw [h0]⟩
  · exact ⟨_, _, rfl⟩
theorem prow_at {W : World} {v : Value} {d : List (Int × Int)} (h : PRow W v d) (h0 : 0 < d.length) : ∃ g c, v = .slice (some ⟨g, 0, none⟩) d.length c ∧ ItsAt W g c d := by
  have h' := h
  rcases h.2 with ⟨rfl, h1⟩ | ⟨g, cap, cur, rfl, _⟩
  · omega
  · exact ⟨_, _, rfl, h'⟩

set_option maxHeartbeats 1000000 in
theorem pop_none {lf : Nat} {lt : Int → Int → Bool} (B : Nat) (puts : Int) (S : Blk) (w : World) (hP : Pile B lf lt [] puts S w) : CallsIn Fence.wide 0 Try.prog 26 #[.pointer (some ⟨B, 0, none⟩)] w fun e w' => e = .returned (.tuple #[.int .i64 0, .bool false]) ∧ Chg (fun _ => False) w w' := by
  obtain ⟨v, d, rfl, hb, hr, hg⟩ := hP
  obtain ⟨p, c, rfl⟩ := prow_slice hr
  obtain ⟨_, h1, _⟩ := hb.cells
  rw [hg.perm.length_eq] at h1
  refine callsIn_of_wp Try.func26 rfl trivial ?_
  simp only [Try.ntmps26, List.size_toArray, List.length_cons, List.length_nil, Nat.reduceAdd, Nat.reduceSub, Array.replicate_succ, Array.replicate_zero, List.push_toArray, List.append_toArray, List.nil_append, List.cons_append]
  gi_wp2_with fail
  refine ⟨trivial, rfl, (first_none B p c _ h1).mono ?_⟩
  rintro e w1 ⟨rfl, c⟩
  gi_wp2
  go_ret2
  exact ⟨rfl, c⟩

set_option maxRecDepth 100000 in
set_option maxHeartbeats 4000000 in
theorem pop_in {lf : Nat} {lt : Int → Int → Bool} (hl : Less lf lt) (o : Ord (bef lt)) (B : Nat) (y : Int × Int) (L : List (Int × Int)) (puts : Int) (S : Blk) (hlen : L.length ≤ 100000) (w : World) (hP : Pile B lf lt (y :: L) puts S w) :
    CallsIn Fence.wide 0 Try.prog 26 #[.pointer (some ⟨B, 0, none⟩)] w fun e w' => e = .returned (.tuple #[.int .i64 y.1, .bool true]) ∧ Pile B lf lt L puts S w' ∧ Chg S w w' := by
  have hmix : Try.prog.follows .mixedOrders = true := by kernel_rfl
  obtain ⟨v, d, rfl, hb, hr, hg⟩ := hP
  obtain ⟨h0, hy⟩ := hg.head o
  have hdl : d.length = L.length + 1 := hg.perm.length_eq
  obtain ⟨g, cap, rfl, hI⟩ := prow_at hr h0
  have hne := hb.ne hI
  obtain ⟨m, hm⟩ : ∃ m, d.length - 1 = m := ⟨_, rfl⟩
  have HM : Hid (d.length = m + 1) := (show _ = _ by omega)
  have hml : m < d.length := by omega
  obtain ⟨a1, a2⟩ := hI.item 0 h0
  obtain ⟨b1, b2⟩ := hI.item m hml
  obtain ⟨⟨x1, k1⟩, hy1⟩ : ∃ z, d[m] = z := ⟨_, rfl⟩
  rw [hy1] at b1 b2
  rw [hy] at a1 a2
  have HY1 : Hid (d[m] = (x1, k1)) := hy1
  have HY : Hid (d[0] = y) := hy
  have hcapm := hI.cap
  obtain ⟨hcap1, hcap2⟩ := hcapm
  obtain ⟨q0, q1, q2⟩ := hb.cells
  have f1 := hb.frozen 1
  have f2 := hI.frozen 0
  have f3 := hI.frozen 1
  have f4 := hI.frozen (m * 2)
  have f5 := hI.frozen (m * 2 + 1)
  have HI : Hid (ItsAt w g cap d) := hI
  have HB : Hid (PBox w B lf (.slice (some ⟨g, 0, none⟩) d.length cap) puts) := hb
  have HG : Hid (PileLib.Good (bef lt) d (y :: L)) := hg
  have hmb : m ≤ 100000 := by omega
  have hne' : g ≠ B := Ne.symm hne
  have H0 : Hid (0 < d.length) := h0
  have HML : Hid (m < d.length) := hml
  rw [HM.out] at q1
  simp only [Nat.zero_mul, Nat.zero_add] at a1 a2
  have hm1 : m + 1 ≤ cap := by omega
  have hmZ : (m : Int) ≤ (cap : Int) := by omega
  simp only at b1 b2
  clear hm hI hb hg hr hy hy1 hdl hcap1
  refine callsIn_of_wp Try.func26 rfl trivial ?_
  simp only [Try.ntmps26, List.size_toArray, List.length_cons, List.length_nil, Nat.reduceAdd, Nat.reduceSub, Array.replicate_succ, Array.replicate_zero, List.push_toArray, List.append_toArray, List.nil_append, List.cons_append]
  gi_wp2_with fail
  refine ⟨trivial, rfl, (first_in B g (m + 1) cap y.1 _ (by omega) q1 a1).mono ?_⟩
  rintro e w1 ⟨rfl, rfl⟩
  gi_wp2
  gi_region_o
  generalize hw2 : ((w1.setCell ⟨g, 0, none⟩ (.int .i64 x1)).setCell ⟨g, 1, none⟩ (.int .i64 k1)).drew = w2
  have hI2 : ItsAt w2 g cap (d.set 0 (x1, k1)) := by
    rw [← hw2]
    have := (HI.out.set 0 (x1, k1)).drew
    simpa only [Nat.zero_mul, Nat.zero_add] using this
  have hb2 : PBox w2 B lf (.slice (some ⟨g, 0, none⟩) (m + 1) cap) puts := by
    rw [← hw2]
    have := HB.out
    rw [HM.out] at this
    exact (this.other (a := ⟨g, 0, none⟩) hne _).other (a := ⟨g, 1, none⟩) hne _
  have c2 : Chg (fun k => k = B ∨ k = g) w1 w2 := by
    rw [← hw2]
    exact (((Chg.refl _ w1).setCell (p := ⟨g, 0, none⟩) (.inl (.inr rfl)) _).setCell (p := ⟨g, 1, none⟩) (.inl (.inr rfl)) _).drew
  have hIm := hI2.item m (by rw [List.length_set]; exact HML.out)
  have hmv : (d.set 0 (x1, k1))[m]'(by rw [List.length_set]; exact HML.out) = (x1, k1) := by
    rw [List.getElem_set]
    split
    · rfl
    · exact HY1.out
  rw [hmv] at hIm
  obtain ⟨b1, b2⟩ := hIm
  have f4 := hI2.frozen (m * 2)
  have f5 := hI2.frozen (m * 2 + 1)
  obtain ⟨q0, q1, q2⟩ := hb2.cells
  have f1 := hb2.frozen 1
  have HI2 : Hid (ItsAt w2 g cap (d.set 0 (x1, k1))) := hI2
  clear hI2 hmv a1 a2 hw2
  gi_wp2_with fail
  have hb3 := (hb2.other (a := ⟨g, m * 2, none⟩) hne (.int .i64 0)).other (a := ⟨g, m * 2 + 1, none⟩) hne (.int .i64 0)
  have hb4 := hb3.set1 (.slice (some ⟨g, 0, none⟩) m cap)
  have hI3 := (HI2.out.set m (0, 0)).take m (by have := HML.out; simp; omega)
  have hpop : ((d.set 0 (x1, k1)).set m (0, 0)).take m = popped d H0.out := by
    unfold popped
    have e : d.length - 1 = m := by have := HM.out; omega
    simp only [e, HY1.out]
    rw [List.take_set_of_le (Nat.le_refl _)]
  rw [hpop] at hI3
  have hpl : (popped d H0.out).length = m := by rw [popped_length, HM.out]; omega
  have hI4 : ItsAt (((w2.setCell ⟨g, m * 2, none⟩ (.int .i64 0)).setCell ⟨g, m * 2 + 1, none⟩ (.int .i64 0)).setCell ⟨B, 1, none⟩ (.slice (some ⟨g, 0, none⟩) m cap)) g cap (popped d H0.out) := hI3.kept (Below.heap_setCell _ _ _ _ hne')
  have c4 : Chg (fun k => k = B ∨ k = g) w1 (((w2.setCell ⟨g, m * 2, none⟩ (.int .i64 0)).setCell ⟨g, m * 2 + 1, none⟩ (.int .i64 0)).setCell ⟨B, 1, none⟩ (.slice (some ⟨g, 0, none⟩) m cap)) :=
    ((c2.setCell (p := ⟨g, m * 2, none⟩) (.inl (.inr rfl)) _).setCell (p := ⟨g, m * 2 + 1, none⟩) (.inl (.inr rfl)) _).setCell (p := ⟨B, 1, none⟩) (.inl (.inl rfl)) _
  have hs := sink_in hl o B g cap puts (popped d H0.out) 0 _ (by omega) (Nat.zero_le _) (by rw [hpl]; exact hb4) hI4 (heap_pop HG.out.heap H0.out)
  refine ⟨trivial, rfl, hs.mono ?_⟩
  rintro e w5 ⟨rfl, d2, hpm, hh, hI5, c5⟩
  have hb5 : PBox w5 B lf (.slice (some ⟨g, 0, none⟩) m cap) puts := c5.same hb4 hne
  have hgood : PileLib.Good (bef lt) d2 L := by
    have h1 := popped_perm H0.out
    rw [HY.out] at h1
    exact ⟨hh, hpm.trans ((h1.trans HG.out.perm).cons_inv), (List.pairwise_cons.1 HG.out.sort).2⟩
  have hd2 : d2.length = m := hpm.length_eq.trans hpl
  have hrow : PRow w5 (.slice (some ⟨g, 0, none⟩) m cap) d2 := by
    have := hI5
    unfold ItsAt at this
    unfold PRow
    rw [hd2] at this ⊢
    exact this
  have HP : Hid (Pile B lf lt L puts (fun k => k = B ∨ (Value.slice (some ⟨g, 0, none⟩) (m + 1) cap).ownBlock = some k) w5) := ⟨.slice (some ⟨g, 0, none⟩) m cap, d2, rfl, hb5, hrow, hgood⟩
  have c6 : Chg (fun k => k = B ∨ k = g) w1 w5 := c4.trans c5 (fun k h => .inl (.inr h))
  clear hs hpl hpop hgood hrow hI5 hI4 hI3 hb5 hb4 hb3 hb2 hd2
  gi_wp2
  go_ret2
  rw [HM.out]
  refine ⟨rfl, HP.out, c6.mono (fun k h => ?_)⟩
  rcases h with h | h
  · exact .inl h
  · exact .inr (by rw [h]; rfl)
end Go.Proofs.Ytaolebadamfodaa
