/-
  PatchSteps answers true at every three lists of files, and turns nothing that lay.
-/
import Derived.Test.YtndblaemladppaaDoorCAwake
import Derived.Test.YtndblaemladppaaDoorGFile
import Derived.Test.YtndblaemladppaaDoorFMay
namespace Go.Proofs.YtndblaemladppaaDoor
open Go.RowKit Go.Shelf Go.SeqLib Go.DiffLib Go.TreeLib
attribute [local go_sem] Oper.semAt_some

set_option maxRecDepth 100000 in
set_option maxHeartbeats 4000000 in
theorem steps_law (p0 : Option Addr) (na ca : Nat) (a : List Fl) (p1 : Option Addr) (nb cb : Nat) (b : List Fl) (p2 : Option Addr) (nc cc : Nat) (c : List Fl) (w : World) (ha : SlF w (.slice p0 na ca) a) (hna : a.length = na) (hb : SlF w (.slice p1 nb cb) b) (hnb : b.length = nb) (hc : SlF w (.slice p2 nc cc) c) (hnc : c.length = nc) :
    CallsIn Fence.wide 0 Tryd.prog 4 #[.slice p0 na ca, .slice p1 nb cb, .slice p2 nc cc] w fun e w' => e = .returned (.bool true) ∧ Chg No w w' := by
  have HNA : Hid (a.length = na) := hna
  have HNB : Hid (b.length = nb) := hnb
  have HNC : Hid (c.length = nc) := hnc
  clear hna hnb hnc
  refine callsIn_of_wp Tryd.func4 rfl trivial ?_
  simp only [Tryd.ntmps4, List.size_toArray, List.length_cons, List.length_nil, Nat.reduceAdd, Nat.reduceSub, Array.replicate_succ, Array.replicate_zero, List.push_toArray, List.append_toArray, List.nil_append, List.cons_append]
  gi_wp2_with fail
  refine ⟨trivial, rfl, (greatF_in (.slice p0 na ca) a 12 _ ha).mono ?_⟩
  rintro e x0 ⟨rfl, rfl⟩
  cases hg : greatF a 12 with
  | true =>
    gi_wp2_with fail
    refine ⟨trivial, ?_⟩
    rename_i hKK
    apply hKK
    gi_wp2_with fail
    refine ⟨trivial, ?_⟩
    rename_i hKK
    apply hKK
    gi_wp2_with fail
    refine ⟨trivial, ?_⟩
    rename_i hKK
    apply hKK
    gi_wp2_with fail
    refine ⟨trivial, ?_⟩
    rename_i hKK
    apply hKK
    gi_wp2_with fail
    refine ⟨trivial, ?_⟩
    rename_i hKK
    apply hKK
    gi_wp2_with fail
    refine ⟨trivial, rfl, (awake_in _).mono ?_⟩
    rintro e w9 ⟨rfl, c9⟩
    gi_wp2
    go_ret
    exact ⟨rfl, c9⟩
  | false =>
  obtain ⟨hlen0, hsz0⟩ := greatF_false hg
  clear hg
  gi_wp2_with fail
  refine ⟨trivial, rfl, (greatF_in (.slice p1 nb cb) b 12 _ hb).mono ?_⟩
  rintro e x1 ⟨rfl, rfl⟩
  cases hg : greatF b 12 with
  | true =>
    gi_wp2_with fail
    refine ⟨trivial, ?_⟩
    rename_i hKK
    apply hKK
    gi_wp2_with fail
    refine ⟨trivial, ?_⟩
    rename_i hKK
    apply hKK
    gi_wp2_with fail
    refine ⟨trivial, ?_⟩
    rename_i hKK
    apply hKK
    gi_wp2_with fail
    refine ⟨trivial, ?_⟩
    rename_i hKK
    apply hKK
    gi_wp2_with fail
    refine ⟨trivial, rfl, (awake_in _).mono ?_⟩
    rintro e w9 ⟨rfl, c9⟩
    gi_wp2
    go_ret
    exact ⟨rfl, c9⟩
  | false =>
  obtain ⟨hlen1, hsz1⟩ := greatF_false hg
  clear hg
  gi_wp2_with fail
  refine ⟨trivial, rfl, (greatF_in (.slice p2 nc cc) c 12 _ hc).mono ?_⟩
  rintro e x2 ⟨rfl, rfl⟩
  cases hg : greatF c 12 with
  | true =>
    gi_wp2_with fail
    refine ⟨trivial, ?_⟩
    rename_i hKK
    apply hKK
    gi_wp2_with fail
    refine ⟨trivial, ?_⟩
    rename_i hKK
    apply hKK
    gi_wp2_with fail
    refine ⟨trivial, ?_⟩
    rename_i hKK
    apply hKK
    gi_wp2_with fail
    refine ⟨trivial, rfl, (awake_in _).mono ?_⟩
    rintro e w9 ⟨rfl, c9⟩
    gi_wp2
    go_ret
    exact ⟨rfl, c9⟩
  | false =>
  obtain ⟨hlen2, hsz2⟩ := greatF_false hg
  clear hg
  gi_wp2_with fail
  refine ⟨trivial, rfl, (may_in (.slice p0 na ca) a (fun f hf => by have := (hsz0 f hf).1; omega) _ ha).mono ?_⟩
  rintro e y0 ⟨rfl, cm0⟩
  cases hm0 : mayB a with
  | false =>
    gi_wp2_with fail
    refine ⟨trivial, ?_⟩
    rename_i hKK
    apply hKK
    gi_wp2_with fail
    refine ⟨trivial, ?_⟩
    rename_i hKK
    apply hKK
    gi_wp2_with fail
    refine ⟨trivial, rfl, (awake_in _).mono ?_⟩
    rintro e w9 ⟨rfl, c9⟩
    gi_wp2
    go_ret
    exact ⟨rfl, Chg.seq cm0 c9⟩
  | true =>
  have hT0 := mayB_iff.1 hm0
  clear hm0
  have cg0 := cm0
  gi_wp2_with fail
  refine ⟨trivial, rfl, (may_in (.slice p1 nb cb) b (fun f hf => by have := (hsz1 f hf).1; omega) _ (hb.no cg0)).mono ?_⟩
  rintro e y1 ⟨rfl, cm1⟩
  cases hm1 : mayB b with
  | false =>
    gi_wp2_with fail
    refine ⟨trivial, ?_⟩
    rename_i hKK
    apply hKK
    gi_wp2_with fail
    refine ⟨trivial, rfl, (awake_in _).mono ?_⟩
    rintro e w9 ⟨rfl, c9⟩
    gi_wp2
    go_ret
    exact ⟨rfl, Chg.seq (Chg.seq cg0 cm1) c9⟩
  | true =>
  have hT1 := mayB_iff.1 hm1
  clear hm1
  have cg1 := Chg.seq cg0 cm1
  gi_wp2_with fail
  refine ⟨trivial, rfl, (may_in (.slice p2 nc cc) c (fun f hf => by have := (hsz2 f hf).1; omega) _ (hc.no cg1)).mono ?_⟩
  rintro e y2 ⟨rfl, cm2⟩
  cases hm2 : mayB c with
  | false =>
    gi_wp2_with fail
    refine ⟨trivial, rfl, (awake_in _).mono ?_⟩
    rintro e w9 ⟨rfl, c9⟩
    gi_wp2
    go_ret
    exact ⟨rfl, Chg.seq (Chg.seq cg1 cm2) c9⟩
  | true =>
  have hT2 := mayB_iff.1 hm2
  clear hm2
  have cg2 := Chg.seq cg1 cm2
  have hOa := hT0.once
  have hOb := hT1.once
  have hOc := hT2.once
  have e1 := app_steps hOa hOb hOc
  have e2 := app_of hOa hOc
  have a1 := ha.no cg2
  have b1 := hb.no cg2
  have c1 := hc.no cg2
  have OL1 := ofP_length a b
  have OL2 := ofP_length b c
  have OL3 := ofP_length a c
  have O1 := of_in _ _ a b (by omega) (by omega) y2 a1 b1
  have O2 := fun W h1 h2 => of_in (.slice p1 nb cb) (.slice p2 nc cc) b c (by omega) (by omega) W h1 h2
  have O3 := fun W h1 h2 => of_in (.slice p0 na ca) (.slice p2 nc cc) a c (by omega) (by omega) W h1 h2
  have AP1 := fun u W h1 h2 => apply_in (.slice p0 na ca) u a (ofP a b ++ ofP b c) (by rw [List.length_append]; omega) W h1 h2
  have AP2 := fun u W h1 h2 => apply_in (.slice p0 na ca) u a (ofP a c) (by omega) W h1 h2
  have l1 : appL a (ofP a b ++ ofP b c) = c := by unfold appL; rw [e1]; rfl
  have l2 : appB a (ofP a b ++ ofP b c) = true := by unfold appB; rw [e1]; rfl
  have l3 : appL a (ofP a c) = c := by unfold appL; rw [e2]; rfl
  have l4 : appB a (ofP a c) = true := by unfold appB; rw [e2]; rfl
  rw [l1, l2] at AP1
  rw [l3, l4] at AP2
  generalize ofP a b = d1 at *
  generalize ofP b c = d2 at *
  generalize ofP a c = d3 at *
  clear l1 l2 l3 l4 e1 e2 hT0 hT1 hT2 hOa hOb hOc cg0 cg1 cm0 cm1 cm2
  obtain ⟨ds, HDS⟩ : ∃ ds, Hid (d1 ++ d2 = ds) := ⟨_, rfl⟩
  have hdl : d1.length + d2.length = ds.length := by rw [← HDS.out, List.length_append]
  rw [HDS.out] at AP1
  gi_wp2_with fail
  refine ⟨trivial, rfl, O1.mono ?_⟩
  rintro e z1 ⟨v1, rfl, r1, k1⟩
  obtain ⟨q1, t1, rfl⟩ := OwnC.slice r1
  have s1 := OwnC.sl r1
  have hs1 := k1.size
  clear O1 r1
  gi_wp2_with (gi_at_builtin; refine wpListIn_append_sc isC33 _ rfl _ _ rfl z1.heap.size (.slice none 0 0) [] rfl (OwnC.nil _ _ _) q1 d1.length t1 d1 rfl s1 (by simp; omega) (Nat.le_refl _) ?_; intro v2 z2 own2 grow2 hat2; rw [List.nil_append] at own2; obtain ⟨q2, t2, rfl⟩ := OwnC.slice own2; have k2 : Chg No z1 z2 := (Chg.refl _ z1).grown grow2 (fun k e => by cases e))
  have k12 := Chg.seq k1 k2
  have b2 := b1.no k12
  have c2 := c1.no k12
  refine ⟨trivial, rfl, (O2 _ b2 c2).mono ?_⟩
  rintro e z3 ⟨v3, rfl, r3, k3⟩
  obtain ⟨q3, t3, rfl⟩ := OwnC.slice r3
  have s3 := OwnC.sl r3
  have own3 := OwnC.no own2 k3
  have k13 := Chg.seq k12 k3
  have hs2 := k2.size
  have hs3 := k3.size
  have hlow : ∀ q, Value.ownBlock (.slice q2 d1.length t2) = some q → z1.heap.size ≤ q := fun q hq => (World.ownsRow.lt own2 q hq).1
  clear O2 r3 own2 k2 grow2 hat2
  gi_wp2_with (gi_at_builtin; refine wpListIn_append_sc isC33 _ rfl _ _ rfl z1.heap.size _ d1 rfl own3 q3 d2.length t3 d2 rfl s3 (by omega) (by omega) ?_; intro v4 z4 own4 grow4 hat4; rw [HDS.out] at own4; obtain ⟨q4, t4, rfl⟩ := OwnC.slice own4; have k4 : Chg No y2 z4 := k13.grown grow4 (fun k e => .inr (by have := hlow k e; omega)))
  have s4 := OwnC.sl own4
  have a4 := a1.no k4
  have c4 := c1.no k4
  refine ⟨trivial, rfl, (AP1 _ _ a4 s4).mono ?_⟩
  rintro e z5 ⟨v5, rfl, r5, k5⟩
  obtain ⟨q5, t5, rfl⟩ := r5.slice
  have a5 := a4.no k5
  have c5 := c4.no k5
  have k15 := Chg.seq k4 k5
  clear AP1 own4 s4 hat4 grow4 own3 s3 s1 k3 k12 k13 k4 a4 c4 a1 b1 b2 c2 c1
  gi_wp2_with fail
  refine ⟨trivial, rfl, (O3 _ a5 c5).mono ?_⟩
  rintro e z6 ⟨v6, rfl, r6, k6⟩
  obtain ⟨q6, t6, rfl⟩ := OwnC.slice r6
  have a6 := a5.no k6
  have c6 := c5.no k6
  have r56 := r5.no k6
  gi_wp2_with fail
  refine ⟨trivial, rfl, (AP2 _ _ a6 (OwnC.sl r6)).mono ?_⟩
  rintro e z7 ⟨v7, rfl, r7, k7⟩
  obtain ⟨q7, t7, rfl⟩ := r7.slice
  have c7 := c6.no k7
  have r57 := r56.no k7
  have k17 := Chg.seq k15 (Chg.seq k6 k7)
  have S1 := sameF_in _ _ c c z7 r57.sl r7.sl (by omega)
  have S2 := fun W h1 h2 => sameF_in (.slice q5 c.length t5) (.slice p2 nc cc) c c W h1 h2 (by omega)
  rw [decide_eq_true rfl] at S1 S2
  clear O3 AP2 a5 c5 a6 c6 r6 r56 r5 r7 k5 k6 k7 k15
  gi_wp2_with fail
  refine ⟨trivial, rfl, S1.mono ?_⟩
  rintro e z8 ⟨rfl, k8⟩
  gi_wp2_with fail
  refine ⟨trivial, rfl, (S2 _ (r57.sl.no k8) (c7.no k8)).mono ?_⟩
  rintro e z9 ⟨rfl, k9⟩
  gi_wp2_with fail
  refine ⟨trivial, rfl, (awake_in _).mono ?_⟩
  rintro e z10 ⟨rfl, k10⟩
  gi_wp2
  go_ret
  exact ⟨rfl, Chg.seq cg2 (Chg.seq k17 (Chg.seq k8 (Chg.seq k9 k10)))⟩

end Go.Proofs.YtndblaemladppaaDoor
