/-
  PatchTells answers true at every two lists of files and every list of acts, and turns nothing that lay.
-/
import Derived.Test.YtndblaemladppaaCRef
import Derived.Test.YtndblaemladppaaCAwake
import Derived.Test.YtndblaemladppaaFKept
namespace Go.Proofs.Ytndblaemladppaa
open Go.RowKit Go.Shelf Go.SeqLib Go.DiffLib Go.TreeLib Go.BigFrame
attribute [local go_sem] Oper.semAt_some

/-- Two lists of changes of unlike types lie in rows of their own. -/
theorem OwnC.apart {e e' : TypeId} {W : World} {b b' : Nat} {v v' : Value} {zs zs' : List Chn} (hne : e ≠ e') (h : OwnC e W b v zs) (h' : OwnC e' W b' v' zs') : ∀ k, v.ownBlock = some k → ¬ v'.ownBlock = some k := by
  rcases h.2 with ⟨rfl, _⟩ | ⟨g, cap, cur, rfl, hb, hgg, _⟩
  · intro k hk; cases hk
  · rcases h'.2 with ⟨rfl, _⟩ | ⟨g', cap', cur', rfl, hb', hgg', _⟩
    · intro k _ hk; cases hk
    · intro k hk hk'
      cases hk
      cases hk'
      rw [hgg] at hgg'
      cases hgg'
      exact hne rfl

theorem app_len {zs : List Fl} {cs : List Chn} : (appL zs cs).length ≤ zs.length + cs.length := by
  unfold appL
  induction cs generalizing zs with
  | nil => exact Nat.le_refl _
  | cons c r ih =>
    unfold appP
    split
    · refine Nat.le_trans ih ?_
      have := withP_length zs c
      rw [List.length_cons]
      omega
    · exact Nat.zero_le _

set_option maxRecDepth 100000 in
set_option maxHeartbeats 4000000 in
theorem ctells_law (p0 : Option Addr) (n cap : Nat) (zs : List Fl) (p1 : Option Addr) (nu capu : Nat) (us : List Fl) (p2 : Option Addr) (m capm : Nat) (cs : List Chn) (w : World) (hv : SlF w (.slice p0 n cap) zs) (hn : zs.length = n) (hu : SlF w (.slice p1 nu capu) us) (hnu : us.length = nu) (ha : SlC w (.slice p2 m capm) cs) (hm : cs.length = m) :
    CallsIn Fence.wide 0 Try.prog 3 #[.slice p0 n cap, .slice p1 nu capu, .slice p2 m capm] w fun e w' => e = .returned (.bool true) ∧ Chg No w w' := by
  have HM : Hid (cs.length = m) := hm
  clear hm
  refine callsIn_of_wp Try.func3 rfl trivial ?_
  simp only [Try.ntmps3, List.size_toArray, List.length_cons, List.length_nil, Nat.reduceAdd, Nat.reduceSub, Array.replicate_succ, Array.replicate_zero, List.push_toArray, List.append_toArray, List.nil_append, List.cons_append]
  gi_wp2_with fail
  refine ⟨trivial, rfl, (greatF_in (.slice p0 n cap) zs 16 w hv).mono ?_⟩
  rintro e w0 ⟨rfl, rfl⟩
  cases hg : greatF zs 16 with
  | true =>
    gi_wp2_with fail
    refine ⟨trivial, ?_⟩
    rename_i hKK
    apply hKK
    gi_wp2_with fail
    refine ⟨trivial, rfl, (awake_in _).mono ?_⟩
    rintro e w9 ⟨rfl, c9⟩
    gi_wp2
    go_ret
    exact ⟨rfl, c9⟩
  | false =>
  obtain ⟨hlen, hsz⟩ := greatF_false hg
  clear hg hsz
  gi_wp2_with fail
  refine ⟨trivial, rfl, (greatF_in (.slice p1 nu capu) us 16 w0 hu).mono ?_⟩
  rintro e w1 ⟨rfl, rfl⟩
  cases hg : greatF us 16 with
  | true =>
    gi_wp2_with fail
    refine ⟨trivial, rfl, (awake_in _).mono ?_⟩
    rintro e w9 ⟨rfl, c9⟩
    gi_wp2
    go_ret
    exact ⟨rfl, c9⟩
  | false =>
  obtain ⟨hlenu, hszu⟩ := greatF_false hg
  clear hg hszu
  by_cases hm16 : 16 < m
  · have g1 : (16 : Int) < (m : Int) := by omega
    gi_wp2_with fail
    refine ⟨trivial, rfl, (awake_in _).mono ?_⟩
    rintro e w9 ⟨rfl, c9⟩
    gi_wp2
    go_ret
    exact ⟨rfl, c9⟩
  have g1 : ¬ (16 : Int) < (m : Int) := by omega
  have hm0 : m ≤ 9223372036854775807 := by omega
  gi_wp2
  gi_loopw [7, 8, 9] (fun s7 s8 s9 wr => ∃ k : Nat, k ≤ m ∧ s9 = .int .i64 (k : Int) ∧ OwnC 30 wr w1.heap.size s7 (cs.take k) ∧ OwnC 31 wr w1.heap.size s8 (cs.take k) ∧ Chg No w1 wr) (fun _ _ s9 _ => m - (intOf s9).toNat)
  case atStart => exact ⟨0, Nat.zero_le _, rfl, OwnC.nil _ _ _, OwnC.nil _ _ _, Chg.refl _ _⟩
  case round =>
    obtain ⟨k, hk, rfl, ho7, ho8, c⟩ := hrel
    by_cases hlt : k < m
    · have hlt' : (k : Int) < (m : Int) := by omega
      have hkc : k < cs.length := by rw [HM.out]; exact hlt
      obtain ⟨x, hx⟩ : ∃ x, cs[k]? = some x := ⟨_, List.getElem?_eq_getElem hkc⟩
      have HTS : Hid (cs.take (k + 1) = cs.take k ++ [x]) := by show _ = _; rw [List.take_add_one, hx]; rfl
      have HTL : Hid ((cs.take k).length = k) := by show _ = _; rw [List.length_take]; omega
      obtain ⟨b1, o1, rfl, hc1, hc2, hc3, hc4, hc5⟩ := SlC.at (ha.no c) k x hx
      clear hx
      generalize cs.take k = ds at *
      obtain ⟨v7, k7, rfl⟩ := ho7.slice
      obtain ⟨v8, k8, rfl⟩ := ho8.slice
      have HDL : Hid (ds.length ≤ 16) := by show _ ≤ _; rw [HTL.out]; omega
      obtain ⟨p, q1, q2, od, nw⟩ := x
      dsimp only at hc1 hc2 hc3 hc4 hc5
      have cA : Chg No wr (wr.alloc (.cells #[.string p, .bool q1, .bool q2, .string od, .string nw] 29)) := (Chg.refl _ wr).alloc _
      have hbA : (wr.alloc (.cells #[.string p, .bool q1, .bool q2, .string od, .string nw] 29)).heap[wr.heap.size]? = some (.cells #[.string p, .bool q1, .bool q2, .string od, .string nw] 29 (0, 0)) := World.alloc_heap_new wr _
      have hsA : (wr.alloc (.cells #[.string p, .bool q1, .bool q2, .string od, .string nw] 29)).heap.size = wr.heap.size + 1 := World.size_alloc _ _
      have k0 : (wr.alloc (.cells #[.string p, .bool q1, .bool q2, .string od, .string nw] 29)).cell? ⟨wr.heap.size, 0, none⟩ = some (.string p) := World.cell?_alloc_at _ _ _ _ rfl
      have k1 : (wr.alloc (.cells #[.string p, .bool q1, .bool q2, .string od, .string nw] 29)).cell? ⟨wr.heap.size, 1, none⟩ = some (.bool q1) := World.cell?_alloc_at _ _ _ _ rfl
      have k2 : (wr.alloc (.cells #[.string p, .bool q1, .bool q2, .string od, .string nw] 29)).cell? ⟨wr.heap.size, 2, none⟩ = some (.bool q2) := World.cell?_alloc_at _ _ _ _ rfl
      have k3 : (wr.alloc (.cells #[.string p, .bool q1, .bool q2, .string od, .string nw] 29)).cell? ⟨wr.heap.size, 3, none⟩ = some (.string od) := World.cell?_alloc_at _ _ _ _ rfl
      have k4 : (wr.alloc (.cells #[.string p, .bool q1, .bool q2, .string od, .string nw] 29)).cell? ⟨wr.heap.size, 4, none⟩ = some (.string nw) := World.cell?_alloc_at _ _ _ _ rfl
      have hs7 : ∀ q, Value.ownBlock (.slice v7 ds.length k7) = some q → w1.heap.size ≤ q ∧ q < wr.heap.size := fun q hq => World.ownsRow.lt ho7 q hq
      have hs8 : ∀ q, Value.ownBlock (.slice v8 ds.length k8) = some q → w1.heap.size ≤ q ∧ q < wr.heap.size := fun q hq => World.ownsRow.lt ho8 q hq
      have oA7 := ho7.no cA
      have oA8 := ho8.no cA
      have cwA := Chg.seq c cA
      clear ho7 ho8
      by_cases h1 : 100 < p.size
      · have g1 : (100 : Int) < (p.size : Int) := by omega
        gi_wp2_with fail
        refine ⟨trivial, rfl, (awake_in _).mono ?_⟩
        rintro e w9 ⟨rfl, c9⟩
        gi_wp2
        go_ret
        exact ⟨rfl, Chg.seq cwA c9⟩
      have g1 : ¬ (100 : Int) < (p.size : Int) := by omega
      by_cases h2 : 500 < od.size
      · have g2 : (500 : Int) < (od.size : Int) := by omega
        gi_wp2_with fail
        refine ⟨trivial, rfl, (awake_in _).mono ?_⟩
        rintro e w9 ⟨rfl, c9⟩
        gi_wp2
        go_ret
        exact ⟨rfl, Chg.seq cwA c9⟩
      have g2 : ¬ (500 : Int) < (od.size : Int) := by omega
      by_cases h3 : 500 < nw.size
      · have g3 : (500 : Int) < (nw.size : Int) := by omega
        gi_wp2_with fail
        refine ⟨trivial, rfl, (awake_in _).mono ?_⟩
        rintro e w9 ⟨rfl, c9⟩
        gi_wp2
        go_ret
        exact ⟨rfl, Chg.seq cwA c9⟩
      have g3 : ¬ (500 : Int) < (nw.size : Int) := by omega
      have hslB := SlC.one 30 (wr.alloc (.cells #[.string p, .bool q1, .bool q2, .string od, .string nw] 29)) (p, q1, q2, od, nw)
      rw [hsA] at hslB
      have cAB : Chg No (wr.alloc (.cells #[.string p, .bool q1, .bool q2, .string od, .string nw] 29)) ((wr.alloc (.cells #[.string p, .bool q1, .bool q2, .string od, .string nw] 29)).alloc (.cells #[.string p, .bool q1, .bool q2, .string od, .string nw] 30)) := (Chg.refl _ _).alloc _
      have cwB := Chg.seq cwA cAB
      have oB7 := oA7.no cAB
      have hbs := cwB.size
      have HG : Hid (∀ W4 v7', OwnC 30 W4 w1.heap.size v7' (ds ++ [(p, q1, q2, od, nw)]) → ((wr.alloc (.cells #[.string p, .bool q1, .bool q2, .string od, .string nw] 29)).alloc (.cells #[.string p, .bool q1, .bool q2, .string od, .string nw] 30)).grownBy W4 (Value.slice v7 ds.length k7).ownBlock →
          W4.cell? ⟨wr.heap.size, 0, none⟩ = some (.string p) ∧ W4.cell? ⟨wr.heap.size, 1, none⟩ = some (.bool q1) ∧ W4.cell? ⟨wr.heap.size, 2, none⟩ = some (.bool q2) ∧ W4.cell? ⟨wr.heap.size, 3, none⟩ = some (.string od) ∧ W4.cell? ⟨wr.heap.size, 4, none⟩ = some (.string nw) ∧
          OwnC 31 (W4.alloc (.cells #[.string p, .bool q1, .bool q2, .string od, .string nw] 31)) w1.heap.size (.slice v8 ds.length k8) ds ∧ SlC (W4.alloc (.cells #[.string p, .bool q1, .bool q2, .string od, .string nw] 31)) (.slice (some ⟨W4.heap.size, 0, none⟩) 1 1) [(p, q1, q2, od, nw)] ∧ w1.heap.size ≤ (W4.alloc (.cells #[.string p, .bool q1, .bool q2, .string od, .string nw] 31)).heap.size ∧
          ∀ W5, (W4.alloc (.cells #[.string p, .bool q1, .bool q2, .string od, .string nw] 31)).grownBy W5 (Value.slice v8 ds.length k8).ownBlock → Chg No w1 W5 ∧ OwnC 30 W5 w1.heap.size v7' (ds ++ [(p, q1, q2, od, nw)])) := fun W4 v7' hown7 hgrow7 => by
        have cA4 : Chg (fun q => Value.ownBlock (.slice v7 ds.length k7) = some q) (wr.alloc (.cells #[.string p, .bool q1, .bool q2, .string od, .string nw] 29)) W4 := (cAB.mono (fun _ h => h.elim)).grown hgrow7 (fun k e => .inl e)
        have hb4 := cA4.same hbA (fun h => by have := (hs7 _ h).2; omega)
        have cw4 : Chg No w1 W4 := cwB.grown hgrow7 (fun q e => .inr (hs7 q e).1)
        have o48 : OwnC 31 W4 w1.heap.size (.slice v8 ds.length k8) ds := oA8.chg cA4 (fun q h8 h7 => OwnC.apart (by decide) oA7 oA8 q h7 h8)
        refine ⟨by simp [World.cell?, hb4], by simp [World.cell?, hb4], by simp [World.cell?, hb4], by simp [World.cell?, hb4], by simp [World.cell?, hb4], o48.no ((Chg.refl _ W4).alloc _), SlC.one 31 W4 (p, q1, q2, od, nw), (cw4.alloc _).size, fun W5 hg => ⟨(cw4.alloc _).grown hg (fun q e => .inr (World.ownsRow.lt o48 q e).1), ?_⟩⟩
        have c45 : Chg (fun q => Value.ownBlock (.slice v8 ds.length k8) = some q) W4 W5 := ((Chg.refl _ W4).alloc _).grown hg (fun k e => .inl e)
        exact hown7.chg c45 (fun q h7 h8 => OwnC.apart (by decide) hown7 o48 q h7 h8)
      gi_wp2_with (gi_at_builtin; first
        | (refine wpListIn_append_sc isC30 _ rfl _ _ rfl w1.heap.size _ ds rfl oB7 (some ⟨wr.heap.size + 1, 0, none⟩) 1 1 [(p, q1, q2, od, nw)] rfl hslB (by have := HDL.out; omega) hbs ?_; intro v7' W4 hown7 hgrow7 _; obtain ⟨p7', c7', rfl⟩ := hown7.slice; obtain ⟨j0, j1, j2, j3, j4, oB8, hslB8, hbs8, HG5⟩ := HG.out W4 _ hown7 hgrow7)
        | (refine wpListIn_append_sc isC31 _ rfl _ _ rfl w1.heap.size _ ds rfl oB8 (some ⟨W4.heap.size, 0, none⟩) 1 1 [(p, q1, q2, od, nw)] rfl hslB8 (by have := HDL.out; omega) hbs8 ?_; intro v8' W5 hown8 hgrow8 _; obtain ⟨p8', c8', rfl⟩ := hown8.slice; obtain ⟨cw5, o57⟩ := HG5 W5 hgrow8))
      refine ⟨⟨k + 1, hlt, by go_num, by rw [HTS.out]; rw [List.length_append] at o57; exact o57, by rw [HTS.out]; rw [List.length_append] at hown8; exact hown8, cw5⟩, by simp [intOf]; omega⟩
    · obtain rfl : k = m := by omega
      have hlt' : ¬ (k : Int) < (k : Int) := by omega
      have hkn : cs.take k = cs := List.take_of_length_le (by rw [HM.out]; exact Nat.le_refl _)
      rw [hkn] at ho7 ho8
      obtain ⟨v7, k7, rfl⟩ := ho7.slice
      obtain ⟨v8, k8, rfl⟩ := ho8.slice
      have hvr := hv.no c
      have hur := hu.no c
      have hvb := hv.lt
      have hs0 := c.size
      clear hkn hlt hk
      gi_wp2_with fail
      refine ⟨trivial, rfl, (lendF_in _ zs (by omega) _ hvr).mono ?_⟩
      rintro e w2 ⟨v2, rfl, l2, r2, c2⟩
      obtain ⟨pi, ki, rfl⟩ := r2.slice
      rw [hn] at l2 r2 ⊢
      have hlb : ∀ k, Value.ownBlock (.slice pi n ki) = some k → k < w2.heap.size := fun k hk => (World.ownsRow.lt r2 k hk).2
      have s2 := r2.sl
      have hv2 := hvr.no c2
      have hu2 := hur.no c2
      have o72 := ho7.no c2
      have o82 := ho8.no c2
      have hs2 := c2.size
      have cw2 := Chg.seq c c2
      clear r2 hvr hur ho7 ho8 c c2
      have A1 := apply_in (.slice pi n ki) (.slice v7 cs.length k7) zs cs (by have := HM.out; omega) w2 s2 o72.sl
      have A2 := fun W h1 h2 => refApply_in (.slice p0 n cap) (.slice v8 cs.length k8) zs cs (by have := HM.out; omega) W h1 h2
      have hal : (appL zs cs).length ≤ 32 := by have := @app_len zs cs; have := HM.out; omega
      generalize appL zs cs = ts at A1 A2 hal
      generalize appB zs cs = tb at A1 A2
      have qtb : (tb == tb) = true := beq_self_eq_true _
      gi_wp2_with fail
      refine ⟨trivial, rfl, A1.mono ?_⟩
      rintro e w3 ⟨v3, rfl, r3, c3⟩
      have HB3 : Hid (∀ k, v3.ownBlock = some k → w2.heap.size ≤ k ∧ k < w3.heap.size) := fun k hk => World.ownsRow.lt r3 k hk
      gi_wp2_with fail
      refine ⟨trivial, rfl, (A2 _ (hv2.no c3) (o82.no c3).sl).mono ?_⟩
      rintro e w4 ⟨v4, rfl, r4, c4⟩
      have c24 := Chg.seq c3 c4
      have r34 := r3.no c4
      have O1 := of_in (.slice pi n ki) (.slice p1 nu capu) zs us (by omega) (by omega) w4 (s2.no c24) (hu2.no c24)
      have O2 := fun W h1 h2 => refOf_in (.slice p0 n cap) (.slice p1 nu capu) zs us (by omega) (by omega) W h1 h2
      generalize ofP zs us = ds at O1 O2
      clear A1 A2 r3 c3 c4 o72 o82
      gi_wp2_with fail
      refine ⟨trivial, rfl, O1.mono ?_⟩
      rintro e w5 ⟨v5, rfl, r5, c5⟩
      have c25 := Chg.seq c24 c5
      gi_wp2_with fail
      refine ⟨trivial, rfl, (O2 _ (hv2.no c25) (hu2.no c25)).mono ?_⟩
      rintro e w6 ⟨v6, rfl, r6, c6⟩
      have c46 := Chg.seq c5 c6
      have S6 := sameC_in v5 v6 ds w6 (r5.no c6).sl r6.sl
      clear O1 O2
      gi_wp2_with fail
      refine ⟨trivial, rfl, S6.mono ?_⟩
      rintro e w7 ⟨rfl, c7⟩
      have c47 := Chg.seq c46 c7
      have S7 := sameF_in v3 v4 ts ts w7 (r34.no c47).sl (r4.no c47).sl (by omega)
      rw [decide_eq_true rfl] at S7
      clear S6 r5 r6 c5 c6 c7 c25
      gi_wp2_with fail
      refine ⟨trivial, rfl, S7.mono ?_⟩
      rintro e w8 ⟨rfl, c8⟩
      have c48 := Chg.seq c47 c8
      have c28 := Chg.seq c24 c48
      have r38 := r34.no c48
      have l8 := l2.no c28
      have hv8 := hv2.no c28
      have cw8 := Chg.seq cw2 c28
      have hs8 := c28.size
      clear S7 r34 r4 c24 c46 c47 c8 c48 c28 cw2 l2 hv2 hu2 s2
      gi_wp2_with fail
      refine ⟨trivial, rfl, (overF_in v3 _ _ _ (by omega) _ hs8 r38).mono ?_⟩
      rintro e w9 ⟨⟨r9, rfl⟩, c9⟩
      have cB : Chg (fun k => w2.heap.size ≤ k) w8 w9 := c9.mono (fun k h => (HB3.out k h).1)
      have l9 := l8.chg cB (fun k h1 h2 => by have := hlb k h1; omega)
      have hv9 := hv8.chg cB (fun k h1 h2 => by have := hvb k h1; omega)
      have cw9 : Chg No w1 w9 := cw8.trans cB (fun k h => .inr (by omega))
      clear c9 cB cw8 l8 hv8 r38 qtb
      gi_wp2_with fail
      refine ⟨trivial, rfl, (keptF_in _ _ zs (by omega) _ _ l9 hv9).mono ?_⟩
      rintro e wQ ⟨rfl, cQ⟩
      gi_wp2_with fail
      refine ⟨trivial, rfl, (awake_in _).mono ?_⟩
      rintro e wR ⟨rfl, cR⟩
      gi_wp2
      go_ret
      exact ⟨rfl, Chg.seq cw9 (Chg.seq cQ cR)⟩

end Go.Proofs.Ytndblaemladppaa
