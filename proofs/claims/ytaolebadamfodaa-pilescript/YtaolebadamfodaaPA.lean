/-
  All: the things of a pile, in order, as they are when it is gone through.
-/
import Derived.Test.YtaolebadamfodaaPC
import Derived.Deep.RegionHeld3
import Derived.Sort.LoopGhostIn
import Derived.Laws.EntriesVeiled
namespace Go.Proofs.Ytaolebadamfodaa
open Go.RowKit Go.Shelf Go.SeqLib Go.BigFrame Go.PileLib
attribute [local go_sem] Oper.semAt_some

theorem Chg.cell {S : Blk} {w w' : World} (h : Chg S w w') {a : Addr} {v : Value} (hc : w.cell? a = some v) (hn : ¬ S a.block) : w'.cell? a = some v :=
  (World.cell?_of_block (h.block a.block (World.block_lt_of_cell? w a hc) hn)).trans hc
theorem PRow.kept {W W' : World} {v : Value} {d : List (Int × Int)} (h : PRow W v d) (hk : ∀ k, v.ownBlock = some k → W'.heap[k]? = W.heap[k]?) : PRow W' v d := rowKept h hk
theorem PRow.chg {W W' : World} {v : Value} {d : List (Int × Int)} {S : Blk} (h : PRow W v d) (c : Chg S W W') (hd : ∀ k, v.ownBlock = some k → ¬ S k) : PRow W' v d := h.kept (fun k e => c.block k (World.ownsRow.lt h k e).2 (hd k e))
theorem Pile.part (B lf : Nat) (lt : Int → Int → Bool) (L : List (Int × Int)) (puts : Int) : Part (Pile B lf lt L puts) := {
  lt := by
    rintro S W ⟨v, d, rfl, hb, hr, hg⟩ k (rfl | h)
    · exact hb.lt
    · exact (World.ownsRow.lt hr k h).2
  kept := by
    rintro S W W' ⟨v, d, rfl, hb, hr, hg⟩ _ hk
    exact ⟨v, d, rfl, (hk _ (.inl rfl)).trans hb, hr.kept (fun k h => hk k (.inr h)), hg⟩ }

theorem rowBaseS {W : World} {b b' : Nat} {e : TypeId} {s : Nat} {v : Value} {n : Nat} {xs : List Value} (h : W.ownsRow b e s v n xs) (hb : b' ≤ b) : W.ownsRow b' e s v n xs := rowBase h hb

set_option maxRecDepth 100000 in
set_option maxHeartbeats 4000000 in
theorem all1 {lf : Nat} {lt : Int → Int → Bool} (hl : Less lf lt) (o : Ord (bef lt)) (B Bp : Nat) (v : Value) (d L : List (Int × Int)) (puts : Int) (hlen : L.length ≤ 100000) (hg : PileLib.Good (bef lt) d L) :
    Iter Try.prog 41 #[.pointer (some ⟨Bp, 0, none⟩)] encI (L.map Prod.fst) (fun k => k = Bp ∨ k = B ∨ v.ownBlock = some k) (fun _ => False)
      (fun W => Boxed W Bp 45 (.pointer (some ⟨B, 0, none⟩)) ∧ PBox W B lf v puts ∧ PRow W v d) (fun _ W => Boxed W Bp 45 (.pointer (some ⟨B, 0, none⟩)) ∧ PBox W B lf v puts ∧ PRow W v d) := {
  sub := fun _ h => h.elim
  lt0 := by
    rintro W ⟨b1, b2, b3⟩ k (rfl | rfl | h)
    · exact b1.lt
    · exact b2.lt
    · exact (World.ownsRow.lt b3 k h).2
  kept0 := by
    rintro W W' ⟨b1, b2, b3⟩ _ hk
    exact ⟨(hk _ (.inl rfl)).trans b1, (hk _ (.inr (.inl rfl))).trans b2, b3.kept (fun k h => hk k (.inr (.inr h)))⟩
  kept := by
    rintro pre W W' ⟨b1, b2, b3⟩ _ hk
    exact ⟨(hk _ (.inl rfl)).trans b1, (hk _ (.inr (.inl rfl))).trans b2, b3.kept (fun k h => hk k (.inr (.inr h)))⟩
  runs := by
    intro l J Jx S W pJ pJx hY hI hJ hDS
    obtain ⟨b1, b2, b3⟩ := hI
    have hmix : Try.prog.follows .mixedOrders = true := by kernel_rfl
    have hc1 := b1.cell
    obtain ⟨q0, q1, _⟩ := b2.cells
    have hdl : d.length ≤ 1000000 := by have := hg.perm.length_eq; omega
    have n1 : W.heap.size ≠ B := by have := b2.lt; omega
    have n2 : W.heap.size ≠ Bp := by have := b1.lt; omega
    refine callsIn_of_wp Try.func41 rfl trivial ?_
    simp only [Try.ntmps41, List.size_toArray, List.length_cons, List.length_nil, Nat.reduceAdd, Nat.reduceSub, Array.replicate_succ, Array.replicate_zero, List.push_toArray, List.append_toArray, List.nil_append, List.cons_append]
    have hS : ∀ w', Chg (fun _ => False) W w' → (w'.cell? ⟨Bp, 0, none⟩ = some (.pointer (some ⟨B, 0, none⟩)) ∧ w'.cell? ⟨B, 0, none⟩ = some (.func (.func lf) #[] #[]) ∧ w'.cell? ⟨B, 1, none⟩ = some v) ∧ Chg (fun _ => False) W w' := fun w' c => ⟨⟨Chg.cell c hc1 (fun h => h), Chg.cell c q0 (fun h => h), Chg.cell c q1 (fun h => h)⟩, c⟩
    have hPR : ∀ w', Chg (fun _ => False) W w' → PRow w' v d := fun w' c => b3.chg c (fun _ _ h => h)
    have k0 : Chg (fun _ => False) W W.drew := (Chg.refl _ W).drew
    have k1 : Chg (fun _ => False) W (W.alloc (.cells #[.nilFunc, .slice none 0 0, .int .i64 0] 72)).drew := ((Chg.refl _ W).alloc _).drew
    have hZ : ∀ w', Chg (fun _ => False) (W.alloc (.cells #[.nilFunc, .slice none 0 0, .int .i64 0] 72)).drew w' → w'.cell? ⟨W.heap.size, 0, none⟩ = some .nilFunc ∧ w'.cell? ⟨W.heap.size, 1, none⟩ = some (.slice none 0 0) ∧ w'.cell? ⟨W.heap.size, 2, none⟩ = some (.int .i64 0) ∧ w'.frozen? ⟨W.heap.size, 0, none⟩ = false ∧ w'.frozen? ⟨W.heap.size, 1, none⟩ = false ∧ w'.frozen? ⟨W.heap.size, 2, none⟩ = false := fun w' c => by
      have hz : w'.heap[W.heap.size]? = some (.cells #[.nilFunc, .slice none 0 0, .int .i64 0] 72) := c.same (World.alloc_heap_new W _) (fun h => h)
      simp [World.cell?, World.frozen?, hz]
    gi_wp2
    refine wpIn_wide.2 ?_
    go_region_held3 (fun w' => (w'.cell? ⟨Bp, 0, none⟩ = some (.pointer (some ⟨B, 0, none⟩)) ∧ w'.cell? ⟨B, 0, none⟩ = some (.func (.func lf) #[] #[]) ∧ w'.cell? ⟨B, 1, none⟩ = some v) ∧ Chg (fun _ => False) W w')
      (first
        | exact hS _ k0
        | exact hS _ k1
        | exact hS _ c1
        | exact hS _ (c1.alloc _)
        | exact hS _ (((c1.setCell (.inr (Nat.le_refl _)) _).setCell (.inr (Nat.le_refl _)) _).setCell (.inr (Nat.le_refl _)) _)
        | exact hS _ (c1.alloc _).drew
        | exact hS _ c1.drew)
      (first
        | (go_at_call 42; refine ((callsIn_wide (n := 0)).1 (clone_items v d hdl _ (hPR _ k0))).mono ?_; rintro e w1 ⟨v', rfl, hr', c1'⟩; obtain ⟨p9, cap9, rfl⟩ := row_slice hr'; have c1 : Chg (fun _ => False) W w1 := k0.trans c1' (Grew.refl _ _))
        | (go_at_call 42; refine ((callsIn_wide (n := 0)).1 (clone_items v d hdl _ (hPR _ k1))).mono ?_; rintro e w1 ⟨v', rfl, hr', c1'⟩; obtain ⟨p9, cap9, rfl⟩ := row_slice hr'; have c1 : Chg (fun _ => False) W w1 := k1.trans c1' (Grew.refl _ _); obtain ⟨z0, z1, z2, z3, z4, z5⟩ := hZ w1 c1'))
    · have HP : ∃ SR, Pile w1.heap.size lf lt L 0 SR (w1.alloc (.cells #[.func (.func lf) #[] #[], .slice p9 d.length cap9, .int .i64 0] 72)) ∧ ∀ k, SR k → W.heap.size ≤ k :=
        ⟨_, ⟨_, d, rfl, World.alloc_heap_new w1 _, rowKept (rowBase hr' (Nat.zero_le _)) (fun k e => Below.heap_alloc w1 _ k (World.ownsRow.lt hr' k e).2), hg⟩, by
          rintro k (rfl | h)
          · exact c1.size
          · exact (World.ownsRow.lt hr' k h).1⟩
      have c2 := c1.alloc (.cells #[.func (.func lf) #[] #[], .slice p9 d.length cap9, .int .i64 0] 72)
      generalize (w1.alloc (.cells #[.func (.func lf) #[] #[], .slice p9 d.length cap9, .int .i64 0] 72)) = W2 at HP c2 ⊢
      generalize w1.heap.size = R at HP ⊢
      clear hr' c1' c1
      obtain ⟨SR, HP, hnew⟩ := HP
      have HJ : Hid (J [] S W2) := (pJ _).chg hJ c2 (fun _ _ h => h)
      have HI9 : Hid (∀ W9, Chg S W W9 → Boxed W9 Bp 45 (.pointer (some ⟨B, 0, none⟩)) ∧ PBox W9 B lf v puts ∧ PRow W9 v d) := fun W9 c => ⟨c.boxed b1 (hDS _ (.inl rfl)), c.same b2 (hDS _ (.inr (.inl rfl))), b3.chg c (fun k h => hDS k (.inr (.inr h)))⟩
      have HSl : Hid (∀ k, S k → k < W.heap.size) := (pJ _).lt hJ
      clear q0 q1 hc1 hS hPR k0 k1 n1 n2
      gi_wp2
      gi_loopg [] L.length (fun n wr => ∃ (pre rest : List (Int × Int)) (So : Blk), Hid (L = pre ++ rest) ∧ rest.length ≤ n ∧ Pile R lf lt rest 0 SR wr ∧ Hid (J (pre.map Prod.fst) So wr) ∧ Hid (∀ k, SR k → ¬ So k) ∧ Chg S W wr ∧ Grew S W So)
      case atStart => exact ⟨[], L, S, rfl, Nat.le_refl _, HP, HJ, fun k hk hs => by have := hnew k hk; have := HSl.out k hs; omega, c2.mono (fun _ h => h.elim), Grew.refl _ _⟩
      case round =>
        obtain ⟨pre, rest, So, HL, hrl, hPk, HJk, HSS, c, gr⟩ := hrel
        cases rest with
        | nil =>
          gi_wp2_with fail
          refine ⟨trivial, rfl, (pop_none R 0 SR wr hPk).mono ?_⟩
          rintro e w3 ⟨rfl, c3⟩
          have c4 : Chg S W w3 := c.trans c3 (S' := fun _ => False) (fun _ h => h.elim)
          have j3 : J (pre.map Prod.fst) So w3 := (pJ _).chg HJk.out c3 (fun _ _ h => h)
          have he : L = pre := by have := HL.out; simpa using this
          gi_wp2_with fail
          refine ⟨fun _ h => (by cases h), ?_⟩
          gi_wp2
          refine bodyPost_ret (results_none rfl _ _ _) rfl ?_
          exact ⟨⟨_, rfl⟩, L.map Prod.fst, So, .inl ⟨rfl, by rw [he]; exact j3⟩, HI9.out _ c4, c4.mono (fun _ => .inr), gr⟩
        | cons y rest =>
          have hrl2 : rest.length ≤ 100000 := by have := HL.out; rw [this] at hlen; simp at hlen; omega
          gi_wp2_with fail
          refine ⟨trivial, rfl, (pop_in hl o R y rest 0 SR hrl2 wr hPk).mono ?_⟩
          rintro e w3 ⟨rfl, hP3, c3⟩
          have g3 : Grew S W SR := fun k hk => .inr (hnew k hk)
          have c4 : Chg S W w3 := c.trans c3 g3
          have j3 : J (pre.map Prod.fst) So w3 := (pJ _).chg HJk.out c3 (fun k hk h => HSS.out k h hk)
          have hpre : pre.map Prod.fst ++ [y.1] <+: L.map Prod.fst := by
            rw [HL.out]
            refine ⟨rest.map Prod.fst, ?_⟩
            simp
          obtain ⟨fnr, tmps, assign, body, hy, hR⟩ := hY _ y.1 So w3 hpre j3
          gi_wp2
          refine ⟨rfl, hR.mono ?_⟩
          rintro e W5 ⟨S5, c5, g5, (⟨rfl, j5⟩ | ⟨rfl, j5⟩)⟩
          · have cc := c4.trans c5 gr
            have gg := gr.trans g5 c4.size
            have HP5 : Hid (Pile R lf lt rest 0 SR W5) := (Pile.part R lf lt rest 0).chg hP3 c5 (fun k hk h => HSS.out k hk h)
            have HS5 : Hid (∀ k, SR k → ¬ S5 k) := fun k hk h => by
              rcases g5 k h with h1 | h1
              · exact HSS.out k hk h1
              · have := (Pile.part R lf lt rest 0).lt hP3 k hk; omega
            have HJ5 : Hid (J ((pre ++ [y]).map Prod.fst) S5 W5) := by
              show J _ S5 W5
              rw [List.map_append]; exact j5
            have HL5 : Hid (L = (pre ++ [y]) ++ rest) := by
              show _ = _
              rw [HL.out]; simp
            clear hP3
            gi_wp2
            gi_roundg rest.length
            case measure => simp at hrl; omega
            case rel => exact ⟨pre ++ [y], rest, S5, HL5, Nat.le_refl _, HP5.out, HJ5, HS5, cc, gg⟩
          · have cc := c4.trans c5 gr
            have gg := gr.trans g5 c4.size
            gi_wp2
            refine bodyPost_ret (results_none rfl _ _ _) rfl ?_
            exact ⟨⟨_, rfl⟩, _, S5, .inr ⟨hpre, j5⟩, HI9.out _ cc, cc.mono (fun _ => .inr), gg⟩
    · have HP : ∃ SR, Pile W.heap.size lf lt L 0 SR (((w1.setCell ⟨W.heap.size, 0, none⟩ (.func (.func lf) #[] #[])).setCell ⟨W.heap.size, 1, none⟩ (.slice p9 d.length cap9)).setCell ⟨W.heap.size, 2, none⟩ (.int .i64 0)) ∧ ∀ k, SR k → W.heap.size ≤ k := by
        have hz : w1.heap[W.heap.size]? = some (.cells #[.nilFunc, .slice none 0 0, .int .i64 0] 72) := c1'.same (World.alloc_heap_new W _) (fun h => h)
        have hgt : ∀ k, (Value.slice p9 d.length cap9).ownBlock = some k → W.heap.size < k := fun k e => by
          have h1 := (World.ownsRow.lt hr' k e).1
          simp at h1; omega
        refine ⟨_, ⟨_, d, rfl, ?_, rowKept (rowBase hr' (Nat.zero_le _)) (fun k e => ?_), hg⟩, ?_⟩
        · unfold PBox
          simp only [World.setCell, Array.getElem?_modify, if_true, hz]
          simp
        · have := hgt k e
          exact ((Below.heap_setCell _ _ _ _ (by show k ≠ W.heap.size; omega)).trans (Below.heap_setCell _ _ _ _ (by show k ≠ W.heap.size; omega))).trans (Below.heap_setCell _ _ _ _ (by show k ≠ W.heap.size; omega))
        · rintro k (rfl | h)
          · exact Nat.le_refl _
          · exact Nat.le_of_lt (hgt k h)
      have c2 := (((c1.setCell (p := ⟨W.heap.size, 0, none⟩) (.inr (Nat.le_refl _)) (.func (.func lf) #[] #[])).setCell (p := ⟨W.heap.size, 1, none⟩) (.inr (Nat.le_refl _)) (.slice p9 d.length cap9)).setCell (p := ⟨W.heap.size, 2, none⟩) (.inr (Nat.le_refl _)) (.int .i64 0))
      generalize (((w1.setCell ⟨W.heap.size, 0, none⟩ (.func (.func lf) #[] #[])).setCell ⟨W.heap.size, 1, none⟩ (.slice p9 d.length cap9)).setCell ⟨W.heap.size, 2, none⟩ (.int .i64 0)) = W2 at HP c2 ⊢
      obtain ⟨R, hR⟩ : ∃ R, W.heap.size = R := ⟨_, rfl⟩
      rw [hR]
      rw [show Pile W.heap.size lf lt L 0 = Pile R lf lt L 0 by rw [hR]] at HP
      clear hr' c1' c1 z0 z1 z2 z3 z4 z5 hZ hR
      obtain ⟨SR, HP, hnew⟩ := HP
      have HJ : Hid (J [] S W2) := (pJ _).chg hJ c2 (fun _ _ h => h)
      have HI9 : Hid (∀ W9, Chg S W W9 → Boxed W9 Bp 45 (.pointer (some ⟨B, 0, none⟩)) ∧ PBox W9 B lf v puts ∧ PRow W9 v d) := fun W9 c => ⟨c.boxed b1 (hDS _ (.inl rfl)), c.same b2 (hDS _ (.inr (.inl rfl))), b3.chg c (fun k h => hDS k (.inr (.inr h)))⟩
      have HSl : Hid (∀ k, S k → k < W.heap.size) := (pJ _).lt hJ
      clear q0 q1 hc1 hS hPR k0 k1 n1 n2
      gi_wp2
      gi_loopg [] L.length (fun n wr => ∃ (pre rest : List (Int × Int)) (So : Blk), Hid (L = pre ++ rest) ∧ rest.length ≤ n ∧ Pile R lf lt rest 0 SR wr ∧ Hid (J (pre.map Prod.fst) So wr) ∧ Hid (∀ k, SR k → ¬ So k) ∧ Chg S W wr ∧ Grew S W So)
      case atStart => exact ⟨[], L, S, rfl, Nat.le_refl _, HP, HJ, fun k hk hs => by have := hnew k hk; have := HSl.out k hs; omega, c2.mono (fun _ h => h.elim), Grew.refl _ _⟩
      case round =>
        obtain ⟨pre, rest, So, HL, hrl, hPk, HJk, HSS, c, gr⟩ := hrel
        cases rest with
        | nil =>
          gi_wp2_with fail
          refine ⟨trivial, rfl, (pop_none R 0 SR wr hPk).mono ?_⟩
          rintro e w3 ⟨rfl, c3⟩
          have c4 : Chg S W w3 := c.trans c3 (S' := fun _ => False) (fun _ h => h.elim)
          have j3 : J (pre.map Prod.fst) So w3 := (pJ _).chg HJk.out c3 (fun _ _ h => h)
          have he : L = pre := by have := HL.out; simpa using this
          gi_wp2_with fail
          refine ⟨fun _ h => (by cases h), ?_⟩
          gi_wp2
          refine bodyPost_ret (results_none rfl _ _ _) rfl ?_
          exact ⟨⟨_, rfl⟩, L.map Prod.fst, So, .inl ⟨rfl, by rw [he]; exact j3⟩, HI9.out _ c4, c4.mono (fun _ => .inr), gr⟩
        | cons y rest =>
          have hrl2 : rest.length ≤ 100000 := by have := HL.out; rw [this] at hlen; simp at hlen; omega
          gi_wp2_with fail
          refine ⟨trivial, rfl, (pop_in hl o R y rest 0 SR hrl2 wr hPk).mono ?_⟩
          rintro e w3 ⟨rfl, hP3, c3⟩
          have g3 : Grew S W SR := fun k hk => .inr (hnew k hk)
          have c4 : Chg S W w3 := c.trans c3 g3
          have j3 : J (pre.map Prod.fst) So w3 := (pJ _).chg HJk.out c3 (fun k hk h => HSS.out k h hk)
          have hpre : pre.map Prod.fst ++ [y.1] <+: L.map Prod.fst := by
            rw [HL.out]
            refine ⟨rest.map Prod.fst, ?_⟩
            simp
          obtain ⟨fnr, tmps, assign, body, hy, hR⟩ := hY _ y.1 So w3 hpre j3
          gi_wp2
          refine ⟨rfl, hR.mono ?_⟩
          rintro e W5 ⟨S5, c5, g5, (⟨rfl, j5⟩ | ⟨rfl, j5⟩)⟩
          · have cc := c4.trans c5 gr
            have gg := gr.trans g5 c4.size
            have HP5 : Hid (Pile R lf lt rest 0 SR W5) := (Pile.part R lf lt rest 0).chg hP3 c5 (fun k hk h => HSS.out k hk h)
            have HS5 : Hid (∀ k, SR k → ¬ S5 k) := fun k hk h => by
              rcases g5 k h with h1 | h1
              · exact HSS.out k hk h1
              · have := (Pile.part R lf lt rest 0).lt hP3 k hk; omega
            have HJ5 : Hid (J ((pre ++ [y]).map Prod.fst) S5 W5) := by
              show J _ S5 W5
              rw [List.map_append]; exact j5
            have HL5 : Hid (L = (pre ++ [y]) ++ rest) := by
              show _ = _
              rw [HL.out]; simp
            clear hP3
            gi_wp2
            gi_roundg rest.length
            case measure => simp at hrl; omega
            case rel => exact ⟨pre ++ [y], rest, S5, HL5, Nat.le_refl _, HP5.out, HJ5, HS5, cc, gg⟩
          · have cc := c4.trans c5 gr
            have gg := gr.trans g5 c4.size
            gi_wp2
            refine bodyPost_ret (results_none rfl _ _ _) rfl ?_
            exact ⟨⟨_, rfl⟩, _, S5, .inr ⟨hpre, j5⟩, HI9.out _ cc, cc.mono (fun _ => .inr), gg⟩ }
end Go.Proofs.Ytaolebadamfodaa
