/-
  x = append(x, e) in a statement of open order: with e of what is read, and with e of what a call answers. No program is named.
-/
import Derived.Test.YtmpgeacfnikbpaaDoorLoudA
import Derived.Test.YtmpgeacfnikbpaaDoorGTxt
namespace Go.Proofs.YtmpgeacfnikbpaaDoor
open Go.RowKit Go.Shelf Go.SeqLib

section
variable {P : Program} {n : Nat}

theorem cells_laid (w : World) (l : List Value) (t : TypeId) : ∀ j u, l[j]? = some u → (w.alloc (.cells l.toArray t)).cell? ((⟨w.heap.size, 0, none⟩ : Addr).add j) = some u := by
  intro j u h
  have e : (⟨w.heap.size, 0, none⟩ : Addr).add j = ⟨w.heap.size, j, none⟩ := by unfold Addr.add; split <;> simp_all
  rw [e, World.cell?_alloc_at _ _ _ _ rfl]
  simpa using h
theorem cells_still {S : Blk} {w w' : World} (c : Chg S w w') {g : Nat} (hg : ¬ S g) {l : List Value} (h : ∀ j u, l[j]? = some u → w.cell? ((⟨g, 0, none⟩ : Addr).add j) = some u) : ∀ j u, l[j]? = some u → w'.cell? ((⟨g, 0, none⟩ : Addr).add j) = some u := by
  intro j u hj
  have e : (⟨g, 0, none⟩ : Addr).add j = ⟨g, j, none⟩ := by unfold Addr.add; split <;> simp_all
  have h1 := h j u hj
  rw [e] at h1 ⊢
  exact (World.cell?_of_block (a := ⟨g, j, none⟩) (c.block g (World.block_lt_of_cell? w _ h1) hg)).trans h1
theorem own_still {W W' : World} {base : Nat} {e : TypeId} {s : Nat} {v : Value} {n : Nat} {xs : List Value} (h : W.ownsRow base e s v n xs) {S : Blk} (c : Chg S W W') (hS : ∀ k, v.ownBlock = some k → ¬ S k) : W'.ownsRow base e s v n xs := by
  refine ⟨h.1, ?_⟩
  rcases h.2 with hn | ⟨g, cap, cur, rfl, hb, hgg, rest⟩
  · exact .inl hn
  · exact .inr ⟨g, cap, cur, rfl, hb, (c.block g (Array.getElem?_eq_some_iff.1 hgg).1 (hS g rfl)).trans hgg, rest⟩

/-- What a row that was appended to has to do with the one ahead. -/
def Moved (v v' : Value) (w : World) : Prop := v'.ownBlock = v.ownBlock ∨ ∃ g, v'.ownBlock = some g ∧ w.heap.size ≤ g

/-- e of what is read. -/
theorem region_push {id : Nat} {l : List Oper} (i1 i2 : Nat) (o1 o2 : Oper) {Q : Exit → Act → World → Prop} {a : Act} {w : World} (hm : P.follows .mixedOrders = true)
    (hs : seesW l.toArray = true) (hqb : quietB (fun i => i == i1 || i == i2) l = true) (h1 : l[i1]? = some o1) (h2 : l[i2]? = some o2) (h12 : waitsOn o2 i1 = true) (hne : (i1 == i2) = false)
    (s x : Operand) (t : TypeId) (hop : o2.op = Op.call { callee := Callee.builtin Builtin.append, args := #[s, x], argTypes := #[t, t] })
    (base : Nat) (e : TypeId) (i : TypeInfo) (z : Value) (size bytes : Nat) (ht1 : P.underlying t = some (.slice e)) (ht2 : P.info? e = some i) (ht3 : i.zero = some z) (ht4 : i.size = size) (ht5 : i.bytes = bytes) (ht6 : z.cells.size = size) (ht7 : 0 < size)
    (v : Value) (k : Nat) (xs news : List Value) (hown : w.ownsRow base e size v k xs) (hnl : news.length = size) (hn1 : ∀ u ∈ news, u.oneCell' = true) (b1 : k + 1 ≤ maxLen) (b2 : (k + 1) * bytes ≤ 140737488355328) (b3 : base ≤ w.heap.size)
    (hq : ∀ v1 v2, wpQuietIn Fence.wide n P (hushE (fun i => i == i1 || i == i2) (fun i => if (i == i1) = true then v1 else v2) 0 l).toArray (fun w' => ∃ c : AfterB (fun k => v.ownBlock = some k) w, w' = c.val)
      (fun a' => (∀ W, (execOp a'.eval o1).run P W = .ok (.value (.slice (some ⟨W.heap.size, 0, none⟩) 1 1)) (W.alloc (.cells news.toArray e))) ∧ (a'.eval s = v ∧ a'.eval x = v1) ∧
        ∀ W, W.ownsRow base e size v2 (k + 1) (xs ++ news) → Chg (fun k => v.ownBlock = some k) w W → Moved v v2 w → Q .normal a' W)
      (hushE (fun i => i == i1 || i == i2) (fun i => if (i == i1) = true then v1 else v2) 0 l) a) :
    (Code.region id l.toArray true).wpIn Fence.wide n P Q a w := by
  have hne' : i1 ≠ i2 := by simpa using hne
  refine region_loudE (fun i => i == i1 || i == i2) (fun w' => ∃ c : AfterB (fun k => v.ownBlock = some k) w, w' = c.val)
    (fun d u W => (d i1 = false ∧ d i2 = false ∧ Chg No w W) ∨ (d i1 = true ∧ d i2 = false ∧ Chg No w W ∧ ∃ g, w.heap.size ≤ g ∧ u i1 = .slice (some ⟨g, 0, none⟩) 1 1 ∧ ∀ j x, news[j]? = some x → W.cell? ((⟨g, 0, none⟩ : Addr).add j) = some x) ∨
      (d i2 = true ∧ Chg (fun k => v.ownBlock = some k) w W ∧ W.ownsRow base e size (u i2) (k + 1) (xs ++ news) ∧ Moved v (u i2) w)) hm hs hqb ?_ ?_ ?_
  · rintro d u W (⟨_, _, c⟩ | ⟨_, _, c, _⟩ | ⟨_, c, _⟩)
    · exact ⟨⟨W, c.mono (fun _ h => h.elim)⟩, rfl⟩
    · exact ⟨⟨W, c.mono (fun _ h => h.elim)⟩, rfl⟩
    · exact ⟨⟨W, c⟩, rfl⟩
  · intro u
    exact .inl ⟨rfl, rfl, (Chg.refl _ w).drew⟩
  · intro u
    have hc : hushE (fun i => i == i1 || i == i2) u 0 l = hushE (fun i => i == i1 || i == i2) (fun i => if (i == i1) = true then u i1 else u i2) 0 l := by
      have : ∀ (l : List Oper) (k : Nat), hushE (fun i => i == i1 || i == i2) u k l = hushE (fun i => i == i1 || i == i2) (fun i => if (i == i1) = true then u i1 else u i2) k l := by
        intro l
        induction l with
        | nil => intro k; rfl
        | cons o r ih =>
          intro k
          rw [hushE, hushE, ih]
          congr 1
          by_cases h1 : k = i1
          · subst h1; simp
          · by_cases h2 : k = i2
            · subst h2; simp [h1]
            · simp [h1, h2]
      exact this l 0
    rw [hc]
    refine wpQuietIn_mono ?_ _ _ (hq (u i1) (u i2))
    rintro a' ⟨g1, ⟨g2, g3⟩, g4⟩
    refine ⟨?_, ?_⟩
    · intro j o d W ho hmj hdj hwt hI
      simp only [Bool.or_eq_true, beq_iff_eq] at hmj
      rcases hmj with rfl | rfl
      · obtain rfl : o = o1 := Option.some.inj (ho.symm.trans h1)
        rcases hI with ⟨_, d2, c⟩ | ⟨d1, _⟩ | ⟨d2, c, r, hmv⟩
        · refine LeadsV.value (g1 W) (.inr (.inl ⟨if_pos rfl, ?_, c.alloc _, W.heap.size, c.size, if_pos rfl, cells_laid W news e⟩))
          simp only [if_neg (Ne.symm hne')]; exact d2
        · rw [hdj] at d1; cases d1
        · -- it has come up ahead of that
          refine LeadsV.value (g1 W) (.inr (.inr ⟨?_, c.alloc _, ?_, ?_⟩))
          · simp only [if_neg (Ne.symm hne')]; exact d2
          · simp only [if_neg (Ne.symm hne')]; exact own_still r ((Chg.refl No W).alloc _) (fun _ _ h => h)
          · simp only [if_neg (Ne.symm hne')]; exact hmv
      · obtain rfl : o = o2 := Option.some.inj (ho.symm.trans h2)
        have hd1 := hwt i1 (by simp) h12
        rcases hI with ⟨d1, _⟩ | ⟨_, _, c, g, hg, hu, hcell⟩ | ⟨d2, _⟩
        · rw [hd1] at d1; cases d1
        · have hr' := own_still hown c (fun _ _ h => h)
          refine LeadsV.append s x t hop base e i z size bytes ht1 ht2 ht3 ht4 ht5 ht6 ht7 v k xs g2 hr' ⟨g, 0, none⟩ 1 1 news (g3.trans hu) (by rw [hnl]; omega) hcell hn1 b1 b2 (Nat.le_trans b3 c.size) ?_
          intro v' w' r1 r2 r3
          refine .inr (.inr ⟨if_pos rfl, (c.mono (fun _ h => h.elim)).grown r2 (fun k e => .inl e), ?_, ?_⟩)
          · simp only [if_true]; exact r1
          · simp only [if_true]
            rcases r3 with h | h
            · exact .inl h
            · exact .inr ⟨_, h, c.size⟩
        · rw [hdj] at d2; cases d2
    · intro d W hall hI
      have hd1 := hall i1 (by simp) (List.getElem?_eq_some_iff.1 h1).1
      have hd2 := hall i2 (by simp) (List.getElem?_eq_some_iff.1 h2).1
      rcases hI with ⟨d1, _⟩ | ⟨_, d2, _⟩ | ⟨_, c, r, hmv⟩
      · rw [hd1] at d1; cases d1
      · rw [hd2] at d2; cases d2
      · exact g4 W r c hmv

/-- The cells of what a call answers. -/
def aggCells (v : Value) : List Value := match v with
  | .agg xs => xs.toList
  | _ => []

/-- e of what a call answers. -/
theorem region_pushc {id : Nat} {l : List Oper} (i0 i1 i2 : Nat) (o0 o1 o2 : Oper) {Q : Exit → Act → World → Prop} {a : Act} {w : World} (hm : P.follows .mixedOrders = true)
    (hs : seesW l.toArray = true) (hqb : quietB (fun i => i == i0 || (i == i1 || i == i2)) l = true) (h0 : l[i0]? = some o0) (h1 : l[i1]? = some o1) (h2 : l[i2]? = some o2) (h01 : waitsOn o1 i0 = true) (h12 : waitsOn o2 i1 = true) (hne0 : (i0 == i1 || i0 == i2) = false) (hne : (i1 == i2) = false)
    (s x : Operand) (t : TypeId) (hop : o2.op = Op.call { callee := Callee.builtin Builtin.append, args := #[s, x], argTypes := #[t, t] })
    (base : Nat) (e : TypeId) (i : TypeInfo) (z : Value) (size bytes : Nat) (ht1 : P.underlying t = some (.slice e)) (ht2 : P.info? e = some i) (ht3 : i.zero = some z) (ht4 : i.size = size) (ht5 : i.bytes = bytes) (ht6 : z.cells.size = size) (ht7 : 0 < size)
    (v : Value) (k : Nat) (xs : List Value) (F : Value → World → Prop) (hown : w.ownsRow base e size v k xs) (b1 : k + 1 ≤ maxLen) (b2 : (k + 1) * bytes ≤ 140737488355328) (b3 : base ≤ w.heap.size) (f : FuncId) (args : Array Value)
    (hcall : ∀ W, Chg No w W → CallsIn Fence.wide (n - 1) P f args W fun ex W' => ∃ v0, ex = .returned v0 ∧ F v0 W' ∧ Chg No W W')
    (hF : ∀ v0 W, F v0 W → (aggCells v0).length = size ∧ ∀ u ∈ aggCells v0, u.oneCell' = true)
    (hq : ∀ v0 v1 v2, wpQuietIn Fence.wide n P (hushE (fun i => i == i0 || (i == i1 || i == i2)) (fun i => if (i == i0) = true then v0 else if (i == i1) = true then v1 else v2) 0 l).toArray (fun w' => ∃ c : AfterB (fun k => v.ownBlock = some k) w, w' = c.val)
      (fun a' => (∀ W, (execOp a'.eval o0).run P W = .ok (.enter f args) W) ∧ (∀ W W', F v0 W → (execOp a'.eval o1).run P W' = .ok (.value (.slice (some ⟨W'.heap.size, 0, none⟩) 1 1)) (W'.alloc (.cells (aggCells v0).toArray e))) ∧ (a'.eval s = v ∧ a'.eval x = v1) ∧
        ∀ W1 W, Chg No w W1 → F v0 W1 → W.ownsRow base e size v2 (k + 1) (xs ++ aggCells v0) → Chg (fun k => v.ownBlock = some k) W1 W → Moved v v2 W1 → Q .normal a' W)
      (hushE (fun i => i == i0 || (i == i1 || i == i2)) (fun i => if (i == i0) = true then v0 else if (i == i1) = true then v1 else v2) 0 l) a) :
    (Code.region id l.toArray true).wpIn Fence.wide n P Q a w := by
  have hne' : i1 ≠ i2 := by simpa using hne
  have hne01 : i0 ≠ i1 := by intro h; simp [h] at hne0
  have hne02 : i0 ≠ i2 := by intro h; simp [h] at hne0
  refine region_loudE (fun i => i == i0 || (i == i1 || i == i2)) (fun w' => ∃ c : AfterB (fun k => v.ownBlock = some k) w, w' = c.val)
    (fun d u W => (d i0 = false ∧ d i1 = false ∧ d i2 = false ∧ Chg No w W) ∨ (d i0 = true ∧ d i1 = false ∧ d i2 = false ∧ Chg No w W ∧ ∃ W1, Chg No w W1 ∧ F (u i0) W1 ∧ Chg No W1 W) ∨
      (d i0 = true ∧ d i1 = true ∧ d i2 = false ∧ Chg No w W ∧ ∃ W1, Chg No w W1 ∧ F (u i0) W1 ∧ Chg No W1 W ∧ ∃ g, W1.heap.size ≤ g ∧ u i1 = .slice (some ⟨g, 0, none⟩) 1 1 ∧ ∀ j x, (aggCells (u i0))[j]? = some x → W.cell? ((⟨g, 0, none⟩ : Addr).add j) = some x) ∨
      (d i0 = true ∧ d i1 = true ∧ d i2 = true ∧ Chg (fun k => v.ownBlock = some k) w W ∧ ∃ W1, Chg No w W1 ∧ F (u i0) W1 ∧ Chg (fun k => v.ownBlock = some k) W1 W ∧ W.ownsRow base e size (u i2) (k + 1) (xs ++ aggCells (u i0)) ∧ Moved v (u i2) W1)) hm hs hqb ?_ ?_ ?_
  · rintro d u W (⟨_, _, _, c⟩ | ⟨_, _, _, c, _⟩ | ⟨_, _, _, c, _⟩ | ⟨_, _, _, c, _⟩)
    · exact ⟨⟨W, c.mono (fun _ h => h.elim)⟩, rfl⟩
    · exact ⟨⟨W, c.mono (fun _ h => h.elim)⟩, rfl⟩
    · exact ⟨⟨W, c.mono (fun _ h => h.elim)⟩, rfl⟩
    · exact ⟨⟨W, c⟩, rfl⟩
  · intro u
    exact .inl ⟨rfl, rfl, rfl, (Chg.refl _ w).drew⟩
  · intro u
    have hc : hushE (fun i => i == i0 || (i == i1 || i == i2)) u 0 l = hushE (fun i => i == i0 || (i == i1 || i == i2)) (fun i => if (i == i0) = true then u i0 else if (i == i1) = true then u i1 else u i2) 0 l := by
      have : ∀ (l : List Oper) (k : Nat), hushE (fun i => i == i0 || (i == i1 || i == i2)) u k l = hushE (fun i => i == i0 || (i == i1 || i == i2)) (fun i => if (i == i0) = true then u i0 else if (i == i1) = true then u i1 else u i2) k l := by
        intro l
        induction l with
        | nil => intro k; rfl
        | cons o r ih =>
          intro k
          rw [hushE, hushE, ih]
          congr 1
          by_cases h0 : k = i0
          · subst h0; simp
          · by_cases h1 : k = i1
            · subst h1; simp [h0]
            · by_cases h2 : k = i2
              · subst h2; simp [h0, h1]
              · simp [h0, h1, h2]
      exact this l 0
    rw [hc]
    refine wpQuietIn_mono ?_ _ _ (hq (u i0) (u i1) (u i2))
    rintro a' ⟨g0, g1, ⟨g2, g3⟩, g4⟩
    refine ⟨?_, ?_⟩
    · intro j o d W ho hmj hdj hwt hI
      simp only [Bool.or_eq_true, beq_iff_eq] at hmj
      rcases hmj with rfl | rfl | rfl
      · obtain rfl : o = o0 := Option.some.inj (ho.symm.trans h0)
        rcases hI with ⟨_, d1, d2, c⟩ | ⟨d0, _⟩ | ⟨d0, _⟩ | ⟨d0, _⟩
        · refine LeadsV.call (g0 W) ((hcall W c).mono ?_)
          rintro ex W' ⟨v0, rfl, hf, c'⟩
          refine ⟨v0, rfl, .inr (.inl ⟨if_pos rfl, ?_, ?_, Chg.seq c c', W', Chg.seq c c', ?_, Chg.refl _ _⟩)⟩
          · simp only [if_neg (Ne.symm hne01)]; exact d1
          · simp only [if_neg (Ne.symm hne02)]; exact d2
          · simp only [if_true]; exact hf
        · rw [hdj] at d0; cases d0
        · rw [hdj] at d0; cases d0
        · rw [hdj] at d0; cases d0
      · obtain rfl : o = o1 := Option.some.inj (ho.symm.trans h1)
        have hd0 := hwt i0 (by simp) h01
        rcases hI with ⟨d0, _⟩ | ⟨_, _, d2, c, W1, cw1, hf, c1⟩ | ⟨_, d1, _⟩ | ⟨_, d1, _⟩
        · rw [hd0] at d0; cases d0
        · refine LeadsV.value (g1 W1 W hf) (.inr (.inr (.inl ⟨?_, if_pos rfl, ?_, c.alloc _, W1, cw1, ?_, c1.alloc _, W.heap.size, c1.size, if_pos rfl, ?_⟩)))
          · simp only [if_neg hne01]; exact hd0
          · simp only [if_neg (Ne.symm hne')]; exact d2
          · simp only [if_neg hne01]; exact hf
          · simp only [if_neg hne01]; exact cells_laid W _ e
        · rw [hdj] at d1; cases d1
        · rw [hdj] at d1; cases d1
      · obtain rfl : o = o2 := Option.some.inj (ho.symm.trans h2)
        have hd1 := hwt i1 (by simp) h12
        rcases hI with ⟨_, d1, _⟩ | ⟨_, d1, _⟩ | ⟨d0, _, _, c, W1, cw1, hf, c1, g, hg, hu, hcell⟩ | ⟨_, _, d2, _⟩
        · rw [hd1] at d1; cases d1
        · rw [hd1] at d1; cases d1
        · have hr' := own_still hown c (fun _ _ h => h)
          obtain ⟨hl, hone⟩ := hF _ _ hf
          refine LeadsV.append s x t hop base e i z size bytes ht1 ht2 ht3 ht4 ht5 ht6 ht7 v k xs g2 hr' ⟨g, 0, none⟩ 1 1 (aggCells (u i0)) (g3.trans hu) (by rw [hl]; omega) hcell hone b1 b2 (Nat.le_trans b3 c.size) ?_
          intro v' w' r1 r2 r3
          refine .inr (.inr (.inr ⟨?_, ?_, if_pos rfl, (c.mono (fun _ h => h.elim)).grown r2 (fun k e => .inl e), W1, cw1, ?_, (c1.mono (fun _ h => h.elim)).grown r2 (fun k e => .inl e), ?_, ?_⟩))
          · simp only [if_neg hne02]; exact d0
          · simp only [if_neg hne']; exact hd1
          · simp only [if_neg hne02]; exact hf
          · simp only [if_true, if_neg hne02]; exact r1
          · simp only [if_true]
            rcases r3 with h | h
            · exact .inl h
            · exact .inr ⟨_, h, c1.size⟩
        · rw [hdj] at d2; cases d2
    · intro d W hall hI
      have hd0 := hall i0 (by simp) (List.getElem?_eq_some_iff.1 h0).1
      have hd1 := hall i1 (by simp) (List.getElem?_eq_some_iff.1 h1).1
      have hd2 := hall i2 (by simp) (List.getElem?_eq_some_iff.1 h2).1
      rcases hI with ⟨d0, _⟩ | ⟨_, d1, _⟩ | ⟨_, _, d2, _⟩ | ⟨_, _, _, _, W1, cw1, hf, c1, r, hmv⟩
      · rw [hd0] at d0; cases d0
      · rw [hd1] at d1; cases d1
      · rw [hd2] at d2; cases d2
      · exact g4 W1 W cw1 hf r c1 hmv
end
end Go.Proofs.YtmpgeacfnikbpaaDoor
