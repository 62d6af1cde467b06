/-
  Of: LoudP, AppI, RRefD, RBase, RPatch, LineL.
-/
import Derived.Test.YtakbeololabmhaaGreatDoorG08
import Derived.Test.YtakbeololabmhaaGreatDoorG02
import Derived.Test.YtakbeololabmhaaGreatDoorG03
import Derived.Test.YtakbeololabmhaaGreatDoorG04
import Derived.Test.YtakbeololabmhaaGreatDoorG09
import Derived.Lib.Bytealg
section
-- LoudP
namespace Go.Proofs.YtakbeololabmhaaGreatDoor
open Go.RowKit Go.Shelf Go.SeqLib

section
variable {P : Program} {n : Nat}

theorem cells_laid (w : World) (l : List Value) (t : TypeId) : ∀ j u, l[j]? = some u → (w.alloc (.cells l.toArray t)).cell? ((⟨w.heap.size, 0, none⟩ : Addr).add j) = some u := by
  intro j u h
  have e : (⟨w.heap.size, 0, none⟩ : Addr).add j = ⟨w.heap.size, j, none⟩ := by unfold Addr.add; split <;> simp_all
  rw [e, World.cell?_alloc_at _ _ _ _ rfl]
  simpa using h
theorem own_still {W W' : World} {base : Nat} {e : TypeId} {s : Nat} {v : Value} {n : Nat} {xs : List Value} (h : W.ownsRow base e s v n xs) {S : Blk} (c : Chg S W W') (hS : ∀ k, v.ownBlock = some k → ¬ S k) : W'.ownsRow base e s v n xs := by
  refine ⟨h.1, ?_⟩
  rcases h.2 with hn | ⟨g, cap, cur, rfl, hb, hgg, rest⟩
  · exact .inl hn
  · exact .inr ⟨g, cap, cur, rfl, hb, (c.block g (Array.getElem?_eq_some_iff.1 hgg).1 (hS g rfl)).trans hgg, rest⟩

/-- What a row that was appended to has to do with the one ahead. -/
def Moved (v v' : Value) (w : World) : Prop := v'.ownBlock = v.ownBlock ∨ ∃ g, v'.ownBlock = some g ∧ w.heap.size ≤ g

/-- e of what is read. -/
theorem region_push {id : Nat} {l : List Oper} (i1 i2 : Nat) (o1 o2 : Oper) {Q : Exit → Act → World → Prop} {a : Act} {w : World} (hm : P.follows .mixedOrders = true)
    (hs : seesW l.toArray = true) (hqb : quietB (fun i => i == i1 || i == i2) l = true) (h1 : l[i1]? = some o1) (h2 : l[i2]? = some o2) (h12 : waitsOn o2 i1 = true) (hne : (i1 == i2) = false)
    (s x : Operand) (t : TypeId) (hop : o2.op = Op.call { callee := Callee.builtin Builtin.append, args := #[s, x], argTypes := #[t, t] })
    (base : Nat) (e : TypeId) (i : TypeInfo) (z : Value) (size bytes : Nat) (ht1 : P.underlying t = some (.slice e)) (ht2 : P.info? e = some i) (ht3 : i.zero = some z) (ht4 : i.size = size) (ht5 : i.bytes = bytes) (ht6 : z.cells.size = size) (ht7 : 0 < size)
    (v : Value) (k : Nat) (xs news : List Value) (hown : w.ownsRow base e size v k xs) (hnl : news.length = size) (hn1 : ∀ u ∈ news, u.oneCell' = true) (b1 : k + 1 ≤ maxLen) (b2 : (k + 1) * bytes ≤ 140737488355328) (b3 : base ≤ w.heap.size)
    (hq : ∀ v1 v2, wpQuietIn Fence.wide n P (hushE (fun i => i == i1 || i == i2) (fun i => if (i == i1) = true then v1 else v2) 0 l).toArray (fun w' => ∃ c : AfterB (fun k => v.ownBlock = some k) w, w' = c.val)
      (fun a' => (∀ W, (execOp a'.eval o1).run P W = .ok (.value (.slice (some ⟨W.heap.size, 0, none⟩) 1 1)) (W.alloc (.cells news.toArray e))) ∧ (a'.eval s = v ∧ a'.eval x = v1) ∧
        ∀ W, W.ownsRow base e size v2 (k + 1) (xs ++ news) → Chg (fun k => v.ownBlock = some k) w W → Moved v v2 w → Q .normal a' W)
      (hushE (fun i => i == i1 || i == i2) (fun i => if (i == i1) = true then v1 else v2) 0 l) a) :
    (Code.region id l.toArray true).wpIn Fence.wide n P Q a w := by
  have hne' : i1 ≠ i2 := by simpa using hne
  refine region_loudE (fun i => i == i1 || i == i2) (fun w' => ∃ c : AfterB (fun k => v.ownBlock = some k) w, w' = c.val)
    (fun d u W => (d i1 = false ∧ d i2 = false ∧ Chg No w W) ∨ (d i1 = true ∧ d i2 = false ∧ Chg No w W ∧ ∃ g, w.heap.size ≤ g ∧ u i1 = .slice (some ⟨g, 0, none⟩) 1 1 ∧ ∀ j x, news[j]? = some x → W.cell? ((⟨g, 0, none⟩ : Addr).add j) = some x) ∨
      (d i2 = true ∧ Chg (fun k => v.ownBlock = some k) w W ∧ W.ownsRow base e size (u i2) (k + 1) (xs ++ news) ∧ Moved v (u i2) w)) hm hs hqb ?_ ?_ ?_
  · rintro d u W (⟨_, _, c⟩ | ⟨_, _, c, _⟩ | ⟨_, c, _⟩)
    · exact ⟨⟨W, c.mono (fun _ h => h.elim)⟩, rfl⟩
    · exact ⟨⟨W, c.mono (fun _ h => h.elim)⟩, rfl⟩
    · exact ⟨⟨W, c⟩, rfl⟩
  · intro u
    exact .inl ⟨rfl, rfl, (Chg.refl _ w).drew⟩
  · intro u
    have hc : hushE (fun i => i == i1 || i == i2) u 0 l = hushE (fun i => i == i1 || i == i2) (fun i => if (i == i1) = true then u i1 else u i2) 0 l := by
      have : ∀ (l : List Oper) (k : Nat), hushE (fun i => i == i1 || i == i2) u k l = hushE (fun i => i == i1 || i == i2) (fun i => if (i == i1) = true then u i1 else u i2) k l := by
        intro l
        induction l with
        | nil => intro k; rfl
        | cons o r ih =>
          intro k
          rw [hushE, hushE, ih]
          congr 1
          by_cases h1 : k = i1
          · subst h1; simp
          · by_cases h2 : k = i2
            · subst h2; simp [h1]
            · simp [h1, h2]
      exact this l 0
    rw [hc]
    refine wpQuietIn_mono ?_ _ _ (hq (u i1) (u i2))
    rintro a' ⟨g1, ⟨g2, g3⟩, g4⟩
    refine ⟨?_, ?_⟩
    · intro j o d W ho hmj hdj hwt hI
      simp only [Bool.or_eq_true, beq_iff_eq] at hmj
      rcases hmj with rfl | rfl
      · obtain rfl : o = o1 := Option.some.inj (ho.symm.trans h1)
        rcases hI with ⟨_, d2, c⟩ | ⟨d1, _⟩ | ⟨d2, c, r, hmv⟩
        · refine LeadsV.value (g1 W) (.inr (.inl ⟨if_pos rfl, ?_, c.alloc _, W.heap.size, c.size, if_pos rfl, cells_laid W news e⟩))
          simp only [if_neg (Ne.symm hne')]; exact d2
        · rw [hdj] at d1; cases d1
        · -- it has come up ahead of that
          refine LeadsV.value (g1 W) (.inr (.inr ⟨?_, c.alloc _, ?_, ?_⟩))
          · simp only [if_neg (Ne.symm hne')]; exact d2
          · simp only [if_neg (Ne.symm hne')]; exact own_still r ((Chg.refl No W).alloc _) (fun _ _ h => h)
          · simp only [if_neg (Ne.symm hne')]; exact hmv
      · obtain rfl : o = o2 := Option.some.inj (ho.symm.trans h2)
        have hd1 := hwt i1 (by simp) h12
        rcases hI with ⟨d1, _⟩ | ⟨_, _, c, g, hg, hu, hcell⟩ | ⟨d2, _⟩
        · rw [hd1] at d1; cases d1
        · have hr' := own_still hown c (fun _ _ h => h)
          refine LeadsV.append s x t hop base e i z size bytes ht1 ht2 ht3 ht4 ht5 ht6 ht7 v k xs g2 hr' ⟨g, 0, none⟩ 1 1 news (g3.trans hu) (by rw [hnl]; omega) hcell hn1 b1 b2 (Nat.le_trans b3 c.size) ?_
          intro v' w' r1 r2 r3
          refine .inr (.inr ⟨if_pos rfl, (c.mono (fun _ h => h.elim)).grown r2 (fun k e => .inl e), ?_, ?_⟩)
          · simp only [if_true]; exact r1
          · simp only [if_true]
            rcases r3 with h | h
            · exact .inl h
            · exact .inr ⟨_, h, c.size⟩
        · rw [hdj] at d2; cases d2
    · intro d W hall hI
      have hd1 := hall i1 (by simp) (List.getElem?_eq_some_iff.1 h1).1
      have hd2 := hall i2 (by simp) (List.getElem?_eq_some_iff.1 h2).1
      rcases hI with ⟨d1, _⟩ | ⟨_, d2, _⟩ | ⟨_, c, r, hmv⟩
      · rw [hd1] at d1; cases d1
      · rw [hd2] at d2; cases d2
      · exact g4 W r c hmv

/-- The cells of what a call answers. -/
def aggCells (v : Value) : List Value := match v with
  | .agg xs => xs.toList
  | _ => []

/-- e of what a call answers. -/
theorem region_pushc {id : Nat} {l : List Oper} (i0 i1 i2 : Nat) (o0 o1 o2 : Oper) {Q : Exit → Act → World → Prop} {a : Act} {w : World} (hm : P.follows .mixedOrders = true)
    (hs : seesW l.toArray = true) (hqb : quietB (fun i => i == i0 || (i == i1 || i == i2)) l = true) (h0 : l[i0]? = some o0) (h1 : l[i1]? = some o1) (h2 : l[i2]? = some o2) (h01 : waitsOn o1 i0 = true) (h12 : waitsOn o2 i1 = true) (hne0 : (i0 == i1 || i0 == i2) = false) (hne : (i1 == i2) = false)
    (s x : Operand) (t : TypeId) (hop : o2.op = Op.call { callee := Callee.builtin Builtin.append, args := #[s, x], argTypes := #[t, t] })
    (base : Nat) (e : TypeId) (i : TypeInfo) (z : Value) (size bytes : Nat) (ht1 : P.underlying t = some (.slice e)) (ht2 : P.info? e = some i) (ht3 : i.zero = some z) (ht4 : i.size = size) (ht5 : i.bytes = bytes) (ht6 : z.cells.size = size) (ht7 : 0 < size)
    (v : Value) (k : Nat) (xs : List Value) (F : Value → World → Prop) (hown : w.ownsRow base e size v k xs) (b1 : k + 1 ≤ maxLen) (b2 : (k + 1) * bytes ≤ 140737488355328) (b3 : base ≤ w.heap.size) (f : FuncId) (args : Array Value)
    (hcall : ∀ W, Chg No w W → CallsIn Fence.wide (n - 1) P f args W fun ex W' => ∃ v0, ex = .returned v0 ∧ F v0 W' ∧ Chg No W W')
    (hF : ∀ v0 W, F v0 W → (aggCells v0).length = size ∧ ∀ u ∈ aggCells v0, u.oneCell' = true)
    (hq : ∀ v0 v1 v2, wpQuietIn Fence.wide n P (hushE (fun i => i == i0 || (i == i1 || i == i2)) (fun i => if (i == i0) = true then v0 else if (i == i1) = true then v1 else v2) 0 l).toArray (fun w' => ∃ c : AfterB (fun k => v.ownBlock = some k) w, w' = c.val)
      (fun a' => (∀ W, (execOp a'.eval o0).run P W = .ok (.enter f args) W) ∧ (∀ W W', F v0 W → (execOp a'.eval o1).run P W' = .ok (.value (.slice (some ⟨W'.heap.size, 0, none⟩) 1 1)) (W'.alloc (.cells (aggCells v0).toArray e))) ∧ (a'.eval s = v ∧ a'.eval x = v1) ∧
        ∀ W1 W, Chg No w W1 → F v0 W1 → W.ownsRow base e size v2 (k + 1) (xs ++ aggCells v0) → Chg (fun k => v.ownBlock = some k) W1 W → Moved v v2 W1 → Q .normal a' W)
      (hushE (fun i => i == i0 || (i == i1 || i == i2)) (fun i => if (i == i0) = true then v0 else if (i == i1) = true then v1 else v2) 0 l) a) :
    (Code.region id l.toArray true).wpIn Fence.wide n P Q a w := by
  have hne' : i1 ≠ i2 := by simpa using hne
  have hne01 : i0 ≠ i1 := by intro h; simp [h] at hne0
  have hne02 : i0 ≠ i2 := by intro h; simp [h] at hne0
  refine region_loudE (fun i => i == i0 || (i == i1 || i == i2)) (fun w' => ∃ c : AfterB (fun k => v.ownBlock = some k) w, w' = c.val)
    (fun d u W => (d i0 = false ∧ d i1 = false ∧ d i2 = false ∧ Chg No w W) ∨ (d i0 = true ∧ d i1 = false ∧ d i2 = false ∧ Chg No w W ∧ ∃ W1, Chg No w W1 ∧ F (u i0) W1 ∧ Chg No W1 W) ∨
      (d i0 = true ∧ d i1 = true ∧ d i2 = false ∧ Chg No w W ∧ ∃ W1, Chg No w W1 ∧ F (u i0) W1 ∧ Chg No W1 W ∧ ∃ g, W1.heap.size ≤ g ∧ u i1 = .slice (some ⟨g, 0, none⟩) 1 1 ∧ ∀ j x, (aggCells (u i0))[j]? = some x → W.cell? ((⟨g, 0, none⟩ : Addr).add j) = some x) ∨
      (d i0 = true ∧ d i1 = true ∧ d i2 = true ∧ Chg (fun k => v.ownBlock = some k) w W ∧ ∃ W1, Chg No w W1 ∧ F (u i0) W1 ∧ Chg (fun k => v.ownBlock = some k) W1 W ∧ W.ownsRow base e size (u i2) (k + 1) (xs ++ aggCells (u i0)) ∧ Moved v (u i2) W1)) hm hs hqb ?_ ?_ ?_
  · rintro d u W (⟨_, _, _, c⟩ | ⟨_, _, _, c, _⟩ | ⟨_, _, _, c, _⟩ | ⟨_, _, _, c, _⟩)
    · exact ⟨⟨W, c.mono (fun _ h => h.elim)⟩, rfl⟩
    · exact ⟨⟨W, c.mono (fun _ h => h.elim)⟩, rfl⟩
    · exact ⟨⟨W, c.mono (fun _ h => h.elim)⟩, rfl⟩
    · exact ⟨⟨W, c⟩, rfl⟩
  · intro u
    exact .inl ⟨rfl, rfl, rfl, (Chg.refl _ w).drew⟩
  · intro u
    have hc : hushE (fun i => i == i0 || (i == i1 || i == i2)) u 0 l = hushE (fun i => i == i0 || (i == i1 || i == i2)) (fun i => if (i == i0) = true then u i0 else if (i == i1) = true then u i1 else u i2) 0 l := by
      have : ∀ (l : List Oper) (k : Nat), hushE (fun i => i == i0 || (i == i1 || i == i2)) u k l = hushE (fun i => i == i0 || (i == i1 || i == i2)) (fun i => if (i == i0) = true then u i0 else if (i == i1) = true then u i1 else u i2) k l := by
        intro l
        induction l with
        | nil => intro k; rfl
        | cons o r ih =>
          intro k
          rw [hushE, hushE, ih]
          congr 1
          by_cases h0 : k = i0
          · subst h0; simp
          · by_cases h1 : k = i1
            · subst h1; simp [h0]
            · by_cases h2 : k = i2
              · subst h2; simp [h0, h1]
              · simp [h0, h1, h2]
      exact this l 0
    rw [hc]
    refine wpQuietIn_mono ?_ _ _ (hq (u i0) (u i1) (u i2))
    rintro a' ⟨g0, g1, ⟨g2, g3⟩, g4⟩
    refine ⟨?_, ?_⟩
    · intro j o d W ho hmj hdj hwt hI
      simp only [Bool.or_eq_true, beq_iff_eq] at hmj
      rcases hmj with rfl | rfl | rfl
      · obtain rfl : o = o0 := Option.some.inj (ho.symm.trans h0)
        rcases hI with ⟨_, d1, d2, c⟩ | ⟨d0, _⟩ | ⟨d0, _⟩ | ⟨d0, _⟩
        · refine LeadsV.call (g0 W) ((hcall W c).mono ?_)
          rintro ex W' ⟨v0, rfl, hf, c'⟩
          refine ⟨v0, rfl, .inr (.inl ⟨if_pos rfl, ?_, ?_, Chg.seq c c', W', Chg.seq c c', ?_, Chg.refl _ _⟩)⟩
          · simp only [if_neg (Ne.symm hne01)]; exact d1
          · simp only [if_neg (Ne.symm hne02)]; exact d2
          · simp only [if_true]; exact hf
        · rw [hdj] at d0; cases d0
        · rw [hdj] at d0; cases d0
        · rw [hdj] at d0; cases d0
      · obtain rfl : o = o1 := Option.some.inj (ho.symm.trans h1)
        have hd0 := hwt i0 (by simp) h01
        rcases hI with ⟨d0, _⟩ | ⟨_, _, d2, c, W1, cw1, hf, c1⟩ | ⟨_, d1, _⟩ | ⟨_, d1, _⟩
        · rw [hd0] at d0; cases d0
        · refine LeadsV.value (g1 W1 W hf) (.inr (.inr (.inl ⟨?_, if_pos rfl, ?_, c.alloc _, W1, cw1, ?_, c1.alloc _, W.heap.size, c1.size, if_pos rfl, ?_⟩)))
          · simp only [if_neg hne01]; exact hd0
          · simp only [if_neg (Ne.symm hne')]; exact d2
          · simp only [if_neg hne01]; exact hf
          · simp only [if_neg hne01]; exact cells_laid W _ e
        · rw [hdj] at d1; cases d1
        · rw [hdj] at d1; cases d1
      · obtain rfl : o = o2 := Option.some.inj (ho.symm.trans h2)
        have hd1 := hwt i1 (by simp) h12
        rcases hI with ⟨_, d1, _⟩ | ⟨_, d1, _⟩ | ⟨d0, _, _, c, W1, cw1, hf, c1, g, hg, hu, hcell⟩ | ⟨_, _, d2, _⟩
        · rw [hd1] at d1; cases d1
        · rw [hd1] at d1; cases d1
        · have hr' := own_still hown c (fun _ _ h => h)
          obtain ⟨hl, hone⟩ := hF _ _ hf
          refine LeadsV.append s x t hop base e i z size bytes ht1 ht2 ht3 ht4 ht5 ht6 ht7 v k xs g2 hr' ⟨g, 0, none⟩ 1 1 (aggCells (u i0)) (g3.trans hu) (by rw [hl]; omega) hcell hone b1 b2 (Nat.le_trans b3 c.size) ?_
          intro v' w' r1 r2 r3
          refine .inr (.inr (.inr ⟨?_, ?_, if_pos rfl, (c.mono (fun _ h => h.elim)).grown r2 (fun k e => .inl e), W1, cw1, ?_, (c1.mono (fun _ h => h.elim)).grown r2 (fun k e => .inl e), ?_, ?_⟩))
          · simp only [if_neg hne02]; exact d0
          · simp only [if_neg hne']; exact hd1
          · simp only [if_neg hne02]; exact hf
          · simp only [if_true, if_neg hne02]; exact r1
          · simp only [if_true]
            rcases r3 with h | h
            · exact .inl h
            · exact .inr ⟨_, h, c1.size⟩
        · rw [hdj] at d2; cases d2
    · intro d W hall hI
      have hd0 := hall i0 (by simp) (List.getElem?_eq_some_iff.1 h0).1
      have hd1 := hall i1 (by simp) (List.getElem?_eq_some_iff.1 h1).1
      have hd2 := hall i2 (by simp) (List.getElem?_eq_some_iff.1 h2).1
      rcases hI with ⟨d0, _⟩ | ⟨_, d1, _⟩ | ⟨_, _, d2, _⟩ | ⟨_, _, _, _, W1, cw1, hf, c1, r, hmv⟩
      · rw [hd0] at d0; cases d0
      · rw [hd1] at d1; cases d1
      · rw [hd2] at d2; cases d2
      · exact g4 W1 W cw1 hf r c1 hmv
end
end Go.Proofs.YtakbeololabmhaaGreatDoor

end
section
-- AppI
namespace Go.Proofs.YtakbeololabmhaaGreatDoor
open Go.RowKit Go.Shelf Go.SeqLib

theorem wpListIn_append_i {F : Fence} {n : Nat} (w : World) {ops : Array Oper} {rest : List Oper} {o : Oper} {a : Act} {Q : Exit → Act → World → Prop}
    (hg : o.guard = none) (s x : Operand) (hop : o.op = Op.call { callee := Callee.builtin Builtin.append, args := #[s, x], argTypes := #[40, 40] })
    (base : Nat) (v : Value) (k : Nat) (vals : List Value) (hs : a.eval s = v) (hown : w.ownsRow base 3 1 v k vals) (p : Option Addr) (m c : Nat) (zs : List Int) (hx : a.eval x = .slice p m c) (hsl : SlV w (.slice p m c) (zs.map (Value.int .i64)))
    (b1 : k + m ≤ 1000000) (b3 : base ≤ w.heap.size)
    (hK : ∀ v' w', w'.ownsRow base 3 1 v' (k + m) (vals ++ zs.map (Value.int .i64)) → w.grownBy w' v.ownBlock → (v'.ownBlock = v.ownBlock ∨ v'.ownBlock = some w.heap.size) → wpListIn F n Tryz.prog ops Q rest (a.put o.dst v') w') :
    wpListIn F n Tryz.prog ops Q (o :: rest) a w := by
  obtain ⟨i0, hi, hz0, hz1, hz2⟩ := info_parts infoInt
  have hlen : m = zs.length := by obtain ⟨p', c', e, _⟩ := hsl; cases e; simp
  obtain ⟨p', c', e, h1, h2, hc⟩ := hsl
  cases e
  cases p with
  | none =>
    have hz : zs = [] := by
      cases zs with
      | nil => rfl
      | cons x r => obtain ⟨b, off, h, _⟩ := hc 0 (.int .i64 x) rfl; cases h
    subst hz
    obtain ⟨pv, cv, rfl⟩ := row_slice hown
    have hkc : k ≤ cv ∧ (pv = none → k = 0 ∧ cv = 0) := by
      rcases hown.2 with ⟨h, rfl⟩ | ⟨g, cap, cur, h, _, _, h3, _⟩
      · cases h; exact ⟨Nat.le_refl _, fun _ => ⟨rfl, rfl⟩⟩
      · cases h; exact ⟨h3, fun h => by cases h⟩
    refine wpListIn_plain hg fun K hK' => ?_
    have hrun := run_append_nothing (P := Tryz.prog) w (ty := o.type) Tryz.underlying40 hi pv k cv c hkc.1 hkc.2
    unfold Oper.wpIn
    refine ⟨?_, ?_⟩
    · simp [Oper.about, hop, resolve, Target.leads, Sem.run_pure]
    · rw [Oper.semAt_plain F _ _ (by rw [hop]; intro c hc'; cases hc')]
      have hx' : a.eval x = .slice none 0 c := hx
      simp [execOp, hop, resolve, invoke, builtin, hs, hx', hrun, Result.andThen]
      exact hK' _ _ (hK _ w (by simpa using hown) ⟨rfl, rfl, rfl, Nat.le_refl _, fun _ _ _ => rfl⟩ (.inl rfl))
  | some ad =>
    refine wpListIn_append_at w hg s x 40 hop base 3 i0 (.int .i64 0) 1 8 Tryz.underlying40 hi hz0 hz1 hz2 rfl (by decide) v k vals hs hown ad _ c (zs.map (Value.int .i64)) hx (by simp) ?_ ?_ (by unfold maxLen; omega) (by omega) b3 (fun v' w' r1 r2 _ r4 => hK v' w' r1 r2 r4)
    · intro j u hj
      obtain ⟨b, off, e, hcell⟩ := hc j u hj
      cases e
      have ea : (⟨b, off, none⟩ : Addr).add j = ⟨b, off + j, none⟩ := by unfold Addr.add; split <;> simp_all
      rw [ea]; exact hcell
    · intro u hu
      obtain ⟨y, _, rfl⟩ := List.mem_map.1 hu
      rfl

end Go.Proofs.YtakbeololabmhaaGreatDoor

end
section
-- RRefD
namespace Go.DagLib
open Go.RepoLib
/-- Each commit's parents are numbers of commits ahead of it. -/
def ParOk (L : List Cm) : Prop := ∀ (i : Nat) (c : Cm), L[i]? = some c → ∀ p ∈ c.1, 1 ≤ p ∧ p ≤ (i : Int)
theorem ParOk.low {L : List Cm} (h : ParOk L) : Low (parL L) := by
  intro n p hp
  cases n with
  | zero => simp [parL] at hp
  | succ i =>
    cases hc : L[i]? with
    | none => unfold parL at hp; rw [if_neg (by omega), Nat.add_sub_cancel, hc] at hp; simp at hp
    | some c =>
      rw [parL_at hc] at hp
      obtain ⟨q, hq, rfl⟩ := List.mem_map.1 hp
      have := h i c hc q hq
      omega
theorem ParOk.cast {L : List Cm} (h : ParOk L) {i : Nat} {c : Cm} (hc : L[i]? = some c) : (parL L (i + 1)).map (fun (p : Nat) => (p : Int)) = c.1 := by
  rw [parL_at hc, List.map_map]
  refine (List.map_congr_left (fun q hq => ?_)).trans (List.map_id _)
  have := h i c hc q hq
  show ((q.toNat : Nat) : Int) = q
  omega
def aheadI (L : List Cm) (n : Int) : List Int := if hasN L.length n = true then (aheadL (parL L) n.toNat).map (fun (p : Nat) => (p : Int)) else []
end Go.DagLib
namespace Go.Proofs.YtakbeololabmhaaGreatDoor
open Go.RowKit Go.Shelf Go.SeqLib Go.DiffLib Go.TreeLib Go.RepoLib Go.DagLib Go.BigFrame
attribute [local go_sem] Oper.semAt_some

end Go.Proofs.YtakbeololabmhaaGreatDoor

end
section
-- RBase
namespace Go.DagLib
open Go.RepoLib

/-- From 1 up to n. -/
def upto1 (n : Nat) : List Nat := (down n).reverse
theorem up_mem {n k : Nat} : k ∈ upto1 n ↔ 1 ≤ k ∧ k ≤ n := by unfold upto1; rw [List.mem_reverse, down_mem]
theorem up_rise (n : Nat) : (upto1 n).Pairwise (fun x y => x < y) := by unfold upto1; rw [List.pairwise_reverse]; exact down_falls n
/-- All that is ahead of both, rising. -/
def comL (L : List Cm) (a b : Int) : List Int := ((upto1 L.length).map (fun (p : Nat) => (p : Int))).filter (fun x => decide (x ∈ aheadI L a) && decide (x ∈ aheadI L b))
/-- Those of which no other one came. -/
def bestL (L : List Cm) (a b : Int) : List Int := (comL L a b).filter (fun x => (comL L a b).all (fun y => decide (x = y) || !decide (x ∈ aheadI L y)))
section
variable {L : List Cm}
theorem has_nat' {b : Nat} (h1 : 1 ≤ b) (h2 : b ≤ L.length) : hasN L.length (b : Int) = true := by
  unfold hasN
  rw [Bool.and_eq_true, decide_eq_true_eq, decide_eq_true_eq]
  omega
theorem aheadI_range' {n x : Int} (h : x ∈ aheadI L n) : (1 ≤ x ∧ x ≤ (L.length : Int)) ∧ (1 ≤ n ∧ n ≤ (L.length : Int)) := by
  unfold aheadI at h
  split at h
  · rename_i hh
    obtain ⟨k, hk, rfl⟩ := List.mem_map.1 h
    have hk2 := (List.mem_filter.1 hk).1
    rw [down_mem] at hk2
    unfold hasN at hh
    rw [Bool.and_eq_true, decide_eq_true_eq, decide_eq_true_eq] at hh
    omega
  · cases h
theorem in_ahead' (hl : Low (parL L)) {a b : Nat} (h1 : 1 ≤ b) (h2 : b ≤ L.length) : ((a : Int) ∈ aheadI L (b : Int)) ↔ 1 ≤ a ∧ isA (parL L) a b = true := by
  unfold aheadI
  rw [has_nat' h1 h2, if_pos rfl, show ((b : Int)).toNat = b from Int.toNat_natCast b, ← ahead_mem hl, List.mem_map]
  constructor
  · rintro ⟨x, hx, e⟩
    have : x = a := by omega
    rw [← this]
    exact hx
  · intro h
    exact ⟨a, h, rfl⟩
theorem nat_of {x : Int} (h : 1 ≤ x) : ∃ n : Nat, x = (n : Int) := ⟨x.toNat, by omega⟩
theorem aheadI_trans (hl : Low (parL L)) {x y z : Int} (h1 : x ∈ aheadI L y) (h2 : y ∈ aheadI L z) : x ∈ aheadI L z := by
  obtain ⟨⟨a1, a2⟩, b1, b2⟩ := aheadI_range' h1
  obtain ⟨_, c1, c2⟩ := aheadI_range' h2
  obtain ⟨x, rfl⟩ := nat_of a1
  obtain ⟨y, rfl⟩ := nat_of b1
  obtain ⟨z, rfl⟩ := nat_of c1
  rw [in_ahead' hl (by omega) (by omega)] at h1 h2 ⊢
  exact ⟨h1.1, isA_trans hl h1.2 h2.2⟩
theorem aheadI_self (hl : Low (parL L)) {x : Int} (h1 : 1 ≤ x) (h2 : x ≤ (L.length : Int)) : x ∈ aheadI L x := by
  obtain ⟨x, rfl⟩ := nat_of h1
  exact (in_ahead' hl (by omega) (by omega)).2 ⟨by omega, isA_self hl x⟩
theorem aheadI_le (hl : Low (parL L)) {x y : Int} (h : x ∈ aheadI L y) : x ≤ y := by
  obtain ⟨⟨a1, a2⟩, b1, b2⟩ := aheadI_range' h
  obtain ⟨x, rfl⟩ := nat_of a1
  obtain ⟨y, rfl⟩ := nat_of b1
  rw [in_ahead' hl (by omega) (by omega)] at h
  have := isA_le hl h.2
  omega
theorem aheadI_falls' (n : Int) : (aheadI L n).Pairwise (fun x y => y < x) := by
  unfold aheadI
  split
  · rw [List.pairwise_map]
    exact (ahead_falls (par := parL L) n.toNat).imp (fun h => by omega)
  · exact List.Pairwise.nil
theorem com_mem {a b x : Int} : x ∈ comL L a b ↔ x ∈ aheadI L a ∧ x ∈ aheadI L b := by
  unfold comL
  rw [List.mem_filter, Bool.and_eq_true, decide_eq_true_iff, decide_eq_true_iff]
  constructor
  · exact fun h => h.2
  · intro h
    refine ⟨?_, h⟩
    obtain ⟨⟨h1, h2⟩, _⟩ := aheadI_range' h.1
    obtain ⟨k, rfl⟩ := nat_of h1
    exact List.mem_map.2 ⟨k, up_mem.2 ⟨by omega, by omega⟩, rfl⟩
theorem com_rise (a b : Int) : (comL L a b).Pairwise (fun x y => x < y) := by
  unfold comL
  refine List.Pairwise.filter _ ?_
  rw [List.pairwise_map]
  exact (up_rise _).imp (fun h => by omega)
theorem com_len (a b : Int) : (comL L a b).length ≤ L.length := by
  unfold comL
  refine Nat.le_trans (List.length_filter_le _ _) ?_
  rw [List.length_map]
  unfold upto1
  rw [List.length_reverse, down_length]
  exact Nat.le_refl _
theorem best_len (a b : Int) : (bestL L a b).length ≤ L.length := by
  unfold bestL
  exact Nat.le_trans (List.length_filter_le _ _) (com_len a b)
theorem best_mem {a b x : Int} : x ∈ bestL L a b ↔ x ∈ comL L a b ∧ ∀ y ∈ comL L a b, x = y ∨ ¬ x ∈ aheadI L y := by
  unfold bestL
  rw [List.mem_filter, List.all_eq_true]
  refine and_congr Iff.rfl (forall_congr' fun y => forall_congr' fun _ => ?_)
  rw [Bool.or_eq_true, decide_eq_true_iff, Bool.not_eq_true', decide_eq_false_iff_not]
theorem best_rise (a b : Int) : (bestL L a b).Pairwise (fun x y => x < y) := List.Pairwise.filter _ (com_rise a b)
theorem com_swap (a b : Int) : comL L a b = comL L b a := by
  unfold comL
  refine List.filter_congr (fun x _ => ?_)
  rw [Bool.and_comm]
theorem best_swap (a b : Int) : bestL L a b = bestL L b a := by unfold bestL; rw [com_swap]
/-- Each common one is ahead of a best one, or is one. -/
theorem com_under (hl : Low (parL L)) {a b : Int} : ∀ (f : Nat) (x : Int), x ∈ comL L a b → (L.length : Int) - x < (f : Int) → ∃ y ∈ bestL L a b, x ∈ aheadI L y := by
  intro f
  induction f with
  | zero =>
    intro x hx hf
    have := (aheadI_range' (com_mem.1 hx).1).1
    omega
  | succ f ih =>
    intro x hx hf
    by_cases h : x ∈ bestL L a b
    · have := (aheadI_range' (com_mem.1 hx).1).1
      exact ⟨x, h, aheadI_self hl this.1 this.2⟩
    · have : ∃ y ∈ comL L a b, ¬ x = y ∧ x ∈ aheadI L y := Classical.byContradiction fun hn => h (best_mem.2 ⟨hx, fun y hy => by
        by_cases e : x = y
        · exact .inl e
        · exact .inr (fun e2 => hn ⟨y, hy, e, e2⟩)⟩)
      obtain ⟨y, hy, hne, hxy⟩ := this
      have hlt := aheadI_le hl hxy
      obtain ⟨z, hz, hyz⟩ := ih y hy (by omega)
      exact ⟨z, hz, aheadI_trans hl hxy hyz⟩
theorem com_best (hl : Low (parL L)) {a b x : Int} (hx : x ∈ comL L a b) : ∃ y ∈ bestL L a b, x ∈ aheadI L y :=
  com_under hl ((L.length : Int) - x + 1).toNat x hx (by have := (aheadI_range' (com_mem.1 hx).1).1; omega)
/-- Of one that came of the other the other is the only best one. -/
theorem best_one (hl : Low (parL L)) {a b : Int} (h : a ∈ aheadI L b) : bestL L a b = [a] := by
  have ha := (aheadI_range' h).1
  have hac : a ∈ comL L a b := com_mem.2 ⟨aheadI_self hl ha.1 ha.2, h⟩
  have h1 : ∀ x, x ∈ bestL L a b ↔ x = a := by
    intro x
    constructor
    · intro hx
      obtain ⟨hx1, hx2⟩ := best_mem.1 hx
      rcases hx2 a hac with e | e
      · exact e
      · exact absurd (com_mem.1 hx1).1 e
    · rintro rfl
      refine best_mem.2 ⟨hac, fun y hy => ?_⟩
      by_cases e : x = y
      · exact .inl e
      · refine .inr (fun e2 => ?_)
        have h1 := aheadI_le hl e2
        have h2 := aheadI_le hl (com_mem.1 hy).1
        omega
  have hr := best_rise (L := L) a b
  generalize bestL L a b = l at h1 hr
  cases l with
  | nil => exact absurd ((h1 a).2 rfl) (by simp)
  | cons x t =>
    obtain rfl := (h1 x).1 (by simp)
    cases t with
    | nil => rfl
    | cons y t =>
      obtain rfl := (h1 y).1 (by simp)
      have := (List.pairwise_cons.1 hr).1 y (by simp)
      omega
end
/-- Rising lists of the same numbers are one. -/
theorem rise_ext : ∀ {l m : List Int}, l.Pairwise (fun x y => x < y) → m.Pairwise (fun x y => x < y) → (∀ x, x ∈ l ↔ x ∈ m) → l = m
  | [], [], _, _, _ => rfl
  | [], y :: m, _, _, h => absurd ((h y).2 (by simp)) (by simp)
  | x :: l, [], _, _, h => absurd ((h x).1 (by simp)) (by simp)
  | x :: l, y :: m, hl, hm, h => by
    obtain ⟨h1, h2⟩ := List.pairwise_cons.1 hl
    obtain ⟨h3, h4⟩ := List.pairwise_cons.1 hm
    have hxy : x = y := by
      have a1 : x ∈ y :: m := (h x).1 (by simp)
      have a2 : y ∈ x :: l := (h y).2 (by simp)
      rcases List.mem_cons.1 a1 with e | e
      · exact e
      · rcases List.mem_cons.1 a2 with e2 | e2
        · exact e2.symm
        · have := h3 x e; have := h1 y e2; omega
    subst hxy
    congr 1
    refine rise_ext h2 h4 (fun z => ⟨fun hz => ?_, fun hz => ?_⟩)
    · have := h1 z hz
      rcases List.mem_cons.1 ((h z).1 (List.mem_cons_of_mem _ hz)) with e | e
      · omega
      · exact e
    · have := h3 z hz
      rcases List.mem_cons.1 ((h z).2 (List.mem_cons_of_mem _ hz)) with e | e
      · omega
      · exact e
/-- What two falling lists have in common, rising. -/
def cmL (X Y : List Int) : List Int := (X.filter (fun t => decide (t ∈ Y))).reverse
theorem cm_nil_left (Y : List Int) : cmL [] Y = [] := rfl
theorem cm_nil_right (X : List Int) : cmL X [] = [] := by unfold cmL; simp
theorem cm_both {X Y : List Int} {u : Int} (hX : (X ++ [u]).Pairwise (fun x y => y < x)) : cmL (X ++ [u]) (Y ++ [u]) = u :: cmL X Y := by
  unfold cmL
  rw [List.filter_append, show [u].filter (fun t => decide (t ∈ Y ++ [u])) = [u] from by simp, List.reverse_append]
  show u :: (X.filter (fun t => decide (t ∈ Y ++ [u]))).reverse = u :: (X.filter (fun t => decide (t ∈ Y))).reverse
  congr 2
  refine List.filter_congr (fun t ht => ?_)
  have := (List.pairwise_append.1 hX).2.2 t ht u (by simp)
  rw [decide_eq_decide, List.mem_append]
  exact ⟨fun h => h.elim id (fun e => by have : t = u := by simpa using e
                                         omega), .inl⟩
theorem cm_left {X Y : List Int} {u v : Int} (hY : (Y ++ [v]).Pairwise (fun x y => y < x)) (h : u < v) : cmL (X ++ [u]) (Y ++ [v]) = cmL X (Y ++ [v]) := by
  unfold cmL
  have hu : ¬ u ∈ Y ++ [v] := fun e => by
    rcases List.mem_append.1 e with e | e
    · have := (List.pairwise_append.1 hY).2.2 u e v (by simp); omega
    · have : u = v := by simpa using e
      omega
  rw [List.filter_append, show [u].filter (fun t => decide (t ∈ Y ++ [v])) = [] from by simp [List.filter, hu], List.append_nil]
theorem cm_right {X Y : List Int} {u v : Int} (hX : (X ++ [u]).Pairwise (fun x y => y < x)) (h : v < u) : cmL (X ++ [u]) (Y ++ [v]) = cmL (X ++ [u]) Y := by
  unfold cmL
  congr 1
  refine List.filter_congr (fun t ht => ?_)
  rw [decide_eq_decide, List.mem_append]
  refine ⟨fun h1 => h1.elim id (fun e => ?_), .inl⟩
  have e' : t = v := by simpa using e
  rcases List.mem_append.1 ht with e2 | e2
  · have := (List.pairwise_append.1 hX).2.2 t e2 u (by simp); omega
  · have : t = u := by simpa using e2
    omega
theorem cm_com (L : List Cm) (a b : Int) : cmL (aheadI L a) (aheadI L b) = comL L a b := by
  refine rise_ext ?_ (com_rise a b) (fun x => ?_)
  · unfold cmL
    rw [List.pairwise_reverse]
    exact List.Pairwise.filter _ (aheadI_falls' a)
  · unfold cmL
    rw [List.mem_reverse, List.mem_filter, decide_eq_true_iff, com_mem]
/-- The best ones behind a place. -/
def bestD (L : List Cm) (a b : Int) (k : Nat) : List Int := ((comL L a b).drop k).filter (fun x => decide (x ∈ bestL L a b))
theorem bestD_start (L : List Cm) (a b : Int) : bestD L a b (comL L a b).length = [] := by unfold bestD; rw [List.drop_length]; rfl
theorem bestD_end (L : List Cm) (a b : Int) : bestD L a b 0 = bestL L a b := by
  unfold bestD
  rw [List.drop_zero]
  refine rise_ext (List.Pairwise.filter _ (com_rise a b)) (best_rise a b) (fun x => ?_)
  rw [List.mem_filter, decide_eq_true_iff]
  exact ⟨fun h => h.2, fun h => ⟨(best_mem.1 h).1, h⟩⟩
theorem bestD_step {L : List Cm} {a b : Int} {k : Nat} {x : Int} (h : (comL L a b)[k]? = some x) : bestD L a b k = if x ∈ bestL L a b then x :: bestD L a b (k + 1) else bestD L a b (k + 1) := by
  unfold bestD
  obtain ⟨hk, rfl⟩ := List.getElem?_eq_some_iff.1 h
  rw [List.drop_eq_getElem_cons hk, List.filter_cons]
  simp only [decide_eq_true_eq]
/-- Is the number ahead of a best one behind the place? -/
def covL (L : List Cm) (a b : Int) (k j : Nat) : Bool := (bestD L a b k).any (fun z => decide ((j : Int) ∈ aheadI L z))
theorem cov_start (L : List Cm) (a b : Int) (j : Nat) : covL L a b (comL L a b).length j = false := by unfold covL; rw [bestD_start]; rfl
theorem cov_step {L : List Cm} {a b : Int} {k : Nat} {x : Int} (h : (comL L a b)[k]? = some x) (j : Nat) : covL L a b k j = (if x ∈ bestL L a b then decide ((j : Int) ∈ aheadI L x) || covL L a b (k + 1) j else covL L a b (k + 1) j) := by
  unfold covL
  rw [bestD_step h]
  split
  · rw [List.any_cons]
  · rfl
theorem cov_is {L : List Cm} (hl : Low (parL L)) {a b : Int} {k : Nat} {x : Nat} (h : (comL L a b)[k]? = some (x : Int)) : covL L a b (k + 1) x = !decide ((x : Int) ∈ bestL L a b) := by
  have hxc : (x : Int) ∈ comL L a b := List.mem_of_getElem? h
  unfold covL
  cases hb : decide ((x : Int) ∈ bestL L a b) with
  | true =>
    rw [decide_eq_true_iff] at hb
    show _ = false
    rw [List.any_eq_false]
    intro z hz e
    rw [decide_eq_true_iff] at e
    unfold bestD at hz
    rw [List.mem_filter, decide_eq_true_iff] at hz
    rcases (best_mem.1 hb).2 z (best_mem.1 hz.2).1 with e2 | e2
    · obtain ⟨hk, hk2⟩ := List.getElem?_eq_some_iff.1 h
      obtain ⟨i, hi, hi2⟩ := List.mem_iff_getElem.1 hz.1
      rw [List.length_drop] at hi
      rw [List.getElem_drop] at hi2
      have := List.pairwise_iff_getElem.1 (com_rise (L := L) a b) k (k + 1 + i) hk (by omega) (by omega)
      rw [hk2, hi2, e2] at this
      omega
    · exact e2 e
  | false =>
    rw [decide_eq_false_iff_not] at hb
    show _ = true
    obtain ⟨z, hz, hxz⟩ := com_best hl hxc
    have hne : ¬ (x : Int) = z := fun e => hb (e ▸ hz)
    have hlt := aheadI_le hl hxz
    rw [List.any_eq_true]
    refine ⟨z, ?_, decide_eq_true hxz⟩
    unfold bestD
    rw [List.mem_filter]
    refine ⟨?_, decide_eq_true hz⟩
    obtain ⟨i, hi, hi2⟩ := List.mem_iff_getElem.1 (best_mem.1 hz).1
    obtain ⟨hk, hk2⟩ := List.getElem?_eq_some_iff.1 h
    have hki : k < i := by
      rcases Nat.lt_trichotomy k i with e | e | e
      · exact e
      · subst e; rw [hk2] at hi2; exact absurd hi2 hne
      · have := List.pairwise_iff_getElem.1 (com_rise (L := L) a b) i k hi hk e
        rw [hk2, hi2] at this
        omega
    refine List.mem_iff_getElem.2 ⟨i - (k + 1), by rw [List.length_drop]; omega, ?_⟩
    rw [List.getElem_drop]
    have : k + 1 + (i - (k + 1)) = i := by omega
    simp only [this]
    exact hi2
end Go.DagLib

end
section
-- RPatch
namespace Go.TreeLib
open Go

def atP (t : List Fl) (p : ByteArray) : Bool × ByteArray := ((get t p).isSome, (get t p).getD ⟨#[]⟩)
theorem rise_len (l : List ByteArray) : (rise l).length ≤ l.length := by
  have hi : ∀ (x : ByteArray) (out : List ByteArray), (insT x out).length ≤ out.length + 1 := by
    intro x out
    induction out with
    | nil => exact Nat.le_refl _
    | cons y r ih =>
      unfold insT
      split
      · exact Nat.le_refl _
      · split
        · exact Nat.le_succ _
        · rw [List.length_cons, List.length_cons]; omega
  have : ∀ (l out : List ByteArray), (l.foldl (fun out x => insT x out) out).length ≤ out.length + l.length := by
    intro l
    induction l with
    | nil => intro out; exact Nat.le_refl _
    | cons x l ih => intro out; rw [List.foldl_cons, List.length_cons]; have := ih (insT x out); have := hi x out; omega
  have := this l []
  rw [List.length_nil, Nat.zero_add] at this
  exact this
/-! ### Lists that hold just what a function says -/
def Rep (t : List Fl) (g : ByteArray → Option ByteArray) : Prop := Up t ∧ ∀ q, fil q t = (g q).toList.map (fun d => (q, d))
theorem Rep.uniq {t u : List Fl} {g : ByteArray → Option ByteArray} (h : Rep t g) (k : Rep u g) : t = u := up_unique h.1 k.1 (fun q => (h.2 q).trans (k.2 q).symm)
theorem Rep.congr {t : List Fl} {g g' : ByteArray → Option ByteArray} (h : Rep t g) (e : ∀ q, g q = g' q) : Rep t g' := ⟨h.1, fun q => by rw [h.2, e]⟩
theorem Once.rep {t : List Fl} (h : Once t) : Rep t (TreeLib.get t) := ⟨h.up, fun q => by
  cases hg : TreeLib.get t q with
  | none => exact fil_nil_of (get_none.1 hg)
  | some d =>
    have hf : ∃ f ∈ t, f.1 = q := Classical.byContradiction (fun hc => by
      rw [get_none.2 (fun f hf e => hc ⟨f, hf, e⟩)] at hg
      cases hg)
    obtain ⟨f, hf, rfl⟩ := hf
    rw [h.get hf] at hg
    cases hg
    rw [h.fil hf]
    rfl⟩
/-! ### How many -/
end Go.TreeLib

end
section
-- LineL
namespace Go.LineLib
open Go

/-- The lines of a text: it is cut behind each byte 10. -/
def linesL : List UInt8 → List (List UInt8)
  | [] => []
  | b :: r => if b = 10 then [b] :: linesL r else match linesL r with
    | [] => [[b]]
    | x :: xs => (b :: x) :: xs

theorem linesL_cons (b : UInt8) (r : List UInt8) : linesL (b :: r) = if b = 10 then [b] :: linesL r else match linesL r with
    | [] => [[b]]
    | x :: xs => (b :: x) :: xs := rfl

/-- How many bytes the first line has. -/
def endL : List UInt8 → Nat
  | [] => 0
  | b :: r => if b = 10 then 1 else endL r + 1

theorem endL_le : ∀ l, endL l ≤ l.length
  | [] => Nat.le_refl _
  | b :: r => by unfold endL; have := endL_le r; split <;> simp <;> omega
theorem endL_pos {l : List UInt8} (h : l ≠ []) : 1 ≤ endL l := by
  cases l with
  | nil => exact absurd rfl h
  | cons b r => unfold endL; split <;> omega

theorem linesL_first : ∀ {l : List UInt8}, l ≠ [] → linesL l = l.take (endL l) :: linesL (l.drop (endL l))
  | [], h => absurd rfl h
  | b :: r, _ => by
    rw [linesL_cons]
    unfold endL
    split
    · rename_i h; subst h; simp
    · cases hr : r with
      | nil => simp [linesL, endL]
      | cons c r' =>
        rw [← hr, linesL_first (by rw [hr]; simp)]
        simp

theorem linesL_flat : ∀ l, (linesL l).flatten = l
  | [] => rfl
  | b :: r => by
    unfold linesL
    have ih := linesL_flat r
    split
    · simp [ih]
    · split
      · rename_i h; rw [h] at ih; simp at ih; subst ih; rfl
      · rename_i x xs h; rw [h] at ih; simpa using ih

theorem linesL_len : ∀ l, (linesL l).length ≤ l.length
  | [] => Nat.le_refl _
  | b :: r => by
    unfold linesL
    have ih := linesL_len r
    split
    · simp; omega
    · split
      · simp
      · rename_i x xs h; rw [h] at ih; simp at ih ⊢; omega

theorem endL_index : ∀ l, (if 0 ≤ Lib.indexByte l 10 then Lib.indexByte l 10 + 1 else (l.length : Int)) = (endL l : Int)
  | [] => by simp [Lib.indexByte, endL]
  | b :: r => by
    have ih := endL_index r
    have hge := Lib.indexByte_ge r 10
    unfold Lib.indexByte endL
    by_cases hb : b = 10
    · subst hb; simp
    · simp only [beq_eq_false_iff_ne.2 hb, if_neg hb]
      by_cases h1 : Lib.indexByte r 10 = -1
      · rw [h1] at ih ⊢; simp at ih ⊢; omega
      · rw [if_pos (by omega)] at ih
        simp only [beq_eq_false_iff_ne.2 h1, Bool.false_eq_true, if_false]
        rw [if_pos (by omega)]
        push_cast
        omega

/-- The first line ends at n, if there is no byte 10 ahead. -/
theorem endL_at : ∀ (l : List UInt8) (n : Nat), n < l.length → (∀ j, j < n → l[j]? ≠ some 10) → (l[n]? = some 10 ∨ n + 1 = l.length) → endL l = n + 1
  | [], n, h, _, _ => by simp at h
  | b :: r, 0, h, _, h2 => by
    unfold endL
    rcases h2 with h2 | h2
    · rw [if_pos (by simpa using h2)]
    · simp at h2; subst h2; simp [endL]
  | b :: r, n + 1, h, h1, h2 => by
    unfold endL
    rw [if_neg (by have := h1 0 (by omega); simpa using this)]
    rw [endL_at r n (by simpa using h) (fun j hj => by have := h1 (j + 1) (by omega); simpa using this) (by simpa using h2)]

theorem index_has (c : UInt8) : ∀ l, (0 ≤ Lib.indexByte l c) ↔ c ∈ l
  | [] => by simp [Lib.indexByte]
  | b :: r => by
    have ih := index_has c r
    have hge := Lib.indexByte_ge r c
    unfold Lib.indexByte
    by_cases hb : b = c
    · subst hb; simp
    · simp only [beq_eq_false_iff_ne.2 hb, Bool.false_eq_true, if_false]
      by_cases h1 : Lib.indexByte r c = -1
      · rw [h1] at ih ⊢; simp at ih ⊢; exact ⟨fun e => hb e.symm, ih⟩
      · simp only [beq_eq_false_iff_ne.2 h1, Bool.false_eq_true, if_false]
        have h3 : 0 ≤ Lib.indexByte r c := by omega
        simp [ih.1 h3]
        omega

/-- A list of bytes as a text. -/
abbrev T (l : List UInt8) : ByteArray := ⟨l.toArray⟩
/-- A text's bytes. -/
abbrev L (s : ByteArray) : List UInt8 := s.data.toList
/-- A text's lines. -/
def linesB (s : ByteArray) : List ByteArray := (linesL (L s)).map T

theorem T_L (s : ByteArray) : T (L s) = s := rfl
theorem L_T (l : List UInt8) : L (T l) = l := rfl
theorem size_L (s : ByteArray) : s.size = (L s).length := rfl
theorem L_extract (s : ByteArray) (a b : Nat) : L (s.extract a b) = ((L s).drop a).take (b - a) := by
  show (s.extract a b).data.toList = _
  rw [ByteArray.data_extract, Array.toList_extract, List.extract_eq_take_drop]
theorem extract_T (s : ByteArray) (a b : Nat) : s.extract a b = T (((L s).drop a).take (b - a)) := by rw [← L_extract]
theorem L_ne {s : ByteArray} (h : s.size ≠ 0) : L s ≠ [] := fun e => h (by rw [size_L, e]; rfl)

/-- The first line, and the others. -/
theorem linesB_first {s : ByteArray} (h : s.size ≠ 0) : linesB s = s.extract 0 (endL (L s)) :: linesB (s.extract (endL (L s)) s.size) := by
  unfold linesB
  rw [linesL_first (L_ne h), List.map_cons, L_extract, extract_T, List.take_of_length_le (show ((L s).drop (endL (L s))).length ≤ s.size - endL (L s) by rw [List.length_drop, size_L]; exact Nat.le_refl _)]
  simp
theorem linesB_nil {s : ByteArray} (h : s.size = 0) : linesB s = [] := by
  have : L s = [] := List.length_eq_zero_iff.1 h
  unfold linesB; rw [this]; rfl
theorem linesB_len (s : ByteArray) : (linesB s).length ≤ s.size := by
  unfold linesB; rw [List.length_map]; exact linesL_len _
/-- Texts, one behind the other. -/
def catB (xs : List ByteArray) : ByteArray := T (xs.map L).flatten
theorem catB_lines (s : ByteArray) : catB (linesB s) = s := by
  unfold catB linesB
  rw [List.map_map, show (L ∘ T) = id from rfl, List.map_id, linesL_flat]

end Go.LineLib

end
