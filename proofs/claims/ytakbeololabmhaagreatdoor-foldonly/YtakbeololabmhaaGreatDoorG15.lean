/-
  Of: MapB, FiltB, Make, KBs, RRev.
-/
import Derived.Test.YtakbeololabmhaaGreatDoorG01
import Derived.Maps.OwnIn
import Derived.Maps.Views
import Derived.WalkArith
import Derived.Test.YtakbeololabmhaaGreatDoorG09
import Derived.Test.YtakbeololabmhaaGreatDoorG10
section
-- MapB
namespace Go.SeqLib
open Go Go.RowKit
open Go.Maps (Keyed int_keyed keyOf_int_mk atKey_put_same atKey_put_other has_put_same has_put_other)

/-- The types of a map from numbers: t the map's, k the key's, e the element's. -/
structure MapTy (P : Program) (t k e : TypeId) : Prop where
  map : P.underlying t = some (.map k e)
  key : P.underlying k = some (.int .i64)
theorem keyI {P : Program} {t k e : TypeId} (T : MapTy P t k e) {x : Int} (h : (Lit.int .i64 x).wf = true) : keyOf P k (.int .i64 x) = some (.int .i64 x) := keyOf_int_mk T.key h
theorem wf_i64' {x : Int} (h1 : -9223372036854775808 ≤ x) (h2 : x ≤ 9223372036854775807) : (Lit.int .i64 x).wf = true := WalkArith.wf_i64 ⟨h1, h2⟩

section
variable {P : Program} {t k e : TypeId} {W W' : World} {b m : Nat} {f : Int → Bool}
end

section
variable {F : Fence} {n : Nat} {P : Program} {t k e : TypeId} {b m : Nat} {f : Int → Bool} {ops : Array Oper} {rest : List Oper} {o : Oper} {a : Act} {Q : Exit → Act → World → Prop}
end

/-- Block b is a set of m numbers at most, those of which f is true. -/
def MapU (P : Program) (k : TypeId) (W : World) (b m : Nat) (f : Int → Bool) : Prop :=
  ∃ D : DataW Unit, W.ownsMap P k (unitElem (H := Unit)) b m D ∧ ∀ x : Int, (Lit.int .i64 x).wf = true → Maps.has D (.int .i64 x) = f x
section
variable {P : Program} {t k e : TypeId} {W W' : World} {b m : Nat} {f : Int → Bool}
theorem MapU.lt (h : MapU P k W b m f) : b < W.heap.size := by
  obtain ⟨D, hD, _⟩ := h
  exact hD.lt
theorem MapU.kept (h : MapU P k W b m f) (hk : W'.heap[b]? = W.heap[b]?) : MapU P k W' b m f := by
  obtain ⟨D, ⟨es, clock, hb, F, hs, hD⟩, hf⟩ := h
  exact ⟨D, ⟨es, clock, hk.trans hb, F, hs, hD⟩, hf⟩
theorem MapU.mono (h : MapU P k W b m f) {n : Nat} (hn : m ≤ n) : MapU P k W b n f := by
  obtain ⟨D, hD, hf⟩ := h
  exact ⟨D, hD.mono hn, hf⟩
theorem MapU.congr (h : MapU P k W b m f) {g : Int → Bool} (hg : ∀ x, f x = g x) : MapU P k W b m g := by
  obtain ⟨D, hD, hf⟩ := h
  exact ⟨D, hD, fun x hx => by rw [hf x hx, hg]⟩
theorem MapU.made (w : World) : MapU P k (w.alloc (.map #[] 0)) w.heap.size 0 (fun _ => false) := ⟨_, World.ownsMap_made w P k _, fun _ _ => rfl⟩
theorem MapU.look (h : MapU P k W b m f) (T : MapTy P t k e) (hz : (zeroValue e).run P W = .ok (.agg #[]) W) {x : Int} (hx : (Lit.int .i64 x).wf = true) :
    (Instr.lookup t (.map (some b)) (.int .i64 x) true).run P W = .ok (.tuple #[.agg #[], .bool (f x)]) W := by
  obtain ⟨D, hD, hf⟩ := h
  obtain ⟨v, ps, hrun, hv⟩ := hD.look_ok (int_keyed T.key) T.map hz unitElem_mk (keyI T hx)
  obtain ⟨rfl, _⟩ := unitElem_inv hv
  rw [hrun, hf x hx]
theorem MapU.put (h : MapU P k W b m f) (T : MapTy P t k e) (hm : m < maxLen) {x : Int} (hx : (Lit.int .i64 x).wf = true) :
    ∃ W', (Instr.mapUpdate t (.map (some b)) (.int .i64 x) (.agg #[])).run P W = .ok () W' ∧ MapU P k W' b (m + 1) (fun z => if z = x then true else f z) ∧ Chg (fun j => j = b) W W' := by
  obtain ⟨D, hD, hf⟩ := h
  obtain ⟨W', hrun, hD', hg⟩ := hD.update (int_keyed T.key) T.map hm (keyI T hx) unitElem_mk
  refine ⟨W', hrun, ⟨_, hD', fun z hz => ?_⟩, (Chg.refl (fun j => j = b) W).grown hg (fun j hj => .inl (by cases hj; rfl))⟩
  by_cases hzx : z = x
  · subst hzx
    show _ = (if z = z then true else f z)
    rw [has_put_same hD.isMap (show WideAt.IsKeyLit (Lit.int .i64 z) from trivial), if_pos rfl]
  · show _ = (if z = x then true else f z)
    rw [has_put_other (fun e => hzx (by injection e)), if_neg hzx, hf z hz]
end
section
variable {F : Fence} {n : Nat} {P : Program} {t k e : TypeId} {b m : Nat} {f : Int → Bool} {ops : Array Oper} {rest : List Oper} {o : Oper} {a : Act} {Q : Exit → Act → World → Prop}
/-- _, ok := m[k]. -/
theorem wpListIn_lookU (w : World) (hg : o.guard = none) (mo x : Operand) (hop : o.op = Op.lookup t mo x true) (T : MapTy P t k e) (hz : (zeroValue e).run P w = .ok (.agg #[]) w) (h : MapU P k w b m f)
    (hm : a.eval mo = .map (some b)) (z : Int) (hx : a.eval x = .int .i64 z) (hw : (Lit.int .i64 z).wf = true) (hK : wpListIn F n P ops Q rest (a.put o.dst (.tuple #[.agg #[], .bool (f z)])) w) : wpListIn F n P ops Q (o :: rest) a w := by
  refine wpListIn_plain hg fun K' hK' => ?_
  have hrun := h.look T hz hw
  unfold Oper.wpIn
  refine ⟨by simp [Oper.about, hop], ?_⟩
  rw [Oper.semAt_plain F _ _ (by rw [hop]; intro c hc'; cases hc')]
  simp [execOp, hop, hm, hx, hrun, Result.andThen]
  exact hK' _ _ hK
/-- m[k] = struct{}{}. -/
theorem wpListIn_putU (w : World) (hg : o.guard = none) (mo x v : Operand) (hop : o.op = Op.mapUpdate t mo x v) (T : MapTy P t k e) (h : MapU P k w b m f) (hm63 : m < maxLen)
    (hm : a.eval mo = .map (some b)) (z : Int) (hx : a.eval x = .int .i64 z) (hv : a.eval v = .agg #[]) (hw : (Lit.int .i64 z).wf = true)
    (hK : ∀ w', MapU P k w' b (m + 1) (fun j => if j = z then true else f j) → Chg (fun j => j = b) w w' → wpListIn F n P ops Q rest (a.put o.dst undef) w') : wpListIn F n P ops Q (o :: rest) a w := by
  refine wpListIn_plain hg fun K' hK' => ?_
  obtain ⟨w', hrun, r1, r2⟩ := h.put T hm63 hw
  unfold Oper.wpIn
  refine ⟨by simp [Oper.about, hop], ?_⟩
  rw [Oper.semAt_plain F _ _ (by rw [hop]; intro c hc'; cases hc')]
  simp [execOp, hop, hm, hx, hv, hrun, Result.andThen]
  exact hK' _ _ (hK w' r1 r2)
end
end Go.SeqLib

end
section
-- FiltB
namespace Go.SeqLib
open Go Go.RowKit
/-- The word of a method that is bound to its receiver, of arguments that R allows. -/
structure Fun1B {α : Type} (P : Program) (ff : Nat) (bv : Value) (arg res : α → Value) (R : α → Prop) (D : Blk) (I : Nat → World → Prop) : Prop where
  lt : ∀ {k W}, I k W → ∀ b, D b → b < W.heap.size
  kept : ∀ {k W W'}, I k W → W.heap.size ≤ W'.heap.size → (∀ b, D b → W'.heap[b]? = W.heap[b]?) → I k W'
  runs : ∀ k x W, R x → I k W → CallsIn Fence.wide 0 P ff #[bv, arg x] W fun e W' => e = .returned (res x) ∧ I (k + 1) W' ∧ Chg D W W'
end Go.SeqLib
namespace Go.Proofs.YtakbeololabmhaaGreatDoor
open Go.RowKit Go.Shelf Go.SeqLib
attribute [local go_sem] Oper.semAt_some

set_option maxRecDepth 100000 in
set_option maxHeartbeats 1000000 in
theorem filterB1 {gs : Nat} {lbs : Array Value} {xs : List Int} {Ds Ms : Blk} {Is0 : World → Prop} {Is : List Int → World → Prop} (it : Iter Tryz.prog gs lbs encI xs Ds Ms Is0 Is) (eg : ∀ args w, (callFunc gs args).run Tryz.prog w = .ok (.enter gs args) w)
    {ff : Nat} {bv : Value} {p : Int → Bool} {R : Int → Prop} {Df : Blk} {If : Nat → World → Prop} (hxR : ∀ x ∈ xs, R x) (fn : Fun1B Tryz.prog ff bv (fun x : Int => .int .i64 x) (fun x => .bool (p x)) R Df If) (ef : ∀ args w, (callFunc ff args).run Tryz.prog w = .ok (.enter ff args) w)
    (k0 Bs Bf : Nat) (h1 : Bs ≠ Bf) (h2 : ¬ Ds Bs) (h3 : ¬ Ds Bf) (h4 : ¬ Df Bs) (h5 : ¬ Df Bf) (h6 : ∀ k, Ds k → ¬ Df k) :
    Iter Tryz.prog 83 #[.pointer (some ⟨Bs, 0, none⟩), .pointer (some ⟨Bf, 0, none⟩)] encI (xs.filter p) (fun k => k = Bs ∨ k = Bf ∨ Ds k ∨ Df k) (fun k => Ms k ∨ Df k)
      (fun W => Boxed W Bs 75 (.func (.func gs) #[] lbs) ∧ Boxed W Bf 72 (.func (.func ff) #[bv] #[]) ∧ Is0 W ∧ If k0 W)
      (fun pre W => Boxed W Bs 75 (.func (.func gs) #[] lbs) ∧ Boxed W Bf 72 (.func (.func ff) #[bv] #[]) ∧ ∃ zs, zs <+: xs ∧ zs.filter p = pre ∧ Is zs W ∧ If (k0 + zs.length) W) := {
  sub := by
    rintro k (h | h)
    · exact .inr (.inr (.inl (it.sub k h)))
    · exact .inr (.inr (.inr h))
  lt0 := by
    rintro W ⟨b1, b2, i1, i2⟩ k (rfl | rfl | h | h)
    · exact b1.lt
    · exact b2.lt
    · exact it.lt0 i1 k h
    · exact fn.lt i2 k h
  kept0 := by
    rintro W W' ⟨b1, b2, i1, i2⟩ hs hk
    exact ⟨(hk _ (.inl rfl)).trans b1, (hk _ (.inr (.inl rfl))).trans b2, it.kept0 i1 hs (fun k h => hk k (.inr (.inr (.inl h)))), fn.kept i2 hs (fun k h => hk k (.inr (.inr (.inr h))))⟩
  kept := by
    rintro pre W W' ⟨b1, b2, zs, hz, hp, i1, i2⟩ hs hk
    exact ⟨(hk _ (.inl rfl)).trans b1, (hk _ (.inr (.inl rfl))).trans b2, zs, hz, hp, it.kept i1 hs (fun k h => hk k (.inr (.inr (.inl h)))), fn.kept i2 hs (fun k h => hk k (.inr (.inr (.inr h))))⟩
  runs := by
    intro l J Jx S W pJ pJx hY hI hJ hDS
    obtain ⟨b1, b2, i1, i2⟩ := hI
    have hc1 := (b1.alloc (.cells #[.func (.yield l) #[] #[]] 72)).cell
    refine callsIn_of_wp_marks Tryz.func83 rfl trivial ?_
    simp only [Tryz.ntmps83, List.size_toArray, List.length_cons, List.length_nil, Nat.reduceAdd, Nat.reduceSub, Array.replicate_succ, Array.replicate_zero, List.push_toArray, List.append_toArray, List.nil_append, List.cons_append]
    gi_wp2
    have hYn : ∀ k, S k → k < W.heap.size := (pJ _).lt hJ
    refine wpIn_range (gf := gs) (lb := lbs) rfl eg it (fun _ => rfl)
      (fun zs S W' => ∃ So, S = (fun k => So k ∨ k = W.heap.size ∨ k = Bf ∨ Df k) ∧ J (zs.filter p) So W' ∧ Boxed W' W.heap.size 72 (.func (.yield l) #[] #[]) ∧ Boxed W' Bf 72 (.func (.func ff) #[bv] #[]) ∧ If (k0 + zs.length) W' ∧ ¬ So W.heap.size ∧ ¬ So Bf ∧ (∀ k, Df k → ¬ So k))
      (fun c zs S W' => ∃ So, S = (fun k => So k ∨ k = W.heap.size ∨ k = Bf ∨ Df k) ∧ Jx (zs.filter p) So W' ∧ Boxed W' W.heap.size 72 (.func (.yield l) #[] #[]) ∧ Boxed W' Bf 72 (.func (.func ff) #[bv] #[]) ∧ If (k0 + zs.length) W' ∧ ¬ So W.heap.size ∧ ¬ So Bf ∧ (∀ k, Df k → ¬ So k) ∧ c = .ret)
      ?_ ?_ (S := fun k => S k ∨ k = W.heap.size ∨ k = Bf ∨ Df k) (it.kept0 i1 (by simp) (fun k hk => Below.heap_alloc _ _ _ (it.lt0 i1 k hk))) ?_ ?_
      (fun x => { tmps := #[.func (.yield l) #[] #[], .pointer (some ⟨Bs, 0, none⟩), .pointer (some ⟨Bf, 0, none⟩), .pointer (some ⟨W.heap.size, 0, none⟩), .int .i64 x, .func (.func gs) #[] lbs, .int .i64 x, undef, undef, undef, undef, undef, undef, undef, undef, undef], defers := [] }) ?assign ?body ?done ?stop
    case assign =>
      intro l x W K hK
      gi_wp2
      exact hK
    case body =>
      rintro lr zs x S2 W2 hpre ⟨So, rfl, j, b3, b4, i3, n1, n2, n3⟩
      have hcf := b4.cell
      have hcy := b3.cell
      have hlen : k0 + (zs ++ [x]).length = k0 + zs.length + 1 := by simp; omega
      have nb : ¬ Df W.heap.size := fun h => by have := fn.lt i2 _ h; omega
      cases hp : p x
      · have hfl : (zs ++ [x]).filter p = zs.filter p := by simp [hp]
        have HL : Hid (k0 + (zs ++ [x]).length = k0 + zs.length + 1) := hlen
        have HF : Hid ((zs ++ [x]).filter p = zs.filter p) := hfl
        clear hlen hfl
        gi_wp2_with fail
        refine ⟨trivial, rfl, (fn.runs _ x _ (hxR x (hpre.subset (by simp))) i3).mono ?_⟩
        rintro e W3 ⟨rfl, i4, c4⟩
        simp only [hp]
        gi_wp2
        refine ⟨fun _ h => (by cases h), ?_⟩
        gi_wp2
        refine ⟨fun k => So k ∨ k = W.heap.size ∨ k = Bf ∨ Df k, c4.mono (fun k hk => .inr (.inr (.inr (hk)))), Grew.refl _ _, So, rfl, ?_, c4.boxed b3 (fun h => nb (h)), c4.boxed b4 (fun h => h5 (h)), ?_, n1, n2, n3⟩
        · rw [HF.out]; exact (pJ _).chg j c4 (fun k hk h => n3 k (h) hk)
        · rw [HL.out]; exact i4
      · have hfl : (zs ++ [x]).filter p = zs.filter p ++ [x] := by simp [hp]
        have hpre2 : zs.filter p ++ [x] <+: xs.filter p := by rw [← hfl]; exact hpre.filter p
        have HL : Hid (k0 + (zs ++ [x]).length = k0 + zs.length + 1) := hlen
        have HF : Hid ((zs ++ [x]).filter p = zs.filter p ++ [x]) := hfl
        clear hlen hfl
        gi_wp2_with fail
        refine ⟨trivial, rfl, (fn.runs _ x _ (hxR x (hpre.subset (by simp))) i3).mono ?_⟩
        rintro e W3 ⟨rfl, i4, c4⟩
        simp only [hp]
        have b5 := c4.boxed b3 (fun h => nb (h))
        have b6 := c4.boxed b4 (fun h => h5 (h))
        have hcy3 := b5.cell
        have j3 : J (zs.filter p) So W3 := (pJ _).chg j c4 (fun k hk h => n3 k (h) hk)
        obtain ⟨fnr, tmps, assign, body, hy, hR⟩ := hY _ x So W3 hpre2 j3
        gi_wp2
        refine ⟨rfl, (inR lr hR).mono ?_⟩
        rintro e W4 ⟨S5, c5, g5, (⟨rfl, j5⟩ | ⟨rfl, j5⟩)⟩
        all_goals
          gi_wp2
          have hn5 : ∀ k, k < W3.heap.size → ¬ So k → ¬ S5 k := fun k hk hn h => by
            rcases g5 k h with h1 | h1
            · exact hn h1
            · omega
          refine ⟨fun k => S5 k ∨ k = W.heap.size ∨ k = Bf ∨ Df k, (c4.mono (fun k hk => .inr (.inr (.inr (hk))))).trans (S' := So) c5 (fun k hk => .inl (.inl hk)), ?_, S5, rfl, ?_, c5.boxed b5 n1, c5.boxed b6 n2, ?_, hn5 _ b5.lt n1, hn5 _ b6.lt n2, ?_⟩
          · rintro k (hk | hk)
            · rcases g5 k hk with h1 | h1
              · exact .inl (.inl h1)
              · exact .inr (Nat.le_trans c4.size h1)
            · exact .inl (.inr hk)
          · rw [HF.out]; exact j5
          · rw [HL.out]; exact fn.kept i4 c5.size (fun k hk => c5.block k (fn.lt i4 k hk) (n3 k hk))
          · first
              | exact fun k hk => hn5 k (fn.lt i4 k hk) (n3 k hk)
              | exact ⟨fun k hk => hn5 k (fn.lt i4 k hk) (n3 k hk), rfl⟩
    case done =>
      rintro d S' W9 hd ⟨So, rfl, j, b3, b4, i3, n1, n2, n3⟩ hi hc hg hK hnd
      have hd' : W.heap.size + 1 ≤ d := by simpa using hd
      have hwd : ∀ k, k < W.heap.size → k ≠ d := fun k hk => by omega
      have b5 : Boxed W9 Bs 75 (.func (.func gs) #[] lbs) := hc.boxed (b1.alloc _) (fun h => by
        rcases h with h | h | h | h | h
        · exact h2 (it.sub _ h)
        · exact hDS _ (.inl rfl) h
        · have := b1.lt; omega
        · exact h1 h
        · exact h4 h)
      have c9 := Chg.put1 W9 d (.deferred none)
      gi_wp2
      refine ⟨by simp, .inl ⟨_, _, rfl, run_takeDeferred hK, ?_⟩⟩
      refine ⟨_, results_none rfl _ _ _, ⟨_, rfl⟩, xs.filter p, So, .inl ⟨rfl, (pJ _).chg j c9 (fun k hk e => hnd (.inl (e ▸ hk)))⟩,
        ⟨c9.boxed b5 (hwd _ b1.lt), c9.boxed b4 (hwd _ b2.lt), xs, List.prefix_refl _, rfl, it.kept hi (by simp) (fun k hk => World.putObj_heap_other (hwd _ (it.lt0 i1 k hk))), fn.kept i3 (by simp) (fun k hk => World.putObj_heap_other (hwd _ (fn.lt i2 k hk)))⟩,
        endChg ((Chg.refl _ W).alloc _) hc (fun k hk h hn => ?_) (by omega) _, endGrew (by simp) hg (fun _ => .inl) (fun k hk hk1 h => ?_)⟩
      · rcases h with h | h | h | h | h
        · exact (hn (.inl (.inl h))).elim
        · exact (hn (.inr h)).elim
        · omega
        · subst h; exact (show W9.heap[k]? = _ from b4).trans (show W.heap[k]? = _ from b2).symm
        · exact (hn (.inl (.inr h))).elim
      · rcases h with h | h | h | h
        · exact h
        · omega
        · exact (n2 (h ▸ hk1)).elim
        · exact (n3 k h hk1).elim
    case stop =>
      rintro d c zs S' W9 hd hpre ⟨So, rfl, j, b3, b4, i3, n1, n2, n3, rfl⟩ hi hc hg hK hnd
      have hd' : W.heap.size + 1 ≤ d := by simpa using hd
      have hwd : ∀ k, k < W.heap.size → k ≠ d := fun k hk => by omega
      have b5 : Boxed W9 Bs 75 (.func (.func gs) #[] lbs) := hc.boxed (b1.alloc _) (fun h => by
        rcases h with h | h | h | h | h
        · exact h2 (it.sub _ h)
        · exact hDS _ (.inl rfl) h
        · have := b1.lt; omega
        · exact h1 h
        · exact h4 h)
      have c9 := Chg.put1 W9 d (.deferred none)
      gi_wp2
      refine ⟨by simp, .inl ⟨_, _, rfl, run_takeDeferred hK, ?_⟩⟩
      refine ⟨_, results_none rfl _ _ _, ⟨_, rfl⟩, zs.filter p, So, .inr ⟨hpre.filter p, (pJx _).chg j c9 (fun k hk e => hnd (.inl (e ▸ hk)))⟩,
        ⟨c9.boxed b5 (hwd _ b1.lt), c9.boxed b4 (hwd _ b2.lt), zs, hpre, rfl, it.kept hi (by simp) (fun k hk => World.putObj_heap_other (hwd _ (it.lt0 i1 k hk))), fn.kept i3 (by simp) (fun k hk => World.putObj_heap_other (hwd _ (fn.lt i2 k hk)))⟩,
        endChg ((Chg.refl _ W).alloc _) hc (fun k hk h hn => ?_) (by omega) _, endGrew (by simp) hg (fun _ => .inl) (fun k hk hk1 h => ?_)⟩
      · rcases h with h | h | h | h | h
        · exact (hn (.inl (.inl h))).elim
        · exact (hn (.inr h)).elim
        · omega
        · subst h; exact (show W9.heap[k]? = _ from b4).trans (show W.heap[k]? = _ from b2).symm
        · exact (hn (.inl (.inr h))).elim
      · rcases h with h | h | h | h
        · exact h
        · omega
        · exact (n2 (h ▸ hk1)).elim
        · exact (n3 k h hk1).elim
    · intro zs
      exact ⟨by
        rintro S W' ⟨So, rfl, j, b3, b4, i3, _⟩ k (h | h | h | h)
        · exact (pJ _).lt j k h
        · subst h; exact b3.lt
        · subst h; exact b4.lt
        · exact fn.lt i3 k h, by
        rintro S W' W2 ⟨So, rfl, j, b3, b4, i3, r⟩ hs hk
        exact ⟨So, rfl, (pJ _).kept j hs (fun k h => hk k (.inl h)), (hk _ (.inr (.inl rfl))).trans b3, (hk _ (.inr (.inr (.inl rfl)))).trans b4, fn.kept i3 hs (fun k h => hk k (.inr (.inr (.inr h)))), r⟩⟩
    · intro c zs
      exact ⟨by
        rintro S W' ⟨So, rfl, j, b3, b4, i3, _⟩ k (h | h | h | h)
        · exact (pJx _).lt j k h
        · subst h; exact b3.lt
        · subst h; exact b4.lt
        · exact fn.lt i3 k h, by
        rintro S W' W2 ⟨So, rfl, j, b3, b4, i3, r⟩ hs hk
        exact ⟨So, rfl, (pJx _).kept j hs (fun k h => hk k (.inl h)), (hk _ (.inr (.inl rfl))).trans b3, (hk _ (.inr (.inr (.inl rfl)))).trans b4, fn.kept i3 hs (fun k h => hk k (.inr (.inr (.inr h)))), r⟩⟩
    · have c1 : Chg (fun _ => False) W (W.alloc (.cells #[.func (.yield l) #[] #[]] 72)) := (Chg.refl _ W).alloc _
      exact ⟨S, rfl, (pJ _).chg hJ c1 (fun _ _ h => h), Boxed.new _ _ _, b2.alloc _, fn.kept i2 c1.size (fun k hk => c1.block k (fn.lt i2 k hk) (fun h => h)), fun h => by have := hYn _ h; omega, hDS _ (.inr (.inl rfl)), fun k hk => hDS k (.inr (.inr (.inr hk)))⟩
    · rintro k hk (h | h | h | h)
      · exact hDS k (.inr (.inr (.inl hk))) h
      · have := it.lt0 i1 k hk; omega
      · exact h3 (h ▸ hk)
      · exact h6 k hk h }

end Go.Proofs.YtakbeololabmhaaGreatDoor

end
section
-- Make
namespace Go.Proofs.YtakbeololabmhaaGreatDoor
open Go.RowKit Go.Shelf Go.SeqLib
attribute [local go_sem] Oper.semAt_some

section
variable {P : Program} {t e : TypeId}
end
set_option maxRecDepth 100000 in
set_option maxHeartbeats 1000000 in
theorem clone_in (v : Value) (zs : List Int) (hlen : zs.length ≤ 1000000) (w : World) (hv : SlI w v zs) : CallsIn Fence.wide 0 Tryz.prog 63 #[v] w fun e w' =>
    ∃ v', e = .returned v' ∧ w'.ownsRow w.heap.size 3 1 v' zs.length (zs.map (Value.int .i64)) ∧ Chg (fun _ => False) w w' := by
  obtain ⟨i0, hi, hz0, hz1, hz2⟩ := info_parts info3
  obtain ⟨p, cap, rfl, h1, h2, hc⟩ := hv
  cases p with
  | none =>
    have hz : zs = [] := by
      cases zs with
      | nil => rfl
      | cons x r => obtain ⟨b, off, h, _⟩ := hc 0 x rfl; cases h
    subst hz
    have hnil := fun w => run_eql_slice_nil' Tryz.underlying40 none 0 cap w
    simp only [Option.isNone_none] at hnil
    refine callsIn_of_wp Tryz.func63 rfl trivial ?_
    simp only [Tryz.ntmps63, List.size_toArray, List.length_cons, List.length_nil, Nat.reduceAdd, Nat.reduceSub, Array.replicate_succ, Array.replicate_zero, List.push_toArray, List.append_toArray, List.nil_append, List.cons_append]
    gi_wp2
    go_ret
    exact ⟨_, rfl, World.ownsRow_nil _ _ _ _, Chg.refl _ _⟩
  | some a =>
    have hnil := fun w => run_eql_slice_nil' Tryz.underlying40 (some a) zs.length cap w
    simp only [Option.isNone_some] at hnil
    refine callsIn_of_wp Tryz.func63 rfl trivial ?_
    simp only [Tryz.ntmps63, List.size_toArray, List.length_cons, List.length_nil, Nat.reduceAdd, Nat.reduceSub, Array.replicate_succ, Array.replicate_zero, List.push_toArray, List.append_toArray, List.nil_append, List.cons_append]
    have hown0 : (w.alloc (.cells #[] 3)).ownsRow w.heap.size 3 1 (.slice (some ⟨w.heap.size, 0, none⟩) 0 0) 0 [] := World.ownsRow_made w #[] 0 (Nat.le_refl _) (Nat.zero_le _) rfl
    have hnews : ∀ j u, (zs.map (Value.int .i64))[j]? = some u → (w.alloc (.cells #[] 3)).cell? (a.add j) = some u := by
      intro j u hj
      rw [List.getElem?_map] at hj
      obtain ⟨x, hx, rfl⟩ := Option.map_eq_some_iff.1 hj
      obtain ⟨b, off, e, hcell⟩ := hc j x hx
      cases e
      have ea : (⟨b, off, none⟩ : Addr).add j = ⟨b, off + j, none⟩ := by unfold Addr.add; split <;> simp_all
      rw [ea]
      exact (World.cell?_of_block (a := ⟨b, off + j, none⟩) (Below.heap_alloc w _ b (World.block_lt_of_cell? w _ hcell))).trans hcell
    have hone : ∀ u ∈ zs.map (Value.int .i64), u.oneCell' = true := by
      intro u hu
      obtain ⟨x, _, rfl⟩ := List.mem_map.1 hu
      rfl
    have hmx : 0 + zs.length ≤ maxLen := by unfold maxLen; omega
    clear hc
    gi_wp2_with (gi_at_builtin; refine wpListIn_append_at _ rfl _ _ 40 rfl w.heap.size 3 i0 (.int .i64 0) 1 8 Tryz.underlying40 hi hz0 hz1 hz2 rfl (by decide) _ _ _ rfl hown0 a zs.length cap (zs.map (Value.int .i64)) rfl (by simp) hnews hone hmx (by omega) (by simp) ?_; intro v' w1 hown' hgrow _ hat; obtain ⟨p', c', rfl⟩ := row_slice hown')
    go_ret
    refine ⟨_, rfl, by simpa using hown', ((Chg.refl _ w).alloc _).grown hgrow (fun k e => .inr ?_)⟩
    cases e
    exact Nat.le_refl _

set_option maxHeartbeats 1000000 in
theorem of_in (v : Value) (zs : List Int) (hlen : zs.length ≤ 1000000) (w : World) (hv : SlI w v zs) : CallsIn Fence.wide 0 Tryz.prog 84 #[v] w fun e w' =>
    ∃ v' B, e = .returned (.func (.func 104) #[] #[.pointer (some ⟨B, 0, none⟩)]) ∧ Boxed w' B 40 v' ∧ w.heap.size ≤ B ∧ v'.ownBlock ≠ some B ∧ w'.ownsRow w.heap.size 3 1 v' zs.length (zs.map (Value.int .i64)) ∧ Chg (fun _ => False) w w' := by
  refine callsIn_of_wp Tryz.func84 rfl trivial ?_
  simp only [Tryz.ntmps84, List.size_toArray, List.length_cons, List.length_nil, Nat.reduceAdd, Nat.reduceSub, Array.replicate_succ, Array.replicate_zero, List.push_toArray, List.append_toArray, List.nil_append, List.cons_append]
  gi_wp2_with fail
  refine ⟨trivial, rfl, (clone_in v zs hlen _ hv).mono ?_⟩
  rintro e w1 ⟨v', rfl, hr, c⟩
  obtain ⟨p', c', rfl⟩ := row_slice hr
  gi_wp2
  go_ret
  refine ⟨_, w1.heap.size, rfl, Boxed.new _ _ _, c.size, fun h => ?_, hr.alloc _, c.alloc _⟩
  have := (hr.lt _ h).2
  omega

end Go.Proofs.YtakbeololabmhaaGreatDoor

end
section
-- KBs
namespace Go.Proofs.YtakbeololabmhaaGreatDoor
open Go.RowKit Go.Shelf Go.SeqLib Go.DiffLib Go.TreeLib Go.RepoLib Go.DagLib Go.BigFrame
attribute [local go_sem] Oper.semAt_some

theorem tyU : MapTy Tryz.prog 71 3 96 := ⟨Tryz.underlying71, Tryz.underlying3⟩
theorem zeroU (w : World) : (zeroValue 96).run Tryz.prog w = .ok (.agg #[]) w := Tryz.zeroValue96 w
abbrev MpU (W : World) (b m : Nat) (f : Int → Bool) : Prop := MapU Tryz.prog 3 W b m f

set_option maxRecDepth 100000 in
set_option maxHeartbeats 4000000 in
theorem hasU_in (b m : Nat) (f : Int → Bool) (x : Int) (w : World) (h : MpU w b m f) (hx : -1000000 ≤ x ∧ x ≤ 1000000) :
    CallsIn Fence.wide 0 Tryz.prog 33 #[.map (some b), iv x] w fun e w' => e = .returned (.bool (f x)) ∧ Chg No w w' := by
  obtain ⟨h1, h2⟩ := hx
  obtain ⟨u, hu⟩ : ∃ u, f x = u := ⟨_, rfl⟩
  rw [hu]
  refine callsIn_of_wp Tryz.func33 rfl trivial ?_
  simp only [Tryz.ntmps33, List.size_toArray, List.length_cons, List.length_nil, Nat.reduceAdd, Nat.reduceSub, Array.replicate_succ, Array.replicate_zero, List.push_toArray, List.append_toArray, List.nil_append, List.cons_append]
  gi_wp2_with (gi_at_lookup; refine wpListIn_lookU _ rfl _ _ rfl tyU (zeroU _) h rfl x rfl (wf_i64' (by omega) (by omega)) ?_; rw [hu])
  go_ret
  exact ⟨rfl, (Chg.refl _ w).alloc _⟩

/-- A variable that holds such a map, and the map. -/
def SetU (B b m : Nat) (f : Int → Bool) : Blk → World → Prop := fun S W => S = (fun k => k = B ∨ k = b) ∧ Boxed W B 71 (.map (some b)) ∧ MpU W b m f ∧ B ≠ b
theorem SetU.part (B b m : Nat) (f : Int → Bool) : Part (SetU B b m f) := {
  lt := by
    rintro S W ⟨rfl, b1, b2, _⟩ k (rfl | rfl)
    · exact b1.lt
    · exact b2.lt
  kept := by
    rintro S W W' ⟨rfl, b1, b2, hn⟩ hs hk
    exact ⟨rfl, (hk _ (.inl rfl)).trans b1, b2.kept (hk _ (.inr rfl)), hn⟩ }

set_option maxRecDepth 100000 in
set_option maxHeartbeats 4000000 in
theorem putU_in {gs : Nat} {lbs : Array Value} {xs : List Int} {D : Blk} (b m : Nat) (f : Int → Bool) (w : World) (hs : PSeq w gs lbs xs D) (hlen : xs.length ≤ 1000) (hr : ∀ x ∈ xs, -1000000 ≤ x ∧ x ≤ 1000000) (h : MpU w b m f) (hm : m ≤ 1000000) (hD : ¬ D b) :
    CallsIn Fence.wide 0 Tryz.prog 34 #[.map (some b), .func (.func gs) #[] lbs] w fun e w' => e = .returned (.tuple #[]) ∧ MpU w' b (m + xs.length) (fun x => f x || decide (x ∈ xs)) ∧ Chg (fun k => k = b) w w' := by
  obtain ⟨I0, it, hi, eg⟩ := hs
  have hlt := it.lt0 hi
  have hbl := h.lt
  have c1 : Chg No w (w.alloc (.cells #[.map (some b)] 71)) := (Chg.refl _ w).alloc _
  have hK1 : SetU w.heap.size b (m + ([] : List Int).length) (fun x => f x || decide (x ∈ ([] : List Int))) (fun k => k = w.heap.size ∨ k = b) (w.alloc (.cells #[.map (some b)] 71)) :=
    ⟨rfl, Boxed.new w _ _, MapU.congr (h.kept (c1.block b hbl (fun h => h))) (fun x => by simp), by omega⟩
  have hi1 := it.kept0 hi c1.size (fun k hk => c1.block k (hlt k hk) (fun h => h))
  refine callsIn_of_wp_marks Tryz.func34 rfl trivial ?_
  simp only [Tryz.ntmps34, List.size_toArray, List.length_cons, List.length_nil, Nat.reduceAdd, Nat.reduceSub, Array.replicate_succ, Array.replicate_zero, List.push_toArray, List.append_toArray, List.nil_append, List.cons_append]
  gi_wp2
  refine wpIn_range (gf := gs) (lb := lbs) rfl eg it (fun _ => rfl) (fun pre S W => SetU w.heap.size b (m + pre.length) (fun x => f x || decide (x ∈ pre)) S W) (fun _ _ _ _ => False) (fun pre => SetU.part _ _ _ _) (fun _ _ => Part.false)
    (S := fun k => k = w.heap.size ∨ k = b) hi1 hK1 (fun k hk h => by
      rcases h with h | h
      · have := hlt k hk; omega
      · exact hD (h ▸ hk))
    (fun x => { tmps := #[.map (some b), .func (.func gs) #[] lbs, ptr w.heap.size, undef, iv x, .func (.func gs) #[] lbs, iv x, undef, undef, undef], defers := [] }) ?assign ?body ?done ?stop
  case assign =>
    intro l x W K hK
    gi_wp2
    exact hK
  case body =>
    rintro lr pre x S2 W hpre ⟨rfl, b1, b2, hne⟩
    have hc1 := b1.cell
    have hxm := hr x (hpre.subset (by simp))
    have hl : pre.length + 1 ≤ 1000 := by have := hpre.length_le; rw [List.length_append] at this; simp at this; omega
    gi_wp2_with (gi_at_mapUpdate; refine wpListIn_putU _ rfl _ _ _ rfl tyU b2 (by unfold maxLen; omega) rfl x rfl rfl (wf_i64' (by omega) (by omega)) ?_; intro w9 b9 c9)
    refine ⟨_, c9.mono (fun k hk => .inr hk), Grew.refl _ _, rfl, c9.boxed b1 (by omega), ?_, by omega⟩
    rw [List.length_append]
    refine MapU.congr b9 (fun y => ?_)
    by_cases e : y = x
    · subst e; simp
    · simp [e]
  case done =>
    rintro d S' W hd ⟨rfl, b1, b2, hne⟩ hI' hc hg hK hnd
    have hcl := b1.cell
    have hd1 : d ≠ b := fun e => hnd (.inr e)
    have hd3 : w.heap.size ≤ d := Nat.le_trans c1.size hd
    gi_wp2
    refine ⟨by simp, .inl ⟨_, _, rfl, run_takeDeferred hK, ?_⟩⟩
    refine ⟨_, results_none rfl _ _ _, rfl, b2.kept (World.putObj_heap_other (fun e => hd1 e.symm)), ?_⟩
    exact Chg.putObj ((c1.mono (S' := fun k => k = b) (fun k hk => hk.elim)).trans hc (fun k hk => by
      rcases hk with h | h | h
      · exact h.elim
      · exact .inr (by omega)
      · exact .inl h)) (.inr hd3) _
  case stop =>
    rintro d c pre S' W _ _ h
    exact h.elim

set_option maxHeartbeats 1000000 in
theorem filterB_in (gs : Nat) (lbs : Array Value) (ff : Nat) (bv : Value) (w : World) : CallsIn Fence.wide 0 Tryz.prog 59 #[.func (.func gs) #[] lbs, .func (.func ff) #[bv] #[]] w fun e w' =>
    e = .returned (.func (.func 83) #[] #[.pointer (some ⟨w.heap.size, 0, none⟩), .pointer (some ⟨w.heap.size + 1, 0, none⟩)]) ∧ w' = (w.alloc (.cells #[.func (.func gs) #[] lbs] 75)).alloc (.cells #[.func (.func ff) #[bv] #[]] 72) := by
  have hnil := fun w => run_eql_func_nil Tryz.underlying75 (.func gs) #[] lbs w
  have hnil2 := fun w => run_eql_func_nil Tryz.underlying72 (.func ff) #[bv] #[] w
  have hc1 := ((Boxed.new w 75 (.func (.func gs) #[] lbs)).alloc (.cells #[.func (.func ff) #[bv] #[]] 72)).cell
  refine callsIn_of_wp Tryz.func59 rfl trivial ?_
  simp only [Tryz.ntmps59, List.size_toArray, List.length_cons, List.length_nil, Nat.reduceAdd, Nat.reduceSub, Array.replicate_succ, Array.replicate_zero, List.push_toArray, List.append_toArray, List.nil_append, List.cons_append]
  gi_wp2
  go_ret
  exact ⟨rfl, rfl⟩

theorem weakenB {gf : Nat} {lb : Array Value} {xs : List Int} {D M : Blk} {I0 : World → Prop} {I : List Int → World → Prop} (it : Iter Tryz.prog gf lb encI xs D M I0 I)
    (h : ∀ pre W, I pre W → I0 W) (hM : ∀ W W', I0 W → I0 W' → ∀ k, M k → W'.heap[k]? = W.heap[k]?) : Iter Tryz.prog gf lb encI xs D No I0 (fun _ => I0) := {
  sub := fun _ h => h.elim
  lt0 := it.lt0
  kept0 := it.kept0
  kept := fun h => it.kept0 h
  runs := fun l J Jx S W pJ pJx hY hI hJ hDS => (it.runs l J Jx S W pJ pJx hY hI hJ hDS).mono fun e W' h' => by
    obtain ⟨hv, ys, S', hj, hi, c, g⟩ := h'
    refine ⟨hv, ys, S', hj, h ys W' hi, c.less (fun k hk hm hn => ?_), g⟩
    rcases hm with hm | hm
    · exact hM W W' hI (h ys W' hi) k hm
    · exact (hn (.inr hm)).elim }

/-- What of the sequence's numbers is in the set, as a sequence. -/
theorem filterB_seq {gs : Nat} {lbs : Array Value} {xs : List Int} {D : Blk} (b m : Nat) (f : Int → Bool) (w : World) (hs : PSeq w gs lbs xs D) (hr : ∀ x ∈ xs, -1000000 ≤ x ∧ x ≤ 1000000) (h : MpU w b m f) (hD : ¬ D b) :
    CallsIn Fence.wide 0 Tryz.prog 59 #[.func (.func gs) #[] lbs, .func (.func 33) #[.map (some b)] #[]] w fun e w' =>
    ∃ gf lb D', e = .returned (.func (.func gf) #[] lb) ∧ PSeq w' gf lb (xs.filter f) D' ∧ Chg No w w' := by
  refine (filterB_in gs lbs 33 (.map (some b)) w).mono ?_
  rintro e w' ⟨rfl, rfl⟩
  have c : Chg No w ((w.alloc (.cells #[.func (.func gs) #[] lbs] 75)).alloc (.cells #[.func (.func 33) #[.map (some b)] #[]] 72)) := ((Chg.refl _ w).alloc _).alloc _
  have b1 := (Boxed.new w 75 (.func (.func gs) #[] lbs)).alloc (.cells #[.func (.func 33) #[.map (some b)] #[]] 72)
  have b2 := Boxed.new (w.alloc (.cells #[.func (.func gs) #[] lbs] 75)) 72 (.func (.func 33) #[.map (some b)] #[])
  rw [World.size_alloc] at b2
  have hs' := hs.no c
  have hbl := h.lt
  obtain ⟨I0', it', hi', _⟩ := hs
  have l1 := it'.lt0 hi'
  obtain ⟨I0, it, hi, eg⟩ := hs'
  have fn : Fun1B Tryz.prog 33 (.map (some b)) (fun x : Int => .int .i64 x) (fun x => .bool (f x)) (fun x => -1000000 ≤ x ∧ x ≤ 1000000) (fun k => k = b) (fun _ W => W.heap[b]? = w.heap[b]?) := {
    lt := by
      rintro k W hW j rfl
      exact (h.kept hW).lt
    kept := by
      rintro k W W' hW _ hk
      exact (hk b rfl).trans hW
    runs := fun k x W hx hW => (hasU_in b m f x W (h.kept hW) hx).mono (by
      rintro e W' ⟨rfl, c'⟩
      exact ⟨rfl, (c'.block b (h.kept hW).lt (fun h => h)).trans hW, c'.mono (fun _ h => h.elim)⟩) }
  have n1 : ∀ k, D k → k ≠ w.heap.size ∧ k ≠ w.heap.size + 1 := fun k hk => by have := l1 k hk; omega
  refine ⟨_, _, _, rfl, ⟨_, weakenB (filterB1 it eg hr fn (enters_of Tryz.func33 (by kernel_rfl) rfl) 0 w.heap.size (w.heap.size + 1) (by omega) (fun h => (n1 _ h).1 rfl) (fun h => (n1 _ h).2 rfl) (by omega) (by omega) (fun k hk e => hD (e ▸ hk))) ?_ ?_, ⟨b1, b2, hi, c.block b hbl (fun h => h)⟩, enters_of Tryz.func83 (by kernel_rfl) rfl⟩, c⟩
  · rintro pre W ⟨b1, b2, zs, _, _, i1, i2⟩
    exact ⟨b1, b2, i1, i2⟩
  · rintro W W' ⟨_, _, _, i1⟩ ⟨_, _, _, i2⟩ k (h | h)
    · exact h.elim
    · subst h; exact Eq.trans i2 (Eq.symm i1)

theorem listB_seq {gs : Nat} {lbs : Array Value} {xs : List Int} {D : Blk} (hlen : xs.length ≤ 1000000) (w : World) (hs : PSeq w gs lbs xs D) :
    CallsIn Fence.wide 0 Tryz.prog 58 #[.func (.func gs) #[] lbs] w fun e w' => ∃ v, e = .returned v ∧ OwnI w' w.heap.size v xs ∧ Chg No w w' := by
  obtain ⟨I0, it, hi, eg⟩ := hs
  refine (list_in it eg hlen w hi).mono ?_
  rintro e w' ⟨v, rfl, hr, _, c⟩
  exact ⟨v, rfl, hr, c⟩

end Go.Proofs.YtakbeololabmhaaGreatDoor

end
section
-- RRev
namespace Go.DagLib
open Go.RepoLib

/-- The list with k ends exchanged on either side. -/
def revK (l : List Int) (k : Nat) : List Int := (List.range l.length).map (fun i => if i < k ∨ l.length - k ≤ i then l.getD (l.length - 1 - i) 0 else l.getD i 0)
theorem revK_length (l : List Int) (k : Nat) : (revK l k).length = l.length := by unfold revK; rw [List.length_map, List.length_range]
theorem revK_at {l : List Int} {k i : Nat} (h : i < l.length) : (revK l k)[i]? = some (if i < k ∨ l.length - k ≤ i then l.getD (l.length - 1 - i) 0 else l.getD i 0) := by
  unfold revK
  rw [List.getElem?_map, List.getElem?_range h]
  rfl
theorem revK_none {l : List Int} {k i : Nat} (h : ¬ i < l.length) : (revK l k)[i]? = none := by rw [List.getElem?_eq_none_iff, revK_length]; omega
theorem getD_at {l : List Int} {i : Nat} (h : i < l.length) : l[i]? = some (l.getD i 0) := by
  rw [List.getD_eq_getElem?_getD, List.getElem?_eq_getElem h]
  rfl
theorem revK_zero (l : List Int) : revK l 0 = l := by
  refine List.ext_getElem? fun i => ?_
  by_cases h : i < l.length
  · rw [revK_at h, if_neg (by omega), getD_at h]
  · rw [revK_none h, List.getElem?_eq_none_iff.2 (by omega)]
theorem revK_lo {l : List Int} {k : Nat} (h : 2 * k + 1 < l.length) : (revK l k)[k]? = some (l.getD k 0) := by rw [revK_at (by omega), if_neg (by omega)]
theorem revK_hi {l : List Int} {k : Nat} (h : 2 * k + 1 < l.length) : (revK l k)[l.length - 1 - k]? = some (l.getD (l.length - 1 - k) 0) := by rw [revK_at (by omega), if_neg (by omega)]
theorem revK_step {l : List Int} {k : Nat} (h : 2 * k + 1 < l.length) : ((revK l k).set k (l.getD (l.length - 1 - k) 0)).set (l.length - 1 - k) (l.getD k 0) = revK l (k + 1) := by
  refine List.ext_getElem? fun i => ?_
  rw [List.getElem?_set, List.length_set, List.getElem?_set, revK_length]
  by_cases hi : i < l.length
  · rw [revK_at hi, revK_at hi]
    by_cases e1 : l.length - 1 - k = i
    · rw [if_pos e1, if_pos (by omega), if_pos (by omega), show l.length - 1 - i = k from by omega]
    · rw [if_neg e1]
      by_cases e2 : k = i
      · subst e2
        rw [if_pos rfl, if_pos hi, if_pos (by omega)]
      · rw [if_neg e2]
        by_cases e3 : i < k ∨ l.length - k ≤ i
        · rw [if_pos e3, if_pos (by omega)]
        · rw [if_neg e3, if_neg (by omega)]
  · rw [revK_none hi, revK_none hi]
    split
    · omega
    · split
      · omega
      · rfl
theorem revK_end {l : List Int} {k : Nat} (h1 : 2 * k ≤ l.length) (h2 : ¬ 2 * k + 1 < l.length) : revK l k = l.reverse := by
  refine List.ext_getElem? fun i => ?_
  by_cases hi : i < l.length
  · rw [revK_at hi, List.getElem?_reverse hi, getD_at (by omega)]
    congr 1
    by_cases e : i < k ∨ l.length - k ≤ i
    · rw [if_pos e]
    · rw [if_neg e, show l.length - 1 - i = i from by omega]
  · rw [revK_none hi, List.getElem?_eq_none_iff.2 (by rw [List.length_reverse]; omega)]

/-- What two commits have in common, by falling numbers. -/
def comF (L : List Cm) (a b : Int) : List Int := (aheadI L b).filter (fun x => decide (x ∈ aheadI L a))
theorem comF_mem {L : List Cm} {a b x : Int} : x ∈ comF L a b ↔ x ∈ comL L a b := by
  unfold comF
  rw [List.mem_filter, decide_eq_true_iff, com_mem, and_comm]
theorem comF_falls (L : List Cm) (a b : Int) : (comF L a b).Pairwise (fun x y => y < x) := List.Pairwise.filter _ (aheadI_falls' b)
theorem comF_rev (L : List Cm) (a b : Int) : (comF L a b).reverse = comL L a b := by
  refine rise_ext ?_ (com_rise a b) (fun x => ?_)
  · rw [List.pairwise_reverse]
    exact comF_falls L a b
  · rw [List.mem_reverse, comF_mem]
theorem comF_len (L : List Cm) (a b : Int) : (comF L a b).length ≤ L.length := by
  have := com_len (L := L) a b
  rw [← comF_rev, List.length_reverse] at this
  exact this

/-- Kept, if none that is kept came of it. -/
def keepF (L : List Cm) (acc : List Int) (n : Int) : List Int := if acc.any (fun m => decide (n ∈ aheadI L m)) = true then acc else acc ++ [n]
def keepsF (L : List Cm) (l : List Int) : List Int := l.foldl (keepF L) []
theorem keepsF_snoc (L : List Cm) (l : List Int) (n : Int) : keepsF L (l ++ [n]) = keepF L (keepsF L l) n := by unfold keepsF; rw [List.foldl_append]; rfl
/-- By one number more at the end. -/
theorem snoc_ind {P : List Int → Prop} (h0 : P []) (h1 : ∀ l n, P l → P (l ++ [n])) (l : List Int) : P l := by
  have : ∀ m : List Int, P m.reverse := fun m => by
    induction m with
    | nil => exact h0
    | cons x m ih => rw [List.reverse_cons]; exact h1 _ _ ih
  rw [← List.reverse_reverse l]
  exact this _
theorem keepsF_facts {L : List Cm} (hl : Low (parL L)) : ∀ l : List Int, l.Pairwise (fun x y => y < x) → (∀ x ∈ l, 1 ≤ x ∧ x ≤ (L.length : Int)) →
    (keepsF L l).Sublist l ∧ (∀ x ∈ l, ∃ y ∈ keepsF L l, x ∈ aheadI L y) ∧ ∀ x ∈ keepsF L l, ∀ y ∈ l, x = y ∨ ¬ x ∈ aheadI L y := by
  refine snoc_ind ?_ ?_
  · intro _ _
    exact ⟨List.Sublist.refl _, fun x hx => absurd hx (by simp), fun x hx => absurd hx (by simp [keepsF])⟩
  · intro l n ih hf hr
    obtain ⟨f1, _, f3⟩ := List.pairwise_append.1 hf
    obtain ⟨i1, i2, i3⟩ := ih f1 (fun x hx => hr x (List.mem_append_left _ hx))
    have hn := hr n (by simp)
    rw [keepsF_snoc]
    unfold keepF
    cases ha : (keepsF L l).any (fun m => decide (n ∈ aheadI L m)) with
    | true =>
      rw [if_pos rfl]
      obtain ⟨m, hm, hnm⟩ := List.any_eq_true.1 ha
      rw [decide_eq_true_iff] at hnm
      refine ⟨i1.trans (List.sublist_append_left _ _), fun x hx => ?_, fun x hx y hy => ?_⟩
      · rcases List.mem_append.1 hx with h | h
        · exact i2 x h
        · obtain rfl : x = n := by simpa using h
          exact ⟨m, hm, hnm⟩
      · rcases List.mem_append.1 hy with h | h
        · exact i3 x hx y h
        · obtain rfl : y = n := by simpa using h
          refine .inr (fun e => ?_)
          have := aheadI_le hl e
          have := f3 x (i1.subset hx) y (by simp)
          omega
    | false =>
      rw [if_neg (by decide)]
      have hno : ∀ m ∈ keepsF L l, ¬ n ∈ aheadI L m := fun m hm e => by
        have := List.any_eq_false.1 ha m hm
        exact this (decide_eq_true e)
      refine ⟨i1.append (List.Sublist.refl _), fun x hx => ?_, fun x hx y hy => ?_⟩
      · rcases List.mem_append.1 hx with h | h
        · obtain ⟨y, hy, e⟩ := i2 x h
          exact ⟨y, List.mem_append_left _ hy, e⟩
        · obtain rfl : x = n := by simpa using h
          exact ⟨x, by simp, aheadI_self hl hn.1 hn.2⟩
      · rcases List.mem_append.1 hx with h | h
        · rcases List.mem_append.1 hy with h' | h'
          · exact i3 x h y h'
          · obtain rfl : y = n := by simpa using h'
            refine .inr (fun e => ?_)
            have := aheadI_le hl e
            have := f3 x (i1.subset h) y (by simp)
            omega
        · obtain rfl : x = n := by simpa using h
          rcases List.mem_append.1 hy with h' | h'
          · refine .inr (fun e => ?_)
            obtain ⟨z, hz, e2⟩ := i2 y h'
            exact hno z hz (aheadI_trans hl e e2)
          · obtain rfl : y = x := by simpa using h'
            exact .inl rfl
theorem keepsF_best {L : List Cm} (hl : Low (parL L)) (a b : Int) : (keepsF L (comF L a b)).reverse = bestL L a b := by
  obtain ⟨i1, i2, i3⟩ := keepsF_facts hl (comF L a b) (comF_falls L a b) (fun x hx => (aheadI_range' (com_mem.1 (comF_mem.1 hx)).1).1)
  refine rise_ext ?_ (best_rise a b) (fun x => ?_)
  · rw [List.pairwise_reverse]
    exact List.Pairwise.sublist i1 (comF_falls L a b)
  · rw [List.mem_reverse, best_mem]
    constructor
    · intro hx
      exact ⟨comF_mem.1 (i1.subset hx), fun y hy => i3 x hx y (comF_mem.2 hy)⟩
    · rintro ⟨h1, h2⟩
      obtain ⟨y, hy, e⟩ := i2 x (comF_mem.2 h1)
      rcases h2 y (comF_mem.1 (i1.subset hy)) with e2 | e2
      · rw [e2]; exact hy
      · exact absurd e e2
theorem keepsF_len (L : List Cm) (l : List Int) : (keepsF L l).length ≤ l.length := by
  refine snoc_ind (P := fun l => (keepsF L l).length ≤ l.length) (Nat.le_refl _) (fun l n ih => ?_) l
  show (keepsF L (l ++ [n])).length ≤ (l ++ [n]).length
  rw [keepsF_snoc, List.length_append]
  unfold keepF
  split
  · exact Nat.le_trans ih (Nat.le_add_right _ _)
  · rw [List.length_append]
    exact Nat.add_le_add_right ih _
end Go.DagLib

end
