/-
  Of: FDrop, FGet, FRefA, MCm, RSameI, RSameC.
-/
import Derived.Test.YtakbeololabmhaaGreatDoorG03
import Derived.Test.YtakbeololabmhaaGreatDoorG01
import Derived.Test.YtakbeololabmhaaGreatDoorG02
import Derived.Deep.QuietTactic
import Derived.BigQuiet
import Derived.Shelf.RegionOpen
import Derived.Sort.QuietThIn
section
-- FDrop
namespace Go.Proofs.YtakbeololabmhaaGreatDoor
open Go.RowKit Go.Shelf Go.SeqLib Go.DiffLib Go.TreeLib
attribute [local go_sem] Oper.semAt_some

theorem weakenA {α : Type} {P : Program} {gf : Nat} {lb : Array Value} {encs : α → Array Value} {xs : List α} {D M : Blk} {I0 : World → Prop} {I : List α → World → Prop} (it : Iter P gf lb encs xs D M I0 I)
    (h : ∀ pre W, I pre W → I0 W) (hM : ∀ W W', I0 W → I0 W' → ∀ k, M k → W'.heap[k]? = W.heap[k]?) : Iter P gf lb encs xs D No I0 (fun _ => I0) := {
  sub := fun _ h => h.elim
  lt0 := it.lt0
  kept0 := it.kept0
  kept := fun h => it.kept0 h
  runs := fun l J Jx S W pJ pJx hY hI hJ hDS => (it.runs l J Jx S W pJ pJx hY hI hJ hDS).mono fun e W' h' => by
    obtain ⟨hv, ys, S', hj, hi, c, g⟩ := h'
    refine ⟨hv, ys, S', hj, h ys W' hi, c.less (fun k hk hm hn => ?_), g⟩
    rcases hm with hm | hm
    · exact hM W W' hI (h ys W' hi) k hm
    · exact (hn (.inr hm)).elim }

/-- A sequence of files that turns nothing, over the blocks D: told by encs. -/
def PSeqA (encs : Fl → Array Value) (W : World) (gf : Nat) (lb : Array Value) (xs : List Fl) (D : Blk) : Prop :=
  ∃ I0, Iter Tryz.prog gf lb encs xs D No I0 (fun _ => I0) ∧ I0 W ∧ ∀ args w, (callFunc gf args).run Tryz.prog w = .ok (.enter gf args) w
section
variable {encs : Fl → Array Value} {W W' : World} {gf : Nat} {lb : Array Value} {xs : List Fl} {D : Blk}
end

set_option maxRecDepth 100000 in
set_option maxHeartbeats 1000000 in
theorem cloneF_in (v : Value) (zs : List Fl) (hlen : zs.length ≤ 100000) (w : World) (hv : SlF w v zs) : CallsIn Fence.wide 0 Tryz.prog 64 #[v] w fun e w' =>
    ∃ v', e = .returned v' ∧ OwnF w' w.heap.size v' zs ∧ Chg No w w' := by
  obtain ⟨p, cap, rfl, h1, h2⟩ := hv.slice
  cases p with
  | none =>
    have hz : zs = [] := by
      cases zs with
      | nil => rfl
      | cons x r => obtain ⟨b, off, h, _⟩ := SlF.at hv 0 x rfl; cases h
    subst hz
    have hnil := fun w => run_eql_slice_nil' Tryz.underlying30 none 0 cap w
    simp only [Option.isNone_none] at hnil
    refine callsIn_of_wp Tryz.func64 rfl trivial ?_
    simp only [Tryz.ntmps64, List.size_toArray, List.length_cons, List.length_nil, Nat.reduceAdd, Nat.reduceSub, Array.replicate_succ, Array.replicate_zero, List.push_toArray, List.append_toArray, List.nil_append, List.cons_append]
    gi_wp2
    go_ret
    exact ⟨_, rfl, OwnF.nil _ _, Chg.refl _ _⟩
  | some a =>
    have hnil := fun w => run_eql_slice_nil' Tryz.underlying30 (some a) zs.length cap w
    simp only [Option.isNone_some] at hnil
    refine callsIn_of_wp Tryz.func64 rfl trivial ?_
    simp only [Tryz.ntmps64, List.size_toArray, List.length_cons, List.length_nil, Nat.reduceAdd, Nat.reduceSub, Array.replicate_succ, Array.replicate_zero, List.push_toArray, List.append_toArray, List.nil_append, List.cons_append]
    have hown0 : OwnF (w.alloc (.cells #[] 49)) w.heap.size (.slice (some ⟨w.heap.size, 0, none⟩) 0 0) [] := World.ownsRow_made w #[] 0 (Nat.le_refl _) (Nat.zero_le _) rfl
    have hsl : SlF (w.alloc (.cells #[] 49)) (.slice (some a) zs.length cap) zs := hv.no ((Chg.refl _ w).alloc _)
    clear hv
    gi_wp2_with (gi_at_builtin; refine wpListIn_append_sf _ rfl _ _ rfl w.heap.size _ [] rfl hown0 (some a) zs.length cap zs rfl hsl (by simp; omega) (by simp) ?_; intro v' w1 hown' hgrow hat; rw [List.nil_append] at hown'; obtain ⟨p', c', rfl⟩ := hown'.slice)
    go_ret
    refine ⟨_, rfl, hown', ((Chg.refl _ w).alloc _).grown hgrow (fun k e => .inr ?_)⟩
    cases e
    exact Nat.le_refl _

theorem filesT_in (v : Value) (zs : List Fl) (w : World) (hv : SlF w v zs) : CallsIn Fence.wide 0 Tryz.prog 56 #[v] w fun e w' =>
    ∃ gf lb D, e = .returned (.func (.func gf) #[] lb) ∧ PSeqA encP w' gf lb zs D ∧ Chg No w w' ∧ ∀ k, D k → slE v zs k ∨ k = w.heap.size := by
  have hlt := hv.lt
  obtain ⟨p', c', rfl, _⟩ := hv.slice
  refine callsIn_of_wp Tryz.func56 rfl trivial ?_
  simp only [Tryz.ntmps56, List.size_toArray, List.length_cons, List.length_nil, Nat.reduceAdd, Nat.reduceSub, Array.replicate_succ, Array.replicate_zero, List.push_toArray, List.append_toArray, List.nil_append, List.cons_append]
  gi_wp2
  go_ret
  refine ⟨_, _, _, rfl, ⟨_, weakenA (files1 (.slice p' zs.length c') zs w.heap.size (fun h => by have := hlt _ h; omega)) (fun _ _ h => h) (fun _ _ _ _ _ h => h.elim), ⟨Boxed.new _ _ _, hv.no ((Chg.refl _ w).alloc _)⟩, enters_of Tryz.func80 (by kernel_rfl) rfl⟩, (Chg.refl _ w).alloc _, ?_⟩
  rintro k (h | h)
  · exact .inr h
  · exact .inl h

theorem sameT_in (v u : Value) (xs ys : List Fl) (w : World) (hv : SlF w v xs) (hu : SlF w u ys) (hx : xs.length ≤ 1000000) :
    CallsIn Fence.wide 0 Tryz.prog 89 #[v, u] w fun e w' => e = .returned (.bool (decide (xs = ys))) ∧ Chg No w w' := by
  refine callsIn_of_wp Tryz.func89 rfl trivial ?_
  simp only [Tryz.ntmps89, List.size_toArray, List.length_cons, List.length_nil, Nat.reduceAdd, Nat.reduceSub, Array.replicate_succ, Array.replicate_zero, List.push_toArray, List.append_toArray, List.nil_append, List.cons_append]
  gi_wp2_with fail
  refine ⟨trivial, rfl, (equalF_in v u xs ys _ hv hu hx).mono ?_⟩
  rintro e w1 ⟨rfl, c⟩
  gi_wp2
  go_ret
  exact ⟨rfl, c⟩

end Go.Proofs.YtakbeololabmhaaGreatDoor

end
section
-- FGet
namespace Go.Proofs.YtakbeololabmhaaGreatDoor
open Go.RowKit Go.Shelf Go.SeqLib Go.DiffLib Go.TreeLib
attribute [local go_sem] Oper.semAt_some

theorem results_cell2 {fn : Func} {p q : Tmp} {t u : TypeId} (h : fn.results = #[.cell p t, .cell q u]) (tmps : Array Value) (P : Program) (w : World) :
    (results fn tmps).run P w = ((asAddr (tmps.getD p undef)).run P w).andThen fun a w₁ => ((loadVar t a).run P w₁).andThen fun x w₂ => ((asAddr (tmps.getD q undef)).run P w₂).andThen fun b w₃ => ((loadVar u b).run P w₃).andThen fun y w₄ => .ok (.tuple #[x, y]) w₄ := by
  simp only [results, h]
  simp [Sem.run_bind, Result.andThen]

/-- What Get answers. -/
abbrev getD (zs : List Fl) (p : ByteArray) : ByteArray := (TreeLib.get zs p).getD ⟨#[]⟩

theorem get_at {xs pre : List Fl} {x : Fl} (hpre : pre ++ [x] <+: xs) (h : ∀ f ∈ pre, f.1 ≠ x.1) : TreeLib.get xs x.1 = some x.2 := by
  obtain ⟨r, rfl⟩ := hpre
  unfold TreeLib.get
  rw [List.append_assoc, fil_app, fil_nil_of h, List.nil_append, List.singleton_append, fil_cons, if_pos rfl]
  rfl

set_option maxRecDepth 100000 in
set_option maxHeartbeats 1000000 in
theorem get_in (v : Value) (zs : List Fl) (p : ByteArray) (w : World) (hv : SlF w v zs) : CallsIn Fence.wide 0 Tryz.prog 94 #[v, .string p] w fun e w' =>
    e = .returned (.tuple #[.string (getD zs p), .bool (TreeLib.get zs p).isSome]) ∧ Chg No w w' := by
  have c00 : Chg No w (((w.alloc (.cells #[.string p] 9)).alloc (.cells #[.string ⟨#[]⟩] 9)).alloc (.cells #[.bool false] 4)) := (((Chg.refl _ w).alloc _).alloc _).alloc _
  have hv0 := hv.no c00
  have hlt := hv.lt
  refine callsIn_of_wp_marks Tryz.func94 rfl trivial ?_
  simp only [Tryz.ntmps94, List.size_toArray, List.length_cons, List.length_nil, Nat.reduceAdd, Nat.reduceSub, Array.replicate_succ, Array.replicate_zero, List.push_toArray, List.append_toArray, List.nil_append, List.cons_append]
  gi_wp2_with fail
  refine ⟨trivial, rfl, (filesT_in v zs _ hv0).mono ?_⟩
  rintro e w1 ⟨g1, l1, D1, rfl, ⟨I0, it, hI, eg⟩, c1, hD1⟩
  have b0 : Boxed w1 w.heap.size 9 (.string p) := c1.boxed (((Boxed.new w 9 (.string p)).alloc _).alloc _) (fun h => h)
  have b1 : Boxed w1 (w.heap.size + 1) 9 (.string ⟨#[]⟩) := by
    have := (Boxed.new (w.alloc (.cells #[.string p] 9)) 9 (.string ⟨#[]⟩)).alloc (.cells #[.bool false] 4)
    rw [World.size_alloc] at this
    exact c1.boxed this (fun h => h)
  have b2 : Boxed w1 (w.heap.size + 2) 4 (.bool false) := by
    have := Boxed.new ((w.alloc (.cells #[.string p] 9)).alloc (.cells #[.string ⟨#[]⟩] 9)) 4 (.bool false)
    rw [World.size_alloc, World.size_alloc] at this
    exact c1.boxed this (fun h => h)
  have c0 : Chg No w w1 := Chg.seq c00 c1
  have hlow : ∀ k, D1 k → k < w.heap.size ∨ w.heap.size + 3 ≤ k := fun k hk => by
    rcases hD1 k hk with h | h
    · exact .inl (hlt k h)
    · simp at h; exact .inr (by omega)
  clear c1 hD1 c00 hv0
  gi_wp2
  have pK : ∀ (d : ByteArray) (b : Bool), Part (fun S W => S = (fun k => k = w.heap.size ∨ k = w.heap.size + 1 ∨ k = w.heap.size + 2) ∧ Boxed W w.heap.size 9 (.string p) ∧ Boxed W (w.heap.size + 1) 9 (.string d) ∧ Boxed W (w.heap.size + 2) 4 (.bool b)) := fun d b =>
    ⟨by
      rintro S W ⟨rfl, h1, h2, h3⟩ k (h | h | h)
      · subst h; exact h1.lt
      · subst h; exact h2.lt
      · subst h; exact h3.lt, by
      rintro S W W' ⟨rfl, h1, h2, h3⟩ hs hk
      exact ⟨rfl, (hk _ (.inl rfl)).trans h1, (hk _ (.inr (.inl rfl))).trans h2, (hk _ (.inr (.inr rfl))).trans h3⟩⟩
  refine wpIn_range (gf := g1) (lb := l1) rfl eg it (fun _ => rfl)
    (fun pre S W => (S = (fun k => k = w.heap.size ∨ k = w.heap.size + 1 ∨ k = w.heap.size + 2) ∧ Boxed W w.heap.size 9 (.string p) ∧ Boxed W (w.heap.size + 1) 9 (.string ⟨#[]⟩) ∧ Boxed W (w.heap.size + 2) 4 (.bool false)) ∧ (∀ f ∈ pre, f.1 ≠ p))
    (fun c pre S W => ∃ d, (S = (fun k => k = w.heap.size ∨ k = w.heap.size + 1 ∨ k = w.heap.size + 2) ∧ Boxed W w.heap.size 9 (.string p) ∧ Boxed W (w.heap.size + 1) 9 (.string d) ∧ Boxed W (w.heap.size + 2) 4 (.bool true)) ∧ (c = .ret ∧ TreeLib.get zs p = some d))
    (fun pre => (pK _ _).andP _) (fun c pre => Part.ex fun d => (pK d true).andP _)
    (S := fun k => k = w.heap.size ∨ k = w.heap.size + 1 ∨ k = w.heap.size + 2) hI ⟨⟨rfl, b0, b1, b2⟩, by simp⟩
    (fun k hk h => by have := hlow k hk; omega)
    (fun x => { tmps := #[v, .string p, undef, .pointer (some ⟨w.heap.size, 0, none⟩), .pointer (some ⟨w.heap.size + 1, 0, none⟩), .pointer (some ⟨w.heap.size + 2, 0, none⟩), .string x.1, .string x.2, v, .func (.func g1) #[] l1, .string x.1, .string x.2, undef, undef, undef, undef], defers := [] }) ?assign ?body ?done ?stop
  case assign =>
    intro l x W K hK
    gi_wp2
    simpa using hK
  case body =>
    rintro lr pre x S2 W hpre ⟨⟨rfl, h0, h1, h2⟩, hall⟩
    have hc0 := h0.cell
    have hc1 := h1.cell
    have hf1 := h1.frozen
    have hc2 := h2.cell
    have hf2 := h2.frozen
    have h2' := h2.other (show w.heap.size + 2 ≠ w.heap.size + 1 by omega) (.string x.2)
    have hc2' := h2'.cell
    have hf2' := h2'.frozen
    by_cases hx : x.1 = p
    · have hb : (x.1.toList == p.toList) = true := by rw [hx]; simp
      have HG : Hid (TreeLib.get zs p = some x.2) := by
        have := get_at hpre (fun f hf => by rw [hx]; exact hall f hf)
        rw [hx] at this
        exact this
      clear hx hall
      gi_wp2
      refine ⟨_, ((Chg.refl _ W).setCell (p := ⟨w.heap.size + 1, 0, none⟩) (.inl (.inr (.inl rfl))) _).setCell (p := ⟨w.heap.size + 2, 0, none⟩) (.inl (.inr (.inr rfl))) _, Grew.refl _ _, x.2, ⟨rfl, (h0.other (by omega) _).other (by omega) _, (h1.set _).other (by omega) _, h2'.set _⟩, rfl, HG.out⟩
    · have hb : (x.1.toList == p.toList) = false := by rw [beq_eq_false_iff_ne]; exact fun e => hx (toList_inj e)
      have HA : Hid (∀ f ∈ pre ++ [x], f.1 ≠ p) := fun f hf => by
        rcases List.mem_append.1 hf with h | h
        · exact hall f h
        · rw [List.mem_singleton] at h; rw [h]; exact hx
      clear hx hall
      gi_wp2
      exact ⟨_, Chg.refl _ _, Grew.refl _ _, ⟨rfl, h0, h1, h2⟩, HA.out⟩
  case done =>
    rintro d S' W hd ⟨⟨rfl, h0, h1, h2⟩, hall⟩ hI' hc hg hK hnd
    have HG : Hid (TreeLib.get zs p = none) := get_none.2 hall
    have hc1 := h1.cell
    have hf1 := h1.frozen
    have h2' := h2.other (show w.heap.size + 2 ≠ w.heap.size + 1 by omega) (.string ⟨#[]⟩)
    have hc2 := h2'.cell
    have hf2 := h2'.frozen
    have hd1 : d ≠ w.heap.size + 1 := fun e => hnd (.inr (.inl e))
    have hd2 : d ≠ w.heap.size + 2 := fun e => hnd (.inr (.inr e))
    have hd3 : w.heap.size ≤ d := Nat.le_trans c0.size hd
    clear hall
    have hcc : Chg No w W := c0.trans hc (fun k hk => by
      rcases hk with h | h | h | h
      · exact h.elim
      · exact .inr (by omega)
      · exact .inr (by omega)
      · exact .inr (by omega))
    gi_wp2
    have hK' : ((W.setCell ⟨w.heap.size + 1, 0, none⟩ (.string ⟨#[]⟩)).setCell ⟨w.heap.size + 2, 0, none⟩ (.bool false)).heap[d]? = some (.deferred (some [])) := (Below.heap_setCell _ _ _ d (fun e => hd2 e)).trans ((Below.heap_setCell W _ _ d (fun e => hd1 e)).trans hK)
    refine ⟨by simp, .inl ⟨_, _, rfl, run_takeDeferred hK', ?_⟩⟩
    have k1 : Boxed (((W.setCell ⟨w.heap.size + 1, 0, none⟩ (.string ⟨#[]⟩)).setCell ⟨w.heap.size + 2, 0, none⟩ (.bool false)).putObj d (.deferred none)) (w.heap.size + 1) 9 (.string ⟨#[]⟩) := (World.putObj_heap_other (fun e => hd1 e.symm)).trans ((h1.set _).other (by omega) _)
    have k2 : Boxed (((W.setCell ⟨w.heap.size + 1, 0, none⟩ (.string ⟨#[]⟩)).setCell ⟨w.heap.size + 2, 0, none⟩ (.bool false)).putObj d (.deferred none)) (w.heap.size + 2) 4 (.bool false) := (World.putObj_heap_other (fun e => hd2 e.symm)).trans (h2'.set _)
    have e1 := k1.cell
    have e2 := k2.cell
    refine ⟨.tuple #[.string ⟨#[]⟩, .bool false], ?_, ?_, ?_⟩
    · rw [results_cell2 rfl]
      go_simp
    · unfold getD; rw [HG.out]; rfl
    · exact Chg.putObj ((hcc.setCell (p := ⟨w.heap.size + 1, 0, none⟩) (.inr (by simp)) _).setCell (p := ⟨w.heap.size + 2, 0, none⟩) (.inr (by simp)) _) (.inr hd3) _
  case stop =>
    rintro d c pre S' W hd hpre ⟨dt, ⟨rfl, h0, h1, h2⟩, rfl, hget⟩ hI' hc hg hK hnd
    have HG : Hid (TreeLib.get zs p = some dt) := hget
    have hc1 := h1.cell
    have hc2 := h2.cell
    have hd1 : d ≠ w.heap.size + 1 := fun e => hnd (.inr (.inl e))
    have hd2 : d ≠ w.heap.size + 2 := fun e => hnd (.inr (.inr e))
    have hd3 : w.heap.size ≤ d := Nat.le_trans c0.size hd
    clear hget
    have hcc : Chg No w W := c0.trans hc (fun k hk => by
      rcases hk with h | h | h | h
      · exact h.elim
      · exact .inr (by omega)
      · exact .inr (by omega)
      · exact .inr (by omega))
    gi_wp2
    refine ⟨by simp, .inl ⟨_, _, rfl, run_takeDeferred hK, ?_⟩⟩
    have k1 : Boxed (W.putObj d (.deferred none)) (w.heap.size + 1) 9 (.string dt) := (World.putObj_heap_other (fun e => hd1 e.symm)).trans h1
    have k2 : Boxed (W.putObj d (.deferred none)) (w.heap.size + 2) 4 (.bool true) := (World.putObj_heap_other (fun e => hd2 e.symm)).trans h2
    have e1 := k1.cell
    have e2 := k2.cell
    refine ⟨.tuple #[.string dt, .bool true], ?_, ?_, ?_⟩
    · rw [results_cell2 rfl]
      go_simp
    · unfold getD; rw [HG.out]; rfl
    · exact Chg.putObj hcc (.inr hd3) _

end Go.Proofs.YtakbeololabmhaaGreatDoor

end
section
-- FRefA
namespace Go.TreeLib
open Go
theorem eqR_true {x y : ByteArray} (h : x = y) : (x.toList == y.toList) = true := by rw [h]; exact beq_self_eq_true _
theorem eqR_false {x y : ByteArray} (h : ¬ x = y) : (x.toList == y.toList) = false := beq_eq_false_iff_ne.2 (fun e => h (toList_inj e))
theorem get_first {t : List Fl} {p : ByteArray} {k : Nat} {x : Fl} (hx : t[k]? = some x) (hn : ∀ f ∈ t.take k, f.1 ≠ p) (he : x.1 = p) : get t p = some x.2 := by
  obtain ⟨hk, rfl⟩ := List.getElem?_eq_some_iff.1 hx
  have e : t = t.take k ++ t[k] :: t.drop (k + 1) := by rw [← List.drop_eq_getElem_cons hk, List.take_append_drop]
  unfold get
  conv => lhs; rw [e]
  rw [fil_app, fil_nil_of hn, fil_cons, if_pos he]
  rfl
end Go.TreeLib
namespace Go.Proofs.YtakbeololabmhaaGreatDoor
open Go.RowKit Go.Shelf Go.SeqLib Go.DiffLib Go.TreeLib
attribute [local go_sem] Oper.semAt_some

set_option maxRecDepth 100000 in
set_option maxHeartbeats 2000000 in
theorem refGet_in (v : Value) (zs : List Fl) (p : ByteArray) (w : World) (hv : SlF w v zs) : CallsIn Fence.wide 0 Tryz.prog 99 #[v, .string p] w fun e w' =>
    e = .returned (.tuple #[.string (getD zs p), .bool (TreeLib.get zs p).isSome]) ∧ Chg No w w' := by
  obtain ⟨p0, cap, rfl, _, hmx⟩ := hv.slice
  have hml : zs.length ≤ 9223372036854775807 := by unfold maxLen at hmx; omega
  obtain ⟨n, HN⟩ : ∃ n, Hid (zs.length = n) := ⟨_, rfl⟩
  rw [HN.out] at hv hml ⊢
  clear hmx
  refine callsIn_of_wp Tryz.func99 rfl trivial ?_
  simp only [Tryz.ntmps99, List.size_toArray, List.length_cons, List.length_nil, Nat.reduceAdd, Nat.reduceSub, Array.replicate_succ, Array.replicate_zero, List.push_toArray, List.append_toArray, List.nil_append, List.cons_append]
  gi_wp2
  gi_loopw [6] (fun i wr => ∃ k : Nat, k ≤ n ∧ i = .int .i64 (k : Int) ∧ Hid (∀ f ∈ zs.take k, f.1 ≠ p) ∧ wr = w) (fun i _ => n - (intOf i).toNat)
  case atStart => exact ⟨0, Nat.zero_le _, rfl, fun f hf => by simp at hf, rfl⟩
  case round =>
    obtain ⟨k, hk, rfl, HT, rfl⟩ := hrel
    by_cases hlt : k < n
    · have hlt' : (k : Int) < (n : Int) := by omega
      have hkl : k < zs.length := by rw [HN.out]; exact hlt
      obtain ⟨x, hx⟩ : ∃ x, zs[k]? = some x := ⟨_, List.getElem?_eq_getElem hkl⟩
      obtain ⟨b1, o1, rfl, hc1, hc2⟩ := SlF.at hv k x hx
      by_cases he : x.1 = p
      · have qe := eqR_true he
        have HR : Hid (TreeLib.get zs p = some x.2) := get_first hx HT.out he
        gi_wp2
        go_ret2
        exact ⟨by unfold getD; rw [HR.out]; rfl, Chg.refl _ _⟩
      · have qe := eqR_false he
        have HT2 : Hid (∀ f ∈ zs.take (k + 1), f.1 ≠ p) := by
          intro f hf
          rw [List.take_add_one, hx] at hf
          rcases List.mem_append.1 hf with h | h
          · exact HT.out f h
          · rw [List.mem_singleton.1 h]; exact he
        gi_wp2
        go_roundw
        case rel => exact ⟨k + 1, hlt, by go_num, HT2, trivial⟩
        case measure => simp [intOf]; omega
    · have hlt' : ¬ (k : Int) < (n : Int) := by omega
      have HR : Hid (TreeLib.get zs p = none) := get_none.2 (fun f hf => HT.out f (by rw [List.take_of_length_le (by rw [HN.out]; omega)]; exact hf))
      gi_wp2
      go_ret2
      exact ⟨by unfold getD; rw [HR.out]; rfl, Chg.refl _ _⟩

end Go.Proofs.YtakbeololabmhaaGreatDoor

end
section
-- MCm
namespace Go.Proofs.YtakbeololabmhaaGreatDoor
open Go.RowKit Go.Shelf Go.SeqLib Go.DiffLib Go.TreeLib Go.RepoLib Go.BigFrame
attribute [local go_sem] Oper.semAt_some

abbrev iv (n : Int) : Value := .int .i64 n
abbrev ptr (B : Nat) : Value := .pointer (some ⟨B, 0, none⟩)
/-- A commit's value, whose lists lie in blocks of D. -/
def CmD (D : Blk) (W : World) (v : Value) (c : Cm) : Prop :=
  ∃ p n k q m l, v = .agg #[.slice p n k, .slice q m l, .string c.2.2] ∧ SlV W (.slice p n k) (c.1.map iv) ∧ SlF W (.slice q m l) c.2.1 ∧ (∀ j, svD (.slice p n k) (c.1.map iv) j → D j) ∧ ∀ j, slE (.slice q m l) c.2.1 j → D j
section
variable {D D' S : Blk} {W W' : World} {v : Value} {c : Cm}
theorem CmD.chg (h : CmD D W v c) (k : Chg S W W') (hd : ∀ j, D j → ¬ S j) : CmD D W' v c := by
  obtain ⟨p, n, cap, q, m, l, rfl, h1, h2, h3, h4⟩ := h
  exact ⟨p, n, cap, q, m, l, rfl, h1.chg k (fun j hj => hd j (h3 j hj)), h2.chg k (fun j hj => hd j (h4 j hj)), h3, h4⟩
theorem CmD.no (h : CmD D W v c) (k : Chg No W W') : CmD D W' v c := h.chg k (fun _ _ h => h)
theorem CmD.mono (h : CmD D W v c) (hd : ∀ j, D j → D' j) : CmD D' W v c := by
  obtain ⟨p, n, cap, q, m, l, rfl, h1, h2, h3, h4⟩ := h
  exact ⟨p, n, cap, q, m, l, rfl, h1, h2, fun j hj => hd j (h3 j hj), fun j hj => hd j (h4 j hj)⟩
end

/-- A list of commits, each by its own lists and its note. -/
abbrev Rw := Value × Value × ByteArray
def eM (x : Rw) : List Value := [x.1, x.2.1, .string x.2.2]
theorem eM_len (x : Rw) : (eM x).length = 3 := rfl
structure LowM (b : Nat) (W : World) (v : Value) (rows : List Rw) (L : List Cm) : Prop where
  row : SlE 3 eM W v rows
  len : rows.length = L.length
  low : ∀ k, slE v rows k → k < b
  at_ : ∀ (i : Nat) (r : Rw) (c : Cm), rows[i]? = some r → L[i]? = some c → CmD (fun k => k < b) W (.agg #[r.1, r.2.1, .string r.2.2]) c
theorem LowM.chg {b : Nat} {S : Blk} {W W' : World} {v : Value} {rows : List Rw} {L : List Cm} (h : LowM b W v rows L) (k : Chg S W W') (hd : ∀ j, S j → b ≤ j) : LowM b W' v rows L :=
  ⟨h.row.chg eM_len (by decide) k (fun j hj hs => by have := h.low j hj; have := hd j hs; omega), h.len, h.low, fun i r c hr hc => (h.at_ i r c hr hc).chg k (fun j hj hs => by have := hd j hs; omega)⟩
theorem LowM.no {b : Nat} {W W' : World} {v : Value} {rows : List Rw} {L : List Cm} (h : LowM b W v rows L) (k : Chg No W W') : LowM b W' v rows L := h.chg k (fun _ hs => hs.elim)
theorem LowM.slice {b : Nat} {W : World} {v : Value} {rows : List Rw} {L : List Cm} (h : LowM b W v rows L) : ∃ p cap, v = .slice p L.length cap ∧ L.length ≤ cap ∧ cap ≤ maxLen := by
  obtain ⟨p, cap, e, h1, h2, _⟩ := h.row
  rw [h.len] at e h1
  exact ⟨p, cap, e, h1, h2⟩
theorem LowM.cell {b : Nat} {W : World} {p : Option Addr} {n cap : Nat} {rows : List Rw} {L : List Cm} (h : LowM b W (.slice p n cap) rows L) {i : Nat} {c : Cm} (hc : L[i]? = some c) :
    ∃ r b1 o1, rows[i]? = some r ∧ p = some ⟨b1, o1, none⟩ ∧ W.cell? ⟨b1, o1 + i * 3, none⟩ = some r.1 ∧ W.cell? ⟨b1, o1 + i * 3 + 1, none⟩ = some r.2.1 ∧ W.cell? ⟨b1, o1 + i * 3 + 2, none⟩ = some (.string r.2.2) ∧ CmD (fun k => k < b) W (.agg #[r.1, r.2.1, .string r.2.2]) c := by
  obtain ⟨hi, rfl⟩ := List.getElem?_eq_some_iff.1 hc
  have hir : i < rows.length := by rw [h.len]; exact hi
  have hr : rows[i]? = some rows[i] := List.getElem?_eq_getElem hir
  obtain ⟨p0, cap0, e, _, _, hcells⟩ := h.row
  cases e
  obtain ⟨b1, o1, rfl, hcell⟩ := hcells i _ hr
  exact ⟨rows[i], b1, o1, hr, rfl, hcell 0 _ rfl, hcell 1 _ rfl, hcell 2 _ rfl, h.at_ i _ _ hr hc⟩

/-- A commit that a walk may go through. -/
def SmallC (c : Cm) : Prop := c.1.length ≤ 5 ∧ c.2.1.length ≤ 16 ∧ (∀ f ∈ c.2.1, f.1.size ≤ 100 ∧ f.2.size ≤ 500) ∧ c.2.2.size ≤ 100
def greatC (c : Cm) : Bool := decide (5 < c.1.length) || (greatF c.2.1 16 || decide (100 < c.2.2.size))
theorem greatC_false {c : Cm} (h : greatC c = false) : SmallC c := by
  unfold greatC at h
  rw [Bool.or_eq_false_iff, Bool.or_eq_false_iff, decide_eq_false_iff_not, decide_eq_false_iff_not] at h
  obtain ⟨h1, h2, h3⟩ := h
  obtain ⟨h4, h5⟩ := greatF_false h2
  exact ⟨by omega, h4, h5, by omega⟩
def greatL (L : List Cm) (most : Nat) : Bool := decide (most < L.length) || L.any greatC
theorem greatL_false {L : List Cm} {most : Nat} (h : greatL L most = false) : L.length ≤ most ∧ ∀ c ∈ L, SmallC c := by
  unfold greatL at h
  rw [Bool.or_eq_false_iff, decide_eq_false_iff_not] at h
  exact ⟨by omega, fun c hc => greatC_false (by have := List.any_eq_false.1 h.2 c hc; simpa using this)⟩

/-- Two rows of unlike types lie apart. -/
theorem row_apart2 {W : World} {b b' : Nat} {e e' : TypeId} {s s' n n' : Nat} {v v' : Value} {xs xs' : List Value} (hne : e ≠ e') (h : W.ownsRow b e s v n xs) (h' : W.ownsRow b' e' s' v' n' xs') : ∀ k, v.ownBlock = some k → ¬ v'.ownBlock = some k := by
  rcases h.2 with ⟨rfl, _⟩ | ⟨g, cap, cur, rfl, hb, hgg, _⟩
  · intro k hk; cases hk
  · rcases h'.2 with ⟨rfl, _⟩ | ⟨g', cap', cur', rfl, hb', hgg', _⟩
    · intro k _ hk; cases hk
    · intro k hk hk'
      cases hk
      cases hk'
      rw [hgg] at hgg'
      cases hgg'
      exact hne rfl

set_option maxHeartbeats 1000000 in
theorem greatC_in (v : Value) (c : Cm) (D : Blk) (w : World) (hv : CmD D w v c) :
    CallsIn Fence.wide 0 Tryz.prog 22 #[v] w fun e w' => e = .returned (.bool (greatC c)) ∧ Chg No w w' := by
  obtain ⟨p, n, k, q, m, l, rfl, h1, h2, _, _⟩ := hv
  obtain ⟨c1, c2, c3⟩ := c
  dsimp only at h1 h2 ⊢
  have ca : Chg No w (w.alloc (.cells #[.slice p n k, .slice q m l, .string c3] 43)) := (Chg.refl _ w).alloc _
  have hn : n = c1.length := by obtain ⟨_, _, e, _⟩ := h1; cases e; simp
  have G1 := greatF_in (.slice q m l) c2 16 _ (h2.no ca)
  have HG : Hid (greatC (c1, c2, c3) = (decide (5 < c1.length) || (greatF c2 16 || decide (100 < c3.size)))) := rfl
  rw [HG.out]
  clear HG
  generalize greatF c2 16 = g at G1 ⊢
  rw [← hn]
  clear hn
  refine callsIn_of_wp Tryz.func22 rfl trivial ?_
  simp only [Tryz.ntmps22, List.size_toArray, List.length_cons, List.length_nil, Nat.reduceAdd, Nat.reduceSub, Array.replicate_succ, Array.replicate_zero, List.push_toArray, List.append_toArray, List.nil_append, List.cons_append]
  by_cases h5 : 5 < n
  · have h5' : (5 : Int) < (n : Int) := by omega
    rw [decide_eq_true h5]
    clear h5
    gi_wp2_with fail
    refine ⟨trivial, ?_⟩
    rename_i hKK
    apply hKK
    gi_wp2
    go_ret
    exact ⟨rfl, ca⟩
  · have h5' : ¬ (5 : Int) < (n : Int) := by omega
    rw [decide_eq_false h5]
    clear h5
    gi_wp2_with fail
    refine ⟨trivial, rfl, G1.mono ?_⟩
    rintro e w1 ⟨rfl, rfl⟩
    cases g with
    | true =>
      gi_wp2
      go_ret
      exact ⟨rfl, ca⟩
    | false =>
    gi_wp2
    go_ret
    refine ⟨?_, ca⟩
    have e1 : decide ((100 : Int) < ((c3.size : Nat) : Int)) = decide (100 < c3.size) := by rw [decide_eq_decide]; omega
    show Ending.returned (.bool (decide ((100 : Int) < ((c3.size : Nat) : Int)))) = _
    rw [e1]
    rfl

set_option maxHeartbeats 1000000 in
theorem greatL_in (v : Value) (rows : List Rw) (L : List Cm) (most b : Nat) (w : World) (hv : LowM b w v rows L) :
    CallsIn Fence.wide 0 Tryz.prog 6 #[v, .int .i64 (most : Int)] w fun e w' => e = .returned (.bool (greatL L most)) ∧ Chg No w w' := by
  obtain ⟨p, c1, rfl, hp1, hp2⟩ := hv.slice
  have hl1 : L.length ≤ 9223372036854775807 := by unfold maxLen at hp2; omega
  obtain ⟨n, HN⟩ : ∃ n, Hid (L.length = n) := ⟨_, rfl⟩
  rw [HN.out] at hv hl1 ⊢
  clear hp1 hp2
  have HG : Hid (greatL L most = (decide (most < n) || L.any greatC)) := by unfold greatL; rw [HN.out]; exact rfl
  refine callsIn_of_wp Tryz.func6 rfl trivial ?_
  simp only [Tryz.ntmps6, List.size_toArray, List.length_cons, List.length_nil, Nat.reduceAdd, Nat.reduceSub, Array.replicate_succ, Array.replicate_zero, List.push_toArray, List.append_toArray, List.nil_append, List.cons_append]
  gi_wp2
  by_cases hm : most < n
  · have hm1 : ¬ (n : Int) ≤ (most : Int) := by omega
    have hm2 : (most : Int) < (n : Int) := by omega
    have hm0 : (0 : Int) < (n : Int) := by omega
    have HG2 : Hid (greatL L most = true) := by rw [HG.out, decide_eq_true hm]; exact rfl
    clear hm
    gi_loopw [5] (fun i wr => i = .int .i64 0 ∧ wr = w) (fun i _ => 1 - (intOf i).toNat)
    case atStart => exact ⟨rfl, rfl⟩
    case round =>
      obtain ⟨rfl, rfl⟩ := hrel
      gi_wp2
      go_ret
      exact ⟨by rw [HG2.out]; rfl, Chg.refl _ _⟩
  · have hm1 : (n : Int) ≤ (most : Int) := by omega
    have hm2 : ¬ (most : Int) < (n : Int) := by omega
    have HG2 : Hid (greatL L most = L.any greatC) := by rw [HG.out, decide_eq_false hm]; exact rfl
    clear hm
    gi_loopw [5] (fun i wr => ∃ k : Nat, k ≤ n ∧ i = .int .i64 (k : Int) ∧ Hid (∀ x ∈ L.take k, greatC x = false) ∧ Chg No w wr) (fun i _ => n - (intOf i).toNat)
    case atStart => exact ⟨0, Nat.zero_le _, rfl, (fun x h => by simp at h), Chg.refl _ _⟩
    case round =>
      obtain ⟨k, hk, rfl, HT, c⟩ := hrel
      by_cases hlt : k < n
      · have hkz : k < L.length := by rw [HN.out]; exact hlt
        have hlt' : (k : Int) < (n : Int) := by omega
        obtain ⟨x, hx⟩ : ∃ x, L[k]? = some x := ⟨_, List.getElem?_eq_getElem hkz⟩
        obtain ⟨⟨r1, r2, r3⟩, b1, o1, _, rfl, hc1, hc2, hc3, hcm⟩ := (hv.no c).cell hx
        dsimp only at hc1 hc2 hc3 hcm
        have G1 := greatC_in _ x _ wr hcm
        obtain ⟨g, HGx⟩ : ∃ g, Hid (greatC x = g) := ⟨_, rfl⟩
        rw [HGx.out] at G1
        clear hcm
        gi_wp2_with fail
        refine ⟨trivial, rfl, G1.mono ?_⟩
        rintro e w1 ⟨rfl, k1⟩
        cases g with
        | true =>
          have HG3 : Hid (greatL L most = true) := by
            show _ = _
            rw [HG2.out, List.any_eq_true]
            exact ⟨x, List.mem_of_getElem? hx, HGx.out⟩
          gi_wp2
          go_ret
          exact ⟨by rw [HG3.out]; rfl, Chg.seq c k1⟩
        | false =>
          have HT2 : Hid (∀ y ∈ L.take (k + 1), greatC y = false) := by
            intro y hy
            rw [List.take_add_one, hx] at hy
            rcases List.mem_append.1 hy with h | h
            · exact HT.out y h
            · rw [List.mem_singleton.1 h]; exact HGx.out
          gi_wp2
          refine ⟨⟨k + 1, hlt, by go_num, HT2, Chg.seq c k1⟩, by simp [intOf]; omega⟩
      · obtain rfl : k = n := by omega
        have hlt' : ¬ (k : Int) < (k : Int) := by omega
        have HG3 : Hid (greatL L most = false) := by
          show _ = _
          rw [HG2.out, List.any_eq_false]
          intro x hx
          rw [HT.out x (by rw [← HN.out, List.take_length]; exact hx)]
          exact Bool.false_ne_true
        clear HG HG2
        gi_wp2
        go_ret
        exact ⟨by rw [HG3.out]; rfl, c⟩

theorem infoInt : (Tryz.prog.info? 3).map (fun i => (i.zero, i.size, i.bytes)) = some (some (.int .i64 0), 1, 8) := by kernel_rfl
/-- A list of numbers that is owned. -/
abbrev OwnI (W : World) (base : Nat) (v : Value) (l : List Int) : Prop := W.ownsRow base 3 1 v l.length (l.map iv)

end Go.Proofs.YtakbeololabmhaaGreatDoor

end
section
-- RSameI
namespace Go.Proofs.YtakbeololabmhaaGreatDoor
open Go.RowKit Go.Shelf Go.SeqLib
attribute [local go_sem] Oper.semAt_some

set_option maxHeartbeats 1000000 in
theorem refSameI_in (v u : Value) (xs ys : List Int) (w : World) (hv : SlV w v (xs.map (Value.int .i64))) (hu : SlV w u (ys.map (Value.int .i64))) :
    CallsIn Fence.wide 0 Tryz.prog 90 #[v, u] w fun e w' => e = .returned (.bool (decide (xs = ys))) ∧ Chg (fun _ => False) w w' := by
  obtain ⟨p, c1, rfl, hp1, hp2, hpc⟩ := hv
  obtain ⟨q, c2, rfl, hq1, hq2, hqc⟩ := hu
  rw [List.length_map] at hp1 hq1
  have hl1 : xs.length ≤ maxLen := by omega
  have hl2 : ys.length ≤ maxLen := by omega
  unfold maxLen at hl1 hl2
  rw [List.length_map, List.length_map]
  by_cases hlen : xs.length = ys.length
  · have he : ((xs.length : Int) != (ys.length : Int)) = false := by simp [hlen]
    have HL : Hid (xs.length = ys.length) := hlen
    clear hlen
    refine callsIn_of_wp Tryz.func90 rfl trivial ?_
    simp only [Tryz.ntmps90, List.size_toArray, List.length_cons, List.length_nil, Nat.reduceAdd, Nat.reduceSub, Array.replicate_succ, Array.replicate_zero, List.push_toArray, List.append_toArray, List.nil_append, List.cons_append]
    gi_wp2
    gi_loopw [5] (fun i wr => ∃ k : Nat, k ≤ xs.length ∧ i = .int .i64 (k : Int) ∧ Hid (xs.take k = ys.take k) ∧ Chg (fun _ => False) w wr) (fun i _ => xs.length - (intOf i).toNat)
    case atStart => exact ⟨0, Nat.zero_le _, rfl, rfl, Chg.refl _ _⟩
    case round =>
      obtain ⟨k, hk, rfl, hT, c⟩ := hrel
      by_cases hlt : k < xs.length
      · have hlt2 : k < ys.length := by rw [← HL.out]; exact hlt
        obtain ⟨b1, o1, rfl, hc1⟩ := hpc k (.int .i64 xs[k]) (by simp [hlt])
        obtain ⟨b2, o2, rfl, hc2⟩ := hqc k (.int .i64 ys[k]) (by simp [hlt2])
        have hw1 : wr.cell? ⟨b1, o1 + k, none⟩ = some (.int .i64 xs[k]) := (World.cell?_of_block (a := ⟨b1, o1 + k, none⟩) (c.block b1 (World.block_lt_of_cell? w _ hc1) (fun h => h))).trans hc1
        have hw2 : wr.cell? ⟨b2, o2 + k, none⟩ = some (.int .i64 ys[k]) := (World.cell?_of_block (a := ⟨b2, o2 + k, none⟩) (c.block b2 (World.block_lt_of_cell? w _ hc2) (fun h => h))).trans hc2
        clear hc1 hc2
        have hmix : Tryz.prog.follows .mixedOrders = true := by kernel_rfl
        by_cases hxy : xs[k] = ys[k]
        · have hb : (xs[k] == ys[k]) = true := by rw [hxy]; simp
          have HT : Hid (xs.take (k + 1) = ys.take (k + 1)) := by
            show _ = _
            rw [List.take_succ_eq_append_getElem hlt, List.take_succ_eq_append_getElem hlt2, hT.out, hxy]
          clear hxy
          generalize xs[k] = x at *
          generalize ys[k] = y at *
          gi_wp2
          gi_big_quiet_th_o (fail)
          gi_wp2
          go_roundw
          case rel => exact ⟨k + 1, hlt, by go_num, HT, drewNC c _⟩
          case measure => simp [intOf]; omega
        · have hb : (xs[k] == ys[k]) = false := by rw [beq_eq_false_iff_ne]; exact hxy
          have HD : Hid (decide (xs = ys) = false) := by
            show _ = _
            rw [decide_eq_false_iff_not]; rintro rfl; exact hxy rfl
          clear hxy
          generalize xs[k] = x at *
          generalize ys[k] = y at *
          gi_wp2
          gi_big_quiet_th_o (fail)
          gi_wp2
          go_ret
          exact ⟨by rw [HD.out]; rfl, drewNC c _⟩
      · obtain rfl : k = xs.length := by omega
        have HD : Hid (decide (xs = ys) = true) := by
          show _ = _
          rw [decide_eq_true_iff]
          have h := hT.out
          rw [List.take_length] at h
          rw [HL.out, List.take_length] at h
          exact h
        clear hT
        gi_wp2
        go_ret
        exact ⟨by rw [HD.out]; rfl, c⟩
  · have he : ((xs.length : Int) != (ys.length : Int)) = true := by simp; omega
    have HD : Hid (decide (xs = ys) = false) := by
      show _ = _
      rw [decide_eq_false_iff_not]; rintro rfl; exact hlen rfl
    clear hlen
    refine callsIn_of_wp Tryz.func90 rfl trivial ?_
    simp only [Tryz.ntmps90, List.size_toArray, List.length_cons, List.length_nil, Nat.reduceAdd, Nat.reduceSub, Array.replicate_succ, Array.replicate_zero, List.push_toArray, List.append_toArray, List.nil_append, List.cons_append]
    gi_wp2
    go_ret
    exact ⟨by rw [HD.out]; rfl, Chg.refl _ _⟩

end Go.Proofs.YtakbeololabmhaaGreatDoor

end
section
-- RSameC
namespace Go.Proofs.YtakbeololabmhaaGreatDoor
open Go.RowKit Go.Shelf Go.SeqLib Go.DiffLib Go.TreeLib Go.RepoLib Go.BigFrame
attribute [local go_sem] Oper.semAt_some

set_option maxHeartbeats 1000000 in
theorem refSameF_in (v u : Value) (xs ys : List Fl) (w : World) (hv : SlF w v xs) (hu : SlF w u ys) (hx : xs.length ≤ 1000000) :
    CallsIn Fence.wide 0 Tryz.prog 91 #[v, u] w fun e w' => e = .returned (.bool (decide (xs = ys))) ∧ Chg No w w' := by
  have hmix : Tryz.prog.follows .mixedOrders = true := by kernel_rfl
  have hgd := guard_file
  obtain ⟨p, c1, rfl, _, hc1⟩ := hv.slice
  obtain ⟨q, c2, rfl, _, hc2⟩ := hu.slice
  have hy : ys.length ≤ 9223372036854775807 := by unfold maxLen at hc2; omega
  obtain ⟨n, HN⟩ : ∃ n, Hid (xs.length = n) := ⟨_, rfl⟩
  obtain ⟨m, HM⟩ : ∃ m, Hid (ys.length = m) := ⟨_, rfl⟩
  rw [HN.out] at hv hx ⊢
  rw [HM.out] at hu hy ⊢
  clear hc1 hc2
  refine callsIn_of_wp Tryz.func91 rfl trivial ?_
  simp only [Tryz.ntmps91, List.size_toArray, List.length_cons, List.length_nil, Nat.reduceAdd, Nat.reduceSub, Array.replicate_succ, Array.replicate_zero, List.push_toArray, List.append_toArray, List.nil_append, List.cons_append]
  by_cases hlen : n = m
  · have he : ((n : Int) != (m : Int)) = false := by simp [hlen]
    have HL : Hid (n = m) := hlen
    clear hlen
    gi_wp2
    gi_loopw [5] (fun i wr => ∃ k : Nat, k ≤ n ∧ i = .int .i64 (k : Int) ∧ Hid (xs.take k = ys.take k) ∧ Chg No w wr) (fun i _ => n - (intOf i).toNat)
    case atStart => exact ⟨0, Nat.zero_le _, rfl, rfl, Chg.refl _ _⟩
    case round =>
      obtain ⟨k, hk, rfl, HT, c⟩ := hrel
      by_cases hlt : k < n
      · have hlt2 : k < m := by rw [← HL.out]; exact hlt
        have hlt' : (k : Int) < (n : Int) := by omega
        have hlt2' : (k : Int) < (m : Int) := by omega
        have hkx : k < xs.length := by rw [HN.out]; exact hlt
        have hky : k < ys.length := by rw [HM.out]; exact hlt2
        obtain ⟨x, hx⟩ : ∃ x, xs[k] = x := ⟨_, rfl⟩
        obtain ⟨y, hy⟩ : ∃ y, ys[k] = y := ⟨_, rfl⟩
        have hv' : SlF wr _ xs := hv.no c
        have hu' : SlF wr _ ys := hu.no c
        obtain ⟨b1, o1, rfl, x1, x2⟩ := SlF.at hv' k x (by rw [List.getElem?_eq_getElem hkx, hx])
        obtain ⟨b2, o2, rfl, y1, y2⟩ := SlF.at hu' k y (by rw [List.getElem?_eq_getElem hky, hy])
        by_cases hxy : x = y
        · have HT2 : Hid (xs.take (k + 1) = ys.take (k + 1)) := by
            show _ = _
            rw [List.take_succ_eq_append_getElem hkx, List.take_succ_eq_append_getElem hky, HT.out, hx, hy, hxy]
          have hne : ∀ w, (binOp .neq 49 (.agg #[.string x.1, .string x.2]) (.agg #[.string y.1, .string y.2])).run Tryz.prog w = .ok (.bool false) w := fun w => by rw [run_neq_file, decide_eq_true hxy]; rfl
          clear hxy hx hy hv' hu'
          gi_wp2
          refine wpIn_region_quiet_lit rfl hmix (by kernel_rfl) ?_
          repeat (gi_big_quiet_step (fail))
          refine wpQuietIn_nil ?_
          rintro w' ⟨j, rfl⟩
          gi_wp2
          go_roundw
          case rel => exact ⟨k + 1, hlt, by go_num, HT2, drewNC c _⟩
          case measure => simp [intOf]; omega
        · have HD : Hid (decide (xs = ys) = false) := by
            show _ = _
            rw [decide_eq_false_iff_not]
            rintro rfl
            exact hxy (hx.symm.trans hy)
          have hne : ∀ w, (binOp .neq 49 (.agg #[.string x.1, .string x.2]) (.agg #[.string y.1, .string y.2])).run Tryz.prog w = .ok (.bool true) w := fun w => by rw [run_neq_file, decide_eq_false hxy]; rfl
          clear hxy hx hy hv' hu'
          gi_wp2
          refine wpIn_region_quiet_lit rfl hmix (by kernel_rfl) ?_
          repeat (gi_big_quiet_step (fail))
          refine wpQuietIn_nil ?_
          rintro w' ⟨j, rfl⟩
          gi_wp2
          go_ret
          exact ⟨by rw [HD.out]; rfl, drewNC c _⟩
      · obtain rfl : k = n := by omega
        have hlt' : ¬ (k : Int) < (k : Int) := by omega
        have HD : Hid (decide (xs = ys) = true) := by
          show _ = _
          rw [decide_eq_true_iff]
          have h := HT.out
          rw [List.take_of_length_le (by rw [HN.out]; exact Nat.le_refl _), List.take_of_length_le (by rw [HM.out, ← HL.out]; exact Nat.le_refl _)] at h
          exact h
        gi_wp2
        go_ret
        exact ⟨by rw [HD.out]; rfl, c⟩
  · have he : ((n : Int) != (m : Int)) = true := by simp; omega
    have HD : Hid (decide (xs = ys) = false) := by
      show _ = _
      rw [decide_eq_false_iff_not]
      rintro rfl
      exact hlen (HN.out.symm.trans HM.out)
    clear hlen
    gi_wp2
    go_ret
    exact ⟨by rw [HD.out]; rfl, Chg.refl _ _⟩

set_option maxHeartbeats 1000000 in
theorem refSameC_in (v u : Value) (c d : Cm) (D D' : Blk) (hx : c.2.1.length ≤ 1000000) (w : World) (hv : CmD D w v c) (hu : CmD D' w u d) :
    CallsIn Fence.wide 0 Tryz.prog 69 #[v, u] w fun e w' => e = .returned (.bool (decide (c = d))) ∧ Chg No w w' := by
  obtain ⟨p, n, k, q, m, l, rfl, h1, h2, _, _⟩ := hv
  obtain ⟨p', n', k', q', m', l', rfl, h1', h2', _, _⟩ := hu
  obtain ⟨c1, c2, c3⟩ := c
  obtain ⟨d1, d2, d3⟩ := d
  dsimp only at h1 h2 h1' h2' hx ⊢
  have ca : Chg No w ((w.alloc (.cells #[.slice p n k, .slice q m l, .string c3] 43)).alloc (.cells #[.slice p' n' k', .slice q' m' l', .string d3] 43)) := ((Chg.refl _ w).alloc _).alloc _
  have I1 := fun W hv hu => refSameI_in (.slice p n k) (.slice p' n' k') c1 d1 W hv hu
  have F1 := fun W hv hu => refSameF_in (.slice q m l) (.slice q' m' l') c2 d2 W hv hu hx
  have HE : Hid (decide (((c1, c2, c3) : Cm) = (d1, d2, d3)) = ((c3.toList == d3.toList) && (decide (c1 = d1) && decide (c2 = d2)))) := by
    show _ = _
    by_cases h3 : c3 = d3
    · rw [eqR_true h3, Bool.true_and, Bool.eq_iff_iff]
      simp [h3]
    · rw [eqR_false h3, Bool.false_and, decide_eq_false (fun e => h3 (congrArg (fun x : Cm => x.2.2) e))]
  rw [HE.out]
  clear HE
  generalize hb3 : (c3.toList == d3.toList) = b3
  generalize decide (c1 = d1) = b1 at I1 ⊢
  generalize decide (c2 = d2) = b2 at F1 ⊢
  have g1 := h1.no ca
  have g2 := h2.no ca
  have g1' := h1'.no ca
  have g2' := h2'.no ca
  clear h1 h2 h1' h2'
  refine callsIn_of_wp Tryz.func69 rfl trivial ?_
  simp only [Tryz.ntmps69, List.size_toArray, List.length_cons, List.length_nil, Nat.reduceAdd, Nat.reduceSub, Array.replicate_succ, Array.replicate_zero, List.push_toArray, List.append_toArray, List.nil_append, List.cons_append]
  cases b3 with
  | false =>
    gi_wp2_with fail
    refine ⟨trivial, ?_⟩
    rename_i hKK
    apply hKK
    gi_wp2_with fail
    refine ⟨trivial, ?_⟩
    rename_i hKK
    apply hKK
    gi_wp2
    go_ret
    exact ⟨rfl, ca⟩
  | true =>
  gi_wp2_with fail
  refine ⟨trivial, rfl, (I1 _ g1 g1').mono ?_⟩
  rintro e w1 ⟨rfl, c1'⟩
  have k1 := Chg.seq ca c1'
  cases b1 with
  | false =>
    gi_wp2_with fail
    refine ⟨trivial, ?_⟩
    rename_i hKK
    apply hKK
    gi_wp2
    go_ret
    exact ⟨rfl, k1⟩
  | true =>
  have x0 : w1.heap[w.heap.size]? = some (.cells #[.slice p n k, .slice q m l, .string c3] 43 (0, 0)) := c1'.same (by
    rw [Below.heap_alloc _ _ _ (by rw [World.size_alloc]; omega)]
    exact World.alloc_heap_new w _) (fun h => h)
  have x1 : w1.heap[w.heap.size + 1]? = some (.cells #[.slice p' n' k', .slice q' m' l', .string d3] 43 (0, 0)) := c1'.same (by
    have := World.alloc_heap_new (w.alloc (.cells #[.slice p n k, .slice q m l, .string c3] 43)) (.cells #[.slice p' n' k', .slice q' m' l', .string d3] 43 (0, 0))
    rw [World.size_alloc] at this
    exact this) (fun h => h)
  have y0 : w1.cell? ⟨w.heap.size, 1, none⟩ = some (.slice q m l) := by simp [World.cell?, x0]
  have y1 : w1.cell? ⟨w.heap.size + 1, 1, none⟩ = some (.slice q' m' l') := by simp [World.cell?, x1]
  clear x0 x1 I1
  gi_wp2_with fail
  refine ⟨trivial, rfl, (F1 _ (g2.no c1') (g2'.no c1')).mono ?_⟩
  rintro e w2 ⟨rfl, c2'⟩
  gi_wp2
  go_ret
  exact ⟨rfl, Chg.seq k1 c2'⟩

end Go.Proofs.YtakbeololabmhaaGreatDoor

end
