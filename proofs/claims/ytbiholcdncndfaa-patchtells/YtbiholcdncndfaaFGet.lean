/-
  tree's Get: the data of the first file at a path, and whether there is one.
-/
import Derived.Test.YtbiholcdncndfaaFDrop
namespace Go.Proofs.Ytbiholcdncndfaa
open Go.RowKit Go.Shelf Go.SeqLib Go.DiffLib Go.TreeLib
attribute [local go_sem] Oper.semAt_some

theorem results_cell2 {fn : Func} {p q : Tmp} {t u : TypeId} (h : fn.results = #[.cell p t, .cell q u]) (tmps : Array Value) (P : Program) (w : World) :
    (results fn tmps).run P w = ((asAddr (tmps.getD p undef)).run P w).andThen fun a w₁ => ((loadVar t a).run P w₁).andThen fun x w₂ => ((asAddr (tmps.getD q undef)).run P w₂).andThen fun b w₃ => ((loadVar u b).run P w₃).andThen fun y w₄ => .ok (.tuple #[x, y]) w₄ := by
  simp only [results, h]
  simp [Sem.run_bind, Result.andThen]

/-- What Get answers. -/
abbrev getD (zs : List Fl) (p : ByteArray) : ByteArray := (TreeLib.get zs p).getD ⟨#[]⟩

theorem get_at {xs pre : List Fl} {x : Fl} (hpre : pre ++ [x] <+: xs) (h : ∀ f ∈ pre, f.1 ≠ x.1) : TreeLib.get xs x.1 = some x.2 := by
  obtain ⟨r, rfl⟩ := hpre
  unfold TreeLib.get
  rw [List.append_assoc, fil_app, fil_nil_of h, List.nil_append, List.singleton_append, fil_cons, if_pos rfl]
  rfl

set_option maxRecDepth 100000 in
set_option maxHeartbeats 1000000 in
theorem get_in (v : Value) (zs : List Fl) (p : ByteArray) (w : World) (hv : SlF w v zs) : CallsIn Fence.wide 0 Try.prog 23 #[v, .string p] w fun e w' =>
    e = .returned (.tuple #[.string (getD zs p), .bool (TreeLib.get zs p).isSome]) ∧ Chg No w w' := by
  have c00 : Chg No w (((w.alloc (.cells #[.string p] 9)).alloc (.cells #[.string ⟨#[]⟩] 9)).alloc (.cells #[.bool false] 4)) := (((Chg.refl _ w).alloc _).alloc _).alloc _
  have hv0 := hv.no c00
  have hlt := hv.lt
  refine callsIn_of_wp_marks Try.func23 rfl trivial ?_
  simp only [Try.ntmps23, List.size_toArray, List.length_cons, List.length_nil, Nat.reduceAdd, Nat.reduceSub, Array.replicate_succ, Array.replicate_zero, List.push_toArray, List.append_toArray, List.nil_append, List.cons_append]
  gi_wp2_with fail
  refine ⟨trivial, rfl, (filesT_in v zs _ hv0).mono ?_⟩
  rintro e w1 ⟨g1, l1, D1, rfl, ⟨I0, it, hI, eg⟩, c1, hD1⟩
  have b0 : Boxed w1 w.heap.size 9 (.string p) := c1.boxed (((Boxed.new w 9 (.string p)).alloc _).alloc _) (fun h => h)
  have b1 : Boxed w1 (w.heap.size + 1) 9 (.string ⟨#[]⟩) := by
    have := (Boxed.new (w.alloc (.cells #[.string p] 9)) 9 (.string ⟨#[]⟩)).alloc (.cells #[.bool false] 4)
    rw [World.size_alloc] at this
    exact c1.boxed this (fun h => h)
  have b2 : Boxed w1 (w.heap.size + 2) 4 (.bool false) := by
    have := Boxed.new ((w.alloc (.cells #[.string p] 9)).alloc (.cells #[.string ⟨#[]⟩] 9)) 4 (.bool false)
    rw [World.size_alloc, World.size_alloc] at this
    exact c1.boxed this (fun h => h)
  have c0 : Chg No w w1 := Chg.seq c00 c1
  have hlow : ∀ k, D1 k → k < w.heap.size ∨ w.heap.size + 3 ≤ k := fun k hk => by
    rcases hD1 k hk with h | h
    · exact .inl (hlt k h)
    · simp at h; exact .inr (by omega)
  clear c1 hD1 c00 hv0
  gi_wp2
  have pK : ∀ (d : ByteArray) (b : Bool), Part (fun S W => S = (fun k => k = w.heap.size ∨ k = w.heap.size + 1 ∨ k = w.heap.size + 2) ∧ Boxed W w.heap.size 9 (.string p) ∧ Boxed W (w.heap.size + 1) 9 (.string d) ∧ Boxed W (w.heap.size + 2) 4 (.bool b)) := fun d b =>
    ⟨by
      rintro S W ⟨rfl, h1, h2, h3⟩ k (h | h | h)
      · subst h; exact h1.lt
      · subst h; exact h2.lt
      · subst h; exact h3.lt, by
      rintro S W W' ⟨rfl, h1, h2, h3⟩ hs hk
      exact ⟨rfl, (hk _ (.inl rfl)).trans h1, (hk _ (.inr (.inl rfl))).trans h2, (hk _ (.inr (.inr rfl))).trans h3⟩⟩
  refine wpIn_range (gf := g1) (lb := l1) rfl eg it (fun _ => rfl)
    (fun pre S W => (S = (fun k => k = w.heap.size ∨ k = w.heap.size + 1 ∨ k = w.heap.size + 2) ∧ Boxed W w.heap.size 9 (.string p) ∧ Boxed W (w.heap.size + 1) 9 (.string ⟨#[]⟩) ∧ Boxed W (w.heap.size + 2) 4 (.bool false)) ∧ (∀ f ∈ pre, f.1 ≠ p))
    (fun c pre S W => ∃ d, (S = (fun k => k = w.heap.size ∨ k = w.heap.size + 1 ∨ k = w.heap.size + 2) ∧ Boxed W w.heap.size 9 (.string p) ∧ Boxed W (w.heap.size + 1) 9 (.string d) ∧ Boxed W (w.heap.size + 2) 4 (.bool true)) ∧ (c = .ret ∧ TreeLib.get zs p = some d))
    (fun pre => (pK _ _).andP _) (fun c pre => Part.ex fun d => (pK d true).andP _)
    (S := fun k => k = w.heap.size ∨ k = w.heap.size + 1 ∨ k = w.heap.size + 2) hI ⟨⟨rfl, b0, b1, b2⟩, by simp⟩
    (fun k hk h => by have := hlow k hk; omega)
    (fun x => { tmps := #[v, .string p, undef, .pointer (some ⟨w.heap.size, 0, none⟩), .pointer (some ⟨w.heap.size + 1, 0, none⟩), .pointer (some ⟨w.heap.size + 2, 0, none⟩), .string x.1, .string x.2, v, .func (.func g1) #[] l1, .string x.1, .string x.2, undef, undef, undef, undef], defers := [] }) ?assign ?body ?done ?stop
  case assign =>
    intro l x W K hK
    gi_wp2
    simpa using hK
  case body =>
    rintro lr pre x S2 W hpre ⟨⟨rfl, h0, h1, h2⟩, hall⟩
    have hc0 := h0.cell
    have hc1 := h1.cell
    have hf1 := h1.frozen
    have hc2 := h2.cell
    have hf2 := h2.frozen
    have h2' := h2.other (show w.heap.size + 2 ≠ w.heap.size + 1 by omega) (.string x.2)
    have hc2' := h2'.cell
    have hf2' := h2'.frozen
    by_cases hx : x.1 = p
    · have hb : (x.1.toList == p.toList) = true := by rw [hx]; simp
      have HG : Hid (TreeLib.get zs p = some x.2) := by
        have := get_at hpre (fun f hf => by rw [hx]; exact hall f hf)
        rw [hx] at this
        exact this
      clear hx hall
      gi_wp2
      refine ⟨_, ((Chg.refl _ W).setCell (p := ⟨w.heap.size + 1, 0, none⟩) (.inl (.inr (.inl rfl))) _).setCell (p := ⟨w.heap.size + 2, 0, none⟩) (.inl (.inr (.inr rfl))) _, Grew.refl _ _, x.2, ⟨rfl, (h0.other (by omega) _).other (by omega) _, (h1.set _).other (by omega) _, h2'.set _⟩, rfl, HG.out⟩
    · have hb : (x.1.toList == p.toList) = false := by rw [beq_eq_false_iff_ne]; exact fun e => hx (toList_inj e)
      have HA : Hid (∀ f ∈ pre ++ [x], f.1 ≠ p) := fun f hf => by
        rcases List.mem_append.1 hf with h | h
        · exact hall f h
        · rw [List.mem_singleton] at h; rw [h]; exact hx
      clear hx hall
      gi_wp2
      exact ⟨_, Chg.refl _ _, Grew.refl _ _, ⟨rfl, h0, h1, h2⟩, HA.out⟩
  case done =>
    rintro d S' W hd ⟨⟨rfl, h0, h1, h2⟩, hall⟩ hI' hc hg hK hnd
    have HG : Hid (TreeLib.get zs p = none) := get_none.2 hall
    have hc1 := h1.cell
    have hf1 := h1.frozen
    have h2' := h2.other (show w.heap.size + 2 ≠ w.heap.size + 1 by omega) (.string ⟨#[]⟩)
    have hc2 := h2'.cell
    have hf2 := h2'.frozen
    have hd1 : d ≠ w.heap.size + 1 := fun e => hnd (.inr (.inl e))
    have hd2 : d ≠ w.heap.size + 2 := fun e => hnd (.inr (.inr e))
    have hd3 : w.heap.size ≤ d := Nat.le_trans c0.size hd
    clear hall
    have hcc : Chg No w W := c0.trans hc (fun k hk => by
      rcases hk with h | h | h | h
      · exact h.elim
      · exact .inr (by omega)
      · exact .inr (by omega)
      · exact .inr (by omega))
    gi_wp2
    have hK' : ((W.setCell ⟨w.heap.size + 1, 0, none⟩ (.string ⟨#[]⟩)).setCell ⟨w.heap.size + 2, 0, none⟩ (.bool false)).heap[d]? = some (.deferred (some [])) := (Below.heap_setCell _ _ _ d (fun e => hd2 e)).trans ((Below.heap_setCell W _ _ d (fun e => hd1 e)).trans hK)
    refine ⟨by simp, .inl ⟨_, _, rfl, run_takeDeferred hK', ?_⟩⟩
    have k1 : Boxed (((W.setCell ⟨w.heap.size + 1, 0, none⟩ (.string ⟨#[]⟩)).setCell ⟨w.heap.size + 2, 0, none⟩ (.bool false)).putObj d (.deferred none)) (w.heap.size + 1) 9 (.string ⟨#[]⟩) := (World.putObj_heap_other (fun e => hd1 e.symm)).trans ((h1.set _).other (by omega) _)
    have k2 : Boxed (((W.setCell ⟨w.heap.size + 1, 0, none⟩ (.string ⟨#[]⟩)).setCell ⟨w.heap.size + 2, 0, none⟩ (.bool false)).putObj d (.deferred none)) (w.heap.size + 2) 4 (.bool false) := (World.putObj_heap_other (fun e => hd2 e.symm)).trans (h2'.set _)
    have e1 := k1.cell
    have e2 := k2.cell
    refine ⟨.tuple #[.string ⟨#[]⟩, .bool false], ?_, ?_, ?_⟩
    · rw [results_cell2 rfl]
      go_simp
    · unfold getD; rw [HG.out]; rfl
    · exact Chg.putObj ((hcc.setCell (p := ⟨w.heap.size + 1, 0, none⟩) (.inr (by simp)) _).setCell (p := ⟨w.heap.size + 2, 0, none⟩) (.inr (by simp)) _) (.inr hd3) _
  case stop =>
    rintro d c pre S' W hd hpre ⟨dt, ⟨rfl, h0, h1, h2⟩, rfl, hget⟩ hI' hc hg hK hnd
    have HG : Hid (TreeLib.get zs p = some dt) := hget
    have hc1 := h1.cell
    have hc2 := h2.cell
    have hd1 : d ≠ w.heap.size + 1 := fun e => hnd (.inr (.inl e))
    have hd2 : d ≠ w.heap.size + 2 := fun e => hnd (.inr (.inr e))
    have hd3 : w.heap.size ≤ d := Nat.le_trans c0.size hd
    clear hget
    have hcc : Chg No w W := c0.trans hc (fun k hk => by
      rcases hk with h | h | h | h
      · exact h.elim
      · exact .inr (by omega)
      · exact .inr (by omega)
      · exact .inr (by omega))
    gi_wp2
    refine ⟨by simp, .inl ⟨_, _, rfl, run_takeDeferred hK, ?_⟩⟩
    have k1 : Boxed (W.putObj d (.deferred none)) (w.heap.size + 1) 9 (.string dt) := (World.putObj_heap_other (fun e => hd1 e.symm)).trans h1
    have k2 : Boxed (W.putObj d (.deferred none)) (w.heap.size + 2) 4 (.bool true) := (World.putObj_heap_other (fun e => hd2 e.symm)).trans h2
    have e1 := k1.cell
    have e2 := k2.cell
    refine ⟨.tuple #[.string dt, .bool true], ?_, ?_, ?_⟩
    · rw [results_cell2 rfl]
      go_simp
    · unfold getD; rw [HG.out]; rfl
    · exact Chg.putObj hcc (.inr hd3) _

end Go.Proofs.Ytbiholcdncndfaa
