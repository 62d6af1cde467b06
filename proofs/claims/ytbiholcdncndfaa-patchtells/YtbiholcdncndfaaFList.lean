/-
  seq.List at files, and the statements' own Files, over any iterator that keeps its word.
-/
import Derived.Test.YtbiholcdncndfaaFIt
import Derived.Test.YtbiholcdncndfaaSeqX
namespace Go.Proofs.Ytbiholcdncndfaa
open Go.RowKit Go.Shelf Go.SeqLib Go.DiffLib Go.TreeLib
attribute [local go_sem] Oper.semAt_some

/-- A box that holds a list of files which owns them. -/
def BoxF (B base : Nat) (zs : List Fl) : Blk → World → Prop := fun S W => ∃ v, S = (fun k => k = B ∨ v.ownBlock = some k) ∧ Boxed W B 22 v ∧ OwnF W base v zs

theorem BoxF.part (B base : Nat) (zs : List Fl) : Part (BoxF B base zs) := {
  lt := by
    rintro S W ⟨v, rfl, hb, hr⟩ k (rfl | h)
    · exact hb.lt
    · exact (hr.lt k h).2
  kept := by
    rintro S W W' ⟨v, rfl, hb, hr⟩ _ hk
    exact ⟨v, rfl, (hk _ (.inl rfl)).trans hb, hr.kept (fun k h => hk k (.inr h))⟩ }

/-- One more is appended. -/
theorem BoxF.step {W w1 : World} {B base : Nat} {v v' : Value} {zs : List Fl} {x : Fl} {tmp : Obj} (hv : Boxed W B 22 v) (hrow : OwnF W base v zs)
    (hown' : OwnF w1 base v' (zs ++ [x])) (hgrow : (W.alloc tmp).grownBy w1 v.ownBlock) (hat : v'.ownBlock = v.ownBlock ∨ v'.ownBlock = some (W.alloc tmp).heap.size) :
    Boxed w1 B 22 v ∧ Boxed (w1.setCell ⟨B, 0, none⟩ v') B 22 v' ∧ OwnF (w1.setCell ⟨B, 0, none⟩ v') base v' (zs ++ [x]) ∧
      Chg (fun k => k = B ∨ v.ownBlock = some k) W (w1.setCell ⟨B, 0, none⟩ v') ∧ Grew (fun k => k = B ∨ v.ownBlock = some k) W (fun k => k = B ∨ v'.ownBlock = some k) := by
  have hte : (22 : TypeId) ≠ 43 := by decide
  have hv1 : Boxed w1 B 22 v := (hv.alloc tmp).kept hgrow (hv.not_row hte hrow)
  refine ⟨hv1, hv1.set v', ?_, ?_, ?_⟩
  · exact World.ownsRow.kept hown' (grownBy_setCell' w1 B v') (.inr (hv1.not_row hte hown').symm)
  · exact (((Chg.refl _ W).alloc tmp).grown hgrow (fun k e => .inl (.inr e))).setCell (p := ⟨B, 0, none⟩) (.inl (.inl rfl)) v'
  · rintro k (h | h)
    · exact .inl (.inl h)
    · rcases hat with h' | h'
      · exact .inl (.inr (h'.symm.trans h))
      · rw [h'] at h; simp at h; exact .inr (by omega)

set_option maxRecDepth 100000 in
set_option maxHeartbeats 1000000 in
theorem listF_in {gs : Nat} {lbs : Array Value} {xs : List Fl} {D M : Blk} {I0 : World → Prop} {I : List Fl → World → Prop} (it : Iter Try.prog gs lbs encF xs D M I0 I) (eg : ∀ args w, (callFunc gs args).run Try.prog w = .ok (.enter gs args) w)
    (hlen : xs.length ≤ 100000) (w : World) (hI : I0 w) :
    CallsIn Fence.wide 0 Try.prog 34 #[.func (.func gs) #[] lbs] w fun e w' => ∃ v, e = .returned v ∧ OwnF w' w.heap.size v xs ∧ I xs w' ∧ Chg M w w' := by
  have hnil := fun w => run_eql_func_nil Try.underlying67 (.func gs) #[] lbs w
  refine callsIn_of_wp_marks Try.func34 rfl trivial ?_
  simp only [Try.ntmps34, List.size_toArray, List.length_cons, List.length_nil, Nat.reduceAdd, Nat.reduceSub, Array.replicate_succ, Array.replicate_zero, List.push_toArray, List.append_toArray, List.nil_append, List.cons_append]
  gi_wp2
  have bO := Boxed.new w 22 (.slice none 0 0)
  have c0 : Chg (fun _ => False) w (w.alloc (.cells #[.slice none 0 0] 22)) := (Chg.refl _ w).alloc _
  refine wpIn_rangeX (gf := gs) (lb := lbs) rfl eg it (fun _ => rfl)
    (fun pre S W => BoxF w.heap.size w.heap.size pre S W ∧ w.heap.size ≤ W.heap.size) (fun _ _ _ _ => False) (fun pre => ⟨fun h => (BoxF.part _ _ _).lt h.1, fun h hs hk => ⟨(BoxF.part _ _ _).kept h.1 hs hk, Nat.le_trans h.2 hs⟩⟩) (fun _ _ => Part.false)
    (S := fun k => k = w.heap.size ∨ Value.ownBlock (.slice none 0 0) = some k) (it.kept0 hI c0.size (fun k hk => c0.block k (it.lt0 hI k hk) (fun h => h))) ⟨⟨_, rfl, bO, OwnF.nil _ _⟩, c0.size⟩
    (fun k hk h => by
      rcases h with h | h
      · have := it.lt0 hI k hk; omega
      · cases h)
    (fun x X => { tmps := #[.func (.func gs) #[] lbs, undef, .slice none 0 0, .pointer (some ⟨w.heap.size, 0, none⟩), .pointer (some ⟨X, 0, none⟩), .func (.func gs) #[] lbs, .bool false, .func (.func gs) #[] lbs, .agg #[.string x.1, .string x.2], undef, undef, undef, undef, undef], defers := [] }) (fun x => .cells #[.string x.1, .string x.2] 43) ?assign ?body ?done ?stop
  case assign =>
    intro l x W K hK
    gi_wp2
    exact hK
  case body =>
    rintro lr pre x S2 W X hpre ⟨⟨v, rfl, hv, hrow⟩, hsz⟩ hX hXS _
    have x1 : W.cell? ⟨X, 0, none⟩ = some (.string x.1) := by simp [World.cell?, hX]
    have x2 : W.cell? ⟨X, 1, none⟩ = some (.string x.2) := by simp [World.cell?, hX]
    have hc := hv.cell
    have hpl : pre.length + 1 ≤ 100000 := by have := hpre.length_le; simp at this; omega
    have hsl := SlF.one W x
    generalize hq : pre ++ [x] = q at *
    have HQ : Hid (pre ++ [x] = q) := hq
    clear hq
    gi_wp2_with (gi_at_builtin; refine wpListIn_append_sf _ rfl _ _ rfl w.heap.size _ pre rfl (World.ownsRow.alloc hrow _) (some ⟨W.heap.size, 0, none⟩) 1 1 [x] rfl hsl (by omega) (by simp; omega) ?_; intro v' w1 hown' hgrow hat; rw [HQ.out] at hown'; obtain ⟨p', cap', rfl⟩ := hown'.slice; obtain ⟨hv1, hv2, hr2, hcg, hgw⟩ := BoxF.step (x := x) hv hrow (by rw [HQ.out]; exact hown') hgrow hat; have hc1 := hv1.cell; have hf1 := hv1.frozen)
    refine ⟨_, hcg, hgw, ⟨⟨_, rfl, hv2, by have h := hr2; rw [HQ.out] at h; exact h⟩, Nat.le_trans hsz hcg.size⟩⟩
  case done =>
    rintro d S' W hd ⟨⟨v, rfl, hv, hrow⟩, hsz⟩ hI' hc hg hK hnd
    have hd' : w.heap.size + 1 ≤ d := by simpa using hd
    have hcl := hv.cell
    gi_wp2
    refine ⟨by simp, .inl ⟨_, _, rfl, run_takeDeferred hK, ?_⟩⟩
    refine ⟨_, results_tmp rfl _ _ _, v, rfl, ownsRow_putObj hrow (.deferred none) hK rfl, it.kept hI' (by simp) (fun k hk => World.putObj_heap_other (by have := it.lt0 hI k hk; omega)), ?_⟩
    refine ⟨hc.os, hc.tape, hc.output, by simpa using hsz, fun k hk hn => ?_⟩
    refine (World.putObj_heap_other (by omega)).trans ((hc.block k (by simp; omega) ?_).trans (c0.block k hk (fun h => h)))
    rintro (h | h | h)
    · exact hn h
    · omega
    · cases h
  case stop =>
    rintro d c pre S' W _ _ h
    exact h.elim

end Go.Proofs.Ytbiholcdncndfaa
