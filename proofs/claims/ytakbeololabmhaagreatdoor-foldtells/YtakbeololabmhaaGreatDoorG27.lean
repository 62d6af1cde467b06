/-
  Of: FPaths, JLaw, JOf, JVir.
-/
import Derived.Test.YtakbeololabmhaaGreatDoorG26
import Derived.Test.YtakbeololabmhaaGreatDoorG04
import Derived.RangeFuncNested
import Derived.Test.YtakbeololabmhaaGreatDoorG11
import Derived.Test.YtakbeololabmhaaGreatDoorG03
import Derived.Test.YtakbeololabmhaaGreatDoorG02
import Derived.Deep.QuietTactic
import Derived.BigQuiet
import Derived.Laws.OwnMore
import Derived.Test.YtakbeololabmhaaGreatDoorG19
import Derived.Test.YtakbeololabmhaaGreatDoorG25
import Derived.Test.YtakbeololabmhaaGreatDoorG08
import Derived.Test.YtakbeololabmhaaGreatDoorG06
import Derived.Sort.CutIn
import Derived.Sort.QuietThIn
import Derived.Shelf.RegionOpen
section
-- FPaths
namespace Go.TreeLib
open Go
/-- The paths of the first i lists. -/
def toldP {α : Type} (ps : List (α × List Fl)) (i : Nat) : List ByteArray := (ps.take i).flatMap (fun q => q.2.map (·.1))
theorem toldP_succ {α : Type} {ps : List (α × List Fl)} {i : Nat} (h : i < ps.length) : toldP ps (i + 1) = toldP ps i ++ ps[i].2.map (·.1) := by
  unfold toldP
  rw [List.take_succ_eq_append_getElem h, List.flatMap_append]
  simp only [List.flatMap_cons, List.flatMap_nil, List.append_nil]
theorem toldP_le {α : Type} (ps : List (α × List Fl)) (i : Nat) : (toldP ps i).length ≤ (toldP ps ps.length).length := by
  have : toldP ps ps.length = toldP ps i ++ (ps.drop i).flatMap (fun q => q.2.map (·.1)) := by
    unfold toldP
    rw [List.take_length, ← List.flatMap_append, List.take_append_drop]
  rw [this, List.length_append]
  omega
end Go.TreeLib
namespace Go.Proofs.YtakbeololabmhaaGreatDoor
open Go.RowKit Go.Shelf Go.SeqLib Go.DiffLib Go.TreeLib
attribute [local go_sem] Oper.semAt_some

/-- The mark of a loop that is over. -/
abbrev mark (d : Nat) : Deferred := { target := .collected d, args := #[] }

/-- The way out over marks. -/
theorem leaves_marks {P : Program} {fn : Func} {tmps : Array Value} {R : Ending → World → Prop} : ∀ (ds : List Nat) (W : World), ds.Nodup → (∀ d, d ∈ ds → W.heap[d]? = some (.deferred (some []))) →
    (∀ W', Chg (fun k => k ∈ ds) W W' → ∃ v, (results fn tmps).run P W' = .ok v W' ∧ R (.returned v) W') → LeavesInM Fence.wide 0 P fn tmps R (ds.map mark) .returning W
  | [], W, _, _, h => h W (Chg.refl _ _)
  | d :: ds, W, hn, hd, h => by
    obtain ⟨hn1, hn2⟩ := List.nodup_cons.1 hn
    refine ⟨by simp, .inl ⟨d, _, rfl, run_takeDeferred (hd d (List.mem_cons_self ..)), leaves_marks ds _ hn2 (fun d' hd' => ?_) (fun W' c => h W' ?_)⟩⟩
    · exact (World.putObj_heap_other (show d' ≠ d from fun e => hn1 (e ▸ hd'))).trans (hd d' (List.mem_cons_of_mem _ hd'))
    · exact Chg.trans (S := fun k => k ∈ d :: ds) ((Chg.put1 W d _).mono (fun k hk => by rw [hk]; exact List.mem_cons_self ..)) c (fun k hk => .inl (List.mem_cons_of_mem _ hk))

/-- What holds between two lists. -/
def PathInv (w : World) (tv : Value) (ps : List (Value × List Fl)) (a : Act) (W : World) : Prop :=
  ∃ (i : Nat) (So : Blk) (ds : List Nat) (t1 t2 t4 t5 t6 t10 t11 t12 t13 t14 t15 t16 t17 t18 t19 t20 t21 t22 t23 t24 t25 : Value), i ≤ ps.length ∧
    a = { tmps := #[tv, t1, t2, .pointer (some ⟨w.heap.size, 0, none⟩), t4, t5, t6, tv, .int .i64 (ps.length : Int), .int .i64 (i : Int), t10, t11, t12, t13, t14, t15, t16, t17, t18, t19, t20, t21, t22, t23, t24, t25], defers := ds.map mark } ∧
    RowBox w.heap.size w.heap.size 86 9 ((toldP ps i).map Value.string) So W ∧ ds.Nodup ∧ (∀ d, d ∈ ds → W.heap[d]? = some (.deferred (some [])) ∧ w.heap.size < d ∧ ¬ So d) ∧ Chg No w W

theorem RowBox.low {B base : Nat} {t e : TypeId} {vals : List Value} {S : Blk} {W : World} (h : RowBox B base t e vals S W) (hb : base ≤ B) : ∀ k, S k → base ≤ k := by
  obtain ⟨v, rfl, _, hr⟩ := h
  rintro k (rfl | h)
  · exact hb
  · exact (hr.lt k h).1

set_option maxRecDepth 100000 in
set_option maxHeartbeats 4000000 in
theorem paths_in (tv : Value) (ps : List (Value × List Fl)) (w : World) (hs : SlV w tv (ps.map (·.1))) (hi : ∀ q ∈ ps, SlF w q.1 q.2) (hlen : (toldP ps ps.length).length ≤ 100000) :
    CallsIn Fence.wide 0 Tryz.prog 71 #[tv] w fun e w' => ∃ v', e = .returned v' ∧ w'.ownsRow w.heap.size 9 1 v' (paths (ps.map (·.2))).length ((paths (ps.map (·.2))).map Value.string) ∧ Chg No w w' := by
  have hs' := hs
  obtain ⟨p, cap, rfl, hcap, hmax, hcells⟩ := hs'
  rw [List.length_map] at hcap hs ⊢
  have hml : ps.length ≤ 9223372036854775807 := by unfold maxLen at hmax; omega
  have c0 : Chg No w (w.alloc (.cells #[.slice none 0 0] 86)) := (Chg.refl _ w).alloc _
  have bO := Boxed.new w 86 (.slice none 0 0)
  refine callsIn_of_wp_marks Tryz.func71 rfl trivial ?_
  simp only [Tryz.ntmps71, List.size_toArray, List.length_cons, List.length_nil, Nat.reduceAdd, Nat.reduceSub, Array.replicate_succ, Array.replicate_zero, List.push_toArray, List.append_toArray, List.nil_append, List.cons_append]
  gi_wp2
  refine wpIn_loop (PathInv w (.slice p ps.length cap) ps) (fun a _ => ps.length - (intOf (a.tmps.getD 9 undef)).toNat) ?_ ?_
  · unfold PathInv
    exact ⟨0, _, [], _, _, _, _, _, _, _, _, _, _, _, _, _, _, _, _, _, _, _, _, _, Nat.zero_le _, rfl, ⟨_, rfl, bO, World.ownsRow_nil _ _ _ _⟩, List.nodup_nil, fun d hd => by simp at hd, c0⟩
  · rintro a W ⟨i, So, ds, t1, t2, t4, t5, t6, t10, t11, t12, t13, t14, t15, t16, t17, t18, t19, t20, t21, t22, t23, t24, t25, hil, rfl, rb, hnd, hds, c⟩
    by_cases hlt : i < ps.length
    · have hlt' : (i : Int) < (ps.length : Int) := by omega
      have hs1 := hs.no c
      obtain ⟨p2, cap2, e2, _, _, hcells2⟩ := hs1
      rw [List.length_map] at e2
      cases e2
      obtain ⟨bb, off, rfl, hcw⟩ := hcells2 i ps[i].1 (by simp [hlt])
      have hmem : ps[i] ∈ ps := List.getElem_mem hlt
      have HT : Hid (toldP ps (i + 1) = toldP ps i ++ ps[i].2.map (·.1)) := toldP_succ hlt
      have hle := toldP_le ps (i + 1)
      rw [HT.out] at hle
      have hi1 := (hi _ hmem).no c
      have hil1 := (hi _ hmem).lt
      generalize ps[i] = q at *
      clear hcells2 hcells hmem hil
      gi_wp2_with fail
      refine ⟨trivial, rfl, (filesT_in q.1 q.2 _ hi1).mono ?_⟩
      rintro e w1 ⟨gf, lb, D, rfl, ⟨I0, it, hI, eg⟩, c1, hD⟩
      have rb1 := (RowBox.part _ _ _ _ _).kept rb c1.size (fun k hk => c1.block k ((RowBox.part _ _ _ _ _).lt rb k hk) (fun h => h))
      have hds1 : ∀ d, d ∈ ds → w1.heap[d]? = some (.deferred (some [])) ∧ w.heap.size < d ∧ ¬ So d := fun d hd => ⟨c1.same (hds d hd).1 (fun h => h), (hds d hd).2⟩
      have hDS : ∀ k, D k → ¬ (So k ∨ k ∈ ds) := by
        intro k hk h
        rcases hD k hk with h1 | h1
        · have hk1 := hil1 k h1
          rcases h with h | h
          · have := rb.low (Nat.le_refl _) k h; omega
          · have := (hds k h).2.1; omega
        · subst h1
          rcases h with h | h
          · have := (RowBox.part _ _ _ _ _).lt rb _ h; omega
          · have := (Array.getElem?_eq_some_iff.1 (hds _ h).1).1; omega
      have c01 := Chg.seq c c1
      clear rb hds hD c1 c hi1 hil1
      gi_wp2
      have pK : ∀ zs : List Fl, Part (fun S2 W2 => ∃ S3, S2 = (fun k => S3 k ∨ k ∈ ds) ∧ RowBox w.heap.size w.heap.size 86 9 ((toldP ps i ++ zs.map (·.1)).map Value.string) S3 W2 ∧ ∀ d, d ∈ ds → W2.heap[d]? = some (.deferred (some [])) ∧ ¬ S3 d) := fun zs =>
        ⟨by
          rintro S2 W2 ⟨S3, rfl, j3, h3⟩ k (h | h)
          · exact (RowBox.part _ _ _ _ _).lt j3 k h
          · exact (Array.getElem?_eq_some_iff.1 (h3 k h).1).1, by
          rintro S2 W2 W3 ⟨S3, rfl, j3, h3⟩ hs hk
          exact ⟨S3, rfl, (RowBox.part _ _ _ _ _).kept j3 hs (fun k h => hk k (.inl h)), fun d hd => ⟨(hk d (.inr hd)).trans (h3 d hd).1, (h3 d hd).2⟩⟩⟩
      refine wpIn_range (gf := gf) (lb := lb) rfl eg it (fun _ => rfl)
        (fun zs S2 W2 => ∃ S3, S2 = (fun k => S3 k ∨ k ∈ ds) ∧ RowBox w.heap.size w.heap.size 86 9 ((toldP ps i ++ zs.map (·.1)).map Value.string) S3 W2 ∧ ∀ d, d ∈ ds → W2.heap[d]? = some (.deferred (some [])) ∧ ¬ S3 d)
        (fun _ _ _ _ => False)
        pK (fun _ _ => Part.false) (S := fun k => So k ∨ k ∈ ds) hI ⟨So, rfl, by simpa using rb1, fun d hd => ⟨(hds1 d hd).1, (hds1 d hd).2.2⟩⟩
        hDS
        (fun x => { tmps := #[.slice (some ⟨bb, off, none⟩) ps.length cap, t1, t2, .pointer (some ⟨w.heap.size, 0, none⟩), t4, q.1, .string x.1, .slice (some ⟨bb, off, none⟩) ps.length cap, .int .i64 (ps.length : Int), .int .i64 (i : Int), .bool true, .pointer (some ⟨bb, off + i, none⟩), q.1, q.1, .func (.func gf) #[] lb, .string x.1, .string x.2, t17, t18, t19, t20, t21, t22, t23, t24, t25], defers := [] }) ?assign ?body ?done ?stop
      case assign =>
        intro l x W K hK
        gi_wp2
        exact hK
      case body =>
        rintro lr zs x S2 W2 hpre ⟨S3, rfl, ⟨v, rfl, hv, hrow⟩, h3⟩
        have hc := hv.cell
        have hpl := hpre.length_le
        rw [List.length_append, List.length_singleton] at hpl
        have hsl : SlV (W2.alloc (.cells #[.string x.1] 9)) (.slice (some ⟨W2.heap.size, 0, none⟩) 1 1) ([x.1].map Value.string) := SlV.made W2 [.string x.1] 9 (by simp)
        have hbs : w.heap.size ≤ W2.heap.size := Nat.le_of_lt hv.lt
        have HN : Hid ((toldP ps i ++ (zs ++ [x]).map (·.1)).map Value.string = (toldP ps i ++ zs.map (·.1)).map Value.string ++ [.string x.1]) := by
          show _ = _
          simp
        have hvl : ((toldP ps i ++ zs.map (·.1)).map Value.string).length + 1 ≤ 1000000 := by
          rw [List.length_map, List.length_append, List.length_map]
          rw [List.length_append, List.length_map] at hle
          omega
        generalize (toldP ps i ++ zs.map (·.1)).map Value.string = vals at *
        gi_wp2_with (gi_at_builtin; refine wpListIn_append_sv _ rfl _ _ rfl w.heap.size _ vals.length vals rfl (World.ownsRow.alloc hrow _) (some ⟨W2.heap.size, 0, none⟩) 1 1 [x.1] rfl hsl (by omega) (by simp; omega) ?_; intro v' w2 hown' hgrow hat; obtain ⟨p', cap', rfl⟩ := row_slice hown'; obtain ⟨hv1, hv2, hr2, hcg, hgw⟩ := RowBox.step (x := .string x.1) hv (by decide) hrow hown' hgrow hat; have hc1 := hv1.cell; have hf1 := hv1.frozen)
        have hnd3 : ∀ d, d ∈ ds → ¬ (d = w.heap.size ∨ Value.ownBlock (.slice p' (vals.length + 1) cap') = some d) := fun d hd h => by
          rcases hgw d h with h | h
          · exact (h3 d hd).2 h
          · have := (Array.getElem?_eq_some_iff.1 (h3 d hd).1).1; omega
        refine ⟨fun k => (k = w.heap.size ∨ Value.ownBlock (.slice p' (vals.length + 1) cap') = some k) ∨ k ∈ ds, hcg.mono (fun k h => .inl h), ?_, _, rfl, ⟨_, rfl, hv2, by have h := hr2; rw [← HN.out] at h; simpa using h⟩, fun d hd => ⟨hcg.same (h3 d hd).1 (h3 d hd).2, hnd3 d hd⟩⟩
        rintro k (h | h)
        · rcases hgw k h with h | h
          · exact .inl (.inl h)
          · exact .inr h
        · exact .inl (.inr h)
      case done =>
        rintro d S' W9 hd ⟨S3, rfl, j3, h3⟩ hi9 hc9 hg9 hK hnd9
        have cW : Chg No w W9 := by
          refine c01.trans hc9 ?_
          rintro k (h | h | h)
          · exact h.elim
          · exact .inr (rb1.low (Nat.le_refl _) k h)
          · exact .inr (Nat.le_of_lt (hds1 k h).2.1)
        have hdw : w.heap.size < d := by obtain ⟨v1, rfl, hv1, _⟩ := rb1; have := hv1.lt; omega
        gi_wp2
        refine ⟨?_, by simp [intOf]; omega⟩
        unfold PathInv
        refine ⟨i + 1, S3, d :: ds, _, _, _, _, _, _, _, _, _, _, _, _, _, _, _, _, _, _, _, _, _, hlt, rfl, by rw [HT.out]; exact j3, List.nodup_cons.2 ⟨fun h => hnd9 (.inr h), hnd⟩, ?_, cW⟩
        intro d' hd'
        rcases List.mem_cons.1 hd' with rfl | h
        · exact ⟨hK, hdw, fun h => hnd9 (.inl h)⟩
        · exact ⟨(h3 d' h).1, (hds1 d' h).2.1, (h3 d' h).2⟩
      case stop =>
        rintro d c pre S' W _ _ h
        exact h.elim
    · have hlt' : ¬ (i : Int) < (ps.length : Int) := by omega
      obtain rfl : i = ps.length := by omega
      obtain ⟨v, rfl, hv, hrow⟩ := rb
      have hc := hv.cell
      have hne := hv.not_row (by decide) hrow
      rw [List.length_map] at hrow
      gi_wp2_with fail
      refine ⟨trivial, rfl, (sortS_in v (toldP ps ps.length) w.heap.size (by omega) _ hrow).mono ?_⟩
      rintro e w1 ⟨rfl, r1, c1⟩
      have hv1 := c1.boxed hv (fun h => hne h.symm)
      have hc1 := hv1.cell
      have hz : (((toldP ps ps.length).map Bs).mergeSort (fun x y => decide (x ≤ y))).length = (toldP ps ps.length).length := by rw [List.length_mergeSort, List.length_map]
      rw [← hz] at r1
      have C1 := compactS_in v _ w.heap.size (by omega) w1 r1
      rw [sort_compact, map_encStr, List.length_map] at C1
      have hpp : rise (toldP ps ps.length) = paths (ps.map (·.2)) := by
        unfold paths toldP
        rw [List.take_length, List.flatMap_map]
      rw [hpp] at C1
      clear hpp hz
      gi_wp2_with fail
      refine ⟨trivial, rfl, C1.mono ?_⟩
      rintro e w2 ⟨v2, rfl, r2, ho2, c2⟩
      have c02 : Chg (fun k => v.ownBlock = some k) W w2 := c1.trans c2 (fun k h => .inl h)
      have hds2 : ∀ d, d ∈ ds → w2.heap[d]? = some (.deferred (some [])) := fun d hd => c02.same (hds d hd).1 (fun h => (hds d hd).2.2 (.inr h))
      gi_wp2
      refine leaves_marks ds w2 hnd hds2 (fun W' c9 => ⟨_, results_tmp rfl _ _ _, v2, rfl, row_kept r2 (fun k h => c9.block k (r2.lt k h).2 (fun hk => (hds k hk).2.2 (.inr (ho2 ▸ h)))), ?_⟩)
      refine (c.trans c02 (fun k h => .inr (hrow.lt k h).1)).trans c9 (fun k h => .inr (Nat.le_of_lt (hds k h).2.1))

end Go.Proofs.YtakbeololabmhaaGreatDoor

end
section
-- JLaw
namespace Go.TreeLib
open Go Go.TextLib
/-- Lists that a walk may go through. -/
def Few (t : List Fl) : Prop := t.length ≤ 50 ∧ ∀ f ∈ t, f.1.size ≤ 1000 ∧ f.2.size ≤ 1000
end Go.TreeLib
namespace Go.Proofs.YtakbeololabmhaaGreatDoor
open Go.RowKit Go.Shelf Go.SeqLib Go.DiffLib Go.TreeLib Go.TextLib Go.BigFrame
attribute [local go_sem] Oper.semAt_some

end Go.Proofs.YtakbeololabmhaaGreatDoor

end
section
-- JOf
namespace Go.TreeLib
theorem all3_le (o a b : List Fl) : (all3 o a b).length ≤ o.length + a.length + b.length := by
  unfold all3 paths
  refine Nat.le_trans (rise_len _) ?_
  simp
  omega
end Go.TreeLib
namespace Go.Proofs.YtakbeololabmhaaGreatDoor
open Go.RowKit Go.Shelf Go.SeqLib Go.DiffLib Go.TreeLib Go.TextLib Go.BigFrame
attribute [local go_sem] Oper.semAt_some

/-- Three lists, side by side in a row. -/
theorem three_row (vo va vb : Value) (o a b : List Fl) (w : World) (ho : SlF w vo o) (ha : SlF w va a) (hb : SlF w vb b) :
    SlV (w.alloc (.cells #[vo, va, vb] 30)) (.slice (some ⟨w.heap.size, 0, none⟩) 3 3) ([(vo, o), (va, a), (vb, b)].map (·.1)) ∧ ∀ q ∈ [(vo, o), (va, a), (vb, b)], SlF (w.alloc (.cells #[vo, va, vb] 30)) q.1 q.2 := by
  have c0 : Chg No w (w.alloc (.cells #[vo, va, vb] 30)) := (Chg.refl _ w).alloc _
  refine ⟨SlV.made w [vo, va, vb] 30 (by simp), fun q hq => ?_⟩
  rcases List.mem_cons.1 hq with rfl | hq
  · exact ho.no c0
  rcases List.mem_cons.1 hq with rfl | hq
  · exact ha.no c0
  · rw [List.mem_singleton.1 hq]; exact hb.no c0

/-- A box for what stands at a path. -/
theorem spot_box (w : World) (b : Bool) (d : ByteArray) : Chg No w (w.alloc (.cells #[.bool b, .string d] 107)) ∧ (w.alloc (.cells #[.bool b, .string d] 107)).heap[w.heap.size]? = some (.cells #[.bool b, .string d] 107 (0, 0)) :=
  ⟨(Chg.refl _ w).alloc _, World.alloc_heap_new w _⟩

end Go.Proofs.YtakbeololabmhaaGreatDoor

end
section
-- JVir
namespace Go.TreeLib
open Go Go.TextLib
theorem one3_clash {o x y : At} (h : (one3 o x y).2 = true) : (one3 o x y).1 = o := by
  unfold one3 at h ⊢
  by_cases h1 : x = y
  · rw [if_pos h1] at h; cases h
  rw [if_neg h1] at h ⊢
  by_cases h2 : x = o
  · rw [if_pos h2] at h; cases h
  rw [if_neg h2] at h ⊢
  by_cases h3 : y = o
  · rw [if_pos h3] at h; cases h
  rw [if_neg h3] at h ⊢
  unfold mid at h ⊢
  by_cases h4 : x.1 = true ∧ y.1 = true
  · rw [if_pos h4] at h ⊢
    cases hm : tm o.2 x.2 y.2 with
    | none => rfl
    | some m => rw [hm] at h; cases h
  · rw [if_neg h4]
theorem kept_size {o a b : List Fl} (h : IsTree o ∧ IsTree a ∧ IsTree b) (l : List ByteArray) (hl : ∀ p ∈ l, p ∈ all3 o a b) : ∀ f ∈ keptL o a b l, f.1.size ≤ 100000 := by
  intro f hf
  have := path_of h (hl _ (mem_outL.1 (List.mem_filter.1 hf).1).1)
  have h2 := (pathB_iff.1 this).len
  have h3 : (Bs f.1).length = f.1.size := rfl
  omega
end Go.TreeLib
namespace Go.Proofs.YtakbeololabmhaaGreatDoor
open Go.RowKit Go.Shelf Go.SeqLib Go.DiffLib Go.TreeLib Go.TextLib Go.BigFrame
attribute [local go_sem] Oper.semAt_some

/-- A list of files that is owned, cut short. -/
theorem OwnF.cut {W : World} {base : Nat} {p : Option Addr} {n cap : Nat} {zs : List Fl} (h : OwnF W base (.slice p n cap) zs) (hn : zs.length = n) (hi : Nat) (h2 : hi ≤ n) :
    OwnF W base (.slice p hi cap) (zs.take hi) ∧ ∀ w, (Instr.sliceAt 30 (.slice p n cap) none (some (.int .i64 (hi : Int))) none).run Tryz.prog w = .ok (.slice p hi cap) w := by
  subst hn
  have hl : (zs.take hi).length = hi := by rw [List.length_take]; omega
  have hs := h.sl
  have hcap : zs.length ≤ cap := by obtain ⟨p0, cap0, e0, q1, _⟩ := hs; cases e0; omega
  have hrun : (sliced p 0 hi cap 2) = .slice p hi cap → ∀ w, (Instr.sliceAt 30 (.slice p zs.length cap) none (some (.int .i64 (hi : Int))) none).run Tryz.prog w = .ok (.slice p hi cap) w := fun e w => by
    have ht : Tryz.prog.underlying 30 = some (.slice (Tryz.prog.elem 30)) := by rw [elem_files]; exact Tryz.underlying30
    rw [run_sliceAt_slice _ _ _ _ _ _ ht, run_slice_h _ _ _ _ _ ht .i64 (hi : Int) (by omega) (by omega), elem_files, size_file]
    show Result.ok (sliced p 0 hi cap 2) w = _
    rw [e]
  obtain ⟨h1, h2' | ⟨g, cap', cur, hv, hb, hg, hn, hm, hc, ht⟩⟩ := h
  · obtain ⟨e, e0⟩ := h2'
    rw [Value.slice.injEq] at e
    obtain ⟨rfl, e2, rfl⟩ := e
    have hz : zs = [] := List.length_eq_zero_iff.1 e0
    obtain rfl : hi = 0 := by omega
    subst hz
    exact ⟨OwnF.nil _ _, hrun (by simp [sliced])⟩
  · cases hv
    refine ⟨⟨by rw [flatF_length], .inr ⟨g, cap, cur, by rw [hl], hb, hg, by omega, hm, hc, ?_⟩⟩, hrun ?_⟩
    · rw [hl]
      have h5 : (cur.toList.take (zs.length * 2)).take (hi * 2) = cur.toList.take (hi * 2) := by rw [List.take_take, Nat.min_eq_left (by omega)]
      rw [← h5, ht]
      conv => lhs; rw [← List.take_append_drop hi zs, List.flatMap_append]
      exact List.take_left' (by rw [flatF_length, hl])
    · unfold sliced
      have : (Addr.add ⟨g, 0, none⟩ (0 * 2)) = ⟨g, 0, none⟩ := by rw [addr_add]
      rw [Option.map_some, this]
      simp

/-- What holds while what came of a path is asked for and laid in a box. -/
structure VirInv (W0 : World) (va vb vR : Value) (r : At) (d : Nat → Bool) (u : Nat → Value) (W : World) : Prop where
  chg : Chg No W0 W
  v3 : u 3 = va
  v6 : u 6 = vb
  v7 : u 7 = vR
  v11 : ∃ g, u 11 = .pointer (some ⟨g, 0, none⟩)
  o12 : d 12 = true → d 11 = true
  b11 : d 11 = true → ∃ g, u 11 = .pointer (some ⟨g, 0, none⟩) ∧ W0.heap.size ≤ g ∧ W.heap[g]? = some (.cells (if d 12 = true then #[.bool r.1, .string r.2] else #[.bool false, .string ⟨#[]⟩]) 107 (0, 0))
section
variable {W0 W W' : World} {va vb vR : Value} {r : At} {d : Nat → Bool} {u : Nat → Value}
theorem VirInv.step (h : VirInv W0 va vb vR r d u W) (i : Nat) (v : Value) (c : Chg No W W') (h11 : ¬ 11 = i) (h12 : ¬ 12 = i) (h3 : 3 = i → v = va) (h6 : 6 = i → v = vb) (h7 : 7 = i → v = vR) :
    VirInv W0 va vb vR r (fun j => if j = i then true else d j) (fun j => if j = i then v else u j) W' := by
  refine ⟨Chg.seq h.chg c, ?_, ?_, ?_, ?_, fun e => ?_, fun e => ?_⟩
  · by_cases hh : 3 = i
    · simp only [if_pos hh]; exact h3 hh
    · simp only [if_neg hh]; exact h.v3
  · by_cases hh : 6 = i
    · simp only [if_pos hh]; exact h6 hh
    · simp only [if_neg hh]; exact h.v6
  · by_cases hh : 7 = i
    · simp only [if_pos hh]; exact h7 hh
    · simp only [if_neg hh]; exact h.v7
  · simp only [if_neg h11]; exact h.v11
  · simp only [if_neg h11, if_neg h12] at e ⊢; exact h.o12 e
  · simp only [if_neg h11, if_neg h12] at e ⊢
    obtain ⟨g, e1, g1, g2⟩ := h.b11 e
    exact ⟨g, e1, g1, c.same g2 (fun h => h)⟩
theorem VirInv.made (h : VirInv W0 va vb vR r d u W) (h12 : d 12 = false) :
    VirInv W0 va vb vR r (fun j => if j = 11 then true else d j) (fun j => if j = 11 then .pointer (some ⟨W.heap.size, 0, none⟩) else u j) (W.alloc (.cells #[.bool false, .string ⟨#[]⟩] 107)) :=
  ⟨h.chg.alloc _, h.v3, h.v6, h.v7, ⟨W.heap.size, rfl⟩, fun _ => rfl, fun _ => ⟨W.heap.size, rfl, h.chg.size, by
    show (W.alloc _).heap[W.heap.size]? = some (.cells (if d 12 = true then _ else _) _ _)
    rw [h12]
    exact World.alloc_heap_new W _⟩⟩
theorem VirInv.filled (h : VirInv W0 va vb vR r d u W) {g : Nat} (hg1 : W0.heap.size ≤ g) (hg2 : W.heap[g]? = some (.cells #[.bool false, .string ⟨#[]⟩] 107 (0, 0))) (e : u 11 = .pointer (some ⟨g, 0, none⟩)) (h11 : d 11 = true) (v : Value) :
    VirInv W0 va vb vR r (fun j => if j = 12 then true else d j) (fun j => if j = 12 then v else u j) ((W.setCell ⟨g, 0, none⟩ (.bool r.1)).setCell ⟨g, 1, none⟩ (.string r.2)) :=
  ⟨(h.chg.setCell (p := ⟨g, 0, none⟩) (.inr hg1) _).setCell (p := ⟨g, 1, none⟩) (.inr hg1) _, h.v3, h.v6, h.v7, ⟨g, e⟩, fun _ => h11, fun _ => ⟨g, e, hg1, by
    show ((W.setCell ⟨g, 0, none⟩ (.bool r.1)).setCell ⟨g, 1, none⟩ (.string r.2)).heap[g]? = some (.cells #[.bool r.1, .string r.2] 107 (0, 0))
    simp [World.setCell, Array.getElem?_modify, hg2]⟩⟩
end

set_option maxRecDepth 100000 in
set_option maxHeartbeats 4000000 in
theorem joinVir_in (vo va vb : Value) (o a b : List Fl) (w : World) (ho : SlF w vo o) (ha : SlF w va a) (hb : SlF w vb b) (fo : Few o) (fa : Few a) (fb : Few b) :
    CallsIn Fence.wide 0 Tryz.prog 48 #[vo, va, vb] w fun e w' => ∃ v1, e = .returned v1 ∧ OwnF w' w.heap.size v1 (virJ o a b) ∧ Chg No w w' := by
  have hmix : Tryz.prog.follows .mixedOrders = true := by kernel_rfl
  obtain ⟨s0, i0⟩ := three_row vo va vb o a b w ho ha hb
  have c0 : Chg No w (w.alloc (.cells #[vo, va, vb] 30)) := (Chg.refl _ w).alloc _
  have A1 := areTrees_in (.slice (some ⟨w.heap.size, 0, none⟩) 3 3) [(vo, o), (va, a), (vb, b)] (by simp) (by
    intro q hq
    rcases List.mem_cons.1 hq with rfl | hq
    · exact fun f hf => Nat.le_trans (fo.2 f hf).1 (by omega)
    rcases List.mem_cons.1 hq with rfl | hq
    · exact fun f hf => Nat.le_trans (fa.2 f hf).1 (by omega)
    · rw [List.mem_singleton.1 hq]; exact fun f hf => Nat.le_trans (fb.2 f hf).1 (by omega)) _ s0 i0
  rw [show ([(vo, o), (va, a), (vb, b)].all (fun q => mayB q.2)) = may3 o a b from by simp [may3]] at A1
  obtain ⟨po, ko, rfl, _, _⟩ := ho.slice
  obtain ⟨pa, ka, rfl, _, _⟩ := ha.slice
  obtain ⟨pb, kb, rfl, _, _⟩ := hb.slice
  obtain ⟨no, hno⟩ : ∃ no, o.length = no := ⟨_, rfl⟩
  obtain ⟨na, hna⟩ : ∃ na, a.length = na := ⟨_, rfl⟩
  obtain ⟨nb, hnb⟩ : ∃ nb, b.length = nb := ⟨_, rfl⟩
  rw [hno] at ho A1 c0 s0 i0 ⊢
  rw [hna] at ha A1 c0 s0 i0 ⊢
  rw [hnb] at hb A1 c0 s0 i0 ⊢
  have HMT : Hid (may3 o a b = true → virJ o a b = (keptL o a b (all3 o a b)).take 12) := fun h => virJ_kept h
  have HMF : Hid (may3 o a b = false → virJ o a b = []) := fun h => by
    show _ = _
    unfold virJ
    rw [if_neg (by rw [h]; exact Bool.false_ne_true)]
  have H3 : Hid (may3 o a b = true → IsTree o ∧ IsTree a ∧ IsTree b) := fun h => may3_iff.1 h
  generalize virJ o a b = J at HMT HMF ⊢
  generalize may3 o a b = m at A1 HMT HMF H3
  clear s0 i0 hno hna hnb fo fa fb
  refine callsIn_of_wp Tryz.func48 rfl trivial ?_
  simp only [Tryz.ntmps48, List.size_toArray, List.length_cons, List.length_nil, Nat.reduceAdd, Nat.reduceSub, Array.replicate_succ, Array.replicate_zero, List.push_toArray, List.append_toArray, List.nil_append, List.cons_append]
  gi_wp2_with fail
  refine ⟨trivial, rfl, A1.mono ?_⟩
  rintro e w1 ⟨rfl, c1⟩
  have c01 := Chg.seq c0 c1
  have hs01 := c01.size
  cases m with
  | false =>
    obtain rfl : J = [] := HMF.out rfl
    gi_wp2
    go_ret
    exact ⟨_, rfl, OwnF.nil _ _, c01⟩
  | true =>
  have HJ := HMT.out rfl
  have h3 := H3.out rfl
  have ho1 := ho.no c01
  have ha1 := ha.no c01
  have hb1 := hb.no c01
  obtain ⟨s1, i1⟩ := three_row (.slice po no ko) (.slice pa na ka) (.slice pb nb kb) o a b w1 ho1 ha1 hb1
  have P1 := paths_in (.slice (some ⟨w1.heap.size, 0, none⟩) 3 3) [((.slice po no ko), o), ((.slice pa na ka), a), ((.slice pb nb kb), b)] _ s1 i1 (by
    have h1 := h3.1.len; have h2 := h3.2.1.len; have h4 := h3.2.2.len
    simp [toldP]; omega)
  rw [show ([((Value.slice po no ko), o), ((.slice pa na ka), a), ((.slice pb nb kb), b)].map (·.2)) = [o, a, b] from rfl] at P1
  have hal : (all3 o a b).length ≤ 36 := by
    have h1 := h3.1.len; have h2 := h3.2.1.len; have h4 := h3.2.2.len
    have := all3_le o a b
    omega
  have cP : Chg No w1 (w1.alloc (.cells #[(.slice po no ko), (.slice pa na ka), (.slice pb nb kb)] 30)) := (Chg.refl _ w1).alloc _
  have HCA : Hid (∀ k p, (all3 o a b)[k]? = some p → nested (keptL o a b ((all3 o a b).take k)) p = nested (out3 o a b) p) := fun k p h => kept_ahead (split_at h)
  have HCZ : Hid (∀ k, ∀ f ∈ keptL o a b ((all3 o a b).take k), f.1.size ≤ 100000) := fun k => kept_size h3 _ (fun p hp => List.mem_of_mem_take hp)
  have HSZ : Hid (∀ p, (atP o p).2.size ≤ 100000 ∧ (atP a p).2.size ≤ 100000 ∧ (atP b p).2.size ≤ 100000) := fun p => ⟨Nat.le_trans (tree_size h3.1 p) (by decide), Nat.le_trans (tree_size h3.2.1 p) (by decide), Nat.le_trans (tree_size h3.2.2 p) (by decide)⟩
  have HRO : Hid (∀ p, (res o a b p).2 = true → (res o a b p).1 = atP o p) := fun p h => one3_clash h
  obtain ⟨all, HA⟩ : ∃ all, Hid (all3 o a b = all) := ⟨_, rfl⟩
  rw [show paths [o, a, b] = all from HA.out] at P1
  rw [HA.out] at hal HJ HCA HCZ
  have HJ2 : Hid _ := HJ
  obtain ⟨n, HN⟩ : ∃ n, Hid (all.length = n) := ⟨_, rfl⟩
  clear HMT HMF H3 A1 c0 c1 s1 i1 ho ha hb h3 HJ
  gi_wp2_with fail
  refine ⟨trivial, rfl, P1.mono ?_⟩
  rintro e w2 ⟨tv, rfl, r1, c2⟩
  have c12 := Chg.seq cP c2
  have c02 := Chg.seq c01 c12
  have hs02 := c02.size
  have st : SlT w2 tv all := OwnT.sl r1
  obtain ⟨pt, kt, rfl⟩ := row_slice r1
  rw [HN.out] at st hal ⊢
  have ho2 := ho1.no c12
  have ha2 := ha1.no c12
  have hb2 := hb1.no c12
  have hn0 : n ≤ 9223372036854775807 := by omega
  clear P1 r1 c2 cP c12 ho1 ha1 hb1 hs01 c01
  gi_wp2
  gi_loopw [7, 25] (fun s7 s25 wr => ∃ k : Nat, k ≤ n ∧ s25 = .int .i64 (k : Int) ∧ OwnF wr w2.heap.size s7 (keptL o a b (all.take k)) ∧ Chg No w2 wr) (fun _ s25 _ => n - (intOf s25).toNat)
  case atStart => exact ⟨0, Nat.zero_le _, rfl, OwnF.nil _ _, Chg.refl _ _⟩
  case round =>
    obtain ⟨k, hk, rfl, ho7, c⟩ := hrel
    by_cases hlt : k < n
    · have hlt' : (k : Int) < (n : Int) := by omega
      have hko : k < all.length := by rw [HN.out]; exact hlt
      obtain ⟨p, hp⟩ : ∃ p, all[k]? = some p := ⟨_, List.getElem?_eq_getElem hko⟩
      obtain ⟨bb, off, rfl, hcw⟩ := SlT.at (st.no c) k p hp
      have HTS : Hid (all.take (k + 1) = all.take k ++ [p]) := by show _ = _; rw [List.take_add_one, hp]; rfl
      have HS7 : Hid (keptL o a b (all.take (k + 1)) = keptL o a b (all.take k) ++ (if ((res o a b p).1.1 && !nested (out3 o a b) p) = true then [(p, (res o a b p).1.2)] else [])) := by show _ = _; rw [HTS.out, keptL_snoc]
      have HLF : Hid ((keptL o a b (all.take k)).length ≤ 36) := by
        have := keptL_len o a b (all.take k)
        rw [List.length_take] at this
        show _ ≤ _
        omega
      have U1 := fun v W h => isUnder_in v (keptL o a b (all.take k)) p (HCZ.out k) W h
      simp only [HCA.out k p hp] at U1
      have T1 := fun W => together_in (atP o p) (atP a p) (atP b p) (HSZ.out p).1 (HSZ.out p).2.1 (HSZ.out p).2.2 W
      simp only [show one3 (atP o p) (atP a p) (atP b p) = res o a b p from rfl] at T1
      have HRo : Hid ((res o a b p).2 = true → (res o a b p).1 = atP o p) := HRO.out p
      have G1 := at_in (.slice po no ko) o p wr (ho2.no c)
      have G2 := fun W h => at_in (.slice pa na ka) a p W h
      have G3 := fun W h => at_in (.slice pb nb kb) b p W h
      generalize res o a b p = R at T1 HS7 HRo
      generalize nested (out3 o a b) p = u at U1 HS7
      generalize atP o p = xo at G1 T1 HRo
      generalize atP a p = xa at G2 T1
      generalize atP b p = xb at G3 T1
      generalize keptL o a b (all.take k) = fs at ho7 HS7 HLF U1
      obtain ⟨⟨r1, r2⟩, r3⟩ := R
      obtain ⟨xo1, xo2⟩ := xo
      obtain ⟨xa1, xa2⟩ := xa
      obtain ⟨xb1, xb2⟩ := xb
      obtain ⟨p7, k7, rfl⟩ := ho7.slice
      dsimp only at G1 G2 G3 T1 HS7 HRo
      clear hp hko HTS
      gi_wp2_with fail
      refine ⟨trivial, rfl, G1.mono ?_⟩
      rintro e w3 ⟨rfl, c3⟩
      have c23 := Chg.seq c c3
      obtain ⟨W4, hW4⟩ : ∃ W4, w3.alloc (.cells #[.bool xo1, .string xo2] 107) = W4 := ⟨_, rfl⟩
      have c4 : Chg No w3 W4 := hW4 ▸ (spot_box w3 xo1 xo2).1
      have hb4 : W4.heap[w3.heap.size]? = some (.cells #[.bool xo1, .string xo2] 107 (0, 0)) := hW4 ▸ (spot_box w3 xo1 xo2).2
      have c24 := Chg.seq c23 c4
      have o7 := (ho7.no c3).no c4
      have ha4 := ha2.no c24
      have hb4' := hb2.no c24
      have hany := After.any W4
      have q0 : W4.cell? ⟨w3.heap.size, 0, none⟩ = some (.bool xo1) := by simp [World.cell?, hb4]
      have q1 : W4.cell? ⟨w3.heap.size, 1, none⟩ = some (.string xo2) := by simp [World.cell?, hb4]
      have f0 : ∀ c : After W4, c.val.cell? ⟨w3.heap.size, 0, none⟩ = some (.bool xo1) := fun c => c.cell q0
      have f1 : ∀ c : After W4, c.val.cell? ⟨w3.heap.size, 1, none⟩ = some (.string xo2) := fun c => c.cell q1
      obtain ⟨T, hT⟩ : ∃ T, togR ((r1, r2), r3) = T := ⟨_, rfl⟩
      have HTg : Hid (togR ((r1, r2), r3) = T) := hT
      rw [hT] at T1
      obtain ⟨⟨t1, t2⟩, t3⟩ := T
      dsimp only at T1
      clear G1 q0 q1 hT c3 c4 c23 ho7
      gi_wp2
      refine region_loudG (fun i => i == 3 || i == 6 || i == 7 || i == 11 || i == 12) (fun w' => ∃ c : After W4, w' = c.val) (VirInv W4 (.agg #[.bool xa1, .string xa2]) (.agg #[.bool xb1, .string xb2]) (.tuple #[.agg #[.bool t1, .string t2], .bool t3]) (t1, t2))
        (fun j => if j = 3 then .agg #[.bool xa1, .string xa2] else if j = 6 then .agg #[.bool xb1, .string xb2] else if j = 7 then .tuple #[.agg #[.bool t1, .string t2], .bool t3] else .pointer (some ⟨0, 0, none⟩)) hmix (by kernel_rfl) (by kernel_rfl) (fun d u W h => ⟨⟨W, h.chg⟩, rfl⟩)
        ⟨(Chg.refl _ W4).drew, rfl, rfl, rfl, ⟨0, rfl⟩, fun h => (by cases h), fun h => (by cases h)⟩ (fun u' hu => ?_)
      obtain ⟨_, _, hu⟩ := hu
      obtain ⟨g, e11⟩ := hu.v11
      have e3 := hu.v3
      have e6 := hu.v6
      have e7 := hu.v7
      clear hu
      simp only [hushE, Nat.reduceAdd, Nat.reduceBEq, Bool.or_self, Bool.or_true, Bool.or_false, if_true, if_false, Bool.false_eq_true]
      simp only [e3, e6, e7, e11]
      repeat (gi_big_quiet_step (fail))
      refine wpQuietIn_nil ⟨?_, ?_, ?_⟩
      · intro i oo ho hm
        simp only [Bool.or_eq_true, beq_iff_eq] at hm
        rcases hm with (((rfl | rfl) | rfl) | rfl) | rfl
        all_goals (cases ho; rfl)
      · intro i oo d W hjo hm hd hwt hI
        simp only [Bool.or_eq_true, beq_iff_eq] at hm
        rcases hm with (((rfl | rfl) | rfl) | rfl) | rfl
        · cases hjo
          refine LeadsV.call (f := 72) (args := #[.slice pa na ka, .string p]) (by simp [go_sem]) ((G2 W (ha4.no hI.chg)).mono ?_)
          rintro e W' ⟨rfl, c'⟩
          exact ⟨_, rfl, hI.step 3 _ c' (by omega) (by omega) (fun _ => rfl) (by omega) (by omega)⟩
        · cases hjo
          refine LeadsV.call (f := 72) (args := #[.slice pb nb kb, .string p]) (by simp [go_sem]) ((G3 W (hb4'.no hI.chg)).mono ?_)
          rintro e W' ⟨rfl, c'⟩
          exact ⟨_, rfl, hI.step 6 _ c' (by omega) (by omega) (by omega) (fun _ => rfl) (by omega)⟩
        · cases hjo
          refine LeadsV.call (f := 73) (args := #[.agg #[.bool xo1, .string xo2], .agg #[.bool xa1, .string xa2], .agg #[.bool xb1, .string xb2]]) (by simp [go_sem]) ((T1 W).mono ?_)
          rintro e W' ⟨rfl, c'⟩
          exact ⟨_, rfl, hI.step 7 _ c' (by omega) (by omega) (by omega) (by omega) (fun _ => rfl)⟩
        · cases hjo
          have h12 : d 12 = false := by
            cases h : d 12 with
            | false => rfl
            | true => have := hI.o12 h; rw [hd] at this; cases this
          refine LeadsV.value (v := .pointer (some ⟨W.heap.size, 0, none⟩)) (w' := W.alloc (.cells #[.bool false, .string ⟨#[]⟩] 107)) ?_ ?_
          · simp [go_sem]
          · exact hI.made h12
        · cases hjo
          obtain ⟨g', e', hg1, hg2⟩ := hI.b11 (hwt 11 rfl (by kernel_rfl))
          rw [e11] at e'
          cases e'
          simp only [hd, Bool.false_eq_true, if_false] at hg2
          have k1 : W.cell? ⟨g, 0, none⟩ = some (.bool false) := by simp [World.cell?, hg2]
          have k2 : W.cell? ⟨g, 1, none⟩ = some (.string ⟨#[]⟩) := by simp [World.cell?, hg2]
          have z1 : W.frozen? ⟨g, 0, none⟩ = false := by simp [World.frozen?, hg2]
          have z2 : W.frozen? ⟨g, 1, none⟩ = false := by simp [World.frozen?, hg2]
          refine LeadsV.skip (w' := (W.setCell ⟨g, 0, none⟩ (.bool t1)).setCell ⟨g, 1, none⟩ (.string t2)) ?_ ?_
          · simp [go_sem, k1, k2, z1, z2]
          · exact hI.filled hg1 hg2 e11 (hwt 11 rfl (by kernel_rfl)) undef
      intro d W hall hI
      obtain ⟨g', e', hg1, hg2⟩ := hI.b11 (hall 11 rfl (by simp))
      rw [e11] at e'
      cases e'
      rw [if_pos (hall 12 rfl (by simp))] at hg2
      have cW := hI.chg
      clear hI hall e11 e3 e6 e7 f0 f1 hany G2 G3 T1 ha4 hb4'
      have c2W := Chg.seq c24 cW
      have o7W := o7.no cW
      have hb5 := cW.same hb4 (fun h => h)
      have hgb : w3.heap.size < W4.heap.size := (Array.getElem?_eq_some_iff.1 hb4).1
      have hgw : w2.heap.size ≤ g := by have := c24.size; omega
      have hgo : ∀ q, (Value.slice p7 fs.length k7).ownBlock = some q → q ≠ g := fun q e => by have := (World.ownsRow.lt o7 q e).2; omega
      cases r3 with
      | true =>
        have e0 : (r1, r2) = (xo1, xo2) := HRo.out rfl
        cases e0
        have et : (((t1, t2), t3) : At × Bool) = ((false, ⟨#[]⟩), false) := HTg.out.symm
        cases et
        have p0 : W.cell? ⟨w3.heap.size, 0, none⟩ = some (.bool r1) := by simp [World.cell?, hb5]
        have p1 : W.cell? ⟨w3.heap.size, 1, none⟩ = some (.string r2) := by simp [World.cell?, hb5]
        have k1 : W.cell? ⟨g, 0, none⟩ = some (.bool false) := by simp [World.cell?, hg2]
        have k2 : W.cell? ⟨g, 1, none⟩ = some (.string ⟨#[]⟩) := by simp [World.cell?, hg2]
        have z1 : W.frozen? ⟨g, 0, none⟩ = false := by simp [World.frozen?, hg2]
        have z2 : W.frozen? ⟨g, 1, none⟩ = false := by simp [World.frozen?, hg2]
        obtain ⟨Wz, hWz⟩ : ∃ Wz, (W.setCell ⟨g, 0, none⟩ (.bool r1)).setCell ⟨g, 1, none⟩ (.string r2) = Wz := ⟨_, rfl⟩
        have hbz : Wz.heap[g]? = some (.cells #[.bool r1, .string r2] 107 (0, 0)) := by rw [← hWz]; simp [World.setCell, Array.getElem?_modify, hg2]
        have czg : Chg (fun q => q = g) W Wz := by rw [← hWz]; exact ((Chg.refl (fun q => q = g) W).setCell (p := ⟨g, 0, none⟩) (.inl rfl) _).setCell (p := ⟨g, 1, none⟩) (.inl rfl) _
        have ccz : Chg No w2 Wz := c2W.trans czg (fun q e => .inr (by rw [e]; exact hgw))
        have o7z : OwnF Wz w2.heap.size (.slice p7 fs.length k7) fs := o7W.chg czg (fun q h e => hgo q h e)
        have q0 : Wz.cell? ⟨g, 0, none⟩ = some (.bool r1) := by simp [World.cell?, hbz]
        clear hb4 hb5 o7 o7W c24 cW czg hcw HRo HTg
        cases r1 with
        | false =>
          rw [Bool.false_and, if_neg Bool.false_ne_true, List.append_nil] at HS7
          gi_wp2_with fail
          refine ⟨trivial, ?_⟩
          rename_i hKK
          apply hKK
          gi_wp2
          refine ⟨⟨k + 1, hlt, by go_num, by rw [HS7.out]; exact o7z, ccz⟩, by simp [intOf]; omega⟩
        | true =>
        have U2 := U1 (.slice p7 fs.length k7) Wz o7z.sl
        clear U1
        gi_wp2_with fail
        refine ⟨trivial, rfl, U2.mono ?_⟩
        rintro e w9 ⟨rfl, c9⟩
        have c29 := Chg.seq ccz c9
        have o79 := o7z.no c9
        have hb9 := c9.same hbz (fun h => h)
        clear U2 c9 q0
        cases u with
        | true =>
          rw [show (true && !true) = false from rfl, if_neg Bool.false_ne_true, List.append_nil] at HS7
          gi_wp2
          refine ⟨⟨k + 1, hlt, by go_num, by rw [HS7.out]; exact o79, c29⟩, by simp [intOf]; omega⟩
        | false =>
          rw [show (true && !false) = true from rfl, if_pos rfl] at HS7
          have q1 : w9.cell? ⟨g, 1, none⟩ = some (.string r2) := by simp [World.cell?, hb9]
          have cA : Chg No w9 (w9.alloc (.cells #[.string p, .string r2] 49)) := (Chg.refl _ w9).alloc _
          have oA := o79.no cA
          have hsl := SlF.one w9 (p, r2)
          have ccA := Chg.seq c29 cA
          have hbs := ccA.size
          gi_wp2_with (gi_at_builtin; refine wpListIn_append_sf _ rfl _ _ rfl w2.heap.size _ fs rfl oA (some ⟨w9.heap.size, 0, none⟩) 1 1 [(p, r2)] rfl hsl (by have := HLF.out; omega) hbs ?_; intro v8' W7 hown8 hgrow8 _; obtain ⟨p8', c8', rfl⟩ := hown8.slice)
          refine ⟨⟨k + 1, hlt, by go_num, by rw [HS7.out]; rw [List.length_append] at hown8; exact hown8, ccA.grown hgrow8 (fun q e => .inr (World.ownsRow.lt o79 q e).1)⟩, by simp [intOf]; omega⟩
      | false =>
        have et : (((t1, t2), t3) : At × Bool) = ((r1, r2), true) := HTg.out.symm
        cases et
        obtain ⟨Wz, hWz⟩ : ∃ Wz, W = Wz := ⟨_, rfl⟩
        subst hWz
        have hbz := hg2
        have ccz := c2W
        have o7z := o7W
        have q0 : W.cell? ⟨g, 0, none⟩ = some (.bool r1) := by simp [World.cell?, hbz]
        clear hb4 hb5 o7 o7W c24 cW hcw HRo HTg hg2 c2W
        cases r1 with
        | false =>
          rw [Bool.false_and, if_neg Bool.false_ne_true, List.append_nil] at HS7
          gi_wp2_with fail
          refine ⟨trivial, ?_⟩
          rename_i hKK
          apply hKK
          gi_wp2
          refine ⟨⟨k + 1, hlt, by go_num, by rw [HS7.out]; exact o7z, ccz⟩, by simp [intOf]; omega⟩
        | true =>
        have U2 := U1 (.slice p7 fs.length k7) W o7z.sl
        clear U1
        gi_wp2_with fail
        refine ⟨trivial, rfl, U2.mono ?_⟩
        rintro e w9 ⟨rfl, c9⟩
        have c29 := Chg.seq ccz c9
        have o79 := o7z.no c9
        have hb9 := c9.same hbz (fun h => h)
        clear U2 c9 q0
        cases u with
        | true =>
          rw [show (true && !true) = false from rfl, if_neg Bool.false_ne_true, List.append_nil] at HS7
          gi_wp2
          refine ⟨⟨k + 1, hlt, by go_num, by rw [HS7.out]; exact o79, c29⟩, by simp [intOf]; omega⟩
        | false =>
          rw [show (true && !false) = true from rfl, if_pos rfl] at HS7
          have q1 : w9.cell? ⟨g, 1, none⟩ = some (.string r2) := by simp [World.cell?, hb9]
          have cA : Chg No w9 (w9.alloc (.cells #[.string p, .string r2] 49)) := (Chg.refl _ w9).alloc _
          have oA := o79.no cA
          have hsl := SlF.one w9 (p, r2)
          have ccA := Chg.seq c29 cA
          have hbs := ccA.size
          gi_wp2_with (gi_at_builtin; refine wpListIn_append_sf _ rfl _ _ rfl w2.heap.size _ fs rfl oA (some ⟨w9.heap.size, 0, none⟩) 1 1 [(p, r2)] rfl hsl (by have := HLF.out; omega) hbs ?_; intro v8' W7 hown8 hgrow8 _; obtain ⟨p8', c8', rfl⟩ := hown8.slice)
          refine ⟨⟨k + 1, hlt, by go_num, by rw [HS7.out]; rw [List.length_append] at hown8; exact hown8, ccA.grown hgrow8 (fun q e => .inr (World.ownsRow.lt o79 q e).1)⟩, by simp [intOf]; omega⟩
    · obtain rfl : k = n := by omega
      have hlt' : ¬ (k : Int) < (k : Int) := by omega
      have hkn : all.take k = all := List.take_of_length_le (by rw [HN.out]; exact Nat.le_refl _)
      rw [hkn] at ho7
      have HML : Hid ((keptL o a b all).length ≤ 36) := by
        have := keptL_len o a b all
        have h2 := HN.out
        show _ ≤ _
        omega
      clear HCA HCZ HSZ HRO HA
      generalize keptL o a b all = cm at ho7 HML HJ2
      obtain ⟨m, HMl⟩ : ∃ m, Hid (cm.length = m) := ⟨_, rfl⟩
      have hm36 : m ≤ 36 := by have := HML.out; rw [HMl.out] at this; exact this
      have hm0 : m ≤ 9223372036854775807 := by omega
      obtain ⟨p7, k7, rfl⟩ := ho7.slice
      have of0 : OwnF wr w2.heap.size (.slice p7 cm.length k7) cm := ho7
      rw [HMl.out] at of0 ⊢
      clear ho7 hkn hlt hk st HML
      by_cases h12 : 12 < m
      · have h12' : (12 : Int) < (m : Int) := by omega
        obtain ⟨oc, hc⟩ := OwnF.cut of0 HMl.out 12 (by omega)
        have hmin : min (m : Int) 12 = 12 := by omega
        have hc' : ∀ w, (Instr.sliceAt 30 (.slice p7 m k7) none (some (.int .i64 12)) none).run Tryz.prog w = .ok (.slice p7 12 k7) w := hc
        clear hc
        gi_wp2
        go_ret
        exact ⟨_, rfl, by rw [HJ2.out]; exact oc.base hs02, Chg.seq c02 c⟩
      · have h12' : ¬ (12 : Int) < (m : Int) := by omega
        have hmin : min (m : Int) 12 = (m : Int) := by omega
        obtain ⟨oc, hc⟩ := OwnF.cut of0 HMl.out m (Nat.le_refl _)
        gi_wp2
        go_ret
        refine ⟨_, rfl, ?_, Chg.seq c02 c⟩
        rw [HJ2.out, List.take_of_length_le (by rw [HMl.out]; omega)]
        rw [List.take_of_length_le (by rw [HMl.out]; exact Nat.le_refl _)] at oc
        exact oc.base hs02

end Go.Proofs.YtakbeololabmhaaGreatDoor

end
