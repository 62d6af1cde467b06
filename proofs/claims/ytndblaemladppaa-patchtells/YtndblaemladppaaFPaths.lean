/-
  tree.Paths: all paths of several lists, rising, each once.
-/
import Derived.Test.YtndblaemladppaaFSort
import Derived.Test.YtndblaemladppaaGFile
import Derived.RangeFuncNested
namespace Go.TreeLib
open Go
/-- The paths of the first i lists. -/
def toldP {α : Type} (ps : List (α × List Fl)) (i : Nat) : List ByteArray := (ps.take i).flatMap (fun q => q.2.map (·.1))
theorem toldP_succ {α : Type} {ps : List (α × List Fl)} {i : Nat} (h : i < ps.length) : toldP ps (i + 1) = toldP ps i ++ ps[i].2.map (·.1) := by
  unfold toldP
  rw [List.take_succ_eq_append_getElem h, List.flatMap_append]
  simp only [List.flatMap_cons, List.flatMap_nil, List.append_nil]
theorem toldP_le {α : Type} (ps : List (α × List Fl)) (i : Nat) : (toldP ps i).length ≤ (toldP ps ps.length).length := by
  have : toldP ps ps.length = toldP ps i ++ (ps.drop i).flatMap (fun q => q.2.map (·.1)) := by
    unfold toldP
    rw [List.take_length, ← List.flatMap_append, List.take_append_drop]
  rw [this, List.length_append]
  omega
end Go.TreeLib
namespace Go.Proofs.Ytndblaemladppaa
open Go.RowKit Go.Shelf Go.SeqLib Go.DiffLib Go.TreeLib
attribute [local go_sem] Oper.semAt_some

/-- The mark of a loop that is over. -/
abbrev mark (d : Nat) : Deferred := { target := .collected d, args := #[] }

/-- The way out over marks. -/
theorem leaves_marks {P : Program} {fn : Func} {tmps : Array Value} {R : Ending → World → Prop} : ∀ (ds : List Nat) (W : World), ds.Nodup → (∀ d, d ∈ ds → W.heap[d]? = some (.deferred (some []))) →
    (∀ W', Chg (fun k => k ∈ ds) W W' → ∃ v, (results fn tmps).run P W' = .ok v W' ∧ R (.returned v) W') → LeavesInM Fence.wide 0 P fn tmps R (ds.map mark) .returning W
  | [], W, _, _, h => h W (Chg.refl _ _)
  | d :: ds, W, hn, hd, h => by
    obtain ⟨hn1, hn2⟩ := List.nodup_cons.1 hn
    refine ⟨by simp, .inl ⟨d, _, rfl, run_takeDeferred (hd d (List.mem_cons_self ..)), leaves_marks ds _ hn2 (fun d' hd' => ?_) (fun W' c => h W' ?_)⟩⟩
    · exact (World.putObj_heap_other (show d' ≠ d from fun e => hn1 (e ▸ hd'))).trans (hd d' (List.mem_cons_of_mem _ hd'))
    · exact Chg.trans (S := fun k => k ∈ d :: ds) ((Chg.put1 W d _).mono (fun k hk => by rw [hk]; exact List.mem_cons_self ..)) c (fun k hk => .inl (List.mem_cons_of_mem _ hk))

/-- What holds between two lists. -/
def PathInv (w : World) (tv : Value) (ps : List (Value × List Fl)) (a : Act) (W : World) : Prop :=
  ∃ (i : Nat) (So : Blk) (ds : List Nat) (t1 t2 t4 t5 t6 t10 t11 t12 t13 t14 t15 t16 t17 t18 t19 t20 t21 t22 t23 t24 t25 : Value), i ≤ ps.length ∧
    a = { tmps := #[tv, t1, t2, .pointer (some ⟨w.heap.size, 0, none⟩), t4, t5, t6, tv, .int .i64 (ps.length : Int), .int .i64 (i : Int), t10, t11, t12, t13, t14, t15, t16, t17, t18, t19, t20, t21, t22, t23, t24, t25], defers := ds.map mark } ∧
    RowBox w.heap.size w.heap.size 52 9 ((toldP ps i).map Value.string) So W ∧ ds.Nodup ∧ (∀ d, d ∈ ds → W.heap[d]? = some (.deferred (some [])) ∧ w.heap.size < d ∧ ¬ So d) ∧ Chg No w W

theorem RowBox.low {B base : Nat} {t e : TypeId} {vals : List Value} {S : Blk} {W : World} (h : RowBox B base t e vals S W) (hb : base ≤ B) : ∀ k, S k → base ≤ k := by
  obtain ⟨v, rfl, _, hr⟩ := h
  rintro k (rfl | h)
  · exact hb
  · exact (hr.lt k h).1

set_option maxRecDepth 100000 in
set_option maxHeartbeats 4000000 in
theorem paths_in (tv : Value) (ps : List (Value × List Fl)) (w : World) (hs : SlV w tv (ps.map (·.1))) (hi : ∀ q ∈ ps, SlF w q.1 q.2) (hlen : (toldP ps ps.length).length ≤ 100000) :
    CallsIn Fence.wide 0 Try.prog 21 #[tv] w fun e w' => ∃ v', e = .returned v' ∧ w'.ownsRow w.heap.size 9 1 v' (paths (ps.map (·.2))).length ((paths (ps.map (·.2))).map Value.string) ∧ Chg No w w' := by
  have hs' := hs
  obtain ⟨p, cap, rfl, hcap, hmax, hcells⟩ := hs'
  rw [List.length_map] at hcap hs ⊢
  have hml : ps.length ≤ 9223372036854775807 := by unfold maxLen at hmax; omega
  have c0 : Chg No w (w.alloc (.cells #[.slice none 0 0] 52)) := (Chg.refl _ w).alloc _
  have bO := Boxed.new w 52 (.slice none 0 0)
  refine callsIn_of_wp_marks Try.func21 rfl trivial ?_
  simp only [Try.ntmps21, List.size_toArray, List.length_cons, List.length_nil, Nat.reduceAdd, Nat.reduceSub, Array.replicate_succ, Array.replicate_zero, List.push_toArray, List.append_toArray, List.nil_append, List.cons_append]
  gi_wp2
  refine wpIn_loop (PathInv w (.slice p ps.length cap) ps) (fun a _ => ps.length - (intOf (a.tmps.getD 9 undef)).toNat) ?_ ?_
  · unfold PathInv
    exact ⟨0, _, [], _, _, _, _, _, _, _, _, _, _, _, _, _, _, _, _, _, _, _, _, _, Nat.zero_le _, rfl, ⟨_, rfl, bO, World.ownsRow_nil _ _ _ _⟩, List.nodup_nil, fun d hd => by simp at hd, c0⟩
  · rintro a W ⟨i, So, ds, t1, t2, t4, t5, t6, t10, t11, t12, t13, t14, t15, t16, t17, t18, t19, t20, t21, t22, t23, t24, t25, hil, rfl, rb, hnd, hds, c⟩
    by_cases hlt : i < ps.length
    · have hlt' : (i : Int) < (ps.length : Int) := by omega
      have hs1 := hs.no c
      obtain ⟨p2, cap2, e2, _, _, hcells2⟩ := hs1
      rw [List.length_map] at e2
      cases e2
      obtain ⟨bb, off, rfl, hcw⟩ := hcells2 i ps[i].1 (by simp [hlt])
      have hmem : ps[i] ∈ ps := List.getElem_mem hlt
      have HT : Hid (toldP ps (i + 1) = toldP ps i ++ ps[i].2.map (·.1)) := toldP_succ hlt
      have hle := toldP_le ps (i + 1)
      rw [HT.out] at hle
      have hi1 := (hi _ hmem).no c
      have hil1 := (hi _ hmem).lt
      generalize ps[i] = q at *
      clear hcells2 hcells hmem hil
      gi_wp2_with fail
      refine ⟨trivial, rfl, (filesT_in q.1 q.2 _ hi1).mono ?_⟩
      rintro e w1 ⟨gf, lb, D, rfl, ⟨I0, it, hI, eg⟩, c1, hD⟩
      have rb1 := (RowBox.part _ _ _ _ _).kept rb c1.size (fun k hk => c1.block k ((RowBox.part _ _ _ _ _).lt rb k hk) (fun h => h))
      have hds1 : ∀ d, d ∈ ds → w1.heap[d]? = some (.deferred (some [])) ∧ w.heap.size < d ∧ ¬ So d := fun d hd => ⟨c1.same (hds d hd).1 (fun h => h), (hds d hd).2⟩
      have hDS : ∀ k, D k → ¬ (So k ∨ k ∈ ds) := by
        intro k hk h
        rcases hD k hk with h1 | h1
        · have hk1 := hil1 k h1
          rcases h with h | h
          · have := rb.low (Nat.le_refl _) k h; omega
          · have := (hds k h).2.1; omega
        · subst h1
          rcases h with h | h
          · have := (RowBox.part _ _ _ _ _).lt rb _ h; omega
          · have := (Array.getElem?_eq_some_iff.1 (hds _ h).1).1; omega
      have c01 := Chg.seq c c1
      clear rb hds hD c1 c hi1 hil1
      gi_wp2
      have pK : ∀ zs : List Fl, Part (fun S2 W2 => ∃ S3, S2 = (fun k => S3 k ∨ k ∈ ds) ∧ RowBox w.heap.size w.heap.size 52 9 ((toldP ps i ++ zs.map (·.1)).map Value.string) S3 W2 ∧ ∀ d, d ∈ ds → W2.heap[d]? = some (.deferred (some [])) ∧ ¬ S3 d) := fun zs =>
        ⟨by
          rintro S2 W2 ⟨S3, rfl, j3, h3⟩ k (h | h)
          · exact (RowBox.part _ _ _ _ _).lt j3 k h
          · exact (Array.getElem?_eq_some_iff.1 (h3 k h).1).1, by
          rintro S2 W2 W3 ⟨S3, rfl, j3, h3⟩ hs hk
          exact ⟨S3, rfl, (RowBox.part _ _ _ _ _).kept j3 hs (fun k h => hk k (.inl h)), fun d hd => ⟨(hk d (.inr hd)).trans (h3 d hd).1, (h3 d hd).2⟩⟩⟩
      refine wpIn_range (gf := gf) (lb := lb) rfl eg it (fun _ => rfl)
        (fun zs S2 W2 => ∃ S3, S2 = (fun k => S3 k ∨ k ∈ ds) ∧ RowBox w.heap.size w.heap.size 52 9 ((toldP ps i ++ zs.map (·.1)).map Value.string) S3 W2 ∧ ∀ d, d ∈ ds → W2.heap[d]? = some (.deferred (some [])) ∧ ¬ S3 d)
        (fun _ _ _ _ => False)
        pK (fun _ _ => Part.false) (S := fun k => So k ∨ k ∈ ds) hI ⟨So, rfl, by simpa using rb1, fun d hd => ⟨(hds1 d hd).1, (hds1 d hd).2.2⟩⟩
        hDS
        (fun x => { tmps := #[.slice (some ⟨bb, off, none⟩) ps.length cap, t1, t2, .pointer (some ⟨w.heap.size, 0, none⟩), t4, q.1, .string x.1, .slice (some ⟨bb, off, none⟩) ps.length cap, .int .i64 (ps.length : Int), .int .i64 (i : Int), .bool true, .pointer (some ⟨bb, off + i, none⟩), q.1, q.1, .func (.func gf) #[] lb, .string x.1, .string x.2, t17, t18, t19, t20, t21, t22, t23, t24, t25], defers := [] }) ?assign ?body ?done ?stop
      case assign =>
        intro l x W K hK
        gi_wp2
        exact hK
      case body =>
        rintro lr zs x S2 W2 hpre ⟨S3, rfl, ⟨v, rfl, hv, hrow⟩, h3⟩
        have hc := hv.cell
        have hpl := hpre.length_le
        rw [List.length_append, List.length_singleton] at hpl
        have hsl : SlV (W2.alloc (.cells #[.string x.1] 9)) (.slice (some ⟨W2.heap.size, 0, none⟩) 1 1) ([x.1].map Value.string) := SlV.made W2 [.string x.1] 9 (by simp)
        have hbs : w.heap.size ≤ W2.heap.size := Nat.le_of_lt hv.lt
        have HN : Hid ((toldP ps i ++ (zs ++ [x]).map (·.1)).map Value.string = (toldP ps i ++ zs.map (·.1)).map Value.string ++ [.string x.1]) := by
          show _ = _
          simp
        have hvl : ((toldP ps i ++ zs.map (·.1)).map Value.string).length + 1 ≤ 1000000 := by
          rw [List.length_map, List.length_append, List.length_map]
          rw [List.length_append, List.length_map] at hle
          omega
        generalize (toldP ps i ++ zs.map (·.1)).map Value.string = vals at *
        gi_wp2_with (gi_at_builtin; refine wpListIn_append_sv _ rfl _ _ rfl w.heap.size _ vals.length vals rfl (World.ownsRow.alloc hrow _) (some ⟨W2.heap.size, 0, none⟩) 1 1 [x.1] rfl hsl (by omega) (by simp; omega) ?_; intro v' w2 hown' hgrow hat; obtain ⟨p', cap', rfl⟩ := row_slice hown'; obtain ⟨hv1, hv2, hr2, hcg, hgw⟩ := RowBox.step (x := .string x.1) hv (by decide) hrow hown' hgrow hat; have hc1 := hv1.cell; have hf1 := hv1.frozen)
        have hnd3 : ∀ d, d ∈ ds → ¬ (d = w.heap.size ∨ Value.ownBlock (.slice p' (vals.length + 1) cap') = some d) := fun d hd h => by
          rcases hgw d h with h | h
          · exact (h3 d hd).2 h
          · have := (Array.getElem?_eq_some_iff.1 (h3 d hd).1).1; omega
        refine ⟨fun k => (k = w.heap.size ∨ Value.ownBlock (.slice p' (vals.length + 1) cap') = some k) ∨ k ∈ ds, hcg.mono (fun k h => .inl h), ?_, _, rfl, ⟨_, rfl, hv2, by have h := hr2; rw [← HN.out] at h; simpa using h⟩, fun d hd => ⟨hcg.same (h3 d hd).1 (h3 d hd).2, hnd3 d hd⟩⟩
        rintro k (h | h)
        · rcases hgw k h with h | h
          · exact .inl (.inl h)
          · exact .inr h
        · exact .inl (.inr h)
      case done =>
        rintro d S' W9 hd ⟨S3, rfl, j3, h3⟩ hi9 hc9 hg9 hK hnd9
        have cW : Chg No w W9 := by
          refine c01.trans hc9 ?_
          rintro k (h | h | h)
          · exact h.elim
          · exact .inr (rb1.low (Nat.le_refl _) k h)
          · exact .inr (Nat.le_of_lt (hds1 k h).2.1)
        have hdw : w.heap.size < d := by obtain ⟨v1, rfl, hv1, _⟩ := rb1; have := hv1.lt; omega
        gi_wp2
        refine ⟨?_, by simp [intOf]; omega⟩
        unfold PathInv
        refine ⟨i + 1, S3, d :: ds, _, _, _, _, _, _, _, _, _, _, _, _, _, _, _, _, _, _, _, _, _, hlt, rfl, by rw [HT.out]; exact j3, List.nodup_cons.2 ⟨fun h => hnd9 (.inr h), hnd⟩, ?_, cW⟩
        intro d' hd'
        rcases List.mem_cons.1 hd' with rfl | h
        · exact ⟨hK, hdw, fun h => hnd9 (.inl h)⟩
        · exact ⟨(h3 d' h).1, (hds1 d' h).2.1, (h3 d' h).2⟩
      case stop =>
        rintro d c pre S' W _ _ h
        exact h.elim
    · have hlt' : ¬ (i : Int) < (ps.length : Int) := by omega
      obtain rfl : i = ps.length := by omega
      obtain ⟨v, rfl, hv, hrow⟩ := rb
      have hc := hv.cell
      have hne := hv.not_row (by decide) hrow
      rw [List.length_map] at hrow
      gi_wp2_with fail
      refine ⟨trivial, rfl, (sortS_in v (toldP ps ps.length) w.heap.size (by omega) _ hrow).mono ?_⟩
      rintro e w1 ⟨rfl, r1, c1⟩
      have hv1 := c1.boxed hv (fun h => hne h.symm)
      have hc1 := hv1.cell
      have hz : (((toldP ps ps.length).map Bs).mergeSort (fun x y => decide (x ≤ y))).length = (toldP ps ps.length).length := by rw [List.length_mergeSort, List.length_map]
      rw [← hz] at r1
      have C1 := compactS_in v _ w.heap.size (by omega) w1 r1
      rw [sort_compact, map_encStr, List.length_map] at C1
      have hpp : rise (toldP ps ps.length) = paths (ps.map (·.2)) := by
        unfold paths toldP
        rw [List.take_length, List.flatMap_map]
      rw [hpp] at C1
      clear hpp hz
      gi_wp2_with fail
      refine ⟨trivial, rfl, C1.mono ?_⟩
      rintro e w2 ⟨v2, rfl, r2, ho2, c2⟩
      have c02 : Chg (fun k => v.ownBlock = some k) W w2 := c1.trans c2 (fun k h => .inl h)
      have hds2 : ∀ d, d ∈ ds → w2.heap[d]? = some (.deferred (some [])) := fun d hd => c02.same (hds d hd).1 (fun h => (hds d hd).2.2 (.inr h))
      gi_wp2
      refine leaves_marks ds w2 hnd hds2 (fun W' c9 => ⟨_, results_tmp rfl _ _ _, v2, rfl, row_kept r2 (fun k h => c9.block k (r2.lt k h).2 (fun hk => (hds k hk).2.2 (.inr (ho2 ▸ h)))), ?_⟩)
      refine (c.trans c02 (fun k h => .inr (hrow.lt k h).1)).trans c9 (fun k h => .inr (Nat.le_of_lt (hds k h).2.1))

end Go.Proofs.Ytndblaemladppaa
