/-
  seq.Join's iterator keeps an iterator's word: one sequence behind the other; what is nil is passed by.
-/
import Derived.Test.YtkfcbfmfkheceaaDoorPure
namespace Go.Proofs.YtkfcbfmfkheceaaDoor
open Go.RowKit Go.Shelf Go.SeqLib
attribute [local go_sem] Oper.semAt_some

/-- A slice that reads as these values. -/
def SlV (W : World) (v : Value) (vals : List Value) : Prop :=
  ∃ p cap, v = .slice p vals.length cap ∧ vals.length ≤ cap ∧ cap ≤ maxLen ∧ ∀ i x, vals[i]? = some x → ∃ b off, p = some ⟨b, off, none⟩ ∧ W.cell? ⟨b, off + i, none⟩ = some x
def svD (v : Value) (vals : List Value) : Blk := fun k => vals ≠ [] ∧ v.ownBlock = some k

theorem SlV.lt {W : World} {v : Value} {vals : List Value} (h : SlV W v vals) : ∀ k, svD v vals k → k < W.heap.size := by
  obtain ⟨p, cap, rfl, _, _, hc⟩ := h
  rintro k ⟨hz, hk⟩
  cases vals with
  | nil => exact absurd rfl hz
  | cons x r =>
    obtain ⟨b, off, rfl, hcell⟩ := hc 0 x rfl
    simp [Value.ownBlock] at hk
    subst hk
    exact World.block_lt_of_cell? W _ hcell

theorem SlV.kept {W W' : World} {v : Value} {vals : List Value} (h : SlV W v vals) (hk : ∀ k, svD v vals k → W'.heap[k]? = W.heap[k]?) : SlV W' v vals := by
  obtain ⟨p, cap, rfl, h1, h2, hc⟩ := h
  refine ⟨p, cap, rfl, h1, h2, fun i x hi => ?_⟩
  obtain ⟨b, off, rfl, hcell⟩ := hc i x hi
  refine ⟨b, off, rfl, (World.cell?_of_block (a := ⟨b, off + i, none⟩) (hk b ⟨?_, rfl⟩)).trans hcell⟩
  rintro rfl
  simp at hi

theorem SlV.ofRow {W : World} {base : Nat} {e : TypeId} {v : Value} {vals : List Value} (h : W.ownsRow base e 1 v vals.length vals) : SlV W v vals := by
  have h' := h
  rcases h.2 with ⟨rfl, h0⟩ | ⟨g, cap, cur, rfl, hb, hg, hn, hm, hs, ht⟩
  · obtain rfl : vals = [] := List.length_eq_zero_iff.1 h0
    exact ⟨none, 0, rfl, Nat.le_refl _, Nat.zero_le _, by simp⟩
  · refine ⟨_, cap, rfl, hn, hm, fun i x hi => ⟨g, 0, rfl, ?_⟩⟩
    have := h'.cells (g := g) rfl i x hi
    have e : (⟨g, 0, none⟩ : Addr).add i = ⟨g, 0 + i, none⟩ := by unfold Addr.add; split <;> simp_all
    rwa [e] at this

/-- One of those that are joined. -/
structure JPart where
  v : Value
  xs : List Int
  D : Blk
  I : World → Prop

def JPart.ok (p : JPart) : Prop :=
  (p.v = .nilFunc ∧ p.xs = [] ∧ p.D = No ∧ p.I = fun _ => True) ∨
  ∃ gf lb, p.v = .func (.func gf) #[] lb ∧ Iter Tryd.prog gf lb encI p.xs p.D No p.I (fun _ => p.I) ∧ ∀ args w, (callFunc gf args).run Tryd.prog w = .ok (.enter gf args) w

theorem JPart.ok.lt {p : JPart} (h : p.ok) {W : World} (hi : p.I W) : ∀ k, p.D k → k < W.heap.size := by
  rcases h with ⟨_, _, h, _⟩ | ⟨gf, lb, _, it, _⟩
  · intro k hk; rw [h] at hk; exact hk.elim
  · exact it.lt0 hi
theorem JPart.ok.kept {p : JPart} (h : p.ok) {W W' : World} (hi : p.I W) (hs : W.heap.size ≤ W'.heap.size) (hk : ∀ k, p.D k → W'.heap[k]? = W.heap[k]?) : p.I W' := by
  rcases h with ⟨_, _, _, h⟩ | ⟨gf, lb, _, it, _⟩
  · rw [h]; trivial
  · exact it.kept0 hi hs hk

/-- The mark of a loop that is over. -/
abbrev mark (d : Nat) : Deferred := { target := .collected d, args := #[] }

/-- The way out over marks. -/
theorem leaves_marks {P : Program} {fn : Func} {tmps : Array Value} {R : Ending → World → Prop} : ∀ (ds : List Nat) (W : World), ds.Nodup → (∀ d, d ∈ ds → W.heap[d]? = some (.deferred (some []))) →
    (∀ W', Chg (fun k => k ∈ ds) W W' → ∃ v, (results fn tmps).run P W' = .ok v W' ∧ R (.returned v) W') → LeavesInM Fence.wide 0 P fn tmps R (ds.map mark) .returning W
  | [], W, _, _, h => h W (Chg.refl _ _)
  | d :: ds, W, hn, hd, h => by
    obtain ⟨hn1, hn2⟩ := List.nodup_cons.1 hn
    refine ⟨by simp, .inl ⟨d, _, rfl, run_takeDeferred (hd d (List.mem_cons_self ..)), leaves_marks ds _ hn2 (fun d' hd' => ?_) (fun W' c => h W' ?_)⟩⟩
    · exact (World.putObj_heap_other (show d' ≠ d from fun e => hn1 (e ▸ hd'))).trans (hd d' (List.mem_cons_of_mem _ hd'))
    · exact Chg.trans (S := fun k => k ∈ d :: ds) ((Chg.put1 W d _).mono (fun k hk => by rw [hk]; exact List.mem_cons_self ..)) c (fun k hk => .inl (List.mem_cons_of_mem _ hk))

def told (ps : List JPart) (i : Nat) : List Int := (ps.take i).flatMap JPart.xs
theorem told_succ {ps : List JPart} {i : Nat} (h : i < ps.length) : told ps (i + 1) = told ps i ++ ps[i].xs := by
  unfold told; rw [List.take_succ_eq_append_getElem h, List.flatMap_append]; simp only [List.flatMap_cons, List.flatMap_nil, List.append_nil]
theorem told_pre {ps : List JPart} {i : Nat} (h : i < ps.length) {zs : List Int} (hz : zs <+: ps[i].xs) : told ps i ++ zs <+: ps.flatMap JPart.xs := by
  have e : ps.flatMap JPart.xs = told ps (i + 1) ++ (ps.drop (i + 1)).flatMap JPart.xs := by
    unfold told; rw [← List.flatMap_append, List.take_append_drop]
  rw [e, told_succ h, List.append_assoc]
  obtain ⟨r, hr⟩ := hz
  exact ⟨r ++ (ps.drop (i + 1)).flatMap JPart.xs, by rw [← hr]; simp⟩
theorem told_all (ps : List JPart) : told ps ps.length = ps.flatMap JPart.xs := by unfold told; rw [List.take_length]

/-- What holds between two of those that are joined. -/
def JoinInv (l Bk : Nat) (W : World) (p : Option Addr) (cap : Nat) (ps : List JPart) (J : List Int → Blk → World → Prop) (S : Blk) (a : Act) (w : World) : Prop :=
  ∃ (i : Nat) (So : Blk) (ds : List Nat) (t4 t5 t9 t10 t11 t12 t13 t14 t15 t16 t17 t18 t19 t20 : Value), i ≤ ps.length ∧
        a = { tmps := #[.func (.yield l) #[] #[], .pointer (some ⟨Bk, 0, none⟩), .pointer (some ⟨W.heap.size, 0, none⟩), undef, t4, t5, .slice p ps.length cap, .int .i64 (ps.length : Int), .int .i64 (i : Int), t9, t10, t11, t12, t13, t14, t15, t16, t17, t18, t19, t20], defers := ds.map mark } ∧
        J (told ps i) So w ∧ Boxed w W.heap.size 26 (.func (.yield l) #[] #[]) ∧ ¬ So W.heap.size ∧ ds.Nodup ∧ (∀ d, d ∈ ds → w.heap[d]? = some (.deferred (some [])) ∧ W.heap.size < d ∧ ¬ So d) ∧ Chg S W w ∧ Grew S W So

set_option maxRecDepth 100000 in
set_option maxHeartbeats 2000000 in
theorem join1 (ps : List JPart) (hok : ∀ p ∈ ps, p.ok) (kv : Value) (Bk : Nat) :
    Iter Tryd.prog 31 #[.pointer (some ⟨Bk, 0, none⟩)] encI (ps.flatMap JPart.xs) (fun k => k = Bk ∨ svD kv (ps.map JPart.v) k ∨ ∃ p ∈ ps, p.D k) No
      (fun W => Boxed W Bk 50 kv ∧ SlV W kv (ps.map JPart.v) ∧ ∀ p ∈ ps, p.I W) (fun _ W => Boxed W Bk 50 kv ∧ SlV W kv (ps.map JPart.v) ∧ ∀ p ∈ ps, p.I W) := {
  sub := fun _ h => h.elim
  lt0 := by
    rintro W ⟨b, s, hi⟩ k (rfl | h | ⟨p, hp, h⟩)
    · exact b.lt
    · exact s.lt k h
    · exact (hok p hp).lt (hi p hp) k h
  kept0 := by
    rintro W W' ⟨b, s, hi⟩ hs hk
    exact ⟨(hk _ (.inl rfl)).trans b, s.kept (fun k h => hk k (.inr (.inl h))), fun p hp => (hok p hp).kept (hi p hp) hs (fun k h => hk k (.inr (.inr ⟨p, hp, h⟩)))⟩
  kept := by
    rintro pre W W' ⟨b, s, hi⟩ hs hk
    exact ⟨(hk _ (.inl rfl)).trans b, s.kept (fun k h => hk k (.inr (.inl h))), fun p hp => (hok p hp).kept (hi p hp) hs (fun k h => hk k (.inr (.inr ⟨p, hp, h⟩)))⟩
  runs := by
    intro l J Jx S W pJ pJx hY hI hJ hDS
    have hI' := hI
    obtain ⟨b1, s1, hi⟩ := hI
    obtain ⟨p, cap, rfl, hcap, hmax, hcells⟩ := s1
    have hYn : ∀ k, S k → k < W.heap.size := (pJ _).lt hJ
    rw [List.length_map] at hcap
    have hml : ps.length ≤ maxLen := by omega
    unfold maxLen at hml
    have hlm : (ps.map JPart.v).length = ps.length := List.length_map _
    rw [hlm] at b1 hI' hDS ⊢
    have hc1 := (b1.alloc (.cells #[.func (.yield l) #[] #[]] 26)).cell
    have c0 : Chg S W (W.alloc (.cells #[.func (.yield l) #[] #[]] 26)) := (Chg.refl _ W).alloc _
    -- what the iterator leans on lies on
    have stays : ∀ {W9 : World}, Chg S W W9 → Boxed W9 Bk 50 (.slice p ps.length cap) ∧ SlV W9 (.slice p ps.length cap) (ps.map JPart.v) ∧ ∀ q ∈ ps, q.I W9 := fun c9 =>
      ⟨c9.boxed b1 (hDS _ (.inl rfl)), hI'.2.1.kept (fun k hk => c9.block k (hI'.2.1.lt k hk) (hDS k (.inr (.inl hk)))), fun q hq => (hok q hq).kept (hi q hq) c9.size (fun k hk => c9.block k ((hok q hq).lt (hi q hq) k hk) (hDS k (.inr (.inr ⟨q, hq, hk⟩))))⟩
    refine callsIn_of_wp_marks Tryd.func31 rfl trivial ?_
    simp only [Tryd.ntmps31, List.size_toArray, List.length_cons, List.length_nil, Nat.reduceAdd, Nat.reduceSub, Array.replicate_succ, Array.replicate_zero, List.push_toArray, List.append_toArray, List.nil_append, List.cons_append]
    gi_wp2
    refine wpIn_loop (JoinInv l Bk W p cap ps J S)
      (fun a _ => ps.length - (intOf (a.tmps.getD 8 undef)).toNat) ?_ ?_
    · unfold JoinInv
      exact ⟨0, S, [], _, _, _, _, _, _, _, _, _, _, _, _, _, _, Nat.zero_le _, rfl, (pJ _).kept hJ c0.size (fun k hk => Below.heap_alloc _ _ _ (hYn k hk)), Boxed.new _ _ _, fun h => by have := hYn _ h; omega, List.nodup_nil, fun d hd => by simp at hd, c0, Grew.refl _ _⟩
    · rintro a w ⟨i, So, ds, t4, t5, t9, t10, t11, t12, t13, t14, t15, t16, t17, t18, t19, t20, hil, rfl, j, b2, n1, hnd, hds, c, g⟩
      by_cases hlt : i < ps.length
      · obtain ⟨bb, off, rfl, hcell⟩ := hcells i ps[i].v (by simp [hlt])
        have hne : ps.map JPart.v ≠ [] := by
          intro h
          have := congrArg List.length h
          simp at this
          subst this
          simp at hlt
        have hcw : w.cell? ⟨bb, off + i, none⟩ = some ps[i].v := (World.cell?_of_block (a := ⟨bb, off + i, none⟩) (c.block bb (World.block_lt_of_cell? W _ hcell) (hDS bb (.inr (.inl ⟨hne, rfl⟩))))).trans hcell
        have hmem : ps[i] ∈ ps := List.getElem_mem hlt
        have HT : Hid (told ps (i + 1) = told ps i ++ ps[i].xs) := told_succ hlt
        have HP : Hid (∀ zs : List Int, zs <+: ps[i].xs → told ps i ++ zs <+: ps.flatMap JPart.xs) := fun zs hz => told_pre hlt hz
        clear hcell
        have hok1 := hok _ hmem
        have hi1 := (stays c).2.2 _ hmem
        have hD1 : ∀ k, ps[i].D k → ¬ S k := fun k hk => hDS k (.inr (.inr ⟨_, hmem, hk⟩))
        have hDl : ∀ k, ps[i].D k → k < W.heap.size := fun k hk => (hok1).lt (hi _ hmem) k hk
        generalize ps[i] = q at *
        rcases hok1 with ⟨hv, hx, _, _⟩ | ⟨gf, lb, hv, it, eg⟩
        · -- nil is passed by
          rw [hv] at hcw
          have HT2 : Hid (told ps (i + 1) = told ps i) := by show _ = _; rw [HT.out, hx]; simp
          have hnil := fun w => run_eql_nil_func Tryd.underlying29 w
          clear hv hx
          gi_wp2
          refine ⟨by
            unfold JoinInv
            exact ⟨i + 1, So, ds, _, _, _, _, _, _, _, _, _, _, _, _, _, _, hlt, rfl, by rw [HT2.out]; exact j, b2, n1, hnd, hds, c, g⟩, ?_⟩
          · simp [intOf]; omega
        · rw [hv] at hcw
          have hnil := fun w => run_eql_func_nil Tryd.underlying29 (.func gf) #[] lb w
          clear hv
          gi_wp2
          have hwS : W.heap.size < w.heap.size := b2.lt
          have pK : ∀ (L : List Int → Blk → World → Prop), (∀ pre, Part (L pre)) → ∀ zs, Part (fun S2 W2 => ∃ S3, S2 = (fun k => S3 k ∨ k = W.heap.size ∨ k ∈ ds) ∧ L (told ps i ++ zs) S3 W2 ∧ Boxed W2 W.heap.size 26 (.func (.yield l) #[] #[]) ∧ ¬ S3 W.heap.size ∧ ∀ d, d ∈ ds → W2.heap[d]? = some (.deferred (some [])) ∧ ¬ S3 d) := fun L pL zs =>
            ⟨by
              rintro S2 W2 ⟨S3, rfl, j3, b3, _, h3⟩ k (h | h | h)
              · exact (pL _).lt j3 k h
              · subst h; exact b3.lt
              · exact (Array.getElem?_eq_some_iff.1 (h3 k h).1).1, by
              rintro S2 W2 W3 ⟨S3, rfl, j3, b3, m3, h3⟩ hs hk
              exact ⟨S3, rfl, (pL _).kept j3 hs (fun k h => hk k (.inl h)), (hk _ (.inr (.inl rfl))).trans b3, m3, fun d hd => ⟨(hk d (.inr (.inr hd))).trans (h3 d hd).1, (h3 d hd).2⟩⟩⟩
          refine wpIn_range (gf := gf) (lb := lb) rfl eg it (fun _ => rfl)
            (fun zs S2 W2 => ∃ S3, S2 = (fun k => S3 k ∨ k = W.heap.size ∨ k ∈ ds) ∧ J (told ps i ++ zs) S3 W2 ∧ Boxed W2 W.heap.size 26 (.func (.yield l) #[] #[]) ∧ ¬ S3 W.heap.size ∧ ∀ d, d ∈ ds → W2.heap[d]? = some (.deferred (some [])) ∧ ¬ S3 d)
            (fun c zs S2 W2 => (∃ S3, S2 = (fun k => S3 k ∨ k = W.heap.size ∨ k ∈ ds) ∧ Jx (told ps i ++ zs) S3 W2 ∧ Boxed W2 W.heap.size 26 (.func (.yield l) #[] #[]) ∧ ¬ S3 W.heap.size ∧ ∀ d, d ∈ ds → W2.heap[d]? = some (.deferred (some [])) ∧ ¬ S3 d) ∧ c = .ret)
            (pK J pJ) (fun c zs => (pK Jx pJx zs).andP _) (S := fun k => So k ∨ k = W.heap.size ∨ k ∈ ds) hi1 ⟨So, rfl, by simpa using j, b2, n1, fun d hd => ⟨(hds d hd).1, (hds d hd).2.2⟩⟩
            (fun k hk h => by
              have hkl := hDl k hk
              rcases h with h | h | h
              · rcases g k h with h | h
                · exact hD1 k hk h
                · omega
              · omega
              · have := (hds k h).2.1; omega)
            (fun x => { tmps := #[.func (.yield l) #[] #[], .pointer (some ⟨Bk, 0, none⟩), .pointer (some ⟨W.heap.size, 0, none⟩), undef, .func (.func gf) #[] lb, .int .i64 x, .slice (some ⟨bb, off, none⟩) ps.length cap, .int .i64 (ps.length : Int), .int .i64 (i : Int), .bool true, .pointer (some ⟨bb, off + i, none⟩), .func (.func gf) #[] lb, .func (.func gf) #[] lb, .bool false, .func (.func gf) #[] lb, .int .i64 x, t16, t17, t18, t19, t20], defers := [] }) ?assign ?body ?done ?stop
          case assign =>
            intro l x W K hK
            gi_wp2
            exact hK
          case body =>
            rintro lr zs x S2 W2 hpre ⟨S3, rfl, j3, b3, m3, h3⟩
            have hcy := b3.cell
            have hpre2 : told ps i ++ zs ++ [x] <+: ps.flatMap JPart.xs := by rw [List.append_assoc]; exact HP.out _ hpre
            obtain ⟨fnr, tmps, assign, body, hy, hR⟩ := hY _ x S3 W2 hpre2 j3
            gi_wp2
            refine ⟨rfl, (inR lr hR).mono ?_⟩
            rintro e W4 ⟨S5, c5, g5, (⟨rfl, j5⟩ | ⟨rfl, j5⟩)⟩
            all_goals
              gi_wp2
              have hn5 : ∀ k, k < W2.heap.size → ¬ S3 k → ¬ S5 k := fun k hk hn h => by
                rcases g5 k h with h1 | h1
                · exact hn h1
                · omega
              have fin : ∃ S3', (fun k => S5 k ∨ k = W.heap.size ∨ k ∈ ds) = (fun k => S3' k ∨ k = W.heap.size ∨ k ∈ ds) ∧ S3' = S5 ∧ Boxed W4 W.heap.size 26 (.func (.yield l) #[] #[]) ∧ ¬ S3' W.heap.size ∧ ∀ d, d ∈ ds → W4.heap[d]? = some (.deferred (some [])) ∧ ¬ S3' d :=
                ⟨S5, rfl, rfl, c5.boxed b3 m3, hn5 _ b3.lt m3, fun d hd => ⟨c5.same (h3 d hd).1 (h3 d hd).2, hn5 d (Array.getElem?_eq_some_iff.1 (h3 d hd).1).1 (h3 d hd).2⟩⟩
              have gg : Grew (fun k => S3 k ∨ k = W.heap.size ∨ k ∈ ds) W2 (fun k => S5 k ∨ k = W.heap.size ∨ k ∈ ds) := by
                rintro k (hk | hk)
                · rcases g5 k hk with h1 | h1
                  · exact .inl (.inl h1)
                  · exact .inr h1
                · exact .inl (.inr hk)
              obtain ⟨S3', e1, rfl, e3, e4, e5⟩ := fin
              rw [List.append_assoc] at j5
            · exact ⟨_, c5.mono (fun _ => .inl), gg, S3', rfl, j5, e3, e4, e5⟩
            · exact ⟨_, c5.mono (fun _ => .inl), gg, ⟨S3', rfl, j5, e3, e4, e5⟩, rfl⟩
          case done =>
            rintro d S' W9 hd ⟨S3, rfl, j3, b3, m3, h3⟩ hi9 hc9 hg9 hK hnd9
            have cW : Chg S W W9 := by
              refine c.trans hc9 ?_
              rintro k (h | h | h | h)
              · exact h.elim
              · exact g k h
              · exact .inr (by omega)
              · exact .inr (Nat.le_of_lt (hds k h).2.1)
            have gW : Grew S W S3 := fun k hk => by
              rcases hg9 k (.inl hk) with (h | h | h) | h
              · exact g k h
              · exact (m3 (h ▸ hk)).elim
              · exact ((h3 k h).2 hk).elim
              · exact .inr (by omega)
            gi_wp2
            refine ⟨?_, by simp [intOf]; omega⟩
            unfold JoinInv
            refine ⟨i + 1, S3, d :: ds, _, _, _, _, _, _, _, _, _, _, _, _, _, _, hlt, rfl, by rw [HT.out]; exact j3, b3, m3, List.nodup_cons.2 ⟨fun h => hnd9 (.inr (.inr h)), hnd⟩, ?_, cW, gW⟩
            intro d' hd'
            rcases List.mem_cons.1 hd' with rfl | h
            · exact ⟨hK, by omega, fun h => hnd9 (.inl h)⟩
            · exact ⟨(h3 d' h).1, (hds d' h).2.1, (h3 d' h).2⟩
          case stop =>
            rintro d cc zs S' W9 hd hpre ⟨⟨S3, rfl, j3, b3, m3, h3⟩, rfl⟩ hi9 hc9 hg9 hK hnd9
            have cW : Chg S W W9 := by
              refine c.trans hc9 ?_
              rintro k (h | h | h | h)
              · exact h.elim
              · exact g k h
              · exact .inr (by omega)
              · exact .inr (Nat.le_of_lt (hds k h).2.1)
            have gW : Grew S W S3 := fun k hk => by
              rcases hg9 k (.inl hk) with (h | h | h) | h
              · exact g k h
              · exact (m3 (h ▸ hk)).elim
              · exact ((h3 k h).2 hk).elim
              · exact .inr (by omega)
            have hds' : ∀ k, k ∈ d :: ds → W9.heap[k]? = some (.deferred (some [])) ∧ W.heap.size < k ∧ ¬ S3 k := by
              intro k hk
              rcases List.mem_cons.1 hk with rfl | h
              · exact ⟨hK, by omega, fun h => hnd9 (.inl h)⟩
              · exact ⟨(h3 k h).1, (hds k h).2.1, (h3 k h).2⟩
            gi_wp2
            refine leaves_marks (d :: ds) W9 (List.nodup_cons.2 ⟨fun h => hnd9 (.inr (.inr h)), hnd⟩) (fun k hk => (hds' k hk).1) (fun W' c9 => ⟨_, results_none rfl _ _ _, ⟨_, rfl⟩, _, S3, .inr ⟨HP.out zs hpre, (pJx _).chg j3 c9 (fun k hk h => (hds' k h).2.2 hk)⟩, ?_, ?_, gW⟩)
            · exact stays (cW.trans c9 (fun k hk => .inr (Nat.le_of_lt (hds' k hk).2.1)))
            · exact (cW.trans c9 (fun k hk => .inr (Nat.le_of_lt (hds' k hk).2.1))).mono (fun _ h => by first | exact h | exact .inr h)
      · obtain rfl : i = ps.length := by omega
        gi_wp2
        refine leaves_marks ds w hnd (fun d hd => (hds d hd).1) (fun W' c9 => ⟨_, results_none rfl _ _ _, ⟨_, rfl⟩, _, So, .inl ⟨told_all ps, (pJ _).chg j c9 (fun k hk h => (hds k h).2.2 hk)⟩, ?_, ?_, g⟩)
        · exact stays (c.trans c9 (fun k hk => .inr (Nat.le_of_lt (hds k hk).2.1)))
        · exact (c.trans c9 (fun k hk => .inr (Nat.le_of_lt (hds k hk).2.1))).mono (fun _ => .inr) }

end Go.Proofs.YtkfcbfmfkheceaaDoor
