/-
  seq.Take's iterator keeps an iterator's word: it tells the first n of what the sequence tells.
-/
import Derived.Test.YtkfcbfmfkheceaaBase
namespace Go.Proofs.Ytkfcbfmfkheceaa
open Go.RowKit Go.Shelf Go.SeqLib
attribute [local go_sem] Oper.semAt_some

set_option maxRecDepth 100000 in
set_option maxHeartbeats 1000000 in
theorem take1 {gs : Nat} {lbs : Array Value} {xs : List Int} {Ds Ms : Blk} {Is0 : World → Prop} {Is : List Int → World → Prop} (it : Iter Try.prog gs lbs encI xs Ds Ms Is0 Is) (eg : ∀ args w, (callFunc gs args).run Try.prog w = .ok (.enter gs args) w)
    (n : Nat) (hn1 : 1 ≤ n) (hn2 : n ≤ 1000000) (Bs Bn : Nat) (h1 : Bs ≠ Bn) (h2 : ¬ Ds Bs) (h3 : ¬ Ds Bn) :
    Iter Try.prog 36 #[.pointer (some ⟨Bn, 0, none⟩), .pointer (some ⟨Bs, 0, none⟩)] encI (xs.take n) (fun k => k = Bs ∨ k = Bn ∨ Ds k) Ms
      (fun W => Boxed W Bs 26 (.func (.func gs) #[] lbs) ∧ Boxed W Bn 3 (.int .i64 n) ∧ Is0 W)
      (fun pre W => Boxed W Bs 26 (.func (.func gs) #[] lbs) ∧ Boxed W Bn 3 (.int .i64 n) ∧ Is pre W) := {
  sub := fun k hk => .inr (.inr (it.sub k hk))
  lt0 := by
    rintro W ⟨b1, b2, i1⟩ k (rfl | rfl | h)
    · exact b1.lt
    · exact b2.lt
    · exact it.lt0 i1 k h
  kept0 := by
    rintro W W' ⟨b1, b2, i1⟩ hs hk
    exact ⟨(hk _ (.inl rfl)).trans b1, (hk _ (.inr (.inl rfl))).trans b2, it.kept0 i1 hs (fun k h => hk k (.inr (.inr h)))⟩
  kept := by
    rintro pre W W' ⟨b1, b2, i1⟩ hs hk
    exact ⟨(hk _ (.inl rfl)).trans b1, (hk _ (.inr (.inl rfl))).trans b2, it.kept i1 hs (fun k h => hk k (.inr (.inr h)))⟩
  runs := by
    intro l J Jx S W pJ pJx hY hI hJ hDS
    obtain ⟨b1, b2, i1⟩ := hI
    have hc1 := ((b1.alloc (.cells #[.func (.yield l) #[] #[]] 42)).alloc (.cells #[.int .i64 n] 3)).cell
    have hc2 := (b2.alloc (.cells #[.func (.yield l) #[] #[]] 42)).cell
    refine callsIn_of_wp_marks Try.func36 rfl trivial ?_
    simp only [Try.ntmps36, List.size_toArray, List.length_cons, List.length_nil, Nat.reduceAdd, Nat.reduceSub, Array.replicate_succ, Array.replicate_zero, List.push_toArray, List.append_toArray, List.nil_append, List.cons_append]
    gi_wp2
    have hYn : ∀ k, S k → k < W.heap.size := (pJ _).lt hJ
    refine wpIn_range (gf := gs) (lb := lbs) rfl eg it (fun _ => rfl)
      (fun zs S W' => ∃ So, S = (fun k => So k ∨ k = W.heap.size ∨ k = W.heap.size + 1) ∧ J zs So W' ∧ Boxed W' W.heap.size 42 (.func (.yield l) #[] #[]) ∧ Boxed W' (W.heap.size + 1) 3 (.int .i64 ((n : Int) - zs.length)) ∧ zs.length < n ∧ ¬ So W.heap.size ∧ ¬ So (W.heap.size + 1))
      (fun c zs S W' => ∃ So, S = (fun k => So k ∨ k = W.heap.size ∨ k = W.heap.size + 1) ∧ ((zs.length ≤ n ∧ Jx zs So W') ∨ (zs = xs.take n ∧ J zs So W')) ∧ (∃ u q, Boxed W' W.heap.size 42 u ∧ Boxed W' (W.heap.size + 1) 3 q) ∧ c = .ret ∧ ¬ So W.heap.size ∧ ¬ So (W.heap.size + 1))
      ?_ ?_ (S := fun k => S k ∨ k = W.heap.size ∨ k = W.heap.size + 1) (it.kept0 i1 (by simp; omega) (fun k hk => (Below.heap_alloc _ _ _ (by have := it.lt0 i1 k hk; simp; omega)).trans (Below.heap_alloc _ _ _ (it.lt0 i1 k hk)))) ?_ ?_
      (fun x => { tmps := #[.func (.yield l) #[] #[], .pointer (some ⟨Bn, 0, none⟩), .pointer (some ⟨Bs, 0, none⟩), .pointer (some ⟨W.heap.size, 0, none⟩), .pointer (some ⟨W.heap.size + 1, 0, none⟩), .int .i64 x, .int .i64 n, .func (.func gs) #[] lbs, .int .i64 x, undef, undef, undef, undef, undef, undef, undef, undef, undef, undef], defers := [] }) ?assign ?body ?done ?stop
    case assign =>
      intro l x W K hK
      gi_wp2
      exact hK
    case body =>
      rintro lr zs x S2 W2 hpre ⟨So, rfl, j, b3, b4, hz, n1, n2⟩
      have hcy := b3.cell
      have hcl := b4.cell
      have hfl := b4.frozen
      obtain ⟨q, hq⟩ : ∃ q : Int, (n : Int) - zs.length = q := ⟨_, rfl⟩
      have hq1 : 1 ≤ q := by omega
      have hq2 : q ≤ 1000000 := by omega
      rw [hq] at b4 hcl
      have HQ : Hid ((n : Int) - zs.length = q) := hq
      clear hq
      have b4' := b4.set (.int .i64 (q - 1))
      have b3' : Boxed (W2.setCell ⟨W.heap.size + 1, 0, none⟩ (.int .i64 (q - 1))) W.heap.size 42 (.func (.yield l) #[] #[]) := b3.other (by omega) _
      have hcy' := b3'.cell
      have hcl' := b4'.cell
      have c2 : Chg (fun k => k = W.heap.size + 1) W2 (W2.setCell ⟨W.heap.size + 1, 0, none⟩ (.int .i64 (q - 1))) := Chg.setCell (S := fun k => k = W.heap.size + 1) (Chg.refl _ W2) (.inl rfl) _
      have j2 := (pJ _).chg j c2 (fun k hk e => n2 (e ▸ hk))
      have hpre2 : zs ++ [x] <+: xs.take n := List.prefix_take_iff.2 ⟨hpre, by simp; omega⟩
      obtain ⟨fnr, tmps, assign, body, hy, hR⟩ := hY _ x So _ hpre2 j2
      gi_wp2
      refine ⟨rfl, (inR lr hR).mono ?_⟩
      rintro e W4 ⟨S5, c5, g5, hj5⟩
      have b5 := c5.boxed b3' n1
      have b6 := c5.boxed b4' n2
      have hc6 := b6.cell
      have hn5 : ∀ k, k < W2.heap.size → ¬ So k → ¬ S5 k := fun k hk hn h => by
        rcases g5 k h with h1 | h1
        · exact hn h1
        · simp at h1; omega
      have m1 := hn5 _ b3.lt n1
      have m2 := hn5 _ b4.lt n2
      have cc : Chg (fun k => So k ∨ k = W.heap.size ∨ k = W.heap.size + 1) W2 W4 := (c2.mono (fun k hk => .inr (.inr hk))).trans (S' := So) c5 (fun k hk => .inl (.inl hk))
      have gg : Grew (fun k => So k ∨ k = W.heap.size ∨ k = W.heap.size + 1) W2 (fun k => S5 k ∨ k = W.heap.size ∨ k = W.heap.size + 1) := by
        rintro k (hk | hk)
        · rcases g5 k hk with h1 | h1
          · exact .inl (.inl h1)
          · exact .inr (by simpa using h1)
        · exact .inl (.inr hk)
      rcases hj5 with ⟨rfl, j5⟩ | ⟨rfl, j5⟩
      · by_cases hq0 : q = 1
        · have he : ((q - 1 : Int) == 0) = true := by simp; omega
          have HT : Hid (zs ++ [x] = xs.take n) := by
            refine (List.prefix_iff_eq_take.1 hpre).trans ?_
            have h9 := HQ.out
            have : (zs ++ [x]).length = n := by simp; omega
            rw [this]
          clear hq0
          gi_wp2
          exact ⟨_, cc, gg, S5, rfl, .inr ⟨HT.out, j5⟩, ⟨_, _, b5, b6⟩, rfl, m1, m2⟩
        · have he : ((q - 1 : Int) == 0) = false := by simp; omega
          have hlt : zs.length + 1 < n := by have h9 := HQ.out; omega
          clear hq0
          gi_wp2
          refine ⟨_, cc, gg, S5, rfl, j5, b5, ?_, by simpa using hlt, m1, m2⟩
          have h9 := HQ.out
          rw [show ((n : Int) - (zs ++ [x]).length) = q - 1 from by simp; omega]
          exact b6
      · gi_wp2
        exact ⟨_, cc, gg, S5, rfl, .inl ⟨by simp; omega, j5⟩, ⟨_, _, b5, b6⟩, rfl, m1, m2⟩
    case done =>
      rintro d S' W9 hd ⟨So, rfl, j, b3, b4, hz, n1, n2⟩ hi hc hg hK hnd
      have hd' : W.heap.size + 1 + 1 ≤ d := by simpa using hd
      have hwd : ∀ k, k < W.heap.size → k ≠ d := fun k hk => by omega
      have b5 : Boxed W9 Bs 26 (.func (.func gs) #[] lbs) := hc.boxed ((b1.alloc _).alloc _) (fun h => by
        rcases h with h | h | h | h
        · exact h2 (it.sub _ h)
        · exact hDS _ (.inl rfl) h
        · have := b1.lt; omega
        · have := b1.lt; omega)
      have b6 : Boxed W9 Bn 3 (.int .i64 n) := hc.boxed ((b2.alloc _).alloc _) (fun h => by
        rcases h with h | h | h | h
        · exact h3 (it.sub _ h)
        · exact hDS _ (.inr (.inl rfl)) h
        · have := b2.lt; omega
        · have := b2.lt; omega)
      have c9 := Chg.put1 W9 d (.deferred none)
      gi_wp2
      refine ⟨by simp, .inl ⟨_, _, rfl, run_takeDeferred hK, ?_⟩⟩
      refine ⟨_, results_none rfl _ _ _, ⟨_, rfl⟩, xs, So, .inl ⟨by rw [List.take_of_length_le (by omega)], (pJ _).chg j c9 (fun k hk e => hnd (.inl (e ▸ hk)))⟩,
        ⟨c9.boxed b5 (hwd _ b1.lt), c9.boxed b6 (hwd _ b2.lt), it.kept hi (by simp) (fun k hk => World.putObj_heap_other (hwd _ (it.lt0 i1 k hk)))⟩,
        endChg (((Chg.refl _ W).alloc _).alloc _) hc (fun k hk h hn => ?_) (by omega) _, endGrew (by simp; omega) hg (fun _ => .inl) (fun k hk hk1 h => ?_)⟩
      · rcases h with h | h | h | h
        · exact (hn (.inl h)).elim
        · exact (hn (.inr h)).elim
        · omega
        · omega
      · rcases h with h | h | h
        · exact h
        · omega
        · omega
    case stop =>
      rintro d c zs S' W9 hd hpre ⟨So, rfl, hj, b3, rfl, n1, n2⟩ hi hc hg hK hnd
      have hd' : W.heap.size + 1 + 1 ≤ d := by simpa using hd
      have hwd : ∀ k, k < W.heap.size → k ≠ d := fun k hk => by omega
      have b5 : Boxed W9 Bs 26 (.func (.func gs) #[] lbs) := hc.boxed ((b1.alloc _).alloc _) (fun h => by
        rcases h with h | h | h | h
        · exact h2 (it.sub _ h)
        · exact hDS _ (.inl rfl) h
        · have := b1.lt; omega
        · have := b1.lt; omega)
      have b6 : Boxed W9 Bn 3 (.int .i64 n) := hc.boxed ((b2.alloc _).alloc _) (fun h => by
        rcases h with h | h | h | h
        · exact h3 (it.sub _ h)
        · exact hDS _ (.inr (.inl rfl)) h
        · have := b2.lt; omega
        · have := b2.lt; omega)
      have c9 := Chg.put1 W9 d (.deferred none)
      gi_wp2
      refine ⟨by simp, .inl ⟨_, _, rfl, run_takeDeferred hK, ?_⟩⟩
      rcases hj with j | ⟨hz, j⟩
      · refine ⟨_, results_none rfl _ _ _, ⟨_, rfl⟩, zs, So, .inr ⟨List.prefix_take_iff.2 ⟨hpre, j.1⟩, (pJx _).chg j.2 c9 (fun k hk e => hnd (.inl (e ▸ hk)))⟩,
          ⟨c9.boxed b5 (hwd _ b1.lt), c9.boxed b6 (hwd _ b2.lt), it.kept hi (by simp) (fun k hk => World.putObj_heap_other (hwd _ (it.lt0 i1 k hk)))⟩,
          endChg (((Chg.refl _ W).alloc _).alloc _) hc (fun k hk h hn => ?_) (by omega) _, endGrew (by simp; omega) hg (fun _ => .inl) (fun k hk hk1 h => ?_)⟩
        · rcases h with h | h | h | h
          · exact (hn (.inl h)).elim
          · exact (hn (.inr h)).elim
          · omega
          · omega
        · rcases h with h | h | h
          · exact h
          · omega
          · omega
      · refine ⟨_, results_none rfl _ _ _, ⟨_, rfl⟩, zs, So, .inl ⟨hz, (pJ _).chg j c9 (fun k hk e => hnd (.inl (e ▸ hk)))⟩,
          ⟨c9.boxed b5 (hwd _ b1.lt), c9.boxed b6 (hwd _ b2.lt), it.kept hi (by simp) (fun k hk => World.putObj_heap_other (hwd _ (it.lt0 i1 k hk)))⟩,
          endChg (((Chg.refl _ W).alloc _).alloc _) hc (fun k hk h hn => ?_) (by omega) _, endGrew (by simp; omega) hg (fun _ => .inl) (fun k hk hk1 h => ?_)⟩
        · rcases h with h | h | h | h
          · exact (hn (.inl h)).elim
          · exact (hn (.inr h)).elim
          · omega
          · omega
        · rcases h with h | h | h
          · exact h
          · omega
          · omega
    · intro zs
      exact ⟨by
        rintro S W' ⟨So, rfl, j, b3, b4, _⟩ k (h | h | h)
        · exact (pJ _).lt j k h
        · subst h; exact b3.lt
        · subst h; exact b4.lt, by
        rintro S W' W2 ⟨So, rfl, j, b3, b4, r⟩ hs hk
        exact ⟨So, rfl, (pJ _).kept j hs (fun k h => hk k (.inl h)), (hk _ (.inr (.inl rfl))).trans b3, (hk _ (.inr (.inr rfl))).trans b4, r⟩⟩
    · intro c zs
      exact ⟨by
        rintro S W' ⟨So, rfl, j, ⟨u, q, b3, b4⟩, _⟩ k (h | h | h)
        · rcases j with j | j
          · exact (pJx _).lt j.2 k h
          · exact (pJ _).lt j.2 k h
        · subst h; exact b3.lt
        · subst h; exact b4.lt, by
        rintro S W' W2 ⟨So, rfl, j, ⟨u, q, b3, b4⟩, r⟩ hs hk
        refine ⟨So, rfl, ?_, ⟨u, q, (hk _ (.inr (.inl rfl))).trans b3, (hk _ (.inr (.inr rfl))).trans b4⟩, r⟩
        rcases j with j | j
        · exact .inl ⟨j.1, (pJx _).kept j.2 hs (fun k h => hk k (.inl h))⟩
        · exact .inr ⟨j.1, (pJ _).kept j.2 hs (fun k h => hk k (.inl h))⟩⟩
    · have c1 : Chg (fun _ => False) W ((W.alloc (.cells #[.func (.yield l) #[] #[]] 42)).alloc (.cells #[.int .i64 n] 3)) := ((Chg.refl _ W).alloc _).alloc _
      have bn := Boxed.new (W.alloc (.cells #[.func (.yield l) #[] #[]] 42)) 3 (.int .i64 n)
      rw [World.size_alloc] at bn
      exact ⟨S, rfl, (pJ _).chg hJ c1 (fun _ _ h => h), (Boxed.new _ _ _).alloc _, by simpa using bn, by simp; omega, fun h => by have := hYn _ h; omega, fun h => by have := hYn _ h; omega⟩
    · rintro k hk (h | h | h)
      · exact hDS k (.inr (.inr hk)) h
      · have := it.lt0 i1 k hk; omega
      · have := it.lt0 i1 k hk; omega }

end Go.Proofs.Ytkfcbfmfkheceaa
