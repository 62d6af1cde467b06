/-
  seq.Filter's iterator keeps an iterator's word: of what the sequence tells, that of which the function is true.
-/
import Derived.Test.YtbiholcdncndfaaFIt
import Derived.Test.YtbiholcdncndfaaSeqX
namespace Go.Proofs.Ytbiholcdncndfaa
open Go.RowKit Go.Shelf Go.SeqLib Go.DiffLib Go.TreeLib
attribute [local go_sem] Oper.semAt_some

set_option maxRecDepth 100000 in
set_option maxHeartbeats 1000000 in
theorem filterF1 {gs : Nat} {lbs : Array Value} {xs : List (Fl)} {Ds Ms : Blk} {Is0 : World → Prop} {Is : List (Fl) → World → Prop} (it : Iter Try.prog gs lbs encF xs Ds Ms Is0 Is) (eg : ∀ args w, (callFunc gs args).run Try.prog w = .ok (.enter gs args) w)
    {ff : Nat} {capf : Array Value} {p : Fl → Bool} {Df : Blk} {If : Nat → World → Prop} (fn : Fun1 Try.prog ff capf (fun x : Fl => .agg #[.string x.1, .string x.2]) (fun x => .bool (p x)) Df If) (ef : ∀ args w, (callFunc ff args).run Try.prog w = .ok (.enter ff args) w)
    (k0 Bs Bf : Nat) (h1 : Bs ≠ Bf) (h2 : ¬ Ds Bs) (h3 : ¬ Ds Bf) (h4 : ¬ Df Bs) (h5 : ¬ Df Bf) (h6 : ∀ k, Ds k → ¬ Df k) :
    Iter Try.prog 43 #[.pointer (some ⟨Bs, 0, none⟩), .pointer (some ⟨Bf, 0, none⟩)] encF (xs.filter p) (fun k => k = Bs ∨ k = Bf ∨ Ds k ∨ Df k) (fun k => Ms k ∨ Df k)
      (fun W => Boxed W Bs 67 (.func (.func gs) #[] lbs) ∧ Boxed W Bf 64 (.func (.func ff) #[] capf) ∧ Is0 W ∧ If k0 W)
      (fun pre W => Boxed W Bs 67 (.func (.func gs) #[] lbs) ∧ Boxed W Bf 64 (.func (.func ff) #[] capf) ∧ ∃ zs, zs <+: xs ∧ zs.filter p = pre ∧ Is zs W ∧ If (k0 + zs.length) W) := {
  sub := by
    rintro k (h | h)
    · exact .inr (.inr (.inl (it.sub k h)))
    · exact .inr (.inr (.inr h))
  lt0 := by
    rintro W ⟨b1, b2, i1, i2⟩ k (rfl | rfl | h | h)
    · exact b1.lt
    · exact b2.lt
    · exact it.lt0 i1 k h
    · exact fn.lt i2 k h
  kept0 := by
    rintro W W' ⟨b1, b2, i1, i2⟩ hs hk
    exact ⟨(hk _ (.inl rfl)).trans b1, (hk _ (.inr (.inl rfl))).trans b2, it.kept0 i1 hs (fun k h => hk k (.inr (.inr (.inl h)))), fn.kept i2 hs (fun k h => hk k (.inr (.inr (.inr h))))⟩
  kept := by
    rintro pre W W' ⟨b1, b2, zs, hz, hp, i1, i2⟩ hs hk
    exact ⟨(hk _ (.inl rfl)).trans b1, (hk _ (.inr (.inl rfl))).trans b2, zs, hz, hp, it.kept i1 hs (fun k h => hk k (.inr (.inr (.inl h)))), fn.kept i2 hs (fun k h => hk k (.inr (.inr (.inr h))))⟩
  runs := by
    intro l J Jx S W pJ pJx hY hI hJ hDS
    obtain ⟨b1, b2, i1, i2⟩ := hI
    have hc1 := (b1.alloc (.cells #[.func (.yield l) #[] #[]] 64)).cell
    refine callsIn_of_wp_marks Try.func43 rfl trivial ?_
    simp only [Try.ntmps43, List.size_toArray, List.length_cons, List.length_nil, Nat.reduceAdd, Nat.reduceSub, Array.replicate_succ, Array.replicate_zero, List.push_toArray, List.append_toArray, List.nil_append, List.cons_append]
    gi_wp2
    have hYn : ∀ k, S k → k < W.heap.size := (pJ _).lt hJ
    refine wpIn_rangeX (gf := gs) (lb := lbs) rfl eg it (fun _ => rfl)
      (fun zs S W' => ∃ So, S = (fun k => So k ∨ k = W.heap.size ∨ k = Bf ∨ Df k) ∧ J (zs.filter p) So W' ∧ Boxed W' W.heap.size 64 (.func (.yield l) #[] #[]) ∧ Boxed W' Bf 64 (.func (.func ff) #[] capf) ∧ If (k0 + zs.length) W' ∧ ¬ So W.heap.size ∧ ¬ So Bf ∧ (∀ k, Df k → ¬ So k))
      (fun c zs S W' => ∃ So, S = (fun k => So k ∨ k = W.heap.size ∨ k = Bf ∨ Df k) ∧ Jx (zs.filter p) So W' ∧ Boxed W' W.heap.size 64 (.func (.yield l) #[] #[]) ∧ Boxed W' Bf 64 (.func (.func ff) #[] capf) ∧ If (k0 + zs.length) W' ∧ ¬ So W.heap.size ∧ ¬ So Bf ∧ (∀ k, Df k → ¬ So k) ∧ c = .ret)
      ?_ ?_ (S := fun k => S k ∨ k = W.heap.size ∨ k = Bf ∨ Df k) (it.kept0 i1 (by simp) (fun k hk => Below.heap_alloc _ _ _ (it.lt0 i1 k hk))) ?_ ?_
      (fun x X => { tmps := #[.func (.yield l) #[] #[], .pointer (some ⟨Bs, 0, none⟩), .pointer (some ⟨Bf, 0, none⟩), .pointer (some ⟨W.heap.size, 0, none⟩), .pointer (some ⟨X, 0, none⟩), .func (.func gs) #[] lbs, .agg #[.string x.1, .string x.2], undef, undef, undef, undef, undef, undef, undef, undef, undef], defers := [] }) (fun x => .cells #[.string x.1, .string x.2] 43) ?assign ?body ?done ?stop
    case assign =>
      intro l x W K hK
      gi_wp2
      exact hK
    case body =>
      rintro lr zs x S2 W2 X hpre ⟨So, rfl, j, b3, b4, i3, n1, n2, n3⟩ hX hXS _
      have x1 : W2.cell? ⟨X, 0, none⟩ = some (.string x.1) := by simp [World.cell?, hX]
      have x2 : W2.cell? ⟨X, 1, none⟩ = some (.string x.2) := by simp [World.cell?, hX]
      have hXf : ¬ Df X := fun h => hXS (.inr (.inr (.inr h)))
      have hcf := b4.cell
      have hcy := b3.cell
      have hlen : k0 + (zs ++ [x]).length = k0 + zs.length + 1 := by simp; omega
      have nb : ¬ Df W.heap.size := fun h => by have := fn.lt i2 _ h; omega
      cases hp : p x
      · have hfl : (zs ++ [x]).filter p = zs.filter p := by simp [hp]
        have HL : Hid (k0 + (zs ++ [x]).length = k0 + zs.length + 1) := hlen
        have HF : Hid ((zs ++ [x]).filter p = zs.filter p) := hfl
        clear hlen hfl
        gi_wp2_with fail
        refine ⟨trivial, rfl, (fn.runs _ x _ i3).mono ?_⟩
        rintro e W3 ⟨rfl, i4, c4⟩
        simp only [hp]
        gi_wp2
        refine ⟨fun _ h => (by cases h), ?_⟩
        gi_wp2
        refine ⟨fun k => So k ∨ k = W.heap.size ∨ k = Bf ∨ Df k, c4.mono (fun k hk => .inr (.inr (.inr (hk)))), Grew.refl _ _, So, rfl, ?_, c4.boxed b3 (fun h => nb (h)), c4.boxed b4 (fun h => h5 (h)), ?_, n1, n2, n3⟩
        · rw [HF.out]; exact (pJ _).chg j c4 (fun k hk h => n3 k (h) hk)
        · rw [HL.out]; exact i4
      · have hfl : (zs ++ [x]).filter p = zs.filter p ++ [x] := by simp [hp]
        have hpre2 : zs.filter p ++ [x] <+: xs.filter p := by rw [← hfl]; exact hpre.filter p
        have HL : Hid (k0 + (zs ++ [x]).length = k0 + zs.length + 1) := hlen
        have HF : Hid ((zs ++ [x]).filter p = zs.filter p ++ [x]) := hfl
        clear hlen hfl
        gi_wp2_with fail
        refine ⟨trivial, rfl, (fn.runs _ x _ i3).mono ?_⟩
        rintro e W3 ⟨rfl, i4, c4⟩
        simp only [hp]
        have x3 : W3.cell? ⟨X, 0, none⟩ = some (.string x.1) := (World.cell?_of_block (c4.block X (Array.getElem?_eq_some_iff.1 hX).1 hXf)).trans x1
        have x4 : W3.cell? ⟨X, 1, none⟩ = some (.string x.2) := (World.cell?_of_block (c4.block X (Array.getElem?_eq_some_iff.1 hX).1 hXf)).trans x2
        have b5 := c4.boxed b3 (fun h => nb (h))
        have b6 := c4.boxed b4 (fun h => h5 (h))
        have hcy3 := b5.cell
        have j3 : J (zs.filter p) So W3 := (pJ _).chg j c4 (fun k hk h => n3 k (h) hk)
        obtain ⟨fnr, tmps, assign, body, hy, hR⟩ := hY _ x So W3 hpre2 j3
        gi_wp2
        refine ⟨rfl, (inR lr hR).mono ?_⟩
        rintro e W4 ⟨S5, c5, g5, (⟨rfl, j5⟩ | ⟨rfl, j5⟩)⟩
        all_goals
          gi_wp2
          have hn5 : ∀ k, k < W3.heap.size → ¬ So k → ¬ S5 k := fun k hk hn h => by
            rcases g5 k h with h1 | h1
            · exact hn h1
            · omega
          refine ⟨fun k => S5 k ∨ k = W.heap.size ∨ k = Bf ∨ Df k, (c4.mono (fun k hk => .inr (.inr (.inr (hk))))).trans (S' := So) c5 (fun k hk => .inl (.inl hk)), ?_, S5, rfl, ?_, c5.boxed b5 n1, c5.boxed b6 n2, ?_, hn5 _ b5.lt n1, hn5 _ b6.lt n2, ?_⟩
          · rintro k (hk | hk)
            · rcases g5 k hk with h1 | h1
              · exact .inl (.inl h1)
              · exact .inr (Nat.le_trans c4.size h1)
            · exact .inl (.inr hk)
          · rw [HF.out]; exact j5
          · rw [HL.out]; exact fn.kept i4 c5.size (fun k hk => c5.block k (fn.lt i4 k hk) (n3 k hk))
          · first
              | exact fun k hk => hn5 k (fn.lt i4 k hk) (n3 k hk)
              | exact ⟨fun k hk => hn5 k (fn.lt i4 k hk) (n3 k hk), rfl⟩
    case done =>
      rintro d S' W9 hd ⟨So, rfl, j, b3, b4, i3, n1, n2, n3⟩ hi hc hg hK hnd
      have hd' : W.heap.size + 1 ≤ d := by simpa using hd
      have hwd : ∀ k, k < W.heap.size → k ≠ d := fun k hk => by omega
      have b5 : Boxed W9 Bs 67 (.func (.func gs) #[] lbs) := hc.boxed (b1.alloc _) (fun h => by
        rcases h with h | h | h | h | h
        · exact h2 (it.sub _ h)
        · exact hDS _ (.inl rfl) h
        · have := b1.lt; omega
        · exact h1 h
        · exact h4 h)
      have c9 := Chg.put1 W9 d (.deferred none)
      gi_wp2
      refine ⟨by simp, .inl ⟨_, _, rfl, run_takeDeferred hK, ?_⟩⟩
      refine ⟨_, results_none rfl _ _ _, ⟨_, rfl⟩, xs.filter p, So, .inl ⟨rfl, (pJ _).chg j c9 (fun k hk e => hnd (.inl (e ▸ hk)))⟩,
        ⟨c9.boxed b5 (hwd _ b1.lt), c9.boxed b4 (hwd _ b2.lt), xs, List.prefix_refl _, rfl, it.kept hi (by simp) (fun k hk => World.putObj_heap_other (hwd _ (it.lt0 i1 k hk))), fn.kept i3 (by simp) (fun k hk => World.putObj_heap_other (hwd _ (fn.lt i2 k hk)))⟩,
        endChg ((Chg.refl _ W).alloc _) hc (fun k hk h hn => ?_) (by omega) _, endGrew (by simp) hg (fun _ => .inl) (fun k hk hk1 h => ?_)⟩
      · rcases h with h | h | h | h | h
        · exact (hn (.inl (.inl h))).elim
        · exact (hn (.inr h)).elim
        · omega
        · subst h; exact (show W9.heap[k]? = _ from b4).trans (show W.heap[k]? = _ from b2).symm
        · exact (hn (.inl (.inr h))).elim
      · rcases h with h | h | h | h
        · exact h
        · omega
        · exact (n2 (h ▸ hk1)).elim
        · exact (n3 k h hk1).elim
    case stop =>
      rintro d c zs S' W9 hd hpre ⟨So, rfl, j, b3, b4, i3, n1, n2, n3, rfl⟩ hi hc hg hK hnd
      have hd' : W.heap.size + 1 ≤ d := by simpa using hd
      have hwd : ∀ k, k < W.heap.size → k ≠ d := fun k hk => by omega
      have b5 : Boxed W9 Bs 67 (.func (.func gs) #[] lbs) := hc.boxed (b1.alloc _) (fun h => by
        rcases h with h | h | h | h | h
        · exact h2 (it.sub _ h)
        · exact hDS _ (.inl rfl) h
        · have := b1.lt; omega
        · exact h1 h
        · exact h4 h)
      have c9 := Chg.put1 W9 d (.deferred none)
      gi_wp2
      refine ⟨by simp, .inl ⟨_, _, rfl, run_takeDeferred hK, ?_⟩⟩
      refine ⟨_, results_none rfl _ _ _, ⟨_, rfl⟩, zs.filter p, So, .inr ⟨hpre.filter p, (pJx _).chg j c9 (fun k hk e => hnd (.inl (e ▸ hk)))⟩,
        ⟨c9.boxed b5 (hwd _ b1.lt), c9.boxed b4 (hwd _ b2.lt), zs, hpre, rfl, it.kept hi (by simp) (fun k hk => World.putObj_heap_other (hwd _ (it.lt0 i1 k hk))), fn.kept i3 (by simp) (fun k hk => World.putObj_heap_other (hwd _ (fn.lt i2 k hk)))⟩,
        endChg ((Chg.refl _ W).alloc _) hc (fun k hk h hn => ?_) (by omega) _, endGrew (by simp) hg (fun _ => .inl) (fun k hk hk1 h => ?_)⟩
      · rcases h with h | h | h | h | h
        · exact (hn (.inl (.inl h))).elim
        · exact (hn (.inr h)).elim
        · omega
        · subst h; exact (show W9.heap[k]? = _ from b4).trans (show W.heap[k]? = _ from b2).symm
        · exact (hn (.inl (.inr h))).elim
      · rcases h with h | h | h | h
        · exact h
        · omega
        · exact (n2 (h ▸ hk1)).elim
        · exact (n3 k h hk1).elim
    · intro zs
      exact ⟨by
        rintro S W' ⟨So, rfl, j, b3, b4, i3, _⟩ k (h | h | h | h)
        · exact (pJ _).lt j k h
        · subst h; exact b3.lt
        · subst h; exact b4.lt
        · exact fn.lt i3 k h, by
        rintro S W' W2 ⟨So, rfl, j, b3, b4, i3, r⟩ hs hk
        exact ⟨So, rfl, (pJ _).kept j hs (fun k h => hk k (.inl h)), (hk _ (.inr (.inl rfl))).trans b3, (hk _ (.inr (.inr (.inl rfl)))).trans b4, fn.kept i3 hs (fun k h => hk k (.inr (.inr (.inr h)))), r⟩⟩
    · intro c zs
      exact ⟨by
        rintro S W' ⟨So, rfl, j, b3, b4, i3, _⟩ k (h | h | h | h)
        · exact (pJx _).lt j k h
        · subst h; exact b3.lt
        · subst h; exact b4.lt
        · exact fn.lt i3 k h, by
        rintro S W' W2 ⟨So, rfl, j, b3, b4, i3, r⟩ hs hk
        exact ⟨So, rfl, (pJx _).kept j hs (fun k h => hk k (.inl h)), (hk _ (.inr (.inl rfl))).trans b3, (hk _ (.inr (.inr (.inl rfl)))).trans b4, fn.kept i3 hs (fun k h => hk k (.inr (.inr (.inr h)))), r⟩⟩
    · have c1 : Chg (fun _ => False) W (W.alloc (.cells #[.func (.yield l) #[] #[]] 64)) := (Chg.refl _ W).alloc _
      exact ⟨S, rfl, (pJ _).chg hJ c1 (fun _ _ h => h), Boxed.new _ _ _, b2.alloc _, fn.kept i2 c1.size (fun k hk => c1.block k (fn.lt i2 k hk) (fun h => h)), fun h => by have := hYn _ h; omega, hDS _ (.inr (.inl rfl)), fun k hk => hDS k (.inr (.inr (.inr hk)))⟩
    · rintro k hk (h | h | h | h)
      · exact hDS k (.inr (.inr (.inl hk))) h
      · have := it.lt0 i1 k hk; omega
      · exact h3 (h ▸ hk)
      · exact h6 k hk h }

end Go.Proofs.Ytbiholcdncndfaa
