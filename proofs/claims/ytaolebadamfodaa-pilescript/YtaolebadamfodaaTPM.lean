/-
  Remove, of things.
-/
import Derived.Test.YtaolebadamfodaaTPD
namespace Go.Proofs.Ytaolebadamfodaa.T
open Go.RowKit Go.Shelf Go.SeqLib Go.PileLib Go.BigFrame
attribute [local go_sem] Oper.semAt_some

/-- Those that are put one by one. -/
def putAll (lt : Int × Int → Int × Int → Bool) (L : List ((Int × Int) × Int)) (n : Int) : List (Int × Int) → List ((Int × Int) × Int)
  | [] => L
  | x :: xs => putAll lt (ins (bef lt) L (x, n)) (n + 1) xs

theorem putAll_perm (lt : Int × Int → Int × Int → Bool) (xs : List (Int × Int)) : ∀ (L : List ((Int × Int) × Int)) (n : Int), ((putAll lt L n xs).map Prod.fst).Perm (L.map Prod.fst ++ xs) := by
  induction xs with
  | nil => intro L n; simp [putAll]
  | cons x xs ih =>
    intro L n
    refine (ih _ _).trans ?_
    refine ((ins_perm (r := bef lt) L (x, n)).map Prod.fst).append_right xs |>.trans ?_
    simp
theorem putAll_length (lt : Int × Int → Int × Int → Bool) (xs : List (Int × Int)) (L : List ((Int × Int) × Int)) (n : Int) : (putAll lt L n xs).length = L.length + xs.length := by
  have := (putAll_perm lt xs L n).length_eq
  simpa using this

theorem putAll_append (lt : Int × Int → Int × Int → Bool) (xs ys : List (Int × Int)) : ∀ (L : List ((Int × Int) × Int)) (n : Int), putAll lt L n (xs ++ ys) = putAll lt (putAll lt L n xs) (n + xs.length) ys := by
  induction xs with
  | nil => intro L n; simp [putAll]
  | cons x xs ih =>
    intro L n
    simp only [List.cons_append, putAll, ih, List.length_cons]
    congr 1
    omega

theorem putAll_lt (lt : Int × Int → Int × Int → Bool) (xs : List (Int × Int)) : ∀ (L : List ((Int × Int) × Int)) (n : Int), (∀ y ∈ L, y.2 < n) → ∀ y ∈ putAll lt L n xs, y.2 < n + xs.length := by
  induction xs with
  | nil => intro L n h; simpa [putAll] using h
  | cons x xs ih =>
    intro L n h y hy
    have := ih _ _ (fun z hz => by
      have h1 := (ins_perm (r := bef lt) L (x, n)).mem_iff.1 hz
      rcases List.mem_append.1 h1 with h2 | h2
      · have := h z h2; omega
      · simp at h2; subst h2; show n < n + 1; omega) y hy
    simp only [List.length_cons]
    omega

theorem pile_sorted {d L : List ((Int × Int) × Int)} {key : Int × Int → Int} (hg : PileLib.Good (bef (ltK key)) d L) : (L.map Prod.fst).Pairwise (fun a b => key a ≤ key b) := by
  refine List.Pairwise.map _ (fun a b h => ?_) hg.sort
  rw [bef_iff] at h
  omega

/-- Remove's own question: not f. -/
theorem not_fun {ff : Nat} {capf : Array Value} {p : Int × Int → Bool} {W : World} {D : Blk} (hf : PFun W ff capf (fun x => .bool (p x)) D) (Bf : Nat) (hb : Boxed W Bf 38 (.func (.func ff) #[] capf)) (hn : ¬ D Bf) :
    PFun W 37 #[.pointer (some ⟨Bf, 0, none⟩)] (fun x => .bool (!p x)) (fun k => k = Bf ∨ D k) := by
  obtain ⟨I, fn, hi, hx, ef⟩ := hf
  refine ⟨fun W => Boxed W Bf 38 (.func (.func ff) #[] capf) ∧ I W, ⟨?_, ?_, ?_⟩, ⟨hb, hi⟩, ?_, enters_of Try.func37 (by kernel_rfl) rfl⟩
  · rintro k W ⟨b, i⟩ j (rfl | h)
    · exact b.lt
    · exact fn.lt (k := 0) i j h
  · rintro k W W' ⟨b, i⟩ hs hk
    exact ⟨(hk _ (.inl rfl)).trans b, fn.kept (k := 0) i hs (fun j h => hk j (.inr h))⟩
  · rintro k x W ⟨b, i⟩
    have hc := (b.alloc (.cells #[.int .i64 x.1, .int .i64 x.2] 27)).cell
    have cA : Chg (fun _ => False) W (W.alloc (.cells #[.int .i64 x.1, .int .i64 x.2] 27)) := (Chg.refl _ W).alloc _
    have i' := fn.kept (k := 0) i cA.size (fun k h => cA.block k (fn.lt (k := 0) i k h) (fun h => h))
    refine callsIn_of_wp Try.func37 rfl trivial ?_
    simp only [Try.ntmps37, List.size_toArray, List.length_cons, List.length_nil, Nat.reduceAdd, Nat.reduceSub, Array.replicate_succ, Array.replicate_zero, List.push_toArray, List.append_toArray, List.nil_append, List.cons_append]
    gi_wp2_with fail
    refine ⟨trivial, rfl, (fn.runs 0 x _ i').mono ?_⟩
    rintro e W3 ⟨rfl, i3, c3⟩
    gi_wp2
    go_ret
    exact ⟨rfl, ⟨c3.boxed (b.alloc _) hn, i3⟩, ((cA.mono (fun _ h => h.elim)).trans c3 (Grew.refl _ _)).mono (fun _ => .inr)⟩
  · rintro W W' ⟨b, i⟩ ⟨b', i'⟩ k (rfl | h)
    · exact (show W'.heap[k]? = _ from b').trans (show W.heap[k]? = _ from b).symm
    · exact hx W W' i i' k h

theorem putAll_sorted (key : Int × Int → Int) (xs : List (Int × Int)) : xs.Pairwise (fun a b => key a ≤ key b) → ∀ (L : List ((Int × Int) × Int)) (n : Int), (∀ y ∈ L, y.2 < n) → (∀ y ∈ L, ∀ x ∈ xs, key y.1 ≤ key x) → (putAll (ltK key) L n xs).map Prod.fst = L.map Prod.fst ++ xs := by
  induction xs with
  | nil => intro _ L n _ _; simp [putAll]
  | cons x xs ih =>
    intro hs L n hn hk
    have hb : ∀ y ∈ L, bef (ltK key) y (x, n) = true := fun y hy => by
      rw [bef_iff]
      have := hn y hy
      have := hk y hy x (by simp)
      show key y.1 < key x ∨ key y.1 = key x ∧ y.2 < n
      omega
    have e : ins (bef (ltK key)) L (x, n) = L ++ [(x, n)] := by
      unfold ins
      rw [List.filter_eq_self.2 hb, List.filter_eq_nil_iff.2 (fun y hy => by simp [hb y hy])]
    rw [putAll, e, ih (List.pairwise_cons.1 hs).2 _ _ ?_ ?_]
    · simp
    · intro y hy
      rcases List.mem_append.1 hy with h | h
      · have := hn y h; omega
      · simp at h; subst h; show n < n + 1; omega
    · intro y hy z hz
      rcases List.mem_append.1 hy with h | h
      · exact hk y h z (List.mem_cons_of_mem _ hz)
      · simp at h; subst h; exact (List.pairwise_cons.1 hs).1 z hz

theorem good_nil (r : ((Int × Int) × Int) → ((Int × Int) × Int) → Bool) : PileLib.Good r [] [] := ⟨fun j hj => absurd hj (by simp), List.Perm.refl _, List.Pairwise.nil⟩

set_option maxHeartbeats 1000000 in
theorem remove_nof (B : Nat) (w : World) : CallsIn Fence.wide 0 Try.prog 15 #[.pointer (some ⟨B, 0, none⟩), .nilFunc] w fun e w' => e = .returned (.int .i64 0) ∧ Chg No w w' := by
  have hnil := fun w => run_eql_nil_func Try.underlying38 w
  have hc := (Boxed.new w 38 .nilFunc).cell
  refine callsIn_of_wp Try.func15 rfl trivial ?_
  simp only [Try.ntmps15, List.size_toArray, List.length_cons, List.length_nil, Nat.reduceAdd, Nat.reduceSub, Array.replicate_succ, Array.replicate_zero, List.push_toArray, List.append_toArray, List.nil_append, List.cons_append]
  gi_wp2
  go_ret
  exact ⟨rfl, (Chg.refl _ w).alloc _⟩

set_option maxRecDepth 100000 in
set_option maxHeartbeats 4000000 in
theorem remove_in {lf : Nat} {key : Int × Int → Int} (hl : Less lf (ltK key)) (B : Nat) (L : List ((Int × Int) × Int)) (puts : Int) (S : Blk) (hlen : L.length ≤ 100000) {ff : Nat} {capf : Array Value} {p : Int × Int → Bool} {D : Blk} (w : World)
    (hP : Pile B lf (ltK key) L puts S w) (hf : PFun w ff capf (fun x => .bool (p x)) D) (hD : ∀ k, D k → ¬ S k) :
    CallsIn Fence.wide 0 Try.prog 15 #[.pointer (some ⟨B, 0, none⟩), .func (.func ff) #[] capf] w fun e w' => ∃ S' M, e = .returned (.int .i64 ((L.length : Int) - (M.length : Int))) ∧ M.map Prod.fst = (L.map Prod.fst).filter (fun x => !p x) ∧ Pile B lf (ltK key) M M.length S' w' ∧ (∀ y ∈ M, y.2 < (M.length : Int)) ∧ Chg S w w' ∧ Grew S w S' := by
  have hmix : Try.prog.follows .mixedOrders = true := by kernel_rfl
  have hnil := fun w => run_eql_func_nil Try.underlying38 (.func ff) #[] capf w
  have bf := Boxed.new w 38 (.func (.func ff) #[] capf)
  have hc := bf.cell
  have c1 : Chg No w (w.alloc (.cells #[.func (.func ff) #[] capf] 38)) := (Chg.refl _ w).alloc _
  have hP1 := (Pile.part _ _ _ _ _).chg hP c1 (fun _ _ h => h)
  have hf1 := hf.no c1
  have hDl := hf.lt
  have hSl := (Pile.part _ _ _ _ _).lt hP
  refine callsIn_of_wp_marks Try.func15 rfl trivial ?_
  simp only [Try.ntmps15, List.size_toArray, List.length_cons, List.length_nil, Nat.reduceAdd, Nat.reduceSub, Array.replicate_succ, Array.replicate_zero, List.push_toArray, List.append_toArray, List.nil_append, List.cons_append]
  gi_wp2
  generalize (w.alloc (.cells #[.func (.func ff) #[] capf] 38)) = w1 at bf c1 hP1 hf1 hc ⊢
  have hPw : ∀ w', Chg No w1 w' → Pile B lf (ltK key) L puts S w' := fun w' c => (Pile.part _ _ _ _ _).chg hP1 c (fun _ _ h => h)
  have hq0 : w1.cell? ⟨B, 0, none⟩ = some (.func (.func lf) #[] #[]) := by obtain ⟨v, d, _, hb, _, _⟩ := hP1; exact hb.cells.1
  have hS : ∀ w', Chg No w1 w' → w'.cell? ⟨B, 0, none⟩ = some (.func (.func lf) #[] #[]) ∧ Chg No w1 w' := fun w' c => ⟨Chg.cell c hq0 (fun h => h), c⟩
  have k0 : Chg No w1 w1.drew := (Chg.refl _ w1).drew
  have k1 : Chg No w1 (w1.alloc (.cells #[.pointer none] 24)).drew := ((Chg.refl _ w1).alloc _).drew
  refine wpIn_wide.2 ?_
  go_region_held3 (fun w' => w'.cell? ⟨B, 0, none⟩ = some (.func (.func lf) #[] #[]) ∧ Chg No w1 w')
    (first
      | exact hS _ k0
      | exact hS _ k1
      | exact hS _ ((k0.alloc _))
      | exact hS _ ((k0.alloc _).alloc _)
      | exact hS _ (((Chg.refl _ w1).alloc _).drew)
      | exact hS _ ((((Chg.refl _ w1).alloc _).alloc _).drew)
      | exact hS _ ((k1.alloc _)))
    (first
      | (go_at_call 18; refine ((callsIn_wide (n := 0)).1 (len_seq B L puts S _ (hPw _ k0))).mono ?_; rintro e w2 ⟨rfl, rfl⟩)
      | (go_at_call 18; refine ((callsIn_wide (n := 0)).1 (len_seq B L puts S _ (hPw _ k1))).mono ?_; rintro e w2 ⟨rfl, rfl⟩)
      | (go_at_call 9; refine ((callsIn_wide (n := 0)).1 (new_in lf _)).mono ?_; rintro e w2 ⟨rfl, rfl⟩))
  · have F : ∃ Kb B' w3, Kb = w1.heap.size + 1 ∧ B' = w1.heap.size ∧ w3 = ((w1.alloc (.cells #[.func (.func lf) #[] #[], .slice none 0 0, .int .i64 0] 62)).alloc (.cells #[.pointer (some ⟨w1.heap.size, 0, none⟩)] 24)).drew := ⟨_, _, _, rfl, rfl, rfl⟩
    obtain ⟨Kb, B', w3, hKb, hB', hw3⟩ := F
    have hbK : Boxed w3 Kb 24 (.pointer (some ⟨B', 0, none⟩)) := by
      rw [hKb, hB', hw3]
      have := Boxed.new (w1.alloc (.cells #[.func (.func lf) #[] #[], .slice none 0 0, .int .i64 0] 62)) 24 (.pointer (some ⟨w1.heap.size, 0, none⟩))
      rw [World.size_alloc] at this
      exact this
    have hPn : Pile B' lf (ltK key) [] 0 (fun k => k = B') w3 := by
      refine ⟨.slice none 0 0, [], by funext k; simp [Value.ownBlock], ?_, World.ownsRow_nil _ _ _ _, good_nil _⟩
      rw [hB', hw3]
      exact (Below.heap_alloc _ _ _ (by simp)).trans (World.alloc_heap_new w1 _)
    have c13 : Chg No w1 w3 := by rw [hw3]; exact (((Chg.refl _ w1).alloc _).alloc _).drew
    have hKB : Kb ≠ B' := by omega
    have hKn : w1.heap.size ≤ Kb := by omega
    have hBn : w1.heap.size ≤ B' := by omega
    rw [← hw3, ← hB', hB', ← hKb, ← hB']
    clear hw3 hKb
    have bf3 := c13.boxed bf (fun h => h)
    have hP3 := (Pile.part _ _ _ _ _).chg hP1 c13 (fun _ _ h => h)
    have hf3 := hf1.no c13
    clear hB' hq0 hS hPw k0 k1 hc
    gi_wp2_with fail
    refine ⟨trivial, rfl, (all_seq hl (bef_ord key) B L puts S hlen _ hP3).mono ?_⟩
    rintro e w4 ⟨g4, l4, D4, rfl, s4, c4, d4⟩
    have hf4 := not_fun (hf3.no c4) w.heap.size (c4.boxed bf3 (fun h => h)) (fun h => by have := hDl _ h; omega)
    gi_wp2_with fail
    refine ⟨trivial, rfl, (filter_seq w4 s4 hf4 (fun k h1 h2 => ?_)).mono ?_⟩
    · have hs := c1.size
      have hs2 := c13.size
      have hb1 := bf.lt
      rcases d4 k h1 with h | h
      · rcases h2 with h3 | h3
        · have := hSl k h; omega
        · exact hD k h3 h
      · rcases h2 with h3 | h3
        · omega
        · have := hDl k h3; omega
    rintro e w5 ⟨g5, l5, D5, rfl, s5, c5, d5⟩
    have c35 := c4.trans c5 (Grew.refl _ _)
    have c15 := c13.trans c35 (Grew.refl _ _)
    have hbK5 := c35.boxed hbK (fun h => h)
    have hPn5 := (Pile.part _ _ _ _ _).chg hPn c35 (fun _ _ h => h)
    have hP5 := (Pile.part _ _ _ _ _).chg hP3 c35 (fun _ _ h => h)
    have hD5 : ∀ k, D5 k → k < w1.heap.size ∨ w3.heap.size ≤ k := fun k h => by
      rcases d5 k h with h1 | (h1 | h1) | h1
      · rcases d4 k h1 with h2 | h2
        · have := hSl k h2; have := c1.size; omega
        · exact .inr h2
      · have := bf.lt; omega
      · have := hDl k h1; have := c1.size; omega
      · have := c4.size; omega
    have hK3 := hbK.lt
    have hB3 : B' < w3.heap.size := (Pile.part _ _ _ _ _).lt hPn B' rfl
    obtain ⟨xs, hxs⟩ : ∃ xs, (L.map Prod.fst).filter (fun x => !p x) = xs := ⟨_, rfl⟩
    have HXS : Hid ((L.map Prod.fst).filter (fun x => !p x) = xs) := hxs
    rw [hxs] at s5
    have hxl : xs.length ≤ L.length := by rw [← hxs]; exact Nat.le_trans (List.length_filter_le _ _) (by simp)
    clear hxs d5 d4 s4 hf4 c4 c5 c35 hP3 hf3 bf3 hPn hbK
    obtain ⟨I0, it, hi, eg⟩ := s5
    gi_wp2
    refine wpIn_rangeX (gf := g5) (lb := l5) rfl eg it (fun _ => rfl)
      (fun pre S2 W => ∃ Sk, S2 = (fun k => k = Kb ∨ Sk k) ∧ Boxed W Kb 24 (.pointer (some ⟨B', 0, none⟩)) ∧ Pile B' lf (ltK key) (putAll (ltK key) [] (0 : Nat) pre) (pre.length : Nat) Sk W ∧ ¬ Sk Kb ∧ (∀ k, Sk k → k = B' ∨ w5.heap.size ≤ k) ∧ w5.heap.size ≤ W.heap.size)
      (fun _ _ _ _ => False) ?_ (fun _ _ => Part.false) (S := fun k => k = Kb ∨ k = B') hi ⟨_, rfl, hbK5, hPn5, hKB, fun k h => .inl h, Nat.le_refl _⟩ ?_ (fun x X => { tmps := #[.pointer (some ⟨B, 0, none⟩), .func (.func ff) #[] capf, undef, .pointer (some ⟨w.heap.size, 0, none⟩), .int .i64 0, .int .i64 (L.length : Int), .pointer (some ⟨Kb, 0, none⟩), .pointer (some ⟨X, 0, none⟩), .pointer (some ⟨B, 0, none⟩), .bool false, .bool false, .func (.func ff) #[] capf, .bool false, .bool false, .pointer (some ⟨B, 0, none⟩), .int .i64 (L.length : Int), .pointer (some ⟨B, 0, none⟩), .pointer (some ⟨B, 0, none⟩), .pointer (some ⟨B, 0, none⟩), .func (.func lf) #[] #[], .pointer (some ⟨B', 0, none⟩), .pointer (some ⟨B, 0, none⟩), .func (.func g4) #[] l4, .func (.func 37) #[] #[.pointer (some ⟨w.heap.size, 0, none⟩)], .func (.func g5) #[] l5, .agg #[.int .i64 x.1, .int .i64 x.2], undef, undef, undef, undef, undef, undef, undef, undef, undef, undef, undef, undef, undef], defers := [] }) (fun x => .cells #[.int .i64 x.1, .int .i64 x.2] 27) ?assignx ?bodyx ?donex ?stopx
    case assignx =>
      intro l x W K hK
      gi_wp2
      exact hK
    case bodyx =>
      rintro lr pre x S2 W X hpre ⟨Sk, rfl, hbk, hpk, hnk, hnew, hWs⟩ hX _ _
      have e1 : W.cell? ⟨X, 0, none⟩ = some (.int .i64 x.1) := by simp [World.cell?, hX]
      have e2 : W.cell? ⟨X, 1, none⟩ = some (.int .i64 x.2) := by simp [World.cell?, hX]
      have hcK := hbk.cell
      have hpl : pre.length < xs.length := by have := hpre.length_le; simp at this; omega
      have HLen : Hid ((putAll (ltK key) [] (0 : Nat) pre).length = pre.length) := by
        show _ = _
        rw [putAll_length]; simp
      have HLt : Hid (∀ y ∈ putAll (ltK key) [] (0 : Nat) pre, y.2 < (pre.length : Int)) := by
        intro y hy
        have := putAll_lt (ltK key) pre [] (0 : Nat) (fun y h => by cases h) y hy
        simp at this; omega
      gi_wp2_with fail
      refine ⟨trivial, rfl, (put_one hl B' _ pre.length (by omega) HLt.out Sk (by rw [HLen.out]; omega) W x.1 x.2 hpk).mono ?_⟩
      rintro e W3 ⟨rfl, S3, p3, cc3, gg3⟩
      have p4 : Pile B' lf (ltK key) (putAll (ltK key) [] (0 : Nat) (pre ++ [x])) ((pre ++ [x]).length : Nat) S3 W3 := by
        rw [putAll_append, List.length_append, List.length_singleton]
        have : ((0 : Nat) : Int) + (pre.length : Int) = (pre.length : Int) := by omega
        rw [this]
        exact p3
      have hk3 : ¬ S3 Kb := fun h => by
        rcases gg3 Kb h with h1 | h1
        · exact hnk h1
        · have := hbk.lt; omega
      have hsz : w5.heap.size ≤ W.heap.size := hWs
      have hn3 : ∀ k, S3 k → k = B' ∨ w5.heap.size ≤ k := fun k h => by
        rcases gg3 k h with h1 | h1
        · exact hnew k h1
        · exact .inr (Nat.le_trans hsz h1)
      have HX3 : Hid (∃ S', Chg (fun k => k = Kb ∨ Sk k) W W3 ∧ Grew (fun k => k = Kb ∨ Sk k) W S' ∧ (∃ Sk, S' = (fun k => k = Kb ∨ Sk k) ∧ Boxed W3 Kb 24 (.pointer (some ⟨B', 0, none⟩)) ∧ Pile B' lf (ltK key) (putAll (ltK key) [] (0 : Nat) (pre ++ [x])) ((pre ++ [x]).length : Nat) Sk W3 ∧ ¬ Sk Kb ∧ (∀ k, Sk k → k = B' ∨ w5.heap.size ≤ k) ∧ w5.heap.size ≤ W3.heap.size)) :=
        ⟨_, cc3.mono (fun _ => .inr), fun k h => by
          rcases h with h | h
          · exact .inl (.inl h)
          · rcases gg3 k h with h1 | h1
            · exact .inl (.inr h1)
            · exact .inr h1, S3, rfl, cc3.boxed hbk hnk, p4, hk3, hn3, Nat.le_trans hsz cc3.size⟩
      clear p3 p4
      gi_wp2
      exact HX3.out
    case stopx =>
      rintro d c pre S' W _ _ h
      exact h.elim
    case donex =>
      rintro d S' W hd ⟨Sk, rfl, hbk, hpk, hnk, hnew, hWs⟩ hI' hc9 hg9 hK9 hnd
      have hS5 : ∀ k, S k → ¬ (False ∨ k = Kb ∨ k = B') := fun k h hh => by
        have h1 := hSl k h
        have h2 := c1.size
        rcases hh with hh | hh | hh
        · exact hh
        · omega
        · omega
      have hP9 := (Pile.part _ _ _ _ _).chg hP5 hc9 hS5
      obtain ⟨v0, d0, rfl, hb0, hr0, hg0⟩ := hP9
      obtain ⟨M, hM⟩ : ∃ M, putAll (ltK key) [] (0 : Nat) xs = M := ⟨_, rfl⟩
      rw [hM] at hpk
      have HML : Hid (M.length = xs.length) := by show _ = _; rw [← hM, putAll_length]; simp
      have HMlt : Hid (∀ y ∈ M, y.2 < (M.length : Int)) := fun y hy => by
        rw [← hM] at hy
        have := putAll_lt (ltK key) xs [] (0 : Nat) (fun y h => by cases h) y hy
        rw [HML.out]
        simp at this; omega
      have HMx : Hid (M.map Prod.fst = xs) := by
        show _ = _
        rw [← hM]
        have hso : xs.Pairwise (fun a b => key a ≤ key b) := by rw [← HXS.out]; exact (pile_sorted hg0).filter _
        simpa using putAll_sorted key xs hso [] (0 : Nat) (fun y h => by cases h) (fun y h => by cases h)
      have hpk' := hpk
      obtain ⟨v9, d9, rfl, hb9, hr9, hg9'⟩ := hpk'
      obtain ⟨pv, cv, rfl⟩ := prow_slice hr9
      have hcK := hbk.cell
      obtain ⟨x0, x1, x2⟩ := hb9.cells
      obtain ⟨y0, y1, y2⟩ := hb0.cells
      have z0 := hb0.frozen 0
      have z1 := hb0.frozen 1
      have z2 := hb0.frozen 2
      have hBB : B ≠ B' := fun e => hS5 B (.inl rfl) (.inr (.inr e))
      have hBK : B ≠ Kb := fun e => hS5 B (.inl rfl) (.inr (.inl e))
      clear hM
      gi_wp2_with fail
      have hd' : w5.heap.size ≤ d := hd
      have hBl : B < w.heap.size := hSl B (.inl rfl)
      have hws : w.heap.size ≤ w5.heap.size := Nat.le_trans c1.size c15.size
      have hw1s := c1.size
      have c910 : Chg (fun k => k = B) W (((W.setCell ⟨B, 0, none⟩ (.func (.func lf) #[] #[])).setCell ⟨B, 1, none⟩ (.slice pv d9.length cv)).setCell ⟨B, 2, none⟩ (.int .i64 (xs.length : Int))) :=
        (((Chg.refl (fun k => k = B) W).setCell (p := ⟨B, 0, none⟩) (.inl rfl) _).setCell (p := ⟨B, 1, none⟩) (.inl rfl) _).setCell (p := ⟨B, 2, none⟩) (.inl rfl) _
      have hb10 : PBox (((W.setCell ⟨B, 0, none⟩ (.func (.func lf) #[] #[])).setCell ⟨B, 1, none⟩ (.slice pv d9.length cv)).setCell ⟨B, 2, none⟩ (.int .i64 (xs.length : Int))) B lf (.slice pv d9.length cv) (xs.length : Int) := by
        have h9 : W.heap[B]? = _ := hb0
        unfold PBox
        simp only [World.setCell, Array.getElem?_modify, if_true, h9]
        simp
      generalize (((W.setCell ⟨B, 0, none⟩ (.func (.func lf) #[] #[])).setCell ⟨B, 1, none⟩ (.slice pv d9.length cv)).setCell ⟨B, 2, none⟩ (.int .i64 (xs.length : Int))) = w10 at c910 hb10 ⊢
      have hrB : ∀ k, (Value.slice pv d9.length cv).ownBlock = some k → w5.heap.size ≤ k ∨ k = B' := fun k e => by
        rcases hnew k (.inr e) with h | h
        · exact .inr h
        · exact .inl h
      have hk10 := (Pile.part _ _ _ _ _).chg hpk c910 (fun k h1 h2 => by
        rcases hnew k h1 with h | h
        · omega
        · omega)
      have hr10 := hr9.chg c910 (fun k h1 h2 => by
        rcases hrB k h1 with h | h
        · omega
        · omega)
      have hK10 : w10.heap[d]? = some (.deferred (some [])) := (c910.block d (Array.getElem?_eq_some_iff.1 hK9).1 (by omega)).trans hK9
      refine ⟨trivial, rfl, (len_seq B' M _ _ _ hk10).mono ?_⟩
      rintro e w10' ⟨rfl, hw10⟩
      subst hw10
      have HF : Hid (∃ S' M, Ending.returned (.int .i64 ((L.length : Int) - (xs.length : Int))) = .returned (.int .i64 ((L.length : Int) - (M.length : Int))) ∧ M.map Prod.fst = (L.map Prod.fst).filter (fun x => !p x) ∧ Pile B lf (ltK key) M M.length S' (w10'.putObj d (.deferred none)) ∧ (∀ y ∈ M, y.2 < (M.length : Int)) ∧ Chg (fun k => k = B ∨ v0.ownBlock = some k) w (w10'.putObj d (.deferred none)) ∧ Grew (fun k => k = B ∨ v0.ownBlock = some k) w S') := by
        have cd := Chg.put1 w10' d (.deferred none)
        refine ⟨fun k => k = B ∨ (Value.slice pv d9.length cv).ownBlock = some k, M, by rw [HML.out], HMx.out.trans HXS.out.symm, ?_, HMlt.out, ?_, ?_⟩
        · rw [HML.out]
          exact ⟨_, d9, rfl, cd.same hb10 (by omega), hr10.chg cd (fun k h1 h2 => hnd (.inr (.inr (h2 ▸ h1)))), hg9'⟩
        · have e1 : Chg No w w5 := c1.trans c15 (Grew.refl _ _)
          have e2 : Chg (fun k => k = B ∨ v0.ownBlock = some k) w W := (e1.mono (fun _ h => h.elim)).trans hc9 (fun k h => by
            rcases h with h | h | h
            · exact h.elim
            · exact .inr (by omega)
            · exact .inr (by omega))
          exact (e2.trans c910 (fun k h => .inl (.inl h))).trans cd (fun k h => .inr (by omega))
        · rintro k (h | h)
          · exact .inl (.inl h)
          · rcases hrB k h with h1 | h1
            · exact .inr (by omega)
            · exact .inr (by omega)
      rw [HML.out]
      clear hk10 hr10 hb10 hb9 hr9 hg9' hb0 hr0 hg0 hpk
      gi_wp2
      refine ⟨by simp, .inl ⟨_, _, rfl, run_takeDeferred hK10, ?_⟩⟩
      obtain ⟨S9, M9, h9, hrest⟩ := HF.out
      exact ⟨_, results_tmp (t := 4) rfl _ _ _, S9, M9, h9, hrest⟩
    · intro pre
      exact ⟨by
        rintro S2 W ⟨Sk, rfl, hbk, hpk, hnk, hnew, hWs⟩ k (rfl | h)
        · exact hbk.lt
        · exact (Pile.part _ _ _ _ _).lt hpk k h, by
        rintro S2 W W' ⟨Sk, rfl, hbk, hpk, hnk, hnew, hWs⟩ hs hk
        exact ⟨Sk, rfl, (hk _ (.inl rfl)).trans hbk, (Pile.part _ _ _ _ _).kept hpk hs (fun k h => hk k (.inr h)), hnk, hnew, Nat.le_trans hWs hs⟩⟩
    · rintro k hk (h | h)
      · rcases hD5 k hk with h1 | h1 <;> omega
      · rcases hD5 k hk with h1 | h1 <;> omega
  · have F : ∃ Kb B' w3, Kb = w1.heap.size ∧ B' = w1.heap.size + 1 ∧ w3 = ((w1.alloc (.cells #[.pointer (some ⟨w1.heap.size + 1, 0, none⟩)] 24)).alloc (.cells #[.func (.func lf) #[] #[], .slice none 0 0, .int .i64 0] 62)).drew := ⟨_, _, _, rfl, rfl, rfl⟩
    obtain ⟨Kb, B', w3, hKb, hB', hw3⟩ := F
    have hbK : Boxed w3 Kb 24 (.pointer (some ⟨B', 0, none⟩)) := by
      rw [hKb, hB', hw3]
      exact (Boxed.new w1 24 (.pointer (some ⟨w1.heap.size + 1, 0, none⟩))).alloc _
    have hPn : Pile B' lf (ltK key) [] 0 (fun k => k = B') w3 := by
      refine ⟨.slice none 0 0, [], by funext k; simp [Value.ownBlock], ?_, World.ownsRow_nil _ _ _ _, good_nil _⟩
      rw [hB', hw3]
      have := World.alloc_heap_new (w1.alloc (.cells #[.pointer (some ⟨w1.heap.size + 1, 0, none⟩)] 24)) (.cells #[.func (.func lf) #[] #[], .slice none 0 0, .int .i64 0] 62)
      rw [World.size_alloc] at this
      exact this
    have c13 : Chg No w1 w3 := by rw [hw3]; exact (((Chg.refl _ w1).alloc _).alloc _).drew
    have hKB : Kb ≠ B' := by omega
    have hKn : w1.heap.size ≤ Kb := by omega
    have hBn : w1.heap.size ≤ B' := by omega
    rw [← hw3, ← hB', ← hKb]
    clear hw3 hKb
    have bf3 := c13.boxed bf (fun h => h)
    have hP3 := (Pile.part _ _ _ _ _).chg hP1 c13 (fun _ _ h => h)
    have hf3 := hf1.no c13
    clear hB' hq0 hS hPw k0 k1 hc
    gi_wp2_with fail
    refine ⟨trivial, rfl, (all_seq hl (bef_ord key) B L puts S hlen _ hP3).mono ?_⟩
    rintro e w4 ⟨g4, l4, D4, rfl, s4, c4, d4⟩
    have hf4 := not_fun (hf3.no c4) w.heap.size (c4.boxed bf3 (fun h => h)) (fun h => by have := hDl _ h; omega)
    gi_wp2_with fail
    refine ⟨trivial, rfl, (filter_seq w4 s4 hf4 (fun k h1 h2 => ?_)).mono ?_⟩
    · have hs := c1.size
      have hs2 := c13.size
      have hb1 := bf.lt
      rcases d4 k h1 with h | h
      · rcases h2 with h3 | h3
        · have := hSl k h; omega
        · exact hD k h3 h
      · rcases h2 with h3 | h3
        · omega
        · have := hDl k h3; omega
    rintro e w5 ⟨g5, l5, D5, rfl, s5, c5, d5⟩
    have c35 := c4.trans c5 (Grew.refl _ _)
    have c15 := c13.trans c35 (Grew.refl _ _)
    have hbK5 := c35.boxed hbK (fun h => h)
    have hPn5 := (Pile.part _ _ _ _ _).chg hPn c35 (fun _ _ h => h)
    have hP5 := (Pile.part _ _ _ _ _).chg hP3 c35 (fun _ _ h => h)
    have hD5 : ∀ k, D5 k → k < w1.heap.size ∨ w3.heap.size ≤ k := fun k h => by
      rcases d5 k h with h1 | (h1 | h1) | h1
      · rcases d4 k h1 with h2 | h2
        · have := hSl k h2; have := c1.size; omega
        · exact .inr h2
      · have := bf.lt; omega
      · have := hDl k h1; have := c1.size; omega
      · have := c4.size; omega
    have hK3 := hbK.lt
    have hB3 : B' < w3.heap.size := (Pile.part _ _ _ _ _).lt hPn B' rfl
    obtain ⟨xs, hxs⟩ : ∃ xs, (L.map Prod.fst).filter (fun x => !p x) = xs := ⟨_, rfl⟩
    have HXS : Hid ((L.map Prod.fst).filter (fun x => !p x) = xs) := hxs
    rw [hxs] at s5
    have hxl : xs.length ≤ L.length := by rw [← hxs]; exact Nat.le_trans (List.length_filter_le _ _) (by simp)
    clear hxs d5 d4 s4 hf4 c4 c5 c35 hP3 hf3 bf3 hPn hbK
    obtain ⟨I0, it, hi, eg⟩ := s5
    gi_wp2
    refine wpIn_rangeX (gf := g5) (lb := l5) rfl eg it (fun _ => rfl)
      (fun pre S2 W => ∃ Sk, S2 = (fun k => k = Kb ∨ Sk k) ∧ Boxed W Kb 24 (.pointer (some ⟨B', 0, none⟩)) ∧ Pile B' lf (ltK key) (putAll (ltK key) [] (0 : Nat) pre) (pre.length : Nat) Sk W ∧ ¬ Sk Kb ∧ (∀ k, Sk k → k = B' ∨ w5.heap.size ≤ k) ∧ w5.heap.size ≤ W.heap.size)
      (fun _ _ _ _ => False) ?_ (fun _ _ => Part.false) (S := fun k => k = Kb ∨ k = B') hi ⟨_, rfl, hbK5, hPn5, hKB, fun k h => .inl h, Nat.le_refl _⟩ ?_ (fun x X => { tmps := #[.pointer (some ⟨B, 0, none⟩), .func (.func ff) #[] capf, undef, .pointer (some ⟨w.heap.size, 0, none⟩), .int .i64 0, .int .i64 (L.length : Int), .pointer (some ⟨Kb, 0, none⟩), .pointer (some ⟨X, 0, none⟩), .pointer (some ⟨B, 0, none⟩), .bool false, .bool false, .func (.func ff) #[] capf, .bool false, .bool false, .pointer (some ⟨B, 0, none⟩), .int .i64 (L.length : Int), .pointer (some ⟨B, 0, none⟩), .pointer (some ⟨B, 0, none⟩), .pointer (some ⟨B, 0, none⟩), .func (.func lf) #[] #[], .pointer (some ⟨B', 0, none⟩), .pointer (some ⟨B, 0, none⟩), .func (.func g4) #[] l4, .func (.func 37) #[] #[.pointer (some ⟨w.heap.size, 0, none⟩)], .func (.func g5) #[] l5, .agg #[.int .i64 x.1, .int .i64 x.2], undef, undef, undef, undef, undef, undef, undef, undef, undef, undef, undef, undef, undef], defers := [] }) (fun x => .cells #[.int .i64 x.1, .int .i64 x.2] 27) ?assigny ?bodyy ?doney ?stopy
    case assigny =>
      intro l x W K hK
      gi_wp2
      exact hK
    case bodyy =>
      rintro lr pre x S2 W X hpre ⟨Sk, rfl, hbk, hpk, hnk, hnew, hWs⟩ hX _ _
      have e1 : W.cell? ⟨X, 0, none⟩ = some (.int .i64 x.1) := by simp [World.cell?, hX]
      have e2 : W.cell? ⟨X, 1, none⟩ = some (.int .i64 x.2) := by simp [World.cell?, hX]
      have hcK := hbk.cell
      have hpl : pre.length < xs.length := by have := hpre.length_le; simp at this; omega
      have HLen : Hid ((putAll (ltK key) [] (0 : Nat) pre).length = pre.length) := by
        show _ = _
        rw [putAll_length]; simp
      have HLt : Hid (∀ y ∈ putAll (ltK key) [] (0 : Nat) pre, y.2 < (pre.length : Int)) := by
        intro y hy
        have := putAll_lt (ltK key) pre [] (0 : Nat) (fun y h => by cases h) y hy
        simp at this; omega
      gi_wp2_with fail
      refine ⟨trivial, rfl, (put_one hl B' _ pre.length (by omega) HLt.out Sk (by rw [HLen.out]; omega) W x.1 x.2 hpk).mono ?_⟩
      rintro e W3 ⟨rfl, S3, p3, cc3, gg3⟩
      have p4 : Pile B' lf (ltK key) (putAll (ltK key) [] (0 : Nat) (pre ++ [x])) ((pre ++ [x]).length : Nat) S3 W3 := by
        rw [putAll_append, List.length_append, List.length_singleton]
        have : ((0 : Nat) : Int) + (pre.length : Int) = (pre.length : Int) := by omega
        rw [this]
        exact p3
      have hk3 : ¬ S3 Kb := fun h => by
        rcases gg3 Kb h with h1 | h1
        · exact hnk h1
        · have := hbk.lt; omega
      have hsz : w5.heap.size ≤ W.heap.size := hWs
      have hn3 : ∀ k, S3 k → k = B' ∨ w5.heap.size ≤ k := fun k h => by
        rcases gg3 k h with h1 | h1
        · exact hnew k h1
        · exact .inr (Nat.le_trans hsz h1)
      have HX3 : Hid (∃ S', Chg (fun k => k = Kb ∨ Sk k) W W3 ∧ Grew (fun k => k = Kb ∨ Sk k) W S' ∧ (∃ Sk, S' = (fun k => k = Kb ∨ Sk k) ∧ Boxed W3 Kb 24 (.pointer (some ⟨B', 0, none⟩)) ∧ Pile B' lf (ltK key) (putAll (ltK key) [] (0 : Nat) (pre ++ [x])) ((pre ++ [x]).length : Nat) Sk W3 ∧ ¬ Sk Kb ∧ (∀ k, Sk k → k = B' ∨ w5.heap.size ≤ k) ∧ w5.heap.size ≤ W3.heap.size)) :=
        ⟨_, cc3.mono (fun _ => .inr), fun k h => by
          rcases h with h | h
          · exact .inl (.inl h)
          · rcases gg3 k h with h1 | h1
            · exact .inl (.inr h1)
            · exact .inr h1, S3, rfl, cc3.boxed hbk hnk, p4, hk3, hn3, Nat.le_trans hsz cc3.size⟩
      clear p3 p4
      gi_wp2
      exact HX3.out
    case stopy =>
      rintro d c pre S' W _ _ h
      exact h.elim
    case doney =>
      rintro d S' W hd ⟨Sk, rfl, hbk, hpk, hnk, hnew, hWs⟩ hI' hc9 hg9 hK9 hnd
      have hS5 : ∀ k, S k → ¬ (False ∨ k = Kb ∨ k = B') := fun k h hh => by
        have h1 := hSl k h
        have h2 := c1.size
        rcases hh with hh | hh | hh
        · exact hh
        · omega
        · omega
      have hP9 := (Pile.part _ _ _ _ _).chg hP5 hc9 hS5
      obtain ⟨v0, d0, rfl, hb0, hr0, hg0⟩ := hP9
      obtain ⟨M, hM⟩ : ∃ M, putAll (ltK key) [] (0 : Nat) xs = M := ⟨_, rfl⟩
      rw [hM] at hpk
      have HML : Hid (M.length = xs.length) := by show _ = _; rw [← hM, putAll_length]; simp
      have HMlt : Hid (∀ y ∈ M, y.2 < (M.length : Int)) := fun y hy => by
        rw [← hM] at hy
        have := putAll_lt (ltK key) xs [] (0 : Nat) (fun y h => by cases h) y hy
        rw [HML.out]
        simp at this; omega
      have HMx : Hid (M.map Prod.fst = xs) := by
        show _ = _
        rw [← hM]
        have hso : xs.Pairwise (fun a b => key a ≤ key b) := by rw [← HXS.out]; exact (pile_sorted hg0).filter _
        simpa using putAll_sorted key xs hso [] (0 : Nat) (fun y h => by cases h) (fun y h => by cases h)
      have hpk' := hpk
      obtain ⟨v9, d9, rfl, hb9, hr9, hg9'⟩ := hpk'
      obtain ⟨pv, cv, rfl⟩ := prow_slice hr9
      have hcK := hbk.cell
      obtain ⟨x0, x1, x2⟩ := hb9.cells
      obtain ⟨y0, y1, y2⟩ := hb0.cells
      have z0 := hb0.frozen 0
      have z1 := hb0.frozen 1
      have z2 := hb0.frozen 2
      have hBB : B ≠ B' := fun e => hS5 B (.inl rfl) (.inr (.inr e))
      have hBK : B ≠ Kb := fun e => hS5 B (.inl rfl) (.inr (.inl e))
      clear hM
      gi_wp2_with fail
      have hd' : w5.heap.size ≤ d := hd
      have hBl : B < w.heap.size := hSl B (.inl rfl)
      have hws : w.heap.size ≤ w5.heap.size := Nat.le_trans c1.size c15.size
      have hw1s := c1.size
      have c910 : Chg (fun k => k = B) W (((W.setCell ⟨B, 0, none⟩ (.func (.func lf) #[] #[])).setCell ⟨B, 1, none⟩ (.slice pv d9.length cv)).setCell ⟨B, 2, none⟩ (.int .i64 (xs.length : Int))) :=
        (((Chg.refl (fun k => k = B) W).setCell (p := ⟨B, 0, none⟩) (.inl rfl) _).setCell (p := ⟨B, 1, none⟩) (.inl rfl) _).setCell (p := ⟨B, 2, none⟩) (.inl rfl) _
      have hb10 : PBox (((W.setCell ⟨B, 0, none⟩ (.func (.func lf) #[] #[])).setCell ⟨B, 1, none⟩ (.slice pv d9.length cv)).setCell ⟨B, 2, none⟩ (.int .i64 (xs.length : Int))) B lf (.slice pv d9.length cv) (xs.length : Int) := by
        have h9 : W.heap[B]? = _ := hb0
        unfold PBox
        simp only [World.setCell, Array.getElem?_modify, if_true, h9]
        simp
      generalize (((W.setCell ⟨B, 0, none⟩ (.func (.func lf) #[] #[])).setCell ⟨B, 1, none⟩ (.slice pv d9.length cv)).setCell ⟨B, 2, none⟩ (.int .i64 (xs.length : Int))) = w10 at c910 hb10 ⊢
      have hrB : ∀ k, (Value.slice pv d9.length cv).ownBlock = some k → w5.heap.size ≤ k ∨ k = B' := fun k e => by
        rcases hnew k (.inr e) with h | h
        · exact .inr h
        · exact .inl h
      have hk10 := (Pile.part _ _ _ _ _).chg hpk c910 (fun k h1 h2 => by
        rcases hnew k h1 with h | h
        · omega
        · omega)
      have hr10 := hr9.chg c910 (fun k h1 h2 => by
        rcases hrB k h1 with h | h
        · omega
        · omega)
      have hK10 : w10.heap[d]? = some (.deferred (some [])) := (c910.block d (Array.getElem?_eq_some_iff.1 hK9).1 (by omega)).trans hK9
      refine ⟨trivial, rfl, (len_seq B' M _ _ _ hk10).mono ?_⟩
      rintro e w10' ⟨rfl, hw10⟩
      subst hw10
      have HF : Hid (∃ S' M, Ending.returned (.int .i64 ((L.length : Int) - (xs.length : Int))) = .returned (.int .i64 ((L.length : Int) - (M.length : Int))) ∧ M.map Prod.fst = (L.map Prod.fst).filter (fun x => !p x) ∧ Pile B lf (ltK key) M M.length S' (w10'.putObj d (.deferred none)) ∧ (∀ y ∈ M, y.2 < (M.length : Int)) ∧ Chg (fun k => k = B ∨ v0.ownBlock = some k) w (w10'.putObj d (.deferred none)) ∧ Grew (fun k => k = B ∨ v0.ownBlock = some k) w S') := by
        have cd := Chg.put1 w10' d (.deferred none)
        refine ⟨fun k => k = B ∨ (Value.slice pv d9.length cv).ownBlock = some k, M, by rw [HML.out], HMx.out.trans HXS.out.symm, ?_, HMlt.out, ?_, ?_⟩
        · rw [HML.out]
          exact ⟨_, d9, rfl, cd.same hb10 (by omega), hr10.chg cd (fun k h1 h2 => hnd (.inr (.inr (h2 ▸ h1)))), hg9'⟩
        · have e1 : Chg No w w5 := c1.trans c15 (Grew.refl _ _)
          have e2 : Chg (fun k => k = B ∨ v0.ownBlock = some k) w W := (e1.mono (fun _ h => h.elim)).trans hc9 (fun k h => by
            rcases h with h | h | h
            · exact h.elim
            · exact .inr (by omega)
            · exact .inr (by omega))
          exact (e2.trans c910 (fun k h => .inl (.inl h))).trans cd (fun k h => .inr (by omega))
        · rintro k (h | h)
          · exact .inl (.inl h)
          · rcases hrB k h with h1 | h1
            · exact .inr (by omega)
            · exact .inr (by omega)
      rw [HML.out]
      clear hk10 hr10 hb10 hb9 hr9 hg9' hb0 hr0 hg0 hpk
      gi_wp2
      refine ⟨by simp, .inl ⟨_, _, rfl, run_takeDeferred hK10, ?_⟩⟩
      obtain ⟨S9, M9, h9, hrest⟩ := HF.out
      exact ⟨_, results_tmp (t := 4) rfl _ _ _, S9, M9, h9, hrest⟩
    · intro pre
      exact ⟨by
        rintro S2 W ⟨Sk, rfl, hbk, hpk, hnk, hnew, hWs⟩ k (rfl | h)
        · exact hbk.lt
        · exact (Pile.part _ _ _ _ _).lt hpk k h, by
        rintro S2 W W' ⟨Sk, rfl, hbk, hpk, hnk, hnew, hWs⟩ hs hk
        exact ⟨Sk, rfl, (hk _ (.inl rfl)).trans hbk, (Pile.part _ _ _ _ _).kept hpk hs (fun k h => hk k (.inr h)), hnk, hnew, Nat.le_trans hWs hs⟩⟩
    · rintro k hk (h | h)
      · rcases hD5 k hk with h1 | h1 <;> omega
      · rcases hD5 k hk with h1 | h1 <;> omega
  · have F : ∃ Kb B' w3, Kb = w1.heap.size ∧ B' = w1.heap.size + 1 ∧ w3 = ((w1.alloc (.cells #[.pointer (some ⟨w1.heap.size + 1, 0, none⟩)] 24)).alloc (.cells #[.func (.func lf) #[] #[], .slice none 0 0, .int .i64 0] 62)).drew := ⟨_, _, _, rfl, rfl, rfl⟩
    obtain ⟨Kb, B', w3, hKb, hB', hw3⟩ := F
    have hbK : Boxed w3 Kb 24 (.pointer (some ⟨B', 0, none⟩)) := by
      rw [hKb, hB', hw3]
      exact (Boxed.new w1 24 (.pointer (some ⟨w1.heap.size + 1, 0, none⟩))).alloc _
    have hPn : Pile B' lf (ltK key) [] 0 (fun k => k = B') w3 := by
      refine ⟨.slice none 0 0, [], by funext k; simp [Value.ownBlock], ?_, World.ownsRow_nil _ _ _ _, good_nil _⟩
      rw [hB', hw3]
      have := World.alloc_heap_new (w1.alloc (.cells #[.pointer (some ⟨w1.heap.size + 1, 0, none⟩)] 24)) (.cells #[.func (.func lf) #[] #[], .slice none 0 0, .int .i64 0] 62)
      rw [World.size_alloc] at this
      exact this
    have c13 : Chg No w1 w3 := by rw [hw3]; exact (((Chg.refl _ w1).alloc _).alloc _).drew
    have hKB : Kb ≠ B' := by omega
    have hKn : w1.heap.size ≤ Kb := by omega
    have hBn : w1.heap.size ≤ B' := by omega
    rw [← hw3, ← hB', ← hKb]
    clear hw3 hKb
    have bf3 := c13.boxed bf (fun h => h)
    have hP3 := (Pile.part _ _ _ _ _).chg hP1 c13 (fun _ _ h => h)
    have hf3 := hf1.no c13
    clear hB' hq0 hS hPw k0 k1 hc
    gi_wp2_with fail
    refine ⟨trivial, rfl, (all_seq hl (bef_ord key) B L puts S hlen _ hP3).mono ?_⟩
    rintro e w4 ⟨g4, l4, D4, rfl, s4, c4, d4⟩
    have hf4 := not_fun (hf3.no c4) w.heap.size (c4.boxed bf3 (fun h => h)) (fun h => by have := hDl _ h; omega)
    gi_wp2_with fail
    refine ⟨trivial, rfl, (filter_seq w4 s4 hf4 (fun k h1 h2 => ?_)).mono ?_⟩
    · have hs := c1.size
      have hs2 := c13.size
      have hb1 := bf.lt
      rcases d4 k h1 with h | h
      · rcases h2 with h3 | h3
        · have := hSl k h; omega
        · exact hD k h3 h
      · rcases h2 with h3 | h3
        · omega
        · have := hDl k h3; omega
    rintro e w5 ⟨g5, l5, D5, rfl, s5, c5, d5⟩
    have c35 := c4.trans c5 (Grew.refl _ _)
    have c15 := c13.trans c35 (Grew.refl _ _)
    have hbK5 := c35.boxed hbK (fun h => h)
    have hPn5 := (Pile.part _ _ _ _ _).chg hPn c35 (fun _ _ h => h)
    have hP5 := (Pile.part _ _ _ _ _).chg hP3 c35 (fun _ _ h => h)
    have hD5 : ∀ k, D5 k → k < w1.heap.size ∨ w3.heap.size ≤ k := fun k h => by
      rcases d5 k h with h1 | (h1 | h1) | h1
      · rcases d4 k h1 with h2 | h2
        · have := hSl k h2; have := c1.size; omega
        · exact .inr h2
      · have := bf.lt; omega
      · have := hDl k h1; have := c1.size; omega
      · have := c4.size; omega
    have hK3 := hbK.lt
    have hB3 : B' < w3.heap.size := (Pile.part _ _ _ _ _).lt hPn B' rfl
    obtain ⟨xs, hxs⟩ : ∃ xs, (L.map Prod.fst).filter (fun x => !p x) = xs := ⟨_, rfl⟩
    have HXS : Hid ((L.map Prod.fst).filter (fun x => !p x) = xs) := hxs
    rw [hxs] at s5
    have hxl : xs.length ≤ L.length := by rw [← hxs]; exact Nat.le_trans (List.length_filter_le _ _) (by simp)
    clear hxs d5 d4 s4 hf4 c4 c5 c35 hP3 hf3 bf3 hPn hbK
    obtain ⟨I0, it, hi, eg⟩ := s5
    gi_wp2
    refine wpIn_rangeX (gf := g5) (lb := l5) rfl eg it (fun _ => rfl)
      (fun pre S2 W => ∃ Sk, S2 = (fun k => k = Kb ∨ Sk k) ∧ Boxed W Kb 24 (.pointer (some ⟨B', 0, none⟩)) ∧ Pile B' lf (ltK key) (putAll (ltK key) [] (0 : Nat) pre) (pre.length : Nat) Sk W ∧ ¬ Sk Kb ∧ (∀ k, Sk k → k = B' ∨ w5.heap.size ≤ k) ∧ w5.heap.size ≤ W.heap.size)
      (fun _ _ _ _ => False) ?_ (fun _ _ => Part.false) (S := fun k => k = Kb ∨ k = B') hi ⟨_, rfl, hbK5, hPn5, hKB, fun k h => .inl h, Nat.le_refl _⟩ ?_ (fun x X => { tmps := #[.pointer (some ⟨B, 0, none⟩), .func (.func ff) #[] capf, undef, .pointer (some ⟨w.heap.size, 0, none⟩), .int .i64 0, .int .i64 (L.length : Int), .pointer (some ⟨Kb, 0, none⟩), .pointer (some ⟨X, 0, none⟩), .pointer (some ⟨B, 0, none⟩), .bool false, .bool false, .func (.func ff) #[] capf, .bool false, .bool false, .pointer (some ⟨B, 0, none⟩), .int .i64 (L.length : Int), .pointer (some ⟨B, 0, none⟩), .pointer (some ⟨B, 0, none⟩), .pointer (some ⟨B, 0, none⟩), .func (.func lf) #[] #[], .pointer (some ⟨B', 0, none⟩), .pointer (some ⟨B, 0, none⟩), .func (.func g4) #[] l4, .func (.func 37) #[] #[.pointer (some ⟨w.heap.size, 0, none⟩)], .func (.func g5) #[] l5, .agg #[.int .i64 x.1, .int .i64 x.2], undef, undef, undef, undef, undef, undef, undef, undef, undef, undef, undef, undef, undef], defers := [] }) (fun x => .cells #[.int .i64 x.1, .int .i64 x.2] 27) ?assignz ?bodyz ?donez ?stopz
    case assignz =>
      intro l x W K hK
      gi_wp2
      exact hK
    case bodyz =>
      rintro lr pre x S2 W X hpre ⟨Sk, rfl, hbk, hpk, hnk, hnew, hWs⟩ hX _ _
      have e1 : W.cell? ⟨X, 0, none⟩ = some (.int .i64 x.1) := by simp [World.cell?, hX]
      have e2 : W.cell? ⟨X, 1, none⟩ = some (.int .i64 x.2) := by simp [World.cell?, hX]
      have hcK := hbk.cell
      have hpl : pre.length < xs.length := by have := hpre.length_le; simp at this; omega
      have HLen : Hid ((putAll (ltK key) [] (0 : Nat) pre).length = pre.length) := by
        show _ = _
        rw [putAll_length]; simp
      have HLt : Hid (∀ y ∈ putAll (ltK key) [] (0 : Nat) pre, y.2 < (pre.length : Int)) := by
        intro y hy
        have := putAll_lt (ltK key) pre [] (0 : Nat) (fun y h => by cases h) y hy
        simp at this; omega
      gi_wp2_with fail
      refine ⟨trivial, rfl, (put_one hl B' _ pre.length (by omega) HLt.out Sk (by rw [HLen.out]; omega) W x.1 x.2 hpk).mono ?_⟩
      rintro e W3 ⟨rfl, S3, p3, cc3, gg3⟩
      have p4 : Pile B' lf (ltK key) (putAll (ltK key) [] (0 : Nat) (pre ++ [x])) ((pre ++ [x]).length : Nat) S3 W3 := by
        rw [putAll_append, List.length_append, List.length_singleton]
        have : ((0 : Nat) : Int) + (pre.length : Int) = (pre.length : Int) := by omega
        rw [this]
        exact p3
      have hk3 : ¬ S3 Kb := fun h => by
        rcases gg3 Kb h with h1 | h1
        · exact hnk h1
        · have := hbk.lt; omega
      have hsz : w5.heap.size ≤ W.heap.size := hWs
      have hn3 : ∀ k, S3 k → k = B' ∨ w5.heap.size ≤ k := fun k h => by
        rcases gg3 k h with h1 | h1
        · exact hnew k h1
        · exact .inr (Nat.le_trans hsz h1)
      have HX3 : Hid (∃ S', Chg (fun k => k = Kb ∨ Sk k) W W3 ∧ Grew (fun k => k = Kb ∨ Sk k) W S' ∧ (∃ Sk, S' = (fun k => k = Kb ∨ Sk k) ∧ Boxed W3 Kb 24 (.pointer (some ⟨B', 0, none⟩)) ∧ Pile B' lf (ltK key) (putAll (ltK key) [] (0 : Nat) (pre ++ [x])) ((pre ++ [x]).length : Nat) Sk W3 ∧ ¬ Sk Kb ∧ (∀ k, Sk k → k = B' ∨ w5.heap.size ≤ k) ∧ w5.heap.size ≤ W3.heap.size)) :=
        ⟨_, cc3.mono (fun _ => .inr), fun k h => by
          rcases h with h | h
          · exact .inl (.inl h)
          · rcases gg3 k h with h1 | h1
            · exact .inl (.inr h1)
            · exact .inr h1, S3, rfl, cc3.boxed hbk hnk, p4, hk3, hn3, Nat.le_trans hsz cc3.size⟩
      clear p3 p4
      gi_wp2
      exact HX3.out
    case stopz =>
      rintro d c pre S' W _ _ h
      exact h.elim
    case donez =>
      rintro d S' W hd ⟨Sk, rfl, hbk, hpk, hnk, hnew, hWs⟩ hI' hc9 hg9 hK9 hnd
      have hS5 : ∀ k, S k → ¬ (False ∨ k = Kb ∨ k = B') := fun k h hh => by
        have h1 := hSl k h
        have h2 := c1.size
        rcases hh with hh | hh | hh
        · exact hh
        · omega
        · omega
      have hP9 := (Pile.part _ _ _ _ _).chg hP5 hc9 hS5
      obtain ⟨v0, d0, rfl, hb0, hr0, hg0⟩ := hP9
      obtain ⟨M, hM⟩ : ∃ M, putAll (ltK key) [] (0 : Nat) xs = M := ⟨_, rfl⟩
      rw [hM] at hpk
      have HML : Hid (M.length = xs.length) := by show _ = _; rw [← hM, putAll_length]; simp
      have HMlt : Hid (∀ y ∈ M, y.2 < (M.length : Int)) := fun y hy => by
        rw [← hM] at hy
        have := putAll_lt (ltK key) xs [] (0 : Nat) (fun y h => by cases h) y hy
        rw [HML.out]
        simp at this; omega
      have HMx : Hid (M.map Prod.fst = xs) := by
        show _ = _
        rw [← hM]
        have hso : xs.Pairwise (fun a b => key a ≤ key b) := by rw [← HXS.out]; exact (pile_sorted hg0).filter _
        simpa using putAll_sorted key xs hso [] (0 : Nat) (fun y h => by cases h) (fun y h => by cases h)
      have hpk' := hpk
      obtain ⟨v9, d9, rfl, hb9, hr9, hg9'⟩ := hpk'
      obtain ⟨pv, cv, rfl⟩ := prow_slice hr9
      have hcK := hbk.cell
      obtain ⟨x0, x1, x2⟩ := hb9.cells
      obtain ⟨y0, y1, y2⟩ := hb0.cells
      have z0 := hb0.frozen 0
      have z1 := hb0.frozen 1
      have z2 := hb0.frozen 2
      have hBB : B ≠ B' := fun e => hS5 B (.inl rfl) (.inr (.inr e))
      have hBK : B ≠ Kb := fun e => hS5 B (.inl rfl) (.inr (.inl e))
      clear hM
      gi_wp2_with fail
      have hd' : w5.heap.size ≤ d := hd
      have hBl : B < w.heap.size := hSl B (.inl rfl)
      have hws : w.heap.size ≤ w5.heap.size := Nat.le_trans c1.size c15.size
      have hw1s := c1.size
      have c910 : Chg (fun k => k = B) W (((W.setCell ⟨B, 0, none⟩ (.func (.func lf) #[] #[])).setCell ⟨B, 1, none⟩ (.slice pv d9.length cv)).setCell ⟨B, 2, none⟩ (.int .i64 (xs.length : Int))) :=
        (((Chg.refl (fun k => k = B) W).setCell (p := ⟨B, 0, none⟩) (.inl rfl) _).setCell (p := ⟨B, 1, none⟩) (.inl rfl) _).setCell (p := ⟨B, 2, none⟩) (.inl rfl) _
      have hb10 : PBox (((W.setCell ⟨B, 0, none⟩ (.func (.func lf) #[] #[])).setCell ⟨B, 1, none⟩ (.slice pv d9.length cv)).setCell ⟨B, 2, none⟩ (.int .i64 (xs.length : Int))) B lf (.slice pv d9.length cv) (xs.length : Int) := by
        have h9 : W.heap[B]? = _ := hb0
        unfold PBox
        simp only [World.setCell, Array.getElem?_modify, if_true, h9]
        simp
      generalize (((W.setCell ⟨B, 0, none⟩ (.func (.func lf) #[] #[])).setCell ⟨B, 1, none⟩ (.slice pv d9.length cv)).setCell ⟨B, 2, none⟩ (.int .i64 (xs.length : Int))) = w10 at c910 hb10 ⊢
      have hrB : ∀ k, (Value.slice pv d9.length cv).ownBlock = some k → w5.heap.size ≤ k ∨ k = B' := fun k e => by
        rcases hnew k (.inr e) with h | h
        · exact .inr h
        · exact .inl h
      have hk10 := (Pile.part _ _ _ _ _).chg hpk c910 (fun k h1 h2 => by
        rcases hnew k h1 with h | h
        · omega
        · omega)
      have hr10 := hr9.chg c910 (fun k h1 h2 => by
        rcases hrB k h1 with h | h
        · omega
        · omega)
      have hK10 : w10.heap[d]? = some (.deferred (some [])) := (c910.block d (Array.getElem?_eq_some_iff.1 hK9).1 (by omega)).trans hK9
      refine ⟨trivial, rfl, (len_seq B' M _ _ _ hk10).mono ?_⟩
      rintro e w10' ⟨rfl, hw10⟩
      subst hw10
      have HF : Hid (∃ S' M, Ending.returned (.int .i64 ((L.length : Int) - (xs.length : Int))) = .returned (.int .i64 ((L.length : Int) - (M.length : Int))) ∧ M.map Prod.fst = (L.map Prod.fst).filter (fun x => !p x) ∧ Pile B lf (ltK key) M M.length S' (w10'.putObj d (.deferred none)) ∧ (∀ y ∈ M, y.2 < (M.length : Int)) ∧ Chg (fun k => k = B ∨ v0.ownBlock = some k) w (w10'.putObj d (.deferred none)) ∧ Grew (fun k => k = B ∨ v0.ownBlock = some k) w S') := by
        have cd := Chg.put1 w10' d (.deferred none)
        refine ⟨fun k => k = B ∨ (Value.slice pv d9.length cv).ownBlock = some k, M, by rw [HML.out], HMx.out.trans HXS.out.symm, ?_, HMlt.out, ?_, ?_⟩
        · rw [HML.out]
          exact ⟨_, d9, rfl, cd.same hb10 (by omega), hr10.chg cd (fun k h1 h2 => hnd (.inr (.inr (h2 ▸ h1)))), hg9'⟩
        · have e1 : Chg No w w5 := c1.trans c15 (Grew.refl _ _)
          have e2 : Chg (fun k => k = B ∨ v0.ownBlock = some k) w W := (e1.mono (fun _ h => h.elim)).trans hc9 (fun k h => by
            rcases h with h | h | h
            · exact h.elim
            · exact .inr (by omega)
            · exact .inr (by omega))
          exact (e2.trans c910 (fun k h => .inl (.inl h))).trans cd (fun k h => .inr (by omega))
        · rintro k (h | h)
          · exact .inl (.inl h)
          · rcases hrB k h with h1 | h1
            · exact .inr (by omega)
            · exact .inr (by omega)
      rw [HML.out]
      clear hk10 hr10 hb10 hb9 hr9 hg9' hb0 hr0 hg0 hpk
      gi_wp2
      refine ⟨by simp, .inl ⟨_, _, rfl, run_takeDeferred hK10, ?_⟩⟩
      obtain ⟨S9, M9, h9, hrest⟩ := HF.out
      exact ⟨_, results_tmp (t := 4) rfl _ _ _, S9, M9, h9, hrest⟩
    · intro pre
      exact ⟨by
        rintro S2 W ⟨Sk, rfl, hbk, hpk, hnk, hnew, hWs⟩ k (rfl | h)
        · exact hbk.lt
        · exact (Pile.part _ _ _ _ _).lt hpk k h, by
        rintro S2 W W' ⟨Sk, rfl, hbk, hpk, hnk, hnew, hWs⟩ hs hk
        exact ⟨Sk, rfl, (hk _ (.inl rfl)).trans hbk, (Pile.part _ _ _ _ _).kept hpk hs (fun k h => hk k (.inr h)), hnk, hnew, Nat.le_trans hWs hs⟩⟩
    · rintro k hk (h | h)
      · rcases hD5 k hk with h1 | h1 <;> omega
      · rcases hD5 k hk with h1 | h1 <;> omega
end Go.Proofs.Ytaolebadamfodaa.T
