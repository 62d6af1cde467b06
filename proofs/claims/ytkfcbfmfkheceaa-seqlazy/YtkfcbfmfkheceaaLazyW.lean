/-
  SeqLazy answers true at every list and number, and turns nothing that lay: the functions count how often they are asked.
-/
import Derived.Test.YtkfcbfmfkheceaaAwake
namespace Go.Proofs.Ytkfcbfmfkheceaa
open Go.RowKit Go.Shelf Go.SeqLib
attribute [local go_sem] Oper.semAt_some

theorem wrap_succ (k : Nat) : wrap64 (wrap64 (k : Int) + 1) = wrap64 ((k + 1 : Nat) : Int) := by unfold wrap64; omega
theorem wrap_small (k : Nat) (h : k ≤ 1000000) : wrap64 (k : Int) = k := by unfold wrap64; omega

/-- A counter's box. -/
def Cnt (B k : Nat) (W : World) : Prop := Boxed W B 3 (.int .i64 (wrap64 (k : Int)))

theorem cnt_of {B k : Nat} {W : World} (hk : k ≤ 1000000) (h : Boxed W B 3 (.int .i64 (k : Int))) : Cnt B k W := by unfold Cnt; rw [wrap_small k hk]; exact h
theorem cnt_is {B k : Nat} {W : World} (hk : k ≤ 1000000) (h : Cnt B k W) : Boxed W B 3 (.int .i64 (k : Int)) := by unfold Cnt at h; rw [wrap_small k hk] at h; exact h

set_option maxHeartbeats 1000000 in
theorem lazy1_fun (B : Nat) : Fun1 Try.prog 21 #[.pointer (some ⟨B, 0, none⟩)] (fun x : Int => .int .i64 x) (fun x => .int .i64 (wrap64 (x + 1))) (fun k => k = B) (Cnt B) := {
  lt := by rintro k W h b rfl; exact h.lt
  kept := fun h _ hk => (hk _ rfl).trans h
  runs := by
    intro k x W h
    have h' : Boxed W B 3 (.int .i64 (wrap64 (k : Int))) := h
    have hc := h'.cell
    have hf := h'.frozen
    have HW : Hid (wrap64 (wrap64 (k : Int) + 1) = wrap64 ((k + 1 : Nat) : Int)) := wrap_succ k
    generalize wrap64 (k : Int) = q at *
    refine callsIn_of_wp Try.func21 rfl trivial ?_
    simp only [Try.ntmps21, List.size_toArray, List.length_cons, List.length_nil, Nat.reduceAdd, Nat.reduceSub, Array.replicate_succ, Array.replicate_zero, List.push_toArray, List.append_toArray, List.nil_append, List.cons_append]
    gi_wp2
    go_ret
    refine ⟨rfl, ?_, Chg.setCell (S := fun k => k = B) (Chg.refl _ W) (.inl rfl) _⟩
    unfold Cnt
    rw [← HW.out]
    exact h'.set _ }

set_option maxHeartbeats 1000000 in
theorem lazy2_fun (B : Nat) : Fun1 Try.prog 23 #[.pointer (some ⟨B, 0, none⟩)] (fun x : Int => .int .i64 x) (fun x => .bool ((fun _ => true) x)) (fun k => k = B) (Cnt B) := {
  lt := by rintro k W h b rfl; exact h.lt
  kept := fun h _ hk => (hk _ rfl).trans h
  runs := by
    intro k x W h
    have h' : Boxed W B 3 (.int .i64 (wrap64 (k : Int))) := h
    have hc := h'.cell
    have hf := h'.frozen
    have HW : Hid (wrap64 (wrap64 (k : Int) + 1) = wrap64 ((k + 1 : Nat) : Int)) := wrap_succ k
    generalize wrap64 (k : Int) = q at *
    refine callsIn_of_wp Try.func23 rfl trivial ?_
    simp only [Try.ntmps23, List.size_toArray, List.length_cons, List.length_nil, Nat.reduceAdd, Nat.reduceSub, Array.replicate_succ, Array.replicate_zero, List.push_toArray, List.append_toArray, List.nil_append, List.cons_append]
    gi_wp2
    go_ret
    refine ⟨rfl, ?_, Chg.setCell (S := fun k => k = B) (Chg.refl _ W) (.inl rfl) _⟩
    unfold Cnt
    rw [← HW.out]
    exact h'.set _ }

theorem Iter.say {gf : Nat} {lb : Array Value} {xs : List Int} {D M : Blk} {I0 : World → Prop} {I I' : List Int → World → Prop} (it : Iter Try.prog gf lb encI xs D M I0 I)
    (h : ∀ pre W, I pre W → I' pre W) (hk : ∀ {pre W W'}, I' pre W → W.heap.size ≤ W'.heap.size → (∀ k, D k → W'.heap[k]? = W.heap[k]?) → I' pre W') : Iter Try.prog gf lb encI xs D M I0 I' := {
  sub := it.sub
  lt0 := it.lt0
  kept0 := it.kept0
  kept := hk
  runs := fun l J Jx S W pJ pJx hY hI hJ hDS => (it.runs l J Jx S W pJ pJx hY hI hJ hDS).mono fun e W' h' => by
    obtain ⟨hv, ys, S', hj, hi, c, g⟩ := h'
    exact ⟨hv, ys, S', hj, h ys W' hi, c, g⟩ }

/-- What lies ahead of a walk through the sequence, when each function was asked k times. -/
def LazyAt (gs : Nat) (lbs : Array Value) (Io : World → Prop) (Ba Bt B1 B2 B3 B4 k : Nat) (W : World) : Prop :=
  Boxed W B3 26 (.func (.func 37) #[] #[.pointer (some ⟨B1, 0, none⟩), .pointer (some ⟨B2, 0, none⟩)]) ∧ Boxed W B4 42 (.func (.func 23) #[] #[.pointer (some ⟨Bt, 0, none⟩)]) ∧
  (Boxed W B1 26 (.func (.func gs) #[] lbs) ∧ Boxed W B2 40 (.func (.func 21) #[] #[.pointer (some ⟨Ba, 0, none⟩)]) ∧ Io W ∧ Cnt Ba k W) ∧ Cnt Bt k W

theorem lazy_iter {gs : Nat} {lbs : Array Value} {xs : List Int} {Do : Blk} {Io : World → Prop} (it : Iter Try.prog gs lbs encI xs Do No Io (fun _ => Io)) (eg : ∀ args w, (callFunc gs args).run Try.prog w = .ok (.enter gs args) w)
    (Ba Bt B1 B2 B3 B4 k : Nat) (o : Ba < Bt ∧ Bt < B1 ∧ B1 < B2 ∧ B2 < B3 ∧ B3 < B4) (hd : ∀ b, Do b → Bt < b ∧ b < B1) :
    Iter Try.prog 38 #[.pointer (some ⟨B3, 0, none⟩), .pointer (some ⟨B4, 0, none⟩)] encI ((xs.map fun x => wrap64 (x + 1)).filter fun _ => true) (fun b => b = B3 ∨ b = B4 ∨ (b = B1 ∨ b = B2 ∨ Do b ∨ b = Ba) ∨ b = Bt) (fun b => (No b ∨ b = Ba) ∨ b = Bt)
      (LazyAt gs lbs Io Ba Bt B1 B2 B3 B4 k) (fun ys => LazyAt gs lbs Io Ba Bt B1 B2 B3 B4 (k + ys.length)) := by
  have hdo : ∀ b, Do b → b ≠ B1 ∧ b ≠ B2 ∧ b ≠ Ba ∧ b ≠ Bt ∧ b ≠ B3 ∧ b ≠ B4 := fun b hb => by have := hd b hb; omega
  have m := map1 it eg (lazy1_fun Ba) (enters_of Try.func21 (by kernel_rfl) rfl) k B1 B2 (by omega) (fun h => (hdo _ h).1 rfl) (fun h => (hdo _ h).2.1 rfl) (by omega) (by omega) (fun b hb h => (hdo b hb).2.2.1 h)
  have f := filter1 m (enters_of Try.func37 (by kernel_rfl) rfl) (lazy2_fun Bt) (enters_of Try.func23 (by kernel_rfl) rfl) k B3 B4 (by omega)
    (by rintro (h | h | h | h)
        · omega
        · omega
        · exact (hdo _ h).2.2.2.2.1 rfl
        · omega)
    (by rintro (h | h | h | h)
        · omega
        · omega
        · exact (hdo _ h).2.2.2.2.2 rfl
        · omega) (by omega) (by omega)
    (by rintro b (h | h | h | h) h'
        · omega
        · omega
        · exact (hdo _ h).2.2.2.1 h'
        · omega)
  refine Iter.say f ?_ ?_
  · rintro pre W ⟨b3, b4, zs, hz, hp, ⟨b1, b2, us, hu, hm, i1, c1⟩, c2⟩
    have e1 : pre.length = zs.length := by rw [← hp]; simp
    have e2 : zs.length = us.length := by rw [← hm]; simp
    refine ⟨b3, b4, ⟨b1, b2, i1, ?_⟩, ?_⟩
    · rw [e1, e2]; exact c1
    · rw [e1]; exact c2
  · rintro pre W W' ⟨b3, b4, ⟨b1, b2, i1, c1⟩, c2⟩ hs hk
    exact ⟨(hk _ (.inl rfl)).trans b3, (hk _ (.inr (.inl rfl))).trans b4, ⟨(hk _ (.inr (.inr (.inl (.inl rfl))))).trans b1, (hk _ (.inr (.inr (.inl (.inr (.inl rfl)))))).trans b2, it.kept0 i1 hs (fun k h => hk k (.inr (.inr (.inl (.inr (.inr (.inl h))))))), (hk _ (.inr (.inr (.inl (.inr (.inr (.inr rfl))))))).trans c1⟩, (hk _ (.inr (.inr (.inr rfl)))).trans c2⟩

set_option maxRecDepth 100000 in
set_option maxHeartbeats 2000000 in
theorem lazy_long (p : Option Addr) (n cap : Nat) (hn : 60 < n) (early : Int) (w : World) : CallsIn Fence.wide 0 Try.prog 5 #[.slice p n cap, .int .i64 early] w fun e w' => e = .returned (.bool true) ∧ Chg No w w' := by
  have hn' : (60 : Int) < (n : Int) := by omega
  refine callsIn_of_wp Try.func5 rfl trivial ?_
  simp only [Try.ntmps5, List.size_toArray, List.length_cons, List.length_nil, Nat.reduceAdd, Nat.reduceSub, Array.replicate_succ, Array.replicate_zero, List.push_toArray, List.append_toArray, List.nil_append, List.cons_append]
  gi_wp2_with fail
  refine ⟨trivial, rfl, (awake_in _).mono ?_⟩
  rintro e w1 ⟨rfl, c1⟩
  gi_wp2
  go_ret
  exact ⟨rfl, c1⟩

set_option maxRecDepth 100000 in
set_option maxHeartbeats 2000000 in
theorem lazy_in (p : Option Addr) (cap : Nat) (zs : List Int) (hn : zs.length ≤ 60) (early : Int) (w : World) (hz : SlI w (.slice p zs.length cap) zs) : CallsIn Fence.wide 0 Try.prog 5 #[.slice p zs.length cap, .int .i64 early] w fun e w' => e = .returned (.bool true) ∧ Chg No w w' := by
  have hn' : ¬ (60 : Int) < (zs.length : Int) := by omega
  obtain ⟨W0, hW0⟩ : ∃ W0, (w.alloc (.cells #[.int .i64 0] 3)).alloc (.cells #[.int .i64 0] 3) = W0 := ⟨_, rfl⟩
  have c0 : Chg No w W0 := by rw [← hW0]; exact ((Chg.refl _ w).alloc _).alloc _
  have ba0 : Cnt w.heap.size 0 W0 := by rw [← hW0]; exact cnt_of (by omega) ((Boxed.new w 3 (.int .i64 0)).alloc _)
  have bt0 : Cnt (w.heap.size + 1) 0 W0 := by
    have := Boxed.new (w.alloc (.cells #[.int .i64 0] 3)) 3 (.int .i64 0)
    rw [World.size_alloc] at this
    rw [← hW0]; exact cnt_of (by omega) this
  have sz0 : W0.heap.size = w.heap.size + 2 := by rw [← hW0]; simp
  have z0 := hz.chg c0 (fun _ _ h => h)
  have HW0 : Hid ((w.alloc (.cells #[.int .i64 0] 3)).alloc (.cells #[.int .i64 0] 3) = W0) := hW0
  have HS0 : Hid (W0.heap.size = w.heap.size + 2) := sz0
  clear hW0 sz0
  refine callsIn_of_wp Try.func5 rfl trivial ?_
  simp only [Try.ntmps5, List.size_toArray, List.length_cons, List.length_nil, Nat.reduceAdd, Nat.reduceSub, Array.replicate_succ, Array.replicate_zero, List.push_toArray, List.append_toArray, List.nil_append, List.cons_append]
  gi_wp2_with fail
  rw [HW0.out]
  refine ⟨trivial, rfl, (of_seq _ zs (by omega) _ z0).mono ?_⟩
  rintro e w1 ⟨g1, l1, D1, rfl, s1, c1, d1⟩
  obtain ⟨Io, it, i1, eg⟩ := s1
  have l1' := it.lt0 i1
  gi_wp2_with fail
  refine ⟨trivial, rfl, (map_in g1 l1 21 _ w1).mono ?_⟩
  rintro e w2 ⟨rfl, hw2⟩
  have HW2 : Hid (w2 = (w1.alloc (.cells #[.func (.func g1) #[] l1] 26)).alloc (.cells #[.func (.func 21) #[] #[.pointer (some ⟨w.heap.size, 0, none⟩)]] 40)) := hw2
  clear hw2
  gi_wp2_with fail
  refine ⟨trivial, rfl, (filter_in 37 _ 23 _ w2).mono ?_⟩
  rintro e w3 ⟨rfl, hw3⟩
  have HS2 : Hid (w2.heap.size = w1.heap.size + 2) := by rw [HW2.out]; show _ = _; simp
  have c2 : Chg No w1 w2 := by rw [HW2.out]; exact ((Chg.refl _ w1).alloc _).alloc _
  have c3 : Chg No w2 w3 := by rw [hw3]; exact ((Chg.refl _ w2).alloc _).alloc _
  have L3 : LazyAt g1 l1 Io w.heap.size (w.heap.size + 1) w1.heap.size (w1.heap.size + 1) (w1.heap.size + 2) (w1.heap.size + 3) 0 w3 := by
    have e1 := (Boxed.new w1 26 (.func (.func g1) #[] l1)).alloc (.cells #[.func (.func 21) #[] #[.pointer (some ⟨w.heap.size, 0, none⟩)]] 40)
    have e2 := Boxed.new (w1.alloc (.cells #[.func (.func g1) #[] l1] 26)) 40 (.func (.func 21) #[] #[.pointer (some ⟨w.heap.size, 0, none⟩)])
    rw [World.size_alloc] at e2
    rw [← HW2.out] at e1 e2
    have e3 := (Boxed.new w2 26 (.func (.func 37) #[] #[.pointer (some ⟨w1.heap.size, 0, none⟩), .pointer (some ⟨w1.heap.size + 1, 0, none⟩)])).alloc (.cells #[.func (.func 23) #[] #[.pointer (some ⟨w.heap.size + 1, 0, none⟩)]] 42)
    have e4 := Boxed.new (w2.alloc (.cells #[.func (.func 37) #[] #[.pointer (some ⟨w1.heap.size, 0, none⟩), .pointer (some ⟨w1.heap.size + 1, 0, none⟩)]] 26)) 42 (.func (.func 23) #[] #[.pointer (some ⟨w.heap.size + 1, 0, none⟩)])
    rw [World.size_alloc] at e4
    rw [← hw3] at e3 e4
    rw [HS2.out] at e3 e4
    refine ⟨e3, e4, ⟨c3.boxed e1 (fun h => h), c3.boxed e2 (fun h => h), ?_, ?_⟩, ?_⟩
    · have c13 := c2.trans c3 (Grew.refl _ _)
      exact it.kept0 i1 c13.size (fun k hk => c13.block k (l1' k hk) (fun h => h))
    · exact ((c1.trans c2 (Grew.refl _ _)).trans c3 (Grew.refl _ _)).boxed ba0 (fun h => h)
    · exact ((c1.trans c2 (Grew.refl _ _)).trans c3 (Grew.refl _ _)).boxed bt0 (fun h => h)
  have it3 := fun k => lazy_iter it eg w.heap.size (w.heap.size + 1) w1.heap.size (w1.heap.size + 1) (w1.heap.size + 2) (w1.heap.size + 3) k (by have := c1.size; have := HS0.out; omega) (fun b hb => ⟨by have := d1 b hb; have := HS0.out; omega, l1' b hb⟩)
  have c03 : Chg No w w3 := ((c0.trans c1 (Grew.refl _ _)).trans c2 (Grew.refl _ _)).trans c3 (Grew.refl _ _)
  rw [HS2.out]
  have k1 := (cnt_is (by omega) L3.2.2.1.2.2.2).cell
  have k2 := (cnt_is (by omega) L3.2.2.2).cell
  rw [show ((0 : Nat) : Int) = 0 from rfl] at k1 k2
  clear hw3
  gi_wp2_with fail
  refine ⟨trivial, rfl, (low_in early 70 (by omega) (by omega) _).mono ?_⟩
  rintro e w3' ⟨rfl, rfl⟩
  obtain ⟨hlo1, hlo2⟩ := lowI_range early 70 (by omega) (by omega)
  generalize lowI early 70 = q at *
  obtain ⟨m, rfl⟩ := Int.eq_ofNat_of_zero_le hlo1
  gi_wp2_with fail
  obtain ⟨n, hm, hn1, hn2⟩ : ∃ n : Nat, (1 : Int) + (m : Int) = (n : Int) ∧ 1 ≤ n ∧ n ≤ 70 := ⟨1 + m, by omega, by omega, by omega⟩
  rw [hm]
  clear hm hlo1 hlo2
  have e38 := enters_of Try.func38 (by kernel_rfl) rfl
  obtain ⟨ys, hys⟩ : ∃ ys, Hid (ys = ((zs.map fun x => wrap64 (x + 1)).filter fun _ => true).take n) := ⟨_, rfl⟩
  have hyl : ys.length = min n zs.length := by rw [hys.out, List.filter_eq_self.2 (fun _ _ => rfl)]; simp
  refine ⟨trivial, rfl, (ints_in (it3 0) e38 n hn1 (by omega) _ L3 ys hys).mono ?_⟩
  rintro e w4 ⟨v4, rfl, r4, L4, c4⟩
  rw [Nat.zero_add] at L4
  obtain ⟨p4, q4, rfl⟩ := row_slice r4
  have HY : Hid (ys.length = min n zs.length) := hyl
  clear hyl k1 k2 L3
  obtain ⟨us, hus⟩ : ∃ us, Hid (us = (((zs.map fun x => wrap64 (x + 1)).filter fun _ => true).take n).take 100) := ⟨_, rfl⟩
  have HU : Hid (us.length = ys.length) := by
    show _ = _
    rw [hus.out, ← hys.out, List.length_take, HY.out]; omega
  have hcase : (zs.length < n ∧ ys.length = zs.length) ∨ (¬ zs.length < n ∧ ys.length = n) := by have := HY.out; omega
  have c04 : Chg No w w4 := c03.trans c4 (fun k h => .inr (by rcases h with (h | h) | h; exact h.elim; omega; omega))
  have sz4 : w1.heap.size + 4 ≤ w4.heap.size := by have := c3.size; have := c4.size; have := HS2.out; have := L4.2.1.lt; omega
  have k1 := (cnt_is (by omega) L4.2.2.1.2.2.2).cell
  have k2 := (cnt_is (by omega) L4.2.2.2).cell
  rcases hcase with ⟨hlt, hl⟩ | ⟨hlt, hl⟩
  all_goals rw [hl] at L4 k1 k2 r4 HU
  all_goals rw [hl]
  all_goals clear hl
  all_goals gi_wp2_with fail
  all_goals refine ⟨trivial, rfl, (take_in 38 _ n (by omega) w4).mono ?_⟩
  all_goals rintro e w5 ⟨rfl, hw5⟩
  all_goals have b51 := (Boxed.new w4 26 (.func (.func 38) #[] #[.pointer (some ⟨w1.heap.size + 2, 0, none⟩), .pointer (some ⟨w1.heap.size + 2 + 1, 0, none⟩)])).alloc (.cells #[.int .i64 n] 3)
  all_goals have b52 := Boxed.new (w4.alloc (.cells #[.func (.func 38) #[] #[.pointer (some ⟨w1.heap.size + 2, 0, none⟩), .pointer (some ⟨w1.heap.size + 2 + 1, 0, none⟩)]] 26)) 3 (.int .i64 n)
  all_goals rw [World.size_alloc] at b52
  all_goals rw [← hw5] at b51 b52
  all_goals have c5 : Chg No w4 w5 := by rw [hw5]; exact ((Chg.refl _ w4).alloc _).alloc _
  all_goals clear hw5
  all_goals have L5 := (it3 _).kept0 L4 c5.size (fun k hk => c5.block k ((it3 _).lt0 L4 k hk) (fun h => h))
  all_goals have it5 := fun k => take1 (it3 k) e38 n hn1 (by omega) w4.heap.size (w4.heap.size + 1) (by omega) (fun h => by have := (it3 _).lt0 L4 _ h; omega) (fun h => by have := (it3 _).lt0 L4 _ h; omega)
  all_goals gi_wp2_with fail
  all_goals refine ⟨trivial, rfl, (ints_in (it5 _) (enters_of Try.func36 (by kernel_rfl) rfl) 100 (by omega) (by omega) _ ⟨b51, b52, L5⟩ us hus).mono ?_⟩
  all_goals rintro e w6 ⟨v6, rfl, r6, ⟨_, _, L6⟩, c6⟩
  all_goals rw [HU.out] at L6 r6
  all_goals obtain ⟨p6, q6, rfl⟩ := row_slice r6
  all_goals have k3 := (cnt_is (by omega) L6.2.2.1.2.2.2).cell
  all_goals have k4 := (cnt_is (by omega) L6.2.2.2).cell
  all_goals have c06 : Chg No w w6 := (c04.trans c5 (Grew.refl _ _)).trans c6 (fun k h => .inr (by rcases h with (h | h) | h; exact h.elim; omega; omega))
  all_goals gi_wp2_with fail
  all_goals refine ⟨trivial, rfl, (awake_in _).mono ?_⟩
  all_goals rintro e w7 ⟨rfl, c7⟩
  all_goals have c07 : Chg No w w7 := c06.trans c7 (Grew.refl _ _)
  all_goals gi_wp2
  all_goals go_ret
  all_goals exact ⟨rfl, c07⟩

end Go.Proofs.Ytkfcbfmfkheceaa
