/-
  three's own small calls, at texts: own, alike, tooLong; on and run.
-/
import Derived.Test.YtookalebfbkedaaDApply
import Derived.Test.YtookalebfbkedaaT3L
namespace Go.Proofs.Ytookalebfbkedaa
open Go.RowKit Go.Shelf Go.SeqLib Go.DiffLib Go.BigFrame
attribute [local go_sem] Oper.semAt_some

theorem oneStep (w : World) (x y z : Int) : SlS (w.alloc (.cells #[.int .i64 x, .int .i64 y, .int .i64 z] 82)) (.slice (some ⟨w.heap.size, 0, none⟩) 1 1) [(x, y, z)] := by
  refine ⟨_, 1, rfl, Nat.le_refl _, by unfold maxLen; decide, fun i u hi => ⟨w.heap.size, 0, rfl, fun q r hq => ?_⟩⟩
  rw [World.cell?_alloc_at _ _ _ _ rfl]
  have hi1 : i < 1 := (List.getElem?_eq_some_iff.1 hi).1
  obtain rfl : i = 0 := by omega
  cases hi
  rw [show 0 + 0 * 3 + q = q by omega]
  unfold eS at hq
  simpa using hq

theorem run_max3 {P : Program} (ts : Array TypeId) (t : TypeId) (x y z : Nat) (w : World) : (Builtin.max_ ts t #[.int .i64 (x : Int), .int .i64 (y : Int), .int .i64 (z : Int)]).run P w = .ok (.int .i64 ((max (max x y) z : Nat) : Int)) w := by
  simp [Builtin.max_, Builtin.max2]
  split <;> split <;> simp_all <;> omega

theorem tooLong3_in (p q r : Option Addr) (n m k cp cq cr : Nat) (hn : n ≤ 400) (hm : m ≤ 400) (hk : k ≤ 400) (w : World) : CallsIn Fence.wide 0 Try.prog 25 #[.slice p n cp, .slice q m cq, .slice r k cr] w fun e w' => e = .returned (.bool false) ∧ w' = w := by
  refine callsIn_of_wp Try.func25 rfl trivial ?_
  simp only [Try.ntmps25, List.size_toArray, List.length_cons, List.length_nil, Nat.reduceAdd, Nat.reduceSub, Array.replicate_succ, Array.replicate_zero, List.push_toArray, List.append_toArray, List.nil_append, List.cons_append]
  obtain ⟨M, hM⟩ : ∃ M, max (max n m) k = M := ⟨_, rfl⟩
  have hmx : ¬ (400 : Int) < (M : Int) := by omega
  have hr : ∀ w, (Builtin.max_ #[3, 3, 3] 3 #[.int .i64 (n : Int), .int .i64 (m : Int), .int .i64 (k : Int)]).run Try.prog w = .ok (.int .i64 (M : Int)) w := fun w => by rw [run_max3, hM]
  clear hM
  gi_wp2
  go_ret
  exact ⟨rfl, rfl⟩

theorem own_in (p : Option Addr) (n cap : Nat) (zs : List ByteArray) (w : World) (h : SlV w (.slice p n cap) (zs.map Value.string)) (hn : n ≤ 1000) :
    CallsIn Fence.wide 0 Try.prog 47 #[.slice p n cap] w fun e w' => ∃ v', e = .returned v' ∧ w'.ownsRow w.heap.size 9 1 v' zs.length (zs.map Value.string) ∧ Chg No w w' := by
  have hl : zs.length = n := by obtain ⟨p', c', e, _⟩ := h; cases e; simp
  refine callsIn_of_wp Try.func47 rfl trivial ?_
  simp only [Try.ntmps47, List.size_toArray, List.length_cons, List.length_nil, Nat.reduceAdd, Nat.reduceSub, Array.replicate_succ, Array.replicate_zero, List.push_toArray, List.append_toArray, List.nil_append, List.cons_append]
  have hr0 : w.ownsRow w.heap.size 9 1 (.slice none 0 0) 0 [] := World.ownsRow_nil _ _ _ _
  have HL : Hid (zs.length = n) := hl
  clear hl
  gi_wp2_with (gi_at_builtin; refine wpListIn_append_sv _ rfl _ _ rfl w.heap.size _ 0 _ rfl hr0 p n cap zs rfl h (by omega) (Nat.le_refl _) ?_; intro v5 W5 hown5 hgrow5 hat5)
  go_ret
  exact ⟨_, rfl, by rw [HL.out]; simpa using hown5, (Chg.refl _ w).grown hgrow5 (fun k e => by cases e)⟩

theorem app_alike (x y : List ByteArray) : (app x y [((x.length : Int), 0, 0)]).isSome = decide (x = y) := by
  unfold app
  by_cases h : x = y
  · subst h
    rw [if_pos (by refine ⟨by omega, by omega, by omega, by omega, by omega, by omega, by omega, rfl⟩)]
    simp [app]
  · rw [decide_eq_false h]
    split
    · rename_i h2
      obtain ⟨_, _, _, _, h5, _, _, h8⟩ := h2
      have hne : y.drop x.length ≠ [] := by
        intro e
        apply h
        have hl : y.length ≤ x.length := by rw [List.drop_eq_nil_iff] at e; exact e
        simp only [Int.toNat_natCast] at h8
        rw [List.take_length, List.take_of_length_le hl] at h8
        exact h8
      simp [app, hne]
    · rfl

set_option maxRecDepth 100000 in
set_option maxHeartbeats 1000000 in
theorem alike_in (v u : Value) (x y : List ByteArray) (w : World) (hv : SlV w v (x.map Value.string)) (hu : SlV w u (y.map Value.string)) (hx : x.length ≤ 400) (hy : y.length ≤ 400) :
    CallsIn Fence.wide 0 Try.prog 40 #[v, u] w fun e w' => e = .returned (.bool (decide (x = y))) ∧ Chg No w w' := by
  obtain ⟨p, cp, rfl, _⟩ := id hv
  obtain ⟨q, cq, rfl, _⟩ := id hu
  rw [List.length_map] at hv ⊢
  rw [List.length_map] at hu ⊢
  have ha := app_alike x y
  have hc : Chg No w (w.alloc (.cells #[.int .i64 (x.length : Int), .int .i64 0, .int .i64 0] 82)) := (Chg.refl _ w).alloc _
  have hA := apply_in _ _ _ x y [((x.length : Int), 0, 0)] _ (hv.no hc) (hu.no hc) (oneStep w (x.length : Int) 0 0) hx hy (by simp)
  refine callsIn_of_wp Try.func40 rfl trivial ?_
  simp only [Try.ntmps40, List.size_toArray, List.length_cons, List.length_nil, Nat.reduceAdd, Nat.reduceSub, Array.replicate_succ, Array.replicate_zero, List.push_toArray, List.append_toArray, List.nil_append, List.cons_append]
  obtain ⟨n, HN⟩ : ∃ n, Hid (x.length = n) := ⟨_, rfl⟩
  obtain ⟨m, HM⟩ : ∃ n, Hid (y.length = n) := ⟨_, rfl⟩
  rw [HN.out] at ha hA hc hx ⊢
  rw [HM.out] at hA hy ⊢
  clear hv hu
  obtain ⟨z, hz⟩ : ∃ z, app x y [((n : Int), 0, 0)] = z := ⟨_, rfl⟩
  rw [hz] at hA ha
  clear hz
  gi_wp2_with fail
  refine ⟨trivial, rfl, hA.mono ?_⟩
  rintro e w2 ⟨hres, c2⟩
  have HF : Hid (z.isSome = decide (x = y)) := ha
  clear ha hA
  cases z with
  | none =>
    obtain rfl := hres
    gi_wp2
    go_ret
    exact ⟨by rw [← HF.out]; rfl, Chg.seq hc c2⟩
  | some c =>
    obtain ⟨v', rfl, r⟩ := hres
    gi_wp2
    go_ret
    exact ⟨by rw [← HF.out]; rfl, Chg.seq hc c2⟩

end Go.Proofs.Ytookalebfbkedaa
