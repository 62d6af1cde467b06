/-
  Sequences of things that turn nothing, and Filter over them.
-/
import Derived.Test.YtaolebadamfodaaTFilt
import Derived.Test.YtaolebadamfodaaPure
namespace Go.Proofs.Ytaolebadamfodaa.T
open Go.RowKit Go.Shelf Go.SeqLib
attribute [local go_sem] Oper.semAt_some

set_option maxHeartbeats 1000000 in
theorem filter_in (gs : Nat) (lbs : Array Value) (ff : Nat) (capf : Array Value) (w : World) : CallsIn Fence.wide 0 Try.prog 36 #[.func (.func gs) #[] lbs, .func (.func ff) #[] capf] w fun e w' =>
    e = .returned (.func (.func 48) #[] #[.pointer (some ⟨w.heap.size, 0, none⟩), .pointer (some ⟨w.heap.size + 1, 0, none⟩)]) ∧ w' = (w.alloc (.cells #[.func (.func gs) #[] lbs] 41)).alloc (.cells #[.func (.func ff) #[] capf] 38) := by
  have hnil := fun w => run_eql_func_nil Try.underlying41 (.func gs) #[] lbs w
  have hnil2 := fun w => run_eql_func_nil Try.underlying38 (.func ff) #[] capf w
  have hc1 := ((Boxed.new w 41 (.func (.func gs) #[] lbs)).alloc (.cells #[.func (.func ff) #[] capf] 38)).cell
  refine callsIn_of_wp Try.func36 rfl trivial ?_
  simp only [Try.ntmps36, List.size_toArray, List.length_cons, List.length_nil, Nat.reduceAdd, Nat.reduceSub, Array.replicate_succ, Array.replicate_zero, List.push_toArray, List.append_toArray, List.nil_append, List.cons_append]
  gi_wp2
  go_ret
  exact ⟨rfl, rfl⟩



theorem weaken {gf : Nat} {lb : Array Value} {xs : List (Int × Int)} {D M : Blk} {I0 : World → Prop} {I : List (Int × Int) → World → Prop} (it : Iter Try.prog gf lb encT xs D M I0 I)
    (h : ∀ pre W, I pre W → I0 W) (hM : ∀ W W', I0 W → I0 W' → ∀ k, M k → W'.heap[k]? = W.heap[k]?) : Iter Try.prog gf lb encT xs D No I0 (fun _ => I0) := {
  sub := fun _ h => h.elim
  lt0 := it.lt0
  kept0 := it.kept0
  kept := fun h => it.kept0 h
  runs := fun l J Jx S W pJ pJx hY hI hJ hDS => (it.runs l J Jx S W pJ pJx hY hI hJ hDS).mono fun e W' h' => by
    obtain ⟨hv, ys, S', hj, hi, c, g⟩ := h'
    refine ⟨hv, ys, S', hj, h ys W' hi, c.less (fun k hk hm hn => ?_), g⟩
    rcases hm with hm | hm
    · exact hM W W' hI (h ys W' hi) k hm
    · exact (hn (.inr hm)).elim }

/-- A sequence that turns nothing, over the blocks D. -/
def PSeq (W : World) (gf : Nat) (lb : Array Value) (xs : List (Int × Int)) (D : Blk) : Prop :=
  ∃ I0, Iter Try.prog gf lb encT xs D No I0 (fun _ => I0) ∧ I0 W ∧ ∀ args w, (callFunc gf args).run Try.prog w = .ok (.enter gf args) w

theorem PSeq.lt {W : World} {gf : Nat} {lb : Array Value} {xs : List (Int × Int)} {D : Blk} (h : PSeq W gf lb xs D) : ∀ k, D k → k < W.heap.size := by
  obtain ⟨I0, it, hi, _⟩ := h
  exact it.lt0 hi
theorem PSeq.chg {W W' : World} {gf : Nat} {lb : Array Value} {xs : List (Int × Int)} {D S : Blk} (h : PSeq W gf lb xs D) (c : Chg S W W') (hd : ∀ k, D k → ¬ S k) : PSeq W' gf lb xs D := by
  obtain ⟨I0, it, hi, he⟩ := h
  exact ⟨I0, it, it.kept0 hi c.size (fun k hk => c.block k (it.lt0 hi k hk) (hd k hk)), he⟩
theorem PSeq.no {W W' : World} {gf : Nat} {lb : Array Value} {xs : List (Int × Int)} {D : Blk} (h : PSeq W gf lb xs D) (c : Chg No W W') : PSeq W' gf lb xs D := h.chg c (fun _ _ h => h)

/-- A function that turns nothing. -/
def PFun (W : World) (ff : Nat) (cap : Array Value) (res : Int × Int → Value) (D : Blk) : Prop :=
  ∃ I : World → Prop, Fun1 Try.prog ff cap (fun x : Int × Int => .agg #[.int .i64 x.1, .int .i64 x.2]) res D (fun _ => I) ∧ I W ∧ (∀ W W', I W → I W' → ∀ k, D k → W'.heap[k]? = W.heap[k]?) ∧ ∀ args w, (callFunc ff args).run Try.prog w = .ok (.enter ff args) w

theorem PFun.no {W W' : World} {ff : Nat} {cap : Array Value} {res : Int × Int → Value} {D : Blk} (h : PFun W ff cap res D) (c : Chg No W W') : PFun W' ff cap res D := by
  obtain ⟨I, fn, hi, hx, he⟩ := h
  exact ⟨I, fn, fn.kept (k := 0) hi c.size (fun k hk => c.block k (fn.lt (k := 0) hi k hk) (fun h => h)), hx, he⟩
theorem PFun.lt {W : World} {ff : Nat} {cap : Array Value} {res : Int × Int → Value} {D : Blk} (h : PFun W ff cap res D) : ∀ k, D k → k < W.heap.size := by
  obtain ⟨I, fn, hi, _, _⟩ := h
  exact fn.lt (k := 0) hi

theorem filter_seq {gs : Nat} {lbs : Array Value} {xs : List (Int × Int)} {D Df : Blk} {ff : Nat} {capf : Array Value} {p : Int × Int → Bool} (w : World) (hs : PSeq w gs lbs xs D) (hf : PFun w ff capf (fun x => .bool (p x)) Df) (hd : ∀ k, D k → ¬ Df k) :
    CallsIn Fence.wide 0 Try.prog 36 #[.func (.func gs) #[] lbs, .func (.func ff) #[] capf] w fun e w' =>
    ∃ gf lb D', e = .returned (.func (.func gf) #[] lb) ∧ PSeq w' gf lb (xs.filter p) D' ∧ Chg No w w' ∧ ∀ k, D' k → D k ∨ Df k ∨ w.heap.size ≤ k := by
  refine (filter_in gs lbs ff capf w).mono ?_
  rintro e w' ⟨rfl, rfl⟩
  have c : Chg No w ((w.alloc (.cells #[.func (.func gs) #[] lbs] 41)).alloc (.cells #[.func (.func ff) #[] capf] 38)) := ((Chg.refl _ w).alloc _).alloc _
  have b1 := (Boxed.new w 41 (.func (.func gs) #[] lbs)).alloc (.cells #[.func (.func ff) #[] capf] 38)
  have b2 := Boxed.new (w.alloc (.cells #[.func (.func gs) #[] lbs] 41)) 38 (.func (.func ff) #[] capf)
  rw [World.size_alloc] at b2
  have hs' := hs.no c
  have hf' := hf.no c
  have l1 := hs.lt
  have l2 := hf.lt
  obtain ⟨I0, it, hi, eg⟩ := hs'
  obtain ⟨If, fn, hif, hx, ef⟩ := hf'
  have n1 : ∀ k, D k → k ≠ w.heap.size ∧ k ≠ w.heap.size + 1 := fun k hk => by have := l1 k hk; omega
  have n2 : ∀ k, Df k → k ≠ w.heap.size ∧ k ≠ w.heap.size + 1 := fun k hk => by have := l2 k hk; omega
  refine ⟨_, _, _, rfl, ⟨_, weaken (filter1 it eg fn ef 0 w.heap.size (w.heap.size + 1) (by omega) (fun h => (n1 _ h).1 rfl) (fun h => (n1 _ h).2 rfl) (fun h => (n2 _ h).1 rfl) (fun h => (n2 _ h).2 rfl) hd) ?_ ?_, ⟨b1, b2, hi, hif⟩, enters_of Try.func48 (by kernel_rfl) rfl⟩, c, ?_⟩
  · rintro pre W ⟨b1, b2, zs, _, _, i1, i2⟩
    exact ⟨b1, b2, i1, i2⟩
  · rintro W W' ⟨_, _, _, i1⟩ ⟨_, _, _, i2⟩ k (h | h)
    · exact h.elim
    · exact hx W W' i1 i2 k h
  · rintro k (h | h | h | h)
    · exact .inr (.inr (by omega))
    · exact .inr (.inr (by omega))
    · exact .inl h
    · exact .inr (.inl h)

end Go.Proofs.Ytaolebadamfodaa.T
