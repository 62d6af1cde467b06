/-
  Sequences that turn nothing: each call of package seq over them, in one line a call.
-/
import Derived.Test.YtaolebadamfodaaMake
import Derived.Test.YtaolebadamfodaaHelp
import Derived.Test.YtaolebadamfodaaFilt
import Derived.Test.YtaolebadamfodaaOf
namespace Go.Proofs.Ytaolebadamfodaa
open Go.RowKit Go.Shelf Go.SeqLib

abbrev No : Blk := fun _ => False

theorem weaken {gf : Nat} {lb : Array Value} {xs : List Int} {D M : Blk} {I0 : World → Prop} {I : List Int → World → Prop} (it : Iter Try.prog gf lb encI xs D M I0 I)
    (h : ∀ pre W, I pre W → I0 W) (hM : ∀ W W', I0 W → I0 W' → ∀ k, M k → W'.heap[k]? = W.heap[k]?) : Iter Try.prog gf lb encI xs D No I0 (fun _ => I0) := {
  sub := fun _ h => h.elim
  lt0 := it.lt0
  kept0 := it.kept0
  kept := fun h => it.kept0 h
  runs := fun l J Jx S W pJ pJx hY hI hJ hDS => (it.runs l J Jx S W pJ pJx hY hI hJ hDS).mono fun e W' h' => by
    obtain ⟨hv, ys, S', hj, hi, c, g⟩ := h'
    refine ⟨hv, ys, S', hj, h ys W' hi, c.less (fun k hk hm hn => ?_), g⟩
    rcases hm with hm | hm
    · exact hM W W' hI (h ys W' hi) k hm
    · exact (hn (.inr hm)).elim }

/-- A sequence that turns nothing, over the blocks D. -/
def PSeq (W : World) (gf : Nat) (lb : Array Value) (xs : List Int) (D : Blk) : Prop :=
  ∃ I0, Iter Try.prog gf lb encI xs D No I0 (fun _ => I0) ∧ I0 W ∧ ∀ args w, (callFunc gf args).run Try.prog w = .ok (.enter gf args) w

theorem PSeq.lt {W : World} {gf : Nat} {lb : Array Value} {xs : List Int} {D : Blk} (h : PSeq W gf lb xs D) : ∀ k, D k → k < W.heap.size := by
  obtain ⟨I0, it, hi, _⟩ := h
  exact it.lt0 hi
theorem PSeq.chg {W W' : World} {gf : Nat} {lb : Array Value} {xs : List Int} {D S : Blk} (h : PSeq W gf lb xs D) (c : Chg S W W') (hd : ∀ k, D k → ¬ S k) : PSeq W' gf lb xs D := by
  obtain ⟨I0, it, hi, he⟩ := h
  exact ⟨I0, it, it.kept0 hi c.size (fun k hk => c.block k (it.lt0 hi k hk) (hd k hk)), he⟩
theorem PSeq.no {W W' : World} {gf : Nat} {lb : Array Value} {xs : List Int} {D : Blk} (h : PSeq W gf lb xs D) (c : Chg No W W') : PSeq W' gf lb xs D := h.chg c (fun _ _ h => h)

/-- A function that turns nothing. -/
def PFun (W : World) (ff : Nat) (cap : Array Value) (res : Int → Value) (D : Blk) : Prop :=
  ∃ I : World → Prop, Fun1 Try.prog ff cap (fun x : Int => .int .i64 x) res D (fun _ => I) ∧ I W ∧ (∀ W W', I W → I W' → ∀ k, D k → W'.heap[k]? = W.heap[k]?) ∧ ∀ args w, (callFunc ff args).run Try.prog w = .ok (.enter ff args) w

theorem PFun.no {W W' : World} {ff : Nat} {cap : Array Value} {res : Int → Value} {D : Blk} (h : PFun W ff cap res D) (c : Chg No W W') : PFun W' ff cap res D := by
  obtain ⟨I, fn, hi, hx, he⟩ := h
  exact ⟨I, fn, fn.kept (k := 0) hi c.size (fun k hk => c.block k (fn.lt (k := 0) hi k hk) (fun h => h)), hx, he⟩
theorem PFun.lt {W : World} {ff : Nat} {cap : Array Value} {res : Int → Value} {D : Blk} (h : PFun W ff cap res D) : ∀ k, D k → k < W.heap.size := by
  obtain ⟨I, fn, hi, _, _⟩ := h
  exact fn.lt (k := 0) hi

/-- A plain function of the program. -/
theorem pfun_plain {ff : Nat} {res : Int → Value} (h : ∀ x w, CallsIn Fence.wide 0 Try.prog ff #[.int .i64 x] w fun e w' => e = .returned (res x) ∧ w' = w) (he : ∀ args w, (callFunc ff args).run Try.prog w = .ok (.enter ff args) w) (W : World) : PFun W ff #[] res No :=
  ⟨fun _ => True, ⟨fun _ _ h => h.elim, fun _ _ _ => trivial, fun _ x W _ => (h x W).mono (by rintro e w' ⟨rfl, rfl⟩; exact ⟨rfl, trivial, Chg.refl _ _⟩)⟩, trivial, fun _ _ _ _ _ h => h.elim, he⟩

theorem filter_seq {gs : Nat} {lbs : Array Value} {xs : List Int} {D Df : Blk} {ff : Nat} {capf : Array Value} {p : Int → Bool} (w : World) (hs : PSeq w gs lbs xs D) (hf : PFun w ff capf (fun x => .bool (p x)) Df) (hd : ∀ k, D k → ¬ Df k) :
    CallsIn Fence.wide 0 Try.prog 44 #[.func (.func gs) #[] lbs, .func (.func ff) #[] capf] w fun e w' =>
    ∃ gf lb D', e = .returned (.func (.func gf) #[] lb) ∧ PSeq w' gf lb (xs.filter p) D' ∧ Chg No w w' ∧ ∀ k, D' k → D k ∨ Df k ∨ w.heap.size ≤ k := by
  refine (filter_in gs lbs ff capf w).mono ?_
  rintro e w' ⟨rfl, rfl⟩
  have c : Chg No w ((w.alloc (.cells #[.func (.func gs) #[] lbs] 51)).alloc (.cells #[.func (.func ff) #[] capf] 59)) := ((Chg.refl _ w).alloc _).alloc _
  have b1 := (Boxed.new w 51 (.func (.func gs) #[] lbs)).alloc (.cells #[.func (.func ff) #[] capf] 59)
  have b2 := Boxed.new (w.alloc (.cells #[.func (.func gs) #[] lbs] 51)) 59 (.func (.func ff) #[] capf)
  rw [World.size_alloc] at b2
  have hs' := hs.no c
  have hf' := hf.no c
  have l1 := hs.lt
  have l2 := hf.lt
  obtain ⟨I0, it, hi, eg⟩ := hs'
  obtain ⟨If, fn, hif, hx, ef⟩ := hf'
  have n1 : ∀ k, D k → k ≠ w.heap.size ∧ k ≠ w.heap.size + 1 := fun k hk => by have := l1 k hk; omega
  have n2 : ∀ k, Df k → k ≠ w.heap.size ∧ k ≠ w.heap.size + 1 := fun k hk => by have := l2 k hk; omega
  refine ⟨_, _, _, rfl, ⟨_, weaken (filter1 it eg fn ef 0 w.heap.size (w.heap.size + 1) (by omega) (fun h => (n1 _ h).1 rfl) (fun h => (n1 _ h).2 rfl) (fun h => (n2 _ h).1 rfl) (fun h => (n2 _ h).2 rfl) hd) ?_ ?_, ⟨b1, b2, hi, hif⟩, enters_of Try.func51 (by kernel_rfl) rfl⟩, c, ?_⟩
  · rintro pre W ⟨b1, b2, zs, _, _, i1, i2⟩
    exact ⟨b1, b2, i1, i2⟩
  · rintro W W' ⟨_, _, _, i1⟩ ⟨_, _, _, i2⟩ k (h | h)
    · exact h.elim
    · exact hx W W' i1 i2 k h
  · rintro k (h | h | h | h)
    · exact .inr (.inr (by omega))
    · exact .inr (.inr (by omega))
    · exact .inl h
    · exact .inr (.inl h)

theorem ints_seq {gs : Nat} {lbs : Array Value} {xs : List Int} {D : Blk} (m : Int) (hm : m ≤ 1000000) (w : World) (hs : PSeq w gs lbs xs D) (ys : List Int) (hys : Hid (ys = xs.take m.toNat)) :
    CallsIn Fence.wide 0 Try.prog 23 #[.func (.func gs) #[] lbs, .int .i64 m] w fun e w' => ∃ v, e = .returned v ∧ w'.ownsRow w.heap.size 3 1 v ys.length (ys.map (Value.int .i64)) ∧ Chg No w w' := by
  obtain ⟨I0, it, hi, eg⟩ := hs
  by_cases h1 : 1 ≤ m
  · obtain ⟨k, rfl⟩ := Int.eq_ofNat_of_zero_le (show 0 ≤ m by omega)
    rw [Int.toNat_natCast] at hys
    refine (ints_in it eg k (by omega) (by omega) w hi ys hys).mono ?_
    rintro e w' ⟨v, rfl, hr, _, c⟩
    exact ⟨v, rfl, hr, c⟩
  · refine (ints_none m (by omega) w).mono ?_
    rintro e w' ⟨rfl, c⟩
    have h0 := hys.out
    rw [show m.toNat = 0 by omega] at h0
    simp at h0
    subst h0
    exact ⟨_, rfl, World.ownsRow_nil _ _ _ _, c⟩

/-- The sum, as Go's numbers add. -/
def sumW (a b : Int) : Int := wrap64 (a + b)

end Go.Proofs.Ytaolebadamfodaa
