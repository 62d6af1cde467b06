/-
  seq.Of, Filter and List at files, tree's own files, All, Same and Drop, a line a call.
-/
import Derived.Test.YtbiholcdncndfaaFFilt
import Derived.Test.YtbiholcdncndfaaFList
import Derived.Test.YtbiholcdncndfaaFSame
namespace Go.Proofs.Ytbiholcdncndfaa
open Go.RowKit Go.Shelf Go.SeqLib Go.DiffLib Go.TreeLib
attribute [local go_sem] Oper.semAt_some

theorem weakenA {α : Type} {P : Program} {gf : Nat} {lb : Array Value} {encs : α → Array Value} {xs : List α} {D M : Blk} {I0 : World → Prop} {I : List α → World → Prop} (it : Iter P gf lb encs xs D M I0 I)
    (h : ∀ pre W, I pre W → I0 W) (hM : ∀ W W', I0 W → I0 W' → ∀ k, M k → W'.heap[k]? = W.heap[k]?) : Iter P gf lb encs xs D No I0 (fun _ => I0) := {
  sub := fun _ h => h.elim
  lt0 := it.lt0
  kept0 := it.kept0
  kept := fun h => it.kept0 h
  runs := fun l J Jx S W pJ pJx hY hI hJ hDS => (it.runs l J Jx S W pJ pJx hY hI hJ hDS).mono fun e W' h' => by
    obtain ⟨hv, ys, S', hj, hi, c, g⟩ := h'
    refine ⟨hv, ys, S', hj, h ys W' hi, c.less (fun k hk hm hn => ?_), g⟩
    rcases hm with hm | hm
    · exact hM W W' hI (h ys W' hi) k hm
    · exact (hn (.inr hm)).elim }

/-- A sequence of files that turns nothing, over the blocks D: told by encs. -/
def PSeqA (encs : Fl → Array Value) (W : World) (gf : Nat) (lb : Array Value) (xs : List Fl) (D : Blk) : Prop :=
  ∃ I0, Iter Try.prog gf lb encs xs D No I0 (fun _ => I0) ∧ I0 W ∧ ∀ args w, (callFunc gf args).run Try.prog w = .ok (.enter gf args) w
section
variable {encs : Fl → Array Value} {W W' : World} {gf : Nat} {lb : Array Value} {xs : List Fl} {D : Blk}
theorem PSeqA.lt (h : PSeqA encs W gf lb xs D) : ∀ k, D k → k < W.heap.size := by
  obtain ⟨I0, it, hi, _⟩ := h
  exact it.lt0 hi
theorem PSeqA.chg (h : PSeqA encs W gf lb xs D) {S : Blk} (c : Chg S W W') (hd : ∀ k, D k → ¬ S k) : PSeqA encs W' gf lb xs D := by
  obtain ⟨I0, it, hi, he⟩ := h
  exact ⟨I0, it, it.kept0 hi c.size (fun k hk => c.block k (it.lt0 hi k hk) (hd k hk)), he⟩
theorem PSeqA.no (h : PSeqA encs W gf lb xs D) (c : Chg No W W') : PSeqA encs W' gf lb xs D := h.chg c (fun _ _ h => h)
end

set_option maxRecDepth 100000 in
set_option maxHeartbeats 1000000 in
theorem cloneF_in (v : Value) (zs : List Fl) (hlen : zs.length ≤ 100000) (w : World) (hv : SlF w v zs) : CallsIn Fence.wide 0 Try.prog 15 #[v] w fun e w' =>
    ∃ v', e = .returned v' ∧ OwnF w' w.heap.size v' zs ∧ Chg No w w' := by
  obtain ⟨p, cap, rfl, h1, h2⟩ := hv.slice
  cases p with
  | none =>
    have hz : zs = [] := by
      cases zs with
      | nil => rfl
      | cons x r => obtain ⟨b, off, h, _⟩ := SlF.at hv 0 x rfl; cases h
    subst hz
    have hnil := fun w => run_eql_slice_nil' Try.underlying22 none 0 cap w
    simp only [Option.isNone_none] at hnil
    refine callsIn_of_wp Try.func15 rfl trivial ?_
    simp only [Try.ntmps15, List.size_toArray, List.length_cons, List.length_nil, Nat.reduceAdd, Nat.reduceSub, Array.replicate_succ, Array.replicate_zero, List.push_toArray, List.append_toArray, List.nil_append, List.cons_append]
    gi_wp2
    go_ret
    exact ⟨_, rfl, OwnF.nil _ _, Chg.refl _ _⟩
  | some a =>
    have hnil := fun w => run_eql_slice_nil' Try.underlying22 (some a) zs.length cap w
    simp only [Option.isNone_some] at hnil
    refine callsIn_of_wp Try.func15 rfl trivial ?_
    simp only [Try.ntmps15, List.size_toArray, List.length_cons, List.length_nil, Nat.reduceAdd, Nat.reduceSub, Array.replicate_succ, Array.replicate_zero, List.push_toArray, List.append_toArray, List.nil_append, List.cons_append]
    have hown0 : OwnF (w.alloc (.cells #[] 43)) w.heap.size (.slice (some ⟨w.heap.size, 0, none⟩) 0 0) [] := World.ownsRow_made w #[] 0 (Nat.le_refl _) (Nat.zero_le _) rfl
    have hsl : SlF (w.alloc (.cells #[] 43)) (.slice (some a) zs.length cap) zs := hv.no ((Chg.refl _ w).alloc _)
    clear hv
    gi_wp2_with (gi_at_builtin; refine wpListIn_append_sf _ rfl _ _ rfl w.heap.size _ [] rfl hown0 (some a) zs.length cap zs rfl hsl (by simp; omega) (by simp) ?_; intro v' w1 hown' hgrow hat; rw [List.nil_append] at hown'; obtain ⟨p', c', rfl⟩ := hown'.slice)
    go_ret
    refine ⟨_, rfl, hown', ((Chg.refl _ w).alloc _).grown hgrow (fun k e => .inr ?_)⟩
    cases e
    exact Nat.le_refl _

set_option maxHeartbeats 1000000 in
theorem ofF_in (v : Value) (zs : List Fl) (hlen : zs.length ≤ 100000) (w : World) (hv : SlF w v zs) : CallsIn Fence.wide 0 Try.prog 36 #[v] w fun e w' =>
    ∃ gf lb D, e = .returned (.func (.func gf) #[] lb) ∧ PSeqA encF w' gf lb zs D ∧ Chg No w w' ∧ ∀ k, D k → w.heap.size ≤ k := by
  refine callsIn_of_wp Try.func36 rfl trivial ?_
  simp only [Try.ntmps36, List.size_toArray, List.length_cons, List.length_nil, Nat.reduceAdd, Nat.reduceSub, Array.replicate_succ, Array.replicate_zero, List.push_toArray, List.append_toArray, List.nil_append, List.cons_append]
  gi_wp2_with fail
  refine ⟨trivial, rfl, (cloneF_in v zs hlen _ hv).mono ?_⟩
  rintro e w1 ⟨v', rfl, hr, c⟩
  obtain ⟨p', c', rfl⟩ := hr.slice
  gi_wp2
  go_ret
  have hlt : ∀ k, slE (.slice p' zs.length c') zs k → w.heap.size ≤ k ∧ k < w1.heap.size := fun k hk => hr.lt k hk.2
  refine ⟨_, _, _, rfl, ⟨_, weakenA (ofF1 (.slice p' zs.length c') zs w1.heap.size (fun h => by have := (hlt _ h).2; omega)) (fun _ _ h => h) (fun _ _ _ _ _ h => h.elim), ⟨Boxed.new _ _ _, (OwnF.sl (World.ownsRow.alloc hr _))⟩, enters_of Try.func44 (by kernel_rfl) rfl⟩, c.alloc _, ?_⟩
  rintro k (h | h)
  · subst h; exact c.size
  · exact (hlt k h).1

/-- A question that turns nothing. -/
def PAsk (W : World) (ff : Nat) (cap : Array Value) (p : Fl → Bool) (D : Blk) : Prop :=
  ∃ I : World → Prop, Fun1 Try.prog ff cap (fun x : Fl => .agg #[.string x.1, .string x.2]) (fun x => .bool (p x)) D (fun _ => I) ∧ I W ∧ (∀ W W', I W → I W' → ∀ k, D k → W'.heap[k]? = W.heap[k]?) ∧ ∀ args w, (callFunc ff args).run Try.prog w = .ok (.enter ff args) w
theorem PAsk.no {W W' : World} {ff : Nat} {cap : Array Value} {p : Fl → Bool} {D : Blk} (h : PAsk W ff cap p D) (c : Chg No W W') : PAsk W' ff cap p D := by
  obtain ⟨I, fn, hi, hx, he⟩ := h
  exact ⟨I, fn, fn.kept (k := 0) hi c.size (fun k hk => c.block k (fn.lt (k := 0) hi k hk) (fun h => h)), hx, he⟩
theorem PAsk.lt {W : World} {ff : Nat} {cap : Array Value} {p : Fl → Bool} {D : Blk} (h : PAsk W ff cap p D) : ∀ k, D k → k < W.heap.size := by
  obtain ⟨I, fn, hi, _, _⟩ := h
  exact fn.lt (k := 0) hi

set_option maxHeartbeats 1000000 in
theorem filterF_in (gs : Nat) (lbs : Array Value) (ff : Nat) (capf : Array Value) (w : World) : CallsIn Fence.wide 0 Try.prog 35 #[.func (.func gs) #[] lbs, .func (.func ff) #[] capf] w fun e w' =>
    e = .returned (.func (.func 43) #[] #[.pointer (some ⟨w.heap.size, 0, none⟩), .pointer (some ⟨w.heap.size + 1, 0, none⟩)]) ∧ w' = (w.alloc (.cells #[.func (.func gs) #[] lbs] 67)).alloc (.cells #[.func (.func ff) #[] capf] 64) := by
  have hnil := fun w => run_eql_func_nil Try.underlying67 (.func gs) #[] lbs w
  have hnil2 := fun w => run_eql_func_nil Try.underlying64 (.func ff) #[] capf w
  have hc1 := ((Boxed.new w 67 (.func (.func gs) #[] lbs)).alloc (.cells #[.func (.func ff) #[] capf] 64)).cell
  refine callsIn_of_wp Try.func35 rfl trivial ?_
  simp only [Try.ntmps35, List.size_toArray, List.length_cons, List.length_nil, Nat.reduceAdd, Nat.reduceSub, Array.replicate_succ, Array.replicate_zero, List.push_toArray, List.append_toArray, List.nil_append, List.cons_append]
  gi_wp2
  go_ret
  exact ⟨rfl, rfl⟩

theorem filterF_seq {gs : Nat} {lbs : Array Value} {xs : List Fl} {D Df : Blk} {ff : Nat} {capf : Array Value} {p : Fl → Bool} (w : World) (hs : PSeqA encF w gs lbs xs D) (hf : PAsk w ff capf p Df) (hd : ∀ k, D k → ¬ Df k) :
    CallsIn Fence.wide 0 Try.prog 35 #[.func (.func gs) #[] lbs, .func (.func ff) #[] capf] w fun e w' =>
    ∃ gf lb D', e = .returned (.func (.func gf) #[] lb) ∧ PSeqA encF w' gf lb (xs.filter p) D' ∧ Chg No w w' := by
  refine (filterF_in gs lbs ff capf w).mono ?_
  rintro e w' ⟨rfl, rfl⟩
  have c : Chg No w ((w.alloc (.cells #[.func (.func gs) #[] lbs] 67)).alloc (.cells #[.func (.func ff) #[] capf] 64)) := ((Chg.refl _ w).alloc _).alloc _
  have b1 := (Boxed.new w 67 (.func (.func gs) #[] lbs)).alloc (.cells #[.func (.func ff) #[] capf] 64)
  have b2 := Boxed.new (w.alloc (.cells #[.func (.func gs) #[] lbs] 67)) 64 (.func (.func ff) #[] capf)
  rw [World.size_alloc] at b2
  have hs' := hs.no c
  have hf' := hf.no c
  have l1 := hs.lt
  have l2 := hf.lt
  obtain ⟨I0, it, hi, eg⟩ := hs'
  obtain ⟨If, fn, hif, hx, ef⟩ := hf'
  have n1 : ∀ k, D k → k ≠ w.heap.size ∧ k ≠ w.heap.size + 1 := fun k hk => by have := l1 k hk; omega
  have n2 : ∀ k, Df k → k ≠ w.heap.size ∧ k ≠ w.heap.size + 1 := fun k hk => by have := l2 k hk; omega
  refine ⟨_, _, _, rfl, ⟨_, weakenA (filterF1 it eg fn ef 0 w.heap.size (w.heap.size + 1) (by omega) (fun h => (n1 _ h).1 rfl) (fun h => (n1 _ h).2 rfl) (fun h => (n2 _ h).1 rfl) (fun h => (n2 _ h).2 rfl) hd) ?_ ?_, ⟨b1, b2, hi, hif⟩, enters_of Try.func43 (by kernel_rfl) rfl⟩, c⟩
  · rintro pre W ⟨b1, b2, zs, _, _, i1, i2⟩
    exact ⟨b1, b2, i1, i2⟩
  · rintro W W' ⟨_, _, _, i1⟩ ⟨_, _, _, i2⟩ k (h | h)
    · exact h.elim
    · exact hx W W' i1 i2 k h

theorem listF_seq {gs : Nat} {lbs : Array Value} {xs : List Fl} {D : Blk} (hlen : xs.length ≤ 100000) (w : World) (hs : PSeqA encF w gs lbs xs D) :
    CallsIn Fence.wide 0 Try.prog 34 #[.func (.func gs) #[] lbs] w fun e w' => ∃ v, e = .returned v ∧ OwnF w' w.heap.size v xs ∧ Chg No w w' := by
  obtain ⟨I0, it, hi, eg⟩ := hs
  refine (listF_in it eg hlen w hi).mono ?_
  rintro e w' ⟨v, rfl, hr, _, c⟩
  exact ⟨v, rfl, hr, c⟩

/-- Drop's question: does the file stand elsewhere? -/
theorem elsewhere_in (x : Fl) (p : ByteArray) (B : Nat) (w : World) (hB : Boxed w B 9 (.string p)) : CallsIn Fence.wide 0 Try.prog 33 (#[.agg #[.string x.1, .string x.2]] ++ #[.pointer (some ⟨B, 0, none⟩)]) w fun e w' =>
    e = .returned (.bool (!decide (x.1 = p))) ∧ w' = w.alloc (.cells #[.string x.1, .string x.2] 43) := by
  have hc := (hB.alloc (.cells #[.string x.1, .string x.2] 43)).cell
  have hb : (!(x.1.toList == p.toList)) = !decide (x.1 = p) := by
    by_cases h : x.1 = p
    · rw [h]; simp
    · have : (x.1.toList == p.toList) = false := by rw [beq_eq_false_iff_ne]; exact fun e => h (toList_inj e)
      rw [this, decide_eq_false h]
  refine callsIn_of_wp Try.func33 rfl trivial ?_
  simp only [Try.ntmps33, List.size_toArray, List.length_cons, List.length_nil, Nat.reduceAdd, Nat.reduceSub, Array.replicate_succ, Array.replicate_zero, List.push_toArray, List.append_toArray, List.nil_append, List.cons_append]
  gi_wp2
  go_ret
  exact ⟨rfl, rfl⟩

set_option maxHeartbeats 1000000 in
/-- Drop: those that stand elsewhere. -/
theorem drop_in (v : Value) (zs : List Fl) (p : ByteArray) (hlen : zs.length ≤ 100000) (w : World) (hv : SlF w v zs) : CallsIn Fence.wide 0 Try.prog 25 #[v, .string p] w fun e w' =>
    ∃ v', e = .returned v' ∧ OwnF w' w.heap.size v' (TreeLib.drop zs p) ∧ Chg No w w' := by
  have c0 : Chg No w (w.alloc (.cells #[.string p] 9)) := (Chg.refl _ w).alloc _
  have hv1 := hv.no c0
  refine callsIn_of_wp Try.func25 rfl trivial ?_
  simp only [Try.ntmps25, List.size_toArray, List.length_cons, List.length_nil, Nat.reduceAdd, Nat.reduceSub, Array.replicate_succ, Array.replicate_zero, List.push_toArray, List.append_toArray, List.nil_append, List.cons_append]
  gi_wp2_with fail
  refine ⟨trivial, rfl, (ofF_in v zs hlen _ hv1).mono ?_⟩
  rintro e w1 ⟨g1, l1, D1, rfl, s1, c1, hD1⟩
  have b1 : Boxed w1 w.heap.size 9 (.string p) := c1.boxed (Boxed.new w 9 (.string p)) (fun h => h)
  have hask : PAsk w1 33 #[.pointer (some ⟨w.heap.size, 0, none⟩)] (fun f => !decide (f.1 = p)) (fun k => k = w.heap.size) :=
    ⟨fun W => Boxed W w.heap.size 9 (.string p), ⟨fun h b hb => by subst hb; exact h.lt, fun h _ hk => (hk _ rfl).trans h, fun k x W h => (elsewhere_in x p w.heap.size W h).mono (by
      rintro e W' ⟨rfl, rfl⟩
      exact ⟨rfl, h.alloc _, (Chg.refl _ W).alloc _⟩)⟩, b1, fun W W' h h' k hk => by subst hk; exact (show W'.heap[_]? = _ from h').trans (show W.heap[_]? = _ from h).symm, enters_of Try.func33 (by kernel_rfl) rfl⟩
  gi_wp2_with fail
  refine ⟨trivial, rfl, (filterF_seq _ s1 hask (fun k hk e => by have := hD1 k hk; simp at this; omega)).mono ?_⟩
  rintro e w2 ⟨g2, l2, D2, rfl, s2, c2⟩
  gi_wp2_with fail
  refine ⟨trivial, rfl, (listF_seq (Nat.le_trans (List.length_filter_le _ _) hlen) _ s2).mono ?_⟩
  rintro e w3 ⟨v3, rfl, r3, c3⟩
  obtain ⟨p3, k3, rfl⟩ := r3.slice
  have c12 := Chg.seq (Chg.seq c0 c1) c2
  gi_wp2
  go_ret
  exact ⟨_, rfl, r3.base c12.size, Chg.seq c12 c3⟩

theorem filesT_in (v : Value) (zs : List Fl) (w : World) (hv : SlF w v zs) : CallsIn Fence.wide 0 Try.prog 26 #[v] w fun e w' =>
    ∃ gf lb D, e = .returned (.func (.func gf) #[] lb) ∧ PSeqA encP w' gf lb zs D ∧ Chg No w w' ∧ ∀ k, D k → slE v zs k ∨ k = w.heap.size := by
  have hlt := hv.lt
  obtain ⟨p', c', rfl, _⟩ := hv.slice
  refine callsIn_of_wp Try.func26 rfl trivial ?_
  simp only [Try.ntmps26, List.size_toArray, List.length_cons, List.length_nil, Nat.reduceAdd, Nat.reduceSub, Array.replicate_succ, Array.replicate_zero, List.push_toArray, List.append_toArray, List.nil_append, List.cons_append]
  gi_wp2
  go_ret
  refine ⟨_, _, _, rfl, ⟨_, weakenA (files1 (.slice p' zs.length c') zs w.heap.size (fun h => by have := hlt _ h; omega)) (fun _ _ h => h) (fun _ _ _ _ _ h => h.elim), ⟨Boxed.new _ _ _, hv.no ((Chg.refl _ w).alloc _)⟩, enters_of Try.func37 (by kernel_rfl) rfl⟩, (Chg.refl _ w).alloc _, ?_⟩
  rintro k (h | h)
  · exact .inr h
  · exact .inl h

end Go.Proofs.Ytbiholcdncndfaa
