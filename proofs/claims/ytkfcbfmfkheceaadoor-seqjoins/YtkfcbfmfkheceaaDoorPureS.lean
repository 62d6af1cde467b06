/-
  Sequences of texts that turn nothing: each call of package seq over them; a number's text.
-/
import Derived.Test.YtkfcbfmfkheceaaDoorMapS
import Derived.Test.YtkfcbfmfkheceaaDoorConsS
import Derived.Test.YtkfcbfmfkheceaaDoorHelpS
import Derived.Test.YtkfcbfmfkheceaaDoorShelf
namespace Go.Proofs.YtkfcbfmfkheceaaDoor
open Go.RowKit Go.Shelf Go.SeqLib
attribute [local go_sem] Oper.semAt_some

/-- A number that an int holds. -/
def okI (x : Int) : Prop := -9223372036854775808 ≤ x ∧ x ≤ 9223372036854775807
/-- Its text. -/
def itoaS (x : Int) : ByteArray := ⟨(Lib.itoa x).toArray⟩
/-- The library's table of powers is laid. -/
def TabAt (w : World) : Prop := Lib.TabIs Tryd.prog w "internal/strconv.uint64pow10" .u64 Lib.pow10Tab

theorem tab_global : Tryd.prog.globalNamed "internal/strconv.uint64pow10" = some 0 := by kernel_rfl

theorem TabAt.obj {w : World} (h : TabAt w) : ∃ t f, w.heap[0]? = some (.cells (Lib.pow10Tab.map fun z => Value.int .u64 z).toArray t f) := by
  unfold TabAt Lib.TabIs World.var? at h
  rw [tab_global] at h
  simp only [Option.bind_some] at h
  cases ho : w.heap[0]? with
  | none => rw [ho] at h; cases h
  | some o =>
    rw [ho] at h
    cases o with
    | cells cs t f => exact ⟨t, f, by simp at h; rw [h]⟩
    | _ => cases h
theorem TabAt.of {w : World} {t : TypeId} {f : Nat × Nat} (h : w.heap[0]? = some (.cells (Lib.pow10Tab.map fun z => Value.int .u64 z).toArray t f)) : TabAt w := by
  unfold TabAt Lib.TabIs World.var?
  rw [tab_global]
  simp only [Option.bind_some, h]
theorem TabAt.no {w w' : World} (h : TabAt w) (c : Chg No w w') : TabAt w' := by
  obtain ⟨t, f, ho⟩ := h.obj
  exact TabAt.of (c.same ho (fun h => h))

set_option maxHeartbeats 1000000 in
theorem text_in (x : Int) (hx : okI x) (w : World) (ht : TabAt w) : CallsIn Fence.wide 0 Tryd.prog 6 #[.int .i64 x] w fun e w' => e = .returned (.string (itoaS x)) ∧ Chg No w w' := by
  refine callsIn_of_wp Tryd.func6 rfl trivial ?_
  simp only [Tryd.ntmps6, List.size_toArray, List.length_cons, List.length_nil, Nat.reduceAdd, Nat.reduceSub, Array.replicate_succ, Array.replicate_zero, List.push_toArray, List.append_toArray, List.nil_append, List.cons_append]
  gi_wp2_with fail
  refine ⟨trivial, rfl, (callsIn_wide.2 (Any.strconv_Itoa Tryd.laysItoa x hx.1 hx.2 w ht)).mono ?_⟩
  rintro e w1 ⟨rfl, k, os, hw⟩
  have c : Chg No w w1 := by
    rw [hw]
    exact ⟨rfl, rfl, rfl, by simp [Sort.size_grow, World.drewN], fun k hk _ => Sort.heap_grow_old _ _ hk⟩
  clear hw
  gi_wp2
  go_ret
  exact ⟨rfl, c⟩

/-- The function value 'text'. -/
theorem text_fun {W : World} (ht : TabAt W) : ∃ I : World → Prop, FunO Tryd.prog 6 #[] okI (fun x => .string (itoaS x)) (fun k => k = 0) (fun _ => I) ∧ I W ∧ (∀ W W', I W → I W' → ∀ k, k = 0 → W'.heap[k]? = W.heap[k]?) := by
  obtain ⟨t, f, ho⟩ := ht.obj
  refine ⟨fun W => W.heap[0]? = some (.cells (Lib.pow10Tab.map fun z => Value.int .u64 z).toArray t f), ⟨?_, ?_, ?_⟩, ho, ?_⟩
  · rintro k W h b rfl
    exact (Array.getElem?_eq_some_iff.1 h).1
  · rintro k W W' h _ hk
    exact (hk 0 rfl).trans h
  · rintro k x W hx h
    refine (text_in x hx W (TabAt.of h)).mono ?_
    rintro e W' ⟨rfl, c⟩
    exact ⟨rfl, c.same h (fun h => h), c.mono (fun _ h => h.elim)⟩
  · rintro W W' h1 h2 k rfl
    exact h2.trans h1.symm

set_option maxHeartbeats 1000000 in
theorem mapS_in (gs : Nat) (lbs : Array Value) (ff : Nat) (capf : Array Value) (w : World) : CallsIn Fence.wide 0 Tryd.prog 10 #[.func (.func gs) #[] lbs, .func (.func ff) #[] capf] w fun e w' =>
    e = .returned (.func (.func 27) #[] #[.pointer (some ⟨w.heap.size, 0, none⟩), .pointer (some ⟨w.heap.size + 1, 0, none⟩)]) ∧ w' = (w.alloc (.cells #[.func (.func gs) #[] lbs] 29)).alloc (.cells #[.func (.func ff) #[] capf] 25) := by
  have hnil := fun w => run_eql_func_nil Tryd.underlying29 (.func gs) #[] lbs w
  have hnil2 := fun w => run_eql_func_nil Tryd.underlying25 (.func ff) #[] capf w
  have hc1 := ((Boxed.new w 29 (.func (.func gs) #[] lbs)).alloc (.cells #[.func (.func ff) #[] capf] 25)).cell
  refine callsIn_of_wp Tryd.func10 rfl trivial ?_
  simp only [Tryd.ntmps10, List.size_toArray, List.length_cons, List.length_nil, Nat.reduceAdd, Nat.reduceSub, Array.replicate_succ, Array.replicate_zero, List.push_toArray, List.append_toArray, List.nil_append, List.cons_append]
  gi_wp2
  go_ret
  exact ⟨rfl, rfl⟩

/-- Of each its text. -/
theorem mapS_seq {gs : Nat} {lbs : Array Value} {xs : List Int} {D : Blk} (w : World) (hs : PSeq w gs lbs xs D) (hok : ∀ x ∈ xs, okI x) (ht : TabAt w) (hd : ∀ k, D k → k ≠ 0) :
    CallsIn Fence.wide 0 Tryd.prog 10 #[.func (.func gs) #[] lbs, .func (.func 6) #[] #[]] w fun e w' =>
    ∃ gf lb D', e = .returned (.func (.func gf) #[] lb) ∧ PSeqS w' gf lb (xs.map itoaS) D' ∧ Chg No w w' ∧ ∀ k, D' k → D k ∨ k = 0 ∨ w.heap.size ≤ k := by
  refine (mapS_in gs lbs 6 #[] w).mono ?_
  rintro e w' ⟨rfl, rfl⟩
  have c : Chg No w ((w.alloc (.cells #[.func (.func gs) #[] lbs] 29)).alloc (.cells #[.func (.func 6) #[] #[]] 25)) := ((Chg.refl _ w).alloc _).alloc _
  have b1 := (Boxed.new w 29 (.func (.func gs) #[] lbs)).alloc (.cells #[.func (.func 6) #[] #[]] 25)
  have b2 := Boxed.new (w.alloc (.cells #[.func (.func gs) #[] lbs] 29)) 25 (.func (.func 6) #[] #[])
  rw [World.size_alloc] at b2
  have hs' := hs.no c
  have l1 := hs.lt
  obtain ⟨I0, it, hi, eg⟩ := hs'
  obtain ⟨If, fn, hif, hx⟩ := text_fun (ht.no c)
  have l2 : 0 < w.heap.size := by obtain ⟨_, _, ho⟩ := ht.obj; exact (Array.getElem?_eq_some_iff.1 ho).1
  have n1 : ∀ k, D k → k ≠ w.heap.size ∧ k ≠ w.heap.size + 1 := fun k hk => by have := l1 k hk; omega
  refine ⟨_, _, _, rfl, ⟨_, weakenS (mapS1 it eg fn hok (enters_of Tryd.func6 (by kernel_rfl) rfl) 0 w.heap.size (w.heap.size + 1) (by omega) (fun h => (n1 _ h).1 rfl) (fun h => (n1 _ h).2 rfl) (by omega) (by omega) hd) ?_ ?_, ⟨b1, b2, hi, hif⟩, enters_of Tryd.func27 (by kernel_rfl) rfl⟩, c, ?_⟩
  · rintro pre W ⟨b1, b2, zs, _, _, i1, i2⟩
    exact ⟨b1, b2, i1, i2⟩
  · rintro W W' ⟨_, _, _, i1⟩ ⟨_, _, _, i2⟩ k (h | h)
    · exact h.elim
    · exact hx W W' i1 i2 k h
  · rintro k (h | h | h | h)
    · exact .inr (.inr (by omega))
    · exact .inr (.inr (by omega))
    · exact .inl h
    · exact .inr (.inl h)

theorem listS_seq {gs : Nat} {lbs : Array Value} {xs : List ByteArray} {D : Blk} (hlen : xs.length ≤ 1000000) (w : World) (hs : PSeqS w gs lbs xs D) :
    CallsIn Fence.wide 0 Tryd.prog 12 #[.func (.func gs) #[] lbs] w fun e w' => ∃ v, e = .returned v ∧ SlV w' v (xs.map Value.string) ∧ Chg No w w' := by
  obtain ⟨I0, it, hi, eg⟩ := hs
  refine (listS_in it eg hlen w hi).mono ?_
  rintro e w' ⟨v, rfl, hr, _, c⟩
  exact ⟨v, rfl, SlV.ofRow (by simpa using hr), c⟩

theorem texts_seq {gs : Nat} {lbs : Array Value} {xs : List ByteArray} {D : Blk} (m : Nat) (h1 : 1 ≤ m) (hm : m ≤ 1000000) (w : World) (hs : PSeqS w gs lbs xs D) (ys : List ByteArray) (hys : Hid (ys = xs.take m)) :
    CallsIn Fence.wide 0 Tryd.prog 13 #[.func (.func gs) #[] lbs, .int .i64 (m : Int)] w fun e w' => ∃ v, e = .returned v ∧ SlV w' v (ys.map Value.string) ∧ Chg No w w' := by
  obtain ⟨I0, it, hi, eg⟩ := hs
  refine (texts_in it eg m h1 hm w hi ys hys).mono ?_
  rintro e w' ⟨v, rfl, hr, _, c⟩
  exact ⟨v, rfl, SlV.ofRow (by simpa using hr), c⟩

end Go.Proofs.YtkfcbfmfkheceaaDoor
