/-
  The document's own answers: Get and Drop.
-/
import Derived.Test.YtndblaemladppaaGFile
namespace Go.TreeLib
open Go
theorem eqR_true {x y : ByteArray} (h : x = y) : (x.toList == y.toList) = true := by rw [h]; exact beq_self_eq_true _
theorem eqR_false {x y : ByteArray} (h : ¬ x = y) : (x.toList == y.toList) = false := beq_eq_false_iff_ne.2 (fun e => h (toList_inj e))
theorem get_first {t : List Fl} {p : ByteArray} {k : Nat} {x : Fl} (hx : t[k]? = some x) (hn : ∀ f ∈ t.take k, f.1 ≠ p) (he : x.1 = p) : get t p = some x.2 := by
  obtain ⟨hk, rfl⟩ := List.getElem?_eq_some_iff.1 hx
  have e : t = t.take k ++ t[k] :: t.drop (k + 1) := by rw [← List.drop_eq_getElem_cons hk, List.take_append_drop]
  unfold get
  conv => lhs; rw [e]
  rw [fil_app, fil_nil_of hn, fil_cons, if_pos he]
  rfl
theorem drop_take_succ {t : List Fl} {p : ByteArray} {k : Nat} {x : Fl} (hx : t[k]? = some x) : drop (t.take (k + 1)) p = drop (t.take k) p ++ if x.1 = p then [] else [x] := by
  obtain ⟨hk, rfl⟩ := List.getElem?_eq_some_iff.1 hx
  rw [List.take_succ_eq_append_getElem hk]
  unfold drop
  rw [List.filter_append]
  by_cases h : t[k].1 = p <;> simp [h]
end Go.TreeLib
namespace Go.Proofs.Ytndblaemladppaa
open Go.RowKit Go.Shelf Go.SeqLib Go.DiffLib Go.TreeLib
attribute [local go_sem] Oper.semAt_some

set_option maxRecDepth 100000 in
set_option maxHeartbeats 2000000 in
theorem refGet_in (v : Value) (zs : List Fl) (p : ByteArray) (w : World) (hv : SlF w v zs) : CallsIn Fence.wide 0 Try.prog 18 #[v, .string p] w fun e w' =>
    e = .returned (.tuple #[.string (getD zs p), .bool (TreeLib.get zs p).isSome]) ∧ Chg No w w' := by
  obtain ⟨p0, cap, rfl, _, hmx⟩ := hv.slice
  have hml : zs.length ≤ 9223372036854775807 := by unfold maxLen at hmx; omega
  obtain ⟨n, HN⟩ : ∃ n, Hid (zs.length = n) := ⟨_, rfl⟩
  rw [HN.out] at hv hml ⊢
  clear hmx
  refine callsIn_of_wp Try.func18 rfl trivial ?_
  simp only [Try.ntmps18, List.size_toArray, List.length_cons, List.length_nil, Nat.reduceAdd, Nat.reduceSub, Array.replicate_succ, Array.replicate_zero, List.push_toArray, List.append_toArray, List.nil_append, List.cons_append]
  gi_wp2
  gi_loopw [6] (fun i wr => ∃ k : Nat, k ≤ n ∧ i = .int .i64 (k : Int) ∧ Hid (∀ f ∈ zs.take k, f.1 ≠ p) ∧ wr = w) (fun i _ => n - (intOf i).toNat)
  case atStart => exact ⟨0, Nat.zero_le _, rfl, fun f hf => by simp at hf, rfl⟩
  case round =>
    obtain ⟨k, hk, rfl, HT, rfl⟩ := hrel
    by_cases hlt : k < n
    · have hlt' : (k : Int) < (n : Int) := by omega
      have hkl : k < zs.length := by rw [HN.out]; exact hlt
      obtain ⟨x, hx⟩ : ∃ x, zs[k]? = some x := ⟨_, List.getElem?_eq_getElem hkl⟩
      obtain ⟨b1, o1, rfl, hc1, hc2⟩ := SlF.at hv k x hx
      by_cases he : x.1 = p
      · have qe := eqR_true he
        have HR : Hid (TreeLib.get zs p = some x.2) := get_first hx HT.out he
        gi_wp2
        go_ret2
        exact ⟨by unfold getD; rw [HR.out]; rfl, Chg.refl _ _⟩
      · have qe := eqR_false he
        have HT2 : Hid (∀ f ∈ zs.take (k + 1), f.1 ≠ p) := by
          intro f hf
          rw [List.take_add_one, hx] at hf
          rcases List.mem_append.1 hf with h | h
          · exact HT.out f h
          · rw [List.mem_singleton.1 h]; exact he
        gi_wp2
        go_roundw
        case rel => exact ⟨k + 1, hlt, by go_num, HT2, trivial⟩
        case measure => simp [intOf]; omega
    · have hlt' : ¬ (k : Int) < (n : Int) := by omega
      have HR : Hid (TreeLib.get zs p = none) := get_none.2 (fun f hf => HT.out f (by rw [List.take_of_length_le (by rw [HN.out]; omega)]; exact hf))
      gi_wp2
      go_ret2
      exact ⟨by unfold getD; rw [HR.out]; rfl, Chg.refl _ _⟩

set_option maxRecDepth 100000 in
set_option maxHeartbeats 2000000 in
theorem refDrop_in (v : Value) (zs : List Fl) (p : ByteArray) (hlen : zs.length ≤ 1000) (w : World) (hv : SlF w v zs) : CallsIn Fence.wide 0 Try.prog 20 #[v, .string p] w fun e w' =>
    ∃ v', e = .returned v' ∧ OwnF w' w.heap.size v' (TreeLib.drop zs p) ∧ Chg No w w' := by
  obtain ⟨p0, cap, rfl, _, hmx⟩ := hv.slice
  have hml : zs.length ≤ 9223372036854775807 := by omega
  obtain ⟨n, HN⟩ : ∃ n, Hid (zs.length = n) := ⟨_, rfl⟩
  rw [HN.out] at hv hml hlen ⊢
  clear hmx
  refine callsIn_of_wp Try.func20 rfl trivial ?_
  simp only [Try.ntmps20, List.size_toArray, List.length_cons, List.length_nil, Nat.reduceAdd, Nat.reduceSub, Array.replicate_succ, Array.replicate_zero, List.push_toArray, List.append_toArray, List.nil_append, List.cons_append]
  gi_wp2
  gi_loopw [6, 5] (fun i o wr => ∃ k : Nat, k ≤ n ∧ i = .int .i64 (k : Int) ∧ OwnF wr w.heap.size o (TreeLib.drop (zs.take k) p) ∧ Chg No w wr) (fun i _ _ => n - (intOf i).toNat)
  case atStart => exact ⟨0, Nat.zero_le _, rfl, OwnF.nil _ _, Chg.refl _ _⟩
  case round =>
    obtain ⟨k, hk, rfl, ho, c⟩ := hrel
    by_cases hlt : k < n
    · have hlt' : (k : Int) < (n : Int) := by omega
      have hkl : k < zs.length := by rw [HN.out]; exact hlt
      obtain ⟨x, hx⟩ : ∃ x, zs[k]? = some x := ⟨_, List.getElem?_eq_getElem hkl⟩
      have hv1 := hv.no c
      obtain ⟨b1, o1, rfl, hc1, hc2⟩ := SlF.at hv1 k x hx
      have hds := drop_take_succ (p := p) hx
      have hdl : (TreeLib.drop (zs.take k) p).length ≤ 1000 := Nat.le_trans (drop_sub _ _).length_le (by rw [List.length_take]; omega)
      by_cases he : x.1 = p
      · have qe := eqR_true he
        rw [if_pos he, List.append_nil] at hds
        rw [← hds] at ho
        clear hds
        gi_wp2
        go_roundw
        case rel => exact ⟨k + 1, hlt, by go_num, ho, c⟩
        case measure => simp [intOf]; omega
      · have qe := eqR_false he
        rw [if_neg he] at hds
        have HDS : Hid (TreeLib.drop (zs.take (k + 1)) p = TreeLib.drop (zs.take k) p ++ [x]) := hds
        clear hds
        generalize TreeLib.drop (zs.take k) p = ds at *
        have hsl := SlF.one wr x
        have hsz := c.size
        gi_wp2_with (gi_at_builtin; refine wpListIn_append_sf _ rfl _ _ rfl w.heap.size _ ds rfl (World.ownsRow.alloc ho _) (some ⟨wr.heap.size, 0, none⟩) 1 1 [x] rfl hsl (by omega) (by simp; omega) ?_; intro v' w1 hown' hgrow hat; have c1 : Chg No w w1 := ((c.alloc _).grown hgrow (fun k e => .inr (World.ownsRow.lt ho k e).1)))
        go_roundw
        case rel => exact ⟨k + 1, hlt, by go_num, by rw [HDS.out]; exact hown', c1⟩
        case measure => simp [intOf]; omega
    · have hlt' : ¬ (k : Int) < (n : Int) := by omega
      have hkn : zs.take k = zs := List.take_of_length_le (by rw [HN.out]; omega)
      rw [hkn] at ho
      gi_wp2
      go_ret
      exact ⟨_, rfl, ho, c⟩

end Go.Proofs.Ytndblaemladppaa
