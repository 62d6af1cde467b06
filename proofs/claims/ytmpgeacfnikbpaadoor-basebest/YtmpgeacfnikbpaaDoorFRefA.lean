/-
  The document's own answers: Get and Drop.
-/
import Derived.Test.YtmpgeacfnikbpaaDoorGFile
namespace Go.TreeLib
open Go
theorem eqR_true {x y : ByteArray} (h : x = y) : (x.toList == y.toList) = true := by rw [h]; exact beq_self_eq_true _
theorem eqR_false {x y : ByteArray} (h : ¬ x = y) : (x.toList == y.toList) = false := beq_eq_false_iff_ne.2 (fun e => h (toList_inj e))
theorem get_first {t : List Fl} {p : ByteArray} {k : Nat} {x : Fl} (hx : t[k]? = some x) (hn : ∀ f ∈ t.take k, f.1 ≠ p) (he : x.1 = p) : get t p = some x.2 := by
  obtain ⟨hk, rfl⟩ := List.getElem?_eq_some_iff.1 hx
  have e : t = t.take k ++ t[k] :: t.drop (k + 1) := by rw [← List.drop_eq_getElem_cons hk, List.take_append_drop]
  unfold get
  conv => lhs; rw [e]
  rw [fil_app, fil_nil_of hn, fil_cons, if_pos he]
  rfl
theorem drop_take_succ {t : List Fl} {p : ByteArray} {k : Nat} {x : Fl} (hx : t[k]? = some x) : drop (t.take (k + 1)) p = drop (t.take k) p ++ if x.1 = p then [] else [x] := by
  obtain ⟨hk, rfl⟩ := List.getElem?_eq_some_iff.1 hx
  rw [List.take_succ_eq_append_getElem hk]
  unfold drop
  rw [List.filter_append]
  by_cases h : t[k].1 = p <;> simp [h]
end Go.TreeLib
namespace Go.Proofs.YtmpgeacfnikbpaaDoor
open Go.RowKit Go.Shelf Go.SeqLib Go.DiffLib Go.TreeLib
attribute [local go_sem] Oper.semAt_some

end Go.Proofs.YtmpgeacfnikbpaaDoor
