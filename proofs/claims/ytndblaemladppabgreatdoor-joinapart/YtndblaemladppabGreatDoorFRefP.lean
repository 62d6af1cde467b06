/-
  The document's own answer: what comes of putting a file.
-/
import Derived.Test.YtndblaemladppabGreatDoorFRefA
import Derived.Test.YtndblaemladppabGreatDoorFLe
import Derived.Test.YtndblaemladppabGreatDoorRStable
import Derived.Test.YtndblaemladppabGreatDoorLoudG
import Derived.Test.YtndblaemladppabGreatDoorQuiet
import Derived.Test.YtndblaemladppabGreatDoorLoudA
import Derived.Laws.Cover1
namespace Go.TreeLib
open Go
theorem ins_at {x : Fl} {l : List Fl} (h : Up l) (k : Nat) (hk : k ≤ l.length) (h1 : k = 0 ∨ ∃ y, l[k - 1]? = some y ∧ lt x.1 y.1 = false) (h2 : ∀ g ∈ l.drop k, lt x.1 g.1 = true) : ins x l = l.take k ++ [x] ++ l.drop k := by
  have hA : ∀ a ∈ l.take k, lt x.1 a.1 = false := by
    intro a ha
    rcases h1 with rfl | ⟨y, hy, hl⟩
    · simp at ha
    · obtain ⟨i, hi, e⟩ := List.mem_take_iff_getElem.1 ha
      obtain ⟨hk1, ey⟩ := List.getElem?_eq_some_iff.1 hy
      by_cases he : i = k - 1
      · subst he; rw [← e, ey]; exact hl
      · have := List.pairwise_iff_getElem.1 h i (k - 1) (by omega) hk1 (by omega)
        rw [e, ey] at this
        exact le_trans this hl
  have := ins_split hA h2
  rw [List.take_append_drop] at this
  rw [this, List.append_assoc]
  rfl
end Go.TreeLib
namespace Go.Proofs.YtndblaemladppabGreatDoor
open Go.RowKit Go.Shelf Go.SeqLib Go.DiffLib Go.TreeLib Go.BigFrame
attribute [local go_sem] Oper.semAt_some

theorem LeadsV.append_sf {n : Nat} {o : Oper} {a : Act} {R : Value → World → Prop} {w : World}
    (s x : Operand) (hop : o.op = Op.call { callee := Callee.builtin Builtin.append, args := #[s, x], argTypes := #[22, 22] })
    (base : Nat) (v : Value) (ys : List Fl) (hs : a.eval s = v) (hown : OwnF w base v ys) (p : Option Addr) (m c : Nat) (zs : List Fl) (hx : a.eval x = .slice p m c) (hsl : SlF w (.slice p m c) zs)
    (b1 : ys.length + m ≤ 1000000) (b3 : base ≤ w.heap.size)
    (hK : ∀ v' w', OwnF w' base v' (ys ++ zs) → w.grownBy w' v.ownBlock → (v'.ownBlock = v.ownBlock ∨ v'.ownBlock = some w.heap.size) → R v' w') : LeadsV Tryz.prog n o a R w := by
  obtain ⟨i0, hi, hz0, hz1, hz2⟩ := info_parts info27
  have hlen := SlF.len hsl
  cases p with
  | none =>
    have hz : zs = [] := by
      obtain ⟨p', c', e, h1, h2, hc⟩ := hsl
      cases e
      cases zs with
      | nil => rfl
      | cons x r => obtain ⟨b, off, h, _⟩ := hc 0 x rfl; cases h
    subst hz
    obtain rfl : m = 0 := hlen.symm
    obtain ⟨pv, cv, rfl⟩ := row_slice hown
    have hkc : ys.length ≤ cv ∧ (pv = none → ys.length = 0 ∧ cv = 0) := by
      rcases hown.2 with ⟨h, h0⟩ | ⟨g, cap, cur, h, _, _, h3, _⟩
      · rw [Value.slice.injEq] at h
        obtain ⟨rfl, _, rfl⟩ := h
        exact ⟨by omega, fun _ => ⟨h0, rfl⟩⟩
      · rw [Value.slice.injEq] at h
        obtain ⟨rfl, _, rfl⟩ := h
        exact ⟨h3, fun h => by cases h⟩
    have hrun := run_append_nothing (P := Tryz.prog) w (ty := o.type) Tryz.underlying22 hi pv ys.length cv c hkc.1 hkc.2
    refine LeadsV.value (v := .slice pv ys.length cv) (w' := w) ?_ (hK _ w (by rw [List.append_nil]; exact hown) ⟨rfl, rfl, rfl, Nat.le_refl _, fun _ _ _ => rfl⟩ (.inl rfl))
    simp [execOp, hop, resolve, invoke, builtin, hs, hx, hrun, Result.andThen]
  | some ad =>
    have hcl := flatF_cells hsl
    refine LeadsV.append s x 22 hop base 27 i0 (.agg #[.string ⟨#[]⟩, .string ⟨#[]⟩]) 2 32 Tryz.underlying22 hi hz0 hz1 hz2 rfl (by decide) v ys.length (ys.flatMap eF) hs hown ad m c (zs.flatMap eF) hx (by rw [flatF_length, hlen]) hcl (flatF_one zs) (by unfold maxLen; omega) (by omega) b3 (fun v' w' r1 r2 r4 => hK v' w' ?_ r2 r4)
    show w'.ownsRow base 27 2 v' (ys ++ zs).length ((ys ++ zs).flatMap eF)
    rw [List.flatMap_append, List.length_append, hlen]
    exact r1

/-- What holds while a list is put together: what stands ahead, the new one, what stands behind. -/
structure InsInv (W0 : World) (A : List Fl) (x : Fl) (B : List Fl) (d : Nat → Bool) (u : Nat → Value) (W : World) : Prop where
  chg : Chg No W0 W
  o9 : d 9 = true → d 3 = true ∧ d 8 = true
  o13 : d 13 = true → d 9 = true
  f3 : d 3 = true → d 9 = false → OwnF W W0.heap.size (u 3) A
  f8 : d 8 = true → d 9 = false → SlF W (u 8) [x]
  f9 : d 9 = true → d 13 = false → OwnF W W0.heap.size (u 9) (A ++ [x])
  f13 : d 13 = true → OwnF W W0.heap.size (u 13) (A ++ [x] ++ B)

theorem InsInv.s3 {W0 W W' : World} {A B : List Fl} {x : Fl} {d : Nat → Bool} {u : Nat → Value} (h : InsInv W0 A x B d u W) (hd : d 3 = false) {v : Value} (ho : OwnF W' W0.heap.size v ([] ++ A)) (c : Chg No W W') :
    InsInv W0 A x B (fun j => if j = 3 then true else d j) (fun j => if j = 3 then v else u j) W' := by
  have n9 : d 9 = false := by cases h9 : d 9 with | false => rfl | true => have := (h.o9 h9).1; rw [hd] at this; cases this
  have n13 : d 13 = false := by cases h9 : d 13 with | false => rfl | true => have := h.o13 h9; rw [n9] at this; cases this
  exact ⟨Chg.seq h.chg c, fun e => absurd (n9.symm.trans (show d 9 = true from e)) Bool.false_ne_true, fun e => absurd (n13.symm.trans (show d 13 = true from e)) Bool.false_ne_true, fun _ _ => ho, fun a b => (h.f8 a b).no c, fun e => absurd (n9.symm.trans (show d 9 = true from e)) Bool.false_ne_true, fun e => absurd (n13.symm.trans (show d 13 = true from e)) Bool.false_ne_true⟩
theorem InsInv.s8 {W0 W W' : World} {A B : List Fl} {x : Fl} {d : Nat → Bool} {u : Nat → Value} (h : InsInv W0 A x B d u W) (hd : d 8 = false) {v : Value} (ho : SlF W' v [x]) (c : Chg No W W') :
    InsInv W0 A x B (fun j => if j = 8 then true else d j) (fun j => if j = 8 then v else u j) W' := by
  have n9 : d 9 = false := by cases h9 : d 9 with | false => rfl | true => have := (h.o9 h9).2; rw [hd] at this; cases this
  have n13 : d 13 = false := by cases h9 : d 13 with | false => rfl | true => have := h.o13 h9; rw [n9] at this; cases this
  exact ⟨Chg.seq h.chg c, fun e => absurd (n9.symm.trans (show d 9 = true from e)) Bool.false_ne_true, fun e => absurd (n13.symm.trans (show d 13 = true from e)) Bool.false_ne_true, fun a b => (h.f3 a b).no c, fun _ _ => ho, fun e => absurd (n9.symm.trans (show d 9 = true from e)) Bool.false_ne_true, fun e => absurd (n13.symm.trans (show d 13 = true from e)) Bool.false_ne_true⟩
theorem InsInv.s9 {W0 W W' : World} {A B : List Fl} {x : Fl} {d : Nat → Bool} {u : Nat → Value} (h : InsInv W0 A x B d u W) (hd : d 9 = false) (h3 : d 3 = true) (h8 : d 8 = true) {v : Value} (ho : OwnF W' W0.heap.size v (A ++ [x])) (hg : W.grownBy W' (u 3).ownBlock) :
    InsInv W0 A x B (fun j => if j = 9 then true else d j) (fun j => if j = 9 then v else u j) W' := by
  have n13 : d 13 = false := by cases h9 : d 13 with | false => rfl | true => have := h.o13 h9; rw [hd] at this; cases this
  exact ⟨h.chg.grown hg (fun k e => .inr (World.ownsRow.lt (h.f3 h3 hd) k e).1), fun _ => ⟨h3, h8⟩, fun _ => rfl, fun _ e => absurd (show true = false from e) (by decide : ¬ true = false), fun _ e => absurd (show true = false from e) (by decide : ¬ true = false), fun _ _ => ho, fun e => absurd (n13.symm.trans (show d 13 = true from e)) Bool.false_ne_true⟩
theorem InsInv.s13 {W0 W W' : World} {A B : List Fl} {x : Fl} {d : Nat → Bool} {u : Nat → Value} (h : InsInv W0 A x B d u W) (hd : d 13 = false) (h9 : d 9 = true) {v : Value} (ho : OwnF W' W0.heap.size v (A ++ [x] ++ B)) (hg : W.grownBy W' (u 9).ownBlock) :
    InsInv W0 A x B (fun j => if j = 13 then true else d j) (fun j => if j = 13 then v else u j) W' :=
  ⟨h.chg.grown hg (fun k e => .inr (World.ownsRow.lt (h.f9 h9 hd) k e).1), fun _ => h.o9 h9, fun _ => h9, fun _ e => absurd (h9.symm.trans (show d 9 = false from e)) (by decide : ¬ true = false), fun _ e => absurd (h9.symm.trans (show d 9 = false from e)) (by decide : ¬ true = false), fun _ e => absurd (show true = false from e) (by decide : ¬ true = false), fun _ => ho⟩

end Go.Proofs.YtndblaemladppabGreatDoor
