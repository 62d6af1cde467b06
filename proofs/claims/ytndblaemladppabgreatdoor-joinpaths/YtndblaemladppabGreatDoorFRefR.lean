/-
  The document's own answer: all paths, rising, each once.
-/
import Derived.Test.YtndblaemladppabGreatDoorFLe
import Derived.Test.YtndblaemladppabGreatDoorGPure
import Derived.Test.YtndblaemladppabGreatDoorLoudG
import Derived.Test.YtndblaemladppabGreatDoorQuiet
import Derived.Test.YtndblaemladppabGreatDoorLoudA
import Derived.Test.YtndblaemladppabGreatDoorGDiff
import Derived.Laws.Cover1
namespace Go.TreeLib
open Go
theorem insT_in {x : ByteArray} {l : List ByteArray} (h : UpT l) (hx : x ∈ l) : insT x l = l := upT_unique (insT_up h) h (fun z => by
  rw [mem_insT]
  exact ⟨fun hz => hz.elim (fun e => e ▸ hx) id, .inr⟩)
theorem insT_at {x : ByteArray} {l : List ByteArray} (h : UpT l) (k : Nat) (h1 : ∀ a ∈ l.take k, lt a x = true) (h2 : ∀ g ∈ l.drop k, lt x g = true) : insT x l = l.take k ++ [x] ++ l.drop k := by
  refine upT_unique (insT_up h) ?_ (fun z => ?_)
  · unfold UpT at h ⊢
    rw [← List.take_append_drop k l, List.pairwise_append] at h
    rw [List.append_assoc, List.pairwise_append]
    refine ⟨h.1, List.pairwise_cons.2 ⟨h2, h.2.1⟩, fun a ha b hb => ?_⟩
    rcases List.mem_cons.1 hb with e | hb
    · rw [e]; exact h1 a ha
    · exact h.2.2 a ha b hb
  · rw [mem_insT]
    conv => lhs; rw [← List.take_append_drop k l]
    simp only [List.mem_append, List.mem_singleton]
    constructor
    · rintro (h | h | h)
      · exact .inl (.inr h)
      · exact .inl (.inl h)
      · exact .inr h
    · rintro ((h | h) | h)
      · exact .inr (.inl h)
      · exact .inl h
      · exact .inr (.inr h)
theorem below_all {x y : ByteArray} {l : List ByteArray} {k : Nat} (h : UpT l) (hk : k ≤ l.length) (hk1 : 1 ≤ k) (hy : l[k - 1]? = some y) (hl : lt y x = true) : ∀ a ∈ l.take k, lt a x = true := by
  intro a ha
  obtain ⟨i, hi, e⟩ := List.mem_take_iff_getElem.1 ha
  obtain ⟨hk2, ey⟩ := List.getElem?_eq_some_iff.1 hy
  by_cases he : i = k - 1
  · subst he; rw [← e, ey]; exact hl
  · have := List.pairwise_iff_getElem.1 h i (k - 1) (by omega) hk2 (by omega)
    rw [e, ey] at this
    exact lt_trans this hl
theorem rise_snoc (l : List ByteArray) (x : ByteArray) : rise (l ++ [x]) = insT x (rise l) := by unfold rise; rw [List.foldl_append]; rfl
theorem insT_le (x : ByteArray) : ∀ l : List ByteArray, (insT x l).length ≤ l.length + 1
  | [] => by simp [insT]
  | y :: r => by
    unfold insT
    have := insT_le x r
    split
    · simp
    · split
      · simp
      · simp; omega
theorem rise_le (l : List ByteArray) : (rise l).length ≤ l.length := by
  have : ∀ (l out : List ByteArray), (l.foldl (fun out x => insT x out) out).length ≤ out.length + l.length := by
    intro l
    induction l with
    | nil => intro out; simp
    | cons a l ih =>
      intro out
      rw [List.foldl_cons]
      have h1 := ih (insT a out)
      have h2 := insT_le a out
      rw [List.length_cons]
      omega
  have h := this l []
  rw [List.length_nil, Nat.zero_add] at h
  exact h
end Go.TreeLib
namespace Go.Proofs.YtndblaemladppabGreatDoor
open Go.RowKit Go.Shelf Go.SeqLib Go.DiffLib Go.TreeLib Go.BigFrame
attribute [local go_sem] Oper.semAt_some

/-- A list of texts that reads; one that is owned. -/
abbrev SlT (W : World) (v : Value) (l : List ByteArray) : Prop := SlV W v (l.map Value.string)
abbrev OwnT (W : World) (base : Nat) (v : Value) (l : List ByteArray) : Prop := W.ownsRow base 9 1 v l.length (l.map Value.string)
theorem SlT.at {W : World} {p : Option Addr} {n cap : Nat} {zs : List ByteArray} (h : SlT W (.slice p n cap) zs) (i : Nat) (x : ByteArray) (hi : zs[i]? = some x) : ∃ b off, p = some ⟨b, off, none⟩ ∧ W.cell? ⟨b, off + i, none⟩ = some (.string x) := by
  obtain ⟨p', cap', e, _, _, hc⟩ := h
  cases e
  exact hc i (.string x) (by rw [List.getElem?_map, hi]; rfl)
theorem SlT.one (w : World) (x : ByteArray) : SlT (w.alloc (.cells #[.string x] 9)) (.slice (some ⟨w.heap.size, 0, none⟩) 1 1) [x] := SlV.made w [.string x] 9 (by simp)
theorem OwnT.sl {W : World} {base : Nat} {v : Value} {l : List ByteArray} (h : OwnT W base v l) : SlT W v l := SlV.ofRow (by rw [List.length_map]; exact h)
theorem OwnT.no {W W' : World} {base : Nat} {v : Value} {l : List ByteArray} (h : OwnT W base v l) (c : Chg No W W') : OwnT W' base v l := row_kept h (fun k hk => c.block k (World.ownsRow.lt h k hk).2 (fun h => h))
theorem OwnT.nil (W : World) (base : Nat) : OwnT W base (.slice none 0 0) [] := World.ownsRow_nil _ _ _ _
theorem OwnT.base {W : World} {b b' : Nat} {v : Value} {l : List ByteArray} (h : OwnT W b v l) (hb : b' ≤ b) : OwnT W b' v l := rowBase h hb
theorem SlT.high {W : World} {p : Option Addr} {n cap : Nat} {l : List ByteArray} (h : SlT W (.slice p n cap) l) (hl : l.length = n) (k : Nat) (hk : k ≤ n) :
    ∃ p' c', SlT W (.slice p' k c') (l.take k) ∧ (∀ j, Value.ownBlock (.slice p' k c') = some j → Value.ownBlock (.slice p n cap) = some j) ∧ ∀ w, (Instr.sliceAt 29 (.slice p n cap) none (some (.int .i64 (k : Int))) none).run Tryz.prog w = .ok (.slice p' k c') w := by
  have := SlV.high h (by rw [List.length_map]; exact hl) k hk
  rw [← List.map_take] at this
  exact this
theorem SlT.low {W : World} {p : Option Addr} {n cap : Nat} {l : List ByteArray} (h : SlT W (.slice p n cap) l) (hl : l.length = n) (k : Nat) (hk : k ≤ n) :
    ∃ p' c', SlT W (.slice p' (n - k) c') (l.drop k) ∧ (∀ j, Value.ownBlock (.slice p' (n - k) c') = some j → Value.ownBlock (.slice p n cap) = some j) ∧ ∀ w, (Instr.sliceAt 29 (.slice p n cap) (some (.int .i64 (k : Int))) none none).run Tryz.prog w = .ok (.slice p' (n - k) c') w := by
  have := SlV.low h (by rw [List.length_map]; exact hl) k hk
  rw [← List.map_drop] at this
  exact this

theorem LeadsV.append_st {n : Nat} {o : Oper} {a : Act} {R : Value → World → Prop} {w : World}
    (s x : Operand) (hop : o.op = Op.call { callee := Callee.builtin Builtin.append, args := #[s, x], argTypes := #[29, 29] })
    (base : Nat) (v : Value) (ys : List ByteArray) (hs : a.eval s = v) (hown : OwnT w base v ys) (p : Option Addr) (m c : Nat) (zs : List ByteArray) (hx : a.eval x = .slice p m c) (hsl : SlT w (.slice p m c) zs)
    (b1 : ys.length + m ≤ 1000000) (b3 : base ≤ w.heap.size)
    (hK : ∀ v' w', OwnT w' base v' (ys ++ zs) → w.grownBy w' v.ownBlock → R v' w') : LeadsV Tryz.prog n o a R w := by
  have hm : zs.length = m := by obtain ⟨p', c', e, _⟩ := hsl; rw [Value.slice.injEq] at e; rw [e.2.1, List.length_map]
  refine LeadsV.append_sv s x hop base v ys.length (ys.map Value.string) hs hown p m c zs hx hsl b1 b3 (fun v' w' h1 h2 _ => hK v' w' ?_ h2)
  show w'.ownsRow base 9 1 v' (ys ++ zs).length ((ys ++ zs).map Value.string)
  rw [List.map_append, List.length_append, hm]
  exact h1

/-- What holds while a list is put together: what stands ahead, the new one, what stands behind. -/
structure InsT (W0 : World) (A : List ByteArray) (x : ByteArray) (B : List ByteArray) (d : Nat → Bool) (u : Nat → Value) (W : World) : Prop where
  chg : Chg No W0 W
  o9 : d 9 = true → d 3 = true ∧ d 8 = true
  o13 : d 13 = true → d 9 = true
  f3 : d 3 = true → d 9 = false → OwnT W W0.heap.size (u 3) A
  f8 : d 8 = true → d 9 = false → SlT W (u 8) [x]
  f9 : d 9 = true → d 13 = false → OwnT W W0.heap.size (u 9) (A ++ [x])
  f13 : d 13 = true → OwnT W W0.heap.size (u 13) (A ++ [x] ++ B)

theorem InsT.s3 {W0 W W' : World} {A B : List ByteArray} {x : ByteArray} {d : Nat → Bool} {u : Nat → Value} (h : InsT W0 A x B d u W) (hd : d 3 = false) {v : Value} (ho : OwnT W' W0.heap.size v ([] ++ A)) (c : Chg No W W') :
    InsT W0 A x B (fun j => if j = 3 then true else d j) (fun j => if j = 3 then v else u j) W' := by
  have n9 : d 9 = false := by cases h9 : d 9 with | false => rfl | true => have := (h.o9 h9).1; rw [hd] at this; cases this
  have n13 : d 13 = false := by cases h9 : d 13 with | false => rfl | true => have := h.o13 h9; rw [n9] at this; cases this
  exact ⟨Chg.seq h.chg c, fun e => absurd (n9.symm.trans (show d 9 = true from e)) Bool.false_ne_true, fun e => absurd (n13.symm.trans (show d 13 = true from e)) Bool.false_ne_true, fun _ _ => ho, fun a b => (h.f8 a b).no c, fun e => absurd (n9.symm.trans (show d 9 = true from e)) Bool.false_ne_true, fun e => absurd (n13.symm.trans (show d 13 = true from e)) Bool.false_ne_true⟩
theorem InsT.s8 {W0 W W' : World} {A B : List ByteArray} {x : ByteArray} {d : Nat → Bool} {u : Nat → Value} (h : InsT W0 A x B d u W) (hd : d 8 = false) {v : Value} (ho : SlT W' v [x]) (c : Chg No W W') :
    InsT W0 A x B (fun j => if j = 8 then true else d j) (fun j => if j = 8 then v else u j) W' := by
  have n9 : d 9 = false := by cases h9 : d 9 with | false => rfl | true => have := (h.o9 h9).2; rw [hd] at this; cases this
  have n13 : d 13 = false := by cases h9 : d 13 with | false => rfl | true => have := h.o13 h9; rw [n9] at this; cases this
  exact ⟨Chg.seq h.chg c, fun e => absurd (n9.symm.trans (show d 9 = true from e)) Bool.false_ne_true, fun e => absurd (n13.symm.trans (show d 13 = true from e)) Bool.false_ne_true, fun a b => OwnT.no (h.f3 a b) c, fun _ _ => ho, fun e => absurd (n9.symm.trans (show d 9 = true from e)) Bool.false_ne_true, fun e => absurd (n13.symm.trans (show d 13 = true from e)) Bool.false_ne_true⟩
theorem InsT.s9 {W0 W W' : World} {A B : List ByteArray} {x : ByteArray} {d : Nat → Bool} {u : Nat → Value} (h : InsT W0 A x B d u W) (hd : d 9 = false) (h3 : d 3 = true) (h8 : d 8 = true) {v : Value} (ho : OwnT W' W0.heap.size v (A ++ [x])) (hg : W.grownBy W' (u 3).ownBlock) :
    InsT W0 A x B (fun j => if j = 9 then true else d j) (fun j => if j = 9 then v else u j) W' := by
  have n13 : d 13 = false := by cases h9 : d 13 with | false => rfl | true => have := h.o13 h9; rw [hd] at this; cases this
  exact ⟨h.chg.grown hg (fun k e => .inr (World.ownsRow.lt (h.f3 h3 hd) k e).1), fun _ => ⟨h3, h8⟩, fun _ => rfl, fun _ e => absurd (show true = false from e) (by decide : ¬ true = false), fun _ e => absurd (show true = false from e) (by decide : ¬ true = false), fun _ _ => ho, fun e => absurd (n13.symm.trans (show d 13 = true from e)) Bool.false_ne_true⟩
theorem InsT.s13 {W0 W W' : World} {A B : List ByteArray} {x : ByteArray} {d : Nat → Bool} {u : Nat → Value} (h : InsT W0 A x B d u W) (hd : d 13 = false) (h9 : d 9 = true) {v : Value} (ho : OwnT W' W0.heap.size v (A ++ [x] ++ B)) (hg : W.grownBy W' (u 9).ownBlock) :
    InsT W0 A x B (fun j => if j = 13 then true else d j) (fun j => if j = 13 then v else u j) W' :=
  ⟨h.chg.grown hg (fun k e => .inr (World.ownsRow.lt (h.f9 h9 hd) k e).1), fun _ => h.o9 h9, fun _ => h9, fun _ e => absurd (h9.symm.trans (show d 9 = false from e)) (by decide : ¬ true = false), fun _ e => absurd (h9.symm.trans (show d 9 = false from e)) (by decide : ¬ true = false), fun _ e => absurd (show true = false from e) (by decide : ¬ true = false), fun _ => ho⟩

end Go.Proofs.YtndblaemladppabGreatDoor
