/-
  Lists of commits, appended to, in statements of open order.
-/
import Derived.Test.YtconingjdgmodaaDoorRRef
namespace Go.Proofs.YtconingjdgmodaaDoor
open Go.RowKit Go.Shelf Go.SeqLib Go.DiffLib Go.TreeLib Go.RepoLib Go.BigFrame
attribute [local go_sem] Oper.semAt_some

theorem infoCommit : (Tryd.prog.info? 36).map (fun i => (i.zero, i.size, i.bytes)) = some (some (.agg #[.slice none 0 0, .slice none 0 0, .string ⟨#[]⟩]), 3, 64) := by kernel_rfl
theorem flatM_length (zs : List Rw) : (zs.flatMap eM).length = zs.length * 3 := flat_length eM_len zs
theorem flatM_cells {W : World} {ad : Addr} {m cap : Nat} {zs : List Rw} (h : SlE 3 eM W (.slice (some ad) m cap) zs) : ∀ j u, (zs.flatMap eM)[j]? = some u → W.cell? (ad.add j) = some u := by
  obtain ⟨p, c, e, _, _, hc⟩ := h
  cases e
  intro j u hj
  have hj3 : j = j / 3 * 3 + j % 3 := by omega
  have hlt : j % 3 < 3 := Nat.mod_lt _ (by omega)
  rw [hj3, flat_get eM_len _ _ _ hlt] at hj
  cases hz : zs[j / 3]? with
  | none => rw [hz] at hj; cases hj
  | some x =>
    rw [hz] at hj
    obtain ⟨b, off, e, h1⟩ := hc _ x hz
    cases e
    rw [addr_add]
    have := h1 _ u hj
    rw [show off + j / 3 * 3 + j % 3 = off + j by omega] at this
    exact this
/-- Rows whose lists are slices: each cell is one. -/
def OneM (zs : List Rw) : Prop := ∀ r ∈ zs, r.1.oneCell' = true ∧ r.2.1.oneCell' = true
theorem OneM.flat {zs : List Rw} (h : OneM zs) : ∀ u ∈ zs.flatMap eM, u.oneCell' = true := by
  intro u hu
  obtain ⟨r, hr, hy⟩ := List.mem_flatMap.1 hu
  simp [eM] at hy
  rcases hy with rfl | rfl | rfl
  · exact (h r hr).1
  · exact (h r hr).2
  · rfl
theorem CmD.one {D : Blk} {W : World} {pv tv : Value} {x : ByteArray} {c : Cm} (h : CmD D W (.agg #[pv, tv, .string x]) c) : pv.oneCell' = true ∧ tv.oneCell' = true ∧ x = c.2.2 := by
  obtain ⟨p, n, k, q, m, l, e, _⟩ := h
  cases e
  exact ⟨rfl, rfl, rfl⟩
theorem RowsM.one {b : Nat} {W : World} {rows : List Rw} {L : List Cm} (h : RowsM b W rows L) : OneM rows := by
  intro r hr
  obtain ⟨i, hi, rfl⟩ := List.mem_iff_getElem.1 hr
  have := h.at_ i rows[i] (L[i]'(by rw [← h.len]; exact hi)) (List.getElem?_eq_getElem hi) (List.getElem?_eq_getElem _)
  exact ⟨(CmD.one this).1, (CmD.one this).2.1⟩

theorem LeadsV.append_sm {n : Nat} {o : Oper} {a : Act} {R : Value → World → Prop} {w : World}
    (s x : Operand) (hop : o.op = Op.call { callee := Callee.builtin Builtin.append, args := #[s, x], argTypes := #[22, 22] })
    (base : Nat) (v : Value) (ys : List Rw) (hs : a.eval s = v) (hown : OwnM w base v ys) (p : Option Addr) (m c : Nat) (zs : List Rw) (hx : a.eval x = .slice p m c) (hsl : SlE 3 eM w (.slice p m c) zs) (hone : OneM zs)
    (b1 : ys.length + m ≤ 1000000) (b3 : base ≤ w.heap.size)
    (hK : ∀ v' w', OwnM w' base v' (ys ++ zs) → w.grownBy w' v.ownBlock → (v'.ownBlock = v.ownBlock ∨ v'.ownBlock = some w.heap.size) → R v' w') : LeadsV Tryd.prog n o a R w := by
  obtain ⟨i0, hi, hz0, hz1, hz2⟩ := info_parts infoCommit
  have hlen : zs.length = m := by obtain ⟨_, _, e, _⟩ := hsl; rw [Value.slice.injEq] at e; exact e.2.1.symm
  cases p with
  | none =>
    have hz : zs = [] := by
      obtain ⟨p', c', e, h1, h2, hc⟩ := hsl
      cases e
      cases zs with
      | nil => rfl
      | cons x r => obtain ⟨b, off, h, _⟩ := hc 0 x rfl; cases h
    subst hz
    obtain rfl : m = 0 := hlen.symm
    obtain ⟨pv, cv, rfl⟩ := row_slice hown
    have hkc : ys.length ≤ cv ∧ (pv = none → ys.length = 0 ∧ cv = 0) := by
      rcases hown.2 with ⟨h, h0⟩ | ⟨g, cap, cur, h, _, _, h3, _⟩
      · rw [Value.slice.injEq] at h
        obtain ⟨rfl, _, rfl⟩ := h
        exact ⟨by omega, fun _ => ⟨h0, rfl⟩⟩
      · rw [Value.slice.injEq] at h
        obtain ⟨rfl, _, rfl⟩ := h
        exact ⟨h3, fun h => by cases h⟩
    have hrun := run_append_nothing (P := Tryd.prog) w (ty := o.type) Tryd.underlying22 hi pv ys.length cv c hkc.1 hkc.2
    refine LeadsV.value (v := .slice pv ys.length cv) (w' := w) ?_ (hK _ w (by rw [List.append_nil]; exact hown) ⟨rfl, rfl, rfl, Nat.le_refl _, fun _ _ _ => rfl⟩ (.inl rfl))
    simp [execOp, hop, resolve, invoke, builtin, hs, hx, hrun, Result.andThen]
  | some ad =>
    have hcl := flatM_cells hsl
    refine LeadsV.append s x 22 hop base 36 i0 (.agg #[.slice none 0 0, .slice none 0 0, .string ⟨#[]⟩]) 3 64 Tryd.underlying22 hi hz0 hz1 hz2 rfl (by decide) v ys.length (ys.flatMap eM) hs hown ad m c (zs.flatMap eM) hx (by rw [flatM_length, hlen]) hcl hone.flat (by unfold maxLen; omega) (by omega) b3 (fun v' w' r1 r2 r4 => hK v' w' ?_ r2 r4)
    show w'.ownsRow base 36 3 v' (ys ++ zs).length ((ys ++ zs).flatMap eM)
    rw [List.flatMap_append, List.length_append, hlen]
    exact r1
theorem SlM.one (w : World) (x : Rw) : SlE 3 eM (w.alloc (.cells #[x.1, x.2.1, .string x.2.2] 36)) (.slice (some ⟨w.heap.size, 0, none⟩) 1 1) [x] := by
  refine ⟨_, 1, rfl, Nat.le_refl _, by unfold maxLen; omega, fun i y hi => ⟨w.heap.size, 0, rfl, fun q u hu => ?_⟩⟩
  have hi0 : i = 0 := by
    have := (List.getElem?_eq_some_iff.1 hi).1
    simp at this
    exact this
  subst hi0
  obtain rfl : x = y := by simpa using hi
  have h : (w.alloc (.cells #[x.1, x.2.1, .string x.2.2] 36)).heap[w.heap.size]? = some (.cells #[x.1, x.2.1, .string x.2.2] 36 (0, 0)) := World.alloc_heap_new w _
  have hq : q < 3 := by rw [← eM_len x]; exact (List.getElem?_eq_some_iff.1 hu).1
  rw [Nat.zero_add]
  unfold World.cell?
  show (match (w.alloc (.cells #[x.1, x.2.1, .string x.2.2] 36)).heap[w.heap.size]? with | some (.cells c _ _) => if false = true then none else c[q]? | _ => none) = some u
  rw [h]
  have hq3 : q = 0 ∨ q = 1 ∨ q = 2 := by omega
  rcases hq3 with rfl | rfl | rfl <;> exact hu

/-- What holds while the document's repo takes one commit more. -/
structure AddInv (W0 : World) (B : Nat) (lv : Value) (rv : Value) (rows : List Rw) (x : Rw) (d : Nat → Bool) (u : Nat → Value) (W : World) : Prop where
  chg : Chg (fun k => k = B) W0 W
  v2 : u 2 = ptr B
  v4 : u 4 = lv
  v9 : u 9 = ptr B
  v8 : ∃ q m k, u 8 = .slice q m k
  o5 : d 5 = true → d 4 = true
  o8 : d 8 = true → d 5 = true ∧ d 7 = true
  o11 : d 11 = true → d 8 = true
  f5 : d 5 = true → d 8 = false → OwnM W W0.heap.size (u 5) rows
  f7 : d 7 = true → d 8 = false → SlE 3 eM W (u 7) [x] ∧ ∀ k, (u 7).ownBlock = some k → W0.heap.size ≤ k
  a57 : d 5 = true → d 7 = true → d 8 = false → ∀ k, (u 5).ownBlock = some k → ¬ (u 7).ownBlock = some k
  f8 : d 8 = true → OwnM W W0.heap.size (u 8) (rows ++ [x])
  box : W.heap[B]? = some (.cells #[if d 11 = true then u 8 else lv, rv] 57 (0, 0))

end Go.Proofs.YtconingjdgmodaaDoor
