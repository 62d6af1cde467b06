/-
  Operations that make memory, as loud ones of a statement of open order.
-/
import Derived.Test.YtmpgeacfnikbpaaDoorGLoud
import Derived.Test.YtmpgeacfnikbpaaDoorAppT
namespace Go.Proofs.YtmpgeacfnikbpaaDoor
open Go.RowKit Go.Shelf Go.SeqLib

theorem LeadsV.append {n : Nat} {P : Program} {o : Oper} {a : Act} {R : Value → World → Prop} {w : World}
    (s x : Operand) (t : TypeId) (hop : o.op = Op.call { callee := Callee.builtin Builtin.append, args := #[s, x], argTypes := #[t, t] })
    (base : Nat) (e : TypeId) (i : TypeInfo) (z : Value) (size bytes : Nat) (h1 : P.underlying t = some (.slice e)) (h2 : P.info? e = some i) (h3 : i.zero = some z) (h4 : i.size = size) (h5 : i.bytes = bytes) (h6 : z.cells.size = size) (h7 : 0 < size)
    (v : Value) (k : Nat) (xs : List Value) (hs : a.eval s = v) (hown : w.ownsRow base e size v k xs) (ad : Addr) (m c : Nat) (news : List Value) (hx : a.eval x = .slice (some ad) m c) (hn : news.length = m * size)
    (hc : ∀ j u, news[j]? = some u → w.cell? (ad.add j) = some u) (h1c : ∀ u ∈ news, u.oneCell' = true) (b1 : k + m ≤ maxLen) (b2 : (k + m) * bytes ≤ 140737488355328) (b3 : base ≤ w.heap.size)
    (hK : ∀ v' w', w'.ownsRow base e size v' (k + m) (xs ++ news) → w.grownBy w' v.ownBlock → (v'.ownBlock = v.ownBlock ∨ v'.ownBlock = some w.heap.size) → R v' w') : LeadsV P n o a R w := by
  obtain ⟨v', w', hrun, r1, r2, r3, r4⟩ := run_append_own_at (P := P) w base t o.type e i z size bytes h1 h2 h3 h4 h5 h6 h7 v k xs hown ad m c news hn hc h1c b1 b2 b3
  refine LeadsV.value (v := v') (w' := w') ?_ (hK v' w' r1 r2 r4)
  simp [execOp, hop, resolve, invoke, builtin, hs, hx, hrun, Result.andThen]

theorem LeadsV.append_sv {n : Nat} {o : Oper} {a : Act} {R : Value → World → Prop} {w : World}
    (s x : Operand) (hop : o.op = Op.call { callee := Callee.builtin Builtin.append, args := #[s, x], argTypes := #[97, 97] })
    (base : Nat) (v : Value) (k : Nat) (vals : List Value) (hs : a.eval s = v) (hown : w.ownsRow base 9 1 v k vals) (p : Option Addr) (m c : Nat) (zs : List ByteArray) (hx : a.eval x = .slice p m c) (hsl : SlV w (.slice p m c) (zs.map Value.string))
    (b1 : k + m ≤ 1000000) (b3 : base ≤ w.heap.size)
    (hK : ∀ v' w', w'.ownsRow base 9 1 v' (k + m) (vals ++ zs.map Value.string) → w.grownBy w' v.ownBlock → (v'.ownBlock = v.ownBlock ∨ v'.ownBlock = some w.heap.size) → R v' w') : LeadsV Tryd.prog n o a R w := by
  obtain ⟨i0, hi, hz0, hz1, hz2⟩ := info_parts info9
  have hlen : m = zs.length := by obtain ⟨p', c', e, _⟩ := hsl; cases e; simp
  obtain ⟨p', c', e, h1, h2, hc⟩ := hsl
  cases e
  cases p with
  | none =>
    have hz : zs = [] := by
      cases zs with
      | nil => rfl
      | cons x r => obtain ⟨b, off, h, _⟩ := hc 0 (.string x) rfl; cases h
    subst hz
    obtain ⟨pv, cv, rfl⟩ := row_slice hown
    have hkc : k ≤ cv ∧ (pv = none → k = 0 ∧ cv = 0) := by
      rcases hown.2 with ⟨h, rfl⟩ | ⟨g, cap, cur, h, _, _, h3, _⟩
      · cases h; exact ⟨Nat.le_refl _, fun _ => ⟨rfl, rfl⟩⟩
      · cases h; exact ⟨h3, fun h => by cases h⟩
    have hrun := run_append_nothing (P := Tryd.prog) w (ty := o.type) Tryd.underlying97 hi pv k cv c hkc.1 hkc.2
    have hx' : a.eval x = .slice none 0 c := hx
    refine LeadsV.value (v := .slice pv k cv) (w' := w) ?_ (hK _ w (by simpa using hown) ⟨rfl, rfl, rfl, Nat.le_refl _, fun _ _ _ => rfl⟩ (.inl rfl))
    simp [execOp, hop, resolve, invoke, builtin, hs, hx', hrun, Result.andThen]
  | some ad =>
    refine LeadsV.append s x 97 hop base 9 i0 (.string ⟨#[]⟩) 1 16 Tryd.underlying97 hi hz0 hz1 hz2 rfl (by decide) v k vals hs hown ad _ c (zs.map Value.string) hx (by simp) ?_ ?_ (by unfold maxLen; omega) (by omega) b3 hK
    · intro j u hj
      obtain ⟨b, off, e, hcell⟩ := hc j u hj
      cases e
      have ea : (⟨b, off, none⟩ : Addr).add j = ⟨b, off + j, none⟩ := by unfold Addr.add; split <;> simp_all
      rw [ea]; exact hcell
    · intro u hu
      obtain ⟨y, _, rfl⟩ := List.mem_map.1 hu
      rfl
end Go.Proofs.YtmpgeacfnikbpaaDoor
