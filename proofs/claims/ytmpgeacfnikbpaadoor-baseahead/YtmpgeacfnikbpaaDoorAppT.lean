/-
  append(s, xs...) where s is owned and xs is any slice of texts that reads.
-/
import Derived.Test.YtmpgeacfnikbpaaDoorGTxt
namespace Go.Proofs.YtmpgeacfnikbpaaDoor
open Go.RowKit Go.Shelf Go.SeqLib

theorem run_append_nothing {P : Program} (w : World) {t ty e : TypeId} {i : TypeInfo} (ht : P.underlying t = some (.slice e)) (hi : P.info? e = some i) (p : Option Addr) (k cap c : Nat) (hk : k ≤ cap) (hp : p = none → k = 0 ∧ cap = 0) :
    (Builtin.append_ #[t, t] ty #[.slice p k cap, .slice none 0 c]).run P w = .ok (.slice p k cap) w := by
  cases p with
  | none =>
    obtain ⟨rfl, rfl⟩ := hp rfl
    simp [Builtin.append_, run_underlying ht, sizeOf, typeInfo, hi, Builtin.lenOf, Builtin.firstCells]
  | some a =>
    simp [Builtin.append_, run_underlying ht, sizeOf, typeInfo, hi, Builtin.lenOf, Builtin.firstCells, hk, storeCells]

theorem wpListIn_append_sv {F : Fence} {n : Nat} (w : World) {ops : Array Oper} {rest : List Oper} {o : Oper} {a : Act} {Q : Exit → Act → World → Prop}
    (hg : o.guard = none) (s x : Operand) (hop : o.op = Op.call { callee := Callee.builtin Builtin.append, args := #[s, x], argTypes := #[97, 97] })
    (base : Nat) (v : Value) (k : Nat) (vals : List Value) (hs : a.eval s = v) (hown : w.ownsRow base 9 1 v k vals) (p : Option Addr) (m c : Nat) (zs : List ByteArray) (hx : a.eval x = .slice p m c) (hsl : SlV w (.slice p m c) (zs.map Value.string))
    (b1 : k + m ≤ 1000000) (b3 : base ≤ w.heap.size)
    (hK : ∀ v' w', w'.ownsRow base 9 1 v' (k + m) (vals ++ zs.map Value.string) → w.grownBy w' v.ownBlock → (v'.ownBlock = v.ownBlock ∨ v'.ownBlock = some w.heap.size) → wpListIn F n Tryd.prog ops Q rest (a.put o.dst v') w') :
    wpListIn F n Tryd.prog ops Q (o :: rest) a w := by
  obtain ⟨i0, hi, hz0, hz1, hz2⟩ := info_parts info9
  have hlen : m = zs.length := by obtain ⟨p', c', e, _⟩ := hsl; cases e; simp
  obtain ⟨p', c', e, h1, h2, hc⟩ := hsl
  cases e
  cases p with
  | none =>
    have hz : zs = [] := by
      cases zs with
      | nil => rfl
      | cons x r => obtain ⟨b, off, h, _⟩ := hc 0 (.string x) rfl; cases h
    subst hz
    obtain ⟨pv, cv, rfl⟩ := row_slice hown
    have hkc : k ≤ cv ∧ (pv = none → k = 0 ∧ cv = 0) := by
      rcases hown.2 with ⟨h, rfl⟩ | ⟨g, cap, cur, h, _, _, h3, _⟩
      · cases h; exact ⟨Nat.le_refl _, fun _ => ⟨rfl, rfl⟩⟩
      · cases h; exact ⟨h3, fun h => by cases h⟩
    refine wpListIn_plain hg fun K hK' => ?_
    have hrun := run_append_nothing (P := Tryd.prog) w (ty := o.type) Tryd.underlying97 hi pv k cv c hkc.1 hkc.2
    unfold Oper.wpIn
    refine ⟨?_, ?_⟩
    · simp [Oper.about, hop, resolve, Target.leads, Sem.run_pure]
    · rw [Oper.semAt_plain F _ _ (by rw [hop]; intro c hc'; cases hc')]
      have hx' : a.eval x = .slice none 0 c := hx
      simp [execOp, hop, resolve, invoke, builtin, hs, hx', hrun, Result.andThen]
      exact hK' _ _ (hK _ w (by simpa using hown) ⟨rfl, rfl, rfl, Nat.le_refl _, fun _ _ _ => rfl⟩ (.inl rfl))
  | some ad =>
    refine wpListIn_append_at w hg s x 97 hop base 9 i0 (.string ⟨#[]⟩) 1 16 Tryd.underlying97 hi hz0 hz1 hz2 rfl (by decide) v k vals hs hown ad _ c (zs.map Value.string) hx (by simp) ?_ ?_ (by unfold maxLen; omega) (by omega) b3 (fun v' w' r1 r2 _ r4 => hK v' w' r1 r2 r4)
    · intro j u hj
      obtain ⟨b, off, e, hcell⟩ := hc j u hj
      cases e
      have ea : (⟨b, off, none⟩ : Addr).add j = ⟨b, off + j, none⟩ := by unfold Addr.add; split <;> simp_all
      rw [ea]; exact hcell
    · intro u hu
      obtain ⟨y, _, rfl⟩ := List.mem_map.1 hu
      rfl

end Go.Proofs.YtmpgeacfnikbpaaDoor
