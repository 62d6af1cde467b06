/-
  Lists of texts that are owned: appended to, and apart from lists of files.
-/
import Derived.Test.YtndblaemladppabGreatDoorFRefR
import Derived.Test.YtndblaemladppabGreatDoorGFile
import Derived.Laws.OwnMore
namespace Go.Proofs.YtndblaemladppabGreatDoor
open Go.RowKit Go.Shelf Go.SeqLib Go.DiffLib Go.TreeLib Go.TextLib Go.BigFrame

/-- Two rows of unlike types lie apart. -/
theorem row_apart {W : World} {b b' : Nat} {e e' : TypeId} {s s' n n' : Nat} {v v' : Value} {xs xs' : List Value} (hne : e ≠ e') (h : W.ownsRow b e s v n xs) (h' : W.ownsRow b' e' s' v' n' xs') : ∀ k, v.ownBlock = some k → ¬ v'.ownBlock = some k := by
  rcases h.2 with ⟨rfl, _⟩ | ⟨g, cap, cur, rfl, hb, hgg, _⟩
  · intro k hk; cases hk
  · rcases h'.2 with ⟨rfl, _⟩ | ⟨g', cap', cur', rfl, hb', hgg', _⟩
    · intro k _ hk; cases hk
    · intro k hk hk'
      cases hk
      cases hk'
      rw [hgg] at hgg'
      cases hgg'
      exact hne rfl
theorem OwnT.chg {W W' : World} {base : Nat} {v : Value} {l : List ByteArray} (h : OwnT W base v l) {S : Blk} (c : Chg S W W') (hd : ∀ k, v.ownBlock = some k → ¬ S k) : OwnT W' base v l := row_kept h (fun k hk => c.block k (World.ownsRow.lt h k hk).2 (hd k hk))
theorem SlT.made1 (w : World) (x : ByteArray) : SlT (w.alloc (.cells #[.string x] 9)) (.slice (some ⟨w.heap.size, 0, none⟩) 1 1) [x] := SlT.one w x
/-- append(s, x) where s is a list of texts that is owned. -/
theorem wpListIn_append_t {F : Fence} {n : Nat} (w : World) {ops : Array Oper} {rest : List Oper} {o : Oper} {a : Act} {Q : Exit → Act → World → Prop}
    (hg : o.guard = none) (s x : Operand) (hop : o.op = Op.call { callee := Callee.builtin Builtin.append, args := #[s, x], argTypes := #[29, 29] })
    (base : Nat) (v : Value) (ls : List ByteArray) (hs : a.eval s = v) (hown : OwnT w base v ls) (p : Option Addr) (m c : Nat) (zs : List ByteArray) (hx : a.eval x = .slice p m c) (hsl : SlT w (.slice p m c) zs)
    (b1 : ls.length + m ≤ 1000000) (b3 : base ≤ w.heap.size)
    (hK : ∀ v' w', OwnT w' base v' (ls ++ zs) → w.grownBy w' v.ownBlock → (v'.ownBlock = v.ownBlock ∨ v'.ownBlock = some w.heap.size) → wpListIn F n Tryz.prog ops Q rest (a.put o.dst v') w') :
    wpListIn F n Tryz.prog ops Q (o :: rest) a w := by
  have hlen : m = zs.length := by obtain ⟨p', c', e, _⟩ := hsl; cases e; simp
  refine wpListIn_append_sv w hg s x hop base v ls.length (ls.map Value.string) hs hown p m c zs hx hsl b1 b3 (fun v' w' r1 r2 r3 => hK v' w' ?_ r2 r3)
  show w'.ownsRow base 9 1 v' (ls ++ zs).length ((ls ++ zs).map Value.string)
  rw [List.length_append, List.map_append, ← hlen]
  exact r1
theorem OwnT.one (w : World) (x : ByteArray) : OwnT (w.alloc (.cells #[.string x] 9)) w.heap.size (.slice (some ⟨w.heap.size, 0, none⟩) 1 1) [x] := World.ownsRow_lit w #[.string x] 1 (Nat.le_refl _) (by decide) rfl

end Go.Proofs.YtndblaemladppabGreatDoor
