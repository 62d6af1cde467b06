/-
  The script's state: a pile, and beside it the list that it must be.
-/
import Derived.Test.YtaolebadamfodaaTSl
import Derived.Test.YtaolebadamfodaaAwake
namespace Go.Proofs.Ytaolebadamfodaa.T
open Go.RowKit Go.Shelf Go.SeqLib Go.BigFrame Go.PileLib

theorem wpIn_append_preC {F : Fence} {n : Nat} {P : Program} {dst : Option Tmp} {u : Value} {x : Operand} {t ty : TypeId} {pos : String} {after : Array Edge} {a : Act} {w : World} {K : Act → World → Prop} {Q : Exit → Act → World → Prop} (h : AppOk P t ty w u (a.eval x)) :
    Oper.wpIn F n P { dst := dst, op := Op.call { callee := Callee.builtin Builtin.append, args := #[.const u, x], argTypes := #[t, t] }, type := ty, pos := pos, after := after, guard := none } a w K Q = K (a.put dst (appV P t ty w u (a.eval x))) (appW P t ty w u (a.eval x)) :=
  wpIn_append_pre (s := .const u) h

/-- The pile at B holds what the list in the box Bl tells. -/
def ScrV (w0 : World) (B Bl m : Nat) (L : List ((Int × Int) × Int)) (v : Value) (n : Nat) (S : Blk) (W : World) : Prop :=
  Pile B 10 (ltK keyT) L n S W ∧ (∀ y ∈ L, y.2 < (n : Int)) ∧ n ≤ m ∧ L.length ≤ m ∧ Boxed W Bl 29 v ∧ SlT W v (L.map Prod.fst) ∧ (∀ k, slT v (L.map Prod.fst) k → ¬ S k ∧ k ≠ Bl) ∧ ¬ S Bl ∧ (∀ k, S k → w0.heap.size ≤ k) ∧ w0.heap.size ≤ Bl ∧ Chg No w0 W ∧ (v = .slice none 0 0 ∨ ∃ b off c, v = .slice (some ⟨b, off, none⟩) L.length c)
def Scr (w0 : World) (B Bl m : Nat) (W : World) : Prop := ∃ L v n S, ScrV w0 B Bl m L v n S W

theorem ScrV.no {w0 : World} {B Bl m : Nat} {L : List ((Int × Int) × Int)} {v : Value} {n : Nat} {S : Blk} {W W' : World} (h : ScrV w0 B Bl m L v n S W) (c : Chg No W W') : ScrV w0 B Bl m L v n S W' := by
  obtain ⟨h1, h2, h3, h4, h5, h6, h7, h8, h9, h10, h11, h12⟩ := h
  exact ⟨(Pile.part _ _ _ _ _).chg h1 c (fun _ _ h => h), h2, h3, h4, c.boxed h5 (fun h => h), h6.chg c (fun _ _ h => h), h7, h8, h9, h10, h11.trans c (Grew.refl _ _), h12⟩
theorem ScrV.mono {w0 : World} {B Bl m m' : Nat} {L : List ((Int × Int) × Int)} {v : Value} {n : Nat} {S : Blk} {W : World} (h : ScrV w0 B Bl m L v n S W) (hm : m ≤ m') : ScrV w0 B Bl m' L v n S W := by
  obtain ⟨h1, h2, h3, h4, h5, h6, h7, h8, h9, h10, h11, h12⟩ := h
  exact ⟨h1, h2, Nat.le_trans h3 hm, Nat.le_trans h4 hm, h5, h6, h7, h8, h9, h10, h11, h12⟩
/-- The pile changes; the list's box and what it tells stay. -/
theorem ScrV.pile {w0 : World} {B Bl m : Nat} {L : List ((Int × Int) × Int)} {v : Value} {n : Nat} {S S' : Blk} {W W' : World} (h : ScrV w0 B Bl m L v n S W) (c : Chg S W W') (g : Grew S W S') :
    Boxed W' Bl 29 v ∧ SlT W' v (L.map Prod.fst) ∧ (∀ k, slT v (L.map Prod.fst) k → ¬ S' k ∧ k ≠ Bl) ∧ ¬ S' Bl ∧ (∀ k, S' k → w0.heap.size ≤ k) ∧ Chg No w0 W' := by
  obtain ⟨h1, h2, h3, h4, h5, h6, h7, h8, h9, h10, h11, h12⟩ := h
  refine ⟨c.boxed h5 h8, h6.chg c (fun k hk => (h7 k hk).1), fun k hk => ⟨fun h => ?_, (h7 k hk).2⟩, fun h => ?_, fun k hk => ?_, h11.trans c (fun k h => .inr (h9 k h))⟩
  · rcases g k h with h' | h'
    · exact (h7 k hk).1 h'
    · have := h6.lt k hk; omega
  · rcases g Bl h with h' | h'
    · exact h8 h'
    · have := h5.lt; omega
  · rcases g k hk with h' | h'
    · exact h9 k h'
    · exact Nat.le_trans h11.size h'

/-- The list's box is given another list. -/
theorem boxSet {W : World} {Bl : Nat} {v : Value} (h : Boxed W Bl 29 v) (u : Value) : Boxed (W.setCell ⟨Bl, 0, none⟩ u) Bl 29 u ∧ Chg (fun k => k = Bl) W (W.setCell ⟨Bl, 0, none⟩ u) :=
  ⟨h.set u, (Chg.refl (fun k => k = Bl) W).setCell (p := ⟨Bl, 0, none⟩) (.inl rfl) u⟩
theorem ScrV.list {w0 : World} {B Bl m : Nat} {L : List ((Int × Int) × Int)} {n : Nat} {S : Blk} {W : World} {v u : Value} (h1 : Pile B 10 (ltK keyT) L n S W) (h2 : ∀ y ∈ L, y.2 < (n : Int)) (h3 : n ≤ m) (h4 : L.length ≤ m) (h5 : Boxed W Bl 29 v) (h6 : SlT W u (L.map Prod.fst))
    (h7 : ∀ k, slT u (L.map Prod.fst) k → ¬ S k ∧ k ≠ Bl) (h8 : ¬ S Bl) (h9 : ∀ k, S k → w0.heap.size ≤ k) (h10 : w0.heap.size ≤ Bl) (h11 : Chg No w0 W) (h12 : u = .slice none 0 0 ∨ ∃ b off c, u = .slice (some ⟨b, off, none⟩) L.length c) : ScrV w0 B Bl m L u n S (W.setCell ⟨Bl, 0, none⟩ u) := by
  obtain ⟨b, c⟩ := boxSet h5 u
  exact ⟨(Pile.part _ _ _ _ _).chg h1 c (fun k hk e => h8 (e ▸ hk)), h2, h3, h4, b, h6.chg c (fun k hk => (h7 k hk).2), h7, h8, h9, h10, h11.trans c (fun k h => .inr (by omega)), h12⟩

/-- Where the new one comes in the list. -/
theorem ins_place {L : List ((Int × Int) × Int)} {n : Int} {x : Int × Int} (hs : L.Pairwise (fun a b => bef (ltK keyT) a b = true)) (hn : ∀ y ∈ L, y.2 < n) (k : Nat) (hk : k ≤ (L.map Prod.fst).length)
    (h1 : ∀ i (hi : i < (L.map Prod.fst).length), k ≤ i → x.1 < (L.map Prod.fst)[i].1) (h2 : ∀ (hk : k - 1 < (L.map Prod.fst).length), 0 < k → (L.map Prod.fst)[k - 1].1 ≤ x.1) :
    (ins (bef (ltK keyT)) L (x, n)).map Prod.fst = (L.map Prod.fst).take k ++ [x] ++ (L.map Prod.fst).drop k := by
  have hkl : k ≤ L.length := by simpa using hk
  have hso := List.pairwise_iff_getElem.1 hs
  have hT : ∀ y ∈ L.take k, bef (ltK keyT) y (x, n) = true := fun y hy => by
    obtain ⟨i, hi, rfl⟩ := List.getElem_of_mem hy
    have hi' : i < k := by simp at hi; omega
    have hiL : i < L.length := by omega
    rw [List.getElem_take, bef_iff]
    have hlast : L[k - 1].1.1 ≤ x.1 := by
      have := h2 (by simp; omega) (by omega)
      simpa using this
    have hle : L[i].1.1 ≤ L[k - 1].1.1 := by
      by_cases e : i = k - 1
      · simp [e]
      · have := hso i (k - 1) hiL (by omega) (by omega)
        rw [bef_iff] at this
        simp only [keyT] at this
        omega
    have := hn L[i] (List.getElem_mem hiL)
    show keyT L[i].1 < keyT x ∨ _
    simp only [keyT]
    omega
  have hD : ∀ y ∈ L.drop k, bef (ltK keyT) y (x, n) = false := fun y hy => by
    obtain ⟨i, hi, rfl⟩ := List.getElem_of_mem hy
    have hi' : k + i < L.length := by simp at hi; omega
    rw [List.getElem_drop, Bool.eq_false_iff, Ne, bef_iff]
    have := h1 (k + i) (by simpa using hi') (by omega)
    simp only [List.getElem_map] at this
    show ¬ (keyT L[k + i].1 < keyT x ∨ keyT L[k + i].1 = keyT x ∧ _)
    simp only [keyT]
    omega
  have e : L = L.take k ++ L.drop k := (List.take_append_drop k L).symm
  unfold ins
  rw [show L.filter (fun y => bef (ltK keyT) y (x, n)) = L.take k by
    conv => lhs; rw [e, List.filter_append]
    rw [List.filter_eq_self.2 hT, List.filter_eq_nil_iff.2 (fun y hy => by simp [hD y hy])]; simp]
  rw [show L.filter (fun y => !bef (ltK keyT) y (x, n)) = L.drop k by
    conv => lhs; rw [e, List.filter_append]
    rw [List.filter_eq_nil_iff.2 (fun y hy => by simp [hT y hy]), List.filter_eq_self.2 (fun y hy => by simp [hD y hy])]; simp]
  simp [List.map_take, List.map_drop]

theorem row_form {W : World} {base : Nat} {v : Value} {n : Nat} {xs : List Value} (h : W.ownsRow base 27 2 v n xs) : v = .slice none 0 0 ∨ ∃ b off c, v = .slice (some ⟨b, off, none⟩) n c := by
  rcases h.2 with ⟨h, _⟩ | ⟨g, cap, cur, h, _⟩
  · exact .inl h
  · exact .inr ⟨g, 0, cap, h⟩
/-- Three appends in a row: a slice, one thing, a slice. -/
theorem put_apps (Wd : World) (x y : Int) (dp : Option Addr) (dc : Nat) (ts ds : List (Int × Int)) (hD : SlT Wd (.slice dp ds.length dc) ds) (hb : ts.length + ds.length ≤ 500) (W' : World) (c0 : Chg No Wd W') (px : Nat) (hx : ∀ w, Chg No W' w → SlT w (.slice (some ⟨px, 0, none⟩) 1 1) [(x, y)]) (v1 : Value) (h1 : W'.ownsRow Wd.heap.size 27 2 v1 ts.length (flatT ts)) :
    ∃ v2 w2 v3 w3, AppOk Try.prog 29 29 W' v1 (.slice (some ⟨px, 0, none⟩) 1 1) ∧ appV Try.prog 29 29 W' v1 (.slice (some ⟨px, 0, none⟩) 1 1) = v2 ∧ appW Try.prog 29 29 W' v1 (.slice (some ⟨px, 0, none⟩) 1 1) = w2 ∧
      AppOk Try.prog 29 29 w2 v2 (.slice dp ds.length dc) ∧ appV Try.prog 29 29 w2 v2 (.slice dp ds.length dc) = v3 ∧ appW Try.prog 29 29 w2 v2 (.slice dp ds.length dc) = w3 ∧ w3.ownsRow Wd.heap.size 27 2 v3 (ts ++ [(x, y)] ++ ds).length (flatT (ts ++ [(x, y)] ++ ds)) ∧ Chg No Wd w3 ∧ Chg No Wd w2 := by
  obtain ⟨v2, w2, a1, a2, a3, a4, a5, _⟩ := app_slT W' Wd.heap.size v1 ts h1 (some ⟨px, 0, none⟩) 1 [(x, y)] (hx W' (Chg.refl _ _)) (by simp; omega) c0.size
  have c2 : Chg No Wd w2 := c0.grown a5 (fun k e => .inr (World.ownsRow.lt h1 k e).1)
  obtain ⟨v3, w3, b1, b2, b3, b4, b5, _⟩ := app_slT w2 Wd.heap.size v2 (ts ++ [(x, y)]) a4 dp dc ds (hD.chg c2 (fun _ _ h => h)) (by simp; omega) c2.size
  exact ⟨v2, w2, v3, w3, a1, a2, a3, b1, b2, b3, b4, c2.grown b5 (fun k e => .inr (World.ownsRow.lt a4 k e).1), c2⟩

theorem SlT.one (W : World) (x y : Int) : SlT (W.alloc (.cells #[.int .i64 x, .int .i64 y] 27)) (.slice (some ⟨W.heap.size, 0, none⟩) 1 1) [(x, y)] := by
  refine ⟨_, 1, rfl, by simp, by simp [maxLen], fun i z hi => ⟨W.heap.size, 0, rfl, ?_⟩⟩
  match i, hi with
  | 0, hi => simp at hi; subst hi; simp
end Go.Proofs.Ytaolebadamfodaa.T
