/-
  three's own piece and choice, at texts.
-/
import Derived.Test.YtakbeololabmhaaGreatDoorG23
import Derived.Test.YtakbeololabmhaaGreatDoorG10
namespace Go.Proofs.YtakbeololabmhaaGreatDoor
open Go.RowKit Go.Shelf Go.SeqLib Go.DiffLib Go.BigFrame
attribute [local go_sem] Oper.semAt_some

/-- A part in its box. -/
def Box4 (W : World) (B : Nat) (c x y z : Value) : Prop := W.heap[B]? = some (.cells #[c, x, y, z] 162)
section
variable {W W' : World} {B : Nat} {c x y z : Value}
theorem Box4.lt (h : Box4 W B c x y z) : B < W.heap.size := (Array.getElem?_eq_some_iff.1 h).1
theorem Box4.cells (h : Box4 W B c x y z) : W.cell? ⟨B, 0, none⟩ = some c ∧ W.cell? ⟨B, 1, none⟩ = some x ∧ W.cell? ⟨B, 2, none⟩ = some y ∧ W.cell? ⟨B, 3, none⟩ = some z := by
  unfold Box4 at h
  simp [World.cell?, h]
theorem Box4.frozen (h : Box4 W B c x y z) (j : Nat) : W.frozen? ⟨B, j, none⟩ = false := by
  unfold Box4 at h
  simp [World.frozen?, h]
theorem Box4.chg (h : Box4 W B c x y z) {S : Blk} (k : Chg S W W') (hS : ¬ S B) : Box4 W' B c x y z := k.same h hS
theorem set_cells {g : Nat} {cur : Array Value} {ty : TypeId} {fr : Nat × Nat} (hg : W.heap[g]? = some (.cells cur ty fr)) (k : Nat) (u : Value) : (W.setCell ⟨g, k, none⟩ u).heap[g]? = some (.cells (cur.setIfInBounds k u) ty fr) := by
  obtain ⟨hlt, hk⟩ := Array.getElem?_eq_some_iff.1 hg
  show (W.heap.modify g _)[g]? = _
  rw [Array.getElem?_eq_getElem (by rw [Array.size_modify]; exact hlt), Array.getElem_modify_self, hk]
  rfl
theorem Box4.set (h : Box4 W B c x y z) (c' x' y' z' : Value) : Box4 ((((W.setCell ⟨B, 0, none⟩ c').setCell ⟨B, 1, none⟩ x').setCell ⟨B, 2, none⟩ y').setCell ⟨B, 3, none⟩ z') B c' x' y' z' :=
  set_cells (set_cells (set_cells (set_cells h 0 c') 1 x') 2 y') 3 z'
theorem Box4.set0 (h : Box4 W B c x y z) (c' : Value) : Box4 (W.setCell ⟨B, 0, none⟩ c') B c' x y z := set_cells h 0 c'
end
theorem info162 : (Tryz.prog.info? 162).map (fun i => (i.zero, i.size, i.bytes)) = some (some (.agg #[.bool false, .slice none 0 0, .slice none 0 0, .slice none 0 0]), 4, 80) := by kernel_rfl

/-- Two values that own no block together. -/
def Dis (x y : Value) : Prop := ∀ k, x.ownBlock = some k → ¬ y.ownBlock = some k
/-- Three lists that are owned, apart. -/
structure Own3 (W : World) (base : Nat) (x y z : Value) (p : Prt ByteArray) : Prop where
  o : W.ownsRow base 9 1 x p.o.length (p.o.map Value.string)
  a : W.ownsRow base 9 1 y p.a.length (p.a.map Value.string)
  b : W.ownsRow base 9 1 z p.b.length (p.b.map Value.string)
  oa : Dis x y
  ob : Dis x z
  ab : Dis y z
theorem Own3.chg {W W' : World} {base : Nat} {x y z : Value} {p : Prt ByteArray} (h : Own3 W base x y z p) {S : Blk} (c : Chg S W W') (hS : ∀ k, (x.ownBlock = some k ∨ y.ownBlock = some k ∨ z.ownBlock = some k) → ¬ S k) : Own3 W' base x y z p := {
  o := own_still h.o c (fun k hk => hS k (.inl hk))
  a := own_still h.a c (fun k hk => hS k (.inr (.inl hk)))
  b := own_still h.b c (fun k hk => hS k (.inr (.inr hk)))
  oa := h.oa
  ob := h.ob
  ab := h.ab }
theorem Own3.lt {W : World} {base : Nat} {x y z : Value} {p : Prt ByteArray} (h : Own3 W base x y z p) : ∀ k, (x.ownBlock = some k ∨ y.ownBlock = some k ∨ z.ownBlock = some k) → base ≤ k ∧ k < W.heap.size := by
  rintro k (hk | hk | hk)
  · exact h.o.lt k hk
  · exact h.a.lt k hk
  · exact h.b.lt k hk
theorem Own3.less {W : World} {base base' : Nat} {x y z : Value} {p : Prt ByteArray} (h : Own3 W base x y z p) (hb : base' ≤ base) : Own3 W base' x y z p := {
  o := rowBase h.o hb
  a := rowBase h.a hb
  b := rowBase h.b hb
  oa := h.oa
  ob := h.ob
  ab := h.ab }

/-- What holds while the piece is made. -/
structure PInv (W0 : World) (xs : Nat → List ByteArray) (d : Nat → Bool) (u : Nat → Value) (W : World) : Prop where
  chg : Chg No W0 W
  row : ∀ i, (i = 7 ∨ i = 15 ∨ i = 23) → d i = true → W.ownsRow W0.heap.size 9 1 (u i) (xs i).length ((xs i).map Value.string)
  dis : ∀ i j, (i = 7 ∨ i = 15 ∨ i = 23) → (j = 7 ∨ j = 15 ∨ j = 23) → i ≠ j → d i = true → d j = true → Dis (u i) (u j)
  box : d 25 = true → ∃ B c x y z, u 25 = .pointer (some ⟨B, 0, none⟩) ∧ W0.heap.size ≤ B ∧ Box4 W B c x y z ∧ (d 26 = true → c = .bool false ∧ x = u 7 ∧ y = u 15 ∧ z = u 23) ∧ ∀ i, (i = 7 ∨ i = 15 ∨ i = 23) → d i = true → ¬ (u i).ownBlock = some B
  bld : d 24 = true → d 7 = true ∧ d 15 = true ∧ d 23 = true ∧ u 24 = .agg #[.bool false, u 7, u 15, u 23]
  last : d 26 = true → d 24 = true ∧ d 25 = true

theorem PInv.own {W0 : World} {xs : Nat → List ByteArray} {d : Nat → Bool} {u : Nat → Value} {W W' : World} (h : PInv W0 xs d u W) {i : Nat} (hi : i = 7 ∨ i = 15 ∨ i = 23) (hd : d i = false) {v : Value} (hr : W'.ownsRow W.heap.size 9 1 v (xs i).length ((xs i).map Value.string)) (c : Chg No W W') :
    PInv W0 xs (fun j => if j = i then true else d j) (fun j => if j = i then v else u j) W' :=
  have hn4 : d 24 = false := by
    cases hc : d 24 with
    | false => rfl
    | true =>
      obtain ⟨h1, h2, h3, _⟩ := h.bld hc
      rcases hi with rfl | rfl | rfl
      · rw [hd] at h1; cases h1
      · rw [hd] at h2; cases h2
      · rw [hd] at h3; cases h3
  have hn : d 26 = false := by
    cases hc : d 26 with
    | false => rfl
    | true => have := (h.last hc).1; rw [hn4] at this; cases this
  { chg := Chg.seq h.chg c
    row := fun j hj hdj => by
      by_cases e : j = i
      · subst e; simp only [if_true]; exact rowBase hr h.chg.size
      · simp only [if_neg e] at hdj ⊢; exact own_still (h.row j hj hdj) c (fun _ _ h => h)
    dis := fun j l hj hl hne hdj hdl => by
      by_cases e : j = i
      · subst e
        have e2 : ¬ l = j := fun h => hne h.symm
        simp only [if_neg e2] at hdl
        simp only [if_true, if_neg e2]
        intro k h1 h2
        have := (hr.lt k h1).1
        have := ((h.row l hl hdl).lt k h2).2
        omega
      · simp only [if_neg e] at hdj ⊢
        by_cases e2 : l = i
        · subst e2
          simp only [if_true]
          intro k h1 h2
          have := (hr.lt k h2).1
          have := ((h.row j hj hdj).lt k h1).2
          omega
        · simp only [if_neg e2] at hdl ⊢
          exact h.dis j l hj hl hne hdj hdl
    box := fun hd25 => by
      have e : ¬ 25 = i := by rcases hi with rfl | rfl | rfl <;> omega
      have e6 : ¬ 26 = i := by rcases hi with rfl | rfl | rfl <;> omega
      simp only [if_neg e] at hd25 ⊢
      obtain ⟨B, c0, x, y, z, h1, h2, h3, h4, h5⟩ := h.box hd25
      refine ⟨B, c0, x, y, z, h1, h2, h3.chg c (fun h => h), fun h26 => ?_, fun j hj hdj => ?_⟩
      · simp only [if_neg e6] at h26
        rw [hn] at h26; cases h26
      · by_cases e3 : j = i
        · subst e3
          simp only [if_true]
          intro h6
          have := (hr.lt B h6).1
          have := h3.lt
          omega
        · simp only [if_neg e3] at hdj ⊢
          exact h5 j hj hdj
    bld := fun h24 => by
      have e4 : ¬ 24 = i := by rcases hi with rfl | rfl | rfl <;> omega
      simp only [if_neg e4] at h24
      rw [hn4] at h24; cases h24
    last := fun h26 => by
      have e6 : ¬ 26 = i := by rcases hi with rfl | rfl | rfl <;> omega
      simp only [if_neg e6] at h26
      rw [hn] at h26; cases h26 }
theorem PInv.box25 {W0 : World} {xs : Nat → List ByteArray} {d : Nat → Bool} {u : Nat → Value} {W : World} (h : PInv W0 xs d u W) (hd : d 25 = false) :
    PInv W0 xs (fun j => if j = 25 then true else d j) (fun j => if j = 25 then .pointer (some ⟨W.heap.size, 0, none⟩) else u j) (W.alloc (.cells #[.bool false, .slice none 0 0, .slice none 0 0, .slice none 0 0] 162)) :=
  have hn : d 26 = false := by
    cases hc : d 26 with
    | false => rfl
    | true => have := (h.last hc).2; rw [hd] at this; cases this
  have ne : ∀ i, (i = 7 ∨ i = 15 ∨ i = 23) → ¬ i = 25 := by rintro i (rfl | rfl | rfl) <;> omega
  { chg := h.chg.alloc _
    row := fun j hj hdj => by
      simp only [if_neg (ne j hj)] at hdj ⊢
      exact own_still (h.row j hj hdj) ((Chg.refl No W).alloc _) (fun _ _ h => h)
    dis := fun j l hj hl hne hdj hdl => by
      simp only [if_neg (ne j hj), if_neg (ne l hl)] at hdj hdl ⊢
      exact h.dis j l hj hl hne hdj hdl
    box := fun _ => by
      refine ⟨W.heap.size, _, _, _, _, by simp only [if_true], h.chg.size, World.alloc_heap_new W _, fun h26 => ?_, fun j hj hdj => ?_⟩
      · simp only [show ¬ 26 = 25 by omega, if_false] at h26
        rw [hn] at h26; cases h26
      · simp only [if_neg (ne j hj)] at hdj ⊢
        intro h6
        have := ((h.row j hj hdj).lt _ h6).2
        omega
    bld := fun h24 => by
      simp only [show ¬ 24 = 25 by omega, show ¬ 7 = 25 by omega, show ¬ 15 = 25 by omega, show ¬ 23 = 25 by omega, if_false] at h24 ⊢
      exact h.bld h24
    last := fun h26 => by
      simp only [show ¬ 26 = 25 by omega, if_false] at h26
      rw [hn] at h26; cases h26 }
theorem PInv.built {W0 : World} {xs : Nat → List ByteArray} {d : Nat → Bool} {u : Nat → Value} {W : World} (h : PInv W0 xs d u W) (h7 : d 7 = true) (h15 : d 15 = true) (h23 : d 23 = true) (h24 : d 24 = false) :
    PInv W0 xs (fun j => if j = 24 then true else d j) (fun j => if j = 24 then .agg #[.bool false, u 7, u 15, u 23] else u j) W :=
  have hn : d 26 = false := by
    cases hc : d 26 with
    | false => rfl
    | true => have := (h.last hc).1; rw [h24] at this; cases this
  have ne : ∀ i, (i = 7 ∨ i = 15 ∨ i = 23) → ¬ i = 24 := by rintro i (rfl | rfl | rfl) <;> omega
  { chg := h.chg
    row := fun j hj hdj => by
      simp only [if_neg (ne j hj)] at hdj ⊢
      exact h.row j hj hdj
    dis := fun j l hj hl hne hdj hdl => by
      simp only [if_neg (ne j hj), if_neg (ne l hl)] at hdj hdl ⊢
      exact h.dis j l hj hl hne hdj hdl
    box := fun hd => by
      simp only [show ¬ 25 = 24 by omega, if_false] at hd ⊢
      obtain ⟨B, c, x, y, z, h1, h2, h3, h4, h5⟩ := h.box hd
      refine ⟨B, c, x, y, z, h1, h2, h3, fun h26 => ?_, fun j hj hdj => ?_⟩
      · simp only [show ¬ 26 = 24 by omega, if_false] at h26
        rw [hn] at h26; cases h26
      · simp only [if_neg (ne j hj)] at hdj ⊢
        exact h5 j hj hdj
    bld := fun _ => by simp [h7, h15, h23]
    last := fun h26 => by
      simp only [show ¬ 26 = 24 by omega, if_false] at h26
      rw [hn] at h26; cases h26 }
theorem PInv.stored {W0 : World} {xs : Nat → List ByteArray} {d : Nat → Bool} {u : Nat → Value} {W : World} (h : PInv W0 xs d u W) (h24 : d 24 = true) (h25 : d 25 = true) {B : Nat} (hB : u 25 = .pointer (some ⟨B, 0, none⟩)) (v : Value) :
    PInv W0 xs (fun j => if j = 26 then true else d j) (fun j => if j = 26 then v else u j) ((((W.setCell ⟨B, 0, none⟩ (.bool false)).setCell ⟨B, 1, none⟩ (u 7)).setCell ⟨B, 2, none⟩ (u 15)).setCell ⟨B, 3, none⟩ (u 23)) :=
  have ne : ∀ i, (i = 7 ∨ i = 15 ∨ i = 23) → ¬ i = 26 := by rintro i (rfl | rfl | rfl) <;> omega
  have hbox := h.box h25
  have key : ∃ c x y z, W0.heap.size ≤ B ∧ Box4 W B c x y z ∧ ∀ i, (i = 7 ∨ i = 15 ∨ i = 23) → d i = true → ¬ (u i).ownBlock = some B := by
    obtain ⟨B', c, x, y, z, e, h1, h2, _, h3⟩ := hbox
    rw [hB] at e
    cases e
    exact ⟨c, x, y, z, h1, h2, h3⟩
  have cc : Chg (fun k => k = B) W ((((W.setCell ⟨B, 0, none⟩ (.bool false)).setCell ⟨B, 1, none⟩ (u 7)).setCell ⟨B, 2, none⟩ (u 15)).setCell ⟨B, 3, none⟩ (u 23)) :=
    ((((Chg.refl (fun k => k = B) W).setCell (p := ⟨B, 0, none⟩) (.inl rfl) _).setCell (p := ⟨B, 1, none⟩) (.inl rfl) _).setCell (p := ⟨B, 2, none⟩) (.inl rfl) _).setCell (p := ⟨B, 3, none⟩) (.inl rfl) _
  { chg := by
      obtain ⟨_, _, _, _, h1, _⟩ := key
      exact h.chg.trans cc (fun k hk => .inr (by subst hk; exact h1))
    row := fun j hj hdj => by
      simp only [if_neg (ne j hj)] at hdj ⊢
      obtain ⟨_, _, _, _, _, _, h3⟩ := key
      exact own_still (h.row j hj hdj) cc (fun k hk e => h3 j hj hdj (by rw [← e]; exact hk))
    dis := fun j l hj hl hne hdj hdl => by
      simp only [if_neg (ne j hj), if_neg (ne l hl)] at hdj hdl ⊢
      exact h.dis j l hj hl hne hdj hdl
    box := fun _ => by
      obtain ⟨c, x, y, z, h1, h2, h3⟩ := key
      refine ⟨B, _, _, _, _, by simpa using hB, h1, h2.set _ _ _ _, fun _ => ⟨rfl, by simp, by simp, by simp⟩, fun j hj hdj => ?_⟩
      simp only [if_neg (ne j hj)] at hdj ⊢
      exact h3 j hj hdj
    bld := fun _ => by
      simp only [show ¬ 24 = 26 by omega, show ¬ 7 = 26 by omega, show ¬ 15 = 26 by omega, show ¬ 23 = 26 by omega, if_false]
      exact h.bld h24
    last := fun _ => by simp [h24, h25] }

theorem fourBoxes (w : World) (c vo va vb : Value) (s1 s2 s3 t1 t2 t3 : Int) : ∃ W0, W0 = ((((w.alloc (.cells #[c, vo, va, vb] 162)).alloc (.cells #[.int .i64 s1, .int .i64 s2, .int .i64 s3] 181)).alloc (.cells #[.int .i64 t1, .int .i64 t2, .int .i64 t3] 181)).alloc (.cells #[.bool false, .slice none 0 0, .slice none 0 0, .slice none 0 0] 162)) ∧
    Chg No w W0 ∧ Box4 W0 w.heap.size c vo va vb ∧ (W0.cell? ⟨w.heap.size + 1, 0, none⟩ = some (.int .i64 s1) ∧ W0.cell? ⟨w.heap.size + 1, 1, none⟩ = some (.int .i64 s2) ∧ W0.cell? ⟨w.heap.size + 1, 2, none⟩ = some (.int .i64 s3)) ∧
    (W0.cell? ⟨w.heap.size + 1 + 1, 0, none⟩ = some (.int .i64 t1) ∧ W0.cell? ⟨w.heap.size + 1 + 1, 1, none⟩ = some (.int .i64 t2) ∧ W0.cell? ⟨w.heap.size + 1 + 1, 2, none⟩ = some (.int .i64 t3)) ∧
    Box4 W0 (w.heap.size + 1 + 1 + 1) (.bool false) (.slice none 0 0) (.slice none 0 0) (.slice none 0 0) := by
  refine ⟨_, rfl, (((Chg.refl _ w).alloc _).alloc _).alloc _ |>.alloc _, ?_, ?_, ?_, ?_⟩
  · have h : Box4 (w.alloc (.cells #[c, vo, va, vb] 162)) w.heap.size c vo va vb := World.alloc_heap_new w _
    exact h.chg ((((Chg.refl No _).alloc _).alloc _).alloc _) (fun h => h)
  · have h : ∀ j u, (#[.int .i64 s1, .int .i64 s2, .int .i64 s3] : Array Value)[j]? = some u → ((w.alloc (.cells #[c, vo, va, vb] 162)).alloc (.cells #[.int .i64 s1, .int .i64 s2, .int .i64 s3] 181)).cell? ⟨w.heap.size + 1, j, none⟩ = some u := fun j u hj => by
      rw [show w.heap.size + 1 = (w.alloc (.cells #[c, vo, va, vb] 162)).heap.size by simp, World.cell?_alloc_at _ _ _ _ rfl]
      exact hj
    have cc : Chg No ((w.alloc (.cells #[c, vo, va, vb] 162)).alloc (.cells #[.int .i64 s1, .int .i64 s2, .int .i64 s3] 181)) _ := ((Chg.refl No _).alloc (.cells #[.int .i64 t1, .int .i64 t2, .int .i64 t3] 181)).alloc (.cells #[.bool false, .slice none 0 0, .slice none 0 0, .slice none 0 0] 162)
    exact ⟨(After.mk _ cc).cell (h 0 _ rfl), (After.mk _ cc).cell (h 1 _ rfl), (After.mk _ cc).cell (h 2 _ rfl)⟩
  · have h : ∀ j u, (#[.int .i64 t1, .int .i64 t2, .int .i64 t3] : Array Value)[j]? = some u → (((w.alloc (.cells #[c, vo, va, vb] 162)).alloc (.cells #[.int .i64 s1, .int .i64 s2, .int .i64 s3] 181)).alloc (.cells #[.int .i64 t1, .int .i64 t2, .int .i64 t3] 181)).cell? ⟨w.heap.size + 1 + 1, j, none⟩ = some u := fun j u hj => by
      rw [show w.heap.size + 1 + 1 = ((w.alloc (.cells #[c, vo, va, vb] 162)).alloc (.cells #[.int .i64 s1, .int .i64 s2, .int .i64 s3] 181)).heap.size by simp, World.cell?_alloc_at _ _ _ _ rfl]
      exact hj
    have cc : Chg No (((w.alloc (.cells #[c, vo, va, vb] 162)).alloc (.cells #[.int .i64 s1, .int .i64 s2, .int .i64 s3] 181)).alloc (.cells #[.int .i64 t1, .int .i64 t2, .int .i64 t3] 181)) _ := (Chg.refl No _).alloc (.cells #[.bool false, .slice none 0 0, .slice none 0 0, .slice none 0 0] 162)
    exact ⟨(After.mk _ cc).cell (h 0 _ rfl), (After.mk _ cc).cell (h 1 _ rfl), (After.mk _ cc).cell (h 2 _ rfl)⟩
  · have := World.alloc_heap_new (((w.alloc (.cells #[c, vo, va, vb] 162)).alloc (.cells #[.int .i64 s1, .int .i64 s2, .int .i64 s3] 181)).alloc (.cells #[.int .i64 t1, .int .i64 t2, .int .i64 t3] 181)) (.cells #[.bool false, .slice none 0 0, .slice none 0 0, .slice none 0 0] 162)
    unfold Box4
    simpa using this

set_option maxRecDepth 100000 in
set_option maxHeartbeats 4000000 in
theorem piece_in (c0 : Bool) (vo va vb : Value) (o a b : List ByteArray) (s t : Pl) (w : World) (hv : SlV w vo (o.map Value.string)) (hu : SlV w va (a.map Value.string)) (ht : SlV w vb (b.map Value.string)) (ho : o.length ≤ 400) (ha : a.length ≤ 400) (hb : b.length ≤ 400)
    (hs1 : s.1 ≤ t.1) (hs2 : s.2.1 ≤ t.2.1) (hs3 : s.2.2 ≤ t.2.2) (ht1 : t.1 ≤ o.length) (ht2 : t.2.1 ≤ a.length) (ht3 : t.2.2 ≤ b.length) :
    CallsIn Fence.wide 0 Tryz.prog 165 #[.agg #[.bool c0, vo, va, vb], vT s, vT t] w fun e w' => ∃ x y z, e = .returned (.agg #[.bool (prt o a b s t).c, x, y, z]) ∧ Own3 w' w.heap.size x y z (prt o a b s t) ∧ Chg No w w' := by
  have hmix : Tryz.prog.follows .mixedOrders = true := by kernel_rfl
  obtain ⟨p, cp, rfl, _⟩ := id hv
  obtain ⟨q, cq, rfl, _⟩ := id hu
  obtain ⟨r, cr, rfl, _⟩ := id ht
  rw [List.length_map] at hv hu ht
  rw [List.length_map, List.length_map, List.length_map]
  obtain ⟨p1, c1, sl1, _, hc1⟩ := SlV.mid hv (by simp) s.1 t.1 hs1 ht1
  obtain ⟨p2, c2, sl2, _, hc2⟩ := SlV.mid hu (by simp) s.2.1 t.2.1 hs2 ht2
  obtain ⟨p3, c3, sl3, _, hc3⟩ := SlV.mid ht (by simp) s.2.2 t.2.2 hs3 ht3
  rw [← List.map_take, ← List.map_drop] at sl1 sl2 sl3
  have hk1 : t.1 - s.1 ≤ 1000 := by omega
  have hk2 : t.2.1 - s.2.1 ≤ 1000 := by omega
  have hk3 : t.2.2 - s.2.2 ≤ 1000 := by omega
  have HP : Hid (prt o a b s t = mk3 (cut o s.1 t.1) (cut a s.2.1 t.2.1) (cut b s.2.2 t.2.2)) := rfl
  have hl1 : (cut o s.1 t.1).length ≤ 400 := Nat.le_trans (cut_length _ _ _) ho
  have hl2 : (cut a s.2.1 t.2.1).length ≤ 400 := Nat.le_trans (cut_length _ _ _) ha
  have hl3 : (cut b s.2.2 t.2.2).length ≤ 400 := Nat.le_trans (cut_length _ _ _) hb
  change SlV w _ ((cut o s.1 t.1).map Value.string) at sl1
  change SlV w _ ((cut a s.2.1 t.2.1).map Value.string) at sl2
  change SlV w _ ((cut b s.2.2 t.2.2).map Value.string) at sl3
  rw [HP.out]
  clear HP
  generalize cut o s.1 t.1 = X at *
  generalize cut a s.2.1 t.2.1 = Y at *
  generalize cut b s.2.2 t.2.2 = Z at *
  generalize t.1 - s.1 = n1 at *
  generalize t.2.1 - s.2.1 = n2 at *
  generalize t.2.2 - s.2.2 = n3 at *
  generalize o.length = lo at *
  generalize a.length = la at *
  generalize b.length = lb at *
  clear hv hu ht hs1 hs2 hs3 ht1 ht2 ht3 ho ha hb
  have HC : Hid ((mk3 X Y Z).c = (!decide (Y = Z) && (!decide (Y = X) && !decide (Z = X)))) := by
    show decide _ = _
    by_cases h1 : Y = Z <;> by_cases h2 : Y = X <;> by_cases h3 : Z = X <;> simp [h1, h2, h3]
  obtain ⟨z1, hz1⟩ : ∃ z, decide (Y = Z) = z := ⟨_, rfl⟩
  obtain ⟨z2, hz2⟩ : ∃ z, decide (Y = X) = z := ⟨_, rfl⟩
  obtain ⟨z3, hz3⟩ : ∃ z, decide (Z = X) = z := ⟨_, rfl⟩
  rw [HC.out, hz1, hz2, hz3]
  clear HC
  obtain ⟨s1, s2, s3⟩ := s
  obtain ⟨t1, t2, t3⟩ := t
  simp only at hc1 hc2 hc3
  refine callsIn_of_wp Tryz.func165 rfl trivial ?_
  simp only [Tryz.ntmps165, List.size_toArray, List.length_cons, List.length_nil, Nat.reduceAdd, Nat.reduceSub, Array.replicate_succ, Array.replicate_zero, List.push_toArray, List.append_toArray, List.nil_append, List.cons_append]
  obtain ⟨W0, hW0, cW0, bx, ⟨f1, f2, f3⟩, ⟨f4, f5, f6⟩, br⟩ := fourBoxes w (.bool c0) (.slice p lo cp) (.slice q la cq) (.slice r lb cr) (s1 : Int) (s2 : Int) (s3 : Int) (t1 : Int) (t2 : Int) (t3 : Int)
  obtain ⟨e0, e1, e2, e3⟩ := bx.cells
  gi_wp2
  rw [← hW0]
  clear hW0
  have hany := After.any W0
  have g1 : ∀ c : After W0, c.val.cell? ⟨w.heap.size, 1, none⟩ = some (.slice p lo cp) := fun c => c.cell e1
  have g2 : ∀ c : After W0, c.val.cell? ⟨w.heap.size, 2, none⟩ = some (.slice q la cq) := fun c => c.cell e2
  have g3 : ∀ c : After W0, c.val.cell? ⟨w.heap.size, 3, none⟩ = some (.slice r lb cr) := fun c => c.cell e3
  have g4 : ∀ c : After W0, c.val.cell? ⟨w.heap.size + 1, 0, none⟩ = some (.int .i64 (s1 : Int)) := fun c => c.cell f1
  have g5 : ∀ c : After W0, c.val.cell? ⟨w.heap.size + 1, 1, none⟩ = some (.int .i64 (s2 : Int)) := fun c => c.cell f2
  have g6 : ∀ c : After W0, c.val.cell? ⟨w.heap.size + 1, 2, none⟩ = some (.int .i64 (s3 : Int)) := fun c => c.cell f3
  have g7 : ∀ c : After W0, c.val.cell? ⟨w.heap.size + 1 + 1, 0, none⟩ = some (.int .i64 (t1 : Int)) := fun c => c.cell f4
  have g8 : ∀ c : After W0, c.val.cell? ⟨w.heap.size + 1 + 1, 1, none⟩ = some (.int .i64 (t2 : Int)) := fun c => c.cell f5
  have g9 : ∀ c : After W0, c.val.cell? ⟨w.heap.size + 1 + 1, 2, none⟩ = some (.int .i64 (t3 : Int)) := fun c => c.cell f6
  have S1 := sl1.no cW0
  have S2 := sl2.no cW0
  have S3 := sl3.no cW0
  refine region_loudE (fun i => i == 7 || i == 15 || i == 23 || i == 24 || i == 25 || i == 26) (fun w' => ∃ c : After W0, w' = c.val) (PInv W0 (fun i => if i = 7 then X else if i = 15 then Y else Z)) hmix (by kernel_rfl) (by kernel_rfl) (fun d u W h => ⟨⟨W, h.chg⟩, rfl⟩) (fun u => ?_) (fun u => ?_)
  · exact ⟨(Chg.refl _ W0).drew, fun _ _ h => by simp at h, fun _ _ _ _ _ h => by simp at h, fun h => by simp at h, fun h => by simp at h, fun h => by simp at h⟩
  simp only [hushE, Nat.reduceAdd, Nat.reduceBEq, Bool.or_self, Bool.or_true, Bool.or_false, if_true, if_false, Bool.false_eq_true]
  repeat (gi_big_quiet_step (fail))
  refine wpQuietIn_nil ⟨?_, ?_⟩
  · intro i o d W ho hm hd hwt hI
    simp only [Bool.or_eq_true, beq_iff_eq] at hm
    rcases hm with ((((rfl | rfl) | rfl) | rfl) | rfl) | rfl
    · cases ho
      refine LeadsV.call (f := 180) (args := #[.slice p1 n1 c1]) (by simp [go_sem]) ((own_in p1 n1 c1 X W (S1.no hI.chg) hk1).mono ?_)
      rintro e W' ⟨v', rfl, hr, c'⟩
      exact ⟨v', rfl, hI.own (.inl rfl) hd hr c'⟩
    · cases ho
      refine LeadsV.call (f := 180) (args := #[.slice p2 n2 c2]) (by simp [go_sem]) ((own_in p2 n2 c2 Y W (S2.no hI.chg) hk2).mono ?_)
      rintro e W' ⟨v', rfl, hr, c'⟩
      exact ⟨v', rfl, hI.own (.inr (.inl rfl)) hd hr c'⟩
    · cases ho
      refine LeadsV.call (f := 180) (args := #[.slice p3 n3 c3]) (by simp [go_sem]) ((own_in p3 n3 c3 Z W (S3.no hI.chg) hk3).mono ?_)
      rintro e W' ⟨v', rfl, hr, c'⟩
      exact ⟨v', rfl, hI.own (.inr (.inr rfl)) hd hr c'⟩
    · cases ho
      have w7 := hwt 7 rfl (by kernel_rfl)
      have w15 := hwt 15 rfl (by kernel_rfl)
      have w23 := hwt 23 rfl (by kernel_rfl)
      obtain ⟨q1, d1, r1⟩ := row_slice (hI.row 7 (.inl rfl) w7)
      obtain ⟨q2, d2, r2⟩ := row_slice (hI.row 15 (.inr (.inl rfl)) w15)
      obtain ⟨q3, d3, r3⟩ := row_slice (hI.row 23 (.inr (.inr rfl)) w23)
      refine LeadsV.value (v := .agg #[.bool false, u 7, u 15, u 23]) (w' := W) ?_ (hI.built w7 w15 w23 hd)
      rw [r1, r2, r3]
      simp [execOp, go_sem]
    · cases ho
      refine LeadsV.value (v := .pointer (some ⟨W.heap.size, 0, none⟩)) (w' := W.alloc (.cells #[.bool false, .slice none 0 0, .slice none 0 0, .slice none 0 0] 162)) ?_ (hI.box25 hd)
      simp [execOp, go_sem]
    · cases ho
      have w7 := hwt 7 rfl (by kernel_rfl)
      have w15 := hwt 15 rfl (by kernel_rfl)
      have w23 := hwt 23 rfl (by kernel_rfl)
      have w24 := hwt 24 rfl (by kernel_rfl)
      have w25 := hwt 25 rfl (by kernel_rfl)
      obtain ⟨B, c', x', y', z', hB, _, hb4, _⟩ := hI.box w25
      have hu24 := (hI.bld w24).2.2.2
      refine LeadsV.skip ?_ (hI.stored w24 w25 hB undef)
      obtain ⟨q1, d1, r1⟩ := row_slice (hI.row 7 (.inl rfl) w7)
      obtain ⟨q2, d2, r2⟩ := row_slice (hI.row 15 (.inr (.inl rfl)) w15)
      obtain ⟨q3, d3, r3⟩ := row_slice (hI.row 23 (.inr (.inr rfl)) w23)
      obtain ⟨j0, j1, j2, j3⟩ := hb4.cells
      have k0 := hb4.frozen 0
      have k1 := hb4.frozen 1
      have k2 := hb4.frozen 2
      have k3 := hb4.frozen 3
      rw [r1, r2, r3] at hu24 ⊢
      simp [execOp, go_sem, hu24, hB, j0, j1, j2, j3, k0, k1, k2, k3]
  · intro d W hall hI
    have w7 := hall 7 rfl (by decide)
    have w15 := hall 15 rfl (by decide)
    have w23 := hall 23 rfl (by decide)
    have w25 := hall 25 rfl (by decide)
    have w26 := hall 26 rfl (by decide)
    obtain ⟨B, c', x', y', z', hB, hBge, hb4, hval, hnB⟩ := hI.box w25
    obtain ⟨rfl, rfl, rfl, rfl⟩ := hval w26
    have R1 := hI.row 7 (.inl rfl) w7
    have R2 := hI.row 15 (.inr (.inl rfl)) w15
    have R3 := hI.row 23 (.inr (.inr rfl)) w23
    simp only [if_true, if_false, show ¬ 15 = 7 by omega, show ¬ 23 = 7 by omega, show ¬ 23 = 15 by omega] at R1 R2 R3
    have D1 := hI.dis 7 15 (.inl rfl) (.inr (.inl rfl)) (by omega) w7 w15
    have D2 := hI.dis 7 23 (.inl rfl) (.inr (.inr rfl)) (by omega) w7 w23
    have D3 := hI.dis 15 23 (.inr (.inl rfl)) (.inr (.inr rfl)) (by omega) w15 w23
    have N1 := hnB 7 (.inl rfl) w7
    have N2 := hnB 15 (.inr (.inl rfl)) w15
    have N3 := hnB 23 (.inr (.inr rfl)) w23
    have cI := hI.chg
    clear hI hall hnB hval w7 w15 w23 w25 w26 S1 S2 S3 g1 g2 g3 g4 g5 g6 g7 g8 g9 hany
    rw [hB]
    generalize u 7 = x at *
    generalize u 15 = y at *
    generalize u 23 = z at *
    clear hB
    have s1' : SlV W x (X.map Value.string) := SlV.ofRow (by simpa using R1)
    have s2' : SlV W y (Y.map Value.string) := SlV.ofRow (by simpa using R2)
    have s3' : SlV W z (Z.map Value.string) := SlV.ofRow (by simpa using R3)
    have o3 : Own3 W W0.heap.size x y z (mk3 X Y Z) := ⟨R1, R2, R3, D1, D2, D3⟩
    obtain ⟨q1, d1, rfl⟩ := row_slice R1
    obtain ⟨q2, d2, rfl⟩ := row_slice R2
    obtain ⟨q3, d3, rfl⟩ := row_slice R3
    obtain ⟨j0, j1, j2, j3⟩ := hb4.cells
    have hRB : w.heap.size + 1 + 1 + 1 < W0.heap.size := br.lt
    have hne : ¬ B = w.heap.size + 1 + 1 + 1 := by omega
    have hne' : ¬ w.heap.size + 1 + 1 + 1 = B := by omega
    have tail : ∀ (cb : Bool) (W1 : World), Chg No W W1 → Hid (
        Box4 W1 B (.bool false) (.slice q1 X.length d1) (.slice q2 Y.length d2) (.slice q3 Z.length d3) ∧
        Box4 (W1.setCell ⟨B, 0, none⟩ (.bool cb)) B (.bool cb) (.slice q1 X.length d1) (.slice q2 Y.length d2) (.slice q3 Z.length d3) ∧
        Box4 (W1.setCell ⟨B, 0, none⟩ (.bool cb)) (w.heap.size + 1 + 1 + 1) (.bool false) (.slice none 0 0) (.slice none 0 0) (.slice none 0 0) ∧
        Box4 (((((W1.setCell ⟨B, 0, none⟩ (.bool cb)).setCell ⟨w.heap.size + 1 + 1 + 1, 0, none⟩ (.bool cb)).setCell ⟨w.heap.size + 1 + 1 + 1, 1, none⟩ (.slice q1 X.length d1)).setCell ⟨w.heap.size + 1 + 1 + 1, 2, none⟩ (.slice q2 Y.length d2)).setCell ⟨w.heap.size + 1 + 1 + 1, 3, none⟩ (.slice q3 Z.length d3)) (w.heap.size + 1 + 1 + 1) (.bool cb) (.slice q1 X.length d1) (.slice q2 Y.length d2) (.slice q3 Z.length d3) ∧
        Own3 (((((W1.setCell ⟨B, 0, none⟩ (.bool cb)).setCell ⟨w.heap.size + 1 + 1 + 1, 0, none⟩ (.bool cb)).setCell ⟨w.heap.size + 1 + 1 + 1, 1, none⟩ (.slice q1 X.length d1)).setCell ⟨w.heap.size + 1 + 1 + 1, 2, none⟩ (.slice q2 Y.length d2)).setCell ⟨w.heap.size + 1 + 1 + 1, 3, none⟩ (.slice q3 Z.length d3)) w.heap.size (.slice q1 X.length d1) (.slice q2 Y.length d2) (.slice q3 Z.length d3) (mk3 X Y Z) ∧
        Chg No w (((((W1.setCell ⟨B, 0, none⟩ (.bool cb)).setCell ⟨w.heap.size + 1 + 1 + 1, 0, none⟩ (.bool cb)).setCell ⟨w.heap.size + 1 + 1 + 1, 1, none⟩ (.slice q1 X.length d1)).setCell ⟨w.heap.size + 1 + 1 + 1, 2, none⟩ (.slice q2 Y.length d2)).setCell ⟨w.heap.size + 1 + 1 + 1, 3, none⟩ (.slice q3 Z.length d3))) := by
      intro cb W1 cW
      have b1 := hb4.chg cW (fun h => h)
      have b2 := b1.set0 (.bool cb)
      have ca : Chg (fun k => k = B) W1 (W1.setCell ⟨B, 0, none⟩ (.bool cb)) := (Chg.refl (fun k => k = B) W1).setCell (p := ⟨B, 0, none⟩) (.inl rfl) _
      have b3 := ((br.chg cI (fun h => h)).chg cW (fun h => h)).chg ca hne'
      have cb' : Chg (fun k => k = w.heap.size + 1 + 1 + 1) (W1.setCell ⟨B, 0, none⟩ (.bool cb)) (((((W1.setCell ⟨B, 0, none⟩ (.bool cb)).setCell ⟨w.heap.size + 1 + 1 + 1, 0, none⟩ (.bool cb)).setCell ⟨w.heap.size + 1 + 1 + 1, 1, none⟩ (.slice q1 X.length d1)).setCell ⟨w.heap.size + 1 + 1 + 1, 2, none⟩ (.slice q2 Y.length d2)).setCell ⟨w.heap.size + 1 + 1 + 1, 3, none⟩ (.slice q3 Z.length d3)) :=
        ((((Chg.refl (fun k => k = w.heap.size + 1 + 1 + 1) _).setCell (p := ⟨w.heap.size + 1 + 1 + 1, 0, none⟩) (.inl rfl) _).setCell (p := ⟨w.heap.size + 1 + 1 + 1, 1, none⟩) (.inl rfl) _).setCell (p := ⟨w.heap.size + 1 + 1 + 1, 2, none⟩) (.inl rfl) _).setCell (p := ⟨w.heap.size + 1 + 1 + 1, 3, none⟩) (.inl rfl) _
      have o4 := ((o3.chg cW (fun _ _ h => h)).chg ca (fun k hk e => by
        subst e
        rcases hk with h | h | h
        · exact N1 h
        · exact N2 h
        · exact N3 h)).chg cb' (fun k hk e => by
        have := (o3.lt k hk).1
        omega)
      refine ⟨b1, b2, b3, b3.set _ _ _ _, o4.less cW0.size, ?_⟩
      refine ((Chg.seq (Chg.seq cW0 cI) cW).trans ca (fun k hk => .inr ?_)).trans cb' (fun k hk => .inr ?_)
      · have := cW0.size; omega
      · omega
    clear R1 R2 R3 D1 D2 D3 N1 N2 N3 o3 sl1 sl2 sl3 hc1 hc2 hc3 e0 e1 e2 e3 f1 f2 f3 f4 f5 f6 bx br
    have A1 := fun W1 (c1 : Chg No W W1) => alike_in _ _ Y Z W1 (s2'.no c1) (s3'.no c1) hl2 hl3
    have A2 := fun W1 (c1 : Chg No W W1) => alike_in _ _ Y X W1 (s2'.no c1) (s1'.no c1) hl2 hl1
    have A3 := fun W1 (c1 : Chg No W W1) => alike_in _ _ Z X W1 (s3'.no c1) (s1'.no c1) hl3 hl1
    rw [hz1] at A1
    rw [hz2] at A2
    rw [hz3] at A3
    clear s1' s2' s3' hz1 hz2 hz3
    generalize X.length = lX at *
    generalize Y.length = lY at *
    generalize Z.length = lZ at *
    generalize w.heap.size + 1 + 1 + 1 = R at *
    gi_wp2_with fail
    refine ⟨trivial, rfl, (A1 W (Chg.refl _ _)).mono ?_⟩
    rintro e W1 ⟨rfl, k1⟩
    cases z1 with
    | true =>
      obtain ⟨b1, b2, b3, b4, o4, cc⟩ := (tail false W1 k1).out
      obtain ⟨i0, i1, i2, i3⟩ := b1.cells
      have i4 := b1.frozen 0
      obtain ⟨m0, m1, m2, m3⟩ := b2.cells
      obtain ⟨n0, n1, n2, n3⟩ := b3.cells
      have n4 := b3.frozen 0
      have n5 := b3.frozen 1
      have n6 := b3.frozen 2
      have n7 := b3.frozen 3
      obtain ⟨r0, r1, r2, r3⟩ := b4.cells
      clear tail A1 A2 A3 b1 b2 b3 b4
      gi_wp2_with fail
      refine ⟨trivial, ?_⟩
      rename_i hKK
      apply hKK
      gi_wp2_with fail
      refine ⟨trivial, ?_⟩
      rename_i hKK
      apply hKK
      gi_wp2
      refine bodyPost_ret (v := .agg #[.bool false, .slice q1 lX d1, .slice q2 lY d2, .slice q3 lZ d3]) ?_ rfl ⟨_, _, _, rfl, o4, cc⟩
      rw [results_cell1 rfl]
      go_simp
    | false =>
      obtain ⟨i0, i1, i2, i3⟩ := (tail false W1 k1).out.1.cells
      gi_wp2_with fail
      refine ⟨trivial, rfl, (A2 W1 k1).mono ?_⟩
      rintro e W2 ⟨rfl, k2⟩
      have k02 := Chg.seq k1 k2
      clear i0 i1 i2 i3
      cases z2 with
      | true =>
        obtain ⟨b1, b2, b3, b4, o4, cc⟩ := (tail false W2 k02).out
        obtain ⟨i0, i1, i2, i3⟩ := b1.cells
        have i4 := b1.frozen 0
        obtain ⟨m0, m1, m2, m3⟩ := b2.cells
        obtain ⟨n0, n1, n2, n3⟩ := b3.cells
        have n4 := b3.frozen 0
        have n5 := b3.frozen 1
        have n6 := b3.frozen 2
        have n7 := b3.frozen 3
        obtain ⟨r0, r1, r2, r3⟩ := b4.cells
        clear tail A1 A2 A3 b1 b2 b3 b4
        gi_wp2_with fail
        refine ⟨trivial, ?_⟩
        rename_i hKK
        apply hKK
        gi_wp2
        refine bodyPost_ret (v := .agg #[.bool false, .slice q1 lX d1, .slice q2 lY d2, .slice q3 lZ d3]) ?_ rfl ⟨_, _, _, rfl, o4, cc⟩
        rw [results_cell1 rfl]
        go_simp
      | false =>
        obtain ⟨i0, i1, i2, i3⟩ := (tail false W2 k02).out.1.cells
        gi_wp2_with fail
        refine ⟨trivial, rfl, (A3 W2 k02).mono ?_⟩
        rintro e W3 ⟨rfl, k3⟩
        have k03 := Chg.seq k02 k3
        clear i0 i1 i2 i3
        cases z3 with
        | true =>
          obtain ⟨b1, b2, b3, b4, o4, cc⟩ := (tail false W3 k03).out
          obtain ⟨i0, i1, i2, i3⟩ := b1.cells
          have i4 := b1.frozen 0
          obtain ⟨m0, m1, m2, m3⟩ := b2.cells
          obtain ⟨n0, n1, n2, n3⟩ := b3.cells
          have n4 := b3.frozen 0
          have n5 := b3.frozen 1
          have n6 := b3.frozen 2
          have n7 := b3.frozen 3
          obtain ⟨r0, r1, r2, r3⟩ := b4.cells
          clear tail A1 A2 A3 b1 b2 b3 b4
          gi_wp2
          refine bodyPost_ret (v := .agg #[.bool false, .slice q1 lX d1, .slice q2 lY d2, .slice q3 lZ d3]) ?_ rfl ⟨_, _, _, rfl, o4, cc⟩
          rw [results_cell1 rfl]
          go_simp
        | false =>
          obtain ⟨b1, b2, b3, b4, o4, cc⟩ := (tail true W3 k03).out
          obtain ⟨i0, i1, i2, i3⟩ := b1.cells
          have i4 := b1.frozen 0
          obtain ⟨m0, m1, m2, m3⟩ := b2.cells
          obtain ⟨n0, n1, n2, n3⟩ := b3.cells
          have n4 := b3.frozen 0
          have n5 := b3.frozen 1
          have n6 := b3.frozen 2
          have n7 := b3.frozen 3
          obtain ⟨r0, r1, r2, r3⟩ := b4.cells
          clear tail A1 A2 A3 b1 b2 b3 b4
          gi_wp2
          refine bodyPost_ret (v := .agg #[.bool true, .slice q1 lX d1, .slice q2 lY d2, .slice q3 lZ d3]) ?_ rfl ⟨_, _, _, rfl, o4, cc⟩
          rw [results_cell1 rfl]
          go_simp

set_option maxRecDepth 100000 in
set_option maxHeartbeats 2000000 in
theorem choice_in (c0 : Bool) (vo va vb : Value) (p : Prt ByteArray) (w : World) (hv : SlV w vo (p.o.map Value.string)) (hu : SlV w va (p.a.map Value.string)) (ht : SlV w vb (p.b.map Value.string)) (ho : p.o.length ≤ 400) (ha : p.a.length ≤ 400) (hb : p.b.length ≤ 400) :
    CallsIn Fence.wide 0 Tryz.prog 142 #[.agg #[.bool c0, vo, va, vb]] w fun e w' => e = .returned (if p.a = p.b ∨ p.b = p.o then va else vb) ∧ Chg No w w' := by
  have A1 := fun W1 (c1 : Chg No w W1) => alike_in _ _ p.a p.b W1 (hu.no c1) (ht.no c1) ha hb
  have A2 := fun W1 (c1 : Chg No w W1) => alike_in _ _ p.b p.o W1 (ht.no c1) (hv.no c1) hb ho
  obtain ⟨po, co, rfl, _⟩ := id hv
  obtain ⟨pa, ca, rfl, _⟩ := id hu
  obtain ⟨pb, cb, rfl, _⟩ := id ht
  clear hv hu ht
  generalize (p.o.map Value.string).length = lo at *
  generalize (p.a.map Value.string).length = la at *
  generalize (p.b.map Value.string).length = lb at *
  obtain ⟨vr, HR⟩ : ∃ vr, Hid ((if p.a = p.b ∨ p.b = p.o then (.slice pa la ca : Value) else .slice pb lb cb) = vr) := ⟨_, rfl⟩
  rw [HR.out]
  refine callsIn_of_wp Tryz.func142 rfl trivial ?_
  simp only [Tryz.ntmps142, List.size_toArray, List.length_cons, List.length_nil, Nat.reduceAdd, Nat.reduceSub, Array.replicate_succ, Array.replicate_zero, List.push_toArray, List.append_toArray, List.nil_append, List.cons_append]
  have hbx : Box4 (w.alloc (.cells #[.bool c0, .slice po lo co, .slice pa la ca, .slice pb lb cb] 162)) w.heap.size (.bool c0) (.slice po lo co) (.slice pa la ca) (.slice pb lb cb) := World.alloc_heap_new w _
  have c0' : Chg No w (w.alloc (.cells #[.bool c0, .slice po lo co, .slice pa la ca, .slice pb lb cb] 162)) := (Chg.refl _ w).alloc _
  obtain ⟨j0, j1, j2, j3⟩ := hbx.cells
  gi_wp2_with fail
  generalize w.alloc (.cells #[.bool c0, .slice po lo co, .slice pa la ca, .slice pb lb cb] 162) = W0 at *
  refine ⟨trivial, rfl, (A1 W0 c0').mono ?_⟩
  rintro e W1 ⟨rfl, k1⟩
  have b1 := hbx.chg k1 (fun h => h)
  obtain ⟨i0, i1, i2, i3⟩ := b1.cells
  have c01 := Chg.seq c0' k1
  by_cases h1 : p.a = p.b
  · obtain rfl : vr = .slice pa la ca := by rw [← HR.out, if_pos (.inl h1)]
    rw [decide_eq_true h1]
    clear h1 A1 A2 HR
    gi_wp2_with fail
    refine ⟨trivial, ?_⟩
    rename_i hKK
    apply hKK
    gi_wp2
    go_ret
    exact ⟨rfl, c01⟩
  · rw [decide_eq_false h1]
    have hA2 := A2 W1 c01
    by_cases h2 : p.b = p.o
    · obtain rfl : vr = .slice pa la ca := by rw [← HR.out, if_pos (.inr h2)]
      rw [decide_eq_true h2] at hA2
      clear h1 h2 A1 A2 HR
      gi_wp2_with fail
      refine ⟨trivial, rfl, hA2.mono ?_⟩
      rintro e W2 ⟨rfl, k2⟩
      obtain ⟨m0, m1, m2, m3⟩ := (b1.chg k2 (fun h => h)).cells
      gi_wp2
      go_ret
      exact ⟨rfl, Chg.seq c01 k2⟩
    · obtain rfl : vr = .slice pb lb cb := by rw [← HR.out, if_neg (by rintro (h | h); exact h1 h; exact h2 h)]
      rw [decide_eq_false h2] at hA2
      clear h1 h2 A1 A2 HR
      gi_wp2_with fail
      refine ⟨trivial, rfl, hA2.mono ?_⟩
      rintro e W2 ⟨rfl, k2⟩
      obtain ⟨m0, m1, m2, m3⟩ := (b1.chg k2 (fun h => h)).cells
      gi_wp2
      go_ret
      exact ⟨rfl, Chg.seq c01 k2⟩

end Go.Proofs.YtakbeololabmhaaGreatDoor
