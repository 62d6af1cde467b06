/-
  Of: FRefR, JApp, FRow, RPaths, FSort.
-/
import Derived.Test.YtakbeololabmhaaGreatDoorG05
import Derived.Test.YtakbeololabmhaaGreatDoorG02
import Derived.Test.YtakbeololabmhaaGreatDoorG08
import Derived.Test.YtakbeololabmhaaGreatDoorG06
import Derived.Test.YtakbeololabmhaaGreatDoorG20
import Derived.Laws.Cover1
import Derived.Test.YtakbeololabmhaaGreatDoorG11
import Derived.Test.YtakbeololabmhaaGreatDoorG03
import Derived.Laws.OwnMore
import Derived.Test.YtakbeololabmhaaGreatDoorG01
import Derived.Shelf.SlSortCmp.KitK
import Derived.Sort.LotA
import Derived.Lib.Bytealg
import Derived.Test.YtakbeololabmhaaGreatDoorShelf
import Derived.Shelf.RegionOpenPlain
import Derived.Deep.LoopGhost
import Derived.Lib.SlicesCompact
import Derived.Sort.Walk0
section
-- FRefR
namespace Go.TreeLib
open Go
theorem insT_in {x : ByteArray} {l : List ByteArray} (h : UpT l) (hx : x ∈ l) : insT x l = l := upT_unique (insT_up h) h (fun z => by
  rw [mem_insT]
  exact ⟨fun hz => hz.elim (fun e => e ▸ hx) id, .inr⟩)
theorem insT_at {x : ByteArray} {l : List ByteArray} (h : UpT l) (k : Nat) (h1 : ∀ a ∈ l.take k, lt a x = true) (h2 : ∀ g ∈ l.drop k, lt x g = true) : insT x l = l.take k ++ [x] ++ l.drop k := by
  refine upT_unique (insT_up h) ?_ (fun z => ?_)
  · unfold UpT at h ⊢
    rw [← List.take_append_drop k l, List.pairwise_append] at h
    rw [List.append_assoc, List.pairwise_append]
    refine ⟨h.1, List.pairwise_cons.2 ⟨h2, h.2.1⟩, fun a ha b hb => ?_⟩
    rcases List.mem_cons.1 hb with e | hb
    · rw [e]; exact h1 a ha
    · exact h.2.2 a ha b hb
  · rw [mem_insT]
    conv => lhs; rw [← List.take_append_drop k l]
    simp only [List.mem_append, List.mem_singleton]
    constructor
    · rintro (h | h | h)
      · exact .inl (.inr h)
      · exact .inl (.inl h)
      · exact .inr h
    · rintro ((h | h) | h)
      · exact .inr (.inl h)
      · exact .inl h
      · exact .inr (.inr h)
theorem below_all {x y : ByteArray} {l : List ByteArray} {k : Nat} (h : UpT l) (hk : k ≤ l.length) (hk1 : 1 ≤ k) (hy : l[k - 1]? = some y) (hl : lt y x = true) : ∀ a ∈ l.take k, lt a x = true := by
  intro a ha
  obtain ⟨i, hi, e⟩ := List.mem_take_iff_getElem.1 ha
  obtain ⟨hk2, ey⟩ := List.getElem?_eq_some_iff.1 hy
  by_cases he : i = k - 1
  · subst he; rw [← e, ey]; exact hl
  · have := List.pairwise_iff_getElem.1 h i (k - 1) (by omega) hk2 (by omega)
    rw [e, ey] at this
    exact lt_trans this hl
theorem rise_snoc (l : List ByteArray) (x : ByteArray) : rise (l ++ [x]) = insT x (rise l) := by unfold rise; rw [List.foldl_append]; rfl
theorem insT_le (x : ByteArray) : ∀ l : List ByteArray, (insT x l).length ≤ l.length + 1
  | [] => by simp [insT]
  | y :: r => by
    unfold insT
    have := insT_le x r
    split
    · simp
    · split
      · simp
      · simp; omega
theorem rise_le (l : List ByteArray) : (rise l).length ≤ l.length := by
  have : ∀ (l out : List ByteArray), (l.foldl (fun out x => insT x out) out).length ≤ out.length + l.length := by
    intro l
    induction l with
    | nil => intro out; simp
    | cons a l ih =>
      intro out
      rw [List.foldl_cons]
      have h1 := ih (insT a out)
      have h2 := insT_le a out
      rw [List.length_cons]
      omega
  have h := this l []
  rw [List.length_nil, Nat.zero_add] at h
  exact h
end Go.TreeLib
namespace Go.Proofs.YtakbeololabmhaaGreatDoor
open Go.RowKit Go.Shelf Go.SeqLib Go.DiffLib Go.TreeLib Go.BigFrame
attribute [local go_sem] Oper.semAt_some

/-- A list of texts that reads; one that is owned. -/
abbrev SlT (W : World) (v : Value) (l : List ByteArray) : Prop := SlV W v (l.map Value.string)
abbrev OwnT (W : World) (base : Nat) (v : Value) (l : List ByteArray) : Prop := W.ownsRow base 9 1 v l.length (l.map Value.string)
theorem SlT.at {W : World} {p : Option Addr} {n cap : Nat} {zs : List ByteArray} (h : SlT W (.slice p n cap) zs) (i : Nat) (x : ByteArray) (hi : zs[i]? = some x) : ∃ b off, p = some ⟨b, off, none⟩ ∧ W.cell? ⟨b, off + i, none⟩ = some (.string x) := by
  obtain ⟨p', cap', e, _, _, hc⟩ := h
  cases e
  exact hc i (.string x) (by rw [List.getElem?_map, hi]; rfl)
theorem SlT.one (w : World) (x : ByteArray) : SlT (w.alloc (.cells #[.string x] 9)) (.slice (some ⟨w.heap.size, 0, none⟩) 1 1) [x] := SlV.made w [.string x] 9 (by simp)
theorem OwnT.sl {W : World} {base : Nat} {v : Value} {l : List ByteArray} (h : OwnT W base v l) : SlT W v l := SlV.ofRow (by rw [List.length_map]; exact h)
theorem OwnT.no {W W' : World} {base : Nat} {v : Value} {l : List ByteArray} (h : OwnT W base v l) (c : Chg No W W') : OwnT W' base v l := row_kept h (fun k hk => c.block k (World.ownsRow.lt h k hk).2 (fun h => h))
theorem OwnT.nil (W : World) (base : Nat) : OwnT W base (.slice none 0 0) [] := World.ownsRow_nil _ _ _ _
theorem OwnT.base {W : World} {b b' : Nat} {v : Value} {l : List ByteArray} (h : OwnT W b v l) (hb : b' ≤ b) : OwnT W b' v l := rowBase h hb
theorem SlT.high {W : World} {p : Option Addr} {n cap : Nat} {l : List ByteArray} (h : SlT W (.slice p n cap) l) (hl : l.length = n) (k : Nat) (hk : k ≤ n) :
    ∃ p' c', SlT W (.slice p' k c') (l.take k) ∧ (∀ j, Value.ownBlock (.slice p' k c') = some j → Value.ownBlock (.slice p n cap) = some j) ∧ ∀ w, (Instr.sliceAt 86 (.slice p n cap) none (some (.int .i64 (k : Int))) none).run Tryz.prog w = .ok (.slice p' k c') w := by
  have := SlV.high h (by rw [List.length_map]; exact hl) k hk
  rw [← List.map_take] at this
  exact this
theorem SlT.low {W : World} {p : Option Addr} {n cap : Nat} {l : List ByteArray} (h : SlT W (.slice p n cap) l) (hl : l.length = n) (k : Nat) (hk : k ≤ n) :
    ∃ p' c', SlT W (.slice p' (n - k) c') (l.drop k) ∧ (∀ j, Value.ownBlock (.slice p' (n - k) c') = some j → Value.ownBlock (.slice p n cap) = some j) ∧ ∀ w, (Instr.sliceAt 86 (.slice p n cap) (some (.int .i64 (k : Int))) none none).run Tryz.prog w = .ok (.slice p' (n - k) c') w := by
  have := SlV.low h (by rw [List.length_map]; exact hl) k hk
  rw [← List.map_drop] at this
  exact this

theorem LeadsV.append_st {n : Nat} {o : Oper} {a : Act} {R : Value → World → Prop} {w : World}
    (s x : Operand) (hop : o.op = Op.call { callee := Callee.builtin Builtin.append, args := #[s, x], argTypes := #[86, 86] })
    (base : Nat) (v : Value) (ys : List ByteArray) (hs : a.eval s = v) (hown : OwnT w base v ys) (p : Option Addr) (m c : Nat) (zs : List ByteArray) (hx : a.eval x = .slice p m c) (hsl : SlT w (.slice p m c) zs)
    (b1 : ys.length + m ≤ 1000000) (b3 : base ≤ w.heap.size)
    (hK : ∀ v' w', OwnT w' base v' (ys ++ zs) → w.grownBy w' v.ownBlock → R v' w') : LeadsV Tryz.prog n o a R w := by
  have hm : zs.length = m := by obtain ⟨p', c', e, _⟩ := hsl; rw [Value.slice.injEq] at e; rw [e.2.1, List.length_map]
  refine LeadsV.append_sv s x hop base v ys.length (ys.map Value.string) hs hown p m c zs hx hsl b1 b3 (fun v' w' h1 h2 _ => hK v' w' ?_ h2)
  show w'.ownsRow base 9 1 v' (ys ++ zs).length ((ys ++ zs).map Value.string)
  rw [List.map_append, List.length_append, hm]
  exact h1

/-- What holds while a list is put together: what stands ahead, the new one, what stands behind. -/
structure InsT (W0 : World) (A : List ByteArray) (x : ByteArray) (B : List ByteArray) (d : Nat → Bool) (u : Nat → Value) (W : World) : Prop where
  chg : Chg No W0 W
  o9 : d 9 = true → d 3 = true ∧ d 8 = true
  o13 : d 13 = true → d 9 = true
  f3 : d 3 = true → d 9 = false → OwnT W W0.heap.size (u 3) A
  f8 : d 8 = true → d 9 = false → SlT W (u 8) [x]
  f9 : d 9 = true → d 13 = false → OwnT W W0.heap.size (u 9) (A ++ [x])
  f13 : d 13 = true → OwnT W W0.heap.size (u 13) (A ++ [x] ++ B)

theorem InsT.s3 {W0 W W' : World} {A B : List ByteArray} {x : ByteArray} {d : Nat → Bool} {u : Nat → Value} (h : InsT W0 A x B d u W) (hd : d 3 = false) {v : Value} (ho : OwnT W' W0.heap.size v ([] ++ A)) (c : Chg No W W') :
    InsT W0 A x B (fun j => if j = 3 then true else d j) (fun j => if j = 3 then v else u j) W' := by
  have n9 : d 9 = false := by cases h9 : d 9 with | false => rfl | true => have := (h.o9 h9).1; rw [hd] at this; cases this
  have n13 : d 13 = false := by cases h9 : d 13 with | false => rfl | true => have := h.o13 h9; rw [n9] at this; cases this
  exact ⟨Chg.seq h.chg c, fun e => absurd (n9.symm.trans (show d 9 = true from e)) Bool.false_ne_true, fun e => absurd (n13.symm.trans (show d 13 = true from e)) Bool.false_ne_true, fun _ _ => ho, fun a b => (h.f8 a b).no c, fun e => absurd (n9.symm.trans (show d 9 = true from e)) Bool.false_ne_true, fun e => absurd (n13.symm.trans (show d 13 = true from e)) Bool.false_ne_true⟩
theorem InsT.s8 {W0 W W' : World} {A B : List ByteArray} {x : ByteArray} {d : Nat → Bool} {u : Nat → Value} (h : InsT W0 A x B d u W) (hd : d 8 = false) {v : Value} (ho : SlT W' v [x]) (c : Chg No W W') :
    InsT W0 A x B (fun j => if j = 8 then true else d j) (fun j => if j = 8 then v else u j) W' := by
  have n9 : d 9 = false := by cases h9 : d 9 with | false => rfl | true => have := (h.o9 h9).2; rw [hd] at this; cases this
  have n13 : d 13 = false := by cases h9 : d 13 with | false => rfl | true => have := h.o13 h9; rw [n9] at this; cases this
  exact ⟨Chg.seq h.chg c, fun e => absurd (n9.symm.trans (show d 9 = true from e)) Bool.false_ne_true, fun e => absurd (n13.symm.trans (show d 13 = true from e)) Bool.false_ne_true, fun a b => OwnT.no (h.f3 a b) c, fun _ _ => ho, fun e => absurd (n9.symm.trans (show d 9 = true from e)) Bool.false_ne_true, fun e => absurd (n13.symm.trans (show d 13 = true from e)) Bool.false_ne_true⟩
theorem InsT.s9 {W0 W W' : World} {A B : List ByteArray} {x : ByteArray} {d : Nat → Bool} {u : Nat → Value} (h : InsT W0 A x B d u W) (hd : d 9 = false) (h3 : d 3 = true) (h8 : d 8 = true) {v : Value} (ho : OwnT W' W0.heap.size v (A ++ [x])) (hg : W.grownBy W' (u 3).ownBlock) :
    InsT W0 A x B (fun j => if j = 9 then true else d j) (fun j => if j = 9 then v else u j) W' := by
  have n13 : d 13 = false := by cases h9 : d 13 with | false => rfl | true => have := h.o13 h9; rw [hd] at this; cases this
  exact ⟨h.chg.grown hg (fun k e => .inr (World.ownsRow.lt (h.f3 h3 hd) k e).1), fun _ => ⟨h3, h8⟩, fun _ => rfl, fun _ e => absurd (show true = false from e) (by decide : ¬ true = false), fun _ e => absurd (show true = false from e) (by decide : ¬ true = false), fun _ _ => ho, fun e => absurd (n13.symm.trans (show d 13 = true from e)) Bool.false_ne_true⟩
theorem InsT.s13 {W0 W W' : World} {A B : List ByteArray} {x : ByteArray} {d : Nat → Bool} {u : Nat → Value} (h : InsT W0 A x B d u W) (hd : d 13 = false) (h9 : d 9 = true) {v : Value} (ho : OwnT W' W0.heap.size v (A ++ [x] ++ B)) (hg : W.grownBy W' (u 9).ownBlock) :
    InsT W0 A x B (fun j => if j = 13 then true else d j) (fun j => if j = 13 then v else u j) W' :=
  ⟨h.chg.grown hg (fun k e => .inr (World.ownsRow.lt (h.f9 h9 hd) k e).1), fun _ => h.o9 h9, fun _ => h9, fun _ e => absurd (h9.symm.trans (show d 9 = false from e)) (by decide : ¬ true = false), fun _ e => absurd (h9.symm.trans (show d 9 = false from e)) (by decide : ¬ true = false), fun _ e => absurd (show true = false from e) (by decide : ¬ true = false), fun _ => ho⟩

set_option maxRecDepth 100000 in
set_option maxHeartbeats 4000000 in
theorem refRise_in (v : Value) (all : List ByteArray) (hal : all.length ≤ 1000) (w : World) (hv : SlT w v all) : CallsIn Fence.wide 0 Tryz.prog 98 #[v] w fun e w' =>
    ∃ v', e = .returned v' ∧ OwnT w' w.heap.size v' (rise all) ∧ Chg No w w' := by
  have hmix : Tryz.prog.follows .mixedOrders = true := by kernel_rfl
  have hv0 := hv
  obtain ⟨p7, c7, rfl, _, _, _⟩ := hv0
  rw [List.length_map] at hv ⊢
  refine callsIn_of_wp Tryz.func98 rfl trivial ?_
  simp only [Tryz.ntmps98, List.size_toArray, List.length_cons, List.length_nil, Nat.reduceAdd, Nat.reduceSub, Array.replicate_succ, Array.replicate_zero, List.push_toArray, List.append_toArray, List.nil_append, List.cons_append]
  obtain ⟨n, HN⟩ : ∃ n, Hid (all.length = n) := ⟨_, rfl⟩
  rw [HN.out] at hv hal ⊢
  gi_wp2
  gi_loopw [4, 3] (fun i o wr => ∃ k : Nat, k ≤ n ∧ i = .int .i64 (k : Int) ∧ OwnT wr w.heap.size o (rise (all.take k)) ∧ SlT wr (.slice p7 n c7) all ∧ Chg No w wr) (fun i _ _ => n - (intOf i).toNat)
  case atStart => exact ⟨0, Nat.zero_le _, rfl, OwnT.nil _ _, hv, Chg.refl _ _⟩
  case round =>
    obtain ⟨i, hi, rfl, ho, hs7, c⟩ := hrel
    by_cases hlt : i < n
    · have hlt' : (i : Int) < (n : Int) := by omega
      have hil : i < all.length := by rw [HN.out]; exact hlt
      obtain ⟨x, hx⟩ : ∃ x, all[i]? = some x := ⟨_, List.getElem?_eq_getElem hil⟩
      have HR : Hid (rise (all.take (i + 1)) = insT x (rise (all.take i))) := by show _ = _; rw [List.take_add_one, hx]; exact rise_snoc _ _
      have HUp : Hid (UpT (rise (all.take i))) := rise_up _
      have hLl : (rise (all.take i)).length ≤ i := Nat.le_trans (rise_le _) (by rw [List.length_take]; omega)
      generalize rise (all.take i) = L at *
      obtain ⟨b7, o7, rfl, _⟩ := SlT.at hs7 i x hx
      obtain ⟨p8, c8, rfl⟩ := row_slice ho
      obtain ⟨m, HLn⟩ : ∃ m, Hid (L.length = m) := ⟨_, rfl⟩
      have ho' : OwnT wr w.heap.size (.slice p8 m c8) L := by have h := ho; rw [HLn.out] at h; exact h
      clear ho
      have ho := ho'
      clear ho'
      rw [HLn.out] at hLl ⊢
      gi_wp2
      gi_loopw [5] (fun t wr' => ∃ k : Nat, k ≤ m ∧ t = .int .i64 (k : Int) ∧ Hid (∀ g ∈ L.drop k, lt x g = true) ∧ Chg No wr wr') (fun t _ => (intOf t).toNat)
      case atStart => exact ⟨m, Nat.le_refl _, rfl, (fun g hg => by rw [List.drop_of_length_le (by rw [HLn.out]; exact Nat.le_refl _)] at hg; cases hg), Chg.refl _ _⟩
      case round =>
        obtain ⟨k, hk2, rfl, HD, c3⟩ := hrel
        have cin := c3
        have ho3 := OwnT.no ho c3
        have hs3 := hs7.no c3
        have c3 := Chg.seq c c3
        have hany := After.any wr
        clear ho hs7 c
        by_cases h0 : k = 0
        · have h0' : decide (0 < k) = false := decide_eq_false (by omega)
          have HS : Hid (insT x L = L.take k ++ [x] ++ L.drop k) := insT_at HUp.out k (fun a ha => by rw [h0] at ha; simp at ha) HD.out
          clear h0
          gi_wp2
          refine region_quietC hmix (by kernel_rfl) ?_
          repeat (gi_big_quiet_step (fail))
          refine wpQuietIn_nil ?_
          rintro W4 ⟨c9, hw9⟩
          have hc9 : Chg No wr W4 := by rw [hw9]; exact c9.chg
          clear hw9 c9
          have c4 := Chg.seq c3 hc9
          have ho4 := OwnT.no ho3 hc9
          have hs4 := hs3.no hc9
          gi_wp2
          have hany4 := After.any W4
          refine region_quietC hmix (by kernel_rfl) ?_
          repeat (gi_big_quiet_step (fail))
          refine wpQuietIn_nil ?_
          rintro W5 ⟨c9, hw9⟩
          have hc9 : Chg No W4 W5 := by rw [hw9]; exact c9.chg
          clear hw9 c9
          have c5 := Chg.seq c4 hc9
          have ho5 := OwnT.no ho4 hc9
          have hs5 := hs4.no hc9
          clear hany hany4 h0' ho3 ho4 hs3 hs4
          gi_wp2
          have hso := OwnT.sl ho5
          obtain ⟨pa, ca, sA, oA, hcA⟩ := SlT.high hso HLn.out k hk2
          obtain ⟨pb, cb, sB, oB, hcB⟩ := SlT.low hso HLn.out k hk2
          obtain ⟨bx, ox, ex, hx1⟩ := SlT.at hs5 i x hx
          cases ex
          have hany := After.any W5
          have f0 : ∀ c : After W5, c.val.cell? ⟨b7, o7 + i, none⟩ = some (.string x) := fun c => c.cell hx1
          clear hx1
          refine region_loudG (fun i => i == 3 || i == 8 || i == 9 || i == 13) (fun w' => ∃ c : After W5, w' = c.val) (InsT W5 (L.take k) x (L.drop k)) (fun _ => .slice none 0 0) hmix (by kernel_rfl) (by kernel_rfl) (fun d u W h => ⟨⟨W, h.chg⟩, rfl⟩)
            ⟨(Chg.refl _ W5).drew, fun h => (by cases h), fun h => (by cases h), fun h => (by cases h), fun h => (by cases h), fun h => (by cases h), fun h => (by cases h)⟩ (fun u hu => ?_)
          clear hu
          simp only [hushE, Nat.reduceAdd, Nat.reduceBEq, Bool.or_self, Bool.or_true, Bool.or_false, if_true, if_false, Bool.false_eq_true]
          repeat (gi_big_quiet_step (fail))
          refine wpQuietIn_nil ⟨?_, ?_, ?_⟩
          · intro i o ho hm
            simp only [Bool.or_eq_true, beq_iff_eq] at hm
            rcases hm with ((rfl | rfl) | rfl) | rfl
            all_goals (cases ho; rfl)
          · intro j o d W hjo hm hd hwt hI
            simp only [Bool.or_eq_true, beq_iff_eq] at hm
            rcases hm with ((rfl | rfl) | rfl) | rfl
            · cases hjo
              refine LeadsV.append_st _ _ rfl W5.heap.size (.slice none 0 0) [] rfl (OwnT.nil _ _) pa k ca (L.take k) rfl (sA.no hI.chg) (by simp; omega) hI.chg.size ?_
              intro v' w' ho' hg'
              exact hI.s3 hd ho' ((Chg.refl _ W).grown hg' (fun k e => by cases e))
            · cases hjo
              refine LeadsV.value (v := .slice (some ⟨W.heap.size, 0, none⟩) 1 1) (w' := W.alloc (.cells #[.string x] 9)) ?_ (hI.s8 hd (SlT.one W x) ((Chg.refl _ W).alloc _))
              simp [go_sem]
            · cases hjo
              have h3 := hwt 3 rfl (by kernel_rfl)
              have h8 := hwt 8 rfl (by kernel_rfl)
              obtain ⟨q8, m8, e8, _, _⟩ := hI.f8 h8 hd
              refine LeadsV.append_st _ _ rfl W5.heap.size (u 3) _ rfl (hI.f3 h3 hd) q8 1 m8 [x] e8 (by have := hI.f8 h8 hd; rw [e8] at this; exact this) (by simp; omega) hI.chg.size ?_
              intro v' w' ho' hg'
              exact hI.s9 hd h3 h8 ho' hg'
            · cases hjo
              have h9 := hwt 9 rfl (by kernel_rfl)
              refine LeadsV.append_st _ _ rfl W5.heap.size (u 9) _ rfl (hI.f9 h9 hd) pb (m - k) cb (L.drop k) rfl (sB.no hI.chg) (by simp; omega) hI.chg.size ?_
              intro v' w' ho' hg'
              exact hI.s13 hd h9 ho' hg'
          · intro d W hall hI
            have h13 := hI.f13 (hall 13 rfl (by simp))
            have cW := Chg.seq c5 hI.chg
            have s7 := hs5.no hI.chg
            gi_wp2
            go_roundw
            case rel => exact ⟨i + 1, hlt, by go_num, OwnT.base (by rw [HR.out, HS.out]; exact h13) c5.size, s7, cW⟩
            case measure => simp [intOf]; omega
        · have h0' : decide (0 < k) = true := decide_eq_true (by omega)
          obtain ⟨y, hy⟩ : ∃ y, L[k - 1]? = some y := ⟨_, List.getElem?_eq_getElem (by rw [HLn.out]; omega)⟩
          obtain ⟨b8, o8, rfl, hy1⟩ := SlT.at (OwnT.sl ho3) (k - 1) y hy
          obtain ⟨bx, ox, ex, hx1⟩ := SlT.at hs3 i x hx
          cases ex
          have f0 : ∀ c : After wr, c.val.cell? ⟨b7, o7 + i, none⟩ = some (.string x) := fun c => c.cell hx1
          have f2 : ∀ c : After wr, c.val.cell? ⟨b8, o8 + (k - 1), none⟩ = some (.string y) := fun c => c.cell hy1
          have hk1 : 1 ≤ k := by omega
          clear hx1 hy1
          cases hxy : lt x y with
          | true =>
            have hle := leB_lt y x
            rw [hxy] at hle
            obtain ⟨hA, hB⟩ := Bool.or_eq_false_iff.1 hle
            have HD2 : Hid (∀ g ∈ L.drop (k - 1), lt x g = true) := by
              intro g hg
              obtain ⟨hk1, ey⟩ := List.getElem?_eq_some_iff.1 hy
              rw [List.drop_eq_getElem_cons hk1, show k - 1 + 1 = k by omega, ey] at hg
              rcases List.mem_cons.1 hg with h | h
              · rw [h]; exact hxy
              · exact HD.out g h
            clear hle hxy hy h0
            gi_wp2
            refine region_quietC hmix (by kernel_rfl) ?_
            repeat (gi_big_quiet_step (fail))
            refine wpQuietIn_nil ?_
            rintro W5 ⟨c9, hw9⟩
            have hc9 : Chg No wr W5 := by rw [hw9]; exact c9.chg
            clear hw9 c9
            have cr := Chg.seq cin hc9
            gi_wp2
            go_roundw
            case rel => exact ⟨k - 1, by omega, by rw [Int.natCast_sub hk1]; rfl, HD2, cr⟩
            case measure => simp [intOf]; omega
          | false =>
            by_cases he : y = x
            · have hA : Op.bytesLess y.toList x.toList = false := by rw [he]; exact bl_irrefl _
              have hB : (y.toList == x.toList) = true := by rw [he]; exact beq_self_eq_true _
              have HS : Hid (insT x L = L) := insT_in HUp.out (by rw [← he]; exact List.mem_of_getElem? hy)
              clear hxy h0 he
              gi_wp2
              refine region_quietC hmix (by kernel_rfl) ?_
              repeat (gi_big_quiet_step (fail))
              refine wpQuietIn_nil ?_
              rintro W4 ⟨c9, hw9⟩
              have hc9 : Chg No wr W4 := by rw [hw9]; exact c9.chg
              clear hw9 c9
              have c4 := Chg.seq c3 hc9
              have ho4 := OwnT.no ho3 hc9
              have hs4 := hs3.no hc9
              obtain ⟨bz, oz, ez, hz1⟩ := SlT.at hs4 i x hx
              cases ez
              obtain ⟨bw, ow, ew, hw1⟩ := SlT.at (OwnT.sl ho4) (k - 1) y hy
              cases ew
              have hanyb := After.any W4
              have f0 : ∀ c : After W4, c.val.cell? ⟨b7, o7 + i, none⟩ = some (.string x) := fun c => c.cell hz1
              have f2 : ∀ c : After W4, c.val.cell? ⟨b8, o8 + (k - 1), none⟩ = some (.string y) := fun c => c.cell hw1
              clear hz1 hw1
              gi_wp2
              refine region_quietC hmix (by kernel_rfl) ?_
              repeat (gi_big_quiet_step (fail))
              refine wpQuietIn_nil ?_
              rintro W5 ⟨c9, hw9⟩
              have hc9 : Chg No W4 W5 := by rw [hw9]; exact c9.chg
              clear hw9 c9
              have c5 := Chg.seq c4 hc9
              have ho5 := OwnT.no ho4 hc9
              have hs5 := hs4.no hc9
              gi_wp2
              go_roundw
              case rel => exact ⟨i + 1, hlt, by go_num, by rw [HR.out, HS.out]; exact ho5, hs5, c5⟩
              case measure => simp [intOf]; omega
            · have hyx : lt y x = true := by
                cases h : lt y x with
                | true => rfl
                | false => exact absurd (lt_tri h hxy) he
              have hA : Op.bytesLess y.toList x.toList = true := hyx
              have hB : (y.toList == x.toList) = false := beq_eq_false_iff_ne.2 (fun e => he (toList_inj e))
              have HS : Hid (insT x L = L.take k ++ [x] ++ L.drop k) := insT_at HUp.out k (below_all HUp.out (by rw [HLn.out]; omega) hk1 hy hyx) HD.out
              clear hxy hyx h0 he
              gi_wp2
              refine region_quietC hmix (by kernel_rfl) ?_
              repeat (gi_big_quiet_step (fail))
              refine wpQuietIn_nil ?_
              rintro W4 ⟨c9, hw9⟩
              have hc9 : Chg No wr W4 := by rw [hw9]; exact c9.chg
              clear hw9 c9
              have c4 := Chg.seq c3 hc9
              have ho4 := OwnT.no ho3 hc9
              have hs4 := hs3.no hc9
              obtain ⟨bz, oz, ez, hz1⟩ := SlT.at hs4 i x hx
              cases ez
              obtain ⟨bw, ow, ew, hw1⟩ := SlT.at (OwnT.sl ho4) (k - 1) y hy
              cases ew
              have hanyb := After.any W4
              have f0 : ∀ c : After W4, c.val.cell? ⟨b7, o7 + i, none⟩ = some (.string x) := fun c => c.cell hz1
              have f2 : ∀ c : After W4, c.val.cell? ⟨b8, o8 + (k - 1), none⟩ = some (.string y) := fun c => c.cell hw1
              clear hz1 hw1
              gi_wp2
              refine region_quietC hmix (by kernel_rfl) ?_
              repeat (gi_big_quiet_step (fail))
              refine wpQuietIn_nil ?_
              rintro W5 ⟨c9, hw9⟩
              have hc9 : Chg No W4 W5 := by rw [hw9]; exact c9.chg
              clear hw9 c9
              have c5 := Chg.seq c4 hc9
              have ho5 := OwnT.no ho4 hc9
              have hs5 := hs4.no hc9
              clear f0 f2 hany hanyb h0' hA hB ho3 ho4 hs3 hs4
              gi_wp2
              have hso := OwnT.sl ho5
              obtain ⟨pa, ca, sA, oA, hcA⟩ := SlT.high hso HLn.out k hk2
              obtain ⟨pb, cb, sB, oB, hcB⟩ := SlT.low hso HLn.out k hk2
              obtain ⟨bx, ox, ex, hx1⟩ := SlT.at hs5 i x hx
              cases ex
              have hany := After.any W5
              have f0 : ∀ c : After W5, c.val.cell? ⟨b7, o7 + i, none⟩ = some (.string x) := fun c => c.cell hx1
              clear hx1
              refine region_loudG (fun i => i == 3 || i == 8 || i == 9 || i == 13) (fun w' => ∃ c : After W5, w' = c.val) (InsT W5 (L.take k) x (L.drop k)) (fun _ => .slice none 0 0) hmix (by kernel_rfl) (by kernel_rfl) (fun d u W h => ⟨⟨W, h.chg⟩, rfl⟩)
                ⟨(Chg.refl _ W5).drew, fun h => (by cases h), fun h => (by cases h), fun h => (by cases h), fun h => (by cases h), fun h => (by cases h), fun h => (by cases h)⟩ (fun u hu => ?_)
              clear hu
              simp only [hushE, Nat.reduceAdd, Nat.reduceBEq, Bool.or_self, Bool.or_true, Bool.or_false, if_true, if_false, Bool.false_eq_true]
              repeat (gi_big_quiet_step (fail))
              refine wpQuietIn_nil ⟨?_, ?_, ?_⟩
              · intro i o ho hm
                simp only [Bool.or_eq_true, beq_iff_eq] at hm
                rcases hm with ((rfl | rfl) | rfl) | rfl
                all_goals (cases ho; rfl)
              · intro j o d W hjo hm hd hwt hI
                simp only [Bool.or_eq_true, beq_iff_eq] at hm
                rcases hm with ((rfl | rfl) | rfl) | rfl
                · cases hjo
                  refine LeadsV.append_st _ _ rfl W5.heap.size (.slice none 0 0) [] rfl (OwnT.nil _ _) pa k ca (L.take k) rfl (sA.no hI.chg) (by simp; omega) hI.chg.size ?_
                  intro v' w' ho' hg'
                  exact hI.s3 hd ho' ((Chg.refl _ W).grown hg' (fun k e => by cases e))
                · cases hjo
                  refine LeadsV.value (v := .slice (some ⟨W.heap.size, 0, none⟩) 1 1) (w' := W.alloc (.cells #[.string x] 9)) ?_ (hI.s8 hd (SlT.one W x) ((Chg.refl _ W).alloc _))
                  simp [go_sem]
                · cases hjo
                  have h3 := hwt 3 rfl (by kernel_rfl)
                  have h8 := hwt 8 rfl (by kernel_rfl)
                  obtain ⟨q8, m8, e8, _, _⟩ := hI.f8 h8 hd
                  refine LeadsV.append_st _ _ rfl W5.heap.size (u 3) _ rfl (hI.f3 h3 hd) q8 1 m8 [x] e8 (by have := hI.f8 h8 hd; rw [e8] at this; exact this) (by simp; omega) hI.chg.size ?_
                  intro v' w' ho' hg'
                  exact hI.s9 hd h3 h8 ho' hg'
                · cases hjo
                  have h9 := hwt 9 rfl (by kernel_rfl)
                  refine LeadsV.append_st _ _ rfl W5.heap.size (u 9) _ rfl (hI.f9 h9 hd) pb (m - k) cb (L.drop k) rfl (sB.no hI.chg) (by simp; omega) hI.chg.size ?_
                  intro v' w' ho' hg'
                  exact hI.s13 hd h9 ho' hg'
              · intro d W hall hI
                have h13 := hI.f13 (hall 13 rfl (by simp))
                have cW := Chg.seq c5 hI.chg
                have s7 := hs5.no hI.chg
                gi_wp2
                go_roundw
                case rel => exact ⟨i + 1, hlt, by go_num, OwnT.base (by rw [HR.out, HS.out]; exact h13) c5.size, s7, cW⟩
                case measure => simp [intOf]; omega
    · have hlt' : ¬ (i : Int) < (n : Int) := by omega
      have hkn : all.take i = all := List.take_of_length_le (by rw [HN.out]; omega)
      rw [hkn] at ho
      gi_wp2
      go_ret
      exact ⟨_, rfl, ho, c⟩

end Go.Proofs.YtakbeololabmhaaGreatDoor

end
section
-- JApp
namespace Go.Proofs.YtakbeololabmhaaGreatDoor
open Go.RowKit Go.Shelf Go.SeqLib Go.DiffLib Go.TreeLib Go.TextLib Go.BigFrame

/-- Two rows of unlike types lie apart. -/
theorem row_apart {W : World} {b b' : Nat} {e e' : TypeId} {s s' n n' : Nat} {v v' : Value} {xs xs' : List Value} (hne : e ≠ e') (h : W.ownsRow b e s v n xs) (h' : W.ownsRow b' e' s' v' n' xs') : ∀ k, v.ownBlock = some k → ¬ v'.ownBlock = some k := by
  rcases h.2 with ⟨rfl, _⟩ | ⟨g, cap, cur, rfl, hb, hgg, _⟩
  · intro k hk; cases hk
  · rcases h'.2 with ⟨rfl, _⟩ | ⟨g', cap', cur', rfl, hb', hgg', _⟩
    · intro k _ hk; cases hk
    · intro k hk hk'
      cases hk
      cases hk'
      rw [hgg] at hgg'
      cases hgg'
      exact hne rfl
theorem OwnT.chg {W W' : World} {base : Nat} {v : Value} {l : List ByteArray} (h : OwnT W base v l) {S : Blk} (c : Chg S W W') (hd : ∀ k, v.ownBlock = some k → ¬ S k) : OwnT W' base v l := row_kept h (fun k hk => c.block k (World.ownsRow.lt h k hk).2 (hd k hk))
/-- append(s, x) where s is a list of texts that is owned. -/
theorem wpListIn_append_t {F : Fence} {n : Nat} (w : World) {ops : Array Oper} {rest : List Oper} {o : Oper} {a : Act} {Q : Exit → Act → World → Prop}
    (hg : o.guard = none) (s x : Operand) (hop : o.op = Op.call { callee := Callee.builtin Builtin.append, args := #[s, x], argTypes := #[86, 86] })
    (base : Nat) (v : Value) (ls : List ByteArray) (hs : a.eval s = v) (hown : OwnT w base v ls) (p : Option Addr) (m c : Nat) (zs : List ByteArray) (hx : a.eval x = .slice p m c) (hsl : SlT w (.slice p m c) zs)
    (b1 : ls.length + m ≤ 1000000) (b3 : base ≤ w.heap.size)
    (hK : ∀ v' w', OwnT w' base v' (ls ++ zs) → w.grownBy w' v.ownBlock → (v'.ownBlock = v.ownBlock ∨ v'.ownBlock = some w.heap.size) → wpListIn F n Tryz.prog ops Q rest (a.put o.dst v') w') :
    wpListIn F n Tryz.prog ops Q (o :: rest) a w := by
  have hlen : m = zs.length := by obtain ⟨p', c', e, _⟩ := hsl; cases e; simp
  refine wpListIn_append_sv w hg s x hop base v ls.length (ls.map Value.string) hs hown p m c zs hx hsl b1 b3 (fun v' w' r1 r2 r3 => hK v' w' ?_ r2 r3)
  show w'.ownsRow base 9 1 v' (ls ++ zs).length ((ls ++ zs).map Value.string)
  rw [List.length_append, List.map_append, ← hlen]
  exact r1
end Go.Proofs.YtakbeololabmhaaGreatDoor

end
section
-- FRow
namespace Go.Proofs.YtakbeololabmhaaGreatDoor
open Go.RowKit Go.Shelf Go.SeqLib Go.DiffLib Go.TreeLib Go.Sort

section
variable {α : Type} [Inhabited α]
/-- A row that is owned, written over by the sort: it is owned still; no other block of what lay is changed. -/
theorem row_sorted {w : World} {base : Nat} {e : TypeId} {s g n cap : Nat} {xs : List Value} (h : w.ownsRow base e s (.slice (some ⟨g, 0, none⟩) n cap) n xs) (enc : α → Value) (d : Array α) (hd : d.size = n * s) (m : Nat) (os : Array Obj) :
    (grow (putRow enc (Sort.ahead w m) g 0 d) os).ownsRow base e s (.slice (some ⟨g, 0, none⟩) n cap) n (d.toList.map enc) ∧ Chg (fun k => k = g) w (grow (putRow enc (Sort.ahead w m) g 0 d) os) := by
  obtain ⟨h1, h2⟩ := h
  rcases h2 with ⟨h2, _⟩ | ⟨g', cap', cur, hv, hb, hg, hn, hm, hs, ht⟩
  · cases h2
  · cases hv
    have hlt : g < w.heap.size := (Array.getElem?_eq_some_iff.1 hg).1
    have hheap : ∀ k, k < w.heap.size → (grow (putRow enc (Sort.ahead w m) g 0 d) os).heap[k]? = (w.heap.modify g (onCells (putCells enc 0 d)))[k]? := by
      intro k hk
      show ((w.heap.modify g (onCells (putCells enc 0 d))) ++ os)[k]? = _
      rw [Array.getElem?_append_left (by rw [Array.size_modify]; exact hk)]
    refine ⟨⟨by rw [List.length_map, Array.length_toList, hd], .inr ⟨g, cap, putCells enc 0 d cur, rfl, hb, ?_, hn, hm, by unfold putCells; rw [Array.size_mapIdx]; exact hs, ?_⟩⟩, rfl, rfl, rfl, ?_, fun k hk hne => ?_⟩
    · rw [hheap g hlt, Array.getElem?_modify, if_pos rfl, hg]
      rfl
    · refine List.ext_getElem? fun i => ?_
      have hns : n * s ≤ cur.size := by rw [hs]; exact Nat.mul_le_mul_right _ hn
      rw [List.getElem?_take]
      by_cases hi : i < n * s
      · rw [if_pos hi, Array.getElem?_toList, List.getElem?_map, Array.getElem?_toList]
        unfold putCells
        rw [Array.getElem?_mapIdx, Array.getElem?_eq_getElem (by omega), Option.map_some, if_pos ⟨Nat.zero_le _, by omega⟩, Nat.sub_zero, getElem!_pos d i (by omega), Array.getElem?_eq_getElem (by omega)]
        rfl
      · rw [if_neg hi, List.getElem?_eq_none (by rw [List.length_map, Array.length_toList]; omega)]
    · show w.heap.size ≤ ((w.heap.modify g (onCells (putCells enc 0 d))) ++ os).size
      rw [Array.size_append, Array.size_modify]
      omega
    · rw [hheap k hk, Array.getElem?_modify, if_neg (fun e => hne e.symm)]
/-- A row that is owned holds what it is said to. -/
theorem row_holds {w : World} {base : Nat} {e : TypeId} {s g n cap : Nat} {xs : List Value} (h : w.ownsRow base e s (.slice (some ⟨g, 0, none⟩) n cap) n xs) (enc : α → Value) (d : Array α) (hd : d.toList.map enc = xs) : Holds enc w g 0 d ∧ g < w.heap.size ∧ n ≤ cap := by
  have h0 := h
  obtain ⟨h1, h2⟩ := h
  rcases h2 with ⟨h2, _⟩ | ⟨g', cap', cur, hv, hb, hg, hn, hm, hs, ht⟩
  · cases h2
  · cases hv
    refine ⟨fun j hj => ⟨?_, by simp [World.frozen?, hg]⟩, (Array.getElem?_eq_some_iff.1 hg).1, hn⟩
    have := h0.cells (g := g) rfl j (enc d[j]!) (by rw [← hd, List.getElem?_map, Array.getElem?_toList, Array.getElem?_eq_getElem hj, getElem!_pos d j hj]; rfl)
    rw [addr_add] at this
    exact this
end

end Go.Proofs.YtakbeololabmhaaGreatDoor

end
section
-- RPaths
namespace Go.TreeLib
open Go Go.Lib

/-- No text ahead of a lesser one. -/
def Ris (l : List (List UInt8)) : Prop := l.Pairwise (fun a b => Op.bytesLess b a = false)
theorem bl_le_trans {x y z : List UInt8} (h1 : Op.bytesLess y x = false) (h2 : Op.bytesLess z y = false) : Op.bytesLess z x = false := by
  cases h : Op.bytesLess z x with
  | false => rfl
  | true =>
    cases h3 : Op.bytesLess x y with
    | true => rw [bl_trans _ _ _ h h3] at h2; cases h2
    | false => rw [bl_tri _ _ h3 h1, h2] at h; cases h
theorem bl_le_total (x y : List UInt8) : Op.bytesLess y x = false ∨ Op.bytesLess x y = false := by
  cases h : Op.bytesLess y x with
  | false => exact .inl rfl
  | true =>
    right
    cases h2 : Op.bytesLess x y with
    | false => rfl
    | true => have := bl_trans _ _ _ h h2; rw [bl_irrefl] at this; cases this
theorem le_bl (x y : List UInt8) : decide (x ≤ y) = !Op.bytesLess y x := by
  rw [Go.Proofs.bytesLess_eq]
  by_cases h : y < x
  · rw [decide_eq_true h, decide_eq_false (fun h2 => h2 h)]; rfl
  · rw [decide_eq_false h, decide_eq_true (show x ≤ y from h)]; rfl
theorem sort_ris (l : List (List UInt8)) : Ris (l.mergeSort fun x y => decide (x ≤ y)) := by
  have := List.pairwise_mergeSort (le := fun x y : List UInt8 => decide (x ≤ y)) (by
    intro a b c h1 h2
    rw [le_bl] at h1 h2 ⊢
    rw [bl_le_trans (by simpa using h1) (by simpa using h2)]
    rfl) (by
    intro a b
    rw [le_bl, le_bl]
    rcases bl_le_total a b with h | h <;> rw [h] <;> simp) l
  refine this.imp (fun h => ?_)
  rw [le_bl] at h
  simpa using h
theorem mem_sort (l : List (List UInt8)) (z : List UInt8) : z ∈ (l.mergeSort fun x y => decide (x ≤ y)) ↔ z ∈ l := (List.mergeSort_perm l _).mem_iff

theorem upto_up (l : List (List UInt8)) (h : Ris l) : ∀ m, m ≤ l.length → (compactUpTo l.toArray m).Pairwise (fun a b => Op.bytesLess a b = true) ∧ (∀ z, z ∈ compactUpTo l.toArray m ↔ z ∈ l.take m) ∧ ∀ (_ : 0 < m) z, z ∈ compactUpTo l.toArray m → Op.bytesLess l.toArray[m - 1]! z = false
  | 0, _ => ⟨by simp [compactUpTo], fun z => by simp [compactUpTo], fun h0 => by omega⟩
  | m + 1, hm => by
    obtain ⟨h1, h2, h3⟩ := upto_up l h m (by omega)
    have hg : l.toArray[m]! = l[m] := by rw [getElem!_pos l.toArray m (by simp; omega)]; rfl
    have ht : l.take (m + 1) = l.take m ++ [l[m]] := List.take_succ_eq_append_getElem (by omega)
    rw [compactUpTo_succ, ht]
    have hle : 0 < m → Op.bytesLess l.toArray[m]! l.toArray[m - 1]! = false := fun h0 => by
      rw [hg, getElem!_pos l.toArray (m - 1) (by simp; omega)]
      exact List.pairwise_iff_getElem.1 h (m - 1) m (by omega) (by omega) (by omega)
    by_cases hk : keeps l.toArray m = true
    · rw [if_pos hk]
      have hlt : ∀ z ∈ compactUpTo l.toArray m, Op.bytesLess z l.toArray[m]! = true := by
        intro z hz
        have h0 : 0 < m := by
          rcases Nat.eq_zero_or_pos m with rfl | h0
          · simp [compactUpTo] at hz
          · exact h0
        have a := h3 h0 z hz
        have b := hle h0
        have hne : l.toArray[m]! ≠ l.toArray[m - 1]! := fun e => by rw [keeps_neg h0 e] at hk; cases hk
        cases hb : Op.bytesLess l.toArray[m - 1]! l.toArray[m]! with
        | false => exact absurd (bl_tri _ _ b hb) hne
        | true =>
          cases hc : Op.bytesLess z l.toArray[m]! with
          | true => rfl
          | false => rw [bl_le_trans hc a] at hb; cases hb
      refine ⟨?_, fun z => by rw [List.mem_append, List.mem_append, h2, hg], fun _ z hz => ?_⟩
      · rw [List.pairwise_append]
        exact ⟨h1, List.pairwise_singleton _ _, fun a ha b hb => by rw [List.mem_singleton.1 hb]; exact hlt a ha⟩
      · rw [Nat.add_sub_cancel]
        rcases List.mem_append.1 hz with hz | hz
        · cases hc : Op.bytesLess l.toArray[m]! z with
          | false => rfl
          | true => have := bl_trans _ _ _ hc (hlt z hz); rw [bl_irrefl] at this; cases this
        · rw [List.mem_singleton.1 hz, bl_irrefl]
    · have hk' : keeps l.toArray m = false := by simpa using hk
      rw [if_neg hk, List.append_nil]
      have h0 : 0 < m := by
        rcases Nat.eq_zero_or_pos m with rfl | h0
        · exact absurd (keeps_lt_one l.toArray 0 (by omega)) hk
        · exact h0
      have he : l.toArray[m]! = l.toArray[m - 1]! := Classical.byContradiction fun e => hk (keeps_pos e)
      refine ⟨h1, fun z => ?_, fun _ z hz => ?_⟩
      · rw [h2, List.mem_append, List.mem_singleton]
        refine ⟨.inl, fun hz => hz.elim id (fun hz => ?_)⟩
        rw [hz, ← hg, he, getElem!_pos l.toArray (m - 1) (by simp; omega)]
        exact List.mem_take_iff_getElem.2 ⟨m - 1, by omega, rfl⟩
      · rw [Nat.add_sub_cancel, he]
        exact h3 h0 z hz

/-- Sorted, each but once: it rises, and has just the texts. -/
theorem sort_compact (all : List ByteArray) : compact ((all.map Bs).mergeSort fun x y => decide (x ≤ y)) = (rise all).map Bs := by
  obtain ⟨h1, h2, _⟩ := upto_up _ (sort_ris (all.map Bs)) _ (Nat.le_refl _)
  have e : compact ((all.map Bs).mergeSort fun x y => decide (x ≤ y)) = compactUpTo ((all.map Bs).mergeSort fun x y => decide (x ≤ y)).toArray ((all.map Bs).mergeSort fun x y => decide (x ≤ y)).length := rfl
  rw [← e] at h1 h2
  generalize compact ((all.map Bs).mergeSort fun x y => decide (x ≤ y)) = C at *
  have hmk : ∀ l : List UInt8, Bs (ByteArray.mk l.toArray) = l := fun l => by simp
  have hC : C = (C.map (fun l => ByteArray.mk l.toArray)).map Bs := by
    rw [List.map_map]
    conv => lhs; rw [← List.map_id C]
    exact List.map_congr_left (fun l _ => (hmk l).symm)
  have hR : C.map (fun l => ByteArray.mk l.toArray) = rise all := by
    refine upT_unique ?_ (rise_up all) (fun z => ?_)
    · unfold UpT
      rw [List.pairwise_map]
      refine h1.imp (fun {a b} h => ?_)
      unfold lt
      rw [Go.ByteArray.toList_eq, Go.ByteArray.toList_eq]
      simpa using h
    · rw [mem_rise]
      constructor
      · intro hz
        obtain ⟨l, hl, rfl⟩ := List.mem_map.1 hz
        have := (h2 l).1 hl
        rw [List.take_length, mem_sort] at this
        obtain ⟨y, hy, rfl⟩ := List.mem_map.1 this
        simpa using hy
      · intro hz
        refine List.mem_map.2 ⟨Bs z, (h2 _).2 ?_, by simp⟩
        rw [List.take_length, mem_sort]
        exact List.mem_map.2 ⟨z, hz, rfl⟩
  rw [hC, hR]
end Go.TreeLib

end
section
-- FSort
namespace Go.Proofs.YtakbeololabmhaaGreatDoor
open Go.RowKit Go.Shelf Go.SeqLib Go.DiffLib Go.TreeLib Go.Sort

theorem encStr_bs (x : ByteArray) : encStr (Bs x) = .string x := by show Value.string ⟨x.data.toList.toArray⟩ = _; rw [Array.toArray_toList]
theorem map_encStr (xs : List ByteArray) : (xs.map Bs).map encStr = xs.map Value.string := by
  rw [List.map_map]
  exact List.map_congr_left (fun x _ => encStr_bs x)

/-- A row that is owned, cut short. -/
theorem row_cut {w : World} {base : Nat} {e : TypeId} {g n cap : Nat} {xs : List Value} (h : w.ownsRow base e 1 (.slice (some ⟨g, 0, none⟩) n cap) n xs) (m : Nat) (hm : m ≤ n) : w.ownsRow base e 1 (.slice (some ⟨g, 0, none⟩) m cap) m (xs.take m) := by
  obtain ⟨h1, h2⟩ := h
  rcases h2 with ⟨h2, _⟩ | ⟨g', cap', cur, hv, hb, hg, hn, hx, hs, ht⟩
  · cases h2
  · cases hv
    refine ⟨by rw [List.length_take, h1]; omega, .inr ⟨g, cap, cur, rfl, hb, hg, Nat.le_trans hm hn, hx, hs, ?_⟩⟩
    rw [← ht, List.take_take, Nat.mul_one, Nat.mul_one, Nat.min_eq_left hm]

theorem row_some {w : World} {base : Nat} {e : TypeId} {v : Value} {n : Nat} {xs : List Value} (h : w.ownsRow base e 1 v n xs) (hn : n ≠ 0) : ∃ g cap, v = .slice (some ⟨g, 0, none⟩) n cap := by
  rcases h.2 with ⟨_, h0⟩ | ⟨g, cap, cur, rfl, _⟩
  · exact absurd h0 hn
  · exact ⟨g, cap, rfl⟩

theorem sortS_in (v : Value) (xs : List ByteArray) (base : Nat) (hl : xs.length ≤ 1000000) (w : World) (h : w.ownsRow base 9 1 v xs.length (xs.map Value.string)) : CallsIn Fence.wide 0 Tryz.prog 92 #[v] w fun e w' =>
    e = .returned (.tuple #[]) ∧ w'.ownsRow base 9 1 v xs.length (((xs.map Bs).mergeSort fun x y => decide (x ≤ y)).map encStr) ∧ Chg (fun k => v.ownBlock = some k) w w' := by
  by_cases h0 : xs.length = 0
  · obtain ⟨p, cap, rfl⟩ := row_slice h
    obtain rfl := List.length_eq_zero_iff.1 h0
    refine (callsIn_wide (n := 0)).2 ((Any.slices_Sort_string_none Tryz.laysSort p cap w).mono ?_)
    rintro e w' ⟨rfl, rfl⟩
    exact ⟨rfl, by simpa using h, Chg.refl _ _⟩
  · obtain ⟨g, cap, rfl⟩ := row_some h h0
    have hh := row_holds h encStr (xs.map Bs).toArray (map_encStr xs)
    have hc := Any.slices_Sort_string Tryz.laysSort g 0 cap (xs.map Bs) w hh.1 hh.2.1 (by rw [List.length_map]; omega)
    rw [List.length_map] at hc
    refine (callsIn_wide (n := 0)).2 (hc.mono ?_)
    rintro e w' ⟨rfl, m, os, rfl⟩
    have hs := row_sorted h encStr ((xs.map Bs).mergeSort fun x y => decide (x ≤ y)).toArray (by rw [List.size_toArray, List.length_mergeSort, List.length_map, Nat.mul_one]) m os
    refine ⟨rfl, hs.1, hs.2.mono ?_⟩
    rintro k rfl
    rfl

theorem compactS_in (v : Value) (zs : List (List UInt8)) (base : Nat) (hl : zs.length ≤ 1000000) (w : World) (h : w.ownsRow base 9 1 v zs.length (zs.map encStr)) : CallsIn Fence.wide 0 Tryz.prog 93 #[v] w fun e w' =>
    ∃ v', e = .returned v' ∧ w'.ownsRow base 9 1 v' (Lib.compact zs).length ((Lib.compact zs).map encStr) ∧ v'.ownBlock = v.ownBlock ∧ Chg (fun k => v.ownBlock = some k) w w' := by
  by_cases h0 : zs.length = 0
  · obtain ⟨p, cap, rfl⟩ := row_slice h
    obtain rfl := List.length_eq_zero_iff.1 h0
    refine (callsIn_wide (n := 0)).2 ((Any.slices_Compact_string_empty Tryz.laysCompact p cap w).mono ?_)
    rintro e w' ⟨rfl, rfl⟩
    exact ⟨_, rfl, h, rfl, Chg.refl _ _⟩
  · obtain ⟨g, cap, rfl⟩ := row_some h h0
    have hh := row_holds h encStr zs.toArray rfl
    have hle : (Lib.compact zs).length ≤ zs.length := by
      unfold Lib.compact Lib.compactUpTo
      rw [List.length_map]
      refine Nat.le_trans (List.length_filter_le _ _) ?_
      rw [List.length_range]
      exact Nat.le_refl _
    have hc := Any.slices_Compact_string Tryz.laysCompact g 0 cap zs w hh.1 (by omega) hh.2.2
    refine (callsIn_wide (n := 0)).2 (hc.mono ?_)
    rintro e w' ⟨rfl, m, rfl⟩
    have hs := row_sorted h encStr (Lib.compact zs ++ List.replicate (zs.length - (Lib.compact zs).length) []).toArray (by simp; omega) m #[]
    have hg : ∀ W : World, grow W #[] = W := fun W => by simp [grow]
    rw [hg] at hs
    refine ⟨_, rfl, ?_, rfl, hs.2.mono ?_⟩
    · have := row_cut hs.1 (Lib.compact zs).length hle
      rw [List.map_append, List.take_left' (by rw [List.length_map])] at this
      exact this
    · rintro k rfl
      rfl

end Go.Proofs.YtakbeololabmhaaGreatDoor

end
