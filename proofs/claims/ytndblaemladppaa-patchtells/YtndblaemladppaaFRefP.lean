/-
  The document's own answer: what comes of putting a file.
-/
import Derived.Test.YtndblaemladppaaFRefA
import Derived.Test.YtndblaemladppaaFLe
import Derived.Test.YtndblaemladppaaRStable
import Derived.Test.YtndblaemladppaaLoudG
import Derived.Test.YtndblaemladppaaQuiet
import Derived.Test.YtndblaemladppaaLoudA
import Derived.Laws.Cover1
namespace Go.TreeLib
open Go
theorem ins_at {x : Fl} {l : List Fl} (h : Up l) (k : Nat) (hk : k ≤ l.length) (h1 : k = 0 ∨ ∃ y, l[k - 1]? = some y ∧ lt x.1 y.1 = false) (h2 : ∀ g ∈ l.drop k, lt x.1 g.1 = true) : ins x l = l.take k ++ [x] ++ l.drop k := by
  have hA : ∀ a ∈ l.take k, lt x.1 a.1 = false := by
    intro a ha
    rcases h1 with rfl | ⟨y, hy, hl⟩
    · simp at ha
    · obtain ⟨i, hi, e⟩ := List.mem_take_iff_getElem.1 ha
      obtain ⟨hk1, ey⟩ := List.getElem?_eq_some_iff.1 hy
      by_cases he : i = k - 1
      · subst he; rw [← e, ey]; exact hl
      · have := List.pairwise_iff_getElem.1 h i (k - 1) (by omega) hk1 (by omega)
        rw [e, ey] at this
        exact le_trans this hl
  have := ins_split hA h2
  rw [List.take_append_drop] at this
  rw [this, List.append_assoc]
  rfl
end Go.TreeLib
namespace Go.Proofs.Ytndblaemladppaa
open Go.RowKit Go.Shelf Go.SeqLib Go.DiffLib Go.TreeLib Go.BigFrame
attribute [local go_sem] Oper.semAt_some

theorem LeadsV.append_sf {n : Nat} {o : Oper} {a : Act} {R : Value → World → Prop} {w : World}
    (s x : Operand) (hop : o.op = Op.call { callee := Callee.builtin Builtin.append, args := #[s, x], argTypes := #[22, 22] })
    (base : Nat) (v : Value) (ys : List Fl) (hs : a.eval s = v) (hown : OwnF w base v ys) (p : Option Addr) (m c : Nat) (zs : List Fl) (hx : a.eval x = .slice p m c) (hsl : SlF w (.slice p m c) zs)
    (b1 : ys.length + m ≤ 1000000) (b3 : base ≤ w.heap.size)
    (hK : ∀ v' w', OwnF w' base v' (ys ++ zs) → w.grownBy w' v.ownBlock → (v'.ownBlock = v.ownBlock ∨ v'.ownBlock = some w.heap.size) → R v' w') : LeadsV Try.prog n o a R w := by
  obtain ⟨i0, hi, hz0, hz1, hz2⟩ := info_parts info43
  have hlen := SlF.len hsl
  cases p with
  | none =>
    have hz : zs = [] := by
      obtain ⟨p', c', e, h1, h2, hc⟩ := hsl
      cases e
      cases zs with
      | nil => rfl
      | cons x r => obtain ⟨b, off, h, _⟩ := hc 0 x rfl; cases h
    subst hz
    obtain rfl : m = 0 := hlen.symm
    obtain ⟨pv, cv, rfl⟩ := row_slice hown
    have hkc : ys.length ≤ cv ∧ (pv = none → ys.length = 0 ∧ cv = 0) := by
      rcases hown.2 with ⟨h, h0⟩ | ⟨g, cap, cur, h, _, _, h3, _⟩
      · rw [Value.slice.injEq] at h
        obtain ⟨rfl, _, rfl⟩ := h
        exact ⟨by omega, fun _ => ⟨h0, rfl⟩⟩
      · rw [Value.slice.injEq] at h
        obtain ⟨rfl, _, rfl⟩ := h
        exact ⟨h3, fun h => by cases h⟩
    have hrun := run_append_nothing (P := Try.prog) w (ty := o.type) Try.underlying22 hi pv ys.length cv c hkc.1 hkc.2
    refine LeadsV.value (v := .slice pv ys.length cv) (w' := w) ?_ (hK _ w (by rw [List.append_nil]; exact hown) ⟨rfl, rfl, rfl, Nat.le_refl _, fun _ _ _ => rfl⟩ (.inl rfl))
    simp [execOp, hop, resolve, invoke, builtin, hs, hx, hrun, Result.andThen]
  | some ad =>
    have hcl := flatF_cells hsl
    refine LeadsV.append s x 22 hop base 43 i0 (.agg #[.string ⟨#[]⟩, .string ⟨#[]⟩]) 2 32 Try.underlying22 hi hz0 hz1 hz2 rfl (by decide) v ys.length (ys.flatMap eF) hs hown ad m c (zs.flatMap eF) hx (by rw [flatF_length, hlen]) hcl (flatF_one zs) (by unfold maxLen; omega) (by omega) b3 (fun v' w' r1 r2 r4 => hK v' w' ?_ r2 r4)
    show w'.ownsRow base 43 2 v' (ys ++ zs).length ((ys ++ zs).flatMap eF)
    rw [List.flatMap_append, List.length_append, hlen]
    exact r1

/-- What holds while a list is put together: what stands ahead, the new one, what stands behind. -/
structure InsInv (W0 : World) (A : List Fl) (x : Fl) (B : List Fl) (d : Nat → Bool) (u : Nat → Value) (W : World) : Prop where
  chg : Chg No W0 W
  o9 : d 9 = true → d 3 = true ∧ d 8 = true
  o13 : d 13 = true → d 9 = true
  f3 : d 3 = true → d 9 = false → OwnF W W0.heap.size (u 3) A
  f8 : d 8 = true → d 9 = false → SlF W (u 8) [x]
  f9 : d 9 = true → d 13 = false → OwnF W W0.heap.size (u 9) (A ++ [x])
  f13 : d 13 = true → OwnF W W0.heap.size (u 13) (A ++ [x] ++ B)

theorem InsInv.s3 {W0 W W' : World} {A B : List Fl} {x : Fl} {d : Nat → Bool} {u : Nat → Value} (h : InsInv W0 A x B d u W) (hd : d 3 = false) {v : Value} (ho : OwnF W' W0.heap.size v ([] ++ A)) (c : Chg No W W') :
    InsInv W0 A x B (fun j => if j = 3 then true else d j) (fun j => if j = 3 then v else u j) W' := by
  have n9 : d 9 = false := by cases h9 : d 9 with | false => rfl | true => have := (h.o9 h9).1; rw [hd] at this; cases this
  have n13 : d 13 = false := by cases h9 : d 13 with | false => rfl | true => have := h.o13 h9; rw [n9] at this; cases this
  exact ⟨Chg.seq h.chg c, fun e => absurd (n9.symm.trans (show d 9 = true from e)) Bool.false_ne_true, fun e => absurd (n13.symm.trans (show d 13 = true from e)) Bool.false_ne_true, fun _ _ => ho, fun a b => (h.f8 a b).no c, fun e => absurd (n9.symm.trans (show d 9 = true from e)) Bool.false_ne_true, fun e => absurd (n13.symm.trans (show d 13 = true from e)) Bool.false_ne_true⟩
theorem InsInv.s8 {W0 W W' : World} {A B : List Fl} {x : Fl} {d : Nat → Bool} {u : Nat → Value} (h : InsInv W0 A x B d u W) (hd : d 8 = false) {v : Value} (ho : SlF W' v [x]) (c : Chg No W W') :
    InsInv W0 A x B (fun j => if j = 8 then true else d j) (fun j => if j = 8 then v else u j) W' := by
  have n9 : d 9 = false := by cases h9 : d 9 with | false => rfl | true => have := (h.o9 h9).2; rw [hd] at this; cases this
  have n13 : d 13 = false := by cases h9 : d 13 with | false => rfl | true => have := h.o13 h9; rw [n9] at this; cases this
  exact ⟨Chg.seq h.chg c, fun e => absurd (n9.symm.trans (show d 9 = true from e)) Bool.false_ne_true, fun e => absurd (n13.symm.trans (show d 13 = true from e)) Bool.false_ne_true, fun a b => (h.f3 a b).no c, fun _ _ => ho, fun e => absurd (n9.symm.trans (show d 9 = true from e)) Bool.false_ne_true, fun e => absurd (n13.symm.trans (show d 13 = true from e)) Bool.false_ne_true⟩
theorem InsInv.s9 {W0 W W' : World} {A B : List Fl} {x : Fl} {d : Nat → Bool} {u : Nat → Value} (h : InsInv W0 A x B d u W) (hd : d 9 = false) (h3 : d 3 = true) (h8 : d 8 = true) {v : Value} (ho : OwnF W' W0.heap.size v (A ++ [x])) (hg : W.grownBy W' (u 3).ownBlock) :
    InsInv W0 A x B (fun j => if j = 9 then true else d j) (fun j => if j = 9 then v else u j) W' := by
  have n13 : d 13 = false := by cases h9 : d 13 with | false => rfl | true => have := h.o13 h9; rw [hd] at this; cases this
  exact ⟨h.chg.grown hg (fun k e => .inr (World.ownsRow.lt (h.f3 h3 hd) k e).1), fun _ => ⟨h3, h8⟩, fun _ => rfl, fun _ e => absurd (show true = false from e) (by decide : ¬ true = false), fun _ e => absurd (show true = false from e) (by decide : ¬ true = false), fun _ _ => ho, fun e => absurd (n13.symm.trans (show d 13 = true from e)) Bool.false_ne_true⟩
theorem InsInv.s13 {W0 W W' : World} {A B : List Fl} {x : Fl} {d : Nat → Bool} {u : Nat → Value} (h : InsInv W0 A x B d u W) (hd : d 13 = false) (h9 : d 9 = true) {v : Value} (ho : OwnF W' W0.heap.size v (A ++ [x] ++ B)) (hg : W.grownBy W' (u 9).ownBlock) :
    InsInv W0 A x B (fun j => if j = 13 then true else d j) (fun j => if j = 13 then v else u j) W' :=
  ⟨h.chg.grown hg (fun k e => .inr (World.ownsRow.lt (h.f9 h9 hd) k e).1), fun _ => h.o9 h9, fun _ => h9, fun _ e => absurd (h9.symm.trans (show d 9 = false from e)) (by decide : ¬ true = false), fun _ e => absurd (h9.symm.trans (show d 9 = false from e)) (by decide : ¬ true = false), fun _ e => absurd (show true = false from e) (by decide : ¬ true = false), fun _ => ho⟩

set_option maxRecDepth 100000 in
set_option maxHeartbeats 4000000 in
theorem refPut_in (v : Value) (zs : List Fl) (p d : ByteArray) (hlen : zs.length ≤ 100) (w : World) (hv : SlF w v zs) : CallsIn Fence.wide 0 Try.prog 19 #[v, .string p, .string d] w fun e w' =>
    ∃ v', e = .returned v' ∧ OwnF w' w.heap.size v' (TreeLib.put zs p d) ∧ Chg No w w' := by
  have hmix : Try.prog.follows .mixedOrders = true := by kernel_rfl
  have hdl := (drop_sub zs p).length_le
  obtain ⟨all, HAll⟩ : ∃ all, Hid (TreeLib.drop zs p ++ [(p, d)] = all) := ⟨_, rfl⟩
  have HPut : Hid (TreeLib.put zs p d = isort all) := by show _ = _; unfold TreeLib.put; rw [HAll.out]
  have hal : all.length ≤ 101 := by rw [← HAll.out, List.length_append, List.length_singleton]; omega
  refine callsIn_of_wp Try.func19 rfl trivial ?_
  simp only [Try.ntmps19, List.size_toArray, List.length_cons, List.length_nil, Nat.reduceAdd, Nat.reduceSub, Array.replicate_succ, Array.replicate_zero, List.push_toArray, List.append_toArray, List.nil_append, List.cons_append]
  gi_wp2_with fail
  refine ⟨trivial, rfl, (refDrop_in v zs p (by omega) _ hv).mono ?_⟩
  rintro e w1 ⟨v1, rfl, r1, c1⟩
  have s1 := SlF.one w1 (p, d)
  have hb1 := c1.size
  gi_wp2_with (gi_at_builtin; refine wpListIn_append_sf _ rfl _ _ rfl w.heap.size _ (TreeLib.drop zs p) rfl (World.ownsRow.alloc r1 _) (some ⟨w1.heap.size, 0, none⟩) 1 1 [(p, d)] rfl s1 (by omega) (by simp; omega) ?_; intro v7 w2 hown hgrow _; have c2 : Chg No w w2 := (c1.alloc _).grown hgrow (fun k e => .inr (World.ownsRow.lt r1 k e).1); rw [HAll.out] at hown; have hs2 : SlF w2 v7 all := hown.sl; obtain ⟨p7, c7, rfl, _, _⟩ := hs2.slice)
  obtain ⟨n, HN⟩ : ∃ n, Hid (all.length = n) := ⟨_, rfl⟩
  rw [HN.out] at hs2 hal ⊢
  clear hown hgrow r1 s1 hb1 c1 hv hlen hdl
  gi_loopw [9, 8] (fun i o wr => ∃ k : Nat, k ≤ n ∧ i = .int .i64 (k : Int) ∧ OwnF wr w.heap.size o (isort (all.take k)) ∧ SlF wr (.slice p7 n c7) all ∧ Chg No w wr) (fun i _ _ => n - (intOf i).toNat)
  case atStart => exact ⟨0, Nat.zero_le _, rfl, OwnF.nil _ _, hs2, c2⟩
  case round =>
    obtain ⟨i, hi, rfl, ho, hs7, c⟩ := hrel
    by_cases hlt : i < n
    · have hlt' : (i : Int) < (n : Int) := by omega
      have hil : i < all.length := by rw [HN.out]; exact hlt
      obtain ⟨x, hx⟩ : ∃ x, all[i]? = some x := ⟨_, List.getElem?_eq_getElem hil⟩
      have HTS : Hid (all.take (i + 1) = all.take i ++ [x]) := by show _ = _; rw [List.take_add_one, hx]; rfl
      have HLn : Hid ((isort (all.take i)).length = i) := by show _ = _; rw [isort_length, List.length_take]; omega
      obtain ⟨b7, o7, rfl, _, _⟩ := SlF.at hs7 i x hx
      obtain ⟨p8, c8, rfl, _, _⟩ := ho.sl.slice
      rw [HLn.out] at ho ⊢
      gi_wp2
      gi_loopw [10] (fun t wr' => ∃ k : Nat, k ≤ i ∧ t = .int .i64 (k : Int) ∧ Hid (∀ g ∈ (isort (all.take i)).drop k, lt x.1 g.1 = true) ∧ Chg No wr wr') (fun t _ => (intOf t).toNat)
      case atStart => exact ⟨i, Nat.le_refl _, rfl, (fun g hg => by rw [List.drop_of_length_le (by rw [HLn.out]; exact Nat.le_refl _)] at hg; cases hg), Chg.refl _ _⟩
      case round =>
        obtain ⟨k, hk2, rfl, HD, c3⟩ := hrel
        have cin := c3
        have ho3 := ho.no c3
        have hs3 := hs7.no c3
        have c4 := Chg.seq c c3
        have hany := After.any wr
        clear ho hs7 c c3
        by_cases h0 : k = 0
        · have h0' : decide (0 < k) = false := decide_eq_false (by omega)
          have HS : Hid (isort (all.take (i + 1)) = (isort (all.take i)).take k ++ [x] ++ (isort (all.take i)).drop k) := by
            show _ = _
            rw [HTS.out, isort_snoc]
            exact ins_at (isort_up _) k (by rw [HLn.out]; exact hk2) (.inl h0) HD.out
          clear h0
          gi_wp2
          refine region_quietC hmix (by kernel_rfl) ?_
          repeat (gi_big_quiet_step (fail))
          refine wpQuietIn_nil ?_
          rintro W5 ⟨c9, hw9⟩
          have hc9 : Chg No wr W5 := by rw [hw9]; exact c9.chg
          clear hw9 c9
          have c5 := Chg.seq c4 hc9
          have ho5 := ho3.no hc9
          have hs5 := hs3.no hc9
          clear c4 ho3 hs3 hc9
          clear hany h0'
          have hso := ho5.sl
          obtain ⟨pa, ca, sA, oA, hcA⟩ := SlF.high hso k hk2
          obtain ⟨pb, cb, sB, oB, hcB⟩ := SlF.low hso k hk2
          obtain ⟨bx, ox, ex, hx1, hx2⟩ := SlF.at hs5 i x hx
          cases ex
          have hany := After.any W5
          have f0 : ∀ c : After W5, c.val.cell? ⟨b7, o7 + i * 2, none⟩ = some (.string x.1) := fun c => c.cell hx1
          have f1 : ∀ c : After W5, c.val.cell? ⟨b7, o7 + i * 2 + 1, none⟩ = some (.string x.2) := fun c => c.cell hx2
          clear hx1 hx2
          gi_wp2
          refine region_loudG (fun i => i == 3 || i == 8 || i == 9 || i == 13) (fun w' => ∃ c : After W5, w' = c.val) (InsInv W5 ((isort (all.take i)).take k) x ((isort (all.take i)).drop k)) (fun _ => .slice none 0 0) hmix (by kernel_rfl) (by kernel_rfl) (fun d u W h => ⟨⟨W, h.chg⟩, rfl⟩)
            ⟨(Chg.refl _ W5).drew, fun h => (by cases h), fun h => (by cases h), fun h => (by cases h), fun h => (by cases h), fun h => (by cases h), fun h => (by cases h)⟩ (fun u hu => ?_)
          clear hu
          simp only [hushE, Nat.reduceAdd, Nat.reduceBEq, Bool.or_self, Bool.or_true, Bool.or_false, if_true, if_false, Bool.false_eq_true]
          repeat (gi_big_quiet_step (fail))
          refine wpQuietIn_nil ⟨?_, ?_, ?_⟩
          · intro i o ho hm
            simp only [Bool.or_eq_true, beq_iff_eq] at hm
            rcases hm with ((rfl | rfl) | rfl) | rfl
            all_goals (cases ho; rfl)
          · intro j o d W hjo hm hd hwt hI
            simp only [Bool.or_eq_true, beq_iff_eq] at hm
            rcases hm with ((rfl | rfl) | rfl) | rfl
            · cases hjo
              refine LeadsV.append_sf _ _ rfl W5.heap.size (.slice none 0 0) [] rfl (OwnF.nil _ _) pa k ca ((isort (all.take i)).take k) rfl (sA.no hI.chg) (by simp; omega) hI.chg.size ?_
              intro v' w' ho' hg' _
              exact hI.s3 hd ho' ((Chg.refl _ W).grown hg' (fun k e => by cases e))
            · cases hjo
              refine LeadsV.value (v := .slice (some ⟨W.heap.size, 0, none⟩) 1 1) (w' := W.alloc (.cells #[.string x.1, .string x.2] 43)) ?_ (hI.s8 hd (SlF.one W x) ((Chg.refl _ W).alloc _))
              simp [go_sem]
            · cases hjo
              have h3 := hwt 3 rfl (by kernel_rfl)
              have h8 := hwt 8 rfl (by kernel_rfl)
              obtain ⟨q8, m8, e8, _, _⟩ := (hI.f8 h8 hd).slice
              refine LeadsV.append_sf _ _ rfl W5.heap.size (u 3) _ rfl (hI.f3 h3 hd) q8 1 m8 [x] e8 (by have := hI.f8 h8 hd; rw [e8] at this; exact this) (by simp; omega) hI.chg.size ?_
              intro v' w' ho' hg' _
              exact hI.s9 hd h3 h8 ho' hg'
            · cases hjo
              have h9 := hwt 9 rfl (by kernel_rfl)
              refine LeadsV.append_sf _ _ rfl W5.heap.size (u 9) _ rfl (hI.f9 h9 hd) pb (i - k) cb ((isort (all.take i)).drop k) rfl (sB.no hI.chg) (by simp; omega) hI.chg.size ?_
              intro v' w' ho' hg' _
              exact hI.s13 hd h9 ho' hg'
          · intro d W hall hI
            have h13 := hI.f13 (hall 13 rfl (by simp))
            have cW := Chg.seq c5 hI.chg
            have s7 := hs5.no hI.chg
            gi_wp2
            go_roundw
            case rel => exact ⟨i + 1, hlt, by go_num, OwnF.base (by rw [HS.out]; exact h13) c5.size, s7, cW⟩
            case measure => simp [intOf]; omega
        · have h0' : decide (0 < k) = true := decide_eq_true (by omega)
          obtain ⟨y, hy⟩ : ∃ y, (isort (all.take i))[k - 1]? = some y := ⟨_, List.getElem?_eq_getElem (by rw [HLn.out]; omega)⟩
          obtain ⟨b8, o8, rfl, hy1, _⟩ := SlF.at (ho3.sl : SlF wr (.slice p8 i c8) _) (k - 1) y hy
          obtain ⟨bx, ox, ex, hx1, _⟩ := SlF.at hs3 i x hx
          cases ex
          have f0 : ∀ c : After wr, c.val.cell? ⟨b7, o7 + i * 2, none⟩ = some (.string x.1) := fun c => c.cell hx1
          have f2 : ∀ c : After wr, c.val.cell? ⟨b8, o8 + (k - 1) * 2, none⟩ = some (.string y.1) := fun c => c.cell hy1
          clear hx1 hy1
          cases hxy : lt x.1 y.1 with
          | true =>
            have hle := leB_lt y.1 x.1
            rw [hxy] at hle
            obtain ⟨hA, hB⟩ := Bool.or_eq_false_iff.1 hle
            have HD2 : Hid (∀ g ∈ (isort (all.take i)).drop (k - 1), lt x.1 g.1 = true) := by
              intro g hg
              obtain ⟨hk1, ey⟩ := List.getElem?_eq_some_iff.1 hy
              rw [List.drop_eq_getElem_cons hk1, show k - 1 + 1 = k by omega, ey] at hg
              rcases List.mem_cons.1 hg with h | h
              · rw [h]; exact hxy
              · exact HD.out g h
            have hk1 : 1 ≤ k := by omega
            clear hle hxy hy h0
            gi_wp2
            refine region_quietC hmix (by kernel_rfl) ?_
            repeat (gi_big_quiet_step (fail))
            refine wpQuietIn_nil ?_
            rintro W5 ⟨c9, hw9⟩
            have hc9 : Chg No wr W5 := by rw [hw9]; exact c9.chg
            clear hw9 c9
            have cr := Chg.seq cin hc9
            gi_wp2
            go_roundw
            case rel => exact ⟨k - 1, by omega, by rw [Int.natCast_sub hk1]; rfl, HD2, cr⟩
            case measure => simp [intOf]; omega
          | false =>
            have hle := leB_lt y.1 x.1
            rw [hxy] at hle
            have HS : Hid (isort (all.take (i + 1)) = (isort (all.take i)).take k ++ [x] ++ (isort (all.take i)).drop k) := by
              show _ = _
              rw [HTS.out, isort_snoc]
              exact ins_at (isort_up _) k (by rw [HLn.out]; exact hk2) (.inr ⟨y, hy, hxy⟩) HD.out
            have hk1 : 1 ≤ k := by omega
            clear hxy hy h0
            cases hA : Op.bytesLess y.1.toList x.1.toList with
            | true =>
              clear hle
              gi_wp2
              refine region_quietC hmix (by kernel_rfl) ?_
              repeat (gi_big_quiet_step (fail))
              refine wpQuietIn_nil ?_
              rintro W5 ⟨c9, hw9⟩
              have hc9 : Chg No wr W5 := by rw [hw9]; exact c9.chg
              clear hw9 c9
              have c5 := Chg.seq c4 hc9
              have ho5 := ho3.no hc9
              have hs5 := hs3.no hc9
              clear c4 ho3 hs3 hc9
              clear f0 f2 hany h0' hA
              have hso := ho5.sl
              obtain ⟨pa, ca, sA, oA, hcA⟩ := SlF.high hso k hk2
              obtain ⟨pb, cb, sB, oB, hcB⟩ := SlF.low hso k hk2
              obtain ⟨bx, ox, ex, hx1, hx2⟩ := SlF.at hs5 i x hx
              cases ex
              have hany := After.any W5
              have f0 : ∀ c : After W5, c.val.cell? ⟨b7, o7 + i * 2, none⟩ = some (.string x.1) := fun c => c.cell hx1
              have f1 : ∀ c : After W5, c.val.cell? ⟨b7, o7 + i * 2 + 1, none⟩ = some (.string x.2) := fun c => c.cell hx2
              clear hx1 hx2
              gi_wp2
              refine region_loudG (fun i => i == 3 || i == 8 || i == 9 || i == 13) (fun w' => ∃ c : After W5, w' = c.val) (InsInv W5 ((isort (all.take i)).take k) x ((isort (all.take i)).drop k)) (fun _ => .slice none 0 0) hmix (by kernel_rfl) (by kernel_rfl) (fun d u W h => ⟨⟨W, h.chg⟩, rfl⟩)
                ⟨(Chg.refl _ W5).drew, fun h => (by cases h), fun h => (by cases h), fun h => (by cases h), fun h => (by cases h), fun h => (by cases h), fun h => (by cases h)⟩ (fun u hu => ?_)
              clear hu
              simp only [hushE, Nat.reduceAdd, Nat.reduceBEq, Bool.or_self, Bool.or_true, Bool.or_false, if_true, if_false, Bool.false_eq_true]
              repeat (gi_big_quiet_step (fail))
              refine wpQuietIn_nil ⟨?_, ?_, ?_⟩
              · intro i o ho hm
                simp only [Bool.or_eq_true, beq_iff_eq] at hm
                rcases hm with ((rfl | rfl) | rfl) | rfl
                all_goals (cases ho; rfl)
              · intro j o d W hjo hm hd hwt hI
                simp only [Bool.or_eq_true, beq_iff_eq] at hm
                rcases hm with ((rfl | rfl) | rfl) | rfl
                · cases hjo
                  refine LeadsV.append_sf _ _ rfl W5.heap.size (.slice none 0 0) [] rfl (OwnF.nil _ _) pa k ca ((isort (all.take i)).take k) rfl (sA.no hI.chg) (by simp; omega) hI.chg.size ?_
                  intro v' w' ho' hg' _
                  exact hI.s3 hd ho' ((Chg.refl _ W).grown hg' (fun k e => by cases e))
                · cases hjo
                  refine LeadsV.value (v := .slice (some ⟨W.heap.size, 0, none⟩) 1 1) (w' := W.alloc (.cells #[.string x.1, .string x.2] 43)) ?_ (hI.s8 hd (SlF.one W x) ((Chg.refl _ W).alloc _))
                  simp [go_sem]
                · cases hjo
                  have h3 := hwt 3 rfl (by kernel_rfl)
                  have h8 := hwt 8 rfl (by kernel_rfl)
                  obtain ⟨q8, m8, e8, _, _⟩ := (hI.f8 h8 hd).slice
                  refine LeadsV.append_sf _ _ rfl W5.heap.size (u 3) _ rfl (hI.f3 h3 hd) q8 1 m8 [x] e8 (by have := hI.f8 h8 hd; rw [e8] at this; exact this) (by simp; omega) hI.chg.size ?_
                  intro v' w' ho' hg' _
                  exact hI.s9 hd h3 h8 ho' hg'
                · cases hjo
                  have h9 := hwt 9 rfl (by kernel_rfl)
                  refine LeadsV.append_sf _ _ rfl W5.heap.size (u 9) _ rfl (hI.f9 h9 hd) pb (i - k) cb ((isort (all.take i)).drop k) rfl (sB.no hI.chg) (by simp; omega) hI.chg.size ?_
                  intro v' w' ho' hg' _
                  exact hI.s13 hd h9 ho' hg'
              · intro d W hall hI
                have h13 := hI.f13 (hall 13 rfl (by simp))
                have cW := Chg.seq c5 hI.chg
                have s7 := hs5.no hI.chg
                gi_wp2
                go_roundw
                case rel => exact ⟨i + 1, hlt, by go_num, OwnF.base (by rw [HS.out]; exact h13) c5.size, s7, cW⟩
                case measure => simp [intOf]; omega
            | false =>
              have hB : (y.1.toList == x.1.toList) = true := by rw [hA] at hle; exact hle
              clear hle
              gi_wp2
              refine region_quietC hmix (by kernel_rfl) ?_
              repeat (gi_big_quiet_step (fail))
              refine wpQuietIn_nil ?_
              rintro W5 ⟨c9, hw9⟩
              have hc9 : Chg No wr W5 := by rw [hw9]; exact c9.chg
              clear hw9 c9
              have c5 := Chg.seq c4 hc9
              have ho5 := ho3.no hc9
              have hs5 := hs3.no hc9
              clear c4 ho3 hs3 hc9
              clear f0 f2 hany h0' hA hB
              have hso := ho5.sl
              obtain ⟨pa, ca, sA, oA, hcA⟩ := SlF.high hso k hk2
              obtain ⟨pb, cb, sB, oB, hcB⟩ := SlF.low hso k hk2
              obtain ⟨bx, ox, ex, hx1, hx2⟩ := SlF.at hs5 i x hx
              cases ex
              have hany := After.any W5
              have f0 : ∀ c : After W5, c.val.cell? ⟨b7, o7 + i * 2, none⟩ = some (.string x.1) := fun c => c.cell hx1
              have f1 : ∀ c : After W5, c.val.cell? ⟨b7, o7 + i * 2 + 1, none⟩ = some (.string x.2) := fun c => c.cell hx2
              clear hx1 hx2
              gi_wp2
              refine region_loudG (fun i => i == 3 || i == 8 || i == 9 || i == 13) (fun w' => ∃ c : After W5, w' = c.val) (InsInv W5 ((isort (all.take i)).take k) x ((isort (all.take i)).drop k)) (fun _ => .slice none 0 0) hmix (by kernel_rfl) (by kernel_rfl) (fun d u W h => ⟨⟨W, h.chg⟩, rfl⟩)
                ⟨(Chg.refl _ W5).drew, fun h => (by cases h), fun h => (by cases h), fun h => (by cases h), fun h => (by cases h), fun h => (by cases h), fun h => (by cases h)⟩ (fun u hu => ?_)
              clear hu
              simp only [hushE, Nat.reduceAdd, Nat.reduceBEq, Bool.or_self, Bool.or_true, Bool.or_false, if_true, if_false, Bool.false_eq_true]
              repeat (gi_big_quiet_step (fail))
              refine wpQuietIn_nil ⟨?_, ?_, ?_⟩
              · intro i o ho hm
                simp only [Bool.or_eq_true, beq_iff_eq] at hm
                rcases hm with ((rfl | rfl) | rfl) | rfl
                all_goals (cases ho; rfl)
              · intro j o d W hjo hm hd hwt hI
                simp only [Bool.or_eq_true, beq_iff_eq] at hm
                rcases hm with ((rfl | rfl) | rfl) | rfl
                · cases hjo
                  refine LeadsV.append_sf _ _ rfl W5.heap.size (.slice none 0 0) [] rfl (OwnF.nil _ _) pa k ca ((isort (all.take i)).take k) rfl (sA.no hI.chg) (by simp; omega) hI.chg.size ?_
                  intro v' w' ho' hg' _
                  exact hI.s3 hd ho' ((Chg.refl _ W).grown hg' (fun k e => by cases e))
                · cases hjo
                  refine LeadsV.value (v := .slice (some ⟨W.heap.size, 0, none⟩) 1 1) (w' := W.alloc (.cells #[.string x.1, .string x.2] 43)) ?_ (hI.s8 hd (SlF.one W x) ((Chg.refl _ W).alloc _))
                  simp [go_sem]
                · cases hjo
                  have h3 := hwt 3 rfl (by kernel_rfl)
                  have h8 := hwt 8 rfl (by kernel_rfl)
                  obtain ⟨q8, m8, e8, _, _⟩ := (hI.f8 h8 hd).slice
                  refine LeadsV.append_sf _ _ rfl W5.heap.size (u 3) _ rfl (hI.f3 h3 hd) q8 1 m8 [x] e8 (by have := hI.f8 h8 hd; rw [e8] at this; exact this) (by simp; omega) hI.chg.size ?_
                  intro v' w' ho' hg' _
                  exact hI.s9 hd h3 h8 ho' hg'
                · cases hjo
                  have h9 := hwt 9 rfl (by kernel_rfl)
                  refine LeadsV.append_sf _ _ rfl W5.heap.size (u 9) _ rfl (hI.f9 h9 hd) pb (i - k) cb ((isort (all.take i)).drop k) rfl (sB.no hI.chg) (by simp; omega) hI.chg.size ?_
                  intro v' w' ho' hg' _
                  exact hI.s13 hd h9 ho' hg'
              · intro d W hall hI
                have h13 := hI.f13 (hall 13 rfl (by simp))
                have cW := Chg.seq c5 hI.chg
                have s7 := hs5.no hI.chg
                gi_wp2
                go_roundw
                case rel => exact ⟨i + 1, hlt, by go_num, OwnF.base (by rw [HS.out]; exact h13) c5.size, s7, cW⟩
                case measure => simp [intOf]; omega
    · have hlt' : ¬ (i : Int) < (n : Int) := by omega
      have hkn : all.take i = all := List.take_of_length_le (by rw [HN.out]; omega)
      rw [hkn] at ho
      gi_wp2
      go_ret
      exact ⟨_, rfl, by rw [HPut.out]; exact ho, c⟩

end Go.Proofs.Ytndblaemladppaa
