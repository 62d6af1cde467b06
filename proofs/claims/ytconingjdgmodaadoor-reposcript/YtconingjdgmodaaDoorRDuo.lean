/-
  A repo and the document's beside it: what holds of both while both are told the same.
-/
import Derived.Test.YtconingjdgmodaaDoorRSame1
import Derived.Test.YtconingjdgmodaaDoorRNum
import Derived.Test.YtconingjdgmodaaDoorRFind
import Derived.Test.YtconingjdgmodaaDoorRAdd
import Derived.Test.YtconingjdgmodaaDoorRCopy
namespace Go.RepoLib
theorem addC_all {p : Cm → Prop} {s : Rp} {c : Cm} (h : ∀ x ∈ s.1, p x) (hc : p c) : ∀ x ∈ (addC s c).1.1, p x := by
  intro x hx
  unfold addC at hx
  split at hx
  · exact h x hx
  · split at hx
    · exact h x hx
    · split at hx
      · split at hx
        · exact h x hx
        · rcases List.mem_append.1 hx with h1 | h1
          · exact h x h1
          · rw [List.mem_singleton.1 h1]; exact hc
      · exact h x hx
theorem clip_le (x : Int) : clip x ≤ 120 := by unfold clip; omega
/-- What is known of the commits of a walk. -/
structure Tame (p : Cm → Prop) (n : Nat) (s : Rp) : Prop where
  len : s.1.length ≤ n
  room : s.2 ≤ 120
  all : ∀ c ∈ s.1, p c
theorem Tame.new {p : Cm → Prop} (x : Int) : Tame p 0 (newC x) := ⟨Nat.le_refl _, clip_le x, fun c h => by simp [newC] at h⟩
theorem Tame.add {p : Cm → Prop} {n : Nat} {s : Rp} (h : Tame p n s) {c : Cm} (hc : p c) : Tame p (n + 1) (addC s c).1 :=
  ⟨Nat.le_trans (addC_len s c) (Nat.succ_le_succ h.len), by rw [addC_room]; exact h.room, addC_all h.all hc⟩
theorem Tame.copy {p : Cm → Prop} {n : Nat} {s : Rp} (h : Tame p n s) (more : Int) : Tame p n (copyC s more) := ⟨h.len, by unfold copyC; exact Nat.min_le_right _ _, h.all⟩
end Go.RepoLib
namespace Go.Proofs.YtconingjdgmodaaDoor
open Go.RowKit Go.Shelf Go.SeqLib Go.DiffLib Go.TreeLib Go.RepoLib Go.BigFrame
attribute [local go_sem] Oper.semAt_some

/-- A repo that holds s and the document's that holds u, in the blocks T, of which those of U alone are written. -/
def Duo (Rep : Nat → Rp → Blk → Blk → World → Prop) (b B Bw : Nat) (s u : Rp) (T U : Blk) (W : World) : Prop :=
  ∃ S O lv rows, T = (fun k => S k ∨ refS Bw lv k) ∧ U = (fun k => O k ∨ refS Bw lv k) ∧ Rep B s S O W ∧ RefRep b Bw u lv rows W ∧ (∀ k, S k → b ≤ k) ∧ ∀ k, refS Bw lv k → ¬ S k
section
variable {Rep : Nat → Rp → Blk → Blk → World → Prop} {b B Bw : Nat} {s u : Rp} {T U T' : Blk} {W W' : World}
theorem Duo.low (J : RepoSpec2 Rep) (h : Duo Rep b B Bw s u T U W) : ∀ k, T k → b ≤ k ∧ k < W.heap.size := by
  obtain ⟨S, O, lv, rows, rfl, rfl, r, q, hS, hd⟩ := h
  rintro k (hk | hk)
  · exact ⟨hS k hk, (J.part B s O).lt r k hk⟩
  · exact q.low k hk
theorem Duo.sub (J : RepoSpec2 Rep) (h : Duo Rep b B Bw s u T U W) : ∀ k, U k → T k := by
  obtain ⟨S, O, lv, rows, rfl, rfl, r, q, hS, hd⟩ := h
  rintro k (hk | hk)
  · exact .inl (J.sub r k hk)
  · exact .inr hk
theorem Duo.chg (J : RepoSpec2 Rep) (h : Duo Rep b B Bw s u T U W) (c : Chg T' W W') (hd : ∀ k, T k → ¬ T' k) (hb : ∀ k, T' k → b ≤ k) : Duo Rep b B Bw s u T U W' := by
  obtain ⟨S, O, lv, rows, rfl, rfl, r, q, hS, h2⟩ := h
  exact ⟨S, O, lv, rows, rfl, rfl, rep2_chg J r c (fun k hk => hd k (.inl hk)), q.chg c (fun k hk => hd k (.inr hk)) hb, hS, h2⟩
theorem Duo.no (J : RepoSpec2 Rep) (h : Duo Rep b B Bw s u T U W) (c : Chg No W W') : Duo Rep b B Bw s u T U W' := Duo.chg J h c (fun _ _ h => h) (fun _ h => h.elim)

/-- What a call that puts in leaves. -/
def DuoOut (Rep : Nat → Rp → Blk → Blk → World → Prop) (b B Bw : Nat) (s u : Rp) (T U : Blk) (W W' : World) : Prop := ∃ T' U', Duo Rep b B Bw s u T' U' W' ∧ Chg U W W' ∧ Grew T W T' ∧ Grew U W U'

theorem duo_add1 (J : RepoSpec2 Rep) (h : Duo Rep b B Bw s u T U W) {v : Value} {c : Cm} (hv : CmD (fun k => k < b) W v c) (hc : SmallC c) (hl : s.1.length ≤ 200) :
    CallsIn Fence.wide 0 Tryd.prog 12 #[ptr B, v] W fun e w' => e = .returned (.tuple #[iv ((addC s c).2.1 : Nat), iv ((addC s c).2.2 : Nat)]) ∧ DuoOut Rep b B Bw (addC s c).1 u T U W w' := by
  obtain ⟨S, O, lv, rows, rfl, rfl, r, q, hS, h2⟩ := h
  refine (J.add B s S O _ v c W r hv (fun k hk hs => by have := hS k hs; omega) hc hl).mono ?_
  rintro e w' ⟨S', O', rfl, r', c', g', gO⟩
  have hbw : b ≤ W.heap.size := Nat.le_trans q.lowB (Nat.le_of_lt (q.low Bw (.inl rfl)).2)
  refine ⟨rfl, _, _, ⟨S', O', lv, rows, rfl, rfl, r', q.chg c' (fun k hk ho => h2 k hk (J.sub r k ho)) (fun k ho => hS k (J.sub r k ho)), fun k hk => ?_, fun k hk hs => ?_⟩, c'.mono (fun k hk => .inl hk), fun k hk => ?_, fun k hk => ?_⟩
  · rcases g' k hk with h | h
    · exact hS k h
    · omega
  · rcases g' k hs with h | h
    · exact h2 k hk h
    · have := (q.low k hk).2; omega
  · rcases hk with hk | hk
    · rcases g' k hk with h | h
      · exact .inl (.inl h)
      · exact .inr h
    · exact .inl (.inr hk)
  · rcases hk with hk | hk
    · rcases gO k hk with h | h
      · exact .inl (.inl h)
      · exact .inr h
    · exact .inl (.inr hk)

theorem duo_add2 (J : RepoSpec2 Rep) (h : Duo Rep b B Bw s u T U W) {v : Value} {c : Cm} (hv : CmD (fun k => k < b) W v c) (hc : SmallC c) (hl : u.1.length ≤ 200) (hsm : ∀ x ∈ u.1, SmallC x) :
    CallsIn Fence.wide 0 Tryd.prog 13 #[ptr Bw, v] W fun e w' => e = .returned (.tuple #[iv ((addC u c).2.1 : Nat), iv ((addC u c).2.2 : Nat)]) ∧ DuoOut Rep b B Bw s (addC u c).1 T U W w' := by
  obtain ⟨S, O, lv, rows, rfl, rfl, r, q, hS, h2⟩ := h
  refine (refAdd_in b Bw u lv rows v c W q hv hl (fun x hx => by have := (hsm x hx).2.1; omega) hc).mono ?_
  rintro e w' ⟨rfl, lv', rows', q', c', g'⟩
  have hlt := (J.part B s O).lt r
  refine ⟨rfl, _, _, ⟨S, O, lv', rows', rfl, rfl, rep2_chg J r c' (fun k hk hr => h2 k hr hk), q', hS, fun k hk hs => ?_⟩, c'.mono (fun k hk => .inr hk), fun k hk => ?_, fun k hk => ?_⟩
  · rcases g' k hk with h | h
    · exact h2 k h hs
    · have := hlt k hs; omega
  · rcases hk with hk | hk
    · exact .inl (.inl hk)
    · rcases g' k hk with h | h
      · exact .inl (.inr h)
      · exact .inr h
  · rcases hk with hk | hk
    · exact .inl (.inl hk)
    · rcases g' k hk with h | h
      · exact .inl (.inr h)
      · exact .inr h

theorem duo_find1 (J : RepoSpec2 Rep) (h : Duo Rep b B Bw s u T U W) {v : Value} {c : Cm} {D : Blk} (hv : CmD D W v c) (hc : SmallC c) (hl : s.1.length ≤ 200) :
    CallsIn Fence.wide 0 Tryd.prog 17 #[ptr B, v] W fun e w' => e = .returned (iv (findC s.1 c : Nat)) ∧ Chg No W w' := by
  obtain ⟨S, O, lv, rows, rfl, rfl, r, q, hS, h2⟩ := h
  exact J.find B s S O D v c W r hv hc hl

theorem duo_find2 (h : Duo Rep b B Bw s u T U W) {v : Value} {c : Cm} {D : Blk} (hv : CmD D W v c) (hl : u.1.length ≤ 200) (hsm : ∀ x ∈ u.1, SmallC x) :
    CallsIn Fence.wide 0 Tryd.prog 18 #[ptr Bw, v] W fun e w' => e = .returned (iv (findC u.1 c : Nat)) ∧ Chg No W w' := by
  obtain ⟨S, O, lv, rows, rfl, rfl, r, q, hS, h2⟩ := h
  exact refFind_in b Bw u lv rows v c D W q hv (by omega) (fun x hx => by have := (hsm x hx).2.1; omega)

theorem duo_same (J : RepoSpec2 Rep) (h : Duo Rep b B Bw s s T U W) (hl : s.1.length ≤ 200) (hsm : ∀ x ∈ s.1, SmallC x) :
    CallsIn Fence.wide 0 Tryd.prog 21 #[ptr B, ptr Bw] W fun e w' => e = .returned (.bool true) ∧ Chg No W w' := by
  obtain ⟨S, O, lv, rows, rfl, rfl, r, q, hS, h2⟩ := h
  exact sameR_in J.one b B Bw s S lv rows W ⟨O, r⟩ hS q h2 hl hsm

/-- A repo beside which the document's is laid next: what it writes of lies behind m. -/
def Half (Rep : Nat → Rp → Blk → Blk → World → Prop) (b m B : Nat) (s : Rp) (W : World) : Prop := ∃ S O, Rep B s S O W ∧ (∀ k, S k → b ≤ k) ∧ ∀ k, O k → m ≤ k
theorem duo_copy1 (J : RepoSpec2 Rep) (h : Duo Rep b B Bw s u T U W) (hbm : b ≤ W.heap.size) (more : Int) (hl : s.1.length ≤ 200) (h0 : -1000 ≤ more) (h1 : more ≤ 1000) :
    CallsIn Fence.wide 0 Tryd.prog 19 #[ptr B, iv more] W fun e w' => ∃ B', e = .returned (ptr B') ∧ Half Rep b W.heap.size B' (copyC s more) w' ∧ Chg No W w' := by
  obtain ⟨S, O, lv, rows, rfl, rfl, r, q, hS, h2⟩ := h
  refine (J.copy B s S O more W r hl h0 h1).mono ?_
  rintro e w' ⟨B', S', O', rfl, r', o', s', c'⟩
  refine ⟨B', rfl, ⟨S', O', r', fun k hk => ?_, o'⟩, c'⟩
  rcases s' k hk with h | h
  · exact hS k h
  · omega
theorem duo_copy2 (J : RepoSpec2 Rep) (h : Duo Rep b B Bw s u T U W) {m B' : Nat} {s' : Rp} (hh : Half Rep b m B' s' W) (hm : m ≤ W.heap.size) (more : Int) (hl : u.1.length ≤ 200) (hr : u.2 ≤ 120) (h0 : -1000 ≤ more) (h1 : more ≤ 1000) :
    CallsIn Fence.wide 0 Tryd.prog 20 #[ptr Bw, iv more] W fun e w' => ∃ B'' T' U', e = .returned (ptr B'') ∧ Duo Rep b B' B'' s' (copyC u more) T' U' w' ∧ (∀ k, U' k → m ≤ k) ∧ Chg No W w' := by
  obtain ⟨S, O, lv, rows, rfl, rfl, r, q, hS, h2⟩ := h
  obtain ⟨S', O', r', hS', hO'⟩ := hh
  refine (refCopy_in b Bw u lv rows more W q hl hr h0 h1).mono ?_
  rintro e w' ⟨B'', lv', rfl, q', hq', c'⟩
  refine ⟨B'', _, _, rfl, ⟨S', O', lv', rows, rfl, rfl, rep2_chg J r' c' (fun _ _ h => h), q', hS', fun k hk hs => ?_⟩, ?_, c'⟩
  · have := hq' k hk
    have := (J.part B' s' O').lt r' k hs
    omega
  · rintro k (hk | hk)
    · exact hO' k hk
    · exact Nat.le_trans hm (hq' k hk)

theorem duo_new2 (J : RepoSpec2 Rep) {m : Nat} {s' : Rp} (hh : Half Rep b m B s' W) (hbm : b ≤ m) (hm : m ≤ W.heap.size) (room : Int) (h0 : -1000 ≤ room) (h1 : room ≤ 1000) :
    CallsIn Fence.wide 0 Tryd.prog 11 #[iv room] W fun e w' => ∃ B'' T' U', e = .returned (ptr B'') ∧ Duo Rep b B B'' s' (newC room) T' U' w' ∧ Chg No W w' := by
  obtain ⟨S', O', r', hS', hO'⟩ := hh
  refine (refNew_in b room h0 h1 W (Nat.le_trans hbm hm)).mono ?_
  rintro e w' ⟨B'', rfl, q', hB, c'⟩
  have hown : ∀ k, refS B'' (.slice none 0 0) k → k = B'' := by
    rintro k (rfl | hk)
    · rfl
    · cases hk
  refine ⟨B'', _, _, rfl, ⟨S', O', _, _, rfl, rfl, rep2_chg J r' c' (fun _ _ h => h), q', hS', fun k hk hs => ?_⟩, c'⟩
  have := hown k hk
  have := (J.part B s' O').lt r' k hs
  omega
end

/-- An error's number. -/
theorem num_in (n : Int) (w : World) : CallsIn Fence.wide 0 Tryd.prog 14 #[iv n] w fun e w' => e = .returned (iv n) ∧ Chg No w w' := by
  refine callsIn_of_wp Tryd.func14 rfl trivial ?_
  simp only [Tryd.ntmps14, List.size_toArray, List.length_cons, List.length_nil, Nat.reduceAdd, Nat.reduceSub, Array.replicate_succ, Array.replicate_zero, List.push_toArray, List.append_toArray, List.nil_append, List.cons_append]
  gi_wp2
  go_ret
  exact ⟨rfl, Chg.refl _ _⟩

end Go.Proofs.YtconingjdgmodaaDoor
