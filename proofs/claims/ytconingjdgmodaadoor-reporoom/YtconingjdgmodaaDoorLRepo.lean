/-
  What is asked of repo's calls, and what every program answers.
-/
import Derived.Test.YtconingjdgmodaaDoorMCm
import Derived.Test.YtconingjdgmodaaDoorSeqR
namespace Go.Proofs.YtconingjdgmodaaDoor
open Go.RowKit Go.Shelf Go.SeqLib Go.DiffLib Go.TreeLib Go.RepoLib Go.BigFrame
attribute [local go_sem] Oper.semAt_some

/-- What is told of a commit: its number, and its value. -/
def TlC (T : Blk) (W : World) (vals : Array Value) (x : Nat × Cm) : Prop := ∃ v, vals = #[iv ((x.1 + 1 : Nat) : Int), v] ∧ CmD T W v x.2
theorem TlC.size {T : Blk} {W : World} {vals : Array Value} {x : Nat × Cm} (h : TlC T W vals x) : vals.size = 2 := by obtain ⟨v, rfl, _⟩ := h; rfl
theorem TlC.kept {T : Blk} {W W' : World} {vals : Array Value} {x : Nat × Cm} {S : Blk} (h : TlC T W vals x) (c : Chg S W W') (hd : ∀ k, T k → ¬ S k) : TlC T W' vals x := by
  obtain ⟨v, e, h⟩ := h
  exact ⟨v, e, h.chg c hd⟩
/-- All commits, each with its place. -/
def enumC (L : List Cm) : List (Nat × Cm) := L.zipIdx.map (fun p => (p.2, p.1))
theorem enumC_length (L : List Cm) : (enumC L).length = L.length := by unfold enumC; rw [List.length_map, List.length_zipIdx]
theorem enumC_at {L : List Cm} {i : Nat} {c : Cm} (h : L[i]? = some c) : (enumC L)[i]? = some (i, c) := by
  unfold enumC
  rw [List.getElem?_map, List.getElem?_zipIdx, h]
  simp
theorem enumC_pre {L : List Cm} {pre : List (Nat × Cm)} {x : Nat × Cm} (h : pre ++ [x] <+: enumC L) : x.1 = pre.length ∧ L[pre.length]? = some x.2 := by
  obtain ⟨t, ht⟩ := h
  have h1 : (enumC L)[pre.length]? = some x := by rw [← ht, List.append_assoc, List.getElem?_append_right (Nat.le_refl _), Nat.sub_self]; rfl
  have hl : pre.length < L.length := by
    have := (List.getElem?_eq_some_iff.1 h1).1
    rw [enumC_length] at this
    exact this
  have h2 := enumC_at (List.getElem?_eq_getElem hl)
  rw [h1] at h2
  obtain rfl := Option.some.inj h2
  exact ⟨rfl, List.getElem?_eq_getElem hl⟩
/-- What is asked of repo's calls: Rep B s S O W says that in W the repo at block B holds the commits and the room s, in the blocks S, of which it writes those of O alone (a copy may share the others). -/
structure RepoSpec2 (Rep : Nat → Rp → Blk → Blk → World → Prop) : Prop where
  part : ∀ B s O, Part (fun S W => Rep B s S O W)
  sub : ∀ {B s S O W}, Rep B s S O W → ∀ k, O k → S k
  new : ∀ (room : Int) (w : World), -1000 ≤ room → room ≤ 1000 → CallsIn Fence.wide 0 Tryd.prog 10 #[iv room] w fun e w' => ∃ B S O, e = .returned (ptr B) ∧ Rep B (newC room) S O w' ∧ (∀ k, S k → w.heap.size ≤ k) ∧ Chg No w w'
  may : ∀ (D : Blk) (v : Value) (c : Cm) (w : World), CmD D w v c → SmallC c → CallsIn Fence.wide 0 Tryd.prog 15 #[v] w fun e w' => e = .returned (.bool (mayC c)) ∧ Chg No w w'
  add : ∀ (B : Nat) (s : Rp) (S O D : Blk) (v : Value) (c : Cm) (w : World), Rep B s S O w → CmD D w v c → (∀ k, D k → ¬ S k) → SmallC c → s.1.length ≤ 200 →
    CallsIn Fence.wide 0 Tryd.prog 12 #[ptr B, v] w fun e w' => ∃ S' O', e = .returned (.tuple #[iv ((addC s c).2.1 : Nat), iv ((addC s c).2.2 : Nat)]) ∧ Rep B (addC s c).1 S' O' w' ∧ Chg O w w' ∧ Grew S w S' ∧ Grew O w O'
  find : ∀ (B : Nat) (s : Rp) (S O D : Blk) (v : Value) (c : Cm) (w : World), Rep B s S O w → CmD D w v c → SmallC c → s.1.length ≤ 200 →
    CallsIn Fence.wide 0 Tryd.prog 17 #[ptr B, v] w fun e w' => e = .returned (iv (findC s.1 c : Nat)) ∧ Chg No w w'
  len : ∀ (B : Nat) (s : Rp) (S O : Blk) (w : World), Rep B s S O w → s.1.length ≤ 200 → CallsIn Fence.wide 0 Tryd.prog 23 #[ptr B] w fun e w' => e = .returned (iv (s.1.length : Nat)) ∧ Chg No w w'
  copy : ∀ (B : Nat) (s : Rp) (S O : Blk) (more : Int) (w : World), Rep B s S O w → s.1.length ≤ 200 → -1000 ≤ more → more ≤ 1000 →
    CallsIn Fence.wide 0 Tryd.prog 19 #[ptr B, iv more] w fun e w' => ∃ B' S' O', e = .returned (ptr B') ∧ Rep B' (copyC s more) S' O' w' ∧ (∀ k, O' k → w.heap.size ≤ k) ∧ (∀ k, S' k → S k ∨ w.heap.size ≤ k) ∧ Chg No w w'
  get : ∀ (B : Nat) (s : Rp) (S O : Blk) (n : Int) (w : World), Rep B s S O w → s.1.length ≤ 200 → -1000 ≤ n → n ≤ 1000 →
    CallsIn Fence.wide 0 Tryd.prog 25 #[ptr B, iv n] w fun e w' => ∃ pv tv, e = .returned (.tuple #[.agg #[pv, tv, .string (getC s.1 n).2.2], .bool (hasN s.1.length n)]) ∧ OwnI w' w.heap.size pv (getC s.1 n).1 ∧ OwnF w' w.heap.size tv (getC s.1 n).2.1 ∧ Chg No w w'
  all : ∀ (B : Nat) (s : Rp) (S O : Blk) (w : World), Rep B s S O w → s.1.length ≤ 200 →
    CallsIn Fence.wide 0 Tryd.prog 38 #[ptr B] w fun e w' => ∃ (gf : Nat) (lb : Array Value) (D : Blk) (I0 : World → Prop), e = .returned (.func (.func gf) #[] lb) ∧ IterR Tryd.prog gf lb TlC (enumC s.1) D No I0 (fun _ => I0) ∧ I0 w' ∧ (∀ args w, (callFunc gf args).run Tryd.prog w = .ok (.enter gf args) w) ∧ Chg No w w' ∧ ∀ k, D k → S k ∨ w.heap.size ≤ k
  addN : ∀ (D : Blk) (v : Value) (c : Cm) (w : World), CmD D w v c → SmallC c → CallsIn Fence.wide 0 Tryd.prog 12 #[.pointer none, v] w fun e w' => e = .returned (.tuple #[iv 0, iv 1]) ∧ Chg No w w'
  findN : ∀ (D : Blk) (v : Value) (c : Cm) (w : World), CmD D w v c → SmallC c → CallsIn Fence.wide 0 Tryd.prog 17 #[.pointer none, v] w fun e w' => e = .returned (iv 0) ∧ Chg No w w'
  lenN : ∀ (w : World), CallsIn Fence.wide 0 Tryd.prog 23 #[.pointer none] w fun e w' => e = .returned (iv 0) ∧ Chg No w w'
  copyN : ∀ (more : Int) (w : World), CallsIn Fence.wide 0 Tryd.prog 19 #[.pointer none, iv more] w fun e w' => e = .returned (.pointer none) ∧ Chg No w w'
  getN : ∀ (n : Int) (w : World), CallsIn Fence.wide 0 Tryd.prog 25 #[.pointer none, iv n] w fun e w' => e = .returned (.tuple #[.agg #[.slice none 0 0, .slice none 0 0, .string ⟨#[]⟩], .bool false]) ∧ Chg No w w'

/-- The same of one repo alone: Rep B s S W says that in W the repo at block B holds the commits and the room s, in the blocks S. -/
structure RepoSpec (Rep : Nat → Rp → Blk → World → Prop) : Prop where
  part : ∀ B s, Part (Rep B s)
  new : ∀ (room : Int) (w : World), -1000 ≤ room → room ≤ 1000 → CallsIn Fence.wide 0 Tryd.prog 10 #[iv room] w fun e w' => ∃ B S, e = .returned (ptr B) ∧ Rep B (newC room) S w' ∧ (∀ k, S k → w.heap.size ≤ k) ∧ Chg No w w'
  may : ∀ (D : Blk) (v : Value) (c : Cm) (w : World), CmD D w v c → SmallC c → CallsIn Fence.wide 0 Tryd.prog 15 #[v] w fun e w' => e = .returned (.bool (mayC c)) ∧ Chg No w w'
  add : ∀ (B : Nat) (s : Rp) (S D : Blk) (v : Value) (c : Cm) (w : World), Rep B s S w → CmD D w v c → (∀ k, D k → ¬ S k) → SmallC c → s.1.length ≤ 200 →
    CallsIn Fence.wide 0 Tryd.prog 12 #[ptr B, v] w fun e w' => ∃ S', e = .returned (.tuple #[iv ((addC s c).2.1 : Nat), iv ((addC s c).2.2 : Nat)]) ∧ Rep B (addC s c).1 S' w' ∧ Chg S w w' ∧ Grew S w S'
  find : ∀ (B : Nat) (s : Rp) (S D : Blk) (v : Value) (c : Cm) (w : World), Rep B s S w → CmD D w v c → SmallC c → s.1.length ≤ 200 →
    CallsIn Fence.wide 0 Tryd.prog 17 #[ptr B, v] w fun e w' => e = .returned (iv (findC s.1 c : Nat)) ∧ Chg No w w'
  len : ∀ (B : Nat) (s : Rp) (S : Blk) (w : World), Rep B s S w → s.1.length ≤ 200 → CallsIn Fence.wide 0 Tryd.prog 23 #[ptr B] w fun e w' => e = .returned (iv (s.1.length : Nat)) ∧ Chg No w w'
  copy : ∀ (B : Nat) (s : Rp) (S : Blk) (more : Int) (w : World), Rep B s S w → s.1.length ≤ 200 → -1000 ≤ more → more ≤ 1000 →
    CallsIn Fence.wide 0 Tryd.prog 19 #[ptr B, iv more] w fun e w' => ∃ B' S', e = .returned (ptr B') ∧ Rep B' (copyC s more) S' w' ∧ (∀ k, S' k → S k ∨ w.heap.size ≤ k) ∧ Chg No w w'
  get : ∀ (B : Nat) (s : Rp) (S : Blk) (n : Int) (w : World), Rep B s S w → s.1.length ≤ 200 → -1000 ≤ n → n ≤ 1000 →
    CallsIn Fence.wide 0 Tryd.prog 25 #[ptr B, iv n] w fun e w' => ∃ pv tv, e = .returned (.tuple #[.agg #[pv, tv, .string (getC s.1 n).2.2], .bool (hasN s.1.length n)]) ∧ OwnI w' w.heap.size pv (getC s.1 n).1 ∧ OwnF w' w.heap.size tv (getC s.1 n).2.1 ∧ Chg No w w'
  all : ∀ (B : Nat) (s : Rp) (S : Blk) (w : World), Rep B s S w → s.1.length ≤ 200 →
    CallsIn Fence.wide 0 Tryd.prog 38 #[ptr B] w fun e w' => ∃ (gf : Nat) (lb : Array Value) (D : Blk) (I0 : World → Prop), e = .returned (.func (.func gf) #[] lb) ∧ IterR Tryd.prog gf lb TlC (enumC s.1) D No I0 (fun _ => I0) ∧ I0 w' ∧ (∀ args w, (callFunc gf args).run Tryd.prog w = .ok (.enter gf args) w) ∧ Chg No w w' ∧ ∀ k, D k → S k ∨ w.heap.size ≤ k
  addN : ∀ (D : Blk) (v : Value) (c : Cm) (w : World), CmD D w v c → SmallC c → CallsIn Fence.wide 0 Tryd.prog 12 #[.pointer none, v] w fun e w' => e = .returned (.tuple #[iv 0, iv 1]) ∧ Chg No w w'
  findN : ∀ (D : Blk) (v : Value) (c : Cm) (w : World), CmD D w v c → SmallC c → CallsIn Fence.wide 0 Tryd.prog 17 #[.pointer none, v] w fun e w' => e = .returned (iv 0) ∧ Chg No w w'
  lenN : ∀ (w : World), CallsIn Fence.wide 0 Tryd.prog 23 #[.pointer none] w fun e w' => e = .returned (iv 0) ∧ Chg No w w'
  copyN : ∀ (more : Int) (w : World), CallsIn Fence.wide 0 Tryd.prog 19 #[.pointer none, iv more] w fun e w' => e = .returned (.pointer none) ∧ Chg No w w'
  getN : ∀ (n : Int) (w : World), CallsIn Fence.wide 0 Tryd.prog 25 #[.pointer none, iv n] w fun e w' => e = .returned (.tuple #[.agg #[.slice none 0 0, .slice none 0 0, .string ⟨#[]⟩], .bool false]) ∧ Chg No w w'

/-- One repo alone. -/
def Rep1 (Rep : Nat → Rp → Blk → Blk → World → Prop) : Nat → Rp → Blk → World → Prop := fun B s S W => ∃ O, Rep B s S O W
theorem RepoSpec2.one {Rep : Nat → Rp → Blk → Blk → World → Prop} (J : RepoSpec2 Rep) : RepoSpec (Rep1 Rep) :=
  ⟨fun B s => Part.ex fun O => J.part B s O,
   fun room w h0 h1 => (J.new room w h0 h1).mono (by rintro e w' ⟨B, S, O, rfl, r, s, c⟩; exact ⟨B, S, rfl, ⟨O, r⟩, s, c⟩),
   J.may,
   fun B s S D v c w r hv hd hc hl => by
    obtain ⟨O, r⟩ := r
    refine (J.add B s S O D v c w r hv hd hc hl).mono ?_
    rintro e w' ⟨S', O', rfl, r', c', g', _⟩
    exact ⟨S', rfl, ⟨O', r'⟩, c'.mono (J.sub r), g'⟩,
   fun B s S D v c w r hv hc hl => by obtain ⟨O, r⟩ := r; exact J.find B s S O D v c w r hv hc hl,
   fun B s S w r hl => by obtain ⟨O, r⟩ := r; exact J.len B s S O w r hl,
   fun B s S more w r hl h0 h1 => by
    obtain ⟨O, r⟩ := r
    refine (J.copy B s S O more w r hl h0 h1).mono ?_
    rintro e w' ⟨B', S', O', rfl, r', _, g', c'⟩
    exact ⟨B', S', rfl, ⟨O', r'⟩, g', c'⟩,
   fun B s S n w r hl h0 h1 => by obtain ⟨O, r⟩ := r; exact J.get B s S O n w r hl h0 h1,
   fun B s S w r hl => by obtain ⟨O, r⟩ := r; exact J.all B s S O w r hl,
   J.addN, J.findN, J.lenN, J.copyN, J.getN⟩

/-- A commit with no lists, as the program writes it out. -/
abbrev bareV (x : ByteArray) : Value := .agg #[.slice none 0 0, .slice none 0 0, .string x]
theorem bare_small (x : ByteArray) (h : x.size ≤ 100) : SmallC ([], [], x) := ⟨by simp, by simp, by simp, h⟩
theorem par_small : SmallC parC := ⟨by simp [parC], by simp [parC], by simp [parC], by show 0 ≤ 100; omega⟩
/-- The second commit's value: its parents lie in a row of their own. -/
theorem parV (w : World) : CmD (fun k => k = w.heap.size) (w.alloc (.cells #[.int .i64 1] 3)) (.agg #[.slice (some ⟨w.heap.size, 0, none⟩) 1 1, .slice none 0 0, .string ⟨#[]⟩]) parC := by
  refine ⟨_, _, _, _, _, _, rfl, SlV.made w [.int .i64 1] 3 (by simp), SlE.nil, fun j h => ?_, fun j h => absurd rfl h.1⟩
  have := h.2
  cases this
  rfl
/-- A repo that was made, and what befell else: it is as it was. -/
theorem rep_chg {Rep : Nat → Rp → Blk → World → Prop} (J : RepoSpec Rep) {B : Nat} {s : Rp} {S T : Blk} {W W' : World} (h : Rep B s S W) (c : Chg T W W') (hd : ∀ k, S k → ¬ T k) : Rep B s S W' := (J.part B s).chg h c hd
theorem rep2_chg {Rep : Nat → Rp → Blk → Blk → World → Prop} (J : RepoSpec2 Rep) {B : Nat} {s : Rp} {S O T : Blk} {W W' : World} (h : Rep B s S O W) (c : Chg T W W') (hd : ∀ k, S k → ¬ T k) : Rep B s S O W' := (J.part B s O).chg h c hd
theorem rep_no {Rep : Nat → Rp → Blk → World → Prop} (J : RepoSpec Rep) {B : Nat} {s : Rp} {S : Blk} {W W' : World} (h : Rep B s S W) (c : Chg No W W') : Rep B s S W' := rep_chg J h c (fun _ _ h => h)

set_option maxRecDepth 100000 in
set_option maxHeartbeats 4000000 in
theorem awakeR_in {Rep : Nat → Rp → Blk → World → Prop} (J : RepoSpec Rep) (w : World) : CallsIn Fence.wide 0 Tryd.prog 8 #[] w fun e w' => e = .returned (.bool true) ∧ Chg No w w' := by
  have hnil : ∀ (B : Nat) (w : World), (binOp .eql 26 (ptr B) (.pointer none)).run Tryd.prog w = .ok (.bool false) w := fun B w => by
    simp [go_sem]
  refine callsIn_of_wp Tryd.func8 rfl trivial ?_
  simp only [Tryd.ntmps8, List.size_toArray, List.length_nil, Nat.reduceSub, Array.replicate_succ, Array.replicate_zero, List.push_toArray, List.append_toArray, List.nil_append, List.cons_append]
  gi_wp2_with fail
  refine ⟨trivial, rfl, (J.new 3 _ (by omega) (by omega)).mono ?_⟩
  rintro e w1 ⟨B, S, rfl, r1, s1, c1⟩
  have A1 := J.add B ([], 3) S No (bareV ⟨#[]⟩) noC w1 r1 (CmD.bare _ _ _) (fun k h => h.elim) (bare_small _ (by show 0 ≤ 100; omega)) (by simp)
  rw [awake_one 3 (by omega)] at A1
  gi_wp2_with fail
  refine ⟨trivial, rfl, A1.mono ?_⟩
  rintro e w2 ⟨S2, rfl, r2, c2, g2⟩
  have A2 := J.add B ([noC], 3) S2 No (bareV ⟨#[]⟩) noC w2 r2 (CmD.bare _ _ _) (fun k h => h.elim) (bare_small _ (by show 0 ≤ 100; omega)) (by simp)
  rw [awake_two 3] at A2
  have k2 : Chg No w w2 := c1.trans c2 (fun k h => .inr (s1 k h))
  have s2 : ∀ k, S2 k → w.heap.size ≤ k := fun k h => by
    rcases g2 k h with h | h
    · exact s1 k h
    · exact Nat.le_trans c1.size h
  gi_wp2_with fail
  refine ⟨trivial, rfl, A2.mono ?_⟩
  rintro e w3 ⟨S3, rfl, r3, c3, g3⟩
  have k3 : Chg No w w3 := k2.trans c3 (fun k h => .inr (s2 k h))
  have s3 : ∀ k, S3 k → w.heap.size ≤ k := fun k h => by
    rcases g3 k h with h | h
    · exact s2 k h
    · exact Nat.le_trans k2.size h
  have ca : Chg No w3 (w3.alloc (.cells #[.int .i64 1] 3)) := (Chg.refl _ w3).alloc _
  have A3 := J.add B ([noC], 3) S3 _ _ parC _ (rep_no J r3 ca) (parV w3) (fun k h hs => by have := (J.part B _).lt r3 k hs; omega) par_small (by simp)
  rw [awake_three 3 (by omega)] at A3
  clear A1 A2 r1 r2 c1 c2 c3 g2 g3 k2 s1 s2
  gi_wp2_with fail
  refine ⟨trivial, rfl, A3.mono ?_⟩
  rintro e w4 ⟨S4, rfl, r4, c4, g4⟩
  have k4 : Chg No w w4 := (Chg.seq k3 ca).trans c4 (fun k h => .inr (s3 k h))
  have L5 := J.len B _ S4 w4 r4 (by simp)
  clear A3 r3 c4 g4
  gi_wp2_with fail
  refine ⟨trivial, rfl, L5.mono ?_⟩
  rintro e w5 ⟨rfl, c5⟩
  have F6 := J.find B _ S4 No (bareV ⟨#[]⟩) noC w5 (rep_no J r4 c5) (CmD.bare _ _ _) (bare_small _ (by show 0 ≤ 100; omega)) (by simp)
  rw [awake_find] at F6
  gi_wp2_with fail
  refine ⟨trivial, rfl, F6.mono ?_⟩
  rintro e w6 ⟨rfl, c6⟩
  gi_wp2
  go_ret
  exact ⟨rfl, Chg.seq k4 (Chg.seq c5 c6)⟩

end Go.Proofs.YtconingjdgmodaaDoor
