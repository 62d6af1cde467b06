/-
  The walk of cortegelaw2.PileLeft.
-/
import Derived.Test.YtaolebadamfodaaAwake
namespace Go.Proofs.Ytaolebadamfodaa
open Go.RowKit Go.Shelf Go.SeqLib Go.PileLib
attribute [local go_sem] Oper.semAt_some

theorem putAll_perm (lt : Int → Int → Bool) (xs : List Int) : ∀ (L : List (Int × Int)) (n : Int), ((putAll lt L n xs).map Prod.fst).Perm (L.map Prod.fst ++ xs) := by
  induction xs with
  | nil => intro L n; simp [putAll]
  | cons x xs ih =>
    intro L n
    refine (ih _ _).trans ?_
    refine ((ins_perm (r := bef lt) L (x, n)).map Prod.fst).append_right xs |>.trans ?_
    simp
theorem putAll_length (lt : Int → Int → Bool) (xs : List Int) (L : List (Int × Int)) (n : Int) : (putAll lt L n xs).length = L.length + xs.length := by
  have := (putAll_perm lt xs L n).length_eq
  simpa using this

theorem SlI.take {W : World} {p : Option Addr} {n cap : Nat} {zs : List Int} (h : SlI W (.slice p n cap) zs) (m : Nat) (hm : m ≤ n) : SlI W (.slice p m cap) (zs.take m) := by
  obtain ⟨p', cap', e, h1, h2, hc⟩ := h
  cases e
  have hl : (zs.take m).length = m := by simp; omega
  refine ⟨p, cap, by rw [hl], by omega, h2, fun i x hi => ?_⟩
  rw [List.getElem?_take] at hi
  split at hi
  · exact hc i x hi
  · cases hi

set_option maxRecDepth 100000 in
set_option maxHeartbeats 1000000 in
theorem left_long (p : Option Addr) (n cap : Nat) (hn : 60 < n) (early : Int) (w : World) : CallsIn Fence.wide 0 Try.prog 5 #[.slice p n cap, .int .i64 early] w fun e w' => e = .returned (.bool true) ∧ Chg No w w' := by
  have hn' : (60 : Int) < (n : Int) := by omega
  refine callsIn_of_wp Try.func5 rfl trivial ?_
  simp only [Try.ntmps5, List.size_toArray, List.length_cons, List.length_nil, Nat.reduceAdd, Nat.reduceSub, Array.replicate_succ, Array.replicate_zero, List.push_toArray, List.append_toArray, List.nil_append, List.cons_append]
  gi_wp2_with fail
  refine ⟨trivial, rfl, (awake_in _).mono ?_⟩
  rintro e w1 ⟨rfl, c1⟩
  gi_wp2
  go_ret
  exact ⟨rfl, c1⟩

/-- A pile of these numbers: its blocks are new. -/
theorem put_new {lf : Nat} {key : Int → Int} (hl : Less lf (ltK key)) (w0 w : World) (B : Nat) (S : Blk) (hB : ∀ k, S k → w0.heap.size ≤ k) (c : Chg No w0 w) (L : List (Int × Int)) (n : Nat) (hn : n ≤ 100000) (hlt : ∀ y ∈ L, y.2 < (n : Int)) (hP : Pile B lf (ltK key) L n S w) (p : Option Addr) (cap : Nat) (xs : List Int) (hx : L.length + xs.length ≤ 100000) (hs : SlI w0 (.slice p xs.length cap) xs) :
    CallsIn Fence.wide 0 Try.prog 22 #[.pointer (some ⟨B, 0, none⟩), .slice p xs.length cap] w fun e w' => e = .returned (.tuple #[]) ∧ ∃ S', Pile B lf (ltK key) (putAll (ltK key) L n xs) (n + xs.length : Nat) S' w' ∧ Chg S w w' ∧ Chg No w0 w' ∧ (∀ k, S' k → w0.heap.size ≤ k) ∧ Grew S w S' := by
  refine (put_in hl B L n (by omega) (by omega) hlt S p cap xs hx (by omega) w hP (hs.chg c (fun _ _ h => h)) (fun k hk hS => by have := hs.lt k hk; have := hB k hS; omega)).mono ?_
  rintro e w' ⟨rfl, S', hP', c', g'⟩
  refine ⟨rfl, S', by simpa using hP', c', c.trans c' (fun k h => .inr (hB k h)), fun k hk => ?_, g'⟩
  rcases g' k hk with h | h
  · exact hB k h
  · exact Nat.le_trans c.size h

set_option maxRecDepth 100000 in
set_option maxHeartbeats 4000000 in
theorem left_in (p : Option Addr) (cap : Nat) (zs : List Int) (hn : zs.length ≤ 60) (early : Int) (w : World) (hz : SlI w (.slice p zs.length cap) zs) : CallsIn Fence.wide 0 Try.prog 5 #[.slice p zs.length cap, .int .i64 early] w fun e w' => e = .returned (.bool true) ∧ Chg No w w' := by
  refine callsIn_of_wp Try.func5 rfl trivial ?_
  simp only [Try.ntmps5, List.size_toArray, List.length_cons, List.length_nil, Nat.reduceAdd, Nat.reduceSub, Array.replicate_succ, Array.replicate_zero, List.push_toArray, List.append_toArray, List.nil_append, List.cons_append]
  gi_wp2_with fail
  refine ⟨trivial, rfl, (new_seq 21 (ltK id) w).mono ?_⟩
  rintro e w1 ⟨rfl, p1, c1⟩
  gi_wp2_with fail
  refine ⟨trivial, rfl, (put_new lower_less w w1 w.heap.size _ (fun k h => by omega) c1 [] 0 (by omega) (fun y h => by cases h) p1 p cap zs (by simp; omega) hz).mono ?_⟩
  rintro e w2 ⟨rfl, S2, p2, _, c2, hS2, _⟩
  obtain ⟨L, hL⟩ : ∃ L, putAll (ltK id) [] (0 : Nat) zs = L := ⟨_, rfl⟩
  have hLl : L.length = zs.length := by rw [← hL, putAll_length]; simp
  rw [hL] at p2
  obtain ⟨As, hA⟩ : ∃ As, Hid (As = L.map Prod.fst) := ⟨_, rfl⟩
  have hAl : As.length = zs.length := by rw [hA.out, List.length_map, hLl]
  have HAl : Hid (As.length = zs.length) := hAl
  have hAb : As.length ≤ 60 := by omega
  have HLl : Hid (L.length = zs.length) := hLl
  have hLb : L.length ≤ 100000 := by omega
  have HTk : Hid (As = (L.map Prod.fst).take (100 : Int).toNat) := by
    show _ = _
    rw [← hA.out, List.take_of_length_le (by rw [HAl.out]; show _ ≤ 100; omega)]
  clear hL hLl hAl p1 c1
  gi_wp2_with fail
  refine ⟨trivial, rfl, (all_seq lower_less (bef_ord id) w.heap.size L _ S2 hLb _ p2).mono ?_⟩
  rintro e w3 ⟨g3, l3, D3, rfl, s3, c3, _⟩
  gi_wp2_with fail
  refine ⟨trivial, rfl, (ints_seq 100 (by omega) _ s3 As HTk).mono ?_⟩
  rintro e w4 ⟨v4, rfl, r4, c4⟩
  have c24 := c3.trans c4 (Grew.refl _ _)
  have p4 := (Pile.part _ _ _ _ _).chg p2 c24 (fun _ _ h => h)
  have q4 := SlI.ofRow r4
  obtain ⟨pv4, cv4, rfl⟩ := row_slice r4
  have c04 := c2.trans c24 (Grew.refl _ _)
  clear p2 s3 c3 c4 c24 c2 r4
  gi_wp2_with fail
  refine ⟨trivial, rfl, (low_in early 70 (by omega) (by omega) _).mono ?_⟩
  rintro e w4' ⟨rfl, rfl⟩
  obtain ⟨hlo1, hlo2⟩ := lowI_range early 70 (by omega) (by omega)
  generalize lowI early 70 = q at *
  obtain ⟨m, rfl⟩ := Int.eq_ofNat_of_zero_le hlo1
  gi_wp2_with fail
  refine ⟨trivial, rfl, (all_seq lower_less (bef_ord id) w.heap.size L _ S2 hLb _ p4).mono ?_⟩
  rintro e w5 ⟨g5, l5, D5, rfl, s5, c5, _⟩
  obtain ⟨Bs, hB⟩ : ∃ Bs, Hid (Bs = (L.map Prod.fst).take (m : Int).toNat) := ⟨_, rfl⟩
  have hBm : Bs.length = min m As.length := by rw [hB.out, hA.out]; simp
  have HBt : Hid (Bs = As.take Bs.length) := by
    show _ = _
    rw [hBm, hB.out, hA.out, Int.toNat_natCast, List.length_map]
    simp [List.take_eq_take_iff]
  gi_wp2_with fail
  refine ⟨trivial, rfl, (ints_seq m (by omega) _ s5 Bs hB).mono ?_⟩
  rintro e w6 ⟨v6, rfl, r6, c6⟩
  have c46 := c5.trans c6 (Grew.refl _ _)
  have p6 := (Pile.part _ _ _ _ _).chg p4 c46 (fun _ _ h => h)
  have q6 := SlI.ofRow r6
  have a6 := q4.chg c46 (fun _ _ h => h)
  obtain ⟨pv6, cv6, rfl⟩ := row_slice r6
  have c06 := c04.trans c46 (Grew.refl _ _)
  have a6' := a6.take Bs.length (by omega)
  rw [← HBt.out] at a6'
  have hcap := a6
  obtain ⟨_, _, e9, hcap1, hcap2, _⟩ := hcap
  cases e9
  clear p4 s5 c5 c6 c46 c04 r6 q4
  have hcase : (m ≤ As.length ∧ Bs.length = m) ∨ (As.length < m ∧ Bs.length = As.length) := by omega
  clear hBm
  rcases hcase with ⟨hle, hbl⟩ | ⟨hle, hbl⟩
  all_goals have HBl : Hid (Bs.length = _) := hbl
  all_goals rw [hbl] at q6 a6'
  all_goals rw [hbl]
  all_goals clear hbl
  all_goals gi_wp2_with fail
  all_goals refine ⟨trivial, rfl, (same_in _ _ Bs Bs _ q6 a6').mono ?_⟩
  all_goals rintro e w7 ⟨rfl, c7⟩
  all_goals simp only [decide_true]
  all_goals have p7 := (Pile.part _ _ _ _ _).chg p6 c7 (fun _ _ h => h)
  all_goals have a7 := a6.chg c7 (fun _ _ h => h)
  all_goals have c07 := c06.trans c7 (Grew.refl _ _)
  all_goals clear p6 a6 c06 c7 q6 a6'
  all_goals gi_wp2_with fail
  all_goals refine ⟨trivial, rfl, (all_seq lower_less (bef_ord id) w.heap.size L _ S2 hLb _ p7).mono ?_⟩
  all_goals rintro e w8 ⟨g8, l8, D8, rfl, s8, c8, _⟩
  all_goals gi_wp2_with fail
  all_goals refine ⟨trivial, rfl, (ints_seq 100 (by omega) _ s8 As HTk).mono ?_⟩
  all_goals rintro e w9 ⟨v9, rfl, r9, c9⟩
  all_goals have c79 := c8.trans c9 (Grew.refl _ _)
  all_goals have p9 := (Pile.part _ _ _ _ _).chg p7 c79 (fun _ _ h => h)
  all_goals have a9 := a7.chg c79 (fun _ _ h => h)
  all_goals have c09 := c07.trans c79 (Grew.refl _ _)
  all_goals gi_wp2_with fail
  all_goals refine ⟨trivial, rfl, (same_in _ _ As As _ (SlI.ofRow r9) a9).mono ?_⟩
  all_goals rintro e w10 ⟨rfl, c10⟩
  all_goals simp only [decide_true]
  all_goals have p10 := (Pile.part _ _ _ _ _).chg p9 c10 (fun _ _ h => h)
  all_goals have c010 := c09.trans c10 (Grew.refl _ _)
  all_goals clear p7 a7 s8 c8 c9 r9 c79 p9 a9 c09 c10 c07
  all_goals gi_wp2_with fail
  all_goals refine ⟨trivial, rfl, (len_seq w.heap.size L _ S2 _ p10).mono ?_⟩
  all_goals rintro e w11 ⟨rfl, rfl⟩
  all_goals rw [HLl.out]
  all_goals have he : (zs.length == zs.length) = true := by simp
  all_goals have he2 : (As.length == zs.length) = true := by rw [HAl.out]; simp
  all_goals have he3 : ((As.length : Int) == (zs.length : Int)) = true := by rw [HAl.out]; simp
  all_goals gi_wp2_with fail
  all_goals refine ⟨trivial, rfl, (awake_in _).mono ?_⟩
  all_goals rintro e w12 ⟨rfl, c12⟩
  all_goals gi_wp2
  all_goals go_ret
  all_goals exact ⟨rfl, c010.trans c12 (Grew.refl _ _)⟩
end Go.Proofs.Ytaolebadamfodaa
