/-
  Of: RSplit, FPath, FLe, FGoes.
-/
import Derived.Test.YtakbeololabmhaaGreatDoorG02
import Derived.Lib.SplitLaws
import Derived.Lib.IndexBytes
import Derived.Test.YtakbeololabmhaaGreatDoorShelf
import Derived.Test.YtakbeololabmhaaGreatDoorG04
section
-- RSplit
namespace Go.TreeLib
open Go

/-- May it stand between two slashes? -/
def partB (t : List UInt8) : Bool := t.all signB && !t.isEmpty
def okP (s : List UInt8) : Bool := decide (1 ≤ s.length) && (s.head? != some 47 && (s.getLast? != some 47 && (s.all signB && adjB s)))
theorem pathB_ok (p : List UInt8) : pathB p = (decide (p.length ≤ 60) && okP p) := by
  unfold pathB okP
  cases decide (1 ≤ p.length) <;> cases decide (p.length ≤ 60) <;> rfl

theorem idx_cases : ∀ s : List UInt8, (Lib.index s [47] = -1 ∧ (47 : UInt8) ∉ s) ∨ ∃ a b, s = a ++ 47 :: b ∧ (47 : UInt8) ∉ a ∧ Lib.index s [47] = (a.length : Int)
  | [] => .inl ⟨by simp [Lib.index], by simp⟩
  | x :: s => by
    by_cases h : x = 47
    · subst h
      exact .inr ⟨[], s, rfl, by simp, by rw [Lib.index]; simp [List.isPrefixOf]⟩
    · have hp : ([47] : List UInt8).isPrefixOf (x :: s) = false := by simp [List.isPrefixOf, Ne.symm h]
      have hix : Lib.index (x :: s) [47] = if Lib.index s [47] == -1 then -1 else Lib.index s [47] + 1 := by rw [Lib.index, hp]; simp
      rcases idx_cases s with ⟨h1, h2⟩ | ⟨a, b, rfl, h2, h3⟩
      · refine .inl ⟨by rw [hix, h1]; rfl, ?_⟩
        rw [List.mem_cons]
        rintro (e | e)
        · exact h e.symm
        · exact h2 e
      · refine .inr ⟨x :: a, b, rfl, ?_, ?_⟩
        · rw [List.mem_cons]
          rintro (e | e)
          · exact h e.symm
          · exact h2 e
        · rw [hix, h3, if_neg (by rw [beq_iff_eq]; omega), List.length_cons]
          omega

theorem adj_none : ∀ {a : List UInt8}, (47 : UInt8) ∉ a → adjB a = true
  | [], _ => rfl
  | [_], _ => rfl
  | x :: y :: r, h => by
    have hx : x ≠ 47 := fun e => h (by rw [e]; exact List.mem_cons_self)
    unfold adjB
    rw [adj_none (a := y :: r) (fun e => h (List.mem_cons_of_mem _ e))]
    simp [hx]
theorem adj_app : ∀ {a : List UInt8} (b : List UInt8), (47 : UInt8) ∉ a → adjB (a ++ 47 :: b) = adjB (47 :: b)
  | [], _, _ => rfl
  | [x], b, h => by
    have hx : x ≠ 47 := fun e => h (by rw [e]; exact List.mem_cons_self)
    show adjB (x :: 47 :: b) = _
    rw [adjB]
    simp [hx]
  | x :: y :: r, b, h => by
    have hx : x ≠ 47 := fun e => h (by rw [e]; exact List.mem_cons_self)
    have ih := adj_app (a := y :: r) b (fun e => h (List.mem_cons_of_mem _ e))
    show adjB (x :: y :: (r ++ 47 :: b)) = _
    rw [adjB]
    rw [show y :: (r ++ 47 :: b) = (y :: r) ++ 47 :: b from rfl, ih]
    simp [hx]

theorem ok_one {s : List UInt8} (h : (47 : UInt8) ∉ s) : okP s = partB s := by
  unfold okP partB
  rw [adj_none h]
  cases s with
  | nil => rfl
  | cons x r =>
    have hx : x ≠ 47 := fun e => h (by rw [e]; exact List.mem_cons_self)
    have hl : (x :: r).getLast? ≠ some 47 := fun e => h (List.mem_of_getLast? e)
    have h1 : ((x :: r).head? != some 47) = true := by simp [hx]
    have h2 : ((x :: r).getLast? != some 47) = true := by rw [bne_iff_ne]; exact hl
    rw [h1, h2]
    simp
theorem ok_join {a : List UInt8} (b : List UInt8) (h : (47 : UInt8) ∉ a) : okP (a ++ 47 :: b) = (partB a && okP b) := by
  unfold okP
  rw [adj_app b h]
  cases a with
  | nil => simp [partB]
  | cons x r =>
    have hx : x ≠ 47 := fun e => h (by rw [e]; exact List.mem_cons_self)
    have h0 : decide (1 ≤ (x :: r ++ 47 :: b).length) = true := decide_eq_true (by simp)
    have h1 : ((x :: r ++ 47 :: b).head? != some 47) = true := by simp [hx]
    have h47 : signB 47 = true := by decide
    have h5 : (47 :: b).all signB = b.all signB := by rw [List.all_cons, h47, Bool.true_and]
    rw [h0, h1, List.all_append, h5, List.getLast?_append, List.getLast?_cons]
    cases b with
    | nil => simp
    | cons y t =>
      have h2 : (some ((y :: t).getLast?.getD 47)).or (x :: r).getLast? = (y :: t).getLast? := by
        rw [List.getLast?_cons]; rfl
      rw [h2]
      have h3 : decide (1 ≤ (y :: t).length) = true := decide_eq_true (by simp)
      rw [h3, adjB]
      have h4 : ((y :: t).head? != some 47) = !(y == 47) := rfl
      rw [h4]
      unfold partB
      simp only [List.isEmpty_cons, Bool.not_false, Bool.and_true, Bool.true_and, beq_self_eq_true]
      cases (x :: r).all signB <;> cases (y == 47) <;> cases ((y :: t).getLast? != some 47) <;> cases ((y :: t).all signB) <;> rfl

theorem splitK_ok : ∀ (k : Nat) (s : List UInt8), s.count 47 = k → (Lib.splitK [47] 0 k s).all partB = okP s
  | 0, s, h => by
    have hn : (47 : UInt8) ∉ s := List.count_eq_zero.1 h
    show [s].all partB = _
    rw [ok_one hn]
    simp
  | k + 1, s, h => by
    rcases idx_cases s with ⟨_, h2⟩ | ⟨a, b, rfl, h2, h3⟩
    · rw [List.count_eq_zero.2 h2] at h; cases h
    · have hb : b.count 47 = k := by
        rw [List.count_append, List.count_eq_zero.2 h2, List.count_cons_self] at h
        omega
      unfold Lib.splitK
      have e : (Lib.index (a ++ 47 :: b) [47]).toNat = a.length := by omega
      rw [if_neg (by rw [beq_iff_eq]; omega), e, Nat.add_zero, List.take_left' rfl, List.length_singleton, List.drop_append, Nat.add_sub_cancel_left, List.drop_eq_nil_of_le (Nat.le_succ _), List.all_cons, List.nil_append]
      show (partB a && (Lib.splitK [47] 0 k b).all partB) = _
      rw [splitK_ok k b hb, ok_join b h2]

abbrev slash : ByteArray := ⟨#[47]⟩
theorem split_ok (s : ByteArray) : (Lib.splitB slash 0 (Lib.countB s slash) s).all (fun x => partB (Bs x)) = okP (Bs s) := by
  have h : ((Lib.splitB slash 0 (Lib.countB s slash) s).map (·.data.toList)).all partB = okP (Bs s) := by
    rw [Lib.splitB_data]
    refine splitK_ok _ _ ?_
    exact (Lib.count_one 47 (Bs s)).symm
  rw [← h, List.all_map]
  rfl

end Go.TreeLib

end
section
-- FPath
namespace Go.Proofs.YtakbeololabmhaaGreatDoor
open Go.RowKit Go.Shelf Go.SeqLib Go.TreeLib
attribute [local go_sem] Oper.semAt_some

set_option maxHeartbeats 1000000 in
theorem index_in (x : ByteArray) (w : World) : Calls Tryz.prog 103 #[.string x, .string slash] w fun e w' => e = .returned (.int .i64 (Lib.indexB x slash)) ∧ w' = w := by
  have hc : ∀ w, Calls Tryz.prog 122 #[.string x, .string slash] w fun e w' => e = .returned (.int .i64 (Lib.indexB x slash)) ∧ w' = w := fun w => by
    have := Any.stringslite_Index_one Tryz.laysIndex x 47 w
    rw [show Lib.indexByte x.data.toList 47 = Lib.indexB x slash from (Lib.index_one _ _).symm] at this
    exact this
  go_enter Tryz.func103, Tryz.ntmps103
  go_wp2_with (go_at_call 122; refine (hc _).mono ?_; rintro e w' ⟨rfl, rfl⟩)
  go_ret
  exact ⟨rfl, rfl⟩

/-- A text's parts, as Split has them. -/
def partsOf (s : ByteArray) : List ByteArray := Lib.splitB slash 0 (Lib.countB s slash) s

theorem genSplit_in (s : ByteArray) (hs : s.size ≤ 100000) (w : World) : Calls Tryz.prog 79 #[.string s, .string slash, .int .i64 0, .int .i64 (-1)] w fun e w' =>
    e = .returned (.slice (some ⟨w.heap.size, 0, none⟩) (partsOf s).length (partsOf s).length) ∧ w' = w.alloc (.cells ((partsOf s).map Value.string).toArray 9) := by
  have hle := Lib.countB_le slash (by decide) s.size s (Nat.le_refl _)
  have hlen := Lib.splitB_all slash (by decide) 0 _ s rfl
  have hC : Calls Tryz.prog 102 #[.string s, .string slash] w fun e w' => e = .returned (.int .i64 (Lib.countB s slash)) ∧ w' = w := by
    have := Any.strings_Count_one Tryz.laysCount s 47 w
    rw [show ((Lib.countByte s.data.toList 47 : Nat) : Int) = ((Lib.countB s slash : Nat) : Int) from congrArg _ (Lib.count_one 47 s.data.toList).symm] at this
    exact this
  have c := Any.strings_genSplit_core Tryz.laysGen (by kernel_rfl) s slash 0 (-1) (Lib.countB s slash + 1) w (by omega) (by decide) (Nat.zero_le _) (fun x c _ => index_in x _) hC (by decide) (by decide) (by rw [if_pos (by decide)]; omega)
  rw [Nat.add_sub_cancel, hlen] at c
  have e2 : Lib.cellsOf (Lib.splitB slash 0 (Lib.countB s slash) s) (Lib.countB s slash + 1) = ((Lib.splitB slash 0 (Lib.countB s slash) s).map Value.string).toArray := by rw [← hlen]; exact Lib.cellsOf_full _
  rw [e2] at c
  unfold partsOf
  rw [hlen]
  exact c

set_option maxHeartbeats 1000000 in
theorem splitT_in (s : ByteArray) (hs : s.size ≤ 100000) (w : World) : CallsIn Fence.wide 0 Tryz.prog 54 #[.string s, .string slash] w fun e w' =>
    ∃ p c, e = .returned (.slice p (partsOf s).length c) ∧ (partsOf s).length ≤ 100001 ∧ SlV w' (.slice p (partsOf s).length c) ((partsOf s).map Value.string) ∧ Chg No w w' := by
  have hl : (partsOf s).length ≤ 100001 := by
    have hle := Lib.countB_le slash (by decide) s.size s (Nat.le_refl _)
    have := Lib.splitB_length_le slash 0 (Lib.countB s slash) s
    unfold partsOf
    omega
  have hg := fun w => (callsIn_wide (n := 0)).2 (genSplit_in s hs w)
  refine callsIn_of_wp Tryz.func54 rfl trivial ?_
  simp only [Tryz.ntmps54, List.size_toArray, List.length_cons, List.length_nil, Nat.reduceAdd, Nat.reduceSub, Array.replicate_succ, Array.replicate_zero, List.push_toArray, List.append_toArray, List.nil_append, List.cons_append]
  gi_wp2_with fail
  refine ⟨trivial, rfl, (hg _).mono ?_⟩
  rintro e w1 ⟨rfl, rfl⟩
  gi_wp2
  go_ret
  refine ⟨_, _, rfl, hl, ?_, (Chg.refl _ w).alloc _⟩
  have := SlV.made w ((partsOf s).map Value.string) 9 (by rw [List.length_map]; omega)
  rw [List.length_map] at this
  exact this

theorem sign_iff (b : UInt8) : signB b = (decide (33 ≤ b.toNat) && decide (b.toNat ≤ 126)) := by
  unfold signB
  rw [show decide ((33 : UInt8) ≤ b) = decide (33 ≤ b.toNat) from rfl, show decide (b ≤ (126 : UInt8)) = decide (b.toNat ≤ 126) from rfl]

set_option maxRecDepth 100000 in
set_option maxHeartbeats 1000000 in
theorem isPart_in (s : ByteArray) (hs : s.size ≤ 100000) (w : World) : CallsIn Fence.wide 0 Tryz.prog 55 #[.string s] w fun e w' => e = .returned (.bool (partB (Bs s))) ∧ w' = w := by
  obtain ⟨z, HZ⟩ : ∃ z, Hid (partB (Bs s) = z) := ⟨_, rfl⟩
  rw [HZ.out]
  refine callsIn_of_wp Tryz.func55 rfl trivial ?_
  simp only [Tryz.ntmps55, List.size_toArray, List.length_cons, List.length_nil, Nat.reduceAdd, Nat.reduceSub, Array.replicate_succ, Array.replicate_zero, List.push_toArray, List.append_toArray, List.nil_append, List.cons_append]
  gi_wp2
  gi_loopw [6] (fun i wr => ∃ k : Nat, k ≤ s.size ∧ i = .int .i64 (k : Int) ∧ Hid (((Bs s).take k).all signB = true) ∧ wr = w) (fun i _ => s.size - (intOf i).toNat)
  case atStart => exact ⟨0, Nat.zero_le _, rfl, rfl, rfl⟩
  case round =>
    obtain ⟨k, hk, rfl, HT, rfl⟩ := hrel
    by_cases hlt : k < s.size
    · have hlt' : (k : Int) < (s.size : Int) := by omega
      have hkl : k < (Bs s).length := hlt
      have hbad : ¬ (33 ≤ (s[k]'hlt).toNat ∧ (s[k]'hlt).toNat ≤ 126) → Hid (z = false) := fun h => by
        show _ = _
        rw [← HZ.out]
        unfold partB
        have : (Bs s).all signB = false := by
          rw [List.all_eq_false]
          refine ⟨(Bs s)[k], List.getElem_mem hkl, ?_⟩
          rw [sign_iff]
          intro h2
          rw [Bool.and_eq_true, decide_eq_true_eq, decide_eq_true_eq] at h2
          exact h h2
        rw [this]
        rfl
      by_cases h1 : (s[k]'hlt).toNat < 33
      · have h1' : ((s[k]'hlt).toNat : Int) < 33 := by omega
        obtain rfl := (hbad (by omega)).out
        gi_wp2
        go_ret
        exact ⟨rfl, rfl⟩
      · have h1' : ¬ ((s[k]'hlt).toNat : Int) < 33 := by omega
        by_cases h2 : 126 < (s[k]'hlt).toNat
        · have h2' : (126 : Int) < ((s[k]'hlt).toNat : Int) := by omega
          obtain rfl := (hbad (by omega)).out
          gi_wp2
          go_ret
          exact ⟨rfl, rfl⟩
        · have h2' : ¬ (126 : Int) < ((s[k]'hlt).toNat : Int) := by omega
          have HT2 : Hid (((Bs s).take (k + 1)).all signB = true) := by
            show _ = _
            rw [List.take_succ_eq_append_getElem hkl, List.all_append, HT.out, Bool.true_and, List.all_cons, List.all_nil, Bool.and_true, sign_iff, Bool.and_eq_true, decide_eq_true_eq, decide_eq_true_eq]
            exact ⟨by have := h1; show 33 ≤ (s[k]'hlt).toNat; omega, by show (s[k]'hlt).toNat ≤ 126; omega⟩
          clear hbad
          gi_wp2
          go_roundw
          case rel => exact ⟨k + 1, hlt, by go_num, HT2, trivial⟩
          case measure => simp [intOf]; omega
    · have hlt' : ¬ (k : Int) < (s.size : Int) := by omega
      obtain rfl : k = s.size := by omega
      have hz : z = !s.toList.isEmpty := by
        rw [← HZ.out]
        unfold partB
        have := HT.out
        rw [List.take_of_length_le (show (Bs s).length ≤ s.size from Nat.le_refl _)] at this
        rw [this, Bool.true_and, Go.ByteArray.toList_eq]
      have HZ2 : Hid (z = !s.toList.isEmpty) := hz
      clear hz
      gi_wp2
      go_ret
      exact ⟨by rw [HZ2.out]; rfl, rfl⟩

set_option maxRecDepth 100000 in
set_option maxHeartbeats 1000000 in
theorem path_in (p : ByteArray) (w : World) : CallsIn Fence.wide 0 Tryz.prog 30 #[.string p] w fun e w' => e = .returned (.bool (pathB (Bs p))) ∧ Chg No w w' := by
  obtain ⟨z, HZ⟩ : ∃ z, Hid (pathB (Bs p) = z) := ⟨_, rfl⟩
  rw [HZ.out]
  have hok : Hid (pathB (Bs p) = (decide (p.size ≤ 60) && (partsOf p).all (fun x => partB (Bs x)))) := by
    show _ = _
    rw [pathB_ok, ← split_ok]
    rfl
  refine callsIn_of_wp Tryz.func30 rfl trivial ?_
  simp only [Tryz.ntmps30, List.size_toArray, List.length_cons, List.length_nil, Nat.reduceAdd, Nat.reduceSub, Array.replicate_succ, Array.replicate_zero, List.push_toArray, List.append_toArray, List.nil_append, List.cons_append]
  by_cases hl : 60 < p.size
  · have hl' : (60 : Int) < (p.size : Int) := by omega
    obtain rfl : z = false := by rw [← HZ.out, hok.out, decide_eq_false (by omega)]; rfl
    gi_wp2
    go_ret
    exact ⟨rfl, Chg.refl _ _⟩
  have hl' : ¬ (60 : Int) < (p.size : Int) := by omega
  have hok2 : Hid (z = (partsOf p).all (fun x => partB (Bs x))) := by
    show _ = _
    rw [← HZ.out, hok.out, decide_eq_true (by omega), Bool.true_and]
  have hsz : ∀ x ∈ partsOf p, x.size ≤ 100000 := by
    intro x hx
    have : ∀ (k : Nat) (s : ByteArray), s.size ≤ 100000 → ∀ x ∈ Lib.splitB slash 0 k s, x.size ≤ 100000 := by
      intro k
      induction k with
      | zero => intro s h x hx; rw [Lib.splitB_zero, List.mem_singleton] at hx; rw [hx]; exact h
      | succ k ih =>
        intro s h x hx
        unfold Lib.splitB at hx
        split at hx
        · rw [List.mem_singleton] at hx; rw [hx]; exact h
        · rcases List.mem_cons.1 hx with e | hx
          · rw [e, ByteArray.size_extract]; omega
          · exact ih _ (by rw [ByteArray.size_extract]; omega) x hx
    exact this _ p (by omega) x hx
  clear hok HZ
  gi_wp2_with fail
  refine ⟨trivial, rfl, (splitT_in p (by omega) _).mono ?_⟩
  rintro e w1 ⟨q, c, rfl, hn, sv, c1⟩
  generalize hps : partsOf p = ps at *
  have HPS : Hid (partsOf p = ps) := hps
  clear hps
  obtain ⟨n, HN⟩ : ∃ n, Hid (ps.length = n) := ⟨_, rfl⟩
  rw [HN.out] at sv hn ⊢
  gi_wp2
  gi_loopw [11] (fun i wr => ∃ k : Nat, k ≤ n ∧ i = .int .i64 (k : Int) ∧ Hid ((ps.take k).all (fun x => partB (Bs x)) = true) ∧ Chg No w1 wr) (fun i _ => n - (intOf i).toNat)
  case atStart => exact ⟨0, Nat.zero_le _, rfl, rfl, Chg.refl _ _⟩
  case round =>
    obtain ⟨k, hk, rfl, HT, ck⟩ := hrel
    by_cases hlt : k < n
    · have hlt' : (k : Int) < (n : Int) := by omega
      have hkl : k < ps.length := by rw [HN.out]; exact hlt
      obtain ⟨x, hx⟩ : ∃ x, ps[k] = x := ⟨_, rfl⟩
      obtain ⟨b1, o1, rfl, hcell⟩ : ∃ b off, q = some ⟨b, off, none⟩ ∧ wr.cell? ⟨b, off + k, none⟩ = some (.string x) := by
        obtain ⟨p', cap', e, _, _, hc⟩ := sv.no ck
        cases e
        exact hc k (.string x) (by rw [List.getElem?_map, List.getElem?_eq_getElem hkl, hx]; rfl)
      have hxs : x.size ≤ 100000 := hsz x (by rw [← hx]; exact List.getElem_mem hkl)
      have hip := isPart_in x hxs
      cases hb : partB (Bs x) with
      | true =>
        rw [hb] at hip
        have HT2 : Hid ((ps.take (k + 1)).all (fun x => partB (Bs x)) = true) := by
          show _ = _
          rw [List.take_succ_eq_append_getElem hkl, List.all_append, HT.out, hx, Bool.true_and, List.all_cons, List.all_nil, Bool.and_true]
          exact hb
        clear hb hx hsz
        gi_wp2_with fail
        refine ⟨trivial, rfl, (hip _).mono ?_⟩
        rintro e w2 ⟨rfl, rfl⟩
        gi_wp2
        go_roundw
        case rel => exact ⟨k + 1, hlt, by go_num, HT2, ck⟩
        case measure => simp [intOf]; omega
      | false =>
        rw [hb] at hip
        obtain rfl : z = false := by
          rw [hok2.out, List.all_eq_false]
          exact ⟨x, by rw [← hx]; exact List.getElem_mem hkl, by rw [hb]; exact Bool.false_ne_true⟩
        clear hb hx hsz
        gi_wp2_with fail
        refine ⟨trivial, rfl, (hip _).mono ?_⟩
        rintro e w2 ⟨rfl, rfl⟩
        gi_wp2
        go_ret
        exact ⟨rfl, Chg.seq c1 ck⟩
    · have hlt' : ¬ (k : Int) < (n : Int) := by omega
      obtain rfl : k = n := by omega
      obtain rfl : z = true := by
        rw [hok2.out]
        have := HT.out
        rw [List.take_of_length_le (by rw [HN.out]; exact Nat.le_refl _)] at this
        exact this
      gi_wp2
      go_ret
      exact ⟨rfl, Chg.seq c1 ck⟩

end Go.Proofs.YtakbeololabmhaaGreatDoor

end
section
-- FLe
namespace Go.TreeLib
open Go
theorem leB_lt (p q : ByteArray) : (Op.bytesLess p.toList q.toList || p.toList == q.toList) = !lt q p := by
  show (lt p q || p.toList == q.toList) = _
  cases h : lt q p with
  | true =>
    have : ¬ p.toList = q.toList := fun e => lt_ne h (toList_inj e).symm
    rw [lt_asymm h, beq_eq_false_iff_ne.2 this]
    rfl
  | false =>
    cases h2 : lt p q with
    | true => rfl
    | false =>
      have : p = q := lt_tri h2 h
      subst this
      simp
end Go.TreeLib

end
section
-- FGoes
namespace Go.TreeLib
open Go
theorem prefix_under (p q : List UInt8) : Lib.hasPrefix p (q ++ [47]) = under p q := by
  unfold Lib.hasPrefix under
  rw [Bool.eq_iff_iff, List.isPrefixOf_iff_prefix]
  simp only [Bool.and_eq_true, decide_eq_true_eq]
  constructor
  · rintro ⟨r, rfl⟩
    refine ⟨by simp, ?_, ?_⟩
    · rw [List.append_assoc, List.take_left' rfl]
    · rw [List.append_assoc, List.getElem?_append_right (Nat.le_refl _), Nat.sub_self]; rfl
  · rintro ⟨h1, h2, h3⟩
    refine ⟨p.drop (q.length + 1), ?_⟩
    rw [List.append_assoc]
    conv => rhs; rw [← List.take_append_drop q.length p, h2]
    congr 1
    rw [List.drop_eq_getElem_cons h1]
    rw [List.getElem?_eq_getElem h1] at h3
    rw [Option.some.inj h3]
    rfl
/-- May p stand behind f? -/
def behindB (f : Fl) (p : ByteArray) : Bool := lt f.1 p && !under (Bs p) (Bs f.1)
def goesB (zs : List Fl) (p : ByteArray) : Bool := zs.all (fun f => behindB f p)
end Go.TreeLib
namespace Go.Proofs.YtakbeololabmhaaGreatDoor
open Go.RowKit Go.Shelf Go.SeqLib Go.DiffLib Go.TreeLib
attribute [local go_sem] Oper.semAt_some

theorem prefix_in (s p : ByteArray) (w : World) : CallsIn Fence.wide 0 Tryz.prog 57 #[.string s, .string p] w fun e w' => e = .returned (.bool (Lib.hasPrefix (Bs s) (Bs p))) ∧ w' = w :=
  (callsIn_wide (n := 0)).2 (Any.strings_HasPrefix Tryz.laysPrefix s p w)
theorem append_bytes (a b : ByteArray) : Bs (a ++ b) = Bs a ++ Bs b := by
  show (a ++ b).data.toList = _
  rw [ByteArray.data_append, Array.toList_append]

set_option maxRecDepth 100000 in
set_option maxHeartbeats 1000000 in
theorem goesOn_in (v : Value) (zs : List Fl) (p : ByteArray) (hz : ∀ f ∈ zs, f.1.size ≤ 100000) (w : World) (hv : SlF w v zs) : CallsIn Fence.wide 0 Tryz.prog 31 #[v, .string p] w fun e w' =>
    e = .returned (.bool (goesB zs p)) ∧ Chg No w w' := by
  have c00 : Chg No w ((w.alloc (.cells #[.string p] 9)).alloc (.cells #[.bool false] 4)) := ((Chg.refl _ w).alloc _).alloc _
  have hv0 := hv.no c00
  have hlt := hv.lt
  refine callsIn_of_wp_marks Tryz.func31 rfl trivial ?_
  simp only [Tryz.ntmps31, List.size_toArray, List.length_cons, List.length_nil, Nat.reduceAdd, Nat.reduceSub, Array.replicate_succ, Array.replicate_zero, List.push_toArray, List.append_toArray, List.nil_append, List.cons_append]
  gi_wp2_with fail
  refine ⟨trivial, rfl, (filesT_in v zs _ hv0).mono ?_⟩
  rintro e w1 ⟨g1, l1, D1, rfl, ⟨I0, it, hI, eg⟩, c1, hD1⟩
  have b0 : Boxed w1 w.heap.size 9 (.string p) := c1.boxed ((Boxed.new w 9 (.string p)).alloc _) (fun h => h)
  have b1 : Boxed w1 (w.heap.size + 1) 4 (.bool false) := by
    have := Boxed.new (w.alloc (.cells #[.string p] 9)) 4 (.bool false)
    rw [World.size_alloc] at this
    exact c1.boxed this (fun h => h)
  have c0 : Chg No w w1 := Chg.seq c00 c1
  have hlow : ∀ k, D1 k → k < w.heap.size ∨ w.heap.size + 2 ≤ k := fun k hk => by
    rcases hD1 k hk with h | h
    · exact .inl (hlt k h)
    · simp at h; exact .inr (by omega)
  clear c1 hD1 c00 hv0
  gi_wp2
  have pK : Part (fun S W => S = (fun k => k = w.heap.size ∨ k = w.heap.size + 1) ∧ Boxed W w.heap.size 9 (.string p) ∧ Boxed W (w.heap.size + 1) 4 (.bool false)) :=
    ⟨by
      rintro S W ⟨rfl, h1, h2⟩ k (h | h)
      · subst h; exact h1.lt
      · subst h; exact h2.lt, by
      rintro S W W' ⟨rfl, h1, h2⟩ hs hk
      exact ⟨rfl, (hk _ (.inl rfl)).trans h1, (hk _ (.inr rfl)).trans h2⟩⟩
  refine wpIn_range (gf := g1) (lb := l1) rfl eg it (fun _ => rfl)
    (fun pre S W => (S = (fun k => k = w.heap.size ∨ k = w.heap.size + 1) ∧ Boxed W w.heap.size 9 (.string p) ∧ Boxed W (w.heap.size + 1) 4 (.bool false)) ∧ goesB pre p = true)
    (fun c pre S W => (S = (fun k => k = w.heap.size ∨ k = w.heap.size + 1) ∧ Boxed W w.heap.size 9 (.string p) ∧ Boxed W (w.heap.size + 1) 4 (.bool false)) ∧ (c = .ret ∧ goesB zs p = false))
    (fun pre => pK.andP _) (fun c pre => pK.andP _)
    (S := fun k => k = w.heap.size ∨ k = w.heap.size + 1) hI ⟨⟨rfl, b0, b1⟩, rfl⟩
    (fun k hk h => by have := hlow k hk; omega)
    (fun x => { tmps := #[v, .string p, undef, .pointer (some ⟨w.heap.size, 0, none⟩), .pointer (some ⟨w.heap.size + 1, 0, none⟩), .string x.1, v, .func (.func g1) #[] l1, .string x.1, .string x.2, undef, undef, undef, undef, undef, undef, undef, undef, undef], defers := [] }) ?assign ?body ?done ?stop
  case assign =>
    intro l x W K hK
    gi_wp2
    simpa using hK
  case body =>
    rintro lr pre x S2 W hpre ⟨⟨rfl, h0, h1⟩, hall⟩
    have hc0 := h0.cell
    have hc1 := h1.cell
    have hf1 := h1.frozen
    have hxm : x ∈ zs := hpre.subset (by simp)
    have hxs : x.1.size ≤ 100000 := hz x hxm
    have hss : slash.size = 1 := rfl
    have hbad : behindB x p = false → Hid (goesB zs p = false) := fun h => by
      show _ = _
      unfold goesB
      rw [List.all_eq_false]
      exact ⟨x, hxm, by rw [h]; exact Bool.false_ne_true⟩
    cases hle : lt x.1 p with
    | false =>
      have hle' : (Op.bytesLess p.toList x.1.toList || p.toList == x.1.toList) = true := by rw [leB_lt, hle]; rfl
      have HB := hbad (by unfold behindB; rw [hle]; rfl)
      clear hbad hle hall
      obtain ⟨a, hA⟩ : ∃ a, Op.bytesLess p.toList x.1.toList = a := ⟨_, rfl⟩
      obtain ⟨b, hB⟩ : ∃ b, (p.toList == x.1.toList) = b := ⟨_, rfl⟩
      rw [hA, hB] at hle'
      cases a with
      | true =>
       gi_wp2
       rename_i hKK
       apply hKK
       rw [hA, Bool.true_or]
       gi_wp2
       refine ⟨trivial, ?_⟩
       rename_i hK2
       apply hK2
       gi_wp2
       exact ⟨_, (Chg.refl _ W).setCell (p := ⟨w.heap.size + 1, 0, none⟩) (.inl (.inr rfl)) _, Grew.refl _ _, ⟨rfl, h0.other (by omega) _, h1.set _⟩, rfl, HB.out⟩
      | false =>
      obtain rfl : b = true := hle'
      gi_wp2
      rename_i hKK
      apply hKK
      rw [hA, hB, Bool.or_true]
      gi_wp2
      refine ⟨trivial, ?_⟩
      rename_i hK2
      apply hK2
      gi_wp2
      exact ⟨_, (Chg.refl _ W).setCell (p := ⟨w.heap.size + 1, 0, none⟩) (.inl (.inr rfl)) _, Grew.refl _ _, ⟨rfl, h0.other (by omega) _, h1.set _⟩, rfl, HB.out⟩
    | true =>
      have hle' : (Op.bytesLess p.toList x.1.toList || p.toList == x.1.toList) = false := by rw [leB_lt, hle]; rfl
      rw [Bool.or_eq_false_iff] at hle'
      obtain ⟨hA, hB⟩ := hle'
      have hpf := prefix_in p (x.1 ++ slash)
      rw [append_bytes, show Bs slash = [47] from rfl, prefix_under] at hpf
      cases hu : under (Bs p) (Bs x.1) with
      | true =>
        have HB := hbad (by unfold behindB; rw [hle, hu]; rfl)
        rw [hu] at hpf
        clear hbad hle hall hu
        gi_wp2
        rename_i hKK
        apply hKK
        rw [hA, hB, Bool.or_false]
        gi_wp2_with fail
        refine ⟨trivial, rfl, (hpf _).mono ?_⟩
        rintro e w2 ⟨rfl, rfl⟩
        gi_wp2
        exact ⟨_, (Chg.refl _ _).setCell (p := ⟨w.heap.size + 1, 0, none⟩) (.inl (.inr rfl)) _, Grew.refl _ _, ⟨rfl, h0.other (by omega) _, h1.set _⟩, rfl, HB.out⟩
      | false =>
        have HA : Hid (goesB (pre ++ [x]) p = true) := by
          show _ = _
          unfold goesB at hall ⊢
          rw [List.all_append, hall, Bool.true_and, List.all_cons, List.all_nil, Bool.and_true]
          unfold behindB
          rw [hle, hu]
          rfl
        rw [hu] at hpf
        clear hbad hle hall hu
        gi_wp2
        rename_i hKK
        apply hKK
        rw [hA, hB, Bool.or_false]
        gi_wp2_with fail
        refine ⟨trivial, rfl, (hpf _).mono ?_⟩
        rintro e w2 ⟨rfl, rfl⟩
        gi_wp2
        exact ⟨_, Chg.refl _ _, Grew.refl _ _, ⟨rfl, h0, h1⟩, HA.out⟩
  case done =>
    rintro d S' W hd ⟨⟨rfl, h0, h1⟩, hall⟩ hI' hc hg hK hnd
    have HG : Hid (goesB zs p = true) := hall
    have hc1 := h1.cell
    have hf1 := h1.frozen
    have hd1 : d ≠ w.heap.size + 1 := fun e => hnd (.inr e)
    have hd3 : w.heap.size ≤ d := Nat.le_trans c0.size hd
    clear hall
    have hcc : Chg No w W := c0.trans hc (fun k hk => by
      rcases hk with h | h | h
      · exact h.elim
      · exact .inr (by omega)
      · exact .inr (by omega))
    gi_wp2
    have hK' : (W.setCell ⟨w.heap.size + 1, 0, none⟩ (.bool true)).heap[d]? = some (.deferred (some [])) := (Below.heap_setCell W _ _ d (fun e => hd1 e)).trans hK
    refine ⟨by simp, .inl ⟨_, _, rfl, run_takeDeferred hK', ?_⟩⟩
    have k1 : Boxed ((W.setCell ⟨w.heap.size + 1, 0, none⟩ (.bool true)).putObj d (.deferred none)) (w.heap.size + 1) 4 (.bool true) := (World.putObj_heap_other (fun e => hd1 e.symm)).trans (h1.set _)
    have e1 := k1.cell
    refine ⟨.bool true, ?_, ?_, ?_⟩
    · rw [results_cell1 rfl]
      go_simp
    · rw [HG.out]
    · exact Chg.putObj (hcc.setCell (p := ⟨w.heap.size + 1, 0, none⟩) (.inr (by simp)) _) (.inr hd3) _
  case stop =>
    rintro d c pre S' W hd hpre ⟨⟨rfl, h0, h1⟩, rfl, hget⟩ hI' hc hg hK hnd
    have HG : Hid (goesB zs p = false) := hget
    have hc1 := h1.cell
    have hd1 : d ≠ w.heap.size + 1 := fun e => hnd (.inr e)
    have hd3 : w.heap.size ≤ d := Nat.le_trans c0.size hd
    clear hget
    have hcc : Chg No w W := c0.trans hc (fun k hk => by
      rcases hk with h | h | h
      · exact h.elim
      · exact .inr (by omega)
      · exact .inr (by omega))
    gi_wp2
    refine ⟨by simp, .inl ⟨_, _, rfl, run_takeDeferred hK, ?_⟩⟩
    have k1 : Boxed (W.putObj d (.deferred none)) (w.heap.size + 1) 4 (.bool false) := (World.putObj_heap_other (fun e => hd1 e.symm)).trans h1
    have e1 := k1.cell
    refine ⟨.bool false, ?_, ?_, ?_⟩
    · rw [results_cell1 rfl]
      go_simp
    · rw [HG.out]
    · exact Chg.putObj hcc (.inr hd3) _

end Go.Proofs.YtakbeololabmhaaGreatDoor

end
