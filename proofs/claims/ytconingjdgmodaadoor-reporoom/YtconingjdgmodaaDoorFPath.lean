/-
  tree's isPart and Path; strings.Split at a slash.
-/
import Derived.Test.YtconingjdgmodaaDoorShelf
import Derived.Test.YtconingjdgmodaaDoorRSplit
import Derived.Test.YtconingjdgmodaaDoorTxt
namespace Go.Proofs.YtconingjdgmodaaDoor
open Go.RowKit Go.Shelf Go.SeqLib Go.TreeLib
attribute [local go_sem] Oper.semAt_some

set_option maxHeartbeats 1000000 in
theorem index_in (x : ByteArray) (w : World) : Calls Tryd.prog 67 #[.string x, .string slash] w fun e w' => e = .returned (.int .i64 (Lib.indexB x slash)) ∧ w' = w := by
  have hc : ∀ w, Calls Tryd.prog 71 #[.string x, .string slash] w fun e w' => e = .returned (.int .i64 (Lib.indexB x slash)) ∧ w' = w := fun w => by
    have := Any.stringslite_Index_one Tryd.laysIndex x 47 w
    rw [show Lib.indexByte x.data.toList 47 = Lib.indexB x slash from (Lib.index_one _ _).symm] at this
    exact this
  go_enter Tryd.func67, Tryd.ntmps67
  go_wp2_with (go_at_call 71; refine (hc _).mono ?_; rintro e w' ⟨rfl, rfl⟩)
  go_ret
  exact ⟨rfl, rfl⟩

/-- A text's parts, as Split has them. -/
def partsOf (s : ByteArray) : List ByteArray := Lib.splitB slash 0 (Lib.countB s slash) s

theorem genSplit_in (s : ByteArray) (hs : s.size ≤ 100000) (w : World) : Calls Tryd.prog 62 #[.string s, .string slash, .int .i64 0, .int .i64 (-1)] w fun e w' =>
    e = .returned (.slice (some ⟨w.heap.size, 0, none⟩) (partsOf s).length (partsOf s).length) ∧ w' = w.alloc (.cells ((partsOf s).map Value.string).toArray 9) := by
  have hle := Lib.countB_le slash (by decide) s.size s (Nat.le_refl _)
  have hlen := Lib.splitB_all slash (by decide) 0 _ s rfl
  have hC : Calls Tryd.prog 66 #[.string s, .string slash] w fun e w' => e = .returned (.int .i64 (Lib.countB s slash)) ∧ w' = w := by
    have := Any.strings_Count_one Tryd.laysCount s 47 w
    rw [show ((Lib.countByte s.data.toList 47 : Nat) : Int) = ((Lib.countB s slash : Nat) : Int) from congrArg _ (Lib.count_one 47 s.data.toList).symm] at this
    exact this
  have c := Any.strings_genSplit_core Tryd.laysGen (by kernel_rfl) s slash 0 (-1) (Lib.countB s slash + 1) w (by omega) (by decide) (Nat.zero_le _) (fun x c _ => index_in x _) hC (by decide) (by decide) (by rw [if_pos (by decide)]; omega)
  rw [Nat.add_sub_cancel, hlen] at c
  have e2 : Lib.cellsOf (Lib.splitB slash 0 (Lib.countB s slash) s) (Lib.countB s slash + 1) = ((Lib.splitB slash 0 (Lib.countB s slash) s).map Value.string).toArray := by rw [← hlen]; exact Lib.cellsOf_full _
  rw [e2] at c
  unfold partsOf
  rw [hlen]
  exact c

set_option maxHeartbeats 1000000 in
theorem splitT_in (s : ByteArray) (hs : s.size ≤ 100000) (w : World) : CallsIn Fence.wide 0 Tryd.prog 57 #[.string s, .string slash] w fun e w' =>
    ∃ p c, e = .returned (.slice p (partsOf s).length c) ∧ (partsOf s).length ≤ 100001 ∧ SlV w' (.slice p (partsOf s).length c) ((partsOf s).map Value.string) ∧ Chg No w w' := by
  have hl : (partsOf s).length ≤ 100001 := by
    have hle := Lib.countB_le slash (by decide) s.size s (Nat.le_refl _)
    have := Lib.splitB_length_le slash 0 (Lib.countB s slash) s
    unfold partsOf
    omega
  have hg := fun w => (callsIn_wide (n := 0)).2 (genSplit_in s hs w)
  refine callsIn_of_wp Tryd.func57 rfl trivial ?_
  simp only [Tryd.ntmps57, List.size_toArray, List.length_cons, List.length_nil, Nat.reduceAdd, Nat.reduceSub, Array.replicate_succ, Array.replicate_zero, List.push_toArray, List.append_toArray, List.nil_append, List.cons_append]
  gi_wp2_with fail
  refine ⟨trivial, rfl, (hg _).mono ?_⟩
  rintro e w1 ⟨rfl, rfl⟩
  gi_wp2
  go_ret
  refine ⟨_, _, rfl, hl, ?_, (Chg.refl _ w).alloc _⟩
  have := SlV.made w ((partsOf s).map Value.string) 9 (by rw [List.length_map]; omega)
  rw [List.length_map] at this
  exact this

theorem sign_iff (b : UInt8) : signB b = (decide (33 ≤ b.toNat) && decide (b.toNat ≤ 126)) := by
  unfold signB
  rw [show decide ((33 : UInt8) ≤ b) = decide (33 ≤ b.toNat) from rfl, show decide (b ≤ (126 : UInt8)) = decide (b.toNat ≤ 126) from rfl]

set_option maxRecDepth 100000 in
set_option maxHeartbeats 1000000 in
theorem isPart_in (s : ByteArray) (hs : s.size ≤ 100000) (w : World) : CallsIn Fence.wide 0 Tryd.prog 58 #[.string s] w fun e w' => e = .returned (.bool (partB (Bs s))) ∧ w' = w := by
  obtain ⟨z, HZ⟩ : ∃ z, Hid (partB (Bs s) = z) := ⟨_, rfl⟩
  rw [HZ.out]
  refine callsIn_of_wp Tryd.func58 rfl trivial ?_
  simp only [Tryd.ntmps58, List.size_toArray, List.length_cons, List.length_nil, Nat.reduceAdd, Nat.reduceSub, Array.replicate_succ, Array.replicate_zero, List.push_toArray, List.append_toArray, List.nil_append, List.cons_append]
  gi_wp2
  gi_loopw [6] (fun i wr => ∃ k : Nat, k ≤ s.size ∧ i = .int .i64 (k : Int) ∧ Hid (((Bs s).take k).all signB = true) ∧ wr = w) (fun i _ => s.size - (intOf i).toNat)
  case atStart => exact ⟨0, Nat.zero_le _, rfl, rfl, rfl⟩
  case round =>
    obtain ⟨k, hk, rfl, HT, rfl⟩ := hrel
    by_cases hlt : k < s.size
    · have hlt' : (k : Int) < (s.size : Int) := by omega
      have hkl : k < (Bs s).length := hlt
      have hbad : ¬ (33 ≤ (s[k]'hlt).toNat ∧ (s[k]'hlt).toNat ≤ 126) → Hid (z = false) := fun h => by
        show _ = _
        rw [← HZ.out]
        unfold partB
        have : (Bs s).all signB = false := by
          rw [List.all_eq_false]
          refine ⟨(Bs s)[k], List.getElem_mem hkl, ?_⟩
          rw [sign_iff]
          intro h2
          rw [Bool.and_eq_true, decide_eq_true_eq, decide_eq_true_eq] at h2
          exact h h2
        rw [this]
        rfl
      by_cases h1 : (s[k]'hlt).toNat < 33
      · have h1' : ((s[k]'hlt).toNat : Int) < 33 := by omega
        obtain rfl := (hbad (by omega)).out
        gi_wp2
        go_ret
        exact ⟨rfl, rfl⟩
      · have h1' : ¬ ((s[k]'hlt).toNat : Int) < 33 := by omega
        by_cases h2 : 126 < (s[k]'hlt).toNat
        · have h2' : (126 : Int) < ((s[k]'hlt).toNat : Int) := by omega
          obtain rfl := (hbad (by omega)).out
          gi_wp2
          go_ret
          exact ⟨rfl, rfl⟩
        · have h2' : ¬ (126 : Int) < ((s[k]'hlt).toNat : Int) := by omega
          have HT2 : Hid (((Bs s).take (k + 1)).all signB = true) := by
            show _ = _
            rw [List.take_succ_eq_append_getElem hkl, List.all_append, HT.out, Bool.true_and, List.all_cons, List.all_nil, Bool.and_true, sign_iff, Bool.and_eq_true, decide_eq_true_eq, decide_eq_true_eq]
            exact ⟨by have := h1; show 33 ≤ (s[k]'hlt).toNat; omega, by show (s[k]'hlt).toNat ≤ 126; omega⟩
          clear hbad
          gi_wp2
          go_roundw
          case rel => exact ⟨k + 1, hlt, by go_num, HT2, trivial⟩
          case measure => simp [intOf]; omega
    · have hlt' : ¬ (k : Int) < (s.size : Int) := by omega
      obtain rfl : k = s.size := by omega
      have hz : z = !s.toList.isEmpty := by
        rw [← HZ.out]
        unfold partB
        have := HT.out
        rw [List.take_of_length_le (show (Bs s).length ≤ s.size from Nat.le_refl _)] at this
        rw [this, Bool.true_and, Go.ByteArray.toList_eq]
      have HZ2 : Hid (z = !s.toList.isEmpty) := hz
      clear hz
      gi_wp2
      go_ret
      exact ⟨by rw [HZ2.out]; rfl, rfl⟩

set_option maxRecDepth 100000 in
set_option maxHeartbeats 1000000 in
theorem path_in (p : ByteArray) (w : World) : CallsIn Fence.wide 0 Tryd.prog 46 #[.string p] w fun e w' => e = .returned (.bool (pathB (Bs p))) ∧ Chg No w w' := by
  obtain ⟨z, HZ⟩ : ∃ z, Hid (pathB (Bs p) = z) := ⟨_, rfl⟩
  rw [HZ.out]
  have hok : Hid (pathB (Bs p) = (decide (p.size ≤ 60) && (partsOf p).all (fun x => partB (Bs x)))) := by
    show _ = _
    rw [pathB_ok, ← split_ok]
    rfl
  refine callsIn_of_wp Tryd.func46 rfl trivial ?_
  simp only [Tryd.ntmps46, List.size_toArray, List.length_cons, List.length_nil, Nat.reduceAdd, Nat.reduceSub, Array.replicate_succ, Array.replicate_zero, List.push_toArray, List.append_toArray, List.nil_append, List.cons_append]
  by_cases hl : 60 < p.size
  · have hl' : (60 : Int) < (p.size : Int) := by omega
    obtain rfl : z = false := by rw [← HZ.out, hok.out, decide_eq_false (by omega)]; rfl
    gi_wp2
    go_ret
    exact ⟨rfl, Chg.refl _ _⟩
  have hl' : ¬ (60 : Int) < (p.size : Int) := by omega
  have hok2 : Hid (z = (partsOf p).all (fun x => partB (Bs x))) := by
    show _ = _
    rw [← HZ.out, hok.out, decide_eq_true (by omega), Bool.true_and]
  have hsz : ∀ x ∈ partsOf p, x.size ≤ 100000 := by
    intro x hx
    have : ∀ (k : Nat) (s : ByteArray), s.size ≤ 100000 → ∀ x ∈ Lib.splitB slash 0 k s, x.size ≤ 100000 := by
      intro k
      induction k with
      | zero => intro s h x hx; rw [Lib.splitB_zero, List.mem_singleton] at hx; rw [hx]; exact h
      | succ k ih =>
        intro s h x hx
        unfold Lib.splitB at hx
        split at hx
        · rw [List.mem_singleton] at hx; rw [hx]; exact h
        · rcases List.mem_cons.1 hx with e | hx
          · rw [e, ByteArray.size_extract]; omega
          · exact ih _ (by rw [ByteArray.size_extract]; omega) x hx
    exact this _ p (by omega) x hx
  clear hok HZ
  gi_wp2_with fail
  refine ⟨trivial, rfl, (splitT_in p (by omega) _).mono ?_⟩
  rintro e w1 ⟨q, c, rfl, hn, sv, c1⟩
  generalize hps : partsOf p = ps at *
  have HPS : Hid (partsOf p = ps) := hps
  clear hps
  obtain ⟨n, HN⟩ : ∃ n, Hid (ps.length = n) := ⟨_, rfl⟩
  rw [HN.out] at sv hn ⊢
  gi_wp2
  gi_loopw [11] (fun i wr => ∃ k : Nat, k ≤ n ∧ i = .int .i64 (k : Int) ∧ Hid ((ps.take k).all (fun x => partB (Bs x)) = true) ∧ Chg No w1 wr) (fun i _ => n - (intOf i).toNat)
  case atStart => exact ⟨0, Nat.zero_le _, rfl, rfl, Chg.refl _ _⟩
  case round =>
    obtain ⟨k, hk, rfl, HT, ck⟩ := hrel
    by_cases hlt : k < n
    · have hlt' : (k : Int) < (n : Int) := by omega
      have hkl : k < ps.length := by rw [HN.out]; exact hlt
      obtain ⟨x, hx⟩ : ∃ x, ps[k] = x := ⟨_, rfl⟩
      obtain ⟨b1, o1, rfl, hcell⟩ : ∃ b off, q = some ⟨b, off, none⟩ ∧ wr.cell? ⟨b, off + k, none⟩ = some (.string x) := by
        obtain ⟨p', cap', e, _, _, hc⟩ := sv.no ck
        cases e
        exact hc k (.string x) (by rw [List.getElem?_map, List.getElem?_eq_getElem hkl, hx]; rfl)
      have hxs : x.size ≤ 100000 := hsz x (by rw [← hx]; exact List.getElem_mem hkl)
      have hip := isPart_in x hxs
      cases hb : partB (Bs x) with
      | true =>
        rw [hb] at hip
        have HT2 : Hid ((ps.take (k + 1)).all (fun x => partB (Bs x)) = true) := by
          show _ = _
          rw [List.take_succ_eq_append_getElem hkl, List.all_append, HT.out, hx, Bool.true_and, List.all_cons, List.all_nil, Bool.and_true]
          exact hb
        clear hb hx hsz
        gi_wp2_with fail
        refine ⟨trivial, rfl, (hip _).mono ?_⟩
        rintro e w2 ⟨rfl, rfl⟩
        gi_wp2
        go_roundw
        case rel => exact ⟨k + 1, hlt, by go_num, HT2, ck⟩
        case measure => simp [intOf]; omega
      | false =>
        rw [hb] at hip
        obtain rfl : z = false := by
          rw [hok2.out, List.all_eq_false]
          exact ⟨x, by rw [← hx]; exact List.getElem_mem hkl, by rw [hb]; exact Bool.false_ne_true⟩
        clear hb hx hsz
        gi_wp2_with fail
        refine ⟨trivial, rfl, (hip _).mono ?_⟩
        rintro e w2 ⟨rfl, rfl⟩
        gi_wp2
        go_ret
        exact ⟨rfl, Chg.seq c1 ck⟩
    · have hlt' : ¬ (k : Int) < (n : Int) := by omega
      obtain rfl : k = n := by omega
      obtain rfl : z = true := by
        rw [hok2.out]
        have := HT.out
        rw [List.take_of_length_le (by rw [HN.out]; exact Nat.le_refl _)] at this
        exact this
      gi_wp2
      go_ret
      exact ⟨rfl, Chg.seq c1 ck⟩

end Go.Proofs.YtconingjdgmodaaDoor
