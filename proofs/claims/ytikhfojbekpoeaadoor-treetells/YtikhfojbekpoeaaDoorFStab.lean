/-
  slices.SortStableFunc at files, of at most twenty-one: they come to stand by rising paths, those of one path in their order.
-/
import Derived.Test.YtikhfojbekpoeaaDoorFSym
namespace Go.TreeLib
open Go Go.Sort Go.Proofs
/-- Twenty sorted, one behind them. -/
theorem sort_twenty {d : Array Fl} (hs : d.size = 21) : ∃ A x, (Sort.insertionSort (ltOf cmpF) d 0 20).toList = A ++ [x] ∧ A.length = 20 ∧ Up A ∧ ins x A = isort d.toList := by
  have hh := insertionSort_holds (lt := ltOf cmpF) cmp_swo d 0 20 (Nat.zero_le _) (by omega)
  have hst := sort_stab d 0 20 (by omega)
  generalize Sort.insertionSort (ltOf cmpF) d 0 20 = dk at hh hst
  have hk : dk.size = 21 := hst.1.trans hs
  have hl : dk.toList.length = 21 := by rw [Array.length_toList]; exact hk
  have hsp : dk.toList = dk.toList.take 20 ++ [dk[20]!] := by
    have h1 := bang dk (i := 20) (by omega)
    rw [List.getElem?_eq_getElem (by omega)] at h1
    conv => lhs; rw [← List.take_append_drop 20 dk.toList, List.drop_eq_getElem_cons (by omega), Option.some.inj h1, List.drop_eq_nil_of_le (by omega)]
  have hup : Up (dk.toList.take 20) := by
    unfold Up
    rw [List.pairwise_iff_getElem]
    intro i j hi hj hij
    rw [List.length_take] at hi hj
    have h1 := bang dk (i := i) (by omega)
    have h2 := bang dk (i := j) (by omega)
    rw [List.getElem?_eq_getElem (by omega)] at h1 h2
    rw [List.getElem_take, List.getElem_take, Option.some.inj h1, Option.some.inj h2, ← cmp_lt]
    exact hh.2 i j (Nat.zero_le _) hij (by omega)
  refine ⟨_, _, hsp, by rw [List.length_take]; omega, hup, (isort_of (ins_up hup) (fun p => ?_)).symm⟩
  rw [ins_fil p hup, ← fil_app, ← hsp]
  exact (hst.2 p).symm
theorem sort_behind {d : Array Fl} {n : Nat} (hn : n ≤ 21) : Sort.insertionSort (ltOf cmpF) d 20 n = d := by
  unfold Sort.insertionSort
  exact insOuter_stop _ _ _ _ _ (by omega)
end Go.TreeLib
namespace Go.Proofs.YtikhfojbekpoeaaDoor
open Go.RowKit Go.Shelf Go.SeqLib Go.DiffLib Go.TreeLib Go.Sort

/-- The insertion sort of a part, from a world of the sort's to a world of the sort's. -/
theorem insert_in (blk off cap a b : Nat) (d dk : Array Fl) (w0 W : World) (R : RowK eF 2 w0 blk off d) (h : SWK eF 2 w0 blk off dk W) (hs : dk.size = d.size) (hab : a ≤ b) (hb : b ≤ dk.size) (hz : dk.size ≤ 21) :
    Calls Tryd.prog 59 #[.slice (some ⟨blk, off, none⟩) dk.size cap, .int .i64 a, .int .i64 b, .func (.func 34) #[] #[]] W fun e W' =>
      e = .returned (.tuple #[]) ∧ SWK eF 2 w0 blk off (Sort.insertionSort (ltOf cmpF) dk a b) W' := by
  have eg : ∀ args w, (callFunc 34 args).run Tryd.prog w = .ok (.enter 34 args) w := enters_of Tryd.func34 (by kernel_rfl) rfl
  have hH := h.holds R.hblk R.hH hs
  have hblk := h.lt R.hblk
  have := AnyQ.insertionSortCmpFunc Tryd.laysIns 2 Tryd.isAgg46 Tryd.sizeOf46 eF eF_len eF_one cmpF 34 #[] blk off cap a b dk W eg (order_lays blk off dk.size W) hH hblk hab hb (by omega)
  refine Calls.mono this ?_
  rintro e W' ⟨rfl, n, os, rfl⟩
  exact ⟨rfl, h.on R.hblk n _ os (sort_stab dk a b hb).1⟩

set_option maxHeartbeats 4000000 in
set_option maxRecDepth 1000000 in
theorem stable_in (blk off cap : Nat) (zs : List Fl) (w : World) (R : RowK eF 2 w blk off zs.toArray) (hn : zs.length ≤ 21) :
    Calls Tryd.prog 50 #[.slice (some ⟨blk, off, none⟩) zs.length cap, .int .i64 zs.length, .func (.func 34) #[] #[]] w fun e W' =>
      e = .returned (.tuple #[]) ∧ ∃ d', SWK eF 2 w blk off d' W' ∧ d'.toList = isort zs := by
  obtain ⟨d, hd⟩ : ∃ d : Array Fl, zs.toArray = d := ⟨_, rfl⟩
  rw [hd] at R
  have hdl : d.toList = zs := by rw [← hd]
  have hsz : d.size = zs.length := by rw [← hd]; simp
  have HR : Hid (∀ d' : Array Fl, d'.toList = isort d.toList → d'.toList = isort zs) := fun d' h => by rw [h, hdl]
  clear hd hdl
  rw [← hsz] at hn ⊢
  have hst0 : SWK eF 2 w blk off d w := SWK.start R.hH
  obtain ⟨n, HN⟩ : ∃ n, Hid (d.size = n) := ⟨_, rfl⟩
  have hI : ∀ (dk : Array Fl) (W : World) (a b : Nat), dk.size = n → SWK eF 2 w blk off dk W → a ≤ b → b ≤ n → Calls Tryd.prog 59 #[.slice (some ⟨blk, off, none⟩) n cap, .int .i64 a, .int .i64 b, .func (.func 34) #[] #[]] W fun e W' =>
      e = .returned (.tuple #[]) ∧ Hid (SWK eF 2 w blk off (Sort.insertionSort (ltOf cmpF) dk a b) W') := fun dk W a b h1 h2 h3 h4 => by
    have := insert_in blk off cap a b d dk w W R h2 (h1.trans HN.out.symm) h3 (by omega) (by rw [h1, ← HN.out]; exact hn)
    rw [h1] at this
    exact this
  have HI : Hid _ := hI
  rw [HN.out] at hn ⊢
  clear hI hsz
  go_enter Tryd.func50, Tryd.ntmps50
  go_wp2
  go_loopg [7, 8] 1 (fun g s7 s8 wr => ∃ dk : Array Fl, Hid (SWK eF 2 w blk off dk wr) ∧ ((g = 1 ∧ s7 = .int .i64 0 ∧ s8 = .int .i64 20 ∧ dk = d) ∨ (g = 0 ∧ 20 ≤ n ∧ s7 = .int .i64 20 ∧ s8 = .int .i64 40 ∧ dk = Sort.insertionSort (ltOf cmpF) d 0 20)))
  case atStart => exact ⟨d, hst0, .inl ⟨rfl, rfl, rfl, rfl⟩⟩
  case round =>
    obtain ⟨dk, S1, hcase⟩ := hrel
    rcases hcase with ⟨rfl, rfl, rfl, rfl⟩ | ⟨rfl, h20, rfl, rfl, rfl⟩
    · by_cases h20 : 20 ≤ n
      · have hz : (20 : Int) ≤ (n : Int) := by omega
        have hc := HI.out dk wr 0 20 HN.out S1.out (by omega) h20
        go_wp2_with (go_at_call 59; refine hc.mono ?_; rintro e w1 ⟨rfl, S2⟩)
        go_roundg 0
        case measure => omega
        case rel => exact ⟨_, S2, .inr ⟨rfl, h20, rfl, rfl, rfl⟩⟩
      · have hz : ¬ (20 : Int) ≤ (n : Int) := by omega
        have hz2 : ¬ (20 : Int) < (n : Int) := by omega
        have hc := HI.out dk wr 0 n HN.out S1.out (by omega) (Nat.le_refl _)
        have HL : Hid ((Sort.insertionSort (ltOf cmpF) dk 0 n).toList = isort dk.toList) := by
          have := sort_list dk
          rw [HN.out] at this
          exact this
        go_wp2_with (go_at_call 59; refine hc.mono ?_; rintro e w1 ⟨rfl, S2⟩)
        go_loopg [6] 0 (fun g s6 wr => s6 = .int .i64 20 ∧ wr = w1)
        case atStart => exact ⟨rfl, rfl⟩
        case round =>
          obtain ⟨rfl, rfl⟩ := hrel
          go_wp2
          go_end0
          exact ⟨rfl, _, S2.out, HR.out _ HL.out⟩
    · have hz : ¬ (40 : Int) ≤ (n : Int) := by omega
      have hkz : (Sort.insertionSort (ltOf cmpF) d 0 20).size = n := (sort_stab d 0 20 (by rw [HN.out]; exact h20)).1.trans HN.out
      have hc := HI.out _ wr 20 n hkz S1.out h20 (Nat.le_refl _)
      rw [sort_behind hn] at hc
      by_cases h21 : n = 20
      · subst h21
        have HL : Hid ((Sort.insertionSort (ltOf cmpF) d 0 20).toList = isort d.toList) := by
          have := sort_list d
          rw [HN.out] at this
          exact this
        clear hkz
        generalize Sort.insertionSort (ltOf cmpF) d 0 20 = dk at *
        go_wp2_with (go_at_call 59; refine hc.mono ?_; rintro e w1 ⟨rfl, S2⟩)
        go_loopg [6] 0 (fun g s6 wr => s6 = .int .i64 20 ∧ wr = w1)
        case atStart => exact ⟨rfl, rfl⟩
        case round =>
          obtain ⟨rfl, rfl⟩ := hrel
          go_wp2
          go_end0
          exact ⟨rfl, _, S2.out, HR.out _ HL.out⟩
      · obtain rfl : n = 21 := by omega
        obtain ⟨A, x, hA1, hA2, hA3, hA4⟩ := sort_twenty HN.out
        have HA4 : Hid (ins x A = isort d.toList) := hA4
        clear hA4
        generalize Sort.insertionSort (ltOf cmpF) d 0 20 = dk at *
        have R2 : ∀ W, SWK eF 2 w blk off dk W → Calls Tryd.prog 60 #[.slice (some ⟨blk, off, none⟩) 21 cap, .int .i64 0, .int .i64 20, .int .i64 21, .func (.func 34) #[] #[]] W fun e W' =>
            e = .returned (.tuple #[]) ∧ ∃ d', Hid (SWK eF 2 w blk off d' W') ∧ Hid (d'.toList = isort d.toList) := fun W hW => by
          have hH := hW.holds R.hblk R.hH (hkz.trans HN.out.symm)
          have := sym_in blk off cap dk W W ⟨R.hk, R.h1, hH, hW.lt R.hblk⟩ (SWK.start hH) hkz A x hA1 hA2 hA3
          refine this.mono ?_
          rintro e W' ⟨rfl, d', ⟨m, os, rfl⟩, hs', hl'⟩
          exact ⟨rfl, d', hW.on R.hblk m d' os (hs'.trans hkz.symm), by show _ = _; rw [hl', HA4.out]⟩
        have HR2 : Hid _ := R2
        clear hA1 hA2 hA3 R2 hkz
        go_wp2_with (go_at_call 59; refine hc.mono ?_; rintro e w1 ⟨rfl, S2⟩)
        go_loopg [6, 7, 8, 9] 1 (fun g s6 s7 s8 s9 wr => ∃ dq : Array Fl, Hid (SWK eF 2 w blk off dq wr) ∧ ((g = 1 ∧ s6 = .int .i64 20 ∧ dq = dk) ∨ (g = 0 ∧ s6 = .int .i64 40 ∧ Hid (dq.toList = isort d.toList))))
        case atStart => exact ⟨dk, S2, .inl ⟨rfl, rfl, rfl⟩⟩
        case round =>
          obtain ⟨dq, S3, hq⟩ := hrel
          rcases hq with ⟨rfl, rfl, rfl⟩ | ⟨rfl, rfl, HL⟩
          · have hc2 := HR2.out wr S3.out
            go_wp2
            go_loopg [7, 8] 0 (fun g t7 t8 wr2 => t7 = .int .i64 0 ∧ t8 = .int .i64 40 ∧ wr2 = wr)
            case atStart => exact ⟨rfl, rfl, rfl⟩
            case round =>
              obtain ⟨rfl, rfl, rfl⟩ := hrel
              go_wp2_with (go_at_call 60; refine hc2.mono ?_; rintro e w3 ⟨rfl, d3, S4, HL⟩)
              go_roundg 0
              case measure => omega
              case rel => exact ⟨d3, S4, .inr ⟨rfl, rfl, HL⟩⟩
          · go_wp2
            go_end0
            exact ⟨rfl, _, S3.out, HR.out _ HL.out⟩

end Go.Proofs.YtikhfojbekpoeaaDoor
