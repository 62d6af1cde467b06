/-
  text's byLines: whether all of some texts may be merged by lines.
-/
import Derived.Test.YtookalebfbkedaaLineC
import Derived.Test.YtookalebfbkedaaXLib
namespace Go.Proofs.Ytookalebfbkedaa
open Go.RowKit Go.Shelf Go.SeqLib Go.LineLib Go.TextLib
attribute [local go_sem] Oper.semAt_some

set_option maxRecDepth 100000 in
set_option maxHeartbeats 1000000 in
theorem byLines_in (v : Value) (xs : List ByteArray) (w : World) (hv : SlV w v (xs.map Value.string)) (hn : xs.length ≤ 1000) (hs : ∀ x ∈ xs, x.size ≤ 100000) :
    CallsIn Fence.wide 0 Try.prog 13 #[v] w fun e w' => e = .returned (.bool (xs.all (fun s => !odd s))) ∧ Chg No w w' := by
  obtain ⟨p, c1, rfl, hp1, hp2, hpc⟩ := hv
  rw [List.length_map] at hp1 ⊢
  obtain ⟨n, HN⟩ : ∃ n, Hid (xs.length = n) := ⟨_, rfl⟩
  rw [HN.out] at hp1 hn ⊢
  obtain ⟨tt, HT⟩ : ∃ t, Hid (xs.all (fun s => !odd s) = t) := ⟨_, rfl⟩
  rw [HT.out]
  refine callsIn_of_wp Try.func13 rfl trivial ?_
  simp only [Try.ntmps13, List.size_toArray, List.length_cons, List.length_nil, Nat.reduceAdd, Nat.reduceSub, Array.replicate_succ, Array.replicate_zero, List.push_toArray, List.append_toArray, List.nil_append, List.cons_append]
  gi_wp2
  gi_loopw [7] (fun i wr => ∃ k : Nat, k ≤ n ∧ i = .int .i64 (k : Int) ∧ Hid ((xs.drop k).all (fun s => !odd s) = tt) ∧ Chg No w wr) (fun i _ => n - (intOf i).toNat)
  case atStart => exact ⟨0, Nat.zero_le _, rfl, HT, Chg.refl _ _⟩
  case round =>
    obtain ⟨k, hk, rfl, HK, c⟩ := hrel
    by_cases hlt : k < n
    · have hkz : k < xs.length := by rw [HN.out]; exact hlt
      have hlt' : (k : Int) < (n : Int) := by omega
      obtain ⟨b1, o1, rfl, hc1⟩ := hpc k (.string xs[k]) (by simp [hkz])
      have hw1 : wr.cell? ⟨b1, o1 + k, none⟩ = some (.string xs[k]) := (World.cell?_of_block (a := ⟨b1, o1 + k, none⟩) (c.block b1 (World.block_lt_of_cell? w _ hc1) (fun h => h))).trans hc1
      have hsz : xs[k].size ≤ 1000000 := Nat.le_trans (hs xs[k] (List.getElem_mem hkz)) (by decide)
      have HD : Hid ((!odd xs[k] && (xs.drop (k + 1)).all (fun s => !odd s)) = tt) := by
        have := HK.out
        rw [List.drop_eq_getElem_cons hkz, List.all_cons] at this
        exact this
      clear hc1 hpc
      generalize xs[k] = x at *
      have hb := binary_in x wr
      have hf := few_in x hsz wr
      unfold odd at HD
      generalize decide ((0 : UInt8) ∈ L x) = bz at *
      generalize decide ((linesB x).length ≤ 60) = bf at *
      gi_wp2_with fail
      refine ⟨trivial, rfl, hb.mono ?_⟩
      rintro e w1 ⟨rfl, rfl⟩
      clear hb
      cases bz with
      | true =>
        obtain rfl : tt = false := HD.out.symm
        clear hf
        gi_wp2_with fail
        refine ⟨trivial, ?_⟩
        rename_i hKK
        apply hKK
        gi_wp2
        go_ret
        exact ⟨rfl, c⟩
      | false =>
        gi_wp2_with fail
        refine ⟨trivial, rfl, hf.mono ?_⟩
        rintro e w2 ⟨rfl, c2⟩
        clear hf
        cases bf with
        | false =>
          obtain rfl : tt = false := HD.out.symm
          gi_wp2
          go_ret
          exact ⟨rfl, Chg.seq c c2⟩
        | true =>
          have HK2 : Hid ((xs.drop (k + 1)).all (fun s => !odd s) = tt) := HD.out
          gi_wp2
          go_roundw
          case rel => exact ⟨k + 1, hlt, by go_num, HK2, Chg.seq c c2⟩
          case measure => simp [intOf]; omega
    · obtain rfl : k = n := by omega
      have hlt' : ¬ (k : Int) < (k : Int) := by omega
      obtain rfl : tt = true := by
        have := HK.out
        rw [List.drop_eq_nil_of_le (by rw [HN.out]; exact Nat.le_refl _)] at this
        exact this.symm
      gi_wp2
      go_ret
      exact ⟨rfl, c⟩

end Go.Proofs.Ytookalebfbkedaa
