/-
  slices.Sort and slices.Compact at texts, over a row that is owned.
-/
import Derived.Test.YtndblaemladppaaShelf
import Derived.Test.YtndblaemladppaaFRow
import Derived.Test.YtndblaemladppaaRPaths
namespace Go.Proofs.Ytndblaemladppaa
open Go.RowKit Go.Shelf Go.SeqLib Go.DiffLib Go.TreeLib Go.Sort

theorem encStr_bs (x : ByteArray) : encStr (Bs x) = .string x := by show Value.string ⟨x.data.toList.toArray⟩ = _; rw [Array.toArray_toList]
theorem map_encStr (xs : List ByteArray) : (xs.map Bs).map encStr = xs.map Value.string := by
  rw [List.map_map]
  exact List.map_congr_left (fun x _ => encStr_bs x)

/-- A row that is owned, cut short. -/
theorem row_cut {w : World} {base : Nat} {e : TypeId} {g n cap : Nat} {xs : List Value} (h : w.ownsRow base e 1 (.slice (some ⟨g, 0, none⟩) n cap) n xs) (m : Nat) (hm : m ≤ n) : w.ownsRow base e 1 (.slice (some ⟨g, 0, none⟩) m cap) m (xs.take m) := by
  obtain ⟨h1, h2⟩ := h
  rcases h2 with ⟨h2, _⟩ | ⟨g', cap', cur, hv, hb, hg, hn, hx, hs, ht⟩
  · cases h2
  · cases hv
    refine ⟨by rw [List.length_take, h1]; omega, .inr ⟨g, cap, cur, rfl, hb, hg, Nat.le_trans hm hn, hx, hs, ?_⟩⟩
    rw [← ht, List.take_take, Nat.mul_one, Nat.mul_one, Nat.min_eq_left hm]

theorem row_some {w : World} {base : Nat} {e : TypeId} {v : Value} {n : Nat} {xs : List Value} (h : w.ownsRow base e 1 v n xs) (hn : n ≠ 0) : ∃ g cap, v = .slice (some ⟨g, 0, none⟩) n cap := by
  rcases h.2 with ⟨_, h0⟩ | ⟨g, cap, cur, rfl, _⟩
  · exact absurd h0 hn
  · exact ⟨g, cap, rfl⟩

theorem sortS_in (v : Value) (xs : List ByteArray) (base : Nat) (hl : xs.length ≤ 1000000) (w : World) (h : w.ownsRow base 9 1 v xs.length (xs.map Value.string)) : CallsIn Fence.wide 0 Try.prog 27 #[v] w fun e w' =>
    e = .returned (.tuple #[]) ∧ w'.ownsRow base 9 1 v xs.length (((xs.map Bs).mergeSort fun x y => decide (x ≤ y)).map encStr) ∧ Chg (fun k => v.ownBlock = some k) w w' := by
  by_cases h0 : xs.length = 0
  · obtain ⟨p, cap, rfl⟩ := row_slice h
    obtain rfl := List.length_eq_zero_iff.1 h0
    refine (callsIn_wide (n := 0)).2 ((Any.slices_Sort_string_none Try.laysSort p cap w).mono ?_)
    rintro e w' ⟨rfl, rfl⟩
    exact ⟨rfl, by simpa using h, Chg.refl _ _⟩
  · obtain ⟨g, cap, rfl⟩ := row_some h h0
    have hh := row_holds h encStr (xs.map Bs).toArray (map_encStr xs)
    have hc := Any.slices_Sort_string Try.laysSort g 0 cap (xs.map Bs) w hh.1 hh.2.1 (by rw [List.length_map]; omega)
    rw [List.length_map] at hc
    refine (callsIn_wide (n := 0)).2 (hc.mono ?_)
    rintro e w' ⟨rfl, m, os, rfl⟩
    have hs := row_sorted h encStr ((xs.map Bs).mergeSort fun x y => decide (x ≤ y)).toArray (by rw [List.size_toArray, List.length_mergeSort, List.length_map, Nat.mul_one]) m os
    refine ⟨rfl, hs.1, hs.2.mono ?_⟩
    rintro k rfl
    rfl

theorem compactS_in (v : Value) (zs : List (List UInt8)) (base : Nat) (hl : zs.length ≤ 1000000) (w : World) (h : w.ownsRow base 9 1 v zs.length (zs.map encStr)) : CallsIn Fence.wide 0 Try.prog 28 #[v] w fun e w' =>
    ∃ v', e = .returned v' ∧ w'.ownsRow base 9 1 v' (Lib.compact zs).length ((Lib.compact zs).map encStr) ∧ v'.ownBlock = v.ownBlock ∧ Chg (fun k => v.ownBlock = some k) w w' := by
  by_cases h0 : zs.length = 0
  · obtain ⟨p, cap, rfl⟩ := row_slice h
    obtain rfl := List.length_eq_zero_iff.1 h0
    refine (callsIn_wide (n := 0)).2 ((Any.slices_Compact_string_empty Try.laysCompact p cap w).mono ?_)
    rintro e w' ⟨rfl, rfl⟩
    exact ⟨_, rfl, h, rfl, Chg.refl _ _⟩
  · obtain ⟨g, cap, rfl⟩ := row_some h h0
    have hh := row_holds h encStr zs.toArray rfl
    have hle : (Lib.compact zs).length ≤ zs.length := by
      unfold Lib.compact Lib.compactUpTo
      rw [List.length_map]
      refine Nat.le_trans (List.length_filter_le _ _) ?_
      rw [List.length_range]
      exact Nat.le_refl _
    have hc := Any.slices_Compact_string Try.laysCompact g 0 cap zs w hh.1 (by omega) hh.2.2
    refine (callsIn_wide (n := 0)).2 (hc.mono ?_)
    rintro e w' ⟨rfl, m, rfl⟩
    have hs := row_sorted h encStr (Lib.compact zs ++ List.replicate (zs.length - (Lib.compact zs).length) []).toArray (by simp; omega) m #[]
    have hg : ∀ W : World, grow W #[] = W := fun W => by simp [grow]
    rw [hg] at hs
    refine ⟨_, rfl, ?_, rfl, hs.2.mono ?_⟩
    · have := row_cut hs.1 (Lib.compact zs).length hle
      rw [List.map_append, List.take_left' (by rw [List.length_map])] at this
      exact this
    · rintro k rfl
      rfl

end Go.Proofs.Ytndblaemladppaa
