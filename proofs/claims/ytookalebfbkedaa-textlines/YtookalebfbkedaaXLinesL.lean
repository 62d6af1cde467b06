/-
  Five lines of letters, two of which are changed: what the changes come to.
-/
import Derived.Test.YtookalebfbkedaaXLib
namespace Go.TextLib
open Go Go.LineLib Go.DiffLib

/-- The letter of a number. -/
def letter (i : Nat) : UInt8 := UInt8.ofNat (65 + i)
theorem far_all : ∀ i j : Fin 26, (good [97, letter i, 99, 100, 101] = true ∧ good [97, 98, 99, letter j, 101] = true) ∧
    (¬ [97, letter i, 99, 100, 101] = [97, 98, 99, letter j, 101] ∧ ¬ [97, 98, 99, letter j, 101] = [(97 : UInt8), 98, 99, 100, 101] ∧ ¬ [97, letter i, 99, 100, 101] = [(97 : UInt8), 98, 99, 100, 101]) ∧
    mrg [97, 98, 99, 100, 101] [97, letter i, 99, 100, 101] [97, 98, 99, letter j, 101] = some [97, letter i, 99, letter j, 101] := by decide +kernel
theorem near_all : ∀ i j : Fin 26, (good [97, letter i, 99, 100, 101] = true ∧ good [97, 98, letter j, 100, 101] = true) ∧
    (¬ [97, letter i, 99, 100, 101] = [97, 98, letter j, 100, 101] ∧ ¬ [97, 98, letter j, 100, 101] = [(97 : UInt8), 98, 99, 100, 101] ∧ ¬ [97, letter i, 99, 100, 101] = [(97 : UInt8), 98, 99, 100, 101]) ∧
    mrg [97, 98, 99, 100, 101] [97, letter i, 99, 100, 101] [97, 98, letter j, 100, 101] = none := by decide +kernel

theorem tm_far {i j : Nat} (hi : i < 26) (hj : j < 26) : tm (catB ([97, 98, 99, 100, 101].map ln)) (catB ([97, letter i, 99, 100, 101].map ln)) (catB ([97, 98, 99, letter j, 101].map ln)) = some (catB ([97, letter i, 99, letter j, 101].map ln)) := by
  obtain ⟨⟨g1, g2⟩, ⟨n1, n2, n3⟩, hm⟩ := far_all ⟨i, hi⟩ ⟨j, hj⟩
  have h := (tm_letters [97, 98, 99, 100, 101] _ _ (by decide) g1 g2 n1 n2 n3).1
  rw [hm] at h
  rw [h]
  show fit _ = _
  unfold fit
  rw [if_neg (by rw [letters_size]; show ¬ 400 < 2 * 5; omega)]
theorem tm_near {i j : Nat} (hi : i < 26) (hj : j < 26) : tm (catB ([97, 98, 99, 100, 101].map ln)) (catB ([97, letter i, 99, 100, 101].map ln)) (catB ([97, 98, letter j, 100, 101].map ln)) = none := by
  obtain ⟨⟨g1, g2⟩, ⟨n1, n2, n3⟩, hm⟩ := near_all ⟨i, hi⟩ ⟨j, hj⟩
  have h := (tm_letters [97, 98, 99, 100, 101] _ _ (by decide) g1 g2 n1 n2 n3).1
  rw [hm] at h
  exact h

theorem catB_add {l : List ByteArray} {k : Nat} {x : ByteArray} (h : l[k]? = some x) : catB (l.take k) ++ x = catB (l.take (k + 1)) := by
  rw [List.take_add_one, h]
  unfold catB
  apply ByteArray.ext
  simp [T, L]
end Go.TextLib
