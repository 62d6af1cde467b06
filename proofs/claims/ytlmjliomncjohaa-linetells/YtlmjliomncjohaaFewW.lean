/-
  LineFew answers true at every number and bool, and turns nothing that lay.
-/
import Derived.Test.YtlmjliomncjohaaLineA
import Derived.Test.YtlmjliomncjohaaLow
namespace Go.Proofs.Ytlmjliomncjohaa
open Go.RowKit Go.Shelf Go.SeqLib Go.LineLib
attribute [local go_sem] Oper.semAt_some

/-- The text that is made in j rounds. -/
def fewL (k : Nat) (e : Bool) : Nat → List UInt8
  | 0 => []
  | j + 1 => fewL k e j ++ ([120] ++ if e || decide (j + 1 < k) then [10] else [])

theorem fewL_lt (k : Nat) (e : Bool) : ∀ j, j < k → fewL k e j = (List.replicate j [120, 10]).flatten
  | 0, _ => rfl
  | j + 1, h => by
    unfold fewL
    rw [fewL_lt k e j (by omega), if_pos (by simp [h]), List.replicate_succ', List.flatten_append]
    rfl
theorem fewL_lines (k : Nat) (e : Bool) : (linesL (fewL k e k)).length = k := by
  cases k with
  | zero => rfl
  | succ j =>
    unfold fewL
    rw [fewL_lt _ e j (by omega), linesL_many]
    split <;> simp [linesL]
theorem fewL_size (k : Nat) (e : Bool) : ∀ j, (fewL k e j).length ≤ 2 * j
  | 0 => Nat.le_refl _
  | j + 1 => by
    have := fewL_size k e j
    unfold fewL
    split <;> simp <;> omega
theorem fewL_zero (k : Nat) (e : Bool) : ∀ j, (0 : UInt8) ∉ fewL k e j
  | 0 => by simp [fewL]
  | j + 1 => by
    have := fewL_zero k e j
    unfold fewL
    split <;> simp [this]

/-- As a text. -/
def fewB (k : Nat) (e : Bool) (j : Nat) : ByteArray := T (fewL k e j)
theorem fewB_size (k : Nat) (e : Bool) (j : Nat) : (fewB k e j).size ≤ 2 * j := fewL_size k e j
theorem fewB_lines (k : Nat) (e : Bool) : (linesB (fewB k e k)).length = k := by
  unfold linesB fewB; rw [List.length_map]; exact fewL_lines k e
theorem L_append (a b : ByteArray) : L (a ++ b) = L a ++ L b := by
  show (a ++ b).data.toList = _
  rw [ByteArray.data_append, Array.toList_append]
theorem fewB_two (k : Nat) (e : Bool) (j : Nat) (h : e = true ∨ j + 1 < k) : fewB k e j ++ ⟨#[120]⟩ ++ ⟨#[10]⟩ = fewB k e (j + 1) := by
  have : L (fewB k e j ++ ⟨#[120]⟩ ++ ⟨#[10]⟩) = fewL k e (j + 1) := by
    rw [L_append, L_append]
    show fewL k e j ++ [120] ++ [10] = _
    rw [fewL, if_pos (by simpa using h), List.append_assoc]
  exact congrArg T this
theorem fewB_one (k : Nat) (e : Bool) (j : Nat) (h : ¬ (e = true ∨ j + 1 < k)) : fewB k e j ++ ⟨#[120]⟩ = fewB k e (j + 1) := by
  have : L (fewB k e j ++ ⟨#[120]⟩) = fewL k e (j + 1) := by
    rw [L_append]
    show fewL k e j ++ [120] = _
    rw [fewL, if_neg (by simpa using h), List.append_nil]
  exact congrArg T this

set_option maxRecDepth 100000 in
set_option maxHeartbeats 2000000 in
theorem few_law (many : Int) (en : Bool) (w : World) : CallsIn Fence.wide 0 Try.prog 5 #[.int .i64 many, .bool en] w fun e w' => e = .returned (.bool true) ∧ Chg No w w' := by
  refine callsIn_of_wp Try.func5 rfl trivial ?_
  simp only [Try.ntmps5, List.size_toArray, List.length_cons, List.length_nil, Nat.reduceAdd, Nat.reduceSub, Array.replicate_succ, Array.replicate_zero, List.push_toArray, List.append_toArray, List.nil_append, List.cons_append]
  gi_wp2_with fail
  refine ⟨trivial, rfl, (low_in many 80 (by omega) (by omega) _).mono ?_⟩
  rintro e w0 ⟨rfl, rfl⟩
  obtain ⟨hlo1, hlo2⟩ := lowI_range many 80 (by omega) (by omega)
  generalize lowI many 80 = m at *
  obtain ⟨k, rfl⟩ := Int.eq_ofNat_of_zero_le hlo1
  have hk80 : k < 80 := by omega
  clear hlo1 hlo2
  gi_wp2
  gi_loopw [5, 6] (fun s i wr => ∃ j : Nat, j ≤ k ∧ i = .int .i64 (j : Int) ∧ s = .string (fewB k en j) ∧ wr = w0) (fun s i _ => k - (intOf i).toNat)
  case atStart => exact ⟨0, Nat.zero_le _, rfl, rfl, rfl⟩
  case round =>
    obtain ⟨j, hj, rfl, rfl, rfl⟩ := hrel
    by_cases hlt : j < k
    · have H2 : Hid ((en = true ∨ j + 1 < k) → fewB k en j ++ ⟨#[120]⟩ ++ ⟨#[10]⟩ = fewB k en (j + 1)) := fewB_two k en j
      have H1 : Hid (¬ (en = true ∨ j + 1 < k) → fewB k en j ++ ⟨#[120]⟩ = fewB k en (j + 1)) := fewB_one k en j
      have hs := fewB_size k en j
      have HN : Hid (∀ u, u = fewB k en (j + 1) → ∃ j' : Nat, j' ≤ k ∧ Value.int .i64 ((j : Int) + 1) = .int .i64 (j' : Int) ∧ Value.string u = .string (fewB k en j') ∧ True) := fun u hu => ⟨j + 1, hlt, by simp, by rw [hu], trivial⟩
      generalize fewB k en (j + 1) = nx at *
      generalize fewB k en j = cu at *
      by_cases he : en = true
      · subst he
        gi_wp2
        go_roundw
        case rel => exact HN.out _ (H2.out (.inl rfl))
        case measure => simp [intOf]; omega
      · have he' : en = false := by simpa using he
        subst he'
        by_cases hl : j + 1 < k
        · have hl' : (j : Int) + 1 < (k : Int) := by omega
          gi_wp2
          go_roundw
          case rel => exact HN.out _ (H2.out (.inr hl))
          case measure => simp [intOf]; omega
        · have hl' : ¬ (j : Int) + 1 < (k : Int) := by omega
          gi_wp2
          go_roundw
          case rel => exact HN.out _ (H1.out (by simp; omega))
          case measure => simp [intOf]; omega
    · obtain rfl : j = k := by omega
      have hs := fewB_size j en j
      have HL : Hid ((linesB (fewB j en j)).length = j) := fewB_lines j en
      have HZ : Hid ((0 : UInt8) ∉ L (fewB j en j)) := fewL_zero j en j
      generalize fewB j en j = s at *
      gi_wp2_with fail
      refine ⟨trivial, rfl, (few_in s (by omega) _).mono ?_⟩
      rintro e w1 ⟨rfl, c1⟩
      have hE : decide ((linesB s).length ≤ 60) = decide ((j : Int) ≤ 60) := by rw [HL.out]; exact decide_eq_decide.2 (by omega)
      rw [hE]
      clear hE
      gi_wp2_with fail
      refine ⟨trivial, rfl, (split_in s (by omega) _).mono ?_⟩
      rintro e w2 ⟨v2, rfl, r2, c2⟩
      rw [HL.out] at r2
      obtain ⟨p2, cap2, rfl⟩ := row_slice r2
      gi_wp2_with fail
      refine ⟨trivial, rfl, (binary_in s _).mono ?_⟩
      rintro e w3 ⟨rfl, rfl⟩
      rw [decide_eq_false HZ.out]
      gi_wp2_with fail
      refine ⟨trivial, rfl, (binary_in _ _).mono ?_⟩
      rintro e w4 ⟨rfl, rfl⟩
      rw [L_append, decide_eq_true (List.mem_append_right _ (List.mem_singleton.2 rfl))]
      gi_wp2_with fail
      refine ⟨trivial, rfl, (awake_in _).mono ?_⟩
      rintro e w5 ⟨rfl, c5⟩
      gi_wp2
      go_ret
      exact ⟨rfl, Chg.seq (Chg.seq c1 c2) c5⟩

end Go.Proofs.Ytlmjliomncjohaa
