/-
  strconv.Itoa: its contract, where the library's table of powers is laid; no two numbers have one text.
-/
import Derived.Test.YtfpceedjkmkidaaDoorTxt
import Derived.Test.YtfpceedjkmkidaaDoorShelf
import Derived.Lib.ItoaNum
namespace Go.DiffLib
/-- The number that digits tell. -/
def dval (l : List UInt8) : Nat := l.foldl (fun a c => a * 10 + (c.toNat - 48)) 0
theorem dval_snoc (l : List UInt8) (c : UInt8) : dval (l ++ [c]) = dval l * 10 + (c.toNat - 48) := by simp [dval]
theorem digit_toNat {k : Nat} (h : k < 10) : (UInt8.ofNat (48 + k)).toNat = 48 + k := by
  rw [UInt8.toNat_ofNat']
  omega
theorem dval_dec (u : Nat) : dval (Lib.decDigits u) = u := by
  induction u using Nat.strongRecOn with
  | _ u ih =>
    rw [Lib.decDigits]
    by_cases h : u < 10
    · rw [dif_pos h]
      have : dval ([] ++ [UInt8.ofNat (48 + u)]) = u := by
        rw [dval_snoc, digit_toNat h]
        simp [dval]
      exact this
    · rw [dif_neg h, dval_snoc, ih (u / 10) (by omega), digit_toNat (by omega)]
      omega
theorem dec_ge (u : Nat) : ∀ c ∈ Lib.decDigits u, 48 ≤ c.toNat := by
  induction u using Nat.strongRecOn with
  | _ u ih =>
    intro c hc
    rw [Lib.decDigits] at hc
    by_cases h : u < 10
    · rw [dif_pos h, List.mem_singleton] at hc
      rw [hc, digit_toNat h]; omega
    · rw [dif_neg h, List.mem_append, List.mem_singleton] at hc
      rcases hc with hc | hc
      · exact ih (u / 10) (by omega) c hc
      · rw [hc, digit_toNat (by omega)]; omega
theorem dec_inj {u v : Nat} (h : Lib.decDigits u = Lib.decDigits v) : u = v := by rw [← dval_dec u, ← dval_dec v, h]
theorem dec_sign {u : Nat} {l : List UInt8} (h : Lib.decDigits u = 45 :: l) : False := by
  have := dec_ge u 45 (by rw [h]; exact List.mem_cons_self)
  simp at this
theorem itoa_inj {x y : Int} (h : Lib.itoa x = Lib.itoa y) : x = y := by
  unfold Lib.itoa at h
  by_cases hx : x < 0
  · rw [if_pos hx] at h
    by_cases hy : y < 0
    · rw [if_pos hy] at h
      have := dec_inj (List.cons.inj h).2
      omega
    · rw [if_neg hy] at h
      exact (dec_sign h.symm).elim
  · rw [if_neg hx] at h
    by_cases hy : y < 0
    · rw [if_pos hy] at h
      exact (dec_sign h).elim
    · rw [if_neg hy] at h
      have := dec_inj h
      omega
end Go.DiffLib

namespace Go.Proofs.YtfpceedjkmkidaaDoor
open Go.RowKit Go.Shelf Go.SeqLib

/-- A number that an int holds. -/
def okI (x : Int) : Prop := -9223372036854775808 ≤ x ∧ x ≤ 9223372036854775807
/-- Its text. -/
def itoaS (x : Int) : ByteArray := ⟨(Lib.itoa x).toArray⟩
theorem itoaS_inj (x y : Int) (h : itoaS x = itoaS y) : x = y := by
  unfold itoaS at h
  have h1 := congrArg (fun b : ByteArray => b.data.toList) h
  exact Go.DiffLib.itoa_inj (by simpa using h1)
/-- The library's table of powers is laid. -/
def TabAt (w : World) : Prop := Lib.TabIs Tryd.prog w "internal/strconv.uint64pow10" .u64 Lib.pow10Tab
theorem tab_global : Tryd.prog.globalNamed "internal/strconv.uint64pow10" = some 0 := by kernel_rfl
theorem TabAt.obj {w : World} (h : TabAt w) : ∃ t f, w.heap[0]? = some (.cells (Lib.pow10Tab.map fun z => Value.int .u64 z).toArray t f) := by
  unfold TabAt Lib.TabIs World.var? at h
  rw [tab_global] at h
  simp only [Option.bind_some] at h
  cases ho : w.heap[0]? with
  | none => rw [ho] at h; cases h
  | some o =>
    rw [ho] at h
    cases o with
    | cells cs t f => exact ⟨t, f, by simp at h; rw [h]⟩
    | _ => cases h
theorem TabAt.of {w : World} {t : TypeId} {f : Nat × Nat} (h : w.heap[0]? = some (.cells (Lib.pow10Tab.map fun z => Value.int .u64 z).toArray t f)) : TabAt w := by
  unfold TabAt Lib.TabIs World.var?
  rw [tab_global]
  simp only [Option.bind_some, h]
theorem TabAt.no {w w' : World} (h : TabAt w) (c : Chg No w w') : TabAt w' := by
  obtain ⟨t, f, ho⟩ := h.obj
  exact TabAt.of (c.same ho (fun h => h))
theorem itoa_in (x : Int) (hx : okI x) (w : World) (ht : TabAt w) : CallsIn Fence.wide 0 Tryd.prog 16 #[.int .i64 x] w fun e w' => e = .returned (.string (itoaS x)) ∧ Chg No w w' := by
  refine (callsIn_wide.2 (Any.strconv_Itoa Tryd.laysItoa x hx.1 hx.2 w ht)).mono ?_
  rintro e w1 ⟨rfl, k, os, hw⟩
  refine ⟨rfl, ?_⟩
  rw [hw]
  exact ⟨rfl, rfl, rfl, by simp [Sort.size_grow, World.drewN], fun k hk _ => Sort.heap_grow_old _ _ hk⟩

end Go.Proofs.YtfpceedjkmkidaaDoor
