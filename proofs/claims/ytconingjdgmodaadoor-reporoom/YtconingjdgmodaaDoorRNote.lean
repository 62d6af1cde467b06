/-
  The statements' own note: a number's three digits.
-/
import Derived.Test.YtconingjdgmodaaDoorLRepo
import Derived.Test.YtconingjdgmodaaDoorGLoud
import Derived.Sort.CutIn
import Derived.Sort.QuietThIn
import Derived.Shelf.RegionOpen
namespace Go.Proofs.YtconingjdgmodaaDoor
open Go.RowKit Go.Shelf Go.SeqLib Go.DiffLib Go.TreeLib Go.RepoLib Go.BigFrame
attribute [local go_sem] Oper.semAt_some

theorem digit_slice (q : Nat) (hq : q < 10) (w : World) : (Instr.sliceAt 9 (.string ⟨#[48, 49, 50, 51, 52, 53, 54, 55, 56, 57]⟩) (some (.int .i64 (q : Int))) (some (.int .i64 ((q : Int) + 1))) none).run Tryd.prog w = .ok (.string ⟨#[(48 + q).toUInt8]⟩) w := by
  rw [run_sliceAt_string _ _ _ _ _ _ Tryd.underlying9, run_slice_string _ _ _ _ _ _ _ Tryd.underlying9 (by omega) (by omega) (by show (q : Int) + 1 ≤ (10 : Nat); omega)]
  have : q = 0 ∨ q = 1 ∨ q = 2 ∨ q = 3 ∨ q = 4 ∨ q = 5 ∨ q = 6 ∨ q = 7 ∨ q = 8 ∨ q = 9 := by omega
  rcases this with rfl | rfl | rfl | rfl | rfl | rfl | rfl | rfl | rfl | rfl <;> rfl

set_option maxRecDepth 100000 in
set_option maxHeartbeats 4000000 in
theorem note_in (n : Nat) (hn : n < 1000) (w : World) : CallsIn Fence.wide 0 Tryd.prog 24 #[iv n] w fun e w' => e = .returned (.string (noteB n)) ∧ Chg No w w' := by
  have hmix : Tryd.prog.follows .mixedOrders = true := by kernel_rfl
  have HR : Hid (noteB n = ⟨#[(48 + n / 100).toUInt8, (48 + n / 10 % 10).toUInt8, (48 + n % 10).toUInt8]⟩) := rfl
  have h1 : n / 100 < 10 := by omega
  have h2 : n / 10 % 10 < 10 := by omega
  have h3 : n % 10 < 10 := by omega
  obtain ⟨z, hz⟩ : ∃ z : Int, ((n / 10 : Nat) : Int) = z := ⟨_, rfl⟩
  have d1 : Int.tdiv (n : Int) 100 = ((n / 100 : Nat) : Int) := rfl
  have d2 : Int.tdiv (n : Int) 10 = z := hz
  have m2 : Int.tmod z 10 = ((n / 10 % 10 : Nat) : Int) := by rw [← hz]; rfl
  have m3 : Int.tmod (n : Int) 10 = ((n % 10 : Nat) : Int) := rfl
  have s1 := digit_slice (n / 100) h1
  have s2 := digit_slice (n / 10 % 10) h2
  have s3 := digit_slice (n % 10) h3
  rw [HR.out]
  clear HR
  have hzr : 0 ≤ z ∧ z ≤ 100 := by omega
  generalize n / 100 = a at d1 s1 h1 ⊢
  generalize n / 10 % 10 = b at m2 s2 h2 ⊢
  generalize n % 10 = c at m3 s3 h3 ⊢
  clear hz
  refine callsIn_of_wp Tryd.func24 rfl trivial ?_
  simp only [Tryd.ntmps24, List.size_toArray, List.length_cons, List.length_nil, Nat.reduceAdd, Nat.reduceSub, Array.replicate_succ, Array.replicate_zero, List.push_toArray, List.append_toArray, List.nil_append, List.cons_append]
  gi_wp2
  refine wpIn_region_quiet_lit rfl hmix (by kernel_rfl) ?_
  repeat (gi_big_quiet_step (fail))
  refine wpQuietIn_nil ?_
  rintro w' ⟨j, rfl⟩
  gi_wp2
  go_ret
  refine ⟨?_, drewNC (Chg.refl _ w) _⟩
  show Ending.returned (.string (({ data := #[48 + UInt8.ofNat a] } : ByteArray) ++ { data := #[48 + UInt8.ofNat b] } ++ { data := #[48 + UInt8.ofNat c] })) = _
  have e : (({ data := #[48 + UInt8.ofNat a] } : ByteArray) ++ { data := #[48 + UInt8.ofNat b] } ++ { data := #[48 + UInt8.ofNat c] }) = ⟨#[(48 + a).toUInt8, (48 + b).toUInt8, (48 + c).toUInt8]⟩ := by
    apply ByteArray.ext
    simp [ByteArray.data_append]
  rw [e]

end Go.Proofs.YtconingjdgmodaaDoor
