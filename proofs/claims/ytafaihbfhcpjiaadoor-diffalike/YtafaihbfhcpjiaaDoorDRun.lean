/-
  diff's own run: how many pairs stand one behind the other.
-/
import Derived.Test.YtafaihbfhcpjiaaDoorDWide
namespace Go.Proofs.YtafaihbfhcpjiaaDoor
open Go.RowKit Go.Shelf Go.SeqLib Go.DiffLib
attribute [local go_sem] Oper.semAt_some

set_option maxHeartbeats 1000000 in
theorem run_in (p : Option Addr) (n cap : Nat) (ps : List (Nat × Nat)) (i j : Nat) (w : World) (h : SlP w (.slice p n cap) ps) (hl : ps.length = n) (hn : n ≤ 1000) (hi : i ≤ 1000) (hj : j ≤ 1000) :
    CallsIn Fence.wide 0 Tryd.prog 20 #[.slice p n cap, .int .i64 (i : Int), .int .i64 (j : Int)] w fun e w' => e = .returned (.int .i64 (rn ps i j : Int)) ∧ w' = w := by
  have hgd := guard_pair
  have HL : Hid (ps.length = n) := hl
  clear hl
  refine callsIn_of_wp Tryd.func20 rfl trivial ?_
  simp only [Tryd.ntmps20, List.size_toArray, List.length_cons, List.length_nil, Nat.reduceAdd, Nat.reduceSub, Array.replicate_succ, Array.replicate_zero, List.push_toArray, List.append_toArray, List.nil_append, List.cons_append]
  gi_wp2
  gi_loopw [7] (fun t wr => ∃ k : Nat, k ≤ n ∧ t = .int .i64 (k : Int) ∧ Hid (rn ps i j = k + rn (ps.drop k) (i + k) (j + k)) ∧ wr = w) (fun t _ => n - (intOf t).toNat)
  case atStart => exact ⟨0, Nat.zero_le _, rfl, by show _ = _; simp, rfl⟩
  case round =>
    obtain ⟨k, hk, rfl, HK, rfl⟩ := hrel
    by_cases hlt : k < n
    · have hlt' : (k : Int) < (n : Int) := by omega
      have hkp : k < ps.length := by rw [HL.out]; exact hlt
      obtain ⟨x, hx⟩ : ∃ x, ps[k]? = some x := ⟨_, List.getElem?_eq_getElem hkp⟩
      obtain ⟨b, off, rfl, c1, c2⟩ := h.at k x hx
      have hxk : ps[k] = x := by rw [List.getElem?_eq_getElem hkp] at hx; exact Option.some.inj hx
      have hat := rn_at ps i j k hkp
      rw [hxk] at hat
      obtain ⟨x1, x2⟩ := x
      by_cases he : (x1, x2) = (i + k, j + k)
      · rw [if_pos he] at hat
        have HK2 : Hid (rn ps i j = (k + 1) + rn (ps.drop (k + 1)) (i + (k + 1)) (j + (k + 1))) := by
          show _ = _
          rw [HK.out, hat]; omega
        rw [Prod.mk.injEq] at he
        have h1 : ((x1 : Int) == (i : Int) + (k : Int)) = true := by rw [beq_iff_eq]; omega
        have h2 : ((x2 : Int) == (j : Int) + (k : Int)) = true := by rw [beq_iff_eq]; omega
        have heq : ∀ w, (binOp .eql 45 (.agg #[.int .i64 (x1 : Int), .int .i64 (x2 : Int)]) (.agg #[.int .i64 ((i : Int) + (k : Int)), .int .i64 ((j : Int) + (k : Int))])).run Tryd.prog w = .ok (.bool true) w := fun w => by rw [run_eql_pair, h1, h2]; rfl
        clear he hat hxk hx h1 h2
        gi_wp2
        go_roundw
        case rel => exact ⟨k + 1, hlt, by go_num, HK2, trivial⟩
        case measure => simp [intOf]; omega
      · rw [if_neg he] at hat
        have HK2 : Hid ((k : Int) = (rn ps i j : Int)) := by
          show _ = _
          rw [HK.out, hat]; simp
        have h1 : ((x1 : Int) == (i : Int) + (k : Int) && (x2 : Int) == (j : Int) + (k : Int)) = false := by
          rw [Bool.and_eq_false_iff, beq_eq_false_iff_ne, beq_eq_false_iff_ne]
          by_cases e : x1 = i + k
          · refine .inr (fun e2 => he ?_)
            rw [e, show x2 = j + k by omega]
          · exact .inl (fun e2 => e (by omega))
        have heq : ∀ w, (binOp .eql 45 (.agg #[.int .i64 (x1 : Int), .int .i64 (x2 : Int)]) (.agg #[.int .i64 ((i : Int) + (k : Int)), .int .i64 ((j : Int) + (k : Int))])).run Tryd.prog w = .ok (.bool false) w := fun w => by rw [run_eql_pair, h1]
        clear he hat hxk hx h1
        gi_wp2
        go_ret
        exact ⟨by rw [← HK2.out]; rfl, rfl⟩
    · obtain rfl : k = n := by omega
      have hlt' : ¬ (k : Int) < (k : Int) := by omega
      have HK2 : Hid ((k : Int) = (rn ps i j : Int)) := by
        show _ = _
        rw [HK.out, List.drop_eq_nil_of_le (by rw [HL.out]; exact Nat.le_refl _)]
        simp [rn]
      gi_wp2
      go_ret
      exact ⟨by rw [← HK2.out]; rfl, rfl⟩

end Go.Proofs.YtafaihbfhcpjiaaDoor
