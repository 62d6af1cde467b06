/-
  The document's own answer: all paths of several lists.
-/
import Derived.Test.YtndblaemladppaaFRefR
import Derived.Test.YtndblaemladppaaFPaths
namespace Go.Proofs.Ytndblaemladppaa
open Go.RowKit Go.Shelf Go.SeqLib Go.DiffLib Go.TreeLib Go.BigFrame
attribute [local go_sem] Oper.semAt_some

set_option maxRecDepth 100000 in
set_option maxHeartbeats 2000000 in
theorem refPaths_in (tv : Value) (ps : List (Value × List Fl)) (w : World) (hs : SlV w tv (ps.map (·.1))) (hi : ∀ q ∈ ps, SlF w q.1 q.2) (hlen : (toldP ps ps.length).length ≤ 1000) :
    CallsIn Fence.wide 0 Try.prog 22 #[tv] w fun e w' => ∃ v', e = .returned v' ∧ OwnT w' w.heap.size v' (paths (ps.map (·.2))) ∧ Chg No w w' := by
  have hs0 := hs
  obtain ⟨p, cap, rfl, hcap, hmax, _⟩ := hs0
  rw [List.length_map] at hcap hs ⊢
  have hml : ps.length ≤ 9223372036854775807 := by unfold maxLen at hmax; omega
  refine callsIn_of_wp Try.func22 rfl trivial ?_
  simp only [Try.ntmps22, List.size_toArray, List.length_cons, List.length_nil, Nat.reduceAdd, Nat.reduceSub, Array.replicate_succ, Array.replicate_zero, List.push_toArray, List.append_toArray, List.nil_append, List.cons_append]
  obtain ⟨n, HN⟩ : ∃ n, Hid (ps.length = n) := ⟨_, rfl⟩
  rw [HN.out] at hs hml ⊢
  gi_wp2
  gi_loopw [4, 3] (fun i o wr => ∃ k : Nat, k ≤ n ∧ i = .int .i64 (k : Int) ∧ OwnT wr w.heap.size o (toldP ps k) ∧ Chg No w wr) (fun i _ _ => n - (intOf i).toNat)
  case atStart => exact ⟨0, Nat.zero_le _, rfl, OwnT.nil _ _, Chg.refl _ _⟩
  case round =>
    obtain ⟨i, hin, rfl, ho, c⟩ := hrel
    by_cases hlt : i < n
    · have hlt' : (i : Int) < (n : Int) := by omega
      have hil : i < ps.length := by rw [HN.out]; exact hlt
      have HT : Hid (toldP ps (i + 1) = toldP ps i ++ ps[i].2.map (·.1)) := toldP_succ hil
      have hle := toldP_le ps (i + 1)
      rw [HT.out, List.length_append, List.length_map] at hle
      have hq := hi _ (List.getElem_mem hil)
      have hg : ps[i]? = some ps[i] := List.getElem?_eq_getElem hil
      generalize ps[i] = q at *
      obtain ⟨qv, ql⟩ := q
      dsimp only at hq hle HT
      obtain ⟨pq, cq, rfl, _, _⟩ := hq.slice
      obtain ⟨m, HM⟩ : ∃ m, Hid (ql.length = m) := ⟨_, rfl⟩
      have hq' : SlF w (.slice pq m cq) ql := by rw [← HM.out]; exact hq
      have hg' : ps[i]? = some (.slice pq m cq, ql) := by rw [← HM.out]; exact hg
      have hle' : (toldP ps i).length + m ≤ 1000 := by rw [← HM.out]; exact Nat.le_trans hle hlen
      clear hq hg hle
      gi_wp2
      gi_loopw [5, 3] (fun t o wr' => ∃ k : Nat, k ≤ m ∧ t = .int .i64 (k : Int) ∧ OwnT wr' w.heap.size o (toldP ps i ++ (ql.take k).map (·.1)) ∧ Chg No w wr') (fun t _ _ => m - (intOf t).toNat)
      case atStart => exact ⟨0, Nat.zero_le _, rfl, by simpa using ho, c⟩
      case round =>
        obtain ⟨k, hk, rfl, ho2, c2⟩ := hrel
        have hs2 := hs.no c2
        obtain ⟨p2, cap2, e2, _, _, hc2⟩ := hs2
        rw [List.length_map, HN.out] at e2
        cases e2
        obtain ⟨bb, off, rfl, hcw⟩ := hc2 i (.slice pq m cq) (by rw [List.getElem?_map, hg']; rfl)
        clear hc2
        by_cases hlt2 : k < m
        · have hlt2' : (k : Int) < (m : Int) := by omega
          have hkl : k < ql.length := by rw [HM.out]; exact hlt2
          obtain ⟨x, hx⟩ : ∃ x, ql[k]? = some x := ⟨_, List.getElem?_eq_getElem hkl⟩
          obtain ⟨b1, o1, rfl, hc1, _⟩ := SlF.at (hq'.no c2) k x hx
          have HS : Hid (toldP ps i ++ (ql.take (k + 1)).map (·.1) = (toldP ps i ++ (ql.take k).map (·.1)) ++ [x.1]) := by
            show _ = _
            rw [List.take_add_one, hx]
            simp
          have hal : (toldP ps i ++ (ql.take k).map (·.1)).length ≤ 1000 := by rw [List.length_append, List.length_map, List.length_take]; omega
          generalize toldP ps i ++ (ql.take k).map (·.1) = acc at *
          have hsl := SlT.one wr x.1
          have hsz := c2.size
          gi_wp2_with (gi_at_builtin; refine wpListIn_append_sv _ rfl _ _ rfl w.heap.size _ acc.length (acc.map Value.string) rfl (World.ownsRow.alloc ho2 _) (some ⟨wr.heap.size, 0, none⟩) 1 1 [x.1] rfl hsl (by omega) (by simp; omega) ?_; intro v' w1 hown' hgrow hat; have c3 : Chg No w w1 := ((c2.alloc _).grown hgrow (fun k e => .inr (World.ownsRow.lt ho2 k e).1)))
          go_roundw
          case rel =>
            refine ⟨k + 1, hlt2, by go_num, ?_, c3⟩
            rw [HS.out]
            show w1.ownsRow _ _ _ _ (acc ++ [x.1]).length ((acc ++ [x.1]).map Value.string)
            rw [List.map_append, List.length_append]
            exact hown'
          case measure => simp [intOf]; omega
        · have hlt2' : ¬ (k : Int) < (m : Int) := by omega
          have hkm : ql.take k = ql := List.take_of_length_le (by rw [HM.out]; omega)
          rw [hkm] at ho2
          gi_wp2
          go_roundw
          case rel => exact ⟨i + 1, hlt, by go_num, by rw [HT.out]; exact ho2, c2⟩
          case measure => simp [intOf]; omega
    · have hlt' : ¬ (i : Int) < (n : Int) := by omega
      have hin' : i = ps.length := by rw [HN.out]; omega
      rw [hin'] at ho
      have R1 := refRise_in _ (toldP ps ps.length) hlen wr (OwnT.sl ho)
      have hpp : rise (toldP ps ps.length) = paths (ps.map (·.2)) := by
        unfold paths toldP
        rw [List.take_length, List.flatMap_map]
      rw [hpp] at R1
      gi_wp2_with fail
      refine ⟨trivial, rfl, R1.mono ?_⟩
      rintro e w2 ⟨v2, rfl, r2, c2⟩
      have cc := Chg.seq c c2
      have rr := OwnT.base r2 c.size
      gi_wp2
      go_ret
      exact ⟨_, rfl, rr, cc⟩

end Go.Proofs.Ytndblaemladppaa
