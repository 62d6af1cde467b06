/-
  patch's Apply: what comes of a list by changes, one behind the other, and whether each fits.
-/
import Derived.Test.YtndblaemladppaaCAt
import Derived.Test.YtndblaemladppaaQuiet
import Derived.Sort.CutIn
import Derived.Sort.QuietThIn
import Derived.Shelf.RegionOpen
namespace Go.TreeLib
/-- What Apply answers, the list and whether. -/
def appL (t : List Fl) (cs : List Chn) : List Fl := (appP t cs).getD []
def appB (t : List Fl) (cs : List Chn) : Bool := (appP t cs).isSome
end Go.TreeLib
namespace Go.Proofs.Ytndblaemladppaa
open Go.RowKit Go.Shelf Go.SeqLib Go.DiffLib Go.TreeLib Go.BigFrame
attribute [local go_sem] Oper.semAt_some

set_option maxRecDepth 100000 in
set_option maxHeartbeats 4000000 in
theorem apply_in (v u : Value) (zs : List Fl) (cs : List Chn) (hlen : zs.length + cs.length ≤ 50000) (w : World) (hv : SlF w v zs) (hu : SlC w u cs) : CallsIn Fence.wide 0 Try.prog 7 #[v, u] w fun e w' =>
    ∃ v', e = .returned (.tuple #[v', .bool (appB zs cs)]) ∧ OwnF w' w.heap.size v' (appL zs cs) ∧ Chg No w w' := by
  have hmix : Try.prog.follows .mixedOrders = true := by kernel_rfl
  have hgd := guard_at
  obtain ⟨pu, ku, rfl, hu1, hu2⟩ := hu.slice
  have C1 := cloneF_in v zs (by omega) w hv
  obtain ⟨n, HN⟩ : ∃ n, Hid (cs.length = n) := ⟨_, rfl⟩
  rw [HN.out] at hu hu1 hlen ⊢
  have hn0 : n ≤ 9223372036854775807 := by omega
  clear hu1 hu2
  obtain ⟨A0, HA0⟩ : ∃ A0, Hid (appP zs cs = A0) := ⟨_, rfl⟩
  have HG : Hid (appL zs cs = A0.getD [] ∧ appB zs cs = A0.isSome) := by unfold appL appB; rw [HA0.out]; exact ⟨rfl, rfl⟩
  rw [HG.out.1, HG.out.2]
  clear HG
  refine callsIn_of_wp Try.func7 rfl trivial ?_
  simp only [Try.ntmps7, List.size_toArray, List.length_cons, List.length_nil, Nat.reduceAdd, Nat.reduceSub, Array.replicate_succ, Array.replicate_zero, List.push_toArray, List.append_toArray, List.nil_append, List.cons_append]
  gi_wp2_with fail
  refine ⟨trivial, rfl, C1.mono ?_⟩
  rintro e w1 ⟨v1, rfl, r1, c1⟩
  obtain ⟨p1, k1, rfl⟩ := r1.slice
  clear C1 hv
  obtain ⟨m, hm⟩ : ∃ m, zs.length = m := ⟨_, rfl⟩
  rw [hm] at hlen
  have HM : Hid (zs.length = m) := hm
  clear hm
  have r1' : OwnF w1 w.heap.size (.slice p1 zs.length k1) zs := r1
  clear r1
  gi_wp2
  gi_loopw [6, 13] (fun s6 s13 wr => ∃ (k : Nat) (ts : List Fl), k ≤ n ∧ s13 = .int .i64 (k : Int) ∧ Hid (appP ts (cs.drop k) = A0) ∧ ts.length ≤ m + k ∧ OwnF wr w.heap.size s6 ts ∧ Chg No w wr) (fun _ s13 _ => n - (intOf s13).toNat)
  case atStart => exact ⟨0, zs, Nat.zero_le _, rfl, HA0, Nat.le_of_eq HM.out, r1', c1⟩
  case round =>
    obtain ⟨k, ts, hk, rfl, HA, htl, hown, c⟩ := hrel
    obtain ⟨pt, kt, rfl⟩ := hown.slice
    by_cases hlt : k < n
    · have hlt' : (k : Int) < (n : Int) := by omega
      have hkc : k < cs.length := by rw [HN.out]; exact hlt
      obtain ⟨x, hx⟩ : ∃ x, cs[k] = x := ⟨_, rfl⟩
      have HA2 : Hid (appP ts (x :: cs.drop (k + 1)) = A0) := by
        have := HA.out
        rw [List.drop_eq_getElem_cons hkc, hx] at this
        exact this
      obtain ⟨b1, o1, rfl, hc1, hc2, hc3, hc4, hc5⟩ := SlC.at (hu.no c) k x (by rw [List.getElem?_eq_getElem hkc, hx])
      clear hx HA
      obtain ⟨p, q1, q2, od, nw⟩ := x
      dsimp only at hc1 hc2 hc3 hc4 hc5
      have ca : Chg No w (wr.alloc (.cells #[.string p, .bool q1, .bool q2, .string od, .string nw] 30)) := c.alloc _
      have ca1 : Chg No wr (wr.alloc (.cells #[.string p, .bool q1, .bool q2, .string od, .string nw] 30)) := (Chg.refl _ wr).alloc _
      have k0 : (wr.alloc (.cells #[.string p, .bool q1, .bool q2, .string od, .string nw] 30)).cell? ⟨wr.heap.size, 0, none⟩ = some (.string p) := World.cell?_alloc_at _ _ _ _ rfl
      have k1 : (wr.alloc (.cells #[.string p, .bool q1, .bool q2, .string od, .string nw] 30)).cell? ⟨wr.heap.size, 1, none⟩ = some (.bool q1) := World.cell?_alloc_at _ _ _ _ rfl
      have k2 : (wr.alloc (.cells #[.string p, .bool q1, .bool q2, .string od, .string nw] 30)).cell? ⟨wr.heap.size, 2, none⟩ = some (.bool q2) := World.cell?_alloc_at _ _ _ _ rfl
      have k3 : (wr.alloc (.cells #[.string p, .bool q1, .bool q2, .string od, .string nw] 30)).cell? ⟨wr.heap.size, 3, none⟩ = some (.string od) := World.cell?_alloc_at _ _ _ _ rfl
      have k4 : (wr.alloc (.cells #[.string p, .bool q1, .bool q2, .string od, .string nw] 30)).cell? ⟨wr.heap.size, 4, none⟩ = some (.string nw) := World.cell?_alloc_at _ _ _ _ rfl
      have hown1 := hown.no ca1
      gi_wp2
      generalize wr.alloc (.cells #[.string p, .bool q1, .bool q2, .string od, .string nw] 30) = W3 at *
      generalize wr.heap.size = B at *
      have hany : Nonempty (After W3) := After.any W3
      have f0 : ∀ c : After W3, c.val.cell? ⟨B, 0, none⟩ = some (.string p) := fun c => c.cell k0
      have f1 : ∀ c : After W3, c.val.cell? ⟨B, 1, none⟩ = some (.bool q1) := fun c => c.cell k1
      have f3 : ∀ c : After W3, c.val.cell? ⟨B, 3, none⟩ = some (.string od) := fun c => c.cell k3
      obtain ⟨x1, hx1⟩ : ∃ x1, atP ts p = x1 := ⟨_, rfl⟩
      have HAt : Hid (∀ c : After W3, CallsIn Fence.wide 0 Try.prog 16 #[.slice pt ts.length kt, .string p] c.val fun e w' => e = .returned (.agg #[.bool x1.1, .string x1.2]) ∧ Chg No c.val w') := fun c => by
        rw [← hx1]
        exact at_in (.slice pt ts.length kt) ts p c.val (hown1.sl.no c.chg)
      have HX : Hid (atP ts p = x1) := hx1
      have hne := run_neq_at x1 (q1, od)
      obtain ⟨x1, x2⟩ := x1
      have HW := with_in (.slice pt ts.length kt) ts (p, q1, q2, od, nw) (by omega)
      have hown2 := hown1.sl
      clear hc1 hc2 hc3 hc4 hc5 hx1 hown hown1 c ca1
      dsimp only at HAt hne HW
      by_cases hxy : (x1, x2) = (q1, od)
      · rw [decide_eq_true hxy] at hne
        have HA3 : Hid (appP (withP ts (p, q1, q2, od, nw)) (cs.drop (k + 1)) = A0) := by
          have := HA2.out
          unfold appP at this
          rw [if_pos (show atP ts p = (q1, od) by rw [HX.out, hxy])] at this
          exact this
        have hwl := withP_length ts (p, q1, q2, od, nw)
        clear hxy HA2
        refine region_quietC hmix (by kernel_rfl) ?_
        repeat (gi_big_quiet_step (fail))
        refine wpQuietIn_want (fun _ _ _ _ => trivial) rfl ?_
        intro KQ hKQ
        gi_big_quiet_op
        gi_big_quiet_call (exact ⟨rfl, (HAt.out _).mono (by rintro e w'' ⟨rfl, c'⟩; exact ⟨rfl, After.more _ c'⟩)⟩)
        repeat (gi_big_quiet_step (fail))
        refine wpQuietIn_nil ?_
        rintro w' ⟨c, rfl⟩
        have cc := Chg.seq ca c.chg
        have g0 := c.cell k0
        have g1 := c.cell k1
        have g2 := c.cell k2
        have g3 := c.cell k3
        have g4 := c.cell k4
        have HWc := HW c.val (hown2.no c.chg)
        have hcs := cc.size
        clear f0 f1 f3 HAt HW k0 k1 k2 k3 k4 hany hown2
        generalize c.val = W4 at *
        gi_wp2_with fail
        refine ⟨trivial, rfl, HWc.mono ?_⟩
        rintro e w5 ⟨v5, rfl, r5, c5⟩
        gi_wp2
        refine ⟨⟨k + 1, _, hlt, by go_num, HA3, by omega, r5.base hcs, Chg.seq cc c5⟩, by simp [intOf]; omega⟩
      · rw [decide_eq_false hxy] at hne
        obtain rfl : A0 = none := by
          have := HA2.out
          unfold appP at this
          rw [if_neg (show ¬ atP ts p = (q1, od) by rw [HX.out]; exact hxy)] at this
          exact this.symm
        clear hxy HA2
        refine region_quietC hmix (by kernel_rfl) ?_
        repeat (gi_big_quiet_step (fail))
        refine wpQuietIn_want (fun _ _ _ _ => trivial) rfl ?_
        intro KQ hKQ
        gi_big_quiet_op
        gi_big_quiet_call (exact ⟨rfl, (HAt.out _).mono (by rintro e w'' ⟨rfl, c'⟩; exact ⟨rfl, After.more _ c'⟩)⟩)
        repeat (gi_big_quiet_step (fail))
        refine wpQuietIn_nil ?_
        rintro w' ⟨c, rfl⟩
        have cc := Chg.seq ca c.chg
        clear f0 f1 f3 HAt HW k0 k1 k2 k3 k4 hany hown2
        gi_wp2
        go_ret2
        exact ⟨_, rfl, OwnF.nil _ _, cc⟩
    · obtain rfl : k = n := by omega
      have hlt' : ¬ (k : Int) < (k : Int) := by omega
      obtain rfl : A0 = some ts := by
        have := HA.out
        rw [List.drop_eq_nil_of_le (by rw [HN.out]; exact Nat.le_refl _)] at this
        exact this.symm
      gi_wp2
      go_ret2
      exact ⟨_, rfl, hown, c⟩

end Go.Proofs.Ytndblaemladppaa
