/-
  patch's with: the list behind a change that fits.
-/
import Derived.Test.YtndblaemladppaaCSl
import Derived.Test.YtndblaemladppaaCSpot
import Derived.Test.YtndblaemladppaaGFile
import Derived.Test.YtndblaemladppaaFPut
namespace Go.Proofs.Ytndblaemladppaa
open Go.RowKit Go.Shelf Go.SeqLib Go.DiffLib Go.TreeLib
attribute [local go_sem] Oper.semAt_some

set_option maxRecDepth 100000 in
set_option maxHeartbeats 1000000 in
theorem with_in (v : Value) (zs : List Fl) (c : Chn) (hlen : zs.length ≤ 50000) (w : World) (hv : SlF w v zs) : CallsIn Fence.wide 0 Try.prog 17 #[v, vC c] w fun e w' =>
    ∃ v', e = .returned v' ∧ OwnF w' w.heap.size v' (withP zs c) ∧ Chg No w w' := by
  obtain ⟨p, b1, b2, o, n⟩ := c
  have c0 : Chg No w (w.alloc (.cells #[.string p, .bool b1, .bool b2, .string o, .string n] 30)) := (Chg.refl _ w).alloc _
  have hv0 := hv.no c0
  have hsz := c0.size
  refine callsIn_of_wp Try.func17 rfl trivial ?_
  simp only [Try.ntmps17, List.size_toArray, List.length_cons, List.length_nil, Nat.reduceAdd, Nat.reduceSub, Array.replicate_succ, Array.replicate_zero, List.push_toArray, List.append_toArray, List.nil_append, List.cons_append]
  cases b2 with
  | true =>
    have G := put_in v zs p n hlen _ hv0
    gi_wp2_with fail
    refine ⟨trivial, rfl, G.mono ?_⟩
    rintro e w1 ⟨v1, rfl, r1, c1⟩
    gi_wp2
    go_ret
    exact ⟨v1, rfl, r1.base hsz, Chg.seq c0 c1⟩
  | false =>
    have G := drop_in v zs p (by omega) _ hv0
    gi_wp2_with fail
    refine ⟨trivial, rfl, G.mono ?_⟩
    rintro e w1 ⟨v1, rfl, r1, c1⟩
    gi_wp2
    go_ret
    exact ⟨v1, rfl, r1.base hsz, Chg.seq c0 c1⟩

end Go.Proofs.Ytndblaemladppaa
