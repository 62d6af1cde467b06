/-
  tree's Put: the files, but those at a path, and one there, by rising paths.
-/
import Derived.Test.YtndblaemladppaaFRow
import Derived.Test.YtndblaemladppaaFStab
import Derived.Test.YtndblaemladppaaGFile
namespace Go.Proofs.Ytndblaemladppaa
open Go.RowKit Go.Shelf Go.SeqLib Go.DiffLib Go.TreeLib Go.Sort
attribute [local go_sem] Oper.semAt_some

set_option maxHeartbeats 1000000 in
theorem sortStable_in (g n cap base : Nat) (zs : List Fl) (w : World) (h : OwnF w base (.slice (some ⟨g, 0, none⟩) n cap) zs) (hn : zs.length = n) (hz : n ≤ 1000000) :
    CallsIn Fence.wide 0 Try.prog 30 #[.slice (some ⟨g, 0, none⟩) n cap, .func (.func 31) #[] #[]] w fun e w' =>
      e = .returned (.tuple #[]) ∧ OwnF w' base (.slice (some ⟨g, 0, none⟩) n cap) (isort zs) ∧ Chg (fun k => k = g) w w' := by
  have hc := stable_in g 0 cap zs w (h.rowK hn) (by omega)
  rw [hn] at hc
  have hc2 := (callsIn_wide (n := 0)).2 hc
  have HC : Hid (∀ d' W', SWK eF 2 w g 0 d' W' → d'.toList = isort zs → OwnF W' base (.slice (some ⟨g, 0, none⟩) n cap) (isort zs) ∧ Chg (fun k => k = g) w W') := fun d' W' hS hl => by
    have := h.sorted hn (d := d') (by rw [← Array.length_toList, hl, isort_length, hn]) hS
    rw [hl] at this
    exact this
  clear h hc
  refine callsIn_of_wp Try.func30 rfl trivial ?_
  simp only [Try.ntmps30, List.size_toArray, List.length_cons, List.length_nil, Nat.reduceAdd, Nat.reduceSub, Array.replicate_succ, Array.replicate_zero, List.push_toArray, List.append_toArray, List.nil_append, List.cons_append]
  gi_wp2_with fail
  refine ⟨trivial, rfl, hc2.mono ?_⟩
  rintro e w1 ⟨rfl, d', hS, hl⟩
  gi_wp2
  go_end0
  exact ⟨rfl, HC.out d' w1 hS hl⟩

set_option maxRecDepth 100000 in
set_option maxHeartbeats 1000000 in
theorem put_in (v : Value) (zs : List Fl) (p d : ByteArray) (hlen : zs.length ≤ 50000) (w : World) (hv : SlF w v zs) : CallsIn Fence.wide 0 Try.prog 24 #[v, .string p, .string d] w fun e w' =>
    ∃ v', e = .returned v' ∧ OwnF w' w.heap.size v' (TreeLib.put zs p d) ∧ Chg No w w' := by
  have hdl : (TreeLib.drop zs p).length ≤ 50000 := Nat.le_trans (List.length_filter_le _ _) hlen
  refine callsIn_of_wp Try.func24 rfl trivial ?_
  simp only [Try.ntmps24, List.size_toArray, List.length_cons, List.length_nil, Nat.reduceAdd, Nat.reduceSub, Array.replicate_succ, Array.replicate_zero, List.push_toArray, List.append_toArray, List.nil_append, List.cons_append]
  gi_wp2_with fail
  refine ⟨trivial, rfl, (drop_in v zs p (by omega) _ hv).mono ?_⟩
  rintro e w1 ⟨v1, rfl, r1, c1⟩
  obtain ⟨p1, k1, rfl⟩ := r1.slice
  have hsl := SlF.one w1 (p, d)
  have hsz1 := c1.size
  obtain ⟨q, HQ⟩ : ∃ q, Hid (TreeLib.drop zs p ++ [(p, d)] = q) := ⟨_, rfl⟩
  have hql : q.length = (TreeLib.drop zs p).length + 1 := by rw [← HQ.out]; simp
  have HP : Hid (isort q = TreeLib.put zs p d) := by rw [← HQ.out]; exact rfl
  generalize TreeLib.drop zs p = dz at *
  gi_wp2_with (gi_at_builtin; refine wpListIn_append_sf _ rfl _ _ rfl w.heap.size _ dz rfl (World.ownsRow.alloc r1 _) (some ⟨w1.heap.size, 0, none⟩) 1 1 [(p, d)] rfl hsl (by omega) (by simp; omega) ?_; intro v' w2 hown' hgrow hat; rw [HQ.out] at hown'; have hown2 : w2.ownsRow w.heap.size 43 2 v' (dz.length + 1) (q.flatMap eF) := (by rw [← hql]; exact hown'); obtain ⟨g, cap, rfl⟩ := ownsRow_succ hown2; have hgb : w.heap.size ≤ g := (hown'.lt g rfl).1; have c2 : Chg No w w2 := (c1.alloc _).grown hgrow (fun k e => .inr (r1.lt k e).1))
  refine ⟨trivial, rfl, (sortStable_in g (dz.length + 1) cap w.heap.size q w2 hown' hql (by omega)).mono ?_⟩
  rintro e w3 ⟨rfl, r3, c3⟩
  rw [HP.out] at r3
  gi_wp2
  go_ret
  refine ⟨_, rfl, r3, c2.trans c3 (fun k hk => .inr (by omega))⟩

end Go.Proofs.Ytndblaemladppaa
