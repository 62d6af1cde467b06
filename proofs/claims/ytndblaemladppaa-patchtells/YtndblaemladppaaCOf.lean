/-
  patch's Of: one change of each path at which two lists are unlike.
-/
import Derived.Test.YtndblaemladppaaCAt
import Derived.Test.YtndblaemladppaaFPaths
namespace Go.Proofs.Ytndblaemladppaa
open Go.RowKit Go.Shelf Go.SeqLib Go.DiffLib Go.TreeLib
attribute [local go_sem] Oper.semAt_some

set_option maxRecDepth 100000 in
set_option maxHeartbeats 4000000 in
theorem of_in (v u : Value) (a b : List Fl) (ha : a.length ≤ 1000) (hb : b.length ≤ 1000) (w : World) (hv : SlF w v a) (hu : SlF w u b) : CallsIn Fence.wide 0 Try.prog 10 #[v, u] w fun e w' =>
    ∃ v', e = .returned v' ∧ OwnC 30 w' w.heap.size v' (ofP a b) ∧ Chg No w w' := by
  obtain ⟨pa, ka, ea, _, _⟩ := hv.slice
  obtain ⟨na, hna⟩ : ∃ na, a.length = na := ⟨_, rfl⟩
  obtain ⟨pb, kb, eb, _, _⟩ := hu.slice
  obtain ⟨nb, hnb⟩ : ∃ nb, b.length = nb := ⟨_, rfl⟩
  rw [hna] at ea
  rw [hnb] at eb
  have HA : Hid (a.length = na) := hna
  have HB : Hid (b.length = nb) := hnb
  have c0 : Chg No w (w.alloc (.cells #[v, u] 22)) := (Chg.refl _ w).alloc _
  have sp : SlV (w.alloc (.cells #[v, u] 22)) (.slice (some ⟨w.heap.size, 0, none⟩) 2 2) [v, u] := SlV.made w [v, u] 22 (by simp)
  have P1 := paths_in (.slice (some ⟨w.heap.size, 0, none⟩) 2 2) [(v, a), (u, b)] (w.alloc (.cells #[v, u] 22)) sp (by
    intro q hq
    rcases List.mem_cons.1 hq with rfl | hq
    · exact hv.no c0
    · rw [List.mem_singleton.1 hq]; exact hu.no c0) (by simp [toldP]; omega)
  rw [show ([(v, a), (u, b)].map (·.2)) = [a, b] from rfl] at P1
  have HO : Hid (ofP a b = difs a b (paths [a, b])) := rfl
  have hpl := paths_len a b
  generalize paths [a, b] = out at P1 HO hpl
  have hgd := guard_at
  have hpl2 : out.length ≤ 2000 := by omega
  clear sp hpl hna hnb
  subst ea eb
  refine callsIn_of_wp Try.func10 rfl trivial ?_
  simp only [Try.ntmps10, List.size_toArray, List.length_cons, List.length_nil, Nat.reduceAdd, Nat.reduceSub, Array.replicate_succ, Array.replicate_zero, List.push_toArray, List.append_toArray, List.nil_append, List.cons_append]
  gi_wp2_with fail
  refine ⟨trivial, rfl, P1.mono ?_⟩
  rintro e w1 ⟨tv, rfl, r1, c1⟩
  have c01 := Chg.seq c0 c1
  have st : SlV w1 tv (out.map Value.string) := SlV.ofRow (by rw [List.length_map]; exact r1)
  obtain ⟨pt, kt, rfl⟩ := row_slice r1
  have hs01 := c01.size
  have hv1 := hv.no c01
  have hu1 := hu.no c01
  clear P1 r1 c0 c1
  obtain ⟨n, HN⟩ : ∃ n, Hid (out.length = n) := ⟨_, rfl⟩
  rw [HN.out] at st hpl2 ⊢
  have hn0 : n ≤ 9223372036854775807 := by omega
  gi_wp2
  gi_loopw [5, 15] (fun s5 s15 wr => ∃ k : Nat, k ≤ n ∧ s15 = .int .i64 (k : Int) ∧ OwnC 30 wr w1.heap.size s5 (difs a b (out.take k)) ∧ Chg No w1 wr) (fun _ s15 _ => n - (intOf s15).toNat)
  case atStart => exact ⟨0, Nat.zero_le _, rfl, OwnC.nil _ _ _, Chg.refl _ _⟩
  case round =>
    obtain ⟨k, hk, rfl, hown, c⟩ := hrel
    by_cases hlt : k < n
    · have hlt' : (k : Int) < (n : Int) := by omega
      have hko : k < out.length := by rw [HN.out]; exact hlt
      have st2 := st.no c
      obtain ⟨p2, cap2, e2, _, _, hcells⟩ := st2
      rw [List.length_map, HN.out] at e2
      cases e2
      obtain ⟨bb, off, rfl, hcw⟩ := hcells k (.string out[k]) (by simp [hko])
      have HT : Hid (out.take (k + 1) = out.take k ++ [out[k]]) := by show _ = _; rw [List.take_succ_eq_append_getElem hko]
      have hdl : (difs a b (out.take k)).length ≤ 2000 := by
        refine Nat.le_trans (difs_length _ _ _) ?_
        rw [List.length_take]
        omega
      generalize out[k] = p at hcw HT
      have HD : Hid (difs a b (out.take (k + 1)) = if atP a p = atP b p then difs a b (out.take k) else difs a b (out.take k) ++ [chOf a b p]) := by
        show _ = _
        rw [HT.out, difs_snoc]
      generalize difs a b (out.take k) = ds at hown hdl HD
      obtain ⟨pv, cv, rfl⟩ := hown.slice
      have A1 := at_in (.slice pa na ka) a p wr (hv1.no c)
      have A2 := fun W h => at_in (.slice pb nb kb) b p W h
      unfold chOf at HD
      obtain ⟨x, hx⟩ : ∃ x, atP a p = x := ⟨_, rfl⟩
      obtain ⟨y, hy⟩ : ∃ y, atP b p = y := ⟨_, rfl⟩
      rw [hx] at A1 HD
      rw [hy] at HD
      have A2' := fun W h => (hy ▸ A2 W h : CallsIn Fence.wide 0 Try.prog 16 #[.slice pb nb kb, .string p] W fun e w' => e = .returned (.agg #[.bool y.1, .string y.2]) ∧ Chg No W w')
      obtain ⟨x1, x2⟩ := x
      obtain ⟨y1, y2⟩ := y
      have hne := run_neq_at (x1, x2) (y1, y2)
      clear A2 hx hy hcells
      dsimp only at A1 A2' hne HD
      gi_wp2_with fail
      refine ⟨trivial, rfl, A1.mono ?_⟩
      rintro e w2 ⟨rfl, c2⟩
      gi_wp2_with fail
      refine ⟨trivial, rfl, (A2' _ (hu1.no (Chg.seq c c2))).mono ?_⟩
      rintro e w3 ⟨rfl, c3⟩
      have c23 := Chg.seq c2 c3
      have c13 := Chg.seq c c23
      have hown3 := hown.no c23
      clear A1 A2' c2 c3 c hown
      by_cases hxy : (x1, x2) = (y1, y2)
      · rw [decide_eq_true hxy] at hne
        rw [if_pos hxy] at HD
        clear hxy
        gi_wp2
        refine ⟨⟨k + 1, hlt, by go_num, ?_, (c13.alloc _).alloc _⟩, by simp [intOf]; omega⟩
        rw [HD.out]
        exact World.ownsRow.alloc (World.ownsRow.alloc hown3 _) _
      · rw [decide_eq_false hxy] at hne
        rw [if_neg hxy] at HD
        clear hxy
        have cA : Chg No w3 (((w3.alloc (.cells #[.bool x1, .string x2] 45)).alloc (.cells #[.bool y1, .string y2] 45)).alloc (.cells #[.string p, .bool x1, .bool y1, .string x2, .string y2] 30)) := (((Chg.refl _ w3).alloc _).alloc _).alloc _
        have hsl := SlC.one 30 ((w3.alloc (.cells #[.bool x1, .string x2] 45)).alloc (.cells #[.bool y1, .string y2] 45)) (p, x1, y1, x2, y2)
        rw [World.size_alloc, World.size_alloc] at hsl
        have hown4 := hown3.no cA
        have hbs : w1.heap.size ≤ (((w3.alloc (.cells #[.bool x1, .string x2] 45)).alloc (.cells #[.bool y1, .string y2] 45)).alloc (.cells #[.string p, .bool x1, .bool y1, .string x2, .string y2] 30)).heap.size := Nat.le_trans c13.size cA.size
        have c14 := Chg.seq c13 cA
        have hlow : ∀ q, Value.ownBlock (.slice pv ds.length cv) = some q → w1.heap.size ≤ q := fun q hq => (World.ownsRow.lt hown3 q hq).1
        gi_wp2_with (gi_at_builtin; refine wpListIn_append_sc isC30 _ rfl _ _ rfl w1.heap.size _ ds rfl hown4 (some ⟨w3.heap.size + 1 + 1, 0, none⟩) 1 1 [(p, x1, y1, x2, y2)] rfl hsl (by omega) hbs ?_; intro v' w4 hown' hgrow hat; obtain ⟨p', cap', rfl⟩ := hown'.slice)
        refine ⟨⟨k + 1, hlt, by go_num, ?_, c14.grown hgrow (fun q e => .inr (hlow q e))⟩, by simp [intOf]; omega⟩
        rw [HD.out]
        rw [List.length_append] at hown'
        exact hown'
    · obtain rfl : k = n := by omega
      have hlt' : ¬ (k : Int) < (k : Int) := by omega
      have HD : Hid (difs a b (out.take k) = ofP a b) := by show _ = _; rw [HO.out, List.take_of_length_le (by rw [HN.out]; exact Nat.le_refl _)]
      rw [HD.out] at hown
      gi_wp2
      go_ret
      exact ⟨_, rfl, hown.base hs01, Chg.seq c01 c⟩

end Go.Proofs.Ytndblaemladppaa
