/-
  Of: LineR, RTab, RPairs.
-/
import Derived.Test.YtakbeololabmhaaGreatDoorG20
import Derived.Lib.AppendStr
import Derived.Laws.IdiomStrings
import Derived.Laws.BytesArg
import Derived.Test.YtakbeololabmhaaGreatDoorG22
import Derived.Sort.CutIn
import Derived.Test.YtakbeololabmhaaGreatDoorG24
section
-- LineR
namespace Go.LineLib
open Go

/-- The lines behind a place, where the first of them ends at i. -/
theorem linesL_cut (l : List UInt8) (a i : Nat) (hai : a ≤ i) (hi : i < l.length) (h1 : ∀ j, a ≤ j → j < i → l[j]? ≠ some 10) (h2 : l[i]? = some 10 ∨ i + 1 = l.length) :
    linesL (l.drop a) = ((l.drop a).take (i + 1 - a)) :: linesL (l.drop (i + 1)) := by
  have hne : l.drop a ≠ [] := by
    intro h
    have := congrArg List.length h
    rw [List.length_drop] at this
    simp at this
    omega
  have he : endL (l.drop a) = (i - a) + 1 := by
    refine endL_at (l.drop a) (i - a) (by rw [List.length_drop]; omega) (fun j hj => ?_) ?_
    · rw [List.getElem?_drop]; exact h1 (a + j) (by omega) (by omega)
    · rw [List.getElem?_drop, List.length_drop, show a + (i - a) = i by omega]
      rcases h2 with h | h
      · exact .inl h
      · exact .inr (by omega)
  rw [linesL_first hne, he, List.drop_drop, show a + (i - a + 1) = i + 1 by omega, show i - a + 1 = i + 1 - a by omega]

/-- As texts: what stands in out, the place at which the next line begins, how far it was looked. -/
def SplitAt (s : ByteArray) (pre : List ByteArray) (a i : Nat) : Prop :=
  a ≤ i ∧ i ≤ s.size ∧ (pre ++ (linesL ((L s).drop a)).map T = linesB s) ∧ (∀ j, a ≤ j → j < i → (L s)[j]? ≠ some 10) ∧ (i = s.size → a = s.size)

theorem SplitAt.start (s : ByteArray) : SplitAt s [] 0 0 := ⟨Nat.le_refl _, Nat.zero_le _, rfl, fun j h1 h2 => by omega, fun h => h⟩
theorem SplitAt.take {s : ByteArray} {pre : List ByteArray} {a i : Nat} (h : SplitAt s pre a i) (hi : i < s.size) (h2 : (s[i]'hi).toNat = 10 ∨ i + 1 = s.size) : SplitAt s (pre ++ [s.extract a (i + 1)]) (i + 1) (i + 1) := by
  obtain ⟨k1, k2, k3, k4, k5⟩ := h
  refine ⟨Nat.le_refl _, hi, ?_, fun j h1 h2 => by omega, fun h => h⟩
  have := linesL_cut (L s) a i k1 hi k4 (by
    rcases h2 with h | h
    · left
      rw [List.getElem?_eq_getElem (show i < (L s).length from hi)]
      exact congrArg some (UInt8.toNat.inj h)
    · exact .inr h)
  rw [this, List.map_cons, ← extract_T] at k3
  rw [← k3]
  simp
theorem SplitAt.pass {s : ByteArray} {pre : List ByteArray} {a i : Nat} (h : SplitAt s pre a i) (hi : i < s.size) (h1 : ¬ (s[i]'hi).toNat = 10) (h2 : ¬ i + 1 = s.size) : SplitAt s pre a (i + 1) := by
  obtain ⟨k1, k2, k3, k4, k5⟩ := h
  refine ⟨by omega, hi, k3, fun j g1 g2 => ?_, fun h => absurd h h2⟩
  by_cases e : j = i
  · subst e
    rw [List.getElem?_eq_getElem (show j < (L s).length from hi)]
    intro h
    exact h1 (congrArg UInt8.toNat (Option.some.inj h))
  · exact k4 j g1 (by omega)
theorem SplitAt.done {s : ByteArray} {pre : List ByteArray} {a : Nat} (h : SplitAt s pre a s.size) : pre = linesB s := by
  obtain ⟨k1, k2, k3, k4, k5⟩ := h
  rw [k5 rfl, List.drop_eq_nil_of_le (show (L s).length ≤ s.size from Nat.le_refl _)] at k3
  simpa [linesL] using k3
theorem SplitAt.len {s : ByteArray} {pre : List ByteArray} {a i : Nat} (h : SplitAt s pre a i) : pre.length ≤ s.size := by
  have h1 := congrArg List.length h.2.2.1
  rw [List.length_append] at h1
  have := linesB_len s
  omega

end Go.LineLib
namespace Go.Proofs.YtakbeololabmhaaGreatDoor
open Go.RowKit Go.Shelf Go.SeqLib Go.LineLib
open Go.Lib (strCells run_append_own_string)
attribute [local go_sem] Oper.semAt_some

set_option maxRecDepth 100000 in
set_option maxHeartbeats 1000000 in
theorem refSplit_in (s : ByteArray) (hs : s.size ≤ 100000) (w : World) : CallsIn Fence.wide 0 Tryz.prog 117 #[.string s] w fun e w' =>
    ∃ v, e = .returned v ∧ w'.ownsRow w.heap.size 9 1 v (linesB s).length ((linesB s).map Value.string) ∧ Chg No w w' := by
  obtain ⟨i0, hi, hz0, hz1, hz2⟩ := info_parts info9
  refine callsIn_of_wp Tryz.func117 rfl trivial ?_
  simp only [Tryz.ntmps117, List.size_toArray, List.length_cons, List.length_nil, Nat.reduceAdd, Nat.reduceSub, Array.replicate_succ, Array.replicate_zero, List.push_toArray, List.append_toArray, List.nil_append, List.cons_append]
  gi_wp2
  gi_loopw [3, 4, 5] (fun v a i wr => ∃ (pre : List ByteArray) (ka ki : Nat), Hid (SplitAt s pre ka ki) ∧ ka ≤ ki ∧ ki ≤ s.size ∧ a = .int .i64 (ka : Int) ∧ i = .int .i64 (ki : Int) ∧ wr.ownsRow w.heap.size 9 1 v pre.length (pre.map Value.string) ∧ Chg No w wr) (fun v a i _ => s.size - (intOf i).toNat)
  case atStart => exact ⟨[], 0, 0, SplitAt.start s, Nat.le_refl _, Nat.zero_le _, rfl, rfl, World.ownsRow_nil _ _ _ _, Chg.refl _ _⟩
  case round =>
    obtain ⟨pre, ka, ki, HS, hka, hki, rfl, rfl, hr, c⟩ := hrel
    have hpl : pre.length ≤ 100000 := Nat.le_trans HS.out.len hs
    by_cases hlt : ki < s.size
    · have hlt' : (ki : Int) < (s.size : Int) := by omega
      have hmx : pre.length + 1 ≤ maxLen := by unfold maxLen; omega
      have hbs : w.heap.size ≤ (wr.alloc (.cells #[.string (s.extract ka (ki + 1))] 9)).heap.size := (c.alloc _).size
      obtain ⟨p, cap, rfl⟩ := row_slice hr
      have hcut : ∀ w0 : World, (Instr.slice 9 (.string s) (some (.int .i64 (ka : Int))) (some (.int .i64 ((ki : Int) + 1))) none).run Tryz.prog w0 = .ok (.string (s.extract ka (ki + 1))) w0 := by
        intro w0
        have := run_slice_string (P := Tryz.prog) w0 9 s .i64 .i64 (ka : Int) ((ki : Int) + 1) Tryz.underlying9 (by omega) (by omega) (by omega)
        rw [this, Int.toNat_natCast, show ((ki : Int) + 1).toNat = ki + 1 by omega]
      by_cases h10 : (s[ki]'hlt).toNat = 10
      · have h10' : (((s[ki]'hlt).toNat : Int) == 10) = true := by rw [h10]; rfl
        have HT : Hid (SplitAt s (pre ++ [s.extract ka (ki + 1)]) (ki + 1) (ki + 1)) := HS.out.take hlt (.inl h10)
        gi_wp2_with (gi_at_builtin; refine wpListIn_append_at _ rfl _ _ 86 rfl w.heap.size 9 i0 (.string ⟨#[]⟩) 1 16 Tryz.underlying86 hi hz0 hz1 hz2 rfl (by decide) _ _ _ rfl (hr.alloc _) ⟨wr.heap.size, 0, none⟩ 1 1 [.string (s.extract ka (ki + 1))] rfl rfl (cell_one_new _ _ _) (by simp [Value.oneCell']) hmx (by omega) hbs ?_; intro v' w1 hown' hgrow _ hat; have c1 : Chg No w w1 := (c.alloc _).grown hgrow (fun k e => .inr (hr.lt k e).1))
        go_roundw
        case rel => exact ⟨pre ++ [s.extract ka (ki + 1)], ki + 1, ki + 1, HT, Nat.le_refl _, hlt, by go_num, by go_num, by rw [List.length_append, List.map_append]; exact hown', c1⟩
        case measure => simp [intOf]; omega
      · have h10' : (((s[ki]'hlt).toNat : Int) == 10) = false := by rw [beq_eq_false_iff_ne]; omega
        by_cases hend : ki + 1 = s.size
        · have hend' : (((ki : Int) + 1) == (s.size : Int)) = true := by rw [beq_iff_eq]; omega
          have hendI : Hid (((ki + 1 : Nat) : Int) = (s.size : Int)) := by show _ = _; omega
          have HT : Hid (SplitAt s (pre ++ [s.extract ka (ki + 1)]) (ki + 1) (ki + 1)) := HS.out.take hlt (.inr hend)
          have hcut2 : ∀ w0 : World, (Instr.slice 9 (.string s) (some (.int .i64 (ka : Int))) (some (.int .i64 (s.size : Int))) none).run Tryz.prog w0 = .ok (.string (s.extract ka (ki + 1))) w0 := by
            intro w0
            rw [← hendI.out]
            exact hcut w0
          generalize s.extract ka (ki + 1) = X at *
          clear hend
          gi_wp2_with (gi_at_builtin; refine wpListIn_append_at _ rfl _ _ 86 rfl w.heap.size 9 i0 (.string ⟨#[]⟩) 1 16 Tryz.underlying86 hi hz0 hz1 hz2 rfl (by decide) _ _ _ rfl (hr.alloc _) ⟨wr.heap.size, 0, none⟩ 1 1 [.string X] rfl rfl (cell_one_new _ _ _) (by simp [Value.oneCell']) hmx (by omega) hbs ?_; intro v' w1 hown' hgrow _ hat; have c1 : Chg No w w1 := (c.alloc _).grown hgrow (fun k e => .inr (hr.lt k e).1))
          go_roundw
          case rel => exact ⟨pre ++ [X], ki + 1, ki + 1, HT, Nat.le_refl _, hlt, by first | go_num | rw [hendI.out], by first | go_num | rw [hendI.out], by rw [List.length_append, List.map_append]; exact hown', c1⟩
          case measure => simp [intOf]; omega
        · have hend' : (((ki : Int) + 1) == (s.size : Int)) = false := by rw [beq_eq_false_iff_ne]; omega
          have HT : Hid (SplitAt s pre ka (ki + 1)) := HS.out.pass hlt h10 hend
          gi_wp2
          go_roundw
          case rel => exact ⟨pre, ka, ki + 1, HT, by omega, hlt, rfl, by go_num, hr, c⟩
          case measure => simp [intOf]; omega
    · have hlt' : ¬ (ki : Int) < (s.size : Int) := by omega
      obtain ⟨p, cap, rfl⟩ := row_slice hr
      obtain rfl : ki = s.size := by omega
      have HD : Hid (pre = linesB s) := HS.out.done
      gi_wp2
      go_ret
      exact ⟨_, rfl, by rw [← HD.out]; exact hr, c⟩

theorem byte_zero {s : ByteArray} {k : Nat} (hk : k < s.size) (h : (s[k]'hk).toNat = 0) : (0 : UInt8) ∈ L s := by
  have h1 : (L s)[k]'(hk) = 0 := UInt8.toNat.inj h
  rw [← h1]
  exact List.getElem_mem _

set_option maxHeartbeats 1000000 in
theorem refBinary_in (s : ByteArray) (hs : s.size ≤ 100000) (w : World) : CallsIn Fence.wide 0 Tryz.prog 146 #[.string s] w fun e w' => e = .returned (.bool (decide ((0 : UInt8) ∈ L s))) ∧ w' = w := by
  obtain ⟨z, HZ⟩ : ∃ z, Hid (decide ((0 : UInt8) ∈ L s) = z) := ⟨_, rfl⟩
  rw [HZ.out]
  refine callsIn_of_wp Tryz.func146 rfl trivial ?_
  simp only [Tryz.ntmps146, List.size_toArray, List.length_cons, List.length_nil, Nat.reduceAdd, Nat.reduceSub, Array.replicate_succ, Array.replicate_zero, List.push_toArray, List.append_toArray, List.nil_append, List.cons_append]
  gi_wp2
  gi_loopw [3] (fun i wr => ∃ k : Nat, k ≤ s.size ∧ i = .int .i64 (k : Int) ∧ Hid ((0 : UInt8) ∉ (L s).take k) ∧ wr = w) (fun i _ => s.size - (intOf i).toNat)
  case atStart => exact ⟨0, Nat.zero_le _, rfl, (by show _ ∉ _; simp), rfl⟩
  case round =>
    obtain ⟨k, hk, rfl, HT, rfl⟩ := hrel
    by_cases hlt : k < s.size
    · have hlt' : (k : Int) < (s.size : Int) := by omega
      by_cases h0 : (s[k]'hlt).toNat = 0
      · have h0' : (((s[k]'hlt).toNat : Int) == 0) = true := by rw [h0]; rfl
        obtain rfl : z = true := by rw [← HZ.out]; exact decide_eq_true (byte_zero hlt h0)
        gi_wp2
        go_ret
        exact ⟨rfl, rfl⟩
      · have h0' : (((s[k]'hlt).toNat : Int) == 0) = false := by rw [beq_eq_false_iff_ne]; omega
        have HT2 : Hid ((0 : UInt8) ∉ (L s).take (k + 1)) := by
          show _ ∉ _
          rw [List.take_succ_eq_append_getElem (show k < (L s).length from hlt), List.mem_append]
          rintro (h | h)
          · exact HT.out h
          · rw [List.mem_singleton] at h
            exact h0 (congrArg UInt8.toNat h).symm
        gi_wp2
        go_roundw
        case rel => exact ⟨k + 1, hlt, by go_num, HT2, trivial⟩
        case measure => simp [intOf]; omega
    · have hlt' : ¬ (k : Int) < (s.size : Int) := by omega
      obtain rfl : k = s.size := by omega
      obtain rfl : z = false := by
        rw [← HZ.out]
        refine decide_eq_false ?_
        have := HT.out
        rwa [List.take_of_length_le (show (L s).length ≤ s.size from Nat.le_refl _)] at this
      gi_wp2
      go_ret
      exact ⟨rfl, rfl⟩

set_option maxHeartbeats 1000000 in
theorem refFew_in (s : ByteArray) (hs : s.size ≤ 100000) (w : World) : CallsIn Fence.wide 0 Tryz.prog 147 #[.string s] w fun e w' => e = .returned (.bool (decide ((linesB s).length ≤ 60))) ∧ Chg No w w' := by
  refine callsIn_of_wp Tryz.func147 rfl trivial ?_
  simp only [Tryz.ntmps147, List.size_toArray, List.length_cons, List.length_nil, Nat.reduceAdd, Nat.reduceSub, Array.replicate_succ, Array.replicate_zero, List.push_toArray, List.append_toArray, List.nil_append, List.cons_append]
  gi_wp2_with fail
  refine ⟨trivial, rfl, (refSplit_in s hs _).mono ?_⟩
  rintro e w1 ⟨v1, rfl, r1, c1⟩
  obtain ⟨p, cap, rfl⟩ := row_slice r1
  obtain ⟨n, HN⟩ : ∃ n, Hid ((linesB s).length = n) := ⟨_, rfl⟩
  rw [HN.out]
  have HE : Hid (decide ((n : Int) ≤ 60) = decide (n ≤ 60)) := decide_eq_decide.2 (by omega)
  gi_wp2
  go_ret
  exact ⟨by rw [HN.out, ← HE.out]; rfl, c1⟩

theorem info5 : (Tryz.prog.info? 5).map (fun i => (i.zero, i.size, i.bytes)) = some (some (.int .u8 0), 1, 1) := by kernel_rfl

theorem wpListIn_append_str {F : Fence} {n : Nat} (w : World) {ops : Array Oper} {rest : List Oper} {o : Oper} {a : Act} {Q : Exit → Act → World → Prop}
    (hg : o.guard = none) (s x : Operand) (hop : o.op = Op.call { callee := Callee.builtin Builtin.append, args := #[s, x], argTypes := #[173, 9] })
    (base : Nat) (v : Value) (k : Nat) (vals : List Value) (hs : a.eval s = v) (hown : w.ownsRow base 5 1 v k vals) (t : ByteArray) (hx : a.eval x = .string t)
    (b1 : k + t.size ≤ 1000000) (b3 : base ≤ w.heap.size)
    (hK : ∀ v' w', w'.ownsRow base 5 1 v' (k + t.size) (vals ++ strCells t) → w.grownBy w' v.ownBlock → wpListIn F n Tryz.prog ops Q rest (a.put o.dst v') w') :
    wpListIn F n Tryz.prog ops Q (o :: rest) a w := by
  obtain ⟨i0, hi, hz0, hz1, hz2⟩ := info_parts info5
  refine wpListIn_plain hg fun K hK' => ?_
  obtain ⟨v', w', hr, h2, h3, h4⟩ := run_append_own_string (P := Tryz.prog) w base 173 9 o.type 5 i0 Tryz.underlying173 Tryz.underlying9 hi hz0 hz1 hz2 v k vals hown t (by unfold maxLen; omega) (by omega) b3
  unfold Oper.wpIn
  refine ⟨?_, ?_⟩
  · simp [Oper.about, hop, resolve, Target.leads, Sem.run_pure]
  · rw [Oper.semAt_plain F _ _ (by rw [hop]; intro c hc'; cases hc')]
    simp [execOp, hop, resolve, invoke, builtin, hs, hx, hr, Result.andThen]
    exact hK' _ _ (hK v' w' h2 h3)

theorem catB_snoc (xs : List ByteArray) (x : ByteArray) : (catB (xs ++ [x])).size = (catB xs).size + x.size := by
  show (((xs ++ [x]).map L).flatten).length = ((xs.map L).flatten).length + (L x).length
  rw [List.map_append, List.flatten_append, List.length_append]
  simp
theorem catB_cells (xs : List ByteArray) (x : ByteArray) : strCells (catB (xs ++ [x])) = strCells (catB xs) ++ strCells x := by
  unfold strCells
  show (((xs ++ [x]).map L).flatten).map _ = (((xs.map L).flatten).map _) ++ _
  rw [List.map_append, List.flatten_append, List.map_append]
  simp
theorem catB_le (xs : List ByteArray) (k : Nat) : (catB (xs.take k)).size ≤ (catB xs).size := by
  show (((xs.take k).map L).flatten).length ≤ ((xs.map L).flatten).length
  conv => rhs; rw [← List.take_append_drop k xs, List.map_append, List.flatten_append, List.length_append]
  omega

/-- Bytes that are owned, as a text. -/
theorem run_bytes_text {w : World} {base : Nat} {p : Option Addr} {n cap : Nat} {t : ByteArray} (hr : w.ownsRow base 5 1 (.slice p n cap) n (strCells t)) (hn : n = t.size) : (convert 173 9 (.slice p n cap)).run Tryz.prog w = .ok (.string t) w := by
  rcases hr.2 with ⟨h, h0⟩ | ⟨g, cap', cur, h, h1⟩
  · rw [Value.slice.injEq] at h
    obtain ⟨rfl, rfl, rfl⟩ := h
    have ht : t = ⟨#[]⟩ := by
      have : L t = [] := List.length_eq_zero_iff.1 hn.symm
      rw [← T_L t, this]
    rw [ht]
    exact run_convert_bytes_nil _ 173 5 Tryz.underlying173 Tryz.underlying5 0 0 9 Tryz.underlying9
  · rw [Value.slice.injEq] at h
    obtain ⟨rfl, _, rfl⟩ := h
    have := run_convert_bytes_back (P := Tryz.prog) w 173 9 5 ⟨g, 0, none⟩ cap (L t) Tryz.underlying173 Tryz.underlying5 Tryz.underlying9 (fun j hj => hr.cells (g := g) rfl j _ (by
      unfold strCells
      rw [List.getElem?_map, List.getElem?_eq_getElem hj]
      rfl))
    rw [show (L t).length = n from by rw [hn]; rfl] at this
    exact this

set_option maxRecDepth 100000 in
set_option maxHeartbeats 1000000 in
theorem refJoin_in (v : Value) (zs : List ByteArray) (w : World) (hv : SlV w v (zs.map Value.string)) (hlen : (catB zs).size ≤ 1000000) (hn : zs.length ≤ 1000000) :
    CallsIn Fence.wide 0 Tryz.prog 118 #[v] w fun e w' => e = .returned (.string (catB zs)) ∧ Chg No w w' := by
  obtain ⟨p, c1, rfl, hp1, hp2, hpc⟩ := hv
  rw [List.length_map] at hp1 ⊢
  obtain ⟨n, HN⟩ : ∃ n, Hid (zs.length = n) := ⟨_, rfl⟩
  rw [HN.out] at hp1 hn ⊢
  obtain ⟨tt, HT⟩ : ∃ t, Hid (catB zs = t) := ⟨_, rfl⟩
  rw [HT.out]
  refine callsIn_of_wp Tryz.func118 rfl trivial ?_
  simp only [Tryz.ntmps118, List.size_toArray, List.length_cons, List.length_nil, Nat.reduceAdd, Nat.reduceSub, Array.replicate_succ, Array.replicate_zero, List.push_toArray, List.append_toArray, List.nil_append, List.cons_append]
  gi_wp2
  gi_loopw [3, 4] (fun v i wr => ∃ k m : Nat, k ≤ n ∧ i = .int .i64 (k : Int) ∧ Hid (m = (catB (zs.take k)).size) ∧ wr.ownsRow w.heap.size 5 1 v m (strCells (catB (zs.take k))) ∧ Chg No w wr) (fun v i _ => n - (intOf i).toNat)
  case atStart => exact ⟨0, 0, Nat.zero_le _, rfl, rfl, World.ownsRow_nil _ _ _ _, Chg.refl _ _⟩
  case round =>
    obtain ⟨k, m, hk, rfl, HM, hr, c⟩ := hrel
    obtain ⟨q, cap, rfl⟩ := row_slice hr
    by_cases hlt : k < n
    · have hkz : k < zs.length := by rw [HN.out]; exact hlt
      have hlt' : (k : Int) < (n : Int) := by omega
      obtain ⟨b1, o1, rfl, hc1⟩ := hpc k (.string zs[k]) (by simp [hkz])
      have hw1 : wr.cell? ⟨b1, o1 + k, none⟩ = some (.string zs[k]) := (World.cell?_of_block (a := ⟨b1, o1 + k, none⟩) (c.block b1 (World.block_lt_of_cell? w _ hc1) (fun h => h))).trans hc1
      have hsz : m + zs[k].size ≤ 1000000 := by
        have h1 := catB_le zs (k + 1)
        rw [List.take_succ_eq_append_getElem hkz, catB_snoc] at h1
        have := HM.out
        omega
      have HM2 : Hid (m + zs[k].size = (catB (zs.take (k + 1))).size) := by
        rw [List.take_succ_eq_append_getElem hkz, catB_snoc, HM.out]; exact rfl
      have HC : Hid (strCells (catB (zs.take k)) ++ strCells zs[k] = strCells (catB (zs.take (k + 1)))) := by
        rw [List.take_succ_eq_append_getElem hkz, catB_cells]; exact rfl
      clear hc1
      generalize zs[k] = x at *
      gi_wp2_with (gi_at_builtin; refine wpListIn_append_str _ rfl _ _ rfl w.heap.size _ m _ rfl hr x rfl hsz c.size ?_; intro v' w1 hown' hgrow; have c1' : Chg No w w1 := c.grown hgrow (fun k e => .inr (hr.lt k e).1))
      go_roundw
      case rel => exact ⟨k + 1, m + x.size, hlt, by go_num, HM2, by rw [← HC.out]; exact hown', c1'⟩
      case measure => simp [intOf]; omega
    · obtain rfl : k = n := by omega
      have hlt' : ¬ (k : Int) < (k : Int) := by omega
      have HF : Hid (zs.take k = zs) := List.take_of_length_le (by rw [HN.out]; exact Nat.le_refl _)
      rw [HF.out, HT.out] at hr
      have hcv := run_bytes_text hr (by rw [HM.out, HF.out, HT.out])
      gi_wp2
      go_ret
      exact ⟨rfl, c⟩

end Go.Proofs.YtakbeololabmhaaGreatDoor

end
section
-- RTab
namespace Go.Proofs.YtakbeololabmhaaGreatDoor
open Go.RowKit Go.Shelf Go.SeqLib Go.DiffLib Go.BigFrame
attribute [local go_sem] Oper.semAt_some

set_option maxHeartbeats 1000000 in
theorem refGreat_in (p q : Option Addr) (n m c d : Nat) (hn : n ≤ 400) (hm : m ≤ 400) (w : World) : CallsIn Fence.wide 0 Tryz.prog 192 #[.slice p n c, .slice q m d] w fun e w' => e = .returned (.bool false) ∧ w' = w := by
  have h1 : ¬ (400 : Int) < (n : Int) := by omega
  have h2 : ¬ (400 : Int) < (m : Int) := by omega
  refine callsIn_of_wp Tryz.func192 rfl trivial ?_
  simp only [Tryz.ntmps192, List.size_toArray, List.length_cons, List.length_nil, Nat.reduceAdd, Nat.reduceSub, Array.replicate_succ, Array.replicate_zero, List.push_toArray, List.append_toArray, List.nil_append, List.cons_append]
  gi_wp2
  go_ret
  exact ⟨rfl, rfl⟩

set_option maxRecDepth 100000 in
set_option maxHeartbeats 2000000 in
theorem table_in (v u : Value) (a b : List ByteArray) (w : World) (hv : SlV w v (a.map Value.string)) (hu : SlV w u (b.map Value.string)) (ha : a.length ≤ 400) (hb : b.length ≤ 400) :
    CallsIn Fence.wide 0 Tryz.prog 193 #[v, u] w fun e w' => ∃ G R, e = .returned (.slice (some ⟨G, 0, none⟩) (a.length + 1) (a.length + 1)) ∧ Tab w' G a.length b.length 0 R (fillV a b 0 0) ∧ (∀ k, tabB G a.length 0 R k → w.heap.size ≤ k) ∧ Chg No w w' := by
  have hmix : Tryz.prog.follows .mixedOrders = true := by kernel_rfl
  obtain ⟨p, cp, rfl, hp1, hp2, hpc⟩ := id hv
  obtain ⟨q, cq, rfl, hq1, hq2, hqc⟩ := id hu
  rw [List.length_map] at hp1 hq1
  obtain ⟨n, HN⟩ : ∃ n, Hid (a.length = n) := ⟨_, rfl⟩
  obtain ⟨m, HM⟩ : ∃ m, Hid (b.length = m) := ⟨_, rfl⟩
  rw [List.length_map, HN.out] at hv
  rw [List.length_map, HM.out] at hu
  rw [List.length_map, List.length_map, HN.out, HM.out]
  rw [HN.out] at ha hp1
  rw [HM.out] at hb hq1
  have hmR := makeR n (by omega)
  have hmI := makeI m (by omega)
  clear hpc hqc
  refine callsIn_of_wp Tryz.func193 rfl trivial ?_
  simp only [Tryz.ntmps193, List.size_toArray, List.length_cons, List.length_nil, Nat.reduceAdd, Nat.reduceSub, Array.replicate_succ, Array.replicate_zero, List.push_toArray, List.append_toArray, List.nil_append, List.cons_append]
  have hT0 := Tab.empty w n m (fun _ => 0) (fun _ _ => 0)
  have c0 : Chg No w (w.alloc (.cells (madeCells #[.slice none 0 0] (n + 1)) 40)) := (Chg.refl _ w).alloc _
  gi_wp2
  generalize hG : w.heap.size = G at *
  gi_loopw [6] (fun vi wr => ∃ (r : Nat) (R : Nat → Nat), r ≤ n + 1 ∧ vi = .int .i64 ((r : Int) - 1) ∧ Tab wr G n m r R (fillV a b r 0) ∧ Hid (∀ k, tabB G n r R k → G ≤ k) ∧ Chg No w wr) (fun vi _ => (intOf vi + 1).toNat)
  case atStart =>
    refine ⟨n + 1, fun _ => 0, Nat.le_refl _, by go_num, hT0.congr (fun i j h1 h2 _ => by omega), ?_, c0⟩
    rintro k (rfl | ⟨i, h1, h2, _⟩)
    · exact Nat.le_refl _
    · omega
  case round =>
    obtain ⟨r, R, hr, rfl, hT, HOW, cw⟩ := hrel
    by_cases hlt : 0 < r
    · obtain ⟨x, rfl⟩ : ∃ x, r = x + 1 := ⟨r - 1, by omega⟩
      have hxI : ((x + 1 : Nat) : Int) - 1 = (x : Int) := by omega
      rw [hxI]
      have hxn : x ≤ n := by omega
      have hx1 : (x : Int) < (n : Int) + 1 := by omega
      have hx0 : (0 : Int) ≤ (x : Int) := by omega
      have hT5 : Tab ((wr.alloc (.cells (madeCells #[.int .i64 0] (m + 1)) 3)).setCell ⟨G, x, none⟩ (.slice (some ⟨wr.heap.size, 0, none⟩) (m + 1) (m + 1))) G n m x (fun i => if i = x then wr.heap.size else R i) (fillV a b x m) := by
        refine (hT.new hxn).congr (fun i j h1 h2 h3 => ?_)
        by_cases e : i = x
        · subst e
          rw [if_pos rfl]
          unfold fillV
          split
          · obtain rfl : j = m := by omega
            rw [← HM.out, tl_end']
            rfl
          · rfl
        · rw [if_neg e, fillV_old _ (show x < i by omega)]
          unfold fillV
          rw [if_pos (by omega)]
      have hGs : G < wr.heap.size := hT.outer.lt
      have cT : Chg No w ((wr.alloc (.cells (madeCells #[.int .i64 0] (m + 1)) 3)).setCell ⟨G, x, none⟩ (.slice (some ⟨wr.heap.size, 0, none⟩) (m + 1) (m + 1))) := (cw.alloc _).setCell (p := ⟨G, x, none⟩) (.inr (by rw [hG]; exact Nat.le_refl _)) _
      have hcl : (wr.alloc (.cells (madeCells #[.int .i64 0] (m + 1)) 3)).cell? ⟨G, x, none⟩ = some (.slice none 0 0) := by
        have := (hT.outer.alloc (.cells (madeCells #[.int .i64 0] (m + 1)) 3)).cell (i := x) (by omega)
        rw [if_neg (by omega)] at this
        exact this
      have hfl := (hT.outer.alloc (.cells (madeCells #[.int .i64 0] (m + 1)) 3)).frozen x
      have hRn : Hid (∀ i, x + 1 ≤ i → i ≤ n → R i < wr.heap.size ∧ G ≤ R i) := fun i h1 h2 => ⟨hT.lt _ (.inr ⟨i, h1, h2, rfl⟩), HOW.out _ (.inr ⟨i, h1, h2, rfl⟩)⟩
      obtain ⟨N, hN⟩ : ∃ N, wr.heap.size = N := ⟨_, rfl⟩
      rw [hN] at hT5 hRn hGs cT
      have hcomm : (wr.alloc (.cells (madeCells #[.int .i64 0] (m + 1)) 3)).setCell ⟨G, x, none⟩ (.slice (some ⟨N, 0, none⟩) (m + 1) (m + 1)) = (wr.setCell ⟨G, x, none⟩ (.slice (some ⟨N, 0, none⟩) (m + 1) (m + 1))).alloc (.cells (madeCells #[.int .i64 0] (m + 1)) 3) := by
        exact World.setCell_alloc_past _ _ _ _ (by omega)
      rw [hcomm] at hT5 cT
      clear hcomm
      gi_wp2
      have HG : Hid (w.heap.size = G) := hG
      have hc1 : Chg No w _ := cT
      generalize ((wr.setCell ⟨G, x, none⟩ (.slice (some ⟨N, 0, none⟩) (m + 1) (m + 1))).alloc (.cells (madeCells #[.int .i64 0] (m + 1)) 3)) = W5 at *
      clear hcl hfl hT cw hG hN cT hT0 c0 hmR hmI
      have HEnd : Hid (∀ wz, Tab wz G n m x (fun i => if i = x then N else R i) (fillV a b x 0) → Chg No w wz → ∃ R', Tab wz G n m x R' (fillV a b x 0) ∧ Hid (∀ k, tabB G n x R' k → G ≤ k)) := by
        intro wz hz _
        refine ⟨_, hz, ?_⟩
        rintro k (rfl | ⟨i, h1, h2, hk⟩)
        · exact Nat.le_refl _
        · by_cases e : i = x
          · simp only [if_pos e] at hk; omega
          · simp only [if_neg e] at hk
            have := (hRn.out i (by omega) h2).2
            omega
      gi_loopw [7] (fun vj wr => ∃ c : Nat, c ≤ m ∧ vj = .int .i64 ((c : Int) - 1) ∧ Tab wr G n m x (fun i => if i = x then N else R i) (fillV a b x c) ∧ Chg No w wr) (fun vj _ => (intOf vj + 1).toNat)
      case atStart => exact ⟨m, Nat.le_refl _, by go_num, hT5, hc1⟩
      case round =>
        obtain ⟨c, hc, rfl, h, cw⟩ := hrel
        by_cases hxx : x < n
        · have hxx' : (x : Int) < (n : Int) := by omega
          by_cases hcl : 0 < c
          · obtain ⟨j, rfl⟩ : ∃ j, c = j + 1 := ⟨c - 1, by omega⟩
            have hjI : ((j + 1 : Nat) : Int) - 1 = (j : Int) := by omega
            rw [hjI]
            have hjm : j < m := by omega
            have hj0 : (0 : Int) ≤ (j : Int) := by omega
            have hxa : x < a.length := by rw [HN.out]; exact hxx
            have hjb : j < b.length := by rw [HM.out]; exact hjm
            obtain ⟨ax, hax⟩ : ∃ ax, a[x] = ax := ⟨_, rfl⟩
            obtain ⟨bj, hbj⟩ : ∃ bj, b[j] = bj := ⟨_, rfl⟩
            obtain ⟨ba, oa, rfl, hca⟩ : ∃ ba oa, p = some ⟨ba, oa, none⟩ ∧ wr.cell? ⟨ba, oa + x, none⟩ = some (.string ax) := by
              obtain ⟨p', cap', e, _, _, hcc⟩ := hv.no cw
              cases e
              exact hcc x (.string ax) (by rw [List.getElem?_map, List.getElem?_eq_getElem hxa, hax]; rfl)
            obtain ⟨bb, ob, rfl, hcb⟩ : ∃ bb ob, q = some ⟨bb, ob, none⟩ ∧ wr.cell? ⟨bb, ob + j, none⟩ = some (.string bj) := by
              obtain ⟨p', cap', e, _, _, hcc⟩ := hu.no cw
              cases e
              exact hcc j (.string bj) (by rw [List.getElem?_map, List.getElem?_eq_getElem hjb, hbj]; rfl)
            have HTL : Hid (tl (a.drop x) (b.drop j) = if ax = bj then tl (a.drop (x + 1)) (b.drop (j + 1)) + 1 else max (tl (a.drop (x + 1)) (b.drop j)) (tl (a.drop x) (b.drop (j + 1)))) := by
              have htl := tl_at a b x j hxa hjb
              rw [hax, hbj] at htl
              exact htl
            have r0 : wr.cell? ⟨G, x, none⟩ = some (.slice (some ⟨N, 0, none⟩) (m + 1) (m + 1)) := by
              have := h.row (i := x) (Nat.le_refl _) (by omega)
              simp only [if_pos] at this
              exact this
            have r1 : wr.cell? ⟨G, x + 1, none⟩ = some (.slice (some ⟨R (x + 1), 0, none⟩) (m + 1) (m + 1)) := by
              have := h.row (i := x + 1) (by omega) (by omega)
              simp only [if_neg (show ¬ x + 1 = x by omega)] at this
              exact this
            have hV1 : ∀ j', j' ≤ m → wr.cell? ⟨R (x + 1), j', none⟩ = some (.int .i64 (tl (a.drop (x + 1)) (b.drop j') : Int)) := by
              intro j' hj'
              have := h.num (i := x + 1) (by omega) (by omega) hj'
              rw [fillV_old _ (by omega)] at this
              simp only [if_neg (show ¬ x + 1 = x by omega)] at this
              exact this
            have v01 : wr.cell? ⟨N, j + 1, none⟩ = some (.int .i64 (tl (a.drop x) (b.drop (j + 1)) : Int)) := by
              have := h.num (i := x) (Nat.le_refl _) (by omega) (show j + 1 ≤ m by omega)
              rw [fillV_now (Nat.le_refl _)] at this
              simp only [if_pos] at this
              exact this
            obtain ⟨⟨uu, w1⟩, w2⟩ : (∃ u, wr.cell? ⟨N, j, none⟩ = some u) ∧ wr.frozen? ⟨N, j, none⟩ = false := by
              have h9 := h.inner x (Nat.le_refl _) (by omega)
              simp only [if_pos] at h9
              exact ⟨⟨_, h9.cell (by omega)⟩, h9.frozen j⟩
            have HP : Hid (∀ (k : Nat) (z : Int), z = (tl (a.drop x) (b.drop j) : Int) → Tab ((wr.drewN k).setCell ⟨N, j, none⟩ (.int .i64 z)) G n m x (fun i => if i = x then N else R i) (fillV a b x j) ∧ Chg No w ((wr.drewN k).setCell ⟨N, j, none⟩ (.int .i64 z))) := by
              intro k z hz
              refine ⟨?_, (drewNC cw k).setCell (p := ⟨N, j, none⟩) (.inr (by rw [HG.out]; exact Nat.le_of_lt hGs)) _⟩
              have h9 := (h.kept (W' := wr.drewN k) (fun _ _ => rfl)).put (i := x) (Nat.le_refl _) (by omega) j z
              simp only [if_pos] at h9
              refine h9.congr (fun i j' e1 e2 e3 => ?_)
              by_cases ei : i = x
              · subst ei
                by_cases ej : j' = j
                · subst ej
                  rw [if_pos ⟨rfl, rfl⟩, fillV_now (Nat.le_refl _), hz]
                · rw [if_neg (fun h => ej h.2)]
                  by_cases hjj : j ≤ j'
                  · rw [fillV_now (by omega), fillV_now hjj]
                  · unfold fillV
                    rw [if_neg (by omega), if_neg (by omega)]
              · rw [if_neg (fun h => ei h.1), fillV_old _ (by omega), fillV_old _ (by omega)]
            have v11 := hV1 (j + 1) (by omega)
            have v10 := hV1 j (by omega)
            have hx2 : (x : Int) + 1 < (n : Int) + 1 := by omega
            have hj1 : (j : Int) < (m : Int) + 1 := by omega
            have hj2 : (j : Int) + 1 < (m : Int) + 1 := by omega
            have hjm' : (j : Int) < (m : Int) := by omega
            have hbd := (tl_le (a.drop (x + 1)) (b.drop (j + 1))).1
            rw [List.length_drop, HN.out] at hbd
            clear hV1 hax hbj hxa hjb h hT5
            generalize tl (a.drop (x + 1)) (b.drop (j + 1)) = t11 at *
            generalize tl (a.drop (x + 1)) (b.drop j) = t10 at *
            generalize tl (a.drop x) (b.drop (j + 1)) = t01 at *
            generalize tl (a.drop x) (b.drop j) = t00 at *
            generalize R (x + 1) = Rx at *
            by_cases hxy : ax = bj
            · have hb : (ax.toList == bj.toList) = true := by rw [hxy]; simp
              have HT0 : Hid (((1 : Int) + (t11 : Int)) = (t00 : Int)) := by
                have := HTL.out
                rw [if_pos hxy] at this
                show _ = _
                omega
              clear hxy HTL
              gi_wp2
              refine wpIn_region_quiet_lit rfl hmix (by kernel_rfl) ?_
              repeat (gi_big_quiet_step (fail))
              refine wpQuietIn_nil ?_
              rintro w' ⟨k1, rfl⟩
              gi_wp2
              refine region_store_lit hmix rfl (by kernel_rfl) (by kernel_rfl) rfl ?_
              simp only [lastHush, hush, List.replicate, List.length_cons, List.length_nil, List.nil_append, List.cons_append, Nat.reduceAdd, Nat.reduceSub]
              repeat (gi_big_quiet_step (fail))
              refine wpQuietIn_nil ?_
              rintro w' ⟨k, rfl⟩
              refine ⟨(wr.drewN (k1 + k)).setCell ⟨N, j, none⟩ (.int .i64 ((1 : Int) + (t11 : Int))), ?_, ?_⟩
              · simp [execOp, go_sem, w1, w2]
              obtain ⟨hz1, hz2⟩ := HP.out (k1 + k) _ HT0.out
              gi_wp2
              go_roundw
              case rel => exact ⟨j, by omega, by go_num, hz1, hz2⟩
              case measure => simp [intOf]
            · have hb : (ax.toList == bj.toList) = false := by rw [beq_eq_false_iff_ne]; exact fun h => hxy (text_ext h)
              have HT0 : Hid ((if t10 < t01 then (t01 : Int) else (t10 : Int)) = (t00 : Int)) := by
                have := HTL.out
                rw [if_neg hxy] at this
                rw [this]
                show _ = _
                split <;> omega
              clear hxy HTL
              gi_wp2
              refine wpIn_region_quiet_lit rfl hmix (by kernel_rfl) ?_
              repeat (gi_big_quiet_step (fail))
              refine wpQuietIn_nil ?_
              rintro w' ⟨k1, rfl⟩
              gi_wp2
              refine region_store_lit hmix rfl (by kernel_rfl) (by kernel_rfl) rfl ?_
              simp only [lastHush, hush, List.replicate, List.length_cons, List.length_nil, List.nil_append, List.cons_append, Nat.reduceAdd, Nat.reduceSub]
              repeat (gi_big_quiet_step (fail))
              refine wpQuietIn_nil ?_
              rintro w' ⟨k, rfl⟩
              refine ⟨(wr.drewN (k1 + k)).setCell ⟨N, j, none⟩ (.int .i64 (if t10 < t01 then (t01 : Int) else (t10 : Int))), ?_, ?_⟩
              · simp [execOp, go_sem, w1, w2]
                try (congr 2; split <;> omega)
              rw [HT0.out]
              obtain ⟨hz1, hz2⟩ := HP.out (k1 + k) _ rfl
              gi_wp2
              go_roundw
              case rel => exact ⟨j, by omega, by go_num, hz1, hz2⟩
              case measure => simp [intOf]
          · obtain rfl : c = 0 := by omega
            have hneg : ((0 : Nat) : Int) - 1 = -1 := by omega
            rw [hneg]
            clear hneg
            obtain ⟨R', h1, h2⟩ := HEnd.out _ h cw
            gi_wp2
            go_roundw
            case rel => exact ⟨x, R', by omega, by go_num, h1, h2, cw⟩
            case measure => simp [intOf]
        · have hxx' : ¬ (x : Int) < (n : Int) := by omega
          have hxn' : x = n := by omega
          have h' : Tab wr G n m x (fun i => if i = x then N else R i) (fillV a b x 0) := by
            refine h.congr (fun i j' e1 e2 e3 => ?_)
            obtain rfl : i = x := by omega
            rw [fillV_now (Nat.zero_le _)]
            unfold fillV
            have hz : tl (a.drop i) (b.drop j') = 0 := by rw [hxn', ← HN.out, tl_end]
            rw [hz]
            split <;> rfl
          clear hxn'
          obtain ⟨R', h1, h2⟩ := HEnd.out _ h' cw
          by_cases hcl : 0 < c
          · have hc0 : (0 : Int) ≤ (c : Int) - 1 := by omega
            gi_wp2
            go_roundw
            case rel => exact ⟨x, R', by omega, by go_num, h1, h2, cw⟩
            case measure => simp [intOf]
          · have hc0 : ¬ (0 : Int) ≤ (c : Int) - 1 := by omega
            gi_wp2
            go_roundw
            case rel => exact ⟨x, R', by omega, by go_num, h1, h2, cw⟩
            case measure => simp [intOf]
    · obtain rfl : r = 0 := by omega
      have hneg : ((0 : Nat) : Int) - 1 = -1 := by omega
      rw [hneg]
      clear hneg
      gi_wp2
      go_ret
      exact ⟨G, R, rfl, hT, fun k hk => by rw [hG]; exact HOW.out k hk, cw⟩

end Go.Proofs.YtakbeololabmhaaGreatDoor

end
section
-- RPairs
namespace Go.Proofs.YtakbeololabmhaaGreatDoor
open Go.RowKit Go.Shelf Go.SeqLib Go.DiffLib Go.BigFrame
attribute [local go_sem] Oper.semAt_some

set_option maxRecDepth 100000 in
set_option maxHeartbeats 1000000 in
theorem refPairs_in (v u : Value) (a b : List ByteArray) (w : World) (hv : SlV w v (a.map Value.string)) (hu : SlV w u (b.map Value.string)) (ha : a.length ≤ 400) (hb : b.length ≤ 400) :
    CallsIn Fence.wide 0 Tryz.prog 184 #[v, u] w fun e w' => ∃ v', e = .returned v' ∧ w'.ownsRow w.heap.size 208 2 v' (pr a b 0 0).length ((pr a b 0 0).flatMap eP) ∧ Chg No w w' := by
  have hmix : Tryz.prog.follows .mixedOrders = true := by kernel_rfl
  obtain ⟨i0, hi, hz0, hz1, hz2⟩ := info_parts info208
  obtain ⟨p, cp, rfl, hp1, hp2, hpc⟩ := id hv
  obtain ⟨q, cq, rfl, hq1, hq2, hqc⟩ := id hu
  have HT := table_in _ _ a b w hv hu (by omega) (by omega)
  have hv0 := hv
  have hu0 := hu
  rw [List.length_map] at hp1 hq1
  obtain ⟨n, HN⟩ : ∃ n, Hid (a.length = n) := ⟨_, rfl⟩
  obtain ⟨m, HM⟩ : ∃ m, Hid (b.length = m) := ⟨_, rfl⟩
  rw [List.length_map, HN.out] at hv
  rw [List.length_map, HM.out] at hu
  rw [List.length_map, List.length_map, HN.out, HM.out] at HT
  rw [List.length_map, List.length_map, HN.out, HM.out]
  rw [HN.out] at ha hp1
  rw [HM.out] at hb hq1
  have hl := refGreat_in p q n m cp cq ha hb w
  clear hpc hqc hv0 hu0
  obtain ⟨tot, HTot⟩ : ∃ t, Hid (pr a b 0 0 = t) := ⟨_, rfl⟩
  rw [HTot.out]
  have HB : Hid (tot.length ≤ 400) := by
    show _ ≤ _
    rw [← HTot.out, pr_length]
    exact Nat.le_trans (tl_le a b).1 (by rw [HN.out]; exact ha)
  refine callsIn_of_wp Tryz.func184 rfl trivial ?_
  simp only [Tryz.ntmps184, List.size_toArray, List.length_cons, List.length_nil, Nat.reduceAdd, Nat.reduceSub, Array.replicate_succ, Array.replicate_zero, List.push_toArray, List.append_toArray, List.nil_append, List.cons_append]
  gi_wp2_with fail
  refine ⟨trivial, rfl, hl.mono ?_⟩
  rintro e w1 ⟨rfl, rfl⟩
  gi_wp2_with fail
  refine ⟨trivial, rfl, HT.mono ?_⟩
  rintro e w2 ⟨G, R, rfl, hT, hown, c⟩
  clear HT hl
  have hv2 := hv.no c
  have hu2 := hu.no c
  gi_wp2
  gi_loopw [6, 7, 8] (fun v i j wr => ∃ (acc : List (Nat × Nat)) (ki kj : Nat), ki ≤ n ∧ kj ≤ m ∧ i = .int .i64 (ki : Int) ∧ j = .int .i64 (kj : Int) ∧ Hid (acc ++ pr (a.drop ki) (b.drop kj) ki kj = tot) ∧ wr.ownsRow w2.heap.size 208 2 v acc.length (acc.flatMap eP) ∧ Chg No w2 wr) (fun v i j _ => (n - (intOf i).toNat) + (m - (intOf j).toNat))
  case atStart => exact ⟨[], 0, 0, Nat.zero_le _, Nat.zero_le _, rfl, rfl, by show _ = _; simpa using HTot.out, World.ownsRow_nil _ _ _ _, Chg.refl _ _⟩
  case round =>
    obtain ⟨acc, ki, kj, hki, hkj, rfl, rfl, HA, hr, cw⟩ := hrel
    by_cases hlt : ki < n ∧ kj < m
    · obtain ⟨hlt1, hlt2⟩ := hlt
      have h1 : (ki : Int) < (n : Int) := by omega
      have h2 : (kj : Int) < (m : Int) := by omega
      have hka : ki < a.length := by rw [HN.out]; exact hlt1
      have hkb : kj < b.length := by rw [HM.out]; exact hlt2
      have hat := pr_at a b ki kj hka hkb
      obtain ⟨x, hx⟩ : ∃ x, a[ki] = x := ⟨_, rfl⟩
      obtain ⟨y, hy⟩ : ∃ y, b[kj] = y := ⟨_, rfl⟩
      rw [hx, hy] at hat
      obtain ⟨ba, oa, rfl, hca⟩ : ∃ ba oa, p = some ⟨ba, oa, none⟩ ∧ wr.cell? ⟨ba, oa + ki, none⟩ = some (.string x) := by
        obtain ⟨p', cap', e, _, _, hc⟩ := hv2.no cw
        cases e
        exact hc ki (.string x) (by rw [List.getElem?_map, List.getElem?_eq_getElem hka, hx]; rfl)
      obtain ⟨bb, ob, rfl, hcb⟩ : ∃ bb ob, q = some ⟨bb, ob, none⟩ ∧ wr.cell? ⟨bb, ob + kj, none⟩ = some (.string y) := by
        obtain ⟨p', cap', e, _, _, hc⟩ := hu2.no cw
        cases e
        exact hc kj (.string y) (by rw [List.getElem?_map, List.getElem?_eq_getElem hkb, hy]; rfl)
      have HAt : Hid (pr (a.drop ki) (b.drop kj) ki kj = if x = y then (ki, kj) :: pr (a.drop (ki + 1)) (b.drop (kj + 1)) (ki + 1) (kj + 1)
        else if tl (a.drop ki) (b.drop (kj + 1)) ≤ tl (a.drop (ki + 1)) (b.drop kj) then pr (a.drop (ki + 1)) (b.drop kj) (ki + 1) kj else pr (a.drop ki) (b.drop (kj + 1)) ki (kj + 1)) := hat
      clear hat hx hy hka hkb
      have hT3 := hT.chg cw (fun _ _ h => h)
      have r0 := hT3.row (i := ki) (Nat.zero_le _) (by omega)
      have r1 := hT3.row (i := ki + 1) (Nat.zero_le _) (by omega)
      have v10 := hT3.num (i := ki + 1) (j := kj) (Nat.zero_le _) (by omega) (by omega)
      have v01 := hT3.num (i := ki) (j := kj + 1) (Nat.zero_le _) (by omega) (by omega)
      rw [fillV_old _ (by omega)] at v10
      have e01 : fillV a b 0 0 ki (kj + 1) = (tl (a.drop ki) (b.drop (kj + 1)) : Int) := by unfold fillV; rw [if_pos (by omega)]
      rw [e01] at v01
      clear e01
      generalize R ki = Rk at *
      generalize R (ki + 1) = Rk1 at *
      obtain ⟨t10, ht10⟩ : ∃ t, Hid (tl (a.drop (ki + 1)) (b.drop kj) = t) := ⟨_, rfl⟩
      obtain ⟨t01, ht01⟩ : ∃ t, Hid (tl (a.drop ki) (b.drop (kj + 1)) = t) := ⟨_, rfl⟩
      rw [ht10.out] at v10 HAt
      rw [ht01.out] at v01 HAt
      have hx1 : (ki : Int) < (n : Int) + 1 := by omega
      have hx2 : (ki : Int) + 1 < (n : Int) + 1 := by omega
      have hj1 : (kj : Int) < (m : Int) + 1 := by omega
      have hj2 : (kj : Int) + 1 < (m : Int) + 1 := by omega
      obtain ⟨z, hz⟩ : ∃ z, decide (x = y) = z := ⟨_, rfl⟩
      have hzb : (x.toList == y.toList) = z := by
        rw [← hz]
        by_cases h : x = y
        · rw [h]; simp
        · rw [decide_eq_false h, beq_eq_false_iff_ne]; exact fun e => h (text_ext e)
      obtain ⟨pr0, cr0, rfl⟩ := row_slice hr
      gi_wp2
      refine wpIn_region_quiet_lit rfl hmix (by kernel_rfl) ?_
      repeat (gi_big_quiet_step (fail))
      refine wpQuietIn_nil ?_
      rintro w' ⟨k, rfl⟩
      have cw2 := drewNC cw k
      have hr2 : (wr.drewN k).ownsRow w2.heap.size 208 2 (.slice pr0 acc.length cr0) acc.length (acc.flatMap eP) := hr
      cases z
      · -- unlike
        have hne := of_decide_eq_false hz
        by_cases hge : t01 ≤ t10
        · have hge' : (t01 : Int) ≤ (t10 : Int) := by omega
          have HA2 : Hid (acc ++ pr (a.drop (ki + 1)) (b.drop kj) (ki + 1) kj = tot) := by
            have := HA.out
            rw [HAt.out, if_neg hne, if_pos hge] at this
            exact this
          clear hne hge HAt hzb hz hr
          gi_wp2
          refine wpIn_region_quiet_lit rfl hmix (by kernel_rfl) ?_
          repeat (gi_big_quiet_step (fail))
          refine wpQuietIn_nil ?_
          rintro w' ⟨k2, rfl⟩
          gi_wp2
          go_roundw
          case rel => exact ⟨acc, ki + 1, kj, hlt1, hkj, by go_num, rfl, HA2, hr2, drewNC cw _⟩
          case measure => simp [intOf]; omega
        · have hge' : ¬ (t01 : Int) ≤ (t10 : Int) := by omega
          have HA2 : Hid (acc ++ pr (a.drop ki) (b.drop (kj + 1)) ki (kj + 1) = tot) := by
            have := HA.out
            rw [HAt.out, if_neg hne, if_neg hge] at this
            exact this
          clear hne hge HAt hzb hz hr
          gi_wp2
          refine wpIn_region_quiet_lit rfl hmix (by kernel_rfl) ?_
          repeat (gi_big_quiet_step (fail))
          refine wpQuietIn_nil ?_
          rintro w' ⟨k2, rfl⟩
          gi_wp2
          go_roundw
          case rel => exact ⟨acc, ki, kj + 1, hki, hlt2, rfl, by go_num, HA2, hr2, drewNC cw _⟩
          case measure => simp [intOf]; omega
      · have hxy := of_decide_eq_true hz
        have HA2 : Hid ((acc ++ [(ki, kj)]) ++ pr (a.drop (ki + 1)) (b.drop (kj + 1)) (ki + 1) (kj + 1) = tot) := by
          have := HA.out
          rw [HAt.out, if_pos hxy] at this
          rw [List.append_assoc]
          exact this
        have hacc : acc.length + 1 ≤ 400 := by
          have h9 := congrArg List.length HA2.out
          have := HB.out
          simp only [List.length_append, List.length_singleton] at h9
          omega
        have hmx : acc.length + 1 ≤ maxLen := by unfold maxLen; omega
        have hbs : w2.heap.size ≤ ((wr.drewN k).alloc (.cells #[.int .i64 (ki : Int), .int .i64 (kj : Int)] 208)).heap.size := (cw2.alloc _).size
        have hcn := cells_new (wr.drewN k) [.int .i64 (ki : Int), .int .i64 (kj : Int)] 208
        have hsz : (wr.drewN k).heap.size = wr.heap.size := rfl
        clear hxy HAt hzb hz hr
        gi_wp2_with (gi_at_builtin; refine wpListIn_append_at _ rfl _ _ 206 rfl w2.heap.size 208 i0 (.agg #[.int .i64 0, .int .i64 0]) 2 16 Tryz.underlying206 hi hz0 hz1 hz2 rfl (by decide) _ _ _ rfl (hr2.alloc _) ⟨wr.heap.size, 0, none⟩ 1 1 [.int .i64 (ki : Int), .int .i64 (kj : Int)] rfl rfl hcn (by simp [Value.oneCell']) hmx (by omega) hbs ?_; intro v' w1 hown' hgrow _ hat; have c1 : Chg No w2 w1 := (cw2.alloc _).grown hgrow (fun k e => .inr (hr2.lt k e).1))
        go_roundw
        case rel => exact ⟨acc ++ [(ki, kj)], ki + 1, kj + 1, hlt1, hlt2, by go_num, by go_num, HA2, by rw [List.length_append, List.flatMap_append]; exact hown', c1⟩
        case measure => simp [intOf]; omega
    · obtain ⟨pr0, cr0, rfl⟩ := row_slice hr
      have HD : Hid (acc = tot) := by
        have := HA.out
        rw [pr_end a b ki kj (by rw [HN.out, HM.out]; exact hlt), List.append_nil] at this
        exact this
      have hres : wr.ownsRow w1.heap.size 208 2 (.slice pr0 acc.length cr0) tot.length (tot.flatMap eP) := by
        have := rowBase hr c.size
        rw [HD.out] at this ⊢
        exact this
      by_cases h1 : ki < n
      · have h1' : (ki : Int) < (n : Int) := by omega
        have h2' : ¬ (kj : Int) < (m : Int) := by omega
        gi_wp2
        go_ret
        exact ⟨_, rfl, hres, Chg.seq c cw⟩
      · have h1' : ¬ (ki : Int) < (n : Int) := by omega
        gi_wp2
        go_ret
        exact ⟨_, rfl, hres, Chg.seq c cw⟩

end Go.Proofs.YtakbeololabmhaaGreatDoor

end
