/-
  The document's own answers of chapter 3: Split, Join, Binary and Few.
-/
import Derived.Test.YtookalebfbkedaaLineC
import Derived.Lib.AppendStr
import Derived.Laws.IdiomStrings
import Derived.Laws.BytesArg
namespace Go.LineLib
open Go

/-- The lines behind a place, where the first of them ends at i. -/
theorem linesL_cut (l : List UInt8) (a i : Nat) (hai : a ≤ i) (hi : i < l.length) (h1 : ∀ j, a ≤ j → j < i → l[j]? ≠ some 10) (h2 : l[i]? = some 10 ∨ i + 1 = l.length) :
    linesL (l.drop a) = ((l.drop a).take (i + 1 - a)) :: linesL (l.drop (i + 1)) := by
  have hne : l.drop a ≠ [] := by
    intro h
    have := congrArg List.length h
    rw [List.length_drop] at this
    simp at this
    omega
  have he : endL (l.drop a) = (i - a) + 1 := by
    refine endL_at (l.drop a) (i - a) (by rw [List.length_drop]; omega) (fun j hj => ?_) ?_
    · rw [List.getElem?_drop]; exact h1 (a + j) (by omega) (by omega)
    · rw [List.getElem?_drop, List.length_drop, show a + (i - a) = i by omega]
      rcases h2 with h | h
      · exact .inl h
      · exact .inr (by omega)
  rw [linesL_first hne, he, List.drop_drop, show a + (i - a + 1) = i + 1 by omega, show i - a + 1 = i + 1 - a by omega]

/-- As texts: what stands in out, the place at which the next line begins, how far it was looked. -/
def SplitAt (s : ByteArray) (pre : List ByteArray) (a i : Nat) : Prop :=
  a ≤ i ∧ i ≤ s.size ∧ (pre ++ (linesL ((L s).drop a)).map T = linesB s) ∧ (∀ j, a ≤ j → j < i → (L s)[j]? ≠ some 10) ∧ (i = s.size → a = s.size)

theorem SplitAt.start (s : ByteArray) : SplitAt s [] 0 0 := ⟨Nat.le_refl _, Nat.zero_le _, rfl, fun j h1 h2 => by omega, fun h => h⟩
theorem SplitAt.take {s : ByteArray} {pre : List ByteArray} {a i : Nat} (h : SplitAt s pre a i) (hi : i < s.size) (h2 : (s[i]'hi).toNat = 10 ∨ i + 1 = s.size) : SplitAt s (pre ++ [s.extract a (i + 1)]) (i + 1) (i + 1) := by
  obtain ⟨k1, k2, k3, k4, k5⟩ := h
  refine ⟨Nat.le_refl _, hi, ?_, fun j h1 h2 => by omega, fun h => h⟩
  have := linesL_cut (L s) a i k1 hi k4 (by
    rcases h2 with h | h
    · left
      rw [List.getElem?_eq_getElem (show i < (L s).length from hi)]
      exact congrArg some (UInt8.toNat.inj h)
    · exact .inr h)
  rw [this, List.map_cons, ← extract_T] at k3
  rw [← k3]
  simp
theorem SplitAt.pass {s : ByteArray} {pre : List ByteArray} {a i : Nat} (h : SplitAt s pre a i) (hi : i < s.size) (h1 : ¬ (s[i]'hi).toNat = 10) (h2 : ¬ i + 1 = s.size) : SplitAt s pre a (i + 1) := by
  obtain ⟨k1, k2, k3, k4, k5⟩ := h
  refine ⟨by omega, hi, k3, fun j g1 g2 => ?_, fun h => absurd h h2⟩
  by_cases e : j = i
  · subst e
    rw [List.getElem?_eq_getElem (show j < (L s).length from hi)]
    intro h
    exact h1 (congrArg UInt8.toNat (Option.some.inj h))
  · exact k4 j g1 (by omega)
theorem SplitAt.done {s : ByteArray} {pre : List ByteArray} {a : Nat} (h : SplitAt s pre a s.size) : pre = linesB s := by
  obtain ⟨k1, k2, k3, k4, k5⟩ := h
  rw [k5 rfl, List.drop_eq_nil_of_le (show (L s).length ≤ s.size from Nat.le_refl _)] at k3
  simpa [linesL] using k3
theorem SplitAt.len {s : ByteArray} {pre : List ByteArray} {a i : Nat} (h : SplitAt s pre a i) : pre.length ≤ s.size := by
  have h1 := congrArg List.length h.2.2.1
  rw [List.length_append] at h1
  have := linesB_len s
  omega

end Go.LineLib
namespace Go.Proofs.Ytookalebfbkedaa
open Go.RowKit Go.Shelf Go.SeqLib Go.LineLib
open Go.Lib (strCells run_append_own_string)
attribute [local go_sem] Oper.semAt_some

set_option maxRecDepth 100000 in
set_option maxHeartbeats 1000000 in
theorem refSplit_in (s : ByteArray) (hs : s.size ≤ 100000) (w : World) : CallsIn Fence.wide 0 Try.prog 19 #[.string s] w fun e w' =>
    ∃ v, e = .returned v ∧ w'.ownsRow w.heap.size 9 1 v (linesB s).length ((linesB s).map Value.string) ∧ Chg No w w' := by
  obtain ⟨i0, hi, hz0, hz1, hz2⟩ := info_parts info9
  refine callsIn_of_wp Try.func19 rfl trivial ?_
  simp only [Try.ntmps19, List.size_toArray, List.length_cons, List.length_nil, Nat.reduceAdd, Nat.reduceSub, Array.replicate_succ, Array.replicate_zero, List.push_toArray, List.append_toArray, List.nil_append, List.cons_append]
  gi_wp2
  gi_loopw [3, 4, 5] (fun v a i wr => ∃ (pre : List ByteArray) (ka ki : Nat), Hid (SplitAt s pre ka ki) ∧ ka ≤ ki ∧ ki ≤ s.size ∧ a = .int .i64 (ka : Int) ∧ i = .int .i64 (ki : Int) ∧ wr.ownsRow w.heap.size 9 1 v pre.length (pre.map Value.string) ∧ Chg No w wr) (fun v a i _ => s.size - (intOf i).toNat)
  case atStart => exact ⟨[], 0, 0, SplitAt.start s, Nat.le_refl _, Nat.zero_le _, rfl, rfl, World.ownsRow_nil _ _ _ _, Chg.refl _ _⟩
  case round =>
    obtain ⟨pre, ka, ki, HS, hka, hki, rfl, rfl, hr, c⟩ := hrel
    have hpl : pre.length ≤ 100000 := Nat.le_trans HS.out.len hs
    by_cases hlt : ki < s.size
    · have hlt' : (ki : Int) < (s.size : Int) := by omega
      have hmx : pre.length + 1 ≤ maxLen := by unfold maxLen; omega
      have hbs : w.heap.size ≤ (wr.alloc (.cells #[.string (s.extract ka (ki + 1))] 9)).heap.size := (c.alloc _).size
      obtain ⟨p, cap, rfl⟩ := row_slice hr
      have hcut : ∀ w0 : World, (Instr.slice 9 (.string s) (some (.int .i64 (ka : Int))) (some (.int .i64 ((ki : Int) + 1))) none).run Try.prog w0 = .ok (.string (s.extract ka (ki + 1))) w0 := by
        intro w0
        have := run_slice_string (P := Try.prog) w0 9 s .i64 .i64 (ka : Int) ((ki : Int) + 1) Try.underlying9 (by omega) (by omega) (by omega)
        rw [this, Int.toNat_natCast, show ((ki : Int) + 1).toNat = ki + 1 by omega]
      by_cases h10 : (s[ki]'hlt).toNat = 10
      · have h10' : (((s[ki]'hlt).toNat : Int) == 10) = true := by rw [h10]; rfl
        have HT : Hid (SplitAt s (pre ++ [s.extract ka (ki + 1)]) (ki + 1) (ki + 1)) := HS.out.take hlt (.inl h10)
        gi_wp2_with (gi_at_builtin; refine wpListIn_append_at _ rfl _ _ 29 rfl w.heap.size 9 i0 (.string ⟨#[]⟩) 1 16 Try.underlying29 hi hz0 hz1 hz2 rfl (by decide) _ _ _ rfl (hr.alloc _) ⟨wr.heap.size, 0, none⟩ 1 1 [.string (s.extract ka (ki + 1))] rfl rfl (cell_one_new _ _ _) (by simp [Value.oneCell']) hmx (by omega) hbs ?_; intro v' w1 hown' hgrow _ hat; have c1 : Chg No w w1 := (c.alloc _).grown hgrow (fun k e => .inr (hr.lt k e).1))
        go_roundw
        case rel => exact ⟨pre ++ [s.extract ka (ki + 1)], ki + 1, ki + 1, HT, Nat.le_refl _, hlt, by go_num, by go_num, by rw [List.length_append, List.map_append]; exact hown', c1⟩
        case measure => simp [intOf]; omega
      · have h10' : (((s[ki]'hlt).toNat : Int) == 10) = false := by rw [beq_eq_false_iff_ne]; omega
        by_cases hend : ki + 1 = s.size
        · have hend' : (((ki : Int) + 1) == (s.size : Int)) = true := by rw [beq_iff_eq]; omega
          have hendI : Hid (((ki + 1 : Nat) : Int) = (s.size : Int)) := by show _ = _; omega
          have HT : Hid (SplitAt s (pre ++ [s.extract ka (ki + 1)]) (ki + 1) (ki + 1)) := HS.out.take hlt (.inr hend)
          have hcut2 : ∀ w0 : World, (Instr.slice 9 (.string s) (some (.int .i64 (ka : Int))) (some (.int .i64 (s.size : Int))) none).run Try.prog w0 = .ok (.string (s.extract ka (ki + 1))) w0 := by
            intro w0
            rw [← hendI.out]
            exact hcut w0
          generalize s.extract ka (ki + 1) = X at *
          clear hend
          gi_wp2_with (gi_at_builtin; refine wpListIn_append_at _ rfl _ _ 29 rfl w.heap.size 9 i0 (.string ⟨#[]⟩) 1 16 Try.underlying29 hi hz0 hz1 hz2 rfl (by decide) _ _ _ rfl (hr.alloc _) ⟨wr.heap.size, 0, none⟩ 1 1 [.string X] rfl rfl (cell_one_new _ _ _) (by simp [Value.oneCell']) hmx (by omega) hbs ?_; intro v' w1 hown' hgrow _ hat; have c1 : Chg No w w1 := (c.alloc _).grown hgrow (fun k e => .inr (hr.lt k e).1))
          go_roundw
          case rel => exact ⟨pre ++ [X], ki + 1, ki + 1, HT, Nat.le_refl _, hlt, by first | go_num | rw [hendI.out], by first | go_num | rw [hendI.out], by rw [List.length_append, List.map_append]; exact hown', c1⟩
          case measure => simp [intOf]; omega
        · have hend' : (((ki : Int) + 1) == (s.size : Int)) = false := by rw [beq_eq_false_iff_ne]; omega
          have HT : Hid (SplitAt s pre ka (ki + 1)) := HS.out.pass hlt h10 hend
          gi_wp2
          go_roundw
          case rel => exact ⟨pre, ka, ki + 1, HT, by omega, hlt, rfl, by go_num, hr, c⟩
          case measure => simp [intOf]; omega
    · have hlt' : ¬ (ki : Int) < (s.size : Int) := by omega
      obtain ⟨p, cap, rfl⟩ := row_slice hr
      obtain rfl : ki = s.size := by omega
      have HD : Hid (pre = linesB s) := HS.out.done
      gi_wp2
      go_ret
      exact ⟨_, rfl, by rw [← HD.out]; exact hr, c⟩

theorem byte_zero {s : ByteArray} {k : Nat} (hk : k < s.size) (h : (s[k]'hk).toNat = 0) : (0 : UInt8) ∈ L s := by
  have h1 : (L s)[k]'(hk) = 0 := UInt8.toNat.inj h
  rw [← h1]
  exact List.getElem_mem _

set_option maxHeartbeats 1000000 in
theorem refBinary_in (s : ByteArray) (hs : s.size ≤ 100000) (w : World) : CallsIn Fence.wide 0 Try.prog 30 #[.string s] w fun e w' => e = .returned (.bool (decide ((0 : UInt8) ∈ L s))) ∧ w' = w := by
  obtain ⟨z, HZ⟩ : ∃ z, Hid (decide ((0 : UInt8) ∈ L s) = z) := ⟨_, rfl⟩
  rw [HZ.out]
  refine callsIn_of_wp Try.func30 rfl trivial ?_
  simp only [Try.ntmps30, List.size_toArray, List.length_cons, List.length_nil, Nat.reduceAdd, Nat.reduceSub, Array.replicate_succ, Array.replicate_zero, List.push_toArray, List.append_toArray, List.nil_append, List.cons_append]
  gi_wp2
  gi_loopw [3] (fun i wr => ∃ k : Nat, k ≤ s.size ∧ i = .int .i64 (k : Int) ∧ Hid ((0 : UInt8) ∉ (L s).take k) ∧ wr = w) (fun i _ => s.size - (intOf i).toNat)
  case atStart => exact ⟨0, Nat.zero_le _, rfl, (by show _ ∉ _; simp), rfl⟩
  case round =>
    obtain ⟨k, hk, rfl, HT, rfl⟩ := hrel
    by_cases hlt : k < s.size
    · have hlt' : (k : Int) < (s.size : Int) := by omega
      by_cases h0 : (s[k]'hlt).toNat = 0
      · have h0' : (((s[k]'hlt).toNat : Int) == 0) = true := by rw [h0]; rfl
        obtain rfl : z = true := by rw [← HZ.out]; exact decide_eq_true (byte_zero hlt h0)
        gi_wp2
        go_ret
        exact ⟨rfl, rfl⟩
      · have h0' : (((s[k]'hlt).toNat : Int) == 0) = false := by rw [beq_eq_false_iff_ne]; omega
        have HT2 : Hid ((0 : UInt8) ∉ (L s).take (k + 1)) := by
          show _ ∉ _
          rw [List.take_succ_eq_append_getElem (show k < (L s).length from hlt), List.mem_append]
          rintro (h | h)
          · exact HT.out h
          · rw [List.mem_singleton] at h
            exact h0 (congrArg UInt8.toNat h).symm
        gi_wp2
        go_roundw
        case rel => exact ⟨k + 1, hlt, by go_num, HT2, trivial⟩
        case measure => simp [intOf]; omega
    · have hlt' : ¬ (k : Int) < (s.size : Int) := by omega
      obtain rfl : k = s.size := by omega
      obtain rfl : z = false := by
        rw [← HZ.out]
        refine decide_eq_false ?_
        have := HT.out
        rwa [List.take_of_length_le (show (L s).length ≤ s.size from Nat.le_refl _)] at this
      gi_wp2
      go_ret
      exact ⟨rfl, rfl⟩

set_option maxHeartbeats 1000000 in
theorem refFew_in (s : ByteArray) (hs : s.size ≤ 100000) (w : World) : CallsIn Fence.wide 0 Try.prog 31 #[.string s] w fun e w' => e = .returned (.bool (decide ((linesB s).length ≤ 60))) ∧ Chg No w w' := by
  refine callsIn_of_wp Try.func31 rfl trivial ?_
  simp only [Try.ntmps31, List.size_toArray, List.length_cons, List.length_nil, Nat.reduceAdd, Nat.reduceSub, Array.replicate_succ, Array.replicate_zero, List.push_toArray, List.append_toArray, List.nil_append, List.cons_append]
  gi_wp2_with fail
  refine ⟨trivial, rfl, (refSplit_in s hs _).mono ?_⟩
  rintro e w1 ⟨v1, rfl, r1, c1⟩
  obtain ⟨p, cap, rfl⟩ := row_slice r1
  obtain ⟨n, HN⟩ : ∃ n, Hid ((linesB s).length = n) := ⟨_, rfl⟩
  rw [HN.out]
  have HE : Hid (decide ((n : Int) ≤ 60) = decide (n ≤ 60)) := decide_eq_decide.2 (by omega)
  gi_wp2
  go_ret
  exact ⟨by rw [HN.out, ← HE.out]; rfl, c1⟩

theorem info5 : (Try.prog.info? 5).map (fun i => (i.zero, i.size, i.bytes)) = some (some (.int .u8 0), 1, 1) := by kernel_rfl

theorem wpListIn_append_str {F : Fence} {n : Nat} (w : World) {ops : Array Oper} {rest : List Oper} {o : Oper} {a : Act} {Q : Exit → Act → World → Prop}
    (hg : o.guard = none) (s x : Operand) (hop : o.op = Op.call { callee := Callee.builtin Builtin.append, args := #[s, x], argTypes := #[30, 9] })
    (base : Nat) (v : Value) (k : Nat) (vals : List Value) (hs : a.eval s = v) (hown : w.ownsRow base 5 1 v k vals) (t : ByteArray) (hx : a.eval x = .string t)
    (b1 : k + t.size ≤ 1000000) (b3 : base ≤ w.heap.size)
    (hK : ∀ v' w', w'.ownsRow base 5 1 v' (k + t.size) (vals ++ strCells t) → w.grownBy w' v.ownBlock → wpListIn F n Try.prog ops Q rest (a.put o.dst v') w') :
    wpListIn F n Try.prog ops Q (o :: rest) a w := by
  obtain ⟨i0, hi, hz0, hz1, hz2⟩ := info_parts info5
  refine wpListIn_plain hg fun K hK' => ?_
  obtain ⟨v', w', hr, h2, h3, h4⟩ := run_append_own_string (P := Try.prog) w base 30 9 o.type 5 i0 Try.underlying30 Try.underlying9 hi hz0 hz1 hz2 v k vals hown t (by unfold maxLen; omega) (by omega) b3
  unfold Oper.wpIn
  refine ⟨?_, ?_⟩
  · simp [Oper.about, hop, resolve, Target.leads, Sem.run_pure]
  · rw [Oper.semAt_plain F _ _ (by rw [hop]; intro c hc'; cases hc')]
    simp [execOp, hop, resolve, invoke, builtin, hs, hx, hr, Result.andThen]
    exact hK' _ _ (hK v' w' h2 h3)

theorem catB_snoc (xs : List ByteArray) (x : ByteArray) : (catB (xs ++ [x])).size = (catB xs).size + x.size := by
  show (((xs ++ [x]).map L).flatten).length = ((xs.map L).flatten).length + (L x).length
  rw [List.map_append, List.flatten_append, List.length_append]
  simp
theorem catB_cells (xs : List ByteArray) (x : ByteArray) : strCells (catB (xs ++ [x])) = strCells (catB xs) ++ strCells x := by
  unfold strCells
  show (((xs ++ [x]).map L).flatten).map _ = (((xs.map L).flatten).map _) ++ _
  rw [List.map_append, List.flatten_append, List.map_append]
  simp
theorem catB_le (xs : List ByteArray) (k : Nat) : (catB (xs.take k)).size ≤ (catB xs).size := by
  show (((xs.take k).map L).flatten).length ≤ ((xs.map L).flatten).length
  conv => rhs; rw [← List.take_append_drop k xs, List.map_append, List.flatten_append, List.length_append]
  omega

/-- Bytes that are owned, as a text. -/
theorem run_bytes_text {w : World} {base : Nat} {p : Option Addr} {n cap : Nat} {t : ByteArray} (hr : w.ownsRow base 5 1 (.slice p n cap) n (strCells t)) (hn : n = t.size) : (convert 30 9 (.slice p n cap)).run Try.prog w = .ok (.string t) w := by
  rcases hr.2 with ⟨h, h0⟩ | ⟨g, cap', cur, h, h1⟩
  · rw [Value.slice.injEq] at h
    obtain ⟨rfl, rfl, rfl⟩ := h
    have ht : t = ⟨#[]⟩ := by
      have : L t = [] := List.length_eq_zero_iff.1 hn.symm
      rw [← T_L t, this]
    rw [ht]
    exact run_convert_bytes_nil _ 30 5 Try.underlying30 Try.underlying5 0 0 9 Try.underlying9
  · rw [Value.slice.injEq] at h
    obtain ⟨rfl, _, rfl⟩ := h
    have := run_convert_bytes_back (P := Try.prog) w 30 9 5 ⟨g, 0, none⟩ cap (L t) Try.underlying30 Try.underlying5 Try.underlying9 (fun j hj => hr.cells (g := g) rfl j _ (by
      unfold strCells
      rw [List.getElem?_map, List.getElem?_eq_getElem hj]
      rfl))
    rw [show (L t).length = n from by rw [hn]; rfl] at this
    exact this

set_option maxRecDepth 100000 in
set_option maxHeartbeats 1000000 in
theorem refJoin_in (v : Value) (zs : List ByteArray) (w : World) (hv : SlV w v (zs.map Value.string)) (hlen : (catB zs).size ≤ 1000000) (hn : zs.length ≤ 1000000) :
    CallsIn Fence.wide 0 Try.prog 20 #[v] w fun e w' => e = .returned (.string (catB zs)) ∧ Chg No w w' := by
  obtain ⟨p, c1, rfl, hp1, hp2, hpc⟩ := hv
  rw [List.length_map] at hp1 ⊢
  obtain ⟨n, HN⟩ : ∃ n, Hid (zs.length = n) := ⟨_, rfl⟩
  rw [HN.out] at hp1 hn ⊢
  obtain ⟨tt, HT⟩ : ∃ t, Hid (catB zs = t) := ⟨_, rfl⟩
  rw [HT.out]
  refine callsIn_of_wp Try.func20 rfl trivial ?_
  simp only [Try.ntmps20, List.size_toArray, List.length_cons, List.length_nil, Nat.reduceAdd, Nat.reduceSub, Array.replicate_succ, Array.replicate_zero, List.push_toArray, List.append_toArray, List.nil_append, List.cons_append]
  gi_wp2
  gi_loopw [3, 4] (fun v i wr => ∃ k m : Nat, k ≤ n ∧ i = .int .i64 (k : Int) ∧ Hid (m = (catB (zs.take k)).size) ∧ wr.ownsRow w.heap.size 5 1 v m (strCells (catB (zs.take k))) ∧ Chg No w wr) (fun v i _ => n - (intOf i).toNat)
  case atStart => exact ⟨0, 0, Nat.zero_le _, rfl, rfl, World.ownsRow_nil _ _ _ _, Chg.refl _ _⟩
  case round =>
    obtain ⟨k, m, hk, rfl, HM, hr, c⟩ := hrel
    obtain ⟨q, cap, rfl⟩ := row_slice hr
    by_cases hlt : k < n
    · have hkz : k < zs.length := by rw [HN.out]; exact hlt
      have hlt' : (k : Int) < (n : Int) := by omega
      obtain ⟨b1, o1, rfl, hc1⟩ := hpc k (.string zs[k]) (by simp [hkz])
      have hw1 : wr.cell? ⟨b1, o1 + k, none⟩ = some (.string zs[k]) := (World.cell?_of_block (a := ⟨b1, o1 + k, none⟩) (c.block b1 (World.block_lt_of_cell? w _ hc1) (fun h => h))).trans hc1
      have hsz : m + zs[k].size ≤ 1000000 := by
        have h1 := catB_le zs (k + 1)
        rw [List.take_succ_eq_append_getElem hkz, catB_snoc] at h1
        have := HM.out
        omega
      have HM2 : Hid (m + zs[k].size = (catB (zs.take (k + 1))).size) := by
        rw [List.take_succ_eq_append_getElem hkz, catB_snoc, HM.out]; exact rfl
      have HC : Hid (strCells (catB (zs.take k)) ++ strCells zs[k] = strCells (catB (zs.take (k + 1)))) := by
        rw [List.take_succ_eq_append_getElem hkz, catB_cells]; exact rfl
      clear hc1
      generalize zs[k] = x at *
      gi_wp2_with (gi_at_builtin; refine wpListIn_append_str _ rfl _ _ rfl w.heap.size _ m _ rfl hr x rfl hsz c.size ?_; intro v' w1 hown' hgrow; have c1' : Chg No w w1 := c.grown hgrow (fun k e => .inr (hr.lt k e).1))
      go_roundw
      case rel => exact ⟨k + 1, m + x.size, hlt, by go_num, HM2, by rw [← HC.out]; exact hown', c1'⟩
      case measure => simp [intOf]; omega
    · obtain rfl : k = n := by omega
      have hlt' : ¬ (k : Int) < (k : Int) := by omega
      have HF : Hid (zs.take k = zs) := List.take_of_length_le (by rw [HN.out]; exact Nat.le_refl _)
      rw [HF.out, HT.out] at hr
      have hcv := run_bytes_text hr (by rw [HM.out, HF.out, HT.out])
      gi_wp2
      go_ret
      exact ⟨rfl, c⟩

end Go.Proofs.Ytookalebfbkedaa
