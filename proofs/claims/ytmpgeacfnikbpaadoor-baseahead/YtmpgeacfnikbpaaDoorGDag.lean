/-
  Of: KRep, KIns, RStk, KStk, REqI, KMay, KOwn, KGet, KAlong, KDag, KIs, KFind, KAdd, KPut.
-/
import Derived.Test.YtmpgeacfnikbpaaDoorGRow
import Derived.Test.YtmpgeacfnikbpaaDoorAppI
import Derived.Lib.AppendZerosOnto
import Derived.Lib.Overlaps
import Derived.Laws.Externs
import Derived.Laws.IdiomCopy
import Derived.Test.YtmpgeacfnikbpaaDoorRRefD
import Derived.Test.YtmpgeacfnikbpaaDoorShelfB
import Derived.Test.YtmpgeacfnikbpaaDoorLoudP
import Derived.Laws.ResultCell
import Derived.Test.YtmpgeacfnikbpaaDoorGTxt
import Derived.Deep.QuietTactic
import Derived.BigQuiet
import Derived.Test.YtmpgeacfnikbpaaDoorMCm
import Derived.Test.YtmpgeacfnikbpaaDoorGMay
import Derived.Test.YtmpgeacfnikbpaaDoorGFile
import Derived.Test.YtmpgeacfnikbpaaDoorLDag
import Derived.Sort.LoopGhostIn
import Derived.Test.YtmpgeacfnikbpaaDoorGSeqI
import Derived.Test.YtmpgeacfnikbpaaDoorLPut
section
-- KRep
namespace Go.Proofs.YtmpgeacfnikbpaaDoor
open Go.RowKit Go.Shelf Go.SeqLib Go.DiffLib Go.TreeLib Go.RepoLib Go.BigFrame
attribute [local go_sem] Oper.semAt_some

/-- The landed repo at block B: its room and its commits. -/
structure KRep (B : Nat) (s : Rp) (lv : Value) (rows : List Rw) (D : Blk) (W : World) : Prop where
  box : W.heap[B]? = some (.cells #[iv (s.2 : Nat), lv] 66 (0, 0))
  own : OwnM W 0 lv rows
  red : RowsD D W rows s.1
  ne : ¬ lv.ownBlock = some B
  apart : ∀ k, D k → ¬ refS B lv k
  lt : ∀ k, D k → k < W.heap.size
  room : s.2 ≤ 120
  small : ∀ c ∈ s.1, SmallC c
theorem KRep.ltO {B : Nat} {s : Rp} {lv : Value} {rows : List Rw} {D : Blk} {W : World} (h : KRep B s lv rows D W) : ∀ k, refS B lv k → k < W.heap.size := by
  rintro k (rfl | hk)
  · exact (Array.getElem?_eq_some_iff.1 h.box).1
  · exact (World.ownsRow.lt h.own k hk).2
theorem KRep.kept {B : Nat} {s : Rp} {lv : Value} {rows : List Rw} {D : Blk} {W W' : World} (h : KRep B s lv rows D W) (hs : W.heap.size ≤ W'.heap.size) (hk : ∀ k, (refS B lv k ∨ D k) → W'.heap[k]? = W.heap[k]?) : KRep B s lv rows D W' :=
  ⟨(hk B (.inl (.inl rfl))).trans h.box, OwnM.kept h.own (fun k e => hk k (.inl (.inr e))), ⟨h.red.len, fun i r c hr hc => (h.red.at_ i r c hr hc).kept (fun k e => hk k (.inr e))⟩, h.ne, h.apart, fun k e => Nat.lt_of_lt_of_le (h.lt k e) hs, h.room, h.small⟩
/-- The same, by its blocks: S all, O those that it writes. -/
def LRep (B : Nat) (s : Rp) (S O : Blk) (W : World) : Prop := ∃ lv rows D, KRep B s lv rows D W ∧ S = (fun k => refS B lv k ∨ D k) ∧ O = refS B lv
theorem LRep.part (B : Nat) (s : Rp) (O : Blk) : Part (fun S W => LRep B s S O W) := {
  lt := by
    rintro S W ⟨lv, rows, D, h, rfl, _⟩ k (hk | hk)
    · exact h.ltO k hk
    · exact h.lt k hk
  kept := by
    rintro S W W' ⟨lv, rows, D, h, rfl, e⟩ hs hk
    exact ⟨lv, rows, D, h.kept hs hk, rfl, e⟩ }
theorem KRep.chg {B : Nat} {s : Rp} {lv : Value} {rows : List Rw} {D T : Blk} {W W' : World} (h : KRep B s lv rows D W) (c : Chg T W W') (hd : ∀ k, (refS B lv k ∨ D k) → ¬ T k) : KRep B s lv rows D W' :=
  h.kept c.size (fun k hk => c.block k (hk.elim (h.ltO k) (h.lt k)) (hd k hk))
theorem KRep.no {B : Nat} {s : Rp} {lv : Value} {rows : List Rw} {D : Blk} {W W' : World} (h : KRep B s lv rows D W) (c : Chg No W W') : KRep B s lv rows D W' := h.chg c (fun _ _ h => h)
theorem KRep.slice {B : Nat} {s : Rp} {lv : Value} {rows : List Rw} {D : Blk} {W : World} (h : KRep B s lv rows D W) : ∃ p cap, lv = .slice p s.1.length cap := by
  obtain ⟨p, c, e⟩ := row_slice h.own
  rw [h.red.len] at e
  exact ⟨p, c, e⟩
theorem KRep.cells {B : Nat} {s : Rp} {lv : Value} {rows : List Rw} {D : Blk} {W : World} (h : KRep B s lv rows D W) : W.cell? ⟨B, 0, none⟩ = some (iv (s.2 : Nat)) ∧ W.cell? ⟨B, 1, none⟩ = some lv ∧ W.frozen? ⟨B, 0, none⟩ = false ∧ W.frozen? ⟨B, 1, none⟩ = false := by
  have hb := h.box
  refine ⟨?_, ?_, ?_, ?_⟩ <;> simp [World.cell?, World.frozen?, hb]
/-- A row's cells. -/
theorem KRep.cell {B : Nat} {s : Rp} {p : Option Addr} {n cap : Nat} {rows : List Rw} {D : Blk} {W : World} (h : KRep B s (.slice p n cap) rows D W) {i : Nat} {c : Cm} (hc : s.1[i]? = some c) :
    ∃ r b1 o1, rows[i]? = some r ∧ p = some ⟨b1, o1, none⟩ ∧ W.cell? ⟨b1, o1 + i * 3, none⟩ = some r.1 ∧ W.cell? ⟨b1, o1 + i * 3 + 1, none⟩ = some r.2.1 ∧ W.cell? ⟨b1, o1 + i * 3 + 2, none⟩ = some (.string r.2.2) ∧ CmD D W (.agg #[r.1, r.2.1, .string r.2.2]) c := by
  obtain ⟨hi, rfl⟩ := List.getElem?_eq_some_iff.1 hc
  have hir : i < rows.length := by rw [h.red.len]; exact hi
  have hr : rows[i]? = some rows[i] := List.getElem?_eq_getElem hir
  obtain ⟨p0, cap0, e, _, _, hcells⟩ := SlE.ofRow eM_len h.own
  cases e
  obtain ⟨b1, o1, rfl, hcell⟩ := hcells i _ hr
  exact ⟨rows[i], b1, o1, hr, rfl, hcell 0 _ rfl, hcell 1 _ rfl, hcell 2 _ rfl, h.red.at_ i _ _ hr hc⟩

set_option maxHeartbeats 1000000 in
theorem clipped_in (n : Int) (w : World) : CallsIn Fence.wide 0 Tryd.prog 31 #[iv n] w fun e w' => e = .returned (iv (clip n : Nat)) ∧ w' = w := by
  have hm2 : ((clip n : Nat) : Int) = min (max n 0) 120 := by unfold clip; omega
  rw [hm2]
  clear hm2
  refine callsIn_of_wp Tryd.func31 rfl trivial ?_
  simp only [Tryd.ntmps31, List.size_toArray, List.length_cons, List.length_nil, Nat.reduceAdd, Nat.reduceSub, Array.replicate_succ, Array.replicate_zero, List.push_toArray, List.append_toArray, List.nil_append, List.cons_append]
  gi_wp2
  go_ret
  exact ⟨rfl, rfl⟩

set_option maxHeartbeats 1000000 in
theorem new_in (room : Int) (w : World) : CallsIn Fence.wide 0 Tryd.prog 20 #[iv room] w fun e w' => e = .returned (ptr w.heap.size) ∧ w' = w.alloc (.cells #[iv (clip room : Nat), .slice none 0 0] 66) := by
  refine callsIn_of_wp Tryd.func20 rfl trivial ?_
  simp only [Tryd.ntmps20, List.size_toArray, List.length_cons, List.length_nil, Nat.reduceAdd, Nat.reduceSub, Array.replicate_succ, Array.replicate_zero, List.push_toArray, List.append_toArray, List.nil_append, List.cons_append]
  gi_wp2_with fail
  refine ⟨trivial, rfl, (clipped_in room _).mono ?_⟩
  rintro e w1 ⟨rfl, hw⟩
  subst hw
  gi_wp2
  go_ret
  exact ⟨rfl, rfl⟩
theorem KRep.made (room : Int) (w : World) : KRep w.heap.size (newC room) (.slice none 0 0) [] No (w.alloc (.cells #[iv (clip room : Nat), .slice none 0 0] 66)) :=
  ⟨World.alloc_heap_new w _, World.ownsRow_nil _ _ _ _, ⟨rfl, fun i r c h => by simp at h⟩, (fun h => by cases h), fun _ h => h.elim, fun _ h => h.elim, by show clip room ≤ 120; unfold clip; omega, fun c h => by cases h⟩

theorem ptr_nil (B : Nat) (w : World) : (binOp .eql 24 (ptr B) (.pointer none)).run Tryd.prog w = .ok (.bool false) w := by simp [go_sem]
theorem nil_nil (w : World) : (binOp .eql 24 (.pointer none) (.pointer none)).run Tryd.prog w = .ok (.bool true) w := by simp [go_sem]

set_option maxHeartbeats 1000000 in
theorem len_in (B : Nat) (s : Rp) (lv : Value) (rows : List Rw) (D : Blk) (w : World) (h : KRep B s lv rows D w) : CallsIn Fence.wide 0 Tryd.prog 19 #[ptr B] w fun e w' => e = .returned (iv (s.1.length : Nat)) ∧ w' = w := by
  have hnil := ptr_nil B
  obtain ⟨_, k1, _, _⟩ := h.cells
  obtain ⟨p, cap, rfl⟩ := h.slice
  generalize s.1.length = z at *
  clear h
  refine callsIn_of_wp Tryd.func19 rfl trivial ?_
  simp only [Tryd.ntmps19, List.size_toArray, List.length_cons, List.length_nil, Nat.reduceAdd, Nat.reduceSub, Array.replicate_succ, Array.replicate_zero, List.push_toArray, List.append_toArray, List.nil_append, List.cons_append]
  gi_wp2
  go_ret
  exact ⟨rfl, rfl⟩
set_option maxHeartbeats 1000000 in
theorem lenN_in (w : World) : CallsIn Fence.wide 0 Tryd.prog 19 #[.pointer none] w fun e w' => e = .returned (iv 0) ∧ w' = w := by
  have hnil := nil_nil
  refine callsIn_of_wp Tryd.func19 rfl trivial ?_
  simp only [Tryd.ntmps19, List.size_toArray, List.length_cons, List.length_nil, Nat.reduceAdd, Nat.reduceSub, Array.replicate_succ, Array.replicate_zero, List.push_toArray, List.append_toArray, List.nil_append, List.cons_append]
  gi_wp2
  go_ret
  exact ⟨rfl, rfl⟩

set_option maxHeartbeats 1000000 in
theorem has_in (B : Nat) (s : Rp) (lv : Value) (rows : List Rw) (D : Blk) (n : Int) (w : World) (h : KRep B s lv rows D w) : CallsIn Fence.wide 0 Tryd.prog 49 #[ptr B, iv n] w fun e w' => e = .returned (.bool (hasN s.1.length n)) ∧ w' = w := by
  have L1 := len_in B s lv rows D w h
  generalize s.1.length = z at *
  unfold hasN
  clear h
  refine callsIn_of_wp Tryd.func49 rfl trivial ?_
  simp only [Tryd.ntmps49, List.size_toArray, List.length_cons, List.length_nil, Nat.reduceAdd, Nat.reduceSub, Array.replicate_succ, Array.replicate_zero, List.push_toArray, List.append_toArray, List.nil_append, List.cons_append]
  by_cases h1 : 1 ≤ n
  · gi_wp2_with fail
    refine ⟨trivial, rfl, L1.mono ?_⟩
    rintro e w1 ⟨rfl, hw⟩
    subst hw
    gi_wp2
    go_ret
    exact ⟨by rw [decide_eq_true h1]; rfl, rfl⟩
  · gi_wp2_with fail
    refine ⟨trivial, ?_⟩
    rename_i hKK
    apply hKK
    gi_wp2
    go_ret
    exact ⟨by rw [decide_eq_false (by omega)]; rfl, rfl⟩
set_option maxHeartbeats 1000000 in
theorem hasN_in (n : Int) (w : World) : CallsIn Fence.wide 0 Tryd.prog 49 #[.pointer none, iv n] w fun e w' => e = .returned (.bool false) ∧ w' = w := by
  refine callsIn_of_wp Tryd.func49 rfl trivial ?_
  simp only [Tryd.ntmps49, List.size_toArray, List.length_cons, List.length_nil, Nat.reduceAdd, Nat.reduceSub, Array.replicate_succ, Array.replicate_zero, List.push_toArray, List.append_toArray, List.nil_append, List.cons_append]
  by_cases h1 : 1 ≤ n
  · have h2 : ¬ n ≤ 0 := by omega
    gi_wp2_with fail
    refine ⟨trivial, rfl, (lenN_in _).mono ?_⟩
    rintro e w1 ⟨rfl, hw⟩
    subst hw
    gi_wp2
    go_ret
    exact ⟨by rw [show decide (n ≤ 0) = false from decide_eq_false (by omega)]; rfl, rfl⟩
  · gi_wp2_with fail
    refine ⟨trivial, ?_⟩
    rename_i hKK
    apply hKK
    gi_wp2
    go_ret
    exact ⟨rfl, rfl⟩

set_option maxHeartbeats 2000000 in
theorem hasAll_in (B : Nat) (s : Rp) (lv : Value) (rows : List Rw) (D : Blk) (p : Option Addr) (n k0 : Nat) (ps : List Int) (hnp : ps.length = n) (h5 : n ≤ 5) (w : World) (h : KRep B s lv rows D w) (hp : SlV w (.slice p n k0) (ps.map iv)) :
    CallsIn Fence.wide 0 Tryd.prog 33 #[ptr B, .slice p n k0] w fun e w' => e = .returned (.bool (ps.all (hasN s.1.length))) ∧ w' = w := by
  have HNP : Hid (ps.length = n) := hnp
  clear hnp
  obtain ⟨A, hA⟩ : ∃ A, ps.all (hasN s.1.length) = A := ⟨_, rfl⟩
  have HA : Hid (ps.all (hasN s.1.length) = A) := hA
  rw [hA]
  clear hA
  refine callsIn_of_wp Tryd.func33 rfl trivial ?_
  simp only [Tryd.ntmps33, List.size_toArray, List.length_cons, List.length_nil, Nat.reduceAdd, Nat.reduceSub, Array.replicate_succ, Array.replicate_zero, List.push_toArray, List.append_toArray, List.nil_append, List.cons_append]
  gi_wp2
  gi_loopw [9] (fun s6 wr => ∃ k : Nat, k ≤ n ∧ s6 = .int .i64 (k : Int) ∧ Hid (∀ x ∈ ps.take k, hasN s.1.length x = true) ∧ wr = w) (fun s6 _ => n - (intOf s6).toNat)
  case atStart => exact ⟨0, Nat.zero_le _, rfl, fun y hy => by simp at hy, rfl⟩
  case round =>
    obtain ⟨k, hk, rfl, HT, hwr⟩ := hrel
    subst hwr
    by_cases hlt : k < n
    · have hlt' : (k : Int) < (n : Int) := by omega
      obtain ⟨pa, hpa⟩ : ∃ pa, ps[k]? = some pa := ⟨_, List.getElem?_eq_getElem (by rw [HNP.out]; exact hlt)⟩
      obtain ⟨bp, op, rfl, hcp⟩ := hp.get1 (i := k) (x := iv pa) (by rw [List.getElem?_map, hpa]; rfl)
      have H1 := has_in B s lv rows D pa _ h
      obtain ⟨u, HU⟩ : ∃ u, Hid (hasN s.1.length pa = u) := ⟨_, rfl⟩
      rw [HU.out] at H1
      gi_wp2_with fail
      refine ⟨trivial, rfl, H1.mono ?_⟩
      rintro e w3 ⟨rfl, hw3⟩
      subst hw3
      cases u with
      | false =>
        obtain rfl : A = false := by
          rw [← HA.out]
          exact List.all_eq_false.2 ⟨pa, List.mem_of_getElem? hpa, by rw [HU.out]; exact Bool.false_ne_true⟩
        gi_wp2
        go_ret
        exact ⟨rfl, rfl⟩
      | true =>
        have HT2 : Hid (∀ x ∈ ps.take (k + 1), hasN s.1.length x = true) := by
          intro y hy
          rw [List.take_add_one, hpa] at hy
          rcases List.mem_append.1 hy with h | h
          · exact HT.out y h
          · rw [List.mem_singleton.1 h]; exact HU.out
        gi_wp2
        refine ⟨⟨k + 1, hlt, by go_num, HT2, trivial⟩, by simp [intOf]; omega⟩
    · obtain rfl : k = n := by omega
      have hlt' : ¬ (k : Int) < (k : Int) := by omega
      obtain rfl : A = true := by
        rw [← HA.out]
        exact List.all_eq_true.2 (fun y hy => HT.out y (by rw [List.take_of_length_le (by rw [HNP.out]; exact Nat.le_refl _)]; exact hy))
      gi_wp2
      go_ret
      exact ⟨rfl, rfl⟩

end Go.Proofs.YtmpgeacfnikbpaaDoor

end
section
-- KIns
namespace Go.Proofs.YtmpgeacfnikbpaaDoor
open Go.RowKit Go.Shelf Go.SeqLib Go.DiffLib Go.TreeLib Go.RepoLib Go.BigFrame Go.Lib
attribute [local go_sem] Oper.semAt_some

/-- Cells of a row that are set. -/
theorem setCells_row {b : Nat} {e : TypeId} {fz : Nat × Nat} : ∀ (vs : List Value) (o : Nat) (w : World) (L : List Value), w.heap[b]? = some (.cells L.toArray e fz) → o + vs.length ≤ L.length →
    (w.setCells b o vs).heap[b]? = some (.cells (L.take o ++ vs ++ L.drop (o + vs.length)).toArray e fz)
  | [], o, w, L, h, _ => by
    show w.heap[b]? = _
    rw [h, List.append_nil, List.length_nil, Nat.add_zero, List.take_append_drop]
  | v :: r, o, w, L, h, hl => by
    rw [List.length_cons] at hl
    show ((w.setCell ⟨b, o, none⟩ v).setCells b (o + 1) r).heap[b]? = _
    have h1 : (w.setCell ⟨b, o, none⟩ v).heap[b]? = some (.cells (L.set o v).toArray e fz) := by
      simp [World.setCell, Array.getElem?_modify, h]
    have h2 := setCells_row r (o + 1) _ _ h1 (by rw [List.length_set]; omega)
    rw [h2]
    congr 3
    have ht : (L.set o v).take (o + 1) = L.take o ++ [v] := by
      rw [List.take_add_one, List.getElem?_set_self (by omega), List.take_set_of_le (Nat.le_refl _)]
      rfl
    rw [ht, List.drop_set_of_lt (by omega), List.length_cons, show o + (r.length + 1) = o + 1 + r.length by omega]
    simp
theorem setCells_chg (b : Nat) : ∀ (vs : List Value) (o : Nat) (w : World), Chg (fun k => k = b) w (w.setCells b o vs)
  | [], _, w => Chg.refl _ w
  | v :: r, o, w => by
    show Chg _ w ((w.setCell ⟨b, o, none⟩ v).setCells b (o + 1) r)
    exact ((Chg.refl (fun k => k = b) w).setCell (p := ⟨b, o, none⟩) (.inl rfl) _).trans (setCells_chg b r (o + 1) _) (fun k hk => .inl hk)
theorem row_at {w : World} {b : Nat} {L : List Value} {e : TypeId} (h : w.heap[b]? = some (.cells L.toArray e (0, 0))) (o j : Nat) : w.cell? ⟨b, o + j, none⟩ = (L.drop o)[j]? := by
  rw [List.getElem?_drop]
  simp [World.cell?, h]
theorem row_free {w : World} {b : Nat} {L : List Value} {e : TypeId} (h : w.heap[b]? = some (.cells L.toArray e (0, 0))) (o : Nat) : w.frozen? ⟨b, o, none⟩ = false := by
  simp [World.frozen?, h]

theorem infoI1 : (Tryd.prog.info? 3).map (·.size) = some 1 := by kernel_rfl
/-- copy(d, s), cut anyhow. -/
theorem run_copy_row (w : World) (dT sT ty : TypeId) (hu : Tryd.prog.underlying dT = some (.slice 3)) (b o dLen dCap sb so sLen sCap : Nat) (cs D S : List Value) (hn : cs.length = Nat.min sLen dLen)
    (hd : w.heap[b]? = some (.cells D.toArray 3 (0, 0))) (hs : w.heap[sb]? = some (.cells S.toArray 3 (0, 0))) (hcs : (S.drop so).take cs.length = cs) (hfit : o + cs.length ≤ D.length) (h1 : ∀ v ∈ cs, v.oneCell' = true) :
    (Builtin.copy_ #[dT, sT] ty #[.slice (some ⟨b, o, none⟩) dLen dCap, .slice (some ⟨sb, so, none⟩) sLen sCap]).run Tryd.prog w = .ok (goInt cs.length) (w.setCells b o cs) :=
  run_copy_cells w dT sT ty 3 b o dLen dCap ⟨sb, so, none⟩ sLen sCap cs hu infoI1 hn
    (fun j v hj => by
      rw [Addr.add_lit, row_at hs]
      rw [← hcs, List.getElem?_take] at hj
      split at hj
      · exact hj
      · cases hj)
    (fun j hj => by
      rw [row_at hd, List.getElem?_drop, List.getElem?_eq_getElem (by omega)]
      rfl)
    (fun j _ => row_free hd _) h1

theorem wpListIn_copy_run {F : Fence} {n : Nat} (w : World) {ops : Array Oper} {rest : List Oper} {o : Oper} {a : Act} {Q : Exit → Act → World → Prop} (hg : o.guard = none) (d s : Operand) (t t' : TypeId)
    (hop : o.op = .call { callee := .builtin .copy, args := #[d, s], argTypes := #[t, t'] }) (v u : Value) (hd : a.eval d = v) (hs : a.eval s = u) {v' : Value} {w' : World}
    (hr : (Builtin.copy_ #[t, t'] o.type #[v, u]).run Tryd.prog w = .ok v' w') (h : wpListIn F n Tryd.prog ops Q rest (a.put o.dst v') w') : wpListIn F n Tryd.prog ops Q (o :: rest) a w := by
  refine wpListIn_plain hg fun K hK' => ?_
  unfold Oper.wpIn
  refine ⟨?_, ?_⟩
  · simp [Oper.about, hop, resolve, Target.leads, Sem.run_pure]
  · rw [Oper.semAt_plain F _ _ (by rw [hop]; intro c hc'; cases hc')]
    simp [execOp, hop, resolve, invoke, builtin, hd, hs, hr, Result.andThen]
    exact hK' _ _ h
theorem wpListIn_append_run {F : Fence} {n : Nat} (w : World) {ops : Array Oper} {rest : List Oper} {o : Oper} {a : Act} {Q : Exit → Act → World → Prop} (hg : o.guard = none) (d s : Operand) (t t' : TypeId)
    (hop : o.op = .call { callee := .builtin .append, args := #[d, s], argTypes := #[t, t'] }) (v u : Value) (hd : a.eval d = v) (hs : a.eval s = u) {v' : Value} {w' : World}
    (hr : (Builtin.append_ #[t, t'] o.type #[v, u]).run Tryd.prog w = .ok v' w') (h : wpListIn F n Tryd.prog ops Q rest (a.put o.dst v') w') : wpListIn F n Tryd.prog ops Q (o :: rest) a w := by
  refine wpListIn_plain hg fun K hK' => ?_
  unfold Oper.wpIn
  refine ⟨?_, ?_⟩
  · simp [Oper.about, hop, resolve, Target.leads, Sem.run_pure]
  · rw [Oper.semAt_plain F _ _ (by rw [hop]; intro c hc'; cases hc')]
    simp [execOp, hop, resolve, invoke, builtin, hd, hs, hr, Result.andThen]
    exact hK' _ _ h
/-- Of two types of rows of numbers. -/
theorem append_like (ty : TypeId) (v x : Value) (w : World) : (Builtin.append_ #[79, 22] ty #[v, x]).run Tryd.prog w = (Builtin.append_ #[22, 22] ty #[v, x]).run Tryd.prog w := by
  simp [Builtin.append_, run_underlying Tryd.underlying79, run_underlying Tryd.underlying22]

section
variable {w : World} {base b c : Nat} {l : List Int} {x : Int} {i vb : Nat} {cur : List Value}
set_option maxRecDepth 100000 in
set_option maxHeartbeats 4000000 in
/-- At the end. -/
theorem insert_end (base : Nat) (v : Value) (l : List Int) (x : Int) (vb : Nat) (w : World) (ho : OwnI w base v l) (hb : base ≤ w.heap.size) (hl : l.length ≤ 1000) (hx : w.heap[vb]? = some (.cells #[iv x] 3 (0, 0))) :
    CallsIn Fence.wide 0 Tryd.prog 61 #[v, iv (l.length : Nat), .slice (some ⟨vb, 0, none⟩) 1 1] w fun e w' => ∃ v', e = .returned v' ∧ OwnI w' base v' (l ++ [x]) ∧ Chg (fun k => v.ownBlock = some k) w w' ∧ ∀ k, v'.ownBlock = some k → v.ownBlock = some k ∨ w.heap.size ≤ k := by
  obtain ⟨i0, hi, hz0, hz1, hz2⟩ := info_parts infoInt
  obtain ⟨v', w', hr, ho', hg, _, hbl⟩ := run_append_own_at (P := Tryd.prog) w base 22 79 3 i0 (.int .i64 0) 1 8 Tryd.underlying22 hi hz0 hz1 hz2 rfl (by decide) v l.length (l.map iv) ho ⟨vb, 0, none⟩ 1 1 [iv x] rfl
    (fun j u hj => by
      cases j with
      | zero =>
        cases hj
        rw [addr_add]
        simp [World.cell?, hx]
      | succ j => simp at hj)
    (by intro u hu; rw [List.mem_singleton] at hu; subst hu; rfl) (by unfold maxLen; omega) (by omega) hb
  rw [← append_like] at hr
  have hfin : OwnI w' base v' (l ++ [x]) := by
    show World.ownsRow _ _ _ _ _ _ _
    rw [List.length_append, List.map_append]
    exact ho'
  have hc : Chg (fun k => v.ownBlock = some k) w w' := Chg.grown (Chg.refl _ w) hg (fun k hk => .inl hk)
  obtain ⟨p, cap, rfl⟩ := row_slice ho
  have hcap : l.length ≤ cap ∧ cap ≤ 9223372036854775807 := by
    rcases ho.2 with ⟨h, h0⟩ | ⟨g, c, cur, h, _, _, h3, h4, _⟩
    · rw [Value.slice.injEq] at h; obtain ⟨_, _, rfl⟩ := h; exact ⟨by omega, by omega⟩
    · rw [Value.slice.injEq] at h; obtain ⟨_, _, rfl⟩ := h; exact ⟨h3, h4⟩
  obtain ⟨n, hn⟩ : ∃ n, l.length = n := ⟨_, rfl⟩
  rw [hn] at hr hl hcap ⊢
  have HF : Hid (OwnI w' base v' (l ++ [x]) ∧ (v'.ownBlock = Value.ownBlock (.slice p n cap) ∨ v'.ownBlock = some w.heap.size)) := ⟨hfin, by rw [← hn]; exact hbl⟩
  rw [hn] at hc
  clear hfin hbl hn ho ho' hg
  have hle : n ≤ n := Nat.le_refl n
  obtain ⟨h1, h2⟩ := hcap
  refine callsIn_of_wp Tryd.func61 rfl trivial ?_
  simp only [Tryd.ntmps61, List.size_toArray, List.length_cons, List.length_nil, Nat.reduceAdd, Nat.reduceSub, Array.replicate_succ, Array.replicate_zero, List.push_toArray, List.append_toArray, List.nil_append, List.cons_append]
  have hend : ∀ k, v'.ownBlock = some k → Value.ownBlock (.slice p n cap) = some k ∨ w.heap.size ≤ k := fun k hk => by
    rcases HF.out.2 with e | e
    · exact .inl (e ▸ hk)
    · rw [e] at hk; cases hk; exact .inr (Nat.le_refl _)
  have HE : Hid _ := hend
  clear hend
  cases p with
  | none =>
    gi_wp2_with (gi_at_builtin; refine wpListIn_append_run _ rfl _ _ 79 22 rfl _ _ rfl rfl hr ?_)
    all_goals (go_ret; exact ⟨v', rfl, HF.out.1, hc, HE.out⟩)
  | some ad =>
    obtain ⟨g, off, sp⟩ := ad
    gi_wp2_with (gi_at_builtin; refine wpListIn_append_run _ rfl _ _ 79 22 rfl _ _ rfl rfl hr ?_)
    all_goals (go_ret; exact ⟨v', rfl, HF.out.1, hc, HE.out⟩)

/-- A row of numbers, taken apart. -/
theorem own_row {w : World} {base g n cap : Nat} {l : List Int} (h : w.ownsRow base 3 1 (.slice (some ⟨g, 0, none⟩) n cap) n (l.map iv)) :
    ∃ L : List Value, w.heap[g]? = some (.cells L.toArray 3 (0, 0)) ∧ L.length = cap ∧ L.take n = l.map iv ∧ n ≤ cap ∧ cap ≤ maxLen ∧ base ≤ g := by
  rcases h.2 with ⟨e, _⟩ | ⟨g', c', cur, e, hb, hg, hn, hm, hs, ht⟩
  · cases e
  · cases e
    refine ⟨cur.toList, by simpa using hg, by simpa using hs, by simpa using ht, hn, hm, hb⟩
theorem own_ofRow {w : World} {base g n cap : Nat} {l : List Int} {L : List Value} (hg : w.heap[g]? = some (.cells L.toArray 3 (0, 0))) (hL : L.length = cap) (ht : L.take n = l.map iv) (hn : n = l.length) (hm : cap ≤ maxLen) (hb : base ≤ g) :
    w.ownsRow base 3 1 (.slice (some ⟨g, 0, none⟩) n cap) n (l.map iv) := by
  have hnc : n ≤ cap := by
    have := congrArg List.length ht
    rw [List.length_take, List.length_map] at this
    omega
  exact ⟨by rw [List.length_map, hn, Nat.mul_one], .inr ⟨g, cap, L.toArray, rfl, hb, hg, hnc, hm, by simpa using hL, by simpa using ht⟩⟩
theorem one_iv (zs : List Int) : ∀ v ∈ zs.map iv, v.oneCell' = true := by
  intro v hv
  obtain ⟨y, _, rfl⟩ := List.mem_map.1 hv
  rfl

set_option maxRecDepth 100000 in
set_option maxHeartbeats 4000000 in
/-- There is room. -/
theorem insert_shift (base g cap : Nat) (l : List Int) (i : Nat) (x : Int) (vb : Nat) (w : World) (ho : OwnI w base (.slice (some ⟨g, 0, none⟩) l.length cap) l) (hi : i < l.length) (hroom : l.length + 1 ≤ cap) (hl : l.length ≤ 1000) (hx : w.heap[vb]? = some (.cells #[iv x] 3 (0, 0))) (hvb : vb ≠ g) :
    CallsIn Fence.wide 0 Tryd.prog 61 #[.slice (some ⟨g, 0, none⟩) l.length cap, iv (i : Nat), .slice (some ⟨vb, 0, none⟩) 1 1] w fun e w' => ∃ v', e = .returned v' ∧ OwnI w' base v' (l.take i ++ [x] ++ l.drop i) ∧ Chg (fun k => k = g) w w' ∧ ∀ k, v'.ownBlock = some k → k = g := by
  have hmix : Tryd.prog.follows .mixedOrders = true := by kernel_rfl
  obtain ⟨n, hn⟩ : ∃ n, l.length = n := ⟨_, rfl⟩
  have ho2 : w.ownsRow base 3 1 (.slice (some ⟨g, 0, none⟩) n cap) n (l.map iv) := by rw [← hn]; exact ho
  obtain ⟨L, hL, hLl, hLt, hnc, hmax, hbg⟩ := own_row ho2
  have hmax63 : cap ≤ 9223372036854775807 := hmax
  have hlen : (l.take i ++ [x] ++ l.drop i).length = n + 1 := by simp; omega
  have hLD : L.drop i = (l.drop i).map iv ++ L.drop n := by
    have h1 : L = l.map iv ++ L.drop n := by rw [← hLt, List.take_append_drop]
    conv => lhs; rw [h1]
    rw [List.drop_append_of_le_length (by rw [List.length_map]; omega), List.map_drop]
  have hLT : L.take i = (l.take i).map iv := by
    rw [List.map_take, ← hLt, List.take_take, Nat.min_eq_left (by omega)]
  obtain ⟨Bv, hBv⟩ : ∃ Bv, (l.drop i).map iv = Bv := ⟨_, rfl⟩
  have hBl : Bv.length = n - i := by rw [← hBv, List.length_map, List.length_drop, hn]
  rw [hBv] at hLD
  -- the first copy
  obtain ⟨W1, hW1⟩ : ∃ W1, w.drew.setCells g (i + 1) Bv = W1 := ⟨_, rfl⟩
  have hL1 : W1.heap[g]? = some (.cells (L.take (i + 1) ++ Bv ++ L.drop (i + 1 + Bv.length)).toArray 3 (0, 0)) := by
    rw [← hW1]
    exact setCells_row Bv (i + 1) w.drew L hL (by omega)
  have c1 : Chg (fun k => k = g) w W1 := by
    rw [← hW1]
    exact ((Chg.refl (fun k => k = g) w).drew).trans (setCells_chg g Bv (i + 1) w.drew) (fun k hk => .inl hk)
  have hr1 : ∀ ty dc sc, (Builtin.copy_ #[79, 79] ty #[.slice (some ⟨g, i + 1, none⟩) (n + 1 - (i + 1)) dc, .slice (some ⟨g, i, none⟩) (n + 1 - i) sc]).run Tryd.prog w.drew = .ok (goInt Bv.length) W1 := fun ty dc sc => by
    rw [← hW1]
    exact run_copy_row w.drew _ _ ty Tryd.underlying79 g (i + 1) _ dc g i _ sc Bv L L (by rw [hBl]; simp only [Nat.min_def]; split <;> omega) hL hL (by rw [hLD, List.take_left']; rfl) (by omega) (by rw [← hBv]; exact one_iv _)
  have hx1 := c1.same hx hvb
  -- the second
  obtain ⟨W2, hW2⟩ : ∃ W2, W1.setCells g i [iv x] = W2 := ⟨_, rfl⟩
  have hL2 := setCells_row [iv x] i W1 _ hL1 (by simp; omega)
  rw [hW2] at hL2
  have c2 : Chg (fun k => k = g) w W2 := by
    rw [← hW2]
    exact c1.trans (setCells_chg g _ i W1) (fun k hk => .inl hk)
  have hr2 : ∀ ty dc, (Builtin.copy_ #[79, 22] ty #[.slice (some ⟨g, i, none⟩) (n + 1 - i) dc, .slice (some ⟨vb, 0, none⟩) 1 1]).run Tryd.prog W1 = .ok (goInt 1) W2 := fun ty dc => by
    rw [← hW2]
    exact run_copy_row W1 _ _ ty Tryd.underlying79 g i _ dc vb 0 _ 1 [iv x] _ [iv x] (by simp only [List.length_cons, List.length_nil, Nat.min_def]; split <;> omega) hL1 hx1 rfl (by simp; omega) (by intro u hu; rw [List.mem_singleton] at hu; subst hu; rfl)
  have hfin : OwnI W2 base (.slice (some ⟨g, 0, none⟩) (n + 1) cap) (l.take i ++ [x] ++ l.drop i) := by
    show World.ownsRow _ _ _ _ _ _ _
    rw [hlen]
    refine own_ofRow hL2 ?_ ?_ hlen.symm hmax hbg
    · simp; omega
    · have e1 : (L.take (i + 1) ++ Bv ++ L.drop (i + 1 + Bv.length)).take i = L.take i := by
        rw [List.append_assoc, List.take_append_of_le_length (by simp; omega), List.take_take, Nat.min_eq_left (by omega)]
      have e2 : (L.take (i + 1) ++ Bv ++ L.drop (i + 1 + Bv.length)).drop (i + 1) = Bv ++ L.drop (i + 1 + Bv.length) := by
        rw [List.append_assoc, List.drop_left' (by simp; omega)]
      rw [e1, List.length_cons, List.length_nil, e2, hLT, ← List.append_assoc]
      rw [List.take_left' (by simp [hBl]; omega), List.map_append, List.map_append, hBv]
      rfl
  -- the sum of facts for the walk
  have hov : ∀ lb cb, (callFunc 72 #[.slice (some ⟨vb, 0, none⟩) 1 1, .slice (some ⟨g, i + 1, none⟩) lb cb]).run Tryd.prog w = .ok (.value (.bool false)) w := fun lb cb => by
    rw [run_callFunc_extern Tryd.func72 (by kernel_rfl) (by kernel_rfl) (by kernel_rfl) (e := Extern.SlicesOverlaps.overlaps #[22, 22] #[4]) (by kernel_rfl),
      Lib.run_overlaps_apart w 22 4 3 Tryd.underlying22 1 Tryd.sizeOf3 ⟨vb, 0, none⟩ ⟨g, i + 1, none⟩ 1 1 lb cb hvb 3 3 1 L.length (by simp [World.shape?, hx]) (by simp [World.shape?, hL]) (by omega) (by simp [World.frozen?, hx]) (by simp [World.frozen?, hx])]
    rfl
  have hb1 : ¬ (cap = i) := by omega
  have hb2 : ¬ (cap = i + 1) := by omega
  have hb3 : (i : Int) ≤ (n : Int) := by omega
  have hb4 : ¬ ((i : Int) = (n : Int)) := by omega
  have hb5 : ¬ ((cap : Int) < (n : Int) + 1) := by omega
  have hb6 : (n : Int) + 1 ≤ (cap : Int) := by omega
  have hb7 : (i : Int) ≤ (n : Int) + 1 := by omega
  have hb8 : (i : Int) + 1 ≤ (n : Int) + 1 := by omega
  rw [show n + 1 - (i + 1) = n - i by omega] at hr1
  obtain ⟨l9, h9⟩ : ∃ l9, l.take i ++ [x] ++ l.drop i = l9 := ⟨_, rfl⟩
  rw [h9] at hfin ⊢
  clear h9 hlen
  have HF : Hid _ := hfin
  have HR2 : Hid _ := hr2
  clear hfin hr2 hL1 hL2 hL hLt hLD hLT ho ho2 hx hx1
  rw [hn] at hl hi hroom ⊢
  refine callsIn_of_wp Tryd.func61 rfl trivial ?_
  simp only [Tryd.ntmps61, List.size_toArray, List.length_cons, List.length_nil, Nat.reduceAdd, Nat.reduceSub, Array.replicate_succ, Array.replicate_zero, List.push_toArray, List.append_toArray, List.nil_append, List.cons_append]
  gi_wp2_with (simp only [hov])
  refine ⟨trivial, ?_⟩
  rename_i hKK
  apply hKK
  gi_wp2_with fail
  refine region_loudG (fun j => j == 8) (fun w' => ∃ d : AfterB (fun k => k = g) w, w' = d.val) (fun d u W => (d 8 = true → W = W1) ∧ (d 8 = false → W = w.drew) ∧ u 8 = goInt Bv.length ∧ Chg (fun k => k = g) w W)
    (fun _ => goInt Bv.length) hmix (by kernel_rfl) (by kernel_rfl) (fun d u W hI => ⟨⟨W, hI.2.2.2⟩, rfl⟩) ⟨fun h => (by cases h), fun _ => rfl, rfl, (Chg.refl _ w).drew⟩ (fun u hu => ?_)
  have hany : Nonempty (AfterB (fun k => k = g) w) := AfterB.any _ _
  obtain ⟨_, _, _, _, e8, _⟩ := hu
  simp only [hushE, Nat.reduceAdd, Nat.reduceBEq, if_true, if_false, Bool.false_eq_true]
  simp only [e8]
  repeat (gi_big_quiet_step (fail))
  refine wpQuietIn_nil ⟨?_, ?_, ?_⟩
  · intro j oo ho hm
    rw [beq_iff_eq] at hm
    subst hm
    cases ho
    rfl
  · intro j oo d W hjo hm hd hwt hI
    rw [beq_iff_eq] at hm
    subst hm
    cases hjo
    have hW := hI.2.1 hd
    subst hW
    refine LeadsV.value (v := goInt Bv.length) (w' := W1) ?_ ⟨fun _ => rfl, fun h => by simp at h, by simp, c1⟩
    simp [go_sem, hr1]
  · intro d W hall hI
    have h8 := hall 8 rfl (by simp)
    have hW := hI.1 h8
    subst hW
    have hr2 := HR2.out
    gi_wp2_with (gi_at_builtin; refine wpListIn_copy_run _ rfl _ _ 79 22 rfl _ _ rfl rfl (hr2 _ _) ?_)
    go_ret
    exact ⟨.slice (some ⟨g, 0, none⟩) (n + 1) cap, rfl, HF.out, c2, fun k hk => by cases hk; rfl⟩

set_option maxRecDepth 100000 in
set_option maxHeartbeats 4000000 in
/-- There is none. -/
theorem insert_grow (base g cap : Nat) (l : List Int) (i : Nat) (x : Int) (vb : Nat) (w : World) (ho : OwnI w base (.slice (some ⟨g, 0, none⟩) l.length cap) l) (hb : base ≤ w.heap.size) (hi : i < l.length) (hroom : cap < l.length + 1) (hl : l.length ≤ 1000) (hx : w.heap[vb]? = some (.cells #[iv x] 3 (0, 0))) :
    CallsIn Fence.wide 0 Tryd.prog 61 #[.slice (some ⟨g, 0, none⟩) l.length cap, iv (i : Nat), .slice (some ⟨vb, 0, none⟩) 1 1] w fun e w' => ∃ v', e = .returned v' ∧ OwnI w' base v' (l.take i ++ [x] ++ l.drop i) ∧ Chg No w w' ∧ ∀ k, v'.ownBlock = some k → w.heap.size ≤ k := by
  have hmix : Tryd.prog.follows .mixedOrders = true := by kernel_rfl
  obtain ⟨i0, hi0, hz0, hz1, hz2⟩ := info_parts infoInt
  obtain ⟨n, hn⟩ : ∃ n, l.length = n := ⟨_, rfl⟩
  have ho2 : w.ownsRow base 3 1 (.slice (some ⟨g, 0, none⟩) n cap) n (l.map iv) := by rw [← hn]; exact ho
  obtain ⟨L, hL, hLl, hLt, hnc, hmax, hbg⟩ := own_row ho2
  obtain rfl : cap = n := by omega
  have hlen : (l.take i ++ [x] ++ l.drop i).length = cap + 1 := by simp; omega
  have hLD : L.drop i = (l.drop i).map iv := by
    rw [List.map_drop, ← hLt, List.take_of_length_le (by omega)]
  have hLT : L.take i = (l.take i).map iv := by
    rw [List.map_take, ← hLt, List.take_take, Nat.min_eq_left (by omega)]
  obtain ⟨Bv, hBv⟩ : ∃ Bv, (l.drop i).map iv = Bv := ⟨_, rfl⟩
  have hBl : Bv.length = cap - i := by rw [← hBv, List.length_map, List.length_drop, hn]
  rw [hBv] at hLD
  obtain ⟨Av, hAv⟩ : ∃ Av, (l.take i).map iv = Av := ⟨_, rfl⟩
  have hAl : Av.length = i := by rw [← hAv, List.length_map, List.length_take]; omega
  rw [hAv] at hLT
  -- the new row
  obtain ⟨G, hG⟩ : ∃ G, grownCap w (cap + 1) cap 3 = G := ⟨_, rfl⟩
  have hGn : cap + 1 ≤ G := by rw [← hG]; exact grownCap_ge w _ _ _
  have hG63 : G ≤ maxLen := by rw [← hG]; exact grownCap_le_maxLen w (cap + 1) cap 3 (by unfold maxLen; omega)
  have hG64 : G ≤ 9223372036854775807 := hG63
  have hold : (Builtin.firstCells i0.size i (.slice (some ⟨g, 0, none⟩) i cap)).run Tryd.prog w.drew = .ok Av.toArray w.drew := by
    rw [hz1]
    exact run_firstCells_some w.drew 1 i ⟨g, 0, none⟩ i cap Av (by omega) (fun j v hj => by
      have hj2 := (List.getElem?_eq_some_iff.1 hj).1
      rw [Addr.add_lit]
      refine (row_at (w := w.drew) hL 0 j).trans ?_
      rw [List.drop_zero]
      rw [← hLT, List.getElem?_take, if_pos (by omega)] at hj
      exact hj)
  obtain ⟨R, hR⟩ : ∃ R : List Value, (Av.toArray ++ Builtin.zeroCells (Value.int .i64 0).cells (cap + 1 - i) ++ Builtin.zeroCells (Value.int .i64 0).cells (G - (cap + 1))) = R.toArray := ⟨_, (Array.toArray_toList).symm⟩
  have hRl : R.length = G := by
    have := congrArg Array.size hR
    simp [Builtin.zeroCells, Value.cells] at this
    omega
  have hRt : R.take i = Av := by
    have := congrArg Array.toList hR
    simp only [Array.toList_append] at this
    rw [← this, List.append_assoc, List.take_left' hAl]
  obtain ⟨W1, hW1⟩ : ∃ W1, w.drew.alloc (.cells R.toArray 3) = W1 := ⟨_, rfl⟩
  have hL1 : W1.heap[w.heap.size]? = some (.cells R.toArray 3 (0, 0)) := by rw [← hW1]; exact World.alloc_heap_new w.drew _
  have c1 : Chg No w W1 := by rw [← hW1]; exact ((Chg.refl _ w).drew).alloc _
  have hr0 : ∀ ty, (Builtin.append_ #[79, 3] ty #[.slice (some ⟨g, 0, none⟩) i cap, .int .i64 ((cap : Int) + 1 - (i : Int))]).run Tryd.prog w = .ok (.slice (some ⟨w.heap.size, 0, none⟩) (cap + 1) G) W1 := fun ty => by
    have h := Lib.run_append_grow_zeros w 79 3 ty 3 i0 _ .i64 .i64 Tryd.underlying79 Tryd.underlying3 hi0 hz0 (some ⟨g, 0, none⟩) i cap Av hold (cap + 1 - i) (by omega) (by omega) (by omega) (by omega) (by rw [hz2]; omega) (by rw [hz2, show i + (cap + 1 - i) = cap + 1 by omega]; exact growslice_fits (by omega) (by omega))
    rw [show i + (cap + 1 - i) = cap + 1 by omega, hG, hR, hW1, show (((cap + 1 - i : Nat) : Int)) = (cap : Int) + 1 - (i : Int) by omega] at h
    exact h
  have hgs : g < w.heap.size := (Array.getElem?_eq_some_iff.1 hL).1
  have hvs : vb < w.heap.size := (Array.getElem?_eq_some_iff.1 hx).1
  have hx1 := c1.same hx (fun h => h)
  have hg1 := c1.same hL (fun h => h)
  -- the number
  obtain ⟨W2, hW2⟩ : ∃ W2, W1.setCells w.heap.size i [iv x] = W2 := ⟨_, rfl⟩
  have hL2 := setCells_row [iv x] i W1 _ hL1 (by simp; omega)
  rw [hW2] at hL2
  have k2 : Chg (fun k => k = w.heap.size) W1 W2 := by rw [← hW2]; exact setCells_chg _ _ i W1
  have hr1 : ∀ ty dc, (Builtin.copy_ #[79, 22] ty #[.slice (some ⟨w.heap.size, i, none⟩) (cap + 1 - i) dc, .slice (some ⟨vb, 0, none⟩) 1 1]).run Tryd.prog W1 = .ok (goInt 1) W2 := fun ty dc => by
    rw [← hW2]
    exact run_copy_row W1 _ _ ty Tryd.underlying79 w.heap.size i _ dc vb 0 _ 1 [iv x] _ [iv x] (by simp only [List.length_cons, List.length_nil, Nat.min_def]; split <;> omega) hL1 hx1 rfl (by simp; omega) (by intro u hu; rw [List.mem_singleton] at hu; subst hu; rfl)
  have hg2 := k2.same hg1 (by omega)
  -- the rest
  obtain ⟨W3, hW3⟩ : ∃ W3, W2.drew.setCells w.heap.size (i + 1) Bv = W3 := ⟨_, rfl⟩
  have hL3 := setCells_row Bv (i + 1) W2.drew _ hL2 (by simp; omega)
  rw [hW3] at hL3
  have k3 : Chg (fun k => k = w.heap.size) W2 W3 := by
    rw [← hW3]
    exact ((Chg.refl (fun k => k = w.heap.size) W2).drew).trans (setCells_chg _ Bv (i + 1) W2.drew) (fun k hk => .inl hk)
  have hr2 : ∀ ty dc sc, (Builtin.copy_ #[79, 79] ty #[.slice (some ⟨w.heap.size, i + 1, none⟩) (cap - i) dc, .slice (some ⟨g, i, none⟩) (cap - i) sc]).run Tryd.prog W2.drew = .ok (goInt Bv.length) W3 := fun ty dc sc => by
    rw [← hW3]
    exact run_copy_row W2.drew _ _ ty Tryd.underlying79 w.heap.size (i + 1) _ dc g i _ sc Bv _ L (by rw [hBl]; simp only [Nat.min_def]; split <;> omega) hL2 hg2 (by rw [hLD, List.take_length]) (by simp; omega) (by rw [← hBv]; exact one_iv _)
  have cfin : Chg No w W3 := c1.trans (k2.trans k3 (fun k hk => .inl hk)) (fun k hk => .inr (by omega))
  have hfin : OwnI W3 base (.slice (some ⟨w.heap.size, 0, none⟩) (cap + 1) G) (l.take i ++ [x] ++ l.drop i) := by
    show World.ownsRow _ _ _ _ _ _ _
    rw [hlen]
    refine own_ofRow hL3 ?_ ?_ hlen.symm hG63 hb
    · simp; omega
    · have e1 : (R.take i ++ [iv x] ++ R.drop (i + [iv x].length)).take (i + 1) = Av ++ [iv x] := by
        rw [hRt, List.take_left' (by simp [hAl])]
      rw [e1, List.take_left' (by simp [hBl, hAl]; omega), List.map_append, List.map_append, hBv, hAv]
      rfl
  have hb1 : ¬ (cap = i) := by omega
  have hb2 : ¬ (G = i) := by omega
  have hb9 : ¬ (G = i + 1) := by omega
  have hb3 : (i : Int) ≤ (cap : Int) := by omega
  have hb4 : ¬ ((i : Int) = (cap : Int)) := by omega
  have hb5 : ((cap : Int) < (cap : Int) + 1) := by omega
  have hb7 : (i : Int) ≤ (cap : Int) + 1 := by omega
  have hb8 : (i : Int) + 1 ≤ (cap : Int) + 1 := by omega
  obtain ⟨l9, h9⟩ : ∃ l9, l.take i ++ [x] ++ l.drop i = l9 := ⟨_, rfl⟩
  rw [h9] at hfin ⊢
  clear h9 hlen
  have HF : Hid _ := hfin
  have HR2 : Hid _ := hr2
  have HC : Hid _ := cfin
  have HK : Hid (Chg (fun k => k = w.heap.size) W2 W3) := k3
  clear hfin hr2 hL1 hL2 hL3 hL hLt hLD hLT ho ho2 hx hx1 cfin k2 k3 hg1 hg2 hold c1 hW1 hW2 hW3 hR hRl hRt hG
  rw [hn] at hl hi hroom ⊢
  refine callsIn_of_wp Tryd.func61 rfl trivial ?_
  simp only [Tryd.ntmps61, List.size_toArray, List.length_cons, List.length_nil, Nat.reduceAdd, Nat.reduceSub, Array.replicate_succ, Array.replicate_zero, List.push_toArray, List.append_toArray, List.nil_append, List.cons_append]
  gi_wp2_with (first
    | (gi_at_builtin; refine wpListIn_append_run _ rfl _ _ 79 3 rfl _ _ rfl rfl (hr0 _) ?_)
    | (gi_at_builtin; refine wpListIn_copy_run _ rfl _ _ 79 22 rfl _ _ rfl rfl (hr1 _ _) ?_))
  refine region_loudG (fun j => j == 8) (fun w' => ∃ d : AfterB (fun k => k = w.heap.size) W2, w' = d.val) (fun d u W => (d 8 = true → W = W3) ∧ (d 8 = false → W = W2.drew) ∧ u 8 = goInt Bv.length ∧ Chg (fun k => k = w.heap.size) W2 W)
    (fun _ => goInt Bv.length) hmix (by kernel_rfl) (by kernel_rfl) (fun d u W hI => ⟨⟨W, hI.2.2.2⟩, rfl⟩) ⟨fun h => (by cases h), fun _ => rfl, rfl, (Chg.refl _ W2).drew⟩ (fun u hu => ?_)
  have hany : Nonempty (AfterB (fun k => k = w.heap.size) W2) := AfterB.any _ _
  obtain ⟨_, _, _, _, e8, _⟩ := hu
  simp only [hushE, Nat.reduceAdd, Nat.reduceBEq, if_true, if_false, Bool.false_eq_true]
  simp only [e8]
  repeat (gi_big_quiet_step (fail))
  refine wpQuietIn_nil ⟨?_, ?_, ?_⟩
  · intro j oo ho hm
    rw [beq_iff_eq] at hm
    subst hm
    cases ho
    rfl
  · intro j oo d W hjo hm hd hwt hI
    rw [beq_iff_eq] at hm
    subst hm
    cases hjo
    have hW := hI.2.1 hd
    subst hW
    have hr2 := HR2.out
    refine LeadsV.value (v := goInt Bv.length) (w' := W3) ?_ ⟨fun _ => rfl, fun h => by simp at h, by simp, HK.out⟩
    simp [go_sem, hr2]
  · intro d W hall hI
    have h8 := hall 8 rfl (by simp)
    have hW := hI.1 h8
    subst hW
    gi_wp2
    go_ret
    exact ⟨.slice (some ⟨w.heap.size, 0, none⟩) (cap + 1) G, rfl, HF.out, HC.out, fun k hk => by cases hk; exact Nat.le_refl _⟩

/-- A number put in where it belongs. -/
theorem insert_in (base : Nat) (v : Value) (l : List Int) (i : Nat) (x : Int) (vb : Nat) (w : World) (ho : OwnI w base v l) (hb : base ≤ w.heap.size) (hi : i ≤ l.length) (hl : l.length ≤ 1000) (hx : w.heap[vb]? = some (.cells #[iv x] 3 (0, 0))) (hvb : ¬ v.ownBlock = some vb) :
    CallsIn Fence.wide 0 Tryd.prog 61 #[v, iv (i : Nat), .slice (some ⟨vb, 0, none⟩) 1 1] w fun e w' => ∃ v', e = .returned v' ∧ OwnI w' base v' (l.take i ++ [x] ++ l.drop i) ∧ Chg (fun k => v.ownBlock = some k) w w' ∧ ∀ k, v'.ownBlock = some k → v.ownBlock = some k ∨ w.heap.size ≤ k := by
  by_cases he : i = l.length
  · subst he
    rw [List.take_length, List.drop_length, List.append_nil]
    exact insert_end base v l x vb w ho hb hl hx
  · have hi' : i < l.length := by omega
    rcases ho.2 with ⟨_, h0⟩ | ⟨g, cap, cur, rfl, _⟩
    · omega
    · by_cases hr : l.length + 1 ≤ cap
      · refine (insert_shift base g cap l i x vb w ho hi' hr hl hx (fun e => hvb (by rw [e]; rfl))).mono ?_
        rintro e w' ⟨v', rfl, h1, h2, h3⟩
        exact ⟨v', rfl, h1, h2.mono (fun k hk => by subst hk; rfl), fun k hk => .inl (by rw [h3 k hk]; rfl)⟩
      · refine (insert_grow base g cap l i x vb w ho hb hi' (by omega) hl hx).mono ?_
        rintro e w' ⟨v', rfl, h1, h2, h3⟩
        exact ⟨v', rfl, h1, h2.mono (fun _ h => h.elim), fun k hk => .inr (h3 k hk)⟩
end
end Go.Proofs.YtmpgeacfnikbpaaDoor

end
section
-- RStk
namespace Go.DagLib
open Go.RepoLib

/-- A number put where it belongs, if it is not there. -/
def insI (x : Int) : List Int → List Int
  | [] => [x]
  | y :: l => if y < x then y :: insI x l else if y = x then y :: l else x :: y :: l
def putI (ps st : List Int) : List Int := ps.foldl (fun l x => insI x l) st
theorem insI_mem {x y : Int} {l : List Int} : y ∈ insI x l ↔ y = x ∨ y ∈ l := by
  induction l with
  | nil => simp [insI]
  | cons z l ih =>
    unfold insI
    by_cases h1 : z < x
    · rw [if_pos h1, List.mem_cons, ih, List.mem_cons]
      constructor
      · rintro (h | h | h)
        · exact .inr (.inl h)
        · exact .inl h
        · exact .inr (.inr h)
      · rintro (h | h | h)
        · exact .inr (.inl h)
        · exact .inl h
        · exact .inr (.inr h)
    · rw [if_neg h1]
      by_cases h2 : z = x
      · rw [if_pos h2, List.mem_cons]
        constructor
        · exact .inr
        · rintro (h | h)
          · exact .inl (h.trans h2.symm)
          · exact h
      · rw [if_neg h2, List.mem_cons]
theorem insI_up {x : Int} {l : List Int} (h : l.Pairwise (· < ·)) : (insI x l).Pairwise (· < ·) := by
  induction l with
  | nil => simp [insI]
  | cons z l ih =>
    obtain ⟨hz, hl⟩ := List.pairwise_cons.1 h
    unfold insI
    by_cases h1 : z < x
    · rw [if_pos h1]
      refine List.pairwise_cons.2 ⟨fun y hy => ?_, ih hl⟩
      rcases insI_mem.1 hy with e | hy
      · omega
      · exact hz y hy
    · rw [if_neg h1]
      by_cases h2 : z = x
      · rw [if_pos h2]; exact h
      · rw [if_neg h2]
        refine List.pairwise_cons.2 ⟨fun y hy => ?_, h⟩
        rcases List.mem_cons.1 hy with e | hy
        · omega
        · have := hz y hy; omega
theorem insI_there {x : Int} {l : List Int} (h : l.Pairwise (· < ·)) (hc : l.contains x = true) : insI x l = l := by
  induction l with
  | nil => simp at hc
  | cons z l ih =>
    obtain ⟨hz, hl⟩ := List.pairwise_cons.1 h
    have hm : x = z ∨ x ∈ l := by simpa using hc
    unfold insI
    rcases hm with e | hm
    · rw [if_neg (by omega), if_pos e.symm]
    · rw [if_pos (hz x hm), ih hl (by simpa using hm)]
theorem insI_new {x : Int} {l : List Int} (h : l.Pairwise (· < ·)) (hc : l.contains x = false) : insI x l = l.take (l.countP (· < x)) ++ [x] ++ l.drop (l.countP (· < x)) := by
  induction l with
  | nil => simp [insI]
  | cons z l ih =>
    obtain ⟨hz, hl⟩ := List.pairwise_cons.1 h
    have hm : ¬ (x = z ∨ x ∈ l) := by
      intro h'
      rw [show (z :: l).contains x = true by simpa using h'] at hc
      cases hc
    unfold insI
    by_cases h1 : z < x
    · rw [if_pos h1, ih hl (by cases e : l.contains x with
        | false => rfl
        | true => exact absurd (.inr (by simpa using e)) hm), List.countP_cons_of_pos (by simpa using h1)]
      rfl
    · rw [if_neg h1, if_neg (fun e => hm (.inl e.symm))]
      have h0 : (z :: l).countP (· < x) = 0 := by
        rw [List.countP_eq_zero]
        intro y hy
        rcases List.mem_cons.1 hy with e | hy
        · simp; omega
        · have := hz y hy; simp; omega
      rw [h0]
      rfl
theorem putI_mem {ps : List Int} : ∀ {st : List Int} {y : Int}, y ∈ putI ps st ↔ y ∈ ps ∨ y ∈ st := by
  induction ps with
  | nil => intro st y; simp [putI]
  | cons p ps ih =>
    intro st y
    show y ∈ putI ps (insI p st) ↔ _
    rw [ih, insI_mem, List.mem_cons]
    constructor
    · rintro (h | h | h)
      · exact .inl (.inr h)
      · exact .inl (.inl h)
      · exact .inr h
    · rintro ((h | h) | h)
      · exact .inr (.inl h)
      · exact .inl h
      · exact .inr (.inr h)
theorem putI_up {ps : List Int} : ∀ {st : List Int}, st.Pairwise (· < ·) → (putI ps st).Pairwise (· < ·) := by
  induction ps with
  | nil => intro st h; exact h
  | cons p ps ih => intro st h; exact ih (insI_up h)
theorem putI_take {ps st : List Int} {k : Nat} {x : Int} (h : ps[k]? = some x) : putI (ps.take (k + 1)) st = insI x (putI (ps.take k) st) := by
  rw [List.take_add_one, h]
  unfold putI
  rw [List.foldl_append]
  rfl
/-- So many numbers at most. -/
theorem up_length {l : List Int} : ∀ {a : Int} {n : Nat}, l.Pairwise (· < ·) → (∀ x ∈ l, a < x ∧ x ≤ a + n) → l.length ≤ n := by
  induction l with
  | nil => intro a n _ _; exact Nat.zero_le _
  | cons y l ih =>
    intro a n h hb
    obtain ⟨hy, hl⟩ := List.pairwise_cons.1 h
    obtain ⟨b1, b2⟩ := hb y (by simp)
    have := ih (a := y) (n := (a + n - y).toNat) hl (fun x hx => ⟨hy x hx, by have := (hb x (by simp [hx])).2; omega⟩)
    rw [List.length_cons]
    omega

section
variable {par : Nat → List Nat}
/-- What is still to be told. -/
def remI (par : Nat → List Nat) (st : List Int) (b : Nat) : List Nat := (down b).filter (fun k => st.any (fun s => isA par k s.toNat))
theorem remI_nil (b : Nat) : remI par [] b = [] := by
  unfold remI
  rw [List.filter_eq_nil_iff]
  intro k _
  simp
theorem remI_one (n : Nat) : remI par [(n : Int)] n = aheadL par n := by
  unfold remI aheadL
  refine List.filter_congr (fun k _ => ?_)
  simp
theorem remI_step (hl : Low par) {st ps : List Int} {m : Nat} (hp : ps.map Int.toNat = par m) (hm : 1 ≤ m) (hs : ∀ s ∈ st, s < (m : Int)) : ∀ {b : Nat}, m ≤ b → remI par (st ++ [(m : Int)]) b = m :: remI par (putI ps st) b := by
  have hany : ∀ k, (putI ps st).any (fun s => isA par k s.toNat) = (st.any (fun s => isA par k s.toNat) || (par m).any (isA par k)) := fun k => by
    rw [← hp, List.any_map]
    apply Bool.eq_iff_iff.2
    rw [Bool.or_eq_true, List.any_eq_true, List.any_eq_true, List.any_eq_true]
    constructor
    · rintro ⟨x, hx, h⟩
      rcases putI_mem.1 hx with hx | hx
      · exact .inr ⟨x, hx, h⟩
      · exact .inl ⟨x, hx, h⟩
    · rintro (⟨x, hx, h⟩ | ⟨x, hx, h⟩)
      · exact ⟨x, putI_mem.2 (.inr hx), h⟩
      · exact ⟨x, putI_mem.2 (.inl hx), h⟩
  have hlow : ∀ k, m ≤ k → (putI ps st).any (fun s => isA par k s.toNat) = false := fun k hk => by
    rw [hany, Bool.or_eq_false_iff]
    constructor
    · rw [List.any_eq_false]
      intro s hs1 h
      have := isA_le hl h
      have := hs s hs1
      omega
    · rw [List.any_eq_false]
      intro p hp1 h
      have := isA_le hl h
      have := hl m p hp1
      omega
  have hhi : ∀ k, m < k → (st ++ [(m : Int)]).any (fun s => isA par k s.toNat) = false := fun k hk => by
    rw [List.any_eq_false]
    intro s hs1 h
    have h1 := isA_le hl h
    rcases List.mem_append.1 hs1 with h2 | h2
    · have := hs s h2; omega
    · rw [List.mem_singleton] at h2; subst h2; simp at h1; omega
  intro b
  induction b with
  | zero => intro h; omega
  | succ b ih =>
    intro h
    unfold remI at ih ⊢
    show ((b + 1) :: down b).filter _ = m :: ((b + 1) :: down b).filter _
    rw [List.filter_cons, List.filter_cons, hlow (b + 1) h, if_neg Bool.false_ne_true]
    by_cases hb : m = b + 1
    · subst hb
      have ht : (st ++ [((b + 1 : Nat) : Int)]).any (fun s => isA par (b + 1) s.toNat) = true := by
        rw [List.any_eq_true]
        exact ⟨_, List.mem_append_right _ (List.mem_singleton.2 rfl), by rw [Int.toNat_natCast]; exact isA_self hl _⟩
      rw [ht, if_pos rfl]
      congr 1
      refine List.filter_congr (fun k hk => ?_)
      have := (down_mem.1 hk).2
      rw [hany, List.any_append]
      congr 1
      rw [List.any_cons, List.any_nil, Bool.or_false, Int.toNat_natCast, isA_eq hl k (b + 1)]
      rw [show (k == b + 1) = false by simp; omega, Bool.false_or]
    · rw [hhi (b + 1) (by omega), if_neg Bool.false_ne_true]
      exact ih (by omega)
theorem remI_cons {st : List Int} {b m : Nat} {r : List Nat} (h : remI par st b = m :: r) : st ≠ [] := by
  rintro rfl
  rw [remI_nil] at h
  cases h
/-- By the first parents alone. -/
def par1 (par : Nat → List Nat) (n : Nat) : List Nat := (par n).take 1
theorem par1_low (hl : Low par) : Low (par1 par) := fun n p hp => hl n p (List.mem_of_mem_take hp)
theorem first_ahead (hl : Low par) : ∀ (n : Nat), 1 ≤ n → (∀ k, ∀ p ∈ par k, 1 ≤ p) → aheadL (par1 par) n = fstA par n := by
  intro n
  induction n using Nat.strongRecOn with
  | ind n ih =>
    intro hn h1
    have h := remI_step (par1_low hl) (st := []) (ps := (par1 par n).map (fun (p : Nat) => (p : Int))) (m := n) (by rw [List.map_map]; exact (List.map_congr_left (fun _ _ => rfl)).trans (List.map_id _)) hn (by simp) (Nat.le_refl n)
    rw [List.nil_append, remI_one] at h
    rw [h]
    unfold par1
    cases hp : par n with
    | nil =>
      rw [fstA_nil hp]
      congr 1
      exact remI_nil n
    | cons p r =>
      rw [fstA_cons hl hp]
      congr 1
      have hlt := hl n p (by rw [hp]; simp)
      have hp1 := h1 n p (by rw [hp]; simp)
      rw [← ih p hlt hp1 h1, ← remI_one]
      show (down n).filter _ = (down p).filter _
      have he : putI (List.map (fun (p : Nat) => (p : Int)) (List.take 1 (p :: r))) [] = [(p : Int)] := rfl
      rw [he]
      refine filter_down (fun k hk => ?_) (Nat.le_of_lt hlt)
      rw [List.any_cons, List.any_nil, Bool.or_false, Int.toNat_natCast] at hk
      exact isA_le (par1_low hl) hk
end
/-- A commit's parents, as its list tells them. -/
theorem ParOk.par {L : List Cm} (h : ParOk L) {n : Nat} (hn : 1 ≤ n) (hL : n ≤ L.length) : (getC L (n : Int)).1.map Int.toNat = parL L n ∧ ∀ p ∈ (getC L (n : Int)).1, 1 ≤ p ∧ p < (n : Int) := by
  obtain ⟨i, rfl⟩ : ∃ i, n = i + 1 := ⟨n - 1, by omega⟩
  have hc : L[i]? = some L[i] := List.getElem?_eq_getElem (by omega)
  have hg : getC L ((i + 1 : Nat) : Int) = L[i] := by
    unfold getC
    rw [if_pos (by unfold hasN; simp; omega), show ((i + 1 : Nat) : Int).toNat - 1 = i by omega, List.getD_eq_getElem?_getD, hc]
    rfl
  rw [hg, parL_at hc]
  exact ⟨rfl, fun p hp => by have := h i _ hc p hp; omega⟩
theorem getC_out {L : List Cm} {n : Int} (h : hasN L.length n = false) : getC L n = noC := by
  unfold getC
  rw [h, if_neg Bool.false_ne_true]
end Go.DagLib

end
section
-- KStk
namespace Go.Proofs.YtmpgeacfnikbpaaDoor
open Go.RowKit Go.Shelf Go.SeqLib Go.DiffLib Go.TreeLib Go.RepoLib Go.DagLib Go.BigFrame
attribute [local go_sem] Oper.semAt_some

theorem cutRow {w : World} {base : Nat} {e : TypeId} {g n cap : Nat} {xs : List Value} (h : w.ownsRow base e 1 (.slice (some ⟨g, 0, none⟩) n cap) n xs) (m : Nat) (hm : m ≤ n) : w.ownsRow base e 1 (.slice (some ⟨g, 0, none⟩) m cap) m (xs.take m) := by
  obtain ⟨h1, h2⟩ := h
  rcases h2 with ⟨h2, _⟩ | ⟨g', cap', cur, hv, hb, hg, hn, hx, hs, ht⟩
  · cases h2
  · cases hv
    refine ⟨by rw [List.length_take, h1]; omega, .inr ⟨g, cap, cur, rfl, hb, hg, Nat.le_trans hm hn, hx, hs, ?_⟩⟩
    rw [← ht, List.take_take, Nat.mul_one, Nat.mul_one, Nat.min_eq_left hm]

theorem someRow {w : World} {base : Nat} {e : TypeId} {v : Value} {n : Nat} {xs : List Value} (h : w.ownsRow base e 1 v n xs) (hn : n ≠ 0) : ∃ g cap, v = .slice (some ⟨g, 0, none⟩) n cap := by
  rcases h.2 with ⟨_, h0⟩ | ⟨g, cap, cur, rfl, _⟩
  · exact absurd h0 hn
  · exact ⟨g, cap, rfl⟩

/-- The stack at block B holds l; S: its blocks. -/
def Stk (B : Nat) (l : List Int) : Blk → World → Prop := fun S W => ∃ g cap, S = (fun k => k = B ∨ k = g) ∧ Boxed W B 79 (.slice (some ⟨g, 0, none⟩) l.length cap) ∧ OwnI W 0 (.slice (some ⟨g, 0, none⟩) l.length cap) l ∧ g ≠ B
theorem Stk.part (B : Nat) (l : List Int) : Part (Stk B l) := {
  lt := by
    rintro S W ⟨g, cap, rfl, b, ho, _⟩ k (rfl | rfl)
    · exact b.lt
    · exact (World.ownsRow.lt ho _ rfl).2
  kept := by
    rintro S W W' ⟨g, cap, rfl, b, ho, hne⟩ hs hk
    refine ⟨g, cap, rfl, (hk B (.inl rfl)).trans b, ?_, hne⟩
    refine ⟨ho.1, ?_⟩
    rcases ho.2 with hn | ⟨g', cap', cur, e, hb, hgg, rest⟩
    · exact .inl hn
    · cases e
      exact .inr ⟨g, _, cur, rfl, hb, (hk g (.inr rfl)).trans hgg, rest⟩ }

theorem search_in (g cap : Nat) (l : List Int) (x : Int) (w : World) (ho : OwnI w 0 (.slice (some ⟨g, 0, none⟩) l.length cap) l) (hs : l.Pairwise (· < ·)) (hl : l.length ≤ 1000) :
    CallsIn Fence.wide 0 Tryd.prog 60 #[.slice (some ⟨g, 0, none⟩) l.length cap, iv x] w fun e w' => e = .returned (.tuple #[iv (l.countP (· < x) : Nat), .bool (l.contains x)]) ∧ Chg No w w' := by
  refine callsIn_wide.2 ?_
  refine (AnyG.slices_BinarySearch_int Tryd.laysBin g 0 l.length cap l x w (Nat.le_refl _) (by omega) (fun j hj => ?_) ?_).mono ?_
  · have := ho.cellAt j (by omega)
    rw [Nat.zero_add, this, List.getElem?_map, List.getElem?_eq_getElem hj, List.getD_eq_getElem?_getD, List.getElem?_eq_getElem hj]
    rfl
  · rw [List.take_length]
    exact hs.imp (fun h => Int.le_of_lt h)
  · rintro e w' ⟨rfl, q, rfl⟩
    rw [List.take_length]
    exact ⟨rfl, ⟨rfl, rfl, rfl, Nat.le_refl _, fun _ _ _ => rfl⟩⟩

set_option maxRecDepth 100000 in
set_option maxHeartbeats 4000000 in
theorem pop_in (B : Nat) (l : List Int) (m : Int) (S : Blk) (w : World) (h : Stk B (l ++ [m]) S w) (hl : l.length ≤ 1000) :
    CallsIn Fence.wide 0 Tryd.prog 45 #[ptr B] w fun e w' => e = .returned (iv m) ∧ Stk B l S w' ∧ Chg S w w' := by
  obtain ⟨g, cap, rfl, b, ho, hne⟩ := h
  have hlen : (l ++ [m]).length = l.length + 1 := by simp
  have hm : w.cell? ⟨g, l.length, none⟩ = some (iv m) := by
    have := ho.cellAt l.length (by rw [hlen]; omega)
    rw [this, List.getElem?_map, List.getElem?_append_right (Nat.le_refl _), Nat.sub_self]
    rfl
  have ho0 : w.ownsRow 0 3 1 (.slice (some ⟨g, 0, none⟩) (l.length + 1) cap) (l.length + 1) ((l ++ [m]).map iv) := by rw [← hlen]; exact ho
  clear ho
  rw [hlen] at b
  have hcap : l.length + 1 ≤ cap := by
    rcases ho0.2 with ⟨h, h0⟩ | ⟨g', c, cur, h, _, _, h3, h4, _⟩
    · cases h
    · cases h; exact h3
  have ho1 : w.ownsRow 0 3 1 (.slice (some ⟨g, 0, none⟩) l.length cap) l.length (l.map iv) := by
    have := cutRow ho0 l.length (by omega)
    rw [List.map_append, List.take_left' (by rw [List.length_map])] at this
    exact this
  obtain ⟨n, hn⟩ : ∃ n, l.length = n := ⟨_, rfl⟩
  have c1 : Chg (fun k => k = B) w (w.setCell ⟨B, 0, none⟩ (.slice (some ⟨g, 0, none⟩) n cap)) := (Chg.refl (fun k => k = B) w).setCell (p := ⟨B, 0, none⟩) (.inl rfl) _
  have b1 := b.set (.slice (some ⟨g, 0, none⟩) n cap)
  have ho2 := own_still ho1 c1 (fun k hk e => by cases hk; exact hne e)
  have HF : Hid (Stk B l (fun k => k = B ∨ k = g) (w.setCell ⟨B, 0, none⟩ (.slice (some ⟨g, 0, none⟩) n cap))) := by
    refine ⟨g, cap, rfl, ?_, ho2, hne⟩
    rw [hn]
    exact b1
  have HC : Hid (Chg (fun k => k = B ∨ k = g) w (w.setCell ⟨B, 0, none⟩ (.slice (some ⟨g, 0, none⟩) n cap))) := c1.mono (fun _ => .inl)
  have hcB := b.cell
  have hfB := b.frozen
  rw [hn] at hm hl hcap hcB
  clear b ho0 ho1 ho2 hlen hn c1 b1
  refine callsIn_of_wp Tryd.func45 rfl trivial ?_
  simp only [Tryd.ntmps45, List.size_toArray, List.length_cons, List.length_nil, Nat.reduceAdd, Nat.reduceSub, Array.replicate_succ, Array.replicate_zero, List.push_toArray, List.append_toArray, List.nil_append, List.cons_append]
  gi_wp2
  go_ret
  exact ⟨rfl, HF.out, HC.out⟩
set_option maxRecDepth 100000 in
set_option maxHeartbeats 4000000 in
theorem put_in (B : Nat) (l xs : List Int) (xv : Value) (N : Nat) (S : Blk) (w : World) (h : Stk B l S w) (hx : SlV w xv (xs.map iv)) (hxs : ∀ k, svD xv (xs.map iv) k → ¬ S k) (hs : l.Pairwise (· < ·)) (hN : N ≤ 900) (hb : ∀ x, x ∈ xs ∨ x ∈ l → 0 < x ∧ x ≤ (N : Int)) :
    CallsIn Fence.wide 0 Tryd.prog 46 #[ptr B, xv] w fun e w' => (∃ v, e = .returned v) ∧ ∃ S', Stk B (putI xs l) S' w' ∧ Chg S w w' ∧ Grew S w S' := by
  obtain ⟨p, cap, rfl, h1, h2, hcell⟩ := id hx
  obtain ⟨n, hn⟩ : ∃ n, (xs.map iv).length = n := ⟨_, rfl⟩
  have hnx : xs.length = n := by rw [← hn, List.length_map]
  have HH : Hid ((∀ x, x ∈ xs ∨ x ∈ l → 0 < x ∧ x ≤ (N : Int)) ∧ l.Pairwise (· < ·) ∧ xs.length = n) := ⟨hb, hs, hnx⟩
  have hn63 : n ≤ 9223372036854775807 := by unfold maxLen at h2; omega
  have HX : Hid (SlV w (.slice p n cap) (xs.map iv)) := by rw [← hn]; exact hx
  have HXS : Hid (∀ k, svD (.slice p n cap) (xs.map iv) k → ¬ S k) := by rw [← hn]; exact hxs
  have HS : Hid (Stk B l S w) := h
  rw [hn] at h1 ⊢
  clear hb hs hnx hx hxs hcell h hn
  refine callsIn_of_wp Tryd.func46 rfl trivial ?_
  simp only [Tryd.ntmps46, List.size_toArray, List.length_cons, List.length_nil, Nat.reduceAdd, Nat.reduceSub, Array.replicate_succ, Array.replicate_zero, List.push_toArray, List.append_toArray, List.nil_append, List.cons_append]
  gi_wp2
  gi_loopw [10] (fun i wr => ∃ (k : Nat) (S' : Blk), k ≤ n ∧ i = .int .i64 (k : Int) ∧ Stk B (putI (xs.take k) l) S' wr ∧ Chg S w wr ∧ Grew S w S')
    (fun i _ => n - (intOf i).toNat)
  case atStart => exact ⟨0, S, Nat.zero_le _, rfl, HS.out, Chg.refl _ _, Grew.refl _ _⟩
  case round =>
    obtain ⟨k, S', hk, rfl, hst, c, g⟩ := hrel
    by_cases hlt : k < n
    · have hlt' : (k : Int) < (n : Int) := by omega
      obtain ⟨x, hxk⟩ : ∃ x, xs[k]? = some x := ⟨_, List.getElem?_eq_getElem (by rw [HH.out.2.2]; exact hlt)⟩
      have hup : (putI (xs.take k) l).Pairwise (· < ·) := putI_up HH.out.2.1
      have hmem : ∀ y ∈ putI (xs.take k) l, 0 < y ∧ y ≤ (N : Int) := fun y hy => by
        rcases putI_mem.1 hy with h | h
        · exact HH.out.1 y (.inl (List.mem_of_mem_take h))
        · exact HH.out.1 y (.inr h)
      have hlen : (putI (xs.take k) l).length ≤ N := up_length (a := 0) (n := N) hup (fun y hy => by have := hmem y hy; omega)
      have HT : Hid (putI (xs.take (k + 1)) l = insI x (putI (xs.take k) l)) := putI_take hxk
      obtain ⟨q, hq⟩ : ∃ q, putI (xs.take k) l = q := ⟨_, rfl⟩
      rw [hq] at hst hup hlen
      have HT2 : Hid (putI (xs.take (k + 1)) l = insI x q) := by rw [← hq]; exact HT.out
      clear hq hmem HT
      have hxn : ∀ j, svD (.slice p n cap) (xs.map iv) j → ¬ S' j := fun j hj hs' => by
        rcases g j hs' with h | h
        · exact HXS.out j hj h
        · have := HX.out.lt j hj; omega
      have hxw : SlV wr (.slice p n cap) (xs.map iv) := HX.out.chg c HXS.out
      obtain ⟨p9, c9, e9, z1, z2, hc9⟩ := hxw
      obtain ⟨bx, ox, e8, hcx⟩ := hc9 k (iv x) (by rw [List.getElem?_map, hxk]; rfl)
      rw [Value.slice.injEq] at e9
      obtain ⟨e9, z3, rfl⟩ := e9
      rw [e8] at e9
      subst e9
      clear z1 z2 z3 e8
      obtain ⟨gq, cq, rfl, b, ho, hne⟩ := id hst
      have hcB := b.cell
      have hfB := b.frozen
      have hsz := c.size
      obtain ⟨nq, hnq⟩ : ∃ nq, q.length = nq := ⟨_, rfl⟩
      have hnq' : nq ≤ 900 := by omega
      have H1 := search_in gq cq q x wr ho hup (by omega)
      obtain ⟨at', hat⟩ : ∃ at', q.countP (· < x) = at' := ⟨_, rfl⟩
      have hatl : at' ≤ nq := by rw [← hat, ← hnq]; exact List.countP_le_length
      obtain ⟨u, hu⟩ : ∃ u, q.contains x = u := ⟨_, rfl⟩
      have HQ : Hid (q.Pairwise (· < ·) ∧ q.length = nq ∧ q.countP (· < x) = at' ∧ q.contains x = u) := ⟨hup, hnq, hat, hu⟩
      have HO : Hid (Boxed wr B 79 (.slice (some ⟨gq, 0, none⟩) nq cq) ∧ OwnI wr 0 (.slice (some ⟨gq, 0, none⟩) nq cq) q) := by rw [← hnq]; exact ⟨b, ho⟩
      have HST : Hid _ := hst
      rw [hat, hu, hnq] at H1
      rw [hnq] at hcB
      clear b ho hup hat hu hnq hst hc9 hxn
      gi_wp2_with fail
      refine ⟨trivial, rfl, H1.mono ?_⟩
      rintro e w1 ⟨rfl, c1⟩
      clear H1
      have hcB1 : w1.cell? ⟨B, 0, none⟩ = some (.slice (some ⟨gq, 0, none⟩) nq cq) := (World.cell?_of_block (c1.block B HO.out.1.lt (fun h => h))).trans hcB
      have b1 : Boxed w1 B 79 (.slice (some ⟨gq, 0, none⟩) nq cq) := c1.boxed HO.out.1 (fun h => h)
      have ho1 := own_still HO.out.2 c1 (fun _ _ h => h)
      have hfB1 := b1.frozen
      cases u with
      | true =>
        have hfin : Stk B (putI (xs.take (k + 1)) l) (fun k => k = B ∨ k = gq) w1 := by
          rw [HT2.out, insI_there HQ.out.1 HQ.out.2.2.2]
          exact (Stk.part B q).chg HST.out c1 (fun _ _ h => h)
        gi_wp2
        go_roundw
        case rel => exact ⟨k + 1, fun k => k = B ∨ k = gq, hlt, by go_num, hfin, c.trans c1 (fun _ h => h.elim), g⟩
        case measure => simp [intOf]; omega
      | false =>
        obtain ⟨W1, hW1⟩ : ∃ W1, w1.alloc (.cells #[iv x] 3) = W1 := ⟨_, rfl⟩
        have ca : Chg No w1 W1 := by rw [← hW1]; exact (Chg.refl _ w1).alloc _
        have hxa : W1.heap[w1.heap.size]? = some (.cells #[iv x] 3 (0, 0)) := by rw [← hW1]; exact World.alloc_heap_new w1 _
        have b2 := ca.boxed b1 (fun h => h)
        have ho2 := own_still ho1 ca (fun _ _ h => h)
        have hcB2 := b2.cell
        have hfB2 := b2.frozen
        have hgl : gq < w1.heap.size := (World.ownsRow.lt ho1 gq rfl).2
        have H2 := insert_in 0 (.slice (some ⟨gq, 0, none⟩) nq cq) q at' x w1.heap.size W1 (by have := HQ.out.2.1; rw [← this] at ho2 ⊢; exact ho2) (Nat.zero_le _) (by rw [HQ.out.2.1]; exact hatl) (by rw [HQ.out.2.1]; omega) hxa (fun e => by
          have e' : some gq = some w1.heap.size := e
          rw [Option.some.injEq] at e'
          omega)
        gi_wp2_with fail
        refine ⟨trivial, rfl, H2.mono ?_⟩
        rintro e w2 ⟨v', rfl, ho3, c2, hbl⟩
        clear H2
        have hins : q.take at' ++ [x] ++ q.drop at' = insI x q := by
          have := insI_new HQ.out.1 HQ.out.2.2.2
          rw [HQ.out.2.2.1] at this
          exact this.symm
        rw [hins] at ho3
        obtain ⟨g3, c3, rfl⟩ := someRow ho3 (by
          have : x ∈ insI x q := insI_mem.2 (.inl rfl)
          intro e
          rw [List.length_eq_zero_iff] at e
          rw [e] at this
          cases this)
        have b3 : Boxed w2 B 79 (.slice (some ⟨gq, 0, none⟩) nq cq) := c2.boxed b2 (fun e => by cases e; exact hne rfl)
        have hcB3 := b3.cell
        have hfB3 := b3.frozen
        obtain ⟨m3, hm3⟩ : ∃ m3, (insI x q).length = m3 := ⟨_, rfl⟩
        have hg3 : g3 = gq ∨ W1.heap.size ≤ g3 := by
          rcases hbl g3 rfl with h | h
          · cases h; exact .inl rfl
          · exact .inr h
        have hlt3 := (World.ownsRow.lt ho3 g3 rfl).2
        have hBl := b2.lt
        have hgB : g3 ≠ B := by
          rcases hg3 with h | h
          · rw [h]; exact hne
          · omega
        have c4 : Chg (fun k => k = B) w2 (w2.setCell ⟨B, 0, none⟩ (.slice (some ⟨g3, 0, none⟩) m3 c3)) := (Chg.refl (fun k => k = B) w2).setCell (p := ⟨B, 0, none⟩) (.inl rfl) _
        have hfin : Stk B (putI (xs.take (k + 1)) l) (fun k => k = B ∨ k = g3) (w2.setCell ⟨B, 0, none⟩ (.slice (some ⟨g3, 0, none⟩) m3 c3)) := by
          rw [HT2.out]
          refine ⟨g3, c3, rfl, ?_, own_still ho3 c4 (fun k hk e => by cases hk; exact hgB e), hgB⟩
          rw [hm3]
          exact b3.set _
        have csz1 := c1.size
        have cc : Chg S w (w2.setCell ⟨B, 0, none⟩ (.slice (some ⟨g3, 0, none⟩) m3 c3)) := by
          refine c.trans (S' := fun k => k = B ∨ k = gq) ?_ g
          refine (c1.mono (fun _ h => h.elim)).trans (S' := fun k => k = B ∨ k = gq) ?_ (Grew.refl _ _)
          refine (ca.mono (fun _ h => h.elim)).trans (S' := fun k => k = B ∨ k = gq) ?_ (Grew.refl _ _)
          exact (c2.mono (fun k hk => by cases hk; exact .inr rfl)).trans (c4.mono (fun k hk => .inl hk)) (Grew.refl _ _)
        have gg : Grew S w (fun k => k = B ∨ k = g3) := by
          rintro k (rfl | rfl)
          · exact g _ (.inl rfl)
          · rcases hg3 with h | h
            · rw [h]; exact g _ (.inr rfl)
            · exact .inr (by have := ca.size; omega)
        have HFin : Hid _ := hfin
        have HCC : Hid _ := cc
        rw [hm3]
        clear hfin cc c4 ho3 b3 hm3
        gi_wp2
        go_roundw
        case rel => exact ⟨k + 1, _, hlt, by go_num, HFin.out, HCC.out, gg⟩
        case measure => simp [intOf]; omega
    · obtain rfl : k = n := by omega
      gi_wp2
      go_end0
      refine ⟨⟨_, rfl⟩, S', ?_, c, g⟩
      rw [List.take_of_length_le (by rw [HH.out.2.2]; exact Nat.le_refl _)] at hst
      exact hst

end Go.Proofs.YtmpgeacfnikbpaaDoor

end
section
-- REqI
namespace Go.Proofs.YtmpgeacfnikbpaaDoor
open Go.RowKit Go.Shelf Go.SeqLib
attribute [local go_sem] Oper.semAt_some

set_option maxHeartbeats 1000000 in
theorem equalI_in (v u : Value) (xs ys : List Int) (w : World) (hv : SlV w v (xs.map (Value.int .i64))) (hu : SlV w u (ys.map (Value.int .i64))) :
    CallsIn Fence.wide 0 Tryd.prog 64 #[v, u] w fun e w' => e = .returned (.bool (decide (xs = ys))) ∧ Chg (fun _ => False) w w' := by
  obtain ⟨p, c1, rfl, hp1, hp2, hpc⟩ := hv
  obtain ⟨q, c2, rfl, hq1, hq2, hqc⟩ := hu
  rw [List.length_map] at hp1 hq1
  have hl1 : xs.length ≤ maxLen := by omega
  have hl2 : ys.length ≤ maxLen := by omega
  unfold maxLen at hl1 hl2
  rw [List.length_map, List.length_map]
  by_cases hlen : xs.length = ys.length
  · have he : ((xs.length : Int) != (ys.length : Int)) = false := by simp [hlen]
    have HL : Hid (xs.length = ys.length) := hlen
    clear hlen
    refine callsIn_of_wp Tryd.func64 rfl trivial ?_
    simp only [Tryd.ntmps64, List.size_toArray, List.length_cons, List.length_nil, Nat.reduceAdd, Nat.reduceSub, Array.replicate_succ, Array.replicate_zero, List.push_toArray, List.append_toArray, List.nil_append, List.cons_append]
    gi_wp2
    gi_loopw [13] (fun i wr => ∃ k : Nat, k ≤ xs.length ∧ i = .int .i64 (k : Int) ∧ Hid (xs.take k = ys.take k) ∧ Chg (fun _ => False) w wr) (fun i _ => xs.length - (intOf i).toNat)
    case atStart => exact ⟨0, Nat.zero_le _, rfl, rfl, Chg.refl _ _⟩
    case round =>
      obtain ⟨k, hk, rfl, hT, c⟩ := hrel
      by_cases hlt : k < xs.length
      · have hlt2 : k < ys.length := by rw [← HL.out]; exact hlt
        obtain ⟨b1, o1, rfl, hc1⟩ := hpc k (.int .i64 xs[k]) (by simp [hlt])
        obtain ⟨b2, o2, rfl, hc2⟩ := hqc k (.int .i64 ys[k]) (by simp [hlt2])
        have hw1 : wr.cell? ⟨b1, o1 + k, none⟩ = some (.int .i64 xs[k]) := (World.cell?_of_block (a := ⟨b1, o1 + k, none⟩) (c.block b1 (World.block_lt_of_cell? w _ hc1) (fun h => h))).trans hc1
        have hw2 : wr.cell? ⟨b2, o2 + k, none⟩ = some (.int .i64 ys[k]) := (World.cell?_of_block (a := ⟨b2, o2 + k, none⟩) (c.block b2 (World.block_lt_of_cell? w _ hc2) (fun h => h))).trans hc2
        clear hc1 hc2
        have hmix : Tryd.prog.follows .mixedOrders = true := by kernel_rfl
        by_cases hxy : xs[k] = ys[k]
        · have hb : (xs[k] == ys[k]) = true := by rw [hxy]; simp
          have HT : Hid (xs.take (k + 1) = ys.take (k + 1)) := by
            show _ = _
            rw [List.take_succ_eq_append_getElem hlt, List.take_succ_eq_append_getElem hlt2, hT.out, hxy]
          clear hxy
          generalize xs[k] = x at *
          generalize ys[k] = y at *
          gi_wp2
          gi_big_quiet_th_o (fail)
          gi_wp2
          go_roundw
          case rel => exact ⟨k + 1, hlt, by go_num, HT, drewNC c _⟩
          case measure => simp [intOf]; omega
        · have hb : (xs[k] == ys[k]) = false := by rw [beq_eq_false_iff_ne]; exact hxy
          have HD : Hid (decide (xs = ys) = false) := by
            show _ = _
            rw [decide_eq_false_iff_not]; rintro rfl; exact hxy rfl
          clear hxy
          generalize xs[k] = x at *
          generalize ys[k] = y at *
          gi_wp2
          gi_big_quiet_th_o (fail)
          gi_wp2
          go_ret
          exact ⟨by rw [HD.out]; rfl, drewNC c _⟩
      · obtain rfl : k = xs.length := by omega
        have HD : Hid (decide (xs = ys) = true) := by
          show _ = _
          rw [decide_eq_true_iff]
          have h := hT.out
          rw [List.take_length] at h
          rw [HL.out, List.take_length] at h
          exact h
        clear hT
        gi_wp2
        go_ret
        exact ⟨by rw [HD.out]; rfl, c⟩
  · have he : ((xs.length : Int) != (ys.length : Int)) = true := by simp; omega
    have HD : Hid (decide (xs = ys) = false) := by
      show _ = _
      rw [decide_eq_false_iff_not]; rintro rfl; exact hlen rfl
    clear hlen
    refine callsIn_of_wp Tryd.func64 rfl trivial ?_
    simp only [Tryd.ntmps64, List.size_toArray, List.length_cons, List.length_nil, Nat.reduceAdd, Nat.reduceSub, Array.replicate_succ, Array.replicate_zero, List.push_toArray, List.append_toArray, List.nil_append, List.cons_append]
    gi_wp2
    go_ret
    exact ⟨by rw [HD.out]; rfl, Chg.refl _ _⟩

set_option maxRecDepth 100000 in
set_option maxHeartbeats 1000000 in
theorem cloneI_in (v : Value) (zs : List Int) (hlen : zs.length ≤ 1000000) (w : World) (hv : SlV w v (zs.map (Value.int .i64))) : CallsIn Fence.wide 0 Tryd.prog 53 #[v] w fun e w' =>
    ∃ v', e = .returned v' ∧ w'.ownsRow w.heap.size 3 1 v' zs.length (zs.map (Value.int .i64)) ∧ Chg (fun _ => False) w w' := by
  obtain ⟨i0, hi, hz0, hz1, hz2⟩ := info_parts infoInt
  obtain ⟨p, cap, rfl, h1, h2, hc⟩ := hv
  rw [List.length_map] at h1 ⊢
  cases p with
  | none =>
    have hz : zs = [] := by
      cases zs with
      | nil => rfl
      | cons x r => obtain ⟨b, off, h, _⟩ := hc 0 (.int .i64 x) rfl; cases h
    subst hz
    have hnil := fun w => run_eql_slice_nil' Tryd.underlying22 none 0 cap w
    simp only [Option.isNone_none] at hnil
    refine callsIn_of_wp Tryd.func53 rfl trivial ?_
    simp only [Tryd.ntmps53, List.size_toArray, List.length_cons, List.length_nil, Nat.reduceAdd, Nat.reduceSub, Array.replicate_succ, Array.replicate_zero, List.push_toArray, List.append_toArray, List.nil_append, List.cons_append]
    gi_wp2
    go_ret
    exact ⟨_, rfl, World.ownsRow_nil _ _ _ _, Chg.refl _ _⟩
  | some a =>
    have hnil := fun w => run_eql_slice_nil' Tryd.underlying22 (some a) zs.length cap w
    simp only [Option.isNone_some] at hnil
    refine callsIn_of_wp Tryd.func53 rfl trivial ?_
    simp only [Tryd.ntmps53, List.size_toArray, List.length_cons, List.length_nil, Nat.reduceAdd, Nat.reduceSub, Array.replicate_succ, Array.replicate_zero, List.push_toArray, List.append_toArray, List.nil_append, List.cons_append]
    have hown0 : (w.alloc (.cells #[] 3)).ownsRow w.heap.size 3 1 (.slice (some ⟨w.heap.size, 0, none⟩) 0 0) 0 [] := World.ownsRow_made w #[] 0 (Nat.le_refl _) (Nat.zero_le _) rfl
    have hnews : ∀ j u, (zs.map (Value.int .i64))[j]? = some u → (w.alloc (.cells #[] 3)).cell? (a.add j) = some u := by
      intro j u hj
      rw [List.getElem?_map] at hj
      obtain ⟨x, hx, rfl⟩ := Option.map_eq_some_iff.1 hj
      obtain ⟨b, off, e, hcell⟩ := hc j (.int .i64 x) (by rw [List.getElem?_map, hx]; rfl)
      cases e
      have ea : (⟨b, off, none⟩ : Addr).add j = ⟨b, off + j, none⟩ := by unfold Addr.add; split <;> simp_all
      rw [ea]
      exact (World.cell?_of_block (a := ⟨b, off + j, none⟩) (Below.heap_alloc w _ b (World.block_lt_of_cell? w _ hcell))).trans hcell
    have hone : ∀ u ∈ zs.map (Value.int .i64), u.oneCell' = true := by
      intro u hu
      obtain ⟨x, _, rfl⟩ := List.mem_map.1 hu
      rfl
    have hmx : 0 + zs.length ≤ maxLen := by unfold maxLen; omega
    clear hc
    gi_wp2_with (gi_at_builtin; refine wpListIn_append_at _ rfl _ _ 22 rfl w.heap.size 3 i0 (.int .i64 0) 1 8 Tryd.underlying22 hi hz0 hz1 hz2 rfl (by decide) _ _ _ rfl hown0 a zs.length cap (zs.map (Value.int .i64)) rfl (by simp) hnews hone hmx (by omega) (by simp) ?_; intro v' w1 hown' hgrow _ hat; obtain ⟨p', c', rfl⟩ := row_slice hown')
    go_ret
    refine ⟨_, rfl, by simpa using hown', ((Chg.refl _ w).alloc _).grown hgrow (fun k e => .inr ?_)⟩
    cases e
    exact Nat.le_refl _

end Go.Proofs.YtmpgeacfnikbpaaDoor

end
section
-- KMay
namespace Go.Proofs.YtmpgeacfnikbpaaDoor
open Go.RowKit Go.Shelf Go.SeqLib Go.DiffLib Go.TreeLib Go.RepoLib Go.BigFrame
attribute [local go_sem] Oper.semAt_some

def parB (l : List Int) : Bool := decide (l.length ≤ 2) && (decide (l.length < 2) || !decide (l[0]? = l[1]?))
theorem mayC_is (c : Cm) : mayC c = (mayB c.2.1 && (parB c.1 && decide (c.2.2.size ≤ 60))) := by
  unfold mayC parB
  rw [Bool.and_assoc]

set_option maxRecDepth 100000 in
set_option maxHeartbeats 4000000 in
theorem par_in (p : Option Addr) (n k : Nat) (l : List Int) (w : World) (h : SlV w (.slice p n k) (l.map iv)) : CallsIn Fence.wide 0 Tryd.prog 48 #[.slice p n k] w fun e w' => e = .returned (.bool (parB l)) ∧ Chg No w w' := by
  have hmix : Tryd.prog.follows .mixedOrders = true := by kernel_rfl
  obtain rfl : n = l.length := by obtain ⟨_, _, e, _⟩ := h; cases e; simp
  have hcap : l.length ≤ 9223372036854775807 := by obtain ⟨_, _, e, hl, hm, _⟩ := h; rw [List.length_map] at hl; unfold maxLen at hm; omega
  have HP : Hid (parB l = (decide (l.length ≤ 2) && (decide (l.length < 2) || !decide (l[0]? = l[1]?)))) := rfl
  rw [HP.out]
  clear HP
  refine callsIn_of_wp Tryd.func48 rfl trivial ?_
  simp only [Tryd.ntmps48, List.size_toArray, List.length_cons, List.length_nil, Nat.reduceAdd, Nat.reduceSub, Array.replicate_succ, Array.replicate_zero, List.push_toArray, List.append_toArray, List.nil_append, List.cons_append]
  rcases l with _ | ⟨a, _ | ⟨b, _ | ⟨d, r⟩⟩⟩
  · simp only [List.length_nil] at *
    gi_wp2
    refine wpIn_region_quiet_lit rfl hmix (by kernel_rfl) ?_
    repeat (gi_big_quiet_step (fail))
    refine wpQuietIn_nil ?_
    rintro w' ⟨j, rfl⟩
    gi_wp2
    go_ret
    exact ⟨rfl, drewNC (Chg.refl No w) j⟩
  · simp only [List.length_nil, List.length_cons, Nat.zero_add] at *
    gi_wp2
    refine wpIn_region_quiet_lit rfl hmix (by kernel_rfl) ?_
    repeat (gi_big_quiet_step (fail))
    refine wpQuietIn_nil ?_
    rintro w' ⟨j, rfl⟩
    gi_wp2
    go_ret
    exact ⟨rfl, drewNC (Chg.refl No w) j⟩
  · simp only [List.length_nil, List.length_cons, Nat.zero_add, Nat.reduceAdd] at h hcap ⊢
    obtain ⟨bp, op, rfl, hc0⟩ := h.get1 (i := 0) (x := iv a) rfl
    obtain ⟨_, _, e1, hc1⟩ := h.get1 (i := 1) (x := iv b) rfl
    cases e1
    have k0 : w.cell? ⟨bp, op, none⟩ = some (iv a) := hc0
    clear hc0
    by_cases hab : a = b
    · subst hab
      have hbb : ([a, a] : List Int)[0]? = [a, a][1]? := rfl
      have hb : (a != a) = false := by simp
      gi_wp2
      refine wpIn_region_quiet_lit rfl hmix (by kernel_rfl) ?_
      repeat (gi_big_quiet_step (fail))
      refine wpQuietIn_nil ?_
      rintro w' ⟨j, rfl⟩
      gi_wp2
      go_ret
      refine ⟨?_, drewNC (Chg.refl No w) j⟩
      rw [decide_eq_true hbb]
      rfl
    · have hb : (a != b) = true := by rw [bne_iff_ne]; exact hab
      have hbb : ¬ ([a, b] : List Int)[0]? = [a, b][1]? := fun e => hab (Option.some.inj e)
      clear hab
      gi_wp2
      refine wpIn_region_quiet_lit rfl hmix (by kernel_rfl) ?_
      repeat (gi_big_quiet_step (fail))
      refine wpQuietIn_nil ?_
      rintro w' ⟨j, rfl⟩
      gi_wp2
      go_ret
      refine ⟨?_, drewNC (Chg.refl No w) j⟩
      rw [decide_eq_false hbb]
      rfl
  · obtain ⟨z, hz⟩ : ∃ z, (a :: b :: d :: r).length = z := ⟨_, rfl⟩
    have hz3 : 3 ≤ z := by rw [← hz]; simp
    have hd0 : decide ((z : Int) < 2) = false := decide_eq_false (by omega)
    have hd1 : ((z : Int) == 2) = false := by rw [beq_eq_false_iff_ne]; omega
    have hd2 : decide (z ≤ 2) = false := decide_eq_false (by omega)
    rw [hz] at hcap
    simp only [hz] at h ⊢
    gi_wp2
    refine wpIn_region_quiet_lit rfl hmix (by kernel_rfl) ?_
    repeat (gi_big_quiet_step (fail))
    refine wpQuietIn_nil ?_
    rintro w' ⟨j, rfl⟩
    gi_wp2
    go_ret
    refine ⟨?_, drewNC (Chg.refl No w) j⟩
    rw [hd2]
    rfl

set_option maxHeartbeats 1000000 in
theorem mayR_in (v : Value) (c : Cm) (D : Blk) (w : World) (hv : CmD D w v c) (hs : SmallC c) : CallsIn Fence.wide 0 Tryd.prog 32 #[v] w fun e w' => e = .returned (.bool (mayC c)) ∧ Chg No w w' := by
  obtain ⟨p, n, k, q, m, l, rfl, h1, h2, _, _⟩ := hv
  obtain ⟨c1, c2, c3⟩ := c
  have hz : ∀ f ∈ c2, f.1.size ≤ 100000 := fun f hf => by have := (hs.2.2.1 f hf).1; omega
  dsimp only at h1 h2 ⊢
  have ca : Chg No w (w.alloc (.cells #[.slice p n k, .slice q m l, .string c3] 46)) := (Chg.refl _ w).alloc _
  have M1 := may_in (.slice q m l) c2 hz _ (h2.no ca)
  have P1 := fun W hw => par_in p n k c1 W hw
  have HM : Hid (mayC (c1, c2, c3) = (mayB c2 && (parB c1 && decide (c3.size ≤ 60)))) := mayC_is _
  rw [HM.out]
  clear HM
  have x0 : (w.alloc (.cells #[.slice p n k, .slice q m l, .string c3] 46)).heap[w.heap.size]? = some (.cells #[.slice p n k, .slice q m l, .string c3] 46 (0, 0)) := World.alloc_heap_new w _
  have g1 := h1.no ca
  have hs3 : c3.size ≤ 100 := hs.2.2.2
  clear h1 h2 hs hz
  generalize mayB c2 = b2 at M1 ⊢
  generalize parB c1 = b1 at P1 ⊢
  obtain ⟨z, hz⟩ : ∃ z, c3.size = z := ⟨_, rfl⟩
  refine callsIn_of_wp Tryd.func32 rfl trivial ?_
  simp only [Tryd.ntmps32, List.size_toArray, List.length_cons, List.length_nil, Nat.reduceAdd, Nat.reduceSub, Array.replicate_succ, Array.replicate_zero, List.push_toArray, List.append_toArray, List.nil_append, List.cons_append]
  gi_wp2_with fail
  refine ⟨trivial, rfl, M1.mono ?_⟩
  rintro e w1 ⟨rfl, c1'⟩
  have k1 := Chg.seq ca c1'
  have g1' := g1.no c1'
  have x1 := c1'.same x0 (fun h => h)
  have y0 : w1.cell? ⟨w.heap.size, 0, none⟩ = some (.slice p n k) := by simp [World.cell?, x1]
  clear x0 g1 M1
  cases b2 with
  | false =>
    gi_wp2_with fail
    refine ⟨trivial, ?_⟩
    rename_i hKK
    apply hKK
    gi_wp2
    go_ret
    exact ⟨rfl, k1⟩
  | true =>
  gi_wp2_with fail
  refine ⟨trivial, rfl, (P1 _ g1').mono ?_⟩
  rintro e w2 ⟨rfl, c2'⟩
  have x2 := c2'.same x1 (fun h => h)
  have y2 : w2.cell? ⟨w.heap.size, 2, none⟩ = some (.string c3) := by simp [World.cell?, x2]
  clear x1 x2
  cases b1 with
  | false =>
    gi_wp2
    go_ret
    exact ⟨rfl, Chg.seq k1 c2'⟩
  | true =>
    gi_wp2
    go_ret
    refine ⟨?_, Chg.seq k1 c2'⟩
    show Ending.returned (.bool (decide ((z : Int) ≤ 60))) = _
    rw [hz, show decide ((z : Int) ≤ 60) = decide (z ≤ 60) from by rw [decide_eq_decide]; omega]
    rfl

set_option maxHeartbeats 1000000 in
theorem alike_in (v u : Value) (c d : Cm) (D D' : Blk) (hx : c.2.1.length ≤ 1000000) (w : World) (hv : CmD D w v c) (hu : CmD D' w u d) :
    CallsIn Fence.wide 0 Tryd.prog 51 #[v, u] w fun e w' => e = .returned (.bool (decide (c = d))) ∧ Chg No w w' := by
  obtain ⟨p, n, k, q, m, l, rfl, h1, h2, _, _⟩ := hv
  obtain ⟨p', n', k', q', m', l', rfl, h1', h2', _, _⟩ := hu
  obtain ⟨c1, c2, c3⟩ := c
  obtain ⟨d1, d2, d3⟩ := d
  dsimp only at h1 h2 h1' h2' hx ⊢
  have ca : Chg No w ((w.alloc (.cells #[.slice p n k, .slice q m l, .string c3] 46)).alloc (.cells #[.slice p' n' k', .slice q' m' l', .string d3] 46)) := ((Chg.refl _ w).alloc _).alloc _
  have I1 := fun W hv hu => equalI_in (.slice p n k) (.slice p' n' k') c1 d1 W hv hu
  have F1 := fun W hv hu => sameT_in (.slice q m l) (.slice q' m' l') c2 d2 W hv hu hx
  have HE : Hid (decide (((c1, c2, c3) : Cm) = (d1, d2, d3)) = (decide (c1 = d1) && (decide (c2 = d2) && (c3.toList == d3.toList)))) := by
    show _ = _
    by_cases h3 : c3 = d3
    · rw [eqR_true h3, Bool.and_true, Bool.eq_iff_iff]
      simp [h3]
    · rw [eqR_false h3, Bool.and_false, Bool.and_false, decide_eq_false (fun e => h3 (congrArg (fun x : Cm => x.2.2) e))]
  rw [HE.out]
  clear HE
  generalize hb3 : (c3.toList == d3.toList) = b3
  generalize decide (c1 = d1) = b1 at I1 ⊢
  generalize decide (c2 = d2) = b2 at F1 ⊢
  have g1 := h1.no ca
  have g2 := h2.no ca
  have g1' := h1'.no ca
  have g2' := h2'.no ca
  clear h1 h2 h1' h2'
  have x0 : ((w.alloc (.cells #[.slice p n k, .slice q m l, .string c3] 46)).alloc (.cells #[.slice p' n' k', .slice q' m' l', .string d3] 46)).heap[w.heap.size]? = some (.cells #[.slice p n k, .slice q m l, .string c3] 46 (0, 0)) := by
    rw [Below.heap_alloc _ _ _ (by rw [World.size_alloc]; omega)]
    exact World.alloc_heap_new w _
  have x1 : ((w.alloc (.cells #[.slice p n k, .slice q m l, .string c3] 46)).alloc (.cells #[.slice p' n' k', .slice q' m' l', .string d3] 46)).heap[w.heap.size + 1]? = some (.cells #[.slice p' n' k', .slice q' m' l', .string d3] 46 (0, 0)) := by
    have := World.alloc_heap_new (w.alloc (.cells #[.slice p n k, .slice q m l, .string c3] 46)) (.cells #[.slice p' n' k', .slice q' m' l', .string d3] 46 (0, 0))
    rw [World.size_alloc] at this
    exact this
  refine callsIn_of_wp Tryd.func51 rfl trivial ?_
  simp only [Tryd.ntmps51, List.size_toArray, List.length_cons, List.length_nil, Nat.reduceAdd, Nat.reduceSub, Array.replicate_succ, Array.replicate_zero, List.push_toArray, List.append_toArray, List.nil_append, List.cons_append]
  gi_wp2_with fail
  refine ⟨trivial, rfl, (I1 _ g1 g1').mono ?_⟩
  rintro e w1 ⟨rfl, c1'⟩
  have k1 := Chg.seq ca c1'
  have a0 := c1'.same x0 (fun h => h)
  have a1 := c1'.same x1 (fun h => h)
  have y0 : w1.cell? ⟨w.heap.size, 1, none⟩ = some (.slice q m l) := by simp [World.cell?, a0]
  have y1 : w1.cell? ⟨w.heap.size + 1, 1, none⟩ = some (.slice q' m' l') := by simp [World.cell?, a1]
  have f2 := g2.no c1'
  have f2' := g2'.no c1'
  clear x0 x1 g1 g1' g2 g2' I1
  cases b1 with
  | false =>
    gi_wp2_with fail
    refine ⟨trivial, ?_⟩
    rename_i hKK
    apply hKK
    gi_wp2
    go_ret
    exact ⟨rfl, k1⟩
  | true =>
  gi_wp2_with fail
  refine ⟨trivial, rfl, (F1 _ f2 f2').mono ?_⟩
  rintro e w2 ⟨rfl, c2'⟩
  have k2 := Chg.seq k1 c2'
  have a2 := c2'.same a0 (fun h => h)
  have a3 := c2'.same a1 (fun h => h)
  have y2 : w2.cell? ⟨w.heap.size, 2, none⟩ = some (.string c3) := by simp [World.cell?, a2]
  have y3 : w2.cell? ⟨w.heap.size + 1, 2, none⟩ = some (.string d3) := by simp [World.cell?, a3]
  clear a0 a1 a2 a3 y0 y1 F1 f2 f2'
  cases b2 with
  | false =>
    gi_wp2
    go_ret
    exact ⟨rfl, k2⟩
  | true =>
    gi_wp2
    go_ret
    exact ⟨rfl, k2⟩

end Go.Proofs.YtmpgeacfnikbpaaDoor

end
section
-- KOwn
namespace Go.Proofs.YtmpgeacfnikbpaaDoor
open Go.RowKit Go.Shelf Go.SeqLib Go.DiffLib Go.TreeLib Go.RepoLib Go.BigFrame
attribute [local go_sem] Oper.semAt_some

/-- A commit whose lists are rows of their own. -/
theorem CmD.ofOwn {W : World} {b : Nat} {pv tv : Value} {c : Cm} (h1 : OwnI W b pv c.1) (h2 : OwnF W b tv c.2.1) : CmD (fun k => pv.ownBlock = some k ∨ tv.ownBlock = some k) W (.agg #[pv, tv, .string c.2.2]) c := by
  have s1 : SlV W pv (c.1.map iv) := SlV.ofRow (by rw [List.length_map]; exact h1)
  have s2 := OwnF.sl h2
  obtain ⟨p, k, rfl⟩ := row_slice h1
  obtain ⟨q, l, rfl⟩ := row_slice h2
  exact ⟨p, _, k, q, _, l, rfl, s1, s2, fun j hj => .inl hj.2, fun j hj => .inr hj.2⟩

/-- What holds while a commit's lists are cloned. -/
structure CloInv (W0 : World) (B : Nat) (pv tv sv : Value) (ps : List Int) (zs : List Fl) (d : Nat → Bool) (u : Nat → Value) (W : World) : Prop where
  chg : Chg (fun k => k = B) W0 W
  v1 : u 1 = pv
  v4 : u 4 = tv
  v2 : ∃ q m k, u 2 = .slice q m k
  v5 : ∃ q m k, u 5 = .slice q m k
  o2 : d 2 = true → d 1 = true
  o5 : d 5 = true → d 4 = true
  o7 : d 7 = true → d 2 = true
  o9 : d 9 = true → d 5 = true
  f2 : d 2 = true → OwnI W W0.heap.size (u 2) ps
  f5 : d 5 = true → OwnF W W0.heap.size (u 5) zs
  box : W.heap[B]? = some (.cells #[if d 7 then u 2 else pv, if d 9 then u 5 else tv, sv] 46 (0, 0))
section
variable {W0 W W' : World} {B : Nat} {pv tv sv : Value} {ps : List Int} {zs : List Fl} {d : Nat → Bool} {u : Nat → Value}
theorem CloInv.s1 (h : CloInv W0 B pv tv sv ps zs d u W) : CloInv W0 B pv tv sv ps zs (fun j => if j = 1 then true else d j) (fun j => if j = 1 then pv else u j) W :=
  ⟨h.chg, rfl, h.v4, h.v2, h.v5, fun _ => rfl, fun e => h.o5 e, fun e => h.o7 e, fun e => h.o9 e, fun e => h.f2 e, fun e => h.f5 e, h.box⟩
theorem CloInv.s4 (h : CloInv W0 B pv tv sv ps zs d u W) : CloInv W0 B pv tv sv ps zs (fun j => if j = 4 then true else d j) (fun j => if j = 4 then tv else u j) W :=
  ⟨h.chg, h.v1, rfl, h.v2, h.v5, fun e => h.o2 e, fun _ => rfl, fun e => h.o7 e, fun e => h.o9 e, fun e => h.f2 e, fun e => h.f5 e, h.box⟩
theorem CloInv.s2 (h : CloInv W0 B pv tv sv ps zs d u W) (hd : d 2 = false) (h1 : d 1 = true) {v : Value} (c : Chg No W W') (ho : OwnI W' W0.heap.size v ps) : CloInv W0 B pv tv sv ps zs (fun j => if j = 2 then true else d j) (fun j => if j = 2 then v else u j) W' := by
  have h7 : d 7 = false := by
    cases e : d 7 with
    | false => rfl
    | true => have := h.o7 e; rw [hd] at this; cases this
  obtain ⟨p', c', e'⟩ := row_slice ho
  refine ⟨h.chg.trans c (fun _ h => h.elim), h.v1, h.v4, ⟨p', _, c', e'⟩, h.v5, fun _ => h1, fun e => h.o5 e, fun _ => rfl, fun e => h.o9 e, fun _ => ho, fun e => OwnF.no (h.f5 e) c, ?_⟩
  have hb := h.box
  rw [h7] at hb
  show W'.heap[B]? = some (.cells #[if d 7 = true then v else pv, if d 9 = true then u 5 else tv, sv] _ _)
  rw [h7]
  exact c.same hb (fun h => h)
theorem CloInv.s5 (h : CloInv W0 B pv tv sv ps zs d u W) (hd : d 5 = false) (h4 : d 4 = true) {v : Value} (c : Chg No W W') (ho : OwnF W' W0.heap.size v zs) : CloInv W0 B pv tv sv ps zs (fun j => if j = 5 then true else d j) (fun j => if j = 5 then v else u j) W' := by
  have h9 : d 9 = false := by
    cases e : d 9 with
    | false => rfl
    | true => have := h.o9 e; rw [hd] at this; cases this
  obtain ⟨p', c', e'⟩ := row_slice ho
  refine ⟨h.chg.trans c (fun _ h => h.elim), h.v1, h.v4, h.v2, ⟨p', _, c', e'⟩, fun e => h.o2 e, fun _ => h4, fun e => h.o7 e, fun _ => rfl, fun e => own_still (h.f2 e) c (fun _ _ h => h), fun _ => ho, ?_⟩
  have hb := h.box
  rw [h9] at hb
  show W'.heap[B]? = some (.cells #[if d 7 = true then u 2 else pv, if d 9 = true then v else tv, sv] _ _)
  rw [h9]
  exact c.same hb (fun h => h)
theorem CloInv.s7 (h : CloInv W0 B pv tv sv ps zs d u W) (hB : B < W0.heap.size) (h2 : d 2 = true) (x : Value) : CloInv W0 B pv tv sv ps zs (fun j => if j = 7 then true else d j) (fun j => if j = 7 then x else u j) (W.setCell ⟨B, 0, none⟩ (u 2)) := by
  have c : Chg (fun k => k = B) W (W.setCell ⟨B, 0, none⟩ (u 2)) := (Chg.refl (fun k => k = B) W).setCell (p := ⟨B, 0, none⟩) (.inl rfl) _
  refine ⟨h.chg.trans c (fun k hk => .inl hk), h.v1, h.v4, h.v2, h.v5, fun e => h.o2 e, fun e => h.o5 e, fun _ => h2, fun e => h.o9 e, fun e => own_still (h.f2 e) c (fun k hk e' => ?_), fun e => (h.f5 e).chg c (fun k hk e' => ?_), ?_⟩
  · have := (World.ownsRow.lt (h.f2 e) k hk).1; omega
  · have := (World.ownsRow.lt (h.f5 e) k hk).1; omega
  · have := h.box
    show (W.setCell ⟨B, 0, none⟩ (u 2)).heap[B]? = some (.cells #[u 2, if d 9 = true then u 5 else tv, sv] _ _)
    simp [World.setCell, Array.getElem?_modify, this]
theorem CloInv.s9 (h : CloInv W0 B pv tv sv ps zs d u W) (hB : B < W0.heap.size) (h5 : d 5 = true) (x : Value) : CloInv W0 B pv tv sv ps zs (fun j => if j = 9 then true else d j) (fun j => if j = 9 then x else u j) (W.setCell ⟨B, 1, none⟩ (u 5)) := by
  have c : Chg (fun k => k = B) W (W.setCell ⟨B, 1, none⟩ (u 5)) := (Chg.refl (fun k => k = B) W).setCell (p := ⟨B, 1, none⟩) (.inl rfl) _
  refine ⟨h.chg.trans c (fun k hk => .inl hk), h.v1, h.v4, h.v2, h.v5, fun e => h.o2 e, fun e => h.o5 e, fun e => h.o7 e, fun _ => h5, fun e => own_still (h.f2 e) c (fun k hk e' => ?_), fun e => (h.f5 e).chg c (fun k hk e' => ?_), ?_⟩
  · have := (World.ownsRow.lt (h.f2 e) k hk).1; omega
  · have := (World.ownsRow.lt (h.f5 e) k hk).1; omega
  · have := h.box
    show (W.setCell ⟨B, 1, none⟩ (u 5)).heap[B]? = some (.cells #[if d 7 = true then u 2 else pv, u 5, sv] _ _)
    simp [World.setCell, Array.getElem?_modify, this]
end

set_option maxRecDepth 100000 in
set_option maxHeartbeats 4000000 in
theorem own_in (v : Value) (c : Cm) (D : Blk) (w : World) (hv : CmD D w v c) (hs : SmallC c) : CallsIn Fence.wide 0 Tryd.prog 35 #[v] w fun e w' => ∃ pv tv, e = .returned (.agg #[pv, tv, .string c.2.2]) ∧ OwnI w' w.heap.size pv c.1 ∧ OwnF w' w.heap.size tv c.2.1 ∧ Chg No w w' := by
  have hmix : Tryd.prog.follows .mixedOrders = true := by kernel_rfl
  obtain ⟨p, n, k, q, m, l, rfl, h1, h2, _, _⟩ := hv
  obtain ⟨c1, c2, c3⟩ := c
  have l1 : c1.length ≤ 1000000 := by have := hs.1; dsimp only at this; omega
  have l2 : c2.length ≤ 100000 := by have := hs.2.1; dsimp only at this; omega
  dsimp only at h1 h2 ⊢
  obtain ⟨W0, hW0⟩ : ∃ W0, (w.alloc (.cells #[.slice p n k, .slice q m l, .string c3] 46)).alloc (.cells #[.slice none 0 0, .slice none 0 0, .string ⟨#[]⟩] 46) = W0 := ⟨_, rfl⟩
  have ca : Chg No w W0 := hW0 ▸ ((Chg.refl _ w).alloc _).alloc _
  have x0 : W0.heap[w.heap.size]? = some (.cells #[.slice p n k, .slice q m l, .string c3] 46 (0, 0)) := by
    rw [← hW0, Below.heap_alloc _ _ _ (by rw [World.size_alloc]; omega)]
    exact World.alloc_heap_new w _
  have x1 : W0.heap[w.heap.size + 1]? = some (.cells #[.slice none 0 0, .slice none 0 0, .string ⟨#[]⟩] 46 (0, 0)) := by
    have := World.alloc_heap_new (w.alloc (.cells #[.slice p n k, .slice q m l, .string c3] 46)) (.cells #[.slice none 0 0, .slice none 0 0, .string ⟨#[]⟩] 46 (0, 0))
    rw [World.size_alloc] at this
    rw [← hW0]
    exact this
  have hB : w.heap.size < W0.heap.size := (Array.getElem?_eq_some_iff.1 x0).1
  have hB1 : w.heap.size + 1 < W0.heap.size := (Array.getElem?_eq_some_iff.1 x1).1
  obtain ⟨B, hBe⟩ : ∃ B, w.heap.size = B := ⟨_, rfl⟩
  have HP : ∀ W, Chg (fun k => k = B) W0 W → SlV W (.slice p n k) (c1.map iv) := fun W cW => (h1.no ca).chg cW (fun j hj e => by have := h1.lt j hj; omega)
  have HF : ∀ W, Chg (fun k => k = B) W0 W → SlF W (.slice q m l) c2 := fun W cW => (h2.no ca).chg cW (fun j hj e => by have := h2.lt j hj; omega)
  have hfin : ∀ {W9 : World}, Chg (fun k => k = B ∨ k = B + 1) W0 W9 → Chg No w W9 := fun c9 => ca.trans c9 (fun k hk => by
    rcases hk with h | h
    · exact .inr (by omega)
    · exact .inr (by omega))
  have hany : Nonempty (AfterB (fun k => k = B) W0) := AfterB.any _ _
  have HL : Hid (c1.length ≤ 1000000 ∧ c2.length ≤ 100000) := ⟨l1, l2⟩
  have hsz := ca.size
  clear h1 h2 hs l1 l2
  refine callsIn_of_wp Tryd.func35 rfl trivial ?_
  simp only [Tryd.ntmps35, List.size_toArray, List.length_cons, List.length_nil, Nat.reduceAdd, Nat.reduceSub, Array.replicate_succ, Array.replicate_zero, List.push_toArray, List.append_toArray, List.nil_append, List.cons_append]
  gi_wp2
  subst hBe
  refine region_loudG (fun i => i == 1 || i == 2 || i == 4 || i == 5 || i == 7 || i == 9) (fun w' => ∃ d : AfterB (fun k => k = w.heap.size) W0, w' = d.val) (CloInv W0 w.heap.size (.slice p n k) (.slice q m l) (.string c3) c1 c2)
    (fun j => if j = 1 then .slice p n k else if j = 4 then .slice q m l else .slice none 0 0) hmix (by kernel_rfl) (by kernel_rfl) (fun d u W hI => ⟨⟨W, hI.chg⟩, rfl⟩)
    ⟨(Chg.refl _ W0).drew, rfl, rfl, ⟨none, 0, 0, rfl⟩, ⟨none, 0, 0, rfl⟩, fun h => (by cases h), fun h => (by cases h), fun h => (by cases h), fun h => (by cases h), fun h => (by cases h), fun h => (by cases h), x0⟩ (fun u hu => ?_)
  obtain ⟨_, _, hu⟩ := hu
  have e1 := hu.v1
  have e4 := hu.v4
  obtain ⟨q2, m2, k2, e2⟩ := hu.v2
  obtain ⟨q5, m5, k5, e5⟩ := hu.v5
  clear hu
  simp only [hushE, Nat.reduceAdd, Nat.reduceBEq, Bool.or_self, Bool.or_true, Bool.or_false, if_true, if_false, Bool.false_eq_true]
  simp only [e1, e2, e4, e5]
  repeat (gi_big_quiet_step (fail))
  refine wpQuietIn_nil ⟨?_, ?_, ?_⟩
  · intro i oo ho hm
    simp only [Bool.or_eq_true, beq_iff_eq] at hm
    rcases hm with ((((rfl | rfl) | rfl) | rfl) | rfl) | rfl
    all_goals (cases ho; rfl)
  · intro i oo d W hjo hm hd hwt hI
    have hb := hI.box
    simp only [Bool.or_eq_true, beq_iff_eq] at hm
    rcases hm with ((((rfl | rfl) | rfl) | rfl) | rfl) | rfl
    · cases hjo
      have h7 : d 7 = false := by
        cases e : d 7 with
        | false => rfl
        | true => have := hI.o2 (hI.o7 e); rw [hd] at this; cases this
      rw [h7, if_neg Bool.false_ne_true] at hb
      have kb : W.cell? ⟨w.heap.size, 0, none⟩ = some (.slice p n k) := by simp [World.cell?, hb]
      refine LeadsV.value (v := .slice p n k) (w' := W) ?_ hI.s1
      simp [go_sem, kb]
    · cases hjo
      have h1 := hwt 1 rfl (by kernel_rfl)
      refine LeadsV.call (f := 53) (args := #[.slice p n k]) (by simp [go_sem]) ((cloneI_in _ c1 HL.out.1 _ (HP W hI.chg)).mono ?_)
      rintro e w2 ⟨v', rfl, ho, c'⟩
      exact ⟨v', rfl, hI.s2 hd h1 c' (rowBase ho hI.chg.size)⟩
    · cases hjo
      have h9 : d 9 = false := by
        cases e : d 9 with
        | false => rfl
        | true => have := hI.o5 (hI.o9 e); rw [hd] at this; cases this
      rw [h9, if_neg Bool.false_ne_true] at hb
      have kb : W.cell? ⟨w.heap.size, 1, none⟩ = some (.slice q m l) := by simp [World.cell?, hb]
      refine LeadsV.value (v := .slice q m l) (w' := W) ?_ hI.s4
      simp [go_sem, kb]
    · cases hjo
      have h4 := hwt 4 rfl (by kernel_rfl)
      refine LeadsV.call (f := 54) (args := #[.slice q m l]) (by simp [go_sem]) ((cloneF_in _ c2 HL.out.2 _ (HF W hI.chg)).mono ?_)
      rintro e w2 ⟨v', rfl, ho, c'⟩
      exact ⟨v', rfl, hI.s5 hd h4 c' (ho.base hI.chg.size)⟩
    · cases hjo
      have h2 := hwt 2 rfl (by kernel_rfl)
      have kb : W.cell? ⟨w.heap.size, 0, none⟩ = some (if d 7 then u 2 else .slice p n k) := by simp [World.cell?, hb]
      have kf : W.frozen? ⟨w.heap.size, 0, none⟩ = false := by simp [World.frozen?, hb]
      refine LeadsV.skip (w' := W.setCell ⟨w.heap.size, 0, none⟩ (u 2)) ?_ (hI.s7 hB h2 undef)
      rw [e2]
      simp [go_sem, kb, kf]
    · cases hjo
      have h5 := hwt 5 rfl (by kernel_rfl)
      have kb : W.cell? ⟨w.heap.size, 1, none⟩ = some (if d 9 then u 5 else .slice q m l) := by simp [World.cell?, hb]
      have kf : W.frozen? ⟨w.heap.size, 1, none⟩ = false := by simp [World.frozen?, hb]
      refine LeadsV.skip (w' := W.setCell ⟨w.heap.size, 1, none⟩ (u 5)) ?_ (hI.s9 hB h5 undef)
      rw [e5]
      simp [go_sem, kb, kf]
  · intro d W hall hI
    have h2 := hall 2 rfl (by simp)
    have h5 := hall 5 rfl (by simp)
    have h7 := hall 7 rfl (by simp)
    have h9 := hall 9 rfl (by simp)
    have hb := hI.box
    rw [h7, h9, if_pos rfl, if_pos rfl, e2, e5] at hb
    have o2 := hI.f2 h2
    have o5 := hI.f5 h5
    rw [e2] at o2
    rw [e5] at o5
    have cW := hI.chg
    have hr := cW.same x1 (by omega)
    have y0 : W.cell? ⟨w.heap.size, 0, none⟩ = some (.slice q2 m2 k2) := by simp [World.cell?, hb]
    have y1 : W.cell? ⟨w.heap.size, 1, none⟩ = some (.slice q5 m5 k5) := by simp [World.cell?, hb]
    have y2 : W.cell? ⟨w.heap.size, 2, none⟩ = some (.string c3) := by simp [World.cell?, hb]
    have z0 : W.cell? ⟨w.heap.size + 1, 0, none⟩ = some (.slice none 0 0) := by simp [World.cell?, hr]
    have z1 : W.cell? ⟨w.heap.size + 1, 1, none⟩ = some (.slice none 0 0) := by simp [World.cell?, hr]
    have z2 : W.cell? ⟨w.heap.size + 1, 2, none⟩ = some (.string ⟨#[]⟩) := by simp [World.cell?, hr]
    have f0 : W.frozen? ⟨w.heap.size + 1, 0, none⟩ = false := by simp [World.frozen?, hr]
    have f1 : W.frozen? ⟨w.heap.size + 1, 1, none⟩ = false := by simp [World.frozen?, hr]
    have f2 : W.frozen? ⟨w.heap.size + 1, 2, none⟩ = false := by simp [World.frozen?, hr]
    have hr9 : (((W.setCell ⟨w.heap.size + 1, 0, none⟩ (.slice q2 m2 k2)).setCell ⟨w.heap.size + 1, 1, none⟩ (.slice q5 m5 k5)).setCell ⟨w.heap.size + 1, 2, none⟩ (.string c3)).heap[w.heap.size + 1]? = some (.cells #[.slice q2 m2 k2, .slice q5 m5 k5, .string c3] 46 (0, 0)) := by
      simp [World.setCell, Array.getElem?_modify, hr]
    have c9 : Chg (fun k => k = w.heap.size + 1) W (((W.setCell ⟨w.heap.size + 1, 0, none⟩ (.slice q2 m2 k2)).setCell ⟨w.heap.size + 1, 1, none⟩ (.slice q5 m5 k5)).setCell ⟨w.heap.size + 1, 2, none⟩ (.string c3)) :=
      (((Chg.refl (fun k => k = w.heap.size + 1) W).setCell (p := ⟨w.heap.size + 1, 0, none⟩) (.inl rfl) _).setCell (p := ⟨w.heap.size + 1, 1, none⟩) (.inl rfl) _).setCell (p := ⟨w.heap.size + 1, 2, none⟩) (.inl rfl) _
    clear hI hall hany e1 e4 e2 e5 hb HP HF
    gi_wp2
    generalize ((W.setCell ⟨w.heap.size + 1, 0, none⟩ (.slice q2 m2 k2)).setCell ⟨w.heap.size + 1, 1, none⟩ (.slice q5 m5 k5)).setCell ⟨w.heap.size + 1, 2, none⟩ (.string c3) = W9 at *
    have r0 : W9.cell? ⟨w.heap.size + 1, 0, none⟩ = some (.slice q2 m2 k2) := by simp [World.cell?, hr9]
    have r1 : W9.cell? ⟨w.heap.size + 1, 1, none⟩ = some (.slice q5 m5 k5) := by simp [World.cell?, hr9]
    have r2 : W9.cell? ⟨w.heap.size + 1, 2, none⟩ = some (.string c3) := by simp [World.cell?, hr9]
    refine bodyPost_ret (v := .agg #[.slice q2 m2 k2, .slice q5 m5 k5, .string c3]) ?_ rfl ⟨_, _, rfl, ?_, ?_, hfin ((cW.mono (fun _ => .inl)).trans (c9.mono (fun _ => .inr)) (Grew.refl _ _))⟩
    · rw [results_cell1 rfl]
      go_simp
    · exact rowBase (own_still o2 c9 (fun k hk e => by have := (World.ownsRow.lt o2 k hk).1; omega)) hsz
    · exact OwnF.base (o5.chg c9 (fun k hk e => by have := (World.ownsRow.lt o5 k hk).1; omega)) hsz

end Go.Proofs.YtmpgeacfnikbpaaDoor

end
section
-- KGet
namespace Go.Proofs.YtmpgeacfnikbpaaDoor
open Go.RowKit Go.Shelf Go.SeqLib Go.DiffLib Go.TreeLib Go.RepoLib Go.BigFrame
attribute [local go_sem] Oper.semAt_some

set_option maxRecDepth 100000 in
set_option maxHeartbeats 4000000 in
theorem get_in1 (B : Nat) (s : Rp) (lv : Value) (rows : List Rw) (D : Blk) (n : Int) (w : World) (h : KRep B s lv rows D w) (hl : s.1.length ≤ 200) :
    CallsIn Fence.wide 0 Tryd.prog 42 #[ptr B, iv n] w fun e w' => ∃ pv tv, e = .returned (.tuple #[.agg #[pv, tv, .string (getC s.1 n).2.2], .bool (hasN s.1.length n)]) ∧ OwnI w' w.heap.size pv (getC s.1 n).1 ∧ OwnF w' w.heap.size tv (getC s.1 n).2.1 ∧ Chg No w w' := by
  obtain ⟨W1, hW1⟩ : ∃ W1, w.alloc (.cells #[.slice none 0 0, .slice none 0 0, .string ⟨#[]⟩] 46) = W1 := ⟨_, rfl⟩
  have ca : Chg No w W1 := hW1 ▸ (Chg.refl _ w).alloc _
  have x0 : W1.heap[w.heap.size]? = some (.cells #[.slice none 0 0, .slice none 0 0, .string ⟨#[]⟩] 46 (0, 0)) := hW1 ▸ World.alloc_heap_new w _
  have hk := h.no ca
  have H1 := has_in B s lv rows D n _ hk
  obtain ⟨p0, cap, rfl⟩ := h.slice
  obtain ⟨_, y1, _, _⟩ := hk.cells
  have c0 : W1.cell? ⟨w.heap.size, 0, none⟩ = some (.slice none 0 0) := by simp [World.cell?, x0]
  have c1 : W1.cell? ⟨w.heap.size, 1, none⟩ = some (.slice none 0 0) := by simp [World.cell?, x0]
  have c2 : W1.cell? ⟨w.heap.size, 2, none⟩ = some (.string ⟨#[]⟩) := by simp [World.cell?, x0]
  have f0 : W1.frozen? ⟨w.heap.size, 0, none⟩ = false := by simp [World.frozen?, x0]
  have f1 : W1.frozen? ⟨w.heap.size, 1, none⟩ = false := by simp [World.frozen?, x0]
  have f2 : W1.frozen? ⟨w.heap.size, 2, none⟩ = false := by simp [World.frozen?, x0]
  have hst : ∀ (W : World) (a b : Value) (x y z : Value) (s3 : Value), W.heap[w.heap.size]? = some (.cells #[x, y, z] 46 (0, 0)) → (((W.setCell ⟨w.heap.size, 0, none⟩ a).setCell ⟨w.heap.size, 1, none⟩ b).setCell ⟨w.heap.size, 2, none⟩ s3).heap[w.heap.size]? = some (.cells #[a, b, s3] 46 (0, 0)) := fun W a b x y z s3 hW => by
    simp [World.setCell, Array.getElem?_modify, hW]
  have cst : ∀ (W : World) (a b s3 : Value), Chg (fun k => k = w.heap.size) W (((W.setCell ⟨w.heap.size, 0, none⟩ a).setCell ⟨w.heap.size, 1, none⟩ b).setCell ⟨w.heap.size, 2, none⟩ s3) := fun W a b s3 =>
      (((Chg.refl (fun k => k = w.heap.size) W).setCell (p := ⟨w.heap.size, 0, none⟩) (.inl rfl) _).setCell (p := ⟨w.heap.size, 1, none⟩) (.inl rfl) _).setCell (p := ⟨w.heap.size, 2, none⟩) (.inl rfl) _
  obtain ⟨N, hN⟩ : ∃ N, s.1.length = N := ⟨_, rfl⟩
  obtain ⟨u, hu⟩ : ∃ u, hasN N n = u := ⟨_, rfl⟩
  have HNU : Hid (s.1.length = N ∧ hasN N n = u) := ⟨hN, hu⟩
  rw [hN] at H1 y1 hl ⊢
  rw [hu] at H1 ⊢
  have Hst : Hid _ := hst
  have Hcst : Hid _ := cst
  have Hk : Hid _ := hk
  clear hst cst h hk hN hu
  refine callsIn_of_wp Tryd.func42 rfl trivial ?_
  simp only [Tryd.ntmps42, List.size_toArray, List.length_cons, List.length_nil, Nat.reduceAdd, Nat.reduceSub, Array.replicate_succ, Array.replicate_zero, List.push_toArray, List.append_toArray, List.nil_append, List.cons_append]
  gi_wp2_with fail
  refine ⟨trivial, rfl, H1.mono ?_⟩
  rintro e w1 ⟨rfl, hw⟩
  subst hw
  clear H1
  cases u with
  | false =>
    have HG : Hid (getC s.1 n = noC) := by
      show _ = _
      unfold getC
      rw [HNU.out.1, HNU.out.2, if_neg Bool.false_ne_true]
    gi_wp2
    have hr9 := Hst.out _ (.slice none 0 0) (.slice none 0 0) _ _ _ (.string ⟨#[]⟩) x0
    have c9 := Hcst.out w1 (.slice none 0 0) (.slice none 0 0) (.string ⟨#[]⟩)
    generalize ((w1.setCell ⟨w.heap.size, 0, none⟩ (.slice none 0 0)).setCell ⟨w.heap.size, 1, none⟩ (.slice none 0 0)).setCell ⟨w.heap.size, 2, none⟩ (.string ⟨#[]⟩) = W9 at *
    have r0 : W9.cell? ⟨w.heap.size, 0, none⟩ = some (.slice none 0 0) := by simp [World.cell?, hr9]
    have r1 : W9.cell? ⟨w.heap.size, 1, none⟩ = some (.slice none 0 0) := by simp [World.cell?, hr9]
    have r2 : W9.cell? ⟨w.heap.size, 2, none⟩ = some (.string ⟨#[]⟩) := by simp [World.cell?, hr9]
    refine bodyPost_ret (v := .tuple #[.agg #[.slice none 0 0, .slice none 0 0, .string ⟨#[]⟩], .bool false]) ?_ rfl ⟨.slice none 0 0, .slice none 0 0, ?_, ?_, ?_, ca.trans c9 (fun k hk => .inr (by omega))⟩
    · rw [results_cell_tmp rfl]
      go_simp
    · rw [HG.out]; rfl
    · rw [HG.out]; exact World.ownsRow_nil _ _ _ _
    · rw [HG.out]; exact OwnF.nil _ _
  | true =>
    have hb : 1 ≤ n ∧ n ≤ (N : Int) := by
      have := HNU.out.2
      unfold hasN at this
      rw [Bool.and_eq_true, decide_eq_true_iff, decide_eq_true_iff] at this
      exact this
    have h0 : -1000000 ≤ n := by omega
    have h1 : n ≤ 1000000 := by omega
    obtain ⟨m, hm⟩ : ∃ m : Nat, n - 1 = (m : Int) := ⟨(n - 1).toNat, by omega⟩
    have hmN : m < N := by omega
    have hmN' : (m : Int) < (N : Int) := by omega
    obtain ⟨x, hx⟩ : ∃ x, s.1[m]? = some x := ⟨_, List.getElem?_eq_getElem (by rw [HNU.out.1]; exact hmN)⟩
    have HG : Hid (getC s.1 n = x) := by
      show _ = _
      unfold getC
      rw [HNU.out.1, HNU.out.2, if_pos rfl, show n.toNat - 1 = m by omega, List.getD_eq_getElem?_getD, hx]
      rfl
    have hk := Hk.out
    rw [HNU.out.1] at hk
    obtain ⟨⟨r1, r2, r3⟩, b1, o1, _, e0, g1, g2, g3, hcx⟩ := hk.cell hx
    have hxs := hk.small x (List.mem_of_getElem? hx)
    subst e0
    dsimp only at g1 g2 g3 hcx
    have hor : ∃ p' n' k' q' m' l', r1 = .slice p' n' k' ∧ r2 = .slice q' m' l' ∧ r3 = x.2.2 := by
      obtain ⟨p', n', k', q', m', l', e, _⟩ := hcx
      cases e
      exact ⟨_, _, _, _, _, _, rfl, rfl, rfl⟩
    obtain ⟨p', n', k', q', m', l', rfl, rfl, rfl⟩ := hor
    have O1 := own_in _ x D _ hcx hxs
    clear hk hcx hxs hb
    gi_wp2_with fail
    refine ⟨trivial, rfl, O1.mono ?_⟩
    rintro e w2 ⟨pv, tv, rfl, ho1, ho2, c3⟩
    clear O1
    obtain ⟨pa, ka, rfl⟩ := row_slice ho1
    obtain ⟨qa, la, rfl⟩ := row_slice ho2
    have x2 := c3.same x0 (fun h => h)
    have d0 : w2.cell? ⟨w.heap.size, 0, none⟩ = some (.slice none 0 0) := by simp [World.cell?, x2]
    have d1 : w2.cell? ⟨w.heap.size, 1, none⟩ = some (.slice none 0 0) := by simp [World.cell?, x2]
    have d2 : w2.cell? ⟨w.heap.size, 2, none⟩ = some (.string ⟨#[]⟩) := by simp [World.cell?, x2]
    have k0 : w2.frozen? ⟨w.heap.size, 0, none⟩ = false := by simp [World.frozen?, x2]
    have k1 : w2.frozen? ⟨w.heap.size, 1, none⟩ = false := by simp [World.frozen?, x2]
    have k2 : w2.frozen? ⟨w.heap.size, 2, none⟩ = false := by simp [World.frozen?, x2]
    obtain ⟨na, hna⟩ : ∃ na, x.1.length = na := ⟨_, rfl⟩
    obtain ⟨ma, hma⟩ : ∃ ma, x.2.1.length = ma := ⟨_, rfl⟩
    rw [hna]
    rw [hma]
    rw [hna] at ho1
    rw [hma] at ho2
    clear hna hma
    gi_wp2
    have hr9 := Hst.out w2 (.slice pa na ka) (.slice qa ma la) _ _ _ (.string x.2.2) x2
    have c9 := Hcst.out w2 (.slice pa na ka) (.slice qa ma la) (.string x.2.2)
    generalize ((w2.setCell ⟨w.heap.size, 0, none⟩ (.slice pa na ka)).setCell ⟨w.heap.size, 1, none⟩ (.slice qa ma la)).setCell ⟨w.heap.size, 2, none⟩ (.string x.2.2) = W9 at *
    have t0 : W9.cell? ⟨w.heap.size, 0, none⟩ = some (.slice pa na ka) := by simp [World.cell?, hr9]
    have t1 : W9.cell? ⟨w.heap.size, 1, none⟩ = some (.slice qa ma la) := by simp [World.cell?, hr9]
    have t2 : W9.cell? ⟨w.heap.size, 2, none⟩ = some (.string x.2.2) := by simp [World.cell?, hr9]
    have hsz := ca.size
    have hlow : w.heap.size < w1.heap.size := (Array.getElem?_eq_some_iff.1 x0).1
    have hfin := (Chg.seq ca c3).trans c9 (fun k hk => .inr (by omega))
    refine bodyPost_ret (v := .tuple #[.agg #[.slice pa na ka, .slice qa ma la, .string x.2.2], .bool true]) ?_ rfl ⟨.slice pa na ka, .slice qa ma la, ?_, ?_, ?_, hfin⟩
    · rw [results_cell_tmp rfl]
      go_simp
    · rw [HG.out]
    · rw [HG.out]
      exact rowBase (own_still ho1 c9 (fun k hk e => by have := (World.ownsRow.lt ho1 k hk).1; omega)) hsz
    · rw [HG.out]
      exact rowBase (own_still ho2 c9 (fun k hk e => by have := (World.ownsRow.lt ho2 k hk).1; omega)) hsz
theorem getN_in (n : Int) (w : World) : CallsIn Fence.wide 0 Tryd.prog 42 #[.pointer none, iv n] w fun e w' => e = .returned (.tuple #[.agg #[.slice none 0 0, .slice none 0 0, .string ⟨#[]⟩], .bool false]) ∧ Chg No w w' := by
  obtain ⟨W1, hW1⟩ : ∃ W1, w.alloc (.cells #[.slice none 0 0, .slice none 0 0, .string ⟨#[]⟩] 46) = W1 := ⟨_, rfl⟩
  have ca : Chg No w W1 := hW1 ▸ (Chg.refl _ w).alloc _
  have x0 : W1.heap[w.heap.size]? = some (.cells #[.slice none 0 0, .slice none 0 0, .string ⟨#[]⟩] 46 (0, 0)) := hW1 ▸ World.alloc_heap_new w _
  have c0 : W1.cell? ⟨w.heap.size, 0, none⟩ = some (.slice none 0 0) := by simp [World.cell?, x0]
  have c1 : W1.cell? ⟨w.heap.size, 1, none⟩ = some (.slice none 0 0) := by simp [World.cell?, x0]
  have c2 : W1.cell? ⟨w.heap.size, 2, none⟩ = some (.string ⟨#[]⟩) := by simp [World.cell?, x0]
  have f0 : W1.frozen? ⟨w.heap.size, 0, none⟩ = false := by simp [World.frozen?, x0]
  have f1 : W1.frozen? ⟨w.heap.size, 1, none⟩ = false := by simp [World.frozen?, x0]
  have f2 : W1.frozen? ⟨w.heap.size, 2, none⟩ = false := by simp [World.frozen?, x0]
  have hr9 : (((W1.setCell ⟨w.heap.size, 0, none⟩ (.slice none 0 0)).setCell ⟨w.heap.size, 1, none⟩ (.slice none 0 0)).setCell ⟨w.heap.size, 2, none⟩ (.string ⟨#[]⟩)).heap[w.heap.size]? = some (.cells #[.slice none 0 0, .slice none 0 0, .string ⟨#[]⟩] 46 (0, 0)) := by
    simp [World.setCell, Array.getElem?_modify, x0]
  have c9 : Chg (fun k => k = w.heap.size) W1 (((W1.setCell ⟨w.heap.size, 0, none⟩ (.slice none 0 0)).setCell ⟨w.heap.size, 1, none⟩ (.slice none 0 0)).setCell ⟨w.heap.size, 2, none⟩ (.string ⟨#[]⟩)) :=
      (((Chg.refl (fun k => k = w.heap.size) W1).setCell (p := ⟨w.heap.size, 0, none⟩) (.inl rfl) _).setCell (p := ⟨w.heap.size, 1, none⟩) (.inl rfl) _).setCell (p := ⟨w.heap.size, 2, none⟩) (.inl rfl) _
  have H1 := hasN_in n W1
  refine callsIn_of_wp Tryd.func42 rfl trivial ?_
  simp only [Tryd.ntmps42, List.size_toArray, List.length_cons, List.length_nil, Nat.reduceAdd, Nat.reduceSub, Array.replicate_succ, Array.replicate_zero, List.push_toArray, List.append_toArray, List.nil_append, List.cons_append]
  gi_wp2_with fail
  refine ⟨trivial, rfl, H1.mono ?_⟩
  rintro e w1 ⟨rfl, hw⟩
  subst hw
  gi_wp2
  generalize ((w1.setCell ⟨w.heap.size, 0, none⟩ (.slice none 0 0)).setCell ⟨w.heap.size, 1, none⟩ (.slice none 0 0)).setCell ⟨w.heap.size, 2, none⟩ (.string ⟨#[]⟩) = W9 at *
  have r0 : W9.cell? ⟨w.heap.size, 0, none⟩ = some (.slice none 0 0) := by simp [World.cell?, hr9]
  have r1 : W9.cell? ⟨w.heap.size, 1, none⟩ = some (.slice none 0 0) := by simp [World.cell?, hr9]
  have r2 : W9.cell? ⟨w.heap.size, 2, none⟩ = some (.string ⟨#[]⟩) := by simp [World.cell?, hr9]
  refine bodyPost_ret (v := .tuple #[.agg #[.slice none 0 0, .slice none 0 0, .string ⟨#[]⟩], .bool false]) ?_ rfl ⟨rfl, ca.trans c9 (fun k hk => .inr (by omega))⟩
  rw [results_cell_tmp rfl]
  go_simp

end Go.Proofs.YtmpgeacfnikbpaaDoor

end
section
-- KAlong
namespace Go.Proofs.YtmpgeacfnikbpaaDoor
open Go.RowKit Go.Shelf Go.SeqLib Go.DiffLib Go.TreeLib Go.RepoLib Go.DagLib Go.BigFrame
attribute [local go_sem] Oper.semAt_some

/-- What comes of a number: nx, a row of its own. -/
def NextOk (NF B : Nat) (s : Rp) (lv : Value) (rows : List Rw) (D : Blk) (nx : Nat → List Int) : Prop := ∀ (m : Nat) (W : World), KRep B s lv rows D W → 1 ≤ m → m ≤ s.1.length →
  CallsIn Fence.wide 0 Tryd.prog NF #[ptr B, iv (m : Int)] W fun e w' => ∃ v, e = .returned v ∧ OwnI w' W.heap.size v (nx m) ∧ Chg No W w'
/-- Those of nx are lesser. -/
def LessI (N : Nat) (par : Nat → List Nat) (nx : Nat → List Int) : Prop := ∀ m, 1 ≤ m → m ≤ N → (nx m).map Int.toNat = par m ∧ ∀ p ∈ nx m, 1 ≤ p ∧ p < (m : Int)

set_option maxRecDepth 100000 in
set_option maxHeartbeats 4000000 in
theorem along1 (B : Nat) (s : Rp) (lv : Value) (rows : List Rw) (D : Blk) (par : Nat → List Nat) (nx : Nat → List Int) (NF n Bn Bf Br : Nat) (eg : ∀ args w, (callFunc NF args).run Tryd.prog w = .ok (.enter NF args) w)
    (hnext : NextOk NF B s lv rows D nx) (hlow : Low par) (hless : LessI s.1.length par nx) (hl : s.1.length ≤ 200) (hn1 : 1 ≤ n) (hn2 : n ≤ s.1.length) :
    Iter Tryd.prog 44 #[ptr Bn, ptr Bf, ptr Br] encI ((aheadL par n).map (fun (p : Nat) => (p : Int))) (fun k => k = Bn ∨ k = Bf ∨ k = Br ∨ (refS B lv k ∨ D k)) No
      (fun W => Boxed W Bn 3 (iv (n : Int)) ∧ Boxed W Bf 64 (.func (.func NF) #[] #[]) ∧ Boxed W Br 24 (ptr B) ∧ KRep B s lv rows D W)
      (fun _ W => Boxed W Bn 3 (iv (n : Int)) ∧ Boxed W Bf 64 (.func (.func NF) #[] #[]) ∧ Boxed W Br 24 (ptr B) ∧ KRep B s lv rows D W) := {
  sub := fun _ h => h.elim
  lt0 := by
    rintro W ⟨b1, b2, b3, b4⟩ k (rfl | rfl | rfl | h | h)
    · exact b1.lt
    · exact b2.lt
    · exact b3.lt
    · exact b4.ltO k h
    · exact b4.lt k h
  kept0 := by
    rintro W W' ⟨b1, b2, b3, b4⟩ hs hk
    exact ⟨(hk _ (.inl rfl)).trans b1, (hk _ (.inr (.inl rfl))).trans b2, (hk _ (.inr (.inr (.inl rfl)))).trans b3, b4.kept hs (fun k h => hk k (.inr (.inr (.inr h))))⟩
  kept := by
    rintro pre W W' ⟨b1, b2, b3, b4⟩ hs hk
    exact ⟨(hk _ (.inl rfl)).trans b1, (hk _ (.inr (.inl rfl))).trans b2, (hk _ (.inr (.inr (.inl rfl)))).trans b3, b4.kept hs (fun k h => hk k (.inr (.inr (.inr h))))⟩
  runs := by
    intro l J Jx S W pJ pJx hY hI hJ hDS
    obtain ⟨b1, b2, b3, b4⟩ := hI
    obtain ⟨tot, htot⟩ : ∃ tot, (aheadL par n).map (fun (p : Nat) => (p : Int)) = tot := ⟨_, rfl⟩
    rw [htot] at hY ⊢
    have hfin : ∀ {W9 : World}, Chg S W W9 → Boxed W9 Bn 3 (iv (n : Int)) ∧ Boxed W9 Bf 64 (.func (.func NF) #[] #[]) ∧ Boxed W9 Br 24 (ptr B) ∧ KRep B s lv rows D W9 := fun c9 =>
      ⟨c9.boxed b1 (hDS _ (.inl rfl)), c9.boxed b2 (hDS _ (.inr (.inl rfl))), c9.boxed b3 (hDS _ (.inr (.inr (.inl rfl)))), b4.chg c9 (fun k hk => hDS k (.inr (.inr (.inr hk))))⟩
    obtain ⟨N, hN⟩ : ∃ N, s.1.length = N := ⟨_, rfl⟩
    have HA : Hid ((aheadL par n).map (fun (p : Nat) => (p : Int)) = tot ∧ NextOk NF B s lv rows D nx ∧ LessI s.1.length par nx ∧ s.1.length = N) := ⟨htot, hnext, hless, hN⟩
    have HFin : Hid (∀ {W9 : World}, Chg S W W9 → Boxed W9 Bn 3 (iv (n : Int)) ∧ Boxed W9 Bf 64 (.func (.func NF) #[] #[]) ∧ Boxed W9 Br 24 (ptr B) ∧ KRep B s lv rows D W9) := hfin
    have hYn : ∀ k, S k → k < W.heap.size := (pJ _).lt hJ
    have hc1 := b1.cell
    rw [hN] at hl hn2
    -- the stack at the start
    obtain ⟨W0, hW0⟩ : ∃ W0, (W.alloc (.cells #[iv (n : Int)] 3)).alloc (.cells #[.slice (some ⟨W.heap.size, 0, none⟩) 1 1] 79) = W0 := ⟨_, rfl⟩
    have cA : Chg No W W0 := by
      rw [← hW0]
      exact ((Chg.refl No W).alloc _).alloc _
    have hst0 : Stk (W.heap.size + 1) [(n : Int)] (fun k => k = W.heap.size + 1 ∨ k = W.heap.size) W0 := by
      have bb := Boxed.new (W.alloc (.cells #[iv (n : Int)] 3)) 79 (.slice (some ⟨W.heap.size, 0, none⟩) 1 1)
      rw [World.size_alloc] at bb
      refine ⟨W.heap.size, 1, rfl, ?_, ?_, by omega⟩
      · rw [← hW0]
        exact bb
      · rw [← hW0]
        exact World.ownsRow.alloc (World.ownsRow_lit W #[iv (n : Int)] 1 (Nat.zero_le _) (by unfold maxLen; omega) rfl) _
    have HS0 : Hid (Stk (W.heap.size + 1) [(n : Int)] (fun k => k = W.heap.size + 1 ∨ k = W.heap.size) W0 ∧ Chg No W W0) := ⟨hst0, cA⟩
    have HW0 : Hid ((W.alloc (.cells #[iv (n : Int)] 3)).alloc (.cells #[.slice (some ⟨W.heap.size, 0, none⟩) 1 1] 79) = W0) := hW0
    have HDS : Hid _ := hDS
    clear hfin b2 b3 b4 htot hnext hless hN hst0 cA hDS hW0
    refine callsIn_of_wp Tryd.func44 rfl trivial ?_
    simp only [Tryd.ntmps44, List.size_toArray, List.length_cons, List.length_nil, Nat.reduceAdd, Nat.reduceSub, Array.replicate_succ, Array.replicate_zero, List.push_toArray, List.append_toArray, List.nil_append, List.cons_append]
    gi_wp2
    gi_loopg [6] N (fun g _s6 wr => ∃ (pre st : List Int) (So Sx : Blk), pre ++ (remI par st n).map (fun (p : Nat) => (p : Int)) = tot ∧ (remI par st n).length ≤ g ∧ st.Pairwise (· < ·) ∧ (∀ x ∈ st, 0 < x ∧ x ≤ (n : Int)) ∧
      Stk (W.heap.size + 1) st Sx wr ∧ (∀ k, Sx k → W.heap.size ≤ k) ∧ (∀ k, Sx k → ¬ So k) ∧ J pre So wr ∧ Chg S W wr ∧ Grew S W So)
    case atStart =>
      rw [HW0.out]
      refine ⟨[], [(n : Int)], S, _, ?_, ?_, List.pairwise_singleton _ _, ?_, HS0.out.1, ?_, ?_, (pJ _).chg hJ HS0.out.2 (fun _ _ h => h), HS0.out.2.mono (fun _ h => h.elim), Grew.refl _ _⟩
      · rw [remI_one]; exact HA.out.1
      · rw [remI_one]
        unfold aheadL
        exact Nat.le_trans (List.length_filter_le _ _) (by rw [down_length]; exact hn2)
      · intro x hx
        rw [List.mem_singleton] at hx
        omega
      · rintro k (h | h) <;> omega
      · rintro k (h | h) hs
        · have := hYn k hs; omega
        · have := hYn k hs; omega
    case round =>
      obtain ⟨pre, st, So, Sx, hpt, hg, hup, hmem, hst, hSx, hap, j, c, gr⟩ := hrel
      have hlst : st.length ≤ N := up_length (a := 0) (n := N) hup (fun y hy => by have := hmem y hy; omega)
      rcases List.eq_nil_or_concat st with rfl | ⟨st', mi, rfl⟩
      · obtain ⟨gq, cq, rfl, bq, oq, nq⟩ := hst
        have hcq := bq.cell
        rw [remI_nil, List.map_nil, List.append_nil] at hpt
        subst hpt
        clear bq oq hg hlst
        have hf := HFin.out c
        gi_wp2
        go_end0
        exact ⟨⟨_, rfl⟩, pre, So, .inl ⟨rfl, j⟩, hf, c.mono (fun k hk => by first | exact .inr hk | exact hk), gr⟩
      · rw [List.concat_eq_append] at *
        have hmi := hmem mi (by simp)
        obtain ⟨m, rfl⟩ : ∃ m : Nat, mi = (m : Int) := ⟨mi.toNat, by omega⟩
        have hm1 : 1 ≤ m := by omega
        have hmn : m ≤ n := by omega
        have hmN : m ≤ s.1.length := by rw [HA.out.2.2.2]; omega
        obtain ⟨hup1, _, hup2⟩ := List.pairwise_append.1 hup
        obtain ⟨hps, hpl⟩ := HA.out.2.2.1 m hm1 hmN
        have hstep := remI_step hlow hps hm1 (fun x hx => hup2 x hx _ (List.mem_singleton.2 rfl)) hmn
        rw [hstep, List.map_cons] at hpt
        rw [hstep, List.length_cons] at hg
        have hpre : pre ++ [(m : Int)] <+: tot := ⟨_, by rw [← hpt, List.append_assoc]; rfl⟩
        have hpt2 : (pre ++ [(m : Int)]) ++ (remI par (putI (nx m) st') n).map (fun (p : Nat) => (p : Int)) = tot := by rw [← hpt, List.append_assoc]; rfl
        have hmem1 : ∀ x ∈ st', 0 < x ∧ x ≤ (n : Int) := fun x hx => hmem x (by simp [hx])
        have hmem2 : ∀ x, x ∈ nx m ∨ x ∈ st' → 0 < x ∧ x ≤ (n : Int) := fun x hx => by
          rcases hx with hx | hx
          · have := hpl x hx; omega
          · exact hmem1 x hx
        have hlen1 : st'.length ≤ 1000 := by rw [List.length_append] at hlst; omega
        have H1 := pop_in (W.heap.size + 1) st' (m : Int) Sx wr hst hlen1
        obtain ⟨gq, cq, hSq, bq, oq, nq⟩ := id hst
        have hcq := bq.cell
        obtain ⟨lq, hlq⟩ : ∃ lq, (st' ++ [(m : Int)]).length = lq := ⟨_, rfl⟩
        have hlq0 : (0 : Int) < (lq : Int) := by rw [← hlq, List.length_append, List.length_singleton]; omega
        rw [hlq] at hcq
        have HP : Hid ((pre ++ [(m : Int)]) ++ (remI par (putI (nx m) st') n).map (fun (p : Nat) => (p : Int)) = tot ∧ (∀ x, x ∈ nx m ∨ x ∈ st' → 0 < x ∧ x ≤ (n : Int)) ∧ st'.Pairwise (· < ·)) := ⟨hpt2, hmem2, hup1⟩
        have HG : Hid (_ ≤ _) := hg
        clear bq oq hlq hpt hpt2 hg hup hmem hmem1 hmem2 hps hpl hstep hup2 hup1 hlst hSq hst
        gi_wp2_with fail
        refine ⟨trivial, rfl, H1.mono ?_⟩
        rintro e w1 ⟨rfl, hst1, c1⟩
        clear H1
        have j1 := (pJ _).chg j c1 (fun k hk h => hap k h hk)
        have cw1 : Chg S W w1 := c.trans c1 (fun k hk => .inr (hSx k hk))
        have hSo1 := (pJ _).lt j1
        have hSx1 := (Stk.part _ _).lt hst1
        obtain ⟨fnr, tmps, assign, body, hy, hR⟩ := hY pre (m : Int) So w1 hpre j1
        gi_wp2_with fail
        refine ⟨rfl, hR.mono ?_⟩
        rintro e w3 ⟨S3, c3, g3, (⟨rfl, j3⟩ | ⟨rfl, j3⟩)⟩
        · have hst3 := (Stk.part _ _).chg hst1 c3 (fun k hk h => hap k hk h)
          have hap3 : ∀ k, Sx k → ¬ S3 k := fun k hk h => by
            rcases g3 k h with h' | h'
            · exact hap k hk h'
            · have := hSx1 k hk; omega
          have cw3 : Chg S W w3 := cw1.trans c3 gr
          have gr3 : Grew S W S3 := gr.trans (fun k hk => g3 k hk) cw1.size
          have hf3 := HFin.out cw3
          obtain ⟨b1', b2', b3', b4'⟩ := hf3
          have hd2 := b2'.cell
          have hd3 := b3'.cell
          have H2 := HA.out.2.1 m w3 b4' hm1 hmN
          have hSo3 := (pJ _).lt j3
          have hSx3 := (Stk.part _ _).lt hst3
          clear b1' b2' b3' b4' hy hR hc1
          gi_wp2_with fail
          refine ⟨trivial, rfl, H2.mono ?_⟩
          rintro e w4 ⟨v4, rfl, ho4, c4⟩
          clear H2
          have hst4 := (Stk.part _ _).chg hst3 c4 (fun _ _ h => h)
          have hx4 : SlV w4 v4 ((nx m).map iv) := SlV.ofRow (by rw [List.length_map]; exact ho4)
          have H3 := put_in (W.heap.size + 1) st' (nx m) v4 n Sx w4 hst4 hx4 (fun k hk h => by
            have := (World.ownsRow.lt ho4 k hk.2).1
            have := hSx3 k h
            omega) HP.out.2.2 (by omega) HP.out.2.1
          have j4 := (pJ _).chg j3 c4 (fun _ _ h => h)
          obtain ⟨pv, kv, rfl⟩ := row_slice ho4
          clear ho4 hx4
          gi_wp2_with fail
          refine ⟨trivial, rfl, H3.mono ?_⟩
          rintro e w5 ⟨⟨v5, rfl⟩, Sx', hst5, c5, g5⟩
          have hup5 : (putI (nx m) st').Pairwise (· < ·) := putI_up HP.out.2.2
          have hmem5 : ∀ x ∈ putI (nx m) st', 0 < x ∧ x ≤ (n : Int) := fun x hx => HP.out.2.1 x (putI_mem.1 hx)
          have cw5 : Chg S W w5 := (cw3.trans c4 (fun _ h => h.elim)).trans c5 (fun k hk => .inr (hSx k hk))
          have hs3 := cw3.size
          have hs4 := c4.size
          gi_wp2
          gi_roundg ((remI par (putI (nx m) st') n).length)
          case measure => have := HG.out; omega
          case rel =>
            refine ⟨pre ++ [(m : Int)], putI (nx m) st', S3, Sx', HP.out.1, Nat.le_refl _, hup5, hmem5, hst5, fun k hk => ?_, fun k hk h => ?_, (pJ _).chg j4 c5 (fun k hk h => hap3 k h hk), cw5, gr3⟩
            · rcases g5 k hk with h | h
              · exact hSx k h
              · omega
            · rcases g5 k hk with h' | h'
              · exact hap3 k h' h
              · have := hSo3 k h; omega
        · have cw3 : Chg S W w3 := cw1.trans c3 gr
          have gr3 : Grew S W S3 := gr.trans (fun k hk => g3 k hk) cw1.size
          have hf3 := HFin.out cw3
          clear hy hR
          gi_wp2
          refine bodyPost_ret (results_none rfl _ _ _) rfl ?_
          exact ⟨⟨_, rfl⟩, _, S3, .inr ⟨hpre, j3⟩, hf3, cw3.mono (fun _ => .inr), gr3⟩ }
end Go.Proofs.YtmpgeacfnikbpaaDoor

end
section
-- KDag
namespace Go.Proofs.YtmpgeacfnikbpaaDoor
open Go.RowKit Go.Shelf Go.SeqLib Go.DiffLib Go.TreeLib Go.RepoLib Go.DagLib Go.BigFrame
attribute [local go_sem] Oper.semAt_some

set_option maxRecDepth 100000 in
set_option maxHeartbeats 4000000 in
/-- A commit's parents, as a row of their own. -/
theorem parents_in (B : Nat) (s : Rp) (lv : Value) (rows : List Rw) (D : Blk) (n : Int) (w : World) (h : KRep B s lv rows D w) (hl : s.1.length ≤ 200) :
    CallsIn Fence.wide 0 Tryd.prog 30 #[ptr B, iv n] w fun e w' => ∃ v, e = .returned v ∧ OwnI w' w.heap.size v (getC s.1 n).1 ∧ Chg No w w' := by
  have H1 := get_in1 B s lv rows D n w h hl
  refine callsIn_of_wp Tryd.func30 rfl trivial ?_
  simp only [Tryd.ntmps30, List.size_toArray, List.length_cons, List.length_nil, Nat.reduceAdd, Nat.reduceSub, Array.replicate_succ, Array.replicate_zero, List.push_toArray, List.append_toArray, List.nil_append, List.cons_append]
  gi_wp2_with fail
  refine ⟨trivial, rfl, H1.mono ?_⟩
  rintro e w1 ⟨pv, tv, rfl, ho1, ho2, c1⟩
  clear H1
  obtain ⟨pa, ka, rfl⟩ := row_slice ho1
  obtain ⟨qa, la, rfl⟩ := row_slice ho2
  obtain ⟨x3, hx3⟩ : ∃ x3, (getC s.1 n).2.2 = x3 := ⟨_, rfl⟩
  obtain ⟨n1, hn1⟩ : ∃ n1, (getC s.1 n).1.length = n1 := ⟨_, rfl⟩
  obtain ⟨n2, hn2⟩ : ∃ n2, (getC s.1 n).2.1.length = n2 := ⟨_, rfl⟩
  obtain ⟨u, hu⟩ : ∃ u, hasN s.1.length n = u := ⟨_, rfl⟩
  rw [hx3, hn1, hn2, hu]
  have HO : Hid (OwnI w1 w.heap.size (.slice pa n1 ka) (getC s.1 n).1) := by rw [← hn1]; exact ho1
  clear ho1 ho2 hx3 hn1 hn2 hu h
  have d0 : (w1.alloc (.cells #[.slice pa n1 ka, .slice qa n2 la, .string x3] 46)).cell? ⟨w1.heap.size, 0, none⟩ = some (.slice pa n1 ka) := by
    rw [World.cell?_alloc_at (w := w1) _ _ w1.heap.size 0 rfl]
    rfl
  gi_wp2
  go_ret
  exact ⟨_, rfl, World.ownsRow.alloc HO.out _, c1.alloc _⟩

theorem getC_some {L : List Cm} {n : Int} {m : Nat} (hm : n = (m : Int)) : getC L n = getC L (m : Int) := by rw [hm]
theorem getC_few {L : List Cm} (hs : ∀ c ∈ L, SmallC c) (n : Int) : (getC L n).1.length ≤ 1000000 := by
  unfold getC
  split
  · rw [List.getD_eq_getElem?_getD]
    cases h : L[n.toNat - 1]? with
    | none => simp [noC]
    | some c =>
      have := (hs c (List.mem_of_getElem? h)).1
      simp only [Option.getD_some]
      omega
  · simp [noC]

theorem of_nil (w : World) : CallsIn Fence.wide 0 Tryd.prog 43 #[.slice none 0 0] w fun e w' => ∃ gf lb D', e = .returned (.func (.func gf) #[] lb) ∧ PSeq w' gf lb [] D' ∧ Chg No w w' ∧ ∀ k, D' k → w.heap.size ≤ k := by
  refine (of_in (.slice none 0 0) [] (by simp) w (SlI.nil w)).mono ?_
  rintro e w2 ⟨v', Bk, rfl, b, hB, hne, hr, c2⟩
  exact ⟨_, _, _, rfl, ⟨_, of1 v' [] Bk (fun h => hne h.2), ⟨b, SlI.ofRow hr⟩, enters_of Tryd.func59 (by kernel_rfl) rfl⟩, c2, fun k hk => by
    rcases hk with hk | hk
    · omega
    · exact absurd rfl hk.1⟩

set_option maxRecDepth 100000 in
set_option maxHeartbeats 4000000 in
theorem along_in (B : Nat) (s : Rp) (lv : Value) (rows : List Rw) (D : Blk) (par : Nat → List Nat) (nx : Nat → List Int) (NF : Nat) (n : Int) (tot : List Int) (w : World) (h : KRep B s lv rows D w) (eg : ∀ args w, (callFunc NF args).run Tryd.prog w = .ok (.enter NF args) w)
    (hnext : NextOk NF B s lv rows D nx) (hlow : Low par) (hless : LessI s.1.length par nx) (hl : s.1.length ≤ 200) (htot : tot = if hasN s.1.length n = true then (aheadL par n.toNat).map (fun (p : Nat) => (p : Int)) else []) :
    CallsIn Fence.wide 0 Tryd.prog 29 #[ptr B, iv n, .func (.func NF) #[] #[]] w fun e w' => ∃ gf lb D', e = .returned (.func (.func gf) #[] lb) ∧ PSeq w' gf lb tot D' ∧ Chg No w w' ∧ ∀ k, D' k → w.heap.size ≤ k ∨ (refS B lv k ∨ D k) := by
  obtain ⟨W1, hW1⟩ : ∃ W1, ((w.alloc (.cells #[ptr B] 24)).alloc (.cells #[iv n] 3)).alloc (.cells #[.func (.func NF) #[] #[]] 64) = W1 := ⟨_, rfl⟩
  have c1 : Chg No w W1 := by rw [← hW1]; exact (((Chg.refl _ w).alloc _).alloc _).alloc _
  have hk := h.no c1
  have b1 : Boxed W1 w.heap.size 24 (ptr B) := by rw [← hW1]; exact ((Boxed.new w _ _).alloc _).alloc _
  have b2 : Boxed W1 (w.heap.size + 1) 3 (iv n) := by
    have := (Boxed.new (w.alloc (.cells #[ptr B] 24)) 3 (iv n)).alloc (.cells #[.func (.func NF) #[] #[]] 64)
    rw [World.size_alloc] at this
    rw [← hW1]
    exact this
  have b3 : Boxed W1 (w.heap.size + 2) 64 (.func (.func NF) #[] #[]) := by
    have := Boxed.new ((w.alloc (.cells #[ptr B] 24)).alloc (.cells #[iv n] 3)) 64 (.func (.func NF) #[] #[])
    rw [World.size_alloc, World.size_alloc] at this
    rw [← hW1]
    exact this
  have k1 := b1.cell
  have k2 := b2.cell
  have HB : Hid (Boxed W1 w.heap.size 24 (ptr B) ∧ Boxed W1 (w.heap.size + 1) 3 (iv n) ∧ Boxed W1 (w.heap.size + 2) 64 (.func (.func NF) #[] #[])) := ⟨b1, b2, b3⟩
  have H1 := get_in1 B s lv rows D n W1 hk hl
  have HK : Hid (KRep B s lv rows D W1) := hk
  have HA : Hid ((tot = if hasN s.1.length n = true then (aheadL par n.toNat).map (fun (p : Nat) => (p : Int)) else []) ∧ KRep B s lv rows D w) := ⟨htot, h⟩
  clear hk b1 b2 b3 htot h
  refine callsIn_of_wp Tryd.func29 rfl trivial ?_
  simp only [Tryd.ntmps29, List.size_toArray, List.length_cons, List.length_nil, Nat.reduceAdd, Nat.reduceSub, Array.replicate_succ, Array.replicate_zero, List.push_toArray, List.append_toArray, List.nil_append, List.cons_append]
  gi_wp2_with fail
  refine ⟨trivial, rfl, H1.mono ?_⟩
  rintro e w2 ⟨pv, tv, rfl, ho1, ho2, c2⟩
  clear H1
  obtain ⟨pa, ka, rfl⟩ := row_slice ho1
  obtain ⟨qa, la, rfl⟩ := row_slice ho2
  clear ho1 ho2
  obtain ⟨x3, hx3⟩ : ∃ x3, (getC s.1 n).2.2 = x3 := ⟨_, rfl⟩
  obtain ⟨n1, hn1⟩ : ∃ n1, (getC s.1 n).1.length = n1 := ⟨_, rfl⟩
  obtain ⟨n2, hn2⟩ : ∃ n2, (getC s.1 n).2.1.length = n2 := ⟨_, rfl⟩
  obtain ⟨u, hu⟩ : ∃ u, hasN s.1.length n = u := ⟨_, rfl⟩
  rw [hx3, hn1, hn2, hu]
  have HU : Hid (hasN s.1.length n = u) := hu
  clear hx3 hn1 hn2 hu
  obtain ⟨W3, hW3⟩ : ∃ W3, w2.alloc (.cells #[.slice pa n1 ka, .slice qa n2 la, .string x3] 46) = W3 := ⟨_, rfl⟩
  have c3 : Chg No w2 W3 := by rw [← hW3]; exact (Chg.refl _ w2).alloc _
  have c13 : Chg No W1 W3 := c2.trans c3 (fun _ h => h.elim)
  cases u with
  | false =>
    have ht : tot = [] := by rw [HA.out.1, HU.out, if_neg Bool.false_ne_true]
    subst ht
    have H2 := of_nil W3
    gi_wp2_with fail
    refine ⟨trivial, rfl, H2.mono ?_⟩
    rintro e w4 ⟨gf, lb, D', rfl, hq, c4, hd4⟩
    have HQ : Hid (PSeq w4 gf lb [] D') := hq
    clear hq H2
    gi_wp2
    go_ret
    exact ⟨_, _, _, rfl, HQ.out, (c1.trans c13 (fun _ h => h.elim)).trans c4 (fun _ h => h.elim), fun k hk => .inl (by have := hd4 k hk; have := c1.size; have := c13.size; omega)⟩
  | true =>
    have hb : 1 ≤ n ∧ n ≤ (s.1.length : Int) := by
      have := HU.out
      unfold hasN at this
      rw [Bool.and_eq_true, decide_eq_true_iff, decide_eq_true_iff] at this
      exact this
    obtain ⟨m, rfl⟩ : ∃ m : Nat, n = (m : Int) := ⟨n.toNat, by omega⟩
    have ht : tot = (aheadL par m).map (fun (p : Nat) => (p : Int)) := by rw [HA.out.1, HU.out, if_pos rfl, Int.toNat_natCast]
    subst ht
    have hlt := HA.out.2.lt
    have hltO := HA.out.2.ltO
    have it := along1 B s lv rows D par nx NF m (w.heap.size + 1) (w.heap.size + 2) w.heap.size eg hnext hlow hless hl (by omega) (by omega)
    have hfin : PSeq W3 44 #[ptr (w.heap.size + 1), ptr (w.heap.size + 2), ptr w.heap.size] ((aheadL par m).map (fun (p : Nat) => (p : Int))) (fun k => k = w.heap.size + 1 ∨ k = w.heap.size + 2 ∨ k = w.heap.size ∨ (refS B lv k ∨ D k)) :=
      ⟨_, it, ⟨c13.boxed HB.out.2.1 (fun h => h), c13.boxed HB.out.2.2 (fun h => h), c13.boxed HB.out.1 (fun h => h), HK.out.no c13⟩, enters_of Tryd.func44 (by kernel_rfl) rfl⟩
    have HF : Hid _ := hfin
    clear hfin it hlt hltO hb
    gi_wp2
    go_ret
    exact ⟨_, _, _, rfl, HF.out, c1.trans c13 (fun _ h => h.elim), fun k hk => by
      rcases hk with h | h | h | h
      · exact .inl (by omega)
      · exact .inl (by omega)
      · exact .inl (by omega)
      · exact .inr h⟩

/-- Of no repo there is none. -/
theorem alongN_in (NF : Nat) (n : Int) (w : World) : CallsIn Fence.wide 0 Tryd.prog 29 #[.pointer none, iv n, .func (.func NF) #[] #[]] w fun e w' => ∃ gf lb D', e = .returned (.func (.func gf) #[] lb) ∧ PSeq w' gf lb [] D' ∧ Chg No w w' ∧ ∀ k, D' k → w.heap.size ≤ k := by
  obtain ⟨W1, hW1⟩ : ∃ W1, ((w.alloc (.cells #[.pointer none] 24)).alloc (.cells #[iv n] 3)).alloc (.cells #[.func (.func NF) #[] #[]] 64) = W1 := ⟨_, rfl⟩
  have c1 : Chg No w W1 := by rw [← hW1]; exact (((Chg.refl _ w).alloc _).alloc _).alloc _
  have b1 : Boxed W1 w.heap.size 24 (.pointer none) := by rw [← hW1]; exact ((Boxed.new w _ _).alloc _).alloc _
  have b2 : Boxed W1 (w.heap.size + 1) 3 (iv n) := by
    have := (Boxed.new (w.alloc (.cells #[.pointer none] 24)) 3 (iv n)).alloc (.cells #[.func (.func NF) #[] #[]] 64)
    rw [World.size_alloc] at this
    rw [← hW1]
    exact this
  have k1 := b1.cell
  have k2 := b2.cell
  have H1 := (getN_in n W1).mono (R' := fun e w' => ∃ pa n1 ka qa n2 la x3, e = .returned (.tuple #[.agg #[.slice pa n1 ka, .slice qa n2 la, .string x3], .bool false]) ∧ Chg No W1 w') (fun e w' h => ⟨_, _, _, _, _, _, _, h.1, h.2⟩)
  clear b1 b2
  refine callsIn_of_wp Tryd.func29 rfl trivial ?_
  simp only [Tryd.ntmps29, List.size_toArray, List.length_cons, List.length_nil, Nat.reduceAdd, Nat.reduceSub, Array.replicate_succ, Array.replicate_zero, List.push_toArray, List.append_toArray, List.nil_append, List.cons_append]
  gi_wp2_with fail
  refine ⟨trivial, rfl, H1.mono ?_⟩
  rintro e w2 ⟨pa, n1, ka, qa, n2, la, x3, rfl, c2⟩
  clear H1
  obtain ⟨W3, hW3⟩ : ∃ W3, w2.alloc (.cells #[.slice pa n1 ka, .slice qa n2 la, .string x3] 46) = W3 := ⟨_, rfl⟩
  have c3 : Chg No w2 W3 := by rw [← hW3]; exact (Chg.refl _ w2).alloc _
  have H2 := of_nil W3
  gi_wp2_with fail
  refine ⟨trivial, rfl, H2.mono ?_⟩
  rintro e w4 ⟨gf, lb, D', rfl, hq, c4, hd4⟩
  have HQ : Hid (PSeq w4 gf lb [] D') := hq
  clear hq H2
  gi_wp2
  go_ret
  exact ⟨_, _, _, rfl, HQ.out, ((c1.trans c2 (fun _ h => h.elim)).trans c3 (fun _ h => h.elim)).trans c4 (fun _ h => h.elim), fun k hk => by have := hd4 k hk; have := c1.size; have := c2.size; have := c3.size; omega⟩

set_option maxRecDepth 100000 in
set_option maxHeartbeats 4000000 in
theorem ahead_in (B : Nat) (s : Rp) (lv : Value) (rows : List Rw) (D : Blk) (n : Int) (w : World) (h : KRep B s lv rows D w) (hp : ParOk s.1) (hl : s.1.length ≤ 200) :
    CallsIn Fence.wide 0 Tryd.prog 18 #[ptr B, iv n] w fun e w' => ∃ gf lb D', e = .returned (.func (.func gf) #[] lb) ∧ PSeq w' gf lb (aheadI s.1 n) D' ∧ Chg No w w' ∧ ∀ k, D' k → w.heap.size ≤ k ∨ (refS B lv k ∨ D k) := by
  obtain ⟨tot, htot⟩ : ∃ tot, aheadI s.1 n = tot := ⟨_, rfl⟩
  have H1 := along_in B s lv rows D (parL s.1) (fun m => (getC s.1 (m : Int)).1) 30 n tot w h (enters_of Tryd.func30 (by kernel_rfl) rfl)
    (fun m W hk _ _ => parents_in B s lv rows D (m : Int) W hk hl) hp.low (fun m h1 h2 => hp.par h1 h2) hl htot.symm
  rw [htot]
  clear htot h hp
  refine callsIn_of_wp Tryd.func18 rfl trivial ?_
  simp only [Tryd.ntmps18, List.size_toArray, List.length_cons, List.length_nil, Nat.reduceAdd, Nat.reduceSub, Array.replicate_succ, Array.replicate_zero, List.push_toArray, List.append_toArray, List.nil_append, List.cons_append]
  gi_wp2_with fail
  refine ⟨trivial, rfl, H1.mono ?_⟩
  rintro e w2 ⟨gf, lb, D', rfl, hq, c2, hd⟩
  have HQ : Hid (PSeq w2 gf lb tot D') := hq
  clear hq H1
  gi_wp2
  go_ret
  exact ⟨_, _, _, rfl, HQ.out, c2, hd⟩
theorem aheadN_in (n : Int) (w : World) : CallsIn Fence.wide 0 Tryd.prog 18 #[.pointer none, iv n] w fun e w' => ∃ gf lb D', e = .returned (.func (.func gf) #[] lb) ∧ PSeq w' gf lb [] D' ∧ Chg No w w' ∧ ∀ k, D' k → w.heap.size ≤ k := by
  have H1 := alongN_in 30 n w
  refine callsIn_of_wp Tryd.func18 rfl trivial ?_
  simp only [Tryd.ntmps18, List.size_toArray, List.length_cons, List.length_nil, Nat.reduceAdd, Nat.reduceSub, Array.replicate_succ, Array.replicate_zero, List.push_toArray, List.append_toArray, List.nil_append, List.cons_append]
  gi_wp2_with fail
  refine ⟨trivial, rfl, H1.mono ?_⟩
  rintro e w2 ⟨gf, lb, D', rfl, hq, c2, hd⟩
  have HQ : Hid (PSeq w2 gf lb [] D') := hq
  clear hq H1
  gi_wp2
  go_ret
  exact ⟨_, _, _, rfl, HQ.out, c2, hd⟩
end Go.Proofs.YtmpgeacfnikbpaaDoor
end
section
-- KIs
namespace Go.Proofs.YtmpgeacfnikbpaaDoor
open Go.RowKit Go.Shelf Go.SeqLib Go.DiffLib Go.TreeLib Go.RepoLib Go.DagLib Go.BigFrame
attribute [local go_sem] Oper.semAt_some

theorem falls_in {xs pre : List Int} {x a : Int} (hf : xs.Pairwise (fun x y => y < x)) (hp : pre ++ [x] <+: xs) (hpre : ∀ y ∈ pre, a < y) (hx : x ≤ a) : decide (a ∈ xs) = decide (x = a) := by
  obtain ⟨t, rfl⟩ := hp
  rw [List.append_assoc, List.pairwise_append] at hf
  obtain ⟨_, hf2, _⟩ := hf
  rw [List.singleton_append, List.pairwise_cons] at hf2
  apply decide_eq_decide.2
  rw [List.append_assoc, List.mem_append, List.singleton_append, List.mem_cons]
  constructor
  · rintro (h | h | h)
    · have := hpre a h; omega
    · exact h.symm
    · have := hf2.1 a h; omega
  · intro h
    exact .inr (.inl h.symm)

set_option maxRecDepth 100000 in
set_option maxHeartbeats 4000000 in
theorem is_core (pv : Value) (a n : Int) (xs : List Int) (w : World) (hf : xs.Pairwise (fun x y => y < x))
    (H : ∀ W, Chg No w W → CallsIn Fence.wide 0 Tryd.prog 18 #[pv, iv n] W fun e w' => ∃ gf lb D', e = .returned (.func (.func gf) #[] lb) ∧ PSeq w' gf lb xs D' ∧ Chg No W w' ∧ ∀ k, D' k → W.heap.size ≤ k ∨ k < w.heap.size) :
    CallsIn Fence.wide 0 Tryd.prog 16 #[pv, iv a, iv n] w fun e w' => e = .returned (.bool (decide (a ∈ xs))) ∧ Chg No w w' := by
  obtain ⟨W1, hW1⟩ : ∃ W1, (w.alloc (.cells #[iv a] 3)).alloc (.cells #[.bool false] 4) = W1 := ⟨_, rfl⟩
  have c1 : Chg No w W1 := by rw [← hW1]; exact ((Chg.refl _ w).alloc _).alloc _
  have b1 : Boxed W1 w.heap.size 3 (iv a) := by rw [← hW1]; exact (Boxed.new w _ _).alloc _
  have b2 : Boxed W1 (w.heap.size + 1) 4 (.bool false) := by
    have := Boxed.new (w.alloc (.cells #[iv a] 3)) 4 (.bool false)
    rw [World.size_alloc] at this
    rw [← hW1]
    exact this
  have H1 := H W1 c1
  have HB : Hid (Boxed W1 w.heap.size 3 (iv a) ∧ Boxed W1 (w.heap.size + 1) 4 (.bool false)) := ⟨b1, b2⟩
  have HF : Hid _ := hf
  obtain ⟨R, hR⟩ : ∃ R, decide (a ∈ xs) = R := ⟨_, rfl⟩
  have HR : Hid (decide (a ∈ xs) = R) := hR
  rw [hR]
  clear b1 b2 H hf hR
  refine callsIn_of_wp_marks Tryd.func16 rfl trivial ?_
  simp only [Tryd.ntmps16, List.size_toArray, List.length_cons, List.length_nil, Nat.reduceAdd, Nat.reduceSub, Array.replicate_succ, Array.replicate_zero, List.push_toArray, List.append_toArray, List.nil_append, List.cons_append]
  gi_wp2_with fail
  refine ⟨trivial, rfl, H1.mono ?_⟩
  rintro e w2 ⟨gf, lb, D', rfl, ⟨I0, it, hi, eg⟩, c2, hd⟩
  clear H1
  have b1 := c2.boxed HB.out.1 (fun h => h)
  have b2 := c2.boxed HB.out.2 (fun h => h)
  have c02 : Chg No w w2 := c1.trans c2 (fun _ h => h.elim)
  have hlt := it.lt0 hi
  -- the iterator's blocks lie apart from the result's box: it told its numbers ahead of it
  have hl1 : w.heap.size + 1 < W1.heap.size := HB.out.2.lt
  have hnb : ∀ k, D' k → k ≠ w.heap.size ∧ k ≠ w.heap.size + 1 := fun k hk => by
    have := hd k hk
    omega
  gi_wp2
  have pK : ∀ pre : List Int, Part (fun S W => S = (fun k => k = w.heap.size ∨ k = w.heap.size + 1) ∧ Boxed W w.heap.size 3 (iv a) ∧ Boxed W (w.heap.size + 1) 4 (.bool false) ∧ ∀ y ∈ pre, a < y) := fun pre => {
    lt := by
      rintro S W ⟨rfl, b1, b2, _⟩ k (rfl | rfl)
      · exact b1.lt
      · exact b2.lt
    kept := by
      rintro S W W' ⟨rfl, b1, b2, h⟩ hs hk
      exact ⟨rfl, (hk _ (.inl rfl)).trans b1, (hk _ (.inr rfl)).trans b2, h⟩ }
  have pX : ∀ (c : Code) (_ : List Int), Part (fun S W => S = (fun k => k = w.heap.size ∨ k = w.heap.size + 1) ∧ Boxed W w.heap.size 3 (iv a) ∧ Boxed W (w.heap.size + 1) 4 (.bool R) ∧ c = .ret) := fun c _ => {
    lt := by
      rintro S W ⟨rfl, b1, b2, _⟩ k (rfl | rfl)
      · exact b1.lt
      · exact b2.lt
    kept := by
      rintro S W W' ⟨rfl, b1, b2, h⟩ hs hk
      exact ⟨rfl, (hk _ (.inl rfl)).trans b1, (hk _ (.inr rfl)).trans b2, h⟩ }
  refine wpIn_range (gf := gf) (lb := lb) rfl eg it (fun _ => rfl) _ _ pK pX (S := fun k => k = w.heap.size ∨ k = w.heap.size + 1) hi ⟨rfl, b1, b2, by simp⟩ (fun k hk h => by have := hnb k hk; omega)
    (fun x => { tmps := #[pv, iv a, iv n, undef, ptr w.heap.size, undef, ptr (w.heap.size + 1), iv x, pv, iv n, .func (.func gf) #[] lb, iv x, undef, undef, undef, undef, undef, undef], defers := [] }) ?assign ?body ?done ?stop
  case assign =>
    intro l x W K hK
    gi_wp2
    exact hK
  case body =>
    rintro lr pre x S2 W hpre ⟨rfl, k1, k2, hall⟩
    have hc1 := k1.cell
    have hc2 := k2.cell
    have hf2 := k2.frozen
    have HALL : Hid (∀ y ∈ pre, a < y) := hall
    clear hall
    by_cases hx : x ≤ a
    · have hres : decide (x = a) = R := by rw [← HR.out]; exact (falls_in HF.out hpre HALL.out hx).symm
      by_cases he : x = a
      · have HRes : Hid (R = true) := by show _ = _; rw [← hres, decide_eq_true he]
        clear hres
        subst he
        gi_wp2
        refine ⟨_, (Chg.refl _ W).setCell (p := ⟨w.heap.size + 1, 0, none⟩) (.inl (.inr rfl)) _, Grew.refl _ _, rfl, k1.other (by omega) _, ?_, rfl⟩
        rw [HRes.out]
        exact k2.set _
      · have HRes : Hid (R = false) := by show _ = _; rw [← hres, decide_eq_false he]
        clear hres
        gi_wp2
        refine ⟨_, (Chg.refl _ W).setCell (p := ⟨w.heap.size + 1, 0, none⟩) (.inl (.inr rfl)) _, Grew.refl _ _, rfl, k1.other (by omega) _, ?_, rfl⟩
        have hbe : (x == a) = false := by simpa using he
        rw [HRes.out, hbe]
        exact k2.set _
    · gi_wp2
      refine ⟨_, Chg.refl _ _, Grew.refl _ _, rfl, k1, k2, fun y hy => ?_⟩
      rcases List.mem_append.1 hy with h | h
      · exact HALL.out y h
      · rw [List.mem_singleton] at h; omega
  case done =>
    rintro d S' W hd' ⟨rfl, k1, k2, hall⟩ hI' hc hg hK hnd
    have hc1 := k2.cell
    have hf1 := k2.frozen
    have hd1 : d ≠ w.heap.size + 1 := fun e => hnd (.inr e)
    have hd3 : w.heap.size ≤ d := Nat.le_trans c02.size hd'
    have HRes : Hid (R = false) := by
      show _ = _
      rw [← HR.out]
      exact decide_eq_false (fun h => by have := hall a h; omega)
    clear hall
    have hcc : Chg No w W := c02.trans hc (fun k hk => by
      rcases hk with h | h | h
      · exact h.elim
      · exact .inr (by omega)
      · exact .inr (by omega))
    gi_wp2
    have hK' : (W.setCell ⟨w.heap.size + 1, 0, none⟩ (.bool false)).heap[d]? = some (.deferred (some [])) := (Below.heap_setCell W _ _ d (fun e => hd1 e)).trans hK
    refine ⟨by simp, .inl ⟨_, _, rfl, run_takeDeferred hK', ?_⟩⟩
    have k3 : Boxed ((W.setCell ⟨w.heap.size + 1, 0, none⟩ (.bool false)).putObj d (.deferred none)) (w.heap.size + 1) 4 (.bool false) := (World.putObj_heap_other (fun e => hd1 e.symm)).trans (k2.set _)
    have e1 := k3.cell
    refine ⟨.bool false, ?_, ?_, ?_⟩
    · rw [results_cell1 rfl]
      go_simp
    · rw [HRes.out]
    · exact Chg.putObj (hcc.setCell (p := ⟨w.heap.size + 1, 0, none⟩) (.inr (by simp)) _) (.inr hd3) _
  case stop =>
    rintro d c pre S' W hd' hpre ⟨rfl, k1, k2, rfl⟩ hI' hc hg hK hnd
    have hc1 := k2.cell
    have hd1 : d ≠ w.heap.size + 1 := fun e => hnd (.inr e)
    have hd3 : w.heap.size ≤ d := Nat.le_trans c02.size hd'
    have hcc : Chg No w W := c02.trans hc (fun k hk => by
      rcases hk with h | h | h
      · exact h.elim
      · exact .inr (by omega)
      · exact .inr (by omega))
    gi_wp2
    refine ⟨by simp, .inl ⟨_, _, rfl, run_takeDeferred hK, ?_⟩⟩
    have k3 : Boxed (W.putObj d (.deferred none)) (w.heap.size + 1) 4 (.bool R) := (World.putObj_heap_other (fun e => hd1 e.symm)).trans k2
    have e1 := k3.cell
    refine ⟨.bool R, ?_, rfl, ?_⟩
    · rw [results_cell1 rfl]
      go_simp
    · exact Chg.putObj hcc (.inr hd3) _

theorem aheadI_falls (L : List Cm) (n : Int) : (aheadI L n).Pairwise (fun x y => y < x) := by
  unfold aheadI
  split
  · rw [List.pairwise_map]
    exact (ahead_falls _).imp (fun h => by omega)
  · exact List.Pairwise.nil
theorem is_in (B : Nat) (s : Rp) (lv : Value) (rows : List Rw) (D : Blk) (a n : Int) (w : World) (h : KRep B s lv rows D w) (hp : ParOk s.1) (hl : s.1.length ≤ 200) :
    CallsIn Fence.wide 0 Tryd.prog 16 #[ptr B, iv a, iv n] w fun e w' => e = .returned (.bool (decide (a ∈ aheadI s.1 n))) ∧ Chg No w w' :=
  is_core (ptr B) a n (aheadI s.1 n) w (aheadI_falls s.1 n) (fun W c => (ahead_in B s lv rows D n W (h.no c) hp hl).mono (fun e w' ⟨gf, lb, D', e1, e2, e3, e4⟩ => ⟨gf, lb, D', e1, e2, e3, fun k hk => by
    rcases e4 k hk with h' | h' | h'
    · exact .inl h'
    · exact .inr (h.ltO k h')
    · exact .inr (h.lt k h')⟩))
theorem isN_in (a n : Int) (w : World) :
    CallsIn Fence.wide 0 Tryd.prog 16 #[.pointer none, iv a, iv n] w fun e w' => e = .returned (.bool false) ∧ Chg No w w' :=
  (is_core (.pointer none) a n [] w List.Pairwise.nil (fun W c => (aheadN_in n W).mono (fun e w' ⟨gf, lb, D', e1, e2, e3, e4⟩ => ⟨gf, lb, D', e1, e2, e3, fun k hk => .inl (e4 k hk)⟩))).mono (fun e w' h => ⟨by rw [h.1]; rfl, h.2⟩)
end Go.Proofs.YtmpgeacfnikbpaaDoor

end
section
-- KFind
namespace Go.Proofs.YtmpgeacfnikbpaaDoor
open Go.RowKit Go.Shelf Go.SeqLib Go.DiffLib Go.TreeLib Go.RepoLib Go.BigFrame
attribute [local go_sem] Oper.semAt_some

/-- A commit in a box. -/
def BoxC (W : World) (B : Nat) (D : Blk) (c : Cm) : Prop := ∃ pv tv, W.heap[B]? = some (.cells #[pv, tv, .string c.2.2] 46 (0, 0)) ∧ CmD D W (.agg #[pv, tv, .string c.2.2]) c
theorem BoxC.no {W W' : World} {B : Nat} {D : Blk} {c : Cm} (h : BoxC W B D c) (k : Chg No W W') : BoxC W' B D c := by
  obtain ⟨pv, tv, h1, h2⟩ := h
  exact ⟨pv, tv, k.same h1 (fun h => h), h2.no k⟩

set_option maxHeartbeats 1000000 in
theorem like_in (r1 r2 : Value) (r3 : ByteArray) (x c : Cm) (D D' : Blk) (B : Nat) (hx : x.2.1.length ≤ 1000000) (w : World) (hv : CmD D w (.agg #[r1, r2, .string r3]) x) (hB : BoxC w B D' c) :
    CallsIn Fence.wide 0 Tryd.prog 50 #[.agg #[r1, r2, .string r3], ptr B] w fun e w' => e = .returned (.bool (decide (x = c))) ∧ Chg No w w' := by
  have ca : Chg No w (w.alloc (.cells #[r1, r2, .string r3] 46)) := (Chg.refl _ w).alloc _
  obtain ⟨p, n, k, q, m, l, e, hh⟩ := hv
  cases e
  have hv : CmD D w (.agg #[.slice p n k, .slice q m l, .string x.2.2]) x := ⟨p, n, k, q, m, l, rfl, hh⟩
  obtain ⟨pv, tv, hb, hcB⟩ := hB
  obtain ⟨p', n', k', q', m', l', e, hh'⟩ := hcB
  cases e
  have hu : CmD D' w (.agg #[.slice p' n' k', .slice q' m' l', .string c.2.2]) c := ⟨p', n', k', q', m', l', rfl, hh'⟩
  have b1 := ca.same hb (fun h => h)
  have y0 : (w.alloc (.cells #[.slice p n k, .slice q m l, .string x.2.2] 46)).cell? ⟨B, 0, none⟩ = some (.slice p' n' k') := by unfold World.cell?; rw [b1]; rfl
  have y1 : (w.alloc (.cells #[.slice p n k, .slice q m l, .string x.2.2] 46)).cell? ⟨B, 1, none⟩ = some (.slice q' m' l') := by unfold World.cell?; rw [b1]; rfl
  have y2 : (w.alloc (.cells #[.slice p n k, .slice q m l, .string x.2.2] 46)).cell? ⟨B, 2, none⟩ = some (.string c.2.2) := by unfold World.cell?; rw [b1]; rfl
  have A1 := alike_in _ _ x c _ _ hx _ (hv.no ca) (hu.no ca)
  generalize decide (x = c) = u at A1 ⊢
  clear hh hh' hv hu hb b1
  refine callsIn_of_wp Tryd.func50 rfl trivial ?_
  simp only [Tryd.ntmps50, List.size_toArray, List.length_cons, List.length_nil, Nat.reduceAdd, Nat.reduceSub, Array.replicate_succ, Array.replicate_zero, List.push_toArray, List.append_toArray, List.nil_append, List.cons_append]
  gi_wp2_with fail
  refine ⟨trivial, rfl, A1.mono ?_⟩
  rintro e w2 ⟨rfl, c2⟩
  gi_wp2
  go_ret
  exact ⟨rfl, Chg.seq ca c2⟩

theorem like_enters : ∀ args w, (callFunc 50 args).run Tryd.prog w = .ok (.enter 50 args) w := enters_of Tryd.func50 (by kernel_rfl) rfl

set_option maxRecDepth 100000 in
set_option maxHeartbeats 4000000 in
theorem indexC_in (B0 : Nat) (s : Rp) (p0 : Option Addr) (n cap : Nat) (rows : List Rw) (D D' : Blk) (c : Cm) (B : Nat) (w : World) (h : KRep B0 s (.slice p0 n cap) rows D w) (hn : s.1.length = n) (hl : n ≤ 1000) (hB : BoxC w B D' c) :
    CallsIn Fence.wide 0 Tryd.prog 52 #[.slice p0 n cap, .func (.func 50) #[] #[ptr B]] w fun e w' => e = .returned (iv ((findC s.1 c : Nat) - 1)) ∧ Chg No w w' := by
  have HN : Hid (s.1.length = n) := hn
  clear hn
  obtain ⟨F, hF⟩ : ∃ F, findC s.1 c = F := ⟨_, rfl⟩
  have HF : Hid (findC s.1 c = F) := hF
  rw [hF]
  clear hF
  have ef := like_enters
  refine callsIn_of_wp Tryd.func52 rfl trivial ?_
  simp only [Tryd.ntmps52, List.size_toArray, List.length_cons, List.length_nil, Nat.reduceAdd, Nat.reduceSub, Array.replicate_succ, Array.replicate_zero, List.push_toArray, List.append_toArray, List.nil_append, List.cons_append]
  gi_wp2
  gi_loopw [8] (fun i wr => ∃ k : Nat, k ≤ n ∧ i = .int .i64 (k : Int) ∧ Hid (∀ y ∈ s.1.take k, ¬ y = c) ∧ Chg No w wr) (fun i _ => n - (intOf i).toNat)
  case atStart => exact ⟨0, Nat.zero_le _, rfl, fun f hf => by simp at hf, Chg.refl _ _⟩
  case round =>
    obtain ⟨k, hk, rfl, HT, ck⟩ := hrel
    by_cases hlt : k < n
    · have hlt' : (k : Int) < (n : Int) := by omega
      obtain ⟨x, hx⟩ : ∃ x, s.1[k]? = some x := ⟨_, List.getElem?_eq_getElem (by rw [HN.out]; exact hlt)⟩
      obtain ⟨⟨r1, r2, r3⟩, b1, o1, _, rfl, f1, f2, f3, hcx⟩ := (h.no ck).cell hx
      dsimp only at f1 f2 f3 hcx
      have hxs : x.2.1.length ≤ 1000000 := by have := (h.small x (List.mem_of_getElem? hx)).2.1; omega
      have U1 := like_in r1 r2 r3 x c _ _ B hxs wr hcx (hB.no ck)
      obtain ⟨u, HU⟩ : ∃ u, Hid (decide (x = c) = u) := ⟨_, rfl⟩
      rw [HU.out] at U1
      clear hcx hxs
      gi_wp2_with fail
      refine ⟨trivial, rfl, U1.mono ?_⟩
      rintro e w1 ⟨rfl, c1⟩
      cases u with
      | true =>
        have HE : Hid (F = k + 1) := by
          show _ = _
          rw [← HF.out]
          have : x = c := of_decide_eq_true HU.out
          exact findC_here (by rw [hx, this]) HT.out
        gi_wp2
        go_ret
        refine ⟨?_, Chg.seq ck c1⟩
        rw [HE.out]
        show _ = Ending.returned (iv (((k + 1 : Nat) : Int) - 1))
        rw [show (((k + 1 : Nat) : Int) - 1) = (k : Int) by omega]
        rfl
      | false =>
        have HT2 : Hid (∀ y ∈ s.1.take (k + 1), ¬ y = c) := by
          intro y hy
          rw [List.take_add_one, hx] at hy
          rcases List.mem_append.1 hy with h | h
          · exact HT.out y h
          · rw [List.mem_singleton.1 h]; exact of_decide_eq_false HU.out
        gi_wp2
        refine ⟨⟨k + 1, hlt, by go_num, HT2, Chg.seq ck c1⟩, by simp [intOf]; omega⟩
    · have hlt' : ¬ (k : Int) < (n : Int) := by omega
      have HE : Hid (F = 0) := by
        show _ = _
        rw [← HF.out]
        refine findC_zero.2 (fun hm => HT.out c ?_ rfl)
        rw [List.take_of_length_le (by rw [HN.out]; omega)]
        exact hm
      gi_wp2
      go_ret
      exact ⟨by rw [HE.out]; rfl, ck⟩

set_option maxHeartbeats 1000000 in
theorem find_in (B : Nat) (s : Rp) (lv : Value) (rows : List Rw) (v : Value) (c : Cm) (D D' : Blk) (w : World) (h : KRep B s lv rows D w) (hv : CmD D' w v c) (hl : s.1.length ≤ 1000) :
    CallsIn Fence.wide 0 Tryd.prog 34 #[ptr B, v] w fun e w' => e = .returned (iv (findC s.1 c : Nat)) ∧ Chg No w w' := by
  have hnil := ptr_nil B
  obtain ⟨p, n, k, q, m, l, rfl, hh⟩ := hv
  have hv : CmD D' w (.agg #[.slice p n k, .slice q m l, .string c.2.2]) c := ⟨p, n, k, q, m, l, rfl, hh⟩
  have ca : Chg No w (w.alloc (.cells #[.slice p n k, .slice q m l, .string c.2.2] 46)) := (Chg.refl _ w).alloc _
  have hb : BoxC (w.alloc (.cells #[.slice p n k, .slice q m l, .string c.2.2] 46)) w.heap.size D' c := ⟨_, _, World.alloc_heap_new w _, hv.no ca⟩
  have h1 := h.no ca
  obtain ⟨p0, cap, rfl⟩ := h.slice
  obtain ⟨_, y1, _, _⟩ := h1.cells
  have X1 := indexC_in B s p0 _ cap rows D D' c w.heap.size _ h1 rfl hl hb
  have hF : findC s.1 c ≤ s.1.length := by
    by_cases e : findC s.1 c = 0
    · omega
    · exact (findC_get e).2
  generalize findC s.1 c = F at X1 hF ⊢
  generalize s.1.length = N at *
  clear h hh hv hb h1
  refine callsIn_of_wp Tryd.func34 rfl trivial ?_
  simp only [Tryd.ntmps34, List.size_toArray, List.length_cons, List.length_nil, Nat.reduceAdd, Nat.reduceSub, Array.replicate_succ, Array.replicate_zero, List.push_toArray, List.append_toArray, List.nil_append, List.cons_append]
  gi_wp2_with fail
  refine ⟨trivial, rfl, X1.mono ?_⟩
  rintro e w2 ⟨rfl, c2⟩
  gi_wp2
  go_ret
  exact ⟨rfl, Chg.seq ca c2⟩
set_option maxHeartbeats 1000000 in
theorem findN_in (v : Value) (c : Cm) (D' : Blk) (w : World) (hv : CmD D' w v c) :
    CallsIn Fence.wide 0 Tryd.prog 34 #[.pointer none, v] w fun e w' => e = .returned (iv 0) ∧ Chg No w w' := by
  have hnil := nil_nil
  obtain ⟨p, n, k, q, m, l, rfl, hh⟩ := hv
  clear hh
  refine callsIn_of_wp Tryd.func34 rfl trivial ?_
  simp only [Tryd.ntmps34, List.size_toArray, List.length_cons, List.length_nil, Nat.reduceAdd, Nat.reduceSub, Array.replicate_succ, Array.replicate_zero, List.push_toArray, List.append_toArray, List.nil_append, List.cons_append]
  gi_wp2
  go_ret
  exact ⟨rfl, (Chg.refl _ w).alloc _⟩

end Go.Proofs.YtmpgeacfnikbpaaDoor

end
section
-- KAdd
namespace Go.Proofs.YtmpgeacfnikbpaaDoor
open Go.RowKit Go.Shelf Go.SeqLib Go.DiffLib Go.TreeLib Go.RepoLib Go.BigFrame
attribute [local go_sem] Oper.semAt_some

/-- A commit's value as a row. -/
def rwOf (nt : ByteArray) (v : Value) : Rw := match v with | .agg a => (a.getD 0 undef, a.getD 1 undef, nt) | _ => (undef, undef, nt)
theorem SlE.one_lt' {g : Nat} {W : World} {x : Rw} {v : Value} (h : SlE 3 eM W v [x]) (hv : v.ownBlock = some g) : g < W.heap.size := SlE.lt eM_len (by decide) h g ⟨by simp, hv⟩
/-- What holds while one commit more is taken. -/
structure PutInvC (W0 : World) (B : Nat) (lv rv : Value) (rows : List Rw) (nt : ByteArray) (ps : List Int) (zs : List Fl) (d : Nat → Bool) (u : Nat → Value) (W : World) : Prop where
  chg : Chg (refS B lv) W0 W
  v2 : u 2 = ptr B
  v4 : u 4 = lv
  v9 : u 9 = ptr B
  v6 : ∃ q m k q' m' k', u 6 = .agg #[.slice q m k, .slice q' m' k', .string nt]
  v7 : ∃ q m k, u 7 = .slice q m k
  v8 : ∃ q m k, u 8 = .slice q m k
  o7 : d 7 = true → d 6 = true
  o8 : d 8 = true → d 4 = true ∧ d 7 = true
  o11 : d 11 = true → d 8 = true
  f4 : d 8 = false → OwnM W 0 lv rows
  f6 : d 6 = true → OwnI W W0.heap.size (rwOf nt (u 6)).1 ps ∧ OwnF W W0.heap.size (rwOf nt (u 6)).2.1 zs
  f7 : d 7 = true → d 8 = false → SlE 3 eM W (u 7) [rwOf nt (u 6)] ∧ ∀ k, (u 7).ownBlock = some k → W0.heap.size ≤ k
  f8 : d 8 = true → OwnM W 0 (u 8) (rows ++ [rwOf nt (u 6)]) ∧ ∀ k, (u 8).ownBlock = some k → lv.ownBlock = some k ∨ W0.heap.size ≤ k
  box : W.heap[B]? = some (.cells #[rv, if d 11 = true then u 8 else lv] 66 (0, 0))
section
variable {W0 W W' : World} {B : Nat} {lv rv : Value} {rows : List Rw} {nt : ByteArray} {ps : List Int} {zs : List Fl} {d : Nat → Bool} {u : Nat → Value}
theorem PutInvC.s4 (h : PutInvC W0 B lv rv rows nt ps zs d u W) : PutInvC W0 B lv rv rows nt ps zs (fun j => if j = 4 then true else d j) (fun j => if j = 4 then lv else u j) W :=
  ⟨h.chg, h.v2, rfl, h.v9, h.v6, h.v7, h.v8, fun e => h.o7 e, fun e => ⟨rfl, (h.o8 e).2⟩, fun e => h.o11 e, fun e => h.f4 e, fun e => h.f6 e, fun e1 e2 => h.f7 e1 e2, fun e => h.f8 e, h.box⟩
theorem PutInvC.s2 (h : PutInvC W0 B lv rv rows nt ps zs d u W) : PutInvC W0 B lv rv rows nt ps zs (fun j => if j = 2 then true else d j) (fun j => if j = 2 then ptr B else u j) W :=
  ⟨h.chg, rfl, h.v4, h.v9, h.v6, h.v7, h.v8, fun e => h.o7 e, fun e => h.o8 e, fun e => h.o11 e, fun e => h.f4 e, fun e => h.f6 e, fun e1 e2 => h.f7 e1 e2, fun e => h.f8 e, h.box⟩
theorem PutInvC.s9 (h : PutInvC W0 B lv rv rows nt ps zs d u W) : PutInvC W0 B lv rv rows nt ps zs (fun j => if j = 9 then true else d j) (fun j => if j = 9 then ptr B else u j) W :=
  ⟨h.chg, h.v2, h.v4, rfl, h.v6, h.v7, h.v8, fun e => h.o7 e, fun e => h.o8 e, fun e => h.o11 e, fun e => h.f4 e, fun e => h.f6 e, fun e1 e2 => h.f7 e1 e2, fun e => h.f8 e, h.box⟩
theorem PutInvC.n8 (h : PutInvC W0 B lv rv rows nt ps zs d u W) (h7 : d 7 = false) : d 8 = false := by
  cases e : d 8 with
  | false => rfl
  | true => have := (h.o8 e).2; rw [h7] at this; cases this
theorem PutInvC.n7 (h : PutInvC W0 B lv rv rows nt ps zs d u W) (h6 : d 6 = false) : d 7 = false := by
  cases e : d 7 with
  | false => rfl
  | true => have := h.o7 e; rw [h6] at this; cases this
theorem PutInvC.n11 (h : PutInvC W0 B lv rv rows nt ps zs d u W) (h8 : d 8 = false) : d 11 = false := by
  cases e : d 11 with
  | false => rfl
  | true => have := h.o11 e; rw [h8] at this; cases this
theorem PutInvC.s6 (h : PutInvC W0 B lv rv rows nt ps zs d u W) (hd : d 6 = false) {pv tv : Value} (c : Chg No W W') (h1 : OwnI W' W0.heap.size pv ps) (h2 : OwnF W' W0.heap.size tv zs) :
    PutInvC W0 B lv rv rows nt ps zs (fun j => if j = 6 then true else d j) (fun j => if j = 6 then .agg #[pv, tv, .string nt] else u j) W' := by
  have h7 := h.n7 hd
  have h8 := h.n8 h7
  have h11 := h.n11 h8
  obtain ⟨p1, k1, e1⟩ := row_slice h1
  obtain ⟨p2, k2, e2⟩ := row_slice h2
  refine ⟨h.chg.trans c (fun _ h => h.elim), h.v2, h.v4, h.v9, ⟨p1, _, k1, p2, _, k2, by rw [← e1, ← e2]; rfl⟩, h.v7, h.v8, fun _ => rfl, fun e => h.o8 e, fun e => h.o11 e, fun e => own_still (h.f4 e) c (fun _ _ h => h), fun _ => ⟨h1, h2⟩, fun e _ => ?_, fun e => ?_, ?_⟩
  · have e' : d 7 = true := e
    rw [h7] at e'; cases e'
  · have e' : d 8 = true := e
    rw [h8] at e'; cases e'
  · have hb := h.box
    rw [h11, if_neg Bool.false_ne_true] at hb
    show W'.heap[B]? = some (.cells #[rv, if d 11 = true then u 8 else lv] _ _)
    rw [h11, if_neg Bool.false_ne_true]
    exact c.same hb (fun h => h)
theorem PutInvC.s7 (h : PutInvC W0 B lv rv rows nt ps zs d u W) (hd : d 7 = false) (h6 : d 6 = true) {pv tv : Value} (e6 : u 6 = .agg #[pv, tv, .string nt]) :
    PutInvC W0 B lv rv rows nt ps zs (fun j => if j = 7 then true else d j) (fun j => if j = 7 then .slice (some ⟨W.heap.size, 0, none⟩) 1 1 else u j) (W.alloc (.cells #[pv, tv, .string nt] 46)) := by
  have h8 := h.n8 hd
  have c : Chg No W (W.alloc (.cells #[pv, tv, .string nt] 46)) := (Chg.refl _ W).alloc _
  refine ⟨h.chg.alloc _, h.v2, h.v4, h.v9, h.v6, ⟨_, _, _, rfl⟩, h.v8, fun _ => h6, fun e => ⟨(h.o8 e).1, rfl⟩, fun e => h.o11 e, fun e => own_still (h.f4 e) c (fun _ _ h => h), fun e => ⟨own_still (h.f6 e).1 c (fun _ _ h => h), own_still (h.f6 e).2 c (fun _ _ h => h)⟩, fun _ _ => ⟨?_, fun k hk => ?_⟩, fun e => ?_, c.same h.box (fun h => h)⟩
  · have hr : rwOf nt (u 6) = (pv, tv, nt) := by rw [e6]; rfl
    show SlE 3 eM _ (.slice (some ⟨W.heap.size, 0, none⟩) 1 1) [rwOf nt (u 6)]
    rw [hr]
    exact SlM.one W (pv, tv, nt)
  · cases hk
    exact h.chg.size
  · have e' : d 8 = true := e
    rw [h8] at e'; cases e'
theorem PutInvC.s8 (h : PutInvC W0 B lv rv rows nt ps zs d u W) (hne : ¬ lv.ownBlock = some B) (hd : d 8 = false) (h4 : d 4 = true) (h7 : d 7 = true) {v : Value} (hg : W.grownBy W' lv.ownBlock) (ho : OwnM W' 0 v (rows ++ [rwOf nt (u 6)])) (hat : v.ownBlock = lv.ownBlock ∨ v.ownBlock = some W.heap.size) (hlt : ∀ k, lv.ownBlock = some k → k < W0.heap.size) :
    PutInvC W0 B lv rv rows nt ps zs (fun j => if j = 8 then true else d j) (fun j => if j = 8 then v else u j) W' := by
  have h11 := h.n11 hd
  have h6 := h.o7 h7
  have c : Chg (fun k => lv.ownBlock = some k) W W' := (Chg.refl (fun k => lv.ownBlock = some k) W).grown hg (fun k e => .inl e)
  obtain ⟨p', c', e'⟩ := row_slice ho
  refine ⟨h.chg.trans c (fun k hk => .inl (.inr hk)), h.v2, h.v4, h.v9, h.v6, h.v7, ⟨p', _, c', e'⟩, fun e => h.o7 e, fun _ => ⟨h4, h7⟩, fun e => rfl, fun e => (by cases e), fun e => ⟨own_still (h.f6 e).1 c (fun k hk e => ?_), own_still (h.f6 e).2 c (fun k hk e => ?_)⟩, fun _ e => (by cases e), fun _ => ⟨ho, fun k hk => ?_⟩, ?_⟩
  · have := (World.ownsRow.lt (h.f6 h6).1 k hk).1
    have := hlt k e
    omega
  · have := (World.ownsRow.lt (h.f6 h6).2 k hk).1
    have := hlt k e
    omega
  · have hk' : v.ownBlock = some k := hk
    rcases hat with e | e
    · exact .inl (by rw [← e]; exact hk')
    · rw [e] at hk'
      cases hk'
      exact .inr h.chg.size
  · have hb := h.box
    rw [h11, if_neg Bool.false_ne_true] at hb
    show W'.heap[B]? = some (.cells #[rv, if d 11 = true then v else lv] _ _)
    rw [h11, if_neg Bool.false_ne_true]
    exact c.same hb hne
theorem PutInvC.s11 (h : PutInvC W0 B lv rv rows nt ps zs d u W) (hB : B < W0.heap.size) (hne : ¬ lv.ownBlock = some B) (h8 : d 8 = true) (v : Value) :
    PutInvC W0 B lv rv rows nt ps zs (fun j => if j = 11 then true else d j) (fun j => if j = 11 then v else u j) (W.setCell ⟨B, 1, none⟩ (u 8)) := by
  have c : Chg (fun k => k = B) W (W.setCell ⟨B, 1, none⟩ (u 8)) := (Chg.refl (fun k => k = B) W).setCell (p := ⟨B, 1, none⟩) (.inl rfl) _
  refine ⟨h.chg.trans c (fun k hk => .inl (.inl hk)), h.v2, h.v4, h.v9, h.v6, h.v7, h.v8, fun e => h.o7 e, fun e => h.o8 e, fun _ => h8, fun e => ?_, fun e => ⟨own_still (h.f6 e).1 c (fun k hk e' => ?_), own_still (h.f6 e).2 c (fun k hk e' => ?_)⟩, fun e1 e2 => ?_, fun _ => ⟨own_still (h.f8 h8).1 c (fun k hk e => ?_), fun k hk => (h.f8 h8).2 k hk⟩, ?_⟩
  · have e' : d 8 = false := e
    rw [h8] at e'; cases e'
  · have := (World.ownsRow.lt (h.f6 e).1 k hk).1; omega
  · have := (World.ownsRow.lt (h.f6 e).2 k hk).1; omega
  · have e' : d 8 = false := e2
    rw [h8] at e'; cases e'
  · subst e
    rcases (h.f8 h8).2 k hk with h1 | h1
    · exact hne h1
    · omega
  · have := h.box
    show (W.setCell ⟨B, 1, none⟩ (u 8)).heap[B]? = some (.cells #[rv, u 8] _ _)
    simp [World.setCell, Array.getElem?_modify, this]
end

/-- The landed repo, behind a call. -/
def LOut (B : Nat) (s' : Rp) (lv : Value) (D : Blk) (w w' : World) : Prop := ∃ lv' rows' D', KRep B s' lv' rows' D' w' ∧ Chg (refS B lv) w w' ∧ Grew (fun k => refS B lv k ∨ D k) w (fun k => refS B lv' k ∨ D' k) ∧ Grew (refS B lv) w (refS B lv')
theorem LOut.same {B : Nat} {s : Rp} {lv : Value} {rows : List Rw} {D : Blk} {w w' : World} (h : KRep B s lv rows D w') (c : Chg No w w') : LOut B s lv D w w' :=
  ⟨lv, rows, D, h, c.mono (fun _ h => h.elim), Grew.refl _ _, Grew.refl _ _⟩

set_option maxRecDepth 100000 in
set_option maxHeartbeats 8000000 in
theorem add_in (B : Nat) (s : Rp) (lv : Value) (rows : List Rw) (D E : Blk) (v : Value) (c : Cm) (w : World) (h : KRep B s lv rows D w) (hv : CmD E w v c) (hE : ∀ k, E k → ¬ refS B lv k) (hl : s.1.length ≤ 200) (hc : SmallC c) :
    CallsIn Fence.wide 0 Tryd.prog 22 #[ptr B, v] w fun e w' => e = .returned (.tuple #[iv ((addC s c).2.1 : Nat), iv ((addC s c).2.2 : Nat)]) ∧ LOut B (addC s c).1 lv D w w' := by
  have hmix : Tryd.prog.follows .mixedOrders = true := by kernel_rfl
  have hnil := ptr_nil B
  have hv0 := hv
  obtain ⟨p, n, k0, q, m, l, rfl, h1, h2, h3, h4⟩ := hv
  obtain rfl : n = c.1.length := by obtain ⟨_, _, e, _⟩ := h1; cases e; simp
  obtain ⟨W1, hW1⟩ : ∃ W1, w.alloc (.cells #[.slice p c.1.length k0, .slice q m l, .string c.2.2] 46) = W1 := ⟨_, rfl⟩
  have ca : Chg No w W1 := hW1 ▸ (Chg.refl _ w).alloc _
  have x0 : W1.heap[w.heap.size]? = some (.cells #[.slice p c.1.length k0, .slice q m l, .string c.2.2] 46 (0, 0)) := hW1 ▸ World.alloc_heap_new w _
  have HX : Hid (∀ W, Chg No W1 W → W.cell? ⟨w.heap.size, 0, none⟩ = some (.slice p c.1.length k0) ∧ W.cell? ⟨w.heap.size, 1, none⟩ = some (.slice q m l) ∧ W.cell? ⟨w.heap.size, 2, none⟩ = some (.string c.2.2)) := fun W cW => by
    have z0 := cW.same x0 (fun h => h)
    refine ⟨?_, ?_, ?_⟩ <;> simp [World.cell?, z0]
  obtain ⟨y0, y1, y2⟩ := HX.out W1 (Chg.refl _ _)
  have hr1 := h.no ca
  have hv1 := hv0.no ca
  have M1 := mayR_in _ c _ W1 hv1 hc
  obtain ⟨np, hnp⟩ : ∃ np, c.1.length = np := ⟨_, rfl⟩
  have HNP : Hid (c.1.length = np) := hnp
  rw [hnp] at y0 h1 HX hv1 M1 hW1 ⊢
  have hnp5 : np ≤ 5 := by rw [← hnp]; exact hc.1
  have HA : Hid (addC s c = if mayC c = false then (s, 0, 6) else if c.1.all (hasN s.1.length) = false then (s, 0, 7) else if findC s.1 c = 0 then (if s.2 ≤ s.1.length then (s, 0, 3) else ((s.1 ++ [c], s.2), s.1.length + 1, 0)) else (s, findC s.1 c, 0)) := rfl
  obtain ⟨A, hA⟩ : ∃ A, addC s c = A := ⟨_, rfl⟩
  rw [hA] at HA ⊢
  have g1 := h1.no ca
  clear x0 h1 h2 h3 h4 hnp hA hv0
  refine callsIn_of_wp Tryd.func22 rfl trivial ?_
  simp only [Tryd.ntmps22, List.size_toArray, List.length_cons, List.length_nil, Nat.reduceAdd, Nat.reduceSub, Array.replicate_succ, Array.replicate_zero, List.push_toArray, List.append_toArray, List.nil_append, List.cons_append]
  gi_wp2_with fail
  refine ⟨trivial, rfl, M1.mono ?_⟩
  rintro e w2 ⟨rfl, c2⟩
  have c02 := Chg.seq ca c2
  have hr2 := hr1.no c2
  generalize mayC c = mb at HA ⊢
  cases mb with
  | false =>
    obtain rfl : A = (s, 0, 6) := by rw [HA.out, if_pos rfl]
    gi_wp2
    go_ret2
    exact ⟨rfl, LOut.same hr2 c02⟩
  | true =>
  rw [if_neg (by decide)] at HA
  clear M1 hr1
  have HX2 : Hid (∀ W, Chg No w2 W → W.cell? ⟨w.heap.size, 0, none⟩ = some (.slice p np k0) ∧ W.cell? ⟨w.heap.size, 1, none⟩ = some (.slice q m l) ∧ W.cell? ⟨w.heap.size, 2, none⟩ = some (.string c.2.2)) := fun W cW => HX.out W (Chg.seq c2 cW)
  have hv2 := hv1.no c2
  have g2 := g1.no c2
  clear y0 y1 y2 HX hv1 g1 hW1
  obtain ⟨y0, y1, y2⟩ := HX2.out _ (Chg.refl _ _)
  have A1 := hasAll_in B s lv rows D p np k0 c.1 HNP.out hnp5 _ hr2 g2
  generalize c.1.all (hasN s.1.length) = ab at HA A1
  gi_wp2_with fail
  refine ⟨trivial, rfl, A1.mono ?_⟩
  rintro e w3 ⟨rfl, hw3⟩
  subst hw3
  clear A1 g2
  cases ab with
  | false =>
    obtain rfl : A = (s, 0, 7) := by rw [HA.out, if_pos rfl]
    gi_wp2
    go_ret2
    exact ⟨rfl, LOut.same hr2 c02⟩
  | true =>
  rw [if_neg (by decide)] at HA
  have F1 := find_in B s lv rows _ c D _ _ hr2 hv2 (by omega)
  gi_wp2_with fail
  refine ⟨trivial, rfl, F1.mono ?_⟩
  rintro e w3 ⟨rfl, c3⟩
  have c03 := Chg.seq c02 c3
  have hr3 := hr2.no c3
  have hv3 := hv2.no c3
  obtain ⟨z0, z1, z2⟩ := HX2.out _ c3
  obtain ⟨f, hf⟩ : ∃ f, findC s.1 c = f := ⟨_, rfl⟩
  rw [hf] at HA ⊢
  clear F1 hf hr2 hv2 y0 y1 y2
  by_cases hf0 : 0 < f
  · have hf1 : (0 : Int) < (f : Int) := by omega
    obtain rfl : A = (s, f, 0) := by rw [HA.out, if_neg (by omega)]
    gi_wp2
    go_ret2
    exact ⟨rfl, LOut.same hr3 c03⟩
  · obtain rfl : f = 0 := by omega
    rw [if_pos rfl] at HA
    obtain ⟨pv, kv, rfl⟩ := hr3.slice
    obtain ⟨t0, t1, t2, t3⟩ := hr3.cells
    have L1 : ∀ d : After w3, CallsIn Fence.wide 0 Tryd.prog 19 #[ptr B] d.val fun e w' => e = .returned (iv (s.1.length : Nat)) ∧ Chg No d.val w' := fun d => (len_in B s _ rows D d.val (hr3.no d.chg)).mono (by rintro e w' ⟨rfl, rfl⟩; exact ⟨rfl, Chg.refl _ _⟩)
    obtain ⟨N, hN⟩ : ∃ N, s.1.length = N := ⟨_, rfl⟩
    obtain ⟨R, hR⟩ : ∃ R, s.2 = R := ⟨_, rfl⟩
    have HNR : Hid (s.1.length = N ∧ s.2 = R) := ⟨hN, hR⟩
    rw [hN] at t1 HA hl L1
    rw [hR] at t0 HA
    have hany := After.any w3
    have g0 : ∀ d : After w3, d.val.cell? ⟨B, 0, none⟩ = some (iv (R : Nat)) := fun d => d.cell t0
    clear hN hR
    gi_wp2
    by_cases hfull : R ≤ N
    · obtain rfl : A = (s, 0, 3) := by rw [HA.out, if_pos hfull]
      have hfd : decide (R ≤ N) = true := decide_eq_true hfull
      have hfi : (R : Int) ≤ (N : Int) := by omega
      refine region_quietC hmix (by kernel_rfl) ?_
      repeat (gi_big_quiet_step (fail))
      refine wpQuietIn_want (fun _ _ _ _ => trivial) rfl ?_
      intro KQ hKQ
      gi_big_quiet_op
      gi_big_quiet_call (exact ⟨rfl, (L1 _).mono (by rintro e w'' ⟨rfl, c'⟩; exact ⟨rfl, After.more _ c'⟩)⟩)
      repeat (gi_big_quiet_step (fail))
      refine wpQuietIn_nil ?_
      rintro w' ⟨d, rfl⟩
      gi_wp2
      go_ret2
      exact ⟨rfl, LOut.same (hr3.no d.chg) (Chg.seq c03 d.chg)⟩
    · obtain rfl : A = ((s.1 ++ [c], s.2), N + 1, 0) := by rw [HA.out, if_neg hfull, HNR.out.2]
      have hfd : decide (R ≤ N) = false := decide_eq_false hfull
      have hfi : ¬ (R : Int) ≤ (N : Int) := by omega
      refine region_quietC hmix (by kernel_rfl) ?_
      repeat (gi_big_quiet_step (fail))
      refine wpQuietIn_want (fun _ _ _ _ => trivial) rfl ?_
      intro KQ hKQ
      gi_big_quiet_op
      gi_big_quiet_call (exact ⟨rfl, (L1 _).mono (by rintro e w'' ⟨rfl, c'⟩; exact ⟨rfl, After.more _ c'⟩)⟩)
      repeat (gi_big_quiet_step (fail))
      refine wpQuietIn_nil ?_
      rintro w' ⟨dd, rfl⟩
      have cj := dd.chg
      clear L1 g0 hany
      generalize dd.val = W4 at *
      have hr4 := hr3.no cj
      have hv4 := hv3.no cj
      have c04 := Chg.seq c03 cj
      obtain ⟨t4, t5, t6, t7⟩ := hr4.cells
      rw [HNR.out.2] at t4
      rw [HNR.out.1] at t5
      have hBw : B < w.heap.size := h.ltO B (.inl rfl)
      have hB4 : B < W4.heap.size := hr4.ltO B (.inl rfl)
      have hlt4 : ∀ k, (Value.slice pv s.1.length kv).ownBlock = some k → k < W4.heap.size := fun k hk => hr4.ltO k (.inr hk)
      have hlvB := hr4.ne
      have hlvw : ¬ (Value.slice pv s.1.length kv).ownBlock = some w.heap.size := fun e => by have := h.ltO _ (.inr e); omega
      obtain ⟨z0', z1', z2'⟩ := HX2.out _ (Chg.seq c3 cj)
      rw [HNR.out.1] at hlt4 hlvB hlvw hE
      have hne : ¬ refS B (.slice pv N kv) w.heap.size := fun e => by
        rcases e with e | e
        · omega
        · exact hlvw e
      have hany : Nonempty (AfterB (refS B (.slice pv N kv)) W4) := AfterB.any _ _
      have f0 : ∀ d : AfterB (refS B (.slice pv N kv)) W4, d.val.cell? ⟨w.heap.size, 0, none⟩ = some (.slice p np k0) := fun d => d.cell z0' hne
      have f1 : ∀ d : AfterB (refS B (.slice pv N kv)) W4, d.val.cell? ⟨w.heap.size, 1, none⟩ = some (.slice q m l) := fun d => d.cell z1' hne
      have f2 : ∀ d : AfterB (refS B (.slice pv N kv)) W4, d.val.cell? ⟨w.heap.size, 2, none⟩ = some (.string c.2.2) := fun d => d.cell z2' hne
      have hone := hr4.red.one
      have hrl : rows.length = N := by rw [hr4.red.len, HNR.out.1]
      have hbox := hr4.box
      have hown := hr4.own
      rw [HNR.out.1] at hbox hown
      rw [HNR.out.2] at hbox
      have Hr4 : Hid _ := hr4
      have HE : Hid _ := hE
      have hvW : ∀ W, Chg (refS B (.slice pv N kv)) W4 W → CmD E W (.agg #[.slice p np k0, .slice q m l, .string c.2.2]) c := fun W cW => hv4.chg cW (fun j hj => HE.out j hj)
      clear hr3 hv3 z0 z1 z2 z0' z1' z2' t0 t1 t2 t3 hr4 cj c3 c03 hfd hfi hfull HX2 hE
      gi_wp2
      refine region_loudG (fun i => i == 2 || i == 4 || i == 6 || i == 7 || i == 8 || i == 9 || i == 11) (fun w' => ∃ d : AfterB (refS B (.slice pv N kv)) W4, w' = d.val) (PutInvC W4 B (.slice pv N kv) (iv (R : Int)) rows c.2.2 c.1 c.2.1)
        (fun j => if j = 4 then .slice pv N kv else if j = 2 then ptr B else if j = 9 then ptr B else if j = 6 then .agg #[.slice none 0 0, .slice none 0 0, .string c.2.2] else .slice none 0 0) hmix (by kernel_rfl) (by kernel_rfl) (fun d u W hI => ⟨⟨W, hI.chg⟩, rfl⟩)
        ⟨(Chg.refl _ W4).drew, rfl, rfl, rfl, ⟨none, 0, 0, none, 0, 0, rfl⟩, ⟨none, 0, 0, rfl⟩, ⟨none, 0, 0, rfl⟩, fun h => (by cases h), fun h => (by cases h), fun h => (by cases h), fun _ => hown, fun h => (by cases h), fun h => (by cases h), fun h => (by cases h), hbox⟩ (fun u hu => ?_)
      obtain ⟨_, _, hu⟩ := hu
      have e2 := hu.v2
      have e4 := hu.v4
      have e9 := hu.v9
      obtain ⟨q6, m6, k6, q6', m6', k6', e6⟩ := hu.v6
      obtain ⟨q7, m7, k7, e7⟩ := hu.v7
      obtain ⟨q8, m8, k8, e8⟩ := hu.v8
      clear hu
      simp only [hushE, Nat.reduceAdd, Nat.reduceBEq, Bool.or_self, Bool.or_true, Bool.or_false, if_true, if_false, Bool.false_eq_true]
      simp only [e2, e4, e6, e7, e8, e9]
      repeat (gi_big_quiet_step (fail))
      refine wpQuietIn_nil ⟨?_, ?_, ?_⟩
      · intro i oo ho hm
        simp only [Bool.or_eq_true, beq_iff_eq] at hm
        rcases hm with (((((rfl | rfl) | rfl) | rfl) | rfl) | rfl) | rfl
        all_goals (cases ho; rfl)
      · intro i oo d W hjo hm hd hwt hI
        simp only [Bool.or_eq_true, beq_iff_eq] at hm
        rcases hm with (((((rfl | rfl) | rfl) | rfl) | rfl) | rfl) | rfl
        · cases hjo
          refine LeadsV.value (v := ptr B) (w' := W) ?_ hI.s2
          simp [go_sem]
        · cases hjo
          have h8 : d 8 = false := by
            cases e : d 8 with
            | false => rfl
            | true => have := (hI.o8 e).1; rw [hd] at this; cases this
          have hb := hI.box
          rw [hI.n11 h8, if_neg Bool.false_ne_true] at hb
          have kb : W.cell? ⟨B, 1, none⟩ = some (.slice pv N kv) := by simp [World.cell?, hb]
          refine LeadsV.value (v := .slice pv N kv) (w' := W) ?_ hI.s4
          simp [go_sem, kb]
        · cases hjo
          refine LeadsV.call (f := 35) (args := #[.agg #[.slice p np k0, .slice q m l, .string c.2.2]]) (by simp [go_sem]) ((own_in _ c E W (hvW W hI.chg) hc).mono ?_)
          rintro e w5 ⟨v5, v6, rfl, ho1, ho2, c5⟩
          exact ⟨_, rfl, hI.s6 hd c5 (rowBase ho1 hI.chg.size) (ho2.base hI.chg.size)⟩
        · cases hjo
          have h6 := hwt 6 rfl (by kernel_rfl)
          refine LeadsV.value (v := .slice (some ⟨W.heap.size, 0, none⟩) 1 1) (w' := W.alloc (.cells #[.slice q6 m6 k6, .slice q6' m6' k6', .string c.2.2] 46)) ?_ (hI.s7 hd h6 e6)
          simp [go_sem]
        · cases hjo
          have h4 := hwt 4 rfl (by kernel_rfl)
          have h7 := hwt 7 rfl (by kernel_rfl)
          have hsl := (hI.f7 h7 hd).1
          rw [e7] at hsl
          obtain ⟨rx, hrx⟩ : ∃ rx, rwOf c.2.2 (u 6) = rx := ⟨_, rfl⟩
          rw [hrx] at hsl
          have hm7 : m7 = 1 := by obtain ⟨_, _, e, _⟩ := hsl; cases e; rfl
          subst hm7
          refine LeadsV.append_sm _ _ rfl 0 (.slice pv N kv) rows rfl (hI.f4 hd) q7 1 k7 [rx] rfl hsl (fun r hr => ?_) (by omega) (Nat.zero_le _) ?_
          · rw [List.mem_singleton.1 hr, ← hrx, e6]; exact ⟨rfl, rfl⟩
          · intro v' w' ho' hg' hat
            rw [← hrx] at ho'
            exact hI.s8 hlvB hd h4 h7 hg' ho' hat hlt4
        · cases hjo
          refine LeadsV.value (v := ptr B) (w' := W) ?_ hI.s9
          simp [go_sem]
        · cases hjo
          have h8 := hwt 8 rfl (by kernel_rfl)
          have hb := hI.box
          have kb : W.cell? ⟨B, 1, none⟩ = some (if d 11 = true then u 8 else .slice pv N kv) := by simp [World.cell?, hb]
          have kf : W.frozen? ⟨B, 1, none⟩ = false := by simp [World.frozen?, hb]
          refine LeadsV.skip (w' := W.setCell ⟨B, 1, none⟩ (u 8)) ?_ (hI.s11 hB4 hlvB h8 undef)
          rw [e8]
          simp [go_sem, kb, kf]
      · intro d W hall hI
        have h6 := hall 6 rfl (by simp)
        have h8 := hall 8 rfl (by simp)
        have h11 := hall 11 rfl (by simp)
        have hb := hI.box
        rw [h11, if_pos rfl] at hb
        obtain ⟨ho8, hat8⟩ := hI.f8 h8
        obtain ⟨o1, o2⟩ := hI.f6 h6
        have hcW := hI.chg
        have hr4 := Hr4.out
        rw [HNR.out.1] at hr4
        have hw6 : rwOf c.2.2 (u 6) = (.slice q6 m6 k6, .slice q6' m6' k6', c.2.2) := by rw [e6]; rfl
        rw [hw6] at ho8 o1 o2
        have hT := CmD.ofOwn (c := c) o1 o2
        have hR : KRep B (s.1 ++ [c], s.2) (u 8) (rows ++ [(.slice q6 m6 k6, .slice q6' m6' k6', c.2.2)]) (fun k => D k ∨ ((Value.slice q6 m6 k6).ownBlock = some k ∨ (Value.slice q6' m6' k6').ownBlock = some k)) W := by
          refine ⟨by rw [HNR.out.2]; exact hb, ho8, (hr4.red.chg hcW hr4.apart).snoc hT, fun e => ?_, fun k hk e => ?_, fun k hk => ?_, hr4.room, fun x hx => ?_⟩
          · rcases hat8 B e with h | h
            · exact hlvB h
            · omega
          · rcases hk with hk | hk | hk
            · rcases e with e | e
              · exact hr4.apart k hk (.inl e)
              · rcases hat8 k e with h | h
                · exact hr4.apart k hk (.inr h)
                · have := hr4.lt k hk; omega
            · have hge := (World.ownsRow.lt o1 k hk).1
              rcases e with e | e
              · omega
              · exact row_apart2 (by decide) o1 ho8 k hk e
            · have hge := (World.ownsRow.lt o2 k hk).1
              rcases e with e | e
              · omega
              · exact row_apart2 (by decide) o2 ho8 k hk e
          · rcases hk with hk | hk | hk
            · exact Nat.lt_of_lt_of_le (hr4.lt k hk) hcW.size
            · exact (World.ownsRow.lt o1 k hk).2
            · exact (World.ownsRow.lt o2 k hk).2
          · rcases List.mem_append.1 hx with h | h
            · exact hr4.small x h
            · rw [List.mem_singleton.1 h]; exact hc
        have hsz := c04.size
        have hout : LOut B (s.1 ++ [c], s.2) (.slice pv s.1.length kv) D w W := by
          rw [HNR.out.1]
          refine ⟨_, _, _, hR, (c04.mono (fun _ h => h.elim)).trans hcW (Grew.refl _ _), fun k hk => ?_, fun k hk => ?_⟩
          · rcases hk with (hk | hk) | hk | hk | hk
            · exact .inl (.inl (.inl hk))
            · rcases hat8 k hk with h | h
              · exact .inl (.inl (.inr h))
              · exact .inr (by omega)
            · exact .inl (.inr hk)
            · have := (World.ownsRow.lt o1 k hk).1; exact .inr (by omega)
            · have := (World.ownsRow.lt o2 k hk).1; exact .inr (by omega)
          · rcases hk with hk | hk
            · exact .inl (.inl hk)
            · rcases hat8 k hk with h | h
              · exact .inl (.inr h)
              · exact .inr (by omega)
        have L2 := len_in B _ _ _ _ W hR
        rw [List.length_append, List.length_singleton, HNR.out.1] at L2
        clear hI hall f0 f1 f2 hany e4 hT hR hb ho8 hat8 o1 o2 hvW
        gi_wp2_with fail
        refine ⟨trivial, rfl, L2.mono ?_⟩
        rintro e w6 ⟨rfl, hw⟩
        subst hw
        gi_wp2
        go_ret2
        exact ⟨rfl, hout⟩

theorem addN_in (E : Blk) (v : Value) (c : Cm) (w : World) (hv : CmD E w v c) : CallsIn Fence.wide 0 Tryd.prog 22 #[.pointer none, v] w fun e w' => e = .returned (.tuple #[iv 0, iv 1]) ∧ Chg No w w' := by
  have hnil := nil_nil
  obtain ⟨p, n, k, q, m, l, rfl, hh⟩ := hv
  clear hh
  refine callsIn_of_wp Tryd.func22 rfl trivial ?_
  simp only [Tryd.ntmps22, List.size_toArray, List.length_cons, List.length_nil, Nat.reduceAdd, Nat.reduceSub, Array.replicate_succ, Array.replicate_zero, List.push_toArray, List.append_toArray, List.nil_append, List.cons_append]
  gi_wp2
  go_ret2
  exact ⟨rfl, (Chg.refl _ w).alloc _⟩

end Go.Proofs.YtmpgeacfnikbpaaDoor

end
section
-- KPut
namespace Go.Proofs.YtmpgeacfnikbpaaDoor
open Go.RowKit Go.Shelf Go.SeqLib Go.DiffLib Go.TreeLib Go.RepoLib Go.BigFrame
attribute [local go_sem] Oper.semAt_some

theorem putSpec : PutSpec LRep := {
  part := LRep.part
  sub := by
    rintro B s S O W ⟨lv, rows, D, _, rfl, rfl⟩ k hk
    exact .inl hk
  new := fun room w _ _ => (new_in room w).mono (by
    rintro e w' ⟨rfl, rfl⟩
    refine ⟨w.heap.size, _, _, rfl, ⟨_, _, _, KRep.made room w, rfl, rfl⟩, fun k hk => ?_, (Chg.refl _ w).alloc _⟩
    rcases hk with (hk | hk) | hk
    · omega
    · cases hk
    · exact hk.elim)
  add := by
    rintro B s S O E v c w ⟨lv, rows, D, h, rfl, rfl⟩ hv hE hc hl
    refine (add_in B s lv rows D E v c w h hv (fun k hk e => hE k hk (.inl e)) hl hc).mono ?_
    rintro e w' ⟨rfl, lv', rows', D', h', c', g1, g2⟩
    exact ⟨_, _, rfl, ⟨lv', rows', D', h', rfl, rfl⟩, c', g1, g2⟩
  len := by
    rintro B s S O w ⟨lv, rows, D, h, rfl, rfl⟩ _
    exact (len_in B s lv rows D w h).mono (by rintro e w' ⟨rfl, rfl⟩; exact ⟨rfl, Chg.refl _ _⟩) }

end Go.Proofs.YtmpgeacfnikbpaaDoor

end
