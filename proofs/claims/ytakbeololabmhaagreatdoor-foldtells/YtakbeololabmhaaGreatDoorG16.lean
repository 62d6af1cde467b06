/-
  Of: KRev, KRep, KIns.
-/
import Derived.Test.YtakbeololabmhaaGreatDoorG15
import Derived.Test.YtakbeololabmhaaGreatDoorG13
import Derived.Test.YtakbeololabmhaaGreatDoorG09
import Derived.Shelf.RegionOpen
import Derived.Test.YtakbeololabmhaaGreatDoorG08
import Derived.Test.YtakbeololabmhaaGreatDoorG10
import Derived.Lib.AppendZerosOnto
import Derived.Lib.Overlaps
import Derived.Laws.Externs
import Derived.Laws.IdiomCopy
section
-- KRev
namespace Go.Proofs.YtakbeololabmhaaGreatDoor
open Go.RowKit Go.Shelf Go.SeqLib Go.DiffLib Go.TreeLib Go.RepoLib Go.DagLib Go.BigFrame
attribute [local go_sem] Oper.semAt_some

set_option maxRecDepth 100000 in
set_option maxHeartbeats 8000000 in
theorem reverse_in (v : Value) (l : List Int) (base : Nat) (w : World) (hl : l.length ≤ 1000000) (h : OwnI w base v l) :
    CallsIn Fence.wide 0 Tryz.prog 62 #[v] w fun e w' => e = .returned (.tuple #[]) ∧ OwnI w' base v l.reverse ∧ Chg (fun k => v.ownBlock = some k) w w' := by
  obtain ⟨p, cap, rfl⟩ := row_slice h
  obtain ⟨n, hn⟩ : ∃ n, l.length = n := ⟨_, rfl⟩
  have HO : Hid (∀ k W, 2 * k ≤ n → ¬ 2 * k + 1 < n → W.ownsRow base 3 1 (.slice p n cap) n ((revK l k).map iv) → OwnI W base (.slice p l.length cap) l.reverse) := fun k W h1 h2 ho => by
    rw [revK_end (by omega) (by omega)] at ho
    show World.ownsRow _ _ _ _ _ _ _
    rw [List.length_reverse, hn]
    exact ho
  have h0 : w.ownsRow base 3 1 (.slice p n cap) n ((revK l 0).map iv) := by rw [revK_zero, ← hn]; exact h
  have HS : Hid (∀ k, 2 * k + 1 < n → ((revK l k).set k (l.getD (n - 1 - k) 0)).set (n - 1 - k) (l.getD k 0) = revK l (k + 1)) := fun k hk => by have := revK_step (l := l) (k := k) (by omega); rw [hn] at this; exact this
  have HL : Hid (∀ k, 2 * k + 1 < n → (revK l k)[k]? = some (l.getD k 0) ∧ (revK l k)[n - 1 - k]? = some (l.getD (n - 1 - k) 0)) := fun k hk => ⟨revK_lo (by omega), by have := revK_hi (l := l) (k := k) (by omega); rw [hn] at this; exact this⟩
  rw [hn] at hl
  rw [hn]
  rw [hn] at HO
  clear h hn
  have mixed : Tryz.prog.follows .mixedOrders = true := by kernel_rfl
  refine callsIn_of_wp Tryz.func62 rfl trivial ?_
  simp only [Tryz.ntmps62, List.size_toArray, List.length_cons, List.length_nil, Nat.reduceAdd, Nat.reduceSub, Array.replicate_succ, Array.replicate_zero, List.push_toArray, List.append_toArray, List.nil_append, List.cons_append]
  gi_wp2
  gi_loopw [2, 3] (fun s2 s3 wr => ∃ (k : Nat) (z : Int), 2 * k ≤ n ∧ s2 = .int .i64 (k : Int) ∧ s3 = .int .i64 z ∧ z = (n : Int) - 1 - (k : Int) ∧ wr.ownsRow base 3 1 (.slice p n cap) n ((revK l k).map iv) ∧ Chg (fun j => (Value.slice p n cap).ownBlock = some j) w wr) (fun s2 _ _ => n - (intOf s2).toNat)
  case atStart => exact ⟨0, (n : Int) - 1, by omega, rfl, rfl, by simp, h0, Chg.refl _ _⟩
  case round =>
    obtain ⟨k, z, hk, rfl, rfl, hz, hown, c⟩ := hrel
    by_cases hlt : 2 * k + 1 < n
    · obtain ⟨j, hj⟩ : ∃ j, n - 1 - k = j := ⟨_, rfl⟩
      obtain rfl : z = (j : Int) := by omega
      have hS := HS.out k hlt
      have hL := HL.out k hlt
      rw [hj] at hS hL
      have HJ : Hid (j = n - 1 - k) := hj.symm
      have hkj : k < j := by omega
      have hjn : j < n := by omega
      clear hz hj
      have hkji : (k : Int) < (j : Int) := by omega
      have hkn : (k : Int) < (n : Int) := by omega
      have hjni : (j : Int) < (n : Int) := by omega
      rcases hown.2 with ⟨e, h00⟩ | ⟨g, _, _, e, _⟩
      · cases e
        omega
      · cases e
        have hck : wr.cell? ⟨g, k, none⟩ = some (iv (l.getD k 0)) := by rw [hown.cellAt k (by omega), List.getElem?_map, hL.1]; rfl
        have hcj : wr.cell? ⟨g, j, none⟩ = some (iv (l.getD j 0)) := by rw [hown.cellAt j (by omega), List.getElem?_map, hL.2]; rfl
        have hfk := hown.frozenAt k
        have hfj := hown.frozenAt j
        obtain ⟨_, _, o1⟩ := row_setB hown (j := k) (by omega) (iv (l.getD j 0))
        obtain ⟨⟨x1, hx1⟩, hf1, o2⟩ := row_setB o1 (j := j) (by omega) (iv (l.getD k 0))
        have HW : Hid (((wr.setCell ⟨g, k, none⟩ (iv (l.getD j 0))).setCell ⟨g, j, none⟩ (iv (l.getD k 0))).ownsRow base 3 1 (.slice (some ⟨g, 0, none⟩) n cap) n ((revK l (k + 1)).map iv)) := by
          show World.ownsRow _ _ _ _ _ _ _
          rw [← hS, List.map_set, List.map_set]
          exact o2
        clear o1 o2 hown hS hL
        generalize l.getD k 0 = xk at *
        generalize l.getD j 0 = xj at *
        gi_wp2_with fail
        gi_big_region_o
        all_goals gi_wp2
        all_goals go_roundw
        case rel => exact ⟨k + 1, (j : Int) - 1, by omega, by go_num, by go_num, by have := HJ.out; omega, HW.out, ((c.setCell (p := ⟨g, k, none⟩) (.inl rfl) _).setCell (p := ⟨g, j, none⟩) (.inl rfl) _).drew⟩
        case measure => simp [intOf]; omega
    · have hlt' : ¬ (k : Int) < z := by omega
      gi_wp2
      go_end0
      exact ⟨rfl, HO.out k _ hk hlt hown, c⟩

end Go.Proofs.YtakbeololabmhaaGreatDoor

end
section
-- KRep
namespace Go.Proofs.YtakbeololabmhaaGreatDoor
open Go.RowKit Go.Shelf Go.SeqLib Go.DiffLib Go.TreeLib Go.RepoLib Go.BigFrame
attribute [local go_sem] Oper.semAt_some

/-- The landed repo at block B: its room and its commits. -/
structure KRep (B : Nat) (s : Rp) (lv : Value) (rows : List Rw) (D : Blk) (W : World) : Prop where
  box : W.heap[B]? = some (.cells #[iv (s.2 : Nat), lv] 67 (0, 0))
  own : OwnM W 0 lv rows
  red : RowsD D W rows s.1
  ne : ¬ lv.ownBlock = some B
  apart : ∀ k, D k → ¬ refS B lv k
  lt : ∀ k, D k → k < W.heap.size
  room : s.2 ≤ 120
  small : ∀ c ∈ s.1, SmallC c
theorem KRep.ltO {B : Nat} {s : Rp} {lv : Value} {rows : List Rw} {D : Blk} {W : World} (h : KRep B s lv rows D W) : ∀ k, refS B lv k → k < W.heap.size := by
  rintro k (rfl | hk)
  · exact (Array.getElem?_eq_some_iff.1 h.box).1
  · exact (World.ownsRow.lt h.own k hk).2
theorem KRep.kept {B : Nat} {s : Rp} {lv : Value} {rows : List Rw} {D : Blk} {W W' : World} (h : KRep B s lv rows D W) (hs : W.heap.size ≤ W'.heap.size) (hk : ∀ k, (refS B lv k ∨ D k) → W'.heap[k]? = W.heap[k]?) : KRep B s lv rows D W' :=
  ⟨(hk B (.inl (.inl rfl))).trans h.box, OwnM.kept h.own (fun k e => hk k (.inl (.inr e))), ⟨h.red.len, fun i r c hr hc => (h.red.at_ i r c hr hc).kept (fun k e => hk k (.inr e))⟩, h.ne, h.apart, fun k e => Nat.lt_of_lt_of_le (h.lt k e) hs, h.room, h.small⟩
/-- The same, by its blocks: S all, O those that it writes. -/
def LRep (B : Nat) (s : Rp) (S O : Blk) (W : World) : Prop := ∃ lv rows D, KRep B s lv rows D W ∧ S = (fun k => refS B lv k ∨ D k) ∧ O = refS B lv
theorem LRep.part (B : Nat) (s : Rp) (O : Blk) : Part (fun S W => LRep B s S O W) := {
  lt := by
    rintro S W ⟨lv, rows, D, h, rfl, _⟩ k (hk | hk)
    · exact h.ltO k hk
    · exact h.lt k hk
  kept := by
    rintro S W W' ⟨lv, rows, D, h, rfl, e⟩ hs hk
    exact ⟨lv, rows, D, h.kept hs hk, rfl, e⟩ }
theorem KRep.chg {B : Nat} {s : Rp} {lv : Value} {rows : List Rw} {D T : Blk} {W W' : World} (h : KRep B s lv rows D W) (c : Chg T W W') (hd : ∀ k, (refS B lv k ∨ D k) → ¬ T k) : KRep B s lv rows D W' :=
  h.kept c.size (fun k hk => c.block k (hk.elim (h.ltO k) (h.lt k)) (hd k hk))
theorem KRep.no {B : Nat} {s : Rp} {lv : Value} {rows : List Rw} {D : Blk} {W W' : World} (h : KRep B s lv rows D W) (c : Chg No W W') : KRep B s lv rows D W' := h.chg c (fun _ _ h => h)
theorem KRep.slice {B : Nat} {s : Rp} {lv : Value} {rows : List Rw} {D : Blk} {W : World} (h : KRep B s lv rows D W) : ∃ p cap, lv = .slice p s.1.length cap := by
  obtain ⟨p, c, e⟩ := row_slice h.own
  rw [h.red.len] at e
  exact ⟨p, c, e⟩
theorem KRep.cells {B : Nat} {s : Rp} {lv : Value} {rows : List Rw} {D : Blk} {W : World} (h : KRep B s lv rows D W) : W.cell? ⟨B, 0, none⟩ = some (iv (s.2 : Nat)) ∧ W.cell? ⟨B, 1, none⟩ = some lv ∧ W.frozen? ⟨B, 0, none⟩ = false ∧ W.frozen? ⟨B, 1, none⟩ = false := by
  have hb := h.box
  refine ⟨?_, ?_, ?_, ?_⟩ <;> simp [World.cell?, World.frozen?, hb]
/-- A row's cells. -/
theorem KRep.cell {B : Nat} {s : Rp} {p : Option Addr} {n cap : Nat} {rows : List Rw} {D : Blk} {W : World} (h : KRep B s (.slice p n cap) rows D W) {i : Nat} {c : Cm} (hc : s.1[i]? = some c) :
    ∃ r b1 o1, rows[i]? = some r ∧ p = some ⟨b1, o1, none⟩ ∧ W.cell? ⟨b1, o1 + i * 3, none⟩ = some r.1 ∧ W.cell? ⟨b1, o1 + i * 3 + 1, none⟩ = some r.2.1 ∧ W.cell? ⟨b1, o1 + i * 3 + 2, none⟩ = some (.string r.2.2) ∧ CmD D W (.agg #[r.1, r.2.1, .string r.2.2]) c := by
  obtain ⟨hi, rfl⟩ := List.getElem?_eq_some_iff.1 hc
  have hir : i < rows.length := by rw [h.red.len]; exact hi
  have hr : rows[i]? = some rows[i] := List.getElem?_eq_getElem hir
  obtain ⟨p0, cap0, e, _, _, hcells⟩ := SlE.ofRow eM_len h.own
  cases e
  obtain ⟨b1, o1, rfl, hcell⟩ := hcells i _ hr
  exact ⟨rows[i], b1, o1, hr, rfl, hcell 0 _ rfl, hcell 1 _ rfl, hcell 2 _ rfl, h.red.at_ i _ _ hr hc⟩

set_option maxHeartbeats 1000000 in
theorem clipped_in (n : Int) (w : World) : CallsIn Fence.wide 0 Tryz.prog 40 #[iv n] w fun e w' => e = .returned (iv (clip n : Nat)) ∧ w' = w := by
  have hm2 : ((clip n : Nat) : Int) = min (max n 0) 120 := by unfold clip; omega
  rw [hm2]
  clear hm2
  refine callsIn_of_wp Tryz.func40 rfl trivial ?_
  simp only [Tryz.ntmps40, List.size_toArray, List.length_cons, List.length_nil, Nat.reduceAdd, Nat.reduceSub, Array.replicate_succ, Array.replicate_zero, List.push_toArray, List.append_toArray, List.nil_append, List.cons_append]
  gi_wp2
  go_ret
  exact ⟨rfl, rfl⟩

set_option maxHeartbeats 1000000 in
theorem new_in (room : Int) (w : World) : CallsIn Fence.wide 0 Tryz.prog 23 #[iv room] w fun e w' => e = .returned (ptr w.heap.size) ∧ w' = w.alloc (.cells #[iv (clip room : Nat), .slice none 0 0] 67) := by
  refine callsIn_of_wp Tryz.func23 rfl trivial ?_
  simp only [Tryz.ntmps23, List.size_toArray, List.length_cons, List.length_nil, Nat.reduceAdd, Nat.reduceSub, Array.replicate_succ, Array.replicate_zero, List.push_toArray, List.append_toArray, List.nil_append, List.cons_append]
  gi_wp2_with fail
  refine ⟨trivial, rfl, (clipped_in room _).mono ?_⟩
  rintro e w1 ⟨rfl, hw⟩
  subst hw
  gi_wp2
  go_ret
  exact ⟨rfl, rfl⟩
theorem KRep.made (room : Int) (w : World) : KRep w.heap.size (newC room) (.slice none 0 0) [] No (w.alloc (.cells #[iv (clip room : Nat), .slice none 0 0] 67)) :=
  ⟨World.alloc_heap_new w _, World.ownsRow_nil _ _ _ _, ⟨rfl, fun i r c h => by simp at h⟩, (fun h => by cases h), fun _ h => h.elim, fun _ h => h.elim, by show clip room ≤ 120; unfold clip; omega, fun c h => by cases h⟩

theorem ptr_nil (B : Nat) (w : World) : (binOp .eql 25 (ptr B) (.pointer none)).run Tryz.prog w = .ok (.bool false) w := by simp [go_sem]
set_option maxHeartbeats 1000000 in
theorem len_in (B : Nat) (s : Rp) (lv : Value) (rows : List Rw) (D : Blk) (w : World) (h : KRep B s lv rows D w) : CallsIn Fence.wide 0 Tryz.prog 16 #[ptr B] w fun e w' => e = .returned (iv (s.1.length : Nat)) ∧ w' = w := by
  have hnil := ptr_nil B
  obtain ⟨_, k1, _, _⟩ := h.cells
  obtain ⟨p, cap, rfl⟩ := h.slice
  generalize s.1.length = z at *
  clear h
  refine callsIn_of_wp Tryz.func16 rfl trivial ?_
  simp only [Tryz.ntmps16, List.size_toArray, List.length_cons, List.length_nil, Nat.reduceAdd, Nat.reduceSub, Array.replicate_succ, Array.replicate_zero, List.push_toArray, List.append_toArray, List.nil_append, List.cons_append]
  gi_wp2
  go_ret
  exact ⟨rfl, rfl⟩
set_option maxHeartbeats 1000000 in
theorem has_in (B : Nat) (s : Rp) (lv : Value) (rows : List Rw) (D : Blk) (n : Int) (w : World) (h : KRep B s lv rows D w) : CallsIn Fence.wide 0 Tryz.prog 37 #[ptr B, iv n] w fun e w' => e = .returned (.bool (hasN s.1.length n)) ∧ w' = w := by
  have L1 := len_in B s lv rows D w h
  generalize s.1.length = z at *
  unfold hasN
  clear h
  refine callsIn_of_wp Tryz.func37 rfl trivial ?_
  simp only [Tryz.ntmps37, List.size_toArray, List.length_cons, List.length_nil, Nat.reduceAdd, Nat.reduceSub, Array.replicate_succ, Array.replicate_zero, List.push_toArray, List.append_toArray, List.nil_append, List.cons_append]
  by_cases h1 : 1 ≤ n
  · gi_wp2_with fail
    refine ⟨trivial, rfl, L1.mono ?_⟩
    rintro e w1 ⟨rfl, hw⟩
    subst hw
    gi_wp2
    go_ret
    exact ⟨by rw [decide_eq_true h1]; rfl, rfl⟩
  · gi_wp2_with fail
    refine ⟨trivial, ?_⟩
    rename_i hKK
    apply hKK
    gi_wp2
    go_ret
    exact ⟨by rw [decide_eq_false (by omega)]; rfl, rfl⟩
set_option maxHeartbeats 2000000 in
theorem hasAll_in (B : Nat) (s : Rp) (lv : Value) (rows : List Rw) (D : Blk) (p : Option Addr) (n k0 : Nat) (ps : List Int) (hnp : ps.length = n) (h5 : n ≤ 5) (w : World) (h : KRep B s lv rows D w) (hp : SlV w (.slice p n k0) (ps.map iv)) :
    CallsIn Fence.wide 0 Tryz.prog 42 #[ptr B, .slice p n k0] w fun e w' => e = .returned (.bool (ps.all (hasN s.1.length))) ∧ w' = w := by
  have HNP : Hid (ps.length = n) := hnp
  clear hnp
  obtain ⟨A, hA⟩ : ∃ A, ps.all (hasN s.1.length) = A := ⟨_, rfl⟩
  have HA : Hid (ps.all (hasN s.1.length) = A) := hA
  rw [hA]
  clear hA
  refine callsIn_of_wp Tryz.func42 rfl trivial ?_
  simp only [Tryz.ntmps42, List.size_toArray, List.length_cons, List.length_nil, Nat.reduceAdd, Nat.reduceSub, Array.replicate_succ, Array.replicate_zero, List.push_toArray, List.append_toArray, List.nil_append, List.cons_append]
  gi_wp2
  gi_loopw [9] (fun s6 wr => ∃ k : Nat, k ≤ n ∧ s6 = .int .i64 (k : Int) ∧ Hid (∀ x ∈ ps.take k, hasN s.1.length x = true) ∧ wr = w) (fun s6 _ => n - (intOf s6).toNat)
  case atStart => exact ⟨0, Nat.zero_le _, rfl, fun y hy => by simp at hy, rfl⟩
  case round =>
    obtain ⟨k, hk, rfl, HT, hwr⟩ := hrel
    subst hwr
    by_cases hlt : k < n
    · have hlt' : (k : Int) < (n : Int) := by omega
      obtain ⟨pa, hpa⟩ : ∃ pa, ps[k]? = some pa := ⟨_, List.getElem?_eq_getElem (by rw [HNP.out]; exact hlt)⟩
      obtain ⟨bp, op, rfl, hcp⟩ := hp.get1 (i := k) (x := iv pa) (by rw [List.getElem?_map, hpa]; rfl)
      have H1 := has_in B s lv rows D pa _ h
      obtain ⟨u, HU⟩ : ∃ u, Hid (hasN s.1.length pa = u) := ⟨_, rfl⟩
      rw [HU.out] at H1
      gi_wp2_with fail
      refine ⟨trivial, rfl, H1.mono ?_⟩
      rintro e w3 ⟨rfl, hw3⟩
      subst hw3
      cases u with
      | false =>
        obtain rfl : A = false := by
          rw [← HA.out]
          exact List.all_eq_false.2 ⟨pa, List.mem_of_getElem? hpa, by rw [HU.out]; exact Bool.false_ne_true⟩
        gi_wp2
        go_ret
        exact ⟨rfl, rfl⟩
      | true =>
        have HT2 : Hid (∀ x ∈ ps.take (k + 1), hasN s.1.length x = true) := by
          intro y hy
          rw [List.take_add_one, hpa] at hy
          rcases List.mem_append.1 hy with h | h
          · exact HT.out y h
          · rw [List.mem_singleton.1 h]; exact HU.out
        gi_wp2
        refine ⟨⟨k + 1, hlt, by go_num, HT2, trivial⟩, by simp [intOf]; omega⟩
    · obtain rfl : k = n := by omega
      have hlt' : ¬ (k : Int) < (k : Int) := by omega
      obtain rfl : A = true := by
        rw [← HA.out]
        exact List.all_eq_true.2 (fun y hy => HT.out y (by rw [List.take_of_length_le (by rw [HNP.out]; exact Nat.le_refl _)]; exact hy))
      gi_wp2
      go_ret
      exact ⟨rfl, rfl⟩

end Go.Proofs.YtakbeololabmhaaGreatDoor

end
section
-- KIns
namespace Go.Proofs.YtakbeololabmhaaGreatDoor
open Go.RowKit Go.Shelf Go.SeqLib Go.DiffLib Go.TreeLib Go.RepoLib Go.BigFrame Go.Lib
attribute [local go_sem] Oper.semAt_some

/-- Cells of a row that are set. -/
theorem setCells_row {b : Nat} {e : TypeId} {fz : Nat × Nat} : ∀ (vs : List Value) (o : Nat) (w : World) (L : List Value), w.heap[b]? = some (.cells L.toArray e fz) → o + vs.length ≤ L.length →
    (w.setCells b o vs).heap[b]? = some (.cells (L.take o ++ vs ++ L.drop (o + vs.length)).toArray e fz)
  | [], o, w, L, h, _ => by
    show w.heap[b]? = _
    rw [h, List.append_nil, List.length_nil, Nat.add_zero, List.take_append_drop]
  | v :: r, o, w, L, h, hl => by
    rw [List.length_cons] at hl
    show ((w.setCell ⟨b, o, none⟩ v).setCells b (o + 1) r).heap[b]? = _
    have h1 : (w.setCell ⟨b, o, none⟩ v).heap[b]? = some (.cells (L.set o v).toArray e fz) := by
      simp [World.setCell, Array.getElem?_modify, h]
    have h2 := setCells_row r (o + 1) _ _ h1 (by rw [List.length_set]; omega)
    rw [h2]
    congr 3
    have ht : (L.set o v).take (o + 1) = L.take o ++ [v] := by
      rw [List.take_add_one, List.getElem?_set_self (by omega), List.take_set_of_le (Nat.le_refl _)]
      rfl
    rw [ht, List.drop_set_of_lt (by omega), List.length_cons, show o + (r.length + 1) = o + 1 + r.length by omega]
    simp
theorem setCells_chg (b : Nat) : ∀ (vs : List Value) (o : Nat) (w : World), Chg (fun k => k = b) w (w.setCells b o vs)
  | [], _, w => Chg.refl _ w
  | v :: r, o, w => by
    show Chg _ w ((w.setCell ⟨b, o, none⟩ v).setCells b (o + 1) r)
    exact ((Chg.refl (fun k => k = b) w).setCell (p := ⟨b, o, none⟩) (.inl rfl) _).trans (setCells_chg b r (o + 1) _) (fun k hk => .inl hk)
theorem row_at {w : World} {b : Nat} {L : List Value} {e : TypeId} (h : w.heap[b]? = some (.cells L.toArray e (0, 0))) (o j : Nat) : w.cell? ⟨b, o + j, none⟩ = (L.drop o)[j]? := by
  rw [List.getElem?_drop]
  simp [World.cell?, h]
theorem row_free {w : World} {b : Nat} {L : List Value} {e : TypeId} (h : w.heap[b]? = some (.cells L.toArray e (0, 0))) (o : Nat) : w.frozen? ⟨b, o, none⟩ = false := by
  simp [World.frozen?, h]

theorem infoI1 : (Tryz.prog.info? 3).map (·.size) = some 1 := by kernel_rfl
/-- copy(d, s), cut anyhow. -/
theorem run_copy_row (w : World) (dT sT ty : TypeId) (hu : Tryz.prog.underlying dT = some (.slice 3)) (b o dLen dCap sb so sLen sCap : Nat) (cs D S : List Value) (hn : cs.length = Nat.min sLen dLen)
    (hd : w.heap[b]? = some (.cells D.toArray 3 (0, 0))) (hs : w.heap[sb]? = some (.cells S.toArray 3 (0, 0))) (hcs : (S.drop so).take cs.length = cs) (hfit : o + cs.length ≤ D.length) (h1 : ∀ v ∈ cs, v.oneCell' = true) :
    (Builtin.copy_ #[dT, sT] ty #[.slice (some ⟨b, o, none⟩) dLen dCap, .slice (some ⟨sb, so, none⟩) sLen sCap]).run Tryz.prog w = .ok (goInt cs.length) (w.setCells b o cs) :=
  run_copy_cells w dT sT ty 3 b o dLen dCap ⟨sb, so, none⟩ sLen sCap cs hu infoI1 hn
    (fun j v hj => by
      rw [Addr.add_lit, row_at hs]
      rw [← hcs, List.getElem?_take] at hj
      split at hj
      · exact hj
      · cases hj)
    (fun j hj => by
      rw [row_at hd, List.getElem?_drop, List.getElem?_eq_getElem (by omega)]
      rfl)
    (fun j _ => row_free hd _) h1

theorem wpListIn_append_run {F : Fence} {n : Nat} (w : World) {ops : Array Oper} {rest : List Oper} {o : Oper} {a : Act} {Q : Exit → Act → World → Prop} (hg : o.guard = none) (d s : Operand) (t t' : TypeId)
    (hop : o.op = .call { callee := .builtin .append, args := #[d, s], argTypes := #[t, t'] }) (v u : Value) (hd : a.eval d = v) (hs : a.eval s = u) {v' : Value} {w' : World}
    (hr : (Builtin.append_ #[t, t'] o.type #[v, u]).run Tryz.prog w = .ok v' w') (h : wpListIn F n Tryz.prog ops Q rest (a.put o.dst v') w') : wpListIn F n Tryz.prog ops Q (o :: rest) a w := by
  refine wpListIn_plain hg fun K hK' => ?_
  unfold Oper.wpIn
  refine ⟨?_, ?_⟩
  · simp [Oper.about, hop, resolve, Target.leads, Sem.run_pure]
  · rw [Oper.semAt_plain F _ _ (by rw [hop]; intro c hc'; cases hc')]
    simp [execOp, hop, resolve, invoke, builtin, hd, hs, hr, Result.andThen]
    exact hK' _ _ h
/-- Of two types of rows of numbers. -/
theorem append_like (ty : TypeId) (v x : Value) (w : World) : (Builtin.append_ #[117, 40] ty #[v, x]).run Tryz.prog w = (Builtin.append_ #[40, 40] ty #[v, x]).run Tryz.prog w := by
  simp [Builtin.append_, run_underlying Tryz.underlying117, run_underlying Tryz.underlying40]

section
variable {w : World} {base b c : Nat} {l : List Int} {x : Int} {i vb : Nat} {cur : List Value}
set_option maxRecDepth 100000 in
set_option maxHeartbeats 4000000 in
/-- At the end. -/
theorem insert_end (base : Nat) (v : Value) (l : List Int) (x : Int) (vb : Nat) (w : World) (ho : OwnI w base v l) (hb : base ≤ w.heap.size) (hl : l.length ≤ 1000) (hx : w.heap[vb]? = some (.cells #[iv x] 3 (0, 0))) :
    CallsIn Fence.wide 0 Tryz.prog 106 #[v, iv (l.length : Nat), .slice (some ⟨vb, 0, none⟩) 1 1] w fun e w' => ∃ v', e = .returned v' ∧ OwnI w' base v' (l ++ [x]) ∧ Chg (fun k => v.ownBlock = some k) w w' ∧ ∀ k, v'.ownBlock = some k → v.ownBlock = some k ∨ w.heap.size ≤ k := by
  obtain ⟨i0, hi, hz0, hz1, hz2⟩ := info_parts infoInt
  obtain ⟨v', w', hr, ho', hg, _, hbl⟩ := run_append_own_at (P := Tryz.prog) w base 40 117 3 i0 (.int .i64 0) 1 8 Tryz.underlying40 hi hz0 hz1 hz2 rfl (by decide) v l.length (l.map iv) ho ⟨vb, 0, none⟩ 1 1 [iv x] rfl
    (fun j u hj => by
      cases j with
      | zero =>
        cases hj
        rw [addr_add]
        simp [World.cell?, hx]
      | succ j => simp at hj)
    (by intro u hu; rw [List.mem_singleton] at hu; subst hu; rfl) (by unfold maxLen; omega) (by omega) hb
  rw [← append_like] at hr
  have hfin : OwnI w' base v' (l ++ [x]) := by
    show World.ownsRow _ _ _ _ _ _ _
    rw [List.length_append, List.map_append]
    exact ho'
  have hc : Chg (fun k => v.ownBlock = some k) w w' := Chg.grown (Chg.refl _ w) hg (fun k hk => .inl hk)
  obtain ⟨p, cap, rfl⟩ := row_slice ho
  have hcap : l.length ≤ cap ∧ cap ≤ 9223372036854775807 := by
    rcases ho.2 with ⟨h, h0⟩ | ⟨g, c, cur, h, _, _, h3, h4, _⟩
    · rw [Value.slice.injEq] at h; obtain ⟨_, _, rfl⟩ := h; exact ⟨by omega, by omega⟩
    · rw [Value.slice.injEq] at h; obtain ⟨_, _, rfl⟩ := h; exact ⟨h3, h4⟩
  obtain ⟨n, hn⟩ : ∃ n, l.length = n := ⟨_, rfl⟩
  rw [hn] at hr hl hcap ⊢
  have HF : Hid (OwnI w' base v' (l ++ [x]) ∧ (v'.ownBlock = Value.ownBlock (.slice p n cap) ∨ v'.ownBlock = some w.heap.size)) := ⟨hfin, by rw [← hn]; exact hbl⟩
  rw [hn] at hc
  clear hfin hbl hn ho ho' hg
  have hle : n ≤ n := Nat.le_refl n
  obtain ⟨h1, h2⟩ := hcap
  refine callsIn_of_wp Tryz.func106 rfl trivial ?_
  simp only [Tryz.ntmps106, List.size_toArray, List.length_cons, List.length_nil, Nat.reduceAdd, Nat.reduceSub, Array.replicate_succ, Array.replicate_zero, List.push_toArray, List.append_toArray, List.nil_append, List.cons_append]
  have hend : ∀ k, v'.ownBlock = some k → Value.ownBlock (.slice p n cap) = some k ∨ w.heap.size ≤ k := fun k hk => by
    rcases HF.out.2 with e | e
    · exact .inl (e ▸ hk)
    · rw [e] at hk; cases hk; exact .inr (Nat.le_refl _)
  have HE : Hid _ := hend
  clear hend
  cases p with
  | none =>
    gi_wp2_with (gi_at_builtin; refine wpListIn_append_run _ rfl _ _ 117 40 rfl _ _ rfl rfl hr ?_)
    all_goals (go_ret; exact ⟨v', rfl, HF.out.1, hc, HE.out⟩)
  | some ad =>
    obtain ⟨g, off, sp⟩ := ad
    gi_wp2_with (gi_at_builtin; refine wpListIn_append_run _ rfl _ _ 117 40 rfl _ _ rfl rfl hr ?_)
    all_goals (go_ret; exact ⟨v', rfl, HF.out.1, hc, HE.out⟩)

/-- A row of numbers, taken apart. -/
theorem own_row {w : World} {base g n cap : Nat} {l : List Int} (h : w.ownsRow base 3 1 (.slice (some ⟨g, 0, none⟩) n cap) n (l.map iv)) :
    ∃ L : List Value, w.heap[g]? = some (.cells L.toArray 3 (0, 0)) ∧ L.length = cap ∧ L.take n = l.map iv ∧ n ≤ cap ∧ cap ≤ maxLen ∧ base ≤ g := by
  rcases h.2 with ⟨e, _⟩ | ⟨g', c', cur, e, hb, hg, hn, hm, hs, ht⟩
  · cases e
  · cases e
    refine ⟨cur.toList, by simpa using hg, by simpa using hs, by simpa using ht, hn, hm, hb⟩
theorem own_ofRow {w : World} {base g n cap : Nat} {l : List Int} {L : List Value} (hg : w.heap[g]? = some (.cells L.toArray 3 (0, 0))) (hL : L.length = cap) (ht : L.take n = l.map iv) (hn : n = l.length) (hm : cap ≤ maxLen) (hb : base ≤ g) :
    w.ownsRow base 3 1 (.slice (some ⟨g, 0, none⟩) n cap) n (l.map iv) := by
  have hnc : n ≤ cap := by
    have := congrArg List.length ht
    rw [List.length_take, List.length_map] at this
    omega
  exact ⟨by rw [List.length_map, hn, Nat.mul_one], .inr ⟨g, cap, L.toArray, rfl, hb, hg, hnc, hm, by simpa using hL, by simpa using ht⟩⟩
theorem one_iv (zs : List Int) : ∀ v ∈ zs.map iv, v.oneCell' = true := by
  intro v hv
  obtain ⟨y, _, rfl⟩ := List.mem_map.1 hv
  rfl

set_option maxRecDepth 100000 in
set_option maxHeartbeats 4000000 in
/-- There is room. -/
theorem insert_shift (base g cap : Nat) (l : List Int) (i : Nat) (x : Int) (vb : Nat) (w : World) (ho : OwnI w base (.slice (some ⟨g, 0, none⟩) l.length cap) l) (hi : i < l.length) (hroom : l.length + 1 ≤ cap) (hl : l.length ≤ 1000) (hx : w.heap[vb]? = some (.cells #[iv x] 3 (0, 0))) (hvb : vb ≠ g) :
    CallsIn Fence.wide 0 Tryz.prog 106 #[.slice (some ⟨g, 0, none⟩) l.length cap, iv (i : Nat), .slice (some ⟨vb, 0, none⟩) 1 1] w fun e w' => ∃ v', e = .returned v' ∧ OwnI w' base v' (l.take i ++ [x] ++ l.drop i) ∧ Chg (fun k => k = g) w w' ∧ ∀ k, v'.ownBlock = some k → k = g := by
  have hmix : Tryz.prog.follows .mixedOrders = true := by kernel_rfl
  obtain ⟨n, hn⟩ : ∃ n, l.length = n := ⟨_, rfl⟩
  have ho2 : w.ownsRow base 3 1 (.slice (some ⟨g, 0, none⟩) n cap) n (l.map iv) := by rw [← hn]; exact ho
  obtain ⟨L, hL, hLl, hLt, hnc, hmax, hbg⟩ := own_row ho2
  have hmax63 : cap ≤ 9223372036854775807 := hmax
  have hlen : (l.take i ++ [x] ++ l.drop i).length = n + 1 := by simp; omega
  have hLD : L.drop i = (l.drop i).map iv ++ L.drop n := by
    have h1 : L = l.map iv ++ L.drop n := by rw [← hLt, List.take_append_drop]
    conv => lhs; rw [h1]
    rw [List.drop_append_of_le_length (by rw [List.length_map]; omega), List.map_drop]
  have hLT : L.take i = (l.take i).map iv := by
    rw [List.map_take, ← hLt, List.take_take, Nat.min_eq_left (by omega)]
  obtain ⟨Bv, hBv⟩ : ∃ Bv, (l.drop i).map iv = Bv := ⟨_, rfl⟩
  have hBl : Bv.length = n - i := by rw [← hBv, List.length_map, List.length_drop, hn]
  rw [hBv] at hLD
  -- the first copy
  obtain ⟨W1, hW1⟩ : ∃ W1, w.drew.setCells g (i + 1) Bv = W1 := ⟨_, rfl⟩
  have hL1 : W1.heap[g]? = some (.cells (L.take (i + 1) ++ Bv ++ L.drop (i + 1 + Bv.length)).toArray 3 (0, 0)) := by
    rw [← hW1]
    exact setCells_row Bv (i + 1) w.drew L hL (by omega)
  have c1 : Chg (fun k => k = g) w W1 := by
    rw [← hW1]
    exact ((Chg.refl (fun k => k = g) w).drew).trans (setCells_chg g Bv (i + 1) w.drew) (fun k hk => .inl hk)
  have hr1 : ∀ ty dc sc, (Builtin.copy_ #[117, 117] ty #[.slice (some ⟨g, i + 1, none⟩) (n + 1 - (i + 1)) dc, .slice (some ⟨g, i, none⟩) (n + 1 - i) sc]).run Tryz.prog w.drew = .ok (goInt Bv.length) W1 := fun ty dc sc => by
    rw [← hW1]
    exact run_copy_row w.drew _ _ ty Tryz.underlying117 g (i + 1) _ dc g i _ sc Bv L L (by rw [hBl]; simp only [Nat.min_def]; split <;> omega) hL hL (by rw [hLD, List.take_left']; rfl) (by omega) (by rw [← hBv]; exact one_iv _)
  have hx1 := c1.same hx hvb
  -- the second
  obtain ⟨W2, hW2⟩ : ∃ W2, W1.setCells g i [iv x] = W2 := ⟨_, rfl⟩
  have hL2 := setCells_row [iv x] i W1 _ hL1 (by simp; omega)
  rw [hW2] at hL2
  have c2 : Chg (fun k => k = g) w W2 := by
    rw [← hW2]
    exact c1.trans (setCells_chg g _ i W1) (fun k hk => .inl hk)
  have hr2 : ∀ ty dc, (Builtin.copy_ #[117, 40] ty #[.slice (some ⟨g, i, none⟩) (n + 1 - i) dc, .slice (some ⟨vb, 0, none⟩) 1 1]).run Tryz.prog W1 = .ok (goInt 1) W2 := fun ty dc => by
    rw [← hW2]
    exact run_copy_row W1 _ _ ty Tryz.underlying117 g i _ dc vb 0 _ 1 [iv x] _ [iv x] (by simp only [List.length_cons, List.length_nil, Nat.min_def]; split <;> omega) hL1 hx1 rfl (by simp; omega) (by intro u hu; rw [List.mem_singleton] at hu; subst hu; rfl)
  have hfin : OwnI W2 base (.slice (some ⟨g, 0, none⟩) (n + 1) cap) (l.take i ++ [x] ++ l.drop i) := by
    show World.ownsRow _ _ _ _ _ _ _
    rw [hlen]
    refine own_ofRow hL2 ?_ ?_ hlen.symm hmax hbg
    · simp; omega
    · have e1 : (L.take (i + 1) ++ Bv ++ L.drop (i + 1 + Bv.length)).take i = L.take i := by
        rw [List.append_assoc, List.take_append_of_le_length (by simp; omega), List.take_take, Nat.min_eq_left (by omega)]
      have e2 : (L.take (i + 1) ++ Bv ++ L.drop (i + 1 + Bv.length)).drop (i + 1) = Bv ++ L.drop (i + 1 + Bv.length) := by
        rw [List.append_assoc, List.drop_left' (by simp; omega)]
      rw [e1, List.length_cons, List.length_nil, e2, hLT, ← List.append_assoc]
      rw [List.take_left' (by simp [hBl]; omega), List.map_append, List.map_append, hBv]
      rfl
  -- the sum of facts for the walk
  have hov : ∀ lb cb, (callFunc 125 #[.slice (some ⟨vb, 0, none⟩) 1 1, .slice (some ⟨g, i + 1, none⟩) lb cb]).run Tryz.prog w = .ok (.value (.bool false)) w := fun lb cb => by
    rw [run_callFunc_extern Tryz.func125 (by kernel_rfl) (by kernel_rfl) (by kernel_rfl) (e := Extern.SlicesOverlaps.overlaps #[40, 40] #[4]) (by kernel_rfl),
      Lib.run_overlaps_apart w 40 4 3 Tryz.underlying40 1 Tryz.sizeOf3 ⟨vb, 0, none⟩ ⟨g, i + 1, none⟩ 1 1 lb cb hvb 3 3 1 L.length (by simp [World.shape?, hx]) (by simp [World.shape?, hL]) (by omega) (by simp [World.frozen?, hx]) (by simp [World.frozen?, hx])]
    rfl
  have hb1 : ¬ (cap = i) := by omega
  have hb2 : ¬ (cap = i + 1) := by omega
  have hb3 : (i : Int) ≤ (n : Int) := by omega
  have hb4 : ¬ ((i : Int) = (n : Int)) := by omega
  have hb5 : ¬ ((cap : Int) < (n : Int) + 1) := by omega
  have hb6 : (n : Int) + 1 ≤ (cap : Int) := by omega
  have hb7 : (i : Int) ≤ (n : Int) + 1 := by omega
  have hb8 : (i : Int) + 1 ≤ (n : Int) + 1 := by omega
  rw [show n + 1 - (i + 1) = n - i by omega] at hr1
  obtain ⟨l9, h9⟩ : ∃ l9, l.take i ++ [x] ++ l.drop i = l9 := ⟨_, rfl⟩
  rw [h9] at hfin ⊢
  clear h9 hlen
  have HF : Hid _ := hfin
  have HR2 : Hid _ := hr2
  clear hfin hr2 hL1 hL2 hL hLt hLD hLT ho ho2 hx hx1
  rw [hn] at hl hi hroom ⊢
  refine callsIn_of_wp Tryz.func106 rfl trivial ?_
  simp only [Tryz.ntmps106, List.size_toArray, List.length_cons, List.length_nil, Nat.reduceAdd, Nat.reduceSub, Array.replicate_succ, Array.replicate_zero, List.push_toArray, List.append_toArray, List.nil_append, List.cons_append]
  gi_wp2_with (simp only [hov])
  refine ⟨trivial, ?_⟩
  rename_i hKK
  apply hKK
  gi_wp2_with fail
  refine region_loudG (fun j => j == 8) (fun w' => ∃ d : AfterB (fun k => k = g) w, w' = d.val) (fun d u W => (d 8 = true → W = W1) ∧ (d 8 = false → W = w.drew) ∧ u 8 = goInt Bv.length ∧ Chg (fun k => k = g) w W)
    (fun _ => goInt Bv.length) hmix (by kernel_rfl) (by kernel_rfl) (fun d u W hI => ⟨⟨W, hI.2.2.2⟩, rfl⟩) ⟨fun h => (by cases h), fun _ => rfl, rfl, (Chg.refl _ w).drew⟩ (fun u hu => ?_)
  have hany : Nonempty (AfterB (fun k => k = g) w) := AfterB.any _ _
  obtain ⟨_, _, _, _, e8, _⟩ := hu
  simp only [hushE, Nat.reduceAdd, Nat.reduceBEq, if_true, if_false, Bool.false_eq_true]
  simp only [e8]
  repeat (gi_big_quiet_step (fail))
  refine wpQuietIn_nil ⟨?_, ?_, ?_⟩
  · intro j oo ho hm
    rw [beq_iff_eq] at hm
    subst hm
    cases ho
    rfl
  · intro j oo d W hjo hm hd hwt hI
    rw [beq_iff_eq] at hm
    subst hm
    cases hjo
    have hW := hI.2.1 hd
    subst hW
    refine LeadsV.value (v := goInt Bv.length) (w' := W1) ?_ ⟨fun _ => rfl, fun h => by simp at h, by simp, c1⟩
    simp [go_sem, hr1]
  · intro d W hall hI
    have h8 := hall 8 rfl (by simp)
    have hW := hI.1 h8
    subst hW
    have hr2 := HR2.out
    gi_wp2_with (gi_at_builtin; refine wpListIn_copy_run _ rfl _ _ 117 40 rfl _ _ rfl rfl (hr2 _ _) ?_)
    go_ret
    exact ⟨.slice (some ⟨g, 0, none⟩) (n + 1) cap, rfl, HF.out, c2, fun k hk => by cases hk; rfl⟩

set_option maxRecDepth 100000 in
set_option maxHeartbeats 4000000 in
/-- There is none. -/
theorem insert_grow (base g cap : Nat) (l : List Int) (i : Nat) (x : Int) (vb : Nat) (w : World) (ho : OwnI w base (.slice (some ⟨g, 0, none⟩) l.length cap) l) (hb : base ≤ w.heap.size) (hi : i < l.length) (hroom : cap < l.length + 1) (hl : l.length ≤ 1000) (hx : w.heap[vb]? = some (.cells #[iv x] 3 (0, 0))) :
    CallsIn Fence.wide 0 Tryz.prog 106 #[.slice (some ⟨g, 0, none⟩) l.length cap, iv (i : Nat), .slice (some ⟨vb, 0, none⟩) 1 1] w fun e w' => ∃ v', e = .returned v' ∧ OwnI w' base v' (l.take i ++ [x] ++ l.drop i) ∧ Chg No w w' ∧ ∀ k, v'.ownBlock = some k → w.heap.size ≤ k := by
  have hmix : Tryz.prog.follows .mixedOrders = true := by kernel_rfl
  obtain ⟨i0, hi0, hz0, hz1, hz2⟩ := info_parts infoInt
  obtain ⟨n, hn⟩ : ∃ n, l.length = n := ⟨_, rfl⟩
  have ho2 : w.ownsRow base 3 1 (.slice (some ⟨g, 0, none⟩) n cap) n (l.map iv) := by rw [← hn]; exact ho
  obtain ⟨L, hL, hLl, hLt, hnc, hmax, hbg⟩ := own_row ho2
  obtain rfl : cap = n := by omega
  have hlen : (l.take i ++ [x] ++ l.drop i).length = cap + 1 := by simp; omega
  have hLD : L.drop i = (l.drop i).map iv := by
    rw [List.map_drop, ← hLt, List.take_of_length_le (by omega)]
  have hLT : L.take i = (l.take i).map iv := by
    rw [List.map_take, ← hLt, List.take_take, Nat.min_eq_left (by omega)]
  obtain ⟨Bv, hBv⟩ : ∃ Bv, (l.drop i).map iv = Bv := ⟨_, rfl⟩
  have hBl : Bv.length = cap - i := by rw [← hBv, List.length_map, List.length_drop, hn]
  rw [hBv] at hLD
  obtain ⟨Av, hAv⟩ : ∃ Av, (l.take i).map iv = Av := ⟨_, rfl⟩
  have hAl : Av.length = i := by rw [← hAv, List.length_map, List.length_take]; omega
  rw [hAv] at hLT
  -- the new row
  obtain ⟨G, hG⟩ : ∃ G, grownCap w (cap + 1) cap 3 = G := ⟨_, rfl⟩
  have hGn : cap + 1 ≤ G := by rw [← hG]; exact grownCap_ge w _ _ _
  have hG63 : G ≤ maxLen := by rw [← hG]; exact grownCap_le_maxLen w (cap + 1) cap 3 (by unfold maxLen; omega)
  have hG64 : G ≤ 9223372036854775807 := hG63
  have hold : (Builtin.firstCells i0.size i (.slice (some ⟨g, 0, none⟩) i cap)).run Tryz.prog w.drew = .ok Av.toArray w.drew := by
    rw [hz1]
    exact run_firstCells_some w.drew 1 i ⟨g, 0, none⟩ i cap Av (by omega) (fun j v hj => by
      have hj2 := (List.getElem?_eq_some_iff.1 hj).1
      rw [Addr.add_lit]
      refine (row_at (w := w.drew) hL 0 j).trans ?_
      rw [List.drop_zero]
      rw [← hLT, List.getElem?_take, if_pos (by omega)] at hj
      exact hj)
  obtain ⟨R, hR⟩ : ∃ R : List Value, (Av.toArray ++ Builtin.zeroCells (Value.int .i64 0).cells (cap + 1 - i) ++ Builtin.zeroCells (Value.int .i64 0).cells (G - (cap + 1))) = R.toArray := ⟨_, (Array.toArray_toList).symm⟩
  have hRl : R.length = G := by
    have := congrArg Array.size hR
    simp [Builtin.zeroCells, Value.cells] at this
    omega
  have hRt : R.take i = Av := by
    have := congrArg Array.toList hR
    simp only [Array.toList_append] at this
    rw [← this, List.append_assoc, List.take_left' hAl]
  obtain ⟨W1, hW1⟩ : ∃ W1, w.drew.alloc (.cells R.toArray 3) = W1 := ⟨_, rfl⟩
  have hL1 : W1.heap[w.heap.size]? = some (.cells R.toArray 3 (0, 0)) := by rw [← hW1]; exact World.alloc_heap_new w.drew _
  have c1 : Chg No w W1 := by rw [← hW1]; exact ((Chg.refl _ w).drew).alloc _
  have hr0 : ∀ ty, (Builtin.append_ #[117, 3] ty #[.slice (some ⟨g, 0, none⟩) i cap, .int .i64 ((cap : Int) + 1 - (i : Int))]).run Tryz.prog w = .ok (.slice (some ⟨w.heap.size, 0, none⟩) (cap + 1) G) W1 := fun ty => by
    have h := Lib.run_append_grow_zeros w 117 3 ty 3 i0 _ .i64 .i64 Tryz.underlying117 Tryz.underlying3 hi0 hz0 (some ⟨g, 0, none⟩) i cap Av hold (cap + 1 - i) (by omega) (by omega) (by omega) (by omega) (by rw [hz2]; omega) (by rw [hz2, show i + (cap + 1 - i) = cap + 1 by omega]; exact growslice_fits (by omega) (by omega))
    rw [show i + (cap + 1 - i) = cap + 1 by omega, hG, hR, hW1, show (((cap + 1 - i : Nat) : Int)) = (cap : Int) + 1 - (i : Int) by omega] at h
    exact h
  have hgs : g < w.heap.size := (Array.getElem?_eq_some_iff.1 hL).1
  have hvs : vb < w.heap.size := (Array.getElem?_eq_some_iff.1 hx).1
  have hx1 := c1.same hx (fun h => h)
  have hg1 := c1.same hL (fun h => h)
  -- the number
  obtain ⟨W2, hW2⟩ : ∃ W2, W1.setCells w.heap.size i [iv x] = W2 := ⟨_, rfl⟩
  have hL2 := setCells_row [iv x] i W1 _ hL1 (by simp; omega)
  rw [hW2] at hL2
  have k2 : Chg (fun k => k = w.heap.size) W1 W2 := by rw [← hW2]; exact setCells_chg _ _ i W1
  have hr1 : ∀ ty dc, (Builtin.copy_ #[117, 40] ty #[.slice (some ⟨w.heap.size, i, none⟩) (cap + 1 - i) dc, .slice (some ⟨vb, 0, none⟩) 1 1]).run Tryz.prog W1 = .ok (goInt 1) W2 := fun ty dc => by
    rw [← hW2]
    exact run_copy_row W1 _ _ ty Tryz.underlying117 w.heap.size i _ dc vb 0 _ 1 [iv x] _ [iv x] (by simp only [List.length_cons, List.length_nil, Nat.min_def]; split <;> omega) hL1 hx1 rfl (by simp; omega) (by intro u hu; rw [List.mem_singleton] at hu; subst hu; rfl)
  have hg2 := k2.same hg1 (by omega)
  -- the rest
  obtain ⟨W3, hW3⟩ : ∃ W3, W2.drew.setCells w.heap.size (i + 1) Bv = W3 := ⟨_, rfl⟩
  have hL3 := setCells_row Bv (i + 1) W2.drew _ hL2 (by simp; omega)
  rw [hW3] at hL3
  have k3 : Chg (fun k => k = w.heap.size) W2 W3 := by
    rw [← hW3]
    exact ((Chg.refl (fun k => k = w.heap.size) W2).drew).trans (setCells_chg _ Bv (i + 1) W2.drew) (fun k hk => .inl hk)
  have hr2 : ∀ ty dc sc, (Builtin.copy_ #[117, 117] ty #[.slice (some ⟨w.heap.size, i + 1, none⟩) (cap - i) dc, .slice (some ⟨g, i, none⟩) (cap - i) sc]).run Tryz.prog W2.drew = .ok (goInt Bv.length) W3 := fun ty dc sc => by
    rw [← hW3]
    exact run_copy_row W2.drew _ _ ty Tryz.underlying117 w.heap.size (i + 1) _ dc g i _ sc Bv _ L (by rw [hBl]; simp only [Nat.min_def]; split <;> omega) hL2 hg2 (by rw [hLD, List.take_length]) (by simp; omega) (by rw [← hBv]; exact one_iv _)
  have cfin : Chg No w W3 := c1.trans (k2.trans k3 (fun k hk => .inl hk)) (fun k hk => .inr (by omega))
  have hfin : OwnI W3 base (.slice (some ⟨w.heap.size, 0, none⟩) (cap + 1) G) (l.take i ++ [x] ++ l.drop i) := by
    show World.ownsRow _ _ _ _ _ _ _
    rw [hlen]
    refine own_ofRow hL3 ?_ ?_ hlen.symm hG63 hb
    · simp; omega
    · have e1 : (R.take i ++ [iv x] ++ R.drop (i + [iv x].length)).take (i + 1) = Av ++ [iv x] := by
        rw [hRt, List.take_left' (by simp [hAl])]
      rw [e1, List.take_left' (by simp [hBl, hAl]; omega), List.map_append, List.map_append, hBv, hAv]
      rfl
  have hb1 : ¬ (cap = i) := by omega
  have hb2 : ¬ (G = i) := by omega
  have hb9 : ¬ (G = i + 1) := by omega
  have hb3 : (i : Int) ≤ (cap : Int) := by omega
  have hb4 : ¬ ((i : Int) = (cap : Int)) := by omega
  have hb5 : ((cap : Int) < (cap : Int) + 1) := by omega
  have hb7 : (i : Int) ≤ (cap : Int) + 1 := by omega
  have hb8 : (i : Int) + 1 ≤ (cap : Int) + 1 := by omega
  obtain ⟨l9, h9⟩ : ∃ l9, l.take i ++ [x] ++ l.drop i = l9 := ⟨_, rfl⟩
  rw [h9] at hfin ⊢
  clear h9 hlen
  have HF : Hid _ := hfin
  have HR2 : Hid _ := hr2
  have HC : Hid _ := cfin
  have HK : Hid (Chg (fun k => k = w.heap.size) W2 W3) := k3
  clear hfin hr2 hL1 hL2 hL3 hL hLt hLD hLT ho ho2 hx hx1 cfin k2 k3 hg1 hg2 hold c1 hW1 hW2 hW3 hR hRl hRt hG
  rw [hn] at hl hi hroom ⊢
  refine callsIn_of_wp Tryz.func106 rfl trivial ?_
  simp only [Tryz.ntmps106, List.size_toArray, List.length_cons, List.length_nil, Nat.reduceAdd, Nat.reduceSub, Array.replicate_succ, Array.replicate_zero, List.push_toArray, List.append_toArray, List.nil_append, List.cons_append]
  gi_wp2_with (first
    | (gi_at_builtin; refine wpListIn_append_run _ rfl _ _ 117 3 rfl _ _ rfl rfl (hr0 _) ?_)
    | (gi_at_builtin; refine wpListIn_copy_run _ rfl _ _ 117 40 rfl _ _ rfl rfl (hr1 _ _) ?_))
  refine region_loudG (fun j => j == 8) (fun w' => ∃ d : AfterB (fun k => k = w.heap.size) W2, w' = d.val) (fun d u W => (d 8 = true → W = W3) ∧ (d 8 = false → W = W2.drew) ∧ u 8 = goInt Bv.length ∧ Chg (fun k => k = w.heap.size) W2 W)
    (fun _ => goInt Bv.length) hmix (by kernel_rfl) (by kernel_rfl) (fun d u W hI => ⟨⟨W, hI.2.2.2⟩, rfl⟩) ⟨fun h => (by cases h), fun _ => rfl, rfl, (Chg.refl _ W2).drew⟩ (fun u hu => ?_)
  have hany : Nonempty (AfterB (fun k => k = w.heap.size) W2) := AfterB.any _ _
  obtain ⟨_, _, _, _, e8, _⟩ := hu
  simp only [hushE, Nat.reduceAdd, Nat.reduceBEq, if_true, if_false, Bool.false_eq_true]
  simp only [e8]
  repeat (gi_big_quiet_step (fail))
  refine wpQuietIn_nil ⟨?_, ?_, ?_⟩
  · intro j oo ho hm
    rw [beq_iff_eq] at hm
    subst hm
    cases ho
    rfl
  · intro j oo d W hjo hm hd hwt hI
    rw [beq_iff_eq] at hm
    subst hm
    cases hjo
    have hW := hI.2.1 hd
    subst hW
    have hr2 := HR2.out
    refine LeadsV.value (v := goInt Bv.length) (w' := W3) ?_ ⟨fun _ => rfl, fun h => by simp at h, by simp, HK.out⟩
    simp [go_sem, hr2]
  · intro d W hall hI
    have h8 := hall 8 rfl (by simp)
    have hW := hI.1 h8
    subst hW
    gi_wp2
    go_ret
    exact ⟨.slice (some ⟨w.heap.size, 0, none⟩) (cap + 1) G, rfl, HF.out, HC.out, fun k hk => by cases hk; exact Nat.le_refl _⟩

/-- A number put in where it belongs. -/
theorem insert_in (base : Nat) (v : Value) (l : List Int) (i : Nat) (x : Int) (vb : Nat) (w : World) (ho : OwnI w base v l) (hb : base ≤ w.heap.size) (hi : i ≤ l.length) (hl : l.length ≤ 1000) (hx : w.heap[vb]? = some (.cells #[iv x] 3 (0, 0))) (hvb : ¬ v.ownBlock = some vb) :
    CallsIn Fence.wide 0 Tryz.prog 106 #[v, iv (i : Nat), .slice (some ⟨vb, 0, none⟩) 1 1] w fun e w' => ∃ v', e = .returned v' ∧ OwnI w' base v' (l.take i ++ [x] ++ l.drop i) ∧ Chg (fun k => v.ownBlock = some k) w w' ∧ ∀ k, v'.ownBlock = some k → v.ownBlock = some k ∨ w.heap.size ≤ k := by
  by_cases he : i = l.length
  · subst he
    rw [List.take_length, List.drop_length, List.append_nil]
    exact insert_end base v l x vb w ho hb hl hx
  · have hi' : i < l.length := by omega
    rcases ho.2 with ⟨_, h0⟩ | ⟨g, cap, cur, rfl, _⟩
    · omega
    · by_cases hr : l.length + 1 ≤ cap
      · refine (insert_shift base g cap l i x vb w ho hi' hr hl hx (fun e => hvb (by rw [e]; rfl))).mono ?_
        rintro e w' ⟨v', rfl, h1, h2, h3⟩
        exact ⟨v', rfl, h1, h2.mono (fun k hk => by subst hk; rfl), fun k hk => .inl (by rw [h3 k hk]; rfl)⟩
      · refine (insert_grow base g cap l i x vb w ho hb hi' (by omega) hl hx).mono ?_
        rintro e w' ⟨v', rfl, h1, h2, h3⟩
        exact ⟨v', rfl, h1, h2.mono (fun _ h => h.elim), fun k hk => .inr (h3 k hk)⟩
end
end Go.Proofs.YtakbeololabmhaaGreatDoor

end
