/-
  Of: KRep, KMay, KOwn, KFind, KAdd, KGet, KAll, KCopy, KSpec.
-/
import Derived.Test.YtconingjdgmodaaDoorLRepo
import Derived.Test.YtconingjdgmodaaDoorRApp
import Derived.Test.YtconingjdgmodaaDoorREqI
import Derived.Test.YtconingjdgmodaaDoorFMay
import Derived.Test.YtconingjdgmodaaDoorGFile
import Derived.Test.YtconingjdgmodaaDoorLoudP
import Derived.Test.YtconingjdgmodaaDoorRFind
import Derived.Laws.ResultCell
import Derived.Test.YtconingjdgmodaaDoorSeqG
import Derived.Test.YtconingjdgmodaaDoorRSameH
import Derived.Test.YtconingjdgmodaaDoorGLoud
section
-- KRep
namespace Go.Proofs.YtconingjdgmodaaDoor
open Go.RowKit Go.Shelf Go.SeqLib Go.DiffLib Go.TreeLib Go.RepoLib Go.BigFrame
attribute [local go_sem] Oper.semAt_some

theorem CmD.kept {D : Blk} {W W' : World} {v : Value} {c : Cm} (h : CmD D W v c) (hk : ∀ k, D k → W'.heap[k]? = W.heap[k]?) : CmD D W' v c := by
  obtain ⟨p, n, cap, q, m, l, rfl, h1, h2, h3, h4⟩ := h
  exact ⟨p, n, cap, q, m, l, rfl, h1.kept (fun j hj => hk j (h3 j hj)), SlE.kept h2 (fun j hj => hk j (h4 j hj)), h3, h4⟩
/-- The rows read as these commits, whose own lists lie in D. -/
structure RowsD (D : Blk) (W : World) (rows : List Rw) (L : List Cm) : Prop where
  len : rows.length = L.length
  at_ : ∀ (i : Nat) (r : Rw) (c : Cm), rows[i]? = some r → L[i]? = some c → CmD D W (.agg #[r.1, r.2.1, .string r.2.2]) c
/-- The landed repo at block B: its room and its commits. -/
structure KRep (B : Nat) (s : Rp) (lv : Value) (rows : List Rw) (D : Blk) (W : World) : Prop where
  box : W.heap[B]? = some (.cells #[iv (s.2 : Nat), lv] 55 (0, 0))
  own : OwnM W 0 lv rows
  red : RowsD D W rows s.1
  ne : ¬ lv.ownBlock = some B
  apart : ∀ k, D k → ¬ refS B lv k
  lt : ∀ k, D k → k < W.heap.size
  room : s.2 ≤ 120
  small : ∀ c ∈ s.1, SmallC c
theorem KRep.ltO {B : Nat} {s : Rp} {lv : Value} {rows : List Rw} {D : Blk} {W : World} (h : KRep B s lv rows D W) : ∀ k, refS B lv k → k < W.heap.size := by
  rintro k (rfl | hk)
  · exact (Array.getElem?_eq_some_iff.1 h.box).1
  · exact (World.ownsRow.lt h.own k hk).2
theorem KRep.kept {B : Nat} {s : Rp} {lv : Value} {rows : List Rw} {D : Blk} {W W' : World} (h : KRep B s lv rows D W) (hs : W.heap.size ≤ W'.heap.size) (hk : ∀ k, (refS B lv k ∨ D k) → W'.heap[k]? = W.heap[k]?) : KRep B s lv rows D W' :=
  ⟨(hk B (.inl (.inl rfl))).trans h.box, OwnM.kept h.own (fun k e => hk k (.inl (.inr e))), ⟨h.red.len, fun i r c hr hc => (h.red.at_ i r c hr hc).kept (fun k e => hk k (.inr e))⟩, h.ne, h.apart, fun k e => Nat.lt_of_lt_of_le (h.lt k e) hs, h.room, h.small⟩
/-- The same, by its blocks: S all, O those that it writes. -/
def LRep (B : Nat) (s : Rp) (S O : Blk) (W : World) : Prop := ∃ lv rows D, KRep B s lv rows D W ∧ S = (fun k => refS B lv k ∨ D k) ∧ O = refS B lv
theorem LRep.part (B : Nat) (s : Rp) (O : Blk) : Part (fun S W => LRep B s S O W) := {
  lt := by
    rintro S W ⟨lv, rows, D, h, rfl, _⟩ k (hk | hk)
    · exact h.ltO k hk
    · exact h.lt k hk
  kept := by
    rintro S W W' ⟨lv, rows, D, h, rfl, e⟩ hs hk
    exact ⟨lv, rows, D, h.kept hs hk, rfl, e⟩ }
theorem KRep.chg {B : Nat} {s : Rp} {lv : Value} {rows : List Rw} {D T : Blk} {W W' : World} (h : KRep B s lv rows D W) (c : Chg T W W') (hd : ∀ k, (refS B lv k ∨ D k) → ¬ T k) : KRep B s lv rows D W' :=
  h.kept c.size (fun k hk => c.block k (hk.elim (h.ltO k) (h.lt k)) (hd k hk))
theorem KRep.no {B : Nat} {s : Rp} {lv : Value} {rows : List Rw} {D : Blk} {W W' : World} (h : KRep B s lv rows D W) (c : Chg No W W') : KRep B s lv rows D W' := h.chg c (fun _ _ h => h)
theorem KRep.slice {B : Nat} {s : Rp} {lv : Value} {rows : List Rw} {D : Blk} {W : World} (h : KRep B s lv rows D W) : ∃ p cap, lv = .slice p s.1.length cap := by
  obtain ⟨p, c, e⟩ := row_slice h.own
  rw [h.red.len] at e
  exact ⟨p, c, e⟩
theorem KRep.cells {B : Nat} {s : Rp} {lv : Value} {rows : List Rw} {D : Blk} {W : World} (h : KRep B s lv rows D W) : W.cell? ⟨B, 0, none⟩ = some (iv (s.2 : Nat)) ∧ W.cell? ⟨B, 1, none⟩ = some lv ∧ W.frozen? ⟨B, 0, none⟩ = false ∧ W.frozen? ⟨B, 1, none⟩ = false := by
  have hb := h.box
  refine ⟨?_, ?_, ?_, ?_⟩ <;> simp [World.cell?, World.frozen?, hb]
theorem RowsD.chg {D T : Blk} {W W' : World} {rows : List Rw} {L : List Cm} (h : RowsD D W rows L) (c : Chg T W W') (hd : ∀ k, D k → ¬ T k) : RowsD D W' rows L :=
  ⟨h.len, fun i r x hr hx => (h.at_ i r x hr hx).chg c hd⟩
theorem RowsD.mono {D D' : Blk} {W : World} {rows : List Rw} {L : List Cm} (h : RowsD D W rows L) (hd : ∀ k, D k → D' k) : RowsD D' W rows L :=
  ⟨h.len, fun i r x hr hx => (h.at_ i r x hr hx).mono hd⟩
theorem RowsD.one {D : Blk} {W : World} {rows : List Rw} {L : List Cm} (h : RowsD D W rows L) : OneM rows := by
  intro r hr
  obtain ⟨i, hi, rfl⟩ := List.mem_iff_getElem.1 hr
  have := h.at_ i rows[i] (L[i]'(by rw [← h.len]; exact hi)) (List.getElem?_eq_getElem hi) (List.getElem?_eq_getElem _)
  exact ⟨(CmD.one this).1, (CmD.one this).2.1⟩
/-- One commit more, whose lists lie in T. -/
theorem RowsD.snoc {D T : Blk} {W : World} {rows : List Rw} {L : List Cm} (h : RowsD D W rows L) {x : Rw} {c : Cm} (hx : CmD T W (.agg #[x.1, x.2.1, .string x.2.2]) c) : RowsD (fun k => D k ∨ T k) W (rows ++ [x]) (L ++ [c]) := by
  refine ⟨by rw [List.length_append, List.length_append, h.len]; rfl, fun i r d hr hd => ?_⟩
  rcases Nat.lt_or_ge i rows.length with hi | hi
  · rw [List.getElem?_append_left hi] at hr
    rw [List.getElem?_append_left (by rw [← h.len]; exact hi)] at hd
    exact (h.at_ i r d hr hd).mono (fun _ => .inl)
  · rw [List.getElem?_append_right hi] at hr
    rw [List.getElem?_append_right (by rw [← h.len]; exact hi)] at hd
    rw [h.len] at hr
    have h0 : i - L.length = 0 := by
      have := (List.getElem?_eq_some_iff.1 hd).1
      simp at this
      omega
    rw [h0] at hr hd
    obtain rfl : x = r := by simpa using hr
    obtain rfl : c = d := by simpa using hd
    exact hx.mono (fun _ => .inr)
/-- A row's cells. -/
theorem KRep.cell {B : Nat} {s : Rp} {p : Option Addr} {n cap : Nat} {rows : List Rw} {D : Blk} {W : World} (h : KRep B s (.slice p n cap) rows D W) {i : Nat} {c : Cm} (hc : s.1[i]? = some c) :
    ∃ r b1 o1, rows[i]? = some r ∧ p = some ⟨b1, o1, none⟩ ∧ W.cell? ⟨b1, o1 + i * 3, none⟩ = some r.1 ∧ W.cell? ⟨b1, o1 + i * 3 + 1, none⟩ = some r.2.1 ∧ W.cell? ⟨b1, o1 + i * 3 + 2, none⟩ = some (.string r.2.2) ∧ CmD D W (.agg #[r.1, r.2.1, .string r.2.2]) c := by
  obtain ⟨hi, rfl⟩ := List.getElem?_eq_some_iff.1 hc
  have hir : i < rows.length := by rw [h.red.len]; exact hi
  have hr : rows[i]? = some rows[i] := List.getElem?_eq_getElem hir
  obtain ⟨p0, cap0, e, _, _, hcells⟩ := SlE.ofRow eM_len h.own
  cases e
  obtain ⟨b1, o1, rfl, hcell⟩ := hcells i _ hr
  exact ⟨rows[i], b1, o1, hr, rfl, hcell 0 _ rfl, hcell 1 _ rfl, hcell 2 _ rfl, h.red.at_ i _ _ hr hc⟩

set_option maxHeartbeats 1000000 in
theorem clipped_in (n : Int) (w : World) : CallsIn Fence.wide 0 Tryd.prog 27 #[iv n] w fun e w' => e = .returned (iv (clip n : Nat)) ∧ w' = w := by
  have hm2 : ((clip n : Nat) : Int) = min (max n 0) 120 := by unfold clip; omega
  rw [hm2]
  clear hm2
  refine callsIn_of_wp Tryd.func27 rfl trivial ?_
  simp only [Tryd.ntmps27, List.size_toArray, List.length_cons, List.length_nil, Nat.reduceAdd, Nat.reduceSub, Array.replicate_succ, Array.replicate_zero, List.push_toArray, List.append_toArray, List.nil_append, List.cons_append]
  gi_wp2
  go_ret
  exact ⟨rfl, rfl⟩

set_option maxHeartbeats 1000000 in
theorem new_in (room : Int) (w : World) : CallsIn Fence.wide 0 Tryd.prog 10 #[iv room] w fun e w' => e = .returned (ptr w.heap.size) ∧ w' = w.alloc (.cells #[iv (clip room : Nat), .slice none 0 0] 55) := by
  refine callsIn_of_wp Tryd.func10 rfl trivial ?_
  simp only [Tryd.ntmps10, List.size_toArray, List.length_cons, List.length_nil, Nat.reduceAdd, Nat.reduceSub, Array.replicate_succ, Array.replicate_zero, List.push_toArray, List.append_toArray, List.nil_append, List.cons_append]
  gi_wp2_with fail
  refine ⟨trivial, rfl, (clipped_in room _).mono ?_⟩
  rintro e w1 ⟨rfl, hw⟩
  subst hw
  gi_wp2
  go_ret
  exact ⟨rfl, rfl⟩
theorem KRep.made (room : Int) (w : World) : KRep w.heap.size (newC room) (.slice none 0 0) [] No (w.alloc (.cells #[iv (clip room : Nat), .slice none 0 0] 55)) :=
  ⟨World.alloc_heap_new w _, World.ownsRow_nil _ _ _ _, ⟨rfl, fun i r c h => by simp at h⟩, (fun h => by cases h), fun _ h => h.elim, fun _ h => h.elim, by show clip room ≤ 120; unfold clip; omega, fun c h => by cases h⟩

theorem ptr_nil (B : Nat) (w : World) : (binOp .eql 26 (ptr B) (.pointer none)).run Tryd.prog w = .ok (.bool false) w := by simp [go_sem]
theorem nil_nil (w : World) : (binOp .eql 26 (.pointer none) (.pointer none)).run Tryd.prog w = .ok (.bool true) w := by simp [go_sem]

set_option maxHeartbeats 1000000 in
theorem len_in (B : Nat) (s : Rp) (lv : Value) (rows : List Rw) (D : Blk) (w : World) (h : KRep B s lv rows D w) : CallsIn Fence.wide 0 Tryd.prog 23 #[ptr B] w fun e w' => e = .returned (iv (s.1.length : Nat)) ∧ w' = w := by
  have hnil := ptr_nil B
  obtain ⟨_, k1, _, _⟩ := h.cells
  obtain ⟨p, cap, rfl⟩ := h.slice
  generalize s.1.length = z at *
  clear h
  refine callsIn_of_wp Tryd.func23 rfl trivial ?_
  simp only [Tryd.ntmps23, List.size_toArray, List.length_cons, List.length_nil, Nat.reduceAdd, Nat.reduceSub, Array.replicate_succ, Array.replicate_zero, List.push_toArray, List.append_toArray, List.nil_append, List.cons_append]
  gi_wp2
  go_ret
  exact ⟨rfl, rfl⟩
set_option maxHeartbeats 1000000 in
theorem lenN_in (w : World) : CallsIn Fence.wide 0 Tryd.prog 23 #[.pointer none] w fun e w' => e = .returned (iv 0) ∧ w' = w := by
  have hnil := nil_nil
  refine callsIn_of_wp Tryd.func23 rfl trivial ?_
  simp only [Tryd.ntmps23, List.size_toArray, List.length_cons, List.length_nil, Nat.reduceAdd, Nat.reduceSub, Array.replicate_succ, Array.replicate_zero, List.push_toArray, List.append_toArray, List.nil_append, List.cons_append]
  gi_wp2
  go_ret
  exact ⟨rfl, rfl⟩

set_option maxHeartbeats 1000000 in
theorem has_in (B : Nat) (s : Rp) (lv : Value) (rows : List Rw) (D : Blk) (n : Int) (w : World) (h : KRep B s lv rows D w) : CallsIn Fence.wide 0 Tryd.prog 42 #[ptr B, iv n] w fun e w' => e = .returned (.bool (hasN s.1.length n)) ∧ w' = w := by
  have L1 := len_in B s lv rows D w h
  generalize s.1.length = z at *
  unfold hasN
  clear h
  refine callsIn_of_wp Tryd.func42 rfl trivial ?_
  simp only [Tryd.ntmps42, List.size_toArray, List.length_cons, List.length_nil, Nat.reduceAdd, Nat.reduceSub, Array.replicate_succ, Array.replicate_zero, List.push_toArray, List.append_toArray, List.nil_append, List.cons_append]
  by_cases h1 : 1 ≤ n
  · gi_wp2_with fail
    refine ⟨trivial, rfl, L1.mono ?_⟩
    rintro e w1 ⟨rfl, hw⟩
    subst hw
    gi_wp2
    go_ret
    exact ⟨by rw [decide_eq_true h1]; rfl, rfl⟩
  · gi_wp2_with fail
    refine ⟨trivial, ?_⟩
    rename_i hKK
    apply hKK
    gi_wp2
    go_ret
    exact ⟨by rw [decide_eq_false (by omega)]; rfl, rfl⟩
set_option maxHeartbeats 1000000 in
theorem hasN_in (n : Int) (w : World) : CallsIn Fence.wide 0 Tryd.prog 42 #[.pointer none, iv n] w fun e w' => e = .returned (.bool false) ∧ w' = w := by
  refine callsIn_of_wp Tryd.func42 rfl trivial ?_
  simp only [Tryd.ntmps42, List.size_toArray, List.length_cons, List.length_nil, Nat.reduceAdd, Nat.reduceSub, Array.replicate_succ, Array.replicate_zero, List.push_toArray, List.append_toArray, List.nil_append, List.cons_append]
  by_cases h1 : 1 ≤ n
  · have h2 : ¬ n ≤ 0 := by omega
    gi_wp2_with fail
    refine ⟨trivial, rfl, (lenN_in _).mono ?_⟩
    rintro e w1 ⟨rfl, hw⟩
    subst hw
    gi_wp2
    go_ret
    exact ⟨by rw [show decide (n ≤ 0) = false from decide_eq_false (by omega)]; rfl, rfl⟩
  · gi_wp2_with fail
    refine ⟨trivial, ?_⟩
    rename_i hKK
    apply hKK
    gi_wp2
    go_ret
    exact ⟨rfl, rfl⟩

set_option maxHeartbeats 2000000 in
theorem hasAll_in (B : Nat) (s : Rp) (lv : Value) (rows : List Rw) (D : Blk) (p : Option Addr) (n k0 : Nat) (ps : List Int) (hnp : ps.length = n) (h5 : n ≤ 5) (w : World) (h : KRep B s lv rows D w) (hp : SlV w (.slice p n k0) (ps.map iv)) :
    CallsIn Fence.wide 0 Tryd.prog 28 #[ptr B, .slice p n k0] w fun e w' => e = .returned (.bool (ps.all (hasN s.1.length))) ∧ w' = w := by
  have HNP : Hid (ps.length = n) := hnp
  clear hnp
  obtain ⟨A, hA⟩ : ∃ A, ps.all (hasN s.1.length) = A := ⟨_, rfl⟩
  have HA : Hid (ps.all (hasN s.1.length) = A) := hA
  rw [hA]
  clear hA
  refine callsIn_of_wp Tryd.func28 rfl trivial ?_
  simp only [Tryd.ntmps28, List.size_toArray, List.length_cons, List.length_nil, Nat.reduceAdd, Nat.reduceSub, Array.replicate_succ, Array.replicate_zero, List.push_toArray, List.append_toArray, List.nil_append, List.cons_append]
  gi_wp2
  gi_loopw [9] (fun s6 wr => ∃ k : Nat, k ≤ n ∧ s6 = .int .i64 (k : Int) ∧ Hid (∀ x ∈ ps.take k, hasN s.1.length x = true) ∧ wr = w) (fun s6 _ => n - (intOf s6).toNat)
  case atStart => exact ⟨0, Nat.zero_le _, rfl, fun y hy => by simp at hy, rfl⟩
  case round =>
    obtain ⟨k, hk, rfl, HT, hwr⟩ := hrel
    subst hwr
    by_cases hlt : k < n
    · have hlt' : (k : Int) < (n : Int) := by omega
      obtain ⟨pa, hpa⟩ : ∃ pa, ps[k]? = some pa := ⟨_, List.getElem?_eq_getElem (by rw [HNP.out]; exact hlt)⟩
      obtain ⟨bp, op, rfl, hcp⟩ := hp.get1 (i := k) (x := iv pa) (by rw [List.getElem?_map, hpa]; rfl)
      have H1 := has_in B s lv rows D pa _ h
      obtain ⟨u, HU⟩ : ∃ u, Hid (hasN s.1.length pa = u) := ⟨_, rfl⟩
      rw [HU.out] at H1
      gi_wp2_with fail
      refine ⟨trivial, rfl, H1.mono ?_⟩
      rintro e w3 ⟨rfl, hw3⟩
      subst hw3
      cases u with
      | false =>
        obtain rfl : A = false := by
          rw [← HA.out]
          exact List.all_eq_false.2 ⟨pa, List.mem_of_getElem? hpa, by rw [HU.out]; exact Bool.false_ne_true⟩
        gi_wp2
        go_ret
        exact ⟨rfl, rfl⟩
      | true =>
        have HT2 : Hid (∀ x ∈ ps.take (k + 1), hasN s.1.length x = true) := by
          intro y hy
          rw [List.take_add_one, hpa] at hy
          rcases List.mem_append.1 hy with h | h
          · exact HT.out y h
          · rw [List.mem_singleton.1 h]; exact HU.out
        gi_wp2
        refine ⟨⟨k + 1, hlt, by go_num, HT2, trivial⟩, by simp [intOf]; omega⟩
    · obtain rfl : k = n := by omega
      have hlt' : ¬ (k : Int) < (k : Int) := by omega
      obtain rfl : A = true := by
        rw [← HA.out]
        exact List.all_eq_true.2 (fun y hy => HT.out y (by rw [List.take_of_length_le (by rw [HNP.out]; exact Nat.le_refl _)]; exact hy))
      gi_wp2
      go_ret
      exact ⟨rfl, rfl⟩

end Go.Proofs.YtconingjdgmodaaDoor

end
section
-- KMay
namespace Go.Proofs.YtconingjdgmodaaDoor
open Go.RowKit Go.Shelf Go.SeqLib Go.DiffLib Go.TreeLib Go.RepoLib Go.BigFrame
attribute [local go_sem] Oper.semAt_some

def parB (l : List Int) : Bool := decide (l.length ≤ 2) && (decide (l.length < 2) || !decide (l[0]? = l[1]?))
theorem mayC_is (c : Cm) : mayC c = (mayB c.2.1 && (parB c.1 && decide (c.2.2.size ≤ 60))) := by
  unfold mayC parB
  rw [Bool.and_assoc]

set_option maxRecDepth 100000 in
set_option maxHeartbeats 4000000 in
theorem par_in (p : Option Addr) (n k : Nat) (l : List Int) (w : World) (h : SlV w (.slice p n k) (l.map iv)) : CallsIn Fence.wide 0 Tryd.prog 32 #[.slice p n k] w fun e w' => e = .returned (.bool (parB l)) ∧ Chg No w w' := by
  have hmix : Tryd.prog.follows .mixedOrders = true := by kernel_rfl
  obtain rfl : n = l.length := by obtain ⟨_, _, e, _⟩ := h; cases e; simp
  have hcap : l.length ≤ 9223372036854775807 := by obtain ⟨_, _, e, hl, hm, _⟩ := h; rw [List.length_map] at hl; unfold maxLen at hm; omega
  have HP : Hid (parB l = (decide (l.length ≤ 2) && (decide (l.length < 2) || !decide (l[0]? = l[1]?)))) := rfl
  rw [HP.out]
  clear HP
  refine callsIn_of_wp Tryd.func32 rfl trivial ?_
  simp only [Tryd.ntmps32, List.size_toArray, List.length_cons, List.length_nil, Nat.reduceAdd, Nat.reduceSub, Array.replicate_succ, Array.replicate_zero, List.push_toArray, List.append_toArray, List.nil_append, List.cons_append]
  rcases l with _ | ⟨a, _ | ⟨b, _ | ⟨d, r⟩⟩⟩
  · simp only [List.length_nil] at *
    gi_wp2
    refine wpIn_region_quiet_lit rfl hmix (by kernel_rfl) ?_
    repeat (gi_big_quiet_step (fail))
    refine wpQuietIn_nil ?_
    rintro w' ⟨j, rfl⟩
    gi_wp2
    go_ret
    exact ⟨rfl, drewNC (Chg.refl No w) j⟩
  · simp only [List.length_nil, List.length_cons, Nat.zero_add] at *
    gi_wp2
    refine wpIn_region_quiet_lit rfl hmix (by kernel_rfl) ?_
    repeat (gi_big_quiet_step (fail))
    refine wpQuietIn_nil ?_
    rintro w' ⟨j, rfl⟩
    gi_wp2
    go_ret
    exact ⟨rfl, drewNC (Chg.refl No w) j⟩
  · simp only [List.length_nil, List.length_cons, Nat.zero_add, Nat.reduceAdd] at h hcap ⊢
    obtain ⟨bp, op, rfl, hc0⟩ := h.get1 (i := 0) (x := iv a) rfl
    obtain ⟨_, _, e1, hc1⟩ := h.get1 (i := 1) (x := iv b) rfl
    cases e1
    have k0 : w.cell? ⟨bp, op, none⟩ = some (iv a) := hc0
    clear hc0
    by_cases hab : a = b
    · subst hab
      have hbb : ([a, a] : List Int)[0]? = [a, a][1]? := rfl
      have hb : (a != a) = false := by simp
      gi_wp2
      refine wpIn_region_quiet_lit rfl hmix (by kernel_rfl) ?_
      repeat (gi_big_quiet_step (fail))
      refine wpQuietIn_nil ?_
      rintro w' ⟨j, rfl⟩
      gi_wp2
      go_ret
      refine ⟨?_, drewNC (Chg.refl No w) j⟩
      rw [decide_eq_true hbb]
      rfl
    · have hb : (a != b) = true := by rw [bne_iff_ne]; exact hab
      have hbb : ¬ ([a, b] : List Int)[0]? = [a, b][1]? := fun e => hab (Option.some.inj e)
      clear hab
      gi_wp2
      refine wpIn_region_quiet_lit rfl hmix (by kernel_rfl) ?_
      repeat (gi_big_quiet_step (fail))
      refine wpQuietIn_nil ?_
      rintro w' ⟨j, rfl⟩
      gi_wp2
      go_ret
      refine ⟨?_, drewNC (Chg.refl No w) j⟩
      rw [decide_eq_false hbb]
      rfl
  · obtain ⟨z, hz⟩ : ∃ z, (a :: b :: d :: r).length = z := ⟨_, rfl⟩
    have hz3 : 3 ≤ z := by rw [← hz]; simp
    have hd0 : decide ((z : Int) < 2) = false := decide_eq_false (by omega)
    have hd1 : ((z : Int) == 2) = false := by rw [beq_eq_false_iff_ne]; omega
    have hd2 : decide (z ≤ 2) = false := decide_eq_false (by omega)
    rw [hz] at hcap
    simp only [hz] at h ⊢
    gi_wp2
    refine wpIn_region_quiet_lit rfl hmix (by kernel_rfl) ?_
    repeat (gi_big_quiet_step (fail))
    refine wpQuietIn_nil ?_
    rintro w' ⟨j, rfl⟩
    gi_wp2
    go_ret
    refine ⟨?_, drewNC (Chg.refl No w) j⟩
    rw [hd2]
    rfl

set_option maxHeartbeats 1000000 in
theorem mayR_in (v : Value) (c : Cm) (D : Blk) (w : World) (hv : CmD D w v c) (hs : SmallC c) : CallsIn Fence.wide 0 Tryd.prog 15 #[v] w fun e w' => e = .returned (.bool (mayC c)) ∧ Chg No w w' := by
  obtain ⟨p, n, k, q, m, l, rfl, h1, h2, _, _⟩ := hv
  obtain ⟨c1, c2, c3⟩ := c
  have hz : ∀ f ∈ c2, f.1.size ≤ 100000 := fun f hf => by have := (hs.2.2.1 f hf).1; omega
  dsimp only at h1 h2 ⊢
  have ca : Chg No w (w.alloc (.cells #[.slice p n k, .slice q m l, .string c3] 36)) := (Chg.refl _ w).alloc _
  have M1 := may_in (.slice q m l) c2 hz _ (h2.no ca)
  have P1 := fun W hw => par_in p n k c1 W hw
  have HM : Hid (mayC (c1, c2, c3) = (mayB c2 && (parB c1 && decide (c3.size ≤ 60)))) := mayC_is _
  rw [HM.out]
  clear HM
  have x0 : (w.alloc (.cells #[.slice p n k, .slice q m l, .string c3] 36)).heap[w.heap.size]? = some (.cells #[.slice p n k, .slice q m l, .string c3] 36 (0, 0)) := World.alloc_heap_new w _
  have g1 := h1.no ca
  have hs3 : c3.size ≤ 100 := hs.2.2.2
  clear h1 h2 hs hz
  generalize mayB c2 = b2 at M1 ⊢
  generalize parB c1 = b1 at P1 ⊢
  obtain ⟨z, hz⟩ : ∃ z, c3.size = z := ⟨_, rfl⟩
  refine callsIn_of_wp Tryd.func15 rfl trivial ?_
  simp only [Tryd.ntmps15, List.size_toArray, List.length_cons, List.length_nil, Nat.reduceAdd, Nat.reduceSub, Array.replicate_succ, Array.replicate_zero, List.push_toArray, List.append_toArray, List.nil_append, List.cons_append]
  gi_wp2_with fail
  refine ⟨trivial, rfl, M1.mono ?_⟩
  rintro e w1 ⟨rfl, c1'⟩
  have k1 := Chg.seq ca c1'
  have g1' := g1.no c1'
  have x1 := c1'.same x0 (fun h => h)
  have y0 : w1.cell? ⟨w.heap.size, 0, none⟩ = some (.slice p n k) := by simp [World.cell?, x1]
  clear x0 g1 M1
  cases b2 with
  | false =>
    gi_wp2_with fail
    refine ⟨trivial, ?_⟩
    rename_i hKK
    apply hKK
    gi_wp2
    go_ret
    exact ⟨rfl, k1⟩
  | true =>
  gi_wp2_with fail
  refine ⟨trivial, rfl, (P1 _ g1').mono ?_⟩
  rintro e w2 ⟨rfl, c2'⟩
  have x2 := c2'.same x1 (fun h => h)
  have y2 : w2.cell? ⟨w.heap.size, 2, none⟩ = some (.string c3) := by simp [World.cell?, x2]
  clear x1 x2
  cases b1 with
  | false =>
    gi_wp2
    go_ret
    exact ⟨rfl, Chg.seq k1 c2'⟩
  | true =>
    gi_wp2
    go_ret
    refine ⟨?_, Chg.seq k1 c2'⟩
    show Ending.returned (.bool (decide ((z : Int) ≤ 60))) = _
    rw [hz, show decide ((z : Int) ≤ 60) = decide (z ≤ 60) from by rw [decide_eq_decide]; omega]
    rfl

set_option maxHeartbeats 1000000 in
theorem alike_in (v u : Value) (c d : Cm) (D D' : Blk) (hx : c.2.1.length ≤ 1000000) (w : World) (hv : CmD D w v c) (hu : CmD D' w u d) :
    CallsIn Fence.wide 0 Tryd.prog 35 #[v, u] w fun e w' => e = .returned (.bool (decide (c = d))) ∧ Chg No w w' := by
  obtain ⟨p, n, k, q, m, l, rfl, h1, h2, _, _⟩ := hv
  obtain ⟨p', n', k', q', m', l', rfl, h1', h2', _, _⟩ := hu
  obtain ⟨c1, c2, c3⟩ := c
  obtain ⟨d1, d2, d3⟩ := d
  dsimp only at h1 h2 h1' h2' hx ⊢
  have ca : Chg No w ((w.alloc (.cells #[.slice p n k, .slice q m l, .string c3] 36)).alloc (.cells #[.slice p' n' k', .slice q' m' l', .string d3] 36)) := ((Chg.refl _ w).alloc _).alloc _
  have I1 := fun W hv hu => equalI_in (.slice p n k) (.slice p' n' k') c1 d1 W hv hu
  have F1 := fun W hv hu => sameT_in (.slice q m l) (.slice q' m' l') c2 d2 W hv hu hx
  have HE : Hid (decide (((c1, c2, c3) : Cm) = (d1, d2, d3)) = (decide (c1 = d1) && (decide (c2 = d2) && (c3.toList == d3.toList)))) := by
    show _ = _
    by_cases h3 : c3 = d3
    · rw [eqR_true h3, Bool.and_true, Bool.eq_iff_iff]
      simp [h3]
    · rw [eqR_false h3, Bool.and_false, Bool.and_false, decide_eq_false (fun e => h3 (congrArg (fun x : Cm => x.2.2) e))]
  rw [HE.out]
  clear HE
  generalize hb3 : (c3.toList == d3.toList) = b3
  generalize decide (c1 = d1) = b1 at I1 ⊢
  generalize decide (c2 = d2) = b2 at F1 ⊢
  have g1 := h1.no ca
  have g2 := h2.no ca
  have g1' := h1'.no ca
  have g2' := h2'.no ca
  clear h1 h2 h1' h2'
  have x0 : ((w.alloc (.cells #[.slice p n k, .slice q m l, .string c3] 36)).alloc (.cells #[.slice p' n' k', .slice q' m' l', .string d3] 36)).heap[w.heap.size]? = some (.cells #[.slice p n k, .slice q m l, .string c3] 36 (0, 0)) := by
    rw [Below.heap_alloc _ _ _ (by rw [World.size_alloc]; omega)]
    exact World.alloc_heap_new w _
  have x1 : ((w.alloc (.cells #[.slice p n k, .slice q m l, .string c3] 36)).alloc (.cells #[.slice p' n' k', .slice q' m' l', .string d3] 36)).heap[w.heap.size + 1]? = some (.cells #[.slice p' n' k', .slice q' m' l', .string d3] 36 (0, 0)) := by
    have := World.alloc_heap_new (w.alloc (.cells #[.slice p n k, .slice q m l, .string c3] 36)) (.cells #[.slice p' n' k', .slice q' m' l', .string d3] 36 (0, 0))
    rw [World.size_alloc] at this
    exact this
  refine callsIn_of_wp Tryd.func35 rfl trivial ?_
  simp only [Tryd.ntmps35, List.size_toArray, List.length_cons, List.length_nil, Nat.reduceAdd, Nat.reduceSub, Array.replicate_succ, Array.replicate_zero, List.push_toArray, List.append_toArray, List.nil_append, List.cons_append]
  gi_wp2_with fail
  refine ⟨trivial, rfl, (I1 _ g1 g1').mono ?_⟩
  rintro e w1 ⟨rfl, c1'⟩
  have k1 := Chg.seq ca c1'
  have a0 := c1'.same x0 (fun h => h)
  have a1 := c1'.same x1 (fun h => h)
  have y0 : w1.cell? ⟨w.heap.size, 1, none⟩ = some (.slice q m l) := by simp [World.cell?, a0]
  have y1 : w1.cell? ⟨w.heap.size + 1, 1, none⟩ = some (.slice q' m' l') := by simp [World.cell?, a1]
  have f2 := g2.no c1'
  have f2' := g2'.no c1'
  clear x0 x1 g1 g1' g2 g2' I1
  cases b1 with
  | false =>
    gi_wp2_with fail
    refine ⟨trivial, ?_⟩
    rename_i hKK
    apply hKK
    gi_wp2
    go_ret
    exact ⟨rfl, k1⟩
  | true =>
  gi_wp2_with fail
  refine ⟨trivial, rfl, (F1 _ f2 f2').mono ?_⟩
  rintro e w2 ⟨rfl, c2'⟩
  have k2 := Chg.seq k1 c2'
  have a2 := c2'.same a0 (fun h => h)
  have a3 := c2'.same a1 (fun h => h)
  have y2 : w2.cell? ⟨w.heap.size, 2, none⟩ = some (.string c3) := by simp [World.cell?, a2]
  have y3 : w2.cell? ⟨w.heap.size + 1, 2, none⟩ = some (.string d3) := by simp [World.cell?, a3]
  clear a0 a1 a2 a3 y0 y1 F1 f2 f2'
  cases b2 with
  | false =>
    gi_wp2
    go_ret
    exact ⟨rfl, k2⟩
  | true =>
    gi_wp2
    go_ret
    exact ⟨rfl, k2⟩

end Go.Proofs.YtconingjdgmodaaDoor

end
section
-- KOwn
namespace Go.Proofs.YtconingjdgmodaaDoor
open Go.RowKit Go.Shelf Go.SeqLib Go.DiffLib Go.TreeLib Go.RepoLib Go.BigFrame
attribute [local go_sem] Oper.semAt_some

/-- A commit whose lists are rows of their own. -/
theorem CmD.ofOwn {W : World} {b : Nat} {pv tv : Value} {c : Cm} (h1 : OwnI W b pv c.1) (h2 : OwnF W b tv c.2.1) : CmD (fun k => pv.ownBlock = some k ∨ tv.ownBlock = some k) W (.agg #[pv, tv, .string c.2.2]) c := by
  have s1 : SlV W pv (c.1.map iv) := SlV.ofRow (by rw [List.length_map]; exact h1)
  have s2 := OwnF.sl h2
  obtain ⟨p, k, rfl⟩ := row_slice h1
  obtain ⟨q, l, rfl⟩ := row_slice h2
  exact ⟨p, _, k, q, _, l, rfl, s1, s2, fun j hj => .inl hj.2, fun j hj => .inr hj.2⟩

theorem CmD.low {D : Blk} {W : World} {v : Value} {c : Cm} (h : CmD D W v c) : CmD (fun k => D k ∧ k < W.heap.size) W v c := by
  obtain ⟨p, n, k, q, m, l, rfl, h1, h2, h3, h4⟩ := h
  exact ⟨p, n, k, q, m, l, rfl, h1, h2, fun j hj => ⟨h3 j hj, h1.lt j hj⟩, fun j hj => ⟨h4 j hj, h2.lt j hj⟩⟩

/-- What holds while a commit's lists are cloned. -/
structure CloInv (W0 : World) (B : Nat) (pv tv sv : Value) (ps : List Int) (zs : List Fl) (d : Nat → Bool) (u : Nat → Value) (W : World) : Prop where
  chg : Chg (fun k => k = B) W0 W
  v1 : u 1 = pv
  v4 : u 4 = tv
  v2 : ∃ q m k, u 2 = .slice q m k
  v5 : ∃ q m k, u 5 = .slice q m k
  o2 : d 2 = true → d 1 = true
  o5 : d 5 = true → d 4 = true
  o7 : d 7 = true → d 2 = true
  o9 : d 9 = true → d 5 = true
  f2 : d 2 = true → OwnI W W0.heap.size (u 2) ps
  f5 : d 5 = true → OwnF W W0.heap.size (u 5) zs
  box : W.heap[B]? = some (.cells #[if d 7 then u 2 else pv, if d 9 then u 5 else tv, sv] 36 (0, 0))
section
variable {W0 W W' : World} {B : Nat} {pv tv sv : Value} {ps : List Int} {zs : List Fl} {d : Nat → Bool} {u : Nat → Value}
theorem CloInv.s1 (h : CloInv W0 B pv tv sv ps zs d u W) : CloInv W0 B pv tv sv ps zs (fun j => if j = 1 then true else d j) (fun j => if j = 1 then pv else u j) W :=
  ⟨h.chg, rfl, h.v4, h.v2, h.v5, fun _ => rfl, fun e => h.o5 e, fun e => h.o7 e, fun e => h.o9 e, fun e => h.f2 e, fun e => h.f5 e, h.box⟩
theorem CloInv.s4 (h : CloInv W0 B pv tv sv ps zs d u W) : CloInv W0 B pv tv sv ps zs (fun j => if j = 4 then true else d j) (fun j => if j = 4 then tv else u j) W :=
  ⟨h.chg, h.v1, rfl, h.v2, h.v5, fun e => h.o2 e, fun _ => rfl, fun e => h.o7 e, fun e => h.o9 e, fun e => h.f2 e, fun e => h.f5 e, h.box⟩
theorem CloInv.s2 (h : CloInv W0 B pv tv sv ps zs d u W) (hd : d 2 = false) (h1 : d 1 = true) {v : Value} (c : Chg No W W') (ho : OwnI W' W0.heap.size v ps) : CloInv W0 B pv tv sv ps zs (fun j => if j = 2 then true else d j) (fun j => if j = 2 then v else u j) W' := by
  have h7 : d 7 = false := by
    cases e : d 7 with
    | false => rfl
    | true => have := h.o7 e; rw [hd] at this; cases this
  obtain ⟨p', c', e'⟩ := row_slice ho
  refine ⟨h.chg.trans c (fun _ h => h.elim), h.v1, h.v4, ⟨p', _, c', e'⟩, h.v5, fun _ => h1, fun e => h.o5 e, fun _ => rfl, fun e => h.o9 e, fun _ => ho, fun e => OwnF.no (h.f5 e) c, ?_⟩
  have hb := h.box
  rw [h7] at hb
  show W'.heap[B]? = some (.cells #[if d 7 = true then v else pv, if d 9 = true then u 5 else tv, sv] _ _)
  rw [h7]
  exact c.same hb (fun h => h)
theorem CloInv.s5 (h : CloInv W0 B pv tv sv ps zs d u W) (hd : d 5 = false) (h4 : d 4 = true) {v : Value} (c : Chg No W W') (ho : OwnF W' W0.heap.size v zs) : CloInv W0 B pv tv sv ps zs (fun j => if j = 5 then true else d j) (fun j => if j = 5 then v else u j) W' := by
  have h9 : d 9 = false := by
    cases e : d 9 with
    | false => rfl
    | true => have := h.o9 e; rw [hd] at this; cases this
  obtain ⟨p', c', e'⟩ := row_slice ho
  refine ⟨h.chg.trans c (fun _ h => h.elim), h.v1, h.v4, h.v2, ⟨p', _, c', e'⟩, fun e => h.o2 e, fun _ => h4, fun e => h.o7 e, fun _ => rfl, fun e => own_still (h.f2 e) c (fun _ _ h => h), fun _ => ho, ?_⟩
  have hb := h.box
  rw [h9] at hb
  show W'.heap[B]? = some (.cells #[if d 7 = true then u 2 else pv, if d 9 = true then v else tv, sv] _ _)
  rw [h9]
  exact c.same hb (fun h => h)
theorem CloInv.s7 (h : CloInv W0 B pv tv sv ps zs d u W) (hB : B < W0.heap.size) (h2 : d 2 = true) (x : Value) : CloInv W0 B pv tv sv ps zs (fun j => if j = 7 then true else d j) (fun j => if j = 7 then x else u j) (W.setCell ⟨B, 0, none⟩ (u 2)) := by
  have c : Chg (fun k => k = B) W (W.setCell ⟨B, 0, none⟩ (u 2)) := (Chg.refl (fun k => k = B) W).setCell (p := ⟨B, 0, none⟩) (.inl rfl) _
  refine ⟨h.chg.trans c (fun k hk => .inl hk), h.v1, h.v4, h.v2, h.v5, fun e => h.o2 e, fun e => h.o5 e, fun _ => h2, fun e => h.o9 e, fun e => own_still (h.f2 e) c (fun k hk e' => ?_), fun e => (h.f5 e).chg c (fun k hk e' => ?_), ?_⟩
  · have := (World.ownsRow.lt (h.f2 e) k hk).1; omega
  · have := (World.ownsRow.lt (h.f5 e) k hk).1; omega
  · have := h.box
    show (W.setCell ⟨B, 0, none⟩ (u 2)).heap[B]? = some (.cells #[u 2, if d 9 = true then u 5 else tv, sv] _ _)
    simp [World.setCell, Array.getElem?_modify, this]
theorem CloInv.s9 (h : CloInv W0 B pv tv sv ps zs d u W) (hB : B < W0.heap.size) (h5 : d 5 = true) (x : Value) : CloInv W0 B pv tv sv ps zs (fun j => if j = 9 then true else d j) (fun j => if j = 9 then x else u j) (W.setCell ⟨B, 1, none⟩ (u 5)) := by
  have c : Chg (fun k => k = B) W (W.setCell ⟨B, 1, none⟩ (u 5)) := (Chg.refl (fun k => k = B) W).setCell (p := ⟨B, 1, none⟩) (.inl rfl) _
  refine ⟨h.chg.trans c (fun k hk => .inl hk), h.v1, h.v4, h.v2, h.v5, fun e => h.o2 e, fun e => h.o5 e, fun e => h.o7 e, fun _ => h5, fun e => own_still (h.f2 e) c (fun k hk e' => ?_), fun e => (h.f5 e).chg c (fun k hk e' => ?_), ?_⟩
  · have := (World.ownsRow.lt (h.f2 e) k hk).1; omega
  · have := (World.ownsRow.lt (h.f5 e) k hk).1; omega
  · have := h.box
    show (W.setCell ⟨B, 1, none⟩ (u 5)).heap[B]? = some (.cells #[if d 7 = true then u 2 else pv, u 5, sv] _ _)
    simp [World.setCell, Array.getElem?_modify, this]
end

set_option maxRecDepth 100000 in
set_option maxHeartbeats 4000000 in
theorem own_in (v : Value) (c : Cm) (D : Blk) (w : World) (hv : CmD D w v c) (hs : SmallC c) : CallsIn Fence.wide 0 Tryd.prog 29 #[v] w fun e w' => ∃ pv tv, e = .returned (.agg #[pv, tv, .string c.2.2]) ∧ OwnI w' w.heap.size pv c.1 ∧ OwnF w' w.heap.size tv c.2.1 ∧ Chg No w w' := by
  have hmix : Tryd.prog.follows .mixedOrders = true := by kernel_rfl
  obtain ⟨p, n, k, q, m, l, rfl, h1, h2, _, _⟩ := hv
  obtain ⟨c1, c2, c3⟩ := c
  have l1 : c1.length ≤ 1000000 := by have := hs.1; dsimp only at this; omega
  have l2 : c2.length ≤ 100000 := by have := hs.2.1; dsimp only at this; omega
  dsimp only at h1 h2 ⊢
  obtain ⟨W0, hW0⟩ : ∃ W0, (w.alloc (.cells #[.slice p n k, .slice q m l, .string c3] 36)).alloc (.cells #[.slice none 0 0, .slice none 0 0, .string ⟨#[]⟩] 36) = W0 := ⟨_, rfl⟩
  have ca : Chg No w W0 := hW0 ▸ ((Chg.refl _ w).alloc _).alloc _
  have x0 : W0.heap[w.heap.size]? = some (.cells #[.slice p n k, .slice q m l, .string c3] 36 (0, 0)) := by
    rw [← hW0, Below.heap_alloc _ _ _ (by rw [World.size_alloc]; omega)]
    exact World.alloc_heap_new w _
  have x1 : W0.heap[w.heap.size + 1]? = some (.cells #[.slice none 0 0, .slice none 0 0, .string ⟨#[]⟩] 36 (0, 0)) := by
    have := World.alloc_heap_new (w.alloc (.cells #[.slice p n k, .slice q m l, .string c3] 36)) (.cells #[.slice none 0 0, .slice none 0 0, .string ⟨#[]⟩] 36 (0, 0))
    rw [World.size_alloc] at this
    rw [← hW0]
    exact this
  have hB : w.heap.size < W0.heap.size := (Array.getElem?_eq_some_iff.1 x0).1
  have hB1 : w.heap.size + 1 < W0.heap.size := (Array.getElem?_eq_some_iff.1 x1).1
  obtain ⟨B, hBe⟩ : ∃ B, w.heap.size = B := ⟨_, rfl⟩
  have HP : ∀ W, Chg (fun k => k = B) W0 W → SlV W (.slice p n k) (c1.map iv) := fun W cW => (h1.no ca).chg cW (fun j hj e => by have := h1.lt j hj; omega)
  have HF : ∀ W, Chg (fun k => k = B) W0 W → SlF W (.slice q m l) c2 := fun W cW => (h2.no ca).chg cW (fun j hj e => by have := h2.lt j hj; omega)
  have hfin : ∀ {W9 : World}, Chg (fun k => k = B ∨ k = B + 1) W0 W9 → Chg No w W9 := fun c9 => ca.trans c9 (fun k hk => by
    rcases hk with h | h
    · exact .inr (by omega)
    · exact .inr (by omega))
  have hany : Nonempty (AfterB (fun k => k = B) W0) := AfterB.any _ _
  have HL : Hid (c1.length ≤ 1000000 ∧ c2.length ≤ 100000) := ⟨l1, l2⟩
  have hsz := ca.size
  clear h1 h2 hs l1 l2
  refine callsIn_of_wp Tryd.func29 rfl trivial ?_
  simp only [Tryd.ntmps29, List.size_toArray, List.length_cons, List.length_nil, Nat.reduceAdd, Nat.reduceSub, Array.replicate_succ, Array.replicate_zero, List.push_toArray, List.append_toArray, List.nil_append, List.cons_append]
  gi_wp2
  subst hBe
  refine region_loudG (fun i => i == 1 || i == 2 || i == 4 || i == 5 || i == 7 || i == 9) (fun w' => ∃ d : AfterB (fun k => k = w.heap.size) W0, w' = d.val) (CloInv W0 w.heap.size (.slice p n k) (.slice q m l) (.string c3) c1 c2)
    (fun j => if j = 1 then .slice p n k else if j = 4 then .slice q m l else .slice none 0 0) hmix (by kernel_rfl) (by kernel_rfl) (fun d u W hI => ⟨⟨W, hI.chg⟩, rfl⟩)
    ⟨(Chg.refl _ W0).drew, rfl, rfl, ⟨none, 0, 0, rfl⟩, ⟨none, 0, 0, rfl⟩, fun h => (by cases h), fun h => (by cases h), fun h => (by cases h), fun h => (by cases h), fun h => (by cases h), fun h => (by cases h), x0⟩ (fun u hu => ?_)
  obtain ⟨_, _, hu⟩ := hu
  have e1 := hu.v1
  have e4 := hu.v4
  obtain ⟨q2, m2, k2, e2⟩ := hu.v2
  obtain ⟨q5, m5, k5, e5⟩ := hu.v5
  clear hu
  simp only [hushE, Nat.reduceAdd, Nat.reduceBEq, Bool.or_self, Bool.or_true, Bool.or_false, if_true, if_false, Bool.false_eq_true]
  simp only [e1, e2, e4, e5]
  repeat (gi_big_quiet_step (fail))
  refine wpQuietIn_nil ⟨?_, ?_, ?_⟩
  · intro i oo ho hm
    simp only [Bool.or_eq_true, beq_iff_eq] at hm
    rcases hm with ((((rfl | rfl) | rfl) | rfl) | rfl) | rfl
    all_goals (cases ho; rfl)
  · intro i oo d W hjo hm hd hwt hI
    have hb := hI.box
    simp only [Bool.or_eq_true, beq_iff_eq] at hm
    rcases hm with ((((rfl | rfl) | rfl) | rfl) | rfl) | rfl
    · cases hjo
      have h7 : d 7 = false := by
        cases e : d 7 with
        | false => rfl
        | true => have := hI.o2 (hI.o7 e); rw [hd] at this; cases this
      rw [h7, if_neg Bool.false_ne_true] at hb
      have kb : W.cell? ⟨w.heap.size, 0, none⟩ = some (.slice p n k) := by simp [World.cell?, hb]
      refine LeadsV.value (v := .slice p n k) (w' := W) ?_ hI.s1
      simp [go_sem, kb]
    · cases hjo
      have h1 := hwt 1 rfl (by kernel_rfl)
      refine LeadsV.call (f := 44) (args := #[.slice p n k]) (by simp [go_sem]) ((cloneI_in _ c1 HL.out.1 _ (HP W hI.chg)).mono ?_)
      rintro e w2 ⟨v', rfl, ho, c'⟩
      exact ⟨v', rfl, hI.s2 hd h1 c' (rowBase ho hI.chg.size)⟩
    · cases hjo
      have h9 : d 9 = false := by
        cases e : d 9 with
        | false => rfl
        | true => have := hI.o5 (hI.o9 e); rw [hd] at this; cases this
      rw [h9, if_neg Bool.false_ne_true] at hb
      have kb : W.cell? ⟨w.heap.size, 1, none⟩ = some (.slice q m l) := by simp [World.cell?, hb]
      refine LeadsV.value (v := .slice q m l) (w' := W) ?_ hI.s4
      simp [go_sem, kb]
    · cases hjo
      have h4 := hwt 4 rfl (by kernel_rfl)
      refine LeadsV.call (f := 45) (args := #[.slice q m l]) (by simp [go_sem]) ((cloneF_in _ c2 HL.out.2 _ (HF W hI.chg)).mono ?_)
      rintro e w2 ⟨v', rfl, ho, c'⟩
      exact ⟨v', rfl, hI.s5 hd h4 c' (ho.base hI.chg.size)⟩
    · cases hjo
      have h2 := hwt 2 rfl (by kernel_rfl)
      have kb : W.cell? ⟨w.heap.size, 0, none⟩ = some (if d 7 then u 2 else .slice p n k) := by simp [World.cell?, hb]
      have kf : W.frozen? ⟨w.heap.size, 0, none⟩ = false := by simp [World.frozen?, hb]
      refine LeadsV.skip (w' := W.setCell ⟨w.heap.size, 0, none⟩ (u 2)) ?_ (hI.s7 hB h2 undef)
      rw [e2]
      simp [go_sem, kb, kf]
    · cases hjo
      have h5 := hwt 5 rfl (by kernel_rfl)
      have kb : W.cell? ⟨w.heap.size, 1, none⟩ = some (if d 9 then u 5 else .slice q m l) := by simp [World.cell?, hb]
      have kf : W.frozen? ⟨w.heap.size, 1, none⟩ = false := by simp [World.frozen?, hb]
      refine LeadsV.skip (w' := W.setCell ⟨w.heap.size, 1, none⟩ (u 5)) ?_ (hI.s9 hB h5 undef)
      rw [e5]
      simp [go_sem, kb, kf]
  · intro d W hall hI
    have h2 := hall 2 rfl (by simp)
    have h5 := hall 5 rfl (by simp)
    have h7 := hall 7 rfl (by simp)
    have h9 := hall 9 rfl (by simp)
    have hb := hI.box
    rw [h7, h9, if_pos rfl, if_pos rfl, e2, e5] at hb
    have o2 := hI.f2 h2
    have o5 := hI.f5 h5
    rw [e2] at o2
    rw [e5] at o5
    have cW := hI.chg
    have hr := cW.same x1 (by omega)
    have y0 : W.cell? ⟨w.heap.size, 0, none⟩ = some (.slice q2 m2 k2) := by simp [World.cell?, hb]
    have y1 : W.cell? ⟨w.heap.size, 1, none⟩ = some (.slice q5 m5 k5) := by simp [World.cell?, hb]
    have y2 : W.cell? ⟨w.heap.size, 2, none⟩ = some (.string c3) := by simp [World.cell?, hb]
    have z0 : W.cell? ⟨w.heap.size + 1, 0, none⟩ = some (.slice none 0 0) := by simp [World.cell?, hr]
    have z1 : W.cell? ⟨w.heap.size + 1, 1, none⟩ = some (.slice none 0 0) := by simp [World.cell?, hr]
    have z2 : W.cell? ⟨w.heap.size + 1, 2, none⟩ = some (.string ⟨#[]⟩) := by simp [World.cell?, hr]
    have f0 : W.frozen? ⟨w.heap.size + 1, 0, none⟩ = false := by simp [World.frozen?, hr]
    have f1 : W.frozen? ⟨w.heap.size + 1, 1, none⟩ = false := by simp [World.frozen?, hr]
    have f2 : W.frozen? ⟨w.heap.size + 1, 2, none⟩ = false := by simp [World.frozen?, hr]
    have hr9 : (((W.setCell ⟨w.heap.size + 1, 0, none⟩ (.slice q2 m2 k2)).setCell ⟨w.heap.size + 1, 1, none⟩ (.slice q5 m5 k5)).setCell ⟨w.heap.size + 1, 2, none⟩ (.string c3)).heap[w.heap.size + 1]? = some (.cells #[.slice q2 m2 k2, .slice q5 m5 k5, .string c3] 36 (0, 0)) := by
      simp [World.setCell, Array.getElem?_modify, hr]
    have c9 : Chg (fun k => k = w.heap.size + 1) W (((W.setCell ⟨w.heap.size + 1, 0, none⟩ (.slice q2 m2 k2)).setCell ⟨w.heap.size + 1, 1, none⟩ (.slice q5 m5 k5)).setCell ⟨w.heap.size + 1, 2, none⟩ (.string c3)) :=
      (((Chg.refl (fun k => k = w.heap.size + 1) W).setCell (p := ⟨w.heap.size + 1, 0, none⟩) (.inl rfl) _).setCell (p := ⟨w.heap.size + 1, 1, none⟩) (.inl rfl) _).setCell (p := ⟨w.heap.size + 1, 2, none⟩) (.inl rfl) _
    clear hI hall hany e1 e4 e2 e5 hb HP HF
    gi_wp2
    generalize ((W.setCell ⟨w.heap.size + 1, 0, none⟩ (.slice q2 m2 k2)).setCell ⟨w.heap.size + 1, 1, none⟩ (.slice q5 m5 k5)).setCell ⟨w.heap.size + 1, 2, none⟩ (.string c3) = W9 at *
    have r0 : W9.cell? ⟨w.heap.size + 1, 0, none⟩ = some (.slice q2 m2 k2) := by simp [World.cell?, hr9]
    have r1 : W9.cell? ⟨w.heap.size + 1, 1, none⟩ = some (.slice q5 m5 k5) := by simp [World.cell?, hr9]
    have r2 : W9.cell? ⟨w.heap.size + 1, 2, none⟩ = some (.string c3) := by simp [World.cell?, hr9]
    refine bodyPost_ret (v := .agg #[.slice q2 m2 k2, .slice q5 m5 k5, .string c3]) ?_ rfl ⟨_, _, rfl, ?_, ?_, hfin ((cW.mono (fun _ => .inl)).trans (c9.mono (fun _ => .inr)) (Grew.refl _ _))⟩
    · rw [results_cell1 rfl]
      go_simp
    · exact rowBase (own_still o2 c9 (fun k hk e => by have := (World.ownsRow.lt o2 k hk).1; omega)) hsz
    · exact OwnF.base (o5.chg c9 (fun k hk e => by have := (World.ownsRow.lt o5 k hk).1; omega)) hsz

end Go.Proofs.YtconingjdgmodaaDoor

end
section
-- KFind
namespace Go.Proofs.YtconingjdgmodaaDoor
open Go.RowKit Go.Shelf Go.SeqLib Go.DiffLib Go.TreeLib Go.RepoLib Go.BigFrame
attribute [local go_sem] Oper.semAt_some

/-- A commit in a box. -/
def BoxC (W : World) (B : Nat) (D : Blk) (c : Cm) : Prop := ∃ pv tv, W.heap[B]? = some (.cells #[pv, tv, .string c.2.2] 36 (0, 0)) ∧ CmD D W (.agg #[pv, tv, .string c.2.2]) c
theorem BoxC.no {W W' : World} {B : Nat} {D : Blk} {c : Cm} (h : BoxC W B D c) (k : Chg No W W') : BoxC W' B D c := by
  obtain ⟨pv, tv, h1, h2⟩ := h
  exact ⟨pv, tv, k.same h1 (fun h => h), h2.no k⟩

set_option maxHeartbeats 1000000 in
theorem like_in (r1 r2 : Value) (r3 : ByteArray) (x c : Cm) (D D' : Blk) (B : Nat) (hx : x.2.1.length ≤ 1000000) (w : World) (hv : CmD D w (.agg #[r1, r2, .string r3]) x) (hB : BoxC w B D' c) :
    CallsIn Fence.wide 0 Tryd.prog 34 #[.agg #[r1, r2, .string r3], ptr B] w fun e w' => e = .returned (.bool (decide (x = c))) ∧ Chg No w w' := by
  have ca : Chg No w (w.alloc (.cells #[r1, r2, .string r3] 36)) := (Chg.refl _ w).alloc _
  obtain ⟨p, n, k, q, m, l, e, hh⟩ := hv
  cases e
  have hv : CmD D w (.agg #[.slice p n k, .slice q m l, .string x.2.2]) x := ⟨p, n, k, q, m, l, rfl, hh⟩
  obtain ⟨pv, tv, hb, hcB⟩ := hB
  obtain ⟨p', n', k', q', m', l', e, hh'⟩ := hcB
  cases e
  have hu : CmD D' w (.agg #[.slice p' n' k', .slice q' m' l', .string c.2.2]) c := ⟨p', n', k', q', m', l', rfl, hh'⟩
  have b1 := ca.same hb (fun h => h)
  have y0 : (w.alloc (.cells #[.slice p n k, .slice q m l, .string x.2.2] 36)).cell? ⟨B, 0, none⟩ = some (.slice p' n' k') := by unfold World.cell?; rw [b1]; rfl
  have y1 : (w.alloc (.cells #[.slice p n k, .slice q m l, .string x.2.2] 36)).cell? ⟨B, 1, none⟩ = some (.slice q' m' l') := by unfold World.cell?; rw [b1]; rfl
  have y2 : (w.alloc (.cells #[.slice p n k, .slice q m l, .string x.2.2] 36)).cell? ⟨B, 2, none⟩ = some (.string c.2.2) := by unfold World.cell?; rw [b1]; rfl
  have A1 := alike_in _ _ x c _ _ hx _ (hv.no ca) (hu.no ca)
  generalize decide (x = c) = u at A1 ⊢
  clear hh hh' hv hu hb b1
  refine callsIn_of_wp Tryd.func34 rfl trivial ?_
  simp only [Tryd.ntmps34, List.size_toArray, List.length_cons, List.length_nil, Nat.reduceAdd, Nat.reduceSub, Array.replicate_succ, Array.replicate_zero, List.push_toArray, List.append_toArray, List.nil_append, List.cons_append]
  gi_wp2_with fail
  refine ⟨trivial, rfl, A1.mono ?_⟩
  rintro e w2 ⟨rfl, c2⟩
  gi_wp2
  go_ret
  exact ⟨rfl, Chg.seq ca c2⟩

theorem like_enters : ∀ args w, (callFunc 34 args).run Tryd.prog w = .ok (.enter 34 args) w := enters_of Tryd.func34 (by kernel_rfl) rfl

set_option maxRecDepth 100000 in
set_option maxHeartbeats 4000000 in
theorem indexC_in (B0 : Nat) (s : Rp) (p0 : Option Addr) (n cap : Nat) (rows : List Rw) (D D' : Blk) (c : Cm) (B : Nat) (w : World) (h : KRep B0 s (.slice p0 n cap) rows D w) (hn : s.1.length = n) (hl : n ≤ 1000) (hB : BoxC w B D' c) :
    CallsIn Fence.wide 0 Tryd.prog 36 #[.slice p0 n cap, .func (.func 34) #[] #[ptr B]] w fun e w' => e = .returned (iv ((findC s.1 c : Nat) - 1)) ∧ Chg No w w' := by
  have HN : Hid (s.1.length = n) := hn
  clear hn
  obtain ⟨F, hF⟩ : ∃ F, findC s.1 c = F := ⟨_, rfl⟩
  have HF : Hid (findC s.1 c = F) := hF
  rw [hF]
  clear hF
  have ef := like_enters
  refine callsIn_of_wp Tryd.func36 rfl trivial ?_
  simp only [Tryd.ntmps36, List.size_toArray, List.length_cons, List.length_nil, Nat.reduceAdd, Nat.reduceSub, Array.replicate_succ, Array.replicate_zero, List.push_toArray, List.append_toArray, List.nil_append, List.cons_append]
  gi_wp2
  gi_loopw [8] (fun i wr => ∃ k : Nat, k ≤ n ∧ i = .int .i64 (k : Int) ∧ Hid (∀ y ∈ s.1.take k, ¬ y = c) ∧ Chg No w wr) (fun i _ => n - (intOf i).toNat)
  case atStart => exact ⟨0, Nat.zero_le _, rfl, fun f hf => by simp at hf, Chg.refl _ _⟩
  case round =>
    obtain ⟨k, hk, rfl, HT, ck⟩ := hrel
    by_cases hlt : k < n
    · have hlt' : (k : Int) < (n : Int) := by omega
      obtain ⟨x, hx⟩ : ∃ x, s.1[k]? = some x := ⟨_, List.getElem?_eq_getElem (by rw [HN.out]; exact hlt)⟩
      obtain ⟨⟨r1, r2, r3⟩, b1, o1, _, rfl, f1, f2, f3, hcx⟩ := (h.no ck).cell hx
      dsimp only at f1 f2 f3 hcx
      have hxs : x.2.1.length ≤ 1000000 := by have := (h.small x (List.mem_of_getElem? hx)).2.1; omega
      have U1 := like_in r1 r2 r3 x c _ _ B hxs wr hcx (hB.no ck)
      obtain ⟨u, HU⟩ : ∃ u, Hid (decide (x = c) = u) := ⟨_, rfl⟩
      rw [HU.out] at U1
      clear hcx hxs
      gi_wp2_with fail
      refine ⟨trivial, rfl, U1.mono ?_⟩
      rintro e w1 ⟨rfl, c1⟩
      cases u with
      | true =>
        have HE : Hid (F = k + 1) := by
          show _ = _
          rw [← HF.out]
          have : x = c := of_decide_eq_true HU.out
          exact findC_here (by rw [hx, this]) HT.out
        gi_wp2
        go_ret
        refine ⟨?_, Chg.seq ck c1⟩
        rw [HE.out]
        show _ = Ending.returned (iv (((k + 1 : Nat) : Int) - 1))
        rw [show (((k + 1 : Nat) : Int) - 1) = (k : Int) by omega]
        rfl
      | false =>
        have HT2 : Hid (∀ y ∈ s.1.take (k + 1), ¬ y = c) := by
          intro y hy
          rw [List.take_add_one, hx] at hy
          rcases List.mem_append.1 hy with h | h
          · exact HT.out y h
          · rw [List.mem_singleton.1 h]; exact of_decide_eq_false HU.out
        gi_wp2
        refine ⟨⟨k + 1, hlt, by go_num, HT2, Chg.seq ck c1⟩, by simp [intOf]; omega⟩
    · have hlt' : ¬ (k : Int) < (n : Int) := by omega
      have HE : Hid (F = 0) := by
        show _ = _
        rw [← HF.out]
        refine findC_zero.2 (fun hm => HT.out c ?_ rfl)
        rw [List.take_of_length_le (by rw [HN.out]; omega)]
        exact hm
      gi_wp2
      go_ret
      exact ⟨by rw [HE.out]; rfl, ck⟩

set_option maxHeartbeats 1000000 in
theorem find_in (B : Nat) (s : Rp) (lv : Value) (rows : List Rw) (v : Value) (c : Cm) (D D' : Blk) (w : World) (h : KRep B s lv rows D w) (hv : CmD D' w v c) (hl : s.1.length ≤ 1000) :
    CallsIn Fence.wide 0 Tryd.prog 17 #[ptr B, v] w fun e w' => e = .returned (iv (findC s.1 c : Nat)) ∧ Chg No w w' := by
  have hnil := ptr_nil B
  obtain ⟨p, n, k, q, m, l, rfl, hh⟩ := hv
  have hv : CmD D' w (.agg #[.slice p n k, .slice q m l, .string c.2.2]) c := ⟨p, n, k, q, m, l, rfl, hh⟩
  have ca : Chg No w (w.alloc (.cells #[.slice p n k, .slice q m l, .string c.2.2] 36)) := (Chg.refl _ w).alloc _
  have hb : BoxC (w.alloc (.cells #[.slice p n k, .slice q m l, .string c.2.2] 36)) w.heap.size D' c := ⟨_, _, World.alloc_heap_new w _, hv.no ca⟩
  have h1 := h.no ca
  obtain ⟨p0, cap, rfl⟩ := h.slice
  obtain ⟨_, y1, _, _⟩ := h1.cells
  have X1 := indexC_in B s p0 _ cap rows D D' c w.heap.size _ h1 rfl hl hb
  have hF : findC s.1 c ≤ s.1.length := by
    by_cases e : findC s.1 c = 0
    · omega
    · exact (findC_get e).2
  generalize findC s.1 c = F at X1 hF ⊢
  generalize s.1.length = N at *
  clear h hh hv hb h1
  refine callsIn_of_wp Tryd.func17 rfl trivial ?_
  simp only [Tryd.ntmps17, List.size_toArray, List.length_cons, List.length_nil, Nat.reduceAdd, Nat.reduceSub, Array.replicate_succ, Array.replicate_zero, List.push_toArray, List.append_toArray, List.nil_append, List.cons_append]
  gi_wp2_with fail
  refine ⟨trivial, rfl, X1.mono ?_⟩
  rintro e w2 ⟨rfl, c2⟩
  gi_wp2
  go_ret
  exact ⟨rfl, Chg.seq ca c2⟩
set_option maxHeartbeats 1000000 in
theorem findN_in (v : Value) (c : Cm) (D' : Blk) (w : World) (hv : CmD D' w v c) :
    CallsIn Fence.wide 0 Tryd.prog 17 #[.pointer none, v] w fun e w' => e = .returned (iv 0) ∧ Chg No w w' := by
  have hnil := nil_nil
  obtain ⟨p, n, k, q, m, l, rfl, hh⟩ := hv
  clear hh
  refine callsIn_of_wp Tryd.func17 rfl trivial ?_
  simp only [Tryd.ntmps17, List.size_toArray, List.length_cons, List.length_nil, Nat.reduceAdd, Nat.reduceSub, Array.replicate_succ, Array.replicate_zero, List.push_toArray, List.append_toArray, List.nil_append, List.cons_append]
  gi_wp2
  go_ret
  exact ⟨rfl, (Chg.refl _ w).alloc _⟩

end Go.Proofs.YtconingjdgmodaaDoor

end
section
-- KAdd
namespace Go.Proofs.YtconingjdgmodaaDoor
open Go.RowKit Go.Shelf Go.SeqLib Go.DiffLib Go.TreeLib Go.RepoLib Go.BigFrame
attribute [local go_sem] Oper.semAt_some

/-- A commit's value as a row. -/
def rwOf (nt : ByteArray) (v : Value) : Rw := match v with | .agg a => (a.getD 0 undef, a.getD 1 undef, nt) | _ => (undef, undef, nt)
theorem SlE.one_lt' {g : Nat} {W : World} {x : Rw} {v : Value} (h : SlE 3 eM W v [x]) (hv : v.ownBlock = some g) : g < W.heap.size := SlE.lt eM_len (by decide) h g ⟨by simp, hv⟩
/-- What holds while one commit more is taken. -/
structure PutInvC (W0 : World) (B : Nat) (lv rv : Value) (rows : List Rw) (nt : ByteArray) (ps : List Int) (zs : List Fl) (d : Nat → Bool) (u : Nat → Value) (W : World) : Prop where
  chg : Chg (refS B lv) W0 W
  v2 : u 2 = ptr B
  v4 : u 4 = lv
  v9 : u 9 = ptr B
  v6 : ∃ q m k q' m' k', u 6 = .agg #[.slice q m k, .slice q' m' k', .string nt]
  v7 : ∃ q m k, u 7 = .slice q m k
  v8 : ∃ q m k, u 8 = .slice q m k
  o7 : d 7 = true → d 6 = true
  o8 : d 8 = true → d 4 = true ∧ d 7 = true
  o11 : d 11 = true → d 8 = true
  f4 : d 8 = false → OwnM W 0 lv rows
  f6 : d 6 = true → OwnI W W0.heap.size (rwOf nt (u 6)).1 ps ∧ OwnF W W0.heap.size (rwOf nt (u 6)).2.1 zs
  f7 : d 7 = true → d 8 = false → SlE 3 eM W (u 7) [rwOf nt (u 6)] ∧ ∀ k, (u 7).ownBlock = some k → W0.heap.size ≤ k
  f8 : d 8 = true → OwnM W 0 (u 8) (rows ++ [rwOf nt (u 6)]) ∧ ∀ k, (u 8).ownBlock = some k → lv.ownBlock = some k ∨ W0.heap.size ≤ k
  box : W.heap[B]? = some (.cells #[rv, if d 11 = true then u 8 else lv] 55 (0, 0))
section
variable {W0 W W' : World} {B : Nat} {lv rv : Value} {rows : List Rw} {nt : ByteArray} {ps : List Int} {zs : List Fl} {d : Nat → Bool} {u : Nat → Value}
theorem PutInvC.s4 (h : PutInvC W0 B lv rv rows nt ps zs d u W) : PutInvC W0 B lv rv rows nt ps zs (fun j => if j = 4 then true else d j) (fun j => if j = 4 then lv else u j) W :=
  ⟨h.chg, h.v2, rfl, h.v9, h.v6, h.v7, h.v8, fun e => h.o7 e, fun e => ⟨rfl, (h.o8 e).2⟩, fun e => h.o11 e, fun e => h.f4 e, fun e => h.f6 e, fun e1 e2 => h.f7 e1 e2, fun e => h.f8 e, h.box⟩
theorem PutInvC.s2 (h : PutInvC W0 B lv rv rows nt ps zs d u W) : PutInvC W0 B lv rv rows nt ps zs (fun j => if j = 2 then true else d j) (fun j => if j = 2 then ptr B else u j) W :=
  ⟨h.chg, rfl, h.v4, h.v9, h.v6, h.v7, h.v8, fun e => h.o7 e, fun e => h.o8 e, fun e => h.o11 e, fun e => h.f4 e, fun e => h.f6 e, fun e1 e2 => h.f7 e1 e2, fun e => h.f8 e, h.box⟩
theorem PutInvC.s9 (h : PutInvC W0 B lv rv rows nt ps zs d u W) : PutInvC W0 B lv rv rows nt ps zs (fun j => if j = 9 then true else d j) (fun j => if j = 9 then ptr B else u j) W :=
  ⟨h.chg, h.v2, h.v4, rfl, h.v6, h.v7, h.v8, fun e => h.o7 e, fun e => h.o8 e, fun e => h.o11 e, fun e => h.f4 e, fun e => h.f6 e, fun e1 e2 => h.f7 e1 e2, fun e => h.f8 e, h.box⟩
theorem PutInvC.n8 (h : PutInvC W0 B lv rv rows nt ps zs d u W) (h7 : d 7 = false) : d 8 = false := by
  cases e : d 8 with
  | false => rfl
  | true => have := (h.o8 e).2; rw [h7] at this; cases this
theorem PutInvC.n7 (h : PutInvC W0 B lv rv rows nt ps zs d u W) (h6 : d 6 = false) : d 7 = false := by
  cases e : d 7 with
  | false => rfl
  | true => have := h.o7 e; rw [h6] at this; cases this
theorem PutInvC.n11 (h : PutInvC W0 B lv rv rows nt ps zs d u W) (h8 : d 8 = false) : d 11 = false := by
  cases e : d 11 with
  | false => rfl
  | true => have := h.o11 e; rw [h8] at this; cases this
theorem PutInvC.s6 (h : PutInvC W0 B lv rv rows nt ps zs d u W) (hd : d 6 = false) {pv tv : Value} (c : Chg No W W') (h1 : OwnI W' W0.heap.size pv ps) (h2 : OwnF W' W0.heap.size tv zs) :
    PutInvC W0 B lv rv rows nt ps zs (fun j => if j = 6 then true else d j) (fun j => if j = 6 then .agg #[pv, tv, .string nt] else u j) W' := by
  have h7 := h.n7 hd
  have h8 := h.n8 h7
  have h11 := h.n11 h8
  obtain ⟨p1, k1, e1⟩ := row_slice h1
  obtain ⟨p2, k2, e2⟩ := row_slice h2
  refine ⟨h.chg.trans c (fun _ h => h.elim), h.v2, h.v4, h.v9, ⟨p1, _, k1, p2, _, k2, by rw [← e1, ← e2]; rfl⟩, h.v7, h.v8, fun _ => rfl, fun e => h.o8 e, fun e => h.o11 e, fun e => own_still (h.f4 e) c (fun _ _ h => h), fun _ => ⟨h1, h2⟩, fun e _ => ?_, fun e => ?_, ?_⟩
  · have e' : d 7 = true := e
    rw [h7] at e'; cases e'
  · have e' : d 8 = true := e
    rw [h8] at e'; cases e'
  · have hb := h.box
    rw [h11, if_neg Bool.false_ne_true] at hb
    show W'.heap[B]? = some (.cells #[rv, if d 11 = true then u 8 else lv] _ _)
    rw [h11, if_neg Bool.false_ne_true]
    exact c.same hb (fun h => h)
theorem PutInvC.s7 (h : PutInvC W0 B lv rv rows nt ps zs d u W) (hd : d 7 = false) (h6 : d 6 = true) {pv tv : Value} (e6 : u 6 = .agg #[pv, tv, .string nt]) :
    PutInvC W0 B lv rv rows nt ps zs (fun j => if j = 7 then true else d j) (fun j => if j = 7 then .slice (some ⟨W.heap.size, 0, none⟩) 1 1 else u j) (W.alloc (.cells #[pv, tv, .string nt] 36)) := by
  have h8 := h.n8 hd
  have c : Chg No W (W.alloc (.cells #[pv, tv, .string nt] 36)) := (Chg.refl _ W).alloc _
  refine ⟨h.chg.alloc _, h.v2, h.v4, h.v9, h.v6, ⟨_, _, _, rfl⟩, h.v8, fun _ => h6, fun e => ⟨(h.o8 e).1, rfl⟩, fun e => h.o11 e, fun e => own_still (h.f4 e) c (fun _ _ h => h), fun e => ⟨own_still (h.f6 e).1 c (fun _ _ h => h), own_still (h.f6 e).2 c (fun _ _ h => h)⟩, fun _ _ => ⟨?_, fun k hk => ?_⟩, fun e => ?_, c.same h.box (fun h => h)⟩
  · have hr : rwOf nt (u 6) = (pv, tv, nt) := by rw [e6]; rfl
    show SlE 3 eM _ (.slice (some ⟨W.heap.size, 0, none⟩) 1 1) [rwOf nt (u 6)]
    rw [hr]
    exact SlM.one W (pv, tv, nt)
  · cases hk
    exact h.chg.size
  · have e' : d 8 = true := e
    rw [h8] at e'; cases e'
theorem PutInvC.s8 (h : PutInvC W0 B lv rv rows nt ps zs d u W) (hne : ¬ lv.ownBlock = some B) (hd : d 8 = false) (h4 : d 4 = true) (h7 : d 7 = true) {v : Value} (hg : W.grownBy W' lv.ownBlock) (ho : OwnM W' 0 v (rows ++ [rwOf nt (u 6)])) (hat : v.ownBlock = lv.ownBlock ∨ v.ownBlock = some W.heap.size) (hlt : ∀ k, lv.ownBlock = some k → k < W0.heap.size) :
    PutInvC W0 B lv rv rows nt ps zs (fun j => if j = 8 then true else d j) (fun j => if j = 8 then v else u j) W' := by
  have h11 := h.n11 hd
  have h6 := h.o7 h7
  have c : Chg (fun k => lv.ownBlock = some k) W W' := (Chg.refl (fun k => lv.ownBlock = some k) W).grown hg (fun k e => .inl e)
  obtain ⟨p', c', e'⟩ := row_slice ho
  refine ⟨h.chg.trans c (fun k hk => .inl (.inr hk)), h.v2, h.v4, h.v9, h.v6, h.v7, ⟨p', _, c', e'⟩, fun e => h.o7 e, fun _ => ⟨h4, h7⟩, fun e => rfl, fun e => (by cases e), fun e => ⟨own_still (h.f6 e).1 c (fun k hk e => ?_), own_still (h.f6 e).2 c (fun k hk e => ?_)⟩, fun _ e => (by cases e), fun _ => ⟨ho, fun k hk => ?_⟩, ?_⟩
  · have := (World.ownsRow.lt (h.f6 h6).1 k hk).1
    have := hlt k e
    omega
  · have := (World.ownsRow.lt (h.f6 h6).2 k hk).1
    have := hlt k e
    omega
  · have hk' : v.ownBlock = some k := hk
    rcases hat with e | e
    · exact .inl (by rw [← e]; exact hk')
    · rw [e] at hk'
      cases hk'
      exact .inr h.chg.size
  · have hb := h.box
    rw [h11, if_neg Bool.false_ne_true] at hb
    show W'.heap[B]? = some (.cells #[rv, if d 11 = true then v else lv] _ _)
    rw [h11, if_neg Bool.false_ne_true]
    exact c.same hb hne
theorem PutInvC.s11 (h : PutInvC W0 B lv rv rows nt ps zs d u W) (hB : B < W0.heap.size) (hne : ¬ lv.ownBlock = some B) (h8 : d 8 = true) (v : Value) :
    PutInvC W0 B lv rv rows nt ps zs (fun j => if j = 11 then true else d j) (fun j => if j = 11 then v else u j) (W.setCell ⟨B, 1, none⟩ (u 8)) := by
  have c : Chg (fun k => k = B) W (W.setCell ⟨B, 1, none⟩ (u 8)) := (Chg.refl (fun k => k = B) W).setCell (p := ⟨B, 1, none⟩) (.inl rfl) _
  refine ⟨h.chg.trans c (fun k hk => .inl (.inl hk)), h.v2, h.v4, h.v9, h.v6, h.v7, h.v8, fun e => h.o7 e, fun e => h.o8 e, fun _ => h8, fun e => ?_, fun e => ⟨own_still (h.f6 e).1 c (fun k hk e' => ?_), own_still (h.f6 e).2 c (fun k hk e' => ?_)⟩, fun e1 e2 => ?_, fun _ => ⟨own_still (h.f8 h8).1 c (fun k hk e => ?_), fun k hk => (h.f8 h8).2 k hk⟩, ?_⟩
  · have e' : d 8 = false := e
    rw [h8] at e'; cases e'
  · have := (World.ownsRow.lt (h.f6 e).1 k hk).1; omega
  · have := (World.ownsRow.lt (h.f6 e).2 k hk).1; omega
  · have e' : d 8 = false := e2
    rw [h8] at e'; cases e'
  · subst e
    rcases (h.f8 h8).2 k hk with h1 | h1
    · exact hne h1
    · omega
  · have := h.box
    show (W.setCell ⟨B, 1, none⟩ (u 8)).heap[B]? = some (.cells #[rv, u 8] _ _)
    simp [World.setCell, Array.getElem?_modify, this]
end

/-- The landed repo, behind a call. -/
def LOut (B : Nat) (s' : Rp) (lv : Value) (D : Blk) (w w' : World) : Prop := ∃ lv' rows' D', KRep B s' lv' rows' D' w' ∧ Chg (refS B lv) w w' ∧ Grew (fun k => refS B lv k ∨ D k) w (fun k => refS B lv' k ∨ D' k) ∧ Grew (refS B lv) w (refS B lv')
theorem LOut.same {B : Nat} {s : Rp} {lv : Value} {rows : List Rw} {D : Blk} {w w' : World} (h : KRep B s lv rows D w') (c : Chg No w w') : LOut B s lv D w w' :=
  ⟨lv, rows, D, h, c.mono (fun _ h => h.elim), Grew.refl _ _, Grew.refl _ _⟩

set_option maxRecDepth 100000 in
set_option maxHeartbeats 8000000 in
theorem add_in (B : Nat) (s : Rp) (lv : Value) (rows : List Rw) (D E : Blk) (v : Value) (c : Cm) (w : World) (h : KRep B s lv rows D w) (hv : CmD E w v c) (hE : ∀ k, E k → ¬ refS B lv k) (hl : s.1.length ≤ 200) (hc : SmallC c) :
    CallsIn Fence.wide 0 Tryd.prog 12 #[ptr B, v] w fun e w' => e = .returned (.tuple #[iv ((addC s c).2.1 : Nat), iv ((addC s c).2.2 : Nat)]) ∧ LOut B (addC s c).1 lv D w w' := by
  have hmix : Tryd.prog.follows .mixedOrders = true := by kernel_rfl
  have hnil := ptr_nil B
  have hv0 := hv
  obtain ⟨p, n, k0, q, m, l, rfl, h1, h2, h3, h4⟩ := hv
  obtain rfl : n = c.1.length := by obtain ⟨_, _, e, _⟩ := h1; cases e; simp
  obtain ⟨W1, hW1⟩ : ∃ W1, w.alloc (.cells #[.slice p c.1.length k0, .slice q m l, .string c.2.2] 36) = W1 := ⟨_, rfl⟩
  have ca : Chg No w W1 := hW1 ▸ (Chg.refl _ w).alloc _
  have x0 : W1.heap[w.heap.size]? = some (.cells #[.slice p c.1.length k0, .slice q m l, .string c.2.2] 36 (0, 0)) := hW1 ▸ World.alloc_heap_new w _
  have HX : Hid (∀ W, Chg No W1 W → W.cell? ⟨w.heap.size, 0, none⟩ = some (.slice p c.1.length k0) ∧ W.cell? ⟨w.heap.size, 1, none⟩ = some (.slice q m l) ∧ W.cell? ⟨w.heap.size, 2, none⟩ = some (.string c.2.2)) := fun W cW => by
    have z0 := cW.same x0 (fun h => h)
    refine ⟨?_, ?_, ?_⟩ <;> simp [World.cell?, z0]
  obtain ⟨y0, y1, y2⟩ := HX.out W1 (Chg.refl _ _)
  have hr1 := h.no ca
  have hv1 := hv0.no ca
  have M1 := mayR_in _ c _ W1 hv1 hc
  obtain ⟨np, hnp⟩ : ∃ np, c.1.length = np := ⟨_, rfl⟩
  have HNP : Hid (c.1.length = np) := hnp
  rw [hnp] at y0 h1 HX hv1 M1 hW1 ⊢
  have hnp5 : np ≤ 5 := by rw [← hnp]; exact hc.1
  have HA : Hid (addC s c = if mayC c = false then (s, 0, 6) else if c.1.all (hasN s.1.length) = false then (s, 0, 7) else if findC s.1 c = 0 then (if s.2 ≤ s.1.length then (s, 0, 3) else ((s.1 ++ [c], s.2), s.1.length + 1, 0)) else (s, findC s.1 c, 0)) := rfl
  obtain ⟨A, hA⟩ : ∃ A, addC s c = A := ⟨_, rfl⟩
  rw [hA] at HA ⊢
  have g1 := h1.no ca
  clear x0 h1 h2 h3 h4 hnp hA hv0
  refine callsIn_of_wp Tryd.func12 rfl trivial ?_
  simp only [Tryd.ntmps12, List.size_toArray, List.length_cons, List.length_nil, Nat.reduceAdd, Nat.reduceSub, Array.replicate_succ, Array.replicate_zero, List.push_toArray, List.append_toArray, List.nil_append, List.cons_append]
  gi_wp2_with fail
  refine ⟨trivial, rfl, M1.mono ?_⟩
  rintro e w2 ⟨rfl, c2⟩
  have c02 := Chg.seq ca c2
  have hr2 := hr1.no c2
  generalize mayC c = mb at HA ⊢
  cases mb with
  | false =>
    obtain rfl : A = (s, 0, 6) := by rw [HA.out, if_pos rfl]
    gi_wp2
    go_ret2
    exact ⟨rfl, LOut.same hr2 c02⟩
  | true =>
  rw [if_neg (by decide)] at HA
  clear M1 hr1
  have HX2 : Hid (∀ W, Chg No w2 W → W.cell? ⟨w.heap.size, 0, none⟩ = some (.slice p np k0) ∧ W.cell? ⟨w.heap.size, 1, none⟩ = some (.slice q m l) ∧ W.cell? ⟨w.heap.size, 2, none⟩ = some (.string c.2.2)) := fun W cW => HX.out W (Chg.seq c2 cW)
  have hv2 := hv1.no c2
  have g2 := g1.no c2
  clear y0 y1 y2 HX hv1 g1 hW1
  obtain ⟨y0, y1, y2⟩ := HX2.out _ (Chg.refl _ _)
  have A1 := hasAll_in B s lv rows D p np k0 c.1 HNP.out hnp5 _ hr2 g2
  generalize c.1.all (hasN s.1.length) = ab at HA A1
  gi_wp2_with fail
  refine ⟨trivial, rfl, A1.mono ?_⟩
  rintro e w3 ⟨rfl, hw3⟩
  subst hw3
  clear A1 g2
  cases ab with
  | false =>
    obtain rfl : A = (s, 0, 7) := by rw [HA.out, if_pos rfl]
    gi_wp2
    go_ret2
    exact ⟨rfl, LOut.same hr2 c02⟩
  | true =>
  rw [if_neg (by decide)] at HA
  have F1 := find_in B s lv rows _ c D _ _ hr2 hv2 (by omega)
  gi_wp2_with fail
  refine ⟨trivial, rfl, F1.mono ?_⟩
  rintro e w3 ⟨rfl, c3⟩
  have c03 := Chg.seq c02 c3
  have hr3 := hr2.no c3
  have hv3 := hv2.no c3
  obtain ⟨z0, z1, z2⟩ := HX2.out _ c3
  obtain ⟨f, hf⟩ : ∃ f, findC s.1 c = f := ⟨_, rfl⟩
  rw [hf] at HA ⊢
  clear F1 hf hr2 hv2 y0 y1 y2
  by_cases hf0 : 0 < f
  · have hf1 : (0 : Int) < (f : Int) := by omega
    obtain rfl : A = (s, f, 0) := by rw [HA.out, if_neg (by omega)]
    gi_wp2
    go_ret2
    exact ⟨rfl, LOut.same hr3 c03⟩
  · obtain rfl : f = 0 := by omega
    rw [if_pos rfl] at HA
    obtain ⟨pv, kv, rfl⟩ := hr3.slice
    obtain ⟨t0, t1, t2, t3⟩ := hr3.cells
    have L1 : ∀ d : After w3, CallsIn Fence.wide 0 Tryd.prog 23 #[ptr B] d.val fun e w' => e = .returned (iv (s.1.length : Nat)) ∧ Chg No d.val w' := fun d => (len_in B s _ rows D d.val (hr3.no d.chg)).mono (by rintro e w' ⟨rfl, rfl⟩; exact ⟨rfl, Chg.refl _ _⟩)
    obtain ⟨N, hN⟩ : ∃ N, s.1.length = N := ⟨_, rfl⟩
    obtain ⟨R, hR⟩ : ∃ R, s.2 = R := ⟨_, rfl⟩
    have HNR : Hid (s.1.length = N ∧ s.2 = R) := ⟨hN, hR⟩
    rw [hN] at t1 HA hl L1
    rw [hR] at t0 HA
    have hany := After.any w3
    have g0 : ∀ d : After w3, d.val.cell? ⟨B, 0, none⟩ = some (iv (R : Nat)) := fun d => d.cell t0
    clear hN hR
    gi_wp2
    by_cases hfull : R ≤ N
    · obtain rfl : A = (s, 0, 3) := by rw [HA.out, if_pos hfull]
      have hfd : decide (R ≤ N) = true := decide_eq_true hfull
      have hfi : (R : Int) ≤ (N : Int) := by omega
      refine region_quietC hmix (by kernel_rfl) ?_
      repeat (gi_big_quiet_step (fail))
      refine wpQuietIn_want (fun _ _ _ _ => trivial) rfl ?_
      intro KQ hKQ
      gi_big_quiet_op
      gi_big_quiet_call (exact ⟨rfl, (L1 _).mono (by rintro e w'' ⟨rfl, c'⟩; exact ⟨rfl, After.more _ c'⟩)⟩)
      repeat (gi_big_quiet_step (fail))
      refine wpQuietIn_nil ?_
      rintro w' ⟨d, rfl⟩
      gi_wp2
      go_ret2
      exact ⟨rfl, LOut.same (hr3.no d.chg) (Chg.seq c03 d.chg)⟩
    · obtain rfl : A = ((s.1 ++ [c], s.2), N + 1, 0) := by rw [HA.out, if_neg hfull, HNR.out.2]
      have hfd : decide (R ≤ N) = false := decide_eq_false hfull
      have hfi : ¬ (R : Int) ≤ (N : Int) := by omega
      refine region_quietC hmix (by kernel_rfl) ?_
      repeat (gi_big_quiet_step (fail))
      refine wpQuietIn_want (fun _ _ _ _ => trivial) rfl ?_
      intro KQ hKQ
      gi_big_quiet_op
      gi_big_quiet_call (exact ⟨rfl, (L1 _).mono (by rintro e w'' ⟨rfl, c'⟩; exact ⟨rfl, After.more _ c'⟩)⟩)
      repeat (gi_big_quiet_step (fail))
      refine wpQuietIn_nil ?_
      rintro w' ⟨dd, rfl⟩
      have cj := dd.chg
      clear L1 g0 hany
      generalize dd.val = W4 at *
      have hr4 := hr3.no cj
      have hv4 := hv3.no cj
      have c04 := Chg.seq c03 cj
      obtain ⟨t4, t5, t6, t7⟩ := hr4.cells
      rw [HNR.out.2] at t4
      rw [HNR.out.1] at t5
      have hBw : B < w.heap.size := h.ltO B (.inl rfl)
      have hB4 : B < W4.heap.size := hr4.ltO B (.inl rfl)
      have hlt4 : ∀ k, (Value.slice pv s.1.length kv).ownBlock = some k → k < W4.heap.size := fun k hk => hr4.ltO k (.inr hk)
      have hlvB := hr4.ne
      have hlvw : ¬ (Value.slice pv s.1.length kv).ownBlock = some w.heap.size := fun e => by have := h.ltO _ (.inr e); omega
      obtain ⟨z0', z1', z2'⟩ := HX2.out _ (Chg.seq c3 cj)
      rw [HNR.out.1] at hlt4 hlvB hlvw hE
      have hne : ¬ refS B (.slice pv N kv) w.heap.size := fun e => by
        rcases e with e | e
        · omega
        · exact hlvw e
      have hany : Nonempty (AfterB (refS B (.slice pv N kv)) W4) := AfterB.any _ _
      have f0 : ∀ d : AfterB (refS B (.slice pv N kv)) W4, d.val.cell? ⟨w.heap.size, 0, none⟩ = some (.slice p np k0) := fun d => d.cell z0' hne
      have f1 : ∀ d : AfterB (refS B (.slice pv N kv)) W4, d.val.cell? ⟨w.heap.size, 1, none⟩ = some (.slice q m l) := fun d => d.cell z1' hne
      have f2 : ∀ d : AfterB (refS B (.slice pv N kv)) W4, d.val.cell? ⟨w.heap.size, 2, none⟩ = some (.string c.2.2) := fun d => d.cell z2' hne
      have hone := hr4.red.one
      have hrl : rows.length = N := by rw [hr4.red.len, HNR.out.1]
      have hbox := hr4.box
      have hown := hr4.own
      rw [HNR.out.1] at hbox hown
      rw [HNR.out.2] at hbox
      have Hr4 : Hid _ := hr4
      have HE : Hid _ := hE
      have hvW : ∀ W, Chg (refS B (.slice pv N kv)) W4 W → CmD E W (.agg #[.slice p np k0, .slice q m l, .string c.2.2]) c := fun W cW => hv4.chg cW (fun j hj => HE.out j hj)
      clear hr3 hv3 z0 z1 z2 z0' z1' z2' t0 t1 t2 t3 hr4 cj c3 c03 hfd hfi hfull HX2 hE
      gi_wp2
      refine region_loudG (fun i => i == 2 || i == 4 || i == 6 || i == 7 || i == 8 || i == 9 || i == 11) (fun w' => ∃ d : AfterB (refS B (.slice pv N kv)) W4, w' = d.val) (PutInvC W4 B (.slice pv N kv) (iv (R : Int)) rows c.2.2 c.1 c.2.1)
        (fun j => if j = 4 then .slice pv N kv else if j = 2 then ptr B else if j = 9 then ptr B else if j = 6 then .agg #[.slice none 0 0, .slice none 0 0, .string c.2.2] else .slice none 0 0) hmix (by kernel_rfl) (by kernel_rfl) (fun d u W hI => ⟨⟨W, hI.chg⟩, rfl⟩)
        ⟨(Chg.refl _ W4).drew, rfl, rfl, rfl, ⟨none, 0, 0, none, 0, 0, rfl⟩, ⟨none, 0, 0, rfl⟩, ⟨none, 0, 0, rfl⟩, fun h => (by cases h), fun h => (by cases h), fun h => (by cases h), fun _ => hown, fun h => (by cases h), fun h => (by cases h), fun h => (by cases h), hbox⟩ (fun u hu => ?_)
      obtain ⟨_, _, hu⟩ := hu
      have e2 := hu.v2
      have e4 := hu.v4
      have e9 := hu.v9
      obtain ⟨q6, m6, k6, q6', m6', k6', e6⟩ := hu.v6
      obtain ⟨q7, m7, k7, e7⟩ := hu.v7
      obtain ⟨q8, m8, k8, e8⟩ := hu.v8
      clear hu
      simp only [hushE, Nat.reduceAdd, Nat.reduceBEq, Bool.or_self, Bool.or_true, Bool.or_false, if_true, if_false, Bool.false_eq_true]
      simp only [e2, e4, e6, e7, e8, e9]
      repeat (gi_big_quiet_step (fail))
      refine wpQuietIn_nil ⟨?_, ?_, ?_⟩
      · intro i oo ho hm
        simp only [Bool.or_eq_true, beq_iff_eq] at hm
        rcases hm with (((((rfl | rfl) | rfl) | rfl) | rfl) | rfl) | rfl
        all_goals (cases ho; rfl)
      · intro i oo d W hjo hm hd hwt hI
        simp only [Bool.or_eq_true, beq_iff_eq] at hm
        rcases hm with (((((rfl | rfl) | rfl) | rfl) | rfl) | rfl) | rfl
        · cases hjo
          refine LeadsV.value (v := ptr B) (w' := W) ?_ hI.s2
          simp [go_sem]
        · cases hjo
          have h8 : d 8 = false := by
            cases e : d 8 with
            | false => rfl
            | true => have := (hI.o8 e).1; rw [hd] at this; cases this
          have hb := hI.box
          rw [hI.n11 h8, if_neg Bool.false_ne_true] at hb
          have kb : W.cell? ⟨B, 1, none⟩ = some (.slice pv N kv) := by simp [World.cell?, hb]
          refine LeadsV.value (v := .slice pv N kv) (w' := W) ?_ hI.s4
          simp [go_sem, kb]
        · cases hjo
          refine LeadsV.call (f := 29) (args := #[.agg #[.slice p np k0, .slice q m l, .string c.2.2]]) (by simp [go_sem]) ((own_in _ c E W (hvW W hI.chg) hc).mono ?_)
          rintro e w5 ⟨v5, v6, rfl, ho1, ho2, c5⟩
          exact ⟨_, rfl, hI.s6 hd c5 (rowBase ho1 hI.chg.size) (ho2.base hI.chg.size)⟩
        · cases hjo
          have h6 := hwt 6 rfl (by kernel_rfl)
          refine LeadsV.value (v := .slice (some ⟨W.heap.size, 0, none⟩) 1 1) (w' := W.alloc (.cells #[.slice q6 m6 k6, .slice q6' m6' k6', .string c.2.2] 36)) ?_ (hI.s7 hd h6 e6)
          simp [go_sem]
        · cases hjo
          have h4 := hwt 4 rfl (by kernel_rfl)
          have h7 := hwt 7 rfl (by kernel_rfl)
          have hsl := (hI.f7 h7 hd).1
          rw [e7] at hsl
          obtain ⟨rx, hrx⟩ : ∃ rx, rwOf c.2.2 (u 6) = rx := ⟨_, rfl⟩
          rw [hrx] at hsl
          have hm7 : m7 = 1 := by obtain ⟨_, _, e, _⟩ := hsl; cases e; rfl
          subst hm7
          refine LeadsV.append_sm _ _ rfl 0 (.slice pv N kv) rows rfl (hI.f4 hd) q7 1 k7 [rx] rfl hsl (fun r hr => ?_) (by omega) (Nat.zero_le _) ?_
          · rw [List.mem_singleton.1 hr, ← hrx, e6]; exact ⟨rfl, rfl⟩
          · intro v' w' ho' hg' hat
            rw [← hrx] at ho'
            exact hI.s8 hlvB hd h4 h7 hg' ho' hat hlt4
        · cases hjo
          refine LeadsV.value (v := ptr B) (w' := W) ?_ hI.s9
          simp [go_sem]
        · cases hjo
          have h8 := hwt 8 rfl (by kernel_rfl)
          have hb := hI.box
          have kb : W.cell? ⟨B, 1, none⟩ = some (if d 11 = true then u 8 else .slice pv N kv) := by simp [World.cell?, hb]
          have kf : W.frozen? ⟨B, 1, none⟩ = false := by simp [World.frozen?, hb]
          refine LeadsV.skip (w' := W.setCell ⟨B, 1, none⟩ (u 8)) ?_ (hI.s11 hB4 hlvB h8 undef)
          rw [e8]
          simp [go_sem, kb, kf]
      · intro d W hall hI
        have h6 := hall 6 rfl (by simp)
        have h8 := hall 8 rfl (by simp)
        have h11 := hall 11 rfl (by simp)
        have hb := hI.box
        rw [h11, if_pos rfl] at hb
        obtain ⟨ho8, hat8⟩ := hI.f8 h8
        obtain ⟨o1, o2⟩ := hI.f6 h6
        have hcW := hI.chg
        have hr4 := Hr4.out
        rw [HNR.out.1] at hr4
        have hw6 : rwOf c.2.2 (u 6) = (.slice q6 m6 k6, .slice q6' m6' k6', c.2.2) := by rw [e6]; rfl
        rw [hw6] at ho8 o1 o2
        have hT := CmD.ofOwn (c := c) o1 o2
        have hR : KRep B (s.1 ++ [c], s.2) (u 8) (rows ++ [(.slice q6 m6 k6, .slice q6' m6' k6', c.2.2)]) (fun k => D k ∨ ((Value.slice q6 m6 k6).ownBlock = some k ∨ (Value.slice q6' m6' k6').ownBlock = some k)) W := by
          refine ⟨by rw [HNR.out.2]; exact hb, ho8, (hr4.red.chg hcW hr4.apart).snoc hT, fun e => ?_, fun k hk e => ?_, fun k hk => ?_, hr4.room, fun x hx => ?_⟩
          · rcases hat8 B e with h | h
            · exact hlvB h
            · omega
          · rcases hk with hk | hk | hk
            · rcases e with e | e
              · exact hr4.apart k hk (.inl e)
              · rcases hat8 k e with h | h
                · exact hr4.apart k hk (.inr h)
                · have := hr4.lt k hk; omega
            · have hge := (World.ownsRow.lt o1 k hk).1
              rcases e with e | e
              · omega
              · exact row_apart2 (by decide) o1 ho8 k hk e
            · have hge := (World.ownsRow.lt o2 k hk).1
              rcases e with e | e
              · omega
              · exact row_apart2 (by decide) o2 ho8 k hk e
          · rcases hk with hk | hk | hk
            · exact Nat.lt_of_lt_of_le (hr4.lt k hk) hcW.size
            · exact (World.ownsRow.lt o1 k hk).2
            · exact (World.ownsRow.lt o2 k hk).2
          · rcases List.mem_append.1 hx with h | h
            · exact hr4.small x h
            · rw [List.mem_singleton.1 h]; exact hc
        have hsz := c04.size
        have hout : LOut B (s.1 ++ [c], s.2) (.slice pv s.1.length kv) D w W := by
          rw [HNR.out.1]
          refine ⟨_, _, _, hR, (c04.mono (fun _ h => h.elim)).trans hcW (Grew.refl _ _), fun k hk => ?_, fun k hk => ?_⟩
          · rcases hk with (hk | hk) | hk | hk | hk
            · exact .inl (.inl (.inl hk))
            · rcases hat8 k hk with h | h
              · exact .inl (.inl (.inr h))
              · exact .inr (by omega)
            · exact .inl (.inr hk)
            · have := (World.ownsRow.lt o1 k hk).1; exact .inr (by omega)
            · have := (World.ownsRow.lt o2 k hk).1; exact .inr (by omega)
          · rcases hk with hk | hk
            · exact .inl (.inl hk)
            · rcases hat8 k hk with h | h
              · exact .inl (.inr h)
              · exact .inr (by omega)
        have L2 := len_in B _ _ _ _ W hR
        rw [List.length_append, List.length_singleton, HNR.out.1] at L2
        clear hI hall f0 f1 f2 hany e4 hT hR hb ho8 hat8 o1 o2 hvW
        gi_wp2_with fail
        refine ⟨trivial, rfl, L2.mono ?_⟩
        rintro e w6 ⟨rfl, hw⟩
        subst hw
        gi_wp2
        go_ret2
        exact ⟨rfl, hout⟩

theorem addN_in (E : Blk) (v : Value) (c : Cm) (w : World) (hv : CmD E w v c) : CallsIn Fence.wide 0 Tryd.prog 12 #[.pointer none, v] w fun e w' => e = .returned (.tuple #[iv 0, iv 1]) ∧ Chg No w w' := by
  have hnil := nil_nil
  obtain ⟨p, n, k, q, m, l, rfl, hh⟩ := hv
  clear hh
  refine callsIn_of_wp Tryd.func12 rfl trivial ?_
  simp only [Tryd.ntmps12, List.size_toArray, List.length_cons, List.length_nil, Nat.reduceAdd, Nat.reduceSub, Array.replicate_succ, Array.replicate_zero, List.push_toArray, List.append_toArray, List.nil_append, List.cons_append]
  gi_wp2
  go_ret2
  exact ⟨rfl, (Chg.refl _ w).alloc _⟩

end Go.Proofs.YtconingjdgmodaaDoor

end
section
-- KGet
namespace Go.Proofs.YtconingjdgmodaaDoor
open Go.RowKit Go.Shelf Go.SeqLib Go.DiffLib Go.TreeLib Go.RepoLib Go.BigFrame
attribute [local go_sem] Oper.semAt_some

set_option maxRecDepth 100000 in
set_option maxHeartbeats 4000000 in
theorem get_in1 (B : Nat) (s : Rp) (lv : Value) (rows : List Rw) (D : Blk) (n : Int) (w : World) (h : KRep B s lv rows D w) (hl : s.1.length ≤ 200) (h0 : -1000 ≤ n) (h1 : n ≤ 1000) :
    CallsIn Fence.wide 0 Tryd.prog 25 #[ptr B, iv n] w fun e w' => ∃ pv tv, e = .returned (.tuple #[.agg #[pv, tv, .string (getC s.1 n).2.2], .bool (hasN s.1.length n)]) ∧ OwnI w' w.heap.size pv (getC s.1 n).1 ∧ OwnF w' w.heap.size tv (getC s.1 n).2.1 ∧ Chg No w w' := by
  obtain ⟨W1, hW1⟩ : ∃ W1, w.alloc (.cells #[.slice none 0 0, .slice none 0 0, .string ⟨#[]⟩] 36) = W1 := ⟨_, rfl⟩
  have ca : Chg No w W1 := hW1 ▸ (Chg.refl _ w).alloc _
  have x0 : W1.heap[w.heap.size]? = some (.cells #[.slice none 0 0, .slice none 0 0, .string ⟨#[]⟩] 36 (0, 0)) := hW1 ▸ World.alloc_heap_new w _
  have hk := h.no ca
  have H1 := has_in B s lv rows D n _ hk
  obtain ⟨p0, cap, rfl⟩ := h.slice
  obtain ⟨_, y1, _, _⟩ := hk.cells
  have c0 : W1.cell? ⟨w.heap.size, 0, none⟩ = some (.slice none 0 0) := by simp [World.cell?, x0]
  have c1 : W1.cell? ⟨w.heap.size, 1, none⟩ = some (.slice none 0 0) := by simp [World.cell?, x0]
  have c2 : W1.cell? ⟨w.heap.size, 2, none⟩ = some (.string ⟨#[]⟩) := by simp [World.cell?, x0]
  have f0 : W1.frozen? ⟨w.heap.size, 0, none⟩ = false := by simp [World.frozen?, x0]
  have f1 : W1.frozen? ⟨w.heap.size, 1, none⟩ = false := by simp [World.frozen?, x0]
  have f2 : W1.frozen? ⟨w.heap.size, 2, none⟩ = false := by simp [World.frozen?, x0]
  have hst : ∀ (W : World) (a b : Value) (x y z : Value) (s3 : Value), W.heap[w.heap.size]? = some (.cells #[x, y, z] 36 (0, 0)) → (((W.setCell ⟨w.heap.size, 0, none⟩ a).setCell ⟨w.heap.size, 1, none⟩ b).setCell ⟨w.heap.size, 2, none⟩ s3).heap[w.heap.size]? = some (.cells #[a, b, s3] 36 (0, 0)) := fun W a b x y z s3 hW => by
    simp [World.setCell, Array.getElem?_modify, hW]
  have cst : ∀ (W : World) (a b s3 : Value), Chg (fun k => k = w.heap.size) W (((W.setCell ⟨w.heap.size, 0, none⟩ a).setCell ⟨w.heap.size, 1, none⟩ b).setCell ⟨w.heap.size, 2, none⟩ s3) := fun W a b s3 =>
      (((Chg.refl (fun k => k = w.heap.size) W).setCell (p := ⟨w.heap.size, 0, none⟩) (.inl rfl) _).setCell (p := ⟨w.heap.size, 1, none⟩) (.inl rfl) _).setCell (p := ⟨w.heap.size, 2, none⟩) (.inl rfl) _
  obtain ⟨N, hN⟩ : ∃ N, s.1.length = N := ⟨_, rfl⟩
  obtain ⟨u, hu⟩ : ∃ u, hasN N n = u := ⟨_, rfl⟩
  have HNU : Hid (s.1.length = N ∧ hasN N n = u) := ⟨hN, hu⟩
  rw [hN] at H1 y1 hl ⊢
  rw [hu] at H1 ⊢
  have Hst : Hid _ := hst
  have Hcst : Hid _ := cst
  have Hk : Hid _ := hk
  clear hst cst h hk hN hu
  refine callsIn_of_wp Tryd.func25 rfl trivial ?_
  simp only [Tryd.ntmps25, List.size_toArray, List.length_cons, List.length_nil, Nat.reduceAdd, Nat.reduceSub, Array.replicate_succ, Array.replicate_zero, List.push_toArray, List.append_toArray, List.nil_append, List.cons_append]
  gi_wp2_with fail
  refine ⟨trivial, rfl, H1.mono ?_⟩
  rintro e w1 ⟨rfl, hw⟩
  subst hw
  clear H1
  cases u with
  | false =>
    have HG : Hid (getC s.1 n = noC) := by
      show _ = _
      unfold getC
      rw [HNU.out.1, HNU.out.2, if_neg Bool.false_ne_true]
    gi_wp2
    have hr9 := Hst.out _ (.slice none 0 0) (.slice none 0 0) _ _ _ (.string ⟨#[]⟩) x0
    have c9 := Hcst.out w1 (.slice none 0 0) (.slice none 0 0) (.string ⟨#[]⟩)
    generalize ((w1.setCell ⟨w.heap.size, 0, none⟩ (.slice none 0 0)).setCell ⟨w.heap.size, 1, none⟩ (.slice none 0 0)).setCell ⟨w.heap.size, 2, none⟩ (.string ⟨#[]⟩) = W9 at *
    have r0 : W9.cell? ⟨w.heap.size, 0, none⟩ = some (.slice none 0 0) := by simp [World.cell?, hr9]
    have r1 : W9.cell? ⟨w.heap.size, 1, none⟩ = some (.slice none 0 0) := by simp [World.cell?, hr9]
    have r2 : W9.cell? ⟨w.heap.size, 2, none⟩ = some (.string ⟨#[]⟩) := by simp [World.cell?, hr9]
    refine bodyPost_ret (v := .tuple #[.agg #[.slice none 0 0, .slice none 0 0, .string ⟨#[]⟩], .bool false]) ?_ rfl ⟨.slice none 0 0, .slice none 0 0, ?_, ?_, ?_, ca.trans c9 (fun k hk => .inr (by omega))⟩
    · rw [results_cell_tmp rfl]
      go_simp
    · rw [HG.out]; rfl
    · rw [HG.out]; exact World.ownsRow_nil _ _ _ _
    · rw [HG.out]; exact OwnF.nil _ _
  | true =>
    have hb : 1 ≤ n ∧ n ≤ (N : Int) := by
      have := HNU.out.2
      unfold hasN at this
      rw [Bool.and_eq_true, decide_eq_true_iff, decide_eq_true_iff] at this
      exact this
    obtain ⟨m, hm⟩ : ∃ m : Nat, n - 1 = (m : Int) := ⟨(n - 1).toNat, by omega⟩
    have hmN : m < N := by omega
    have hmN' : (m : Int) < (N : Int) := by omega
    obtain ⟨x, hx⟩ : ∃ x, s.1[m]? = some x := ⟨_, List.getElem?_eq_getElem (by rw [HNU.out.1]; exact hmN)⟩
    have HG : Hid (getC s.1 n = x) := by
      show _ = _
      unfold getC
      rw [HNU.out.1, HNU.out.2, if_pos rfl, show n.toNat - 1 = m by omega, List.getD_eq_getElem?_getD, hx]
      rfl
    have hk := Hk.out
    rw [HNU.out.1] at hk
    obtain ⟨⟨r1, r2, r3⟩, b1, o1, _, e0, g1, g2, g3, hcx⟩ := hk.cell hx
    have hxs := hk.small x (List.mem_of_getElem? hx)
    subst e0
    dsimp only at g1 g2 g3 hcx
    have hor : ∃ p' n' k' q' m' l', r1 = .slice p' n' k' ∧ r2 = .slice q' m' l' ∧ r3 = x.2.2 := by
      obtain ⟨p', n', k', q', m', l', e, _⟩ := hcx
      cases e
      exact ⟨_, _, _, _, _, _, rfl, rfl, rfl⟩
    obtain ⟨p', n', k', q', m', l', rfl, rfl, rfl⟩ := hor
    have O1 := own_in _ x D _ hcx hxs
    clear hk hcx hxs hb
    gi_wp2_with fail
    refine ⟨trivial, rfl, O1.mono ?_⟩
    rintro e w2 ⟨pv, tv, rfl, ho1, ho2, c3⟩
    clear O1
    obtain ⟨pa, ka, rfl⟩ := row_slice ho1
    obtain ⟨qa, la, rfl⟩ := row_slice ho2
    have x2 := c3.same x0 (fun h => h)
    have d0 : w2.cell? ⟨w.heap.size, 0, none⟩ = some (.slice none 0 0) := by simp [World.cell?, x2]
    have d1 : w2.cell? ⟨w.heap.size, 1, none⟩ = some (.slice none 0 0) := by simp [World.cell?, x2]
    have d2 : w2.cell? ⟨w.heap.size, 2, none⟩ = some (.string ⟨#[]⟩) := by simp [World.cell?, x2]
    have k0 : w2.frozen? ⟨w.heap.size, 0, none⟩ = false := by simp [World.frozen?, x2]
    have k1 : w2.frozen? ⟨w.heap.size, 1, none⟩ = false := by simp [World.frozen?, x2]
    have k2 : w2.frozen? ⟨w.heap.size, 2, none⟩ = false := by simp [World.frozen?, x2]
    obtain ⟨na, hna⟩ : ∃ na, x.1.length = na := ⟨_, rfl⟩
    obtain ⟨ma, hma⟩ : ∃ ma, x.2.1.length = ma := ⟨_, rfl⟩
    rw [hna]
    rw [hma]
    rw [hna] at ho1
    rw [hma] at ho2
    clear hna hma
    gi_wp2
    have hr9 := Hst.out w2 (.slice pa na ka) (.slice qa ma la) _ _ _ (.string x.2.2) x2
    have c9 := Hcst.out w2 (.slice pa na ka) (.slice qa ma la) (.string x.2.2)
    generalize ((w2.setCell ⟨w.heap.size, 0, none⟩ (.slice pa na ka)).setCell ⟨w.heap.size, 1, none⟩ (.slice qa ma la)).setCell ⟨w.heap.size, 2, none⟩ (.string x.2.2) = W9 at *
    have t0 : W9.cell? ⟨w.heap.size, 0, none⟩ = some (.slice pa na ka) := by simp [World.cell?, hr9]
    have t1 : W9.cell? ⟨w.heap.size, 1, none⟩ = some (.slice qa ma la) := by simp [World.cell?, hr9]
    have t2 : W9.cell? ⟨w.heap.size, 2, none⟩ = some (.string x.2.2) := by simp [World.cell?, hr9]
    have hsz := ca.size
    have hlow : w.heap.size < w1.heap.size := (Array.getElem?_eq_some_iff.1 x0).1
    have hfin := (Chg.seq ca c3).trans c9 (fun k hk => .inr (by omega))
    refine bodyPost_ret (v := .tuple #[.agg #[.slice pa na ka, .slice qa ma la, .string x.2.2], .bool true]) ?_ rfl ⟨.slice pa na ka, .slice qa ma la, ?_, ?_, ?_, hfin⟩
    · rw [results_cell_tmp rfl]
      go_simp
    · rw [HG.out]
    · rw [HG.out]
      exact rowBase (own_still ho1 c9 (fun k hk e => by have := (World.ownsRow.lt ho1 k hk).1; omega)) hsz
    · rw [HG.out]
      exact rowBase (own_still ho2 c9 (fun k hk e => by have := (World.ownsRow.lt ho2 k hk).1; omega)) hsz
theorem getN_in (n : Int) (w : World) : CallsIn Fence.wide 0 Tryd.prog 25 #[.pointer none, iv n] w fun e w' => e = .returned (.tuple #[.agg #[.slice none 0 0, .slice none 0 0, .string ⟨#[]⟩], .bool false]) ∧ Chg No w w' := by
  obtain ⟨W1, hW1⟩ : ∃ W1, w.alloc (.cells #[.slice none 0 0, .slice none 0 0, .string ⟨#[]⟩] 36) = W1 := ⟨_, rfl⟩
  have ca : Chg No w W1 := hW1 ▸ (Chg.refl _ w).alloc _
  have x0 : W1.heap[w.heap.size]? = some (.cells #[.slice none 0 0, .slice none 0 0, .string ⟨#[]⟩] 36 (0, 0)) := hW1 ▸ World.alloc_heap_new w _
  have c0 : W1.cell? ⟨w.heap.size, 0, none⟩ = some (.slice none 0 0) := by simp [World.cell?, x0]
  have c1 : W1.cell? ⟨w.heap.size, 1, none⟩ = some (.slice none 0 0) := by simp [World.cell?, x0]
  have c2 : W1.cell? ⟨w.heap.size, 2, none⟩ = some (.string ⟨#[]⟩) := by simp [World.cell?, x0]
  have f0 : W1.frozen? ⟨w.heap.size, 0, none⟩ = false := by simp [World.frozen?, x0]
  have f1 : W1.frozen? ⟨w.heap.size, 1, none⟩ = false := by simp [World.frozen?, x0]
  have f2 : W1.frozen? ⟨w.heap.size, 2, none⟩ = false := by simp [World.frozen?, x0]
  have hr9 : (((W1.setCell ⟨w.heap.size, 0, none⟩ (.slice none 0 0)).setCell ⟨w.heap.size, 1, none⟩ (.slice none 0 0)).setCell ⟨w.heap.size, 2, none⟩ (.string ⟨#[]⟩)).heap[w.heap.size]? = some (.cells #[.slice none 0 0, .slice none 0 0, .string ⟨#[]⟩] 36 (0, 0)) := by
    simp [World.setCell, Array.getElem?_modify, x0]
  have c9 : Chg (fun k => k = w.heap.size) W1 (((W1.setCell ⟨w.heap.size, 0, none⟩ (.slice none 0 0)).setCell ⟨w.heap.size, 1, none⟩ (.slice none 0 0)).setCell ⟨w.heap.size, 2, none⟩ (.string ⟨#[]⟩)) :=
      (((Chg.refl (fun k => k = w.heap.size) W1).setCell (p := ⟨w.heap.size, 0, none⟩) (.inl rfl) _).setCell (p := ⟨w.heap.size, 1, none⟩) (.inl rfl) _).setCell (p := ⟨w.heap.size, 2, none⟩) (.inl rfl) _
  have H1 := hasN_in n W1
  refine callsIn_of_wp Tryd.func25 rfl trivial ?_
  simp only [Tryd.ntmps25, List.size_toArray, List.length_cons, List.length_nil, Nat.reduceAdd, Nat.reduceSub, Array.replicate_succ, Array.replicate_zero, List.push_toArray, List.append_toArray, List.nil_append, List.cons_append]
  gi_wp2_with fail
  refine ⟨trivial, rfl, H1.mono ?_⟩
  rintro e w1 ⟨rfl, hw⟩
  subst hw
  gi_wp2
  generalize ((w1.setCell ⟨w.heap.size, 0, none⟩ (.slice none 0 0)).setCell ⟨w.heap.size, 1, none⟩ (.slice none 0 0)).setCell ⟨w.heap.size, 2, none⟩ (.string ⟨#[]⟩) = W9 at *
  have r0 : W9.cell? ⟨w.heap.size, 0, none⟩ = some (.slice none 0 0) := by simp [World.cell?, hr9]
  have r1 : W9.cell? ⟨w.heap.size, 1, none⟩ = some (.slice none 0 0) := by simp [World.cell?, hr9]
  have r2 : W9.cell? ⟨w.heap.size, 2, none⟩ = some (.string ⟨#[]⟩) := by simp [World.cell?, hr9]
  refine bodyPost_ret (v := .tuple #[.agg #[.slice none 0 0, .slice none 0 0, .string ⟨#[]⟩], .bool false]) ?_ rfl ⟨rfl, ca.trans c9 (fun k hk => .inr (by omega))⟩
  rw [results_cell_tmp rfl]
  go_simp

end Go.Proofs.YtconingjdgmodaaDoor

end
section
-- KAll
namespace Go.Proofs.YtconingjdgmodaaDoor
open Go.RowKit Go.Shelf Go.SeqLib Go.DiffLib Go.TreeLib Go.RepoLib Go.BigFrame
attribute [local go_sem] Oper.semAt_some

set_option maxRecDepth 100000 in
set_option maxHeartbeats 4000000 in
/-- The iterator's word: each commit with lists of its own. -/
theorem all1 (B Bk : Nat) (s : Rp) (lv : Value) (rows : List Rw) (D : Blk) (hBk : ¬ (refS B lv Bk ∨ D Bk)) (hl : s.1.length ≤ 200) :
    IterG Tryd.prog 54 #[ptr Bk] TlC (enumC s.1) (fun k => k = Bk ∨ (refS B lv k ∨ D k)) No
      (fun W => Boxed W Bk 26 (ptr B) ∧ KRep B s lv rows D W) (fun _ W => Boxed W Bk 26 (ptr B) ∧ KRep B s lv rows D W) := {
  sub := fun _ h => h.elim
  lt0 := by
    rintro W ⟨b1, b2⟩ k (rfl | h | h)
    · exact b1.lt
    · exact b2.ltO k h
    · exact b2.lt k h
  kept0 := by
    rintro W W' ⟨b1, b2⟩ hs hk
    exact ⟨(hk _ (.inl rfl)).trans b1, b2.kept hs (fun k h => hk k (.inr h))⟩
  kept := by
    rintro pre W W' ⟨b1, b2⟩ hs hk
    exact ⟨(hk _ (.inl rfl)).trans b1, b2.kept hs (fun k h => hk k (.inr h))⟩
  runs := by
    intro l J Jx S W pJ pJx hY hI hJ hDS
    obtain ⟨b1, b2⟩ := hI
    have hnil := ptr_nil B
    obtain ⟨p0, cap, rfl⟩ := b2.slice
    obtain ⟨N, hN⟩ : ∃ N, s.1.length = N := ⟨_, rfl⟩
    have HN : Hid (s.1.length = N) := hN
    have hc1 := b1.cell
    obtain ⟨_, y1, _, _⟩ := b2.cells
    have HDS : Hid _ := hDS
    have HB2 : Hid _ := b2
    rw [hN] at hl y1
    clear hN b2 hDS
    refine callsIn_of_wp Tryd.func54 rfl trivial ?_
    simp only [Tryd.ntmps54, List.size_toArray, List.length_cons, List.length_nil, Nat.reduceAdd, Nat.reduceSub, Array.replicate_succ, Array.replicate_zero, List.push_toArray, List.append_toArray, List.nil_append, List.cons_append]
    gi_wp2
    gi_loopw [12] (fun i wr => ∃ (k : Nat) (So : Blk), k ≤ N ∧ i = .int .i64 (k : Int) ∧ J ((enumC s.1).take k) So wr ∧ Chg S W wr ∧ Grew S W So)
      (fun i _ => N - (intOf i).toNat)
    case atStart => exact ⟨0, S, Nat.zero_le _, rfl, hJ, Chg.refl _ _, Grew.refl _ _⟩
    case round =>
      obtain ⟨k, So, hk, rfl, j, c, g⟩ := hrel
      have hfin : ∀ {W9 : World}, Chg S W W9 → Boxed W9 Bk 26 (ptr B) ∧ KRep B s (.slice p0 s.1.length cap) rows D W9 := fun c9 => ⟨c9.boxed b1 (HDS.out _ (.inl rfl)), HB2.out.chg c9 (fun k hk => HDS.out k (.inr hk))⟩
      by_cases hlt : k < N
      · have hlt' : (k : Int) < (N : Int) := by omega
        obtain ⟨x, hx⟩ : ∃ x, s.1[k]? = some x := ⟨_, List.getElem?_eq_getElem (by rw [HN.out]; exact hlt)⟩
        have hen := enumC_at hx
        have hts : (enumC s.1).take (k + 1) = (enumC s.1).take k ++ [(k, x)] := by rw [List.take_add_one, hen]; rfl
        have HT : Hid ((enumC s.1).take (k + 1) = (enumC s.1).take k ++ [(k, x)]) := hts
        have hpr : (enumC s.1).take k ++ [(k, x)] <+: enumC s.1 := by rw [← hts]; exact List.take_prefix _ _
        have hkr := (hfin c).2
        obtain ⟨⟨r1, r2, r3⟩, b0, o1, _, e0, f1, f2, f3, hcx⟩ := hkr.cell hx
        have hxs := hkr.small x (List.mem_of_getElem? hx)
        cases e0
        dsimp only at f1 f2 f3 hcx
        have hor : ∃ p' n' k' q' m' l', r1 = .slice p' n' k' ∧ r2 = .slice q' m' l' ∧ r3 = x.2.2 := by
          obtain ⟨p', n', k', q', m', l', e, _⟩ := hcx
          cases e
          exact ⟨_, _, _, _, _, _, rfl, rfl, rfl⟩
        obtain ⟨p', n', k', q', m', l', rfl, rfl, rfl⟩ := hor
        clear hts hen hkr
        have ca : Chg S W (wr.alloc (.cells #[.slice p' n' k', .slice q' m' l', .string x.2.2] 36)) := c.alloc _
        have cna : Chg No wr (wr.alloc (.cells #[.slice p' n' k', .slice q' m' l', .string x.2.2] 36)) := (Chg.refl _ wr).alloc _
        have j' := (pJ _).chg j cna (fun _ _ h => h)
        have O1 := own_in _ x D _ (hcx.no cna) hxs
        have hlow := (pJ _).lt j'
        gi_wp2_with fail
        refine ⟨trivial, rfl, O1.mono ?_⟩
        rintro e w2 ⟨pv, tv, rfl, ho1, ho2, c3⟩
        have hT := CmD.ofOwn (c := x) ho1 ho2
        have j2 := (pJ _).chg j' c3 (fun _ _ h => h)
        have hTS : ∀ i, (pv.ownBlock = some i ∨ tv.ownBlock = some i) → (wr.alloc (.cells #[.slice p' n' k', .slice q' m' l', .string x.2.2] 36)).heap.size ≤ i := fun i hi => by
          rcases hi with h | h
          · exact (World.ownsRow.lt ho1 i h).1
          · exact (World.ownsRow.lt ho2 i h).1
        obtain ⟨fnr, tmps, assign, body, hy, hR⟩ := hY ((enumC s.1).take k) (k, x) (fun i => pv.ownBlock = some i ∨ tv.ownBlock = some i) #[iv ((k + 1 : Nat) : Int), .agg #[pv, tv, .string x.2.2]] So w2 hpr ⟨_, rfl, hT⟩ (fun i hi hs => by have := hTS i hi; have := hlow i hs; omega) (fun i hi => Nat.le_trans ca.size (hTS i hi)) (Nat.le_trans ca.size c3.size) j2
        rw [show (((k + 1 : Nat) : Int)) = (k : Int) + 1 by omega] at hy
        clear O1 hT hTS hcx f1 f2 f3
        obtain ⟨pa, ka, rfl⟩ := row_slice ho1
        obtain ⟨qa, la, rfl⟩ := row_slice ho2
        have c2 : Chg S W w2 := ca.trans c3 (fun _ h => h.elim)
        clear ho1 ho2
        gi_wp2
        refine ⟨rfl, hR.mono ?_⟩
        rintro e W3 ⟨S3, c4, g4, (⟨rfl, j3⟩ | ⟨rfl, j3⟩)⟩
        · have cc := c2.trans c4 g
          have gg : Grew S W S3 := fun i hi => by
            rcases g4 i hi with h | h
            · exact g i h
            · exact .inr h
          gi_wp2
          go_roundw
          case rel => exact ⟨k + 1, S3, hlt, by go_num, by rw [HT.out]; exact j3, cc, gg⟩
          case measure => simp [intOf]; omega
        · have cc := c2.trans c4 g
          have gg : Grew S W S3 := fun i hi => by
            rcases g4 i hi with h | h
            · exact g i h
            · exact .inr h
          gi_wp2
          refine bodyPost_ret (results_none rfl _ _ _) rfl ?_
          exact ⟨⟨_, rfl⟩, _, S3, .inr ⟨hpr, j3⟩, hfin cc, cc.mono (fun _ => .inr), gg⟩
      · obtain rfl : k = N := by omega
        gi_wp2
        go_end0
        exact ⟨⟨_, rfl⟩, enumC s.1, So, .inl ⟨rfl, by rw [List.take_of_length_le (by rw [enumC_length, HN.out]; exact Nat.le_refl _)] at j; exact j⟩, hfin c, c.mono (fun _ => .inr), g⟩ }

set_option maxHeartbeats 1000000 in
theorem allG_in (B : Nat) (s : Rp) (lv : Value) (rows : List Rw) (D : Blk) (w : World) (h : KRep B s lv rows D w) (hl : s.1.length ≤ 200) :
    CallsIn Fence.wide 0 Tryd.prog 38 #[ptr B] w fun e w' => e = .returned (.func (.func 54) #[] #[ptr w.heap.size]) ∧ w' = w.alloc (.cells #[ptr B] 26) ∧
      IterG Tryd.prog 54 #[ptr w.heap.size] TlC (enumC s.1) (fun k => k = w.heap.size ∨ (refS B lv k ∨ D k)) No
        (fun W => Boxed W w.heap.size 26 (ptr B) ∧ KRep B s lv rows D W) (fun _ W => Boxed W w.heap.size 26 (ptr B) ∧ KRep B s lv rows D W) := by
  have it := all1 B w.heap.size s lv rows D (fun e => by
    rcases e with e | e
    · have := h.ltO _ e; omega
    · have := h.lt _ e; omega) hl
  refine callsIn_of_wp Tryd.func38 rfl trivial ?_
  simp only [Tryd.ntmps38, List.size_toArray, List.length_cons, List.length_nil, Nat.reduceAdd, Nat.reduceSub, Array.replicate_succ, Array.replicate_zero, List.push_toArray, List.append_toArray, List.nil_append, List.cons_append]
  gi_wp2
  go_ret
  exact ⟨rfl, rfl, it⟩
theorem all_enters : ∀ args w, (callFunc 54 args).run Tryd.prog w = .ok (.enter 54 args) w := enters_of Tryd.func54 (by kernel_rfl) rfl

end Go.Proofs.YtconingjdgmodaaDoor

end
section
-- KCopy
namespace Go.SeqLib
open Go Go.RowKit
/-- The law of statements of open order whose loud operations may be guarded, in a round. -/
theorem region_loudGR {n r : Nat} {P : Program} {id : Nat} {l : List Oper} (hnd : noDefer l.toArray = true) (mask : Nat → Bool) (C : World → Prop) (Inv : (Nat → Bool) → (Nat → Value) → World → Prop) (dflt : Nat → Value) {Q : Exit → Act → World → Prop} {a : Act} {w : World} (hm : P.follows .mixedOrders = true)
    (hs : seesW l.toArray = true) (hqb : quietG mask l = true) (hIC : ∀ d u w, Inv d u w → C w) (h0 : Inv (fun _ => false) dflt w.drew)
    (hq : ∀ u, (∃ d w, Inv d u w) → wpQuietIn Fence.wide n P (hushE mask u 0 l).toArray C (LoudPostG P n l mask Q Inv u) (hushE mask u 0 l) a) :
    (Code.region id l.toArray true).wpIn (Fence.wide.inRound r) n P Q a w := by
  refine wpIn_region_any hm (any_inRound hnd _ _ _ _ ?_)
  have := any_loudG (Q := Q) (w := w.drew) dflt hs hqb hIC h0 (fun u hu => by have := hq u hu; rw [hushE_vals] at this; exact this)
  simpa using this
end Go.SeqLib
namespace Go.Proofs.YtconingjdgmodaaDoor
open Go.RowKit Go.Shelf Go.SeqLib Go.DiffLib Go.TreeLib Go.RepoLib Go.BigFrame
attribute [local go_sem] Oper.semAt_some

theorem enumC_snd (L : List Cm) : (enumC L).map (·.2) = L := by
  unfold enumC
  rw [List.map_map]
  apply List.ext_getElem?
  intro i
  rw [List.getElem?_map, List.getElem?_zipIdx]
  cases L[i]? <;> rfl

/-- What holds while the new repo and the variable that holds it are laid. -/
structure CopInv (W0 : World) (B : Nat) (cm z : Int) (d : Nat → Bool) (u : Nat → Value) (W : World) : Prop where
  chg : Chg No W0 W
  v1 : u 1 = ptr B
  v5 : u 5 = iv cm
  v7 : ∃ g, u 7 = ptr g
  v8 : ∃ g, u 8 = ptr g
  o9 : d 9 = true → d 7 = true ∧ d 8 = true
  f7 : d 7 = true → ∃ g, u 7 = ptr g ∧ W0.heap.size ≤ g ∧ W.heap[g]? = some (.cells #[iv z, .slice none 0 0] 55 (0, 0))
  f8 : d 8 = true → ∃ g, u 8 = ptr g ∧ W0.heap.size ≤ g ∧ W.heap[g]? = some (.cells #[if d 9 = true then u 7 else .pointer none] 26 (0, 0))
section
variable {W0 W W' : World} {B : Nat} {cm z : Int} {d : Nat → Bool} {u : Nat → Value}
theorem CopInv.s1 (h : CopInv W0 B cm z d u W) : CopInv W0 B cm z (fun j => if j = 1 then true else d j) (fun j => if j = 1 then ptr B else u j) W :=
  ⟨h.chg, rfl, h.v5, h.v7, h.v8, fun e => h.o9 e, fun e => h.f7 e, fun e => h.f8 e⟩
theorem CopInv.s5 (h : CopInv W0 B cm z d u W) : CopInv W0 B cm z (fun j => if j = 5 then true else d j) (fun j => if j = 5 then iv cm else u j) W :=
  ⟨h.chg, h.v1, rfl, h.v7, h.v8, fun e => h.o9 e, fun e => h.f7 e, fun e => h.f8 e⟩
theorem CopInv.s7 (h : CopInv W0 B cm z d u W) (hd : d 7 = false) : CopInv W0 B cm z (fun j => if j = 7 then true else d j) (fun j => if j = 7 then ptr W.heap.size else u j) (W.alloc (.cells #[iv z, .slice none 0 0] 55)) := by
  have c : Chg No W (W.alloc (.cells #[iv z, .slice none 0 0] 55)) := (Chg.refl _ W).alloc _
  have h9 : d 9 = false := by
    cases e : d 9 with
    | false => rfl
    | true => have := (h.o9 e).1; rw [hd] at this; cases this
  refine ⟨Chg.seq h.chg c, h.v1, h.v5, ⟨_, rfl⟩, h.v8, fun e => ⟨rfl, (h.o9 e).2⟩, fun _ => ⟨_, rfl, h.chg.size, World.alloc_heap_new W _⟩, fun e => ?_⟩
  obtain ⟨g, h1, h2, h3⟩ := h.f8 e
  rw [h9, if_neg Bool.false_ne_true] at h3
  refine ⟨g, h1, h2, ?_⟩
  show (W.alloc _).heap[g]? = some (.cells #[if d 9 = true then ptr W.heap.size else .pointer none] _ _)
  rw [h9, if_neg Bool.false_ne_true]
  exact c.same h3 (fun h => h)
theorem CopInv.s8 (h : CopInv W0 B cm z d u W) (hd : d 8 = false) : CopInv W0 B cm z (fun j => if j = 8 then true else d j) (fun j => if j = 8 then ptr W.heap.size else u j) (W.alloc (.cells #[.pointer none] 26)) := by
  have c : Chg No W (W.alloc (.cells #[.pointer none] 26)) := (Chg.refl _ W).alloc _
  have h9 : d 9 = false := by
    cases e : d 9 with
    | false => rfl
    | true => have := (h.o9 e).2; rw [hd] at this; cases this
  refine ⟨Chg.seq h.chg c, h.v1, h.v5, h.v7, ⟨_, rfl⟩, fun e => ⟨(h.o9 e).1, rfl⟩, fun e => ?_, fun _ => ⟨_, rfl, h.chg.size, ?_⟩⟩
  · obtain ⟨g, h1, h2, h3⟩ := h.f7 e
    exact ⟨g, h1, h2, c.same h3 (fun h => h)⟩
  · show (W.alloc _).heap[W.heap.size]? = some (.cells #[if d 9 = true then u 7 else .pointer none] _ _)
    rw [h9, if_neg Bool.false_ne_true]
    exact World.alloc_heap_new W _
theorem CopInv.s9 (h : CopInv W0 B cm z d u W) (h7 : d 7 = true) (h8 : d 8 = true) {g8 : Nat} (e8 : u 8 = ptr g8) (v : Value) : CopInv W0 B cm z (fun j => if j = 9 then true else d j) (fun j => if j = 9 then v else u j) (W.setCell ⟨g8, 0, none⟩ (u 7)) := by
  have c : Chg (fun k => k = g8) W (W.setCell ⟨g8, 0, none⟩ (u 7)) := (Chg.refl (fun k => k = g8) W).setCell (p := ⟨g8, 0, none⟩) (.inl rfl) _
  obtain ⟨g, h1, h2, h3⟩ := h.f8 h8
  rw [e8] at h1
  cases h1
  obtain ⟨g7, k1, k2, k3⟩ := h.f7 h7
  refine ⟨h.chg.trans (c.mono (S' := fun k => k = g8) (fun _ h => h)) (fun k hk => .inr (by omega)), h.v1, h.v5, h.v7, h.v8, fun _ => ⟨h7, h8⟩, fun _ => ⟨g7, k1, k2, c.same k3 (fun e => ?_)⟩, fun _ => ⟨g8, e8, h2, ?_⟩⟩
  · subst e
    rw [k3] at h3
    simp at h3
  · show (W.setCell ⟨g8, 0, none⟩ (u 7)).heap[g8]? = some (.cells #[u 7] _ _)
    simp [World.setCell, Array.getElem?_modify, h3]
end

/-- What holds while the copy takes one commit more, whose lists it keeps. -/
structure PutInvD (W0 : World) (B : Nat) (lv rv : Value) (rows : List Rw) (x : Rw) (d : Nat → Bool) (u : Nat → Value) (W : World) : Prop where
  chg : Chg (refS B lv) W0 W
  v2 : u 2 = ptr B
  v4 : u 4 = lv
  v8 : u 8 = ptr B
  v6 : ∃ q m k, u 6 = .slice q m k
  v7 : ∃ q m k, u 7 = .slice q m k
  o7 : d 7 = true → d 4 = true ∧ d 6 = true
  o10 : d 10 = true → d 7 = true
  f4 : d 7 = false → OwnM W 0 lv rows
  f6 : d 6 = true → d 7 = false → SlE 3 eM W (u 6) [x] ∧ ∀ k, (u 6).ownBlock = some k → W0.heap.size ≤ k
  f7 : d 7 = true → OwnM W 0 (u 7) (rows ++ [x]) ∧ ∀ k, (u 7).ownBlock = some k → lv.ownBlock = some k ∨ W0.heap.size ≤ k
  box : W.heap[B]? = some (.cells #[rv, if d 10 = true then u 7 else lv] 55 (0, 0))
section
variable {W0 W W' : World} {B : Nat} {lv rv : Value} {rows : List Rw} {x : Rw} {d : Nat → Bool} {u : Nat → Value}
theorem PutInvD.s4 (h : PutInvD W0 B lv rv rows x d u W) : PutInvD W0 B lv rv rows x (fun j => if j = 4 then true else d j) (fun j => if j = 4 then lv else u j) W :=
  ⟨h.chg, h.v2, rfl, h.v8, h.v6, h.v7, fun e => ⟨rfl, (h.o7 e).2⟩, fun e => h.o10 e, fun e => h.f4 e, fun e1 e2 => h.f6 e1 e2, fun e => h.f7 e, h.box⟩
theorem PutInvD.s2 (h : PutInvD W0 B lv rv rows x d u W) : PutInvD W0 B lv rv rows x (fun j => if j = 2 then true else d j) (fun j => if j = 2 then ptr B else u j) W :=
  ⟨h.chg, rfl, h.v4, h.v8, h.v6, h.v7, fun e => h.o7 e, fun e => h.o10 e, fun e => h.f4 e, fun e1 e2 => h.f6 e1 e2, fun e => h.f7 e, h.box⟩
theorem PutInvD.s8 (h : PutInvD W0 B lv rv rows x d u W) : PutInvD W0 B lv rv rows x (fun j => if j = 8 then true else d j) (fun j => if j = 8 then ptr B else u j) W :=
  ⟨h.chg, h.v2, h.v4, rfl, h.v6, h.v7, fun e => h.o7 e, fun e => h.o10 e, fun e => h.f4 e, fun e1 e2 => h.f6 e1 e2, fun e => h.f7 e, h.box⟩
theorem PutInvD.n7 (h : PutInvD W0 B lv rv rows x d u W) (h6 : d 6 = false) : d 7 = false := by
  cases e : d 7 with
  | false => rfl
  | true => have := (h.o7 e).2; rw [h6] at this; cases this
theorem PutInvD.n10 (h : PutInvD W0 B lv rv rows x d u W) (h7 : d 7 = false) : d 10 = false := by
  cases e : d 10 with
  | false => rfl
  | true => have := h.o10 e; rw [h7] at this; cases this
theorem PutInvD.s6 (h : PutInvD W0 B lv rv rows x d u W) (hd : d 6 = false) :
    PutInvD W0 B lv rv rows x (fun j => if j = 6 then true else d j) (fun j => if j = 6 then .slice (some ⟨W.heap.size, 0, none⟩) 1 1 else u j) (W.alloc (.cells #[x.1, x.2.1, .string x.2.2] 36)) := by
  have h7 := h.n7 hd
  have c : Chg No W (W.alloc (.cells #[x.1, x.2.1, .string x.2.2] 36)) := (Chg.refl _ W).alloc _
  refine ⟨h.chg.alloc _, h.v2, h.v4, h.v8, ⟨_, _, _, rfl⟩, h.v7, fun e => ⟨(h.o7 e).1, rfl⟩, fun e => h.o10 e, fun e => own_still (h.f4 e) c (fun _ _ h => h), fun _ _ => ⟨SlM.one W x, fun k hk => ?_⟩, fun e => ?_, c.same h.box (fun h => h)⟩
  · cases hk
    exact h.chg.size
  · have e' : d 7 = true := e
    rw [h7] at e'; cases e'
theorem PutInvD.s7 (h : PutInvD W0 B lv rv rows x d u W) (hne : ¬ lv.ownBlock = some B) (hd : d 7 = false) (h4 : d 4 = true) (h6 : d 6 = true) {v : Value} (hg : W.grownBy W' lv.ownBlock) (ho : OwnM W' 0 v (rows ++ [x])) (hat : v.ownBlock = lv.ownBlock ∨ v.ownBlock = some W.heap.size) :
    PutInvD W0 B lv rv rows x (fun j => if j = 7 then true else d j) (fun j => if j = 7 then v else u j) W' := by
  have h10 := h.n10 hd
  have c : Chg (fun k => lv.ownBlock = some k) W W' := (Chg.refl (fun k => lv.ownBlock = some k) W).grown hg (fun k e => .inl e)
  obtain ⟨p', c', e'⟩ := row_slice ho
  refine ⟨h.chg.trans c (fun k hk => .inl (.inr hk)), h.v2, h.v4, h.v8, h.v6, ⟨p', _, c', e'⟩, fun _ => ⟨h4, h6⟩, fun _ => rfl, fun e => (by cases e), fun _ e => (by cases e), fun _ => ⟨ho, fun k hk => ?_⟩, ?_⟩
  · have hk' : v.ownBlock = some k := hk
    rcases hat with e | e
    · exact .inl (by rw [← e]; exact hk')
    · rw [e] at hk'
      cases hk'
      exact .inr h.chg.size
  · have hb := h.box
    rw [h10, if_neg Bool.false_ne_true] at hb
    show W'.heap[B]? = some (.cells #[rv, if d 10 = true then v else lv] _ _)
    rw [h10, if_neg Bool.false_ne_true]
    exact c.same hb hne
theorem PutInvD.s10 (h : PutInvD W0 B lv rv rows x d u W) (hB : B < W0.heap.size) (hne : ¬ lv.ownBlock = some B) (h7 : d 7 = true) (v : Value) :
    PutInvD W0 B lv rv rows x (fun j => if j = 10 then true else d j) (fun j => if j = 10 then v else u j) (W.setCell ⟨B, 1, none⟩ (u 7)) := by
  have c : Chg (fun k => k = B) W (W.setCell ⟨B, 1, none⟩ (u 7)) := (Chg.refl (fun k => k = B) W).setCell (p := ⟨B, 1, none⟩) (.inl rfl) _
  refine ⟨h.chg.trans c (fun k hk => .inl (.inl hk)), h.v2, h.v4, h.v8, h.v6, h.v7, fun e => h.o7 e, fun _ => h7, fun e => ?_, fun _ e2 => ?_, fun _ => ⟨own_still (h.f7 h7).1 c (fun k hk e => ?_), fun k hk => (h.f7 h7).2 k hk⟩, ?_⟩
  · have e' : d 7 = false := e
    rw [h7] at e'; cases e'
  · have e' : d 7 = false := e2
    rw [h7] at e'; cases e'
  · subst e
    rcases (h.f7 h7).2 k hk with h1 | h1
    · exact hne h1
    · omega
  · have := h.box
    show (W.setCell ⟨B, 1, none⟩ (u 7)).heap[B]? = some (.cells #[rv, u 7] _ _)
    simp [World.setCell, Array.getElem?_modify, this]
end

/-- What the loop of Copy owns: the variable at O, the repo at G, whose commits are those that were told. -/
def CopK (O G z : Nat) (pre : List (Nat × Cm)) (S : Blk) (W : World) : Prop :=
  ∃ lv rows D, S = (fun k => k = O ∨ (refS G lv k ∨ D k)) ∧ KRep G (pre.map (·.2), z) lv rows D W ∧ Boxed W O 26 (ptr G) ∧ ¬ (refS G lv O ∨ D O)
theorem CopK.part (O G z : Nat) (pre : List (Nat × Cm)) : Part (CopK O G z pre) := {
  lt := by
    rintro S W ⟨lv, rows, D, rfl, h, b, _⟩ k (rfl | hk | hk)
    · exact b.lt
    · exact h.ltO k hk
    · exact h.lt k hk
  kept := by
    rintro S W W' ⟨lv, rows, D, rfl, h, b, hn⟩ hs hk
    exact ⟨lv, rows, D, rfl, h.kept hs (fun k hh => hk k (.inr hh)), (hk O (.inl rfl)).trans b, hn⟩ }

set_option maxRecDepth 100000 in
set_option maxHeartbeats 8000000 in
theorem copy_in1 (B : Nat) (s : Rp) (lv : Value) (rows : List Rw) (D : Blk) (more : Int) (w : World) (h : KRep B s lv rows D w) (hl : s.1.length ≤ 200) :
    CallsIn Fence.wide 0 Tryd.prog 19 #[ptr B, iv more] w fun e w' => ∃ B' lv' rows' D', e = .returned (ptr B') ∧ KRep B' (copyC s more) lv' rows' D' w' ∧ (∀ k, (refS B' lv' k ∨ D' k) → w.heap.size ≤ k) ∧ Chg No w w' := by
  have hmix : Tryd.prog.follows .mixedOrders = true := by kernel_rfl
  have hnil := ptr_nil B
  obtain ⟨t0, _, _, _⟩ := h.cells
  have hroom := h.room
  obtain ⟨cm, hcm⟩ : ∃ cm, clip more = cm := ⟨_, rfl⟩
  have hcm2 : cm ≤ 120 := by rw [← hcm]; unfold clip; omega
  have C1 : ∀ W, CallsIn Fence.wide 0 Tryd.prog 27 #[iv more] W fun e w' => e = .returned (iv (cm : Nat)) ∧ w' = W := fun W => by have := clipped_in more W; rw [hcm] at this; exact this
  obtain ⟨R, hR⟩ : ∃ R, s.2 = R := ⟨_, rfl⟩
  rw [hR] at t0 hroom
  obtain ⟨z, hz⟩ : ∃ z, clip ((R : Int) + (cm : Int)) = z := ⟨_, rfl⟩
  have hcp : copyC s more = (s.1, z) := by
    unfold copyC
    rw [hcm, hR, ← hz]
    congr 1
    unfold clip
    omega
  have hz2 : z ≤ 120 := by rw [← hz]; unfold clip; omega
  have N1 : ∀ W, CallsIn Fence.wide 0 Tryd.prog 10 #[iv ((R : Int) + (cm : Int))] W fun e w' => e = .returned (ptr W.heap.size) ∧ w' = W.alloc (.cells #[iv (z : Nat), .slice none 0 0] 55) := fun W => by have := new_in ((R : Int) + (cm : Int)) W; rw [hz] at this; exact this
  rw [hcp]
  have hany := After.any w
  have f0 : ∀ d : After w, d.val.cell? ⟨B, 0, none⟩ = some (iv (R : Int)) := fun d => d.cell t0
  have HH : Hid _ := h
  clear h hcp hcm hR hz t0
  refine callsIn_of_wp_marks Tryd.func19 rfl trivial ?_
  simp only [Tryd.ntmps19, List.size_toArray, List.length_cons, List.length_nil, Nat.reduceAdd, Nat.reduceSub, Array.replicate_succ, Array.replicate_zero, List.push_toArray, List.append_toArray, List.nil_append, List.cons_append]
  gi_wp2
  refine region_loudG (fun i => i == 1 || i == 5 || i == 7 || i == 8 || i == 9) (fun w' => ∃ d : After w, w' = d.val) (CopInv w B (cm : Int) (z : Int))
    (fun j => if j = 1 then ptr B else if j = 5 then iv (cm : Int) else ptr 0) hmix (by kernel_rfl) (by kernel_rfl) (fun d u W hI => ⟨⟨W, hI.chg⟩, rfl⟩)
    ⟨(Chg.refl _ w).drew, rfl, rfl, ⟨0, rfl⟩, ⟨0, rfl⟩, fun h => (by cases h), fun h => (by cases h), fun h => (by cases h)⟩ (fun u hu => ?_)
  obtain ⟨_, _, hu⟩ := hu
  have e1 := hu.v1
  have e5 := hu.v5
  obtain ⟨g7, e7⟩ := hu.v7
  obtain ⟨g8, e8⟩ := hu.v8
  clear hu
  simp only [hushE, Nat.reduceAdd, Nat.reduceBEq, Bool.or_self, Bool.or_true, Bool.or_false, if_true, if_false, Bool.false_eq_true]
  simp only [e1, e5, e7, e8]
  repeat (gi_big_quiet_step (fail))
  refine wpQuietIn_nil ⟨?_, ?_, ?_⟩
  · intro i oo ho hm
    simp only [Bool.or_eq_true, beq_iff_eq] at hm
    rcases hm with (((rfl | rfl) | rfl) | rfl) | rfl
    all_goals (cases ho; rfl)
  · intro i oo d W hjo hm hd hwt hI
    simp only [Bool.or_eq_true, beq_iff_eq] at hm
    rcases hm with (((rfl | rfl) | rfl) | rfl) | rfl
    · cases hjo
      refine LeadsV.value (v := ptr B) (w' := W) ?_ hI.s1
      simp [go_sem]
    · cases hjo
      refine LeadsV.call (f := 27) (args := #[iv more]) (by simp [go_sem]) ((C1 W).mono ?_)
      rintro e w2 ⟨rfl, hw⟩
      subst hw
      exact ⟨_, rfl, hI.s5⟩
    · cases hjo
      refine LeadsV.call (f := 10) (args := #[iv ((R : Int) + (cm : Int))]) (by simp [go_sem]) ((N1 W).mono ?_)
      rintro e w2 ⟨rfl, hw⟩
      subst hw
      exact ⟨_, rfl, hI.s7 hd⟩
    · cases hjo
      refine LeadsV.value (v := ptr W.heap.size) (w' := W.alloc (.cells #[.pointer none] 26)) ?_ (hI.s8 hd)
      simp [go_sem]
    · cases hjo
      have h7 := hwt 7 rfl (by kernel_rfl)
      have h8 := hwt 8 rfl (by kernel_rfl)
      obtain ⟨g, k1, _, k3⟩ := hI.f8 h8
      rw [e8] at k1
      cases k1
      have kb : W.cell? ⟨g8, 0, none⟩ = some (if d 9 = true then u 7 else .pointer none) := by simp [World.cell?, k3]
      have kf : W.frozen? ⟨g8, 0, none⟩ = false := by simp [World.frozen?, k3]
      refine LeadsV.skip (w' := W.setCell ⟨g8, 0, none⟩ (u 7)) ?_ (hI.s9 h7 h8 e8 undef)
      rw [e7]
      simp [go_sem, kb, kf]
  · intro d W hall hI
    obtain ⟨g, k1, k2, k3⟩ := hI.f7 (hall 7 rfl (by simp))
    rw [e7] at k1
    cases k1
    obtain ⟨g', j1, j2, j3⟩ := hI.f8 (hall 8 rfl (by simp))
    rw [e8] at j1
    cases j1
    rw [hall 9 rfl (by simp), if_pos rfl, e7] at j3
    have cW := hI.chg
    have hne : ¬ g8 = g7 := fun e => by subst e; rw [k3] at j3; cases j3
    have hk := HH.out.no cW
    have A1 := allG_in B s lv rows D W hk hl
    have hkz : KRep g7 ([], z) (.slice none 0 0) [] No W := ⟨k3, World.ownsRow_nil _ _ _ _, ⟨rfl, fun i r c h => by simp at h⟩, (fun h => by cases h), fun _ h => h.elim, fun _ h => h.elim, hz2, fun c h => by cases h⟩
    clear hI hall f0 hany e1 e5 e7 e8 C1 N1
    gi_wp2_with fail
    refine ⟨trivial, rfl, A1.mono ?_⟩
    rintro e w2 ⟨rfl, hw, it⟩
    have c2 : Chg No W w2 := hw ▸ (Chg.refl _ W).alloc _
    have hsz2 : W.heap.size ≤ w2.heap.size := c2.size
    have hI0 : Boxed w2 W.heap.size 26 (ptr B) ∧ KRep B s lv rows D w2 := ⟨hw ▸ Boxed.new W _ _, hk.no c2⟩
    have hb8 : Boxed w2 g8 26 (ptr g7) := c2.same j3 (fun h => h)
    have hK0 : CopK g8 g7 z [] (fun k => k = g8 ∨ (refS g7 (.slice none 0 0) k ∨ No k)) w2 := ⟨_, _, _, rfl, hkz.no c2, hb8, fun e => by
      rcases e with (e | e) | e
      · exact hne e
      · cases e
      · exact e⟩
    have hg7 : g7 < W.heap.size := (Array.getElem?_eq_some_iff.1 k3).1
    have hg8 : g8 < W.heap.size := (Array.getElem?_eq_some_iff.1 j3).1
    have HDS : Hid (∀ k, (k = W.heap.size ∨ (refS B lv k ∨ D k)) → ¬ (k = g8 ∨ (refS g7 (.slice none 0 0) k ∨ No k))) := fun k hk1 hk2 => by
      have hlow : k = W.heap.size ∨ k < w.heap.size := by
        rcases hk1 with e | e | e
        · exact .inl e
        · exact .inr (HH.out.ltO k e)
        · exact .inr (HH.out.lt k e)
      rcases hk2 with e | (e | e) | e
      · rcases hlow with q | q <;> omega
      · rcases hlow with q | q <;> omega
      · cases e
      · exact e
    have c02 : Chg No w w2 := Chg.seq cW c2
    have hg78 : w.heap.size ≤ g7 ∧ w.heap.size ≤ g8 := ⟨k2, j2⟩
    clear A1 k3 j3 hkz hw hk
    gi_wp2
    refine wpIn_rangeG (gf := 54) (lb := #[ptr W.heap.size]) rfl all_enters it (fun T W vals x h => h.size) (fun T W W' vals x S h c hd => h.kept c hd)
      (CopK g8 g7 z) (fun _ _ _ _ => False) (fun pre => CopK.part _ _ _ _) (fun _ _ => Part.false) hI0 hK0 HDS.out
      (fun _ vals X => { tmps := #[ptr B, iv more, undef, undef, .pointer none, ptr g8, undef, ptr X, ptr B, .bool false, ptr B, ptr B, .pointer (some ⟨B, 0, none⟩), iv (R : Int), iv more, iv (cm : Int), .int .i64 ((R : Int) + (cm : Int)), ptr g7, ptr B, .func (.func 54) #[] #[ptr W.heap.size], valA vals, valB vals, undef, undef, undef, undef, undef, undef, undef, undef, undef, undef, undef], defers := [] })
      (fun _ vals => .cells (aggA (valB vals)) 36) ?assign ?body ?done ?stop
    case assign =>
      rintro l x T vals W5 R5 ⟨v, rfl, p1, n1, k1, q1, m1, l1, rfl, -⟩ hR
      simp only [valA_mk, valB_mk, aggA_mk] at hR
      gi_wp2
      exact hR
    case body =>
      rintro lr pre ⟨xi, xc⟩ T vals S5 W5 X hpre ⟨v, rfl, hcm⟩ hT hTn hWs ⟨lv5, rows5, D5, rfl, hK5, hb5, hn5⟩ hX hXS hXge
      obtain ⟨hx1, hx2⟩ := enumC_pre hpre
      dsimp only at hx1 hx2 hcm
      have hxs := HH.out.small xc (List.mem_of_getElem? hx2)
      have hpl : pre.length < 200 := by
        have := (List.getElem?_eq_some_iff.1 hx2).1
        omega
      have hcmL := hcm.low
      obtain ⟨p1, n1, k1, q1, m1, l1, rfl, _⟩ := hcm
      simp only [valB_mk, aggA_mk] at hX
      have hXl : X < W5.heap.size := (Array.getElem?_eq_some_iff.1 hX).1
      obtain ⟨p5, cap5, rfl⟩ := hK5.slice
      obtain ⟨N5, hN5⟩ : ∃ N5, (pre.map (·.2)).length = N5 := ⟨_, rfl⟩
      have hN52 : N5 ≤ 200 := by rw [← hN5, List.length_map]; omega
      have hrl : rows5.length = N5 := by rw [hK5.red.len]; exact hN5
      have hHK5 := hK5
      obtain ⟨_, y1, _, _⟩ := hK5.cells
      have hbox := hK5.box
      have hown := hK5.own
      have hne5 := hK5.ne
      have hl5 := hK5.ltO
      dsimp only at y1 hbox hown hne5 hl5 hN5 hX hXS hn5 hT
      rw [hN5] at y1 hbox hown hne5 hl5 hn5 hXS
      have HK5 : Hid _ := hHK5
      have HT5 : Hid _ := hT
      have HTn : Hid _ := hTn
      have hB5 : g7 < W5.heap.size := hl5 g7 (.inl rfl)
      have hX8 : ¬ refS g7 (.slice p5 N5 cap5) X := fun e => hXS (.inr (.inl e))
      have h88 : ¬ refS g7 (.slice p5 N5 cap5) g8 := fun e => hn5 (.inl e)
      have hc8 := hb5.cell
      have xx0 : W5.cell? ⟨X, 0, none⟩ = some (.slice p1 n1 k1) := by simp [World.cell?, hX]
      have xx1 : W5.cell? ⟨X, 1, none⟩ = some (.slice q1 m1 l1) := by simp [World.cell?, hX]
      have xx2 : W5.cell? ⟨X, 2, none⟩ = some (.string xc.2.2) := by simp [World.cell?, hX]
      have hany : Nonempty (AfterB (refS g7 (.slice p5 N5 cap5)) W5) := AfterB.any _ _
      have f0 : ∀ d : AfterB (refS g7 (.slice p5 N5 cap5)) W5, d.val.cell? ⟨g8, 0, none⟩ = some (ptr g7) := fun d => d.cell hc8 h88
      have f1 : ∀ d : AfterB (refS g7 (.slice p5 N5 cap5)) W5, d.val.cell? ⟨X, 0, none⟩ = some (.slice p1 n1 k1) := fun d => d.cell xx0 hX8
      have f2 : ∀ d : AfterB (refS g7 (.slice p5 N5 cap5)) W5, d.val.cell? ⟨X, 1, none⟩ = some (.slice q1 m1 l1) := fun d => d.cell xx1 hX8
      have f3 : ∀ d : AfterB (refS g7 (.slice p5 N5 cap5)) W5, d.val.cell? ⟨X, 2, none⟩ = some (.string xc.2.2) := fun d => d.cell xx2 hX8
      clear xx0 xx1 xx2 hc8 hX hXS hK5 hHK5 hT hTn hx1 hX8
      simp only [valA_mk, valB_mk]
      gi_wp2
      refine region_loudGR (by kernel_rfl) (fun i => i == 2 || i == 4 || i == 6 || i == 7 || i == 8 || i == 10) (fun w' => ∃ d : AfterB (refS g7 (.slice p5 N5 cap5)) W5, w' = d.val) (PutInvD W5 g7 (.slice p5 N5 cap5) (iv (z : Nat)) rows5 (.slice p1 n1 k1, .slice q1 m1 l1, xc.2.2))
        (fun j => if j = 4 then .slice p5 N5 cap5 else if j = 2 then ptr g7 else if j = 8 then ptr g7 else .slice none 0 0) hmix (by kernel_rfl) (by kernel_rfl) (fun d u W hI => ⟨⟨W, hI.chg⟩, rfl⟩)
        ⟨(Chg.refl _ W5).drew, rfl, rfl, rfl, ⟨none, 0, 0, rfl⟩, ⟨none, 0, 0, rfl⟩, fun h => (by cases h), fun h => (by cases h), fun _ => hown, fun h => (by cases h), fun h => (by cases h), hbox⟩ (fun u hu => ?_)
      obtain ⟨_, _, hu⟩ := hu
      have e2 := hu.v2
      have e4 := hu.v4
      have e8 := hu.v8
      obtain ⟨q6, m6, k6, e6⟩ := hu.v6
      obtain ⟨q7, m7, k7, e7⟩ := hu.v7
      clear hu
      simp only [hushE, Nat.reduceAdd, Nat.reduceBEq, Bool.or_self, Bool.or_true, Bool.or_false, if_true, if_false, Bool.false_eq_true]
      simp only [e2, e4, e6, e7, e8]
      repeat (gi_big_quiet_step (fail))
      refine wpQuietIn_nil ⟨?_, ?_, ?_⟩
      · intro i oo ho hm
        simp only [Bool.or_eq_true, beq_iff_eq] at hm
        rcases hm with ((((rfl | rfl) | rfl) | rfl) | rfl) | rfl
        all_goals (cases ho; rfl)
      · intro i oo d W hjo hm hd hwt hI
        simp only [Bool.or_eq_true, beq_iff_eq] at hm
        rcases hm with ((((rfl | rfl) | rfl) | rfl) | rfl) | rfl
        · cases hjo
          refine LeadsV.value (v := ptr g7) (w' := W) ?_ hI.s2
          simp [go_sem]
        · cases hjo
          have h7 : d 7 = false := by
            cases e : d 7 with
            | false => rfl
            | true => have := (hI.o7 e).1; rw [hd] at this; cases this
          have hb := hI.box
          rw [hI.n10 h7, if_neg Bool.false_ne_true] at hb
          have kb : W.cell? ⟨g7, 1, none⟩ = some (.slice p5 N5 cap5) := by simp [World.cell?, hb]
          refine LeadsV.value (v := .slice p5 N5 cap5) (w' := W) ?_ hI.s4
          simp [go_sem, kb]
        · cases hjo
          refine LeadsV.value (v := .slice (some ⟨W.heap.size, 0, none⟩) 1 1) (w' := W.alloc (.cells #[.slice p1 n1 k1, .slice q1 m1 l1, .string xc.2.2] 36)) ?_ (hI.s6 hd)
          simp [go_sem]
        · cases hjo
          have h4 := hwt 4 rfl (by kernel_rfl)
          have h6 := hwt 6 rfl (by kernel_rfl)
          have hsl := (hI.f6 h6 hd).1
          rw [e6] at hsl
          have hm6 : m6 = 1 := by obtain ⟨_, _, e, _⟩ := hsl; cases e; rfl
          subst hm6
          refine LeadsV.append_sm _ _ rfl 0 (.slice p5 N5 cap5) rows5 rfl (hI.f4 hd) q6 1 k6 [(.slice p1 n1 k1, .slice q1 m1 l1, xc.2.2)] rfl hsl (fun r hr => by rw [List.mem_singleton.1 hr]; exact ⟨rfl, rfl⟩) (by omega) (Nat.zero_le _) ?_
          intro v' w' ho' hg' hat
          exact hI.s7 hne5 hd h4 h6 hg' ho' hat
        · cases hjo
          refine LeadsV.value (v := ptr g7) (w' := W) ?_ hI.s8
          simp [go_sem]
        · cases hjo
          have h7 := hwt 7 rfl (by kernel_rfl)
          have hb := hI.box
          have kb : W.cell? ⟨g7, 1, none⟩ = some (if d 10 = true then u 7 else .slice p5 N5 cap5) := by simp [World.cell?, hb]
          have kf : W.frozen? ⟨g7, 1, none⟩ = false := by simp [World.frozen?, hb]
          refine LeadsV.skip (w' := W.setCell ⟨g7, 1, none⟩ (u 7)) ?_ (hI.s10 hB5 hne5 h7 undef)
          rw [e7]
          simp [go_sem, kb, kf]
      · intro d W6 hall hI
        have h7 := hall 7 rfl (by simp)
        have hb := hI.box
        rw [hall 10 rfl (by simp), if_pos rfl] at hb
        obtain ⟨ho7, hat7⟩ := hI.f7 h7
        have hcW := hI.chg
        have hk5 := HK5.out
        rw [hN5] at hk5
        have hT5 := HT5.out
        rw [hN5] at hT5
        have hT' := hcmL.chg hcW (fun j hj e => hT5 j hj.1 (.inr (.inl e)))
        have hR : KRep g7 ((pre ++ [(xi, xc)]).map (·.2), z) (u 7) (rows5 ++ [(.slice p1 n1 k1, .slice q1 m1 l1, xc.2.2)]) (fun k => D5 k ∨ (T k ∧ k < W5.heap.size)) W6 := by
          rw [List.map_append]
          refine ⟨hb, ho7, (hk5.red.chg hcW hk5.apart).snoc hT', fun e => ?_, fun k hk e => ?_, fun k hk => ?_, hk5.room, fun x hx => ?_⟩
          · rcases hat7 g7 e with h | h
            · exact hne5 h
            · omega
          · rcases hk with hk | hk
            · rcases e with e | e
              · exact hk5.apart k hk (.inl e)
              · rcases hat7 k e with h | h
                · exact hk5.apart k hk (.inr h)
                · have := hk5.lt k hk; omega
            · rcases e with e | e
              · exact hT5 k hk.1 (.inr (.inl (.inl e)))
              · rcases hat7 k e with h | h
                · exact hT5 k hk.1 (.inr (.inl (.inr h)))
                · have := hk.2; omega
          · rcases hk with hk | hk
            · exact Nat.lt_of_lt_of_le (hk5.lt k hk) hcW.size
            · exact Nat.lt_of_lt_of_le hk.2 hcW.size
          · rcases List.mem_append.1 hx with h | h
            · exact hk5.small x h
            · have h' : x = xc := by simpa using h
              rw [h']; exact hxs
        have hb6 := hcW.boxed hb5 h88
        have hn6 : ¬ (refS g7 (u 7) g8 ∨ (D5 g8 ∨ (T g8 ∧ g8 < W5.heap.size))) := fun e => by
          rcases e with (e | e) | e | e
          · exact hne e
          · rcases hat7 g8 e with h | h
            · exact h88 (.inr h)
            · omega
          · exact hn5 (.inr e)
          · exact hT5 g8 e.1 (.inl rfl)
        have hTn := HTn.out
        have hgrow : ∀ k, (k = g8 ∨ (refS g7 (u 7) k ∨ (D5 k ∨ (T k ∧ k < W5.heap.size)))) → (k = g8 ∨ (refS g7 (.slice p5 N5 cap5) k ∨ D5 k)) ∨ w2.heap.size + 2 ≤ k := fun k hk => by
          rcases hk with h | (h | h) | h | h
          · exact .inl (.inl h)
          · exact .inl (.inr (.inl (.inl h)))
          · rcases hat7 k h with q | q
            · exact .inl (.inr (.inl (.inr q)))
            · exact .inr (by omega)
          · exact .inl (.inr (.inr h))
          · exact .inr (hTn k h.1)
        have hcS : Chg (fun k => k = g8 ∨ (refS g7 (.slice p5 N5 cap5) k ∨ D5 k)) W5 W6 := hcW.mono (fun k hk => .inr (.inl hk))
        clear hI hall f0 f1 f2 f3 hany e2 e4 e8 hb ho7 hat7 hT' hcW
        subst hN5
        simp only [List.length_map] at hcS hgrow
        gi_wp2
        exact ⟨_, hcS, hgrow, _, _, _, rfl, hR, hb6, hn6⟩
    case done =>
      rintro d S' W9 hd ⟨lv9, rows9, D9, rfl, hK9, hb9, hn9⟩ hI' hc hg hdd hnd
      rw [enumC_snd] at hK9
      have h8 := hb9.cell
      have hlow : ∀ k, (refS g7 lv9 k ∨ D9 k) → w.heap.size ≤ k := fun k hk => by
        rcases hg k (.inr hk) with e | e
        · rcases e with e | (e | e) | e
          · omega
          · omega
          · cases e
          · exact e.elim
        · have := c02.size; omega
      have cc : Chg No w W9 := c02.trans hc (fun k hk => by
        rcases hk with e | e | (e | e) | e
        · exact e.elim
        · exact .inr (by omega)
        · exact .inr (by omega)
        · cases e
        · exact e.elim)
      gi_wp2
      refine ⟨by simp, .inl ⟨_, _, rfl, run_takeDeferred hdd, ?_⟩⟩
      have hkd : KRep g7 (s.1, z) lv9 rows9 D9 (W9.putObj d (.deferred none)) := hK9.chg (Chg.put1 _ _ _) (fun k hk e => hnd (.inr (by rw [← e]; exact hk)))
      refine ⟨_, results_tmp rfl _ _ _, ?_⟩
      exact ⟨g7, rfl, lv9, rows9, D9, hkd, hlow, Chg.putObj cc (.inr (Nat.le_trans c02.size hd)) _⟩
    case stop =>
      rintro d c pre S' W _ _ h
      exact h.elim

theorem copyN_in (more : Int) (w : World) : CallsIn Fence.wide 0 Tryd.prog 19 #[.pointer none, iv more] w fun e w' => e = .returned (.pointer none) ∧ Chg No w w' := by
  have hnil := nil_nil
  refine callsIn_of_wp_marks Tryd.func19 rfl trivial ?_
  simp only [Tryd.ntmps19, List.size_toArray, List.length_cons, List.length_nil, Nat.reduceAdd, Nat.reduceSub, Array.replicate_succ, Array.replicate_zero, List.push_toArray, List.append_toArray, List.nil_append, List.cons_append]
  gi_wp2
  exact ⟨_, results_tmp rfl _ _ _, rfl, Chg.refl _ _⟩

end Go.Proofs.YtconingjdgmodaaDoor

end
section
-- KSpec
namespace Go.Proofs.YtconingjdgmodaaDoor
open Go.RowKit Go.Shelf Go.SeqLib Go.DiffLib Go.TreeLib Go.RepoLib Go.BigFrame
attribute [local go_sem] Oper.semAt_some

theorem repoSpec : RepoSpec2 LRep := {
  part := LRep.part
  sub := by
    rintro B s S O W ⟨lv, rows, D, _, rfl, rfl⟩ k hk
    exact .inl hk
  new := fun room w _ _ => (new_in room w).mono (by
    rintro e w' ⟨rfl, rfl⟩
    refine ⟨w.heap.size, _, _, rfl, ⟨_, _, _, KRep.made room w, rfl, rfl⟩, fun k hk => ?_, (Chg.refl _ w).alloc _⟩
    rcases hk with (hk | hk) | hk
    · omega
    · cases hk
    · exact hk.elim)
  may := fun D v c w hv hc => mayR_in v c D w hv hc
  add := by
    rintro B s S O E v c w ⟨lv, rows, D, h, rfl, rfl⟩ hv hE hc hl
    refine (add_in B s lv rows D E v c w h hv (fun k hk e => hE k hk (.inl e)) hl hc).mono ?_
    rintro e w' ⟨rfl, lv', rows', D', h', c', g1, g2⟩
    exact ⟨_, _, rfl, ⟨lv', rows', D', h', rfl, rfl⟩, c', g1, g2⟩
  find := by
    rintro B s S O E v c w ⟨lv, rows, D, h, rfl, rfl⟩ hv _ hl
    exact find_in B s lv rows v c D E w h hv (by omega)
  len := by
    rintro B s S O w ⟨lv, rows, D, h, rfl, rfl⟩ _
    exact (len_in B s lv rows D w h).mono (by rintro e w' ⟨rfl, rfl⟩; exact ⟨rfl, Chg.refl _ _⟩)
  copy := by
    rintro B s S O more w ⟨lv, rows, D, h, rfl, rfl⟩ hl _ _
    refine (copy_in1 B s lv rows D more w h hl).mono ?_
    rintro e w' ⟨B', lv', rows', D', rfl, h', hn, c'⟩
    exact ⟨B', _, _, rfl, ⟨lv', rows', D', h', rfl, rfl⟩, fun k hk => hn k (.inl hk), fun k hk => .inr (hn k hk), c'⟩
  get := by
    rintro B s S O n w ⟨lv, rows, D, h, rfl, rfl⟩ hl h0 h1
    exact get_in1 B s lv rows D n w h hl h0 h1
  all := by
    rintro B s S O w ⟨lv, rows, D, h, rfl, rfl⟩ hl
    refine (allG_in B s lv rows D w h hl).mono ?_
    rintro e w' ⟨rfl, hw, it⟩
    have ca : Chg No w w' := hw ▸ (Chg.refl _ w).alloc _
    refine ⟨_, _, _, _, rfl, it.toR, ⟨hw ▸ Boxed.new w _ _, h.no ca⟩, all_enters, ca, fun k hk => ?_⟩
    rcases hk with hk | hk
    · exact .inr (by omega)
    · exact .inl hk
  addN := fun D v c w hv _ => addN_in D v c w hv
  findN := fun D v c w hv _ => findN_in v c D w hv
  lenN := fun w => (lenN_in w).mono (by rintro e w' ⟨rfl, rfl⟩; exact ⟨rfl, Chg.refl _ _⟩)
  copyN := fun more w => copyN_in more w
  getN := fun n w => getN_in n w }

end Go.Proofs.YtconingjdgmodaaDoor

end
