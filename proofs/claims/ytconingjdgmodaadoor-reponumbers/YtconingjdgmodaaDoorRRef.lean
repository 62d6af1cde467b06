/-
  The document's own repo: how it lies in memory; New, Has and Find.
-/
import Derived.Test.YtconingjdgmodaaDoorRSameC
import Derived.Test.YtconingjdgmodaaDoorRMayC
import Derived.Test.YtconingjdgmodaaDoorGLoud
import Derived.Test.YtconingjdgmodaaDoorLoudA
namespace Go.Proofs.YtconingjdgmodaaDoor
open Go.RowKit Go.Shelf Go.SeqLib Go.DiffLib Go.TreeLib Go.RepoLib Go.BigFrame
attribute [local go_sem] Oper.semAt_some

abbrev OwnM (W : World) (base : Nat) (v : Value) (rows : List Rw) : Prop := W.ownsRow base 36 3 v rows.length (rows.flatMap eM)
theorem OwnM.kept {W W' : World} {base : Nat} {v : Value} {rows : List Rw} (h : OwnM W base v rows) (hk : ∀ k, v.ownBlock = some k → W'.heap[k]? = W.heap[k]?) : OwnM W' base v rows := by
  refine ⟨h.1, ?_⟩
  rcases h.2 with hn | ⟨g, cap, cur, rfl, hb, hgg, rest⟩
  · exact .inl hn
  · exact .inr ⟨g, cap, cur, rfl, hb, (hk g rfl).trans hgg, rest⟩
/-- The rows read as these commits, whose own lists lie below b. -/
structure RowsM (b : Nat) (W : World) (rows : List Rw) (L : List Cm) : Prop where
  len : rows.length = L.length
  at_ : ∀ (i : Nat) (r : Rw) (c : Cm), rows[i]? = some r → L[i]? = some c → CmD (fun k => k < b) W (.agg #[r.1, r.2.1, .string r.2.2]) c
theorem RowsM.chg {b : Nat} {S : Blk} {W W' : World} {rows : List Rw} {L : List Cm} (h : RowsM b W rows L) (c : Chg S W W') (hS : ∀ k, S k → b ≤ k) : RowsM b W' rows L :=
  ⟨h.len, fun i r x hr hx => (h.at_ i r x hr hx).chg c (fun j hj hs => by have := hS j hs; omega)⟩
theorem RowsM.no {b : Nat} {W W' : World} {rows : List Rw} {L : List Cm} (h : RowsM b W rows L) (c : Chg No W W') : RowsM b W' rows L := h.chg c (fun _ h => h.elim)
theorem RowsM.low {b : Nat} {W : World} {v : Value} {rows : List Rw} {L : List Cm} (h : RowsM b W rows L) (hr : SlE 3 eM W v rows) : ∀ m, (∀ k, slE v rows k → k < m) → b ≤ m → LowM m W v rows L := fun m hm hb =>
  ⟨hr, h.len, hm, fun i r c h1 h2 => (h.at_ i r c h1 h2).mono (fun k hk => by omega)⟩
/-- The document's repo at block B: its commits and its room. -/
structure RefRep (b B : Nat) (s : Rp) (lv : Value) (rows : List Rw) (W : World) : Prop where
  box : W.heap[B]? = some (.cells #[lv, iv (s.2 : Nat)] 57 (0, 0))
  own : OwnM W b lv rows
  red : RowsM b W rows s.1
  ne : ¬ lv.ownBlock = some B
  lowB : b ≤ B
def refS (B : Nat) (lv : Value) : Blk := fun k => k = B ∨ lv.ownBlock = some k
theorem RefRep.chg {b B : Nat} {s : Rp} {lv : Value} {rows : List Rw} {W W' : World} {T : Blk} (h : RefRep b B s lv rows W) (c : Chg T W W') (hd : ∀ k, refS B lv k → ¬ T k) (hb : ∀ k, T k → b ≤ k) : RefRep b B s lv rows W' :=
  ⟨c.same h.box (hd B (.inl rfl)), OwnM.kept h.own (fun k hk => c.block k (World.ownsRow.lt h.own k hk).2 (hd k (.inr hk))), h.red.chg c hb, h.ne, h.lowB⟩
theorem RefRep.no {b B : Nat} {s : Rp} {lv : Value} {rows : List Rw} {W W' : World} (h : RefRep b B s lv rows W) (c : Chg No W W') : RefRep b B s lv rows W' := h.chg c (fun _ _ h => h) (fun _ h => h.elim)
theorem RefRep.low {b B : Nat} {s : Rp} {lv : Value} {rows : List Rw} {W : World} (h : RefRep b B s lv rows W) : ∀ k, refS B lv k → b ≤ k ∧ k < W.heap.size := by
  rintro k (rfl | hk)
  · exact ⟨h.lowB, (Array.getElem?_eq_some_iff.1 h.box).1⟩
  · exact World.ownsRow.lt h.own k hk
theorem RefRep.slice {b B : Nat} {s : Rp} {lv : Value} {rows : List Rw} {W : World} (h : RefRep b B s lv rows W) : ∃ p cap, lv = .slice p s.1.length cap := by
  obtain ⟨p, c, e⟩ := row_slice h.own
  rw [h.red.len] at e
  exact ⟨p, c, e⟩
theorem RefRep.cells {b B : Nat} {s : Rp} {lv : Value} {rows : List Rw} {W : World} (h : RefRep b B s lv rows W) : W.cell? ⟨B, 0, none⟩ = some lv ∧ W.cell? ⟨B, 1, none⟩ = some (iv (s.2 : Nat)) ∧ W.frozen? ⟨B, 0, none⟩ = false ∧ W.frozen? ⟨B, 1, none⟩ = false := by
  have hb := h.box
  refine ⟨?_, ?_, ?_, ?_⟩ <;> simp [World.cell?, World.frozen?, hb]
theorem RefRep.row {b B : Nat} {s : Rp} {lv : Value} {rows : List Rw} {W : World} (h : RefRep b B s lv rows W) : LowM W.heap.size W lv rows s.1 := by
  refine h.red.low (SlE.ofRow eM_len h.own) _ (fun k hk => (World.ownsRow.lt h.own k hk.2).2) ?_
  have := (Array.getElem?_eq_some_iff.1 h.box).1
  have := h.lowB
  omega

set_option maxHeartbeats 1000000 in
theorem refNew_in (b : Nat) (room : Int) (h0 : -1000 ≤ room) (h1 : room ≤ 1000) (w : World) (hb : b ≤ w.heap.size) : CallsIn Fence.wide 0 Tryd.prog 11 #[iv room] w fun e w' => ∃ B, e = .returned (ptr B) ∧ RefRep b B (newC room) (.slice none 0 0) [] w' ∧ w.heap.size ≤ B ∧ Chg No w w' := by
  obtain ⟨m, hm⟩ : ∃ m, clip room = m := ⟨_, rfl⟩
  have hm2 : ((m : Nat) : Int) = min (max room 0) 120 := by rw [← hm]; unfold clip; omega
  refine callsIn_of_wp Tryd.func11 rfl trivial ?_
  simp only [Tryd.ntmps11, List.size_toArray, List.length_cons, List.length_nil, Nat.reduceAdd, Nat.reduceSub, Array.replicate_succ, Array.replicate_zero, List.push_toArray, List.append_toArray, List.nil_append, List.cons_append]
  gi_wp2
  go_ret
  refine ⟨w.heap.size, rfl, ⟨?_, World.ownsRow_nil _ _ _ _, ⟨rfl, fun i r c h => by simp at h⟩, (fun h => by cases h), hb⟩, Nat.le_refl _, (Chg.refl _ w).alloc _⟩
  have := World.alloc_heap_new w (.cells #[.slice none 0 0, .int .i64 (min (max room 0) 120)] 57 (0, 0))
  show _ = some (Obj.cells #[.slice none 0 0, iv ((clip room : Nat) : Int)] _ _)
  rw [hm, hm2]
  exact this

set_option maxHeartbeats 1000000 in
theorem refHas_in (b B : Nat) (s : Rp) (lv : Value) (rows : List Rw) (n : Int) (w : World) (h : RefRep b B s lv rows w) : CallsIn Fence.wide 0 Tryd.prog 30 #[ptr B, iv n] w fun e w' => e = .returned (.bool (hasN s.1.length n)) ∧ w' = w := by
  obtain ⟨k1, k2, _, _⟩ := h.cells
  obtain ⟨p, cap, rfl⟩ := h.slice
  generalize s.1.length = z at *
  unfold hasN
  refine callsIn_of_wp Tryd.func30 rfl trivial ?_
  simp only [Tryd.ntmps30, List.size_toArray, List.length_cons, List.length_nil, Nat.reduceAdd, Nat.reduceSub, Array.replicate_succ, Array.replicate_zero, List.push_toArray, List.append_toArray, List.nil_append, List.cons_append]
  by_cases h1 : 1 ≤ n
  · gi_wp2
    go_ret
    exact ⟨by rw [decide_eq_true h1]; rfl, rfl⟩
  · gi_wp2
    go_ret
    exact ⟨by rw [decide_eq_false (by omega)]; rfl, rfl⟩

end Go.Proofs.YtconingjdgmodaaDoor
