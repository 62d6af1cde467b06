/-
  Commits as memory holds them, three cells each, two of them lists; how two are compared, what is too much, what is written over.
-/
import Derived.Test.YtmpgeacfnikbpaaDoorGPure
import Derived.Test.YtmpgeacfnikbpaaDoorGFile
import Derived.Test.YtmpgeacfnikbpaaDoorSameI
import Derived.Test.YtmpgeacfnikbpaaDoorGTxt
import Derived.Test.YtmpgeacfnikbpaaDoorFRefA
namespace Go.Proofs.YtmpgeacfnikbpaaDoor
open Go.RowKit Go.Shelf Go.SeqLib Go.DiffLib Go.TreeLib Go.RepoLib Go.BigFrame
attribute [local go_sem] Oper.semAt_some

abbrev iv (n : Int) : Value := .int .i64 n
abbrev ptr (B : Nat) : Value := .pointer (some ⟨B, 0, none⟩)
/-- A commit's value, whose lists lie in blocks of D. -/
def CmD (D : Blk) (W : World) (v : Value) (c : Cm) : Prop :=
  ∃ p n k q m l, v = .agg #[.slice p n k, .slice q m l, .string c.2.2] ∧ SlV W (.slice p n k) (c.1.map iv) ∧ SlF W (.slice q m l) c.2.1 ∧ (∀ j, svD (.slice p n k) (c.1.map iv) j → D j) ∧ ∀ j, slE (.slice q m l) c.2.1 j → D j
section
variable {D D' S : Blk} {W W' : World} {v : Value} {c : Cm}
theorem CmD.chg (h : CmD D W v c) (k : Chg S W W') (hd : ∀ j, D j → ¬ S j) : CmD D W' v c := by
  obtain ⟨p, n, cap, q, m, l, rfl, h1, h2, h3, h4⟩ := h
  exact ⟨p, n, cap, q, m, l, rfl, h1.chg k (fun j hj => hd j (h3 j hj)), h2.chg k (fun j hj => hd j (h4 j hj)), h3, h4⟩
theorem CmD.no (h : CmD D W v c) (k : Chg No W W') : CmD D W' v c := h.chg k (fun _ _ h => h)
theorem CmD.mono (h : CmD D W v c) (hd : ∀ j, D j → D' j) : CmD D' W v c := by
  obtain ⟨p, n, cap, q, m, l, rfl, h1, h2, h3, h4⟩ := h
  exact ⟨p, n, cap, q, m, l, rfl, h1, h2, fun j hj => hd j (h3 j hj), fun j hj => hd j (h4 j hj)⟩
theorem CmD.bare (D : Blk) (W : World) (x : ByteArray) : CmD D W (.agg #[.slice Option.none 0 0, .slice Option.none 0 0, .string x]) ([], [], x) :=
  ⟨Option.none, 0, 0, Option.none, 0, 0, rfl, ⟨Option.none, 0, rfl, Nat.le_refl _, Nat.zero_le _, by simp⟩, SlE.nil, fun j h => absurd rfl h.1, fun j h => absurd rfl h.1⟩
end

/-- A list of commits, each by its own lists and its note. -/
abbrev Rw := Value × Value × ByteArray
def eM (x : Rw) : List Value := [x.1, x.2.1, .string x.2.2]
theorem eM_len (x : Rw) : (eM x).length = 3 := rfl
structure LowM (b : Nat) (W : World) (v : Value) (rows : List Rw) (L : List Cm) : Prop where
  row : SlE 3 eM W v rows
  len : rows.length = L.length
  low : ∀ k, slE v rows k → k < b
  at_ : ∀ (i : Nat) (r : Rw) (c : Cm), rows[i]? = some r → L[i]? = some c → CmD (fun k => k < b) W (.agg #[r.1, r.2.1, .string r.2.2]) c
theorem LowM.chg {b : Nat} {S : Blk} {W W' : World} {v : Value} {rows : List Rw} {L : List Cm} (h : LowM b W v rows L) (k : Chg S W W') (hd : ∀ j, S j → b ≤ j) : LowM b W' v rows L :=
  ⟨h.row.chg eM_len (by decide) k (fun j hj hs => by have := h.low j hj; have := hd j hs; omega), h.len, h.low, fun i r c hr hc => (h.at_ i r c hr hc).chg k (fun j hj hs => by have := hd j hs; omega)⟩
theorem LowM.no {b : Nat} {W W' : World} {v : Value} {rows : List Rw} {L : List Cm} (h : LowM b W v rows L) (k : Chg No W W') : LowM b W' v rows L := h.chg k (fun _ hs => hs.elim)
theorem LowM.slice {b : Nat} {W : World} {v : Value} {rows : List Rw} {L : List Cm} (h : LowM b W v rows L) : ∃ p cap, v = .slice p L.length cap ∧ L.length ≤ cap ∧ cap ≤ maxLen := by
  obtain ⟨p, cap, e, h1, h2, _⟩ := h.row
  rw [h.len] at e h1
  exact ⟨p, cap, e, h1, h2⟩
theorem LowM.cell {b : Nat} {W : World} {p : Option Addr} {n cap : Nat} {rows : List Rw} {L : List Cm} (h : LowM b W (.slice p n cap) rows L) {i : Nat} {c : Cm} (hc : L[i]? = some c) :
    ∃ r b1 o1, rows[i]? = some r ∧ p = some ⟨b1, o1, none⟩ ∧ W.cell? ⟨b1, o1 + i * 3, none⟩ = some r.1 ∧ W.cell? ⟨b1, o1 + i * 3 + 1, none⟩ = some r.2.1 ∧ W.cell? ⟨b1, o1 + i * 3 + 2, none⟩ = some (.string r.2.2) ∧ CmD (fun k => k < b) W (.agg #[r.1, r.2.1, .string r.2.2]) c := by
  obtain ⟨hi, rfl⟩ := List.getElem?_eq_some_iff.1 hc
  have hir : i < rows.length := by rw [h.len]; exact hi
  have hr : rows[i]? = some rows[i] := List.getElem?_eq_getElem hir
  obtain ⟨p0, cap0, e, _, _, hcells⟩ := h.row
  cases e
  obtain ⟨b1, o1, rfl, hcell⟩ := hcells i _ hr
  exact ⟨rows[i], b1, o1, hr, rfl, hcell 0 _ rfl, hcell 1 _ rfl, hcell 2 _ rfl, h.at_ i _ _ hr hc⟩

/-- A commit that a walk may go through. -/
def SmallC (c : Cm) : Prop := c.1.length ≤ 5 ∧ c.2.1.length ≤ 16 ∧ (∀ f ∈ c.2.1, f.1.size ≤ 100 ∧ f.2.size ≤ 500) ∧ c.2.2.size ≤ 100
def greatC (c : Cm) : Bool := decide (5 < c.1.length) || (greatF c.2.1 16 || decide (100 < c.2.2.size))
theorem greatC_false {c : Cm} (h : greatC c = false) : SmallC c := by
  unfold greatC at h
  rw [Bool.or_eq_false_iff, Bool.or_eq_false_iff, decide_eq_false_iff_not, decide_eq_false_iff_not] at h
  obtain ⟨h1, h2, h3⟩ := h
  obtain ⟨h4, h5⟩ := greatF_false h2
  exact ⟨by omega, h4, h5, by omega⟩
def greatL (L : List Cm) (most : Nat) : Bool := decide (most < L.length) || L.any greatC
theorem greatL_false {L : List Cm} {most : Nat} (h : greatL L most = false) : L.length ≤ most ∧ ∀ c ∈ L, SmallC c := by
  unfold greatL at h
  rw [Bool.or_eq_false_iff, decide_eq_false_iff_not] at h
  exact ⟨by omega, fun c hc => greatC_false (by have := List.any_eq_false.1 h.2 c hc; simpa using this)⟩

/-- Two rows of unlike types lie apart. -/
theorem row_apart2 {W : World} {b b' : Nat} {e e' : TypeId} {s s' n n' : Nat} {v v' : Value} {xs xs' : List Value} (hne : e ≠ e') (h : W.ownsRow b e s v n xs) (h' : W.ownsRow b' e' s' v' n' xs') : ∀ k, v.ownBlock = some k → ¬ v'.ownBlock = some k := by
  rcases h.2 with ⟨rfl, _⟩ | ⟨g, cap, cur, rfl, hb, hgg, _⟩
  · intro k hk; cases hk
  · rcases h'.2 with ⟨rfl, _⟩ | ⟨g', cap', cur', rfl, hb', hgg', _⟩
    · intro k _ hk; cases hk
    · intro k hk hk'
      cases hk
      cases hk'
      rw [hgg] at hgg'
      cases hgg'
      exact hne rfl

theorem infoInt : (Tryd.prog.info? 3).map (fun i => (i.zero, i.size, i.bytes)) = some (some (.int .i64 0), 1, 8) := by kernel_rfl
/-- A list of numbers that is owned. -/
abbrev OwnI (W : World) (base : Nat) (v : Value) (l : List Int) : Prop := W.ownsRow base 3 1 v l.length (l.map iv)

set_option maxRecDepth 100000 in
set_option maxHeartbeats 1000000 in
theorem overI_in (v : Value) (vals : List Value) (n base : Nat) (hlen : n ≤ 1000000) (w : World) (hb : base ≤ w.heap.size) (hv : w.ownsRow base 3 1 v n vals) : CallsIn Fence.wide 0 Tryd.prog 15 #[v] w fun e w' =>
    (∃ r, e = .returned r) ∧ Chg (fun k => v.ownBlock = some k) w w' := by
  obtain ⟨i0, hi, hz0, hz1, hz2⟩ := info_parts infoInt
  obtain ⟨p, cap, rfl⟩ := row_slice hv
  refine callsIn_of_wp Tryd.func15 rfl trivial ?_
  simp only [Tryd.ntmps15, List.size_toArray, List.length_cons, List.length_nil, Nat.reduceAdd, Nat.reduceSub, Array.replicate_succ, Array.replicate_zero, List.push_toArray, List.append_toArray, List.nil_append, List.cons_append]
  gi_wp2
  gi_loopw [2] (fun i wr => ∃ (k : Nat) (ys : List Value), k ≤ n ∧ i = .int .i64 (k : Int) ∧ wr.ownsRow base 3 1 (.slice p n cap) n ys ∧ base ≤ wr.heap.size ∧ Chg (fun k => Value.ownBlock (.slice p n cap) = some k) w wr) (fun i _ => n - (intOf i).toNat)
  case atStart => exact ⟨0, vals, Nat.zero_le _, rfl, hv, hb, Chg.refl _ _⟩
  case round =>
    obtain ⟨k, ys, hk, rfl, hr, hbw, c⟩ := hrel
    by_cases hlt : k < n
    · obtain ⟨b, rfl, hcap⟩ : ∃ b, p = some ⟨b, 0, none⟩ ∧ n ≤ cap := by
        rcases hr.2 with ⟨_, h0⟩ | ⟨g, cap', cur, h, _, _, h3, _⟩
        · omega
        · cases h; exact ⟨g, rfl, h3⟩
      obtain ⟨⟨x, hc⟩, hf, zs, hr2, _⟩ := rowPut hr (show k < cap by omega) (.int .i64 (-999))
      have c2 := c.setCell (p := ⟨b, k, none⟩) (.inl rfl) (.int .i64 (-999))
      gi_wp2
      go_roundw
      case rel => exact ⟨k + 1, zs, hlt, by go_num, hr2, by have := c2.size; simp at this; simp; omega, c2⟩
      case measure => simp [intOf]; omega
    · obtain rfl : k = n := by omega
      have hmx : k + 1 ≤ maxLen := by unfold maxLen; omega
      gi_wp2_with (gi_at_builtin; refine wpListIn_append_at _ rfl _ _ 22 rfl base 3 i0 (.int .i64 0) 1 8 Tryd.underlying22 hi hz0 hz1 hz2 rfl (by decide) _ _ _ rfl (hr.alloc _) ⟨wr.heap.size, 0, none⟩ 1 1 [.int .i64 (-999)] rfl rfl (cell_one_new _ _ _) (by simp [Value.oneCell']) hmx (by omega) (by simp; omega) ?_; intro v' w1 hown' hgrow _ hat)
      go_end0
      exact ⟨⟨_, rfl⟩, (c.alloc _).grown hgrow (fun j e => .inl e)⟩

end Go.Proofs.YtmpgeacfnikbpaaDoor
