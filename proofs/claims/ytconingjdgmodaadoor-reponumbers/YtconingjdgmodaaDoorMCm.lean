/-
  Commits as memory holds them, three cells each, two of them lists; how two are compared, what is too much, what is written over.
-/
import Derived.Test.YtconingjdgmodaaDoorGPure
import Derived.Test.YtconingjdgmodaaDoorGFile
import Derived.Test.YtconingjdgmodaaDoorSameI
import Derived.Test.YtconingjdgmodaaDoorTxtL
import Derived.Test.YtconingjdgmodaaDoorFRefA
namespace Go.Proofs.YtconingjdgmodaaDoor
open Go.RowKit Go.Shelf Go.SeqLib Go.DiffLib Go.TreeLib Go.RepoLib Go.BigFrame
attribute [local go_sem] Oper.semAt_some

abbrev iv (n : Int) : Value := .int .i64 n
abbrev ptr (B : Nat) : Value := .pointer (some ⟨B, 0, none⟩)
/-- A commit's value, whose lists lie in blocks of D. -/
def CmD (D : Blk) (W : World) (v : Value) (c : Cm) : Prop :=
  ∃ p n k q m l, v = .agg #[.slice p n k, .slice q m l, .string c.2.2] ∧ SlV W (.slice p n k) (c.1.map iv) ∧ SlF W (.slice q m l) c.2.1 ∧ (∀ j, svD (.slice p n k) (c.1.map iv) j → D j) ∧ ∀ j, slE (.slice q m l) c.2.1 j → D j
section
variable {D D' S : Blk} {W W' : World} {v : Value} {c : Cm}
theorem CmD.chg (h : CmD D W v c) (k : Chg S W W') (hd : ∀ j, D j → ¬ S j) : CmD D W' v c := by
  obtain ⟨p, n, cap, q, m, l, rfl, h1, h2, h3, h4⟩ := h
  exact ⟨p, n, cap, q, m, l, rfl, h1.chg k (fun j hj => hd j (h3 j hj)), h2.chg k (fun j hj => hd j (h4 j hj)), h3, h4⟩
theorem CmD.no (h : CmD D W v c) (k : Chg No W W') : CmD D W' v c := h.chg k (fun _ _ h => h)
theorem CmD.mono (h : CmD D W v c) (hd : ∀ j, D j → D' j) : CmD D' W v c := by
  obtain ⟨p, n, cap, q, m, l, rfl, h1, h2, h3, h4⟩ := h
  exact ⟨p, n, cap, q, m, l, rfl, h1, h2, fun j hj => hd j (h3 j hj), fun j hj => hd j (h4 j hj)⟩
theorem CmD.bare (D : Blk) (W : World) (x : ByteArray) : CmD D W (.agg #[.slice Option.none 0 0, .slice Option.none 0 0, .string x]) ([], [], x) :=
  ⟨Option.none, 0, 0, Option.none, 0, 0, rfl, ⟨Option.none, 0, rfl, Nat.le_refl _, Nat.zero_le _, by simp⟩, SlE.nil, fun j h => absurd rfl h.1, fun j h => absurd rfl h.1⟩
end

/-- A list of commits, each by its own lists and its note. -/
abbrev Rw := Value × Value × ByteArray
def eM (x : Rw) : List Value := [x.1, x.2.1, .string x.2.2]
theorem eM_len (x : Rw) : (eM x).length = 3 := rfl
structure LowM (b : Nat) (W : World) (v : Value) (rows : List Rw) (L : List Cm) : Prop where
  row : SlE 3 eM W v rows
  len : rows.length = L.length
  low : ∀ k, slE v rows k → k < b
  at_ : ∀ (i : Nat) (r : Rw) (c : Cm), rows[i]? = some r → L[i]? = some c → CmD (fun k => k < b) W (.agg #[r.1, r.2.1, .string r.2.2]) c
theorem LowM.chg {b : Nat} {S : Blk} {W W' : World} {v : Value} {rows : List Rw} {L : List Cm} (h : LowM b W v rows L) (k : Chg S W W') (hd : ∀ j, S j → b ≤ j) : LowM b W' v rows L :=
  ⟨h.row.chg eM_len (by decide) k (fun j hj hs => by have := h.low j hj; have := hd j hs; omega), h.len, h.low, fun i r c hr hc => (h.at_ i r c hr hc).chg k (fun j hj hs => by have := hd j hs; omega)⟩
theorem LowM.no {b : Nat} {W W' : World} {v : Value} {rows : List Rw} {L : List Cm} (h : LowM b W v rows L) (k : Chg No W W') : LowM b W' v rows L := h.chg k (fun _ hs => hs.elim)
theorem LowM.slice {b : Nat} {W : World} {v : Value} {rows : List Rw} {L : List Cm} (h : LowM b W v rows L) : ∃ p cap, v = .slice p L.length cap ∧ L.length ≤ cap ∧ cap ≤ maxLen := by
  obtain ⟨p, cap, e, h1, h2, _⟩ := h.row
  rw [h.len] at e h1
  exact ⟨p, cap, e, h1, h2⟩
theorem LowM.cell {b : Nat} {W : World} {p : Option Addr} {n cap : Nat} {rows : List Rw} {L : List Cm} (h : LowM b W (.slice p n cap) rows L) {i : Nat} {c : Cm} (hc : L[i]? = some c) :
    ∃ r b1 o1, rows[i]? = some r ∧ p = some ⟨b1, o1, none⟩ ∧ W.cell? ⟨b1, o1 + i * 3, none⟩ = some r.1 ∧ W.cell? ⟨b1, o1 + i * 3 + 1, none⟩ = some r.2.1 ∧ W.cell? ⟨b1, o1 + i * 3 + 2, none⟩ = some (.string r.2.2) ∧ CmD (fun k => k < b) W (.agg #[r.1, r.2.1, .string r.2.2]) c := by
  obtain ⟨hi, rfl⟩ := List.getElem?_eq_some_iff.1 hc
  have hir : i < rows.length := by rw [h.len]; exact hi
  have hr : rows[i]? = some rows[i] := List.getElem?_eq_getElem hir
  obtain ⟨p0, cap0, e, _, _, hcells⟩ := h.row
  cases e
  obtain ⟨b1, o1, rfl, hcell⟩ := hcells i _ hr
  exact ⟨rows[i], b1, o1, hr, rfl, hcell 0 _ rfl, hcell 1 _ rfl, hcell 2 _ rfl, h.at_ i _ _ hr hc⟩

/-- A commit that a walk may go through. -/
def SmallC (c : Cm) : Prop := c.1.length ≤ 5 ∧ c.2.1.length ≤ 16 ∧ (∀ f ∈ c.2.1, f.1.size ≤ 100 ∧ f.2.size ≤ 500) ∧ c.2.2.size ≤ 100
def greatC (c : Cm) : Bool := decide (5 < c.1.length) || (greatF c.2.1 16 || decide (100 < c.2.2.size))
theorem greatC_false {c : Cm} (h : greatC c = false) : SmallC c := by
  unfold greatC at h
  rw [Bool.or_eq_false_iff, Bool.or_eq_false_iff, decide_eq_false_iff_not, decide_eq_false_iff_not] at h
  obtain ⟨h1, h2, h3⟩ := h
  obtain ⟨h4, h5⟩ := greatF_false h2
  exact ⟨by omega, h4, h5, by omega⟩
def greatL (L : List Cm) (most : Nat) : Bool := decide (most < L.length) || L.any greatC
theorem greatL_false {L : List Cm} {most : Nat} (h : greatL L most = false) : L.length ≤ most ∧ ∀ c ∈ L, SmallC c := by
  unfold greatL at h
  rw [Bool.or_eq_false_iff, decide_eq_false_iff_not] at h
  exact ⟨by omega, fun c hc => greatC_false (by have := List.any_eq_false.1 h.2 c hc; simpa using this)⟩

/-- Two rows of unlike types lie apart. -/
theorem row_apart2 {W : World} {b b' : Nat} {e e' : TypeId} {s s' n n' : Nat} {v v' : Value} {xs xs' : List Value} (hne : e ≠ e') (h : W.ownsRow b e s v n xs) (h' : W.ownsRow b' e' s' v' n' xs') : ∀ k, v.ownBlock = some k → ¬ v'.ownBlock = some k := by
  rcases h.2 with ⟨rfl, _⟩ | ⟨g, cap, cur, rfl, hb, hgg, _⟩
  · intro k hk; cases hk
  · rcases h'.2 with ⟨rfl, _⟩ | ⟨g', cap', cur', rfl, hb', hgg', _⟩
    · intro k _ hk; cases hk
    · intro k hk hk'
      cases hk
      cases hk'
      rw [hgg] at hgg'
      cases hgg'
      exact hne rfl

set_option maxHeartbeats 1000000 in
theorem sameC_in (v u : Value) (c d : Cm) (D D' : Blk) (hx : c.2.1.length ≤ 1000000) (w : World) (hv : CmD D w v c) (hu : CmD D' w u d) :
    CallsIn Fence.wide 0 Tryd.prog 22 #[v, u] w fun e w' => e = .returned (.bool (decide (c = d))) ∧ Chg No w w' := by
  obtain ⟨p, n, k, q, m, l, rfl, h1, h2, _, _⟩ := hv
  obtain ⟨p', n', k', q', m', l', rfl, h1', h2', _, _⟩ := hu
  obtain ⟨c1, c2, c3⟩ := c
  obtain ⟨d1, d2, d3⟩ := d
  dsimp only at h1 h2 h1' h2' hx ⊢
  have ca : Chg No w ((w.alloc (.cells #[.slice p n k, .slice q m l, .string c3] 36)).alloc (.cells #[.slice p' n' k', .slice q' m' l', .string d3] 36)) := ((Chg.refl _ w).alloc _).alloc _
  have I1 := fun W hv hu => sameI_in (.slice p n k) (.slice p' n' k') c1 d1 W hv hu
  have F1 := fun W hv hu => sameF_in (.slice q m l) (.slice q' m' l') c2 d2 W hv hu hx
  have HE : Hid (decide (((c1, c2, c3) : Cm) = (d1, d2, d3)) = ((c3.toList == d3.toList) && (decide (c1 = d1) && decide (c2 = d2)))) := by
    show _ = _
    by_cases h3 : c3 = d3
    · rw [eqR_true h3, Bool.true_and, Bool.eq_iff_iff]
      simp [h3]
    · rw [eqR_false h3, Bool.false_and, decide_eq_false (fun e => h3 (congrArg (fun x : Cm => x.2.2) e))]
  rw [HE.out]
  clear HE
  generalize hb3 : (c3.toList == d3.toList) = b3
  generalize decide (c1 = d1) = b1 at I1 ⊢
  generalize decide (c2 = d2) = b2 at F1 ⊢
  have g1 := h1.no ca
  have g2 := h2.no ca
  have g1' := h1'.no ca
  have g2' := h2'.no ca
  clear h1 h2 h1' h2'
  refine callsIn_of_wp Tryd.func22 rfl trivial ?_
  simp only [Tryd.ntmps22, List.size_toArray, List.length_cons, List.length_nil, Nat.reduceAdd, Nat.reduceSub, Array.replicate_succ, Array.replicate_zero, List.push_toArray, List.append_toArray, List.nil_append, List.cons_append]
  cases b3 with
  | false =>
    gi_wp2_with fail
    refine ⟨trivial, ?_⟩
    rename_i hKK
    apply hKK
    gi_wp2_with fail
    refine ⟨trivial, ?_⟩
    rename_i hKK
    apply hKK
    gi_wp2
    go_ret
    exact ⟨rfl, ca⟩
  | true =>
  gi_wp2_with fail
  refine ⟨trivial, rfl, (I1 _ g1 g1').mono ?_⟩
  rintro e w1 ⟨rfl, c1'⟩
  have k1 := Chg.seq ca c1'
  cases b1 with
  | false =>
    gi_wp2_with fail
    refine ⟨trivial, ?_⟩
    rename_i hKK
    apply hKK
    gi_wp2
    go_ret
    exact ⟨rfl, k1⟩
  | true =>
  have x0 : w1.heap[w.heap.size]? = some (.cells #[.slice p n k, .slice q m l, .string c3] 36 (0, 0)) := c1'.same (by
    rw [Below.heap_alloc _ _ _ (by rw [World.size_alloc]; omega)]
    exact World.alloc_heap_new w _) (fun h => h)
  have x1 : w1.heap[w.heap.size + 1]? = some (.cells #[.slice p' n' k', .slice q' m' l', .string d3] 36 (0, 0)) := c1'.same (by
    have := World.alloc_heap_new (w.alloc (.cells #[.slice p n k, .slice q m l, .string c3] 36)) (.cells #[.slice p' n' k', .slice q' m' l', .string d3] 36 (0, 0))
    rw [World.size_alloc] at this
    exact this) (fun h => h)
  have y0 : w1.cell? ⟨w.heap.size, 1, none⟩ = some (.slice q m l) := by simp [World.cell?, x0]
  have y1 : w1.cell? ⟨w.heap.size + 1, 1, none⟩ = some (.slice q' m' l') := by simp [World.cell?, x1]
  clear x0 x1 I1
  gi_wp2_with fail
  refine ⟨trivial, rfl, (F1 _ (g2.no c1') (g2'.no c1')).mono ?_⟩
  rintro e w2 ⟨rfl, c2'⟩
  gi_wp2
  go_ret
  exact ⟨rfl, Chg.seq k1 c2'⟩

set_option maxHeartbeats 1000000 in
theorem greatC_in (v : Value) (c : Cm) (D : Blk) (w : World) (hv : CmD D w v c) :
    CallsIn Fence.wide 0 Tryd.prog 26 #[v] w fun e w' => e = .returned (.bool (greatC c)) ∧ Chg No w w' := by
  obtain ⟨p, n, k, q, m, l, rfl, h1, h2, _, _⟩ := hv
  obtain ⟨c1, c2, c3⟩ := c
  dsimp only at h1 h2 ⊢
  have ca : Chg No w (w.alloc (.cells #[.slice p n k, .slice q m l, .string c3] 36)) := (Chg.refl _ w).alloc _
  have hn : n = c1.length := by obtain ⟨_, _, e, _⟩ := h1; cases e; simp
  have G1 := greatF_in (.slice q m l) c2 16 _ (h2.no ca)
  have HG : Hid (greatC (c1, c2, c3) = (decide (5 < c1.length) || (greatF c2 16 || decide (100 < c3.size)))) := rfl
  rw [HG.out]
  clear HG
  generalize greatF c2 16 = g at G1 ⊢
  rw [← hn]
  clear hn
  refine callsIn_of_wp Tryd.func26 rfl trivial ?_
  simp only [Tryd.ntmps26, List.size_toArray, List.length_cons, List.length_nil, Nat.reduceAdd, Nat.reduceSub, Array.replicate_succ, Array.replicate_zero, List.push_toArray, List.append_toArray, List.nil_append, List.cons_append]
  by_cases h5 : 5 < n
  · have h5' : (5 : Int) < (n : Int) := by omega
    rw [decide_eq_true h5]
    clear h5
    gi_wp2_with fail
    refine ⟨trivial, ?_⟩
    rename_i hKK
    apply hKK
    gi_wp2
    go_ret
    exact ⟨rfl, ca⟩
  · have h5' : ¬ (5 : Int) < (n : Int) := by omega
    rw [decide_eq_false h5]
    clear h5
    gi_wp2_with fail
    refine ⟨trivial, rfl, G1.mono ?_⟩
    rintro e w1 ⟨rfl, rfl⟩
    cases g with
    | true =>
      gi_wp2
      go_ret
      exact ⟨rfl, ca⟩
    | false =>
    gi_wp2
    go_ret
    refine ⟨?_, ca⟩
    have e1 : decide ((100 : Int) < ((c3.size : Nat) : Int)) = decide (100 < c3.size) := by rw [decide_eq_decide]; omega
    show Ending.returned (.bool (decide ((100 : Int) < ((c3.size : Nat) : Int)))) = _
    rw [e1]
    rfl

set_option maxHeartbeats 1000000 in
theorem greatL_in (v : Value) (rows : List Rw) (L : List Cm) (most b : Nat) (w : World) (hv : LowM b w v rows L) :
    CallsIn Fence.wide 0 Tryd.prog 7 #[v, .int .i64 (most : Int)] w fun e w' => e = .returned (.bool (greatL L most)) ∧ Chg No w w' := by
  obtain ⟨p, c1, rfl, hp1, hp2⟩ := hv.slice
  have hl1 : L.length ≤ 9223372036854775807 := by unfold maxLen at hp2; omega
  obtain ⟨n, HN⟩ : ∃ n, Hid (L.length = n) := ⟨_, rfl⟩
  rw [HN.out] at hv hl1 ⊢
  clear hp1 hp2
  have HG : Hid (greatL L most = (decide (most < n) || L.any greatC)) := by unfold greatL; rw [HN.out]; exact rfl
  refine callsIn_of_wp Tryd.func7 rfl trivial ?_
  simp only [Tryd.ntmps7, List.size_toArray, List.length_cons, List.length_nil, Nat.reduceAdd, Nat.reduceSub, Array.replicate_succ, Array.replicate_zero, List.push_toArray, List.append_toArray, List.nil_append, List.cons_append]
  gi_wp2
  by_cases hm : most < n
  · have hm1 : ¬ (n : Int) ≤ (most : Int) := by omega
    have hm2 : (most : Int) < (n : Int) := by omega
    have hm0 : (0 : Int) < (n : Int) := by omega
    have HG2 : Hid (greatL L most = true) := by rw [HG.out, decide_eq_true hm]; exact rfl
    clear hm
    gi_loopw [5] (fun i wr => i = .int .i64 0 ∧ wr = w) (fun i _ => 1 - (intOf i).toNat)
    case atStart => exact ⟨rfl, rfl⟩
    case round =>
      obtain ⟨rfl, rfl⟩ := hrel
      gi_wp2
      go_ret
      exact ⟨by rw [HG2.out]; rfl, Chg.refl _ _⟩
  · have hm1 : (n : Int) ≤ (most : Int) := by omega
    have hm2 : ¬ (most : Int) < (n : Int) := by omega
    have HG2 : Hid (greatL L most = L.any greatC) := by rw [HG.out, decide_eq_false hm]; exact rfl
    clear hm
    gi_loopw [5] (fun i wr => ∃ k : Nat, k ≤ n ∧ i = .int .i64 (k : Int) ∧ Hid (∀ x ∈ L.take k, greatC x = false) ∧ Chg No w wr) (fun i _ => n - (intOf i).toNat)
    case atStart => exact ⟨0, Nat.zero_le _, rfl, (fun x h => by simp at h), Chg.refl _ _⟩
    case round =>
      obtain ⟨k, hk, rfl, HT, c⟩ := hrel
      by_cases hlt : k < n
      · have hkz : k < L.length := by rw [HN.out]; exact hlt
        have hlt' : (k : Int) < (n : Int) := by omega
        obtain ⟨x, hx⟩ : ∃ x, L[k]? = some x := ⟨_, List.getElem?_eq_getElem hkz⟩
        obtain ⟨⟨r1, r2, r3⟩, b1, o1, _, rfl, hc1, hc2, hc3, hcm⟩ := (hv.no c).cell hx
        dsimp only at hc1 hc2 hc3 hcm
        have G1 := greatC_in _ x _ wr hcm
        obtain ⟨g, HGx⟩ : ∃ g, Hid (greatC x = g) := ⟨_, rfl⟩
        rw [HGx.out] at G1
        clear hcm
        gi_wp2_with fail
        refine ⟨trivial, rfl, G1.mono ?_⟩
        rintro e w1 ⟨rfl, k1⟩
        cases g with
        | true =>
          have HG3 : Hid (greatL L most = true) := by
            show _ = _
            rw [HG2.out, List.any_eq_true]
            exact ⟨x, List.mem_of_getElem? hx, HGx.out⟩
          gi_wp2
          go_ret
          exact ⟨by rw [HG3.out]; rfl, Chg.seq c k1⟩
        | false =>
          have HT2 : Hid (∀ y ∈ L.take (k + 1), greatC y = false) := by
            intro y hy
            rw [List.take_add_one, hx] at hy
            rcases List.mem_append.1 hy with h | h
            · exact HT.out y h
            · rw [List.mem_singleton.1 h]; exact HGx.out
          gi_wp2
          refine ⟨⟨k + 1, hlt, by go_num, HT2, Chg.seq c k1⟩, by simp [intOf]; omega⟩
      · obtain rfl : k = n := by omega
        have hlt' : ¬ (k : Int) < (k : Int) := by omega
        have HG3 : Hid (greatL L most = false) := by
          show _ = _
          rw [HG2.out, List.any_eq_false]
          intro x hx
          rw [HT.out x (by rw [← HN.out, List.take_length]; exact hx)]
          exact Bool.false_ne_true
        clear HG HG2
        gi_wp2
        go_ret
        exact ⟨by rw [HG3.out]; rfl, c⟩

theorem infoInt : (Tryd.prog.info? 3).map (fun i => (i.zero, i.size, i.bytes)) = some (some (.int .i64 0), 1, 8) := by kernel_rfl
/-- A list of numbers that is owned. -/
abbrev OwnI (W : World) (base : Nat) (v : Value) (l : List Int) : Prop := W.ownsRow base 3 1 v l.length (l.map iv)

set_option maxRecDepth 100000 in
set_option maxHeartbeats 1000000 in
theorem overI_in (v : Value) (vals : List Value) (n base : Nat) (hlen : n ≤ 1000000) (w : World) (hb : base ≤ w.heap.size) (hv : w.ownsRow base 3 1 v n vals) : CallsIn Fence.wide 0 Tryd.prog 55 #[v] w fun e w' =>
    (∃ r, e = .returned r) ∧ Chg (fun k => v.ownBlock = some k) w w' := by
  obtain ⟨i0, hi, hz0, hz1, hz2⟩ := info_parts infoInt
  obtain ⟨p, cap, rfl⟩ := row_slice hv
  refine callsIn_of_wp Tryd.func55 rfl trivial ?_
  simp only [Tryd.ntmps55, List.size_toArray, List.length_cons, List.length_nil, Nat.reduceAdd, Nat.reduceSub, Array.replicate_succ, Array.replicate_zero, List.push_toArray, List.append_toArray, List.nil_append, List.cons_append]
  gi_wp2
  gi_loopw [2] (fun i wr => ∃ (k : Nat) (ys : List Value), k ≤ n ∧ i = .int .i64 (k : Int) ∧ wr.ownsRow base 3 1 (.slice p n cap) n ys ∧ base ≤ wr.heap.size ∧ Chg (fun k => Value.ownBlock (.slice p n cap) = some k) w wr) (fun i _ => n - (intOf i).toNat)
  case atStart => exact ⟨0, vals, Nat.zero_le _, rfl, hv, hb, Chg.refl _ _⟩
  case round =>
    obtain ⟨k, ys, hk, rfl, hr, hbw, c⟩ := hrel
    by_cases hlt : k < n
    · obtain ⟨b, rfl, hcap⟩ : ∃ b, p = some ⟨b, 0, none⟩ ∧ n ≤ cap := by
        rcases hr.2 with ⟨_, h0⟩ | ⟨g, cap', cur, h, _, _, h3, _⟩
        · omega
        · cases h; exact ⟨g, rfl, h3⟩
      obtain ⟨⟨x, hc⟩, hf, zs, hr2, _⟩ := rowPut hr (show k < cap by omega) (.int .i64 (-999))
      have c2 := c.setCell (p := ⟨b, k, none⟩) (.inl rfl) (.int .i64 (-999))
      gi_wp2
      go_roundw
      case rel => exact ⟨k + 1, zs, hlt, by go_num, hr2, by have := c2.size; simp at this; simp; omega, c2⟩
      case measure => simp [intOf]; omega
    · obtain rfl : k = n := by omega
      have hmx : k + 1 ≤ maxLen := by unfold maxLen; omega
      gi_wp2_with (gi_at_builtin; refine wpListIn_append_at _ rfl _ _ 33 rfl base 3 i0 (.int .i64 0) 1 8 Tryd.underlying33 hi hz0 hz1 hz2 rfl (by decide) _ _ _ rfl (hr.alloc _) ⟨wr.heap.size, 0, none⟩ 1 1 [.int .i64 (-999)] rfl rfl (cell_one_new _ _ _) (by simp [Value.oneCell']) hmx (by omega) (by simp; omega) ?_; intro v' w1 hown' hgrow _ hat)
      go_end0
      exact ⟨⟨_, rfl⟩, (c.alloc _).grown hgrow (fun j e => .inl e)⟩

set_option maxHeartbeats 1000000 in
/-- An answered commit, written over: nothing is changed but what was answered. -/
theorem overC_in (pv tv : Value) (c : Cm) (base : Nat) (w : World) (hb : base ≤ w.heap.size) (h1 : OwnI w base pv c.1) (h2 : OwnF w base tv c.2.1) (l1 : c.1.length ≤ 1000) (l2 : c.2.1.length ≤ 1000) :
    CallsIn Fence.wide 0 Tryd.prog 39 #[.agg #[pv, tv, .string c.2.2]] w fun e w' => (∃ r, e = .returned r) ∧ Chg (fun k => base ≤ k) w w' := by
  obtain ⟨c1, c2, c3⟩ := c
  dsimp only at h1 h2 l1 l2 ⊢
  have ca : Chg No w (w.alloc (.cells #[pv, tv, .string c3] 36)) := (Chg.refl _ w).alloc _
  have ho1 := World.ownsRow.alloc h1 (.cells #[pv, tv, .string c3] 36)
  have ho2 := h2.no ca
  have O1 := overI_in pv (c1.map iv) c1.length base (by omega) _ (Nat.le_trans hb ca.size) ho1
  have O2 := fun W (h : World.ownsRow W base 72 2 tv c2.length (c2.flatMap eF)) hb => overF_in tv (c2.flatMap eF) c2.length base (by omega) W hb h
  have hap := row_apart2 (by decide) ho2 ho1
  obtain ⟨p1, k1, rfl⟩ := row_slice h1
  obtain ⟨p2, k2, rfl⟩ := h2.slice
  have hlow1 : ∀ k, Value.ownBlock (.slice p1 c1.length k1) = some k → base ≤ k := fun k e => (World.ownsRow.lt h1 k e).1
  have hlow2 : ∀ k, Value.ownBlock (.slice p2 c2.length k2) = some k → base ≤ k := fun k e => (World.ownsRow.lt h2 k e).1
  have hne : ¬ Value.ownBlock (.slice p1 c1.length k1) = some w.heap.size := fun e => by have := (World.ownsRow.lt h1 _ e).2; omega
  clear h1 h2
  refine callsIn_of_wp Tryd.func39 rfl trivial ?_
  simp only [Tryd.ntmps39, List.size_toArray, List.length_cons, List.length_nil, Nat.reduceAdd, Nat.reduceSub, Array.replicate_succ, Array.replicate_zero, List.push_toArray, List.append_toArray, List.nil_append, List.cons_append]
  gi_wp2_with fail
  refine ⟨trivial, rfl, O1.mono ?_⟩
  rintro e w1 ⟨⟨r, rfl⟩, d1⟩
  have x0 : w1.heap[w.heap.size]? = some (.cells #[.slice p1 c1.length k1, .slice p2 c2.length k2, .string c3] 36 (0, 0)) := d1.same (World.alloc_heap_new w _) hne
  have y0 : w1.cell? ⟨w.heap.size, 1, none⟩ = some (.slice p2 c2.length k2) := by simp [World.cell?, x0]
  have o2' := ho2.chg d1 (fun k h h' => hap k h h')
  have hb1 : base ≤ w1.heap.size := Nat.le_trans hb (Nat.le_trans ca.size d1.size)
  have cc1 : Chg (fun k => base ≤ k) w w1 := (ca.mono (fun _ h => h.elim)).trans d1 (fun k h => .inl (hlow1 k h))
  clear x0 O1
  gi_wp2_with fail
  refine ⟨trivial, rfl, (O2 _ o2' hb1).mono ?_⟩
  rintro e w2 ⟨⟨r, rfl⟩, d2⟩
  gi_wp2
  go_end0
  exact ⟨⟨_, rfl⟩, cc1.trans d2 (fun k h => .inl (hlow2 k h))⟩

end Go.Proofs.YtconingjdgmodaaDoor
