/-
  Of: RSame, T3R, RPlaces.
-/
import Derived.Test.YtakbeololabmhaaGreatDoorG02
import Derived.Deep.QuietTactic
import Derived.BigQuiet
import Derived.Test.YtakbeololabmhaaGreatDoorG11
import Derived.Test.YtakbeololabmhaaGreatDoorG30
import Derived.Test.YtakbeololabmhaaGreatDoorTPiece
section
-- RSame
namespace Go.Proofs.YtakbeololabmhaaGreatDoor
open Go.RowKit Go.Shelf Go.SeqLib
attribute [local go_sem] Oper.semAt_some

set_option maxHeartbeats 1000000 in
theorem refSame_in (v u : Value) (xs ys : List ByteArray) (w : World) (hv : SlV w v (xs.map Value.string)) (hu : SlV w u (ys.map Value.string)) :
    CallsIn Fence.wide 0 Tryz.prog 149 #[v, u] w fun e w' => e = .returned (.bool (decide (xs = ys))) ∧ Chg (fun _ => False) w w' := by
  obtain ⟨p, c1, rfl, hp1, hp2, hpc⟩ := hv
  obtain ⟨q, c2, rfl, hq1, hq2, hqc⟩ := hu
  rw [List.length_map] at hp1 hq1
  have hl1 : xs.length ≤ maxLen := by omega
  have hl2 : ys.length ≤ maxLen := by omega
  unfold maxLen at hl1 hl2
  rw [List.length_map, List.length_map]
  by_cases hlen : xs.length = ys.length
  · have he : ((xs.length : Int) != (ys.length : Int)) = false := by simp [hlen]
    have HL : Hid (xs.length = ys.length) := hlen
    clear hlen
    refine callsIn_of_wp Tryz.func149 rfl trivial ?_
    simp only [Tryz.ntmps149, List.size_toArray, List.length_cons, List.length_nil, Nat.reduceAdd, Nat.reduceSub, Array.replicate_succ, Array.replicate_zero, List.push_toArray, List.append_toArray, List.nil_append, List.cons_append]
    gi_wp2
    gi_loopw [5] (fun i wr => ∃ k : Nat, k ≤ xs.length ∧ i = .int .i64 (k : Int) ∧ Hid (xs.take k = ys.take k) ∧ Chg (fun _ => False) w wr) (fun i _ => xs.length - (intOf i).toNat)
    case atStart => exact ⟨0, Nat.zero_le _, rfl, rfl, Chg.refl _ _⟩
    case round =>
      obtain ⟨k, hk, rfl, hT, c⟩ := hrel
      by_cases hlt : k < xs.length
      · have hlt2 : k < ys.length := by rw [← HL.out]; exact hlt
        obtain ⟨b1, o1, rfl, hc1⟩ := hpc k (.string xs[k]) (by simp [hlt])
        obtain ⟨b2, o2, rfl, hc2⟩ := hqc k (.string ys[k]) (by simp [hlt2])
        have hw1 : wr.cell? ⟨b1, o1 + k, none⟩ = some (.string xs[k]) := (World.cell?_of_block (a := ⟨b1, o1 + k, none⟩) (c.block b1 (World.block_lt_of_cell? w _ hc1) (fun h => h))).trans hc1
        have hw2 : wr.cell? ⟨b2, o2 + k, none⟩ = some (.string ys[k]) := (World.cell?_of_block (a := ⟨b2, o2 + k, none⟩) (c.block b2 (World.block_lt_of_cell? w _ hc2) (fun h => h))).trans hc2
        clear hc1 hc2
        have hmix : Tryz.prog.follows .mixedOrders = true := by kernel_rfl
        by_cases hxy : xs[k] = ys[k]
        · have hb : (xs[k].toList == ys[k].toList) = true := by rw [hxy]; simp
          have HT : Hid (xs.take (k + 1) = ys.take (k + 1)) := by
            show _ = _
            rw [List.take_succ_eq_append_getElem hlt, List.take_succ_eq_append_getElem hlt2, hT.out, hxy]
          clear hxy
          generalize xs[k] = x at *
          generalize ys[k] = y at *
          gi_wp2
          gi_big_quiet_th_o (fail)
          gi_wp2
          go_roundw
          case rel => exact ⟨k + 1, hlt, by go_num, HT, drewNC c _⟩
          case measure => simp [intOf]; omega
        · have hb : (xs[k].toList == ys[k].toList) = false := by rw [beq_eq_false_iff_ne]; exact fun h => hxy (text_ext h)
          have HD : Hid (decide (xs = ys) = false) := by
            show _ = _
            rw [decide_eq_false_iff_not]; rintro rfl; exact hxy rfl
          clear hxy
          generalize xs[k] = x at *
          generalize ys[k] = y at *
          gi_wp2
          gi_big_quiet_th_o (fail)
          gi_wp2
          go_ret
          exact ⟨by rw [HD.out]; rfl, drewNC c _⟩
      · obtain rfl : k = xs.length := by omega
        have HD : Hid (decide (xs = ys) = true) := by
          show _ = _
          rw [decide_eq_true_iff]
          have h := hT.out
          rw [List.take_length] at h
          rw [HL.out, List.take_length] at h
          exact h
        clear hT
        gi_wp2
        go_ret
        exact ⟨by rw [HD.out]; rfl, c⟩
  · have he : ((xs.length : Int) != (ys.length : Int)) = true := by simp; omega
    have HD : Hid (decide (xs = ys) = false) := by
      show _ = _
      rw [decide_eq_false_iff_not]; rintro rfl; exact hlen rfl
    clear hlen
    refine callsIn_of_wp Tryz.func149 rfl trivial ?_
    simp only [Tryz.ntmps149, List.size_toArray, List.length_cons, List.length_nil, Nat.reduceAdd, Nat.reduceSub, Array.replicate_succ, Array.replicate_zero, List.push_toArray, List.append_toArray, List.nil_append, List.cons_append]
    gi_wp2
    go_ret
    exact ⟨by rw [HD.out]; rfl, Chg.refl _ _⟩

end Go.Proofs.YtakbeololabmhaaGreatDoor

end
section
-- T3R
namespace Go.DiffLib

/-- A place's number: where its pair leads, or -1. -/
def pv (o : Option Nat) : Int := match o with
  | some j => (j : Int)
  | none => -1
/-- Numbers put at places. -/
def plc (l : List Int) (ps : List (Nat × Nat)) : List Int := ps.foldl (fun l p => l.set p.1 (p.2 : Int)) l
theorem plc_get {n m : Nat} : ∀ (ps : List (Nat × Nat)) (i j : Nat) (l : List Int), Inc n m i j ps → ∀ x, x < l.length → (plc l ps)[x]? = match fx x ps with | some y => some (y : Int) | none => l[x]?
  | [], _, _, _, _, _, _ => rfl
  | p :: ps, i, j, l, h, x, hx => by
    obtain ⟨_, _, _, _, h5⟩ := h
    have ih := plc_get ps (p.1 + 1) (p.2 + 1) (l.set p.1 (p.2 : Int)) h5 x (by rw [List.length_set]; exact hx)
    show (plc (l.set p.1 (p.2 : Int)) ps)[x]? = _
    rw [ih]
    by_cases e : p.1 = x
    · subst e
      rw [fx_none h5 (by omega), fx, if_pos rfl]
      simp [hx]
    · rw [fx, if_neg e]
      cases fx x ps with
      | some y => rfl
      | none => simp [e]
/-- All of base's. -/
def plcs (ps : List (Nat × Nat)) (n : Nat) : List Int := plc (List.replicate n (-1)) ps
theorem plcs_get {n m : Nat} {ps : List (Nat × Nat)} (h : Inc n m 0 0 ps) (x : Nat) (hx : x < n) : (plcs ps n)[x]? = some (pv (fx x ps)) := by
  unfold plcs
  rw [plc_get ps 0 0 _ h x (by simpa using hx)]
  cases fx x ps with
  | some y => rfl
  | none => simp [hx, pv]
section
variable {g : Nat → Option (Nat × Nat)}
theorem sg_skip {N k : Nat} (hk : k < N) (hg : g k = none) : sg g (N - k) k = sg g (N - (k + 1)) (k + 1) := by
  rw [show N - k = (N - (k + 1)) + 1 by omega, sg, hg]
theorem sg_hit {N k u v : Nat} (hk : k < N) (hg : g k = some (u, v)) : sg g (N - k) k = (k, u, v) :: sg g (N - (k + 1)) (k + 1) := by
  rw [show N - k = (N - (k + 1)) + 1 by omega, sg, hg]
theorem sg_from : ∀ (c i : Nat), ∀ s ∈ sg g c i, i ≤ s.1
  | 0, _, s, hs => by simp [sg] at hs
  | c + 1, i, s, hs => by
    rw [sg] at hs
    cases hg : g i with
    | none => rw [hg] at hs; have := sg_from c (i + 1) s hs; omega
    | some q =>
      rw [hg] at hs
      rcases List.mem_cons.1 hs with rfl | hs
      · exact Nat.le_refl _
      · have := sg_from c (i + 1) s hs; omega
theorem rn3_far (S : List Pl) (q : Pl) (h : ∀ s ∈ S, q.1 < s.1) : rn3 S q = 0 := by
  cases S with
  | nil => rfl
  | cons s r =>
    have := h s List.mem_cons_self
    rw [rn3, if_neg]
    rintro rfl
    omega
theorem rn3_sg_zero {c : Nat} {q : Pl} (h : g q.1 ≠ some (q.2.1, q.2.2)) : rn3 (sg g c q.1) q = 0 := by
  cases c with
  | zero => rfl
  | succ c =>
    rw [sg]
    cases hg : g q.1 with
    | none => exact rn3_far _ _ (fun s hs => by have := sg_from c (q.1 + 1) s hs; omega)
    | some r =>
      show rn3 ((q.1, r.1, r.2) :: sg g c (q.1 + 1)) q = 0
      rw [rn3, if_neg]
      intro e
      apply h
      rw [hg, ← e]
end
theorem both_some {ps qs : List (Nat × Nat)} {i u v : Nat} : both ps qs i = some (u, v) ↔ fx i ps = some u ∧ fx i qs = some v := by
  unfold both
  cases fx i ps <;> cases fx i qs <;> simp
theorem both_none {ps qs : List (Nat × Nat)} {i : Nat} : both ps qs i = none ↔ fx i ps = none ∨ fx i qs = none := by
  unfold both
  cases fx i ps <;> cases fx i qs <;> simp
end Go.DiffLib

end
section
-- RPlaces
namespace Go.Proofs.YtakbeololabmhaaGreatDoor
open Go.RowKit Go.Shelf Go.SeqLib Go.DiffLib Go.BigFrame
attribute [local go_sem] Oper.semAt_some

/-- A cell of a row that is owned is written. -/
theorem row_set {W : World} {base : Nat} {e : TypeId} {g n cap : Nat} {xs : List Value} (h : W.ownsRow base e 1 (.slice (some ⟨g, 0, none⟩) n cap) n xs) {j : Nat} (hj : j < n) (u : Value) :
    (∃ x, W.cell? ⟨g, j, none⟩ = some x) ∧ W.frozen? ⟨g, j, none⟩ = false ∧ (W.setCell ⟨g, j, none⟩ u).ownsRow base e 1 (.slice (some ⟨g, 0, none⟩) n cap) n (xs.set j u) := by
  obtain ⟨h1, h2⟩ := h
  rcases h2 with ⟨h2, _⟩ | ⟨g', cap', cur, hv, hb, hg, hn, hm, hs, ht⟩
  · cases h2
  · cases hv
    have hjs : j < cur.size := by omega
    refine ⟨⟨cur[j], by simp [World.cell?, hg, hjs]⟩, by simp [World.frozen?, hg], ⟨by simpa using h1, .inr ⟨g, cap, cur.setIfInBounds j u, rfl, hb, set_cells hg j u, hn, hm, by simpa using hs, ?_⟩⟩⟩
    rw [← ht, Nat.mul_one]
    refine List.ext_getElem? fun i => ?_
    simp only [List.getElem?_take, Array.getElem?_toList, Array.getElem?_setIfInBounds, List.getElem?_set, List.length_take, Array.length_toList]
    by_cases e1 : j = i
    · subst e1
      have : j < min n cur.size := by omega
      simp [hj, hjs, this]
    · simp [e1]

theorem set_minus (k n : Nat) (hk : k < n) : (List.replicate k (-1 : Int) ++ List.replicate (n - k) 0).set k (-1) = List.replicate (k + 1) (-1) ++ List.replicate (n - (k + 1)) 0 := by
  refine List.ext_getElem? fun i => ?_
  rw [List.getElem?_set]
  simp only [List.length_append, List.length_replicate, List.getElem?_append, List.getElem?_replicate]
  by_cases e : k = i
  · subst e
    simp [show k < k + (n - k) by omega]
  · simp only [e, if_false]
    by_cases h1 : i < k
    · simp [h1, show i < k + 1 by omega]
    · simp only [h1, if_false, show ¬ i < k + 1 by omega]
      by_cases h2 : i - k < n - k
      · simp [h2, show i - (k + 1) < n - (k + 1) by omega]
      · simp [h2, show ¬ i - (k + 1) < n - (k + 1) by omega]
theorem plc_take (l : List Int) (ps : List (Nat × Nat)) (t : Nat) (p : Nat × Nat) (h : ps[t]? = some p) : plc l (ps.take (t + 1)) = (plc l (ps.take t)).set p.1 (p.2 : Int) := by
  obtain ⟨h1, h2⟩ := List.getElem?_eq_some_iff.1 h
  rw [List.take_succ_eq_append_getElem h1, h2]
  unfold plc
  rw [List.foldl_append]
  rfl

theorem makeN (n : Nat) (hn : n ≤ 1000000) (w : World) : (Instr.makeSlice 40 (.int .i64 (n : Int)) (.int .i64 (n : Int))).run Tryz.prog w = .ok (.slice (some ⟨w.heap.size, 0, none⟩) n n) (w.alloc (.cells (madeCells #[.int .i64 0] n) 3)) :=
  run_make_row' 40 3 (.int .i64 0) 8 Tryz.underlying40 info3 rfl .i64 .i64 n (by omega) (by omega) w
theorem madeRow (w : World) (n : Nat) (hn : n ≤ 1000000) : (w.alloc (.cells (madeCells #[.int .i64 0] n) 3)).ownsRow w.heap.size 3 1 (.slice (some ⟨w.heap.size, 0, none⟩) n n) n ((List.replicate n (0 : Int)).map (Value.int .i64)) := by
  refine ⟨by simp, .inr ⟨w.heap.size, n, madeCells #[.int .i64 0] n, rfl, Nat.le_refl _, World.alloc_heap_new w _, Nat.le_refl _, by unfold maxLen; omega, by rw [size_madeCells]; omega, ?_⟩⟩
  refine List.ext_getElem? fun i => ?_
  rw [List.getElem?_take, Nat.mul_one]
  by_cases h : i < n
  · simp [h, madeCells, Nat.mod_one]
  · simp [h]

set_option maxRecDepth 100000 in
set_option maxHeartbeats 4000000 in
theorem places_in (v u : Value) (o a : List ByteArray) (w : World) (hv : SlV w v (o.map Value.string)) (hu : SlV w u (a.map Value.string)) (ho : o.length ≤ 400) (ha : a.length ≤ 400) :
    CallsIn Fence.wide 0 Tryz.prog 174 #[v, u] w fun e w' => ∃ v', e = .returned v' ∧ w'.ownsRow w.heap.size 3 1 v' o.length ((plcs (pr o a 0 0) o.length).map (Value.int .i64)) ∧ Chg No w w' := by
  have hmix : Tryz.prog.follows .mixedOrders = true := by kernel_rfl
  obtain ⟨i0, hi, hz0, hz1, hz2⟩ := info_parts info3
  have hP : ∀ W, Chg No w W → _ := fun W c => refPairs_in v u o a W (hv.no c) (hu.no c) ho ha
  have hinc := pr_inc0 o a
  have hprl : (pr o a 0 0).length ≤ 400 := by rw [pr_length]; exact Nat.le_trans (tl_le o a).1 ho
  obtain ⟨p, cp, rfl, _⟩ := id hv
  obtain ⟨q, cq, rfl, _⟩ := id hu
  rw [List.length_map] at hP
  rw [List.length_map]
  clear hv hu
  generalize (a.map Value.string).length = la at *
  obtain ⟨n, HN⟩ : ∃ n, Hid (o.length = n) := ⟨_, rfl⟩
  rw [HN.out] at ho hP hinc ⊢
  generalize pr o a 0 0 = ps at *
  have HIn : Hid (∀ p ∈ ps, p.1 < n) := fun p hp => (Inc.mem hinc p hp).2.2.1
  clear hinc
  refine callsIn_of_wp Tryz.func174 rfl trivial ?_
  simp only [Tryz.ntmps174, List.size_toArray, List.length_cons, List.length_nil, Nat.reduceAdd, Nat.reduceSub, Array.replicate_succ, Array.replicate_zero, List.push_toArray, List.append_toArray, List.nil_append, List.cons_append]
  have hmk := fun W => makeN n (by omega) W
  have hr1 := madeRow w n (by omega)
  have c1 : Chg No w (w.alloc (.cells (madeCells #[.int .i64 0] n) 3)) := (Chg.refl _ w).alloc _
  gi_wp2
  generalize w.alloc (.cells (madeCells #[.int .i64 0] n) 3) = W1 at *
  obtain ⟨G, hG⟩ : ∃ G, w.heap.size = G := ⟨_, rfl⟩
  rw [hG] at hr1 ⊢
  gi_loopw [6] (fun i wr => ∃ k : Nat, k ≤ n ∧ i = .int .i64 (k : Int) ∧ wr.ownsRow G 3 1 (.slice (some ⟨G, 0, none⟩) n n) n ((List.replicate k (-1) ++ List.replicate (n - k) 0).map (Value.int .i64)) ∧ Chg No w wr) (fun i _ => n - (intOf i).toNat)
  case atStart => exact ⟨0, Nat.zero_le _, rfl, by simpa using hr1, c1⟩
  case round =>
    obtain ⟨k, hk, rfl, hr, cw⟩ := hrel
    by_cases hlt : k < n
    · have hlt' : (k : Int) < (n : Int) := by omega
      obtain ⟨⟨x, hx⟩, hf, hr2⟩ := row_set hr hlt (.int .i64 (-1))
      have cw2 := cw.setCell (p := ⟨G, k, none⟩) (.inr (by rw [hG]; exact Nat.le_refl _)) (.int .i64 (-1))
      gi_wp2
      go_roundw
      case rel => exact ⟨k + 1, hlt, by go_num, by rw [← set_minus k n hlt, List.map_set]; exact hr2, cw2⟩
      case measure => simp [intOf]; omega
    · obtain rfl : k = n := by omega
      have hlt' : ¬ (k : Int) < (k : Int) := by omega
      rw [Nat.sub_self, List.replicate_zero, List.append_nil] at hr
      clear hlt
      gi_wp2_with fail
      refine ⟨trivial, rfl, (hP wr cw).mono ?_⟩
      rintro e w2 ⟨v2, rfl, r2, c2⟩
      have sp : SlP w2 v2 ps := SlE.ofRow eP_len r2
      obtain ⟨pp, cpp, rfl⟩ := row_slice r2
      have hr2 := own_still hr c2 (fun _ _ h => h)
      have cw2 := Chg.seq cw c2
      have hbp : ∀ k, Value.ownBlock (.slice pp ps.length cpp) = some k → wr.heap.size ≤ k := fun k hk => (r2.lt k hk).1
      have hGlt : G < wr.heap.size := (hr.lt G rfl).2
      clear hP r2
      obtain ⟨np, HNP⟩ : ∃ n, Hid (ps.length = n) := ⟨_, rfl⟩
      rw [HNP.out] at sp hprl hbp ⊢
      gi_wp2
      gi_loopw [8] (fun i wr2 => ∃ t : Nat, t ≤ np ∧ i = .int .i64 (t : Int) ∧ wr2.ownsRow G 3 1 (.slice (some ⟨G, 0, none⟩) k k) k ((plc (List.replicate k (-1)) (ps.take t)).map (Value.int .i64)) ∧ SlP wr2 (.slice pp np cpp) ps ∧ Chg No w wr2) (fun i _ => np - (intOf i).toNat)
      case atStart => exact ⟨0, Nat.zero_le _, rfl, hr2, sp, cw2⟩
      case round =>
        obtain ⟨t, htn, rfl, hr3, sp3, cw3⟩ := hrel
        by_cases hlt : t < np
        · have hlt' : (t : Int) < (np : Int) := by omega
          obtain ⟨x, hx⟩ : ∃ x, ps[t]? = some x := ⟨_, List.getElem?_eq_getElem (by rw [HNP.out]; exact hlt)⟩
          have hx1 := HIn.out x (List.mem_of_getElem? hx)
          have HTk := plc_take (List.replicate k (-1)) ps t x hx
          obtain ⟨b1, o1, rfl, y1, y2⟩ := SlP.at sp3 t x hx
          obtain ⟨xa, xb⟩ := x
          simp only at hx1 y1 y2 HTk
          have HT : Hid (plc (List.replicate k (-1)) (ps.take (t + 1)) = (plc (List.replicate k (-1)) (ps.take t)).set xa (xb : Int)) := HTk
          clear HTk hx
          have hx1' : (xa : Int) < (k : Int) := by omega
          obtain ⟨⟨z, hz⟩, hf, hr4⟩ := row_set hr3 hx1 (.int .i64 (xb : Int))
          have hb1 : b1 ≠ G := by have := hbp b1 rfl; omega
          gi_wp2
          refine region_store_lit hmix rfl (by kernel_rfl) (by kernel_rfl) rfl ?_
          simp only [lastHush, hush, List.replicate, List.length_cons, List.length_nil, List.nil_append, List.cons_append, Nat.reduceAdd, Nat.reduceSub]
          repeat (gi_big_quiet_step (fail))
          refine wpQuietIn_nil ?_
          rintro w' ⟨j, rfl⟩
          have hz' : (wr.drewN j).cell? ⟨G, xa, none⟩ = some z := hz
          have hf' : (wr.drewN j).frozen? ⟨G, xa, none⟩ = false := hf
          refine ⟨(wr.drewN j).setCell ⟨G, xa, none⟩ (.int .i64 (xb : Int)), ?_, ?_⟩
          · simp [execOp, go_sem, hz', hf']
          have hr5 : ((wr.drewN j).setCell ⟨G, xa, none⟩ (.int .i64 (xb : Int))).ownsRow G 3 1 (.slice (some ⟨G, 0, none⟩) k k) k ((plc (List.replicate k (-1)) (ps.take (t + 1))).map (Value.int .i64)) := by
            rw [HT.out, List.map_set]
            exact hr4
          have cx : Chg (fun k => k = G) wr ((wr.drewN j).setCell ⟨G, xa, none⟩ (.int .i64 (xb : Int))) := (drewNC (Chg.refl (fun k => k = G) wr) j).setCell (p := ⟨G, xa, none⟩) (.inl rfl) _
          have sp5 : SlP ((wr.drewN j).setCell ⟨G, xa, none⟩ (.int .i64 (xb : Int))) (.slice (some ⟨b1, o1, none⟩) np cpp) ps := SlE.chg eP_len (by decide) sp3 cx (fun k hk e => by have := hbp k hk.2; omega)
          have cw5 : Chg No w ((wr.drewN j).setCell ⟨G, xa, none⟩ (.int .i64 (xb : Int))) := cw3.trans cx (fun k e => .inr (by omega))
          gi_wp2
          go_roundw
          case rel => exact ⟨t + 1, hlt, by go_num, hr5, sp5, cw5⟩
          case measure => simp [intOf]; omega
        · obtain rfl : t = np := by omega
          have hlt' : ¬ (t : Int) < (t : Int) := by omega
          rw [List.take_of_length_le (by rw [HNP.out]; exact Nat.le_refl _)] at hr3
          gi_wp2
          go_ret
          exact ⟨_, rfl, hr3, cw3⟩

theorem info171 : (Tryz.prog.info? 171).map (fun i => (i.zero, i.size, i.bytes)) = some (some (.agg #[.bool false, .slice none 0 0, .slice none 0 0, .slice none 0 0]), 4, 80) := by kernel_rfl

set_option maxRecDepth 100000 in
set_option maxHeartbeats 4000000 in
theorem loose_in (p q r : Option Addr) (n1 n2 n3 c1 c2 c3 : Nat) (X Y Z : List ByteArray) (w : World) (hv : SlV w (.slice p n1 c1) (X.map Value.string)) (hu : SlV w (.slice q n2 c2) (Y.map Value.string)) (ht : SlV w (.slice r n3 c3) (Z.map Value.string)) :
    CallsIn Fence.wide 0 Tryz.prog 175 #[.slice p n1 c1, .slice q n2 c2, .slice r n3 c3] w fun e w' => e = .returned (.agg #[.bool (mk3 X Y Z).c, .slice p n1 c1, .slice q n2 c2, .slice r n3 c3]) ∧ Chg No w w' := by
  have HC : Hid ((mk3 X Y Z).c = (!decide (X = Y) && (!decide (X = Z) && !decide (Y = Z)))) := by
    show decide _ = _
    by_cases h1 : Y = Z
    · simp [h1]
    · by_cases h2 : Y = X
      · simp [h2]
      · by_cases h3 : Z = X
        · simp [h3]
        · have h2' : ¬ X = Y := fun e => h2 e.symm
          have h3' : ¬ X = Z := fun e => h3 e.symm
          simp [h1, h2, h3, h2', h3']
  rw [HC.out]
  have A1 := fun W1 (k1 : Chg No w W1) => refSame_in _ _ X Y W1 (hv.no k1) (hu.no k1)
  have A2 := fun W1 (k1 : Chg No w W1) => refSame_in _ _ X Z W1 (hv.no k1) (ht.no k1)
  have A3 := fun W1 (k1 : Chg No w W1) => refSame_in _ _ Y Z W1 (hu.no k1) (ht.no k1)
  clear hv hu ht HC
  generalize decide (X = Y) = z1 at *
  generalize decide (X = Z) = z2 at *
  generalize decide (Y = Z) = z3 at *
  refine callsIn_of_wp Tryz.func175 rfl trivial ?_
  simp only [Tryz.ntmps175, List.size_toArray, List.length_cons, List.length_nil, Nat.reduceAdd, Nat.reduceSub, Array.replicate_succ, Array.replicate_zero, List.push_toArray, List.append_toArray, List.nil_append, List.cons_append]
  have bx : (w.alloc (.cells #[.bool false, .slice none 0 0, .slice none 0 0, .slice none 0 0] 171)).heap[w.heap.size]? = some (.cells #[.bool false, .slice none 0 0, .slice none 0 0, .slice none 0 0] 171) := World.alloc_heap_new w _
  have c0 : Chg No w (w.alloc (.cells #[.bool false, .slice none 0 0, .slice none 0 0, .slice none 0 0] 171)) := (Chg.refl _ w).alloc _
  gi_wp2_with fail
  generalize w.alloc (.cells #[.bool false, .slice none 0 0, .slice none 0 0, .slice none 0 0] 171) = W0 at *
  obtain ⟨G, hG⟩ : ∃ G, w.heap.size = G := ⟨_, rfl⟩
  rw [hG] at bx ⊢
  have tail : ∀ (cb : Bool) (W1 : World), Chg No W0 W1 → Hid (
      ((W1.cell? ⟨G, 0, none⟩ = some (.bool false) ∧ W1.cell? ⟨G, 1, none⟩ = some (.slice none 0 0)) ∧ (W1.cell? ⟨G, 2, none⟩ = some (.slice none 0 0) ∧ W1.cell? ⟨G, 3, none⟩ = some (.slice none 0 0))) ∧
      (∀ j, W1.frozen? ⟨G, j, none⟩ = false) ∧
      (let W9 := ((((W1.setCell ⟨G, 0, none⟩ (.bool cb)).setCell ⟨G, 1, none⟩ (.slice p n1 c1)).setCell ⟨G, 2, none⟩ (.slice q n2 c2)).setCell ⟨G, 3, none⟩ (.slice r n3 c3))
       (W9.cell? ⟨G, 0, none⟩ = some (.bool cb) ∧ W9.cell? ⟨G, 1, none⟩ = some (.slice p n1 c1)) ∧ (W9.cell? ⟨G, 2, none⟩ = some (.slice q n2 c2) ∧ W9.cell? ⟨G, 3, none⟩ = some (.slice r n3 c3)) ∧ Chg No w W9)) := by
    intro cb W1 k1
    have b1 : W1.heap[G]? = some (.cells #[.bool false, .slice none 0 0, .slice none 0 0, .slice none 0 0] 171) := k1.same bx (fun h => h)
    have b2 := set_cells (set_cells (set_cells (set_cells b1 0 (.bool cb)) 1 (.slice p n1 c1)) 2 (.slice q n2 c2)) 3 (.slice r n3 c3)
    refine ⟨by simp [World.cell?, b1], fun j => by simp [World.frozen?, b1], ?_⟩
    refine ⟨⟨?_, ?_⟩, ⟨?_, ?_⟩, ?_⟩
    · simp [World.cell?, b2]
    · simp [World.cell?, b2]
    · simp [World.cell?, b2]
    · simp [World.cell?, b2]
    · have hg : w.heap.size ≤ G := by omega
      exact ((((Chg.seq c0 k1).setCell (p := ⟨G, 0, none⟩) (.inr hg) _).setCell (p := ⟨G, 1, none⟩) (.inr hg) _).setCell (p := ⟨G, 2, none⟩) (.inr hg) _).setCell (p := ⟨G, 3, none⟩) (.inr hg) _
  refine ⟨trivial, rfl, (A1 W0 c0).mono ?_⟩
  rintro e W1 ⟨rfl, k1⟩
  cases z1 with
  | true =>
    obtain ⟨⟨⟨i0, i1⟩, ⟨i2, i3⟩⟩, fz, ⟨m0, m1⟩, ⟨m2, m3⟩, cc⟩ := (tail false W1 k1).out
    have f0 := fz 0
    have f1 := fz 1
    have f2 := fz 2
    have f3 := fz 3
    clear tail A1 A2 A3
    gi_wp2_with fail
    refine ⟨trivial, ?_⟩
    rename_i hKK
    apply hKK
    gi_wp2_with fail
    refine ⟨trivial, ?_⟩
    rename_i hKK
    apply hKK
    gi_wp2
    refine bodyPost_ret (v := .agg #[.bool false, .slice p n1 c1, .slice q n2 c2, .slice r n3 c3]) ?_ rfl ⟨rfl, cc⟩
    rw [results_cell1 rfl]
    go_simp
  | false =>
    gi_wp2_with fail
    refine ⟨trivial, rfl, (A2 W1 (Chg.seq c0 k1)).mono ?_⟩
    rintro e W2 ⟨rfl, k2⟩
    have k02 := Chg.seq k1 k2
    cases z2 with
    | true =>
      obtain ⟨⟨⟨i0, i1⟩, ⟨i2, i3⟩⟩, fz, ⟨m0, m1⟩, ⟨m2, m3⟩, cc⟩ := (tail false W2 k02).out
      have f0 := fz 0
      have f1 := fz 1
      have f2 := fz 2
      have f3 := fz 3
      clear tail A1 A2 A3
      gi_wp2_with fail
      refine ⟨trivial, ?_⟩
      rename_i hKK
      apply hKK
      gi_wp2
      refine bodyPost_ret (v := .agg #[.bool false, .slice p n1 c1, .slice q n2 c2, .slice r n3 c3]) ?_ rfl ⟨rfl, cc⟩
      rw [results_cell1 rfl]
      go_simp
    | false =>
      gi_wp2_with fail
      refine ⟨trivial, rfl, (A3 W2 (Chg.seq c0 k02)).mono ?_⟩
      rintro e W3 ⟨rfl, k3⟩
      obtain ⟨⟨⟨i0, i1⟩, ⟨i2, i3⟩⟩, fz, ⟨m0, m1⟩, ⟨m2, m3⟩, cc⟩ := (tail (!z3) W3 (Chg.seq k02 k3)).out
      have f0 := fz 0
      have f1 := fz 1
      have f2 := fz 2
      have f3 := fz 3
      clear tail A1 A2 A3
      gi_wp2
      refine bodyPost_ret (v := .agg #[.bool (!z3), .slice p n1 c1, .slice q n2 c2, .slice r n3 c3]) ?_ rfl ⟨by simp, cc⟩
      rw [results_cell1 rfl]
      go_simp

end Go.Proofs.YtakbeololabmhaaGreatDoor

end
