/-
  Of: KStk, REqI, KMay.
-/
import Derived.Test.YtakbeololabmhaaGreatDoorG16
import Derived.Test.YtakbeololabmhaaGreatDoorRStk
import Derived.Test.YtakbeololabmhaaGreatDoorShelfB
import Derived.Test.YtakbeololabmhaaGreatDoorG10
import Derived.Laws.ResultCell
import Derived.Test.YtakbeololabmhaaGreatDoorG02
import Derived.Deep.QuietTactic
import Derived.BigQuiet
import Derived.Test.YtakbeololabmhaaGreatDoorG04
import Derived.Test.YtakbeololabmhaaGreatDoorG07
section
-- KStk
namespace Go.Proofs.YtakbeololabmhaaGreatDoor
open Go.RowKit Go.Shelf Go.SeqLib Go.DiffLib Go.TreeLib Go.RepoLib Go.DagLib Go.BigFrame
attribute [local go_sem] Oper.semAt_some

theorem cutRow {w : World} {base : Nat} {e : TypeId} {g n cap : Nat} {xs : List Value} (h : w.ownsRow base e 1 (.slice (some ⟨g, 0, none⟩) n cap) n xs) (m : Nat) (hm : m ≤ n) : w.ownsRow base e 1 (.slice (some ⟨g, 0, none⟩) m cap) m (xs.take m) := by
  obtain ⟨h1, h2⟩ := h
  rcases h2 with ⟨h2, _⟩ | ⟨g', cap', cur, hv, hb, hg, hn, hx, hs, ht⟩
  · cases h2
  · cases hv
    refine ⟨by rw [List.length_take, h1]; omega, .inr ⟨g, cap, cur, rfl, hb, hg, Nat.le_trans hm hn, hx, hs, ?_⟩⟩
    rw [← ht, List.take_take, Nat.mul_one, Nat.mul_one, Nat.min_eq_left hm]

theorem someRow {w : World} {base : Nat} {e : TypeId} {v : Value} {n : Nat} {xs : List Value} (h : w.ownsRow base e 1 v n xs) (hn : n ≠ 0) : ∃ g cap, v = .slice (some ⟨g, 0, none⟩) n cap := by
  rcases h.2 with ⟨_, h0⟩ | ⟨g, cap, cur, rfl, _⟩
  · exact absurd h0 hn
  · exact ⟨g, cap, rfl⟩

/-- The stack at block B holds l; S: its blocks. -/
def Stk (B : Nat) (l : List Int) : Blk → World → Prop := fun S W => ∃ g cap, S = (fun k => k = B ∨ k = g) ∧ Boxed W B 117 (.slice (some ⟨g, 0, none⟩) l.length cap) ∧ OwnI W 0 (.slice (some ⟨g, 0, none⟩) l.length cap) l ∧ g ≠ B
theorem Stk.part (B : Nat) (l : List Int) : Part (Stk B l) := {
  lt := by
    rintro S W ⟨g, cap, rfl, b, ho, _⟩ k (rfl | rfl)
    · exact b.lt
    · exact (World.ownsRow.lt ho _ rfl).2
  kept := by
    rintro S W W' ⟨g, cap, rfl, b, ho, hne⟩ hs hk
    refine ⟨g, cap, rfl, (hk B (.inl rfl)).trans b, ?_, hne⟩
    refine ⟨ho.1, ?_⟩
    rcases ho.2 with hn | ⟨g', cap', cur, e, hb, hgg, rest⟩
    · exact .inl hn
    · cases e
      exact .inr ⟨g, _, cur, rfl, hb, (hk g (.inr rfl)).trans hgg, rest⟩ }

theorem search_in (g cap : Nat) (l : List Int) (x : Int) (w : World) (ho : OwnI w 0 (.slice (some ⟨g, 0, none⟩) l.length cap) l) (hs : l.Pairwise (· < ·)) (hl : l.length ≤ 1000) :
    CallsIn Fence.wide 0 Tryz.prog 105 #[.slice (some ⟨g, 0, none⟩) l.length cap, iv x] w fun e w' => e = .returned (.tuple #[iv (l.countP (· < x) : Nat), .bool (l.contains x)]) ∧ Chg No w w' := by
  refine callsIn_wide.2 ?_
  refine (AnyG.slices_BinarySearch_int Tryz.laysBin g 0 l.length cap l x w (Nat.le_refl _) (by omega) (fun j hj => ?_) ?_).mono ?_
  · have := ho.cellAt j (by omega)
    rw [Nat.zero_add, this, List.getElem?_map, List.getElem?_eq_getElem hj, List.getD_eq_getElem?_getD, List.getElem?_eq_getElem hj]
    rfl
  · rw [List.take_length]
    exact hs.imp (fun h => Int.le_of_lt h)
  · rintro e w' ⟨rfl, q, rfl⟩
    rw [List.take_length]
    exact ⟨rfl, ⟨rfl, rfl, rfl, Nat.le_refl _, fun _ _ _ => rfl⟩⟩

set_option maxRecDepth 100000 in
set_option maxHeartbeats 4000000 in
theorem pop_in (B : Nat) (l : List Int) (m : Int) (S : Blk) (w : World) (h : Stk B (l ++ [m]) S w) (hl : l.length ≤ 1000) :
    CallsIn Fence.wide 0 Tryz.prog 86 #[ptr B] w fun e w' => e = .returned (iv m) ∧ Stk B l S w' ∧ Chg S w w' := by
  obtain ⟨g, cap, rfl, b, ho, hne⟩ := h
  have hlen : (l ++ [m]).length = l.length + 1 := by simp
  have hm : w.cell? ⟨g, l.length, none⟩ = some (iv m) := by
    have := ho.cellAt l.length (by rw [hlen]; omega)
    rw [this, List.getElem?_map, List.getElem?_append_right (Nat.le_refl _), Nat.sub_self]
    rfl
  have ho0 : w.ownsRow 0 3 1 (.slice (some ⟨g, 0, none⟩) (l.length + 1) cap) (l.length + 1) ((l ++ [m]).map iv) := by rw [← hlen]; exact ho
  clear ho
  rw [hlen] at b
  have hcap : l.length + 1 ≤ cap := by
    rcases ho0.2 with ⟨h, h0⟩ | ⟨g', c, cur, h, _, _, h3, h4, _⟩
    · cases h
    · cases h; exact h3
  have ho1 : w.ownsRow 0 3 1 (.slice (some ⟨g, 0, none⟩) l.length cap) l.length (l.map iv) := by
    have := cutRow ho0 l.length (by omega)
    rw [List.map_append, List.take_left' (by rw [List.length_map])] at this
    exact this
  obtain ⟨n, hn⟩ : ∃ n, l.length = n := ⟨_, rfl⟩
  have c1 : Chg (fun k => k = B) w (w.setCell ⟨B, 0, none⟩ (.slice (some ⟨g, 0, none⟩) n cap)) := (Chg.refl (fun k => k = B) w).setCell (p := ⟨B, 0, none⟩) (.inl rfl) _
  have b1 := b.set (.slice (some ⟨g, 0, none⟩) n cap)
  have ho2 := own_still ho1 c1 (fun k hk e => by cases hk; exact hne e)
  have HF : Hid (Stk B l (fun k => k = B ∨ k = g) (w.setCell ⟨B, 0, none⟩ (.slice (some ⟨g, 0, none⟩) n cap))) := by
    refine ⟨g, cap, rfl, ?_, ho2, hne⟩
    rw [hn]
    exact b1
  have HC : Hid (Chg (fun k => k = B ∨ k = g) w (w.setCell ⟨B, 0, none⟩ (.slice (some ⟨g, 0, none⟩) n cap))) := c1.mono (fun _ => .inl)
  have hcB := b.cell
  have hfB := b.frozen
  rw [hn] at hm hl hcap hcB
  clear b ho0 ho1 ho2 hlen hn c1 b1
  refine callsIn_of_wp Tryz.func86 rfl trivial ?_
  simp only [Tryz.ntmps86, List.size_toArray, List.length_cons, List.length_nil, Nat.reduceAdd, Nat.reduceSub, Array.replicate_succ, Array.replicate_zero, List.push_toArray, List.append_toArray, List.nil_append, List.cons_append]
  gi_wp2
  go_ret
  exact ⟨rfl, HF.out, HC.out⟩
set_option maxRecDepth 100000 in
set_option maxHeartbeats 4000000 in
theorem put_in (B : Nat) (l xs : List Int) (xv : Value) (N : Nat) (S : Blk) (w : World) (h : Stk B l S w) (hx : SlV w xv (xs.map iv)) (hxs : ∀ k, svD xv (xs.map iv) k → ¬ S k) (hs : l.Pairwise (· < ·)) (hN : N ≤ 900) (hb : ∀ x, x ∈ xs ∨ x ∈ l → 0 < x ∧ x ≤ (N : Int)) :
    CallsIn Fence.wide 0 Tryz.prog 87 #[ptr B, xv] w fun e w' => (∃ v, e = .returned v) ∧ ∃ S', Stk B (putI xs l) S' w' ∧ Chg S w w' ∧ Grew S w S' := by
  obtain ⟨p, cap, rfl, h1, h2, hcell⟩ := id hx
  obtain ⟨n, hn⟩ : ∃ n, (xs.map iv).length = n := ⟨_, rfl⟩
  have hnx : xs.length = n := by rw [← hn, List.length_map]
  have HH : Hid ((∀ x, x ∈ xs ∨ x ∈ l → 0 < x ∧ x ≤ (N : Int)) ∧ l.Pairwise (· < ·) ∧ xs.length = n) := ⟨hb, hs, hnx⟩
  have hn63 : n ≤ 9223372036854775807 := by unfold maxLen at h2; omega
  have HX : Hid (SlV w (.slice p n cap) (xs.map iv)) := by rw [← hn]; exact hx
  have HXS : Hid (∀ k, svD (.slice p n cap) (xs.map iv) k → ¬ S k) := by rw [← hn]; exact hxs
  have HS : Hid (Stk B l S w) := h
  rw [hn] at h1 ⊢
  clear hb hs hnx hx hxs hcell h hn
  refine callsIn_of_wp Tryz.func87 rfl trivial ?_
  simp only [Tryz.ntmps87, List.size_toArray, List.length_cons, List.length_nil, Nat.reduceAdd, Nat.reduceSub, Array.replicate_succ, Array.replicate_zero, List.push_toArray, List.append_toArray, List.nil_append, List.cons_append]
  gi_wp2
  gi_loopw [10] (fun i wr => ∃ (k : Nat) (S' : Blk), k ≤ n ∧ i = .int .i64 (k : Int) ∧ Stk B (putI (xs.take k) l) S' wr ∧ Chg S w wr ∧ Grew S w S')
    (fun i _ => n - (intOf i).toNat)
  case atStart => exact ⟨0, S, Nat.zero_le _, rfl, HS.out, Chg.refl _ _, Grew.refl _ _⟩
  case round =>
    obtain ⟨k, S', hk, rfl, hst, c, g⟩ := hrel
    by_cases hlt : k < n
    · have hlt' : (k : Int) < (n : Int) := by omega
      obtain ⟨x, hxk⟩ : ∃ x, xs[k]? = some x := ⟨_, List.getElem?_eq_getElem (by rw [HH.out.2.2]; exact hlt)⟩
      have hup : (putI (xs.take k) l).Pairwise (· < ·) := putI_up HH.out.2.1
      have hmem : ∀ y ∈ putI (xs.take k) l, 0 < y ∧ y ≤ (N : Int) := fun y hy => by
        rcases putI_mem.1 hy with h | h
        · exact HH.out.1 y (.inl (List.mem_of_mem_take h))
        · exact HH.out.1 y (.inr h)
      have hlen : (putI (xs.take k) l).length ≤ N := up_length (a := 0) (n := N) hup (fun y hy => by have := hmem y hy; omega)
      have HT : Hid (putI (xs.take (k + 1)) l = insI x (putI (xs.take k) l)) := putI_take hxk
      obtain ⟨q, hq⟩ : ∃ q, putI (xs.take k) l = q := ⟨_, rfl⟩
      rw [hq] at hst hup hlen
      have HT2 : Hid (putI (xs.take (k + 1)) l = insI x q) := by rw [← hq]; exact HT.out
      clear hq hmem HT
      have hxn : ∀ j, svD (.slice p n cap) (xs.map iv) j → ¬ S' j := fun j hj hs' => by
        rcases g j hs' with h | h
        · exact HXS.out j hj h
        · have := HX.out.lt j hj; omega
      have hxw : SlV wr (.slice p n cap) (xs.map iv) := HX.out.chg c HXS.out
      obtain ⟨p9, c9, e9, z1, z2, hc9⟩ := hxw
      obtain ⟨bx, ox, e8, hcx⟩ := hc9 k (iv x) (by rw [List.getElem?_map, hxk]; rfl)
      rw [Value.slice.injEq] at e9
      obtain ⟨e9, z3, rfl⟩ := e9
      rw [e8] at e9
      subst e9
      clear z1 z2 z3 e8
      obtain ⟨gq, cq, rfl, b, ho, hne⟩ := id hst
      have hcB := b.cell
      have hfB := b.frozen
      have hsz := c.size
      obtain ⟨nq, hnq⟩ : ∃ nq, q.length = nq := ⟨_, rfl⟩
      have hnq' : nq ≤ 900 := by omega
      have H1 := search_in gq cq q x wr ho hup (by omega)
      obtain ⟨at', hat⟩ : ∃ at', q.countP (· < x) = at' := ⟨_, rfl⟩
      have hatl : at' ≤ nq := by rw [← hat, ← hnq]; exact List.countP_le_length
      obtain ⟨u, hu⟩ : ∃ u, q.contains x = u := ⟨_, rfl⟩
      have HQ : Hid (q.Pairwise (· < ·) ∧ q.length = nq ∧ q.countP (· < x) = at' ∧ q.contains x = u) := ⟨hup, hnq, hat, hu⟩
      have HO : Hid (Boxed wr B 117 (.slice (some ⟨gq, 0, none⟩) nq cq) ∧ OwnI wr 0 (.slice (some ⟨gq, 0, none⟩) nq cq) q) := by rw [← hnq]; exact ⟨b, ho⟩
      have HST : Hid _ := hst
      rw [hat, hu, hnq] at H1
      rw [hnq] at hcB
      clear b ho hup hat hu hnq hst hc9 hxn
      gi_wp2_with fail
      refine ⟨trivial, rfl, H1.mono ?_⟩
      rintro e w1 ⟨rfl, c1⟩
      clear H1
      have hcB1 : w1.cell? ⟨B, 0, none⟩ = some (.slice (some ⟨gq, 0, none⟩) nq cq) := (World.cell?_of_block (c1.block B HO.out.1.lt (fun h => h))).trans hcB
      have b1 : Boxed w1 B 117 (.slice (some ⟨gq, 0, none⟩) nq cq) := c1.boxed HO.out.1 (fun h => h)
      have ho1 := own_still HO.out.2 c1 (fun _ _ h => h)
      have hfB1 := b1.frozen
      cases u with
      | true =>
        have hfin : Stk B (putI (xs.take (k + 1)) l) (fun k => k = B ∨ k = gq) w1 := by
          rw [HT2.out, insI_there HQ.out.1 HQ.out.2.2.2]
          exact (Stk.part B q).chg HST.out c1 (fun _ _ h => h)
        gi_wp2
        go_roundw
        case rel => exact ⟨k + 1, fun k => k = B ∨ k = gq, hlt, by go_num, hfin, c.trans c1 (fun _ h => h.elim), g⟩
        case measure => simp [intOf]; omega
      | false =>
        obtain ⟨W1, hW1⟩ : ∃ W1, w1.alloc (.cells #[iv x] 3) = W1 := ⟨_, rfl⟩
        have ca : Chg No w1 W1 := by rw [← hW1]; exact (Chg.refl _ w1).alloc _
        have hxa : W1.heap[w1.heap.size]? = some (.cells #[iv x] 3 (0, 0)) := by rw [← hW1]; exact World.alloc_heap_new w1 _
        have b2 := ca.boxed b1 (fun h => h)
        have ho2 := own_still ho1 ca (fun _ _ h => h)
        have hcB2 := b2.cell
        have hfB2 := b2.frozen
        have hgl : gq < w1.heap.size := (World.ownsRow.lt ho1 gq rfl).2
        have H2 := insert_in 0 (.slice (some ⟨gq, 0, none⟩) nq cq) q at' x w1.heap.size W1 (by have := HQ.out.2.1; rw [← this] at ho2 ⊢; exact ho2) (Nat.zero_le _) (by rw [HQ.out.2.1]; exact hatl) (by rw [HQ.out.2.1]; omega) hxa (fun e => by
          have e' : some gq = some w1.heap.size := e
          rw [Option.some.injEq] at e'
          omega)
        gi_wp2_with fail
        refine ⟨trivial, rfl, H2.mono ?_⟩
        rintro e w2 ⟨v', rfl, ho3, c2, hbl⟩
        clear H2
        have hins : q.take at' ++ [x] ++ q.drop at' = insI x q := by
          have := insI_new HQ.out.1 HQ.out.2.2.2
          rw [HQ.out.2.2.1] at this
          exact this.symm
        rw [hins] at ho3
        obtain ⟨g3, c3, rfl⟩ := someRow ho3 (by
          have : x ∈ insI x q := insI_mem.2 (.inl rfl)
          intro e
          rw [List.length_eq_zero_iff] at e
          rw [e] at this
          cases this)
        have b3 : Boxed w2 B 117 (.slice (some ⟨gq, 0, none⟩) nq cq) := c2.boxed b2 (fun e => by cases e; exact hne rfl)
        have hcB3 := b3.cell
        have hfB3 := b3.frozen
        obtain ⟨m3, hm3⟩ : ∃ m3, (insI x q).length = m3 := ⟨_, rfl⟩
        have hg3 : g3 = gq ∨ W1.heap.size ≤ g3 := by
          rcases hbl g3 rfl with h | h
          · cases h; exact .inl rfl
          · exact .inr h
        have hlt3 := (World.ownsRow.lt ho3 g3 rfl).2
        have hBl := b2.lt
        have hgB : g3 ≠ B := by
          rcases hg3 with h | h
          · rw [h]; exact hne
          · omega
        have c4 : Chg (fun k => k = B) w2 (w2.setCell ⟨B, 0, none⟩ (.slice (some ⟨g3, 0, none⟩) m3 c3)) := (Chg.refl (fun k => k = B) w2).setCell (p := ⟨B, 0, none⟩) (.inl rfl) _
        have hfin : Stk B (putI (xs.take (k + 1)) l) (fun k => k = B ∨ k = g3) (w2.setCell ⟨B, 0, none⟩ (.slice (some ⟨g3, 0, none⟩) m3 c3)) := by
          rw [HT2.out]
          refine ⟨g3, c3, rfl, ?_, own_still ho3 c4 (fun k hk e => by cases hk; exact hgB e), hgB⟩
          rw [hm3]
          exact b3.set _
        have csz1 := c1.size
        have cc : Chg S w (w2.setCell ⟨B, 0, none⟩ (.slice (some ⟨g3, 0, none⟩) m3 c3)) := by
          refine c.trans (S' := fun k => k = B ∨ k = gq) ?_ g
          refine (c1.mono (fun _ h => h.elim)).trans (S' := fun k => k = B ∨ k = gq) ?_ (Grew.refl _ _)
          refine (ca.mono (fun _ h => h.elim)).trans (S' := fun k => k = B ∨ k = gq) ?_ (Grew.refl _ _)
          exact (c2.mono (fun k hk => by cases hk; exact .inr rfl)).trans (c4.mono (fun k hk => .inl hk)) (Grew.refl _ _)
        have gg : Grew S w (fun k => k = B ∨ k = g3) := by
          rintro k (rfl | rfl)
          · exact g _ (.inl rfl)
          · rcases hg3 with h | h
            · rw [h]; exact g _ (.inr rfl)
            · exact .inr (by have := ca.size; omega)
        have HFin : Hid _ := hfin
        have HCC : Hid _ := cc
        rw [hm3]
        clear hfin cc c4 ho3 b3 hm3
        gi_wp2
        go_roundw
        case rel => exact ⟨k + 1, _, hlt, by go_num, HFin.out, HCC.out, gg⟩
        case measure => simp [intOf]; omega
    · obtain rfl : k = n := by omega
      gi_wp2
      go_end0
      refine ⟨⟨_, rfl⟩, S', ?_, c, g⟩
      rw [List.take_of_length_le (by rw [HH.out.2.2]; exact Nat.le_refl _)] at hst
      exact hst

end Go.Proofs.YtakbeololabmhaaGreatDoor

end
section
-- REqI
namespace Go.Proofs.YtakbeololabmhaaGreatDoor
open Go.RowKit Go.Shelf Go.SeqLib
attribute [local go_sem] Oper.semAt_some

set_option maxHeartbeats 1000000 in
theorem equalI_in (v u : Value) (xs ys : List Int) (w : World) (hv : SlV w v (xs.map (Value.int .i64))) (hu : SlV w u (ys.map (Value.int .i64))) :
    CallsIn Fence.wide 0 Tryz.prog 88 #[v, u] w fun e w' => e = .returned (.bool (decide (xs = ys))) ∧ Chg (fun _ => False) w w' := by
  obtain ⟨p, c1, rfl, hp1, hp2, hpc⟩ := hv
  obtain ⟨q, c2, rfl, hq1, hq2, hqc⟩ := hu
  rw [List.length_map] at hp1 hq1
  have hl1 : xs.length ≤ maxLen := by omega
  have hl2 : ys.length ≤ maxLen := by omega
  unfold maxLen at hl1 hl2
  rw [List.length_map, List.length_map]
  by_cases hlen : xs.length = ys.length
  · have he : ((xs.length : Int) != (ys.length : Int)) = false := by simp [hlen]
    have HL : Hid (xs.length = ys.length) := hlen
    clear hlen
    refine callsIn_of_wp Tryz.func88 rfl trivial ?_
    simp only [Tryz.ntmps88, List.size_toArray, List.length_cons, List.length_nil, Nat.reduceAdd, Nat.reduceSub, Array.replicate_succ, Array.replicate_zero, List.push_toArray, List.append_toArray, List.nil_append, List.cons_append]
    gi_wp2
    gi_loopw [13] (fun i wr => ∃ k : Nat, k ≤ xs.length ∧ i = .int .i64 (k : Int) ∧ Hid (xs.take k = ys.take k) ∧ Chg (fun _ => False) w wr) (fun i _ => xs.length - (intOf i).toNat)
    case atStart => exact ⟨0, Nat.zero_le _, rfl, rfl, Chg.refl _ _⟩
    case round =>
      obtain ⟨k, hk, rfl, hT, c⟩ := hrel
      by_cases hlt : k < xs.length
      · have hlt2 : k < ys.length := by rw [← HL.out]; exact hlt
        obtain ⟨b1, o1, rfl, hc1⟩ := hpc k (.int .i64 xs[k]) (by simp [hlt])
        obtain ⟨b2, o2, rfl, hc2⟩ := hqc k (.int .i64 ys[k]) (by simp [hlt2])
        have hw1 : wr.cell? ⟨b1, o1 + k, none⟩ = some (.int .i64 xs[k]) := (World.cell?_of_block (a := ⟨b1, o1 + k, none⟩) (c.block b1 (World.block_lt_of_cell? w _ hc1) (fun h => h))).trans hc1
        have hw2 : wr.cell? ⟨b2, o2 + k, none⟩ = some (.int .i64 ys[k]) := (World.cell?_of_block (a := ⟨b2, o2 + k, none⟩) (c.block b2 (World.block_lt_of_cell? w _ hc2) (fun h => h))).trans hc2
        clear hc1 hc2
        have hmix : Tryz.prog.follows .mixedOrders = true := by kernel_rfl
        by_cases hxy : xs[k] = ys[k]
        · have hb : (xs[k] == ys[k]) = true := by rw [hxy]; simp
          have HT : Hid (xs.take (k + 1) = ys.take (k + 1)) := by
            show _ = _
            rw [List.take_succ_eq_append_getElem hlt, List.take_succ_eq_append_getElem hlt2, hT.out, hxy]
          clear hxy
          generalize xs[k] = x at *
          generalize ys[k] = y at *
          gi_wp2
          gi_big_quiet_th_o (fail)
          gi_wp2
          go_roundw
          case rel => exact ⟨k + 1, hlt, by go_num, HT, drewNC c _⟩
          case measure => simp [intOf]; omega
        · have hb : (xs[k] == ys[k]) = false := by rw [beq_eq_false_iff_ne]; exact hxy
          have HD : Hid (decide (xs = ys) = false) := by
            show _ = _
            rw [decide_eq_false_iff_not]; rintro rfl; exact hxy rfl
          clear hxy
          generalize xs[k] = x at *
          generalize ys[k] = y at *
          gi_wp2
          gi_big_quiet_th_o (fail)
          gi_wp2
          go_ret
          exact ⟨by rw [HD.out]; rfl, drewNC c _⟩
      · obtain rfl : k = xs.length := by omega
        have HD : Hid (decide (xs = ys) = true) := by
          show _ = _
          rw [decide_eq_true_iff]
          have h := hT.out
          rw [List.take_length] at h
          rw [HL.out, List.take_length] at h
          exact h
        clear hT
        gi_wp2
        go_ret
        exact ⟨by rw [HD.out]; rfl, c⟩
  · have he : ((xs.length : Int) != (ys.length : Int)) = true := by simp; omega
    have HD : Hid (decide (xs = ys) = false) := by
      show _ = _
      rw [decide_eq_false_iff_not]; rintro rfl; exact hlen rfl
    clear hlen
    refine callsIn_of_wp Tryz.func88 rfl trivial ?_
    simp only [Tryz.ntmps88, List.size_toArray, List.length_cons, List.length_nil, Nat.reduceAdd, Nat.reduceSub, Array.replicate_succ, Array.replicate_zero, List.push_toArray, List.append_toArray, List.nil_append, List.cons_append]
    gi_wp2
    go_ret
    exact ⟨by rw [HD.out]; rfl, Chg.refl _ _⟩

set_option maxRecDepth 100000 in
set_option maxHeartbeats 1000000 in
theorem cloneI_in (v : Value) (zs : List Int) (hlen : zs.length ≤ 1000000) (w : World) (hv : SlV w v (zs.map (Value.int .i64))) : CallsIn Fence.wide 0 Tryz.prog 63 #[v] w fun e w' =>
    ∃ v', e = .returned v' ∧ w'.ownsRow w.heap.size 3 1 v' zs.length (zs.map (Value.int .i64)) ∧ Chg (fun _ => False) w w' := by
  obtain ⟨i0, hi, hz0, hz1, hz2⟩ := info_parts infoInt
  obtain ⟨p, cap, rfl, h1, h2, hc⟩ := hv
  rw [List.length_map] at h1 ⊢
  cases p with
  | none =>
    have hz : zs = [] := by
      cases zs with
      | nil => rfl
      | cons x r => obtain ⟨b, off, h, _⟩ := hc 0 (.int .i64 x) rfl; cases h
    subst hz
    have hnil := fun w => run_eql_slice_nil' Tryz.underlying40 none 0 cap w
    simp only [Option.isNone_none] at hnil
    refine callsIn_of_wp Tryz.func63 rfl trivial ?_
    simp only [Tryz.ntmps63, List.size_toArray, List.length_cons, List.length_nil, Nat.reduceAdd, Nat.reduceSub, Array.replicate_succ, Array.replicate_zero, List.push_toArray, List.append_toArray, List.nil_append, List.cons_append]
    gi_wp2
    go_ret
    exact ⟨_, rfl, World.ownsRow_nil _ _ _ _, Chg.refl _ _⟩
  | some a =>
    have hnil := fun w => run_eql_slice_nil' Tryz.underlying40 (some a) zs.length cap w
    simp only [Option.isNone_some] at hnil
    refine callsIn_of_wp Tryz.func63 rfl trivial ?_
    simp only [Tryz.ntmps63, List.size_toArray, List.length_cons, List.length_nil, Nat.reduceAdd, Nat.reduceSub, Array.replicate_succ, Array.replicate_zero, List.push_toArray, List.append_toArray, List.nil_append, List.cons_append]
    have hown0 : (w.alloc (.cells #[] 3)).ownsRow w.heap.size 3 1 (.slice (some ⟨w.heap.size, 0, none⟩) 0 0) 0 [] := World.ownsRow_made w #[] 0 (Nat.le_refl _) (Nat.zero_le _) rfl
    have hnews : ∀ j u, (zs.map (Value.int .i64))[j]? = some u → (w.alloc (.cells #[] 3)).cell? (a.add j) = some u := by
      intro j u hj
      rw [List.getElem?_map] at hj
      obtain ⟨x, hx, rfl⟩ := Option.map_eq_some_iff.1 hj
      obtain ⟨b, off, e, hcell⟩ := hc j (.int .i64 x) (by rw [List.getElem?_map, hx]; rfl)
      cases e
      have ea : (⟨b, off, none⟩ : Addr).add j = ⟨b, off + j, none⟩ := by unfold Addr.add; split <;> simp_all
      rw [ea]
      exact (World.cell?_of_block (a := ⟨b, off + j, none⟩) (Below.heap_alloc w _ b (World.block_lt_of_cell? w _ hcell))).trans hcell
    have hone : ∀ u ∈ zs.map (Value.int .i64), u.oneCell' = true := by
      intro u hu
      obtain ⟨x, _, rfl⟩ := List.mem_map.1 hu
      rfl
    have hmx : 0 + zs.length ≤ maxLen := by unfold maxLen; omega
    clear hc
    gi_wp2_with (gi_at_builtin; refine wpListIn_append_at _ rfl _ _ 40 rfl w.heap.size 3 i0 (.int .i64 0) 1 8 Tryz.underlying40 hi hz0 hz1 hz2 rfl (by decide) _ _ _ rfl hown0 a zs.length cap (zs.map (Value.int .i64)) rfl (by simp) hnews hone hmx (by omega) (by simp) ?_; intro v' w1 hown' hgrow _ hat; obtain ⟨p', c', rfl⟩ := row_slice hown')
    go_ret
    refine ⟨_, rfl, by simpa using hown', ((Chg.refl _ w).alloc _).grown hgrow (fun k e => .inr ?_)⟩
    cases e
    exact Nat.le_refl _

end Go.Proofs.YtakbeololabmhaaGreatDoor

end
section
-- KMay
namespace Go.Proofs.YtakbeololabmhaaGreatDoor
open Go.RowKit Go.Shelf Go.SeqLib Go.DiffLib Go.TreeLib Go.RepoLib Go.BigFrame
attribute [local go_sem] Oper.semAt_some

def parB (l : List Int) : Bool := decide (l.length ≤ 2) && (decide (l.length < 2) || !decide (l[0]? = l[1]?))
theorem mayC_is (c : Cm) : mayC c = (mayB c.2.1 && (parB c.1 && decide (c.2.2.size ≤ 60))) := by
  unfold mayC parB
  rw [Bool.and_assoc]

set_option maxRecDepth 100000 in
set_option maxHeartbeats 4000000 in
theorem par_in (p : Option Addr) (n k : Nat) (l : List Int) (w : World) (h : SlV w (.slice p n k) (l.map iv)) : CallsIn Fence.wide 0 Tryz.prog 65 #[.slice p n k] w fun e w' => e = .returned (.bool (parB l)) ∧ Chg No w w' := by
  have hmix : Tryz.prog.follows .mixedOrders = true := by kernel_rfl
  obtain rfl : n = l.length := by obtain ⟨_, _, e, _⟩ := h; cases e; simp
  have hcap : l.length ≤ 9223372036854775807 := by obtain ⟨_, _, e, hl, hm, _⟩ := h; rw [List.length_map] at hl; unfold maxLen at hm; omega
  have HP : Hid (parB l = (decide (l.length ≤ 2) && (decide (l.length < 2) || !decide (l[0]? = l[1]?)))) := rfl
  rw [HP.out]
  clear HP
  refine callsIn_of_wp Tryz.func65 rfl trivial ?_
  simp only [Tryz.ntmps65, List.size_toArray, List.length_cons, List.length_nil, Nat.reduceAdd, Nat.reduceSub, Array.replicate_succ, Array.replicate_zero, List.push_toArray, List.append_toArray, List.nil_append, List.cons_append]
  rcases l with _ | ⟨a, _ | ⟨b, _ | ⟨d, r⟩⟩⟩
  · simp only [List.length_nil] at *
    gi_wp2
    refine wpIn_region_quiet_lit rfl hmix (by kernel_rfl) ?_
    repeat (gi_big_quiet_step (fail))
    refine wpQuietIn_nil ?_
    rintro w' ⟨j, rfl⟩
    gi_wp2
    go_ret
    exact ⟨rfl, drewNC (Chg.refl No w) j⟩
  · simp only [List.length_nil, List.length_cons, Nat.zero_add] at *
    gi_wp2
    refine wpIn_region_quiet_lit rfl hmix (by kernel_rfl) ?_
    repeat (gi_big_quiet_step (fail))
    refine wpQuietIn_nil ?_
    rintro w' ⟨j, rfl⟩
    gi_wp2
    go_ret
    exact ⟨rfl, drewNC (Chg.refl No w) j⟩
  · simp only [List.length_nil, List.length_cons, Nat.zero_add, Nat.reduceAdd] at h hcap ⊢
    obtain ⟨bp, op, rfl, hc0⟩ := h.get1 (i := 0) (x := iv a) rfl
    obtain ⟨_, _, e1, hc1⟩ := h.get1 (i := 1) (x := iv b) rfl
    cases e1
    have k0 : w.cell? ⟨bp, op, none⟩ = some (iv a) := hc0
    clear hc0
    by_cases hab : a = b
    · subst hab
      have hbb : ([a, a] : List Int)[0]? = [a, a][1]? := rfl
      have hb : (a != a) = false := by simp
      gi_wp2
      refine wpIn_region_quiet_lit rfl hmix (by kernel_rfl) ?_
      repeat (gi_big_quiet_step (fail))
      refine wpQuietIn_nil ?_
      rintro w' ⟨j, rfl⟩
      gi_wp2
      go_ret
      refine ⟨?_, drewNC (Chg.refl No w) j⟩
      rw [decide_eq_true hbb]
      rfl
    · have hb : (a != b) = true := by rw [bne_iff_ne]; exact hab
      have hbb : ¬ ([a, b] : List Int)[0]? = [a, b][1]? := fun e => hab (Option.some.inj e)
      clear hab
      gi_wp2
      refine wpIn_region_quiet_lit rfl hmix (by kernel_rfl) ?_
      repeat (gi_big_quiet_step (fail))
      refine wpQuietIn_nil ?_
      rintro w' ⟨j, rfl⟩
      gi_wp2
      go_ret
      refine ⟨?_, drewNC (Chg.refl No w) j⟩
      rw [decide_eq_false hbb]
      rfl
  · obtain ⟨z, hz⟩ : ∃ z, (a :: b :: d :: r).length = z := ⟨_, rfl⟩
    have hz3 : 3 ≤ z := by rw [← hz]; simp
    have hd0 : decide ((z : Int) < 2) = false := decide_eq_false (by omega)
    have hd1 : ((z : Int) == 2) = false := by rw [beq_eq_false_iff_ne]; omega
    have hd2 : decide (z ≤ 2) = false := decide_eq_false (by omega)
    rw [hz] at hcap
    simp only [hz] at h ⊢
    gi_wp2
    refine wpIn_region_quiet_lit rfl hmix (by kernel_rfl) ?_
    repeat (gi_big_quiet_step (fail))
    refine wpQuietIn_nil ?_
    rintro w' ⟨j, rfl⟩
    gi_wp2
    go_ret
    refine ⟨?_, drewNC (Chg.refl No w) j⟩
    rw [hd2]
    rfl

set_option maxHeartbeats 1000000 in
theorem mayR_in (v : Value) (c : Cm) (D : Blk) (w : World) (hv : CmD D w v c) (hs : SmallC c) : CallsIn Fence.wide 0 Tryz.prog 41 #[v] w fun e w' => e = .returned (.bool (mayC c)) ∧ Chg No w w' := by
  obtain ⟨p, n, k, q, m, l, rfl, h1, h2, _, _⟩ := hv
  obtain ⟨c1, c2, c3⟩ := c
  have hz : ∀ f ∈ c2, f.1.size ≤ 100000 := fun f hf => by have := (hs.2.2.1 f hf).1; omega
  dsimp only at h1 h2 ⊢
  have ca : Chg No w (w.alloc (.cells #[.slice p n k, .slice q m l, .string c3] 43)) := (Chg.refl _ w).alloc _
  have M1 := may_in (.slice q m l) c2 hz _ (h2.no ca)
  have P1 := fun W hw => par_in p n k c1 W hw
  have HM : Hid (mayC (c1, c2, c3) = (mayB c2 && (parB c1 && decide (c3.size ≤ 60)))) := mayC_is _
  rw [HM.out]
  clear HM
  have x0 : (w.alloc (.cells #[.slice p n k, .slice q m l, .string c3] 43)).heap[w.heap.size]? = some (.cells #[.slice p n k, .slice q m l, .string c3] 43 (0, 0)) := World.alloc_heap_new w _
  have g1 := h1.no ca
  have hs3 : c3.size ≤ 100 := hs.2.2.2
  clear h1 h2 hs hz
  generalize mayB c2 = b2 at M1 ⊢
  generalize parB c1 = b1 at P1 ⊢
  obtain ⟨z, hz⟩ : ∃ z, c3.size = z := ⟨_, rfl⟩
  refine callsIn_of_wp Tryz.func41 rfl trivial ?_
  simp only [Tryz.ntmps41, List.size_toArray, List.length_cons, List.length_nil, Nat.reduceAdd, Nat.reduceSub, Array.replicate_succ, Array.replicate_zero, List.push_toArray, List.append_toArray, List.nil_append, List.cons_append]
  gi_wp2_with fail
  refine ⟨trivial, rfl, M1.mono ?_⟩
  rintro e w1 ⟨rfl, c1'⟩
  have k1 := Chg.seq ca c1'
  have g1' := g1.no c1'
  have x1 := c1'.same x0 (fun h => h)
  have y0 : w1.cell? ⟨w.heap.size, 0, none⟩ = some (.slice p n k) := by simp [World.cell?, x1]
  clear x0 g1 M1
  cases b2 with
  | false =>
    gi_wp2_with fail
    refine ⟨trivial, ?_⟩
    rename_i hKK
    apply hKK
    gi_wp2
    go_ret
    exact ⟨rfl, k1⟩
  | true =>
  gi_wp2_with fail
  refine ⟨trivial, rfl, (P1 _ g1').mono ?_⟩
  rintro e w2 ⟨rfl, c2'⟩
  have x2 := c2'.same x1 (fun h => h)
  have y2 : w2.cell? ⟨w.heap.size, 2, none⟩ = some (.string c3) := by simp [World.cell?, x2]
  clear x1 x2
  cases b1 with
  | false =>
    gi_wp2
    go_ret
    exact ⟨rfl, Chg.seq k1 c2'⟩
  | true =>
    gi_wp2
    go_ret
    refine ⟨?_, Chg.seq k1 c2'⟩
    show Ending.returned (.bool (decide ((z : Int) ≤ 60))) = _
    rw [hz, show decide ((z : Int) ≤ 60) = decide (z ≤ 60) from by rw [decide_eq_decide]; omega]
    rfl

set_option maxHeartbeats 1000000 in
theorem alikeC_in (v u : Value) (c d : Cm) (D D' : Blk) (hx : c.2.1.length ≤ 1000000) (w : World) (hv : CmD D w v c) (hu : CmD D' w u d) :
    CallsIn Fence.wide 0 Tryz.prog 67 #[v, u] w fun e w' => e = .returned (.bool (decide (c = d))) ∧ Chg No w w' := by
  obtain ⟨p, n, k, q, m, l, rfl, h1, h2, _, _⟩ := hv
  obtain ⟨p', n', k', q', m', l', rfl, h1', h2', _, _⟩ := hu
  obtain ⟨c1, c2, c3⟩ := c
  obtain ⟨d1, d2, d3⟩ := d
  dsimp only at h1 h2 h1' h2' hx ⊢
  have ca : Chg No w ((w.alloc (.cells #[.slice p n k, .slice q m l, .string c3] 43)).alloc (.cells #[.slice p' n' k', .slice q' m' l', .string d3] 43)) := ((Chg.refl _ w).alloc _).alloc _
  have I1 := fun W hv hu => equalI_in (.slice p n k) (.slice p' n' k') c1 d1 W hv hu
  have F1 := fun W hv hu => sameT_in (.slice q m l) (.slice q' m' l') c2 d2 W hv hu hx
  have HE : Hid (decide (((c1, c2, c3) : Cm) = (d1, d2, d3)) = (decide (c1 = d1) && (decide (c2 = d2) && (c3.toList == d3.toList)))) := by
    show _ = _
    by_cases h3 : c3 = d3
    · rw [eqR_true h3, Bool.and_true, Bool.eq_iff_iff]
      simp [h3]
    · rw [eqR_false h3, Bool.and_false, Bool.and_false, decide_eq_false (fun e => h3 (congrArg (fun x : Cm => x.2.2) e))]
  rw [HE.out]
  clear HE
  generalize hb3 : (c3.toList == d3.toList) = b3
  generalize decide (c1 = d1) = b1 at I1 ⊢
  generalize decide (c2 = d2) = b2 at F1 ⊢
  have g1 := h1.no ca
  have g2 := h2.no ca
  have g1' := h1'.no ca
  have g2' := h2'.no ca
  clear h1 h2 h1' h2'
  have x0 : ((w.alloc (.cells #[.slice p n k, .slice q m l, .string c3] 43)).alloc (.cells #[.slice p' n' k', .slice q' m' l', .string d3] 43)).heap[w.heap.size]? = some (.cells #[.slice p n k, .slice q m l, .string c3] 43 (0, 0)) := by
    rw [Below.heap_alloc _ _ _ (by rw [World.size_alloc]; omega)]
    exact World.alloc_heap_new w _
  have x1 : ((w.alloc (.cells #[.slice p n k, .slice q m l, .string c3] 43)).alloc (.cells #[.slice p' n' k', .slice q' m' l', .string d3] 43)).heap[w.heap.size + 1]? = some (.cells #[.slice p' n' k', .slice q' m' l', .string d3] 43 (0, 0)) := by
    have := World.alloc_heap_new (w.alloc (.cells #[.slice p n k, .slice q m l, .string c3] 43)) (.cells #[.slice p' n' k', .slice q' m' l', .string d3] 43 (0, 0))
    rw [World.size_alloc] at this
    exact this
  refine callsIn_of_wp Tryz.func67 rfl trivial ?_
  simp only [Tryz.ntmps67, List.size_toArray, List.length_cons, List.length_nil, Nat.reduceAdd, Nat.reduceSub, Array.replicate_succ, Array.replicate_zero, List.push_toArray, List.append_toArray, List.nil_append, List.cons_append]
  gi_wp2_with fail
  refine ⟨trivial, rfl, (I1 _ g1 g1').mono ?_⟩
  rintro e w1 ⟨rfl, c1'⟩
  have k1 := Chg.seq ca c1'
  have a0 := c1'.same x0 (fun h => h)
  have a1 := c1'.same x1 (fun h => h)
  have y0 : w1.cell? ⟨w.heap.size, 1, none⟩ = some (.slice q m l) := by simp [World.cell?, a0]
  have y1 : w1.cell? ⟨w.heap.size + 1, 1, none⟩ = some (.slice q' m' l') := by simp [World.cell?, a1]
  have f2 := g2.no c1'
  have f2' := g2'.no c1'
  clear x0 x1 g1 g1' g2 g2' I1
  cases b1 with
  | false =>
    gi_wp2_with fail
    refine ⟨trivial, ?_⟩
    rename_i hKK
    apply hKK
    gi_wp2
    go_ret
    exact ⟨rfl, k1⟩
  | true =>
  gi_wp2_with fail
  refine ⟨trivial, rfl, (F1 _ f2 f2').mono ?_⟩
  rintro e w2 ⟨rfl, c2'⟩
  have k2 := Chg.seq k1 c2'
  have a2 := c2'.same a0 (fun h => h)
  have a3 := c2'.same a1 (fun h => h)
  have y2 : w2.cell? ⟨w.heap.size, 2, none⟩ = some (.string c3) := by simp [World.cell?, a2]
  have y3 : w2.cell? ⟨w.heap.size + 1, 2, none⟩ = some (.string d3) := by simp [World.cell?, a3]
  clear a0 a1 a2 a3 y0 y1 F1 f2 f2'
  cases b2 with
  | false =>
    gi_wp2
    go_ret
    exact ⟨rfl, k2⟩
  | true =>
    gi_wp2
    go_ret
    exact ⟨rfl, k2⟩

end Go.Proofs.YtakbeololabmhaaGreatDoor

end
