/-
  The statements' own made: commits of numbers, put into a repo and into the document's.
-/
import Derived.Test.YtmpgeacfnikbpaaDoorLPut
import Derived.Test.YtmpgeacfnikbpaaDoorLow
import Derived.Test.YtmpgeacfnikbpaaDoorAppI
import Derived.Test.YtmpgeacfnikbpaaDoorLoudP
import Derived.Laws.IdiomStrings
namespace Go.DagLib
/-- A number as an unsigned one. -/
def uN (p : Int) : Nat := (IntKind.u64.wrap p).toNat
end Go.DagLib
namespace Go.Proofs.YtmpgeacfnikbpaaDoor
open Go.RowKit Go.Shelf Go.SeqLib Go.DiffLib Go.TreeLib Go.RepoLib Go.DagLib Go.BigFrame
attribute [local go_sem] Oper.semAt_some

theorem uN_cast (p : Int) : IntKind.u64.wrap p = ((uN p : Nat) : Int) := by have := u64_range p; unfold uN; omega
theorem u64_lt (x : Int) : IntKind.u64.wrap x < 18446744073709551616 := by
  simp only [IntKind.wrap, IntKind.signed, IntKind.bits]
  simp
  omega
theorem u64_same (x : Int) (h0 : 0 ≤ x) (h1 : x < 18446744073709551616) : IntKind.u64.wrap x = x := by
  simp only [IntKind.wrap, IntKind.signed, IntKind.bits]
  simp
  omega
theorem two_text (i : Nat) (hi : i < 600) (g : Nat) (w : World) (h : w.heap[g]? = some (.cells #[.int .u8 (65 + (i : Int) % 26), .int .u8 (97 + (i : Int) / 26)] 5 (0, 0))) :
    (convert 43 9 (.slice (some ⟨g, 0, none⟩) 2 2)).run Tryd.prog w = .ok (.string (mkN i)) w := by
  have := run_convert_bytes_back (P := Tryd.prog) w 43 9 5 ⟨g, 0, none⟩ 2 [(65 + i % 26).toUInt8, (97 + i / 26).toUInt8] Tryd.underlying43 Tryd.underlying5 Tryd.underlying9 (fun j hj => by
    have hj2 : j = 0 ∨ j = 1 := by simp at hj; omega
    have e : (⟨g, 0, none⟩ : Addr).add j = ⟨g, j, none⟩ := by unfold Addr.add; split <;> simp_all
    rw [e]
    have b1 : (65 + i % 26).toUInt8.toNat = 65 + i % 26 := by simp [Nat.toUInt8]; omega
    have b2 : (97 + i / 26).toUInt8.toNat = 97 + i / 26 := by simp [Nat.toUInt8]; omega
    rcases hj2 with rfl | rfl
    · show w.cell? ⟨g, 0, none⟩ = some (.int .u8 ((65 + i % 26).toUInt8.toNat : Int))
      rw [b1]
      simp [World.cell?, h]
    · show w.cell? ⟨g, 1, none⟩ = some (.int .u8 ((97 + i / 26).toUInt8.toNat : Int))
      rw [b2]
      simp [World.cell?, h])
  exact this

/-- The parents, by two tests. -/
theorem mkP_bools (k y : Nat) : (mkP k y).map (fun (p : Nat) => (p : Int)) = (if decide (1 ≤ y / 100 % 100 ∧ y / 100 % 100 ≤ k) = true then [((y / 100 % 100 : Nat) : Int)] else []) ++ (if decide (1 ≤ y % 100 ∧ y % 100 ≤ k ∧ ¬ y % 100 = y / 100 % 100) = true then [((y % 100 : Nat) : Int)] else []) := by
  unfold mkP
  rw [List.map_append]
  congr 1
  · by_cases h : 1 ≤ y / 100 % 100 ∧ y / 100 % 100 ≤ k
    · rw [if_pos h, if_pos (decide_eq_true h)]; rfl
    · rw [if_neg h, if_neg (by rw [decide_eq_false h]; exact Bool.false_ne_true)]; rfl
  · by_cases h : 1 ≤ y % 100 ∧ y % 100 ≤ k ∧ ¬ y % 100 = y / 100 % 100
    · rw [if_pos h, if_pos (decide_eq_true h)]; rfl
    · rw [if_neg h, if_neg (by rw [decide_eq_false h]; exact Bool.false_ne_true)]; rfl
/-- The commit's box while its parents are put in. -/
structure ParBox (W0 : World) (X : Nat) (nt : ByteArray) (l : List Int) (W : World) : Prop where
  chg : Chg No W0 W
  low : W0.heap.size ≤ X
  box : ∃ pv, W.heap[X]? = some (.cells #[pv, .slice none 0 0, .string nt] 46 (0, 0)) ∧ OwnI W (X + 1) pv l

theorem ParBox.push {W0 W5 w5 : World} {X : Nat} {nt : ByteArray} {l : List Int} {pv v : Value} {b : Int} (h : Chg No W0 W5) (hlow : W0.heap.size ≤ X) (hbx : W5.heap[X]? = some (.cells #[pv, .slice none 0 0, .string nt] 46 (0, 0))) (how : OwnI W5 (X + 1) pv l)
    (hg : (W5.alloc (.cells #[.int .i64 b] 3)).grownBy w5 pv.ownBlock) (ho : w5.ownsRow (X + 1) 3 1 v (l.length + 1) (l.map iv ++ [b].map iv)) : ParBox W0 X nt (l ++ [b]) (w5.setCell ⟨X, 0, none⟩ v) := by
  have cA : Chg No W0 (W5.alloc (.cells #[.int .i64 b] 3)) := h.alloc _
  have hbA : (W5.alloc (.cells #[.int .i64 b] 3)).heap[X]? = some (.cells #[pv, .slice none 0 0, .string nt] 46 (0, 0)) := ((Chg.refl No W5).alloc _).same hbx (fun h => h)
  have c05 := (Chg.refl (fun k => pv.ownBlock = some k) (W5.alloc (.cells #[.int .i64 b] 3))).grown hg (fun k e => .inl e)
  have hb5 := c05.same hbA (fun e => by have := (World.ownsRow.lt how _ e).1; omega)
  have cw5 : Chg No W0 w5 := cA.trans c05 (fun k e => .inr (by have := (World.ownsRow.lt how _ e).1; omega))
  have cs : Chg (fun k => k = X) w5 (w5.setCell ⟨X, 0, none⟩ v) := (Chg.refl (fun k => k = X) w5).setCell (p := ⟨X, 0, none⟩) (.inl rfl) _
  refine ⟨cw5.trans cs (fun k e => .inr (by omega)), hlow, v, by simp [World.setCell, Array.getElem?_modify, hb5], ?_⟩
  have := own_still ho cs (fun k e e' => by have := (World.ownsRow.lt ho k e).1; omega)
  show World.ownsRow _ _ _ _ _ _ _
  rw [List.map_append, List.length_append]
  exact this

set_option maxRecDepth 100000 in
set_option maxHeartbeats 8000000 in
theorem made_in {Rep : Nat → Rp → Blk → Blk → World → Prop} (J : PutSpec Rep) (p : Option Addr) (n k0 : Nat) (ps : List Int) (hn : ps.length = n) (h50 : n ≤ 50) (w : World) (hp : SlV w (.slice p n k0) (ps.map iv)) :
    CallsIn Fence.wide 0 Tryd.prog 8 #[.slice p n k0] w fun e w' => ∃ B Bw S O lv rows, e = .returned (.tuple #[ptr B, ptr Bw]) ∧ Rep B (mkL 0 (ps.map uN), 60) S O w' ∧ RefVw Bw (mkL 0 (ps.map uN), 60) lv rows w' ∧ (∀ k, S k → w.heap.size ≤ k) ∧ Chg No w w' := by
  have hmix : Tryd.prog.follows .mixedOrders = true := by kernel_rfl
  have hnil : ∀ (B : Nat) (w : World), (binOp .eql 24 (ptr B) (.pointer none)).run Tryd.prog w = .ok (.bool false) w := fun B w => by simp [go_sem]
  have HN : Hid (ps.length = n) := hn
  obtain ⟨xs, hxs⟩ : ∃ xs, ps.map uN = xs := ⟨_, rfl⟩
  have HXS : Hid (ps.map uN = xs) := hxs
  have HXL : Hid (xs.length = n) := by show _ = _; rw [← hxs, List.length_map, hn]
  rw [hxs]
  clear hn hxs
  refine callsIn_of_wp Tryd.func8 rfl trivial ?_
  simp only [Tryd.ntmps8, List.size_toArray, List.length_cons, List.length_nil, Nat.reduceAdd, Nat.reduceSub, Array.replicate_succ, Array.replicate_zero, List.push_toArray, List.append_toArray, List.nil_append, List.cons_append]
  gi_wp2_with fail
  refine ⟨trivial, rfl, (J.new 60 w (by omega) (by omega)).mono ?_⟩
  rintro e w1 ⟨B, S1, O1, rfl, r1, hS1, c1⟩
  gi_wp2_with fail
  refine ⟨trivial, rfl, (newG_in 60 (by omega) (by omega) w1).mono ?_⟩
  rintro e w2 ⟨Bw, rfl, q2, hBw, c2⟩
  have r2 := (J.part B _ O1).chg r1 c2 (fun _ _ h => h)
  have c02 := Chg.seq c1 c2
  have hB1 := (J.part B _ O1).lt r1
  have hzero : newC 60 = (mkL 0 (xs.take 0), 60) := rfl
  rw [hzero] at r2 q2
  clear hzero r1
  gi_wp2
  gi_loopw [6] (fun s6 wr => ∃ (k : Nat) (S O D : Blk) (lv : Value) (rows : List Rw), k ≤ n ∧ s6 = .int .i64 (k : Int) ∧ Rep B (mkL 0 (xs.take k), 60) S O wr ∧ RefG D Bw (mkL 0 (xs.take k), 60) lv rows wr ∧ (∀ j, S j → w.heap.size ≤ j ∧ ¬ (refS Bw lv j ∨ D j)) ∧ (∀ j, (refS Bw lv j ∨ D j) → w.heap.size ≤ j) ∧ Chg No w wr) (fun s6 _ => n - (intOf s6).toNat)
  case atStart =>
    refine ⟨0, S1, O1, No, _, _, Nat.zero_le _, rfl, r2, q2, fun j hj => ⟨hS1 j hj, fun e => ?_⟩, fun j hj => ?_, c02⟩
    · have := hB1 j hj
      rcases e with (e | e) | e
      · omega
      · cases e
      · exact e
    · rcases hj with (e | e) | e
      · have := c1.size; omega
      · cases e
      · exact e.elim
  case round =>
    obtain ⟨k, S, O, D, lv, rows, hk, rfl, r, q, hS, hD, c⟩ := hrel
    by_cases hlt : k < n
    · have hlt' : (k : Int) < (n : Int) := by omega
      obtain ⟨pa, hpa⟩ : ∃ pa, ps[k]? = some pa := ⟨_, List.getElem?_eq_getElem (by rw [HN.out]; exact hlt)⟩
      obtain ⟨bp, op, rfl, hcp⟩ := (hp.no c).get1 (i := k) (x := iv pa) (by rw [List.getElem?_map, hpa]; rfl)
      obtain ⟨y, hy⟩ : ∃ y, uN pa = y := ⟨_, rfl⟩
      have hcast := uN_cast pa
      rw [hy] at hcast
      have HY : Hid (xs[k]? = some y) := by show _ = _; rw [← HXS.out, List.getElem?_map, hpa, ← hy]; rfl
      have hk2 : k < 600 := by omega
      obtain ⟨nt, hnt⟩ : ∃ nt, mkN k = nt := ⟨_, rfl⟩
      have HNT : Hid (mkN k = nt) := hnt
      have hw3 : (wr.alloc (.cells #[.int .u8 (65 + (k : Int) % 26), .int .u8 (97 + (k : Int) / 26)] 5)).heap[wr.heap.size]? = some (.cells #[.int .u8 (65 + (k : Int) % 26), .int .u8 (97 + (k : Int) / 26)] 5 (0, 0)) := World.alloc_heap_new wr _
      have hcv := two_text k hk2 _ _ hw3
      rw [hnt] at hcv
      obtain ⟨a, ha⟩ : ∃ a, y % 100 = a := ⟨_, rfl⟩
      obtain ⟨b, hb⟩ : ∃ b, y / 100 % 100 = b := ⟨_, rfl⟩
      have HP := mkP_bools k y
      rw [ha, hb] at HP
      obtain ⟨g1, hg1⟩ : ∃ g1, decide (1 ≤ b ∧ b ≤ k) = g1 := ⟨_, rfl⟩
      obtain ⟨g2, hg2⟩ : ∃ g2, decide (1 ≤ a ∧ a ≤ k ∧ ¬ a = b) = g2 := ⟨_, rfl⟩
      rw [hg1, hg2] at HP
      have HP' : Hid _ := HP
      have HG1 : Hid (decide (1 ≤ b ∧ b ≤ k) = g1) := hg1
      have HG2 : Hid (decide (1 ≤ a ∧ a ≤ k ∧ ¬ a = b) = g2) := hg2
      have d3 : (y : Int) % 100 = (a : Int) := by rw [← ha]; omega
      have hy64 : (y : Int) < 18446744073709551616 := by rw [← hcast]; exact u64_lt pa
      obtain ⟨q', hq'⟩ : ∃ q', y / 100 = q' := ⟨_, rfl⟩
      have d4 : IntKind.u64.wrap ((y : Int) / 100) = (q' : Int) := by rw [u64_same _ (by omega) (by omega), ← hq']; omega
      have d5 : (q' : Int) % 100 = (b : Int) := by rw [← hb, hq']; omega
      have ha2 : a < 100 := by omega
      have hb2 : b < 100 := by omega
      have hm1 : (k : Int) % 26 < 26 := by omega
      have hm0 : 0 ≤ (k : Int) % 26 := by omega
      have hm2 : (k : Int) / 26 < 2 := by omega
      have hm3 : 0 ≤ (k : Int) / 26 := by omega
      have c5 : Chg No w ((wr.alloc (.cells #[.int .u8 (65 + (k : Int) % 26), .int .u8 (97 + (k : Int) / 26)] 5)).alloc (.cells #[.slice none 0 0, .slice none 0 0, .string nt] 46)) := (c.alloc _).alloc _
      obtain ⟨_, _, e5, hcp5⟩ := (hp.no c5).get1 (i := k) (x := iv pa) (by rw [List.getElem?_map, hpa]; rfl)
      cases e5
      have cr5 : Chg No wr ((wr.alloc (.cells #[.int .u8 (65 + (k : Int) % 26), .int .u8 (97 + (k : Int) / 26)] 5)).alloc (.cells #[.slice none 0 0, .slice none 0 0, .string nt] 46)) := ((Chg.refl _ wr).alloc _).alloc _
      have hX5 : ((wr.alloc (.cells #[.int .u8 (65 + (k : Int) % 26), .int .u8 (97 + (k : Int) / 26)] 5)).alloc (.cells #[.slice none 0 0, .slice none 0 0, .string nt] 46)).heap[wr.heap.size + 1]? = some (.cells #[.slice none 0 0, .slice none 0 0, .string nt] 46 (0, 0)) := by
        have := World.alloc_heap_new (wr.alloc (.cells #[.int .u8 (65 + (k : Int) % 26), .int .u8 (97 + (k : Int) / 26)] 5)) (.cells #[.slice none 0 0, .slice none 0 0, .string nt] 46 (0, 0))
        rw [World.size_alloc] at this
        exact this
      have PB0 : ParBox wr (wr.heap.size + 1) nt [] _ := ⟨cr5, by omega, _, hX5, World.ownsRow_nil _ _ _ _⟩
      clear HP hg1 hg2 ha hb hnt hw3 hcp c5 cr5 hX5 hq'
      gi_upto_region 10 with (fail)
      generalize (wr.alloc (.cells #[.int .u8 (65 + (k : Int) % 26), .int .u8 (97 + (k : Int) / 26)] 5)).alloc (.cells #[.slice none 0 0, .slice none 0 0, .string nt] 46) = W5 at *
      clear d3 d4 d5 hcast hcv hcp5
      gi_cut [50] from 200 (fun v w' => v = .bool g1 ∧ w' = W5)
      case first =>
        rename_i JJ KK hJJ hKK
        by_cases h1 : 1 ≤ b
        · have h1' : (1 : Int) ≤ (b : Int) := by omega
          by_cases h2 : b ≤ k
          · have h2' : (b : Int) ≤ (k : Int) := by omega
            obtain rfl : g1 = true := by rw [← HG1.out]; exact decide_eq_true ⟨h1, h2⟩
            gi_wp2
            gi_meet
            exact ⟨rfl, rfl⟩
          · have h2' : ¬ (b : Int) ≤ (k : Int) := by omega
            obtain rfl : g1 = false := by rw [← HG1.out]; exact decide_eq_false (fun h => h2 h.2)
            gi_wp2
            gi_meet
            exact ⟨rfl, rfl⟩
        · have h1' : ¬ (1 : Int) ≤ (b : Int) := by omega
          obtain rfl : g1 = false := by rw [← HG1.out]; exact decide_eq_false (fun h => h1 h.1)
          gi_wp2
          gi_meet
          exact ⟨rfl, rfl⟩
      case rest =>
      obtain ⟨rfl, rfl⟩ := hcut
      generalize wc = W5 at *
      gi_upto_if 50 with (fail)
      gi_cut [] from 200 (fun w' => ParBox wr (wr.heap.size + 1) nt (if g1 = true then [((b : Nat) : Int)] else []) w')
      case first =>
        rename_i JJ KK hJJ hKK
        cases g1 with
        | false =>
          gi_wp2
          gi_meet
          rw [if_neg Bool.false_ne_true]
          exact PB0
        | true =>
          obtain ⟨cb, lb, pv, hbx, how⟩ := PB0
          obtain ⟨pq, kq, rfl⟩ := row_slice how
          have v0 : W5.cell? ⟨wr.heap.size + 1, 0, none⟩ = some (.slice pq 0 kq) := by simp [World.cell?, hbx]
          have hsl : SlV (W5.alloc (.cells #[.int .i64 (b : Int)] 3)) (.slice (some ⟨W5.heap.size, 0, none⟩) 1 1) ([(b : Int)].map iv) := SlV.made W5 [.int .i64 (b : Int)] 3 (by simp)
          have oA := World.ownsRow.alloc how (.cells #[.int .i64 (b : Int)] 3)
          have cA : Chg No W5 (W5.alloc (.cells #[.int .i64 (b : Int)] 3)) := (Chg.refl _ W5).alloc _
          have hXl : wr.heap.size + 1 < W5.heap.size := (Array.getElem?_eq_some_iff.1 hbx).1
          have hbA := cA.same hbx (fun h => h)
          have hsA := cA.size
          gi_wp2_with (gi_at_builtin; refine wpListIn_append_i _ rfl _ _ rfl (wr.heap.size + 1 + 1) _ _ _ rfl oA (some ⟨W5.heap.size, 0, none⟩) 1 1 [(b : Int)] rfl hsl (by simp) (by omega) ?_; intro v5 w5 hown5 hgrow5 hat5; have c05 := (Chg.refl (fun k => Value.ownBlock (.slice pq 0 kq) = some k) _).grown hgrow5 (fun k e => .inl e); have hb5 := c05.same hbA (fun e => by have := (World.ownsRow.lt oA _ e).1; omega); have f5 : w5.frozen? ⟨wr.heap.size + 1, 0, none⟩ = false := (by simp [World.frozen?, hb5]); have x5 : w5.cell? ⟨wr.heap.size + 1, 0, none⟩ = some (.slice pq 0 kq) := (by simp [World.cell?, hb5]); obtain ⟨q6, k6, rfl⟩ := row_slice hown5)
          gi_meet
          simp only [if_true]
          exact ParBox.push cb lb hbx how hgrow5 hown5
      case rest =>
      obtain ⟨l1, hl1⟩ : ∃ l1 : List Int, (if g1 = true then [((b : Nat) : Int)] else []) = l1 := ⟨_, rfl⟩
      have HL1 : Hid ((if g1 = true then [((b : Nat) : Int)] else []) = l1) := hl1
      rw [hl1] at hcut
      clear PB0 hl1
      have PB1 := hcut
      clear hcut
      generalize wc = W6 at *
      gi_upto_region 12 with (fail)
      gi_cut [68] from 200 (fun v w' => v = .bool g2 ∧ w' = W6)
      case first =>
        rename_i JJ KK hJJ hKK
        by_cases h1 : 1 ≤ a
        · have h1' : (1 : Int) ≤ (a : Int) := by omega
          by_cases h2 : a ≤ k
          · have h2' : (a : Int) ≤ (k : Int) := by omega
            by_cases h3 : a = b
            · have h3' : ((a : Int) != (b : Int)) = false := by rw [h3]; simp
              obtain rfl : g2 = false := by rw [← HG2.out]; exact decide_eq_false (fun h => h.2.2 h3)
              clear h3
              gi_wp2
              gi_meet
              exact ⟨rfl, rfl⟩
            · have h3' : ((a : Int) != (b : Int)) = true := by rw [bne_iff_ne]; omega
              obtain rfl : g2 = true := by rw [← HG2.out]; exact decide_eq_true ⟨h1, h2, h3⟩
              clear h3
              gi_wp2
              gi_meet
              exact ⟨rfl, rfl⟩
          · have h2' : ¬ (a : Int) ≤ (k : Int) := by omega
            obtain rfl : g2 = false := by rw [← HG2.out]; exact decide_eq_false (fun h => h2 h.2.1)
            gi_wp2
            gi_meet
            exact ⟨rfl, rfl⟩
        · have h1' : ¬ (1 : Int) ≤ (a : Int) := by omega
          obtain rfl : g2 = false := by rw [← HG2.out]; exact decide_eq_false (fun h => h1 h.1)
          gi_wp2
          gi_meet
          exact ⟨rfl, rfl⟩
      case rest =>
      obtain ⟨rfl, rfl⟩ := hcut
      generalize wc = W6 at *
      gi_upto_if 68 with (fail)
      gi_cut [] from 200 (fun w' => ParBox wr (wr.heap.size + 1) nt (l1 ++ (if g2 = true then [((a : Nat) : Int)] else [])) w')
      case first =>
        rename_i JJ KK hJJ hKK
        cases g2 with
        | false =>
          gi_wp2
          gi_meet
          simp only [if_false, Bool.false_eq_true, List.append_nil]
          exact PB1
        | true =>
          obtain ⟨cb, lb, pv, hbx, how⟩ := PB1
          obtain ⟨ln, hln⟩ : ∃ ln, l1.length = ln := ⟨_, rfl⟩
          have HLn : Hid (l1.length = ln) := hln
          have hln2 : ln ≤ 1 := by
            have := HL1.out
            rw [← hln, ← this]
            split <;> simp
          have how2 : W6.ownsRow (wr.heap.size + 1 + 1) 3 1 pv ln (l1.map iv) := by rw [← hln]; exact how
          obtain ⟨pq, kq, rfl⟩ := row_slice how2
          have v0 : W6.cell? ⟨wr.heap.size + 1, 0, none⟩ = some (.slice pq ln kq) := by simp [World.cell?, hbx]
          have hsl : SlV (W6.alloc (.cells #[.int .i64 (a : Int)] 3)) (.slice (some ⟨W6.heap.size, 0, none⟩) 1 1) ([(a : Int)].map iv) := SlV.made W6 [.int .i64 (a : Int)] 3 (by simp)
          have oA := World.ownsRow.alloc how2 (.cells #[.int .i64 (a : Int)] 3)
          have cA : Chg No W6 (W6.alloc (.cells #[.int .i64 (a : Int)] 3)) := (Chg.refl _ W6).alloc _
          have hXl : wr.heap.size + 1 < W6.heap.size := (Array.getElem?_eq_some_iff.1 hbx).1
          have hbA := cA.same hbx (fun h => h)
          have hsA := cA.size
          have HOW : Hid (OwnI W6 (wr.heap.size + 1 + 1) (.slice pq ln kq) l1) := how
          clear hln how how2
          gi_wp2_with (gi_at_builtin; refine wpListIn_append_i _ rfl _ _ rfl (wr.heap.size + 1 + 1) _ _ _ rfl oA (some ⟨W6.heap.size, 0, none⟩) 1 1 [(a : Int)] rfl hsl (by omega) (by omega) ?_; intro v5 w5 hown5 hgrow5 hat5; have c05 := (Chg.refl (fun k => Value.ownBlock (.slice pq ln kq) = some k) _).grown hgrow5 (fun k e => .inl e); have hb5 := c05.same hbA (fun e => by have := (World.ownsRow.lt oA _ e).1; omega); have f5 : w5.frozen? ⟨wr.heap.size + 1, 0, none⟩ = false := (by simp [World.frozen?, hb5]); have x5 : w5.cell? ⟨wr.heap.size + 1, 0, none⟩ = some (.slice pq ln kq) := (by simp [World.cell?, hb5]); obtain ⟨q6, k6, rfl⟩ := row_slice hown5)
          gi_meet
          simp only [if_true]
          exact ParBox.push cb lb hbx HOW.out hgrow5 (by rw [HLn.out]; exact hown5)
      case rest =>
      have PB2 := hcut
      rw [← HL1.out, ← HP'.out] at PB2
      clear PB1 hcut
      generalize wc = W7 at *
      obtain ⟨cb, lb, pv, hbx, how⟩ := PB2
      have hX7 : wr.heap.size + 1 < W7.heap.size := (Array.getElem?_eq_some_iff.1 hbx).1
      have hElow : ∀ j, pv.ownBlock = some j → wr.heap.size + 2 ≤ j ∧ j < W7.heap.size := fun j hj => by
        have := World.ownsRow.lt how j hj
        exact ⟨by omega, this.2⟩
      have hcm : CmD (fun j => pv.ownBlock = some j) W7 (.agg #[pv, .slice none 0 0, .string nt]) (mkC k y) := by
        have s1 := OwnI.sl how
        obtain ⟨pq, kq, rfl⟩ := row_slice how
        exact ⟨pq, _, kq, none, 0, 0, by rw [← HNT.out]; rfl, s1, SlE.nil, fun j hj => hj.2, fun j hj => absurd rfl hj.1⟩
      have hsmall : SmallC (mkC k y) := by
        refine ⟨?_, by show 0 ≤ 16; omega, (fun f hf => by cases hf), by show 2 ≤ 100; omega⟩
        show ((mkP k y).map _).length ≤ 5
        rw [List.length_map]
        rcases mkP_cases k y with h | ⟨_, h⟩ | ⟨_, _, h, _⟩ <;> rw [h] <;> simp
      have htl : (xs.take k).length = k := by rw [List.length_take, HXL.out]; omega
      have hts : xs.take (k + 1) = xs.take k ++ [y] := by rw [List.take_add_one, HY.out]; rfl
      have hadd := made_add (xs := xs.take k) (x := y) (r := 60) (by omega) (by omega)
      rw [htl, ← hts] at hadd
      have HADD : Hid (addC (mkL 0 (xs.take k), 60) (mkC k y) = ((mkL 0 (xs.take (k + 1)), 60), k + 1, 0)) := hadd
      have hlen : (mkL 0 (xs.take k)).length = k := by rw [mkL_length, htl]
      have r7 := (J.part B _ O).chg r cb (fun _ _ h => h)
      have q7 := q.no cb
      have hSw := (J.part B _ O).lt r
      have A1 := J.add B (mkL 0 (xs.take k), 60) S O _ _ (mkC k y) W7 r7 hcm (fun j hj hs => by have := (hElow j hj).1; have := hSw j hs; omega) hsmall (by show (mkL 0 (xs.take k)).length ≤ 200; omega)
      rw [HADD.out] at A1
      obtain ⟨pq, kq, hpq⟩ := row_slice how
      have hpv : ∃ m, pv = .slice pq m kq := ⟨_, hpq⟩
      obtain ⟨m, rfl⟩ := hpv
      have z0 : W7.cell? ⟨wr.heap.size + 1, 0, none⟩ = some (.slice pq m kq) := by simp [World.cell?, hbx]
      have z1 : W7.cell? ⟨wr.heap.size + 1, 1, none⟩ = some (.slice none 0 0) := by simp [World.cell?, hbx]
      have z2 : W7.cell? ⟨wr.heap.size + 1, 2, none⟩ = some (.string nt) := by simp [World.cell?, hbx]
      clear hadd hts hpq how
      gi_wp2_with fail
      refine ⟨trivial, rfl, A1.mono ?_⟩
      rintro e w8 ⟨S8, O8, rfl, r8, c8, gS8, gO8⟩
      have hOS : ∀ j, O j → S j := fun j hj => J.sub r7 j hj
      have q8 := q7.chg c8 (fun j hj ho => (hS j (hOS j ho)).2 hj)
      have hcm8 := hcm.chg c8 (fun j hj ho => by have := (hElow j hj).1; have := hSw j (hOS j ho); omega)
      have hb8 := c8.same hbx (fun ho => by have := hSw _ (hOS _ ho); omega)
      have y0 : w8.cell? ⟨wr.heap.size + 1, 0, none⟩ = some (.slice pq m kq) := by simp [World.cell?, hb8]
      have y1 : w8.cell? ⟨wr.heap.size + 1, 1, none⟩ = some (.slice none 0 0) := by simp [World.cell?, hb8]
      have y2 : w8.cell? ⟨wr.heap.size + 1, 2, none⟩ = some (.string nt) := by simp [World.cell?, hb8]
      have hs78 := c8.size
      have hs57 := cb.size
      have A2 := addG_in _ _ Bw (mkL 0 (xs.take k), 60) lv rows _ (mkC k y) w8 q8 hcm8 (fun j hj hs => by have := (hElow j hj).1; have := q.ltO j hs; omega) (by show (mkL 0 (xs.take k)).length ≤ 200; omega) (fun x hx => by
        obtain ⟨i, hi⟩ := List.mem_iff_getElem?.1 hx
        cases hx2 : (xs.take k)[i]? with
        | none =>
          have : (mkL 0 (xs.take k))[i]? = none := by rw [List.getElem?_eq_none_iff] at hx2 ⊢; rw [mkL_length]; exact hx2
          rw [this] at hi; cases hi
        | some z =>
          rw [mkL_get hx2] at hi
          cases hi
          show 0 ≤ 1000
          omega) hsmall
      rw [HADD.out] at A2
      clear z0 z1 z2 hb8 hbx A1
      gi_wp2_with fail
      refine ⟨trivial, rfl, A2.mono ?_⟩
      rintro e w9 ⟨rfl, lv9, rows9, q9, c9, g9⟩
      have hS8lt := (J.part B _ O8).lt r8
      have r9 := (J.part B _ O8).chg r8 c9 (fun j hj hr => by
        rcases gS8 j hj with h | h
        · exact (hS j h).2 (.inl hr)
        · have := q7.ltO j hr; omega)
      have hS9 : ∀ j, S8 j → w.heap.size ≤ j ∧ ¬ (refS Bw lv9 j ∨ (D j ∨ (Value.ownBlock (.slice pq m kq) = some j ∧ j < w8.heap.size))) := fun j hj => by
        have hj8 := hS8lt j hj
        rcases gS8 j hj with h | h
        · refine ⟨(hS j h).1, fun e => ?_⟩
          have hjw := hSw j h
          rcases e with e | e | e
          · rcases g9 j e with q | q
            · exact (hS j h).2 (.inl q)
            · omega
          · exact (hS j h).2 (.inr e)
          · have := (hElow j e.1).1; omega
        · refine ⟨by have := c.size; omega, fun e => ?_⟩
          rcases e with e | e | e
          · rcases g9 j e with q | q
            · have := q7.ltO j q; omega
            · omega
          · have := q7.lt j e; omega
          · have := (hElow j e.1).2; omega
      have hD9 : ∀ j, (refS Bw lv9 j ∨ (D j ∨ (Value.ownBlock (.slice pq m kq) = some j ∧ j < w8.heap.size))) → w.heap.size ≤ j := fun j e => by
        have := c.size
        rcases e with e | e | e
        · rcases g9 j e with q | q
          · exact hD j (.inl q)
          · omega
        · exact hD j (.inr e)
        · have := (hElow j e.1).1; omega
      have c09 : Chg No w w9 := ((Chg.seq c cb).trans c8 (fun j hj => .inr (hS j (hOS j hj)).1)).trans c9 (fun j hj => .inr (hD j (.inl hj)))
      gi_wp2
      refine ⟨⟨k + 1, S8, O8, _, lv9, rows9, hlt, by go_num, r9, q9, hS9, hD9, c09⟩, by simp [intOf]; omega⟩
    · obtain rfl : k = n := by omega
      have hlt' : ¬ (k : Int) < (k : Int) := by omega
      have htk : xs.take k = xs := List.take_of_length_le (by rw [HXL.out]; exact Nat.le_refl _)
      rw [htk] at r q
      have hlen : (mkL 0 xs).length = k := by rw [mkL_length, HXL.out]
      have hLen : ∀ d : After wr, CallsIn Fence.wide 0 Tryd.prog 19 #[ptr B] d.val fun e w' => e = .returned (iv (k : Nat)) ∧ Chg No d.val w' := fun d => by
        have := J.len B (mkL 0 xs, 60) S O d.val ((J.part B _ O).chg r d.chg (fun _ _ h => h)) (by show (mkL 0 xs).length ≤ 200; omega)
        rw [hlen] at this
        exact this
      obtain ⟨t0, _, _, _⟩ := q.cells
      obtain ⟨pv, kv, hlv⟩ := q.slice
      have hlv' : lv = .slice pv k kv := by rw [hlv]; show Value.slice pv (mkL 0 xs).length kv = _; rw [hlen]
      have hany := After.any wr
      have f0 : ∀ d : After wr, d.val.cell? ⟨Bw, 0, none⟩ = some (.slice pv k kv) := fun d => d.cell (by rw [← hlv']; exact t0)
      clear hlv t0
      gi_wp2
      refine region_quietC hmix (by kernel_rfl) ?_
      repeat (gi_big_quiet_step (fail))
      refine wpQuietIn_want (fun _ _ _ _ => trivial) rfl ?_
      intro KQ hKQ
      gi_big_quiet_op
      gi_big_quiet_call (exact ⟨rfl, (hLen _).mono (by rintro e w'' ⟨rfl, c'⟩; exact ⟨rfl, After.more _ c'⟩)⟩)
      repeat (gi_big_quiet_step (fail))
      refine wpQuietIn_nil ?_
      rintro w' ⟨d, rfl⟩
      have hr := (J.part B _ O).chg r d.chg (fun _ _ h => h)
      have hq := q.vw.no d.chg
      have cd := Chg.seq c d.chg
      clear f0 hLen hany
      generalize d.val = W9 at *
      gi_wp2
      go_ret2
      exact ⟨B, Bw, S, O, lv, rows, rfl, hr, hq, fun j hj => (hS j hj).1, cd⟩

end Go.Proofs.YtmpgeacfnikbpaaDoor
