/-
  RepoNumbers answers true at every list of commits, and turns nothing that lay.
-/
import Derived.Test.YtconingjdgmodaaDoorRNum
import Derived.Test.YtconingjdgmodaaDoorLRepo
import Derived.Test.YtconingjdgmodaaDoorAppI
import Derived.Test.YtconingjdgmodaaDoorGLoud
import Derived.Sort.CutIn
import Derived.Sort.QuietThIn
import Derived.Shelf.RegionOpen
namespace Go.Proofs.YtconingjdgmodaaDoor
open Go.RowKit Go.Shelf Go.SeqLib Go.DiffLib Go.TreeLib Go.RepoLib Go.BigFrame
attribute [local go_sem] Oper.semAt_some

theorem SlV.get {W : World} {p : Option Addr} {n cap : Nat} {vals : List Value} (h : SlV W (.slice p n cap) vals) {i : Nat} {x : Value} (hi : vals[i]? = some x) : ∃ b off, p = some ⟨b, off, none⟩ ∧ W.cell? ⟨b, off + i, none⟩ = some x := by
  obtain ⟨p0, c0, e, _, _, hc⟩ := h
  cases e
  exact hc i x hi
theorem OwnI.sl {W : World} {base : Nat} {v : Value} {l : List Int} (h : OwnI W base v l) : SlV W v (l.map iv) := SlV.ofRow (by rw [List.length_map]; exact h)
/-- What a repo and a row of numbers beside it come to when something is appended to the row. -/
theorem beside {Rep : Nat → Rp → Blk → World → Prop} (J : RepoSpec Rep) {B : Nat} {s : Rp} {S : Blk} {w4 w5 : World} {v v' : Value} {o : Obj} (h : Rep B s S w4) (hd : ∀ k, v.ownBlock = some k → ¬ S k)
    (hg : (w4.alloc o).grownBy w5 v.ownBlock) (hat : v'.ownBlock = v.ownBlock ∨ v'.ownBlock = some (w4.alloc o).heap.size) : Rep B s S w5 ∧ ∀ k, v'.ownBlock = some k → ¬ S k := by
  have c : Chg (fun q => v.ownBlock = some q) w4 w5 := ((Chg.refl _ w4).alloc _).grown hg (fun k e => .inl e)
  refine ⟨rep_chg J h c (fun k hk e => hd k e hk), fun k hk hs => ?_⟩
  rcases hat with e | e
  · rw [e] at hk; exact hd k hk hs
  · rw [e] at hk
    cases hk
    have := (J.part B s).lt h _ hs
    rw [World.size_alloc] at this
    omega

set_option maxRecDepth 100000 in
set_option maxHeartbeats 8000000 in
theorem rnum_law {Rep : Nat → Rp → Blk → World → Prop} (J : RepoSpec Rep) (p0 : Option Addr) (n0 k0 : Nat) (rows : List Rw) (cs : List Cm) (w : World) (hv : LowM w.heap.size w (.slice p0 n0 k0) rows cs) (hn0 : cs.length = n0) :
    CallsIn Fence.wide 0 Tryd.prog 4 #[.slice p0 n0 k0] w fun e w' => e = .returned (.bool true) ∧ Chg No w w' := by
  have hmix : Tryd.prog.follows .mixedOrders = true := by kernel_rfl
  have hnil : ∀ (B : Nat) (w : World), (binOp .eql 26 (ptr B) (.pointer none)).run Tryd.prog w = .ok (.bool false) w := fun B w => by
    simp [go_sem]
  have G1 := greatL_in (.slice p0 n0 k0) rows cs 30 w.heap.size w hv
  have HG : Hid (greatL cs 30 = false → cs.length ≤ 30 ∧ ∀ c ∈ cs, SmallC c) := fun h => greatL_false h
  have K9 := fun W => awakeR_in J W
  have HN : Hid (cs.length = n0) := hn0
  generalize greatL cs 30 = g at G1 HG
  refine callsIn_of_wp Tryd.func4 rfl trivial ?_
  simp only [Tryd.ntmps4, List.size_toArray, List.length_cons, List.length_nil, Nat.reduceAdd, Nat.reduceSub, Array.replicate_succ, Array.replicate_zero, List.push_toArray, List.append_toArray, List.nil_append, List.cons_append]
  gi_wp2_with fail
  refine ⟨trivial, rfl, G1.mono ?_⟩
  rintro e w1 ⟨rfl, c1⟩
  cases g with
  | true =>
    gi_wp2_with fail
    refine ⟨trivial, rfl, (K9 _).mono ?_⟩
    rintro e w2 ⟨rfl, c2⟩
    gi_wp2
    go_ret
    exact ⟨rfl, Chg.seq c1 c2⟩
  | false =>
  obtain ⟨hl30, hsm⟩ := HG.out rfl
  have HSm : Hid (∀ c ∈ cs, SmallC c) := hsm
  rw [hn0] at hl30
  clear hn0 hsm HG G1
  have N1 := J.new 40 w1 (by omega) (by omega)
  rw [show newC 40 = stN 40 (cs.take 0) from rfl] at N1
  gi_wp2_with fail
  refine ⟨trivial, rfl, N1.mono ?_⟩
  rintro e w2 ⟨B, S0, rfl, r0, s0, c2⟩
  have c02 := Chg.seq c1 c2
  have s0' : ∀ k, S0 k → w.heap.size ≤ k := fun k h => Nat.le_trans c1.size (s0 k h)
  clear N1 c1 c2 s0
  gi_wp2
  gi_loopw [4, 5] (fun s4 s5 wr => ∃ (k : Nat) (S : Blk), k ≤ n0 ∧ s5 = .int .i64 (k : Int) ∧ Rep B (stN 40 (cs.take k)) S wr ∧ (∀ j, S j → w.heap.size ≤ j) ∧ wr.ownsRow w.heap.size 3 1 s4 k ((numsN 40 cs k).map iv) ∧ Hid (∀ j, s4.ownBlock = some j → ¬ S j) ∧ Chg No w wr) (fun _ s5 _ => n0 - (intOf s5).toNat)
  case atStart => exact ⟨0, S0, Nat.zero_le _, rfl, r0, s0', World.ownsRow_nil _ _ _ _, fun j h => (by cases h), c02⟩
  case round =>
    obtain ⟨k, S, hk, rfl, r, s, hown, HD, c⟩ := hrel
    clear r0 s0' c02
    by_cases hlt : k < n0
    · have hlt' : (k : Int) < (n0 : Int) := by omega
      have hkc : k < cs.length := by rw [HN.out]; exact hlt
      obtain ⟨x, hx⟩ : ∃ x, cs[k]? = some x := ⟨_, List.getElem?_eq_getElem hkc⟩
      have hsx : SmallC x := HSm.out x (List.mem_of_getElem? hx)
      have hvr := hv.no c
      obtain ⟨⟨r1, r2, r3⟩, b1, o1, hrow, rfl, hc1, hc2, hc3, hcm⟩ := hvr.cell hx
      dsimp only at hc1 hc2 hc3 hcm
      have A1 := J.add B (stN 40 (cs.take k)) S _ _ x wr r hcm (fun j hj hs => by have := s j hs; omega) hsx (by have := stN_len 40 cs k; omega)
      have HE := err_of (r := 40) (cs := cs) (j := k) (by omega) x
      have HNum : Hid ((addC (stN 40 (cs.take k)) x).2.2 = 0 → 1 ≤ (addC (stN 40 (cs.take k)) x).2.1 ∧ (addC (stN 40 (cs.take k)) x).1.1[(addC (stN 40 (cs.take k)) x).2.1 - 1]? = some x ∧ ∀ p ∈ x.1, 1 ≤ p ∧ p < ((addC (stN 40 (cs.take k)) x).2.1 : Nat)) := fun h => (stN_good 40 cs k).num h
      have HSame : Hid ((addC (stN 40 (cs.take k)) x).2.2 = 0 → ∀ j y, cs[j]? = some y → j < k → 0 < numN 40 cs j → decide ((numN 40 cs j : Int) = ((addC (stN 40 (cs.take k)) x).2.1 : Nat)) = decide (y = x)) := fun he j y hy hj hn => num_same hy hx hj (by omega) hn he
      have HSt : Hid (stN 40 (cs.take (k + 1)) = (addC (stN 40 (cs.take k)) x).1) := st_at hx
      have HNm : Hid ((numsN 40 cs (k + 1)).map iv = (numsN 40 cs k).map iv ++ [(((addC (stN 40 (cs.take k)) x).2.1 : Nat) : Int)].map iv) := by show _ = _; rw [numsN_succ, num_of hx, List.map_append]
      obtain ⟨q4, k4, rfl⟩ := row_slice hown
      have HLo : ∀ j, Value.ownBlock (.slice q4 k k4) = some j → w.heap.size ≤ j ∧ j < wr.heap.size := fun j e => World.ownsRow.lt hown j e
      have HLow : Hid _ := HLo
      clear HLo
      generalize (addC (stN 40 (cs.take k)) x).1 = st' at A1 HNum HSt
      generalize (addC (stN 40 (cs.take k)) x).2.1 = nn at A1 HE HNum HSame HNm
      generalize (addC (stN 40 (cs.take k)) x).2.2 = ee at A1 HE HNum HSame
      generalize (numsN 40 cs k).map iv = vals at hown HNm
      have HC : Hid (∀ W, Chg No w W → (W.cell? ⟨b1, o1 + k * 3, none⟩ = some r1 ∧ W.cell? ⟨b1, o1 + k * 3 + 1, none⟩ = some r2 ∧ W.cell? ⟨b1, o1 + k * 3 + 2, none⟩ = some (.string r3) ∧ CmD (fun j => j < w.heap.size) W (.agg #[r1, r2, .string r3]) x)) := fun W cW => by
        obtain ⟨r', b', o', hr', e', g1, g2, g3, g4⟩ := (hv.no cW).cell hx
        rw [hrow] at hr'
        cases hr'
        cases e'
        exact ⟨g1, g2, g3, g4⟩
      rcases HE with rfl | ⟨rfl, hee⟩
      · -- it is put in, or was there
        obtain ⟨hn1, _, hpar⟩ := HNum.out rfl
        have HPar : Hid (∀ p ∈ x.1, 1 ≤ p ∧ p < ((nn : Nat) : Int)) := hpar
        clear HNum hpar
        gi_wp2_with fail
        refine ⟨trivial, rfl, A1.mono ?_⟩
        rintro e w4 ⟨S', rfl, r4, c4, g4⟩
        have c04 : Chg No w w4 := c.trans c4 (fun j h => .inr (s j h))
        have s4' : ∀ j, S' j → w.heap.size ≤ j := fun j h => by
          rcases g4 j h with h | h
          · exact s j h
          · exact Nat.le_trans c.size h
        have own4 : w4.ownsRow w.heap.size 3 1 (.slice q4 k k4) k vals := row_kept hown (fun j e => c4.block j (HLow.out j e).2 (HD.out j e))
        have HD4 : Hid (∀ j, Value.ownBlock (.slice q4 k k4) = some j → ¬ S' j) := fun j e hs => by
          rcases g4 j hs with h | h
          · exact HD.out j e h
          · have := (HLow.out j e).2; omega
        have hsl : SlV (w4.alloc (.cells #[.int .i64 (nn : Int)] 3)) (.slice (some ⟨w4.heap.size, 0, none⟩) 1 1) ([(nn : Int)].map iv) := SlV.made w4 [.int .i64 (nn : Int)] 3 (by simp)
        have oA := World.ownsRow.alloc own4 (.cells #[.int .i64 (nn : Int)] 3)
        have ccA : Chg No w (w4.alloc (.cells #[.int .i64 (nn : Int)] 3)) := c04.alloc _
        have hbs := ccA.size
        have HG5 : Hid (∀ (W5 : World) (v' : Value), (w4.alloc (.cells #[.int .i64 (nn : Int)] 3)).grownBy W5 (Value.slice q4 k k4).ownBlock → (v'.ownBlock = (Value.slice q4 k k4).ownBlock ∨ v'.ownBlock = some (w4.alloc (.cells #[.int .i64 (nn : Int)] 3)).heap.size) →
            Rep B st' S' W5 ∧ Hid (∀ j, v'.ownBlock = some j → ¬ S' j) ∧ Chg No w W5) := fun W5 v' hg hat => by
          obtain ⟨e1, e2⟩ := beside J r4 HD4.out hg hat
          exact ⟨e1, e2, ccA.grown hg (fun j e => .inr (HLow.out j e).1)⟩
        have hcx : cs.length ≤ 30 := by rw [HN.out]; exact hl30
        clear A1 r c4 g4 hvr hc1 hc2 hc3 hcm own4 HD HLow hown
        gi_wp2_with (gi_at_builtin; refine wpListIn_append_i _ rfl _ _ rfl w.heap.size _ _ _ rfl oA (some ⟨w4.heap.size, 0, none⟩) 1 1 [(nn : Int)] rfl hsl (by omega) hbs ?_; intro v5 w5 hown5 hgrow5 hat5; obtain ⟨r5, HD5, c05⟩ := HG5.out w5 v5 hgrow5 hat5; obtain ⟨q5, k5, rfl⟩ := row_slice hown5)
        have hv5 := hv.no c05
        obtain ⟨d1, d2, d3, hcm5⟩ := HC.out w5 c05
        obtain ⟨pp, pn, pk, qq, qm, ql, e, h1, _, _, _⟩ := hcm5
        cases e
        obtain rfl : pn = x.1.length := by obtain ⟨_, _, e, _⟩ := h1; cases e; simp
        have hpl : x.1.length ≤ 9223372036854775807 := by have := hsx.1; omega
        obtain ⟨np, hnp⟩ : ∃ np, x.1.length = np := ⟨_, rfl⟩
        have HNP : Hid (x.1.length = np) := hnp
        rw [hnp] at h1 d1 hpl
        clear hnp HC d2 d3
        have own5 : SlV w5 (.slice q5 (k + 1) k5) ((numsN 40 cs (k + 1)).map iv) := SlV.ofRow (by rw [List.length_map, numsN_length, HNm.out]; exact hown5)
        have hnr : Hid (HNm.out = HNm.out) := rfl
        clear hnr
        gi_wp2
        generalize wr = wa at *
        gi_loopw [8] (fun s8 wr2 => ∃ m : Nat, m ≤ np ∧ s8 = .int .i64 (m : Int) ∧ wr2 = w5) (fun s8 _ => np - (intOf s8).toNat)
        case atStart => exact ⟨0, Nat.zero_le _, rfl, rfl⟩
        case round =>
          obtain ⟨m, hm, rfl, rfl⟩ := hrel
          by_cases hml : m < np
          · have hml' : (m : Int) < (np : Int) := by omega
            have hmx : m < x.1.length := by rw [HNP.out]; exact hml
            obtain ⟨pa, hpa⟩ : ∃ pa, x.1[m]? = some pa := ⟨_, List.getElem?_eq_getElem hmx⟩
            obtain ⟨hp1, hp2⟩ := HPar.out pa (List.mem_of_getElem? hpa)
            obtain ⟨bp, op, rfl, hcp⟩ := h1.get (i := m) (x := iv pa) (by rw [List.getElem?_map, hpa]; rfl)
            have hp3 : ¬ (nn : Int) ≤ pa := by omega
            have hp4 : ¬ pa < 1 := by omega
            gi_wp2
            refine ⟨⟨m + 1, hml, by go_num, trivial⟩, by simp [intOf]; omega⟩
          · obtain rfl : m = np := by omega
            have hml' : ¬ (m : Int) < (m : Int) := by omega
            gi_wp2
            generalize wr = wb at *
            gi_loopw [9] (fun s9 wr3 => ∃ j : Nat, j ≤ k ∧ s9 = .int .i64 (j : Int) ∧ Chg No wb wr3) (fun s9 _ => k - (intOf s9).toNat)
            case atStart => exact ⟨0, Nat.zero_le _, rfl, Chg.refl _ _⟩
            case round =>
              obtain ⟨j, hj, rfl, cj⟩ := hrel
              have c0j := Chg.seq c05 cj
              by_cases hjk : j < k
              · have hjk' : (j : Int) < (k : Int) := by omega
                have hjc : j < cs.length := by omega
                obtain ⟨y, hy⟩ : ∃ y, cs[j]? = some y := ⟨_, List.getElem?_eq_getElem hjc⟩
                obtain ⟨⟨y1, y2, y3⟩, b2, o2, hrow2, e2, f1, f2, f3, hcy⟩ := (hv5.no cj).cell hy
                cases e2
                obtain ⟨⟨x1, x2, x3⟩, b3, o3, hrow3, e3, g1, g2, g3, hcx'⟩ := (hv5.no cj).cell hx
                cases e3
                dsimp only at f1 f2 f3 hcy g1 g2 g3 hcx'
                obtain ⟨bn, on, e4, hcn⟩ := (SlV.no own5 cj).get (i := j) (x := iv ((numN 40 cs j : Nat) : Int)) (by rw [List.getElem?_map, numsN_at (show j < k + 1 by omega)]; rfl)
                cases e4
                have hsy : SmallC y := HSm.out y (List.mem_of_getElem? hy)
                have HSj : Hid (0 < numN 40 cs j → decide ((numN 40 cs j : Int) = ((nn : Nat) : Int)) = decide (y = x)) := fun h => HSame.out (by first | exact trivial | rfl) j y hy hjk h
                have hany := After.any wr
                have C1 : ∀ c : After wr, CallsIn Fence.wide 0 Tryd.prog 22 #[.agg #[y1, y2, .string y3], .agg #[x1, x2, .string x3]] c.val fun e w' => e = .returned (.bool (decide (y = x))) ∧ Chg No c.val w' := fun c => sameC_in _ _ y x _ _ (by have := hsy.2.1; omega) _ (hcy.no c.chg) (hcx'.no c.chg)
                have F1 : ∀ c : After wr, c.val.cell? ⟨b1, o1 + j * 3, none⟩ = some y1 := fun c => c.cell f1
                have F2 : ∀ c : After wr, c.val.cell? ⟨b1, o1 + j * 3 + 1, none⟩ = some y2 := fun c => c.cell f2
                have F3 : ∀ c : After wr, c.val.cell? ⟨b1, o1 + j * 3 + 2, none⟩ = some (.string y3) := fun c => c.cell f3
                have E1 : ∀ c : After wr, c.val.cell? ⟨b1, o1 + k * 3, none⟩ = some x1 := fun c => c.cell g1
                have E2 : ∀ c : After wr, c.val.cell? ⟨b1, o1 + k * 3 + 1, none⟩ = some x2 := fun c => c.cell g2
                have E3 : ∀ c : After wr, c.val.cell? ⟨b1, o1 + k * 3 + 2, none⟩ = some (.string x3) := fun c => c.cell g3
                have FN : ∀ c : After wr, c.val.cell? ⟨bn, on + j, none⟩ = some (iv ((numN 40 cs j : Nat) : Int)) := fun c => c.cell hcn
                have hj1 : (j : Int) < ((k + 1 : Nat) : Int) := by omega
                clear f1 f2 f3 g1 g2 g3 hcn hcy hcx'
                generalize numN 40 cs j = nj at FN HSj
                gi_wp2
                by_cases hnj : 0 < nj
                · have hnj' : decide (0 < nj) = true := decide_eq_true hnj
                  have hsame := HSj.out hnj
                  generalize decide (y = x) = z at C1 hsame
                  have hz : ((nj : Int) == (nn : Int)) = z := by rw [← hsame]; rfl
                  clear hsame hnj
                  refine region_quietC hmix (by kernel_rfl) ?_
                  repeat (gi_big_quiet_step (fail))
                  refine wpQuietIn_want (fun _ _ _ _ => trivial) rfl ?_
                  intro KQ hKQ
                  gi_big_quiet_op
                  gi_big_quiet_call (exact ⟨rfl, (C1 _).mono (by rintro e w'' ⟨rfl, c'⟩; exact ⟨rfl, After.more _ c'⟩)⟩)
                  repeat (gi_big_quiet_step (fail))
                  refine wpQuietIn_nil ?_
                  rintro w' ⟨c, rfl⟩
                  have cc := Chg.seq cj c.chg
                  clear F1 F2 F3 E1 E2 E3 FN C1 hany
                  generalize c.val = W4 at *
                  gi_wp2
                  refine ⟨⟨j + 1, hjk, by go_num, cc⟩, by simp [intOf]; omega⟩
                · have hnj' : decide (0 < nj) = false := decide_eq_false hnj
                  clear hnj HSj
                  refine region_quietC hmix (by kernel_rfl) ?_
                  repeat (gi_big_quiet_step (fail))
                  refine wpQuietIn_skip (fun _ _ _ _ => trivial) rfl ?_
                  simp only [Act.put, List.setIfInBounds_toArray, List.set_cons_succ, List.set_cons_zero]
                  repeat (gi_big_quiet_step (fail))
                  refine wpQuietIn_nil ?_
                  rintro w' ⟨c, rfl⟩
                  have cc := Chg.seq cj c.chg
                  clear F1 F2 F3 E1 E2 E3 FN C1 hany
                  generalize c.val = W4 at *
                  gi_wp2
                  refine ⟨⟨j + 1, hjk, by go_num, cc⟩, by simp [intOf]; omega⟩
              · obtain rfl : k = j := by omega
                have hjk' : ¬ (k : Int) < (k : Int) := by omega
                have r6 := rep_no J r5 cj
                have own6 : wr.ownsRow w.heap.size 3 1 (.slice q5 (k + 1) k5) (k + 1) ((numsN 40 cs (k + 1)).map iv) := by
                  rw [HNm.out]
                  exact row_kept hown5 (fun i hi => cj.block i (World.ownsRow.lt hown5 i hi).2 (fun h => h))
                gi_wp2
                refine ⟨⟨k + 1, S', hlt, by go_num, by rw [HSt.out]; exact r6, s4', own6, HD5, c0j⟩, by simp [intOf]; omega⟩
      · -- an error
        clear HSame HNum
        have HNm0 : Hid ((numsN 40 cs (k + 1)).map iv = vals ++ [(0 : Int)].map iv) := HNm.out
        clear HNm
        rcases hee with rfl | rfl
        · gi_wp2_with fail
          refine ⟨trivial, rfl, A1.mono ?_⟩
          rintro e w4 ⟨S', rfl, r4, c4, g4⟩
          have c04 : Chg No w w4 := c.trans c4 (fun j h => .inr (s j h))
          have s4' : ∀ j, S' j → w.heap.size ≤ j := fun j h => by
            rcases g4 j h with h | h
            · exact s j h
            · exact Nat.le_trans c.size h
          have own4 : w4.ownsRow w.heap.size 3 1 (.slice q4 k k4) k vals := row_kept hown (fun j e => c4.block j (HLow.out j e).2 (HD.out j e))
          have HD4 : Hid (∀ j, Value.ownBlock (.slice q4 k k4) = some j → ¬ S' j) := fun j e hs => by
            rcases g4 j hs with h | h
            · exact HD.out j e h
            · have := (HLow.out j e).2; omega
          have hsl : SlV (w4.alloc (.cells #[.int .i64 (0 : Int)] 3)) (.slice (some ⟨w4.heap.size, 0, none⟩) 1 1) ([(0 : Int)].map iv) := SlV.made w4 [.int .i64 (0 : Int)] 3 (by simp)
          have oA := World.ownsRow.alloc own4 (.cells #[.int .i64 (0 : Int)] 3)
          have ccA : Chg No w (w4.alloc (.cells #[.int .i64 (0 : Int)] 3)) := c04.alloc _
          have hbs := ccA.size
          have HG5 : Hid (∀ (W5 : World) (v' : Value), (w4.alloc (.cells #[.int .i64 (0 : Int)] 3)).grownBy W5 (Value.slice q4 k k4).ownBlock → (v'.ownBlock = (Value.slice q4 k k4).ownBlock ∨ v'.ownBlock = some (w4.alloc (.cells #[.int .i64 (0 : Int)] 3)).heap.size) →
              Rep B st' S' W5 ∧ Hid (∀ j, v'.ownBlock = some j → ¬ S' j) ∧ Chg No w W5) := fun W5 v' hg hat => by
            obtain ⟨e1, e2⟩ := beside J r4 HD4.out hg hat
            exact ⟨e1, e2, ccA.grown hg (fun j e => .inr (HLow.out j e).1)⟩
          clear A1 r c4 g4 hvr hc1 hc2 hc3 hcm own4 HD HLow hown
          gi_wp2_with (gi_at_builtin; refine wpListIn_append_i _ rfl _ _ rfl w.heap.size _ _ _ rfl oA (some ⟨w4.heap.size, 0, none⟩) 1 1 [(0 : Int)] rfl hsl (by omega) hbs ?_; intro v5 w5 hown5 hgrow5 hat5; obtain ⟨r5, HD5, c05⟩ := HG5.out w5 v5 hgrow5 hat5; obtain ⟨q5, k5, rfl⟩ := row_slice hown5)
          have own6 : w5.ownsRow w.heap.size 3 1 (.slice q5 (k + 1) k5) (k + 1) ((numsN 40 cs (k + 1)).map iv) := by
            rw [HNm0.out]
            exact hown5
          refine ⟨⟨k + 1, S', hlt, by go_num, by rw [HSt.out]; exact r5, s4', own6, HD5, c05⟩, by simp [intOf]; omega⟩
        · gi_wp2_with fail
          refine ⟨trivial, rfl, A1.mono ?_⟩
          rintro e w4 ⟨S', rfl, r4, c4, g4⟩
          have c04 : Chg No w w4 := c.trans c4 (fun j h => .inr (s j h))
          have s4' : ∀ j, S' j → w.heap.size ≤ j := fun j h => by
            rcases g4 j h with h | h
            · exact s j h
            · exact Nat.le_trans c.size h
          have own4 : w4.ownsRow w.heap.size 3 1 (.slice q4 k k4) k vals := row_kept hown (fun j e => c4.block j (HLow.out j e).2 (HD.out j e))
          have HD4 : Hid (∀ j, Value.ownBlock (.slice q4 k k4) = some j → ¬ S' j) := fun j e hs => by
            rcases g4 j hs with h | h
            · exact HD.out j e h
            · have := (HLow.out j e).2; omega
          have hsl : SlV (w4.alloc (.cells #[.int .i64 (0 : Int)] 3)) (.slice (some ⟨w4.heap.size, 0, none⟩) 1 1) ([(0 : Int)].map iv) := SlV.made w4 [.int .i64 (0 : Int)] 3 (by simp)
          have oA := World.ownsRow.alloc own4 (.cells #[.int .i64 (0 : Int)] 3)
          have ccA : Chg No w (w4.alloc (.cells #[.int .i64 (0 : Int)] 3)) := c04.alloc _
          have hbs := ccA.size
          have HG5 : Hid (∀ (W5 : World) (v' : Value), (w4.alloc (.cells #[.int .i64 (0 : Int)] 3)).grownBy W5 (Value.slice q4 k k4).ownBlock → (v'.ownBlock = (Value.slice q4 k k4).ownBlock ∨ v'.ownBlock = some (w4.alloc (.cells #[.int .i64 (0 : Int)] 3)).heap.size) →
              Rep B st' S' W5 ∧ Hid (∀ j, v'.ownBlock = some j → ¬ S' j) ∧ Chg No w W5) := fun W5 v' hg hat => by
            obtain ⟨e1, e2⟩ := beside J r4 HD4.out hg hat
            exact ⟨e1, e2, ccA.grown hg (fun j e => .inr (HLow.out j e).1)⟩
          clear A1 r c4 g4 hvr hc1 hc2 hc3 hcm own4 HD HLow hown
          gi_wp2_with (gi_at_builtin; refine wpListIn_append_i _ rfl _ _ rfl w.heap.size _ _ _ rfl oA (some ⟨w4.heap.size, 0, none⟩) 1 1 [(0 : Int)] rfl hsl (by omega) hbs ?_; intro v5 w5 hown5 hgrow5 hat5; obtain ⟨r5, HD5, c05⟩ := HG5.out w5 v5 hgrow5 hat5; obtain ⟨q5, k5, rfl⟩ := row_slice hown5)
          have own6 : w5.ownsRow w.heap.size 3 1 (.slice q5 (k + 1) k5) (k + 1) ((numsN 40 cs (k + 1)).map iv) := by
            rw [HNm0.out]
            exact hown5
          refine ⟨⟨k + 1, S', hlt, by go_num, by rw [HSt.out]; exact r5, s4', own6, HD5, c05⟩, by simp [intOf]; omega⟩
    · obtain rfl : k = n0 := by omega
      have hlt' : ¬ (k : Int) < (k : Int) := by omega
      rw [List.take_of_length_le (by rw [HN.out]; exact Nat.le_refl _)] at r
      have hst : (stN 40 cs).1.length ≤ 200 := by
        have := stN_len 40 cs cs.length
        rw [List.take_length, HN.out] at this
        omega
      have L5 := J.len B (stN 40 cs) S wr r hst
      have HAg : Hid (∀ j y, cs[j]? = some y → 0 < numN 40 cs j → addC (stN 40 cs) y = (stN 40 cs, numN 40 cs j, 0) ∧ findC (stN 40 cs).1 y = numN 40 cs j) := fun j y hy hn => num_again hy (by rw [HN.out]; omega) hn
      have HNat : Hid (∀ j, j < k → ((numsN 40 cs k).map iv)[j]? = some (iv ((numN 40 cs j : Nat) : Int))) := fun j hj => by rw [List.getElem?_map, numsN_at hj]; rfl
      have HLn : Hid (((numsN 40 cs k).map iv).length = k) := by show _ = _; rw [List.length_map, numsN_length]
      generalize stN 40 cs = st at r L5 HAg hst
      generalize (numsN 40 cs k).map iv = vals at hown HNat HLn
      obtain ⟨q4, k4, rfl⟩ := row_slice hown
      clear hlt hk
      gi_wp2_with fail
      refine ⟨trivial, rfl, L5.mono ?_⟩
      rintro e w5 ⟨rfl, c5⟩
      have r5 := rep_no J r c5
      have own5 : w5.ownsRow w.heap.size 3 1 (.slice q4 k k4) k vals := row_kept hown (fun i hi => c5.block i (World.ownsRow.lt hown i hi).2 (fun h => h))
      have c05 := Chg.seq c c5
      clear L5 r hown c c5
      generalize wr = wa at *
      gi_wp2
      gi_loopw [11] (fun s11 wr4 => ∃ (i : Nat) (S2 : Blk), i ≤ k ∧ s11 = .int .i64 (i : Int) ∧ Rep B st S2 wr4 ∧ (∀ j, S2 j → w.heap.size ≤ j) ∧ Hid (∀ j, Value.ownBlock (.slice q4 k k4) = some j → ¬ S2 j) ∧ wr4.ownsRow w.heap.size 3 1 (.slice q4 k k4) k vals ∧ Chg No w wr4) (fun s11 _ => k - (intOf s11).toNat)
      case atStart => exact ⟨0, S, Nat.zero_le _, rfl, r5, s, HD, own5, c05⟩
      case round =>
        obtain ⟨i, S2, hi, rfl, r2, s2, HD2, own2, c2⟩ := hrel
        clear r5 own5 c05 s HD
        by_cases hik : i < k
        · have hik' : (i : Int) < (k : Int) := by omega
          obtain ⟨y, hy⟩ : ∃ y, cs[i]? = some y := ⟨_, List.getElem?_eq_getElem (by rw [HN.out]; exact hik)⟩
          have hsy : SmallC y := HSm.out y (List.mem_of_getElem? hy)
          obtain ⟨⟨y1, y2, y3⟩, b2, o2, hrow2, rfl, f1, f2, f3, hcy⟩ := (hv.no c2).cell hy
          dsimp only at f1 f2 f3 hcy
          have HC : Hid (∀ W, Chg No w W → (W.cell? ⟨b2, o2 + i * 3, none⟩ = some y1 ∧ W.cell? ⟨b2, o2 + i * 3 + 1, none⟩ = some y2 ∧ W.cell? ⟨b2, o2 + i * 3 + 2, none⟩ = some (.string y3) ∧ CmD (fun j => j < w.heap.size) W (.agg #[y1, y2, .string y3]) y)) := fun W cW => by
            obtain ⟨r', b', o', hr', e', g1, g2, g3, g4⟩ := (hv.no cW).cell hy
            rw [hrow2] at hr'
            cases hr'
            cases e'
            exact ⟨g1, g2, g3, g4⟩
          have hsl : SlV wr (.slice q4 k k4) vals := SlV.ofRow (by rw [HLn.out]; exact own2)
          obtain ⟨bn, on, rfl, hcn⟩ := hsl.get (HNat.out i hik)
          have HAi : Hid (0 < numN 40 cs i → addC st y = (st, numN 40 cs i, 0) ∧ findC st.1 y = numN 40 cs i) := fun h => HAg.out i y hy h
          have HCn : Hid (∀ W : World, W.ownsRow w.heap.size 3 1 (.slice (some ⟨bn, on, none⟩) k k4) k vals → W.cell? ⟨bn, on + i, none⟩ = some (iv ((numN 40 cs i : Nat) : Int))) := fun W hW => by
            have hslW : SlV W (.slice (some ⟨bn, on, none⟩) k k4) vals := SlV.ofRow (by rw [HLn.out]; exact hW)
            obtain ⟨_, _, e', h'⟩ := hslW.get (HNat.out i hik)
            cases e'
            exact h'
          have A1 := J.add B st S2 _ _ y wr r2 hcy (fun j hj hs => by have := s2 j hs; omega) hsy hst
          have F1 := fun (W : World) (S3 : Blk) (hW : Rep B st S3 W) (hC : CmD (fun j => j < w.heap.size) W (.agg #[y1, y2, .string y3]) y) => J.find B st S3 _ _ y W hW hC hsy hst
          generalize numN 40 cs i = nj at hcn HAi HCn
          by_cases hnj : 0 < nj
          · have hnj' : (0 : Int) < (nj : Int) := by omega
            obtain ⟨e1, e2⟩ := HAi.out hnj
            rw [e1] at A1
            rw [e2] at F1
            clear e1 e2 HAi hnj
            gi_wp2_with fail
            refine ⟨trivial, rfl, A1.mono ?_⟩
            rintro e w6 ⟨S3, rfl, r6, c6, g6⟩
            have c06 : Chg No w w6 := c2.trans c6 (fun j h => .inr (s2 j h))
            have s6 : ∀ j, S3 j → w.heap.size ≤ j := fun j h => by
              rcases g6 j h with h | h
              · exact s2 j h
              · exact Nat.le_trans c2.size h
            have own6 : w6.ownsRow w.heap.size 3 1 (.slice (some ⟨bn, on, none⟩) k k4) k vals := row_kept own2 (fun i hi => c6.block i (World.ownsRow.lt own2 i hi).2 (HD2.out i hi))
            have HD6 : Hid (∀ j, Value.ownBlock (.slice (some ⟨bn, on, none⟩) k k4) = some j → ¬ S3 j) := fun j e hs => by
              rcases g6 j hs with h | h
              · exact HD2.out j e h
              · have := (World.ownsRow.lt own2 j e).2; omega
            have hcn6 := HCn.out w6 own6
            obtain ⟨k1, k2, k3, hcy6⟩ := HC.out w6 c06
            have F2 := F1 w6 S3 r6 hcy6
            clear A1 F1 r2 own2 HD2 f1 f2 f3 hcy c6 g6 hcn hsl hcy6 HC
            gi_wp2_with fail
            refine ⟨trivial, rfl, F2.mono ?_⟩
            rintro e w7 ⟨rfl, c7⟩
            have r7 := rep_no J r6 c7
            have own7 : w7.ownsRow w.heap.size 3 1 (.slice (some ⟨bn, on, none⟩) k k4) k vals := row_kept own6 (fun i hi => c7.block i (World.ownsRow.lt own6 i hi).2 (fun h => h))
            have c07 := Chg.seq c06 c7
            clear F2 r6 own6
            gi_wp2
            refine ⟨⟨i + 1, S3, hik, by go_num, r7, s6, HD6, own7, c07⟩, by simp [intOf]; omega⟩
          · have hnj' : ¬ (0 : Int) < (nj : Int) := by omega
            gi_wp2
            refine ⟨⟨i + 1, S2, hik, by go_num, r2, s2, HD2, own2, c2⟩, by simp [intOf]; omega⟩
        · obtain rfl : i = k := by omega
          have hik' : ¬ (i : Int) < (i : Int) := by omega
          have L8 := J.len B st S2 wr r2 hst
          clear own2 HD2
          gi_wp2_with fail
          refine ⟨trivial, rfl, L8.mono ?_⟩
          rintro e w8 ⟨rfl, c8⟩
          gi_wp2_with fail
          refine ⟨trivial, rfl, (K9 _).mono ?_⟩
          rintro e w9 ⟨rfl, c9⟩
          gi_wp2
          go_ret
          exact ⟨rfl, Chg.seq c2 (Chg.seq c8 c9)⟩

end Go.Proofs.YtconingjdgmodaaDoor
