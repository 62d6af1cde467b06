/-
  BaseLine, walked.
-/
import Derived.Test.YtmpgeacfnikbpaaDoorZAwake
import Derived.Test.YtmpgeacfnikbpaaDoorRLine
import Derived.Test.YtmpgeacfnikbpaaDoorAppI
namespace Go.DagLib
open Go.RepoLib
theorem lnX_lt {T l r x : Nat} (hx : x ∈ lnX T l r) : x ≤ T + l + r := by
  unfold lnX at hx
  rw [List.mem_append, List.mem_append, List.mem_range, List.mem_map, List.mem_map] at hx
  rcases hx with (h | ⟨k, h, rfl⟩) | ⟨k, h, rfl⟩
  · omega
  · rw [List.mem_range] at h; omega
  · rw [List.mem_range] at h
    split <;> omega
theorem lnX_one (i : Nat) : List.range (i + 1) = List.range i ++ [i] := List.range_succ
theorem lnX_left (T i : Nat) : lnX T (i + 1) 0 = lnX T i 0 ++ [T + i] := by
  unfold lnX
  rw [List.range_succ, List.map_append]
  simp
theorem lnX_right (T l i : Nat) : lnX T l (i + 1) = lnX T l i ++ [if i = 0 then T else T + l + i] := by
  unfold lnX
  rw [List.range_succ (n := i), List.map_append, ← List.append_assoc]
  rfl
end Go.DagLib
namespace Go.Proofs.YtmpgeacfnikbpaaDoor
open Go.RowKit Go.Shelf Go.SeqLib Go.DiffLib Go.TreeLib Go.RepoLib Go.DagLib Go.BigFrame
attribute [local go_sem] Oper.semAt_some

/-- Small numbers as whole ones. -/
def ci (l : List Nat) : List Int := l.map (fun (k : Nat) => (k : Int))
theorem ci_snoc (l : List Nat) (x : Nat) : ci (l ++ [x]) = ci l ++ [(x : Int)] := by unfold ci; rw [List.map_append]; rfl
theorem ci_u {l : List Nat} (h : ∀ x ∈ l, x < 1000000) : (ci l).map uN = l := by
  unfold ci
  rw [List.map_map]
  conv => rhs; rw [← List.map_id l]
  refine List.map_congr_left (fun x hx => ?_)
  show uN (x : Int) = x
  unfold uN
  rw [u64_same _ (by omega) (by have := h x hx; omega)]
  exact Int.toNat_natCast x

/-- Ahead of an append of one number to a row that is owned. -/
theorem app_prep {w0 w : World} {q : Option Addr} {ln k : Nat} {out : List Int} (x : Int) (c : Chg No w0 w) (h : w.ownsRow w0.heap.size 3 1 (.slice q ln k) ln (out.map iv)) :
    SlV (w.alloc (.cells #[.int .i64 x] 3)) (.slice (some ⟨w.heap.size, 0, none⟩) 1 1) ([x].map iv) ∧ (w.alloc (.cells #[.int .i64 x] 3)).ownsRow w0.heap.size 3 1 (.slice q ln k) ln (out.map iv) ∧ w0.heap.size ≤ (w.alloc (.cells #[.int .i64 x] 3)).heap.size ∧ ∀ W5 : World, (w.alloc (.cells #[.int .i64 x] 3)).grownBy W5 (Value.slice q ln k).ownBlock → Chg No w0 W5 := by
  have oA := World.ownsRow.alloc h (.cells #[.int .i64 x] 3)
  have cA : Chg No w0 (w.alloc (.cells #[.int .i64 x] 3)) := c.alloc _
  exact ⟨SlV.made w [.int .i64 x] 3 (by simp), oA, cA.size, fun W5 hg => cA.grown hg (fun k e => .inr (World.ownsRow.lt oA k e).1)⟩

set_option maxRecDepth 100000 in
set_option maxHeartbeats 1000000 in
theorem bline_law {Rep : Nat → Rp → Blk → Blk → World → Prop} (P : PutSpec Rep) (J : BaseSpec Rep) (tr lf rg a b : Int) (w : World) : CallsIn Fence.wide 0 Tryd.prog 6 #[iv tr, iv lf, iv rg, iv a, iv b] w fun e w' => e = .returned (.bool true) ∧ Chg No w w' := by
  have hmix : Tryd.prog.follows .mixedOrders = true := by kernel_rfl
  have hnil : ∀ (B : Nat) (w : World), (binOp .eql 24 (ptr B) (.pointer none)).run Tryd.prog w = .ok (.bool false) w := fun B w => by simp [go_sem]
  have L1 := fun W => low_in tr 12 (by omega) (by omega) W
  have L2 := fun W => low_in lf 12 (by omega) (by omega) W
  have L3 := fun W => low_in rg 12 (by omega) (by omega) W
  obtain ⟨tl, th⟩ := lowI_range tr 12 (by omega) (by omega)
  obtain ⟨ll, lh⟩ := lowI_range lf 12 (by omega) (by omega)
  obtain ⟨rl, rh⟩ := lowI_range rg 12 (by omega) (by omega)
  generalize lowI tr 12 = t1 at *
  generalize lowI lf 12 = l1 at *
  generalize lowI rg 12 = r1 at *
  obtain ⟨T, hT⟩ : ∃ T : Nat, 1 + t1 = (T : Int) := ⟨(1 + t1).toNat, by omega⟩
  obtain ⟨l, rfl⟩ : ∃ l : Nat, l1 = (l : Int) := ⟨l1.toNat, by omega⟩
  obtain ⟨r, rfl⟩ : ∃ r : Nat, r1 = (r : Int) := ⟨r1.toNat, by omega⟩
  have bT : 1 ≤ T ∧ T ≤ 12 := by omega
  have bl : l ≤ 11 := by omega
  have br : r ≤ 11 := by omega
  refine callsIn_of_wp Tryd.func6 rfl trivial ?_
  simp only [Tryd.ntmps6, List.size_toArray, List.length_cons, List.length_nil, Nat.reduceAdd, Nat.reduceSub, Array.replicate_succ, Array.replicate_zero, List.push_toArray, List.append_toArray, List.nil_append, List.cons_append]
  gi_wp2_with fail
  refine ⟨trivial, rfl, (L1 _).mono ?_⟩
  rintro e w1 ⟨rfl, hw⟩
  subst hw
  gi_wp2_with fail
  refine ⟨trivial, rfl, (L2 _).mono ?_⟩
  rintro e w2 ⟨rfl, hw⟩
  subst hw
  gi_wp2_with fail
  refine ⟨trivial, rfl, (L3 _).mono ?_⟩
  rintro e w3 ⟨rfl, hw⟩
  subst hw
  clear L1 L2 L3
  gi_wp2
  gi_loopw [11, 12] (fun s11 s12 wr => ∃ i : Nat, i ≤ T ∧ s12 = .int .i64 (i : Int) ∧ OwnI wr w3.heap.size s11 (ci (List.range i)) ∧ Chg No w3 wr) (fun _ s12 _ => T - (intOf s12).toNat)
  case atStart => exact ⟨0, Nat.zero_le _, rfl, World.ownsRow_nil _ _ _ _, Chg.refl _ _⟩
  case round =>
    obtain ⟨i, hi, rfl, hown, c⟩ := hrel
    by_cases hlt : i < T
    · have hlt' : (i : Int) < (T : Int) := by omega
      have HN : Hid (ci (List.range (i + 1)) = ci (List.range i) ++ [(i : Int)]) := by show _ = _; rw [List.range_succ, ci_snoc]
      have hln : (ci (List.range i)).length = i := by unfold ci; simp
      generalize ci (List.range i) = out at *
      have HLn : Hid (out.length = i) := hln
      have hown2 := hown
      change World.ownsRow _ _ _ _ _ out.length _ at hown2
      rw [hln] at hown2
      obtain ⟨q5, k5, rfl⟩ := row_slice hown2
      obtain ⟨hsl, oA, hbs, HG⟩ := app_prep (i : Int) c hown2
      have HG5 : Hid _ := HG
      clear hown hown2 hln HG c
      gi_wp2_with (gi_at_builtin; refine wpListIn_append_i _ rfl _ _ rfl w3.heap.size _ _ _ rfl oA (some ⟨wr.heap.size, 0, none⟩) 1 1 [(i : Int)] rfl hsl (by omega) hbs ?_; intro v5 w5 hown5 hgrow5 hat5; have c05 := HG5.out w5 hgrow5)
      refine ⟨⟨i + 1, by omega, by go_num, ?_, c05⟩, by simp [intOf]; omega⟩
      rw [HN.out]
      show World.ownsRow _ _ _ _ _ _ _
      rw [List.map_append, List.length_append, HLn.out]
      exact hown5
    · obtain rfl : T = i := by omega
      have hlt' : ¬ (T : Int) < (T : Int) := by omega
      have h0 : lnX T 0 0 = List.range T := by unfold lnX; simp
      rw [← h0] at hown
      clear h0
      gi_wp2
      gi_loopw [11, 13] (fun s11 s12 wr => ∃ i : Nat, i ≤ l ∧ s12 = .int .i64 (i : Int) ∧ OwnI wr w3.heap.size s11 (ci (lnX T i 0)) ∧ Chg No w3 wr) (fun _ s12 _ => l - (intOf s12).toNat)
      case atStart => exact ⟨0, Nat.zero_le _, rfl, hown, c⟩
      case round =>
        clear hown c
        obtain ⟨i, hi, rfl, hown, c⟩ := hrel
        by_cases hlt : i < l
        · have hlt' : (i : Int) < (l : Int) := by omega
          obtain ⟨e, he⟩ : ∃ e : Nat, (T : Int) + (i : Int) = (e : Int) := ⟨T + i, by omega⟩
          have heN : T + i = e := by omega
          have hb1 : (T : Int) + (i : Int) ≤ 100 := by omega
          have HN : Hid (ci (lnX T (i + 1) 0) = ci (lnX T i 0) ++ [(e : Int)]) := by show _ = _; rw [lnX_left, ci_snoc, heN]
          have hln : (ci (lnX T i 0)).length = e := by unfold ci; rw [List.length_map, lnX_length]; omega
          generalize ci (lnX T i 0) = out at *
          have HLn : Hid (out.length = e) := hln
          have hown2 := hown
          change World.ownsRow _ _ _ _ _ out.length _ at hown2
          rw [hln] at hown2
          obtain ⟨q5, k5, rfl⟩ := row_slice hown2
          obtain ⟨hsl, oA, hbs, HG⟩ := app_prep (e : Int) c hown2
          have HG5 : Hid _ := HG
          clear hown hown2 hln HG c heN
          gi_wp2_with (gi_at_builtin; refine wpListIn_append_i _ rfl _ _ rfl w3.heap.size _ _ _ rfl oA (some ⟨wr.heap.size, 0, none⟩) 1 1 [(e : Int)] rfl hsl (by omega) hbs ?_; intro v5 w5 hown5 hgrow5 hat5; have c05 := HG5.out w5 hgrow5)
          refine ⟨⟨i + 1, by omega, by go_num, ?_, c05⟩, by simp [intOf]; omega⟩
          rw [HN.out]
          show World.ownsRow _ _ _ _ _ _ _
          rw [List.map_append, List.length_append, HLn.out]
          exact hown5
        · obtain rfl : l = i := by omega
          have hlt' : ¬ (l : Int) < (l : Int) := by omega
          gi_wp2
          gi_loopw [11, 14] (fun s11 s12 wr => ∃ i : Nat, i ≤ r ∧ s12 = .int .i64 (i : Int) ∧ OwnI wr w3.heap.size s11 (ci (lnX T l i)) ∧ Chg No w3 wr) (fun _ s12 _ => r - (intOf s12).toNat)
          case atStart => exact ⟨0, Nat.zero_le _, rfl, hown, c⟩
          case round =>
            clear hown c
            obtain ⟨i, hi, rfl, hown, c⟩ := hrel
            by_cases hlt : i < r
            · have hlt' : (i : Int) < (r : Int) := by omega
              obtain ⟨x, hx⟩ : ∃ x : Nat, (if i = 0 then T else T + l + i) = x := ⟨_, rfl⟩
              have hx2 : x ≤ 100 := by rw [← hx]; split <;> omega
              have hs1 : (T : Int) + (l : Int) ≤ 100 := by omega
              have hs2 : (T : Int) + (l : Int) + (i : Int) ≤ 100 := by omega
              have HN : Hid (ci (lnX T l (i + 1)) = ci (lnX T l i) ++ [(x : Int)]) := by show _ = _; rw [lnX_right, ci_snoc, hx]
              obtain ⟨ln, hln⟩ : ∃ ln, (ci (lnX T l i)).length = ln := ⟨_, rfl⟩
              have hln2 : ln ≤ 100 := by rw [← hln]; unfold ci; rw [List.length_map, lnX_length]; omega
              generalize ci (lnX T l i) = out at *
              have HLn : Hid (out.length = ln) := hln
              have hown2 := hown
              change World.ownsRow _ _ _ _ _ out.length _ at hown2
              rw [hln] at hown2
              obtain ⟨q5, k5, rfl⟩ := row_slice hown2
              obtain ⟨hsl, oA, hbs, HG⟩ := app_prep (x : Int) c hown2
              have HG5 : Hid _ := HG
              clear hown hown2 hln HG c
              by_cases h0 : i = 0
              · have h0' : ((i : Int) == 0) = true := by rw [h0]; rfl
                rw [if_pos h0] at hx
                subst hx
                clear h0
                gi_wp2_with (gi_at_builtin; refine wpListIn_append_i _ rfl _ _ rfl w3.heap.size _ _ _ rfl oA (some ⟨wr.heap.size, 0, none⟩) 1 1 [(T : Int)] rfl hsl (by omega) hbs ?_; intro v5 w5 hown5 hgrow5 hat5; have c05 := HG5.out w5 hgrow5)
                refine ⟨⟨i + 1, by omega, by go_num, ?_, c05⟩, by simp [intOf]; omega⟩
                rw [HN.out]
                show World.ownsRow _ _ _ _ _ _ _
                rw [List.map_append, List.length_append, HLn.out]
                exact hown5
              · have h0' : ((i : Int) == 0) = false := by rw [beq_eq_false_iff_ne]; omega
                rw [if_neg h0] at hx
                have hx' : (T : Int) + (l : Int) + (i : Int) = (x : Int) := by omega
                clear h0 hx
                gi_wp2_with (gi_at_builtin; refine wpListIn_append_i _ rfl _ _ rfl w3.heap.size _ _ _ rfl oA (some ⟨wr.heap.size, 0, none⟩) 1 1 [(x : Int)] rfl hsl (by omega) hbs ?_; intro v5 w5 hown5 hgrow5 hat5; have c05 := HG5.out w5 hgrow5)
                refine ⟨⟨i + 1, by omega, by go_num, ?_, c05⟩, by simp [intOf]; omega⟩
                rw [HN.out]
                show World.ownsRow _ _ _ _ _ _ _
                rw [List.map_append, List.length_append, HLn.out]
                exact hown5
            · obtain rfl : r = i := by omega
              have hlt' : ¬ (r : Int) < (r : Int) := by omega
              obtain ⟨N, hN⟩ : ∃ N, T + l + r = N := ⟨_, rfl⟩
              have hln : (ci (lnX T l r)).length = N := by unfold ci; rw [List.length_map, lnX_length]; exact hN
              have hown2 := hown
              change World.ownsRow _ _ _ _ _ (ci (lnX T l r)).length _ at hown2
              rw [hln] at hown2
              have sl := OwnI.sl hown
              obtain ⟨q5, k5, rfl⟩ := row_slice hown2
              have M1 := made_in P q5 N k5 (ci (lnX T l r)) hln (by omega) wr sl
              rw [ci_u (fun x hx => by have := lnX_lt hx; omega)] at M1
              obtain ⟨L, hL⟩ : ∃ L, mkL 0 (lnX T l r) = L := ⟨_, rfl⟩
              have hok : ParOk L := hL ▸ made_ok _
              have hLl : L.length = N := by rw [← hL, mkL_length, lnX_length]; exact hN
              have HF : Hid (∀ a b : Nat, 1 ≤ a ∧ a ≤ N → 1 ≤ b ∧ b ≤ N → bestL L a b = [(wantN T l a b : Int)] ∧ (comL L a b).length = deepN T l (wantN T l a b)) := fun a b ha hb => by
                rw [← hL]
                exact line_facts (r := r) bT.1 (by omega) (by omega) (by omega)
              rw [hL] at M1
              have bN : 1 ≤ N ∧ N ≤ 34 := by omega
              have LA := fun W => low_in a (N : Int) (by omega) (by omega) W
              have LB := fun W => low_in b (N : Int) (by omega) (by omega) W
              obtain ⟨al, ah⟩ := lowI_range a (N : Int) (by omega) (by omega)
              obtain ⟨bl2, bh⟩ := lowI_range b (N : Int) (by omega) (by omega)
              generalize lowI a (N : Int) = a1 at *
              generalize lowI b (N : Int) = b1 at *
              obtain ⟨xa, hxa⟩ : ∃ xa : Nat, 1 + a1 = (xa : Int) := ⟨(1 + a1).toNat, by omega⟩
              obtain ⟨xb, hxb⟩ : ∃ xb : Nat, 1 + b1 = (xb : Int) := ⟨(1 + b1).toNat, by omega⟩
              have ra : 1 ≤ xa ∧ xa ≤ N := by omega
              have rb : 1 ≤ xb ∧ xb ≤ N := by omega
              have h60 : L.length ≤ 60 := by omega
              have hs1 : (T : Int) + (l : Int) ≤ 100 := by omega
              have hs2 : (T : Int) + (l : Int) + (r : Int) = (N : Int) := by omega
              have hnn : ((N : Int) != (N : Int)) = false := by simp
              clear hown hown2 hln sl hL
              gi_wp2_with fail
              refine ⟨trivial, rfl, M1.mono ?_⟩
              rintro e w4 ⟨B, Bw, S, O, lv, rows, rfl, r1, _, hS, k1⟩
              have k4 := Chg.seq c k1
              have Z1 := P.len B _ S O w4 r1 (by show L.length ≤ 200; omega)
              dsimp only at Z1
              rw [hLl] at Z1
              clear M1 c k1
              gi_wp2_with fail
              refine ⟨trivial, rfl, Z1.mono ?_⟩
              rintro e w5 ⟨rfl, c5⟩
              have k5' := Chg.seq k4 c5
              have r5 := P.no r1 c5
              clear Z1 k4 r1 c5
              gi_wp2_with fail
              refine ⟨trivial, rfl, (LA w5).mono ?_⟩
              rintro e w6 ⟨rfl, hw⟩
              subst hw
              gi_wp2_with fail
              refine ⟨trivial, rfl, (LB w6).mono ?_⟩
              rintro e w7 ⟨rfl, hw⟩
              subst hw
              clear LA LB
              obtain ⟨m, hm⟩ : ∃ m, min xa xb = m := ⟨_, rfl⟩
              obtain ⟨M, hM⟩ : ∃ M, max xa xb = M := ⟨_, rfl⟩
              have hmi : min (xa : Int) (xb : Int) = (m : Int) := by omega
              have hMi : max (xa : Int) (xb : Int) = (M : Int) := by omega
              have C7 := J.common B (L, 60) S O xa xb w7 r5 hok h60 (by omega) (by omega) (by omega) (by omega)
              have B7 := fun W hW => J.best B (L, 60) S O xa xb W hW hok h60 (by omega) (by omega) (by omega) (by omega)
              obtain ⟨F1, F2⟩ := HF.out xa xb ra rb
              obtain ⟨Wn, hWn⟩ : ∃ Wn, wantN T l xa xb = Wn := ⟨_, rfl⟩
              have hWd : Wn = if T < m ∧ T + l < M ∧ m ≤ T + l then T else m := by rw [← hWn, ← hm, ← hM]; rfl
              dsimp only at C7 B7
              rw [hWn] at F1 F2
              rw [F1] at B7
              generalize comL L xa xb = C at *
              have HF2 : Hid (C.length = deepN T l Wn) := F2
              clear F1 F2 hWn hm hM HF hok
              by_cases h1 : T < m
              · have i1 : (T : Int) < (m : Int) := by omega
                by_cases h2 : T + l < M
                · have i2 : (T : Int) + (l : Int) < (M : Int) := by omega
                  by_cases h3 : m ≤ T + l
                  · have i3 : (m : Int) ≤ (T : Int) + (l : Int) := by omega
                    rw [if_pos ⟨h1, h2, h3⟩] at hWd
                    subst hWd
                    have i4 : ¬ (Wn : Int) + (l : Int) < (Wn : Int) := by omega
                    have HL : Hid (C.length = Wn) := by show _ = _; rw [HF2.out]; unfold deepN; rw [if_neg (by omega)]
                    have hdd : ((Wn : Int) == (Wn : Int)) = true := by simp
                    clear h1 h2 h3
                    gi_wp2_with fail
                    refine ⟨trivial, rfl, C7.mono ?_⟩
                    rintro e w8 ⟨v8, rfl, o8, c8⟩
                    have k8 := Chg.seq k5' c8
                    have r8 := P.no r5 c8
                    obtain ⟨p8, q8, rfl⟩ := row_slice o8
                    rw [HL.out]
                    have B8 := B7 _ r8
                    clear C7 B7 o8 c8 r5 r8 k5' hxa hxb hmi hMi
                    gi_wp2_with fail
                    refine ⟨trivial, rfl, B8.mono ?_⟩
                    rintro e w9 ⟨v9, rfl, o9, c9⟩
                    have k9 := Chg.seq k8 c9
                    have s1 : SlV (w9.alloc (.cells #[.int .i64 (Wn : Int)] 3)) (.slice (some ⟨w9.heap.size, 0, none⟩) 1 1) (([(Wn : Int)] : List Int).map iv) := SlV.made w9 [.int .i64 (Wn : Int)] 3 (by simp)
                    have c10 : Chg No w9 (w9.alloc (.cells #[.int .i64 (Wn : Int)] 3)) := (Chg.refl _ w9).alloc _
                    have I10 := sameI_in v9 _ [(Wn : Int)] [(Wn : Int)] _ (o9.sl.no c10) s1
                    rw [decide_eq_true rfl] at I10
                    have k10 := Chg.seq k9 c10
                    clear B8 o9 s1 c10 c9 k8 k9
                    gi_wp2_with fail
                    refine ⟨trivial, rfl, I10.mono ?_⟩
                    rintro e w11 ⟨rfl, c11⟩
                    gi_wp2_with fail
                    refine ⟨trivial, rfl, (awakeB_in P J _).mono ?_⟩
                    rintro e w12 ⟨rfl, c12⟩
                    gi_wp2
                    go_ret
                    exact ⟨rfl, Chg.seq k10 (Chg.seq c11 c12)⟩
                  · have i3 : ¬ (m : Int) ≤ (T : Int) + (l : Int) := by omega
                    rw [if_neg (fun h => h3 h.2.2)] at hWd
                    subst hWd
                    obtain ⟨d, hd⟩ : ∃ d, Wn - l = d := ⟨_, rfl⟩
                    have i4 : (T : Int) + (l : Int) < (Wn : Int) := by omega
                    have i5 : (Wn : Int) - (l : Int) = (d : Int) := by omega
                    have i6 : (Wn : Int) ≤ 100 := by omega
                    have HL : Hid (C.length = d) := by show _ = _; rw [HF2.out]; unfold deepN; rw [if_pos (by omega)]; exact hd
                    have hdd : ((d : Int) == (d : Int)) = true := by simp
                    clear h1 h2 h3
                    gi_wp2_with fail
                    refine ⟨trivial, rfl, C7.mono ?_⟩
                    rintro e w8 ⟨v8, rfl, o8, c8⟩
                    have k8 := Chg.seq k5' c8
                    have r8 := P.no r5 c8
                    obtain ⟨p8, q8, rfl⟩ := row_slice o8
                    rw [HL.out]
                    have B8 := B7 _ r8
                    clear C7 B7 o8 c8 r5 r8 k5' hxa hxb hmi hMi
                    gi_wp2_with fail
                    refine ⟨trivial, rfl, B8.mono ?_⟩
                    rintro e w9 ⟨v9, rfl, o9, c9⟩
                    have k9 := Chg.seq k8 c9
                    have s1 : SlV (w9.alloc (.cells #[.int .i64 (Wn : Int)] 3)) (.slice (some ⟨w9.heap.size, 0, none⟩) 1 1) (([(Wn : Int)] : List Int).map iv) := SlV.made w9 [.int .i64 (Wn : Int)] 3 (by simp)
                    have c10 : Chg No w9 (w9.alloc (.cells #[.int .i64 (Wn : Int)] 3)) := (Chg.refl _ w9).alloc _
                    have I10 := sameI_in v9 _ [(Wn : Int)] [(Wn : Int)] _ (o9.sl.no c10) s1
                    rw [decide_eq_true rfl] at I10
                    have k10 := Chg.seq k9 c10
                    clear B8 o9 s1 c10 c9 k8 k9
                    gi_wp2_with fail
                    refine ⟨trivial, rfl, I10.mono ?_⟩
                    rintro e w11 ⟨rfl, c11⟩
                    gi_wp2_with fail
                    refine ⟨trivial, rfl, (awakeB_in P J _).mono ?_⟩
                    rintro e w12 ⟨rfl, c12⟩
                    gi_wp2
                    go_ret
                    exact ⟨rfl, Chg.seq k10 (Chg.seq c11 c12)⟩
                · have i2 : ¬ (T : Int) + (l : Int) < (M : Int) := by omega
                  rw [if_neg (fun h => h2 h.2.1)] at hWd
                  subst hWd
                  have i4 : ¬ (T : Int) + (l : Int) < (Wn : Int) := by omega
                  have HL : Hid (C.length = Wn) := by show _ = _; rw [HF2.out]; unfold deepN; rw [if_neg (by omega)]
                  have hdd : ((Wn : Int) == (Wn : Int)) = true := by simp
                  clear h1 h2
                  gi_wp2_with fail
                  refine ⟨trivial, rfl, C7.mono ?_⟩
                  rintro e w8 ⟨v8, rfl, o8, c8⟩
                  have k8 := Chg.seq k5' c8
                  have r8 := P.no r5 c8
                  obtain ⟨p8, q8, rfl⟩ := row_slice o8
                  rw [HL.out]
                  have B8 := B7 _ r8
                  clear C7 B7 o8 c8 r5 r8 k5' hxa hxb hmi hMi
                  gi_wp2_with fail
                  refine ⟨trivial, rfl, B8.mono ?_⟩
                  rintro e w9 ⟨v9, rfl, o9, c9⟩
                  have k9 := Chg.seq k8 c9
                  have s1 : SlV (w9.alloc (.cells #[.int .i64 (Wn : Int)] 3)) (.slice (some ⟨w9.heap.size, 0, none⟩) 1 1) (([(Wn : Int)] : List Int).map iv) := SlV.made w9 [.int .i64 (Wn : Int)] 3 (by simp)
                  have c10 : Chg No w9 (w9.alloc (.cells #[.int .i64 (Wn : Int)] 3)) := (Chg.refl _ w9).alloc _
                  have I10 := sameI_in v9 _ [(Wn : Int)] [(Wn : Int)] _ (o9.sl.no c10) s1
                  rw [decide_eq_true rfl] at I10
                  have k10 := Chg.seq k9 c10
                  clear B8 o9 s1 c10 c9 k8 k9
                  gi_wp2_with fail
                  refine ⟨trivial, rfl, I10.mono ?_⟩
                  rintro e w11 ⟨rfl, c11⟩
                  gi_wp2_with fail
                  refine ⟨trivial, rfl, (awakeB_in P J _).mono ?_⟩
                  rintro e w12 ⟨rfl, c12⟩
                  gi_wp2
                  go_ret
                  exact ⟨rfl, Chg.seq k10 (Chg.seq c11 c12)⟩
              · have i1 : ¬ (T : Int) < (m : Int) := by omega
                rw [if_neg (fun h => h1 h.1)] at hWd
                subst hWd
                have i4 : ¬ (T : Int) + (l : Int) < (Wn : Int) := by omega
                have HL : Hid (C.length = Wn) := by show _ = _; rw [HF2.out]; unfold deepN; rw [if_neg (by omega)]
                have hdd : ((Wn : Int) == (Wn : Int)) = true := by simp
                clear h1
                gi_wp2_with fail
                refine ⟨trivial, rfl, C7.mono ?_⟩
                rintro e w8 ⟨v8, rfl, o8, c8⟩
                have k8 := Chg.seq k5' c8
                have r8 := P.no r5 c8
                obtain ⟨p8, q8, rfl⟩ := row_slice o8
                rw [HL.out]
                have B8 := B7 _ r8
                clear C7 B7 o8 c8 r5 r8 k5' hxa hxb hmi hMi
                gi_wp2_with fail
                refine ⟨trivial, rfl, B8.mono ?_⟩
                rintro e w9 ⟨v9, rfl, o9, c9⟩
                have k9 := Chg.seq k8 c9
                have s1 : SlV (w9.alloc (.cells #[.int .i64 (Wn : Int)] 3)) (.slice (some ⟨w9.heap.size, 0, none⟩) 1 1) (([(Wn : Int)] : List Int).map iv) := SlV.made w9 [.int .i64 (Wn : Int)] 3 (by simp)
                have c10 : Chg No w9 (w9.alloc (.cells #[.int .i64 (Wn : Int)] 3)) := (Chg.refl _ w9).alloc _
                have I10 := sameI_in v9 _ [(Wn : Int)] [(Wn : Int)] _ (o9.sl.no c10) s1
                rw [decide_eq_true rfl] at I10
                have k10 := Chg.seq k9 c10
                clear B8 o9 s1 c10 c9 k8 k9
                gi_wp2_with fail
                refine ⟨trivial, rfl, I10.mono ?_⟩
                rintro e w11 ⟨rfl, c11⟩
                gi_wp2_with fail
                refine ⟨trivial, rfl, (awakeB_in P J _).mono ?_⟩
                rintro e w12 ⟨rfl, c12⟩
                gi_wp2
                go_ret
                exact ⟨rfl, Chg.seq k10 (Chg.seq c11 c12)⟩

end Go.Proofs.YtmpgeacfnikbpaaDoor
