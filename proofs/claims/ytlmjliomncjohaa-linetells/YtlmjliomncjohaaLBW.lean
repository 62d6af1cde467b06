/-
  LineBack answers true at every text and number, and turns nothing that lay.
-/
import Derived.Test.YtlmjliomncjohaaLineA
import Derived.Test.YtlmjliomncjohaaLow
import Derived.Test.YtlmjliomncjohaaFewW
namespace Go.Proofs.Ytlmjliomncjohaa
open Go.RowKit Go.Shelf Go.SeqLib Go.LineLib
attribute [local go_sem] Oper.semAt_some

theorem linesB_at (s : ByteArray) (i : Nat) (h : i < (linesB s).length) : ∃ l, (linesL (L s))[i]? = some l ∧ (linesB s)[i] = T l := by
  have h' : i < (linesL (L s)).length := by unfold linesB at h; rw [List.length_map] at h; exact h
  refine ⟨(linesL (L s))[i], List.getElem?_eq_getElem h', ?_⟩
  show ((linesL (L s)).map T)[i]'(by rw [List.length_map]; exact h') = _
  rw [List.getElem_map]
theorem linesB_pos (s : ByteArray) (i : Nat) (h : i < (linesB s).length) : 1 ≤ ((linesB s)[i]).size := by
  obtain ⟨l, hl, e⟩ := linesB_at s i h
  rw [e]
  show 1 ≤ l.length
  have := linesL_ne (L s) l (List.mem_of_getElem? hl)
  exact List.length_pos_iff.2 this
theorem linesB_size (s : ByteArray) (i : Nat) (h : i < (linesB s).length) : ((linesB s)[i]).size ≤ s.size := by
  obtain ⟨l, hl, e⟩ := linesB_at s i h
  rw [e]
  show l.length ≤ (L s).length
  have hf := linesL_flat (L s)
  have hm : l ∈ linesL (L s) := List.mem_of_getElem? hl
  have := (List.sublist_flatten_of_mem hm).length_le
  rwa [hf] at this
theorem linesB_inner (s : ByteArray) (i : Nat) (h : i < (linesB s).length) (x : ByteArray) (hx : x = (linesB s)[i]) (k : Nat) (hk : k < x.size) (h10 : x[k].toNat = 10) : ¬ (k + 1 < x.size) := by
  obtain ⟨l, hl, e⟩ := linesB_at s i h
  rw [e] at hx
  subst hx
  intro hlt
  have := linesL_inner (L s) l (List.mem_of_getElem? hl) k hlt
  apply this
  rw [List.getElem?_eq_getElem (show k < l.length from hk)]
  exact congrArg some (UInt8.toNat.inj h10)
theorem linesB_ends (s : ByteArray) (i : Nat) (h : i + 1 < (linesB s).length) (x : ByteArray) (hx : x = (linesB s)[i]'(by omega)) (hk : 0 < x.size) : (x[x.size - 1]'(by omega)).toNat = 10 := by
  obtain ⟨l, hl, e⟩ := linesB_at s i (by omega)
  rw [e] at hx
  subst hx
  have := linesL_ends (L s) i l hl (by unfold linesB at h; rw [List.length_map] at h; exact h)
  have hlen : 0 < l.length := hk
  rw [List.getLast?_eq_getElem?, List.getElem?_eq_getElem (by omega)] at this
  have h2 := Option.some.inj this
  show (l[l.length - 1]).toNat = 10
  rw [h2]; rfl

set_option maxHeartbeats 1000000 in
theorem texts0_in (gs : Nat) (lbs : Array Value) (w : World) :
    CallsIn Fence.wide 0 Try.prog 15 #[.func (.func gs) #[] lbs, .int .i64 0] w fun e w' => e = .returned (.slice none 0 0) ∧ Chg No w w' := by
  have hnil := fun w => run_eql_func_nil Try.underlying32 (.func gs) #[] lbs w
  refine callsIn_of_wp Try.func15 rfl trivial ?_
  simp only [Try.ntmps15, List.size_toArray, List.length_cons, List.length_nil, Nat.reduceAdd, Nat.reduceSub, Array.replicate_succ, Array.replicate_zero, List.push_toArray, List.append_toArray, List.nil_append, List.cons_append]
  gi_wp2
  go_ret
  exact ⟨rfl, ((Chg.refl _ w).alloc _).alloc _⟩

/-- The statements' own Texts, of a sequence that turns nothing. -/
theorem textsV_in {gs : Nat} {lbs : Array Value} {xs : List ByteArray} {D : Blk} (m : Nat) (hm : m ≤ 1000000) (w : World) (hs : PSeqS w gs lbs xs D) :
    CallsIn Fence.wide 0 Try.prog 15 #[.func (.func gs) #[] lbs, .int .i64 (m : Int)] w fun e w' => ∃ v, e = .returned v ∧ SlV w' v ((xs.take m).map Value.string) ∧ Chg No w w' := by
  obtain ⟨I0, it, hi, eg⟩ := hs
  by_cases h0 : m = 0
  · subst h0
    refine (texts0_in gs lbs w).mono ?_
    rintro e w' ⟨rfl, c⟩
    exact ⟨_, rfl, ⟨none, 0, rfl, Nat.le_refl _, Nat.zero_le _, by simp⟩, c⟩
  · refine (texts_in it eg m (by omega) hm w hi (xs.take m) rfl).mono ?_
    rintro e w' ⟨v, rfl, hr, _, c⟩
    exact ⟨v, rfl, SlV.ofRow (by simpa using hr), c⟩

theorem SlV.take {W : World} {p : Option Addr} {n cap : Nat} {vals : List Value} (h : SlV W (.slice p n cap) vals) (k : Nat) (hk : k ≤ n) : SlV W (.slice p k cap) (vals.take k) := by
  obtain ⟨p', cap', e, h1, h2, hc⟩ := h
  cases e
  have hl : (vals.take k).length = k := by rw [List.length_take]; omega
  refine ⟨p, cap, by rw [hl], by omega, h2, fun i x hi => ?_⟩
  rw [List.getElem?_take] at hi
  split at hi
  · exact hc i x hi
  · cases hi

set_option maxRecDepth 100000 in
set_option maxHeartbeats 2000000 in
theorem back_law (s : ByteArray) (ea : Int) (w : World) (hs : s.size ≤ maxLen) : CallsIn Fence.wide 0 Try.prog 4 #[.string s, .int .i64 ea] w fun e w' => e = .returned (.bool true) ∧ Chg No w w' := by
  have hmix : Try.prog.follows .mixedOrders = true := by kernel_rfl
  refine callsIn_of_wp Try.func4 rfl trivial ?_
  simp only [Try.ntmps4, List.size_toArray, List.length_cons, List.length_nil, Nat.reduceAdd, Nat.reduceSub, Array.replicate_succ, Array.replicate_zero, List.push_toArray, List.append_toArray, List.nil_append, List.cons_append]
  unfold maxLen at hs
  by_cases hbig : 500 < s.size
  · have h1' : (500 : Int) < (s.size : Int) := by omega
    gi_wp2_with fail
    refine ⟨trivial, rfl, (awake_in _).mono ?_⟩
    rintro e w1 ⟨rfl, c1⟩
    gi_wp2
    go_ret
    exact ⟨rfl, c1⟩
  · have h1 : s.size ≤ 500 := by omega
    have h1' : ¬ (500 : Int) < (s.size : Int) := by omega
    clear hbig
    gi_wp2_with fail
    refine ⟨trivial, rfl, (split_in s (by omega) _).mono ?_⟩
    rintro e w1 ⟨v1, rfl, r1, c1⟩
    have hl1 : (linesB s).length ≤ 500 := Nat.le_trans (linesB_len s) h1
    obtain ⟨p1, cap1, rfl⟩ := row_slice r1
    have s1 : SlV w1 (.slice p1 (linesB s).length cap1) ((linesB s).map Value.string) := SlV.ofRow (by simpa using r1)
    have hcap : Hid ((linesB s).length ≤ cap1 ∧ (p1 = none → (linesB s).length = 0 ∧ cap1 = 0)) := by
      rcases r1.2 with ⟨h, h0⟩ | ⟨g, cap, cur, h, _, _, h3, _⟩
      · rw [Value.slice.injEq] at h
        obtain ⟨rfl, _, rfl⟩ := h
        exact ⟨by omega, fun _ => ⟨h0, rfl⟩⟩
      · rw [Value.slice.injEq] at h
        obtain ⟨rfl, _, rfl⟩ := h
        exact ⟨h3, fun h => by cases h⟩
    clear r1
    obtain ⟨xs, hxs⟩ : ∃ xs, xs = linesB s := ⟨_, rfl⟩
    have hcat : Hid (catB xs = s) := by rw [hxs]; exact catB_lines s
    have hpos : Hid (∀ i (h : i < xs.length), 1 ≤ xs[i].size) := by subst hxs; exact linesB_pos s
    have hsz : Hid (∀ i (h : i < xs.length), xs[i].size ≤ 500) := by subst hxs; exact fun i h => Nat.le_trans (linesB_size s i h) h1
    have hin : Hid (∀ i (h : i < xs.length) (x : ByteArray) (hx : x = xs[i]) (k : Nat) (hk : k < x.size), x[k].toNat = 10 → ¬ (k + 1 < x.size)) := by subst hxs; exact linesB_inner s
    have hen : Hid (∀ i (h : i + 1 < xs.length) (x : ByteArray) (hx : x = xs[i]'(by omega)) (hk : 0 < x.size), (x[x.size - 1]'(by omega)).toNat = 10) := by subst hxs; exact linesB_ends s
    have hxs' : Hid (linesB s = xs) := hxs.symm
    rw [← hxs] at s1 hl1 hcap ⊢
    clear hxs
    gi_wp2_with fail
    refine ⟨trivial, rfl, (join_in _ _ _ s1 (by rw [hcat.out]; omega) (by omega)).mono ?_⟩
    rintro e w2 ⟨rfl, c2⟩
    rw [hcat.out]
    have s2 := s1.no c2
    have c02 : Chg No w w2 := Chg.seq c1 c2
    obtain ⟨n, hn⟩ : ∃ n, Hid (xs.length = n) := ⟨_, rfl⟩
    rw [hn.out] at s2 hl1 hcap ⊢
    clear s1 c1 c2
    have hss : (s.toList != s.toList) = false := by simp
    gi_wp2
    gi_loopw [6] (fun i wr => ∃ j : Nat, j ≤ n ∧ i = .int .i64 (j : Int) ∧ Chg No w wr ∧ Chg No w2 wr) (fun i _ => n - (intOf i).toNat)
    case atStart => exact ⟨0, Nat.zero_le _, rfl, c02, Chg.refl _ _⟩
    case round =>
      obtain ⟨j, hj, rfl, cw, c2w⟩ := hrel
      by_cases hlt : j < n
      · have hjx : j < xs.length := by rw [hn.out]; exact hlt
        obtain ⟨x, hx⟩ : ∃ x, x = xs[j] := ⟨_, rfl⟩
        obtain ⟨b, off, rfl, hcell⟩ : ∃ b off, p1 = some ⟨b, off, none⟩ ∧ w2.cell? ⟨b, off + j, none⟩ = some (.string x) := by
          obtain ⟨p', cap', e, _, _, hc⟩ := s2
          cases e
          obtain ⟨b, off, e, hcc⟩ := hc j (.string x) (by rw [List.getElem?_map, List.getElem?_eq_getElem hjx, hx]; rfl)
          exact ⟨b, off, e, hcc⟩
        have hat : ∀ {W : World}, Chg No w2 W → W.cell? ⟨b, off + j, none⟩ = some (.string x) := fun {W} c => (World.cell?_of_block (a := ⟨b, off + j, none⟩) (c.block b (World.block_lt_of_cell? w2 _ hcell) (fun h => h))).trans hcell
        have hxp : 1 ≤ x.size := by rw [hx]; exact hpos.out j hjx
        have hxz : x.size ≤ 500 := by rw [hx]; exact hsz.out j hjx
        have hxi : Hid (∀ (k : Nat) (hk : k < x.size), x[k].toNat = 10 → ¬ (k + 1 < x.size)) := hin.out j hjx x hx
        have hxe : Hid (j + 1 < n → (x[x.size - 1]'(by omega)).toNat = 10) := fun h => hen.out j (by rw [hn.out]; exact h) x hx hxp
        clear hx
        gi_wp2
        gi_loopw [7] (fun k wk => ∃ m : Nat, m ≤ x.size ∧ k = .int .i64 (m : Int) ∧ Chg No w wk ∧ Chg No w2 wk) (fun k _ => x.size - (intOf k).toNat)
        case atStart => exact ⟨0, Nat.zero_le _, rfl, cw, c2w⟩
        case round =>
          obtain ⟨m, hm, rfl, ck, c2k⟩ := hrel
          have hw := hat c2k
          by_cases hmx : m < x.size
          · have hmx' : (m : Int) < (x.size : Int) := by omega
            by_cases h10 : (x[m]'hmx).toNat = 10
            · have hlast : ¬ ((m : Int) + 1 < (x.size : Int)) := by have := hxi.out m hmx h10; omega
              gi_wp2
              go_roundw
              case rel => exact ⟨m + 1, hmx, by go_num, ck, c2k⟩
              case measure => simp [intOf]; omega
            · gi_wp2
              go_roundw
              case rel => exact ⟨m + 1, hmx, by go_num, ck, c2k⟩
              case measure => simp [intOf]; omega
          · have hmx' : ¬ (m : Int) < (x.size : Int) := by omega
            have hx0 : ((x.size : Int) == 0) = false := by rw [beq_eq_false_iff_ne]; omega
            gi_wp2
            by_cases hj1 : j + 1 < n
            · have hj1' : decide ((j : Int) + 1 < (n : Int)) = true := decide_eq_true (by omega)
              have hx10 := hxe.out hj1
              have hx11 : (((x[x.size - 1]'(by omega)).toNat : Int) != 10) = false := by rw [hx10]; rfl
              gi_big_quiet_th_o (fail)
              gi_wp2
              go_roundw
              case rel => exact ⟨j + 1, hlt, by go_num, drewNC ck _, drewNC c2k _⟩
              case measure => simp [intOf]; omega
            · have hj1' : decide ((j : Int) + 1 < (n : Int)) = false := decide_eq_false (by omega)
              gi_big_quiet_th_o (fail)
              gi_wp2
              go_roundw
              case rel => exact ⟨j + 1, hlt, by go_num, drewNC ck _, drewNC c2k _⟩
              case measure => simp [intOf]; omega
      · have hlt' : ¬ (j : Int) < (n : Int) := by omega
        gi_wp2_with fail
        refine ⟨trivial, rfl, (low_in ea 50 (by omega) (by omega) _).mono ?_⟩
        rintro e w3 ⟨rfl, rfl⟩
        obtain ⟨hlo1, hlo2⟩ := lowI_range ea 50 (by omega) (by omega)
        generalize lowI ea 50 = em at *
        obtain ⟨m, rfl⟩ := Int.eq_ofNat_of_zero_le hlo1
        have hm50 : m < 50 := by omega
        clear hlo1 hlo2
        gi_wp2_with fail
        refine ⟨trivial, rfl, (lines_seq s (by omega) _).mono ?_⟩
        rintro e w4 ⟨g1, l1, D1, rfl, ps, c4, _⟩
        rw [hxs'.out] at ps
        have s4 := (s2.no c2w).no c4
        have cw4 := Chg.seq cw c4
        gi_wp2_with fail
        refine ⟨trivial, rfl, (textsV_in m (by omega) _ ps).mono ?_⟩
        rintro e w5 ⟨v5, rfl, t5, c5⟩
        have s5 := s4.no c5
        have cw5 := Chg.seq cw4 c5
        obtain ⟨hc1, hc2⟩ := hcap.out
        obtain ⟨p5, cap5, rfl, _⟩ := id t5
        generalize ((xs.take m).map Value.string).length = n5 at *
        clear s2 s4 ps
        cases p1 with
        | none =>
          obtain ⟨rfl, rfl⟩ := hc2 rfl
          have hmin : min (m : Int) 0 = 0 := by omega
          have HX : Hid (xs = []) := List.length_eq_zero_iff.1 hn.out
          gi_wp2_with fail
          refine ⟨trivial, rfl, (sameS_in _ _ (xs.take m) (xs.take m) _ t5 (by rw [HX.out]; simp only [List.take_nil]; rw [HX.out] at s5; exact s5)).mono ?_⟩
          rintro e w6 ⟨rfl, c6⟩
          rw [decide_eq_true rfl]
          gi_wp2_with fail
          refine ⟨trivial, rfl, (awake_in _).mono ?_⟩
          rintro e w7 ⟨rfl, c7⟩
          gi_wp2
          go_ret
          exact ⟨rfl, Chg.seq (Chg.seq cw5 c6) c7⟩
        | some ad =>
          by_cases hmn : m ≤ n
          · have hmn' : (m : Int) ≤ (n : Int) := by omega
            have hmin : min (m : Int) (n : Int) = (m : Int) := by omega
            have hmc : (m : Int) ≤ (cap1 : Int) := by omega
            gi_wp2_with fail
            refine ⟨trivial, rfl, (sameS_in _ _ (xs.take m) (xs.take m) _ t5 (by rw [List.map_take]; exact s5.take m hmn)).mono ?_⟩
            rintro e w6 ⟨rfl, c6⟩
            rw [decide_eq_true rfl]
            gi_wp2_with fail
            refine ⟨trivial, rfl, (awake_in _).mono ?_⟩
            rintro e w7 ⟨rfl, c7⟩
            gi_wp2
            go_ret
            exact ⟨rfl, Chg.seq (Chg.seq cw5 c6) c7⟩
          · have hmin : min (m : Int) (n : Int) = (n : Int) := by omega
            have hmc : (n : Int) ≤ (cap1 : Int) := by omega
            gi_wp2_with fail
            refine ⟨trivial, rfl, (sameS_in _ _ (xs.take m) (xs.take m) _ t5 (by rw [List.take_of_length_le (show xs.length ≤ m by rw [hn.out]; omega)]; exact s5)).mono ?_⟩
            rintro e w6 ⟨rfl, c6⟩
            rw [decide_eq_true rfl]
            gi_wp2_with fail
            refine ⟨trivial, rfl, (awake_in _).mono ?_⟩
            rintro e w7 ⟨rfl, c7⟩
            gi_wp2
            go_ret
            exact ⟨rfl, Chg.seq (Chg.seq cw5 c6) c7⟩

end Go.Proofs.Ytlmjliomncjohaa
