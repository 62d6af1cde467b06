/-
  DiffLeast answers true at every two lists of texts and every number, and turns nothing that lay.
-/
import Derived.Test.YtafaihbfhcpjiaaDAwake
import Derived.Test.YtafaihbfhcpjiaaTxtL
import Derived.Sort.CutIn
namespace Go.Proofs.Ytafaihbfhcpjiaa
open Go.RowKit Go.Shelf Go.SeqLib Go.DiffLib Go.BigFrame
attribute [local go_sem] Oper.semAt_some

/-- What is taken of both: as many as t, of the first i of a and the first j of b. -/
def Taken (a b : List ByteArray) (i j t : Nat) : Prop := ∃ l : List ByteArray, l.Sublist (a.take i) ∧ l.Sublist (b.take j) ∧ l.length = t
theorem Taken.start (a b : List ByteArray) : Taken a b 0 0 0 := ⟨[], by simp, by simp, rfl⟩
theorem Taken.pass {a b : List ByteArray} {i j t : Nat} (h : Taken a b i j t) : Taken a b (i + 1) j t := by
  obtain ⟨l, h1, h2, h3⟩ := h
  exact ⟨l, h1.trans (List.take_sublist_take_left (by omega)), h2, h3⟩
theorem Taken.more {a b : List ByteArray} {i j t : Nat} (h : Taken a b i j t) (k : Nat) (hj : j ≤ k) (hi : i < a.length) (hk : k < b.length) (e : b[k] = a[i]) : Taken a b (i + 1) (k + 1) (t + 1) := by
  obtain ⟨l, h1, h2, h3⟩ := h
  refine ⟨l ++ [a[i]], ?_, ?_, by simp [h3]⟩
  · rw [List.take_succ_eq_append_getElem hi]
    exact h1.append (List.Sublist.refl _)
  · rw [List.take_succ_eq_append_getElem hk, e]
    exact (h2.trans (List.take_sublist_take_left hj)).append (List.Sublist.refl _)
theorem Taken.le {a b : List ByteArray} {i j t : Nat} (h : Taken a b i j t) : t ≤ tl a b := by
  obtain ⟨l, h1, h2, h3⟩ := h
  rw [← h3]
  exact tl_sub a b l (h1.trans (List.take_sublist _ _)) (h2.trans (List.take_sublist _ _))

set_option maxRecDepth 100000 in
set_option maxHeartbeats 4000000 in
theorem least_law (p : Option Addr) (la ca : Nat) (a : List ByteArray) (q : Option Addr) (lb cb : Nat) (b : List ByteArray) (bits : Int) (w : World) (hv : SlV w (.slice p la ca) (a.map Value.string)) (hla : a.length = la) (hu : SlV w (.slice q lb cb) (b.map Value.string)) (hlb : b.length = lb) :
    CallsIn Fence.wide 0 Try.prog 5 #[.slice p la ca, .slice q lb cb, .int .i64 bits] w fun e w' => e = .returned (.bool true) ∧ Chg No w w' := by
  have hmix : Try.prog.follows .mixedOrders = true := by kernel_rfl
  obtain ⟨i0, hi0, hz0, hz1, hz2⟩ := info_parts info9
  have HA : Hid (a.length = la) := hla
  have HB : Hid (b.length = lb) := hlb
  clear hla hlb
  refine callsIn_of_wp Try.func5 rfl trivial ?_
  simp only [Try.ntmps5, List.size_toArray, List.length_cons, List.length_nil, Nat.reduceAdd, Nat.reduceSub, Array.replicate_succ, Array.replicate_zero, List.push_toArray, List.append_toArray, List.nil_append, List.cons_append]
  gi_wp2_with fail
  refine ⟨trivial, rfl, (great_in _ a 30 20 _ hv).mono ?_⟩
  rintro e w0 ⟨rfl, rfl⟩
  obtain ⟨g, hg⟩ : ∃ g, greatB a 30 20 = g := ⟨_, rfl⟩
  rw [hg]
  cases g
  · have hn1 := (greatB_false hg).1
    rw [HA.out] at hn1
    clear hg
    gi_wp2_with fail
    refine ⟨trivial, rfl, (great_in _ b 30 20 _ hu).mono ?_⟩
    rintro e w0' ⟨rfl, rfl⟩
    obtain ⟨g, hg⟩ : ∃ g, greatB b 30 20 = g := ⟨_, rfl⟩
    rw [hg]
    cases g
    · have hn2 := (greatB_false hg).1
      rw [HB.out] at hn2
      clear hg
      gi_wp2_with fail
      refine ⟨trivial, rfl, (length_in _ _ a b _ hv hu (by rw [HA.out]; omega) (by rw [HB.out]; omega)).mono ?_⟩
      rintro e w1 ⟨rfl, c1⟩
      obtain ⟨n, HN⟩ : ∃ n, Hid (tl a b = n) := ⟨_, rfl⟩
      have hnn : n ≤ la ∧ n ≤ lb := by rw [← HN.out, ← HA.out, ← HB.out]; exact tl_le a b
      rw [HN.out]
      have hv1 := hv.no c1
      have hu1 := hu.no c1
      gi_wp2
      gi_loopw [8, 9, 10, 11] (fun vj vt vi _vk wr => ∃ i j t : Nat, i ≤ la ∧ j ≤ lb ∧ t ≤ i ∧ vi = .int .i64 (i : Int) ∧ vj = .int .i64 (j : Int) ∧ vt = .int .i64 (t : Int) ∧ Hid (Taken a b i j t) ∧ Chg No w1 wr) (fun vj vt vi _vk _ => la - (intOf vi).toNat)
      case atStart => exact ⟨0, 0, 0, Nat.zero_le _, Nat.zero_le _, Nat.zero_le _, rfl, rfl, rfl, Taken.start a b, Chg.refl _ _⟩
      case round =>
        obtain ⟨i, j, t, hi, hj, hti, rfl, rfl, rfl, HT, cw⟩ := hrel
        by_cases hlt : i < la
        · have hlt' : (i : Int) < (la : Int) := by omega
          have hia : i < a.length := by rw [HA.out]; exact hlt
          obtain ⟨x, hx⟩ : ∃ x, a[i] = x := ⟨_, rfl⟩
          obtain ⟨ba, oa, rfl, hca⟩ : ∃ ba oa, p = some ⟨ba, oa, none⟩ ∧ ∀ {W : World}, Chg No w1 W → W.cell? ⟨ba, oa + i, none⟩ = some (.string x) := by
            obtain ⟨p', cap', e, _, _, hc⟩ := id hv1
            cases e
            obtain ⟨b9, o9, rfl, h9⟩ := hc i (.string x) (by rw [List.getElem?_map, List.getElem?_eq_getElem hia, hx]; rfl)
            exact ⟨b9, o9, rfl, fun {W} c => (World.cell?_of_block (a := ⟨b9, o9 + i, none⟩) (c.block b9 (World.block_lt_of_cell? w1 _ h9) (fun h => h))).trans h9⟩
          gi_wp2
          gi_loopw [11] (fun vk wk => ∃ k : Nat, j ≤ k ∧ k ≤ lb ∧ vk = .int .i64 (k : Int) ∧ Chg No w1 wk) (fun vk _ => lb - (intOf vk).toNat)
          case atStart => exact ⟨j, Nat.le_refl _, hj, rfl, cw⟩
          case round =>
            obtain ⟨k, hjk, hk, rfl, ck⟩ := hrel
            have hcx := hca ck
            by_cases hkb : k < lb
            · have hkb' : decide ((k : Int) < (lb : Int)) = true := decide_eq_true (by omega)
              have hkl : k < b.length := by rw [HB.out]; exact hkb
              obtain ⟨y, hy⟩ : ∃ y, b[k] = y := ⟨_, rfl⟩
              obtain ⟨bb, ob, rfl, hcb⟩ : ∃ bb ob, q = some ⟨bb, ob, none⟩ ∧ wr.cell? ⟨bb, ob + k, none⟩ = some (.string y) := by
                obtain ⟨p', cap', e, _, _, hc⟩ := hu1.no ck
                cases e
                exact hc k (.string y) (by rw [List.getElem?_map, List.getElem?_eq_getElem hkl, hy]; rfl)
              by_cases hxy : y = x
              · have hne : (y.toList == x.toList) = true := by rw [hxy]; simp
                have HM : Hid (Taken a b (i + 1) (k + 1) (t + 1)) := HT.out.more k hjk hia hkl (by rw [hx, hy, hxy])
                have HP : Hid (Taken a b (i + 1) j t) := HT.out.pass
                clear hxy hx hy hkl hia
                gi_wp2
                refine wpIn_region_quiet_lit rfl hmix (by kernel_rfl) ?_
                repeat (gi_big_quiet_step (fail))
                refine wpQuietIn_nil ?_
                rintro w' ⟨j1, rfl⟩
                have hkb2 : (k : Int) < (lb : Int) := by omega
                gi_wp2
                · go_roundw
                  case rel => exact ⟨i + 1, k + 1, t + 1, hlt, hkb, by omega, by go_num, by go_num, by go_num, HM, drewNC ck _⟩
                  case measure => simp [intOf]; omega
                · go_roundw
                  case rel => exact ⟨i + 1, j, t, hlt, hj, by omega, by go_num, rfl, rfl, HP, drewNC ck _⟩
                  case measure => simp [intOf]; omega
              · have hne : (y.toList == x.toList) = false := by rw [beq_eq_false_iff_ne]; exact fun h => hxy (text_ext h)
                clear hxy hx hy hkl hia
                gi_wp2
                refine wpIn_region_quiet_lit rfl hmix (by kernel_rfl) ?_
                repeat (gi_big_quiet_step (fail))
                refine wpQuietIn_nil ?_
                rintro w' ⟨j1, rfl⟩
                gi_wp2
                go_roundw
                case rel => exact ⟨k + 1, by omega, hkb, by go_num, drewNC ck _⟩
                case measure => simp [intOf]; omega
            · have hkb' : decide ((k : Int) < (lb : Int)) = false := decide_eq_false (by omega)
              have HP : Hid (Taken a b (i + 1) j t) := HT.out.pass
              clear hx hia
              gi_wp2
              refine wpIn_region_quiet_lit rfl hmix (by kernel_rfl) ?_
              repeat (gi_big_quiet_step (fail))
              refine wpQuietIn_nil ?_
              rintro w' ⟨j1, rfl⟩
              have hkb2 : ¬ (k : Int) < (lb : Int) := by omega
              gi_wp2
              go_roundw
              case rel => exact ⟨i + 1, j, t, hlt, hj, by omega, by go_num, rfl, rfl, HP, drewNC ck _⟩
              case measure => simp [intOf]; omega
        · obtain rfl : i = la := by omega
          have hlt' : ¬ (i : Int) < (i : Int) := by omega
          obtain ⟨wr2, hwr2⟩ : ∃ W, wr = W := ⟨_, rfl⟩
          rw [hwr2] at cw ⊢
          have htn : t ≤ n := by rw [← HN.out]; exact HT.out.le
          have hv2 := hv1.no cw
          have hu2 := hu1.no cw
          have c2 := Chg.seq c1 cw
          clear hv1 hu1 cw HT hj hti hv hu
          have HLE : Hid (∀ h, h ≤ i → a.take h = b.take h → h ≤ n) := by
            intro h hh e
            rw [← HN.out]
            have := tl_sub a b (a.take h) (List.take_sublist _ _) (by rw [e]; exact List.take_sublist _ _)
            rw [List.length_take, HA.out] at this
            omega
          gi_upto_region 14 with (fail)
          rename_i K1 h1 K0 h0
          have HK0 := (show Hid _ from h0)
          clear h0
          gi_wp2
          refine HK0.out _ _ ?_
          clear HK0
          refine wpIn_seq_k (fun KC hKC => ?_)
          gi_cut [12] from 200 (fun vh w' => ∃ h : Nat, h ≤ n ∧ vh = .int .i64 (h : Int) ∧ Chg No wr2 w')
          case first =>
            rename_i JJ KK hJJ hKK
            gi_wp2
            gi_loopw [12] (fun vh wr => ∃ h : Nat, h ≤ i ∧ h ≤ lb ∧ vh = .int .i64 (h : Int) ∧ Hid (a.take h = b.take h) ∧ Chg No wr2 wr) (fun vh _ => i - (intOf vh).toNat)
            case atStart => exact ⟨0, Nat.zero_le _, Nat.zero_le _, rfl, rfl, Chg.refl _ _⟩
            case round =>
              obtain ⟨h, hh1, hh2, rfl, HH, ch⟩ := hrel
              by_cases hlt : h < i
              · have hlt1 : decide ((h : Int) < (i : Int)) = true := decide_eq_true (by omega)
                have hha : h < a.length := by rw [HA.out]; exact hlt
                by_cases hlt2 : h < lb
                · have hlt2' : decide ((h : Int) < (lb : Int)) = true := decide_eq_true (by omega)
                  have hhb : h < b.length := by rw [HB.out]; exact hlt2
                  obtain ⟨x, hx⟩ : ∃ x, a[h] = x := ⟨_, rfl⟩
                  obtain ⟨y, hy⟩ : ∃ y, b[h] = y := ⟨_, rfl⟩
                  obtain ⟨ba, oa, rfl, hca⟩ : ∃ ba oa, p = some ⟨ba, oa, none⟩ ∧ wr.cell? ⟨ba, oa + h, none⟩ = some (.string x) := by
                    obtain ⟨p', cap', e, _, _, hc⟩ := hv2.no ch
                    cases e
                    exact hc h (.string x) (by rw [List.getElem?_map, List.getElem?_eq_getElem hha, hx]; rfl)
                  obtain ⟨bb, ob, rfl, hcb⟩ : ∃ bb ob, q = some ⟨bb, ob, none⟩ ∧ wr.cell? ⟨bb, ob + h, none⟩ = some (.string y) := by
                    obtain ⟨p', cap', e, _, _, hc⟩ := hu2.no ch
                    cases e
                    exact hc h (.string y) (by rw [List.getElem?_map, List.getElem?_eq_getElem hhb, hy]; rfl)
                  by_cases hxy : x = y
                  · have hne : (x.toList == y.toList) = true := by rw [hxy]; simp
                    have HH2 : Hid (a.take (h + 1) = b.take (h + 1)) := by
                      show _ = _
                      rw [List.take_succ_eq_append_getElem hha, List.take_succ_eq_append_getElem hhb, HH.out, hx, hy, hxy]
                    clear hxy hx hy hha hhb
                    gi_wp2
                    refine wpIn_region_quiet_lit rfl hmix (by kernel_rfl) ?_
                    repeat (gi_big_quiet_step (fail))
                    refine wpQuietIn_nil ?_
                    rintro w' ⟨j1, rfl⟩
                    gi_wp2
                    go_roundw
                    case rel => exact ⟨h + 1, hlt, hlt2, by go_num, HH2, drewNC ch _⟩
                    case measure => simp [intOf]; omega
                  · have hne : (x.toList == y.toList) = false := by rw [beq_eq_false_iff_ne]; exact fun h => hxy (text_ext h)
                    clear hxy hx hy hha hhb
                    gi_wp2
                    refine wpIn_region_quiet_lit rfl hmix (by kernel_rfl) ?_
                    repeat (gi_big_quiet_step (fail))
                    refine wpQuietIn_nil ?_
                    rintro w' ⟨j1, rfl⟩
                    gi_wp2
                    gi_meet
                    exact ⟨h, HLE.out h hh1 HH.out, rfl, drewNC ch _⟩
                · have hlt2' : decide ((h : Int) < (lb : Int)) = false := decide_eq_false (by omega)
                  gi_wp2
                  refine wpIn_region_quiet_lit rfl hmix (by kernel_rfl) ?_
                  repeat (gi_big_quiet_step (fail))
                  refine wpQuietIn_nil ?_
                  rintro w' ⟨j1, rfl⟩
                  gi_wp2
                  gi_meet
                  exact ⟨h, HLE.out h hh1 HH.out, rfl, drewNC ch _⟩
              · have hlt1 : decide ((h : Int) < (i : Int)) = false := decide_eq_false (by omega)
                gi_wp2
                refine wpIn_region_quiet_lit rfl hmix (by kernel_rfl) ?_
                repeat (gi_big_quiet_step (fail))
                refine wpQuietIn_nil ?_
                rintro w' ⟨j1, rfl⟩
                gi_wp2
                gi_meet
                exact ⟨h, HLE.out h hh1 HH.out, rfl, drewNC ch _⟩
          case rest =>
            obtain ⟨h, hhn, rfl, c3⟩ := hcut
            have hv3 := hv2.no c3
            have hu3 := hu2.no c3
            have c03 := Chg.seq c2 c3
            refine hKC _ _ ?_
            clear hKC
            gi_wp2
            obtain ⟨W3, hW3⟩ : ∃ W, wc = W := ⟨_, rfl⟩
            rw [hW3] at hv3 hu3 c03 ⊢
            gi_loopw [13, 15] (fun vx vi wr => ∃ ka : Nat, ka ≤ i ∧ vi = .int .i64 ((i : Int) - 1 - (ka : Int)) ∧ wr.ownsRow W3.heap.size 9 1 vx ka ((a.reverse.take ka).map Value.string) ∧ Chg No W3 wr) (fun vx vi _ => (intOf vi + 1).toNat)
            case atStart => exact ⟨0, Nat.zero_le _, by go_num, by rw [List.take_zero]; exact World.ownsRow_nil _ _ _ _, Chg.refl _ _⟩
            case round =>
              obtain ⟨ka, hk, rfl, hr, cw⟩ := hrel
              obtain ⟨px, cx, rfl⟩ := row_slice hr
              by_cases hlt : ka < i
              · have hda : i - 1 - ka < a.length := by rw [HA.out]; omega
                have hka : ka < a.reverse.length := by rw [List.length_reverse, HA.out]; omega
                obtain ⟨d, hd⟩ : ∃ d, i - 1 - ka = d := ⟨_, rfl⟩
                have hdI : (i : Int) - 1 - (ka : Int) = (d : Int) := by omega
                have HDI : Hid ((i : Int) - 1 - (ka : Int) = (d : Int)) := hdI
                have hdn : d < i := by omega
                have HDK : Hid (d + ka + 1 = i) := by show _ = _; omega
                rw [hd] at hda
                obtain ⟨x, hx⟩ : ∃ x, a[d] = x := ⟨_, rfl⟩
                have HT : Hid ((a.reverse.take ka).map Value.string ++ [.string x] = (a.reverse.take (ka + 1)).map Value.string) := by
                  rw [List.take_succ_eq_append_getElem hka, List.map_append, List.getElem_reverse]
                  have e9 : a.length - 1 - ka = d := by rw [HA.out]; omega
                  simp only [e9, hx]
                  exact rfl
                obtain ⟨ba, oa, rfl, hca⟩ : ∃ ba oa, p = some ⟨ba, oa, none⟩ ∧ wr.cell? ⟨ba, oa + d, none⟩ = some (.string x) := by
                  obtain ⟨p', cap', e, _, _, hc⟩ := hv3.no cw
                  cases e
                  exact hc d (.string x) (by rw [List.getElem?_map, List.getElem?_eq_getElem hda, hx]; rfl)
                have hmx : ka + 1 ≤ maxLen := by unfold maxLen; omega
                have hbs : W3.heap.size ≤ (wr.alloc (.cells #[.string x] 9)).heap.size := (cw.alloc _).size
                have hd0 : (0 : Int) ≤ (d : Int) := by omega
                have hdn' : (d : Int) < (i : Int) := by omega
                rw [hdI]
                clear hx hda hka hd hdI
                gi_wp2_with (gi_at_builtin; refine wpListIn_append_at _ rfl _ _ 22 rfl W3.heap.size 9 i0 (.string ⟨#[]⟩) 1 16 Try.underlying22 hi0 hz0 hz1 hz2 rfl (by decide) _ _ _ rfl (hr.alloc _) ⟨wr.heap.size, 0, none⟩ 1 1 [.string x] rfl rfl (cell_one_new _ _ _) (by simp [Value.oneCell']) hmx (by omega) hbs ?_; intro v' w9 hown' hgrow _ hat; have c9 : Chg No W3 w9 := (cw.alloc _).grown hgrow (fun j e => .inr (hr.lt j e).1))
                go_roundw
                case rel => exact ⟨ka + 1, hlt, by have := HDI.out; have := HDK.out; go_num, by rw [← HT.out]; exact hown', c9⟩
                case measure => have := HDK.out; simp [intOf]
              · obtain rfl : ka = i := by omega
                have hneg : (ka : Int) - 1 - (ka : Int) = -1 := by omega
                rw [hneg]
                have s9 : SlV wr (.slice px ka cx) (a.reverse.map Value.string) := by
                  rw [List.take_of_length_le (by rw [List.length_reverse, HA.out]; exact Nat.le_refl _)] at hr
                  exact SlV.ofRow (by rw [List.length_map, List.length_reverse, HA.out]; exact hr)
                clear hneg
                obtain ⟨W4, hW4⟩ : ∃ W, wr = W := ⟨_, rfl⟩
                rw [hW4] at cw hr s9 ⊢
                have sx := s9
                have c04 := Chg.seq c03 cw
                have hv4 := hv3.no cw
                have hu4 := hu3.no cw
                clear cw hr s9 hv3 hu3 c03
                gi_wp2
                gi_loopw [14, 16] (fun vx vi wr => ∃ kb : Nat, kb ≤ lb ∧ vi = .int .i64 ((lb : Int) - 1 - (kb : Int)) ∧ wr.ownsRow W4.heap.size 9 1 vx kb ((b.reverse.take kb).map Value.string) ∧ Chg No W4 wr) (fun vx vi _ => (intOf vi + 1).toNat)
                case atStart => exact ⟨0, Nat.zero_le _, by go_num, by rw [List.take_zero]; exact World.ownsRow_nil _ _ _ _, Chg.refl _ _⟩
                case round =>
                  obtain ⟨kb, hk, rfl, hr, cw⟩ := hrel
                  obtain ⟨px, cx, rfl⟩ := row_slice hr
                  by_cases hlt : kb < lb
                  · have hda : lb - 1 - kb < b.length := by rw [HB.out]; omega
                    have hka : kb < b.reverse.length := by rw [List.length_reverse, HB.out]; omega
                    obtain ⟨d, hd⟩ : ∃ d, lb - 1 - kb = d := ⟨_, rfl⟩
                    have hdI : (lb : Int) - 1 - (kb : Int) = (d : Int) := by omega
                    have HDI : Hid ((lb : Int) - 1 - (kb : Int) = (d : Int)) := hdI
                    have hdn : d < lb := by omega
                    have HDK : Hid (d + kb + 1 = lb) := by show _ = _; omega
                    rw [hd] at hda
                    obtain ⟨x, hx⟩ : ∃ x, b[d] = x := ⟨_, rfl⟩
                    have HT : Hid ((b.reverse.take kb).map Value.string ++ [.string x] = (b.reverse.take (kb + 1)).map Value.string) := by
                      rw [List.take_succ_eq_append_getElem hka, List.map_append, List.getElem_reverse]
                      have e9 : b.length - 1 - kb = d := by rw [HB.out]; omega
                      simp only [e9, hx]
                      exact rfl
                    obtain ⟨ba, oa, rfl, hca⟩ : ∃ ba oa, q = some ⟨ba, oa, none⟩ ∧ wr.cell? ⟨ba, oa + d, none⟩ = some (.string x) := by
                      obtain ⟨p', cap', e, _, _, hc⟩ := hu4.no cw
                      cases e
                      exact hc d (.string x) (by rw [List.getElem?_map, List.getElem?_eq_getElem hda, hx]; rfl)
                    have hmx : kb + 1 ≤ maxLen := by unfold maxLen; omega
                    have hbs : W4.heap.size ≤ (wr.alloc (.cells #[.string x] 9)).heap.size := (cw.alloc _).size
                    have hd0 : (0 : Int) ≤ (d : Int) := by omega
                    have hdn' : (d : Int) < (lb : Int) := by omega
                    rw [hdI]
                    clear hx hda hka hd hdI
                    gi_wp2_with (gi_at_builtin; refine wpListIn_append_at _ rfl _ _ 22 rfl W4.heap.size 9 i0 (.string ⟨#[]⟩) 1 16 Try.underlying22 hi0 hz0 hz1 hz2 rfl (by decide) _ _ _ rfl (hr.alloc _) ⟨wr.heap.size, 0, none⟩ 1 1 [.string x] rfl rfl (cell_one_new _ _ _) (by simp [Value.oneCell']) hmx (by omega) hbs ?_; intro v' w9 hown' hgrow _ hat; have c9 : Chg No W4 w9 := (cw.alloc _).grown hgrow (fun j e => .inr (hr.lt j e).1))
                    go_roundw
                    case rel => exact ⟨kb + 1, hlt, by have := HDI.out; have := HDK.out; go_num, by rw [← HT.out]; exact hown', c9⟩
                    case measure => have := HDK.out; simp [intOf]
                  · obtain rfl : kb = lb := by omega
                    have hneg : (kb : Int) - 1 - (kb : Int) = -1 := by omega
                    rw [hneg]
                    have s9 : SlV wr (.slice px kb cx) (b.reverse.map Value.string) := by
                      rw [List.take_of_length_le (by rw [List.length_reverse, HB.out]; exact Nat.le_refl _)] at hr
                      exact SlV.ofRow (by rw [List.length_map, List.length_reverse, HB.out]; exact hr)
                    clear hneg
                    have cE := Chg.seq c04 cw
                    have hvE := hv4.no cw
                    have huE := hu4.no cw
                    have sxE := sx.no cw
                    clear hv4 hu4 sx cw c04 hr
                    have hL1 := length_in _ _ b a _ huE hvE (by rw [HB.out]; omega) (by rw [HA.out]; omega)
                    rw [tl_comm, HN.out] at hL1
                    obtain ⟨d3, d3'⟩ := hnn
                    have d1 : (t : Int) ≤ (n : Int) := by omega
                    have d2 : (h : Int) ≤ (n : Int) := by omega
                    have d4 : ((n : Int) == (n : Int)) = true := by simp
                    gi_wp2_with fail
                    all_goals (refine ⟨trivial, rfl, hL1.mono ?_⟩)
                    all_goals (rintro e w6 ⟨rfl, c6⟩)
                    all_goals (have hL2 := length_in _ _ a.reverse b.reverse _ (sxE.no c6) (s9.no c6) (by rw [List.length_reverse, HA.out]; omega) (by rw [List.length_reverse, HB.out]; omega))
                    all_goals (rw [tl_reverse, HN.out] at hL2)
                    all_goals (gi_wp2_with fail)
                    all_goals (refine ⟨trivial, rfl, hL2.mono ?_⟩)
                    all_goals (rintro e w7 ⟨rfl, c7⟩)
                    all_goals (gi_wp2_with fail)
                    all_goals (refine ⟨trivial, rfl, (awake_in _).mono ?_⟩)
                    all_goals (rintro e w8 ⟨rfl, c8⟩)
                    all_goals gi_wp2
                    all_goals go_ret
                    all_goals (exact ⟨rfl, Chg.seq (Chg.seq (Chg.seq cE c6) c7) c8⟩)
    · gi_wp2_with fail
      refine ⟨trivial, rfl, (awake_in _).mono ?_⟩
      rintro e w1 ⟨rfl, c1⟩
      gi_wp2
      go_ret
      exact ⟨rfl, c1⟩
  · gi_wp2_with fail
    refine ⟨trivial, ?_⟩
    rename_i hKK
    apply hKK
    gi_wp2_with fail
    refine ⟨trivial, rfl, (awake_in _).mono ?_⟩
    rintro e w1 ⟨rfl, c1⟩
    gi_wp2
    go_ret
    exact ⟨rfl, c1⟩

end Go.Proofs.Ytafaihbfhcpjiaa
