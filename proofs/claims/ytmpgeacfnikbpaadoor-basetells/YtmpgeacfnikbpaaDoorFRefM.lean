/-
  The document's own answer: is a list of files a tree?
-/
import Derived.Test.YtmpgeacfnikbpaaDoorGMay
import Derived.Test.YtmpgeacfnikbpaaDoorFRefB
import Derived.Laws.Cover1
namespace Go.TreeLib
open Go
theorem chain_lt {l : List Fl} {y x : Fl} (h : l.Pairwise Apart) (hy : l.getLast? = some y) (hl : lt y.1 x.1 = true) : ∀ a ∈ l, lt a.1 x.1 = true := by
  intro a ha
  obtain ⟨m, rfl⟩ : ∃ m, l = m ++ [y] := ⟨l.dropLast, by
    have hne : l ≠ [] := by rintro rfl; cases ha
    have e := List.dropLast_concat_getLast hne
    rw [List.getLast?_eq_some_getLast hne] at hy
    rw [← Option.some.inj hy, e]⟩
  rcases List.mem_append.1 ha with h1 | h1
  · exact lt_trans ((List.pairwise_append.1 h).2.2 a h1 y (by simp)).1 hl
  · rw [List.mem_singleton.1 h1]; exact hl
end Go.TreeLib
namespace Go.Proofs.YtmpgeacfnikbpaaDoor
open Go.RowKit Go.Shelf Go.SeqLib Go.DiffLib Go.TreeLib Go.BigFrame
attribute [local go_sem] Oper.semAt_some

set_option maxRecDepth 100000 in
set_option maxHeartbeats 4000000 in
theorem refMay_in (v : Value) (zs : List Fl) (w : World) (hv : SlF w v zs) : CallsIn Fence.wide 0 Tryd.prog 55 #[v] w fun e w' =>
    e = .returned (.bool (mayB zs)) ∧ Chg No w w' := by
  have hmix : Tryd.prog.follows .mixedOrders = true := by kernel_rfl
  obtain ⟨z, HZ⟩ : ∃ z, Hid (mayB zs = z) := ⟨_, rfl⟩
  rw [HZ.out]
  obtain ⟨p, cap, rfl, _, hmx⟩ := hv.slice
  have hml : zs.length ≤ 9223372036854775807 := by unfold maxLen at hmx; omega
  obtain ⟨n, HN⟩ : ∃ n, Hid (zs.length = n) := ⟨_, rfl⟩
  rw [HN.out] at hv hml ⊢
  clear hmx
  refine callsIn_of_wp Tryd.func55 rfl trivial ?_
  simp only [Tryd.ntmps55, List.size_toArray, List.length_cons, List.length_nil, Nat.reduceAdd, Nat.reduceSub, Array.replicate_succ, Array.replicate_zero, List.push_toArray, List.append_toArray, List.nil_append, List.cons_append]
  by_cases hl : 12 < n
  · have hl' : (12 : Int) < (n : Int) := by omega
    obtain rfl : z = false := by rw [← HZ.out]; exact mayB_not (fun h => by have := h.len; rw [HN.out] at this; omega)
    gi_wp2
    go_ret
    exact ⟨rfl, Chg.refl _ _⟩
  have hl' : ¬ (12 : Int) < (n : Int) := by omega
  gi_wp2
  gi_loopw [3] (fun i wr => ∃ k : Nat, k ≤ n ∧ i = .int .i64 (k : Int) ∧ Hid (Sofar (zs.take k)) ∧ Chg No w wr) (fun i _ => n - (intOf i).toNat)
  case atStart => exact ⟨0, Nat.zero_le _, rfl, sofar_nil, Chg.refl _ _⟩
  case round =>
    obtain ⟨k, hk, rfl, HT, c⟩ := hrel
    by_cases hlt : k < n
    · have hlt' : (k : Int) < (n : Int) := by omega
      have hkl : k < zs.length := by rw [HN.out]; exact hlt
      obtain ⟨x, hx⟩ : ∃ x, zs[k]? = some x := ⟨_, List.getElem?_eq_getElem hkl⟩
      have hts : zs.take (k + 1) = zs.take k ++ [x] := by rw [List.take_add_one, hx]; rfl
      have HTS : Hid (zs.take (k + 1) = zs.take k ++ [x]) := hts
      have hpre : zs.take k ++ [x] <+: zs := by rw [← hts]; exact List.take_prefix _ _
      obtain ⟨b1, o1, rfl, hc1, hc2⟩ := SlF.at (hv.no c) k x hx
      have hany : Nonempty (After wr) := After.any wr
      have f0 : ∀ c : After wr, c.val.cell? ⟨b1, o1 + k * 2, none⟩ = some (.string x.1) := fun c => c.cell hc1
      have f1 : ∀ c : After wr, c.val.cell? ⟨b1, o1 + k * 2 + 1, none⟩ = some (.string x.2) := fun c => c.cell hc2
      have HPa : Hid (∀ c : After wr, CallsIn Fence.wide 0 Tryd.prog 66 #[.string x.1] c.val fun e w' => e = .returned (.bool (pathB (Bs x.1))) ∧ Chg No c.val w') := fun c => refPath_in x.1 c.val
      clear hc1 hc2 hts
      gi_wp2
      cases hp : pathB (Bs x.1) with
      | false =>
        rw [hp] at HPa
        obtain rfl : z = false := by
          rw [← HZ.out]
          exact may_bad hpre (fun h => by have := h.1; unfold fileB at this; rw [hp] at this; cases this)
        clear hp
        refine region_quietC hmix (by kernel_rfl) ?_
        repeat (gi_big_quiet_step (fail))
        refine wpQuietIn_want (fun _ _ _ _ => trivial) rfl ?_
        intro KQ hKQ
        gi_big_quiet_op
        gi_big_quiet_call (exact ⟨rfl, (HPa.out _).mono (by rintro e w'' ⟨rfl, c'⟩; exact ⟨rfl, After.more _ c'⟩)⟩)
        repeat (gi_big_quiet_step (fail))
        refine wpQuietIn_nil ?_
        rintro w' ⟨c9, rfl⟩
        have cc := Chg.seq c c9.chg
        gi_wp2
        go_ret
        exact ⟨rfl, cc⟩
      | true =>
        rw [hp] at HPa
        by_cases hd : 400 < x.2.size
        · have hd' : decide ((400 : Int) < (x.2.size : Int)) = true := decide_eq_true (by omega)
          obtain rfl : z = false := by
            rw [← HZ.out]
            exact may_bad hpre (fun h => by have := h.1; unfold fileB at this; rw [hp, decide_eq_false (by omega)] at this; cases this)
          clear hp hd
          refine region_quietC hmix (by kernel_rfl) ?_
          repeat (gi_big_quiet_step (fail))
          refine wpQuietIn_want (fun _ _ _ _ => trivial) rfl ?_
          intro KQ hKQ
          gi_big_quiet_op
          gi_big_quiet_call (exact ⟨rfl, (HPa.out _).mono (by rintro e w'' ⟨rfl, c'⟩; exact ⟨rfl, After.more _ c'⟩)⟩)
          repeat (gi_big_quiet_step (fail))
          refine wpQuietIn_nil ?_
          rintro w' ⟨c9, rfl⟩
          have cc := Chg.seq c c9.chg
          gi_wp2
          go_ret
          exact ⟨rfl, cc⟩
        · have hd' : decide ((400 : Int) < (x.2.size : Int)) = false := decide_eq_false (by omega)
          have hfile : fileB x = true := by unfold fileB; rw [hp, decide_eq_true (by omega)]; rfl
          clear hp hd
          by_cases h0 : k = 0
          · have h0' : decide (0 < k) = false := decide_eq_false (by omega)
            have HLT : Hid (∀ a ∈ zs.take k, lt a.1 x.1 = true) := fun a ha => by rw [h0] at ha; simp at ha
            clear h0
            refine region_quietC hmix (by kernel_rfl) ?_
            repeat (gi_big_quiet_step (fail))
            refine wpQuietIn_want (fun _ _ _ _ => trivial) rfl ?_
            intro KQ hKQ
            gi_big_quiet_op
            gi_big_quiet_call (exact ⟨rfl, (HPa.out _).mono (by rintro e w'' ⟨rfl, c'⟩; exact ⟨rfl, After.more _ c'⟩)⟩)
            repeat (gi_big_quiet_step (fail))
            refine wpQuietIn_nil ?_
            rintro w' ⟨c9, rfl⟩
            have cc := Chg.seq c c9.chg
            gi_wp2
            gi_loopw [4] (fun i wr => ∃ j : Nat, j ≤ k ∧ i = .int .i64 (j : Int) ∧ Hid (∀ a ∈ zs.take j, under (Bs x.1) (Bs a.1) = false) ∧ Chg No w wr) (fun i _ => k - (intOf i).toNat)
            case atStart => exact ⟨0, Nat.zero_le _, rfl, fun a ha => by simp at ha, cc⟩
            case round =>
              obtain ⟨j, hj, rfl, HU, c2⟩ := hrel
              by_cases hlt2 : j < k
              · have hlt2' : (j : Int) < (k : Int) := by omega
                have hjl : j < zs.length := by omega
                obtain ⟨y, hy⟩ : ∃ y, zs[j]? = some y := ⟨_, List.getElem?_eq_getElem hjl⟩
                obtain ⟨b3, o3, e3, hd1, _⟩ := SlF.at (hv.no c2) k x hx
                cases e3
                obtain ⟨b4, o4, e4, hd3, _⟩ := SlF.at (hv.no c2) j y hy
                cases e4
                have hym : y ∈ zs.take k := by
                  rw [List.mem_take_iff_getElem]
                  obtain ⟨h1, h2⟩ := List.getElem?_eq_some_iff.1 hy
                  exact ⟨j, by omega, h2⟩
                have hany2 : Nonempty (After wr) := After.any wr
                have f3 : ∀ c : After wr, c.val.cell? ⟨b1, o1 + k * 2, none⟩ = some (.string x.1) := fun c => c.cell hd1
                have f4 : ∀ c : After wr, c.val.cell? ⟨b1, o1 + j * 2, none⟩ = some (.string y.1) := fun c => c.cell hd3
                have HUn : Hid (∀ c : After wr, CallsIn Fence.wide 0 Tryd.prog 67 #[.string x.1, .string y.1] c.val fun e w' => e = .returned (.bool (under (Bs x.1) (Bs y.1))) ∧ w' = c.val) := fun c => refUnder_in x.1 y.1 c.val
                clear hd1 hd3
                cases hu : under (Bs x.1) (Bs y.1) with
                | true =>
                  rw [hu] at HUn
                  obtain rfl : z = false := by
                    rw [← HZ.out]
                    exact may_bad hpre (fun h => by
                      have := (goes_apart.1 h.2 y hym).2
                      rw [hu] at this
                      cases this)
                  clear hu
                  gi_wp2
                  refine region_quietC hmix (by kernel_rfl) ?_
                  repeat (gi_big_quiet_step (fail))
                  refine wpQuietIn_want (fun _ _ _ _ => trivial) rfl ?_
                  intro KQ hKQ
                  gi_big_quiet_op
                  gi_big_quiet_call (exact ⟨rfl, (HUn.out _).mono (by rintro e w'' ⟨rfl, rfl⟩; exact ⟨rfl, ⟨_, rfl⟩⟩)⟩)
                  repeat (gi_big_quiet_step (fail))
                  refine wpQuietIn_nil ?_
                  rintro w' ⟨c9, rfl⟩
                  have cc2 := Chg.seq c2 c9.chg
                  gi_wp2
                  go_ret
                  exact ⟨rfl, cc2⟩
                | false =>
                  rw [hu] at HUn
                  have HU2 : Hid (∀ a ∈ zs.take (j + 1), under (Bs x.1) (Bs a.1) = false) := by
                    intro a ha
                    rw [List.take_add_one, hy] at ha
                    rcases List.mem_append.1 ha with h | h
                    · exact HU.out a h
                    · rw [List.mem_singleton.1 h]; exact hu
                  clear hu
                  gi_wp2
                  refine region_quietC hmix (by kernel_rfl) ?_
                  repeat (gi_big_quiet_step (fail))
                  refine wpQuietIn_want (fun _ _ _ _ => trivial) rfl ?_
                  intro KQ hKQ
                  gi_big_quiet_op
                  gi_big_quiet_call (exact ⟨rfl, (HUn.out _).mono (by rintro e w'' ⟨rfl, rfl⟩; exact ⟨rfl, ⟨_, rfl⟩⟩)⟩)
                  repeat (gi_big_quiet_step (fail))
                  refine wpQuietIn_nil ?_
                  rintro w' ⟨c9, rfl⟩
                  have cc2 := Chg.seq c2 c9.chg
                  gi_wp2
                  go_roundw
                  case rel => exact ⟨j + 1, hlt2, by go_num, HU2, cc2⟩
                  case measure => simp [intOf]; omega
              · have hlt2' : ¬ (j : Int) < (k : Int) := by omega
                have hjk : j = k := by omega
                have HT2 : Hid (Sofar (zs.take (k + 1))) := by
                  show Sofar _
                  rw [HTS.out]
                  exact sofar_snoc.2 ⟨HT.out, hfile, goes_apart.2 (fun a ha => ⟨HLT.out a ha, HU.out a (by rw [hjk]; exact ha)⟩)⟩
                gi_wp2
                go_roundw
                case rel => exact ⟨k + 1, hlt, by go_num, HT2, c2⟩
                case measure => simp [intOf]; omega
          · have h0' : decide (0 < k) = true := decide_eq_true (by omega)
            obtain ⟨y, hy⟩ : ∃ y, zs[k - 1]? = some y := ⟨_, List.getElem?_eq_getElem (by omega)⟩
            obtain ⟨b2, o2, e2, hc3, _⟩ := SlF.at (hv.no c) (k - 1) y hy
            cases e2
            have f2 : ∀ c : After wr, c.val.cell? ⟨b1, o1 + (k - 1) * 2, none⟩ = some (.string y.1) := fun c => c.cell hc3
            have hlast : (zs.take k).getLast? = some y := by
              rw [List.getLast?_eq_getElem?, List.length_take, Nat.min_eq_left (by omega), List.getElem?_take, if_pos (by omega), hy]
            clear hc3
            cases hyx : lt y.1 x.1 with
            | false =>
              have hA : Op.bytesLess y.1.toList x.1.toList = false := hyx
              obtain rfl : z = false := by
                rw [← HZ.out]
                exact may_bad hpre (fun h => by
                  have := (goes_apart.1 h.2 y (List.mem_of_getLast? hlast)).1
                  rw [hyx] at this
                  cases this)
              clear hlast hyx
              refine region_quietC hmix (by kernel_rfl) ?_
              repeat (gi_big_quiet_step (fail))
              refine wpQuietIn_want (fun _ _ _ _ => trivial) rfl ?_
              intro KQ hKQ
              gi_big_quiet_op
              gi_big_quiet_call (exact ⟨rfl, (HPa.out _).mono (by rintro e w'' ⟨rfl, c'⟩; exact ⟨rfl, After.more _ c'⟩)⟩)
              repeat (gi_big_quiet_step (fail))
              refine wpQuietIn_nil ?_
              rintro w' ⟨c9, rfl⟩
              have cc := Chg.seq c c9.chg
              gi_wp2
              go_ret
              exact ⟨rfl, cc⟩
            | true =>
              have hA : Op.bytesLess y.1.toList x.1.toList = true := hyx
              have HLT : Hid (∀ a ∈ zs.take k, lt a.1 x.1 = true) := chain_lt HT.out.2 hlast hyx
              clear hlast hyx
              refine region_quietC hmix (by kernel_rfl) ?_
              repeat (gi_big_quiet_step (fail))
              refine wpQuietIn_want (fun _ _ _ _ => trivial) rfl ?_
              intro KQ hKQ
              gi_big_quiet_op
              gi_big_quiet_call (exact ⟨rfl, (HPa.out _).mono (by rintro e w'' ⟨rfl, c'⟩; exact ⟨rfl, After.more _ c'⟩)⟩)
              repeat (gi_big_quiet_step (fail))
              refine wpQuietIn_nil ?_
              rintro w' ⟨c9, rfl⟩
              have cc := Chg.seq c c9.chg
              gi_wp2
              gi_loopw [4] (fun i wr => ∃ j : Nat, j ≤ k ∧ i = .int .i64 (j : Int) ∧ Hid (∀ a ∈ zs.take j, under (Bs x.1) (Bs a.1) = false) ∧ Chg No w wr) (fun i _ => k - (intOf i).toNat)
              case atStart => exact ⟨0, Nat.zero_le _, rfl, fun a ha => by simp at ha, cc⟩
              case round =>
                obtain ⟨j, hj, rfl, HU, c2⟩ := hrel
                by_cases hlt2 : j < k
                · have hlt2' : (j : Int) < (k : Int) := by omega
                  have hjl : j < zs.length := by omega
                  obtain ⟨y, hy⟩ : ∃ y, zs[j]? = some y := ⟨_, List.getElem?_eq_getElem hjl⟩
                  obtain ⟨b3, o3, e3, hd1, _⟩ := SlF.at (hv.no c2) k x hx
                  cases e3
                  obtain ⟨b4, o4, e4, hd3, _⟩ := SlF.at (hv.no c2) j y hy
                  cases e4
                  have hym : y ∈ zs.take k := by
                    rw [List.mem_take_iff_getElem]
                    obtain ⟨h1, h2⟩ := List.getElem?_eq_some_iff.1 hy
                    exact ⟨j, by omega, h2⟩
                  have hany2 : Nonempty (After wr) := After.any wr
                  have f3 : ∀ c : After wr, c.val.cell? ⟨b1, o1 + k * 2, none⟩ = some (.string x.1) := fun c => c.cell hd1
                  have f4 : ∀ c : After wr, c.val.cell? ⟨b1, o1 + j * 2, none⟩ = some (.string y.1) := fun c => c.cell hd3
                  have HUn : Hid (∀ c : After wr, CallsIn Fence.wide 0 Tryd.prog 67 #[.string x.1, .string y.1] c.val fun e w' => e = .returned (.bool (under (Bs x.1) (Bs y.1))) ∧ w' = c.val) := fun c => refUnder_in x.1 y.1 c.val
                  clear hd1 hd3
                  cases hu : under (Bs x.1) (Bs y.1) with
                  | true =>
                    rw [hu] at HUn
                    obtain rfl : z = false := by
                      rw [← HZ.out]
                      exact may_bad hpre (fun h => by
                        have := (goes_apart.1 h.2 y hym).2
                        rw [hu] at this
                        cases this)
                    clear hu
                    gi_wp2
                    refine region_quietC hmix (by kernel_rfl) ?_
                    repeat (gi_big_quiet_step (fail))
                    refine wpQuietIn_want (fun _ _ _ _ => trivial) rfl ?_
                    intro KQ hKQ
                    gi_big_quiet_op
                    gi_big_quiet_call (exact ⟨rfl, (HUn.out _).mono (by rintro e w'' ⟨rfl, rfl⟩; exact ⟨rfl, ⟨_, rfl⟩⟩)⟩)
                    repeat (gi_big_quiet_step (fail))
                    refine wpQuietIn_nil ?_
                    rintro w' ⟨c9, rfl⟩
                    have cc2 := Chg.seq c2 c9.chg
                    gi_wp2
                    go_ret
                    exact ⟨rfl, cc2⟩
                  | false =>
                    rw [hu] at HUn
                    have HU2 : Hid (∀ a ∈ zs.take (j + 1), under (Bs x.1) (Bs a.1) = false) := by
                      intro a ha
                      rw [List.take_add_one, hy] at ha
                      rcases List.mem_append.1 ha with h | h
                      · exact HU.out a h
                      · rw [List.mem_singleton.1 h]; exact hu
                    clear hu
                    gi_wp2
                    refine region_quietC hmix (by kernel_rfl) ?_
                    repeat (gi_big_quiet_step (fail))
                    refine wpQuietIn_want (fun _ _ _ _ => trivial) rfl ?_
                    intro KQ hKQ
                    gi_big_quiet_op
                    gi_big_quiet_call (exact ⟨rfl, (HUn.out _).mono (by rintro e w'' ⟨rfl, rfl⟩; exact ⟨rfl, ⟨_, rfl⟩⟩)⟩)
                    repeat (gi_big_quiet_step (fail))
                    refine wpQuietIn_nil ?_
                    rintro w' ⟨c9, rfl⟩
                    have cc2 := Chg.seq c2 c9.chg
                    gi_wp2
                    go_roundw
                    case rel => exact ⟨j + 1, hlt2, by go_num, HU2, cc2⟩
                    case measure => simp [intOf]; omega
                · have hlt2' : ¬ (j : Int) < (k : Int) := by omega
                  have hjk : j = k := by omega
                  have HT2 : Hid (Sofar (zs.take (k + 1))) := by
                    show Sofar _
                    rw [HTS.out]
                    exact sofar_snoc.2 ⟨HT.out, hfile, goes_apart.2 (fun a ha => ⟨HLT.out a ha, HU.out a (by rw [hjk]; exact ha)⟩)⟩
                  gi_wp2
                  go_roundw
                  case rel => exact ⟨k + 1, hlt, by go_num, HT2, c2⟩
                  case measure => simp [intOf]; omega
    · have hlt' : ¬ (k : Int) < (n : Int) := by omega
      obtain rfl : k = n := by omega
      obtain rfl : z = true := by
        rw [← HZ.out, may_sofar (by rw [HN.out]; omega)]
        have := HT.out
        rw [List.take_of_length_le (by rw [HN.out]; exact Nat.le_refl _)] at this
        exact this
      gi_wp2
      go_ret
      exact ⟨rfl, c⟩

end Go.Proofs.YtmpgeacfnikbpaaDoor
