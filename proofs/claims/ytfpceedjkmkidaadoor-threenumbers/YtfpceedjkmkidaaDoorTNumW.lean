/-
  ThreeNumbers answers true at every three lists of numbers, and turns nothing that lay, where the library's table of powers is laid.
-/
import Derived.Test.YtfpceedjkmkidaaDoorTAwake
import Derived.Test.YtfpceedjkmkidaaDoorTMerge
import Derived.Test.YtfpceedjkmkidaaDoorTxtH
import Derived.Test.YtfpceedjkmkidaaDoorDItoa
namespace Go.DiffLib
section
variable {α : Type} [DecidableEq α]
theorem gather_from : ∀ (ps : List (Prt α)) (c : List α), gather ps = some c → c.length ≤ (ps.flatMap (·.a)).length + (ps.flatMap (·.b)).length ∧ ∀ x ∈ c, x ∈ ps.flatMap (·.a) ∨ x ∈ ps.flatMap (·.b)
  | [], c, h => by cases h; simp
  | p :: ps, c, h => by
    rw [gather] at h
    split at h
    · cases h
    · cases hg : gather ps with
      | none => rw [hg] at h; cases h
      | some t =>
        rw [hg] at h
        cases h
        obtain ⟨ih1, ih2⟩ := gather_from ps t hg
        have hp : (pick p).length ≤ p.a.length + p.b.length ∧ ∀ x ∈ pick p, x ∈ p.a ∨ x ∈ p.b := by
          unfold pick
          split
          · exact ⟨by omega, fun x hx => .inl hx⟩
          · exact ⟨by omega, fun x hx => .inr hx⟩
        refine ⟨by simp only [List.flatMap_cons, List.length_append]; omega, fun x hx => ?_⟩
        simp only [List.flatMap_cons, List.mem_append]
        rcases List.mem_append.1 hx with h1 | h1
        · rcases hp.2 x h1 with h2 | h2
          · exact .inl (.inl h2)
          · exact .inr (.inl h2)
        · rcases ih2 x h1 with h2 | h2
          · exact .inl (.inr h2)
          · exact .inr (.inr h2)
theorem mrg_from {o a b c : List α} (h : mrg o a b = some c) : c.length ≤ a.length + b.length ∧ ∀ x ∈ c, x ∈ a ∨ x ∈ b := by
  have := gather_from _ c h
  rw [parts_a, parts_b] at this
  exact this
end
end Go.DiffLib
namespace Go.Proofs.YtfpceedjkmkidaaDoor
open Go.RowKit Go.Shelf Go.SeqLib Go.DiffLib Go.BigFrame
attribute [local go_sem] Oper.semAt_some

theorem SlI.slV {W : World} {v : Value} {zs : List Int} (h : SlI W v zs) : SlV W v (zs.map (Value.int .i64)) := by
  obtain ⟨p, cap, rfl, h1, h2, hc⟩ := h
  refine ⟨p, cap, by rw [List.length_map], by rw [List.length_map]; exact h1, h2, fun i x hi => ?_⟩
  rw [List.getElem?_map] at hi
  cases hz : zs[i]? with
  | none => rw [hz] at hi; cases hi
  | some z =>
    rw [hz] at hi
    cases hi
    exact hc i z hz

theorem mergeS_tells (vo va vb : Value) (o a b : List ByteArray) (w : World) (hv : SlV w vo (o.map Value.string)) (hu : SlV w va (a.map Value.string)) (ht : SlV w vb (b.map Value.string)) (ho : o.length ≤ 400) (ha : a.length ≤ 400) (hb : b.length ≤ 400) :
    CallsIn Fence.wide 0 Tryd.prog 6 #[vo, va, vb] w fun e w' => ∃ p n c, e = .returned (.tuple #[.slice p n c, .bool (mrg o a b).isSome]) ∧ SlV w' (.slice p n c) (((mrg o a b).getD []).map Value.string) ∧ Chg No w w' := by
  refine (merge_in vo va vb o a b w hv hu ht ho ha hb).mono ?_
  rintro e w' ⟨h, c⟩
  cases hm : mrg o a b with
  | none =>
    rw [hm] at h
    exact ⟨none, 0, 0, h, ⟨none, 0, rfl, Nat.le_refl _, Nat.zero_le _, by simp⟩, c⟩
  | some l =>
    rw [hm] at h
    obtain ⟨v', rfl, r⟩ := h
    obtain ⟨p, cc, rfl⟩ := row_slice r
    exact ⟨p, _, cc, rfl, SlV.ofRow (by simpa using r), c⟩
theorem mergeN_tells (vo va vb : Value) (o a b : List Int) (w : World) (hv : SlV w vo (o.map (Value.int .i64))) (hu : SlV w va (a.map (Value.int .i64))) (ht : SlV w vb (b.map (Value.int .i64))) (ho : o.length ≤ 400) (ha : a.length ≤ 400) (hb : b.length ≤ 400) :
    CallsIn Fence.wide 0 Tryd.prog 5 #[vo, va, vb] w fun e w' => ∃ p n c, e = .returned (.tuple #[.slice p n c, .bool (mrg o a b).isSome]) ∧ SlV w' (.slice p n c) (((mrg o a b).getD []).map (Value.int .i64)) ∧ Chg No w w' := by
  refine (I.merge_in vo va vb o a b w hv hu ht ho ha hb).mono ?_
  rintro e w' ⟨h, c⟩
  cases hm : mrg o a b with
  | none =>
    rw [hm] at h
    exact ⟨none, 0, 0, h, ⟨none, 0, rfl, Nat.le_refl _, Nat.zero_le _, by simp⟩, c⟩
  | some l =>
    rw [hm] at h
    obtain ⟨v', rfl, r⟩ := h
    obtain ⟨p, cc, rfl⟩ := row_slice r
    exact ⟨p, _, cc, rfl, SlV.ofRow (by simpa using r), c⟩

set_option maxRecDepth 100000 in
set_option maxHeartbeats 2000000 in
theorem texts_in (v : Value) (zs : List Int) (w : World) (hv : SlV w v (zs.map (Value.int .i64))) (hz : zs.length ≤ 1000) (hk : ∀ x ∈ zs, okI x) (ht : TabAt w) :
    CallsIn Fence.wide 0 Tryd.prog 7 #[v] w fun e w' => ∃ p n c, e = .returned (.slice p n c) ∧ SlV w' (.slice p n c) ((zs.map itoaS).map Value.string) ∧ Chg No w w' := by
  obtain ⟨i0, hi0, hz0, hz1, hz2⟩ := info_parts info9
  obtain ⟨p, cp, rfl, _⟩ := id hv
  rw [List.length_map] at hv ⊢
  obtain ⟨n, HN⟩ : ∃ n, Hid (zs.length = n) := ⟨_, rfl⟩
  rw [HN.out] at hv hz ⊢
  refine callsIn_of_wp Tryd.func7 rfl trivial ?_
  simp only [Tryd.ntmps7, List.size_toArray, List.length_cons, List.length_nil, Nat.reduceAdd, Nat.reduceSub, Array.replicate_succ, Array.replicate_zero, List.push_toArray, List.append_toArray, List.nil_append, List.cons_append]
  gi_wp2
  gi_loopw [3, 4] (fun vx vi wr => ∃ k : Nat, k ≤ n ∧ vi = .int .i64 (k : Int) ∧ wr.ownsRow w.heap.size 9 1 vx k (((zs.map itoaS).take k).map Value.string) ∧ Chg No w wr) (fun vx vi _ => n - (intOf vi).toNat)
  case atStart => exact ⟨0, Nat.zero_le _, rfl, by rw [List.take_zero]; exact World.ownsRow_nil _ _ _ _, Chg.refl _ _⟩
  case round =>
    obtain ⟨k, hkn, rfl, hr, cw⟩ := hrel
    obtain ⟨px, cx, rfl⟩ := row_slice hr
    by_cases hlt : k < n
    · have hlt' : (k : Int) < (n : Int) := by omega
      have hka : k < zs.length := by rw [HN.out]; exact hlt
      have hkm : k < (zs.map itoaS).length := by rw [List.length_map]; exact hka
      obtain ⟨x, hx⟩ : ∃ x, zs[k] = x := ⟨_, rfl⟩
      have hxk : okI x := by rw [← hx]; exact hk _ (List.getElem_mem hka)
      have HT : Hid (((zs.map itoaS).take k).map Value.string ++ [.string (itoaS x)] = ((zs.map itoaS).take (k + 1)).map Value.string) := by
        rw [List.take_succ_eq_append_getElem hkm, List.map_append, List.getElem_map, hx]
        exact rfl
      obtain ⟨ba, oa, rfl, hca⟩ : ∃ ba oa, p = some ⟨ba, oa, none⟩ ∧ wr.cell? ⟨ba, oa + k, none⟩ = some (.int .i64 x) := by
        obtain ⟨p', cap', e, _, _, hc⟩ := hv.no cw
        cases e
        exact hc k (.int .i64 x) (by rw [List.getElem?_map, List.getElem?_eq_getElem hka, hx]; rfl)
      have hit := itoa_in x hxk wr (ht.no cw)
      generalize itoaS x = sx at *
      clear hx hka hkm hxk
      gi_wp2_with fail
      refine ⟨trivial, rfl, hit.mono ?_⟩
      rintro e w1 ⟨rfl, c1⟩
      have hr1 := row_kept hr (fun k hk => c1.block k (hr.lt k hk).2 (fun h => h))
      have cw1 := Chg.seq cw c1
      have hmx : k + 1 ≤ maxLen := by unfold maxLen; omega
      have hcn := cells_laid w1 [.string sx] 9
      have hbs : w.heap.size ≤ (w1.alloc (.cells #[.string sx] 9)).heap.size := (cw1.alloc _).size
      gi_wp2_with (gi_at_builtin; refine wpListIn_append_at _ rfl _ _ 26 rfl w.heap.size 9 i0 (.string ⟨#[]⟩) 1 16 Tryd.underlying26 hi0 hz0 hz1 hz2 rfl (by decide) _ _ _ rfl (hr1.alloc _) ⟨w1.heap.size, 0, none⟩ 1 1 [.string sx] rfl rfl hcn (by simp [Value.oneCell']) hmx (by omega) hbs ?_; intro v' w4 hown' hgrow _ hat; have c9 : Chg No w w4 := (cw1.alloc _).grown hgrow (fun k e => .inr (hr1.lt k e).1))
      go_roundw
      case rel => exact ⟨k + 1, hlt, by go_num, by rw [← HT.out]; exact hown', c9⟩
      case measure => simp [intOf]; omega
    · obtain rfl : k = n := by omega
      have hlt' : ¬ (k : Int) < (k : Int) := by omega
      have sx0 : SlV wr (.slice px k cx) ((zs.map itoaS).map Value.string) := by
        rw [List.take_of_length_le (by rw [List.length_map, HN.out]; exact Nat.le_refl _)] at hr
        exact SlV.ofRow (by rw [List.length_map, List.length_map, HN.out]; exact hr)
      gi_wp2
      go_ret
      exact ⟨_, _, _, rfl, by simpa using sx0, cw⟩

set_option maxHeartbeats 1000000 in
theorem numbers_long (p q r : Option Addr) (n m k c d e : Nat) (h : 25 < n ∨ 25 < m ∨ 25 < k) (w : World) : CallsIn Fence.wide 0 Tryd.prog 3 #[.slice p n c, .slice q m d, .slice r k e] w fun e w' => e = .returned (.bool true) ∧ Chg No w w' := by
  refine callsIn_of_wp Tryd.func3 rfl trivial ?_
  simp only [Tryd.ntmps3, List.size_toArray, List.length_cons, List.length_nil, Nat.reduceAdd, Nat.reduceSub, Array.replicate_succ, Array.replicate_zero, List.push_toArray, List.append_toArray, List.nil_append, List.cons_append]
  by_cases h1 : 25 < n
  · have h1' : (25 : Int) < (n : Int) := by omega
    gi_wp2_with fail
    refine ⟨trivial, rfl, (awake_in _).mono ?_⟩
    rintro e w1 ⟨rfl, c1⟩
    gi_wp2
    go_ret
    exact ⟨rfl, c1⟩
  · have h1' : ¬ (25 : Int) < (n : Int) := by omega
    by_cases h2 : 25 < m
    · have h2' : (25 : Int) < (m : Int) := by omega
      gi_wp2_with fail
      refine ⟨trivial, rfl, (awake_in _).mono ?_⟩
      rintro e w1 ⟨rfl, c1⟩
      gi_wp2
      go_ret
      exact ⟨rfl, c1⟩
    · have h2' : ¬ (25 : Int) < (m : Int) := by omega
      have h3' : (25 : Int) < (k : Int) := by omega
      gi_wp2_with fail
      refine ⟨trivial, rfl, (awake_in _).mono ?_⟩
      rintro e w1 ⟨rfl, c1⟩
      gi_wp2
      go_ret
      exact ⟨rfl, c1⟩

set_option maxRecDepth 100000 in
set_option maxHeartbeats 4000000 in
theorem numbers_in (p q r : Option Addr) (co ca cb : Nat) (o a b : List Int) (hn : o.length ≤ 25) (hm : a.length ≤ 25) (hl : b.length ≤ 25) (w : World) (hs : SlI w (.slice p o.length co) o) (hs' : SlI w (.slice q a.length ca) a) (hs'' : SlI w (.slice r b.length cb) b) (hk : ∀ x ∈ o, okI x) (hk' : ∀ x ∈ a, okI x) (hk'' : ∀ x ∈ b, okI x) (ht : TabAt w) :
    CallsIn Fence.wide 0 Tryd.prog 3 #[.slice p o.length co, .slice q a.length ca, .slice r b.length cb] w fun e w' => e = .returned (.bool true) ∧ Chg No w w' := by
  have hv := hs.slV
  have hu := hs'.slV
  have hw := hs''.slV
  have H1 : Hid (o.length ≤ 400) := by show _ ≤ _; omega
  have H2 : Hid (a.length ≤ 400) := by show _ ≤ _; omega
  have H3 : Hid (b.length ≤ 400) := by show _ ≤ _; omega
  obtain ⟨n, HN⟩ : ∃ n, Hid (o.length = n) := ⟨_, rfl⟩
  obtain ⟨m, HM⟩ : ∃ m, Hid (a.length = m) := ⟨_, rfl⟩
  obtain ⟨k, HK⟩ : ∃ m, Hid (b.length = m) := ⟨_, rfl⟩
  rw [HN.out] at hv hn ⊢
  rw [HM.out] at hu hm ⊢
  rw [HK.out] at hw hl ⊢
  have h1' : ¬ (25 : Int) < (n : Int) := by omega
  have h2' : ¬ (25 : Int) < (m : Int) := by omega
  have h3' : ¬ (25 : Int) < (k : Int) := by omega
  have HK1 : Hid (∀ x ∈ o, okI x) := hk
  have HK2 : Hid (∀ x ∈ a, okI x) := hk'
  have HK3 : Hid (∀ x ∈ b, okI x) := hk''
  clear hs hs' hs'' hk hk' hk''
  have HMc : Hid (((mrg o a b).getD []).length ≤ 50 ∧ ∀ x ∈ (mrg o a b).getD [], okI x) := by
    cases hmg : mrg o a b with
    | none => exact ⟨by simp, by simp⟩
    | some c =>
      obtain ⟨g1, g2⟩ := mrg_from hmg
      rw [HM.out, HK.out] at g1
      refine ⟨by show c.length ≤ 50; omega, fun x hx => ?_⟩
      rcases g2 x hx with h | h
      · exact HK2.out x h
      · exact HK3.out x h
  refine callsIn_of_wp Tryd.func3 rfl trivial ?_
  simp only [Tryd.ntmps3, List.size_toArray, List.length_cons, List.length_nil, Nat.reduceAdd, Nat.reduceSub, Array.replicate_succ, Array.replicate_zero, List.push_toArray, List.append_toArray, List.nil_append, List.cons_append]
  have M1 := mergeN_tells _ _ _ o a b w hv hu hw H1.out H2.out H3.out
  have HMM : Hid (mrg (o.map itoaS) (a.map itoaS) (b.map itoaS) = (mrg o a b).map (fun l => l.map itoaS)) := mrg_map itoaS itoaS_inj o a b
  have HPP : Hid ((parts (o.map itoaS) (a.map itoaS) (b.map itoaS)).length = (parts o a b).length) := by show _ = _; rw [parts_map itoaS itoaS_inj, List.length_map]
  obtain ⟨mm, hmm⟩ : ∃ x, mrg o a b = x := ⟨_, rfl⟩
  rw [hmm] at M1 HMc HMM
  clear hmm
  obtain ⟨z, hz⟩ : ∃ z, mm.isSome = z := ⟨_, rfl⟩
  have HZ : Hid (mm.isSome = z) := hz
  rw [hz] at M1
  clear hz
  gi_wp2_with fail
  refine ⟨trivial, rfl, M1.mono ?_⟩
  rintro e w1 ⟨pm, nm, cm, rfl, sM, c1⟩
  clear M1
  gi_wp2_with fail
  refine ⟨trivial, rfl, (texts_in _ o w1 (hv.no c1) (by have := H1.out; omega) HK1.out (ht.no c1)).mono ?_⟩
  rintro e w2 ⟨p2, n2, d2, rfl, s2, c2⟩
  have c02 := Chg.seq c1 c2
  gi_wp2_with fail
  refine ⟨trivial, rfl, (texts_in _ a w2 (hu.no c02) (by have := H2.out; omega) HK2.out (ht.no c02)).mono ?_⟩
  rintro e w3 ⟨p3, n3, d3, rfl, s3, c3⟩
  have c03 := Chg.seq c02 c3
  gi_wp2_with fail
  refine ⟨trivial, rfl, (texts_in _ b w3 (hw.no c03) (by have := H3.out; omega) HK3.out (ht.no c03)).mono ?_⟩
  rintro e w4 ⟨p4, n4, d4, rfl, s4, c4⟩
  have c04 := Chg.seq c03 c4
  have M2 := mergeS_tells _ _ _ (o.map itoaS) (a.map itoaS) (b.map itoaS) w4 ((s2.no c3).no c4) (s3.no c4) s4 (by rw [List.length_map]; exact H1.out) (by rw [List.length_map]; exact H2.out) (by rw [List.length_map]; exact H3.out)
  rw [HMM.out] at M2
  have hz2 : (mm.map (fun l => l.map itoaS)).isSome = z := by rw [Option.isSome_map]; exact HZ.out
  rw [hz2] at M2
  clear hz2
  gi_wp2_with fail
  refine ⟨trivial, rfl, M2.mono ?_⟩
  rintro e w5 ⟨p5, n5, d5, rfl, s5, c5⟩
  have c05 := Chg.seq c04 c5
  have sM5 := (((sM.no c2).no c3).no c4).no c5
  have e5 : (mm.map (fun l => l.map itoaS)).getD [] = (mm.getD []).map itoaS := by cases mm <;> rfl
  rw [e5] at s5
  clear M2 e5 sM s2 s3 s4 c1 c2 c3 c4 c02 c03 c04
  gi_wp2_with fail
  refine ⟨trivial, rfl, (texts_in _ (mm.getD []) w5 sM5 (by have := HMc.out.1; omega) HMc.out.2 (ht.no c05)).mono ?_⟩
  rintro e w6 ⟨p6, n6, d6, rfl, s6, c6⟩
  gi_wp2_with fail
  refine ⟨trivial, rfl, (sameS_in _ _ _ _ _ s6 (s5.no c6)).mono ?_⟩
  rintro e w7 ⟨rfl, c7⟩
  rw [decide_eq_true rfl]
  have c07 := Chg.seq (Chg.seq c05 c6) c7
  have hzz : (z == z) = true := by simp
  clear s5 s6 sM5 c5 c6 c7 c05
  have P1 := I.parts_in _ _ _ o a b w7 (hv.no c07) (hu.no c07) (hw.no c07) H1.out H2.out H3.out
  gi_wp2_with fail
  refine ⟨trivial, rfl, P1.mono ?_⟩
  rintro e w8 ⟨v8, rfl, ⟨rs8, PA8⟩, c8⟩
  have HL8 : Hid (rs8.length = (parts o a b).length) := PA8.len
  obtain ⟨p8, d8, rfl⟩ := row_slice PA8.row
  have c08 := Chg.seq c07 c8
  clear P1 PA8
  gi_wp2_with fail
  refine ⟨trivial, rfl, (texts_in _ o w8 (hv.no c08) (by have := H1.out; omega) HK1.out (ht.no c08)).mono ?_⟩
  rintro e w9 ⟨p9, n9, d9, rfl, s9, c9⟩
  have c09 := Chg.seq c08 c9
  gi_wp2_with fail
  refine ⟨trivial, rfl, (texts_in _ a w9 (hu.no c09) (by have := H2.out; omega) HK2.out (ht.no c09)).mono ?_⟩
  rintro e w10 ⟨p10, n10, d10, rfl, s10, c10⟩
  have c010 := Chg.seq c09 c10
  gi_wp2_with fail
  refine ⟨trivial, rfl, (texts_in _ b w10 (hw.no c010) (by have := H3.out; omega) HK3.out (ht.no c010)).mono ?_⟩
  rintro e w11 ⟨p11, n11, d11, rfl, s11, c11⟩
  have c011 := Chg.seq c010 c11
  have P2 := parts_in _ _ _ (o.map itoaS) (a.map itoaS) (b.map itoaS) w11 ((s9.no c10).no c11) (s10.no c11) s11 (by rw [List.length_map]; exact H1.out) (by rw [List.length_map]; exact H2.out) (by rw [List.length_map]; exact H3.out)
  gi_wp2_with fail
  refine ⟨trivial, rfl, P2.mono ?_⟩
  rintro e w12 ⟨v12, rfl, ⟨rs12, PA12⟩, c12⟩
  have hl12 : rs12.length = rs8.length := by rw [PA12.len, HPP.out, HL8.out]
  obtain ⟨p12, d12, rfl⟩ := row_slice PA12.row
  rw [hl12]
  have c012 := Chg.seq c011 c12
  clear P2 PA12 hl12 s9 s10 s11
  generalize rs8.length = nl at *
  gi_wp2_with fail
  refine ⟨trivial, rfl, (awake_in _).mono ?_⟩
  rintro e w13 ⟨rfl, c13⟩
  gi_wp2
  go_ret
  exact ⟨rfl, Chg.seq c012 c13⟩

end Go.Proofs.YtfpceedjkmkidaaDoor
