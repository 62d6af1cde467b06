/-
  The document's own answer for join: all paths, Of and Virtual.
-/
import Derived.Test.YtndblaemladppaaGreatDoorJRef
namespace Go.Proofs.YtndblaemladppaaGreatDoor
open Go.RowKit Go.Shelf Go.SeqLib Go.DiffLib Go.TreeLib Go.TextLib Go.BigFrame
attribute [local go_sem] Oper.semAt_some

set_option maxRecDepth 100000 in
set_option maxHeartbeats 4000000 in
theorem jAll_in (vo va vb : Value) (o a b : List Fl) (h3 : IsTree o ∧ IsTree a ∧ IsTree b) (w : World) (ho : SlF w vo o) (ha : SlF w va a) (hb : SlF w vb b) :
    CallsIn Fence.wide 0 Tryz.prog 28 #[vo, va, vb] w fun e w' =>
      ∃ v1 v2, e = .returned (.tuple #[v1, v2]) ∧ OwnF w' w.heap.size v1 (out3 o a b) ∧ OwnT w' w.heap.size v2 (clashL o a b (all3 o a b)) ∧ Chg No w w' := by
  have hlo := h3.1.len
  have hla := h3.2.1.len
  have hlb := h3.2.2.len
  obtain ⟨po, ko, eo, _, _⟩ := ho.slice
  obtain ⟨no, hno⟩ : ∃ no, o.length = no := ⟨_, rfl⟩
  obtain ⟨pa, ka, ea, _, _⟩ := ha.slice
  obtain ⟨na, hna⟩ : ∃ na, a.length = na := ⟨_, rfl⟩
  obtain ⟨pb, kb, eb, _, _⟩ := hb.slice
  obtain ⟨nb, hnb⟩ : ∃ nb, b.length = nb := ⟨_, rfl⟩
  rw [hno] at eo
  rw [hna] at ea
  rw [hnb] at eb
  have c0 : Chg No w (w.alloc (.cells #[vo, va, vb] 22)) := (Chg.refl _ w).alloc _
  have sp : SlV (w.alloc (.cells #[vo, va, vb] 22)) (.slice (some ⟨w.heap.size, 0, none⟩) 3 3) [vo, va, vb] := SlV.made w [vo, va, vb] 22 (by simp)
  have P1 := refPaths_in (.slice (some ⟨w.heap.size, 0, none⟩) 3 3) [(vo, o), (va, a), (vb, b)] (w.alloc (.cells #[vo, va, vb] 22)) sp (by
    intro q hq
    rcases List.mem_cons.1 hq with rfl | hq
    · exact ho.no c0
    rcases List.mem_cons.1 hq with rfl | hq
    · exact ha.no c0
    · rw [List.mem_singleton.1 hq]; exact hb.no c0) (by simp [toldP]; omega)
  rw [show ([(vo, o), (va, a), (vb, b)].map (·.2)) = [o, a, b] from rfl] at P1
  have hal := all3_len o a b
  obtain ⟨all, HA⟩ : ∃ all, Hid (all3 o a b = all) := ⟨_, rfl⟩
  rw [show paths [o, a, b] = all from HA.out] at P1
  rw [HA.out] at hal
  have hal2 : all.length ≤ 36 := by omega
  have HO3 : Hid (out3 o a b = outL o a b all) := by show _ = _; unfold out3; rw [HA.out]
  have HC3 : Hid (clashL o a b (all3 o a b) = clashL o a b all) := by show _ = _; rw [HA.out]
  rw [HO3.out, HC3.out]
  have HS : Hid ((∀ p, (atP o p).2.size ≤ 100000) ∧ (∀ p, (atP a p).2.size ≤ 100000) ∧ (∀ p, (atP b p).2.size ≤ 100000)) := ⟨fun p => Nat.le_trans (tree_size h3.1 p) (by decide), fun p => Nat.le_trans (tree_size h3.2.1 p) (by decide), fun p => Nat.le_trans (tree_size h3.2.2 p) (by decide)⟩
  clear sp hal hlo hla hlb hno hna hnb HO3 HC3 h3
  subst eo ea eb
  refine callsIn_of_wp Tryz.func28 rfl trivial ?_
  simp only [Tryz.ntmps28, List.size_toArray, List.length_cons, List.length_nil, Nat.reduceAdd, Nat.reduceSub, Array.replicate_succ, Array.replicate_zero, List.push_toArray, List.append_toArray, List.nil_append, List.cons_append]
  gi_wp2_with fail
  refine ⟨trivial, rfl, P1.mono ?_⟩
  rintro e w1 ⟨tv, rfl, r1, c1⟩
  have c01 := Chg.seq c0 c1
  have st : SlT w1 tv all := OwnT.sl r1
  obtain ⟨pt, kt, rfl⟩ := row_slice r1
  have hs01 := c01.size
  have ho1 := ho.no c01
  have ha1 := ha.no c01
  have hb1 := hb.no c01
  clear P1 r1 c0 c1 ho ha hb
  obtain ⟨n, HN⟩ : ∃ n, Hid (all.length = n) := ⟨_, rfl⟩
  rw [HN.out] at st hal2 ⊢
  have hn0 : n ≤ 9223372036854775807 := by omega
  gi_wp2
  gi_loopw [8, 9, 11] (fun s8 s9 s11 wr => ∃ k : Nat, k ≤ n ∧ s11 = .int .i64 (k : Int) ∧ OwnF wr w1.heap.size s8 (outL o a b (all.take k)) ∧ OwnT wr w1.heap.size s9 (clashL o a b (all.take k)) ∧ Chg No w1 wr) (fun _ _ s11 _ => n - (intOf s11).toNat)
  case atStart => exact ⟨0, Nat.zero_le _, rfl, OwnF.nil _ _, OwnT.nil _ _, Chg.refl _ _⟩
  case round =>
    obtain ⟨k, hk, rfl, ho8, ho9, c⟩ := hrel
    by_cases hlt : k < n
    · have hlt' : (k : Int) < (n : Int) := by omega
      have hko : k < all.length := by rw [HN.out]; exact hlt
      obtain ⟨p, hp⟩ : ∃ p, all[k]? = some p := ⟨_, List.getElem?_eq_getElem hko⟩
      obtain ⟨bb, off, rfl, hcw⟩ := SlT.at (st.no c) k p hp
      have HCW : Hid (∀ W', Chg No w1 W' → W'.cell? ⟨bb, off + k, none⟩ = some (.string p)) := fun W' c' => by
        obtain ⟨_, _, e9, h9⟩ := SlT.at (st.no c') k p hp
        cases e9
        exact h9
      have HT : Hid (all.take (k + 1) = all.take k ++ [p]) := by show _ = _; rw [List.take_add_one, hp]; rfl
      have HS8 : Hid (outL o a b (all.take (k + 1)) = outL o a b (all.take k) ++ (if (res o a b p).1.1 = true then [(p, (res o a b p).1.2)] else [])) := by show _ = _; rw [HT.out, outL_snoc]
      have HS9 : Hid (clashL o a b (all.take (k + 1)) = clashL o a b (all.take k) ++ (if (res o a b p).2 = true then [p] else [])) := by show _ = _; rw [HT.out, clashL_snoc]
      have HLF : Hid ((outL o a b (all.take k)).length ≤ 36) := by
        have := outL_len o a b (all.take k)
        rw [List.length_take] at this
        show _ ≤ _
        omega
      have HLT : Hid ((clashL o a b (all.take k)).length ≤ 36) := by
        have := clashL_len o a b (all.take k)
        rw [List.length_take] at this
        show _ ≤ _
        omega
      have J1 := jOne_in (.slice po no ko) (.slice pa na ka) (.slice pb nb kb) o a b p (HS.out.1 p) (HS.out.2.1 p) (HS.out.2.2 p) wr (ho1.no c) (ha1.no c) (hb1.no c)
      generalize res o a b p = R at J1 HS8 HS9
      generalize outL o a b (all.take k) = fs at ho8 HS8 HLF
      generalize clashL o a b (all.take k) = ls at ho9 HS9 HLT
      obtain ⟨⟨r1, r2⟩, r3⟩ := R
      dsimp only at J1 HS8 HS9
      obtain ⟨p8, k8, rfl⟩ := ho8.slice
      obtain ⟨p9, k9, rfl⟩ := row_slice ho9
      clear hp hko HT
      gi_wp2_with fail
      refine ⟨trivial, rfl, J1.mono ?_⟩
      rintro e w2 ⟨rfl, c2⟩
      have c12 := Chg.seq c c2
      have o28 := ho8.no c2
      have o29 := ho9.no c2
      have hcw2 := HCW.out _ c12
      have hs12 := c12.size
      clear J1 c c2 ho8 ho9 hcw
      have HB : Hid (∀ W vF (fx : List Fl), Chg No w1 W → OwnF W w1.heap.size vF fx → OwnT W w1.heap.size (.slice p9 ls.length k9) ls →
          OwnT (W.alloc (.cells #[.string p] 9)) w1.heap.size (.slice p9 ls.length k9) ls ∧ SlT (W.alloc (.cells #[.string p] 9)) (.slice (some ⟨W.heap.size, 0, none⟩) 1 1) [p] ∧ w1.heap.size ≤ (W.alloc (.cells #[.string p] 9)).heap.size ∧
          ∀ W5, (W.alloc (.cells #[.string p] 9)).grownBy W5 (Value.slice p9 ls.length k9).ownBlock → Chg No w1 W5 ∧ OwnF W5 w1.heap.size vF fx) := fun W vF fx cW hF hT => by
        refine ⟨hT.no ((Chg.refl _ W).alloc _), SlT.one W p, (cW.alloc _).size, fun W5 hg => ⟨(cW.alloc _).grown hg (fun q e => .inr (World.ownsRow.lt hT q e).1), ?_⟩⟩
        have c45 : Chg (fun q => Value.ownBlock (.slice p9 ls.length k9) = some q) W W5 := ((Chg.refl _ W).alloc _).grown hg (fun k e => .inl e)
        exact hF.chg c45 (fun q h7 h8 => row_apart (by decide) hF hT q h7 h8)
      cases r1 with
      | true =>
        have hslA := SlF.one w2 (p, r2)
        have cA : Chg No w2 (w2.alloc (.cells #[.string p, .string r2] 37)) := (Chg.refl _ w2).alloc _
        have oA8 := o28.no cA
        have hbsA := (Chg.seq c12 cA).size
        have HG : Hid (∀ W4 v', OwnF W4 w1.heap.size v' (fs ++ [(p, r2)]) → (w2.alloc (.cells #[.string p, .string r2] 37)).grownBy W4 (Value.slice p8 fs.length k8).ownBlock →
            Chg No w1 W4 ∧ OwnT W4 w1.heap.size (.slice p9 ls.length k9) ls ∧ W4.cell? ⟨bb, off + k, none⟩ = some (.string p)) := fun W4 v' hown hg => by
          have c4 := (Chg.seq c12 cA).grown hg (fun q e => .inr (World.ownsRow.lt o28 q e).1)
          have c24 : Chg (fun q => Value.ownBlock (.slice p8 fs.length k8) = some q) w2 W4 := ((Chg.refl _ w2).alloc _).grown hg (fun k e => .inl e)
          exact ⟨c4, OwnT.chg o29 c24 (fun q h9 h8 => row_apart (by decide) o29 o28 q h9 h8), HCW.out _ c4⟩
        rw [if_pos rfl] at HS8
        cases r3 with
        | true =>
          rw [if_pos rfl] at HS9
          gi_wp2_with (gi_at_builtin; first
            | (refine wpListIn_append_sf _ rfl _ _ rfl w1.heap.size _ fs rfl oA8 (some ⟨w2.heap.size, 0, none⟩) 1 1 [(p, r2)] rfl hslA (by have := HLF.out; omega) hbsA ?_; intro v8' W4 hown8 hgrow8 _; obtain ⟨p8', c8', rfl⟩ := hown8.slice; obtain ⟨cw4, o94, hc4⟩ := HG.out W4 _ hown8 hgrow8; obtain ⟨oB9, hslB, hbsB, HB5⟩ := HB.out W4 _ _ cw4 hown8 o94)
            | (refine wpListIn_append_t _ rfl _ _ rfl w1.heap.size _ ls rfl oB9 (some ⟨W4.heap.size, 0, none⟩) 1 1 [p] rfl hslB (by have := HLT.out; omega) hbsB ?_; intro v9' W5 hown9 hgrow9 _; obtain ⟨p9', c9', rfl⟩ := row_slice hown9; obtain ⟨cw5, o58⟩ := HB5 W5 hgrow9))
          refine ⟨⟨k + 1, hlt, by go_num, by rw [HS8.out]; rw [List.length_append] at o58; exact o58, by rw [HS9.out]; rw [List.length_append] at hown9; exact hown9, cw5⟩, by simp [intOf]; omega⟩
        | false =>
          rw [if_neg Bool.false_ne_true, List.append_nil] at HS9
          gi_wp2_with (gi_at_builtin; refine wpListIn_append_sf _ rfl _ _ rfl w1.heap.size _ fs rfl oA8 (some ⟨w2.heap.size, 0, none⟩) 1 1 [(p, r2)] rfl hslA (by have := HLF.out; omega) hbsA ?_; intro v8' W4 hown8 hgrow8 _; obtain ⟨p8', c8', rfl⟩ := hown8.slice; obtain ⟨cw4, o94, hc4⟩ := HG.out W4 _ hown8 hgrow8)
          refine ⟨⟨k + 1, hlt, by go_num, by rw [HS8.out]; rw [List.length_append] at hown8; exact hown8, by rw [HS9.out]; exact o94, cw4⟩, by simp [intOf]; omega⟩
      | false =>
        rw [if_neg Bool.false_ne_true, List.append_nil] at HS8
        cases r3 with
        | true =>
          rw [if_pos rfl] at HS9
          obtain ⟨oB9, hslB, hbsB, HB5⟩ := HB.out w2 _ _ c12 o28 o29
          gi_wp2_with (gi_at_builtin; refine wpListIn_append_t _ rfl _ _ rfl w1.heap.size _ ls rfl oB9 (some ⟨w2.heap.size, 0, none⟩) 1 1 [p] rfl hslB (by have := HLT.out; omega) hbsB ?_; intro v9' W5 hown9 hgrow9 _; obtain ⟨p9', c9', rfl⟩ := row_slice hown9; obtain ⟨cw5, o58⟩ := HB5 W5 hgrow9)
          refine ⟨⟨k + 1, hlt, by go_num, by rw [HS8.out]; exact o58, by rw [HS9.out]; rw [List.length_append] at hown9; exact hown9, cw5⟩, by simp [intOf]; omega⟩
        | false =>
          rw [if_neg Bool.false_ne_true, List.append_nil] at HS9
          gi_wp2
          refine ⟨⟨k + 1, hlt, by go_num, by rw [HS8.out]; exact o28, by rw [HS9.out]; exact o29, c12⟩, by simp [intOf]; omega⟩
    · obtain rfl : k = n := by omega
      have hlt' : ¬ (k : Int) < (k : Int) := by omega
      have hkn : all.take k = all := List.take_of_length_le (by rw [HN.out]; exact Nat.le_refl _)
      rw [hkn] at ho8 ho9
      gi_wp2
      go_ret2
      exact ⟨_, _, rfl, ho8.base hs01, OwnT.base ho9 hs01, Chg.seq c01 c⟩

end Go.Proofs.YtndblaemladppaaGreatDoor
