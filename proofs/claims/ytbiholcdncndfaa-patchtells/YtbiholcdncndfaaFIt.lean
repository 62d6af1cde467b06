/-
  The iterators of tree's own files and of seq.Of at files keep an iterator's word: the files of the list.
-/
import Derived.Test.YtbiholcdncndfaaFSl
namespace Go.Proofs.Ytbiholcdncndfaa
open Go.RowKit Go.Shelf Go.SeqLib Go.DiffLib Go.TreeLib
attribute [local go_sem] Oper.semAt_some

/-- A file, as yield takes it: by two, by one. -/
abbrev encP (x : Fl) : Array Value := #[.string x.1, .string x.2]
abbrev encF (x : Fl) : Array Value := #[.agg #[.string x.1, .string x.2]]

set_option maxRecDepth 100000 in
set_option maxHeartbeats 1000000 in
/-- tree's own files. -/
theorem files1 (v : Value) (zs : List Fl) (Bk : Nat) (hD : ¬ slE v zs Bk) :
    Iter Try.prog 37 #[.pointer (some ⟨Bk, 0, none⟩)] encP zs (fun k => k = Bk ∨ slE v zs k) (fun _ => False)
      (fun W => Boxed W Bk 22 v ∧ SlF W v zs) (fun _ W => Boxed W Bk 22 v ∧ SlF W v zs) := {
  sub := fun _ h => h.elim
  lt0 := by
    rintro W ⟨b1, b2⟩ k (rfl | h)
    · exact b1.lt
    · exact b2.lt k h
  kept0 := by
    rintro W W' ⟨b1, b2⟩ _ hk
    exact ⟨(hk _ (.inl rfl)).trans b1, SlE.kept b2 (fun k h => hk k (.inr h))⟩
  kept := by
    rintro pre W W' ⟨b1, b2⟩ _ hk
    exact ⟨(hk _ (.inl rfl)).trans b1, SlE.kept b2 (fun k h => hk k (.inr h))⟩
  runs := by
    intro l J Jx S W pJ pJx hY hI hJ hDS
    obtain ⟨b1, b2⟩ := hI
    obtain ⟨p, cap, rfl, hcap, hmax⟩ := b2.slice
    have hc1 := b1.cell
    have hml : zs.length ≤ 9223372036854775807 := by unfold maxLen at hmax; omega
    clear hcap hmax
    refine callsIn_of_wp Try.func37 rfl trivial ?_
    simp only [Try.ntmps37, List.size_toArray, List.length_cons, List.length_nil, Nat.reduceAdd, Nat.reduceSub, Array.replicate_succ, Array.replicate_zero, List.push_toArray, List.append_toArray, List.nil_append, List.cons_append]
    gi_wp2
    gi_loopw [7] (fun i wr => ∃ (k : Nat) (So : Blk), k ≤ zs.length ∧ i = .int .i64 (k : Int) ∧ J (zs.take k) So wr ∧ Chg S W wr ∧ Grew S W So)
      (fun i _ => zs.length - (intOf i).toNat)
    case atStart => exact ⟨0, S, Nat.zero_le _, rfl, hJ, Chg.refl _ _, Grew.refl _ _⟩
    case round =>
      obtain ⟨k, So, hk, rfl, j, c, g⟩ := hrel
      have hfin : ∀ {W9 : World}, Chg S W W9 → Boxed W9 Bk 22 (.slice p zs.length cap) ∧ SlF W9 (.slice p zs.length cap) zs := fun c9 => ⟨c9.boxed b1 (hDS _ (.inl rfl)), b2.chg c9 (fun k hk => hDS k (.inr hk))⟩
      by_cases hlt : k < zs.length
      · have hlt' : (k : Int) < (zs.length : Int) := by omega
        have hts : zs.take (k + 1) = zs.take k ++ [zs[k]] := by rw [List.take_succ_eq_append_getElem hlt]
        have HT : Hid (zs.take (k + 1) = zs.take k ++ [zs[k]]) := hts
        have hpr : zs.take k ++ [zs[k]] <+: zs := by rw [← hts]; exact List.take_prefix _ _
        clear hts
        obtain ⟨x, hx⟩ : ∃ x, zs[k] = x := ⟨_, rfl⟩
        rw [hx] at hpr
        obtain ⟨b, off, rfl, hcw1, hcw2⟩ := SlF.at (hfin c).2 k x (by rw [List.getElem?_eq_getElem hlt, hx])
        have HX : Hid (zs[k] = x) := hx
        clear hx
        have ca : Chg S W (wr.alloc (.cells #[.string x.1, .string x.2] 43)) := c.alloc _
        have j' : J (zs.take k) So (wr.alloc (.cells #[.string x.1, .string x.2] 43)) := (pJ _).chg j ((Chg.refl (fun _ => False) wr).alloc _) (fun _ _ h => h)
        obtain ⟨fnr, tmps, assign, body, hy, hR⟩ := hY (zs.take k) x So _ hpr j'
        gi_wp2
        refine ⟨rfl, hR.mono ?_⟩
        rintro e W3 ⟨S3, c3, g3, (⟨rfl, j3⟩ | ⟨rfl, j3⟩)⟩
        · have cc := ca.trans c3 g
          have gg := g.trans g3 ca.size
          gi_wp2
          go_roundw
          case rel => exact ⟨k + 1, S3, hlt, by go_num, by rw [HT.out, HX.out]; exact j3, cc, gg⟩
          case measure => simp [intOf]; omega
        · have cc := ca.trans c3 g
          have gg := g.trans g3 ca.size
          gi_wp2
          refine bodyPost_ret (results_none rfl _ _ _) rfl ?_
          exact ⟨⟨_, rfl⟩, _, S3, .inr ⟨hpr, j3⟩, hfin cc, cc.mono (fun _ => .inr), gg⟩
      · obtain rfl : k = zs.length := by omega
        gi_wp2
        go_end0
        exact ⟨⟨_, rfl⟩, _, So, .inl ⟨List.take_length, j⟩, hfin c, c.mono (fun _ => .inr), g⟩ }

set_option maxRecDepth 100000 in
set_option maxHeartbeats 1000000 in
/-- seq.Of. -/
theorem ofF1 (v : Value) (zs : List Fl) (Bk : Nat) (hD : ¬ slE v zs Bk) :
    Iter Try.prog 44 #[.pointer (some ⟨Bk, 0, none⟩)] encF zs (fun k => k = Bk ∨ slE v zs k) (fun _ => False)
      (fun W => Boxed W Bk 22 v ∧ SlF W v zs) (fun _ W => Boxed W Bk 22 v ∧ SlF W v zs) := {
  sub := fun _ h => h.elim
  lt0 := by
    rintro W ⟨b1, b2⟩ k (rfl | h)
    · exact b1.lt
    · exact b2.lt k h
  kept0 := by
    rintro W W' ⟨b1, b2⟩ _ hk
    exact ⟨(hk _ (.inl rfl)).trans b1, SlE.kept b2 (fun k h => hk k (.inr h))⟩
  kept := by
    rintro pre W W' ⟨b1, b2⟩ _ hk
    exact ⟨(hk _ (.inl rfl)).trans b1, SlE.kept b2 (fun k h => hk k (.inr h))⟩
  runs := by
    intro l J Jx S W pJ pJx hY hI hJ hDS
    obtain ⟨b1, b2⟩ := hI
    obtain ⟨p, cap, rfl, hcap, hmax⟩ := b2.slice
    have hc1 := b1.cell
    have hml : zs.length ≤ 9223372036854775807 := by unfold maxLen at hmax; omega
    clear hcap hmax
    refine callsIn_of_wp Try.func44 rfl trivial ?_
    simp only [Try.ntmps44, List.size_toArray, List.length_cons, List.length_nil, Nat.reduceAdd, Nat.reduceSub, Array.replicate_succ, Array.replicate_zero, List.push_toArray, List.append_toArray, List.nil_append, List.cons_append]
    gi_wp2
    gi_loopw [7] (fun i wr => ∃ (k : Nat) (So : Blk), k ≤ zs.length ∧ i = .int .i64 (k : Int) ∧ J (zs.take k) So wr ∧ Chg S W wr ∧ Grew S W So)
      (fun i _ => zs.length - (intOf i).toNat)
    case atStart => exact ⟨0, S, Nat.zero_le _, rfl, hJ, Chg.refl _ _, Grew.refl _ _⟩
    case round =>
      obtain ⟨k, So, hk, rfl, j, c, g⟩ := hrel
      have hfin : ∀ {W9 : World}, Chg S W W9 → Boxed W9 Bk 22 (.slice p zs.length cap) ∧ SlF W9 (.slice p zs.length cap) zs := fun c9 => ⟨c9.boxed b1 (hDS _ (.inl rfl)), b2.chg c9 (fun k hk => hDS k (.inr hk))⟩
      by_cases hlt : k < zs.length
      · have hlt' : (k : Int) < (zs.length : Int) := by omega
        have hts : zs.take (k + 1) = zs.take k ++ [zs[k]] := by rw [List.take_succ_eq_append_getElem hlt]
        have HT : Hid (zs.take (k + 1) = zs.take k ++ [zs[k]]) := hts
        have hpr : zs.take k ++ [zs[k]] <+: zs := by rw [← hts]; exact List.take_prefix _ _
        clear hts
        obtain ⟨x, hx⟩ : ∃ x, zs[k] = x := ⟨_, rfl⟩
        rw [hx] at hpr
        obtain ⟨b, off, rfl, hcw1, hcw2⟩ := SlF.at (hfin c).2 k x (by rw [List.getElem?_eq_getElem hlt, hx])
        have HX : Hid (zs[k] = x) := hx
        clear hx
        have ca : Chg S W (wr.alloc (.cells #[.string x.1, .string x.2] 43)) := c.alloc _
        have j' : J (zs.take k) So (wr.alloc (.cells #[.string x.1, .string x.2] 43)) := (pJ _).chg j ((Chg.refl (fun _ => False) wr).alloc _) (fun _ _ h => h)
        obtain ⟨fnr, tmps, assign, body, hy, hR⟩ := hY (zs.take k) x So _ hpr j'
        gi_wp2
        refine ⟨rfl, hR.mono ?_⟩
        rintro e W3 ⟨S3, c3, g3, (⟨rfl, j3⟩ | ⟨rfl, j3⟩)⟩
        · have cc := ca.trans c3 g
          have gg := g.trans g3 ca.size
          gi_wp2
          go_roundw
          case rel => exact ⟨k + 1, S3, hlt, by go_num, by rw [HT.out, HX.out]; exact j3, cc, gg⟩
          case measure => simp [intOf]; omega
        · have cc := ca.trans c3 g
          have gg := g.trans g3 ca.size
          gi_wp2
          refine bodyPost_ret (results_none rfl _ _ _) rfl ?_
          exact ⟨⟨_, rfl⟩, _, S3, .inr ⟨hpr, j3⟩, hfin cc, cc.mono (fun _ => .inr), gg⟩
      · obtain rfl : k = zs.length := by omega
        gi_wp2
        go_end0
        exact ⟨⟨_, rfl⟩, _, So, .inl ⟨List.take_length, j⟩, hfin c, c.mono (fun _ => .inr), g⟩ }

end Go.Proofs.Ytbiholcdncndfaa
