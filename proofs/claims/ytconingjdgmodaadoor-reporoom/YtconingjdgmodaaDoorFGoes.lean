/-
  tree's goesOn: may a path stand behind those of a list?
-/
import Derived.Test.YtconingjdgmodaaDoorGFile
import Derived.Test.YtconingjdgmodaaDoorFPath
import Derived.Test.YtconingjdgmodaaDoorFLe
namespace Go.TreeLib
open Go
theorem prefix_under (p q : List UInt8) : Lib.hasPrefix p (q ++ [47]) = under p q := by
  unfold Lib.hasPrefix under
  rw [Bool.eq_iff_iff, List.isPrefixOf_iff_prefix]
  simp only [Bool.and_eq_true, decide_eq_true_eq]
  constructor
  · rintro ⟨r, rfl⟩
    refine ⟨by simp, ?_, ?_⟩
    · rw [List.append_assoc, List.take_left' rfl]
    · rw [List.append_assoc, List.getElem?_append_right (Nat.le_refl _), Nat.sub_self]; rfl
  · rintro ⟨h1, h2, h3⟩
    refine ⟨p.drop (q.length + 1), ?_⟩
    rw [List.append_assoc]
    conv => rhs; rw [← List.take_append_drop q.length p, h2]
    congr 1
    rw [List.drop_eq_getElem_cons h1]
    rw [List.getElem?_eq_getElem h1] at h3
    rw [Option.some.inj h3]
    rfl
/-- May p stand behind f? -/
def behindB (f : Fl) (p : ByteArray) : Bool := lt f.1 p && !under (Bs p) (Bs f.1)
def goesB (zs : List Fl) (p : ByteArray) : Bool := zs.all (fun f => behindB f p)
end Go.TreeLib
namespace Go.Proofs.YtconingjdgmodaaDoor
open Go.RowKit Go.Shelf Go.SeqLib Go.DiffLib Go.TreeLib
attribute [local go_sem] Oper.semAt_some

theorem prefix_in (s p : ByteArray) (w : World) : CallsIn Fence.wide 0 Tryd.prog 60 #[.string s, .string p] w fun e w' => e = .returned (.bool (Lib.hasPrefix (Bs s) (Bs p))) ∧ w' = w :=
  (callsIn_wide (n := 0)).2 (Any.strings_HasPrefix Tryd.laysPrefix s p w)
theorem append_bytes (a b : ByteArray) : Bs (a ++ b) = Bs a ++ Bs b := by
  show (a ++ b).data.toList = _
  rw [ByteArray.data_append, Array.toList_append]

set_option maxRecDepth 100000 in
set_option maxHeartbeats 1000000 in
theorem goesOn_in (v : Value) (zs : List Fl) (p : ByteArray) (hz : ∀ f ∈ zs, f.1.size ≤ 100000) (w : World) (hv : SlF w v zs) : CallsIn Fence.wide 0 Tryd.prog 47 #[v, .string p] w fun e w' =>
    e = .returned (.bool (goesB zs p)) ∧ Chg No w w' := by
  have c00 : Chg No w ((w.alloc (.cells #[.string p] 9)).alloc (.cells #[.bool false] 4)) := ((Chg.refl _ w).alloc _).alloc _
  have hv0 := hv.no c00
  have hlt := hv.lt
  refine callsIn_of_wp_marks Tryd.func47 rfl trivial ?_
  simp only [Tryd.ntmps47, List.size_toArray, List.length_cons, List.length_nil, Nat.reduceAdd, Nat.reduceSub, Array.replicate_succ, Array.replicate_zero, List.push_toArray, List.append_toArray, List.nil_append, List.cons_append]
  gi_wp2_with fail
  refine ⟨trivial, rfl, (filesT_in v zs _ hv0).mono ?_⟩
  rintro e w1 ⟨g1, l1, D1, rfl, ⟨I0, it, hI, eg⟩, c1, hD1⟩
  have b0 : Boxed w1 w.heap.size 9 (.string p) := c1.boxed ((Boxed.new w 9 (.string p)).alloc _) (fun h => h)
  have b1 : Boxed w1 (w.heap.size + 1) 4 (.bool false) := by
    have := Boxed.new (w.alloc (.cells #[.string p] 9)) 4 (.bool false)
    rw [World.size_alloc] at this
    exact c1.boxed this (fun h => h)
  have c0 : Chg No w w1 := Chg.seq c00 c1
  have hlow : ∀ k, D1 k → k < w.heap.size ∨ w.heap.size + 2 ≤ k := fun k hk => by
    rcases hD1 k hk with h | h
    · exact .inl (hlt k h)
    · simp at h; exact .inr (by omega)
  clear c1 hD1 c00 hv0
  gi_wp2
  have pK : Part (fun S W => S = (fun k => k = w.heap.size ∨ k = w.heap.size + 1) ∧ Boxed W w.heap.size 9 (.string p) ∧ Boxed W (w.heap.size + 1) 4 (.bool false)) :=
    ⟨by
      rintro S W ⟨rfl, h1, h2⟩ k (h | h)
      · subst h; exact h1.lt
      · subst h; exact h2.lt, by
      rintro S W W' ⟨rfl, h1, h2⟩ hs hk
      exact ⟨rfl, (hk _ (.inl rfl)).trans h1, (hk _ (.inr rfl)).trans h2⟩⟩
  refine wpIn_range (gf := g1) (lb := l1) rfl eg it (fun _ => rfl)
    (fun pre S W => (S = (fun k => k = w.heap.size ∨ k = w.heap.size + 1) ∧ Boxed W w.heap.size 9 (.string p) ∧ Boxed W (w.heap.size + 1) 4 (.bool false)) ∧ goesB pre p = true)
    (fun c pre S W => (S = (fun k => k = w.heap.size ∨ k = w.heap.size + 1) ∧ Boxed W w.heap.size 9 (.string p) ∧ Boxed W (w.heap.size + 1) 4 (.bool false)) ∧ (c = .ret ∧ goesB zs p = false))
    (fun pre => pK.andP _) (fun c pre => pK.andP _)
    (S := fun k => k = w.heap.size ∨ k = w.heap.size + 1) hI ⟨⟨rfl, b0, b1⟩, rfl⟩
    (fun k hk h => by have := hlow k hk; omega)
    (fun x => { tmps := #[v, .string p, undef, .pointer (some ⟨w.heap.size, 0, none⟩), .pointer (some ⟨w.heap.size + 1, 0, none⟩), .string x.1, v, .func (.func g1) #[] l1, .string x.1, .string x.2, undef, undef, undef, undef, undef, undef, undef, undef, undef], defers := [] }) ?assign ?body ?done ?stop
  case assign =>
    intro l x W K hK
    gi_wp2
    simpa using hK
  case body =>
    rintro lr pre x S2 W hpre ⟨⟨rfl, h0, h1⟩, hall⟩
    have hc0 := h0.cell
    have hc1 := h1.cell
    have hf1 := h1.frozen
    have hxm : x ∈ zs := hpre.subset (by simp)
    have hxs : x.1.size ≤ 100000 := hz x hxm
    have hss : slash.size = 1 := rfl
    have hbad : behindB x p = false → Hid (goesB zs p = false) := fun h => by
      show _ = _
      unfold goesB
      rw [List.all_eq_false]
      exact ⟨x, hxm, by rw [h]; exact Bool.false_ne_true⟩
    cases hle : lt x.1 p with
    | false =>
      have hle' : (Op.bytesLess p.toList x.1.toList || p.toList == x.1.toList) = true := by rw [leB_lt, hle]; rfl
      have HB := hbad (by unfold behindB; rw [hle]; rfl)
      clear hbad hle hall
      obtain ⟨a, hA⟩ : ∃ a, Op.bytesLess p.toList x.1.toList = a := ⟨_, rfl⟩
      obtain ⟨b, hB⟩ : ∃ b, (p.toList == x.1.toList) = b := ⟨_, rfl⟩
      rw [hA, hB] at hle'
      cases a with
      | true =>
       gi_wp2
       rename_i hKK
       apply hKK
       rw [hA, Bool.true_or]
       gi_wp2
       refine ⟨trivial, ?_⟩
       rename_i hK2
       apply hK2
       gi_wp2
       exact ⟨_, (Chg.refl _ W).setCell (p := ⟨w.heap.size + 1, 0, none⟩) (.inl (.inr rfl)) _, Grew.refl _ _, ⟨rfl, h0.other (by omega) _, h1.set _⟩, rfl, HB.out⟩
      | false =>
      obtain rfl : b = true := hle'
      gi_wp2
      rename_i hKK
      apply hKK
      rw [hA, hB, Bool.or_true]
      gi_wp2
      refine ⟨trivial, ?_⟩
      rename_i hK2
      apply hK2
      gi_wp2
      exact ⟨_, (Chg.refl _ W).setCell (p := ⟨w.heap.size + 1, 0, none⟩) (.inl (.inr rfl)) _, Grew.refl _ _, ⟨rfl, h0.other (by omega) _, h1.set _⟩, rfl, HB.out⟩
    | true =>
      have hle' : (Op.bytesLess p.toList x.1.toList || p.toList == x.1.toList) = false := by rw [leB_lt, hle]; rfl
      rw [Bool.or_eq_false_iff] at hle'
      obtain ⟨hA, hB⟩ := hle'
      have hpf := prefix_in p (x.1 ++ slash)
      rw [append_bytes, show Bs slash = [47] from rfl, prefix_under] at hpf
      cases hu : under (Bs p) (Bs x.1) with
      | true =>
        have HB := hbad (by unfold behindB; rw [hle, hu]; rfl)
        rw [hu] at hpf
        clear hbad hle hall hu
        gi_wp2
        rename_i hKK
        apply hKK
        rw [hA, hB, Bool.or_false]
        gi_wp2_with fail
        refine ⟨trivial, rfl, (hpf _).mono ?_⟩
        rintro e w2 ⟨rfl, rfl⟩
        gi_wp2
        exact ⟨_, (Chg.refl _ _).setCell (p := ⟨w.heap.size + 1, 0, none⟩) (.inl (.inr rfl)) _, Grew.refl _ _, ⟨rfl, h0.other (by omega) _, h1.set _⟩, rfl, HB.out⟩
      | false =>
        have HA : Hid (goesB (pre ++ [x]) p = true) := by
          show _ = _
          unfold goesB at hall ⊢
          rw [List.all_append, hall, Bool.true_and, List.all_cons, List.all_nil, Bool.and_true]
          unfold behindB
          rw [hle, hu]
          rfl
        rw [hu] at hpf
        clear hbad hle hall hu
        gi_wp2
        rename_i hKK
        apply hKK
        rw [hA, hB, Bool.or_false]
        gi_wp2_with fail
        refine ⟨trivial, rfl, (hpf _).mono ?_⟩
        rintro e w2 ⟨rfl, rfl⟩
        gi_wp2
        exact ⟨_, Chg.refl _ _, Grew.refl _ _, ⟨rfl, h0, h1⟩, HA.out⟩
  case done =>
    rintro d S' W hd ⟨⟨rfl, h0, h1⟩, hall⟩ hI' hc hg hK hnd
    have HG : Hid (goesB zs p = true) := hall
    have hc1 := h1.cell
    have hf1 := h1.frozen
    have hd1 : d ≠ w.heap.size + 1 := fun e => hnd (.inr e)
    have hd3 : w.heap.size ≤ d := Nat.le_trans c0.size hd
    clear hall
    have hcc : Chg No w W := c0.trans hc (fun k hk => by
      rcases hk with h | h | h
      · exact h.elim
      · exact .inr (by omega)
      · exact .inr (by omega))
    gi_wp2
    have hK' : (W.setCell ⟨w.heap.size + 1, 0, none⟩ (.bool true)).heap[d]? = some (.deferred (some [])) := (Below.heap_setCell W _ _ d (fun e => hd1 e)).trans hK
    refine ⟨by simp, .inl ⟨_, _, rfl, run_takeDeferred hK', ?_⟩⟩
    have k1 : Boxed ((W.setCell ⟨w.heap.size + 1, 0, none⟩ (.bool true)).putObj d (.deferred none)) (w.heap.size + 1) 4 (.bool true) := (World.putObj_heap_other (fun e => hd1 e.symm)).trans (h1.set _)
    have e1 := k1.cell
    refine ⟨.bool true, ?_, ?_, ?_⟩
    · rw [results_cell1 rfl]
      go_simp
    · rw [HG.out]
    · exact Chg.putObj (hcc.setCell (p := ⟨w.heap.size + 1, 0, none⟩) (.inr (by simp)) _) (.inr hd3) _
  case stop =>
    rintro d c pre S' W hd hpre ⟨⟨rfl, h0, h1⟩, rfl, hget⟩ hI' hc hg hK hnd
    have HG : Hid (goesB zs p = false) := hget
    have hc1 := h1.cell
    have hd1 : d ≠ w.heap.size + 1 := fun e => hnd (.inr e)
    have hd3 : w.heap.size ≤ d := Nat.le_trans c0.size hd
    clear hget
    have hcc : Chg No w W := c0.trans hc (fun k hk => by
      rcases hk with h | h | h
      · exact h.elim
      · exact .inr (by omega)
      · exact .inr (by omega))
    gi_wp2
    refine ⟨by simp, .inl ⟨_, _, rfl, run_takeDeferred hK, ?_⟩⟩
    have k1 : Boxed (W.putObj d (.deferred none)) (w.heap.size + 1) 4 (.bool false) := (World.putObj_heap_other (fun e => hd1 e.symm)).trans h1
    have e1 := k1.cell
    refine ⟨.bool false, ?_, ?_, ?_⟩
    · rw [results_cell1 rfl]
      go_simp
    · rw [HG.out]
    · exact Chg.putObj hcc (.inr hd3) _

end Go.Proofs.YtconingjdgmodaaDoor
