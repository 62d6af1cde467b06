/-
  TreeTells answers true at every two lists of files, path and data, and turns nothing that lay.
-/
import Derived.Test.YtikhfojbekpoeaaDoorFAwake
import Derived.Test.YtikhfojbekpoeaaDoorFKept
import Derived.Test.YtikhfojbekpoeaaDoorFRefM
import Derived.Test.YtikhfojbekpoeaaDoorFRefP
import Derived.Test.YtikhfojbekpoeaaDoorFRefS
import Derived.Test.YtikhfojbekpoeaaDoorTxtH
import Derived.Test.YtikhfojbekpoeaaDoorTxtL
namespace Go.TreeLib
open Go
theorem put_le (t : List Fl) (p d : ByteArray) : (put t p d).length ≤ t.length + 1 := by
  unfold put
  rw [isort_length, List.length_append]
  have := (drop_sub t p).length_le
  simp
  omega
theorem paths_none (t u : List Fl) : paths [t, u, []] = paths [t, u] := by unfold paths; simp
end Go.TreeLib
namespace Go.Proofs.YtikhfojbekpoeaaDoor
open Go.RowKit Go.Shelf Go.SeqLib Go.DiffLib Go.TreeLib Go.BigFrame
attribute [local go_sem] Oper.semAt_some

set_option maxRecDepth 100000 in
set_option maxHeartbeats 4000000 in
theorem tells_law (p0 : Option Addr) (n cap : Nat) (zs : List Fl) (p1 : Option Addr) (nu capu : Nat) (us : List Fl) (p d : ByteArray) (w : World) (hv : SlF w (.slice p0 n cap) zs) (hn : zs.length = n) (hu : SlF w (.slice p1 nu capu) us) (hnu : us.length = nu) (_ : p.size ≤ maxLen) (_ : d.size ≤ maxLen) :
    CallsIn Fence.wide 0 Tryd.prog 3 #[.slice p0 n cap, .slice p1 nu capu, .string p, .string d] w fun e w' => e = .returned (.bool true) ∧ Chg No w w' := by
  refine callsIn_of_wp Tryd.func3 rfl trivial ?_
  simp only [Tryd.ntmps3, List.size_toArray, List.length_cons, List.length_nil, Nat.reduceAdd, Nat.reduceSub, Array.replicate_succ, Array.replicate_zero, List.push_toArray, List.append_toArray, List.nil_append, List.cons_append]
  gi_wp2_with fail
  refine ⟨trivial, rfl, (greatF_in (.slice p0 n cap) zs 20 w hv).mono ?_⟩
  rintro e w0 ⟨rfl, rfl⟩
  cases hg : greatF zs 20 with
  | true =>
    gi_wp2_with fail
    refine ⟨trivial, ?_⟩
    rename_i hKK
    apply hKK
    gi_wp2_with fail
    refine ⟨trivial, rfl, (awake_in _).mono ?_⟩
    rintro e w9 ⟨rfl, c9⟩
    gi_wp2
    go_ret
    exact ⟨rfl, c9⟩
  | false =>
  obtain ⟨hlen, hsz⟩ := greatF_false hg
  clear hg
  gi_wp2_with fail
  refine ⟨trivial, rfl, (greatF_in (.slice p1 nu capu) us 20 w0 hu).mono ?_⟩
  rintro e w1 ⟨rfl, rfl⟩
  cases hg : greatF us 20 with
  | true =>
    gi_wp2_with fail
    refine ⟨trivial, rfl, (awake_in _).mono ?_⟩
    rintro e w9 ⟨rfl, c9⟩
    gi_wp2
    go_ret
    exact ⟨rfl, c9⟩
  | false =>
  obtain ⟨hlenu, hszu⟩ := greatF_false hg
  clear hg
  by_cases h1 : 100 < p.size
  · have g1 : (100 : Int) < (p.size : Int) := by omega
    gi_wp2_with fail
    refine ⟨trivial, rfl, (awake_in _).mono ?_⟩
    rintro e w9 ⟨rfl, c9⟩
    gi_wp2
    go_ret
    exact ⟨rfl, c9⟩
  have g1 : ¬ (100 : Int) < (p.size : Int) := by omega
  by_cases h2 : 500 < d.size
  · have g2 : (500 : Int) < (d.size : Int) := by omega
    gi_wp2_with fail
    refine ⟨trivial, rfl, (awake_in _).mono ?_⟩
    rintro e w9 ⟨rfl, c9⟩
    gi_wp2
    go_ret
    exact ⟨rfl, c9⟩
  have g2 : ¬ (500 : Int) < (d.size : Int) := by omega
  gi_wp2_with fail
  refine ⟨trivial, rfl, (lendF_in _ zs (by omega) _ hv).mono ?_⟩
  rintro e w2 ⟨v2, rfl, l2, r2, c2⟩
  obtain ⟨pi, ki, rfl⟩ := r2.slice
  rw [hn] at l2 r2 ⊢
  have hlb : ∀ k, Value.ownBlock (.slice pi n ki) = some k → k < w2.heap.size := fun k hk => (World.ownsRow.lt r2 k hk).2
  have s2 := r2.sl
  have hv2 := hv.no c2
  have hu2 := hu.no c2
  have hvb := hv.lt
  have hs12 := c2.size
  clear r2
  have G1 := get_in (.slice pi n ki) zs p w2 s2
  have G2 := fun W h => refGet_in (.slice p0 n cap) zs p W h
  generalize getD zs p = gs at G1 G2
  generalize (TreeLib.get zs p).isSome = gb at G1 G2
  have qgs : (gs.toList == gs.toList) = true := beq_self_eq_true _
  have qgb : (gb == gb) = true := beq_self_eq_true _
  gi_wp2_with fail
  refine ⟨trivial, rfl, G1.mono ?_⟩
  rintro e w3 ⟨rfl, c3⟩
  gi_wp2_with fail
  refine ⟨trivial, rfl, (G2 _ (hv2.no c3)).mono ?_⟩
  rintro e w4 ⟨rfl, c4⟩
  have c24 := Chg.seq c3 c4
  have s4 := s2.no c24
  have l4 := l2.no c24
  have hv4 := hv2.no c24
  have hu4 := hu2.no c24
  have c14 := Chg.seq c2 c24
  have hs24 := c24.size
  clear G1 G2 s2 l2 hv2 hu2 c2 c3 c4 c24
  gi_wp2_with fail
  refine ⟨trivial, rfl, (put_in _ zs p d (by omega) _ s4).mono ?_⟩
  rintro e w5 ⟨v5, rfl, r5, c5⟩
  gi_wp2_with fail
  refine ⟨trivial, rfl, (drop_in _ zs p (by omega) _ (s4.no c5)).mono ?_⟩
  rintro e w6 ⟨v6, rfl, r6, c6⟩
  have hs45 := c5.size
  have hs56 := c6.size
  have c46 := Chg.seq c5 c6
  have ca : Chg No w6 (w6.alloc (.cells #[.slice pi n ki, .slice p1 nu capu, .slice none 0 0] 22)) := (Chg.refl _ w6).alloc _
  have sp : SlV (w6.alloc (.cells #[.slice pi n ki, .slice p1 nu capu, .slice none 0 0] 22)) (.slice (some ⟨w6.heap.size, 0, none⟩) 3 3) [.slice pi n ki, .slice p1 nu capu, .slice none 0 0] := SlV.made w6 [.slice pi n ki, .slice p1 nu capu, .slice none 0 0] 22 (by simp)
  have P1 := paths_in (.slice (some ⟨w6.heap.size, 0, none⟩) 3 3) [(.slice pi n ki, zs), (.slice p1 nu capu, us), (.slice none 0 0, [])] (w6.alloc (.cells #[.slice pi n ki, .slice p1 nu capu, .slice none 0 0] 22)) sp (by
    intro q hq
    rcases List.mem_cons.1 hq with rfl | hq
    · exact (s4.no c46).no ca
    rcases List.mem_cons.1 hq with rfl | hq
    · exact (hu4.no c46).no ca
    · rw [List.mem_singleton.1 hq]; exact SlE.nil) (by simp [toldP]; omega)
  rw [show ([(Value.slice pi n ki, zs), (.slice p1 nu capu, us), (.slice none 0 0, [])].map (·.2)) = [zs, us, []] from rfl, paths_none] at P1
  have R1 := fun tv W h1 h2 => refPaths_in tv [(.slice p0 n cap, zs), (.slice p1 nu capu, us)] W h1 h2 (by simp [toldP]; omega)
  have hpl : (paths [zs, us]).length ≤ 40 := by
    unfold paths
    refine Nat.le_trans (rise_le _) ?_
    simp
    omega
  rw [show ([(Value.slice p0 n cap, zs), (.slice p1 nu capu, us)].map (·.2)) = [zs, us] from rfl] at R1
  generalize paths [zs, us] = out at P1 R1 hpl
  gi_wp2_with fail
  refine ⟨trivial, rfl, P1.mono ?_⟩
  rintro e w7 ⟨v7, rfl, r7, c7⟩
  have c67 := Chg.seq ca c7
  have hs67 := c67.size
  have hb7 : w6.heap.size ≤ (w6.alloc (.cells #[.slice pi n ki, .slice p1 nu capu, .slice none 0 0] 22)).heap.size := ca.size
  have r7' := rowBase r7 hb7
  have c47 := Chg.seq c46 c67
  have c17 := Chg.seq c14 c47
  have s7 := s4.no c47
  have l7 := l4.no c47
  have hv7 := hv4.no c47
  have hu7 := hu4.no c47
  have r57 := r5.no (Chg.seq c6 c67)
  have r67 := r6.no c67
  have HB5 : Hid (∀ k, v5.ownBlock = some k → w4.heap.size ≤ k ∧ k < w5.heap.size) := fun k hk => World.ownsRow.lt r5 k hk
  have HB6 : Hid (∀ k, v6.ownBlock = some k → w5.heap.size ≤ k ∧ k < w6.heap.size) := fun k hk => World.ownsRow.lt r6 k hk
  have HB7 : Hid (∀ k, v7.ownBlock = some k → w6.heap.size ≤ k) := fun k hk => (World.ownsRow.lt r7' k hk).1
  clear P1 sp ca c7 c67 hb7 r7 c46 c47 c5 c6 c14 s4 l4 hv4 hu4 r5 r6
  gi_wp2_with fail
  refine ⟨trivial, rfl, (refPut_in (.slice p0 n cap) zs p d (by omega) _ hv7).mono ?_⟩
  rintro e w8 ⟨v8, rfl, r8, c8⟩
  have hpu : (TreeLib.put zs p d).length ≤ 1000 := by have := put_le zs p d; omega
  have S8 := sameF_in v5 v8 _ _ w8 (r57.sl.no c8) r8.sl (by omega)
  rw [decide_eq_true rfl] at S8
  gi_wp2_with fail
  refine ⟨trivial, rfl, S8.mono ?_⟩
  rintro e w9 ⟨rfl, c9⟩
  have c79 := Chg.seq c8 c9
  clear S8 r8 c8 c9
  gi_wp2_with fail
  refine ⟨trivial, rfl, (refDrop_in (.slice p0 n cap) zs p (by omega) _ (hv7.no c79)).mono ?_⟩
  rintro e wA ⟨vA, rfl, rA, cA⟩
  have hdl : (TreeLib.drop zs p).length ≤ 1000 := by have := (drop_sub zs p).length_le; omega
  have SA := sameF_in v6 vA _ _ wA ((r67.sl.no c79).no cA) rA.sl (by omega)
  rw [decide_eq_true rfl] at SA
  gi_wp2_with fail
  refine ⟨trivial, rfl, SA.mono ?_⟩
  rintro e wB ⟨rfl, cB⟩
  have c7B := Chg.seq c79 (Chg.seq cA cB)
  clear SA rA cA cB c79
  have ca : Chg No wB (wB.alloc (.cells #[.slice p0 n cap, .slice p1 nu capu] 22)) := (Chg.refl _ wB).alloc _
  have sp : SlV (wB.alloc (.cells #[.slice p0 n cap, .slice p1 nu capu] 22)) (.slice (some ⟨wB.heap.size, 0, none⟩) 2 2) [.slice p0 n cap, .slice p1 nu capu] := SlV.made wB [.slice p0 n cap, .slice p1 nu capu] 22 (by simp)
  have R2 := R1 _ _ sp (by
    intro q hq
    rcases List.mem_cons.1 hq with rfl | hq
    · exact (hv7.no c7B).no ca
    · rw [List.mem_singleton.1 hq]; exact (hu7.no c7B).no ca)
  clear R1
  gi_wp2_with fail
  refine ⟨trivial, rfl, R2.mono ?_⟩
  rintro e wC ⟨vC, rfl, rC, cC⟩
  have c7C := Chg.seq c7B (Chg.seq ca cC)
  have s7v : SlV w7 v7 (out.map Value.string) := SlV.ofRow (by rw [List.length_map]; exact r7')
  have SC := sameS_in v7 vC out out wC (s7v.no c7C) (OwnT.sl rC)
  rw [decide_eq_true rfl] at SC
  clear R2 sp ca cC c7B
  gi_wp2_with fail
  refine ⟨trivial, rfl, SC.mono ?_⟩
  rintro e wD ⟨rfl, cD⟩
  have c7D := Chg.seq c7C cD
  have PD1 := path_in p wD
  have PD2 := fun W => refPath_in p W
  generalize pathB (Bs p) = bp at PD1 PD2
  have qbp : (bp == bp) = true := beq_self_eq_true _
  clear SC rC cD c7C s7v
  gi_wp2_with fail
  refine ⟨trivial, rfl, PD1.mono ?_⟩
  rintro e wE ⟨rfl, cE⟩
  gi_wp2_with fail
  refine ⟨trivial, rfl, (PD2 _).mono ?_⟩
  rintro e wF ⟨rfl, cF⟩
  have c7F := Chg.seq c7D (Chg.seq cE cF)
  have MF1 := may_in (.slice pi n ki) zs (fun f hf => by have := (hsz f hf).1; omega) wF (s7.no c7F)
  have MF2 := fun W h => refMay_in (.slice p0 n cap) zs W h
  generalize mayB zs = bm at MF1 MF2
  have qbm : (bm == bm) = true := beq_self_eq_true _
  clear PD1 PD2 c7D cE cF
  gi_wp2_with fail
  refine ⟨trivial, rfl, MF1.mono ?_⟩
  rintro e wG ⟨rfl, cG⟩
  gi_wp2_with fail
  refine ⟨trivial, rfl, (MF2 _ ((hv7.no c7F).no cG)).mono ?_⟩
  rintro e wH ⟨rfl, cH⟩
  have c7H := Chg.seq c7F (Chg.seq cG cH)
  have ST1 := sameT_in (.slice pi n ki) (.slice p1 nu capu) zs us wH (s7.no c7H) (hu7.no c7H) (by omega)
  have ST2 := fun W h1 h2 => sameF_in (.slice p0 n cap) (.slice p1 nu capu) zs us W h1 h2 (by omega)
  generalize decide (zs = us) = be at ST1 ST2
  have qbe : (be == be) = true := beq_self_eq_true _
  clear MF1 MF2 c7F cG cH
  gi_wp2_with fail
  refine ⟨trivial, rfl, ST1.mono ?_⟩
  rintro e wI ⟨rfl, cI⟩
  gi_wp2_with fail
  refine ⟨trivial, rfl, (ST2 _ ((hv7.no c7H).no cI) ((hu7.no c7H).no cI)).mono ?_⟩
  rintro e wJ ⟨rfl, cJ⟩
  have c7J := Chg.seq c7H (Chg.seq cI cJ)
  clear ST1 ST2 c7H cI cJ
  gi_wp2_with fail
  refine ⟨trivial, rfl, (all_in _ zs (by omega) _ (s7.no c7J)).mono ?_⟩
  rintro e wK ⟨gf, lb, D, rfl, sK, cK, hD⟩
  gi_wp2_with fail
  refine ⟨trivial, rfl, (filesF_seq 100 (by omega) wK sK zs (by rw [List.take_of_length_le (by omega)])).mono ?_⟩
  rintro e wL ⟨vL, rfl, rL, cL⟩
  have c7L := Chg.seq c7J (Chg.seq cK cL)
  have SL := sameF_in vL (.slice p0 n cap) zs zs wL rL.sl (hv7.no c7L) (by omega)
  rw [decide_eq_true rfl] at SL
  clear sK hD cK cL c7J
  gi_wp2_with fail
  refine ⟨trivial, rfl, SL.mono ?_⟩
  rintro e wM ⟨rfl, cM⟩
  have c7M := Chg.seq c7L cM
  have r5M := r57.no c7M
  have r6M := r67.no c7M
  have r7M := row_kept r7' (fun k hk => c7M.block k (World.ownsRow.lt r7' k hk).2 (fun h => h))
  have l7M := l7.no c7M
  have hvM := hv7.no c7M
  have c1M := Chg.seq c17 c7M
  have hs7M := c7M.size
  clear SL rL cM c7L c7M c17 r57 r67 r7' l7 hv7 hu7 s7 qgs qgb qbp qbm qbe
  gi_wp2_with fail
  refine ⟨trivial, rfl, (overF_in v5 _ _ _ (by omega) _ (by omega) r5M).mono ?_⟩
  rintro e wN ⟨⟨rN, rfl⟩, cN⟩
  have r6N := r6M.chg cN (fun k h1 h2 => by have a := HB6.out k h1; have b := HB5.out k h2; omega)
  have r7N := row_kept r7M (fun k hk => cN.block k (World.ownsRow.lt r7M k hk).2 (fun h2 => by have a := HB7.out k hk; have b := HB5.out k h2; omega))
  have hsN := cN.size
  gi_wp2_with fail
  refine ⟨trivial, rfl, (overF_in v6 _ _ _ (by omega) _ (by omega) r6N).mono ?_⟩
  rintro e wO ⟨⟨rO, rfl⟩, cO⟩
  have r7O := row_kept r7N (fun k hk => cO.block k (World.ownsRow.lt r7N k hk).2 (fun h2 => by have a := HB7.out k hk; have b := HB6.out k h2; omega))
  have hsO := cO.size
  gi_wp2_with fail
  refine ⟨trivial, rfl, (overS_in v7 _ _ _ (by omega) _ (by omega) r7O).mono ?_⟩
  rintro e wP ⟨⟨rP, rfl⟩, cP⟩
  have cB : Chg (fun k => w4.heap.size ≤ k) wM wP := by
    refine Chg.trans (Chg.trans (cN.mono (fun k h => (HB5.out k h).1)) (cO.mono (S' := fun k => w4.heap.size ≤ k) (fun k h => ?_)) (fun k h => .inl h)) (cP.mono (S' := fun k => w4.heap.size ≤ k) (fun k h => ?_)) (fun k h => .inl h)
    · have := (HB6.out k h).1; omega
    · have := HB7.out k h; omega
  have lP := l7M.chg cB (fun k h1 h2 => by have := hlb k h1; omega)
  have hvP := hvM.chg cB (fun k h1 h2 => by have := hvb k h1; omega)
  have c1P : Chg No w1 wP := c1M.trans cB (fun k h => .inr (by omega))
  clear r6N r7N r7O cN cO cP cB c1M r5M r6M r7M l7M hvM
  gi_wp2_with fail
  refine ⟨trivial, rfl, (keptF_in _ _ zs (by omega) _ _ lP hvP).mono ?_⟩
  rintro e wQ ⟨rfl, cQ⟩
  gi_wp2_with fail
  refine ⟨trivial, rfl, (awake_in _).mono ?_⟩
  rintro e wR ⟨rfl, cR⟩
  gi_wp2
  go_ret
  exact ⟨rfl, Chg.seq c1P (Chg.seq cQ cR)⟩

end Go.Proofs.YtikhfojbekpoeaaDoor
