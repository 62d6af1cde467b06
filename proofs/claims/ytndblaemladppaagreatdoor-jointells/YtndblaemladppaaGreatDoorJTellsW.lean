/-
  JoinTells answers true at every three lists of files, and turns nothing that lay.
-/
import Derived.Test.YtndblaemladppaaGreatDoorJLaw
import Derived.Test.YtndblaemladppaaGreatDoorJRefC
import Derived.Test.YtndblaemladppaaGreatDoorJRefD
import Derived.Test.YtndblaemladppaaGreatDoorFKept
import Derived.Test.YtndblaemladppaaGreatDoorTxtL
namespace Go.Proofs.YtndblaemladppaaGreatDoor
open Go.RowKit Go.Shelf Go.SeqLib Go.DiffLib Go.TreeLib Go.TextLib Go.BigFrame
attribute [local go_sem] Oper.semAt_some

theorem bad_len (o a b : List Fl) (ho : o.length ≤ 14) (ha : a.length ≤ 14) (hb : b.length ≤ 14) : (ofJ o a b).2.length ≤ 100 := by
  unfold ofJ
  split
  · split
    · exact Nat.zero_le _
    · refine Nat.le_trans (rise_len _) ?_
      unfold bad3 sunk
      have hl := all3_len o a b
      have h1 := clashL_len o a b (all3 o a b)
      have h2 : (came3 o a b).length ≤ (all3 o a b).length := List.length_filterMap_le _ _
      have h3 : ((came3 o a b).filter (fun f => nested (came3 o a b) f.1)).length ≤ (came3 o a b).length := List.length_filter_le _ _
      rw [List.length_append, List.length_append, List.length_map]
      have h4 : (if 12 < (came3 o a b).length then [star] else ([] : List ByteArray)).length ≤ 1 := by split <;> simp
      omega
  · simp

set_option maxRecDepth 100000 in
set_option maxHeartbeats 4000000 in
theorem jtells_law (J : JoinSpec) (p0 : Option Addr) (n0 k0 : Nat) (o : List Fl) (p1 : Option Addr) (n1 k1 : Nat) (a : List Fl) (p2 : Option Addr) (n2 k2 : Nat) (b : List Fl) (w : World) (ho : SlF w (.slice p0 n0 k0) o) (hn0 : o.length = n0) (ha : SlF w (.slice p1 n1 k1) a) (hn1 : a.length = n1) (hb : SlF w (.slice p2 n2 k2) b) (hn2 : b.length = n2) :
    CallsIn Fence.wide 0 Tryz.prog 3 #[.slice p0 n0 k0, .slice p1 n1 k1, .slice p2 n2 k2] w fun e w' => e = .returned (.bool true) ∧ Chg No w w' := by
  have G1 := great_in (.slice p0 n0 k0) (.slice p1 n1 k1) (.slice p2 n2 k2) o a b w ho ha hb
  obtain ⟨g, hg⟩ : ∃ g, greatJ o a b = g := ⟨_, rfl⟩
  have HGr : Hid (greatJ o a b = g) := hg
  rw [hg] at G1
  clear hg
  refine callsIn_of_wp Tryz.func3 rfl trivial ?_
  simp only [Tryz.ntmps3, List.size_toArray, List.length_cons, List.length_nil, Nat.reduceAdd, Nat.reduceSub, Array.replicate_succ, Array.replicate_zero, List.push_toArray, List.append_toArray, List.nil_append, List.cons_append]
  gi_wp2_with fail
  refine ⟨trivial, rfl, G1.mono ?_⟩
  rintro e w0 ⟨rfl, rfl⟩
  cases g with
  | true =>
    gi_wp2_with fail
    refine ⟨trivial, rfl, (awake_in J _).mono ?_⟩
    rintro e w9 ⟨rfl, c9⟩
    gi_wp2
    go_ret
    exact ⟨rfl, c9⟩
  | false =>
  obtain ⟨⟨lo, fo⟩, ⟨la, fa⟩, ⟨lb, fb⟩⟩ := greatJ_few HGr.out
  have hvo := ho.lt
  have hva := ha.lt
  have hvb := hb.lt
  clear HGr G1
  gi_wp2_with fail
  refine ⟨trivial, rfl, (lendF_in _ o (by omega) _ ho).mono ?_⟩
  rintro e w1 ⟨x1, rfl, l1, r1, c1⟩
  gi_wp2_with fail
  refine ⟨trivial, rfl, (lendF_in _ a (by omega) _ (ha.no c1)).mono ?_⟩
  rintro e w2 ⟨x2, rfl, l2, r2, c2⟩
  have c02 := Chg.seq c1 c2
  gi_wp2_with fail
  refine ⟨trivial, rfl, (lendF_in _ b (by omega) _ (hb.no c02)).mono ?_⟩
  rintro e w3 ⟨x3, rfl, l3, r3, c3⟩
  have c03 := Chg.seq c02 c3
  obtain ⟨q1, j1, rfl⟩ := r1.slice
  obtain ⟨q2, j2, rfl⟩ := r2.slice
  obtain ⟨q3, j3, rfl⟩ := r3.slice
  rw [hn0] at l1 r1 ⊢
  rw [hn1] at l2 r2 ⊢
  rw [hn2] at l3 r3 ⊢
  have hs12 := c2.size
  have hs23 := c3.size
  have hs03 := c03.size
  have hb1 : ∀ k, Value.ownBlock (.slice q1 n0 j1) = some k → k < w3.heap.size := fun k hk => by have := (World.ownsRow.lt r1 k hk).2; omega
  have hb2 : ∀ k, Value.ownBlock (.slice q2 n1 j2) = some k → k < w3.heap.size := fun k hk => by have := (World.ownsRow.lt r2 k hk).2; omega
  have hb3 : ∀ k, Value.ownBlock (.slice q3 n2 j3) = some k → k < w3.heap.size := fun k hk => (World.ownsRow.lt r3 k hk).2
  have s1 := (r1.no (Chg.seq c2 c3)).sl
  have s2 := (r2.no c3).sl
  have s3 := r3.sl
  have l13 := l1.no (Chg.seq c2 c3)
  have l23 := l2.no c3
  have ho3 := ho.no c03
  have ha3 := ha.no c03
  have hb3' := hb.no c03
  clear l1 l2 r1 r2 r3 c1 c2 c02 c3 ho ha hb
  have J1 := J.of _ _ _ o a b w3 s1 s2 s3 fo fa fb
  have R1 := fun W h1 h2 h3 => jOf_in (.slice p0 n0 k0) (.slice p1 n1 k1) (.slice p2 n2 k2) o a b W h1 h2 h3
  have hjl := ofJ_len o a b
  have V1 := fun W h1 h2 h3 => J.vir (.slice q1 n0 j1) (.slice q2 n1 j2) (.slice q3 n2 j3) o a b W h1 h2 h3 fo fa fb
  have V2 := fun W h1 h2 h3 => jVir_in (.slice p0 n0 k0) (.slice p1 n1 k1) (.slice p2 n2 k2) o a b W h1 h2 h3
  have hvl := virJ_len o a b
  have hol : (ofJ o a b).2.length ≤ 1000 := by have := bad_len o a b (by omega) (by omega) (by omega); omega
  generalize (ofJ o a b).1 = t at J1 R1 hjl
  generalize (ofJ o a b).2 = bd at J1 R1 hol
  generalize virJ o a b = vr at V1 V2 hvl
  gi_wp2_with fail
  refine ⟨trivial, rfl, J1.mono ?_⟩
  rintro e w4 ⟨v4, b4, rfl, r4, t4, c4⟩
  have HB4 : Hid (∀ k, v4.ownBlock = some k → w3.heap.size ≤ k ∧ k < w4.heap.size) := fun k hk => World.ownsRow.lt r4 k hk
  have HT4 : Hid (∀ k, b4.ownBlock = some k → w3.heap.size ≤ k ∧ k < w4.heap.size) := fun k hk => World.ownsRow.lt t4 k hk
  gi_wp2_with fail
  refine ⟨trivial, rfl, (R1 _ (ho3.no c4) (ha3.no c4) (hb3'.no c4)).mono ?_⟩
  rintro e w5 ⟨v5, b5, rfl, r5, t5, c5⟩
  have c35 := Chg.seq c4 c5
  gi_wp2_with fail
  refine ⟨trivial, rfl, (V1 _ (s1.no c35) (s2.no c35) (s3.no c35)).mono ?_⟩
  rintro e w6 ⟨v6, rfl, r6, c6⟩
  have c36 := Chg.seq c35 c6
  have HB6 : Hid (∀ k, v6.ownBlock = some k → w5.heap.size ≤ k ∧ k < w6.heap.size) := fun k hk => World.ownsRow.lt r6 k hk
  have hs45 := c5.size
  have hs34 := c4.size
  have r46 := r4.no (Chg.seq c5 c6)
  have t46 := OwnT.no t4 (Chg.seq c5 c6)
  have S1 := sameF_in v4 v5 t t w6 r46.sl (r5.no c6).sl (by omega)
  rw [decide_eq_true rfl] at S1
  clear J1 R1 V1 r4 t4 c4 c35
  gi_wp2_with fail
  refine ⟨trivial, rfl, S1.mono ?_⟩
  rintro e w7 ⟨rfl, c7⟩
  have S2 := sameS_in b4 b5 bd bd w7 (OwnT.sl (OwnT.no t46 c7)) (OwnT.sl (OwnT.no t5 (Chg.seq c6 c7)))
  rw [decide_eq_true rfl] at S2
  clear S1
  gi_wp2_with fail
  refine ⟨trivial, rfl, S2.mono ?_⟩
  rintro e w8 ⟨rfl, c8⟩
  have c68 := Chg.seq c7 c8
  have c38 := Chg.seq c36 c68
  gi_wp2_with fail
  refine ⟨trivial, rfl, (V2 _ (ho3.no c38) (ha3.no c38) (hb3'.no c38)).mono ?_⟩
  rintro e w9 ⟨v9, rfl, r9, c9⟩
  have c69 := Chg.seq c68 c9
  have S3 := sameF_in v6 v9 vr vr w9 (r6.no c69).sl r9.sl (by omega)
  rw [decide_eq_true rfl] at S3
  clear S2 V2 r5 t5 c5 c7 c8 c38
  gi_wp2_with fail
  refine ⟨trivial, rfl, S3.mono ?_⟩
  rintro e wA ⟨rfl, cA⟩
  have c6A := Chg.seq c69 cA
  have c3A := Chg.seq c36 c6A
  have r4A := r46.no c6A
  have t4A := OwnT.no t46 c6A
  have r6A := r6.no c6A
  have l1A := l13.no c3A
  have l2A := l23.no c3A
  have l3A := l3.no c3A
  have hoA := ho3.no c3A
  have haA := ha3.no c3A
  have hbA := hb3'.no c3A
  have c0A := Chg.seq c03 c3A
  have hsA := c3A.size
  have hs6A := c6A.size
  have hs56 := c6.size
  clear S3 r9 c9 cA c69 c68 c6 c36 r46 t46 r6 c6A l13 l23 l3 ho3 ha3 hb3' c03 c3A s1 s2 s3
  gi_wp2_with fail
  refine ⟨trivial, rfl, (overF_in v4 _ _ _ (by omega) _ (by omega) r4A).mono ?_⟩
  rintro e wB ⟨⟨rB, rfl⟩, cB⟩
  have t4B := OwnT.chg t4A cB (fun k h1 h2 => row_apart (by decide) t4A r4A k h1 h2)
  have r6B := r6A.chg cB (fun k h1 h2 => by have a := HB6.out k h1; have b := HB4.out k h2; omega)
  have hsB := cB.size
  gi_wp2_with fail
  refine ⟨trivial, rfl, (overS_in b4 _ _ _ (by omega) _ (by omega) t4B).mono ?_⟩
  rintro e wC ⟨⟨rC, rfl⟩, cC⟩
  have r6C := r6B.chg cC (fun k h1 h2 => by have a := HB6.out k h1; have b := HT4.out k h2; omega)
  have hsC := cC.size
  gi_wp2_with fail
  refine ⟨trivial, rfl, (overF_in v6 _ _ _ (by omega) _ (by omega) r6C).mono ?_⟩
  rintro e wD ⟨⟨rD, rfl⟩, cD⟩
  have cE : Chg (fun k => w3.heap.size ≤ k) wA wD := by
    refine Chg.trans (Chg.trans (cB.mono (fun k h => (HB4.out k h).1)) (cC.mono (S' := fun k => w3.heap.size ≤ k) (fun k h => (HT4.out k h).1)) (fun k h => .inl h)) (cD.mono (S' := fun k => w3.heap.size ≤ k) (fun k h => ?_)) (fun k h => .inl h)
    have := (HB6.out k h).1
    omega
  have l1E := l1A.chg cE (fun k h1 h2 => by have := hb1 k h1; omega)
  have l2E := l2A.chg cE (fun k h1 h2 => by have := hb2 k h1; omega)
  have l3E := l3A.chg cE (fun k h1 h2 => by have := hb3 k h1; omega)
  have hoE := hoA.chg cE (fun k h1 h2 => by have := hvo k h1; omega)
  have haE := haA.chg cE (fun k h1 h2 => by have := hva k h1; omega)
  have hbE := hbA.chg cE (fun k h1 h2 => by have := hvb k h1; omega)
  have c0E : Chg No w0 wD := c0A.trans cE (fun k h => .inr (by omega))
  clear r4A t4A r6A t4B r6B r6C cB cC cD cE c0A l1A l2A l3A hoA haA hbA
  gi_wp2_with fail
  refine ⟨trivial, rfl, (keptF_in _ _ o (by omega) _ _ l1E hoE).mono ?_⟩
  rintro e wF ⟨rfl, cF⟩
  gi_wp2_with fail
  refine ⟨trivial, rfl, (keptF_in _ _ a (by omega) _ _ (l2E.no cF) (haE.no cF)).mono ?_⟩
  rintro e wG ⟨rfl, cG⟩
  have cEG := Chg.seq cF cG
  gi_wp2_with fail
  refine ⟨trivial, rfl, (keptF_in _ _ b (by omega) _ _ (l3E.no cEG) (hbE.no cEG)).mono ?_⟩
  rintro e wH ⟨rfl, cH⟩
  gi_wp2_with fail
  refine ⟨trivial, rfl, (awake_in J _).mono ?_⟩
  rintro e wI ⟨rfl, cI⟩
  gi_wp2
  go_ret
  exact ⟨rfl, Chg.seq c0E (Chg.seq cEG (Chg.seq cH cI))⟩

end Go.Proofs.YtndblaemladppaaGreatDoor
