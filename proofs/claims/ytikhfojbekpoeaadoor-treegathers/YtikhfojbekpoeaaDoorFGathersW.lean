/-
  TreeGathers answers true at every two lists of files and place, and turns nothing that lay.
-/
import Derived.Test.YtikhfojbekpoeaaDoorFAwake
import Derived.Test.YtikhfojbekpoeaaDoorFGet
import Derived.Test.YtikhfojbekpoeaaDoorFLend
import Derived.Test.YtikhfojbekpoeaaDoorFPaths
import Derived.Test.YtikhfojbekpoeaaDoorTxtH
import Derived.Test.YtikhfojbekpoeaaDoorLow
namespace Go.TreeLib
open Go
/-- What is gathered of the first i. -/
def gth (rs : List Fl) (i : Nat) : List Fl := (rs.take i).foldl (fun out f => put out f.1 f.2) []
theorem gth_succ {rs : List Fl} {i : Nat} {x : Fl} (h : rs[i]? = some x) : gth rs (i + 1) = put (gth rs i) x.1 x.2 := by
  obtain ⟨hi, rfl⟩ := List.getElem?_eq_some_iff.1 h
  unfold gth
  rw [List.take_succ_eq_append_getElem hi, List.foldl_append]
  rfl
theorem put_length_le (t : List Fl) (p d : ByteArray) : (put t p d).length ≤ t.length + 1 := by
  unfold put
  rw [isort_length, List.length_append]
  have := (drop_sub t p).length_le
  simp
  omega
theorem gth_length (rs : List Fl) : ∀ i, i ≤ rs.length → (gth rs i).length ≤ i
  | 0, _ => Nat.le_refl _
  | i + 1, h => by
    rw [gth_succ (List.getElem?_eq_getElem (show i < rs.length by omega))]
    have := put_length_le (gth rs i) rs[i].1 rs[i].2
    have := gth_length rs i (by omega)
    omega
theorem gth_all {t rs : List Fl} (h : Once t) (hp : rs.Perm t) : gth rs rs.length = t := by
  unfold gth
  rw [List.take_length]
  exact gather_up h hp
/-- How many of the first j are not in t. -/
def cntP (t u : List Fl) (j : Nat) : Nat := ((u.take j).filter (fun f => (get t f.1).isNone)).length
theorem cntP_succ {t u : List Fl} {j : Nat} {x : Fl} (h : u[j]? = some x) : cntP t u (j + 1) = cntP t u j + if (get t x.1).isSome = true then 0 else 1 := by
  obtain ⟨hi, rfl⟩ := List.getElem?_eq_some_iff.1 h
  unfold cntP
  rw [List.take_succ_eq_append_getElem hi, List.filter_append, List.length_append]
  cases hg : get t u[j].1 with
  | none => simp [hg]
  | some y => simp [hg]
theorem cntP_le (t u : List Fl) (j : Nat) : cntP t u j ≤ u.length := by
  unfold cntP
  exact Nat.le_trans (List.length_filter_le _ _) (by rw [List.length_take]; omega)
theorem drop_cons_of {rs : List Fl} {i : Nat} {x : Fl} (h : rs[i]? = some x) : rs.drop i = x :: rs.drop (i + 1) := by
  obtain ⟨hi, rfl⟩ := List.getElem?_eq_some_iff.1 h
  exact List.drop_eq_getElem_cons hi
theorem tmod_nat (m i n : Nat) : ((m : Int) + (i : Int)).tmod (n : Int) = (((m + i) % n : Nat) : Int) := by
  rw [← Int.natCast_add]
  rfl
end Go.TreeLib
namespace Go.Proofs.YtikhfojbekpoeaaDoor
open Go.RowKit Go.Shelf Go.SeqLib Go.DiffLib Go.TreeLib Go.BigFrame
attribute [local go_sem] Oper.semAt_some

set_option maxRecDepth 100000 in
set_option maxHeartbeats 2000000 in
theorem gathers_law (p0 : Option Addr) (n cap : Nat) (zs : List Fl) (p1 : Option Addr) (nu capu : Nat) (us : List Fl) (at0 : Int) (w : World) (hv : SlF w (.slice p0 n cap) zs) (hn : zs.length = n) (hu : SlF w (.slice p1 nu capu) us) (hnu : us.length = nu) :
    CallsIn Fence.wide 0 Tryd.prog 7 #[.slice p0 n cap, .slice p1 nu capu, .int .i64 at0] w fun e w' => e = .returned (.bool true) ∧ Chg No w w' := by
  refine callsIn_of_wp Tryd.func7 rfl trivial ?_
  simp only [Tryd.ntmps7, List.size_toArray, List.length_cons, List.length_nil, Nat.reduceAdd, Nat.reduceSub, Array.replicate_succ, Array.replicate_zero, List.push_toArray, List.append_toArray, List.nil_append, List.cons_append]
  gi_wp2_with fail
  refine ⟨trivial, rfl, (greatF_in (.slice p0 n cap) zs 12 w hv).mono ?_⟩
  rintro e w0 ⟨rfl, rfl⟩
  cases hg : greatF zs 12 with
  | true =>
    gi_wp2_with fail
    refine ⟨trivial, ?_⟩
    rename_i hKK
    apply hKK
    gi_wp2_with fail
    refine ⟨trivial, ?_⟩
    rename_i hKK
    apply hKK
    gi_wp2_with fail
    refine ⟨trivial, ?_⟩
    rename_i hKK
    apply hKK
    gi_wp2_with fail
    refine ⟨trivial, rfl, (awake_in _).mono ?_⟩
    rintro e w9 ⟨rfl, c9⟩
    gi_wp2
    go_ret
    exact ⟨rfl, c9⟩
  | false =>
  obtain ⟨hlen, hsz⟩ := greatF_false hg
  clear hg
  gi_wp2_with fail
  refine ⟨trivial, rfl, (greatF_in (.slice p1 nu capu) us 12 w0 hu).mono ?_⟩
  rintro e w1 ⟨rfl, rfl⟩
  cases hg : greatF us 12 with
  | true =>
    gi_wp2_with fail
    refine ⟨trivial, ?_⟩
    rename_i hKK
    apply hKK
    gi_wp2_with fail
    refine ⟨trivial, ?_⟩
    rename_i hKK
    apply hKK
    gi_wp2_with fail
    refine ⟨trivial, rfl, (awake_in _).mono ?_⟩
    rintro e w9 ⟨rfl, c9⟩
    gi_wp2
    go_ret
    exact ⟨rfl, c9⟩
  | false =>
  obtain ⟨hlenu, hszu⟩ := greatF_false hg
  clear hg
  gi_wp2_with fail
  refine ⟨trivial, rfl, (may_in _ zs (fun f hf => by have := (hsz f hf).1; omega) _ hv).mono ?_⟩
  rintro e w2 ⟨rfl, c2⟩
  cases hm : mayB zs with
  | false =>
    gi_wp2_with fail
    refine ⟨trivial, ?_⟩
    rename_i hKK
    apply hKK
    gi_wp2_with fail
    refine ⟨trivial, rfl, (awake_in _).mono ?_⟩
    rintro e w9 ⟨rfl, c9⟩
    gi_wp2
    go_ret
    exact ⟨rfl, Chg.seq c2 c9⟩
  | true =>
  have hO := (mayB_iff.1 hm).once
  clear hm
  gi_wp2_with fail
  refine ⟨trivial, rfl, (may_in _ us (fun f hf => by have := (hszu f hf).1; omega) _ (hu.no c2)).mono ?_⟩
  rintro e w3 ⟨rfl, c3⟩
  have c03 := Chg.seq c2 c3
  clear c2 c3
  cases hm : mayB us with
  | false =>
    gi_wp2_with fail
    refine ⟨trivial, rfl, (awake_in _).mono ?_⟩
    rintro e w9 ⟨rfl, c9⟩
    gi_wp2
    go_ret
    exact ⟨rfl, Chg.seq c03 c9⟩
  | true =>
  have hOu := (mayB_iff.1 hm).once
  clear hm
  by_cases hz : n = 0
  · have hz' : ((n : Int) == 0) = true := by subst hz; rfl
    gi_wp2_with fail
    refine ⟨trivial, rfl, (awake_in _).mono ?_⟩
    rintro e w9 ⟨rfl, c9⟩
    gi_wp2
    go_ret
    exact ⟨rfl, Chg.seq c03 c9⟩
  have hz' : ((n : Int) == 0) = false := beq_eq_false_iff_ne.2 (by omega)
  obtain ⟨h0, h25⟩ := lowI_range at0 (n : Int) (by omega) (by omega)
  obtain ⟨m, HM⟩ : ∃ m : Nat, Hid (lowI at0 (n : Int) = (m : Int)) := ⟨(lowI at0 (n : Int)).toNat, by show _ = _; omega⟩
  have hmn : m < n := by have := HM.out; omega
  have L9 := low_in at0 (n : Int) (by omega) (by omega)
  rw [HM.out] at L9
  clear h0 h25 HM
  have hv3 := hv.no c03
  have hu3 := hu.no c03
  obtain ⟨rs, HRS⟩ : ∃ rs, Hid (rot zs m = rs) := ⟨_, rfl⟩
  have hrp : Hid (rs.Perm zs) := by rw [← HRS.out]; exact rot_perm zs m
  have hrl : rs.length = n := by rw [hrp.out.length_eq, hn]
  have hrg : ∀ i, i < n → rs[i]? = zs[(m + i) % n]? := fun i hi => by rw [← HRS.out, rot_get zs m i (by omega) (by omega), hn]
  clear HRS
  gi_wp2_with fail
  refine ⟨trivial, rfl, (L9 _).mono ?_⟩
  rintro e w4 ⟨rfl, rfl⟩
  clear L9
  gi_wp2
  gi_loopw [8, 7] (fun i o wr => ∃ k : Nat, k ≤ n ∧ i = .int .i64 (k : Int) ∧ SlF wr o (gth rs k) ∧ Chg No w4 wr) (fun i _ _ => n - (intOf i).toNat)
  case atStart => exact ⟨0, Nat.zero_le _, rfl, SlE.nil, Chg.refl _ _⟩
  case round =>
    obtain ⟨k, hk, rfl, so, c⟩ := hrel
    by_cases hlt : k < n
    · have hlt' : (k : Int) < (n : Int) := by omega
      have hj : (m + k) % n < zs.length := by rw [hn]; exact Nat.mod_lt _ (by omega)
      obtain ⟨x, hx⟩ : ∃ x, zs[(m + k) % n]? = some x := ⟨_, List.getElem?_eq_getElem hj⟩
      have HG := gth_succ ((hrg k hlt).trans hx)
      obtain ⟨b1, o1, rfl, hc1, hc2⟩ := SlF.at (hv3.no c) _ x hx
      have htm := tmod_nat m k n
      have hjn : (m + k) % n < n := by omega
      have hgl := gth_length rs k (by omega)
      generalize (m + k) % n = j at *
      have ca : Chg No wr (wr.alloc (.cells #[.string x.1, .string x.2] 46)) := (Chg.refl _ wr).alloc _
      have k0 : (wr.alloc (.cells #[.string x.1, .string x.2] 46)).cell? ⟨wr.heap.size, 0, none⟩ = some (.string x.1) := World.cell?_alloc_at _ _ _ _ rfl
      have k1 : (wr.alloc (.cells #[.string x.1, .string x.2] 46)).cell? ⟨wr.heap.size, 1, none⟩ = some (.string x.2) := World.cell?_alloc_at _ _ _ _ rfl
      gi_wp2_with fail
      refine ⟨trivial, rfl, (put_in _ (gth rs k) x.1 x.2 (by omega) _ (so.no ca)).mono ?_⟩
      rintro e w5 ⟨v5, rfl, r5, c5⟩
      have c' := Chg.seq c (Chg.seq ca c5)
      have s5 : SlF w5 v5 (gth rs (k + 1)) := by rw [HG]; exact r5.sl
      clear r5 HG
      gi_wp2
      go_roundw
      case rel => exact ⟨k + 1, hlt, by go_num, s5, c'⟩
      case measure => simp [intOf]; omega
    · have hlt' : ¬ (k : Int) < (n : Int) := by omega
      have hkn : k = n := by omega
      have HA : gth rs n = zs := by rw [← hrl]; exact gth_all hO hrp.out
      rw [hkn, HA] at so
      clear HA hkn
      have c05 := Chg.seq c03 c
      have hv5 := hv3.no c
      have hu5 := hu3.no c
      clear hv3 hu3 c03 c hv hu
      have S1 := sameF_in _ (.slice p0 n cap) zs zs wr so hv5 (by omega)
      rw [decide_eq_true rfl] at S1
      gi_wp2_with fail
      refine ⟨trivial, rfl, S1.mono ?_⟩
      rintro e w6 ⟨rfl, c6⟩
      have S2 := sameT_in _ (.slice p0 n cap) zs zs w6 (so.no c6) (hv5.no c6) (by omega)
      rw [decide_eq_true rfl] at S2
      clear S1
      gi_wp2_with fail
      refine ⟨trivial, rfl, S2.mono ?_⟩
      rintro e w7 ⟨rfl, c7⟩
      have c57 := Chg.seq c6 c7
      have c07 := Chg.seq c05 c57
      have hv7 := hv5.no c57
      have hu7 := hu5.no c57
      have so7 := so.no c57
      clear S2 c05 c57 c6 c7 hv5 hu5 so
      have ca : Chg No w7 (w7.alloc (.cells #[.slice p0 n cap, .slice p1 nu capu] 22)) := (Chg.refl _ w7).alloc _
      have sp : SlV (w7.alloc (.cells #[.slice p0 n cap, .slice p1 nu capu] 22)) (.slice (some ⟨w7.heap.size, 0, none⟩) 2 2) [.slice p0 n cap, .slice p1 nu capu] := SlV.made w7 [.slice p0 n cap, .slice p1 nu capu] 22 (by simp)
      have P1 := paths_in (.slice (some ⟨w7.heap.size, 0, none⟩) 2 2) [(.slice p0 n cap, zs), (.slice p1 nu capu, us)] (w7.alloc (.cells #[.slice p0 n cap, .slice p1 nu capu] 22)) sp (by
        intro q hq
        rcases List.mem_cons.1 hq with rfl | hq
        · exact hv7.no ca
        · rw [List.mem_singleton.1 hq]; exact hu7.no ca) (by simp [toldP]; omega)
      have hpl := paths_length hO hOu
      have hpt := paths_turn zs us
      rw [show ([(Value.slice p0 n cap, zs), (.slice p1 nu capu, us)].map (·.2)) = [zs, us] from rfl] at P1
      generalize paths [zs, us] = out at *
      have HPL : Hid (out.length = zs.length + (us.filter (fun f => (TreeLib.get zs f.1).isNone)).length) := hpl
      have HPT : Hid (paths [us, zs, zs] = out) := hpt
      clear hpl hpt
      gi_wp2_with fail
      refine ⟨trivial, rfl, P1.mono ?_⟩
      rintro e w8 ⟨v8, rfl, r8, c8⟩
      obtain ⟨p8, k8, rfl⟩ := row_slice r8
      have s8 : SlV w8 (.slice p8 out.length k8) (out.map Value.string) := SlV.ofRow (by rw [List.length_map]; exact r8)
      have c78 := Chg.seq ca c8
      have c08 := Chg.seq c07 c78
      have hv8 := hv7.no c78
      have hu8 := hu7.no c78
      have so8 := so7.no c78
      clear P1 sp ca c8 c78 c07 hv7 hu7 so7 r8
      gi_wp2
      gi_loopw [12, 11] (fun i o wr => ∃ j : Nat, j ≤ nu ∧ i = .int .i64 (j : Int) ∧ o = .int .i64 ((n + cntP zs us j : Nat) : Int) ∧ Chg No w8 wr) (fun i _ _ => nu - (intOf i).toNat)
      case atStart => exact ⟨0, Nat.zero_le _, rfl, rfl, Chg.refl _ _⟩
      case round =>
        obtain ⟨j, hj, rfl, rfl, c⟩ := hrel
        by_cases hlt2 : j < nu
        · have hlt2' : (j : Int) < (nu : Int) := by omega
          have hjl : j < us.length := by rw [hnu]; exact hlt2
          obtain ⟨x, hx⟩ : ∃ x, us[j]? = some x := ⟨_, List.getElem?_eq_getElem hjl⟩
          have HC := cntP_succ (t := zs) hx
          have hcl := cntP_le zs us j
          obtain ⟨b1, o1, rfl, hc1, hc2⟩ := SlF.at (hu8.no c) _ x hx
          have G1 := get_in (.slice p0 n cap) zs x.1 wr (hv8.no c)
          generalize (TreeLib.get zs x.1).isSome = yes at *
          generalize cntP zs us j = cn at *
          gi_wp2_with fail
          refine ⟨trivial, rfl, G1.mono ?_⟩
          rintro e w9 ⟨rfl, c9⟩
          have c' := Chg.seq c c9
          cases yes with
          | true =>
            rw [if_pos rfl, Nat.add_zero] at HC
            gi_wp2
            go_roundw
            case rel => exact ⟨j + 1, hlt2, by go_num, by rw [HC]; exact congrArg _ (by omega), c'⟩
            case measure => simp [intOf]; omega
          | false =>
            rw [if_neg (by decide)] at HC
            gi_wp2
            go_roundw
            case rel => exact ⟨j + 1, hlt2, by go_num, by rw [HC]; exact congrArg _ (by omega), c'⟩
            case measure => simp [intOf]; omega
        · have hlt2' : ¬ (j : Int) < (nu : Int) := by omega
          have hjn : j = nu := by omega
          have hcn : n + cntP zs us j = out.length := by
            rw [HPL.out, hn, hjn]
            unfold cntP
            rw [← hnu, List.take_length]
          have c09 := Chg.seq c08 c
          have hv9 := hv8.no c
          have hu9 := hu8.no c
          have so9 := so8.no c
          have s9 := s8.no c
          clear hv8 hu8 so8 s8 c08 c hj hjn HPL
          generalize n + cntP zs us j = tot at *
          subst hcn
          have ca : Chg No wr (wr.alloc (.cells #[.slice p1 nu capu, .slice p0 n cap, .slice p0 n cap] 22)) := (Chg.refl _ wr).alloc _
          have sp : SlV (wr.alloc (.cells #[.slice p1 nu capu, .slice p0 n cap, .slice p0 n cap] 22)) (.slice (some ⟨wr.heap.size, 0, none⟩) 3 3) [.slice p1 nu capu, .slice p0 n cap, .slice p0 n cap] := SlV.made wr [.slice p1 nu capu, .slice p0 n cap, .slice p0 n cap] 22 (by simp)
          have P2 := paths_in (.slice (some ⟨wr.heap.size, 0, none⟩) 3 3) [(.slice p1 nu capu, us), (.slice p0 n cap, zs), (.slice p0 n cap, zs)] (wr.alloc (.cells #[.slice p1 nu capu, .slice p0 n cap, .slice p0 n cap] 22)) sp (by
            intro q hq
            rcases List.mem_cons.1 hq with rfl | hq
            · exact hu9.no ca
            rcases List.mem_cons.1 hq with rfl | hq
            · exact hv9.no ca
            · rw [List.mem_singleton.1 hq]; exact hv9.no ca) (by simp [toldP]; omega)
          rw [show ([(Value.slice p1 nu capu, us), (.slice p0 n cap, zs), (.slice p0 n cap, zs)].map (·.2)) = [us, zs, zs] from rfl, HPT.out] at P2
          clear HPT
          gi_wp2_with fail
          refine ⟨trivial, rfl, P2.mono ?_⟩
          rintro e wA ⟨vA, rfl, rA, cA⟩
          have cB := Chg.seq ca cA
          have S3 := sameS_in vA (.slice p8 out.length k8) out out wA (SlV.ofRow (by rw [List.length_map]; exact rA)) (s9.no cB)
          rw [decide_eq_true rfl] at S3
          clear P2 sp
          gi_wp2_with fail
          refine ⟨trivial, rfl, S3.mono ?_⟩
          rintro e wC ⟨rfl, cC⟩
          have cD := Chg.seq cB cC
          have c0D := Chg.seq c09 cD
          have hvD := hv9.no cD
          have soD := so9.no cD
          clear S3 rA cA ca cB cC cD c09 hv9 hu9 so9 s9
          gi_wp2
          gi_loopw [15, 7] (fun i o wr => ∃ (k : Nat) (out : List Fl), k ≤ n ∧ i = .int .i64 (k : Int) ∧ SlF wr o out ∧ Hid (out.Perm (rs.drop k)) ∧ Hid (Once out) ∧ Chg No wC wr) (fun i _ _ => n - (intOf i).toNat)
          case atStart => exact ⟨0, zs, Nat.zero_le _, rfl, soD, hrp.out.symm, hO, Chg.refl _ _⟩
          case round =>
            obtain ⟨k2, out2, hk2, rfl, so2, HP2, HO2, c⟩ := hrel
            by_cases hlt3 : k2 < n
            · have hlt3' : (k2 : Int) < (n : Int) := by omega
              have hj : (m + k2) % n < zs.length := by rw [hn]; exact Nat.mod_lt _ (by omega)
              obtain ⟨x, hx⟩ : ∃ x, zs[(m + k2) % n]? = some x := ⟨_, List.getElem?_eq_getElem hj⟩
              have hp3 := HP2.out
              rw [drop_cons_of ((hrg k2 hlt3).trans hx)] at hp3
              obtain ⟨hd1, hd2⟩ := HO2.out.drop_perm hp3
              have HD1 : Hid ((TreeLib.drop out2 x.1).Perm (rs.drop (k2 + 1))) := hd1
              have HD2 : Hid (Once (TreeLib.drop out2 x.1)) := hd2
              have hol : out2.length ≤ 12 := by rw [HP2.out.length_eq, List.length_drop]; omega
              have hdl : (TreeLib.drop out2 x.1).length = n - 1 - k2 := by rw [hd1.length_eq, List.length_drop]; omega
              obtain ⟨b1, o1, rfl, hc1, hc2⟩ := SlF.at (hvD.no c) _ x hx
              have htm := tmod_nat m k2 n
              have hjn : (m + k2) % n < n := by omega
              clear hp3 hd1 hd2 HP2 HO2 hx hj
              generalize (m + k2) % n = j at *
              have D1 := drop_in _ out2 x.1 (by omega) wr so2
              gi_wp2_with fail
              refine ⟨trivial, rfl, D1.mono ?_⟩
              rintro e w5 ⟨v5, rfl, r5, c5⟩
              have c' := Chg.seq c c5
              have s5 := r5.sl
              obtain ⟨p5, k5, rfl⟩ := r5.slice
              have hq : (((n - 1 - k2 : Nat) : Int) == (n : Int) - 1 - (k2 : Int)) = true := by rw [beq_iff_eq]; omega
              rw [hdl] at s5 ⊢
              clear r5 D1 hdl so2
              gi_wp2
              go_roundw
              case rel => exact ⟨k2 + 1, _, hlt3, by go_num, s5, HD1, HD2, c'⟩
              case measure => simp [intOf]; omega
            · have hlt3' : ¬ (k2 : Int) < (n : Int) := by omega
              gi_wp2_with fail
              refine ⟨trivial, rfl, (awake_in _).mono ?_⟩
              rintro e w9 ⟨rfl, c9⟩
              gi_wp2
              go_ret
              exact ⟨rfl, Chg.seq c0D (Chg.seq c c9)⟩

end Go.Proofs.YtikhfojbekpoeaaDoor
