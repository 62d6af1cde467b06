/-
  tree's May: is a list of files a tree?
-/
import Derived.Test.YtconingjdgmodaaDoorFGoes
import Derived.Test.YtconingjdgmodaaDoorGLoud
import Derived.Sort.CutIn
namespace Go.TreeLib
open Go
/-- So far it is one. -/
def Sofar (l : List Fl) : Prop := (∀ f ∈ l, fileB f = true) ∧ l.Pairwise Apart
theorem sofar_nil : Sofar [] := ⟨fun _ h => (by cases h), List.Pairwise.nil⟩
theorem goes_apart {l : List Fl} {x : Fl} : goesB l x.1 = true ↔ ∀ a ∈ l, Apart a x := by
  unfold goesB
  rw [List.all_eq_true]
  constructor
  · intro h a ha
    have := h a ha
    unfold behindB at this
    rw [Bool.and_eq_true] at this
    exact ⟨this.1, by simpa using this.2⟩
  · intro h a ha
    have := h a ha
    unfold behindB
    rw [this.1, this.2]
    rfl
theorem sofar_snoc {l : List Fl} {x : Fl} : Sofar (l ++ [x]) ↔ Sofar l ∧ fileB x = true ∧ goesB l x.1 = true := by
  unfold Sofar
  rw [List.pairwise_append, goes_apart]
  constructor
  · rintro ⟨h1, h2, _, h3⟩
    exact ⟨⟨fun f hf => h1 f (List.mem_append_left _ hf), h2⟩, h1 x (by simp), fun a ha => h3 a ha x (by simp)⟩
  · rintro ⟨⟨h1, h2⟩, h3, h4⟩
    refine ⟨fun f hf => ?_, h2, List.pairwise_singleton _ _, fun a ha b hb => ?_⟩
    · rcases List.mem_append.1 hf with h | h
      · exact h1 f h
      · rw [List.mem_singleton] at h; rw [h]; exact h3
    · rw [List.mem_singleton] at hb; rw [hb]; exact h4 a ha
theorem may_sofar {t : List Fl} (hl : t.length ≤ 12) : mayB t = true ↔ Sofar t := by
  rw [mayB_iff]
  exact ⟨fun h => ⟨h.file, h.apart⟩, fun h => ⟨hl, h.1, h.2⟩⟩
theorem Sofar.pre {l m : List Fl} (h : Sofar (l ++ m)) : Sofar l := ⟨fun f hf => h.1 f (List.mem_append_left _ hf), (List.pairwise_append.1 h.2).1⟩
theorem may_bad {t pre : List Fl} {x : Fl} (hp : pre ++ [x] <+: t) (h : ¬ (fileB x = true ∧ goesB pre x.1 = true)) : mayB t = false := mayB_not (fun ht => by
  obtain ⟨r, rfl⟩ := hp
  exact h (sofar_snoc.1 (Sofar.pre ((may_sofar ht.len).1 (mayB_iff.2 ht)))).2)
end Go.TreeLib
namespace Go.Proofs.YtconingjdgmodaaDoor
open Go.RowKit Go.Shelf Go.SeqLib Go.DiffLib Go.TreeLib Go.BigFrame
attribute [local go_sem] Oper.semAt_some

set_option maxRecDepth 100000 in
set_option maxHeartbeats 4000000 in
theorem may_in (v : Value) (zs : List Fl) (hz : ∀ f ∈ zs, f.1.size ≤ 100000) (w : World) (hv : SlF w v zs) : CallsIn Fence.wide 0 Tryd.prog 31 #[v] w fun e w' =>
    e = .returned (.bool (mayB zs)) ∧ Chg No w w' := by
  have hmix : Tryd.prog.follows .mixedOrders = true := by kernel_rfl
  obtain ⟨z, HZ⟩ : ∃ z, Hid (mayB zs = z) := ⟨_, rfl⟩
  rw [HZ.out]
  obtain ⟨p, cap, rfl, _, hmx⟩ := hv.slice
  have hml : zs.length ≤ 9223372036854775807 := by unfold maxLen at hmx; omega
  obtain ⟨n, HN⟩ : ∃ n, Hid (zs.length = n) := ⟨_, rfl⟩
  rw [HN.out] at hv hml ⊢
  clear hmx
  refine callsIn_of_wp Tryd.func31 rfl trivial ?_
  simp only [Tryd.ntmps31, List.size_toArray, List.length_cons, List.length_nil, Nat.reduceAdd, Nat.reduceSub, Array.replicate_succ, Array.replicate_zero, List.push_toArray, List.append_toArray, List.nil_append, List.cons_append]
  by_cases hl : 12 < n
  · have hl' : (12 : Int) < (n : Int) := by omega
    obtain rfl : z = false := by rw [← HZ.out]; exact mayB_not (fun h => by have := h.len; rw [HN.out] at this; omega)
    gi_wp2
    go_ret
    exact ⟨rfl, Chg.refl _ _⟩
  have hl' : ¬ (12 : Int) < (n : Int) := by omega
  gi_wp2
  gi_loopw [10] (fun i wr => ∃ k : Nat, k ≤ n ∧ i = .int .i64 (k : Int) ∧ Hid (Sofar (zs.take k)) ∧ Chg No w wr) (fun i _ => n - (intOf i).toNat)
  case atStart => exact ⟨0, Nat.zero_le _, rfl, sofar_nil, Chg.refl _ _⟩
  case round =>
    obtain ⟨k, hk, rfl, HT, c⟩ := hrel
    by_cases hlt : k < n
    · have hlt' : (k : Int) < (n : Int) := by omega
      have hkl : k < zs.length := by rw [HN.out]; exact hlt
      obtain ⟨x, hx⟩ : ∃ x, zs[k] = x := ⟨_, rfl⟩
      have hts : zs.take (k + 1) = zs.take k ++ [x] := by rw [List.take_succ_eq_append_getElem hkl, hx]
      have HTS : Hid (zs.take (k + 1) = zs.take k ++ [x]) := hts
      have hpre : zs.take k ++ [x] <+: zs := by rw [← hts]; exact List.take_prefix _ _
      have hxm : x ∈ zs := by rw [← hx]; exact List.getElem_mem hkl
      obtain ⟨b1, o1, rfl, hc1, hc2⟩ := SlF.at (hv.no c) k x (by rw [List.getElem?_eq_getElem hkl, hx])
      clear hx hts
      have ca : Chg No w (wr.alloc (.cells #[.string x.1, .string x.2] 72)) := c.alloc _
      have k0 : (wr.alloc (.cells #[.string x.1, .string x.2] 72)).cell? ⟨wr.heap.size, 0, none⟩ = some (.string x.1) := World.cell?_alloc_at _ _ _ _ rfl
      have k1 : (wr.alloc (.cells #[.string x.1, .string x.2] 72)).cell? ⟨wr.heap.size, 1, none⟩ = some (.string x.2) := World.cell?_alloc_at _ _ _ _ rfl
      obtain ⟨ps, cs, sS, oS, hcS⟩ := SlF.high (hv.no ca) k (by omega)
      gi_wp2
      generalize wr.alloc (.cells #[.string x.1, .string x.2] 72) = W3 at *
      generalize wr.heap.size = B at *
      have hany : Nonempty (After W3) := After.any W3
      have f0 : ∀ c : After W3, c.val.cell? ⟨B, 0, none⟩ = some (.string x.1) := fun c => c.cell k0
      have f1 : ∀ c : After W3, c.val.cell? ⟨B, 1, none⟩ = some (.string x.2) := fun c => c.cell k1
      have HPa : Hid (∀ c : After W3, CallsIn Fence.wide 0 Tryd.prog 46 #[.string x.1] c.val fun e w' => e = .returned (.bool (pathB (Bs x.1))) ∧ Chg No c.val w') := fun c => path_in x.1 c.val
      have HGo : Hid (∀ c : After W3, CallsIn Fence.wide 0 Tryd.prog 47 #[.slice ps k cs, .string x.1] c.val fun e w' => e = .returned (.bool (goesB (zs.take k) x.1)) ∧ Chg No c.val w') := fun c => goesOn_in _ (zs.take k) x.1 (fun f hf => hz f (List.mem_of_mem_take hf)) c.val (sS.no c.chg)
      clear hc1 hc2 k0 k1 sS oS c
      cases hp : pathB (Bs x.1) with
      | false =>
        rw [hp] at HPa
        obtain rfl : z = false := by
          rw [← HZ.out]
          exact may_bad hpre (fun h => by have := h.1; unfold fileB at this; rw [hp] at this; cases this)
        clear hp hcS
        refine region_quietC hmix (by kernel_rfl) ?_
        repeat (gi_big_quiet_step (fail))
        refine wpQuietIn_want (fun _ _ _ _ => trivial) rfl ?_
        intro KQ hKQ
        gi_big_quiet_op
        gi_big_quiet_call (exact ⟨rfl, (HPa.out _).mono (by rintro e w'' ⟨rfl, c'⟩; exact ⟨rfl, After.more _ c'⟩)⟩)
        repeat (gi_big_quiet_step (fail))
        refine wpQuietIn_skip (fun _ _ _ _ => trivial) rfl ?_
        simp only [Act.put, List.setIfInBounds_toArray, List.set_cons_succ, List.set_cons_zero]
        repeat (gi_big_quiet_step (fail))
        refine wpQuietIn_nil ?_
        rintro w' ⟨c, rfl⟩
        have cc := Chg.seq ca c.chg
        gi_wp2
        go_ret
        exact ⟨rfl, cc⟩
      | true =>
        rw [hp] at HPa
        by_cases hd : 400 < x.2.size
        · have hd' : decide ((400 : Int) < (x.2.size : Int)) = true := decide_eq_true (by omega)
          obtain rfl : z = false := by
            rw [← HZ.out]
            exact may_bad hpre (fun h => by have := h.1; unfold fileB at this; rw [hp, decide_eq_false (by omega)] at this; cases this)
          clear hp hcS hd
          refine region_quietC hmix (by kernel_rfl) ?_
          repeat (gi_big_quiet_step (fail))
          refine wpQuietIn_want (fun _ _ _ _ => trivial) rfl ?_
          intro KQ hKQ
          gi_big_quiet_op
          gi_big_quiet_call (exact ⟨rfl, (HPa.out _).mono (by rintro e w'' ⟨rfl, c'⟩; exact ⟨rfl, After.more _ c'⟩)⟩)
          repeat (gi_big_quiet_step (fail))
          refine wpQuietIn_skip (fun _ _ _ _ => trivial) rfl ?_
          simp only [Act.put, List.setIfInBounds_toArray, List.set_cons_succ, List.set_cons_zero]
          repeat (gi_big_quiet_step (fail))
          refine wpQuietIn_nil ?_
          rintro w' ⟨c, rfl⟩
          have cc := Chg.seq ca c.chg
          gi_wp2
          go_ret
          exact ⟨rfl, cc⟩
        · have hd' : decide ((400 : Int) < (x.2.size : Int)) = false := decide_eq_false (by omega)
          have hfile : fileB x = true := by unfold fileB; rw [hp, decide_eq_true (by omega)]; rfl
          cases hg : goesB (zs.take k) x.1 with
          | false =>
            rw [hg] at HGo
            obtain rfl : z = false := by
              rw [← HZ.out]
              exact may_bad hpre (fun h => by have := h.2; rw [hg] at this; cases this)
            clear hp hd hg
            refine region_quietC hmix (by kernel_rfl) ?_
            repeat (gi_big_quiet_step (fail))
            refine wpQuietIn_want (fun _ _ _ _ => trivial) rfl ?_
            intro KQ hKQ
            gi_big_quiet_op
            gi_big_quiet_call (exact ⟨rfl, (HPa.out _).mono (by rintro e w'' ⟨rfl, c'⟩; exact ⟨rfl, After.more _ c'⟩)⟩)
            repeat (gi_big_quiet_step (fail))
            refine wpQuietIn_want (fun _ _ _ _ => trivial) rfl ?_
            intro KQ2 hKQ2
            gi_big_quiet_op
            gi_big_quiet_call (exact ⟨rfl, (HGo.out _).mono (by rintro e w'' ⟨rfl, c'⟩; exact ⟨rfl, After.more _ c'⟩)⟩)
            repeat (gi_big_quiet_step (fail))
            refine wpQuietIn_nil ?_
            rintro w' ⟨c, rfl⟩
            have cc := Chg.seq ca c.chg
            gi_wp2
            go_ret
            exact ⟨rfl, cc⟩
          | true =>
            rw [hg] at HGo
            have HT2 : Hid (Sofar (zs.take (k + 1))) := by
              show Sofar _
              rw [HTS.out]
              exact sofar_snoc.2 ⟨HT.out, hfile, hg⟩
            clear hp hd hg
            refine region_quietC hmix (by kernel_rfl) ?_
            repeat (gi_big_quiet_step (fail))
            refine wpQuietIn_want (fun _ _ _ _ => trivial) rfl ?_
            intro KQ hKQ
            gi_big_quiet_op
            gi_big_quiet_call (exact ⟨rfl, (HPa.out _).mono (by rintro e w'' ⟨rfl, c'⟩; exact ⟨rfl, After.more _ c'⟩)⟩)
            repeat (gi_big_quiet_step (fail))
            refine wpQuietIn_want (fun _ _ _ _ => trivial) rfl ?_
            intro KQ2 hKQ2
            gi_big_quiet_op
            gi_big_quiet_call (exact ⟨rfl, (HGo.out _).mono (by rintro e w'' ⟨rfl, c'⟩; exact ⟨rfl, After.more _ c'⟩)⟩)
            repeat (gi_big_quiet_step (fail))
            refine wpQuietIn_nil ?_
            rintro w' ⟨c, rfl⟩
            have cc := Chg.seq ca c.chg
            gi_wp2
            go_roundw
            case rel => exact ⟨k + 1, hlt, by go_num, HT2, cc⟩
            case measure => simp [intOf]; omega
    · have hlt' : ¬ (k : Int) < (n : Int) := by omega
      obtain rfl : k = n := by omega
      obtain rfl : z = true := by
        rw [← HZ.out, may_sofar (by rw [HN.out]; omega)]
        have := HT.out
        rw [List.take_of_length_le (by rw [HN.out]; exact Nat.le_refl _)] at this
        exact this
      gi_wp2
      go_ret
      exact ⟨rfl, c⟩

end Go.Proofs.YtconingjdgmodaaDoor
