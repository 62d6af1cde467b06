/-
  Of: FSl, FSame, FLend, FIt, SeqX, FFilt, FList, FDrop, FGet.
-/
import Derived.Test.YtmpgeacfnikbpaaDoorDWide
import Derived.Test.YtmpgeacfnikbpaaDoorAppT
import Derived.Test.YtmpgeacfnikbpaaDoorGPure
import Derived.Shelf.RegionOpen
import Derived.Sort.QuietThIn
import Derived.Test.YtmpgeacfnikbpaaDoorSeq
section
-- FSl
namespace Go.Proofs.YtmpgeacfnikbpaaDoor
open Go.RowKit Go.Shelf Go.SeqLib Go.DiffLib Go.TreeLib

/-- A file's cells. -/
def eF (x : Fl) : List Value := [.string x.1, .string x.2]
theorem eF_len (x : Fl) : (eF x).length = 2 := rfl
abbrev SlF := @SlE Fl 2 eF
/-- A file, as a value. -/
abbrev vF (x : Fl) : Value := .agg #[.string x.1, .string x.2]

theorem SlF.at {W : World} {p : Option Addr} {n cap : Nat} {zs : List Fl} (h : SlF W (.slice p n cap) zs) (i : Nat) (x : Fl) (hi : zs[i]? = some x) :
    ∃ b off, p = some ⟨b, off, none⟩ ∧ W.cell? ⟨b, off + i * 2, none⟩ = some (.string x.1) ∧ W.cell? ⟨b, off + i * 2 + 1, none⟩ = some (.string x.2) := by
  obtain ⟨p', cap', e, _, _, hc⟩ := h
  cases e
  obtain ⟨b, off, e, h1⟩ := hc i x hi
  exact ⟨b, off, e, h1 0 _ rfl, h1 1 _ rfl⟩
theorem SlF.no {W W' : World} {v : Value} {zs : List Fl} (h : SlF W v zs) (c : Chg No W W') : SlF W' v zs := SlE.no eF_len (by decide) h c
theorem SlF.chg {W W' : World} {v : Value} {zs : List Fl} (h : SlF W v zs) {S : Blk} (c : Chg S W W') (hd : ∀ k, slE v zs k → ¬ S k) : SlF W' v zs := SlE.chg eF_len (by decide) h c hd
theorem SlF.lt {W : World} {v : Value} {zs : List Fl} (h : SlF W v zs) : ∀ k, slE v zs k → k < W.heap.size := SlE.lt eF_len (by decide) h
theorem SlF.slice {W : World} {v : Value} {zs : List Fl} (h : SlF W v zs) : ∃ p cap, v = .slice p zs.length cap ∧ zs.length ≤ cap ∧ cap ≤ maxLen := by
  obtain ⟨p, cap, e, h1, h2, _⟩ := h
  exact ⟨p, cap, e, h1, h2⟩
theorem SlF.len {W : World} {p : Option Addr} {n cap : Nat} {zs : List Fl} (h : SlF W (.slice p n cap) zs) : zs.length = n := by
  obtain ⟨p', cap', e, _⟩ := h
  rw [Value.slice.injEq] at e
  exact e.2.1.symm

theorem info86 : (Tryd.prog.info? 86).map (fun i => (i.zero, i.size, i.bytes)) = some (some (.agg #[.string ⟨#[]⟩, .string ⟨#[]⟩]), 2, 32) := by kernel_rfl
theorem size_file (w : World) : (sizeOf 86).run Tryd.prog w = .ok 2 w := by
  obtain ⟨i0, hi, _, h2, _⟩ := info_parts info86
  rw [run_sizeOf w hi]
  have : Tryd.prog.cellsOf 86 = 2 := by kernel_rfl
  rw [this]
theorem guard_file : Tryd.prog.eqGuardType Tryd.prog.depth 86 = false := by kernel_rfl

theorem addr_add (b off j : Nat) : (⟨b, off, none⟩ : Addr).add j = ⟨b, off + j, none⟩ := by unfold Addr.add; split <;> simp_all
theorem run_equalIn_file (x y : Fl) (w : World) : (Op.equalIn 10000 86 (vF x) (vF y)).run Tryd.prog w = .ok (x.1.toList == y.1.toList && x.2.toList == y.2.toList) w := by
  have h2 : Tryd.prog.underlying 9 = some .string := by kernel_rfl
  have he : ∀ (a b : ByteArray) (w : World), (Op.equalIn 9999 9 (.string a) (.string b)).run Tryd.prog w = .ok (a.toList == b.toList) w := fun a b w => by
    exact run_equalIn_string w 9998 _ a b h2
  have hp : Tryd.prog.stoodInHeld 86 = false := by kernel_rfl
  have hu : Tryd.prog.underlying 86 = some (.struct (Tryd.prog.fieldsOf 86)) := by kernel_rfl
  have hf : ((Tryd.prog.fieldsOf 86).toList.map fun f => (f.name == "_", f.type, f.offset)) = [(false, 9, 0), (false, 9, 1)] := by kernel_rfl
  rw [run_equalIn_agg w 9999 _ _ _ hu hp]
  obtain ⟨f1, f2, hfl⟩ : ∃ f1 f2, (Tryd.prog.fieldsOf 86).toList = [f1, f2] := by
    generalize (Tryd.prog.fieldsOf 86).toList = l at hf
    have hl := congrArg List.length hf
    rw [List.length_map] at hl
    obtain ⟨x1, l1, rfl⟩ := List.exists_cons_of_length_eq_add_one hl
    obtain ⟨x2, l2, rfl⟩ := List.exists_cons_of_length_eq_add_one (Nat.succ.inj hl)
    obtain rfl := List.length_eq_zero_iff.1 (Nat.succ.inj (Nat.succ.inj hl))
    exact ⟨x1, x2, rfl⟩
  rw [hfl] at hf ⊢
  simp at hf
  obtain ⟨⟨n1, t1, o1⟩, ⟨n2, t2, o2⟩⟩ := hf
  have hpart : ∀ (xs : Array Value) (off : Nat) (v : Value) (w : World), xs[off]? = some v → (part 9 xs off).run Tryd.prog w = .ok v w := fun xs off v w h => run_part_plain w (by kernel_rfl) h
  simp [Op.eqFields, n1, n2, t1, t2, o1, o2, hpart, he]
  by_cases e1 : x.1.toList = y.1.toList
  · by_cases e2 : x.2.toList = y.2.toList
    · simp [e1, e2]
    · simp [e1, e2]
  · simp [e1]
theorem file_beq (x y : Fl) : (x.1.toList == y.1.toList && x.2.toList == y.2.toList) = decide (x = y) := by
  by_cases h : x = y
  · subst h; simp
  · rw [decide_eq_false h, Bool.and_eq_false_iff, beq_eq_false_iff_ne, beq_eq_false_iff_ne]
    by_cases e : x.1 = y.1
    · exact .inr (fun e2 => h (Prod.ext e (toList_inj e2)))
    · exact .inl (fun e2 => e (toList_inj e2))
theorem run_neq_file (x y : Fl) (w : World) : (binOp .neq 86 (vF x) (vF y)).run Tryd.prog w = .ok (.bool (!decide (x = y))) w := by
  rw [run_neq_struct, run_equalIn_file, file_beq]
  rfl

/-- A list of files that owns its row. -/
abbrev OwnF (W : World) (base : Nat) (v : Value) (zs : List Fl) : Prop := W.ownsRow base 86 2 v zs.length (zs.flatMap eF)
theorem OwnF.sl {W : World} {base : Nat} {v : Value} {zs : List Fl} (h : OwnF W base v zs) : SlF W v zs := SlE.ofRow eF_len h
theorem OwnF.nil (W : World) (base : Nat) : OwnF W base (.slice none 0 0) [] := World.ownsRow_nil _ _ _ _
theorem OwnF.base {W : World} {b b' : Nat} {v : Value} {zs : List Fl} (h : OwnF W b v zs) (hb : b' ≤ b) : OwnF W b' v zs := rowBase h hb
theorem OwnF.slice {W : World} {base : Nat} {v : Value} {zs : List Fl} (h : OwnF W base v zs) : ∃ p c, v = .slice p zs.length c := row_slice h
theorem OwnF.kept {W W' : World} {base : Nat} {v : Value} {zs : List Fl} (h : OwnF W base v zs) (hk : ∀ k, v.ownBlock = some k → W'.heap[k]? = W.heap[k]?) : OwnF W' base v zs := by
  refine ⟨h.1, ?_⟩
  rcases h.2 with hn | ⟨g, cap, cur, rfl, hb, hgg, rest⟩
  · exact .inl hn
  · exact .inr ⟨g, cap, cur, rfl, hb, (hk g rfl).trans hgg, rest⟩
theorem OwnF.chg {W W' : World} {base : Nat} {v : Value} {zs : List Fl} (h : OwnF W base v zs) {S : Blk} (c : Chg S W W') (hd : ∀ k, v.ownBlock = some k → ¬ S k) : OwnF W' base v zs :=
  h.kept (fun k hk => c.block k (h.lt k hk).2 (hd k hk))
theorem OwnF.no {W W' : World} {base : Nat} {v : Value} {zs : List Fl} (h : OwnF W base v zs) (c : Chg No W W') : OwnF W' base v zs := h.chg c (fun _ _ h => h)

theorem flatF_one (zs : List Fl) : ∀ u ∈ zs.flatMap eF, u.oneCell' = true := by
  intro u hu
  obtain ⟨y, _, hy⟩ := List.mem_flatMap.1 hu
  simp [eF] at hy
  rcases hy with rfl | rfl <;> rfl
theorem flatF_length (zs : List Fl) : (zs.flatMap eF).length = zs.length * 2 := flat_length eF_len zs
theorem flatF_cells {W : World} {ad : Addr} {m cap : Nat} {zs : List Fl} (h : SlF W (.slice (some ad) m cap) zs) : ∀ j u, (zs.flatMap eF)[j]? = some u → W.cell? (ad.add j) = some u := by
  intro j u hj
  obtain ⟨p', cap', e, h1, h2, hc⟩ := h
  cases e
  have hj2 : j = (j / 2) * 2 + j % 2 := by omega
  have hq : j % 2 < 2 := Nat.mod_lt _ (by omega)
  rw [hj2, flat_get eF_len zs (j / 2) (j % 2) hq] at hj
  obtain ⟨x, hx, hj⟩ := Option.bind_eq_some_iff.1 hj
  obtain ⟨b, off, e, u1⟩ := hc _ x hx
  cases e
  rw [addr_add]
  have := u1 _ u hj
  rw [show off + j / 2 * 2 + j % 2 = off + j by omega] at this
  exact this

/-- append(s, xs...) where s is owned and xs is any list of files that reads. -/
theorem wpListIn_append_sf {F : Fence} {n : Nat} (w : World) {ops : Array Oper} {rest : List Oper} {o : Oper} {a : Act} {Q : Exit → Act → World → Prop}
    (hg : o.guard = none) (s x : Operand) (hop : o.op = Op.call { callee := Callee.builtin Builtin.append, args := #[s, x], argTypes := #[44, 44] })
    (base : Nat) (v : Value) (ys : List Fl) (hs : a.eval s = v) (hown : OwnF w base v ys) (p : Option Addr) (m c : Nat) (zs : List Fl) (hx : a.eval x = .slice p m c) (hsl : SlF w (.slice p m c) zs)
    (b1 : ys.length + m ≤ 1000000) (b3 : base ≤ w.heap.size)
    (hK : ∀ v' w', OwnF w' base v' (ys ++ zs) → w.grownBy w' v.ownBlock → (v'.ownBlock = v.ownBlock ∨ v'.ownBlock = some w.heap.size) → wpListIn F n Tryd.prog ops Q rest (a.put o.dst v') w') :
    wpListIn F n Tryd.prog ops Q (o :: rest) a w := by
  obtain ⟨i0, hi, hz0, hz1, hz2⟩ := info_parts info86
  have hlen := SlF.len hsl
  cases p with
  | none =>
    have hz : zs = [] := by
      obtain ⟨p', c', e, h1, h2, hc⟩ := hsl
      cases e
      cases zs with
      | nil => rfl
      | cons x r => obtain ⟨b, off, h, _⟩ := hc 0 x rfl; cases h
    subst hz
    obtain rfl : m = 0 := hlen.symm
    obtain ⟨pv, cv, rfl⟩ := row_slice hown
    have hkc : ys.length ≤ cv ∧ (pv = none → ys.length = 0 ∧ cv = 0) := by
      rcases hown.2 with ⟨h, h0⟩ | ⟨g, cap, cur, h, _, _, h3, _⟩
      · rw [Value.slice.injEq] at h
        obtain ⟨rfl, _, rfl⟩ := h
        exact ⟨by omega, fun _ => ⟨h0, rfl⟩⟩
      · rw [Value.slice.injEq] at h
        obtain ⟨rfl, _, rfl⟩ := h
        exact ⟨h3, fun h => by cases h⟩
    refine wpListIn_plain hg fun K hK' => ?_
    have hrun := run_append_nothing (P := Tryd.prog) w (ty := o.type) Tryd.underlying44 hi pv ys.length cv c hkc.1 hkc.2
    unfold Oper.wpIn
    refine ⟨?_, ?_⟩
    · simp [Oper.about, hop, resolve, Target.leads, Sem.run_pure]
    · rw [Oper.semAt_plain F _ _ (by rw [hop]; intro c hc'; cases hc')]
      simp [execOp, hop, resolve, invoke, builtin, hs, hx, hrun, Result.andThen]
      exact hK' _ _ (hK _ w (by rw [List.append_nil]; exact hown) ⟨rfl, rfl, rfl, Nat.le_refl _, fun _ _ _ => rfl⟩ (.inl rfl))
  | some ad =>
    have hcl := flatF_cells hsl
    refine wpListIn_append_at w hg s x 44 hop base 86 i0 (.agg #[.string ⟨#[]⟩, .string ⟨#[]⟩]) 2 32 Tryd.underlying44 hi hz0 hz1 hz2 rfl (by decide) v ys.length (ys.flatMap eF) hs hown ad m c (zs.flatMap eF) hx (by rw [flatF_length, hlen]) hcl (flatF_one zs) (by unfold maxLen; omega) (by omega) b3 (fun v' w' r1 r2 _ r4 => hK v' w' ?_ r2 r4)
    show w'.ownsRow base 86 2 v' (ys ++ zs).length ((ys ++ zs).flatMap eF)
    rw [List.flatMap_append, List.length_append, hlen]
    exact r1

/-- A list of files that was just laid. -/
theorem SlF.made (w : World) (zs : List Fl) (hl : zs.length ≤ 1000000) : SlF (w.alloc (.cells (zs.flatMap eF).toArray 86)) (.slice (some ⟨w.heap.size, 0, none⟩) zs.length zs.length) zs := by
  refine ⟨_, zs.length, rfl, Nat.le_refl _, by unfold maxLen; omega, fun i x hi => ⟨w.heap.size, 0, rfl, fun q u hu => ?_⟩⟩
  have hq : q < 2 := by rw [← eF_len x]; exact (List.getElem?_eq_some_iff.1 hu).1
  have h : (w.alloc (.cells (zs.flatMap eF).toArray 86)).heap[w.heap.size]? = some (.cells (zs.flatMap eF).toArray 86 (0, 0)) := World.alloc_heap_new w _
  unfold World.cell?
  show (match (w.alloc (.cells (zs.flatMap eF).toArray 86)).heap[w.heap.size]? with | some (.cells c _ _) => if false = true then none else c[0 + i * 2 + q]? | _ => none) = some u
  rw [h]
  have := flat_get eF_len zs i q hq
  rw [hi] at this
  rw [Nat.zero_add]
  simpa [hu] using this
theorem SlF.one (w : World) (x : Fl) : SlF (w.alloc (.cells #[.string x.1, .string x.2] 86)) (.slice (some ⟨w.heap.size, 0, none⟩) 1 1) [x] := SlF.made w [x] (by simp)
theorem SlF.two (w : World) (x y : Fl) : SlF (w.alloc (.cells #[.string x.1, .string x.2, .string y.1, .string y.2] 86)) (.slice (some ⟨w.heap.size, 0, none⟩) 2 2) [x, y] := SlF.made w [x, y] (by simp)

/-- A list of files, cut. -/
theorem SlF.cutCore {W : World} {p : Option Addr} {n cap : Nat} {zs : List Fl} (h : SlF W (.slice p n cap) zs) (lo hi : Nat) (h1 : lo ≤ hi) (h2 : hi ≤ n) :
    ∃ p' c', sliced p lo hi cap 2 = .slice p' (hi - lo) c' ∧ SlF W (.slice p' (hi - lo) c') ((zs.take hi).drop lo) ∧ (∀ k, Value.ownBlock (.slice p' (hi - lo) c') = some k → Value.ownBlock (.slice p n cap) = some k) := by
  have hl := SlF.len h
  obtain ⟨p0, cap0, e0, q1, q2, hc⟩ := h
  rw [Value.slice.injEq] at e0
  obtain ⟨rfl, _, rfl⟩ := e0
  have hlen : ((zs.take hi).drop lo).length = hi - lo := by rw [List.length_drop, List.length_take]; omega
  refine ⟨_, _, rfl, ⟨_, _, by rw [hlen], by rw [hlen]; omega, by omega, fun i x hi' => ?_⟩, fun k hk => ?_⟩
  · rw [List.getElem?_drop, List.getElem?_take] at hi'
    split at hi'
    · obtain ⟨b, off, rfl, hcell⟩ := hc _ _ hi'
      have hne : ¬ cap = lo := by omega
      rw [if_neg hne]
      have ea := addr_add b off (lo * 2)
      refine ⟨b, off + lo * 2, by rw [Option.map_some, ea], fun q u hu => ?_⟩
      rw [show off + lo * 2 + i * 2 + q = off + (lo + i) * 2 + q by omega]
      exact hcell q u hu
    · cases hi'
  · cases p with
    | none =>
      by_cases e : cap = lo
      · rw [if_pos e] at hk; cases hk
      · rw [if_neg e] at hk; cases hk
    | some ad =>
      by_cases e : cap = lo
      · rw [if_pos e] at hk; exact hk
      · rw [if_neg e] at hk
        have : (ad.add (lo * 2)).block = ad.block := by unfold Addr.add; split <;> rfl
        simp only [Option.map_some, Value.ownBlock, this] at hk
        exact hk
section
variable {W : World} {p : Option Addr} {n cap : Nat} {zs : List Fl}
theorem elem_files : Tryd.prog.elem 44 = 86 := by simp [Program.elem, Tryd.underlying44]
theorem SlF.high (h : SlF W (.slice p n cap) zs) (hi : Nat) (h2 : hi ≤ n) :
    ∃ p' c', SlF W (.slice p' hi c') (zs.take hi) ∧ (∀ k, Value.ownBlock (.slice p' hi c') = some k → Value.ownBlock (.slice p n cap) = some k) ∧ ∀ w, (Instr.sliceAt 44 (.slice p n cap) none (some (.int .i64 (hi : Int))) none).run Tryd.prog w = .ok (.slice p' hi c') w := by
  have hl := SlF.len h
  have hcap : n ≤ cap := by obtain ⟨p0, cap0, e0, q1, _⟩ := h; cases e0; omega
  obtain ⟨p', c', e, s, o⟩ := h.cutCore 0 hi (Nat.zero_le _) h2
  refine ⟨p', c', by simpa using s, o, fun w => ?_⟩
  have ht : Tryd.prog.underlying 44 = some (.slice (Tryd.prog.elem 44)) := by rw [elem_files]; exact Tryd.underlying44
  rw [run_sliceAt_slice _ _ _ _ _ _ ht, run_slice_h _ _ _ _ _ ht .i64 (hi : Int) (by omega) (by omega), elem_files, size_file]
  show Result.ok (sliced p 0 hi cap 2) w = _
  rw [e]
  rfl
theorem SlF.low (h : SlF W (.slice p n cap) zs) (lo : Nat) (h2 : lo ≤ n) :
    ∃ p' c', SlF W (.slice p' (n - lo) c') (zs.drop lo) ∧ (∀ k, Value.ownBlock (.slice p' (n - lo) c') = some k → Value.ownBlock (.slice p n cap) = some k) ∧ ∀ w, (Instr.sliceAt 44 (.slice p n cap) (some (.int .i64 (lo : Int))) none none).run Tryd.prog w = .ok (.slice p' (n - lo) c') w := by
  have hl := SlF.len h
  obtain ⟨p', c', e, s, o⟩ := h.cutCore lo n h2 (Nat.le_refl _)
  rw [List.take_of_length_le (by omega)] at s
  refine ⟨p', c', s, o, fun w => ?_⟩
  have ht : Tryd.prog.underlying 44 = some (.slice (Tryd.prog.elem 44)) := by rw [elem_files]; exact Tryd.underlying44
  rw [run_sliceAt_slice _ _ _ _ _ _ ht, run_slice_l _ _ _ _ _ ht .i64 (lo : Int) (by omega) (by omega), elem_files, size_file]
  show Result.ok (sliced p lo n cap 2) w = _
  rw [e]
end

end Go.Proofs.YtmpgeacfnikbpaaDoor

end
section
-- FSame
namespace Go.Proofs.YtmpgeacfnikbpaaDoor
open Go.RowKit Go.Shelf Go.SeqLib Go.DiffLib Go.BigFrame Go.TreeLib
attribute [local go_sem] Oper.semAt_some

set_option maxHeartbeats 1000000 in
theorem equalF_in (v u : Value) (xs ys : List Fl) (w : World) (hv : SlF w v xs) (hu : SlF w u ys) (hx : xs.length ≤ 1000000) :
    CallsIn Fence.wide 0 Tryd.prog 78 #[v, u] w fun e w' => e = .returned (.bool (decide (xs = ys))) ∧ Chg No w w' := by
  have hmix : Tryd.prog.follows .mixedOrders = true := by kernel_rfl
  have hgd := guard_file
  obtain ⟨p, c1, rfl, _, hc1⟩ := hv.slice
  obtain ⟨q, c2, rfl, _, hc2⟩ := hu.slice
  have hy : ys.length ≤ 9223372036854775807 := by unfold maxLen at hc2; omega
  obtain ⟨n, HN⟩ : ∃ n, Hid (xs.length = n) := ⟨_, rfl⟩
  obtain ⟨m, HM⟩ : ∃ m, Hid (ys.length = m) := ⟨_, rfl⟩
  rw [HN.out] at hv hx ⊢
  rw [HM.out] at hu hy ⊢
  clear hc1 hc2
  refine callsIn_of_wp Tryd.func78 rfl trivial ?_
  simp only [Tryd.ntmps78, List.size_toArray, List.length_cons, List.length_nil, Nat.reduceAdd, Nat.reduceSub, Array.replicate_succ, Array.replicate_zero, List.push_toArray, List.append_toArray, List.nil_append, List.cons_append]
  by_cases hlen : n = m
  · have he : ((n : Int) != (m : Int)) = false := by simp [hlen]
    have HL : Hid (n = m) := hlen
    clear hlen
    gi_wp2
    gi_loopw [13] (fun i wr => ∃ k : Nat, k ≤ n ∧ i = .int .i64 (k : Int) ∧ Hid (xs.take k = ys.take k) ∧ Chg No w wr) (fun i _ => n - (intOf i).toNat)
    case atStart => exact ⟨0, Nat.zero_le _, rfl, rfl, Chg.refl _ _⟩
    case round =>
      obtain ⟨k, hk, rfl, HT, c⟩ := hrel
      by_cases hlt : k < n
      · have hlt2 : k < m := by rw [← HL.out]; exact hlt
        have hlt' : (k : Int) < (n : Int) := by omega
        have hlt2' : (k : Int) < (m : Int) := by omega
        have hkx : k < xs.length := by rw [HN.out]; exact hlt
        have hky : k < ys.length := by rw [HM.out]; exact hlt2
        obtain ⟨x, hx⟩ : ∃ x, xs[k] = x := ⟨_, rfl⟩
        obtain ⟨y, hy⟩ : ∃ y, ys[k] = y := ⟨_, rfl⟩
        have hv' : SlF wr _ xs := hv.no c
        have hu' : SlF wr _ ys := hu.no c
        obtain ⟨b1, o1, rfl, x1, x2⟩ := SlF.at hv' k x (by rw [List.getElem?_eq_getElem hkx, hx])
        obtain ⟨b2, o2, rfl, y1, y2⟩ := SlF.at hu' k y (by rw [List.getElem?_eq_getElem hky, hy])
        by_cases hxy : x = y
        · have HT2 : Hid (xs.take (k + 1) = ys.take (k + 1)) := by
            show _ = _
            rw [List.take_succ_eq_append_getElem hkx, List.take_succ_eq_append_getElem hky, HT.out, hx, hy, hxy]
          have hne : ∀ w, (binOp .neq 86 (.agg #[.string x.1, .string x.2]) (.agg #[.string y.1, .string y.2])).run Tryd.prog w = .ok (.bool false) w := fun w => by rw [run_neq_file, decide_eq_true hxy]; rfl
          clear hxy hx hy hv' hu'
          gi_wp2
          refine wpIn_region_quiet_lit rfl hmix (by kernel_rfl) ?_
          repeat (gi_big_quiet_step (fail))
          refine wpQuietIn_nil ?_
          rintro w' ⟨j, rfl⟩
          gi_wp2
          go_roundw
          case rel => exact ⟨k + 1, hlt, by go_num, HT2, drewNC c _⟩
          case measure => simp [intOf]; omega
        · have HD : Hid (decide (xs = ys) = false) := by
            show _ = _
            rw [decide_eq_false_iff_not]
            rintro rfl
            exact hxy (hx.symm.trans hy)
          have hne : ∀ w, (binOp .neq 86 (.agg #[.string x.1, .string x.2]) (.agg #[.string y.1, .string y.2])).run Tryd.prog w = .ok (.bool true) w := fun w => by rw [run_neq_file, decide_eq_false hxy]; rfl
          clear hxy hx hy hv' hu'
          gi_wp2
          refine wpIn_region_quiet_lit rfl hmix (by kernel_rfl) ?_
          repeat (gi_big_quiet_step (fail))
          refine wpQuietIn_nil ?_
          rintro w' ⟨j, rfl⟩
          gi_wp2
          go_ret
          exact ⟨by rw [HD.out]; rfl, drewNC c _⟩
      · obtain rfl : k = n := by omega
        have hlt' : ¬ (k : Int) < (k : Int) := by omega
        have HD : Hid (decide (xs = ys) = true) := by
          show _ = _
          rw [decide_eq_true_iff]
          have h := HT.out
          rw [List.take_of_length_le (by rw [HN.out]; exact Nat.le_refl _), List.take_of_length_le (by rw [HM.out, ← HL.out]; exact Nat.le_refl _)] at h
          exact h
        gi_wp2
        go_ret
        exact ⟨by rw [HD.out]; rfl, c⟩
  · have he : ((n : Int) != (m : Int)) = true := by simp; omega
    have HD : Hid (decide (xs = ys) = false) := by
      show _ = _
      rw [decide_eq_false_iff_not]
      rintro rfl
      exact hlen (HN.out.symm.trans HM.out)
    clear hlen
    gi_wp2
    go_ret
    exact ⟨by rw [HD.out]; rfl, Chg.refl _ _⟩

end Go.Proofs.YtmpgeacfnikbpaaDoor

end
section
-- FLend
namespace Go.Proofs.YtmpgeacfnikbpaaDoor
open Go.RowKit Go.Shelf Go.SeqLib Go.DiffLib Go.TreeLib
attribute [local go_sem] Oper.semAt_some

/-- What GreatFiles answers. -/
def greatF (zs : List Fl) (most : Nat) : Bool := decide (most < zs.length) || zs.any (fun x => decide (100 < x.1.size) || decide (500 < x.2.size))

theorem greatF_false {zs : List Fl} {most : Nat} (h : greatF zs most = false) : zs.length ≤ most ∧ ∀ x ∈ zs, x.1.size ≤ 100 ∧ x.2.size ≤ 500 := by
  unfold greatF at h
  rw [Bool.or_eq_false_iff] at h
  refine ⟨by have := of_decide_eq_false h.1; omega, fun x hx => ?_⟩
  have := List.any_eq_false.1 h.2 x hx
  simp at this
  exact this

/-- A cell of a row that is owned: it is there, it may be written; written, the row is owned still; behind what is owned nothing of that is changed. -/
theorem rowPutF {W : World} {base : Nat} {e : TypeId} {s g n cap : Nat} {xs : List Value} (h : W.ownsRow base e s (.slice (some ⟨g, 0, none⟩) n cap) n xs) {j : Nat} (hj : j < cap * s) (u : Value) :
    (∃ x, W.cell? ⟨g, j, none⟩ = some x) ∧ W.frozen? ⟨g, j, none⟩ = false ∧ ∃ ys, (W.setCell ⟨g, j, none⟩ u).ownsRow base e s (.slice (some ⟨g, 0, none⟩) n cap) n ys ∧ (n * s ≤ j → ys = xs) := by
  obtain ⟨h1, h2⟩ := h
  rcases h2 with ⟨h2, _⟩ | ⟨g', cap', cur, hv, hb, hg, hn, hm, hs, ht⟩
  · cases h2
  · cases hv
    have hjs : j < cur.size := by omega
    refine ⟨⟨cur[j], by simp [World.cell?, hg, hjs]⟩, by simp [World.frozen?, hg], (cur.setIfInBounds j u).toList.take (n * s), ⟨?_, .inr ⟨g, cap, cur.setIfInBounds j u, rfl, hb, ?_, hn, hm, by simpa using hs, rfl⟩⟩, fun hnj => ?_⟩
    · have := congrArg List.length ht
      simp at this ⊢
      omega
    · obtain ⟨hlt, hk⟩ := Array.getElem?_eq_some_iff.1 hg
      show (W.heap.modify g _)[g]? = _
      rw [Array.getElem?_eq_getElem (by rw [Array.size_modify]; exact hlt), Array.getElem_modify_self, hk]
      rfl
    · rw [← ht]
      refine List.ext_getElem? fun i => ?_
      simp only [List.getElem?_take, Array.getElem?_toList, Array.getElem?_setIfInBounds]
      split
      · rw [if_neg (by omega)]
      · rfl

end Go.Proofs.YtmpgeacfnikbpaaDoor

end
section
-- FIt
namespace Go.Proofs.YtmpgeacfnikbpaaDoor
open Go.RowKit Go.Shelf Go.SeqLib Go.DiffLib Go.TreeLib
attribute [local go_sem] Oper.semAt_some

/-- A file, as yield takes it: by two, by one. -/
abbrev encP (x : Fl) : Array Value := #[.string x.1, .string x.2]
abbrev encF (x : Fl) : Array Value := #[.agg #[.string x.1, .string x.2]]

set_option maxRecDepth 100000 in
set_option maxHeartbeats 1000000 in
/-- tree's own files. -/
theorem files1 (v : Value) (zs : List Fl) (Bk : Nat) (hD : ¬ slE v zs Bk) :
    Iter Tryd.prog 82 #[.pointer (some ⟨Bk, 0, none⟩)] encP zs (fun k => k = Bk ∨ slE v zs k) (fun _ => False)
      (fun W => Boxed W Bk 44 v ∧ SlF W v zs) (fun _ W => Boxed W Bk 44 v ∧ SlF W v zs) := {
  sub := fun _ h => h.elim
  lt0 := by
    rintro W ⟨b1, b2⟩ k (rfl | h)
    · exact b1.lt
    · exact b2.lt k h
  kept0 := by
    rintro W W' ⟨b1, b2⟩ _ hk
    exact ⟨(hk _ (.inl rfl)).trans b1, SlE.kept b2 (fun k h => hk k (.inr h))⟩
  kept := by
    rintro pre W W' ⟨b1, b2⟩ _ hk
    exact ⟨(hk _ (.inl rfl)).trans b1, SlE.kept b2 (fun k h => hk k (.inr h))⟩
  runs := by
    intro l J Jx S W pJ pJx hY hI hJ hDS
    obtain ⟨b1, b2⟩ := hI
    obtain ⟨p, cap, rfl, hcap, hmax⟩ := b2.slice
    have hc1 := b1.cell
    have hml : zs.length ≤ 9223372036854775807 := by unfold maxLen at hmax; omega
    clear hcap hmax
    refine callsIn_of_wp Tryd.func82 rfl trivial ?_
    simp only [Tryd.ntmps82, List.size_toArray, List.length_cons, List.length_nil, Nat.reduceAdd, Nat.reduceSub, Array.replicate_succ, Array.replicate_zero, List.push_toArray, List.append_toArray, List.nil_append, List.cons_append]
    gi_wp2
    gi_loopw [7] (fun i wr => ∃ (k : Nat) (So : Blk), k ≤ zs.length ∧ i = .int .i64 (k : Int) ∧ J (zs.take k) So wr ∧ Chg S W wr ∧ Grew S W So)
      (fun i _ => zs.length - (intOf i).toNat)
    case atStart => exact ⟨0, S, Nat.zero_le _, rfl, hJ, Chg.refl _ _, Grew.refl _ _⟩
    case round =>
      obtain ⟨k, So, hk, rfl, j, c, g⟩ := hrel
      have hfin : ∀ {W9 : World}, Chg S W W9 → Boxed W9 Bk 44 (.slice p zs.length cap) ∧ SlF W9 (.slice p zs.length cap) zs := fun c9 => ⟨c9.boxed b1 (hDS _ (.inl rfl)), b2.chg c9 (fun k hk => hDS k (.inr hk))⟩
      by_cases hlt : k < zs.length
      · have hlt' : (k : Int) < (zs.length : Int) := by omega
        have hts : zs.take (k + 1) = zs.take k ++ [zs[k]] := by rw [List.take_succ_eq_append_getElem hlt]
        have HT : Hid (zs.take (k + 1) = zs.take k ++ [zs[k]]) := hts
        have hpr : zs.take k ++ [zs[k]] <+: zs := by rw [← hts]; exact List.take_prefix _ _
        clear hts
        obtain ⟨x, hx⟩ : ∃ x, zs[k] = x := ⟨_, rfl⟩
        rw [hx] at hpr
        obtain ⟨b, off, rfl, hcw1, hcw2⟩ := SlF.at (hfin c).2 k x (by rw [List.getElem?_eq_getElem hlt, hx])
        have HX : Hid (zs[k] = x) := hx
        clear hx
        have ca : Chg S W (wr.alloc (.cells #[.string x.1, .string x.2] 86)) := c.alloc _
        have j' : J (zs.take k) So (wr.alloc (.cells #[.string x.1, .string x.2] 86)) := (pJ _).chg j ((Chg.refl (fun _ => False) wr).alloc _) (fun _ _ h => h)
        obtain ⟨fnr, tmps, assign, body, hy, hR⟩ := hY (zs.take k) x So _ hpr j'
        gi_wp2
        refine ⟨rfl, hR.mono ?_⟩
        rintro e W3 ⟨S3, c3, g3, (⟨rfl, j3⟩ | ⟨rfl, j3⟩)⟩
        · have cc := ca.trans c3 g
          have gg := g.trans g3 ca.size
          gi_wp2
          go_roundw
          case rel => exact ⟨k + 1, S3, hlt, by go_num, by rw [HT.out, HX.out]; exact j3, cc, gg⟩
          case measure => simp [intOf]; omega
        · have cc := ca.trans c3 g
          have gg := g.trans g3 ca.size
          gi_wp2
          refine bodyPost_ret (results_none rfl _ _ _) rfl ?_
          exact ⟨⟨_, rfl⟩, _, S3, .inr ⟨hpr, j3⟩, hfin cc, cc.mono (fun _ => .inr), gg⟩
      · obtain rfl : k = zs.length := by omega
        gi_wp2
        go_end0
        exact ⟨⟨_, rfl⟩, _, So, .inl ⟨List.take_length, j⟩, hfin c, c.mono (fun _ => .inr), g⟩ }

end Go.Proofs.YtmpgeacfnikbpaaDoor

end
section
-- SeqX
namespace Go.SeqLib
open Go Go.RowKit

set_option maxHeartbeats 1000000 in
/-- The same where x lies in a block of its own, laid anew for each round. -/
theorem wpIn_rangeX {α : Type} {P : Program} {g : Operand} {ps : Array Tmp} {assign body : Code} {Q : Exit → Act → World → Prop} {a : Act} {w : World}
    {gf : Nat} {lb : Array Value} (hg : a.eval g = .func (.func gf) #[] lb) (eg : ∀ args w, (callFunc gf args).run P w = .ok (.enter gf args) w)
    {encs : α → Array Value} {xs : List α} {D M : Blk} {I0 : World → Prop} {I : List α → World → Prop} (it : Iter P gf lb encs xs D M I0 I) (hps : ∀ x, (encs x).size = ps.size)
    (K : List α → Blk → World → Prop) (Kx : Code → List α → Blk → World → Prop) (hK : ∀ pre, Part (K pre)) (hKx : ∀ c pre, Part (Kx c pre))
    {S : Blk} (hI : I0 w) (h0 : K [] S w) (hDS : ∀ k, D k → ¬ S k) (a₁ : α → Nat → Act) (ob : α → Obj)
    (hassign : ∀ (l : Nat) (x : α) (W : World) (R : Act → World → Prop), R (a₁ x W.heap.size) (W.alloc (ob x)) →
      assign.wpIn (Fence.wide.inRound l) 0 P (Exit.then R (fun _ _ _ => False)) { tmps := (ps.zip (encs x)).foldl (fun t (p, v) => t.setIfInBounds p v) a.tmps, defers := [] } W)
    (hbody : ∀ (l : Nat) (pre : List α) (x : α) (S : Blk) (W : World) (X : Nat), pre ++ [x] <+: xs → K pre S W → W.heap[X]? = some (ob x) → ¬ S X → w.heap.size ≤ X → body.wpIn (Fence.wide.inRound l) 0 P (rndPost K Kx (pre ++ [x]) S W) (a₁ x X) W)
    (hdone : ∀ (d : Nat) (S' : Blk) (W : World), w.heap.size ≤ d → K xs S' W → I xs W → Chg (fun k => M k ∨ S k) w W → Grew S w S' → W.heap[d]? = some (.deferred (some [])) → ¬ S' d →
      Q .normal { a with defers := { target := .collected d, args := #[] } :: a.defers } W)
    (hstop : ∀ (d : Nat) (c : Code) (pre : List α) (S' : Blk) (W : World), w.heap.size ≤ d → pre <+: xs → Kx c pre S' W → I pre W → Chg (fun k => M k ∨ S k) w W → Grew S w S' → W.heap[d]? = some (.deferred (some [])) → ¬ S' d →
      c.wpIn Fence.wide 0 P Q { a with defers := { target := .collected d, args := #[] } :: a.defers } W) :
    (Code.rangeFunc g ps assign body).wpIn Fence.wide 0 P Q a w := by
  refine wpIn_rangeFunc ?_
  intro fn hfn
  rw [show Fence.wide.round = none from rfl]
  obtain ⟨rec, hrec⟩ : ∃ rec : LoopState → Option Code → Loop, rec = fun st pe => { state := st, pending := pe, fn, tmps := a.tmps, params := ps, assign, body, defers := w.heap.size } := ⟨_, rfl⟩
  obtain ⟨W1, hW1⟩ : ∃ W1, (w.alloc (.deferred (some []))).alloc (.loop (rec .ready none)) = W1 := ⟨_, rfl⟩
  have hL1 : W1.heap[w.heap.size + 1]? = some (.loop (rec .ready none)) := by
    rw [← hW1]; have := World.alloc_heap_new (w.alloc (.deferred (some []))) (.loop (rec .ready none)); rwa [World.size_alloc] at this
  have hK1 : W1.heap[w.heap.size]? = some (.deferred (some [])) := by
    rw [← hW1]; exact (Below.heap_alloc _ _ _ (by simp)).trans (World.alloc_heap_new w _)
  have hc1 : Chg (fun _ => False) w W1 := by rw [← hW1]; exact ((Chg.refl _ w).alloc _).alloc _
  have hI1 : I0 W1 := it.kept0 hI hc1.size (fun k hk => hc1.block k (it.lt0 hI k hk) (fun h => h))
  have h01 : K [] S W1 := (hK []).chg h0 hc1 (fun _ _ h => h)
  have hS1 : ∀ k, S k → k < w.heap.size := fun k hk => (hK []).lt h0 k hk
  refine ⟨w.heap.size + 1, [{ target := .collected w.heap.size, args := #[] }], W1, { target := .fn (.func gf) lb, args := #[.func (.yield (w.heap.size + 1)) #[] #[]] }, W1, gf,
    #[.func (.yield (w.heap.size + 1)) #[] #[]] ++ lb, W1, ?_, ?_, ?_, ?_, (fun h => absurd h (by decide)), ?_⟩
  · rw [← hW1, hrec]; exact run_enterLoop_outer _ _ _ _ _
  · simp only [resolve, hg]
    simp [go_sem]
  · intro f' _; trivial
  · simp [invoke, go_sem, eg]
  · -- the consumer's part: its own, the record and the block for deferred calls
    let J : List α → Blk → World → Prop := fun pre S₂ W => ∃ S', S₂ = (fun k => S' k ∨ k = w.heap.size ∨ k = w.heap.size + 1) ∧ K pre S' W ∧ ¬ S' w.heap.size ∧ ¬ S' (w.heap.size + 1) ∧
      W.heap[w.heap.size + 1]? = some (.loop (rec .ready none)) ∧ W.heap[w.heap.size]? = some (.deferred (some []))
    let Jx : List α → Blk → World → Prop := fun pre S₂ W => ∃ c S', S₂ = (fun k => S' k ∨ k = w.heap.size ∨ k = w.heap.size + 1) ∧ Kx c pre S' W ∧ ¬ S' w.heap.size ∧ ¬ S' (w.heap.size + 1) ∧
      W.heap[w.heap.size + 1]? = some (.loop (rec .done (some c))) ∧ W.heap[w.heap.size]? = some (.deferred (some []))
    have pJ : ∀ pre, Part (J pre) := fun pre =>
      ⟨by
        rintro S₂ W ⟨S', rfl, k1, _, _, hl, hd⟩ k (hk | hk | hk)
        · exact (hK pre).lt k1 k hk
        · subst hk; exact (Array.getElem?_eq_some_iff.1 hd).1
        · subst hk; exact (Array.getElem?_eq_some_iff.1 hl).1,
       by
        rintro S₂ W W' ⟨S', rfl, k1, n1, n2, hl, hd⟩ hs hk
        exact ⟨S', rfl, (hK pre).kept k1 hs (fun k h => hk k (.inl h)), n1, n2, (hk _ (.inr (.inr rfl))).trans hl, (hk _ (.inr (.inl rfl))).trans hd⟩⟩
    have pJx : ∀ pre, Part (Jx pre) := fun pre =>
      ⟨by
        rintro S₂ W ⟨c, S', rfl, k1, _, _, hl, hd⟩ k (hk | hk | hk)
        · exact (hKx c pre).lt k1 k hk
        · subst hk; exact (Array.getElem?_eq_some_iff.1 hd).1
        · subst hk; exact (Array.getElem?_eq_some_iff.1 hl).1,
       by
        rintro S₂ W W' ⟨c, S', rfl, k1, n1, n2, hl, hd⟩ hs hk
        exact ⟨c, S', rfl, (hKx c pre).kept k1 hs (fun k h => hk k (.inl h)), n1, n2, (hk _ (.inr (.inr rfl))).trans hl, (hk _ (.inr (.inl rfl))).trans hd⟩⟩
    have hns : ¬ S w.heap.size := fun h => by have := hS1 _ h; omega
    have hns1 : ¬ S (w.heap.size + 1) := fun h => by have := hS1 _ h; omega
    refine (it.runs (w.heap.size + 1) J Jx (fun k => S k ∨ k = w.heap.size ∨ k = w.heap.size + 1) W1 pJ pJx ?_ hI1 ⟨S, rfl, h01, hns, hns1, hL1, hK1⟩ ?_).mono ?_
    · -- one round
      rintro pre x S₂ W hpre ⟨S', rfl, k1, n1, n2, hl, hd⟩
      have hlt : w.heap.size + 1 < W.heap.size := (Array.getElem?_eq_some_iff.1 hl).1
      have hy := run_yield (P := P) (args := encs x) hl (by rw [hrec]; exact hps x)
      rw [hrec] at hy
      have hla : (W.alloc (ob x)).heap[w.heap.size + 1]? = some (.loop (rec .ready none)) := (Below.heap_alloc W _ _ hlt).trans hl
      have hda : (W.alloc (ob x)).heap[w.heap.size]? = some (.deferred (some [])) := (Below.heap_alloc W _ _ (by omega)).trans hd
      have hXa : (W.alloc (ob x)).heap[W.heap.size]? = some (ob x) := World.alloc_heap_new W _
      have hlta : w.heap.size + 1 < (W.alloc (ob x)).heap.size := (Array.getElem?_eq_some_iff.1 hla).1
      have ca : Chg (fun _ => False) W (W.alloc (ob x)) := (Chg.refl _ W).alloc _
      refine ⟨fn, _, assign, body, hy, roundIn_of_wpIn hfn (hassign _ x W _ ⟨_, run_beginRound hla (by rw [hrec]), ?_⟩)⟩
      clear hy
      have hX0 : W.heap.size ≠ w.heap.size + 1 := by omega
      have hXS : ¬ S' W.heap.size := fun h => by have := (hK pre).lt k1 _ h; omega
      obtain ⟨Wa, hWa⟩ : ∃ Wa, Wa = W.alloc (ob x) := ⟨_, rfl⟩
      rw [← hWa] at hla hda hXa hlta ca ⊢
      have hl2 : (Wa.putObj (w.heap.size + 1) (.loop { rec .ready none with state := .busy })).heap[w.heap.size + 1]? = some (.loop { rec .ready none with state := .busy }) := World.putObj_heap_same hlta
      have hd2 : (Wa.putObj (w.heap.size + 1) (.loop { rec .ready none with state := .busy })).heap[w.heap.size]? = some (.deferred (some [])) := (World.putObj_heap_other (by omega)).trans hda
      have hX2 : (Wa.putObj (w.heap.size + 1) (.loop { rec .ready none with state := .busy })).heap[W.heap.size]? = some (ob x) := (World.putObj_heap_other hX0).trans hXa
      have c2 : Chg (fun k => k = w.heap.size + 1) W (Wa.putObj (w.heap.size + 1) (.loop { rec .ready none with state := .busy })) := (ca.mono (fun _ h => h.elim)).trans (Chg.put1 _ _ _) (Grew.refl _ _)
      have k2 : K pre S' (Wa.putObj (w.heap.size + 1) (.loop { rec .ready none with state := .busy })) := (hK pre).chg k1 c2 (fun k hk e => n2 (e ▸ hk))
      have hsa : W.heap.size ≤ Wa.heap.size := ca.size
      refine wpIn_mono (hbody _ pre x S' _ W.heap.size hpre k2 hX2 hXS (by omega)) ?_
      have fin : ∀ (jump : Option Code) (S3 : Blk) (W3 : World), Chg S' (Wa.putObj (w.heap.size + 1) (.loop { rec .ready none with state := .busy })) W3 → Grew S' (Wa.putObj (w.heap.size + 1) (.loop { rec .ready none with state := .busy })) S3 →
          (Instr.endRound (w.heap.size + 1) jump).run P W3 = .ok (.bool jump.isNone) (W3.putObj (w.heap.size + 1) (.loop (rec (if jump.isNone then .ready else .done) jump))) ∧
          (W3.putObj (w.heap.size + 1) (.loop (rec (if jump.isNone then .ready else .done) jump))).heap[w.heap.size + 1]? = some (.loop (rec (if jump.isNone then .ready else .done) jump)) ∧
          (W3.putObj (w.heap.size + 1) (.loop (rec (if jump.isNone then .ready else .done) jump))).heap[w.heap.size]? = some (.deferred (some [])) ∧
          Chg (fun k => k = w.heap.size + 1) W3 (W3.putObj (w.heap.size + 1) (.loop (rec (if jump.isNone then .ready else .done) jump))) ∧
          ¬ S3 w.heap.size ∧ ¬ S3 (w.heap.size + 1) ∧
          Chg (fun k => S' k ∨ k = w.heap.size ∨ k = w.heap.size + 1) W (W3.putObj (w.heap.size + 1) (.loop (rec (if jump.isNone then .ready else .done) jump))) ∧
          Grew (fun k => S' k ∨ k = w.heap.size ∨ k = w.heap.size + 1) W (fun k => S3 k ∨ k = w.heap.size ∨ k = w.heap.size + 1) := fun jump S3 W3 c3 g3 => by
        have hl3 := c3.same hl2 n2
        have hd3 := c3.same hd2 n1
        have hr := run_endRound (P := P) jump hl3
        have g3' : Grew S' W S3 := fun k hk => by
          rcases g3 k hk with h | h
          · exact .inl h
          · rw [World.putObj_size] at h
            exact .inr (Nat.le_trans hsa h)
        rw [hrec] at hr ⊢
        refine ⟨hr, World.putObj_heap_same (Array.getElem?_eq_some_iff.1 hl3).1, (World.putObj_heap_other (by omega)).trans hd3, Chg.put1 _ _ _, ?_, ?_, ?_, ?_⟩
        · intro h; rcases g3' _ h with h1 | h1
          · exact n1 h1
          · omega
        · intro h; rcases g3' _ h with h1 | h1
          · exact n2 h1
          · omega
        · refine Chg.putObj (Chg.trans (S' := S') (c2.mono (fun k hk => .inr (.inr hk))) c3 (fun k hk => .inl (.inl hk))) (.inl (.inr (.inr rfl))) _
        · rintro k (hk | hk | hk)
          · rcases g3' k hk with h1 | h1
            · exact .inl (.inl h1)
            · exact .inr h1
          · exact .inl (.inr (.inl hk))
          · exact .inl (.inr (.inr hk))
      rintro e a3 W3 hp
      cases e with
      | normal =>
        obtain ⟨S3, c3, g3, k3⟩ := hp
        obtain ⟨hr, hl4, hd4, c4, m1, m2, cc, gg⟩ := fin none S3 W3 c3 g3
        exact ⟨_, _, hr, _, cc, gg, .inl ⟨rfl, S3, rfl, (hK _).chg k3 c4 (fun k hk e => m2 (e ▸ hk)), m1, m2, hl4, hd4⟩⟩
      | ret =>
        obtain ⟨S3, c3, g3, k3⟩ := hp
        obtain ⟨hr, hl4, hd4, c4, m1, m2, cc, gg⟩ := fin (some .ret) S3 W3 c3 g3
        exact ⟨_, _, hr, _, cc, gg, .inr ⟨rfl, .ret, S3, rfl, (hKx _ _).chg k3 c4 (fun k hk e => m2 (e ▸ hk)), m1, m2, hl4, hd4⟩⟩
      | exit id =>
        obtain ⟨S3, c3, g3, k3⟩ := hp
        obtain ⟨hr, hl4, hd4, c4, m1, m2, cc, gg⟩ := fin (some (.exit id)) S3 W3 c3 g3
        exact ⟨_, _, hr, _, cc, gg, .inr ⟨rfl, .exit id, S3, rfl, (hKx _ _).chg k3 c4 (fun k hk e => m2 (e ▸ hk)), m1, m2, hl4, hd4⟩⟩
      | goto t =>
        obtain ⟨S3, c3, g3, k3⟩ := hp
        obtain ⟨hr, hl4, hd4, c4, m1, m2, cc, gg⟩ := fin (some (.goto t)) S3 W3 c3 g3
        exact ⟨_, _, hr, _, cc, gg, .inr ⟨rfl, .goto t, S3, rfl, (hKx _ _).chg k3 c4 (fun k hk e => m2 (e ▸ hk)), m1, m2, hl4, hd4⟩⟩
      | panic ch => exact hp.elim
      | outgrown => exact hp.elim
    · rintro k hk (h | h | h)
      · exact hDS k hk h
      · have := it.lt0 hI k hk; omega
      · have := it.lt0 hI k hk; omega
    · -- behind the iterator
      have gs : ∀ {S' : Blk}, Grew (fun k => S k ∨ k = w.heap.size ∨ k = w.heap.size + 1) W1 (fun k => S' k ∨ k = w.heap.size ∨ k = w.heap.size + 1) → Grew S w S' := fun g k hk => by
        rcases g k (.inl hk) with (h | h | h) | h
        · exact .inl h
        · exact .inr (by omega)
        · exact .inr (by omega)
        · exact .inr (Nat.le_trans hc1.size h)
      have cs : ∀ {W2 : World} (o : Obj), Chg (fun k => M k ∨ S k ∨ k = w.heap.size ∨ k = w.heap.size + 1) W1 W2 → Chg (fun k => M k ∨ S k) w (W2.putObj (w.heap.size + 1) o) := fun o c => by
        refine Chg.putObj ?_ (.inr (by omega)) _
        refine Chg.trans (hc1.mono (fun _ h => h.elim)) c (fun k hk => ?_)
        rcases hk with h | h | h | h
        · exact .inl (.inl h)
        · exact .inl (.inr h)
        · exact .inr (by omega)
        · exact .inr (by omega)
      rintro e W2 ⟨⟨v, rfl⟩, ys, S₂, (⟨rfl, S', rfl, k1, n1, n2, hl, hd⟩ | ⟨hpre, c, S', rfl, k1, n1, n2, hl, hd⟩), hi, hc, hgr⟩
      · have c5 : Chg (fun k => k = w.heap.size + 1) W2 (W2.putObj (w.heap.size + 1) (.loop { rec .ready none with state := .exhausted })) := Chg.put1 _ _ _
        have hnD : ¬ D (w.heap.size + 1) := fun h => by have := it.lt0 hI _ h; omega
        refine ⟨none, _, by have := run_endLoop (P := P) hl (by rw [hrec]; simp); rw [hrec] at this; exact this, ?_⟩
        rw [hrec] at c5
        have cs' := cs (.loop { rec .ready none with state := .exhausted }) hc
        rw [hrec] at cs'
        exact hdone _ S' _ (Nat.le_refl _) ((hK _).chg k1 c5 (fun k hk e => n2 (e ▸ hk))) (it.kept hi c5.size (fun k hk => World.putObj_heap_other (fun e => hnD (e ▸ hk)))) cs' (gs hgr) ((World.putObj_heap_other (by omega)).trans hd) n1
      · have c5 : Chg (fun k => k = w.heap.size + 1) W2 (W2.putObj (w.heap.size + 1) (.loop { rec .done (some c) with state := .exhausted })) := Chg.put1 _ _ _
        have hnD : ¬ D (w.heap.size + 1) := fun h => by have := it.lt0 hI _ h; omega
        refine ⟨some c, _, by have := run_endLoop (P := P) hl (by rw [hrec]; simp); rw [hrec] at this; exact this, ?_⟩
        rw [hrec] at c5
        have cs' := cs (.loop { rec .done (some c) with state := .exhausted }) hc
        rw [hrec] at cs'
        exact hstop _ c ys S' _ (Nat.le_refl _) hpre ((hKx _ _).chg k1 c5 (fun k hk e => n2 (e ▸ hk))) (it.kept hi c5.size (fun k hk => World.putObj_heap_other (fun e => hnD (e ▸ hk)))) cs' (gs hgr) ((World.putObj_heap_other (by omega)).trans hd) n1

end Go.SeqLib

end
section
-- FFilt
namespace Go.Proofs.YtmpgeacfnikbpaaDoor
open Go.RowKit Go.Shelf Go.SeqLib Go.DiffLib Go.TreeLib
attribute [local go_sem] Oper.semAt_some

end Go.Proofs.YtmpgeacfnikbpaaDoor

end
section
-- FList
namespace Go.Proofs.YtmpgeacfnikbpaaDoor
open Go.RowKit Go.Shelf Go.SeqLib Go.DiffLib Go.TreeLib
attribute [local go_sem] Oper.semAt_some

/-- A box that holds a list of files which owns them. -/
def BoxF (B base : Nat) (zs : List Fl) : Blk → World → Prop := fun S W => ∃ v, S = (fun k => k = B ∨ v.ownBlock = some k) ∧ Boxed W B 44 v ∧ OwnF W base v zs

theorem BoxF.part (B base : Nat) (zs : List Fl) : Part (BoxF B base zs) := {
  lt := by
    rintro S W ⟨v, rfl, hb, hr⟩ k (rfl | h)
    · exact hb.lt
    · exact (hr.lt k h).2
  kept := by
    rintro S W W' ⟨v, rfl, hb, hr⟩ _ hk
    exact ⟨v, rfl, (hk _ (.inl rfl)).trans hb, hr.kept (fun k h => hk k (.inr h))⟩ }

/-- One more is appended. -/
theorem BoxF.step {W w1 : World} {B base : Nat} {v v' : Value} {zs : List Fl} {x : Fl} {tmp : Obj} (hv : Boxed W B 44 v) (hrow : OwnF W base v zs)
    (hown' : OwnF w1 base v' (zs ++ [x])) (hgrow : (W.alloc tmp).grownBy w1 v.ownBlock) (hat : v'.ownBlock = v.ownBlock ∨ v'.ownBlock = some (W.alloc tmp).heap.size) :
    Boxed w1 B 44 v ∧ Boxed (w1.setCell ⟨B, 0, none⟩ v') B 44 v' ∧ OwnF (w1.setCell ⟨B, 0, none⟩ v') base v' (zs ++ [x]) ∧
      Chg (fun k => k = B ∨ v.ownBlock = some k) W (w1.setCell ⟨B, 0, none⟩ v') ∧ Grew (fun k => k = B ∨ v.ownBlock = some k) W (fun k => k = B ∨ v'.ownBlock = some k) := by
  have hte : (44 : TypeId) ≠ 86 := by decide
  have hv1 : Boxed w1 B 44 v := (hv.alloc tmp).kept hgrow (hv.not_row hte hrow)
  refine ⟨hv1, hv1.set v', ?_, ?_, ?_⟩
  · exact World.ownsRow.kept hown' (grownBy_setCell' w1 B v') (.inr (hv1.not_row hte hown').symm)
  · exact (((Chg.refl _ W).alloc tmp).grown hgrow (fun k e => .inl (.inr e))).setCell (p := ⟨B, 0, none⟩) (.inl (.inl rfl)) v'
  · rintro k (h | h)
    · exact .inl (.inl h)
    · rcases hat with h' | h'
      · exact .inl (.inr (h'.symm.trans h))
      · rw [h'] at h; simp at h; exact .inr (by omega)

end Go.Proofs.YtmpgeacfnikbpaaDoor

end
section
-- FDrop
namespace Go.Proofs.YtmpgeacfnikbpaaDoor
open Go.RowKit Go.Shelf Go.SeqLib Go.DiffLib Go.TreeLib
attribute [local go_sem] Oper.semAt_some

theorem weakenA {α : Type} {P : Program} {gf : Nat} {lb : Array Value} {encs : α → Array Value} {xs : List α} {D M : Blk} {I0 : World → Prop} {I : List α → World → Prop} (it : Iter P gf lb encs xs D M I0 I)
    (h : ∀ pre W, I pre W → I0 W) (hM : ∀ W W', I0 W → I0 W' → ∀ k, M k → W'.heap[k]? = W.heap[k]?) : Iter P gf lb encs xs D No I0 (fun _ => I0) := {
  sub := fun _ h => h.elim
  lt0 := it.lt0
  kept0 := it.kept0
  kept := fun h => it.kept0 h
  runs := fun l J Jx S W pJ pJx hY hI hJ hDS => (it.runs l J Jx S W pJ pJx hY hI hJ hDS).mono fun e W' h' => by
    obtain ⟨hv, ys, S', hj, hi, c, g⟩ := h'
    refine ⟨hv, ys, S', hj, h ys W' hi, c.less (fun k hk hm hn => ?_), g⟩
    rcases hm with hm | hm
    · exact hM W W' hI (h ys W' hi) k hm
    · exact (hn (.inr hm)).elim }

/-- A sequence of files that turns nothing, over the blocks D: told by encs. -/
def PSeqA (encs : Fl → Array Value) (W : World) (gf : Nat) (lb : Array Value) (xs : List Fl) (D : Blk) : Prop :=
  ∃ I0, Iter Tryd.prog gf lb encs xs D No I0 (fun _ => I0) ∧ I0 W ∧ ∀ args w, (callFunc gf args).run Tryd.prog w = .ok (.enter gf args) w
section
variable {encs : Fl → Array Value} {W W' : World} {gf : Nat} {lb : Array Value} {xs : List Fl} {D : Blk}
theorem PSeqA.lt (h : PSeqA encs W gf lb xs D) : ∀ k, D k → k < W.heap.size := by
  obtain ⟨I0, it, hi, _⟩ := h
  exact it.lt0 hi
theorem PSeqA.chg (h : PSeqA encs W gf lb xs D) {S : Blk} (c : Chg S W W') (hd : ∀ k, D k → ¬ S k) : PSeqA encs W' gf lb xs D := by
  obtain ⟨I0, it, hi, he⟩ := h
  exact ⟨I0, it, it.kept0 hi c.size (fun k hk => c.block k (it.lt0 hi k hk) (hd k hk)), he⟩
theorem PSeqA.no (h : PSeqA encs W gf lb xs D) (c : Chg No W W') : PSeqA encs W' gf lb xs D := h.chg c (fun _ _ h => h)
end

set_option maxRecDepth 100000 in
set_option maxHeartbeats 1000000 in
theorem cloneF_in (v : Value) (zs : List Fl) (hlen : zs.length ≤ 100000) (w : World) (hv : SlF w v zs) : CallsIn Fence.wide 0 Tryd.prog 54 #[v] w fun e w' =>
    ∃ v', e = .returned v' ∧ OwnF w' w.heap.size v' zs ∧ Chg No w w' := by
  obtain ⟨p, cap, rfl, h1, h2⟩ := hv.slice
  cases p with
  | none =>
    have hz : zs = [] := by
      cases zs with
      | nil => rfl
      | cons x r => obtain ⟨b, off, h, _⟩ := SlF.at hv 0 x rfl; cases h
    subst hz
    have hnil := fun w => run_eql_slice_nil' Tryd.underlying44 none 0 cap w
    simp only [Option.isNone_none] at hnil
    refine callsIn_of_wp Tryd.func54 rfl trivial ?_
    simp only [Tryd.ntmps54, List.size_toArray, List.length_cons, List.length_nil, Nat.reduceAdd, Nat.reduceSub, Array.replicate_succ, Array.replicate_zero, List.push_toArray, List.append_toArray, List.nil_append, List.cons_append]
    gi_wp2
    go_ret
    exact ⟨_, rfl, OwnF.nil _ _, Chg.refl _ _⟩
  | some a =>
    have hnil := fun w => run_eql_slice_nil' Tryd.underlying44 (some a) zs.length cap w
    simp only [Option.isNone_some] at hnil
    refine callsIn_of_wp Tryd.func54 rfl trivial ?_
    simp only [Tryd.ntmps54, List.size_toArray, List.length_cons, List.length_nil, Nat.reduceAdd, Nat.reduceSub, Array.replicate_succ, Array.replicate_zero, List.push_toArray, List.append_toArray, List.nil_append, List.cons_append]
    have hown0 : OwnF (w.alloc (.cells #[] 86)) w.heap.size (.slice (some ⟨w.heap.size, 0, none⟩) 0 0) [] := World.ownsRow_made w #[] 0 (Nat.le_refl _) (Nat.zero_le _) rfl
    have hsl : SlF (w.alloc (.cells #[] 86)) (.slice (some a) zs.length cap) zs := hv.no ((Chg.refl _ w).alloc _)
    clear hv
    gi_wp2_with (gi_at_builtin; refine wpListIn_append_sf _ rfl _ _ rfl w.heap.size _ [] rfl hown0 (some a) zs.length cap zs rfl hsl (by simp; omega) (by simp) ?_; intro v' w1 hown' hgrow hat; rw [List.nil_append] at hown'; obtain ⟨p', c', rfl⟩ := hown'.slice)
    go_ret
    refine ⟨_, rfl, hown', ((Chg.refl _ w).alloc _).grown hgrow (fun k e => .inr ?_)⟩
    cases e
    exact Nat.le_refl _

/-- A question that turns nothing. -/
def PAsk (W : World) (ff : Nat) (cap : Array Value) (p : Fl → Bool) (D : Blk) : Prop :=
  ∃ I : World → Prop, Fun1 Tryd.prog ff cap (fun x : Fl => .agg #[.string x.1, .string x.2]) (fun x => .bool (p x)) D (fun _ => I) ∧ I W ∧ (∀ W W', I W → I W' → ∀ k, D k → W'.heap[k]? = W.heap[k]?) ∧ ∀ args w, (callFunc ff args).run Tryd.prog w = .ok (.enter ff args) w
theorem PAsk.no {W W' : World} {ff : Nat} {cap : Array Value} {p : Fl → Bool} {D : Blk} (h : PAsk W ff cap p D) (c : Chg No W W') : PAsk W' ff cap p D := by
  obtain ⟨I, fn, hi, hx, he⟩ := h
  exact ⟨I, fn, fn.kept (k := 0) hi c.size (fun k hk => c.block k (fn.lt (k := 0) hi k hk) (fun h => h)), hx, he⟩
theorem PAsk.lt {W : World} {ff : Nat} {cap : Array Value} {p : Fl → Bool} {D : Blk} (h : PAsk W ff cap p D) : ∀ k, D k → k < W.heap.size := by
  obtain ⟨I, fn, hi, _, _⟩ := h
  exact fn.lt (k := 0) hi

theorem filesT_in (v : Value) (zs : List Fl) (w : World) (hv : SlF w v zs) : CallsIn Fence.wide 0 Tryd.prog 76 #[v] w fun e w' =>
    ∃ gf lb D, e = .returned (.func (.func gf) #[] lb) ∧ PSeqA encP w' gf lb zs D ∧ Chg No w w' ∧ ∀ k, D k → slE v zs k ∨ k = w.heap.size := by
  have hlt := hv.lt
  obtain ⟨p', c', rfl, _⟩ := hv.slice
  refine callsIn_of_wp Tryd.func76 rfl trivial ?_
  simp only [Tryd.ntmps76, List.size_toArray, List.length_cons, List.length_nil, Nat.reduceAdd, Nat.reduceSub, Array.replicate_succ, Array.replicate_zero, List.push_toArray, List.append_toArray, List.nil_append, List.cons_append]
  gi_wp2
  go_ret
  refine ⟨_, _, _, rfl, ⟨_, weakenA (files1 (.slice p' zs.length c') zs w.heap.size (fun h => by have := hlt _ h; omega)) (fun _ _ h => h) (fun _ _ _ _ _ h => h.elim), ⟨Boxed.new _ _ _, hv.no ((Chg.refl _ w).alloc _)⟩, enters_of Tryd.func82 (by kernel_rfl) rfl⟩, (Chg.refl _ w).alloc _, ?_⟩
  rintro k (h | h)
  · exact .inr h
  · exact .inl h

theorem sameT_in (v u : Value) (xs ys : List Fl) (w : World) (hv : SlF w v xs) (hu : SlF w u ys) (hx : xs.length ≤ 1000000) :
    CallsIn Fence.wide 0 Tryd.prog 65 #[v, u] w fun e w' => e = .returned (.bool (decide (xs = ys))) ∧ Chg No w w' := by
  refine callsIn_of_wp Tryd.func65 rfl trivial ?_
  simp only [Tryd.ntmps65, List.size_toArray, List.length_cons, List.length_nil, Nat.reduceAdd, Nat.reduceSub, Array.replicate_succ, Array.replicate_zero, List.push_toArray, List.append_toArray, List.nil_append, List.cons_append]
  gi_wp2_with fail
  refine ⟨trivial, rfl, (equalF_in v u xs ys _ hv hu hx).mono ?_⟩
  rintro e w1 ⟨rfl, c⟩
  gi_wp2
  go_ret
  exact ⟨rfl, c⟩

end Go.Proofs.YtmpgeacfnikbpaaDoor

end
section
-- FGet
namespace Go.Proofs.YtmpgeacfnikbpaaDoor
open Go.RowKit Go.Shelf Go.SeqLib Go.DiffLib Go.TreeLib
attribute [local go_sem] Oper.semAt_some

theorem results_cell2 {fn : Func} {p q : Tmp} {t u : TypeId} (h : fn.results = #[.cell p t, .cell q u]) (tmps : Array Value) (P : Program) (w : World) :
    (results fn tmps).run P w = ((asAddr (tmps.getD p undef)).run P w).andThen fun a w₁ => ((loadVar t a).run P w₁).andThen fun x w₂ => ((asAddr (tmps.getD q undef)).run P w₂).andThen fun b w₃ => ((loadVar u b).run P w₃).andThen fun y w₄ => .ok (.tuple #[x, y]) w₄ := by
  simp only [results, h]
  simp [Sem.run_bind, Result.andThen]

/-- What Get answers. -/
abbrev getD (zs : List Fl) (p : ByteArray) : ByteArray := (TreeLib.get zs p).getD ⟨#[]⟩

theorem get_at {xs pre : List Fl} {x : Fl} (hpre : pre ++ [x] <+: xs) (h : ∀ f ∈ pre, f.1 ≠ x.1) : TreeLib.get xs x.1 = some x.2 := by
  obtain ⟨r, rfl⟩ := hpre
  unfold TreeLib.get
  rw [List.append_assoc, fil_app, fil_nil_of h, List.nil_append, List.singleton_append, fil_cons, if_pos rfl]
  rfl

end Go.Proofs.YtmpgeacfnikbpaaDoor

end
