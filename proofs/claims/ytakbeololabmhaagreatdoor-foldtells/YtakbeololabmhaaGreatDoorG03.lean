/-
  Of: AppT, FSl, FSame, FLend, SameI, FIt.
-/
import Derived.Test.YtakbeololabmhaaGreatDoorG02
import Derived.Test.YtakbeololabmhaaGreatDoorG01
import Derived.Shelf.RegionOpen
import Derived.Sort.QuietThIn
import Derived.Deep.QuietTactic
import Derived.BigQuiet
section
-- AppT
namespace Go.Proofs.YtakbeololabmhaaGreatDoor
open Go.RowKit Go.Shelf Go.SeqLib

theorem run_append_nothing {P : Program} (w : World) {t ty e : TypeId} {i : TypeInfo} (ht : P.underlying t = some (.slice e)) (hi : P.info? e = some i) (p : Option Addr) (k cap c : Nat) (hk : k ≤ cap) (hp : p = none → k = 0 ∧ cap = 0) :
    (Builtin.append_ #[t, t] ty #[.slice p k cap, .slice none 0 c]).run P w = .ok (.slice p k cap) w := by
  cases p with
  | none =>
    obtain ⟨rfl, rfl⟩ := hp rfl
    simp [Builtin.append_, run_underlying ht, sizeOf, typeInfo, hi, Builtin.lenOf, Builtin.firstCells]
  | some a =>
    simp [Builtin.append_, run_underlying ht, sizeOf, typeInfo, hi, Builtin.lenOf, Builtin.firstCells, hk, storeCells]

theorem wpListIn_append_sv {F : Fence} {n : Nat} (w : World) {ops : Array Oper} {rest : List Oper} {o : Oper} {a : Act} {Q : Exit → Act → World → Prop}
    (hg : o.guard = none) (s x : Operand) (hop : o.op = Op.call { callee := Callee.builtin Builtin.append, args := #[s, x], argTypes := #[86, 86] })
    (base : Nat) (v : Value) (k : Nat) (vals : List Value) (hs : a.eval s = v) (hown : w.ownsRow base 9 1 v k vals) (p : Option Addr) (m c : Nat) (zs : List ByteArray) (hx : a.eval x = .slice p m c) (hsl : SlV w (.slice p m c) (zs.map Value.string))
    (b1 : k + m ≤ 1000000) (b3 : base ≤ w.heap.size)
    (hK : ∀ v' w', w'.ownsRow base 9 1 v' (k + m) (vals ++ zs.map Value.string) → w.grownBy w' v.ownBlock → (v'.ownBlock = v.ownBlock ∨ v'.ownBlock = some w.heap.size) → wpListIn F n Tryz.prog ops Q rest (a.put o.dst v') w') :
    wpListIn F n Tryz.prog ops Q (o :: rest) a w := by
  obtain ⟨i0, hi, hz0, hz1, hz2⟩ := info_parts info9
  have hlen : m = zs.length := by obtain ⟨p', c', e, _⟩ := hsl; cases e; simp
  obtain ⟨p', c', e, h1, h2, hc⟩ := hsl
  cases e
  cases p with
  | none =>
    have hz : zs = [] := by
      cases zs with
      | nil => rfl
      | cons x r => obtain ⟨b, off, h, _⟩ := hc 0 (.string x) rfl; cases h
    subst hz
    obtain ⟨pv, cv, rfl⟩ := row_slice hown
    have hkc : k ≤ cv ∧ (pv = none → k = 0 ∧ cv = 0) := by
      rcases hown.2 with ⟨h, rfl⟩ | ⟨g, cap, cur, h, _, _, h3, _⟩
      · cases h; exact ⟨Nat.le_refl _, fun _ => ⟨rfl, rfl⟩⟩
      · cases h; exact ⟨h3, fun h => by cases h⟩
    refine wpListIn_plain hg fun K hK' => ?_
    have hrun := run_append_nothing (P := Tryz.prog) w (ty := o.type) Tryz.underlying86 hi pv k cv c hkc.1 hkc.2
    unfold Oper.wpIn
    refine ⟨?_, ?_⟩
    · simp [Oper.about, hop, resolve, Target.leads, Sem.run_pure]
    · rw [Oper.semAt_plain F _ _ (by rw [hop]; intro c hc'; cases hc')]
      have hx' : a.eval x = .slice none 0 c := hx
      simp [execOp, hop, resolve, invoke, builtin, hs, hx', hrun, Result.andThen]
      exact hK' _ _ (hK _ w (by simpa using hown) ⟨rfl, rfl, rfl, Nat.le_refl _, fun _ _ _ => rfl⟩ (.inl rfl))
  | some ad =>
    refine wpListIn_append_at w hg s x 86 hop base 9 i0 (.string ⟨#[]⟩) 1 16 Tryz.underlying86 hi hz0 hz1 hz2 rfl (by decide) v k vals hs hown ad _ c (zs.map Value.string) hx (by simp) ?_ ?_ (by unfold maxLen; omega) (by omega) b3 (fun v' w' r1 r2 _ r4 => hK v' w' r1 r2 r4)
    · intro j u hj
      obtain ⟨b, off, e, hcell⟩ := hc j u hj
      cases e
      have ea : (⟨b, off, none⟩ : Addr).add j = ⟨b, off + j, none⟩ := by unfold Addr.add; split <;> simp_all
      rw [ea]; exact hcell
    · intro u hu
      obtain ⟨y, _, rfl⟩ := List.mem_map.1 hu
      rfl

end Go.Proofs.YtakbeololabmhaaGreatDoor

end
section
-- FSl
namespace Go.Proofs.YtakbeololabmhaaGreatDoor
open Go.RowKit Go.Shelf Go.SeqLib Go.DiffLib Go.TreeLib

/-- A file's cells. -/
def eF (x : Fl) : List Value := [.string x.1, .string x.2]
theorem eF_len (x : Fl) : (eF x).length = 2 := rfl
abbrev SlF := @SlE Fl 2 eF
/-- A file, as a value. -/
abbrev vF (x : Fl) : Value := .agg #[.string x.1, .string x.2]

theorem SlF.at {W : World} {p : Option Addr} {n cap : Nat} {zs : List Fl} (h : SlF W (.slice p n cap) zs) (i : Nat) (x : Fl) (hi : zs[i]? = some x) :
    ∃ b off, p = some ⟨b, off, none⟩ ∧ W.cell? ⟨b, off + i * 2, none⟩ = some (.string x.1) ∧ W.cell? ⟨b, off + i * 2 + 1, none⟩ = some (.string x.2) := by
  obtain ⟨p', cap', e, _, _, hc⟩ := h
  cases e
  obtain ⟨b, off, e, h1⟩ := hc i x hi
  exact ⟨b, off, e, h1 0 _ rfl, h1 1 _ rfl⟩
theorem SlF.no {W W' : World} {v : Value} {zs : List Fl} (h : SlF W v zs) (c : Chg No W W') : SlF W' v zs := SlE.no eF_len (by decide) h c
theorem SlF.chg {W W' : World} {v : Value} {zs : List Fl} (h : SlF W v zs) {S : Blk} (c : Chg S W W') (hd : ∀ k, slE v zs k → ¬ S k) : SlF W' v zs := SlE.chg eF_len (by decide) h c hd
theorem SlF.lt {W : World} {v : Value} {zs : List Fl} (h : SlF W v zs) : ∀ k, slE v zs k → k < W.heap.size := SlE.lt eF_len (by decide) h
theorem SlF.slice {W : World} {v : Value} {zs : List Fl} (h : SlF W v zs) : ∃ p cap, v = .slice p zs.length cap ∧ zs.length ≤ cap ∧ cap ≤ maxLen := by
  obtain ⟨p, cap, e, h1, h2, _⟩ := h
  exact ⟨p, cap, e, h1, h2⟩
theorem SlF.len {W : World} {p : Option Addr} {n cap : Nat} {zs : List Fl} (h : SlF W (.slice p n cap) zs) : zs.length = n := by
  obtain ⟨p', cap', e, _⟩ := h
  rw [Value.slice.injEq] at e
  exact e.2.1.symm

theorem info49 : (Tryz.prog.info? 49).map (fun i => (i.zero, i.size, i.bytes)) = some (some (.agg #[.string ⟨#[]⟩, .string ⟨#[]⟩]), 2, 32) := by kernel_rfl
theorem size_file (w : World) : (sizeOf 49).run Tryz.prog w = .ok 2 w := by
  obtain ⟨i0, hi, _, h2, _⟩ := info_parts info49
  rw [run_sizeOf w hi]
  have : Tryz.prog.cellsOf 49 = 2 := by kernel_rfl
  rw [this]
theorem guard_file : Tryz.prog.eqGuardType Tryz.prog.depth 49 = false := by kernel_rfl

theorem addr_add (b off j : Nat) : (⟨b, off, none⟩ : Addr).add j = ⟨b, off + j, none⟩ := by unfold Addr.add; split <;> simp_all
theorem run_equalIn_file (x y : Fl) (w : World) : (Op.equalIn 10000 49 (vF x) (vF y)).run Tryz.prog w = .ok (x.1.toList == y.1.toList && x.2.toList == y.2.toList) w := by
  have h2 : Tryz.prog.underlying 9 = some .string := by kernel_rfl
  have he : ∀ (a b : ByteArray) (w : World), (Op.equalIn 9999 9 (.string a) (.string b)).run Tryz.prog w = .ok (a.toList == b.toList) w := fun a b w => by
    exact run_equalIn_string w 9998 _ a b h2
  have hp : Tryz.prog.stoodInHeld 49 = false := by kernel_rfl
  have hu : Tryz.prog.underlying 49 = some (.struct (Tryz.prog.fieldsOf 49)) := by kernel_rfl
  have hf : ((Tryz.prog.fieldsOf 49).toList.map fun f => (f.name == "_", f.type, f.offset)) = [(false, 9, 0), (false, 9, 1)] := by kernel_rfl
  rw [run_equalIn_agg w 9999 _ _ _ hu hp]
  obtain ⟨f1, f2, hfl⟩ : ∃ f1 f2, (Tryz.prog.fieldsOf 49).toList = [f1, f2] := by
    generalize (Tryz.prog.fieldsOf 49).toList = l at hf
    have hl := congrArg List.length hf
    rw [List.length_map] at hl
    obtain ⟨x1, l1, rfl⟩ := List.exists_cons_of_length_eq_add_one hl
    obtain ⟨x2, l2, rfl⟩ := List.exists_cons_of_length_eq_add_one (Nat.succ.inj hl)
    obtain rfl := List.length_eq_zero_iff.1 (Nat.succ.inj (Nat.succ.inj hl))
    exact ⟨x1, x2, rfl⟩
  rw [hfl] at hf ⊢
  simp at hf
  obtain ⟨⟨n1, t1, o1⟩, ⟨n2, t2, o2⟩⟩ := hf
  have hpart : ∀ (xs : Array Value) (off : Nat) (v : Value) (w : World), xs[off]? = some v → (part 9 xs off).run Tryz.prog w = .ok v w := fun xs off v w h => run_part_plain w (by kernel_rfl) h
  simp [Op.eqFields, n1, n2, t1, t2, o1, o2, hpart, he]
  by_cases e1 : x.1.toList = y.1.toList
  · by_cases e2 : x.2.toList = y.2.toList
    · simp [e1, e2]
    · simp [e1, e2]
  · simp [e1]
theorem file_beq (x y : Fl) : (x.1.toList == y.1.toList && x.2.toList == y.2.toList) = decide (x = y) := by
  by_cases h : x = y
  · subst h; simp
  · rw [decide_eq_false h, Bool.and_eq_false_iff, beq_eq_false_iff_ne, beq_eq_false_iff_ne]
    by_cases e : x.1 = y.1
    · exact .inr (fun e2 => h (Prod.ext e (toList_inj e2)))
    · exact .inl (fun e2 => e (toList_inj e2))
theorem run_neq_file (x y : Fl) (w : World) : (binOp .neq 49 (vF x) (vF y)).run Tryz.prog w = .ok (.bool (!decide (x = y))) w := by
  rw [run_neq_struct, run_equalIn_file, file_beq]
  rfl

/-- A list of files that owns its row. -/
abbrev OwnF (W : World) (base : Nat) (v : Value) (zs : List Fl) : Prop := W.ownsRow base 49 2 v zs.length (zs.flatMap eF)
theorem OwnF.sl {W : World} {base : Nat} {v : Value} {zs : List Fl} (h : OwnF W base v zs) : SlF W v zs := SlE.ofRow eF_len h
theorem OwnF.nil (W : World) (base : Nat) : OwnF W base (.slice none 0 0) [] := World.ownsRow_nil _ _ _ _
theorem OwnF.base {W : World} {b b' : Nat} {v : Value} {zs : List Fl} (h : OwnF W b v zs) (hb : b' ≤ b) : OwnF W b' v zs := rowBase h hb
theorem OwnF.slice {W : World} {base : Nat} {v : Value} {zs : List Fl} (h : OwnF W base v zs) : ∃ p c, v = .slice p zs.length c := row_slice h
theorem OwnF.kept {W W' : World} {base : Nat} {v : Value} {zs : List Fl} (h : OwnF W base v zs) (hk : ∀ k, v.ownBlock = some k → W'.heap[k]? = W.heap[k]?) : OwnF W' base v zs := by
  refine ⟨h.1, ?_⟩
  rcases h.2 with hn | ⟨g, cap, cur, rfl, hb, hgg, rest⟩
  · exact .inl hn
  · exact .inr ⟨g, cap, cur, rfl, hb, (hk g rfl).trans hgg, rest⟩
theorem OwnF.chg {W W' : World} {base : Nat} {v : Value} {zs : List Fl} (h : OwnF W base v zs) {S : Blk} (c : Chg S W W') (hd : ∀ k, v.ownBlock = some k → ¬ S k) : OwnF W' base v zs :=
  h.kept (fun k hk => c.block k (h.lt k hk).2 (hd k hk))
theorem OwnF.no {W W' : World} {base : Nat} {v : Value} {zs : List Fl} (h : OwnF W base v zs) (c : Chg No W W') : OwnF W' base v zs := h.chg c (fun _ _ h => h)

theorem flatF_one (zs : List Fl) : ∀ u ∈ zs.flatMap eF, u.oneCell' = true := by
  intro u hu
  obtain ⟨y, _, hy⟩ := List.mem_flatMap.1 hu
  simp [eF] at hy
  rcases hy with rfl | rfl <;> rfl
theorem flatF_length (zs : List Fl) : (zs.flatMap eF).length = zs.length * 2 := flat_length eF_len zs
theorem flatF_cells {W : World} {ad : Addr} {m cap : Nat} {zs : List Fl} (h : SlF W (.slice (some ad) m cap) zs) : ∀ j u, (zs.flatMap eF)[j]? = some u → W.cell? (ad.add j) = some u := by
  intro j u hj
  obtain ⟨p', cap', e, h1, h2, hc⟩ := h
  cases e
  have hj2 : j = (j / 2) * 2 + j % 2 := by omega
  have hq : j % 2 < 2 := Nat.mod_lt _ (by omega)
  rw [hj2, flat_get eF_len zs (j / 2) (j % 2) hq] at hj
  obtain ⟨x, hx, hj⟩ := Option.bind_eq_some_iff.1 hj
  obtain ⟨b, off, e, u1⟩ := hc _ x hx
  cases e
  rw [addr_add]
  have := u1 _ u hj
  rw [show off + j / 2 * 2 + j % 2 = off + j by omega] at this
  exact this

/-- append(s, xs...) where s is owned and xs is any list of files that reads. -/
theorem wpListIn_append_sf {F : Fence} {n : Nat} (w : World) {ops : Array Oper} {rest : List Oper} {o : Oper} {a : Act} {Q : Exit → Act → World → Prop}
    (hg : o.guard = none) (s x : Operand) (hop : o.op = Op.call { callee := Callee.builtin Builtin.append, args := #[s, x], argTypes := #[30, 30] })
    (base : Nat) (v : Value) (ys : List Fl) (hs : a.eval s = v) (hown : OwnF w base v ys) (p : Option Addr) (m c : Nat) (zs : List Fl) (hx : a.eval x = .slice p m c) (hsl : SlF w (.slice p m c) zs)
    (b1 : ys.length + m ≤ 1000000) (b3 : base ≤ w.heap.size)
    (hK : ∀ v' w', OwnF w' base v' (ys ++ zs) → w.grownBy w' v.ownBlock → (v'.ownBlock = v.ownBlock ∨ v'.ownBlock = some w.heap.size) → wpListIn F n Tryz.prog ops Q rest (a.put o.dst v') w') :
    wpListIn F n Tryz.prog ops Q (o :: rest) a w := by
  obtain ⟨i0, hi, hz0, hz1, hz2⟩ := info_parts info49
  have hlen := SlF.len hsl
  cases p with
  | none =>
    have hz : zs = [] := by
      obtain ⟨p', c', e, h1, h2, hc⟩ := hsl
      cases e
      cases zs with
      | nil => rfl
      | cons x r => obtain ⟨b, off, h, _⟩ := hc 0 x rfl; cases h
    subst hz
    obtain rfl : m = 0 := hlen.symm
    obtain ⟨pv, cv, rfl⟩ := row_slice hown
    have hkc : ys.length ≤ cv ∧ (pv = none → ys.length = 0 ∧ cv = 0) := by
      rcases hown.2 with ⟨h, h0⟩ | ⟨g, cap, cur, h, _, _, h3, _⟩
      · rw [Value.slice.injEq] at h
        obtain ⟨rfl, _, rfl⟩ := h
        exact ⟨by omega, fun _ => ⟨h0, rfl⟩⟩
      · rw [Value.slice.injEq] at h
        obtain ⟨rfl, _, rfl⟩ := h
        exact ⟨h3, fun h => by cases h⟩
    refine wpListIn_plain hg fun K hK' => ?_
    have hrun := run_append_nothing (P := Tryz.prog) w (ty := o.type) Tryz.underlying30 hi pv ys.length cv c hkc.1 hkc.2
    unfold Oper.wpIn
    refine ⟨?_, ?_⟩
    · simp [Oper.about, hop, resolve, Target.leads, Sem.run_pure]
    · rw [Oper.semAt_plain F _ _ (by rw [hop]; intro c hc'; cases hc')]
      simp [execOp, hop, resolve, invoke, builtin, hs, hx, hrun, Result.andThen]
      exact hK' _ _ (hK _ w (by rw [List.append_nil]; exact hown) ⟨rfl, rfl, rfl, Nat.le_refl _, fun _ _ _ => rfl⟩ (.inl rfl))
  | some ad =>
    have hcl := flatF_cells hsl
    refine wpListIn_append_at w hg s x 30 hop base 49 i0 (.agg #[.string ⟨#[]⟩, .string ⟨#[]⟩]) 2 32 Tryz.underlying30 hi hz0 hz1 hz2 rfl (by decide) v ys.length (ys.flatMap eF) hs hown ad m c (zs.flatMap eF) hx (by rw [flatF_length, hlen]) hcl (flatF_one zs) (by unfold maxLen; omega) (by omega) b3 (fun v' w' r1 r2 _ r4 => hK v' w' ?_ r2 r4)
    show w'.ownsRow base 49 2 v' (ys ++ zs).length ((ys ++ zs).flatMap eF)
    rw [List.flatMap_append, List.length_append, hlen]
    exact r1

/-- A list of files that was just laid. -/
theorem SlF.made (w : World) (zs : List Fl) (hl : zs.length ≤ 1000000) : SlF (w.alloc (.cells (zs.flatMap eF).toArray 49)) (.slice (some ⟨w.heap.size, 0, none⟩) zs.length zs.length) zs := by
  refine ⟨_, zs.length, rfl, Nat.le_refl _, by unfold maxLen; omega, fun i x hi => ⟨w.heap.size, 0, rfl, fun q u hu => ?_⟩⟩
  have hq : q < 2 := by rw [← eF_len x]; exact (List.getElem?_eq_some_iff.1 hu).1
  have h : (w.alloc (.cells (zs.flatMap eF).toArray 49)).heap[w.heap.size]? = some (.cells (zs.flatMap eF).toArray 49 (0, 0)) := World.alloc_heap_new w _
  unfold World.cell?
  show (match (w.alloc (.cells (zs.flatMap eF).toArray 49)).heap[w.heap.size]? with | some (.cells c _ _) => if false = true then none else c[0 + i * 2 + q]? | _ => none) = some u
  rw [h]
  have := flat_get eF_len zs i q hq
  rw [hi] at this
  rw [Nat.zero_add]
  simpa [hu] using this
theorem SlF.one (w : World) (x : Fl) : SlF (w.alloc (.cells #[.string x.1, .string x.2] 49)) (.slice (some ⟨w.heap.size, 0, none⟩) 1 1) [x] := SlF.made w [x] (by simp)
theorem SlF.two (w : World) (x y : Fl) : SlF (w.alloc (.cells #[.string x.1, .string x.2, .string y.1, .string y.2] 49)) (.slice (some ⟨w.heap.size, 0, none⟩) 2 2) [x, y] := SlF.made w [x, y] (by simp)

/-- A list of files, cut. -/
theorem SlF.cutCore {W : World} {p : Option Addr} {n cap : Nat} {zs : List Fl} (h : SlF W (.slice p n cap) zs) (lo hi : Nat) (h1 : lo ≤ hi) (h2 : hi ≤ n) :
    ∃ p' c', sliced p lo hi cap 2 = .slice p' (hi - lo) c' ∧ SlF W (.slice p' (hi - lo) c') ((zs.take hi).drop lo) ∧ (∀ k, Value.ownBlock (.slice p' (hi - lo) c') = some k → Value.ownBlock (.slice p n cap) = some k) := by
  have hl := SlF.len h
  obtain ⟨p0, cap0, e0, q1, q2, hc⟩ := h
  rw [Value.slice.injEq] at e0
  obtain ⟨rfl, _, rfl⟩ := e0
  have hlen : ((zs.take hi).drop lo).length = hi - lo := by rw [List.length_drop, List.length_take]; omega
  refine ⟨_, _, rfl, ⟨_, _, by rw [hlen], by rw [hlen]; omega, by omega, fun i x hi' => ?_⟩, fun k hk => ?_⟩
  · rw [List.getElem?_drop, List.getElem?_take] at hi'
    split at hi'
    · obtain ⟨b, off, rfl, hcell⟩ := hc _ _ hi'
      have hne : ¬ cap = lo := by omega
      rw [if_neg hne]
      have ea := addr_add b off (lo * 2)
      refine ⟨b, off + lo * 2, by rw [Option.map_some, ea], fun q u hu => ?_⟩
      rw [show off + lo * 2 + i * 2 + q = off + (lo + i) * 2 + q by omega]
      exact hcell q u hu
    · cases hi'
  · cases p with
    | none =>
      by_cases e : cap = lo
      · rw [if_pos e] at hk; cases hk
      · rw [if_neg e] at hk; cases hk
    | some ad =>
      by_cases e : cap = lo
      · rw [if_pos e] at hk; exact hk
      · rw [if_neg e] at hk
        have : (ad.add (lo * 2)).block = ad.block := by unfold Addr.add; split <;> rfl
        simp only [Option.map_some, Value.ownBlock, this] at hk
        exact hk
section
variable {W : World} {p : Option Addr} {n cap : Nat} {zs : List Fl}
theorem elem_files : Tryz.prog.elem 30 = 49 := by simp [Program.elem, Tryz.underlying30]
theorem SlF.high (h : SlF W (.slice p n cap) zs) (hi : Nat) (h2 : hi ≤ n) :
    ∃ p' c', SlF W (.slice p' hi c') (zs.take hi) ∧ (∀ k, Value.ownBlock (.slice p' hi c') = some k → Value.ownBlock (.slice p n cap) = some k) ∧ ∀ w, (Instr.sliceAt 30 (.slice p n cap) none (some (.int .i64 (hi : Int))) none).run Tryz.prog w = .ok (.slice p' hi c') w := by
  have hl := SlF.len h
  have hcap : n ≤ cap := by obtain ⟨p0, cap0, e0, q1, _⟩ := h; cases e0; omega
  obtain ⟨p', c', e, s, o⟩ := h.cutCore 0 hi (Nat.zero_le _) h2
  refine ⟨p', c', by simpa using s, o, fun w => ?_⟩
  have ht : Tryz.prog.underlying 30 = some (.slice (Tryz.prog.elem 30)) := by rw [elem_files]; exact Tryz.underlying30
  rw [run_sliceAt_slice _ _ _ _ _ _ ht, run_slice_h _ _ _ _ _ ht .i64 (hi : Int) (by omega) (by omega), elem_files, size_file]
  show Result.ok (sliced p 0 hi cap 2) w = _
  rw [e]
  rfl
end

end Go.Proofs.YtakbeololabmhaaGreatDoor

end
section
-- FSame
namespace Go.Proofs.YtakbeololabmhaaGreatDoor
open Go.RowKit Go.Shelf Go.SeqLib Go.DiffLib Go.BigFrame Go.TreeLib
attribute [local go_sem] Oper.semAt_some

set_option maxHeartbeats 1000000 in
theorem sameF_in (v u : Value) (xs ys : List Fl) (w : World) (hv : SlF w v xs) (hu : SlF w u ys) (hx : xs.length ≤ 1000000) :
    CallsIn Fence.wide 0 Tryz.prog 12 #[v, u] w fun e w' => e = .returned (.bool (decide (xs = ys))) ∧ Chg No w w' := by
  have hmix : Tryz.prog.follows .mixedOrders = true := by kernel_rfl
  have hgd := guard_file
  obtain ⟨p, c1, rfl, _, hc1⟩ := hv.slice
  obtain ⟨q, c2, rfl, _, hc2⟩ := hu.slice
  have hy : ys.length ≤ 9223372036854775807 := by unfold maxLen at hc2; omega
  obtain ⟨n, HN⟩ : ∃ n, Hid (xs.length = n) := ⟨_, rfl⟩
  obtain ⟨m, HM⟩ : ∃ m, Hid (ys.length = m) := ⟨_, rfl⟩
  rw [HN.out] at hv hx ⊢
  rw [HM.out] at hu hy ⊢
  clear hc1 hc2
  refine callsIn_of_wp Tryz.func12 rfl trivial ?_
  simp only [Tryz.ntmps12, List.size_toArray, List.length_cons, List.length_nil, Nat.reduceAdd, Nat.reduceSub, Array.replicate_succ, Array.replicate_zero, List.push_toArray, List.append_toArray, List.nil_append, List.cons_append]
  by_cases hlen : n = m
  · have he : ((n : Int) != (m : Int)) = false := by simp [hlen]
    have HL : Hid (n = m) := hlen
    clear hlen
    gi_wp2
    gi_loopw [5] (fun i wr => ∃ k : Nat, k ≤ n ∧ i = .int .i64 (k : Int) ∧ Hid (xs.take k = ys.take k) ∧ Chg No w wr) (fun i _ => n - (intOf i).toNat)
    case atStart => exact ⟨0, Nat.zero_le _, rfl, rfl, Chg.refl _ _⟩
    case round =>
      obtain ⟨k, hk, rfl, HT, c⟩ := hrel
      by_cases hlt : k < n
      · have hlt2 : k < m := by rw [← HL.out]; exact hlt
        have hlt' : (k : Int) < (n : Int) := by omega
        have hlt2' : (k : Int) < (m : Int) := by omega
        have hkx : k < xs.length := by rw [HN.out]; exact hlt
        have hky : k < ys.length := by rw [HM.out]; exact hlt2
        obtain ⟨x, hx⟩ : ∃ x, xs[k] = x := ⟨_, rfl⟩
        obtain ⟨y, hy⟩ : ∃ y, ys[k] = y := ⟨_, rfl⟩
        have hv' : SlF wr _ xs := hv.no c
        have hu' : SlF wr _ ys := hu.no c
        obtain ⟨b1, o1, rfl, x1, x2⟩ := SlF.at hv' k x (by rw [List.getElem?_eq_getElem hkx, hx])
        obtain ⟨b2, o2, rfl, y1, y2⟩ := SlF.at hu' k y (by rw [List.getElem?_eq_getElem hky, hy])
        by_cases hxy : x = y
        · have HT2 : Hid (xs.take (k + 1) = ys.take (k + 1)) := by
            show _ = _
            rw [List.take_succ_eq_append_getElem hkx, List.take_succ_eq_append_getElem hky, HT.out, hx, hy, hxy]
          have hne : ∀ w, (binOp .neq 49 (.agg #[.string x.1, .string x.2]) (.agg #[.string y.1, .string y.2])).run Tryz.prog w = .ok (.bool false) w := fun w => by rw [run_neq_file, decide_eq_true hxy]; rfl
          clear hxy hx hy hv' hu'
          gi_wp2
          refine wpIn_region_quiet_lit rfl hmix (by kernel_rfl) ?_
          repeat (gi_big_quiet_step (fail))
          refine wpQuietIn_nil ?_
          rintro w' ⟨j, rfl⟩
          gi_wp2
          go_roundw
          case rel => exact ⟨k + 1, hlt, by go_num, HT2, drewNC c _⟩
          case measure => simp [intOf]; omega
        · have HD : Hid (decide (xs = ys) = false) := by
            show _ = _
            rw [decide_eq_false_iff_not]
            rintro rfl
            exact hxy (hx.symm.trans hy)
          have hne : ∀ w, (binOp .neq 49 (.agg #[.string x.1, .string x.2]) (.agg #[.string y.1, .string y.2])).run Tryz.prog w = .ok (.bool true) w := fun w => by rw [run_neq_file, decide_eq_false hxy]; rfl
          clear hxy hx hy hv' hu'
          gi_wp2
          refine wpIn_region_quiet_lit rfl hmix (by kernel_rfl) ?_
          repeat (gi_big_quiet_step (fail))
          refine wpQuietIn_nil ?_
          rintro w' ⟨j, rfl⟩
          gi_wp2
          go_ret
          exact ⟨by rw [HD.out]; rfl, drewNC c _⟩
      · obtain rfl : k = n := by omega
        have hlt' : ¬ (k : Int) < (k : Int) := by omega
        have HD : Hid (decide (xs = ys) = true) := by
          show _ = _
          rw [decide_eq_true_iff]
          have h := HT.out
          rw [List.take_of_length_le (by rw [HN.out]; exact Nat.le_refl _), List.take_of_length_le (by rw [HM.out, ← HL.out]; exact Nat.le_refl _)] at h
          exact h
        gi_wp2
        go_ret
        exact ⟨by rw [HD.out]; rfl, c⟩
  · have he : ((n : Int) != (m : Int)) = true := by simp; omega
    have HD : Hid (decide (xs = ys) = false) := by
      show _ = _
      rw [decide_eq_false_iff_not]
      rintro rfl
      exact hlen (HN.out.symm.trans HM.out)
    clear hlen
    gi_wp2
    go_ret
    exact ⟨by rw [HD.out]; rfl, Chg.refl _ _⟩

set_option maxHeartbeats 1000000 in
theorem equalF_in (v u : Value) (xs ys : List Fl) (w : World) (hv : SlF w v xs) (hu : SlF w u ys) (hx : xs.length ≤ 1000000) :
    CallsIn Fence.wide 0 Tryz.prog 107 #[v, u] w fun e w' => e = .returned (.bool (decide (xs = ys))) ∧ Chg No w w' := by
  have hmix : Tryz.prog.follows .mixedOrders = true := by kernel_rfl
  have hgd := guard_file
  obtain ⟨p, c1, rfl, _, hc1⟩ := hv.slice
  obtain ⟨q, c2, rfl, _, hc2⟩ := hu.slice
  have hy : ys.length ≤ 9223372036854775807 := by unfold maxLen at hc2; omega
  obtain ⟨n, HN⟩ : ∃ n, Hid (xs.length = n) := ⟨_, rfl⟩
  obtain ⟨m, HM⟩ : ∃ m, Hid (ys.length = m) := ⟨_, rfl⟩
  rw [HN.out] at hv hx ⊢
  rw [HM.out] at hu hy ⊢
  clear hc1 hc2
  refine callsIn_of_wp Tryz.func107 rfl trivial ?_
  simp only [Tryz.ntmps107, List.size_toArray, List.length_cons, List.length_nil, Nat.reduceAdd, Nat.reduceSub, Array.replicate_succ, Array.replicate_zero, List.push_toArray, List.append_toArray, List.nil_append, List.cons_append]
  by_cases hlen : n = m
  · have he : ((n : Int) != (m : Int)) = false := by simp [hlen]
    have HL : Hid (n = m) := hlen
    clear hlen
    gi_wp2
    gi_loopw [13] (fun i wr => ∃ k : Nat, k ≤ n ∧ i = .int .i64 (k : Int) ∧ Hid (xs.take k = ys.take k) ∧ Chg No w wr) (fun i _ => n - (intOf i).toNat)
    case atStart => exact ⟨0, Nat.zero_le _, rfl, rfl, Chg.refl _ _⟩
    case round =>
      obtain ⟨k, hk, rfl, HT, c⟩ := hrel
      by_cases hlt : k < n
      · have hlt2 : k < m := by rw [← HL.out]; exact hlt
        have hlt' : (k : Int) < (n : Int) := by omega
        have hlt2' : (k : Int) < (m : Int) := by omega
        have hkx : k < xs.length := by rw [HN.out]; exact hlt
        have hky : k < ys.length := by rw [HM.out]; exact hlt2
        obtain ⟨x, hx⟩ : ∃ x, xs[k] = x := ⟨_, rfl⟩
        obtain ⟨y, hy⟩ : ∃ y, ys[k] = y := ⟨_, rfl⟩
        have hv' : SlF wr _ xs := hv.no c
        have hu' : SlF wr _ ys := hu.no c
        obtain ⟨b1, o1, rfl, x1, x2⟩ := SlF.at hv' k x (by rw [List.getElem?_eq_getElem hkx, hx])
        obtain ⟨b2, o2, rfl, y1, y2⟩ := SlF.at hu' k y (by rw [List.getElem?_eq_getElem hky, hy])
        by_cases hxy : x = y
        · have HT2 : Hid (xs.take (k + 1) = ys.take (k + 1)) := by
            show _ = _
            rw [List.take_succ_eq_append_getElem hkx, List.take_succ_eq_append_getElem hky, HT.out, hx, hy, hxy]
          have hne : ∀ w, (binOp .neq 49 (.agg #[.string x.1, .string x.2]) (.agg #[.string y.1, .string y.2])).run Tryz.prog w = .ok (.bool false) w := fun w => by rw [run_neq_file, decide_eq_true hxy]; rfl
          clear hxy hx hy hv' hu'
          gi_wp2
          refine wpIn_region_quiet_lit rfl hmix (by kernel_rfl) ?_
          repeat (gi_big_quiet_step (fail))
          refine wpQuietIn_nil ?_
          rintro w' ⟨j, rfl⟩
          gi_wp2
          go_roundw
          case rel => exact ⟨k + 1, hlt, by go_num, HT2, drewNC c _⟩
          case measure => simp [intOf]; omega
        · have HD : Hid (decide (xs = ys) = false) := by
            show _ = _
            rw [decide_eq_false_iff_not]
            rintro rfl
            exact hxy (hx.symm.trans hy)
          have hne : ∀ w, (binOp .neq 49 (.agg #[.string x.1, .string x.2]) (.agg #[.string y.1, .string y.2])).run Tryz.prog w = .ok (.bool true) w := fun w => by rw [run_neq_file, decide_eq_false hxy]; rfl
          clear hxy hx hy hv' hu'
          gi_wp2
          refine wpIn_region_quiet_lit rfl hmix (by kernel_rfl) ?_
          repeat (gi_big_quiet_step (fail))
          refine wpQuietIn_nil ?_
          rintro w' ⟨j, rfl⟩
          gi_wp2
          go_ret
          exact ⟨by rw [HD.out]; rfl, drewNC c _⟩
      · obtain rfl : k = n := by omega
        have hlt' : ¬ (k : Int) < (k : Int) := by omega
        have HD : Hid (decide (xs = ys) = true) := by
          show _ = _
          rw [decide_eq_true_iff]
          have h := HT.out
          rw [List.take_of_length_le (by rw [HN.out]; exact Nat.le_refl _), List.take_of_length_le (by rw [HM.out, ← HL.out]; exact Nat.le_refl _)] at h
          exact h
        gi_wp2
        go_ret
        exact ⟨by rw [HD.out]; rfl, c⟩
  · have he : ((n : Int) != (m : Int)) = true := by simp; omega
    have HD : Hid (decide (xs = ys) = false) := by
      show _ = _
      rw [decide_eq_false_iff_not]
      rintro rfl
      exact hlen (HN.out.symm.trans HM.out)
    clear hlen
    gi_wp2
    go_ret
    exact ⟨by rw [HD.out]; rfl, Chg.refl _ _⟩

end Go.Proofs.YtakbeololabmhaaGreatDoor

end
section
-- FLend
namespace Go.Proofs.YtakbeololabmhaaGreatDoor
open Go.RowKit Go.Shelf Go.SeqLib Go.DiffLib Go.TreeLib
attribute [local go_sem] Oper.semAt_some

/-- What GreatFiles answers. -/
def greatF (zs : List Fl) (most : Nat) : Bool := decide (most < zs.length) || zs.any (fun x => decide (100 < x.1.size) || decide (500 < x.2.size))

theorem greatF_false {zs : List Fl} {most : Nat} (h : greatF zs most = false) : zs.length ≤ most ∧ ∀ x ∈ zs, x.1.size ≤ 100 ∧ x.2.size ≤ 500 := by
  unfold greatF at h
  rw [Bool.or_eq_false_iff] at h
  refine ⟨by have := of_decide_eq_false h.1; omega, fun x hx => ?_⟩
  have := List.any_eq_false.1 h.2 x hx
  simp at this
  exact this

set_option maxHeartbeats 1000000 in
theorem greatF_in (v : Value) (zs : List Fl) (most : Nat) (w : World) (hv : SlF w v zs) :
    CallsIn Fence.wide 0 Tryz.prog 39 #[v, .int .i64 (most : Int)] w fun e w' => e = .returned (.bool (greatF zs most)) ∧ w' = w := by
  obtain ⟨p, c1, rfl, hp1, hp2⟩ := hv.slice
  have hl1 : zs.length ≤ 9223372036854775807 := by unfold maxLen at hp2; omega
  obtain ⟨n, HN⟩ : ∃ n, Hid (zs.length = n) := ⟨_, rfl⟩
  rw [HN.out] at hv hl1 ⊢
  clear hp1 hp2
  have HG : Hid (greatF zs most = (decide (most < n) || zs.any (fun x => decide (100 < x.1.size) || decide (500 < x.2.size)))) := by unfold greatF; rw [HN.out]; exact rfl
  refine callsIn_of_wp Tryz.func39 rfl trivial ?_
  simp only [Tryz.ntmps39, List.size_toArray, List.length_cons, List.length_nil, Nat.reduceAdd, Nat.reduceSub, Array.replicate_succ, Array.replicate_zero, List.push_toArray, List.append_toArray, List.nil_append, List.cons_append]
  gi_wp2
  by_cases hm : most < n
  · have hm1 : ¬ (n : Int) ≤ (most : Int) := by omega
    have hm2 : (most : Int) < (n : Int) := by omega
    have hm0 : (0 : Int) < (n : Int) := by omega
    have HG2 : Hid (greatF zs most = true) := by rw [HG.out, decide_eq_true hm]; exact rfl
    clear hm
    gi_loopw [5] (fun i wr => i = .int .i64 0 ∧ wr = w) (fun i _ => 1 - (intOf i).toNat)
    case atStart => exact ⟨rfl, rfl⟩
    case round =>
      obtain ⟨rfl, rfl⟩ := hrel
      gi_wp2
      go_ret
      exact ⟨by rw [HG2.out]; rfl, rfl⟩
  · have hm1 : (n : Int) ≤ (most : Int) := by omega
    have hm2 : ¬ (most : Int) < (n : Int) := by omega
    have HG2 : Hid (greatF zs most = zs.any (fun x => decide (100 < x.1.size) || decide (500 < x.2.size))) := by rw [HG.out, decide_eq_false hm]; exact rfl
    clear hm
    gi_loopw [5] (fun i wr => ∃ k : Nat, k ≤ n ∧ i = .int .i64 (k : Int) ∧ Hid (∀ x ∈ zs.take k, x.1.size ≤ 100 ∧ x.2.size ≤ 500) ∧ wr = w) (fun i _ => n - (intOf i).toNat)
    case atStart => exact ⟨0, Nat.zero_le _, rfl, (fun x h => by simp at h), rfl⟩
    case round =>
      obtain ⟨k, hk, rfl, HT, rfl⟩ := hrel
      by_cases hlt : k < n
      · have hkz : k < zs.length := by rw [HN.out]; exact hlt
        have hlt' : (k : Int) < (n : Int) := by omega
        obtain ⟨b1, o1, rfl, hc1, hc2⟩ := SlF.at hv k zs[k] (by simp [hkz])
        by_cases hbig : 100 < zs[k].1.size ∨ 500 < zs[k].2.size
        · have HG3 : Hid (greatF zs most = true) := by
            show _ = _
            rw [HG2.out, List.any_eq_true]
            refine ⟨zs[k], List.getElem_mem hkz, ?_⟩
            rw [Bool.or_eq_true, decide_eq_true_eq, decide_eq_true_eq]
            exact hbig
          clear HG HG2
          generalize zs[k] = x at *
          by_cases hb1 : 100 < x.1.size
          · have hbig' : (100 : Int) < ((x.1.size : Nat) : Int) := by omega
            clear hbig hb1
            gi_wp2
            go_ret
            exact ⟨by rw [HG3.out]; rfl, rfl⟩
          · have hbig' : ¬ (100 : Int) < ((x.1.size : Nat) : Int) := by omega
            have hbig2 : (500 : Int) < ((x.2.size : Nat) : Int) := by omega
            clear hbig hb1
            gi_wp2
            go_ret
            exact ⟨by rw [HG3.out]; rfl, rfl⟩
        · have hbig' : ¬ (100 : Int) < ((zs[k].1.size : Nat) : Int) := by omega
          have hbig2 : ¬ (500 : Int) < ((zs[k].2.size : Nat) : Int) := by omega
          have HT2 : Hid (∀ x ∈ zs.take (k + 1), x.1.size ≤ 100 ∧ x.2.size ≤ 500) := by
            intro x hx
            rw [List.take_succ_eq_append_getElem hkz, List.mem_append] at hx
            rcases hx with hx | hx
            · exact HT.out x hx
            · rw [List.mem_singleton] at hx; subst hx; omega
          clear hbig
          generalize zs[k] = x at *
          gi_wp2
          go_roundw
          case rel => exact ⟨k + 1, hlt, by go_num, HT2, trivial⟩
          case measure => simp [intOf]; omega
      · obtain rfl : k = n := by omega
        have HG3 : Hid (greatF zs most = false) := by
          show _ = _
          rw [HG2.out, List.any_eq_false]
          intro x hx
          have := HT.out x (by rw [← HN.out, List.take_length]; exact hx)
          simp; omega
        clear HG HG2
        gi_wp2
        go_ret
        exact ⟨by rw [HG3.out]; rfl, rfl⟩

/-- A cell of a row that is owned: it is there, it may be written; written, the row is owned still; behind what is owned nothing of that is changed. -/
theorem rowPutF {W : World} {base : Nat} {e : TypeId} {s g n cap : Nat} {xs : List Value} (h : W.ownsRow base e s (.slice (some ⟨g, 0, none⟩) n cap) n xs) {j : Nat} (hj : j < cap * s) (u : Value) :
    (∃ x, W.cell? ⟨g, j, none⟩ = some x) ∧ W.frozen? ⟨g, j, none⟩ = false ∧ ∃ ys, (W.setCell ⟨g, j, none⟩ u).ownsRow base e s (.slice (some ⟨g, 0, none⟩) n cap) n ys ∧ (n * s ≤ j → ys = xs) := by
  obtain ⟨h1, h2⟩ := h
  rcases h2 with ⟨h2, _⟩ | ⟨g', cap', cur, hv, hb, hg, hn, hm, hs, ht⟩
  · cases h2
  · cases hv
    have hjs : j < cur.size := by omega
    refine ⟨⟨cur[j], by simp [World.cell?, hg, hjs]⟩, by simp [World.frozen?, hg], (cur.setIfInBounds j u).toList.take (n * s), ⟨?_, .inr ⟨g, cap, cur.setIfInBounds j u, rfl, hb, ?_, hn, hm, by simpa using hs, rfl⟩⟩, fun hnj => ?_⟩
    · have := congrArg List.length ht
      simp at this ⊢
      omega
    · obtain ⟨hlt, hk⟩ := Array.getElem?_eq_some_iff.1 hg
      show (W.heap.modify g _)[g]? = _
      rw [Array.getElem?_eq_getElem (by rw [Array.size_modify]; exact hlt), Array.getElem_modify_self, hk]
      rfl
    · rw [← ht]
      refine List.ext_getElem? fun i => ?_
      simp only [List.getElem?_take, Array.getElem?_toList, Array.getElem?_setIfInBounds]
      split
      · rw [if_neg (by omega)]
      · rfl

set_option maxRecDepth 100000 in
set_option maxHeartbeats 1000000 in
theorem overF_in (v : Value) (vals : List Value) (n base : Nat) (hlen : n ≤ 1000000) (w : World) (hb : base ≤ w.heap.size) (hv : w.ownsRow base 49 2 v n vals) : CallsIn Fence.wide 0 Tryz.prog 15 #[v] w fun e w' =>
    (∃ r, e = .returned r) ∧ Chg (fun k => v.ownBlock = some k) w w' := by
  obtain ⟨i0, hi, hz0, hz1, hz2⟩ := info_parts info49
  obtain ⟨p, cap, rfl⟩ := row_slice hv
  refine callsIn_of_wp Tryz.func15 rfl trivial ?_
  simp only [Tryz.ntmps15, List.size_toArray, List.length_cons, List.length_nil, Nat.reduceAdd, Nat.reduceSub, Array.replicate_succ, Array.replicate_zero, List.push_toArray, List.append_toArray, List.nil_append, List.cons_append]
  gi_wp2
  gi_loopw [2] (fun i wr => ∃ (k : Nat) (ys : List Value), k ≤ n ∧ i = .int .i64 (k : Int) ∧ wr.ownsRow base 49 2 (.slice p n cap) n ys ∧ base ≤ wr.heap.size ∧ Chg (fun k => Value.ownBlock (.slice p n cap) = some k) w wr) (fun i _ => n - (intOf i).toNat)
  case atStart => exact ⟨0, vals, Nat.zero_le _, rfl, hv, hb, Chg.refl _ _⟩
  case round =>
    obtain ⟨k, ys, hk, rfl, hr, hbw, c⟩ := hrel
    by_cases hlt : k < n
    · obtain ⟨b, rfl, hcap⟩ : ∃ b, p = some ⟨b, 0, none⟩ ∧ n ≤ cap := by
        rcases hr.2 with ⟨_, h0⟩ | ⟨g, cap', cur, h, _, _, h3, _⟩
        · omega
        · cases h; exact ⟨g, rfl, h3⟩
      obtain ⟨⟨x1, a1⟩, f1, z1, r1, _⟩ := rowPutF hr (j := k * 2) (by omega) (.string ⟨#[111, 118, 101, 114]⟩)
      obtain ⟨⟨x2, a2⟩, f2, z2, r2, _⟩ := rowPutF r1 (j := k * 2 + 1) (by omega) (.string ⟨#[]⟩)
      obtain ⟨⟨x4, a4⟩, f4, _⟩ := rowPutF hr (j := k * 2 + 1) (by omega) (.string ⟨#[]⟩)
      have c2 := (c.setCell (p := ⟨b, k * 2, none⟩) (.inl rfl) (.string ⟨#[111, 118, 101, 114]⟩)).setCell (p := ⟨b, k * 2 + 1, none⟩) (.inl rfl) (.string ⟨#[]⟩)
      gi_wp2
      go_roundw
      case rel => exact ⟨k + 1, z2, hlt, by go_num, r2, by have := c2.size; simp at this; simp; omega, c2⟩
      case measure => simp [intOf]; omega
    · obtain rfl : k = n := by omega
      have hmx : k + 1 ≤ maxLen := by unfold maxLen; omega
      have hcn : ∀ j u, [Value.string ⟨#[111, 118, 101, 114]⟩, Value.string ⟨#[]⟩][j]? = some u → (wr.alloc (.cells #[Value.string ⟨#[111, 118, 101, 114]⟩, Value.string ⟨#[]⟩] 49)).cell? ((⟨wr.heap.size, 0, none⟩ : Addr).add j) = some u := flatF_cells (SlF.one wr (⟨#[111, 118, 101, 114]⟩, ⟨#[]⟩))
      gi_wp2_with (gi_at_builtin; refine wpListIn_append_at _ rfl _ _ 30 rfl base 49 i0 (.agg #[.string ⟨#[]⟩, .string ⟨#[]⟩]) 2 32 Tryz.underlying30 hi hz0 hz1 hz2 rfl (by decide) _ _ _ rfl (hr.alloc _) ⟨wr.heap.size, 0, none⟩ 1 1 [.string ⟨#[111, 118, 101, 114]⟩, .string ⟨#[]⟩] rfl rfl hcn (by simp [Value.oneCell']) hmx (by omega) (by simp; omega) ?_; intro v' w1 hown' hgrow _ hat)
      go_end0
      exact ⟨⟨_, rfl⟩, (c.alloc _).grown hgrow (fun j e => .inl e)⟩

end Go.Proofs.YtakbeololabmhaaGreatDoor

end
section
-- SameI
namespace Go.Proofs.YtakbeololabmhaaGreatDoor
open Go.RowKit Go.Shelf Go.SeqLib
attribute [local go_sem] Oper.semAt_some

set_option maxHeartbeats 1000000 in
theorem sameI_in (v u : Value) (xs ys : List Int) (w : World) (hv : SlV w v (xs.map (Value.int .i64))) (hu : SlV w u (ys.map (Value.int .i64))) :
    CallsIn Fence.wide 0 Tryz.prog 21 #[v, u] w fun e w' => e = .returned (.bool (decide (xs = ys))) ∧ Chg (fun _ => False) w w' := by
  obtain ⟨p, c1, rfl, hp1, hp2, hpc⟩ := hv
  obtain ⟨q, c2, rfl, hq1, hq2, hqc⟩ := hu
  rw [List.length_map] at hp1 hq1
  have hl1 : xs.length ≤ maxLen := by omega
  have hl2 : ys.length ≤ maxLen := by omega
  unfold maxLen at hl1 hl2
  rw [List.length_map, List.length_map]
  by_cases hlen : xs.length = ys.length
  · have he : ((xs.length : Int) != (ys.length : Int)) = false := by simp [hlen]
    have HL : Hid (xs.length = ys.length) := hlen
    clear hlen
    refine callsIn_of_wp Tryz.func21 rfl trivial ?_
    simp only [Tryz.ntmps21, List.size_toArray, List.length_cons, List.length_nil, Nat.reduceAdd, Nat.reduceSub, Array.replicate_succ, Array.replicate_zero, List.push_toArray, List.append_toArray, List.nil_append, List.cons_append]
    gi_wp2
    gi_loopw [5] (fun i wr => ∃ k : Nat, k ≤ xs.length ∧ i = .int .i64 (k : Int) ∧ Hid (xs.take k = ys.take k) ∧ Chg (fun _ => False) w wr) (fun i _ => xs.length - (intOf i).toNat)
    case atStart => exact ⟨0, Nat.zero_le _, rfl, rfl, Chg.refl _ _⟩
    case round =>
      obtain ⟨k, hk, rfl, hT, c⟩ := hrel
      by_cases hlt : k < xs.length
      · have hlt2 : k < ys.length := by rw [← HL.out]; exact hlt
        obtain ⟨b1, o1, rfl, hc1⟩ := hpc k (.int .i64 xs[k]) (by simp [hlt])
        obtain ⟨b2, o2, rfl, hc2⟩ := hqc k (.int .i64 ys[k]) (by simp [hlt2])
        have hw1 : wr.cell? ⟨b1, o1 + k, none⟩ = some (.int .i64 xs[k]) := (World.cell?_of_block (a := ⟨b1, o1 + k, none⟩) (c.block b1 (World.block_lt_of_cell? w _ hc1) (fun h => h))).trans hc1
        have hw2 : wr.cell? ⟨b2, o2 + k, none⟩ = some (.int .i64 ys[k]) := (World.cell?_of_block (a := ⟨b2, o2 + k, none⟩) (c.block b2 (World.block_lt_of_cell? w _ hc2) (fun h => h))).trans hc2
        clear hc1 hc2
        have hmix : Tryz.prog.follows .mixedOrders = true := by kernel_rfl
        by_cases hxy : xs[k] = ys[k]
        · have hb : (xs[k] == ys[k]) = true := by rw [hxy]; simp
          have HT : Hid (xs.take (k + 1) = ys.take (k + 1)) := by
            show _ = _
            rw [List.take_succ_eq_append_getElem hlt, List.take_succ_eq_append_getElem hlt2, hT.out, hxy]
          clear hxy
          generalize xs[k] = x at *
          generalize ys[k] = y at *
          gi_wp2
          gi_big_quiet_th_o (fail)
          gi_wp2
          go_roundw
          case rel => exact ⟨k + 1, hlt, by go_num, HT, drewNC c _⟩
          case measure => simp [intOf]; omega
        · have hb : (xs[k] == ys[k]) = false := by rw [beq_eq_false_iff_ne]; exact hxy
          have HD : Hid (decide (xs = ys) = false) := by
            show _ = _
            rw [decide_eq_false_iff_not]; rintro rfl; exact hxy rfl
          clear hxy
          generalize xs[k] = x at *
          generalize ys[k] = y at *
          gi_wp2
          gi_big_quiet_th_o (fail)
          gi_wp2
          go_ret
          exact ⟨by rw [HD.out]; rfl, drewNC c _⟩
      · obtain rfl : k = xs.length := by omega
        have HD : Hid (decide (xs = ys) = true) := by
          show _ = _
          rw [decide_eq_true_iff]
          have h := hT.out
          rw [List.take_length] at h
          rw [HL.out, List.take_length] at h
          exact h
        clear hT
        gi_wp2
        go_ret
        exact ⟨by rw [HD.out]; rfl, c⟩
  · have he : ((xs.length : Int) != (ys.length : Int)) = true := by simp; omega
    have HD : Hid (decide (xs = ys) = false) := by
      show _ = _
      rw [decide_eq_false_iff_not]; rintro rfl; exact hlen rfl
    clear hlen
    refine callsIn_of_wp Tryz.func21 rfl trivial ?_
    simp only [Tryz.ntmps21, List.size_toArray, List.length_cons, List.length_nil, Nat.reduceAdd, Nat.reduceSub, Array.replicate_succ, Array.replicate_zero, List.push_toArray, List.append_toArray, List.nil_append, List.cons_append]
    gi_wp2
    go_ret
    exact ⟨by rw [HD.out]; rfl, Chg.refl _ _⟩

end Go.Proofs.YtakbeololabmhaaGreatDoor

end
section
-- FIt
namespace Go.Proofs.YtakbeololabmhaaGreatDoor
open Go.RowKit Go.Shelf Go.SeqLib Go.DiffLib Go.TreeLib
attribute [local go_sem] Oper.semAt_some

/-- A file, as yield takes it: by two, by one. -/
abbrev encP (x : Fl) : Array Value := #[.string x.1, .string x.2]
set_option maxRecDepth 100000 in
set_option maxHeartbeats 1000000 in
/-- tree's own files. -/
theorem files1 (v : Value) (zs : List Fl) (Bk : Nat) (hD : ¬ slE v zs Bk) :
    Iter Tryz.prog 80 #[.pointer (some ⟨Bk, 0, none⟩)] encP zs (fun k => k = Bk ∨ slE v zs k) (fun _ => False)
      (fun W => Boxed W Bk 30 v ∧ SlF W v zs) (fun _ W => Boxed W Bk 30 v ∧ SlF W v zs) := {
  sub := fun _ h => h.elim
  lt0 := by
    rintro W ⟨b1, b2⟩ k (rfl | h)
    · exact b1.lt
    · exact b2.lt k h
  kept0 := by
    rintro W W' ⟨b1, b2⟩ _ hk
    exact ⟨(hk _ (.inl rfl)).trans b1, SlE.kept b2 (fun k h => hk k (.inr h))⟩
  kept := by
    rintro pre W W' ⟨b1, b2⟩ _ hk
    exact ⟨(hk _ (.inl rfl)).trans b1, SlE.kept b2 (fun k h => hk k (.inr h))⟩
  runs := by
    intro l J Jx S W pJ pJx hY hI hJ hDS
    obtain ⟨b1, b2⟩ := hI
    obtain ⟨p, cap, rfl, hcap, hmax⟩ := b2.slice
    have hc1 := b1.cell
    have hml : zs.length ≤ 9223372036854775807 := by unfold maxLen at hmax; omega
    clear hcap hmax
    refine callsIn_of_wp Tryz.func80 rfl trivial ?_
    simp only [Tryz.ntmps80, List.size_toArray, List.length_cons, List.length_nil, Nat.reduceAdd, Nat.reduceSub, Array.replicate_succ, Array.replicate_zero, List.push_toArray, List.append_toArray, List.nil_append, List.cons_append]
    gi_wp2
    gi_loopw [7] (fun i wr => ∃ (k : Nat) (So : Blk), k ≤ zs.length ∧ i = .int .i64 (k : Int) ∧ J (zs.take k) So wr ∧ Chg S W wr ∧ Grew S W So)
      (fun i _ => zs.length - (intOf i).toNat)
    case atStart => exact ⟨0, S, Nat.zero_le _, rfl, hJ, Chg.refl _ _, Grew.refl _ _⟩
    case round =>
      obtain ⟨k, So, hk, rfl, j, c, g⟩ := hrel
      have hfin : ∀ {W9 : World}, Chg S W W9 → Boxed W9 Bk 30 (.slice p zs.length cap) ∧ SlF W9 (.slice p zs.length cap) zs := fun c9 => ⟨c9.boxed b1 (hDS _ (.inl rfl)), b2.chg c9 (fun k hk => hDS k (.inr hk))⟩
      by_cases hlt : k < zs.length
      · have hlt' : (k : Int) < (zs.length : Int) := by omega
        have hts : zs.take (k + 1) = zs.take k ++ [zs[k]] := by rw [List.take_succ_eq_append_getElem hlt]
        have HT : Hid (zs.take (k + 1) = zs.take k ++ [zs[k]]) := hts
        have hpr : zs.take k ++ [zs[k]] <+: zs := by rw [← hts]; exact List.take_prefix _ _
        clear hts
        obtain ⟨x, hx⟩ : ∃ x, zs[k] = x := ⟨_, rfl⟩
        rw [hx] at hpr
        obtain ⟨b, off, rfl, hcw1, hcw2⟩ := SlF.at (hfin c).2 k x (by rw [List.getElem?_eq_getElem hlt, hx])
        have HX : Hid (zs[k] = x) := hx
        clear hx
        have ca : Chg S W (wr.alloc (.cells #[.string x.1, .string x.2] 49)) := c.alloc _
        have j' : J (zs.take k) So (wr.alloc (.cells #[.string x.1, .string x.2] 49)) := (pJ _).chg j ((Chg.refl (fun _ => False) wr).alloc _) (fun _ _ h => h)
        obtain ⟨fnr, tmps, assign, body, hy, hR⟩ := hY (zs.take k) x So _ hpr j'
        gi_wp2
        refine ⟨rfl, hR.mono ?_⟩
        rintro e W3 ⟨S3, c3, g3, (⟨rfl, j3⟩ | ⟨rfl, j3⟩)⟩
        · have cc := ca.trans c3 g
          have gg := g.trans g3 ca.size
          gi_wp2
          go_roundw
          case rel => exact ⟨k + 1, S3, hlt, by go_num, by rw [HT.out, HX.out]; exact j3, cc, gg⟩
          case measure => simp [intOf]; omega
        · have cc := ca.trans c3 g
          have gg := g.trans g3 ca.size
          gi_wp2
          refine bodyPost_ret (results_none rfl _ _ _) rfl ?_
          exact ⟨⟨_, rfl⟩, _, S3, .inr ⟨hpr, j3⟩, hfin cc, cc.mono (fun _ => .inr), gg⟩
      · obtain rfl : k = zs.length := by omega
        gi_wp2
        go_end0
        exact ⟨⟨_, rfl⟩, _, So, .inl ⟨List.take_length, j⟩, hfin c, c.mono (fun _ => .inr), g⟩ }

end Go.Proofs.YtakbeololabmhaaGreatDoor

end
