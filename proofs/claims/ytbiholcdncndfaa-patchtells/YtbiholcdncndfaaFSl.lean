/-
  Lists of files as memory holds them, two texts an element: how they read, how two files are compared, how such lists are cut and appended to.
-/
import Derived.Test.YtbiholcdncndfaaDWide
import Derived.Test.YtbiholcdncndfaaAppT
import Derived.Test.YtbiholcdncndfaaRLib
namespace Go.Proofs.Ytbiholcdncndfaa
open Go.RowKit Go.Shelf Go.SeqLib Go.DiffLib Go.TreeLib

/-- A file's cells. -/
def eF (x : Fl) : List Value := [.string x.1, .string x.2]
theorem eF_len (x : Fl) : (eF x).length = 2 := rfl
abbrev SlF := @SlE Fl 2 eF
/-- A file, as a value. -/
abbrev vF (x : Fl) : Value := .agg #[.string x.1, .string x.2]

theorem SlF.at {W : World} {p : Option Addr} {n cap : Nat} {zs : List Fl} (h : SlF W (.slice p n cap) zs) (i : Nat) (x : Fl) (hi : zs[i]? = some x) :
    ∃ b off, p = some ⟨b, off, none⟩ ∧ W.cell? ⟨b, off + i * 2, none⟩ = some (.string x.1) ∧ W.cell? ⟨b, off + i * 2 + 1, none⟩ = some (.string x.2) := by
  obtain ⟨p', cap', e, _, _, hc⟩ := h
  cases e
  obtain ⟨b, off, e, h1⟩ := hc i x hi
  exact ⟨b, off, e, h1 0 _ rfl, h1 1 _ rfl⟩
theorem SlF.no {W W' : World} {v : Value} {zs : List Fl} (h : SlF W v zs) (c : Chg No W W') : SlF W' v zs := SlE.no eF_len (by decide) h c
theorem SlF.chg {W W' : World} {v : Value} {zs : List Fl} (h : SlF W v zs) {S : Blk} (c : Chg S W W') (hd : ∀ k, slE v zs k → ¬ S k) : SlF W' v zs := SlE.chg eF_len (by decide) h c hd
theorem SlF.lt {W : World} {v : Value} {zs : List Fl} (h : SlF W v zs) : ∀ k, slE v zs k → k < W.heap.size := SlE.lt eF_len (by decide) h
theorem SlF.slice {W : World} {v : Value} {zs : List Fl} (h : SlF W v zs) : ∃ p cap, v = .slice p zs.length cap ∧ zs.length ≤ cap ∧ cap ≤ maxLen := by
  obtain ⟨p, cap, e, h1, h2, _⟩ := h
  exact ⟨p, cap, e, h1, h2⟩
theorem SlF.len {W : World} {p : Option Addr} {n cap : Nat} {zs : List Fl} (h : SlF W (.slice p n cap) zs) : zs.length = n := by
  obtain ⟨p', cap', e, _⟩ := h
  rw [Value.slice.injEq] at e
  exact e.2.1.symm

theorem info43 : (Try.prog.info? 43).map (fun i => (i.zero, i.size, i.bytes)) = some (some (.agg #[.string ⟨#[]⟩, .string ⟨#[]⟩]), 2, 32) := by kernel_rfl
theorem size_file (w : World) : (sizeOf 43).run Try.prog w = .ok 2 w := by
  obtain ⟨i0, hi, _, h2, _⟩ := info_parts info43
  rw [run_sizeOf w hi]
  have : Try.prog.cellsOf 43 = 2 := by kernel_rfl
  rw [this]
theorem guard_file : Try.prog.eqGuardType Try.prog.depth 43 = false := by kernel_rfl

theorem addr_add (b off j : Nat) : (⟨b, off, none⟩ : Addr).add j = ⟨b, off + j, none⟩ := by unfold Addr.add; split <;> simp_all
theorem run_equalIn_file (x y : Fl) (w : World) : (Op.equalIn 10000 43 (vF x) (vF y)).run Try.prog w = .ok (x.1.toList == y.1.toList && x.2.toList == y.2.toList) w := by
  have h2 : Try.prog.underlying 9 = some .string := by kernel_rfl
  have he : ∀ (a b : ByteArray) (w : World), (Op.equalIn 9999 9 (.string a) (.string b)).run Try.prog w = .ok (a.toList == b.toList) w := fun a b w => by
    exact run_equalIn_string w 9998 _ a b h2
  have hp : Try.prog.stoodInHeld 43 = false := by kernel_rfl
  have hu : Try.prog.underlying 43 = some (.struct (Try.prog.fieldsOf 43)) := by kernel_rfl
  have hf : ((Try.prog.fieldsOf 43).toList.map fun f => (f.name == "_", f.type, f.offset)) = [(false, 9, 0), (false, 9, 1)] := by kernel_rfl
  rw [run_equalIn_agg w 9999 _ _ _ hu hp]
  obtain ⟨f1, f2, hfl⟩ : ∃ f1 f2, (Try.prog.fieldsOf 43).toList = [f1, f2] := by
    generalize (Try.prog.fieldsOf 43).toList = l at hf
    have hl := congrArg List.length hf
    rw [List.length_map] at hl
    obtain ⟨x1, l1, rfl⟩ := List.exists_cons_of_length_eq_add_one hl
    obtain ⟨x2, l2, rfl⟩ := List.exists_cons_of_length_eq_add_one (Nat.succ.inj hl)
    obtain rfl := List.length_eq_zero_iff.1 (Nat.succ.inj (Nat.succ.inj hl))
    exact ⟨x1, x2, rfl⟩
  rw [hfl] at hf ⊢
  simp at hf
  obtain ⟨⟨n1, t1, o1⟩, ⟨n2, t2, o2⟩⟩ := hf
  have hpart : ∀ (xs : Array Value) (off : Nat) (v : Value) (w : World), xs[off]? = some v → (part 9 xs off).run Try.prog w = .ok v w := fun xs off v w h => run_part_plain w (by kernel_rfl) h
  simp [Op.eqFields, n1, n2, t1, t2, o1, o2, hpart, he]
  by_cases e1 : x.1.toList = y.1.toList
  · by_cases e2 : x.2.toList = y.2.toList
    · simp [e1, e2]
    · simp [e1, e2]
  · simp [e1]
theorem file_beq (x y : Fl) : (x.1.toList == y.1.toList && x.2.toList == y.2.toList) = decide (x = y) := by
  by_cases h : x = y
  · subst h; simp
  · rw [decide_eq_false h, Bool.and_eq_false_iff, beq_eq_false_iff_ne, beq_eq_false_iff_ne]
    by_cases e : x.1 = y.1
    · exact .inr (fun e2 => h (Prod.ext e (toList_inj e2)))
    · exact .inl (fun e2 => e (toList_inj e2))
theorem run_neq_file (x y : Fl) (w : World) : (binOp .neq 43 (vF x) (vF y)).run Try.prog w = .ok (.bool (!decide (x = y))) w := by
  rw [run_neq_struct, run_equalIn_file, file_beq]
  rfl

/-- A list of files that owns its row. -/
abbrev OwnF (W : World) (base : Nat) (v : Value) (zs : List Fl) : Prop := W.ownsRow base 43 2 v zs.length (zs.flatMap eF)
theorem OwnF.sl {W : World} {base : Nat} {v : Value} {zs : List Fl} (h : OwnF W base v zs) : SlF W v zs := SlE.ofRow eF_len h
theorem OwnF.nil (W : World) (base : Nat) : OwnF W base (.slice none 0 0) [] := World.ownsRow_nil _ _ _ _
theorem OwnF.base {W : World} {b b' : Nat} {v : Value} {zs : List Fl} (h : OwnF W b v zs) (hb : b' ≤ b) : OwnF W b' v zs := rowBase h hb
theorem OwnF.slice {W : World} {base : Nat} {v : Value} {zs : List Fl} (h : OwnF W base v zs) : ∃ p c, v = .slice p zs.length c := row_slice h
theorem OwnF.kept {W W' : World} {base : Nat} {v : Value} {zs : List Fl} (h : OwnF W base v zs) (hk : ∀ k, v.ownBlock = some k → W'.heap[k]? = W.heap[k]?) : OwnF W' base v zs := by
  refine ⟨h.1, ?_⟩
  rcases h.2 with hn | ⟨g, cap, cur, rfl, hb, hgg, rest⟩
  · exact .inl hn
  · exact .inr ⟨g, cap, cur, rfl, hb, (hk g rfl).trans hgg, rest⟩
theorem OwnF.chg {W W' : World} {base : Nat} {v : Value} {zs : List Fl} (h : OwnF W base v zs) {S : Blk} (c : Chg S W W') (hd : ∀ k, v.ownBlock = some k → ¬ S k) : OwnF W' base v zs :=
  h.kept (fun k hk => c.block k (h.lt k hk).2 (hd k hk))
theorem OwnF.no {W W' : World} {base : Nat} {v : Value} {zs : List Fl} (h : OwnF W base v zs) (c : Chg No W W') : OwnF W' base v zs := h.chg c (fun _ _ h => h)

theorem flatF_one (zs : List Fl) : ∀ u ∈ zs.flatMap eF, u.oneCell' = true := by
  intro u hu
  obtain ⟨y, _, hy⟩ := List.mem_flatMap.1 hu
  simp [eF] at hy
  rcases hy with rfl | rfl <;> rfl
theorem flatF_length (zs : List Fl) : (zs.flatMap eF).length = zs.length * 2 := flat_length eF_len zs
theorem flatF_cells {W : World} {ad : Addr} {m cap : Nat} {zs : List Fl} (h : SlF W (.slice (some ad) m cap) zs) : ∀ j u, (zs.flatMap eF)[j]? = some u → W.cell? (ad.add j) = some u := by
  intro j u hj
  obtain ⟨p', cap', e, h1, h2, hc⟩ := h
  cases e
  have hj2 : j = (j / 2) * 2 + j % 2 := by omega
  have hq : j % 2 < 2 := Nat.mod_lt _ (by omega)
  rw [hj2, flat_get eF_len zs (j / 2) (j % 2) hq] at hj
  obtain ⟨x, hx, hj⟩ := Option.bind_eq_some_iff.1 hj
  obtain ⟨b, off, e, u1⟩ := hc _ x hx
  cases e
  rw [addr_add]
  have := u1 _ u hj
  rw [show off + j / 2 * 2 + j % 2 = off + j by omega] at this
  exact this

/-- append(s, xs...) where s is owned and xs is any list of files that reads. -/
theorem wpListIn_append_sf {F : Fence} {n : Nat} (w : World) {ops : Array Oper} {rest : List Oper} {o : Oper} {a : Act} {Q : Exit → Act → World → Prop}
    (hg : o.guard = none) (s x : Operand) (hop : o.op = Op.call { callee := Callee.builtin Builtin.append, args := #[s, x], argTypes := #[22, 22] })
    (base : Nat) (v : Value) (ys : List Fl) (hs : a.eval s = v) (hown : OwnF w base v ys) (p : Option Addr) (m c : Nat) (zs : List Fl) (hx : a.eval x = .slice p m c) (hsl : SlF w (.slice p m c) zs)
    (b1 : ys.length + m ≤ 1000000) (b3 : base ≤ w.heap.size)
    (hK : ∀ v' w', OwnF w' base v' (ys ++ zs) → w.grownBy w' v.ownBlock → (v'.ownBlock = v.ownBlock ∨ v'.ownBlock = some w.heap.size) → wpListIn F n Try.prog ops Q rest (a.put o.dst v') w') :
    wpListIn F n Try.prog ops Q (o :: rest) a w := by
  obtain ⟨i0, hi, hz0, hz1, hz2⟩ := info_parts info43
  have hlen := SlF.len hsl
  cases p with
  | none =>
    have hz : zs = [] := by
      obtain ⟨p', c', e, h1, h2, hc⟩ := hsl
      cases e
      cases zs with
      | nil => rfl
      | cons x r => obtain ⟨b, off, h, _⟩ := hc 0 x rfl; cases h
    subst hz
    obtain rfl : m = 0 := hlen.symm
    obtain ⟨pv, cv, rfl⟩ := row_slice hown
    have hkc : ys.length ≤ cv ∧ (pv = none → ys.length = 0 ∧ cv = 0) := by
      rcases hown.2 with ⟨h, h0⟩ | ⟨g, cap, cur, h, _, _, h3, _⟩
      · rw [Value.slice.injEq] at h
        obtain ⟨rfl, _, rfl⟩ := h
        exact ⟨by omega, fun _ => ⟨h0, rfl⟩⟩
      · rw [Value.slice.injEq] at h
        obtain ⟨rfl, _, rfl⟩ := h
        exact ⟨h3, fun h => by cases h⟩
    refine wpListIn_plain hg fun K hK' => ?_
    have hrun := run_append_nothing (P := Try.prog) w (ty := o.type) Try.underlying22 hi pv ys.length cv c hkc.1 hkc.2
    unfold Oper.wpIn
    refine ⟨?_, ?_⟩
    · simp [Oper.about, hop, resolve, Target.leads, Sem.run_pure]
    · rw [Oper.semAt_plain F _ _ (by rw [hop]; intro c hc'; cases hc')]
      simp [execOp, hop, resolve, invoke, builtin, hs, hx, hrun, Result.andThen]
      exact hK' _ _ (hK _ w (by rw [List.append_nil]; exact hown) ⟨rfl, rfl, rfl, Nat.le_refl _, fun _ _ _ => rfl⟩ (.inl rfl))
  | some ad =>
    have hcl := flatF_cells hsl
    refine wpListIn_append_at w hg s x 22 hop base 43 i0 (.agg #[.string ⟨#[]⟩, .string ⟨#[]⟩]) 2 32 Try.underlying22 hi hz0 hz1 hz2 rfl (by decide) v ys.length (ys.flatMap eF) hs hown ad m c (zs.flatMap eF) hx (by rw [flatF_length, hlen]) hcl (flatF_one zs) (by unfold maxLen; omega) (by omega) b3 (fun v' w' r1 r2 _ r4 => hK v' w' ?_ r2 r4)
    show w'.ownsRow base 43 2 v' (ys ++ zs).length ((ys ++ zs).flatMap eF)
    rw [List.flatMap_append, List.length_append, hlen]
    exact r1

/-- A list of files that was just laid. -/
theorem SlF.made (w : World) (zs : List Fl) (hl : zs.length ≤ 1000000) : SlF (w.alloc (.cells (zs.flatMap eF).toArray 43)) (.slice (some ⟨w.heap.size, 0, none⟩) zs.length zs.length) zs := by
  refine ⟨_, zs.length, rfl, Nat.le_refl _, by unfold maxLen; omega, fun i x hi => ⟨w.heap.size, 0, rfl, fun q u hu => ?_⟩⟩
  have hq : q < 2 := by rw [← eF_len x]; exact (List.getElem?_eq_some_iff.1 hu).1
  have h : (w.alloc (.cells (zs.flatMap eF).toArray 43)).heap[w.heap.size]? = some (.cells (zs.flatMap eF).toArray 43 (0, 0)) := World.alloc_heap_new w _
  unfold World.cell?
  show (match (w.alloc (.cells (zs.flatMap eF).toArray 43)).heap[w.heap.size]? with | some (.cells c _ _) => if false = true then none else c[0 + i * 2 + q]? | _ => none) = some u
  rw [h]
  have := flat_get eF_len zs i q hq
  rw [hi] at this
  rw [Nat.zero_add]
  simpa [hu] using this
theorem SlF.one (w : World) (x : Fl) : SlF (w.alloc (.cells #[.string x.1, .string x.2] 43)) (.slice (some ⟨w.heap.size, 0, none⟩) 1 1) [x] := SlF.made w [x] (by simp)
theorem SlF.two (w : World) (x y : Fl) : SlF (w.alloc (.cells #[.string x.1, .string x.2, .string y.1, .string y.2] 43)) (.slice (some ⟨w.heap.size, 0, none⟩) 2 2) [x, y] := SlF.made w [x, y] (by simp)

/-- A list of files, cut. -/
theorem SlF.cutCore {W : World} {p : Option Addr} {n cap : Nat} {zs : List Fl} (h : SlF W (.slice p n cap) zs) (lo hi : Nat) (h1 : lo ≤ hi) (h2 : hi ≤ n) :
    ∃ p' c', sliced p lo hi cap 2 = .slice p' (hi - lo) c' ∧ SlF W (.slice p' (hi - lo) c') ((zs.take hi).drop lo) ∧ (∀ k, Value.ownBlock (.slice p' (hi - lo) c') = some k → Value.ownBlock (.slice p n cap) = some k) := by
  have hl := SlF.len h
  obtain ⟨p0, cap0, e0, q1, q2, hc⟩ := h
  rw [Value.slice.injEq] at e0
  obtain ⟨rfl, _, rfl⟩ := e0
  have hlen : ((zs.take hi).drop lo).length = hi - lo := by rw [List.length_drop, List.length_take]; omega
  refine ⟨_, _, rfl, ⟨_, _, by rw [hlen], by rw [hlen]; omega, by omega, fun i x hi' => ?_⟩, fun k hk => ?_⟩
  · rw [List.getElem?_drop, List.getElem?_take] at hi'
    split at hi'
    · obtain ⟨b, off, rfl, hcell⟩ := hc _ _ hi'
      have hne : ¬ cap = lo := by omega
      rw [if_neg hne]
      have ea := addr_add b off (lo * 2)
      refine ⟨b, off + lo * 2, by rw [Option.map_some, ea], fun q u hu => ?_⟩
      rw [show off + lo * 2 + i * 2 + q = off + (lo + i) * 2 + q by omega]
      exact hcell q u hu
    · cases hi'
  · cases p with
    | none =>
      by_cases e : cap = lo
      · rw [if_pos e] at hk; cases hk
      · rw [if_neg e] at hk; cases hk
    | some ad =>
      by_cases e : cap = lo
      · rw [if_pos e] at hk; exact hk
      · rw [if_neg e] at hk
        have : (ad.add (lo * 2)).block = ad.block := by unfold Addr.add; split <;> rfl
        simp only [Option.map_some, Value.ownBlock, this] at hk
        exact hk
section
variable {W : World} {p : Option Addr} {n cap : Nat} {zs : List Fl}
theorem elem_files : Try.prog.elem 22 = 43 := by simp [Program.elem, Try.underlying22]
theorem SlF.high (h : SlF W (.slice p n cap) zs) (hi : Nat) (h2 : hi ≤ n) :
    ∃ p' c', SlF W (.slice p' hi c') (zs.take hi) ∧ (∀ k, Value.ownBlock (.slice p' hi c') = some k → Value.ownBlock (.slice p n cap) = some k) ∧ ∀ w, (Instr.sliceAt 22 (.slice p n cap) none (some (.int .i64 (hi : Int))) none).run Try.prog w = .ok (.slice p' hi c') w := by
  have hl := SlF.len h
  have hcap : n ≤ cap := by obtain ⟨p0, cap0, e0, q1, _⟩ := h; cases e0; omega
  obtain ⟨p', c', e, s, o⟩ := h.cutCore 0 hi (Nat.zero_le _) h2
  refine ⟨p', c', by simpa using s, o, fun w => ?_⟩
  have ht : Try.prog.underlying 22 = some (.slice (Try.prog.elem 22)) := by rw [elem_files]; exact Try.underlying22
  rw [run_sliceAt_slice _ _ _ _ _ _ ht, run_slice_h _ _ _ _ _ ht .i64 (hi : Int) (by omega) (by omega), elem_files, size_file]
  show Result.ok (sliced p 0 hi cap 2) w = _
  rw [e]
  rfl
theorem SlF.low (h : SlF W (.slice p n cap) zs) (lo : Nat) (h2 : lo ≤ n) :
    ∃ p' c', SlF W (.slice p' (n - lo) c') (zs.drop lo) ∧ (∀ k, Value.ownBlock (.slice p' (n - lo) c') = some k → Value.ownBlock (.slice p n cap) = some k) ∧ ∀ w, (Instr.sliceAt 22 (.slice p n cap) (some (.int .i64 (lo : Int))) none none).run Try.prog w = .ok (.slice p' (n - lo) c') w := by
  have hl := SlF.len h
  obtain ⟨p', c', e, s, o⟩ := h.cutCore lo n h2 (Nat.le_refl _)
  rw [List.take_of_length_le (by omega)] at s
  refine ⟨p', c', s, o, fun w => ?_⟩
  have ht : Try.prog.underlying 22 = some (.slice (Try.prog.elem 22)) := by rw [elem_files]; exact Try.underlying22
  rw [run_sliceAt_slice _ _ _ _ _ _ ht, run_slice_l _ _ _ _ _ ht .i64 (lo : Int) (by omega) (by omega), elem_files, size_file]
  show Result.ok (sliced p lo n cap 2) w = _
  rw [e]
end

end Go.Proofs.Ytbiholcdncndfaa
