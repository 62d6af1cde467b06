/-
  Lists of changes as memory holds them, five cells an element: how they read, how they are appended to, how two changes are compared.
-/
import Derived.Test.YtndblaemladppaaGFile
import Derived.Test.YtndblaemladppaaGPure
import Derived.Test.YtndblaemladppaaCSpot
namespace Go.Proofs.Ytndblaemladppaa
open Go.RowKit Go.Shelf Go.SeqLib Go.DiffLib Go.TreeLib

/-- A change's cells. -/
def eC (x : Chn) : List Value := [.string x.1, .bool x.2.1, .bool x.2.2.1, .string x.2.2.2.1, .string x.2.2.2.2]
theorem eC_len (x : Chn) : (eC x).length = 5 := rfl
abbrev SlC := @SlE Chn 5 eC
/-- A change, as a value. -/
abbrev vC (x : Chn) : Value := .agg #[.string x.1, .bool x.2.1, .bool x.2.2.1, .string x.2.2.2.1, .string x.2.2.2.2]

theorem SlC.at {W : World} {p : Option Addr} {n cap : Nat} {zs : List Chn} (h : SlC W (.slice p n cap) zs) (i : Nat) (x : Chn) (hi : zs[i]? = some x) :
    ∃ b off, p = some ⟨b, off, none⟩ ∧ W.cell? ⟨b, off + i * 5, none⟩ = some (.string x.1) ∧ W.cell? ⟨b, off + i * 5 + 1, none⟩ = some (.bool x.2.1) ∧ W.cell? ⟨b, off + i * 5 + 2, none⟩ = some (.bool x.2.2.1) ∧ W.cell? ⟨b, off + i * 5 + 3, none⟩ = some (.string x.2.2.2.1) ∧ W.cell? ⟨b, off + i * 5 + 4, none⟩ = some (.string x.2.2.2.2) := by
  obtain ⟨p', cap', e, _, _, hc⟩ := h
  cases e
  obtain ⟨b, off, e, h1⟩ := hc i x hi
  exact ⟨b, off, e, h1 0 _ rfl, h1 1 _ rfl, h1 2 _ rfl, h1 3 _ rfl, h1 4 _ rfl⟩
theorem SlC.no {W W' : World} {v : Value} {zs : List Chn} (h : SlC W v zs) (c : Chg No W W') : SlC W' v zs := SlE.no eC_len (by decide) h c
theorem SlC.chg {W W' : World} {v : Value} {zs : List Chn} (h : SlC W v zs) {S : Blk} (c : Chg S W W') (hd : ∀ k, slE v zs k → ¬ S k) : SlC W' v zs := SlE.chg eC_len (by decide) h c hd
theorem SlC.lt {W : World} {v : Value} {zs : List Chn} (h : SlC W v zs) : ∀ k, slE v zs k → k < W.heap.size := SlE.lt eC_len (by decide) h
theorem SlC.slice {W : World} {v : Value} {zs : List Chn} (h : SlC W v zs) : ∃ p cap, v = .slice p zs.length cap ∧ zs.length ≤ cap ∧ cap ≤ maxLen := by
  obtain ⟨p, cap, e, h1, h2, _⟩ := h
  exact ⟨p, cap, e, h1, h2⟩
theorem SlC.len {W : World} {p : Option Addr} {n cap : Nat} {zs : List Chn} (h : SlC W (.slice p n cap) zs) : zs.length = n := by
  obtain ⟨p', cap', e, _⟩ := h
  rw [Value.slice.injEq] at e
  exact e.2.1.symm

/-- What is asked of a type of changes. -/
abbrev zC : Value := .agg #[.string ⟨#[]⟩, .bool false, .bool false, .string ⟨#[]⟩, .string ⟨#[]⟩]
def IsC (t e : TypeId) : Prop := Try.prog.underlying t = some (.slice e) ∧ (Try.prog.info? e).map (fun i => (i.zero, i.size, i.bytes)) = some (some zC, 5, 56)

/-- A list of changes that owns its row. -/
abbrev OwnC (e : TypeId) (W : World) (base : Nat) (v : Value) (zs : List Chn) : Prop := W.ownsRow base e 5 v zs.length (zs.flatMap eC)
section
variable {e : TypeId} {W W' : World} {b b' : Nat} {v : Value} {zs : List Chn}
theorem OwnC.sl (h : OwnC e W b v zs) : SlC W v zs := SlE.ofRow eC_len h
theorem OwnC.nil (e : TypeId) (W : World) (b : Nat) : OwnC e W b (.slice none 0 0) [] := World.ownsRow_nil _ _ _ _
theorem OwnC.base (h : OwnC e W b v zs) (hb : b' ≤ b) : OwnC e W b' v zs := rowBase h hb
theorem OwnC.slice (h : OwnC e W b v zs) : ∃ p c, v = .slice p zs.length c := row_slice h
theorem OwnC.kept (h : OwnC e W b v zs) (hk : ∀ k, v.ownBlock = some k → W'.heap[k]? = W.heap[k]?) : OwnC e W' b v zs := by
  refine ⟨h.1, ?_⟩
  rcases h.2 with hn | ⟨g, cap, cur, rfl, hb, hgg, rest⟩
  · exact .inl hn
  · exact .inr ⟨g, cap, cur, rfl, hb, (hk g rfl).trans hgg, rest⟩
theorem OwnC.chg (h : OwnC e W b v zs) {S : Blk} (c : Chg S W W') (hd : ∀ k, v.ownBlock = some k → ¬ S k) : OwnC e W' b v zs :=
  h.kept (fun k hk => c.block k (h.lt k hk).2 (hd k hk))
theorem OwnC.no (h : OwnC e W b v zs) (c : Chg No W W') : OwnC e W' b v zs := h.chg c (fun _ _ h => h)
end

theorem flatC_one (zs : List Chn) : ∀ u ∈ zs.flatMap eC, u.oneCell' = true := by
  intro u hu
  obtain ⟨y, _, hy⟩ := List.mem_flatMap.1 hu
  simp [eC] at hy
  rcases hy with rfl | rfl | rfl | rfl | rfl <;> rfl
theorem flatC_length (zs : List Chn) : (zs.flatMap eC).length = zs.length * 5 := flat_length eC_len zs
theorem flatC_cells {W : World} {ad : Addr} {m cap : Nat} {zs : List Chn} (h : SlC W (.slice (some ad) m cap) zs) : ∀ j u, (zs.flatMap eC)[j]? = some u → W.cell? (ad.add j) = some u := by
  intro j u hj
  obtain ⟨p', cap', e, h1, h2, hc⟩ := h
  cases e
  have hj2 : j = (j / 5) * 5 + j % 5 := by omega
  have hq : j % 5 < 5 := Nat.mod_lt _ (by omega)
  rw [hj2, flat_get eC_len zs (j / 5) (j % 5) hq] at hj
  obtain ⟨x, hx, hj⟩ := Option.bind_eq_some_iff.1 hj
  obtain ⟨b, off, e, u1⟩ := hc _ x hx
  cases e
  rw [addr_add]
  have := u1 _ u hj
  rw [show off + j / 5 * 5 + j % 5 = off + j by omega] at this
  exact this

/-- append(s, xs...) where s is owned and xs is any list of changes that reads. -/
theorem wpListIn_append_sc {t e : TypeId} (ht : IsC t e) {F : Fence} {n : Nat} (w : World) {ops : Array Oper} {rest : List Oper} {o : Oper} {a : Act} {Q : Exit → Act → World → Prop}
    (hg : o.guard = none) (s x : Operand) (hop : o.op = Op.call { callee := Callee.builtin Builtin.append, args := #[s, x], argTypes := #[t, t] })
    (base : Nat) (v : Value) (ys : List Chn) (hs : a.eval s = v) (hown : OwnC e w base v ys) (p : Option Addr) (m c : Nat) (zs : List Chn) (hx : a.eval x = .slice p m c) (hsl : SlC w (.slice p m c) zs)
    (b1 : ys.length + m ≤ 1000000) (b3 : base ≤ w.heap.size)
    (hK : ∀ v' w', OwnC e w' base v' (ys ++ zs) → w.grownBy w' v.ownBlock → (v'.ownBlock = v.ownBlock ∨ v'.ownBlock = some w.heap.size) → wpListIn F n Try.prog ops Q rest (a.put o.dst v') w') :
    wpListIn F n Try.prog ops Q (o :: rest) a w := by
  obtain ⟨i0, hi, hz0, hz1, hz2⟩ := info_parts ht.2
  have hlen := SlC.len hsl
  cases p with
  | none =>
    have hz : zs = [] := by
      obtain ⟨p', c', e, h1, h2, hc⟩ := hsl
      cases e
      cases zs with
      | nil => rfl
      | cons x r => obtain ⟨b, off, h, _⟩ := hc 0 x rfl; cases h
    subst hz
    obtain rfl : m = 0 := hlen.symm
    obtain ⟨pv, cv, rfl⟩ := row_slice hown
    have hkc : ys.length ≤ cv ∧ (pv = none → ys.length = 0 ∧ cv = 0) := by
      rcases hown.2 with ⟨h, h0⟩ | ⟨g, cap, cur, h, _, _, h3, _⟩
      · rw [Value.slice.injEq] at h
        obtain ⟨rfl, _, rfl⟩ := h
        exact ⟨by omega, fun _ => ⟨h0, rfl⟩⟩
      · rw [Value.slice.injEq] at h
        obtain ⟨rfl, _, rfl⟩ := h
        exact ⟨h3, fun h => by cases h⟩
    refine wpListIn_plain hg fun K hK' => ?_
    have hrun := run_append_nothing (P := Try.prog) w (ty := o.type) ht.1 hi pv ys.length cv c hkc.1 hkc.2
    unfold Oper.wpIn
    refine ⟨?_, ?_⟩
    · simp [Oper.about, hop, resolve, Target.leads, Sem.run_pure]
    · rw [Oper.semAt_plain F _ _ (by rw [hop]; intro c hc'; cases hc')]
      simp [execOp, hop, resolve, invoke, builtin, hs, hx, hrun, Result.andThen]
      exact hK' _ _ (hK _ w (by rw [List.append_nil]; exact hown) ⟨rfl, rfl, rfl, Nat.le_refl _, fun _ _ _ => rfl⟩ (.inl rfl))
  | some ad =>
    have hcl := flatC_cells hsl
    refine wpListIn_append_at w hg s x t hop base e i0 zC 5 56 ht.1 hi hz0 hz1 hz2 rfl (by decide) v ys.length (ys.flatMap eC) hs hown ad m c (zs.flatMap eC) hx (by rw [flatC_length, hlen]) hcl (flatC_one zs) (by unfold maxLen; omega) (by omega) b3 (fun v' w' r1 r2 _ r4 => hK v' w' ?_ r2 r4)
    show w'.ownsRow base e 5 v' (ys ++ zs).length ((ys ++ zs).flatMap eC)
    rw [List.flatMap_append, List.length_append, hlen]
    exact r1

/-- A list of one change that was just laid. -/
theorem SlC.made (e : TypeId) (w : World) (zs : List Chn) (hl : zs.length ≤ 1000000) : SlC (w.alloc (.cells (zs.flatMap eC).toArray e)) (.slice (some ⟨w.heap.size, 0, none⟩) zs.length zs.length) zs := by
  refine ⟨_, zs.length, rfl, Nat.le_refl _, by unfold maxLen; omega, fun i x hi => ⟨w.heap.size, 0, rfl, fun q u hu => ?_⟩⟩
  have hq : q < 5 := by rw [← eC_len x]; exact (List.getElem?_eq_some_iff.1 hu).1
  have h : (w.alloc (.cells (zs.flatMap eC).toArray e)).heap[w.heap.size]? = some (.cells (zs.flatMap eC).toArray e (0, 0)) := World.alloc_heap_new w _
  unfold World.cell?
  show (match (w.alloc (.cells (zs.flatMap eC).toArray e)).heap[w.heap.size]? with | some (.cells c _ _) => if false = true then none else c[0 + i * 5 + q]? | _ => none) = some u
  rw [h]
  have := flat_get eC_len zs i q hq
  rw [hi] at this
  rw [Nat.zero_add]
  simpa [hu] using this
theorem SlC.one (e : TypeId) (w : World) (x : Chn) : SlC (w.alloc (.cells #[.string x.1, .bool x.2.1, .bool x.2.2.1, .string x.2.2.2.1, .string x.2.2.2.2] e)) (.slice (some ⟨w.heap.size, 0, none⟩) 1 1) [x] := SlC.made e w [x] (by simp)

theorem isC30 : IsC 26 30 := ⟨Try.underlying26, by kernel_rfl⟩

/-! ### Two changes, compared -/
theorem guard_change : Try.prog.eqGuardType Try.prog.depth 30 = false := by kernel_rfl
theorem five_of {α : Type} {l : List α} (h : l.length = 5) : ∃ a b c d e, l = [a, b, c, d, e] := by
  match l, h with
  | [a, b, c, d, e], _ => exact ⟨a, b, c, d, e, rfl⟩
theorem change_beq (x y : Chn) : (x.1.toList == y.1.toList && (x.2.1 == y.2.1 && (x.2.2.1 == y.2.2.1 && (x.2.2.2.1.toList == y.2.2.2.1.toList && x.2.2.2.2.toList == y.2.2.2.2.toList)))) = decide (x = y) := by
  by_cases h : x = y
  · subst h; simp
  · rw [decide_eq_false h]
    cases hb : (x.1.toList == y.1.toList && (x.2.1 == y.2.1 && (x.2.2.1 == y.2.2.1 && (x.2.2.2.1.toList == y.2.2.2.1.toList && x.2.2.2.2.toList == y.2.2.2.2.toList)))) with
    | false => rfl
    | true =>
      exfalso
      simp only [Bool.and_eq_true, beq_iff_eq] at hb
      obtain ⟨h1, h2, h3, h4, h5⟩ := hb
      exact h (Prod.ext (toList_inj h1) (Prod.ext h2 (Prod.ext h3 (Prod.ext (toList_inj h4) (toList_inj h5)))))
theorem run_equalIn_change (x y : Chn) (w : World) : (Op.equalIn 10000 30 (vC x) (vC y)).run Try.prog w = .ok (decide (x = y)) w := by
  rw [← change_beq]
  have h2 : Try.prog.underlying 9 = some .string := by kernel_rfl
  have h3 : Try.prog.underlying 4 = some .bool := by kernel_rfl
  have he : ∀ (a b : ByteArray) (w : World), (Op.equalIn 9999 9 (.string a) (.string b)).run Try.prog w = .ok (a.toList == b.toList) w := fun a b w => by
    exact run_equalIn_string w 9998 _ a b h2
  have hb : ∀ (a b : Bool) (w : World), (Op.equalIn 9999 4 (.bool a) (.bool b)).run Try.prog w = .ok (a == b) w := fun a b w => by
    exact run_equalIn_bool w 9998 _ a b h3
  have hp : Try.prog.stoodInHeld 30 = false := by kernel_rfl
  have hu : Try.prog.underlying 30 = some (.struct (Try.prog.fieldsOf 30)) := by kernel_rfl
  have hf : ((Try.prog.fieldsOf 30).toList.map fun f => (f.name == "_", f.type, f.offset)) = [(false, 9, 0), (false, 4, 1), (false, 4, 2), (false, 9, 3), (false, 9, 4)] := by kernel_rfl
  rw [run_equalIn_agg w 9999 _ _ _ hu hp]
  generalize (Try.prog.fieldsOf 30).toList = l at hf
  obtain ⟨f1, f2, f3, f4, f5, rfl⟩ := five_of (by have := congrArg List.length hf; simpa using this)
  simp at hf
  obtain ⟨⟨n1, t1, o1⟩, ⟨n2, t2, o2⟩, ⟨n3, t3, o3⟩, ⟨n4, t4, o4⟩, ⟨n5, t5, o5⟩⟩ := hf
  have hpart : ∀ (xs : Array Value) (off : Nat) (v : Value) (w : World), xs[off]? = some v → (part 9 xs off).run Try.prog w = .ok v w := fun xs off v w h => run_part_plain w (by kernel_rfl) h
  have hpartb : ∀ (xs : Array Value) (off : Nat) (v : Value) (w : World), xs[off]? = some v → (part 4 xs off).run Try.prog w = .ok v w := fun xs off v w h => run_part_plain w (by kernel_rfl) h
  simp [Op.eqFields, n1, n2, n3, n4, n5, t1, t2, t3, t4, t5, o1, o2, o3, o4, o5, hpart, hpartb, he, hb]
  by_cases e1 : x.1.toList = y.1.toList
  · by_cases e2 : x.2.1 = y.2.1
    · by_cases e3 : x.2.2.1 = y.2.2.1
      · by_cases e4 : x.2.2.2.1.toList = y.2.2.2.1.toList
        · simp [e1, e2, e3, e4]
          by_cases e5 : x.2.2.2.2.toList = y.2.2.2.2.toList
          · simp [e5]
          · simp [e5]
        · simp [e1, e2, e3, e4]
      · simp [e1, e2, e3]
    · simp [e1, e2]
  · simp [e1]
theorem run_neq_change (x y : Chn) (w : World) : (binOp .neq 30 (vC x) (vC y)).run Try.prog w = .ok (.bool (!decide (x = y))) w := by
  rw [run_neq_struct, run_equalIn_change]
  rfl
theorem run_eql_change (x y : Chn) (w : World) : (binOp .eql 30 (vC x) (vC y)).run Try.prog w = .ok (.bool (decide (x = y))) w := by
  rw [run_eql_struct, run_equalIn_change]
  rfl

end Go.Proofs.Ytndblaemladppaa
