/-
  three's own on and run: places in three lists.
-/
import Derived.Test.YtookalebfbkedaaTOwn
import Derived.Laws.ResultCell
namespace Go.Proofs.Ytookalebfbkedaa
open Go.RowKit Go.Shelf Go.SeqLib Go.DiffLib Go.BigFrame
attribute [local go_sem] Oper.semAt_some

theorem results_cell1 {fn : Func} {p : Tmp} {ty : TypeId} (h : fn.results = #[.cell p ty]) (tmps : Array Value) (P : Program) (w : World) :
    (results fn tmps).run P w = ((asAddr (tmps.getD p undef)).run P w).andThen fun a w₁ => (loadVar ty a).run P w₁ := by
  simp only [results, h]
  simp [Sem.run_bind, Result.andThen]

/-- A place's cells. -/
def eT (x : Pl) : List Value := [.int .i64 (x.1 : Int), .int .i64 (x.2.1 : Int), .int .i64 (x.2.2 : Int)]
theorem eT_len (x : Pl) : (eT x).length = 3 := rfl
abbrev vT (x : Pl) : Value := .agg #[.int .i64 (x.1 : Int), .int .i64 (x.2.1 : Int), .int .i64 (x.2.2 : Int)]
abbrev SlT := @SlE Pl 3 eT
theorem SlT.at {W : World} {p : Option Addr} {n cap : Nat} {zs : List Pl} (h : SlT W (.slice p n cap) zs) (i : Nat) (x : Pl) (hi : zs[i]? = some x) :
    ∃ b off, p = some ⟨b, off, none⟩ ∧ W.cell? ⟨b, off + i * 3, none⟩ = some (.int .i64 (x.1 : Int)) ∧ W.cell? ⟨b, off + i * 3 + 1, none⟩ = some (.int .i64 (x.2.1 : Int)) ∧ W.cell? ⟨b, off + i * 3 + 2, none⟩ = some (.int .i64 (x.2.2 : Int)) := by
  obtain ⟨p', cap', e, _, _, hc⟩ := h
  cases e
  obtain ⟨b, off, e, h1⟩ := hc i x hi
  exact ⟨b, off, e, h1 0 _ rfl, h1 1 _ rfl, h1 2 _ rfl⟩
theorem info56 : (Try.prog.info? 56).map (fun i => (i.zero, i.size, i.bytes)) = some (some (.agg #[.int .i64 0, .int .i64 0, .int .i64 0]), 3, 24) := by kernel_rfl
theorem guard_place : Try.prog.eqGuardType Try.prog.depth 56 = false := by kernel_rfl
theorem size_place (w : World) : (sizeOf 56).run Try.prog w = .ok 3 w := by
  obtain ⟨i0, hi, _, h2, _⟩ := info_parts info56
  rw [run_sizeOf w hi]
  have : Try.prog.cellsOf 56 = 3 := by kernel_rfl
  rw [this]

theorem run_equalIn_place (a b c a' b' c' : Int) (w : World) : (Op.equalIn 10000 56 (.agg #[.int .i64 a, .int .i64 b, .int .i64 c]) (.agg #[.int .i64 a', .int .i64 b', .int .i64 c'])).run Try.prog w = .ok (a == a' && b == b' && c == c') w := by
  have h2 : Try.prog.underlying 3 = some (.int .i64) := by kernel_rfl
  have he : ∀ (x y : Int) (w : World), (Op.equalIn 9999 3 (.int .i64 x) (.int .i64 y)).run Try.prog w = .ok (x == y) w := fun x y w => run_equalIn_int w 9998 3 .i64 .i64 x y h2
  have hp : Try.prog.stoodInHeld 56 = false := by kernel_rfl
  have hu : Try.prog.underlying 56 = some (.struct (Try.prog.fieldsOf 56)) := by kernel_rfl
  have hf : ((Try.prog.fieldsOf 56).toList.map fun f => (f.name == "_", f.type, f.offset)) = [(false, 3, 0), (false, 3, 1), (false, 3, 2)] := by kernel_rfl
  rw [run_equalIn_agg w 9999 _ _ _ hu hp]
  obtain ⟨f1, f2, f3, hfl⟩ : ∃ f1 f2 f3, (Try.prog.fieldsOf 56).toList = [f1, f2, f3] := by
    generalize (Try.prog.fieldsOf 56).toList = l at hf
    have hl := congrArg List.length hf
    rw [List.length_map] at hl
    obtain ⟨x1, l1, rfl⟩ := List.exists_cons_of_length_eq_add_one hl
    obtain ⟨x2, l2, rfl⟩ := List.exists_cons_of_length_eq_add_one (Nat.succ.inj hl)
    obtain ⟨x3, l3, rfl⟩ := List.exists_cons_of_length_eq_add_one (Nat.succ.inj (Nat.succ.inj hl))
    obtain rfl := List.length_eq_zero_iff.1 (Nat.succ.inj (Nat.succ.inj (Nat.succ.inj hl)))
    exact ⟨x1, x2, x3, rfl⟩
  rw [hfl] at hf ⊢
  simp at hf
  obtain ⟨⟨n1, t1, o1⟩, ⟨n2, t2, o2⟩, ⟨n3, t3, o3⟩⟩ := hf
  have hpart : ∀ (xs : Array Value) (off : Nat) (v : Value) (w : World), xs[off]? = some v → (part 3 xs off).run Try.prog w = .ok v w := fun xs off v w h => run_part_plain w (by kernel_rfl) h
  simp [Op.eqFields, n1, n2, n3, t1, t2, t3, o1, o2, o3, hpart, he]
  by_cases e1 : a = a'
  · by_cases e2 : b = b'
    · by_cases e3 : c = c'
      · simp [e1, e2, e3]
      · simp [e1, e2, e3]
    · simp [e1, e2]
  · simp [e1]
theorem run_eql_place (p q : Pl) (w : World) : (binOp .eql 56 (vT p) (vT q)).run Try.prog w = .ok (.bool (decide (p = q))) w := by
  obtain ⟨a, b, c⟩ := p
  obtain ⟨d, e, f⟩ := q
  simp only [binOp]
  simp [Op.equal, Op.maxDepth, run_equalIn_place]
  by_cases e1 : a = d
  · by_cases e2 : b = e
    · by_cases e3 : c = f
      · simp [e1, e2, e3]
      · simp [e1, e2, e3]; omega
    · simp [e1, e2]; omega
  · simp [e1]; omega
theorem run_neq_place (p q : Pl) (w : World) : (binOp .neq 56 (vT p) (vT q)).run Try.prog w = .ok (.bool (!decide (p = q))) w := by
  obtain ⟨a, b, c⟩ := p
  obtain ⟨d, e, f⟩ := q
  simp only [binOp]
  simp [Op.equal, Op.maxDepth, run_equalIn_place]
  by_cases e1 : a = d
  · by_cases e2 : b = e
    · by_cases e3 : c = f
      · simp [e1, e2, e3]
      · simp [e1, e2, e3]; omega
    · simp [e1, e2]; omega
  · simp [e1]; omega

set_option maxHeartbeats 1000000 in
theorem on_in (p : Pl) (n : Nat) (h1 : p.1 ≤ 1000) (h2 : p.2.1 ≤ 1000) (h3 : p.2.2 ≤ 1000) (hn : n ≤ 1000) (w : World) :
    CallsIn Fence.wide 0 Try.prog 36 #[vT p, .int .i64 (n : Int)] w fun e w' => e = .returned (vT (on p n)) ∧ Chg No w w' := by
  obtain ⟨a, b, c⟩ := p
  simp only at h1 h2 h3
  refine callsIn_of_wp Try.func36 rfl trivial ?_
  simp only [Try.ntmps36, List.size_toArray, List.length_cons, List.length_nil, Nat.reduceAdd, Nat.reduceSub, Array.replicate_succ, Array.replicate_zero, List.push_toArray, List.append_toArray, List.nil_append, List.cons_append]
  gi_wp2
  refine bodyPost_ret (v := vT (on (a, b, c) n)) ?_ rfl ⟨rfl, ((Chg.refl _ w).alloc _).alloc _⟩
  rw [results_cell1 rfl]
  simp only [on]
  go_simp

set_option maxRecDepth 100000 in
set_option maxHeartbeats 2000000 in
theorem run3_in (p : Option Addr) (n cap : Nat) (ps : List Pl) (s : Pl) (w : World) (h : SlT w (.slice p n cap) ps) (hl : ps.length = n) (hs : ps[0]? = some s) (hb : s.1 ≤ 400 ∧ s.2.1 ≤ 400 ∧ s.2.2 ≤ 400) (hn : n ≤ 400) :
    CallsIn Fence.wide 0 Try.prog 35 #[.slice p n cap] w fun e w' => e = .returned (.int .i64 (rn3 ps s : Int)) ∧ Chg No w w' := by
  have hmix : Try.prog.follows .mixedOrders = true := by kernel_rfl
  have hgd := guard_place
  have HL : Hid (ps.length = n) := hl
  have HS : Hid (ps[0]? = some s) := hs
  clear hl hs
  refine callsIn_of_wp Try.func35 rfl trivial ?_
  simp only [Try.ntmps35, List.size_toArray, List.length_cons, List.length_nil, Nat.reduceAdd, Nat.reduceSub, Array.replicate_succ, Array.replicate_zero, List.push_toArray, List.append_toArray, List.nil_append, List.cons_append]
  gi_wp2
  gi_loopw [3] (fun t wr => ∃ k : Nat, k ≤ n ∧ t = .int .i64 (k : Int) ∧ Hid (rn3 ps s = k + rn3 (ps.drop k) (on s k)) ∧ Chg No w wr) (fun t _ => n - (intOf t).toNat)
  case atStart => exact ⟨0, Nat.zero_le _, rfl, by show _ = _; simp [on_zero], Chg.refl _ _⟩
  case round =>
    obtain ⟨k, hk, rfl, HK, cw⟩ := hrel
    have hany : Nonempty (After wr) := After.any wr
    by_cases hlt : k < n
    · have hlt' : (k : Int) < (n : Int) := by omega
      have hn0 : (0 : Int) < (n : Int) := by omega
      have hkp : k < ps.length := by rw [HL.out]; exact hlt
      obtain ⟨x, hx⟩ : ∃ x, ps[k]? = some x := ⟨_, List.getElem?_eq_getElem hkp⟩
      have h' : SlT wr _ ps := SlE.no eT_len (by decide) h cw
      obtain ⟨b, off, rfl, c1, c2, c3⟩ := SlT.at h' k x hx
      obtain ⟨b0, off0, e0, d1, d2, d3⟩ := SlT.at h' 0 s HS.out
      cases e0
      simp only [Nat.zero_mul, Nat.add_zero] at d1 d2 d3
      have hxk : ps[k] = x := by rw [List.getElem?_eq_getElem hkp] at hx; exact Option.some.inj hx
      have hat := rn3_at ps s k hkp
      rw [hxk] at hat
      have HOn : Hid (∀ c : After wr, CallsIn Fence.wide 0 Try.prog 36 #[vT s, .int .i64 (k : Int)] c.val fun e w' => e = .returned (vT (on s k)) ∧ Chg No c.val w') := fun c => on_in s k (by omega) (by omega) (by omega) (by omega) c.val
      have g1 : ∀ c : After wr, c.val.cell? ⟨b, off + k * 3, none⟩ = some (.int .i64 (x.1 : Int)) := fun c => c.cell c1
      have g2 : ∀ c : After wr, c.val.cell? ⟨b, off + k * 3 + 1, none⟩ = some (.int .i64 (x.2.1 : Int)) := fun c => c.cell c2
      have g3 : ∀ c : After wr, c.val.cell? ⟨b, off + k * 3 + 2, none⟩ = some (.int .i64 (x.2.2 : Int)) := fun c => c.cell c3
      have g4 : ∀ c : After wr, c.val.cell? ⟨b, off, none⟩ = some (.int .i64 (s.1 : Int)) := fun c => c.cell d1
      have g5 : ∀ c : After wr, c.val.cell? ⟨b, off + 1, none⟩ = some (.int .i64 (s.2.1 : Int)) := fun c => c.cell d2
      have g6 : ∀ c : After wr, c.val.cell? ⟨b, off + 2, none⟩ = some (.int .i64 (s.2.2 : Int)) := fun c => c.cell d3
      obtain ⟨z, hz⟩ : ∃ z, decide (x = on s k) = z := ⟨_, rfl⟩
      have heq : ∀ w, (binOp .eql 56 (vT x) (vT (on s k))).run Try.prog w = .ok (.bool z) w := fun w => by rw [run_eql_place, hz]
      have HAt : Hid (rn3 ps s = if z = true then (k + 1) + rn3 (ps.drop (k + 1)) (on s (k + 1)) else k) := by
        show _ = _
        rw [HK.out, hat, ← hz]
        by_cases e : x = on s k
        · simp [e]; omega
        · simp [e]
      clear hat hxk hx c1 c2 c3 d1 d2 d3 h' hz
      generalize on s k = y at *
      gi_wp2
      refine region_quietC hmix (by kernel_rfl) ?_
      repeat (gi_big_quiet_step (fail))
      refine wpQuietIn_want (fun _ _ _ _ => trivial) rfl ?_
      intro KQ hKQ
      gi_big_quiet_op
      gi_big_quiet_call (exact ⟨rfl, (HOn.out _).mono (by rintro e w'' ⟨rfl, c'⟩; exact ⟨rfl, After.more _ c'⟩)⟩)
      repeat (gi_big_quiet_step (fail))
      refine wpQuietIn_nil ?_
      rintro w' ⟨c, rfl⟩
      have cc := Chg.seq cw c.chg
      cases z
      · have HR : Hid (rn3 ps s = k) := HAt.out
        gi_wp2
        go_ret
        exact ⟨by rw [HR.out]; rfl, cc⟩
      · have HR : Hid (rn3 ps s = (k + 1) + rn3 (ps.drop (k + 1)) (on s (k + 1))) := HAt.out
        gi_wp2
        go_roundw
        case rel => exact ⟨k + 1, hlt, by go_num, HR, cc⟩
        case measure => simp [intOf]; omega
    · obtain rfl : k = n := by omega
      have hlt' : decide ((k : Int) < (k : Int)) = false := by simp
      have HR : Hid (rn3 ps s = k) := by
        show _ = _
        rw [HK.out, List.drop_eq_nil_of_le (by rw [HL.out]; exact Nat.le_refl _)]
        rfl
      gi_wp2
      refine region_quietC hmix (by kernel_rfl) ?_
      repeat (gi_big_quiet_step (fail))
      refine wpQuietIn_skip (fun _ _ _ _ => trivial) rfl ?_
      simp only [Act.put, List.setIfInBounds_toArray, List.set_cons_succ, List.set_cons_zero]
      repeat (gi_big_quiet_step (fail))
      refine wpQuietIn_nil ?_
      rintro w' ⟨c, rfl⟩
      have cc := Chg.seq cw c.chg
      gi_wp2
      go_ret
      exact ⟨by rw [HR.out]; rfl, cc⟩

end Go.Proofs.Ytookalebfbkedaa
