/-
  A statement whose order is open, some of whose operations change the world and answer what hangs on the world: every order at once. No program is named here.
-/
import Derived.Test.YtakbeololabmhaaGreatDoorG06
namespace Go.SeqLib
open Go

section
variable {P : Program} {ops : Array Oper} {n : Nat}

/-- Each operation waits for those whose values it looks at, or they wait for it; no two leave their values at one place. -/
def seesW (ops : Array Oper) : Bool := (List.range ops.size).all fun i => match ops[i]? with
  | none => false
  | some o => (o.after.all fun e => !Region.binds .any e || decide (e.on < i)) && (match o.op with | .select .. => false | .defer _ => false | _ => true) &&
      (List.range ops.size).all fun j => match ops[j]? with
        | none => true
        | some p => match p.dst with
          | none => true
          | some d => (i == j || o.dst != some d) && (!(o.looksAt ops).contains d || waitsOn o j || (decide (i < j) && waitsOn p i))

theorem waitsOn_iff {o : Oper} {j : Nat} : waitsOn o j = true ↔ ∃ e ∈ o.after, Region.binds .any e = true ∧ e.on = j := by
  unfold waitsOn
  rw [Array.any_eq_true']
  simp only [Bool.and_eq_true, beq_iff_eq]

theorem seesW_at (hs : seesW ops = true) {i : Nat} {o : Oper} (ho : ops[i]? = some o) :
    (∀ e ∈ o.after, Region.binds .any e = true → e.on < i) ∧ (∀ cs b, o.op ≠ .select cs b) ∧ (∀ c, o.op ≠ .defer c) ∧
    (∀ j d, dstAt ops j = some d → (i ≠ j → o.dst ≠ some d) ∧ (d ∈ o.looksAt ops → waitsOn o j = true ∨ (i < j ∧ ∃ p, ops[j]? = some p ∧ waitsOn p i = true))) := by
  have hi : i < ops.size := (Array.getElem?_eq_some_iff.1 ho).1
  have h := List.all_eq_true.1 hs i (List.mem_range.2 hi)
  simp only [ho, Bool.and_eq_true] at h
  obtain ⟨⟨h1, h2⟩, h3⟩ := h
  refine ⟨fun e he hb => ?_, fun cs b hc => ?_, fun c hc => ?_, fun j d hd => ?_⟩
  · have := Array.all_eq_true_iff_forall_mem.1 h1 e he
    simpa [hb] using this
  · rw [hc] at h2; cases h2
  · rw [hc] at h2; cases h2
  · cases hp : ops[j]? with
    | none => unfold dstAt at hd; rw [hp] at hd; cases hd
    | some p =>
      have hj : j < ops.size := (Array.getElem?_eq_some_iff.1 hp).1
      have hpd : p.dst = some d := by unfold dstAt at hd; rw [hp] at hd; exact hd
      have := List.all_eq_true.1 h3 j (List.mem_range.2 hj)
      simp only [hp, hpd, Bool.and_eq_true, Bool.or_eq_true, decide_eq_true_eq] at this
      refine ⟨fun hne => ?_, fun hl => ?_⟩
      · rcases this.1 with h4 | h4
        · exact absurd (by simpa using h4) hne
        · simpa using h4
      · rcases this.2 with (h4 | h4) | h4
        · have h5 : (o.looksAt ops).contains d = false := by simpa using h4
          rw [List.contains_eq_mem, decide_eq_false_iff_not] at h5
          exact absurd hl h5
        · exact .inl h4
        · exact .inr ⟨h4.1, p, rfl, h4.2⟩

theorem putAll_cong {V V' : Nat → Value} : ∀ (L : List Nat) (a : Act), (∀ i ∈ L, V i = V' i) → putAll ops V L a = putAll ops V' L a
  | [], _, _ => rfl
  | i :: L, a, h => by
    show putAll ops V L (a.put (dstAt ops i) (V i)) = putAll ops V' L (a.put (dstAt ops i) (V' i))
    rw [h i List.mem_cons_self]
    exact putAll_cong L _ (fun j hj => h j (List.mem_cons_of_mem _ hj))
theorem putAll_perm {V : Nat → Value} (hd : ∀ i j d, i ≠ j → dstAt ops i = some d → dstAt ops j ≠ some d) {L M : List Nat} (h : L.Perm M) : ∀ a : Act, putAll ops V L a = putAll ops V M a := by
  induction h with
  | nil => intro a; rfl
  | cons x _ ih => intro a; exact ih _
  | swap x y l =>
    intro a
    show putAll ops V l ((a.put (dstAt ops y) (V y)).put (dstAt ops x) (V x)) = putAll ops V l ((a.put (dstAt ops x) (V x)).put (dstAt ops y) (V y))
    by_cases e : x = y
    · subst e; rfl
    · rw [Act.put_comm a (V y) (V x) (fun d h1 => hd y x d (fun h => e h.symm) h1)]
  | trans _ _ ih1 ih2 => intro a; exact (ih1 a).trans (ih2 a)

/-- Two frames that part in what the operation does not look at. -/
theorem frames_same {V V' : Nat → Value} {o : Oper} (hsel : ∀ cs b, o.op ≠ .select cs b) (W L M : List Nat) (hd : ∀ i j d, i ≠ j → dstAt ops i = some d → dstAt ops j ≠ some d)
    (hWL : ∀ j ∈ W, j ∈ L) (hWM : ∀ j ∈ W, j ∈ M) (hL : L.Nodup) (hM : M.Nodup) (hW : W.Nodup) (hVW : ∀ j ∈ W, V j = V' j)
    (hl : ∀ j ∈ L, j ∉ W → ∀ d, dstAt ops j = some d → d ∉ o.looksAt ops) (hm : ∀ j ∈ M, j ∉ W → ∀ d, dstAt ops j = some d → d ∉ o.looksAt ops) (a : Act) :
    execOp (putAll ops V L a).eval o = execOp (putAll ops V' M a).eval o ∧ Region.wanted o (yielded ops (putAll ops V L a).tmps) = Region.wanted o (yielded ops (putAll ops V' M a).tmps) := by
  have split : ∀ (L : List Nat), L.Nodup → (∀ j ∈ W, j ∈ L) → L.Perm (W ++ L.filter (fun j => !W.contains j)) := by
    intro L hL hWL
    refine (List.perm_ext_iff_of_nodup hL ?_).2 (fun x => ?_)
    · refine List.nodup_append.2 ⟨hW, hL.filter _, ?_⟩
      rintro x hx y hy rfl
      have := (List.mem_filter.1 hy).2
      simp [hx] at this
    · rw [List.mem_append, List.mem_filter]
      constructor
      · intro h
        by_cases e : x ∈ W
        · exact .inl e
        · exact .inr ⟨h, by simp [e]⟩
      · rintro (h | h)
        · exact hWL x h
        · exact h.1
  have one : ∀ (V : Nat → Value) (L : List Nat), L.Nodup → (∀ j ∈ W, j ∈ L) → (∀ j ∈ L, j ∉ W → ∀ d, dstAt ops j = some d → d ∉ o.looksAt ops) →
      execOp (putAll ops V L a).eval o = execOp (putAll ops V W a).eval o ∧ Region.wanted o (yielded ops (putAll ops V L a).tmps) = Region.wanted o (yielded ops (putAll ops V W a).tmps) := by
    intro V L hL hWL hl
    rw [putAll_perm hd (split L hL hWL) a, putAll_append]
    have := putAll_same (P := default) (V := V) (ops := ops) hsel (L.filter (fun j => !W.contains j)) (putAll ops V W a) (fun j hj => by
      have h2 := List.mem_filter.1 hj
      exact hl j h2.1 (by simpa using h2.2))
    exact ⟨this.1, this.2.1⟩
  have h1 := one V L hL hWL hl
  have h2 := one V' M hM hWM hm
  rw [putAll_cong W a hVW] at h1
  exact ⟨h1.1.trans h2.1.symm, h1.2.trans h2.2.symm⟩

/-- Operation o, at the frame a, leaves a value and a world of R. -/
def LeadsV (P : Program) (n : Nat) (o : Oper) (a : Act) (R : Value → World → Prop) (w : World) : Prop :=
  match (execOp a.eval o).run P w with
  | .ok (.value u) w' => R u w'
  | .ok .skip w' => R undef w'
  | .ok (.enter f args) w' => CallsIn Fence.wide (n - 1) P f args w' fun e w'' => ∃ v, e = .returned v ∧ R v w''
  | _ => False

theorem LeadsV.mono {o : Oper} {a : Act} {R R' : Value → World → Prop} {w : World} (h : LeadsV P n o a R w) (hR : ∀ v w', R v w' → R' v w') : LeadsV P n o a R' w := by
  unfold LeadsV at h ⊢
  generalize (execOp a.eval o).run P w = r at h
  cases r with
  | ok x w' =>
    cases x <;> simp only at h ⊢
    case value u => exact hR _ _ h
    case skip => exact hR _ _ h
    case enter f args =>
      refine h.mono ?_
      rintro e w'' ⟨v, rfl, h2⟩
      exact ⟨v, rfl, hR _ _ h2⟩
  | halt x w' => exact h

/-- Which operations are listed, in a list. -/
def listOf (listed : Array Bool) (N : Nat) : List Nat := (List.range N).filter fun j => listed.getD j false

theorem mem_listOf {listed : Array Bool} {N j : Nat} : j ∈ listOf listed N ↔ j < N ∧ listed.getD j false = true := by
  unfold listOf
  rw [List.mem_filter, List.mem_range]
theorem nodup_listOf (listed : Array Bool) (N : Nat) : (listOf listed N).Nodup := List.nodup_range.filter _

/-- Every order, by what is listed. -/
theorem any_rel {Q : Exit → Act → World → Prop} {a0 : Act} {D : (Nat → Value) → Array Bool → World → Prop} (hs : seesW ops = true)
    (hop : ∀ i o V listed w, ops[i]? = some o → i ∈ Region.ready .any ops listed → Shut ops listed → D V listed w →
      if Region.wanted o (yielded ops (putAll ops V (List.range' 0 i) a0).tmps) = true then LeadsV P n o (putAll ops V (List.range' 0 i) a0) (fun v w' => D (fun j => if j = i then v else V j) (listed.setIfInBounds i true) w') w
      else D (fun j => if j = i then undef else V j) (listed.setIfInBounds i true) w)
    (hend : ∀ V listed w, listed.size = ops.size → Shut ops listed → D V listed w → (∀ j, j < ops.size → listed.getD j true = true) → Q .normal (putAll ops V (List.range ops.size) a0) w) :
    ∀ (fuel : Nat) (listed : Array Bool) (V : Nat → Value) (w : World), listed.size = ops.size → (listOf listed ops.size).length + fuel = ops.size → Shut ops listed → D V listed w →
      wpAnyIn Fence.wide n P .any ops Q fuel listed (putAll ops V (listOf listed ops.size) a0) w := by
  have hdd : ∀ i j d, i ≠ j → dstAt ops i = some d → dstAt ops j ≠ some d := by
    intro i j d hij hi hj
    unfold dstAt at hi
    cases ho : ops[i]? with
    | none => rw [ho] at hi; cases hi
    | some o =>
      rw [ho] at hi
      exact ((seesW_at hs ho).2.2.2 j d hj).1 hij hi
  have hfull : ∀ (listed : Array Bool), listed.size = ops.size → (∀ j, j < ops.size → listed.getD j true = true) → listOf listed ops.size = List.range ops.size := by
    intro listed hsz h
    unfold listOf
    rw [List.filter_eq_self]
    intro j hj
    have h1 := List.mem_range.1 hj
    have h2 := h j h1
    have : j < listed.size := by omega
    simp [this] at h2 ⊢
    exact h2
  intro fuel
  induction fuel with
  | zero =>
    intro listed V w hsz hlen hsh hD
    have hall : ∀ j, j < ops.size → listed.getD j true = true := by
      intro j hj
      have h1 : (listOf listed ops.size).length = (List.range ops.size).length := by rw [List.length_range]; omega
      have h2 : listOf listed ops.size = List.range ops.size := List.Sublist.eq_of_length List.filter_sublist h1
      have h3 : j ∈ listOf listed ops.size := by rw [h2]; exact List.mem_range.2 hj
      have h4 := (mem_listOf.1 h3).2
      have : j < listed.size := by omega
      simp [this] at h4 ⊢
      exact h4
    rw [hfull listed hsz hall]
    refine ⟨?_, hend V listed w hsz hsh hD hall⟩
    cases hr : Region.ready .any ops listed with
    | nil => rfl
    | cons x r =>
      have hx : x ∈ Region.ready .any ops listed := by rw [hr]; exact List.mem_cons_self
      have h1 := (mem_ready.1 hx).1
      have h2 := hall x (ready_lt hx)
      rw [h1] at h2
      cases h2
  | succ fuel ih =>
    intro listed V w hsz hlen hsh hD
    refine ⟨fun h0 => ?_, fun i hi => ?_⟩
    · -- the least one that is not yet listed may come up
      exfalso
      have hex : ∃ j, j < ops.size ∧ listed.getD j false = false := by
        refine Classical.byContradiction (fun hno => ?_)
        have : listOf listed ops.size = List.range ops.size := by
          unfold listOf
          rw [List.filter_eq_self]
          intro j hj
          cases hc : listed.getD j false with
          | true => rfl
          | false => exact absurd ⟨j, List.mem_range.1 hj, hc⟩ hno
        rw [this, List.length_range] at hlen
        omega
      have key : ∀ m, ∀ j, j < m → j < ops.size → listed.getD j false = false → False := by
        intro m
        induction m with
        | zero => intro j hj; omega
        | succ m ihm =>
          intro j hj hjs hl
          have hjl : j < listed.size := by omega
          have hr : j ∈ Region.ready .any ops listed := by
            refine mem_ready.2 ⟨by simp [hjl] at hl ⊢; exact hl, ops[j], Array.getElem?_eq_getElem hjs, fun e he hb => ?_⟩
            have hlt := (seesW_at hs (Array.getElem?_eq_getElem hjs)).1 e he hb
            cases hl2 : listed.getD e.on false with
            | true => rfl
            | false => exact (ihm e.on (by omega) (by omega) hl2).elim
          rw [h0] at hr; cases hr
      obtain ⟨j, hj, hj2⟩ := hex
      exact key (j + 1) j (by omega) hj hj2
    · obtain ⟨hl, o, ho, hall⟩ := mem_ready.1 hi
      have his : i < listed.size := by
        rcases Nat.lt_or_ge i listed.size with h | h
        · exact h
        · simp [Array.getElem?_eq_none h] at hl
      have hlf : listed.getD i false = false := by simp [his] at hl ⊢; exact hl
      obtain ⟨hlt, hsel, hdef, hsee⟩ := seesW_at hs ho
      have hwl : ∀ j, waitsOn o j = true → listed.getD j false = true ∧ j < i := by
        intro j hj
        obtain ⟨e, he, hb, rfl⟩ := waitsOn_iff.1 hj
        exact ⟨hall e he hb, hlt e he hb⟩
      have hsame := frames_same (V := V) (V' := V) hsel ((List.range i).filter (fun j => waitsOn o j)) (listOf listed ops.size) (List.range' 0 i) hdd
        (fun j hj => by
          have h1 := (List.mem_filter.1 hj)
          exact mem_listOf.2 ⟨by have := List.mem_range.1 h1.1; omega, (hwl j h1.2).1⟩)
        (fun j hj => by
          have h1 := (List.mem_filter.1 hj)
          have := List.mem_range.1 h1.1
          exact List.mem_range'_1.2 ⟨Nat.zero_le _, by omega⟩)
        (nodup_listOf _ _) List.nodup_range' (List.nodup_range.filter _) (fun _ _ => rfl)
        (fun j hj hn d hd hk => by
          obtain ⟨hj1, hj2⟩ := mem_listOf.1 hj
          rcases (hsee j d hd).2 hk with h1 | ⟨h1, p, hp, h2⟩
          · exact hn (List.mem_filter.2 ⟨List.mem_range.2 (hwl j h1).2, h1⟩)
          · obtain ⟨e, he, hb, rfl⟩ := waitsOn_iff.1 h2
            have := hsh j p hp hj2 e he hb
            rw [hlf] at this
            cases this)
        (fun j hj hn d hd hk => by
          have hj1 := (List.mem_range'_1.1 hj).2
          rcases (hsee j d hd).2 hk with h1 | ⟨h1, p, hp, h2⟩
          · exact hn (List.mem_filter.2 ⟨List.mem_range.2 (hwl j h1).2, h1⟩)
          · omega)
        a0
      have hdst : dstAt ops i = o.dst := by unfold dstAt; rw [ho]; rfl
      have hiN : i < ops.size := by omega
      have next : ∀ v w', D (fun j => if j = i then v else V j) (listed.setIfInBounds i true) w' → wpAnyIn Fence.wide n P .any ops Q fuel (listed.setIfInBounds i true) ((putAll ops V (listOf listed ops.size) a0).put o.dst v) w' := by
        intro v w' hD'
        have hperm : (listOf (listed.setIfInBounds i true) ops.size).Perm (listOf listed ops.size ++ [i]) := by
          refine (List.perm_ext_iff_of_nodup (nodup_listOf _ _) ?_).2 (fun x => ?_)
          · refine List.nodup_append.2 ⟨nodup_listOf _ _, by simp, ?_⟩
            rintro x hx y hy rfl
            rw [List.mem_singleton] at hy
            subst hy
            have := (mem_listOf.1 hx).2
            rw [hlf] at this; cases this
          · rw [List.mem_append, List.mem_singleton, mem_listOf, mem_listOf]
            by_cases e : i = x
            · subst e; simp [his, hiN]
            · rw [getD_set_ne false e]
              constructor
              · exact fun h => .inl h
              · rintro (h | h)
                · exact h
                · exact absurd h.symm e
        have hfr : (putAll ops V (listOf listed ops.size) a0).put o.dst v = putAll ops (fun j => if j = i then v else V j) (listOf (listed.setIfInBounds i true) ops.size) a0 := by
          rw [putAll_perm hdd hperm a0, putAll_append]
          show _ = (putAll ops _ (listOf listed ops.size) a0).put (dstAt ops i) (if i = i then v else V i)
          rw [if_pos rfl, hdst]
          congr 1
          refine putAll_cong _ _ (fun j hj => ?_)
          have hne : j ≠ i := by
            rintro rfl
            have := (mem_listOf.1 hj).2
            rw [hlf] at this; cases this
          rw [if_neg hne]
        rw [hfr]
        refine ih _ _ w' (by simp [hsz]) ?_ (hsh.set hi) hD'
        rw [hperm.length_eq, List.length_append, List.length_singleton]
        omega
      have hL := hop i o V listed w ho hi hsh hD
      unfold wpOpIn
      simp only [ho]
      rw [hsame.2]
      by_cases hw : Region.wanted o (yielded ops (putAll ops V (List.range' 0 i) a0).tmps) = true
      · rw [if_pos hw] at hL ⊢
        unfold LeadsV at hL
        rw [← hsame.1] at hL
        unfold Oper.wpIn
        refine ⟨fun _ _ => trivial, ?_⟩
        rw [Oper.semAt_plain _ _ _ hdef]
        generalize (execOp (putAll ops V (listOf listed ops.size) a0).eval o).run P w = r at hL
        cases r with
        | ok x w' =>
          cases x <;> simp only at hL <;> simp only [Oper.uponIn]
          case value u => exact next _ _ hL
          case skip => exact next _ _ hL
          case enter f args =>
            refine ⟨fun h => absurd h (by decide), hL.mono ?_⟩
            rintro e w'' ⟨v, rfl, h⟩
            exact next _ _ h
        | halt x w' => exact hL.elim
      · rw [if_neg hw] at hL ⊢
        exact ⟨fun _ _ => trivial, next _ _ hL⟩
end

/-- It calls no Go function. -/
def plainE (o : Oper) : Bool := match o.op with
  | .slice .. | .build .. | .unOp .. | .pick .. | .extract .. => true
  | _ => plainOp o
theorem plainE_noEnter {P : Program} {o : Oper} (h : plainE o = true) {ρ : Operand → Value} {w w' : World} {f : FuncId} {args : Array Value} : (execOp ρ o).run P w ≠ .ok (.enter f args) w' := by
  unfold plainE at h
  split at h
  all_goals try (rename_i hop; unfold execOp; simp only [hop])
  all_goals first
    | exact bindValue_noEnter
    | (simp; done)
    | (exact plainOp_noEnter h)
    | skip
  rw [Sem.run_bind]
  generalize (asBool _).run P w = r
  cases r with
  | ok v w1 => simp [Result.andThen]
  | halt x w1 => simp [Result.andThen]

section
variable {P : Program} {n : Nat}

/-- The values of the loud ones. -/
def loudVals (mask : Nat → Bool) (u : Nat → Value) (N : Nat) : List (Option Value) := (List.range N).map fun i => if mask i = true then some (u i) else none
theorem loudVals_at (mask : Nat → Bool) (u : Nat → Value) (N i : Nat) (hi : i < N) : (loudVals mask u N)[i]? = some (if mask i = true then some (u i) else none) := by
  unfold loudVals
  rw [List.getElem?_map, List.getElem?_range hi]
  rfl
/-- What is asked of the operations. -/
def quietB (mask : Nat → Bool) (l : List Oper) : Bool := (List.range l.length).all fun i => match l[i]? with
  | none => true
  | some o => if mask i then o.guard.isNone && ((List.range l.length).all fun j => match dstAt l.toArray j with
      | none => true
      | some d => !(o.looksAt l.toArray).contains d || waitsOn o j) else plainE o

/-- **The law.** mask: which operations are loud; Inv: what holds when some of them have come up, by their values; C: what the others lean on. -/
theorem any_loudE {l : List Oper} {mask : Nat → Bool} {Q : Exit → Act → World → Prop} {a : Act} {w : World} {C : World → Prop} {Inv : (Nat → Bool) → (Nat → Value) → World → Prop}
    (hs : seesW l.toArray = true) (hqb : quietB mask l = true) (hIC : ∀ d u w, Inv d u w → C w) (h0 : ∀ u, Inv (fun _ => false) u w)
    (hq : ∀ u, wpQuietIn Fence.wide n P (hush (loudVals mask u l.length) l).toArray C (fun a' =>
      (∀ i o d w, l[i]? = some o → mask i = true → d i = false → (∀ j, mask j = true → waitsOn o j = true → d j = true) → Inv d u w → LeadsV P n o a' (fun v w' => Inv (fun j => if j = i then true else d j) (fun j => if j = i then v else u j) w') w) ∧
      ∀ d w', (∀ j, mask j = true → j < l.length → d j = true) → Inv d u w' → Q .normal a' w') (hush (loudVals mask u l.length) l) a) :
    wpAnyIn Fence.wide n P .any l.toArray Q l.length (Array.replicate l.length false) a w := by
  have hCw : C w := hIC _ _ _ (h0 (fun _ => undef))
  have hdd : ∀ i j d, i ≠ j → dstAt l.toArray i = some d → dstAt l.toArray j ≠ some d := by
    intro i j d hij hi hj
    unfold dstAt at hi
    cases ho : l.toArray[i]? with
    | none => rw [ho] at hi; cases hi
    | some o =>
      rw [ho] at hi
      exact ((seesW_at hs ho).2.2.2 j d hj).1 hij hi
  -- the lexical walk for given values of the loud ones
  have hlex : ∀ u : Nat → Value, ∃ V : Nat → Value, (∀ i, i < l.length → mask i = true → V i = u i) ∧
      (∀ i o, l[i]? = some o → mask i = false → YieldsQuiet Fence.wide n P l.toArray C o (V i) (putAll l.toArray V (List.range' 0 i) a)) ∧
      (∀ i o d w, l[i]? = some o → mask i = true → d i = false → (∀ j, mask j = true → waitsOn o j = true → d j = true) → Inv d u w → LeadsV P n o (putAll l.toArray V (List.range l.length) a) (fun v w' => Inv (fun j => if j = i then true else d j) (fun j => if j = i then v else u j) w') w) ∧
      ∀ d w', (∀ j, mask j = true → j < l.length → d j = true) → Inv d u w' → Q .normal (putAll l.toArray V (List.range l.length) a) w' := by
    intro u
    obtain ⟨V, ⟨hloud, hend⟩, hV⟩ := lex_final (hush (loudVals mask u l.length) l) 0 a (fun j => by simp) (hq u)
    rw [hush_put] at hloud hend
    have hrange : List.range' 0 (hush (loudVals mask u l.length) l).length = List.range l.length := by rw [hush_length, List.range_eq_range']
    rw [hrange] at hloud hend
    refine ⟨V, fun i hi hm => ?_, fun i o ho hm => ?_, hloud, hend⟩
    · have hat : (hush (loudVals mask u l.length) l)[i]? = some { l[i] with op := .assign (.const (u i)) } := by
        rw [hush_at, List.getElem?_eq_getElem hi, loudVals_at _ _ _ _ hi, if_pos hm]; rfl
      have hy := hV i _ hat
      rw [Nat.zero_add] at hy
      have hg : l[i].guard = none := by
        have := List.all_eq_true.1 hqb i (List.mem_range.2 hi)
        rw [List.getElem?_eq_getElem hi] at this
        simp only [hm, if_true, Bool.and_eq_true] at this
        simpa using this.1
      rcases hy.2 with ⟨_, h1⟩ | ⟨h1, _⟩
      · have := h1 w hCw
        simp [Oper.quietAtIn, execOp, Oper.quietUponIn, Act.eval] at this
        exact this.symm
      · simp [Region.wanted, hg] at h1
    · have hi : i < l.length := (List.getElem?_eq_some_iff.1 ho).1
      have hat : (hush (loudVals mask u l.length) l)[i]? = some o := by
        rw [hush_at, ho, loudVals_at _ _ _ _ hi, if_neg (by rw [hm]; simp)]; rfl
      have hy := hV i _ hat
      rw [Nat.zero_add, hush_put] at hy
      unfold YieldsQuiet at hy ⊢
      rw [hush_yielded] at hy
      exact hy
  -- one value alone
  have hdet : ∀ (o : Oper) (v v' : Value) (b b' : Act), plainE o = true → execOp b.eval o = execOp b'.eval o → Region.wanted o (yielded l.toArray b.tmps) = Region.wanted o (yielded l.toArray b'.tmps) →
      YieldsQuiet Fence.wide n P l.toArray C o v b → YieldsQuiet Fence.wide n P l.toArray C o v' b' → v = v' := by
    intro o v v' b b' hp he hw h h'
    rcases h.2 with ⟨hw1, h1⟩ | ⟨hw1, h1⟩
    · rcases h'.2 with ⟨hw2, h2⟩ | ⟨hw2, h2⟩
      · have q1 := h1 w hCw
        have q2 := h2 w hCw
        unfold Oper.quietAtIn at q1 q2
        rw [← he] at q2
        generalize hr : (execOp b.eval o).run P w = r at q1 q2
        cases r with
        | ok x w' =>
          cases x <;> simp only [Oper.quietUponIn] at q1 q2
          case value x => exact q1.2.symm.trans q2.2
          case skip => exact q1.2.trans q2.2.symm
          case enter f args => exact absurd hr (plainE_noEnter hp)
        | halt x w' => simp only [Oper.quietUponIn] at q1
      · rw [hw, hw2] at hw1; cases hw1
    · rcases h'.2 with ⟨hw2, h2⟩ | ⟨hw2, h2⟩
      · rw [hw, hw2] at hw1; cases hw1
      · rw [h1, h2]
  have hplain : ∀ i o, l[i]? = some o → mask i = false → plainE o = true := by
    intro i o ho hm
    have hi : i < l.length := (List.getElem?_eq_some_iff.1 ho).1
    have := List.all_eq_true.1 hqb i (List.mem_range.2 hi)
    rw [ho] at this
    simpa [hm] using this
  -- the frames that an operation sees, by two lists of values that agree where it waits
  have hpre : ∀ i o (V V' : Nat → Value), l[i]? = some o → (∀ j, waitsOn o j = true → V j = V' j) →
      execOp (putAll l.toArray V (List.range' 0 i) a).eval o = execOp (putAll l.toArray V' (List.range' 0 i) a).eval o ∧ Region.wanted o (yielded l.toArray (putAll l.toArray V (List.range' 0 i) a).tmps) = Region.wanted o (yielded l.toArray (putAll l.toArray V' (List.range' 0 i) a).tmps) := by
    intro i o V V' ho hV
    have ho' : l.toArray[i]? = some o := by simpa using ho
    obtain ⟨hlt, hsel, _, hsee⟩ := seesW_at hs ho'
    have hw : ∀ j, waitsOn o j = true → j < i := fun j hj => by
      obtain ⟨e, he, hb, rfl⟩ := waitsOn_iff.1 hj
      exact hlt e he hb
    have hrest : ∀ j ∈ List.range' 0 i, j ∉ (List.range i).filter (fun j => waitsOn o j) → ∀ d, dstAt l.toArray j = some d → d ∉ o.looksAt l.toArray := fun j hj hn d hd hk => by
      have hj1 := (List.mem_range'_1.1 hj).2
      rcases (hsee j d hd).2 hk with h1 | ⟨h1, _⟩
      · exact hn (List.mem_filter.2 ⟨List.mem_range.2 (hw j h1), h1⟩)
      · omega
    have hin : ∀ j ∈ (List.range i).filter (fun j => waitsOn o j), j ∈ List.range' 0 i := fun j hj => by
      have := List.mem_range.1 (List.mem_filter.1 hj).1
      exact List.mem_range'_1.2 ⟨Nat.zero_le _, by omega⟩
    exact frames_same hsel ((List.range i).filter (fun j => waitsOn o j)) _ _ hdd hin hin List.nodup_range' List.nodup_range' (List.nodup_range.filter _) (fun j hj => hV j (List.mem_filter.1 hj).2) hrest hrest a
  -- what holds of the values when some are listed
  have hsame : ∀ (V V' : Nat → Value) (listed : Array Bool), Shut l.toArray listed → (∀ i, mask i = true → listed.getD i false = true → i < l.length → V i = V' i) →
      (∀ i o, l[i]? = some o → mask i = false → listed.getD i false = true → YieldsQuiet Fence.wide n P l.toArray C o (V i) (putAll l.toArray V (List.range' 0 i) a)) →
      (∀ i o, l[i]? = some o → mask i = false → YieldsQuiet Fence.wide n P l.toArray C o (V' i) (putAll l.toArray V' (List.range' 0 i) a)) →
      ∀ i, i < l.length → listed.getD i false = true → V i = V' i := by
    intro V V' listed hsh hm hy hy' i
    induction i using Nat.strongRecOn with
    | _ i ih =>
      intro hi hl
      cases hmi : mask i with
      | true => exact hm i hmi hl hi
      | false =>
        have ho : l[i]? = some l[i] := List.getElem?_eq_getElem hi
        have ho' : l.toArray[i]? = some l[i] := by simp
        have hp := hpre i l[i] V V' ho (fun j hj => by
          obtain ⟨e, he, hb, rfl⟩ := waitsOn_iff.1 hj
          have h1 := (seesW_at hs ho').1 e he hb
          exact ih e.on h1 (by omega) (hsh i _ ho' hl e he hb))
        exact hdet l[i] _ _ _ _ (hplain i _ ho hmi) hp.1 hp.2 (hy i _ ho hmi hl) (hy' i _ ho hmi)
  -- the state
  have key := any_rel (P := P) (n := n) (ops := l.toArray) (Q := Q) (a0 := a) (D := fun V listed w => Inv (fun j => mask j && listed.getD j false) (fun j => if mask j = true then V j else undef) w ∧
      ∀ i o, l[i]? = some o → mask i = false → listed.getD i false = true → YieldsQuiet Fence.wide n P l.toArray C o (V i) (putAll l.toArray V (List.range' 0 i) a)) hs ?_ ?_ l.length (Array.replicate l.length false) (fun _ => undef) w (by simp) ?_ ?_ ?_
  · have e : listOf (Array.replicate l.length false) l.toArray.size = [] := by
      unfold listOf
      rw [List.filter_eq_nil_iff]
      intro j _
      rw [getD_replicate_f]; simp
    rw [e] at key
    exact key
  · intro i o V listed w1 ho hi hsh hD
    obtain ⟨hI, hY⟩ := hD
    have ho' : l[i]? = some o := by simpa using ho
    have hil : i < l.length := (List.getElem?_eq_some_iff.1 ho').1
    obtain ⟨hl, o2, ho2, hall⟩ := mem_ready.1 hi
    obtain rfl : o = o2 := Option.some.inj (ho.symm.trans ho2)
    have hlf := getD_true_false hl
    obtain ⟨V2, hm2, hy2, hloud2, _⟩ := hlex (fun j => if mask j = true then V j else undef)
    have hag := hsame V V2 listed hsh (fun j hj _ hjl => by have := hm2 j hjl hj; rw [if_pos hj] at this; exact this.symm) hY hy2
    obtain ⟨hlt, hsel, _, hsee⟩ := seesW_at hs ho
    have hwt : ∀ j, waitsOn o j = true → listed.getD j false = true ∧ j < i := fun j hj => by
      obtain ⟨e, he, hb, rfl⟩ := waitsOn_iff.1 hj
      exact ⟨hall e he hb, hlt e he hb⟩
    have hp := hpre i o V V2 ho' (fun j hj => hag j (by have := (hwt j hj).2; omega) (hwt j hj).1)
    -- what was shown of the quiet ones stays
    have hstay : ∀ (v : Value), ∀ k p, l[k]? = some p → mask k = false → listed.getD k false = true → YieldsQuiet Fence.wide n P l.toArray C p ((fun j => if j = i then v else V j) k) (putAll l.toArray (fun j => if j = i then v else V j) (List.range' 0 k) a) := by
      intro v k p hk hmk hlk
      have hne : k ≠ i := by rintro rfl; rw [hlf] at hlk; cases hlk
      show YieldsQuiet _ _ _ _ _ _ (if k = i then v else V k) _
      rw [if_neg hne]
      have hk' : l.toArray[k]? = some p := by simpa using hk
      have hpk := hpre k p V (fun j => if j = i then v else V j) hk (fun j hj => by
        obtain ⟨e, he, hb, rfl⟩ := waitsOn_iff.1 hj
        have := hsh k p hk' hlk e he hb
        have hne2 : e.on ≠ i := by intro e2; rw [e2, hlf] at this; cases this
        rw [if_neg hne2])
      have hyk := hY k p hk hmk hlk
      unfold YieldsQuiet Oper.quietAtIn at hyk ⊢
      rw [← hpk.1, ← hpk.2]
      exact ⟨fun _ _ _ _ => trivial, hyk.2⟩
    cases hmi : mask i with
    | false =>
      have hyi := hy2 i o ho' hmi
      -- the mask does not see it
      have hdm : (fun j => mask j && (listed.setIfInBounds i true).getD j false) = (fun j => mask j && listed.getD j false) := by
        funext j
        by_cases e : i = j
        · subst e; rw [hmi]; rfl
        · rw [getD_set_ne false e]
      have hdv : (fun j => if mask j = true then (fun j => if j = i then V2 i else V j) j else undef) = (fun j => if mask j = true then V j else undef) := by
        funext j
        by_cases e : j = i
        · subst e; rw [hmi]; rfl
        · simp only [if_neg e]
      have fin : (Inv (fun j => mask j && (listed.setIfInBounds i true).getD j false) (fun j => if mask j = true then (fun j => if j = i then V2 i else V j) j else undef) w1 ∧
          ∀ k p, l[k]? = some p → mask k = false → (listed.setIfInBounds i true).getD k false = true → YieldsQuiet Fence.wide n P l.toArray C p ((fun j => if j = i then V2 i else V j) k) (putAll l.toArray (fun j => if j = i then V2 i else V j) (List.range' 0 k) a)) := by
        refine ⟨by rw [hdm, hdv]; exact hI, fun k p hk hmk hlk => ?_⟩
        by_cases e : i = k
        · subst e
          obtain rfl : o = p := Option.some.inj (ho'.symm.trans hk)
          show YieldsQuiet _ _ _ _ _ _ (if i = i then V2 i else V i) _
          rw [if_pos rfl]
          have hpk := hpre i o V2 (fun j => if j = i then V2 i else V j) hk (fun j hj => by
            have hne2 : j ≠ i := by have := (hwt j hj).2; omega
            rw [if_neg hne2]
            exact (hag j (by have := (hwt j hj).2; omega) (hwt j hj).1).symm)
          unfold YieldsQuiet Oper.quietAtIn at hyi ⊢
          rw [← hpk.1, ← hpk.2]
          exact ⟨fun _ _ _ _ => trivial, hyi.2⟩
        · rw [getD_set_ne false e] at hlk
          exact hstay _ k p hk hmk hlk
      have hC1 := hIC _ _ _ hI
      rcases hyi.2 with ⟨hw, h1⟩ | ⟨hw, h1⟩
      · rw [hp.2, if_pos hw]
        unfold LeadsV
        rw [hp.1]
        have h2 := h1 w1 hC1
        unfold Oper.quietAtIn at h2
        generalize hrun : (execOp (putAll l.toArray V2 (List.range' 0 i) a).eval o).run P w1 = r at h2
        cases r with
        | ok x w' =>
          cases x <;> simp only [Oper.quietUponIn] at h2
          case value x => obtain ⟨rfl, rfl⟩ := h2; exact fin
          case skip => obtain ⟨rfl, h3⟩ := h2; rw [h3] at fin; exact fin
          case enter f args => exact absurd hrun (plainE_noEnter (hplain i o ho' hmi))
        | halt x w' => simp only [Oper.quietUponIn] at h2
      · rw [hp.2, if_neg (by rw [hw]; simp)]
        rw [h1] at fin
        exact fin
    | true =>
      have hq2 := List.all_eq_true.1 hqb i (List.mem_range.2 hil)
      rw [ho'] at hq2
      simp only [hmi, if_true, Bool.and_eq_true] at hq2
      have hg : o.guard = none := by simpa using hq2.1
      have hw : Region.wanted o (yielded l.toArray (putAll l.toArray V (List.range' 0 i) a).tmps) = true := by simp [Region.wanted, hg]
      rw [if_pos hw]
      have hld := hloud2 i o (fun j => mask j && listed.getD j false) w1 ho' hmi (by simp [hlf]) (fun j hj hwj => by simp [hj, (hwt j hwj).1]) hI
      -- the whole frame, and the one ahead of it
      have hfr := frames_same (V := V) (V' := V2) hsel ((List.range i).filter (fun j => waitsOn o j)) (List.range' 0 i) (List.range l.length) hdd
        (fun j hj => by
          have := List.mem_range.1 (List.mem_filter.1 hj).1
          exact List.mem_range'_1.2 ⟨Nat.zero_le _, by omega⟩)
        (fun j hj => by
          have := List.mem_range.1 (List.mem_filter.1 hj).1
          exact List.mem_range.2 (by omega))
        List.nodup_range' List.nodup_range (List.nodup_range.filter _)
        (fun j hj => by
          have h1 := List.mem_filter.1 hj
          exact hag j (by have := List.mem_range.1 h1.1; omega) (hwt j h1.2).1)
        (fun j hj hn d hd hk => by
          rcases (hsee j d hd).2 hk with h1 | ⟨h1, _⟩
          · exact hn (List.mem_filter.2 ⟨List.mem_range.2 (hwt j h1).2, h1⟩)
          · have := (List.mem_range'_1.1 hj).2; omega)
        (fun j hj hn d hd hk => by
          have := List.all_eq_true.1 hq2.2 j hj
          rw [hd] at this
          simp only [Bool.or_eq_true] at this
          rcases this with h1 | h1
          · have h5 : (o.looksAt l.toArray).contains d = false := by simpa using h1
            rw [List.contains_eq_mem, decide_eq_false_iff_not] at h5
            exact h5 hk
          · exact hn (List.mem_filter.2 ⟨List.mem_range.2 (hwt j h1).2, h1⟩))
        a
      have hld2 : LeadsV P n o (putAll l.toArray V (List.range' 0 i) a) (fun v w' => Inv (fun j => if j = i then true else mask j && listed.getD j false) (fun j => if j = i then v else (if mask j = true then V j else undef)) w') w1 := by
        unfold LeadsV at hld ⊢
        rw [hfr.1]
        exact hld
      refine hld2.mono (fun v w' hI' => ⟨?_, fun k p hk hmk hlk => ?_⟩)
      · have hdm : (fun j => mask j && (listed.setIfInBounds i true).getD j false) = (fun j => if j = i then true else mask j && listed.getD j false) := by
          funext j
          by_cases e : i = j
          · subst e
            have his : i < listed.size := by
              rcases Nat.lt_or_ge i listed.size with h | h
              · exact h
              · simp [Array.getElem?_eq_none h] at hl
            rw [hmi, getD_set_self his, if_pos rfl]; rfl
          · rw [getD_set_ne false e, if_neg (fun h => e h.symm)]
        have hdv : (fun j => if mask j = true then (fun j => if j = i then v else V j) j else undef) = (fun j => if j = i then v else (if mask j = true then V j else undef)) := by
          funext j
          by_cases e : j = i
          · subst e; simp only [hmi, if_true]
          · simp only [if_neg e]
        rw [hdm, hdv]
        exact hI'
      · have hne : i ≠ k := by rintro rfl; rw [hmi] at hmk; cases hmk
        rw [getD_set_ne false hne] at hlk
        exact hstay v k p hk hmk hlk
  · intro V listed w1 hsz hsh hD hall
    obtain ⟨hI, hY⟩ := hD
    have hlt : ∀ j, j < l.length → listed.getD j false = true := fun j hj => getD_true_in (by rw [hsz]; simpa using hj) (hall j (by simpa using hj))
    obtain ⟨V2, hm2, hy2, _, hend2⟩ := hlex (fun j => if mask j = true then V j else undef)
    have hag := hsame V V2 listed hsh (fun j hj _ hjl => by have := hm2 j hjl hj; rw [if_pos hj] at this; exact this.symm) hY hy2
    have hfr : putAll l.toArray V (List.range l.toArray.size) a = putAll l.toArray V2 (List.range l.length) a := by
      rw [List.size_toArray]
      exact putAll_cong _ _ (fun j hj => hag j (List.mem_range.1 hj) (hlt j (List.mem_range.1 hj)))
    rw [hfr]
    exact hend2 _ w1 (fun j hj hjl => by simp [hj, hlt j hjl]) hI
  · have e : listOf (Array.replicate l.length false) l.toArray.size = [] := by
      unfold listOf
      rw [List.filter_eq_nil_iff]
      intro j _
      rw [getD_replicate_f]; simp
    rw [e]
    simp
  · intro j o _ hl
    rw [getD_replicate_f] at hl
    cases hl
  · have e : (fun j => mask j && (Array.replicate l.length false).getD j false) = (fun _ => false) := by
      funext j
      rw [getD_replicate_f, Bool.and_false]
    refine ⟨by rw [e]; exact h0 _, fun i o _ _ hl => ?_⟩
    rw [getD_replicate_f] at hl
    cases hl

/-- The loud ones hushed, one by one. -/
def hushE (mask : Nat → Bool) (u : Nat → Value) : Nat → List Oper → List Oper
  | _, [] => []
  | i, o :: r => (if mask i = true then { o with op := .assign (.const (u i)) } else o) :: hushE mask u (i + 1) r
theorem hushE_eq (mask : Nat → Bool) (u : Nat → Value) : ∀ (l : List Oper) (i : Nat), hushE mask u i l = hush ((List.range' i l.length).map fun i => if mask i = true then some (u i) else none) l
  | [], _ => by simp [hushE, hush]
  | o :: r, i => by
    rw [hushE, List.length_cons, List.range'_succ, List.map_cons, hushE_eq mask u r (i + 1)]
    cases mask i <;> rfl
theorem hushE_vals (mask : Nat → Bool) (u : Nat → Value) (l : List Oper) : hushE mask u 0 l = hush (loudVals mask u l.length) l := by
  rw [hushE_eq]
  unfold loudVals
  rw [List.range_eq_range']

/-- What is asked behind the quiet walk. -/
def LoudPost (P : Program) (n : Nat) (l : List Oper) (mask : Nat → Bool) (Q : Exit → Act → World → Prop) (Inv : (Nat → Bool) → (Nat → Value) → World → Prop) (u : Nat → Value) (a' : Act) : Prop :=
  (∀ i o d w, l[i]? = some o → mask i = true → d i = false → (∀ j, mask j = true → waitsOn o j = true → d j = true) → Inv d u w → LeadsV P n o a' (fun v w' => Inv (fun j => if j = i then true else d j) (fun j => if j = i then v else u j) w') w) ∧
      ∀ d w', (∀ j, mask j = true → j < l.length → d j = true) → Inv d u w' → Q .normal a' w'
/-- The same of a statement, in a round or not. -/
theorem region_loudE {id : Nat} {l : List Oper} (mask : Nat → Bool) (C : World → Prop) (Inv : (Nat → Bool) → (Nat → Value) → World → Prop) {Q : Exit → Act → World → Prop} {a : Act} {w : World} (hm : P.follows .mixedOrders = true)
    (hs : seesW l.toArray = true) (hqb : quietB mask l = true) (hIC : ∀ d u w, Inv d u w → C w) (h0 : ∀ u, Inv (fun _ => false) u w.drew)
    (hq : ∀ u, wpQuietIn Fence.wide n P (hushE mask u 0 l).toArray C (LoudPost P n l mask Q Inv u) (hushE mask u 0 l) a) :
    (Code.region id l.toArray true).wpIn Fence.wide n P Q a w := by
  refine wpIn_region_any hm ?_
  have := any_loudE (Q := Q) (w := w.drew) hs hqb hIC h0 (fun u => by have := hq u; rw [hushE_vals] at this; exact this)
  simpa using this
/-- A world in which only blocks of S have turned. -/
structure AfterB (S : Blk) (w : World) where
  val : World
  chg : Chg S w val
theorem AfterB.any (S : Blk) (w : World) : Nonempty (AfterB S w) := ⟨⟨w, Chg.refl _ w⟩⟩
theorem AfterB.cell {S : Blk} {w : World} (a : AfterB S w) {p : Addr} {v : Value} (h : w.cell? p = some v) (hp : ¬ S p.block) : a.val.cell? p = some v :=
  (World.cell?_of_block (a := p) (a.chg.block p.block (World.block_lt_of_cell? w _ h) hp)).trans h

/-- A call of a Go function, loud. -/
theorem LeadsV.call {o : Oper} {a : Act} {R : Value → World → Prop} {w : World} {f : FuncId} {args : Array Value} (hrun : (execOp a.eval o).run P w = .ok (.enter f args) w) (h : CallsIn Fence.wide (n - 1) P f args w fun e w'' => ∃ v, e = .returned v ∧ R v w'') : LeadsV P n o a R w := by
  unfold LeadsV
  rw [hrun]
  exact h
theorem LeadsV.value {o : Oper} {a : Act} {R : Value → World → Prop} {w w' : World} {v : Value} (hrun : (execOp a.eval o).run P w = .ok (.value v) w') (h : R v w') : LeadsV P n o a R w := by
  unfold LeadsV
  rw [hrun]
  exact h
theorem LeadsV.skip {o : Oper} {a : Act} {R : Value → World → Prop} {w w' : World} (hrun : (execOp a.eval o).run P w = .ok .skip w') (h : R undef w') : LeadsV P n o a R w := by
  unfold LeadsV
  rw [hrun]
  exact h
end
end Go.SeqLib
