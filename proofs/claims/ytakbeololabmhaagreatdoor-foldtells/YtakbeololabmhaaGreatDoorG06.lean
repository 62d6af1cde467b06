/-
  Of: Loud, Quiet.
-/
import Derived.Sort.QuietThIn
import Derived.OwnWalkIn
import Derived.Test.YtakbeololabmhaaGreatDoorG01
section
-- Loud
namespace Go.SeqLib
open Go

theorem oper_inRound {n r : Nat} {P : Program} {o : Oper} {a : Act} {w : World} {K : Act → World → Prop} {Q : Exit → Act → World → Prop} (h : ∀ c, o.op ≠ .defer c) (hw : Oper.wpIn Fence.wide n P o a w K Q) : Oper.wpIn (Fence.wide.inRound r) n P o a w K Q := by
  unfold Oper.wpIn at hw ⊢
  rw [Oper.semAt_plain _ _ _ h] at hw ⊢
  exact hw

/-- No operation of it defers a call. -/
def noDefer (ops : Array Oper) : Bool := ops.all fun o => match o.op with
  | .defer _ => false
  | _ => true
theorem noDefer_at {ops : Array Oper} (h : noDefer ops = true) {i : Nat} {o : Oper} (ho : ops[i]? = some o) : ∀ c, o.op ≠ .defer c := by
  obtain ⟨hi, rfl⟩ := Array.getElem?_eq_some_iff.1 ho
  intro c hc
  have := (Array.all_eq_true.1 h) i hi
  rw [hc] at this
  cases this

theorem any_inRound {n r : Nat} {P : Program} {md : Region.Mode} {ops : Array Oper} {Q : Exit → Act → World → Prop} (h : noDefer ops = true) :
    ∀ (fuel : Nat) (listed : Array Bool) (a : Act) (w : World), wpAnyIn Fence.wide n P md ops Q fuel listed a w → wpAnyIn (Fence.wide.inRound r) n P md ops Q fuel listed a w := by
  intro fuel
  induction fuel with
  | zero => intro listed a w hw; exact hw
  | succ fuel ih =>
    intro listed a w hw
    refine ⟨hw.1, fun i hi => ?_⟩
    have h1 := hw.2 i hi
    unfold wpOpIn at h1 ⊢
    cases ho : ops[i]? with
    | none =>
      simp only [ho] at h1 ⊢
      exact ih _ _ _ h1
    | some o =>
      simp only [ho] at h1 ⊢
      by_cases hwant : Region.wanted o (yielded ops a.tmps) = true
      · rw [if_pos hwant] at h1 ⊢
        exact oper_inRound (noDefer_at h ho) (Oper.wpIn_mono (fun a' w' h' => ih _ _ _ h') h1)
      · rw [if_neg hwant] at h1 ⊢
        exact ⟨h1.1, ih _ _ _ h1.2⟩

/-- Where operation i leaves its value. -/
def dstAt (ops : Array Oper) (i : Nat) : Option Tmp := (ops[i]?).bind (·.dst)
/-- The values of these operations, laid. -/
def putAll (ops : Array Oper) (V : Nat → Value) : List Nat → Act → Act
  | [], a => a
  | i :: L, a => putAll ops V L (a.put (dstAt ops i) (V i))

/-- Operation i waits for operation j. -/
def waitsOn (o : Oper) (j : Nat) : Bool := o.after.any fun e => Region.binds .any e && e.on == j
/-- Each operation waits for those whose values it looks at; they come ahead of it; no two leave their values at one place. -/
def seesB (ops : Array Oper) : Bool := (List.range ops.size).all fun i => match ops[i]? with
  | none => false
  | some o => (o.after.all fun e => decide (e.on < i)) && (match o.op with | .select .. => false | .defer _ => false | _ => true) &&
      (List.range ops.size).all fun j => match dstAt ops j with
        | none => true
        | some d => (i == j || o.dst != some d) && (!(o.looksAt ops).contains d || waitsOn o j)

section
variable {P : Program} {ops : Array Oper} {n : Nat}

theorem sees_at (hs : seesB ops = true) {i : Nat} {o : Oper} (ho : ops[i]? = some o) :
    (∀ e ∈ o.after, e.on < i) ∧ (∀ cs b, o.op ≠ .select cs b) ∧ (∀ c, o.op ≠ .defer c) ∧
    (∀ j d, dstAt ops j = some d → (i ≠ j → o.dst ≠ some d) ∧ (d ∈ o.looksAt ops → ∃ e ∈ o.after, Region.binds .any e = true ∧ e.on = j)) := by
  have hi : i < ops.size := (Array.getElem?_eq_some_iff.1 ho).1
  have h := List.all_eq_true.1 hs i (List.mem_range.2 hi)
  simp only [ho, Bool.and_eq_true] at h
  obtain ⟨⟨h1, h2⟩, h3⟩ := h
  refine ⟨fun e he => ?_, fun cs b hc => ?_, fun c hc => ?_, fun j d hd => ?_⟩
  · have := Array.all_eq_true_iff_forall_mem.1 h1 e he
    simpa using this
  · rw [hc] at h2; cases h2
  · rw [hc] at h2; cases h2
  · have hj : j < ops.size := by
      unfold dstAt at hd
      rcases Nat.lt_or_ge j ops.size with h | h
      · exact h
      · rw [Array.getElem?_eq_none h] at hd; cases hd
    have := List.all_eq_true.1 h3 j (List.mem_range.2 hj)
    simp only [hd, Bool.and_eq_true, Bool.or_eq_true] at this
    refine ⟨fun hne => ?_, fun hl => ?_⟩
    · rcases this.1 with h4 | h4
      · exact absurd (by simpa using h4) hne
      · simpa using h4
    · rcases this.2 with h4 | h4
      · have h5 : (o.looksAt ops).contains d = false := by simpa using h4
        rw [List.contains_eq_mem, decide_eq_false_iff_not] at h5
        exact absurd hl h5
      · obtain ⟨e, he, hb⟩ := Array.any_eq_true'.1 h4
        simp only [Bool.and_eq_true, beq_iff_eq] at hb
        exact ⟨e, he, hb.1, hb.2⟩

/-- What an operation does hangs on what it looks at alone. -/
theorem putAll_same {V : Nat → Value} {o : Oper} (hsel : ∀ cs b, o.op ≠ .select cs b) : ∀ (U : List Nat) (a : Act), (∀ j ∈ U, ∀ d, dstAt ops j = some d → d ∉ o.looksAt ops) →
    execOp (putAll ops V U a).eval o = execOp a.eval o ∧ Region.wanted o (yielded ops (putAll ops V U a).tmps) = Region.wanted o (yielded ops a.tmps) ∧ ∀ w, o.about P w (putAll ops V U a).eval = o.about P w a.eval
  | [], a, _ => ⟨rfl, rfl, fun _ => rfl⟩
  | j :: U, a, h => by
    obtain ⟨h1, h2, h3⟩ := putAll_same hsel U (a.put (dstAt ops j) (V j)) (fun k hk => h k (List.mem_cons_of_mem _ hk))
    have hj := h j List.mem_cons_self
    exact ⟨h1.trans (execOp_put (ops := ops) o hsel a _ _ hj), h2.trans (wanted_put (ops := ops) o a _ _ hj), fun w => (h3 w).trans (about_put (ops := ops) o w a _ _ hj)⟩

theorem putAll_erase {V : Nat → Value} (hd : ∀ i j d, i ≠ j → dstAt ops i = some d → dstAt ops j ≠ some d) (i : Nat) : ∀ (U : List Nat) (a : Act), i ∈ U → putAll ops V (U.erase i) (a.put (dstAt ops i) (V i)) = putAll ops V U a
  | [], _, h => by cases h
  | j :: U, a, h => by
    by_cases e : j = i
    · subst e; rw [List.erase_cons_head]; rfl
    · have hi : i ∈ U := by
        rcases List.mem_cons.1 h with h | h
        · exact absurd h.symm e
        · exact h
      rw [List.erase_cons_tail (by simpa using e)]
      show putAll ops V (U.erase i) ((a.put (dstAt ops i) (V i)).put (dstAt ops j) (V j)) = putAll ops V U (a.put (dstAt ops j) (V j))
      rw [Act.put_comm a (V i) (V j) (fun d h1 => hd i j d (fun h => e h.symm) h1)]
      exact putAll_erase hd i U _ hi

/-- Operation o, at the frame a, leaves the value v and a world of R. -/
def Leads (P : Program) (n : Nat) (ops : Array Oper) (o : Oper) (a : Act) (v : Value) (R : World → Prop) (w : World) : Prop :=
  if Region.wanted o (yielded ops a.tmps) = true then
    match (execOp a.eval o).run P w with
    | .ok (.value u) w' => u = v ∧ R w'
    | .ok .skip w' => v = undef ∧ R w'
    | .ok (.enter f args) w' => CallsIn Fence.wide (n - 1) P f args w' fun e w'' => e = .returned v ∧ R w''
    | _ => False
  else v = undef ∧ R w

theorem Leads.same {o : Oper} {a a' : Act} {v : Value} {R : World → Prop} {w : World} (h : Leads P n ops o a v R w) (h1 : execOp a'.eval o = execOp a.eval o) (h2 : Region.wanted o (yielded ops a'.tmps) = Region.wanted o (yielded ops a.tmps)) : Leads P n ops o a' v R w := by
  unfold Leads at h ⊢
  rw [h1, h2]
  exact h

/-- Every order, by the frame behind all. -/
theorem any_final {Q : Exit → Act → World → Prop} {V : Nat → Value} {aE : Act} {D : Array Bool → World → Prop} (hs : seesB ops = true)
    (hop : ∀ i o listed w, ops[i]? = some o → i ∈ Region.ready .any ops listed → D listed w → Leads P n ops o aE (V i) (D (listed.setIfInBounds i true)) w)
    (hend : ∀ listed w, D listed w → (∀ j, j < ops.size → listed.getD j true = true) → Q .normal aE w) :
    ∀ (fuel : Nat) (U : List Nat) (listed : Array Bool) (a : Act) (w : World), listed.size = ops.size → U.Nodup → (∀ j, j ∈ U ↔ listed.getD j true = false) → U.length = fuel → putAll ops V U a = aE → D listed w →
      wpAnyIn Fence.wide n P .any ops Q fuel listed a w := by
  have hdd : ∀ i j d, i ≠ j → dstAt ops i = some d → dstAt ops j ≠ some d := by
    intro i j d hij hi hj
    unfold dstAt at hi
    cases ho : ops[i]? with
    | none => rw [ho] at hi; cases hi
    | some o =>
      rw [ho] at hi
      exact ((sees_at hs ho).2.2.2 j d hj).1 hij hi
  intro fuel
  induction fuel with
  | zero =>
    intro U listed a w hsz hnd hU hlen hput hD
    obtain rfl := List.length_eq_zero_iff.1 hlen
    have hall : ∀ j, j < ops.size → listed.getD j true = true := fun j _ => by
      cases hl : listed.getD j true with
      | true => rfl
      | false => have := (hU j).2 hl; cases this
    have hput' : a = aE := hput
    subst hput'
    refine ⟨?_, hend listed w hD hall⟩
    cases hr : Region.ready .any ops listed with
    | nil => rfl
    | cons x r =>
      have := (mem_ready.1 (show x ∈ Region.ready .any ops listed by rw [hr]; exact List.mem_cons_self)).1
      have := (hU x).2 this
      cases this
  | succ fuel ih =>
    intro U listed a w hsz hnd hU hlen hput hD
    refine ⟨fun h0 => ?_, fun i hi => ?_⟩
    · -- the least one that is not yet listed may come up
      exfalso
      have hex : ∃ j, listed.getD j true = false := by
        cases U with
        | nil => cases hlen
        | cons j r => exact ⟨j, (hU j).1 List.mem_cons_self⟩
      have key : ∀ m, ∀ j, j < m → listed.getD j true = false → False := by
        intro m
        induction m with
        | zero => intro j hj; omega
        | succ m ihm =>
          intro j hj hl
          have hjs : j < ops.size := by
            rcases Nat.lt_or_ge j listed.size with h | h
            · omega
            · simp [Array.getElem?_eq_none h] at hl
          have hr : j ∈ Region.ready .any ops listed := by
            refine mem_ready.2 ⟨hl, ops[j], Array.getElem?_eq_getElem hjs, fun e he _ => ?_⟩
            have hlt := (sees_at hs (Array.getElem?_eq_getElem hjs)).1 e he
            cases hl2 : listed.getD e.on false with
            | true => rfl
            | false =>
              have hes : e.on < listed.size := by omega
              have : listed.getD e.on true = false := by simp [hes] at hl2 ⊢; exact hl2
              exact (ihm e.on (by omega) this).elim
          rw [h0] at hr; cases hr
      obtain ⟨j, hj⟩ := hex
      exact key (j + 1) j (by omega) hj
    · obtain ⟨hl, o, ho, hall⟩ := mem_ready.1 hi
      have hiU : i ∈ U := (hU i).2 hl
      have his : i < listed.size := by
        rcases Nat.lt_or_ge i listed.size with h | h
        · exact h
        · simp [Array.getElem?_eq_none h] at hl
      obtain ⟨_, hsel, hdef, hsee⟩ := sees_at hs ho
      have hsame := putAll_same (P := P) (V := V) hsel U a (fun j hj d hd hl2 => by
        obtain ⟨e, he, hb, rfl⟩ := (hsee j d hd).2 hl2
        have h1 := hall e he hb
        have h2 := (hU e.on).1 hj
        rcases Nat.lt_or_ge e.on listed.size with h | h
        · simp [h] at h1 h2; rw [h1] at h2; cases h2
        · simp [Array.getElem?_eq_none h] at h2)
      rw [hput] at hsame
      have hL := (hop i o listed w ho hi hD).same hsame.1.symm hsame.2.1.symm
      have hdst : dstAt ops i = o.dst := by unfold dstAt; rw [ho]; rfl
      have next : ∀ w', D (listed.setIfInBounds i true) w' → wpAnyIn Fence.wide n P .any ops Q fuel (listed.setIfInBounds i true) (a.put o.dst (V i)) w' := by
        intro w' hD'
        refine ih (U.erase i) _ _ w' (by simp [hsz]) (hnd.erase i) (fun j => ?_) (by rw [List.length_erase_of_mem hiU, hlen]; rfl) ?_ hD'
        · rw [List.Nodup.mem_erase_iff hnd, hU j]
          by_cases e : i = j
          · subst e; simp [his]
          · rw [getD_set_ne true e]; exact ⟨fun h => h.2, fun h => ⟨fun h' => e h'.symm, h⟩⟩
        · rw [← hdst, putAll_erase hdd i U a hiU]; exact hput
      unfold wpOpIn
      simp only [ho]
      unfold Leads at hL
      by_cases hw : Region.wanted o (yielded ops a.tmps) = true
      · rw [if_pos hw] at hL ⊢
        unfold Oper.wpIn
        refine ⟨fun _ _ => trivial, ?_⟩
        rw [Oper.semAt_plain _ _ _ hdef]
        generalize (execOp a.eval o).run P w = r at hL
        cases r with
        | ok x w' =>
          cases x <;> simp only at hL <;> simp only [Oper.uponIn]
          case value u => obtain ⟨rfl, h⟩ := hL; exact next _ h
          case skip => obtain ⟨e, h⟩ := hL; rw [← e]; exact next _ h
          case enter f args =>
            refine ⟨fun h => absurd h (by decide), hL.mono ?_⟩
            rintro e w'' ⟨rfl, h⟩
            exact next _ h
        | halt x w' => exact hL.elim
      · rw [if_neg hw] at hL ⊢
        obtain ⟨e, h⟩ := hL
        rw [← e]
        exact ⟨fun _ _ => trivial, next _ h⟩

/-- The walk in the order of the text: its values, and the frame behind all. -/
theorem lex_final {C : World → Prop} {Q : Act → Prop} : ∀ (l : List Oper) (k : Nat) (a : Act), (∀ j, l[j]? = ops[k + j]?) → wpQuietIn Fence.wide n P ops C Q l a →
    ∃ V : Nat → Value, Q (putAll ops V (List.range' k l.length) a) ∧ ∀ j o, l[j]? = some o → YieldsQuiet Fence.wide n P ops C o (V (k + j)) (putAll ops V (List.range' k j) a)
  | [], k, a, _, h => ⟨fun _ => undef, h, fun j o ho => by simp at ho⟩
  | o :: l, k, a, hl, h => by
    have h0 : ops[k]? = some o := by simpa using (hl 0).symm
    have hq : qOpIn Fence.wide n P ops C k (wpQuietIn Fence.wide n P ops C Q l) a := by unfold qOpIn; simp only [h0]; exact h
    obtain ⟨v, hy, hK⟩ := yieldsQuiet_of_qOpIn h0 hq
    obtain ⟨V, hQ, hV⟩ := lex_final l (k + 1) (a.put o.dst v) (fun j => by have := hl (j + 1); simpa [Nat.add_assoc, Nat.add_comm 1 j] using this) hK
    have hdst : dstAt ops k = o.dst := by unfold dstAt; rw [h0]; rfl
    have hcong : ∀ (L : List Nat) (a : Act), (∀ i ∈ L, k < i) → putAll ops (fun i => if i = k then v else V i) L a = putAll ops V L a := by
      intro L
      induction L with
      | nil => intro a _; rfl
      | cons i L ih =>
        intro a hL
        have hi : i ≠ k := by have := hL i List.mem_cons_self; omega
        show putAll ops _ L (a.put (dstAt ops i) (if i = k then v else V i)) = putAll ops V L (a.put (dstAt ops i) (V i))
        rw [if_neg hi]
        exact ih _ (fun j hj => hL j (List.mem_cons_of_mem _ hj))
    have hr : ∀ (m : Nat) (a : Act), putAll ops (fun i => if i = k then v else V i) (List.range' k (m + 1)) a = putAll ops V (List.range' (k + 1) m) (a.put o.dst v) := by
      intro m a
      rw [List.range'_succ]
      show putAll ops _ (List.range' (k + 1) m) (a.put (dstAt ops k) (if k = k then v else V k)) = _
      rw [if_pos rfl, hdst]
      exact hcong _ _ (fun i hi => by have := (List.mem_range'_1.1 hi).1; omega)
    refine ⟨fun i => if i = k then v else V i, ?_, ?_⟩
    · rw [List.length_cons, hr]; exact hQ
    · intro j p hp
      cases j with
      | zero =>
        obtain rfl : o = p := by simpa using hp
        simpa [putAll] using hy
      | succ j =>
        have := hV j p (by simpa using hp)
        rw [hr]
        have e : k + (j + 1) = k + 1 + j := by omega
        simp only [show k + (j + 1) ≠ k by omega, if_false]
        rw [e]
        exact this
end

/-- Some operations, hushed: in each one's place its value is laid. -/
def hush : List (Option Value) → List Oper → List Oper
  | some v :: vs, o :: r => { o with op := .assign (.const v) } :: hush vs r
  | none :: vs, o :: r => o :: hush vs r
  | _, r => r

theorem hush_at : ∀ (vs : List (Option Value)) (l : List Oper) (i : Nat), (hush vs l)[i]? = (l[i]?).map fun o => match vs[i]? with | some (some v) => { o with op := .assign (.const v) } | _ => o
  | [], l, i => by simp [hush]
  | _ :: _, [], i => by simp [hush]
  | some v :: vs, o :: r, 0 => by simp [hush]
  | none :: vs, o :: r, 0 => by simp [hush]
  | some v :: vs, o :: r, i + 1 => by simp [hush]; exact hush_at vs r i
  | none :: vs, o :: r, i + 1 => by simp [hush]; exact hush_at vs r i

theorem hush_dst (vs : List (Option Value)) (l : List Oper) (i : Nat) : dstAt (hush vs l).toArray i = dstAt l.toArray i := by
  unfold dstAt
  simp only [List.getElem?_toArray, hush_at]
  cases l[i]? with
  | none => rfl
  | some o => simp only [Option.map_some, Option.bind_some]; split <;> rfl

theorem hush_put (vs : List (Option Value)) (l : List Oper) (V : Nat → Value) : ∀ (U : List Nat) (a : Act), putAll (hush vs l).toArray V U a = putAll l.toArray V U a
  | [], _ => rfl
  | i :: U, a => by
    show putAll (hush vs l).toArray V U (a.put (dstAt (hush vs l).toArray i) (V i)) = putAll l.toArray V U (a.put (dstAt l.toArray i) (V i))
    rw [hush_dst]; exact hush_put vs l V U _

theorem hush_yielded (vs : List (Option Value)) (l : List Oper) (tmps : Array Value) : yielded (hush vs l).toArray tmps = yielded l.toArray tmps := by
  funext j
  have := hush_dst vs l j
  unfold dstAt at this
  unfold yielded
  rw [this]

theorem hush_length (vs : List (Option Value)) (l : List Oper) : (hush vs l).length = l.length := by
  induction vs generalizing l with
  | nil => simp [hush]
  | cons v vs ih => cases l with
    | nil => simp [hush]
    | cons o r => cases v <;> simp [hush, ih]

/-- It calls no Go function. -/
def plainOp (o : Oper) : Bool := match o.op with
  | .move _ | .assign _ | .load .. | .indexAddr .. | .fieldAddr .. | .binOp .. => true
  | .call c => match c.callee with
    | .builtin .len => true
    | _ => false
  | _ => false

section
variable {P : Program} {n : Nat}

theorem putAll_append {ops : Array Oper} {V : Nat → Value} : ∀ (L M : List Nat) (a : Act), putAll ops V (L ++ M) a = putAll ops V M (putAll ops V L a)
  | [], _, _ => rfl
  | i :: L, M, a => putAll_append L M (a.put (dstAt ops i) (V i))

/-- **The law.** loud: which operations change the world, each with its value; D: what holds of the world when some of them have come up; C: what the others lean on. -/
theorem region_loudA {l : List Oper} {loud : List (Option Value)} {Q : Exit → Act → World → Prop} {a : Act} {w : World} {C : World → Prop} {D : Act → Array Bool → World → Prop}
    (hs : seesB l.toArray = true) (hC : C w) (hg : ∀ i o v, l[i]? = some o → loud.getD i none = some v → o.guard = none)
    (hD0 : ∀ a', D a' (Array.replicate l.length false) w)
    (hDC : ∀ a' i listed w, loud.getD i none = none → i ∈ Region.ready .any l.toArray listed → D a' listed w → C w)
    (hDq : ∀ a' i o listed w w', l[i]? = some o → loud.getD i none = none → i ∈ Region.ready .any l.toArray listed → D a' listed w → C w' → w' = w ∨ (∃ ρ f args, (execOp ρ o).run P w = .ok (.enter f args) w) → D a' (listed.setIfInBounds i true) w')
    (hq : wpQuietIn Fence.wide n P (hush loud l).toArray C (fun a' => (∀ i o v listed w, l[i]? = some o → loud.getD i none = some v → i ∈ Region.ready .any l.toArray listed → D a' listed w → Leads P n l.toArray o a' v (D a' (listed.setIfInBounds i true)) w) ∧
      ∀ listed w', D a' listed w' → (∀ j, j < l.length → listed.getD j true = true) → Q .normal a' w') (hush loud l) a) :
    wpAnyIn Fence.wide n P .any l.toArray Q l.length (Array.replicate l.length false) a w := by
  obtain ⟨V, ⟨hloud, hend⟩, hV⟩ := lex_final (hush loud l) 0 a (fun j => by simp) hq
  rw [hush_put] at hloud hend
  have hrange : List.range' 0 (hush loud l).length = List.range l.length := by rw [hush_length, List.range_eq_range']
  rw [hrange] at hloud hend
  refine any_final (V := V) (aE := putAll l.toArray V (List.range l.length) a) (D := D (putAll l.toArray V (List.range l.length) a)) hs ?_ (fun listed w' hD' hall => hend listed w' hD' (fun j hj => hall j (by simpa using hj))) l.length (List.range l.length) _ a w (by simp) List.nodup_range ?_ (by simp) rfl (hD0 _)
  · intro i o listed w1 ho hr hD
    have ho' : l[i]? = some o := by simpa using ho
    have hil : i < l.length := (List.getElem?_eq_some_iff.1 ho').1
    cases hlo : loud.getD i none with
    | some v =>
      -- its value is the one that was laid
      have hlv : loud[i]? = some (some v) := by
        rw [List.getD_eq_getElem?_getD] at hlo
        cases h : loud[i]? with
        | none => rw [h] at hlo; cases hlo
        | some x => rw [h] at hlo; simpa using hlo
      have hat : (hush loud l)[i]? = some { o with op := .assign (.const v) } := by rw [hush_at, ho']; simp [hlv]
      have hy := hV i _ hat
      rw [Nat.zero_add] at hy
      have hL := hloud i o v listed w1 ho' hlo hr hD
      have hVv : V i = v := by
        rcases hy.2 with ⟨_, h1⟩ | ⟨h1, _⟩
        · have := h1 w hC
          simp [Oper.quietAtIn, execOp, Oper.quietUponIn, Act.eval] at this
          exact this.symm
        · simp [Region.wanted, hg i o v ho' hlo] at h1
      rw [hVv]; exact hL
    | none =>
      have hat : (hush loud l)[i]? = some o := by
        rw [hush_at, ho']
        cases h : loud[i]? with
        | none => simp
        | some x =>
          rw [List.getD_eq_getElem?_getD, h] at hlo
          have : x = none := by simpa using hlo
          simp [this]
      have hy := hV i _ hat
      rw [Nat.zero_add, hush_put] at hy
      have hw1 : C w1 := hDC _ i listed w1 hlo hr hD
      obtain ⟨_, hsel, _, hsee⟩ := sees_at hs ho
      have hsplit : List.range l.length = List.range' 0 i ++ List.range' i (l.length - i) := by
        rw [List.range_eq_range', show l.length = i + (l.length - i) by omega, ← List.range'_append_1]
        simp
      have hsame := putAll_same (P := P) (V := V) (ops := l.toArray) hsel (List.range' i (l.length - i)) (putAll l.toArray V (List.range' 0 i) a) (fun j hj d hd hl2 => by
        obtain ⟨e, he, _, hej⟩ := (hsee j d hd).2 hl2
        have h1 := (sees_at hs ho).1 e he
        have h2 := (List.mem_range'_1.1 hj).1
        omega)
      rw [← putAll_append, ← hsplit] at hsame
      have hD2 := hDq (putAll l.toArray V (List.range l.length) a) i o listed w1
      refine Leads.same (a := putAll l.toArray V (List.range' 0 i) a) ?_ hsame.1 hsame.2.1
      unfold Leads
      rcases hy.2 with ⟨hw, h1⟩ | ⟨hw, h1⟩
      · rw [hush_yielded] at hw
        rw [if_pos hw]
        have h2 := h1 w1 hw1
        unfold Oper.quietAtIn at h2
        generalize hrun : (execOp (putAll l.toArray V (List.range' 0 i) a).eval o).run P w1 = r at h2
        cases r with
        | ok x w' =>
          cases x <;> simp only [Oper.quietUponIn] at h2
          case value u => obtain ⟨rfl, rfl⟩ := h2; exact ⟨rfl, hD2 _ ho' hlo hr hD hw1 (.inl rfl)⟩
          case skip => obtain ⟨rfl, h3⟩ := h2; exact ⟨h3, hD2 _ ho' hlo hr hD hw1 (.inl rfl)⟩
          case enter f args =>
            obtain ⟨rfl, _, hc⟩ := h2
            refine hc.mono ?_
            rintro e w'' ⟨rfl, hC2⟩
            exact ⟨rfl, hD2 _ ho' hlo hr hD hC2 (.inr ⟨_, f, args, hrun⟩)⟩
        | halt x w' => simp only [Oper.quietUponIn] at h2
      · rw [hush_yielded] at hw
        rw [if_neg (by simp [hw])]
        exact ⟨h1, hD2 _ ho' hlo hr hD hw1 (.inl rfl)⟩
  · intro j
    rw [List.mem_range]
    constructor
    · intro h; simp [h]
    · intro h
      rcases Nat.lt_or_ge j l.length with h' | h'
      · exact h'
      · simp [h'] at h

/-- Only when all others have come up the last one may. -/
def sinkLast (ops : Array Oper) (N : Nat) : Bool := (List.range N).all fun i => (List.range (N + 1)).any fun j => decide (i < j) && match ops[j]? with
  | some o => waitsOn o i
  | none => false

/-- What is listed is listed behind what it waits for. -/
def Shut (ops : Array Oper) (listed : Array Bool) : Prop := ∀ j o, ops[j]? = some o → listed.getD j false = true → ∀ e ∈ o.after, Region.binds .any e = true → listed.getD e.on false = true

theorem Shut.set {ops : Array Oper} {listed : Array Bool} {i : Nat} (h : Shut ops listed) (hi : i ∈ Region.ready .any ops listed) : Shut ops (listed.setIfInBounds i true) := by
  obtain ⟨_, oi, hoi, hall⟩ := mem_ready.1 hi
  intro j o ho hl e he hb
  by_cases hij : i = j
  · subst hij
    obtain rfl : o = oi := Option.some.inj (ho.symm.trans hoi)
    exact getD_set_true (hall e he hb)
  · rw [getD_set_ne false hij] at hl
    exact getD_set_true (h j o ho hl e he hb)

theorem sink_all {ops : Array Oper} {N : Nat} (hs : sinkLast ops N = true) {listed : Array Bool} (h : Shut ops listed) (hN : (N ∈ Region.ready .any ops listed) ∨ listed.getD N false = true) : ∀ i, i < N → listed.getD i false = true := by
  have key : ∀ d i, N - i = d → i < N → listed.getD i false = true := by
    intro d
    induction d using Nat.strongRecOn with
    | _ d ih =>
      intro i hd hi
      have h1 := List.all_eq_true.1 hs i (List.mem_range.2 hi)
      obtain ⟨j, hj, hj2⟩ := List.any_eq_true.1 h1
      simp only [Bool.and_eq_true, decide_eq_true_eq] at hj2
      obtain ⟨hij, hj3⟩ := hj2
      cases ho : ops[j]? with
      | none => rw [ho] at hj3; cases hj3
      | some o =>
        rw [ho] at hj3
        obtain ⟨e, he, hb⟩ := Array.any_eq_true'.1 hj3
        simp only [Bool.and_eq_true, beq_iff_eq] at hb
        obtain ⟨hb, rfl⟩ := hb
        have hjle : j ≤ N := by have := List.mem_range.1 hj; omega
        by_cases hjN : j = N
        · subst hjN
          rcases hN with hN | hN
          · obtain ⟨_, o', ho', hall⟩ := mem_ready.1 hN
            obtain rfl : o = o' := Option.some.inj (ho.symm.trans ho')
            exact hall e he hb
          · exact h j o ho hN e he hb
        · exact h j o ho (ih (N - j) (by omega) j rfl (by omega)) e he hb
  exact fun i hi => key (N - i) i rfl hi

theorem getD_true_false {listed : Array Bool} {i : Nat} (h : listed.getD i true = false) : listed.getD i false = false := by
  rcases Nat.lt_or_ge i listed.size with h' | h'
  · simp [h'] at h ⊢; exact h
  · simp [Array.getElem?_eq_none h'] at h

theorem getD_replicate_f (m j : Nat) : (Array.replicate m false).getD j false = false := by
  rcases Nat.lt_or_ge j m with h | h
  · simp [h]
  · simp [h]
theorem ready_lt {ops : Array Oper} {listed : Array Bool} {i : Nat} (h : i ∈ Region.ready .any ops listed) : i < ops.size := by
  obtain ⟨_, o, ho, _⟩ := mem_ready.1 h
  exact (Array.getElem?_eq_some_iff.1 ho).1
theorem getD_set_self {listed : Array Bool} {i : Nat} (h : i < listed.size) : (listed.setIfInBounds i true).getD i false = true := by simp [h]
theorem getD_true_in {listed : Array Bool} {i : Nat} (hi : i < listed.size) (h : listed.getD i true = true) : listed.getD i false = true := by
  simp [hi] at h ⊢; exact h
theorem wpQuietIn_mono {ops : Array Oper} {C : World → Prop} {Q Q' : Act → Prop} (h : ∀ a, Q a → Q' a) : ∀ (l : List Oper) (a : Act), wpQuietIn Fence.wide n P ops C Q l a → wpQuietIn Fence.wide n P ops C Q' l a
  | [], a, hq => h a hq
  | o :: l, a, hq => by
    refine ⟨hq.1, ?_⟩
    have h2 := hq.2
    split
    · rename_i hw
      rw [if_pos hw] at h2
      exact Oper.quietIn_mono (wpQuietIn_mono h l) h2
    · rename_i hw
      rw [if_neg hw] at h2
      exact wpQuietIn_mono h l _ h2

/-- **A statement whose last operation stores, every order.** -/
theorem any_store {l : List Oper} {o : Oper} {Q : Exit → Act → World → Prop} {a : Act} {w : World} {C : World → Prop} (hs : seesB (l ++ [o]).toArray = true) (hk : sinkLast (l ++ [o]).toArray l.length = true) (hg : o.guard = none) (hC : C w)
    (hq : wpQuietIn Fence.wide n P (hush (List.replicate l.length none ++ [some undef]) (l ++ [o])).toArray C (fun a' => ∀ w', C w' → ∃ w'', (execOp a'.eval o).run P w' = .ok .skip w'' ∧ Q .normal a' w'') (hush (List.replicate l.length none ++ [some undef]) (l ++ [o])) a) :
    wpAnyIn Fence.wide n P .any (l ++ [o]).toArray Q (l ++ [o]).length (Array.replicate (l ++ [o]).length false) a w := by
  have hlast : ∀ i v, (List.replicate l.length none ++ [some undef]).getD i none = some v → i = l.length ∧ v = undef := by
    intro i v h
    rw [List.getD_eq_getElem?_getD, List.getElem?_append] at h
    split at h
    · rename_i hlt
      simp only [List.length_replicate] at hlt
      simp [hlt] at h
    · rename_i hge
      simp only [List.length_replicate] at hge h
      cases hi : i - l.length with
      | zero => rw [hi] at h; simp at h; exact ⟨by omega, h.symm⟩
      | succ k => rw [hi] at h; simp at h
  have hlast' : (List.replicate l.length (none : Option Value) ++ [some undef]).getD l.length none = some undef := by
    rw [List.getD_eq_getElem?_getD, List.getElem?_append_right (by simp)]
    simp
  have hol : (l ++ [o])[l.length]? = some o := by simp
  refine region_loudA (loud := List.replicate l.length none ++ [some undef]) (C := C)
    (D := fun a' listed w' => Shut (l ++ [o]).toArray listed ∧ listed.size = (l ++ [o]).length ∧ (listed.getD l.length false = false → C w') ∧ (listed.getD l.length false = true → Q .normal a' w')) hs hC ?_ ?_ ?_ ?_ ?_
  · intro i p v hp hv
    obtain ⟨rfl, _⟩ := hlast i v hv
    obtain rfl : o = p := Option.some.inj (hol.symm.trans hp)
    exact hg
  · intro a'
    refine ⟨fun j p _ hl => ?_, by simp, fun _ => hC, fun hl => ?_⟩
    · rw [getD_replicate_f] at hl; cases hl
    · rw [getD_replicate_f] at hl; cases hl
  · intro a' i listed w1 hi hr ⟨hsh, hsz, h1, h2⟩
    have hne : i ≠ l.length := fun e => by subst e; rw [hlast'] at hi; cases hi
    cases hl : listed.getD l.length false with
    | false => exact h1 hl
    | true =>
      have hil := ready_lt hr
      have := sink_all hk hsh (.inr hl) i (by simp at hil; omega)
      rw [getD_true_false (mem_ready.1 hr).1] at this; cases this
  · intro a' i p listed w1 w2 hp hi hr ⟨hsh, hsz, h1, h2⟩ hC2 _
    have hne : i ≠ l.length := fun e => by subst e; rw [hlast'] at hi; cases hi
    refine ⟨hsh.set hr, by simpa using hsz, fun _ => hC2, fun hl => ?_⟩
    rw [getD_set_ne false hne] at hl
    have hil := ready_lt hr
    have := sink_all hk hsh (.inr hl) i (by simp at hil; omega)
    rw [getD_true_false (mem_ready.1 hr).1] at this; cases this
  · refine wpQuietIn_mono ?_ _ _ hq
    intro a' h
    refine ⟨?_, fun listed w' hD hall => hD.2.2.2 (getD_true_in (by rw [hD.2.1]; simp) (hall l.length (by simp)))⟩
    intro i p v listed w1 hp hv hr ⟨hsh, hsz, h1, h2⟩
    obtain ⟨rfl, rfl⟩ := hlast i v hv
    obtain rfl : o = p := Option.some.inj (hol.symm.trans hp)
    obtain ⟨w2, hrun, hQ⟩ := h w1 (h1 (getD_true_false (mem_ready.1 hr).1))
    unfold Leads
    rw [if_pos (by simp [Region.wanted, hg]), hrun]
    refine ⟨rfl, hsh.set hr, by simpa using hsz, fun hl => ?_, fun _ => hQ⟩
    rw [getD_set_self (by rw [hsz]; simp)] at hl; cases hl

/-- The same, in a round or not. -/
theorem region_store {id : Nat} {l : List Oper} {o : Oper} {Q : Exit → Act → World → Prop} {a : Act} {w : World} (hm : P.follows .mixedOrders = true) (C : World → Prop) (hs : seesB (l ++ [o]).toArray = true) (hk : sinkLast (l ++ [o]).toArray l.length = true) (hg : o.guard = none) (hC : C w.drew)
    (hq : wpQuietIn Fence.wide n P (hush (List.replicate l.length none ++ [some undef]) (l ++ [o])).toArray C (fun a' => ∀ w', C w' → ∃ w'', (execOp a'.eval o).run P w' = .ok .skip w'' ∧ Q .normal a' w'') (hush (List.replicate l.length none ++ [some undef]) (l ++ [o])) a) :
    (Code.region id (l ++ [o]).toArray true).wpIn Fence.wide n P Q a w := by
  refine wpIn_region_any hm ?_
  have := any_store (Q := Q) (w := w.drew) hs hk hg hC hq
  simpa using this
theorem region_storeR {id r : Nat} {l : List Oper} {o : Oper} {Q : Exit → Act → World → Prop} {a : Act} {w : World} (hm : P.follows .mixedOrders = true) (hnd : noDefer (l ++ [o]).toArray = true) (C : World → Prop) (hs : seesB (l ++ [o]).toArray = true) (hk : sinkLast (l ++ [o]).toArray l.length = true) (hg : o.guard = none) (hC : C w.drew)
    (hq : wpQuietIn Fence.wide n P (hush (List.replicate l.length none ++ [some undef]) (l ++ [o])).toArray C (fun a' => ∀ w', C w' → ∃ w'', (execOp a'.eval o).run P w' = .ok .skip w'' ∧ Q .normal a' w'') (hush (List.replicate l.length none ++ [some undef]) (l ++ [o])) a) :
    (Code.region id (l ++ [o]).toArray true).wpIn (Fence.wide.inRound r) n P Q a w := by
  refine wpIn_region_any hm (any_inRound hnd _ _ _ _ ?_)
  have := any_store (Q := Q) (w := w.drew) hs hk hg hC hq
  simpa using this

theorem bindValue_noEnter {s : Sem Value} {w w' : World} {f : FuncId} {args : Array Value} : (do pure (Next.value (← s)) : Sem Next).run P w ≠ .ok (.enter f args) w' := by
  rw [Sem.run_bind]
  generalize s.run P w = r
  cases r with
  | ok v w1 => simp [Result.andThen, Sem.run_pure]
  | halt x w1 => simp [Result.andThen]

theorem plainOp_noEnter {o : Oper} (h : plainOp o = true) {ρ : Operand → Value} {w w' : World} {f : FuncId} {args : Array Value} : (execOp ρ o).run P w ≠ .ok (.enter f args) w' := by
  unfold plainOp at h
  unfold execOp
  split at h
  all_goals try (rename_i hop; simp only [hop])
  all_goals first
    | exact bindValue_noEnter
    | (simp [Sem.run_pure]; done)
    | (cases h; done)
    | skip
  split at h
  · rename_i hc
    simp only [resolve, hc, Sem.run_bind, Sem.run_pure, Result.andThen, invoke, builtin]
    generalize (Builtin.len_ _ _ _).run P w = r
    cases r <;> simp
  · cases h

/-- A statement that makes a slice (operation m, whose value is vm) and stores at its end, every order. -/
theorem any_make {l : List Oper} {o om : Oper} {m : Nat} {vm : Value} {Q : Exit → Act → World → Prop} {a : Act} {w : World} {C C0 C1 : World → Prop} (hs : seesB (l ++ [o]).toArray = true) (hk : sinkLast (l ++ [o]).toArray l.length = true) (hg : o.guard = none)
    (hmo : l[m]? = some om) (hgm : om.guard = none) (hpl : ((List.range l.length).all fun i => i == m || ((l[i]?).map plainOp).getD false) = true)
    (h0C : ∀ w', C0 w' → C w') (h1C : ∀ w', C1 w' → C w') (hC0 : C0 w)
    (hq : wpQuietIn Fence.wide n P (hush (List.replicate m none ++ some vm :: List.replicate (l.length - m - 1) none ++ [some undef]) (l ++ [o])).toArray C
      (fun a' => (∀ w', C0 w' → ∃ w'', (execOp a'.eval om).run P w' = .ok (.value vm) w'' ∧ C1 w'') ∧ ∀ w', C1 w' → ∃ w'', (execOp a'.eval o).run P w' = .ok .skip w'' ∧ Q .normal a' w'')
      (hush (List.replicate m none ++ some vm :: List.replicate (l.length - m - 1) none ++ [some undef]) (l ++ [o])) a) :
    wpAnyIn Fence.wide n P .any (l ++ [o]).toArray Q (l ++ [o]).length (Array.replicate (l ++ [o]).length false) a w := by
  have hml : m < l.length := (List.getElem?_eq_some_iff.1 hmo).1
  obtain ⟨loud, hloud⟩ : ∃ loud, loud = (List.replicate m none ++ some vm :: List.replicate (l.length - m - 1) none ++ [some undef] : List (Option Value)) := ⟨_, rfl⟩
  have hget : ∀ i, loud.getD i none = if i = m then some vm else if i = l.length then some undef else none := by
    intro i
    rw [hloud, List.getD_eq_getElem?_getD]
    rw [show (List.replicate m none ++ some vm :: List.replicate (l.length - m - 1) none ++ [some undef] : List (Option Value)) = (List.replicate m none ++ [some vm]) ++ (List.replicate (l.length - m - 1) none ++ [some undef]) by simp]
    rw [List.getElem?_append]
    simp only [List.length_append, List.length_replicate, List.length_singleton]
    split
    · rename_i h1
      rw [List.getElem?_append]
      simp only [List.length_replicate]
      split
      · rename_i h2; rw [if_neg (by omega), if_neg (by omega)]; simp [h2]
      · rename_i h2
        obtain rfl : i = m := by omega
        simp
    · rename_i h1
      rw [if_neg (by omega), List.getElem?_append]
      simp only [List.length_replicate]
      split
      · rename_i h2; rw [if_neg (by omega)]; simp [h2]
      · rename_i h2
        by_cases h3 : i = l.length
        · subst h3; simp [show l.length - (m + 1) - (l.length - m - 1) = 0 by omega]
        · rw [if_neg h3, List.getElem?_eq_none (by simp; omega)]; rfl
  have hol : (l ++ [o])[l.length]? = some o := by simp
  have hom : (l ++ [o])[m]? = some om := by rw [List.getElem?_append_left hml]; exact hmo
  rw [← hloud] at hq
  have hm0 : ∀ {listed : Array Bool} {i : Nat}, Shut (l ++ [o]).toArray listed → i ∈ Region.ready .any (l ++ [o]).toArray listed → i < l.length → listed.getD l.length false = false := by
    intro listed i hsh hr hi
    cases hl : listed.getD l.length false with
    | false => rfl
    | true =>
      have := sink_all hk hsh (.inr hl) i hi
      rw [getD_true_false (mem_ready.1 hr).1] at this; cases this
  refine region_loudA (loud := loud) (C := C)
    (D := fun a' listed w' => Shut (l ++ [o]).toArray listed ∧ listed.size = (l ++ [o]).length ∧ (listed.getD l.length false = true → Q .normal a' w') ∧
      (listed.getD l.length false = false → listed.getD m false = false → C0 w') ∧ (listed.getD l.length false = false → listed.getD m false = true → C1 w')) hs (h0C _ hC0) ?_ ?_ ?_ ?_ ?_
  · intro i p v hp hv
    rw [hget] at hv
    by_cases e : i = m
    · subst e
      obtain rfl : om = p := Option.some.inj (hom.symm.trans hp)
      exact hgm
    · rw [if_neg e] at hv
      by_cases e2 : i = l.length
      · subst e2
        obtain rfl : o = p := Option.some.inj (hol.symm.trans hp)
        exact hg
      · rw [if_neg e2] at hv; cases hv
  · intro a'
    refine ⟨fun j p _ hl => ?_, by simp, fun hl => ?_, fun _ _ => hC0, fun _ hl => ?_⟩
    all_goals (rw [getD_replicate_f] at hl; cases hl)
  · intro a' i listed w1 hi hr ⟨hsh, hsz, h1, h2, h3⟩
    rw [hget] at hi
    have hne : i ≠ l.length := fun e => by subst e; rw [if_neg (by omega), if_pos rfl] at hi; cases hi
    have hil : i < l.length := by have := ready_lt hr; simp at this; omega
    have hlf := hm0 hsh hr hil
    cases hlm : listed.getD m false with
    | false => exact h0C _ (h2 hlf hlm)
    | true => exact h1C _ (h3 hlf hlm)
  · intro a' i p listed w1 w2 hp hi hr ⟨hsh, hsz, h1, h2, h3⟩ hC2 hw
    rw [hget] at hi
    have hne : i ≠ l.length := fun e => by subst e; rw [if_neg (by omega), if_pos rfl] at hi; cases hi
    have hnm : i ≠ m := fun e => by rw [if_pos e] at hi; cases hi
    have hil : i < l.length := by have := ready_lt hr; simp at this; omega
    have hlf := hm0 hsh hr hil
    obtain rfl : w2 = w1 := by
      rcases hw with h | ⟨ρ, f, args, h⟩
      · exact h
      · have hp' : l[i]? = some p := by rw [List.getElem?_append_left hil] at hp; exact hp
        have := List.all_eq_true.1 hpl i (List.mem_range.2 hil)
        simp only [hp', Bool.or_eq_true, beq_iff_eq, Option.map_some, Option.getD_some] at this
        rcases this with h4 | h4
        · exact absurd h4 hnm
        · exact absurd h (plainOp_noEnter h4)
    refine ⟨hsh.set hr, by simpa using hsz, fun hl => ?_, fun _ hl => ?_, fun _ hl => ?_⟩
    · rw [getD_set_ne false hne, hlf] at hl; cases hl
    · rw [getD_set_ne false hnm] at hl; exact h2 hlf hl
    · rw [getD_set_ne false hnm] at hl; exact h3 hlf hl
  · refine wpQuietIn_mono ?_ _ _ hq
    intro a' ⟨hA, hB⟩
    refine ⟨?_, fun listed w' hD hall => hD.2.2.1 (getD_true_in (by rw [hD.2.1]; simp) (hall l.length (by simp)))⟩
    intro i p v listed w1 hp hv hr ⟨hsh, hsz, h1, h2, h3⟩
    rw [hget] at hv
    by_cases e : i = m
    · subst e
      obtain rfl : om = p := Option.some.inj (hom.symm.trans hp)
      rw [if_pos rfl] at hv
      obtain rfl : vm = v := Option.some.inj hv
      have hlf := hm0 hsh hr hml
      obtain ⟨w2, hrun, hC⟩ := hA w1 (h2 hlf (getD_true_false (mem_ready.1 hr).1))
      unfold Leads
      rw [if_pos (by simp [Region.wanted, hgm]), hrun]
      refine ⟨rfl, hsh.set hr, by simpa using hsz, fun hl => ?_, fun _ hl => ?_, fun _ _ => hC⟩
      · rw [getD_set_ne false (by omega), hlf] at hl; cases hl
      · rw [getD_set_self (by rw [hsz]; simp; omega)] at hl; cases hl
    · rw [if_neg e] at hv
      by_cases e2 : i = l.length
      · subst e2
        obtain rfl : o = p := Option.some.inj (hol.symm.trans hp)
        rw [if_pos rfl] at hv
        obtain rfl : undef = v := Option.some.inj hv
        have hlf := getD_true_false (mem_ready.1 hr).1
        obtain ⟨w2, hrun, hQ⟩ := hB w1 (h3 hlf (sink_all hk hsh (.inl hr) m hml))
        unfold Leads
        rw [if_pos (by simp [Region.wanted, hg]), hrun]
        refine ⟨rfl, hsh.set hr, by simpa using hsz, fun _ => hQ, fun hl => ?_, fun hl => ?_⟩
        all_goals (rw [getD_set_self (by rw [hsz]; simp)] at hl; cases hl)
      · rw [if_neg e2] at hv; cases hv

theorem region_makeR {id r : Nat} {l : List Oper} {o om : Oper} {m : Nat} {vm : Value} {Q : Exit → Act → World → Prop} {a : Act} {w : World} (hm : P.follows .mixedOrders = true) (hnd : noDefer (l ++ [o]).toArray = true) (C C0 C1 : World → Prop) (hs : seesB (l ++ [o]).toArray = true) (hk : sinkLast (l ++ [o]).toArray l.length = true) (hg : o.guard = none)
    (hmo : l[m]? = some om) (hgm : om.guard = none) (hpl : ((List.range l.length).all fun i => i == m || ((l[i]?).map plainOp).getD false) = true)
    (h0C : ∀ w', C0 w' → C w') (h1C : ∀ w', C1 w' → C w') (hC0 : C0 w.drew)
    (hq : wpQuietIn Fence.wide n P (hush (List.replicate m none ++ some vm :: List.replicate (l.length - m - 1) none ++ [some undef]) (l ++ [o])).toArray C
      (fun a' => (∀ w', C0 w' → ∃ w'', (execOp a'.eval om).run P w' = .ok (.value vm) w'' ∧ C1 w'') ∧ ∀ w', C1 w' → ∃ w'', (execOp a'.eval o).run P w' = .ok .skip w'' ∧ Q .normal a' w'')
      (hush (List.replicate m none ++ some vm :: List.replicate (l.length - m - 1) none ++ [some undef]) (l ++ [o])) a) :
    (Code.region id (l ++ [o]).toArray true).wpIn (Fence.wide.inRound r) n P Q a w := by
  refine wpIn_region_any hm (any_inRound hnd _ _ _ _ ?_)
  have := any_make (Q := Q) (w := w.drew) hs hk hg hmo hgm hpl h0C h1C hC0 hq
  simpa using this
theorem region_make {id : Nat} {l : List Oper} {o om : Oper} {m : Nat} {vm : Value} {Q : Exit → Act → World → Prop} {a : Act} {w : World} (hm : P.follows .mixedOrders = true) (C C0 C1 : World → Prop) (hs : seesB (l ++ [o]).toArray = true) (hk : sinkLast (l ++ [o]).toArray l.length = true) (hg : o.guard = none)
    (hmo : l[m]? = some om) (hgm : om.guard = none) (hpl : ((List.range l.length).all fun i => i == m || ((l[i]?).map plainOp).getD false) = true)
    (h0C : ∀ w', C0 w' → C w') (h1C : ∀ w', C1 w' → C w') (hC0 : C0 w.drew)
    (hq : wpQuietIn Fence.wide n P (hush (List.replicate m none ++ some vm :: List.replicate (l.length - m - 1) none ++ [some undef]) (l ++ [o])).toArray C
      (fun a' => (∀ w', C0 w' → ∃ w'', (execOp a'.eval om).run P w' = .ok (.value vm) w'' ∧ C1 w'') ∧ ∀ w', C1 w' → ∃ w'', (execOp a'.eval o).run P w' = .ok .skip w'' ∧ Q .normal a' w'')
      (hush (List.replicate m none ++ some vm :: List.replicate (l.length - m - 1) none ++ [some undef]) (l ++ [o])) a) :
    (Code.region id (l ++ [o]).toArray true).wpIn Fence.wide n P Q a w := by
  refine wpIn_region_any hm ?_
  have := any_make (Q := Q) (w := w.drew) hs hk hg hmo hgm hpl h0C h1C hC0 hq
  simpa using this

/-- A world in which all that was there in w is as it was. -/
structure After (w : World) where
  val : World
  chg : Chg (fun _ => False) w val
theorem After.any (w : World) : Nonempty (After w) := ⟨⟨w, Chg.refl _ w⟩⟩
theorem After.more {w : World} (a : After w) {v : World} (c : Chg (fun _ => False) a.val v) : ∃ c : After w, v = c.val := ⟨⟨v, a.chg.trans c (Grew.refl _ _)⟩, rfl⟩
theorem After.cell {w : World} (a : After w) {p : Addr} {v : Value} (h : w.cell? p = some v) : a.val.cell? p = some v :=
  (World.cell?_of_block (a := p) (a.chg.block p.block (World.block_lt_of_cell? w _ h) (fun h => h))).trans h

end
end Go.SeqLib

end
section
-- Quiet
namespace Go.SeqLib
open Go
/-- A statement that changes nothing, in whatever order, where what is called may lay blocks of its own. -/
theorem region_quietC {n : Nat} {P : Program} {id : Nat} {Q : Exit → Act → World → Prop} {a : Act} {w : World} {l : List Oper} (hm : P.follows .mixedOrders = true) (hB : Region.lexB .any l.toArray = true)
    (h : wpQuietIn Fence.wide n P l.toArray (fun w' => ∃ c : After w, w' = c.val) (fun a' => ∀ w', (∃ c : After w, w' = c.val) → Q .normal a' w') l a) : (Code.region id l.toArray true).wpIn Fence.wide n P Q a w :=
  wpIn_region_quiet (C := fun w' => ∃ c : After w, w' = c.val) rfl hm hB ⟨⟨_, (Chg.refl _ w).drew⟩, rfl⟩ (by simpa using h)
end Go.SeqLib

end
