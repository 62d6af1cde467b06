/-
  Of: KDag, KIs, KBase, RJoinQ, JIs.
-/
import Derived.Test.YtakbeololabmhaaGreatDoorG18
import Derived.Test.YtakbeololabmhaaGreatDoorG15
import Derived.Test.YtakbeololabmhaaGreatDoorG01
import Derived.Test.YtakbeololabmhaaGreatDoorG16
import Derived.Test.YtakbeololabmhaaGreatDoorG09
import Derived.Test.YtakbeololabmhaaGreatDoorG13
import Derived.Test.YtakbeololabmhaaGreatDoorG11
import Derived.Test.YtakbeololabmhaaGreatDoorG05
import Derived.Test.YtakbeololabmhaaGreatDoorG03
section
-- KDag
namespace Go.Proofs.YtakbeololabmhaaGreatDoor
open Go.RowKit Go.Shelf Go.SeqLib Go.DiffLib Go.TreeLib Go.RepoLib Go.DagLib Go.BigFrame
attribute [local go_sem] Oper.semAt_some

set_option maxRecDepth 100000 in
set_option maxHeartbeats 4000000 in
/-- A commit's parents, as a row of their own. -/
theorem parents_in (B : Nat) (s : Rp) (lv : Value) (rows : List Rw) (D : Blk) (n : Int) (w : World) (h : KRep B s lv rows D w) (hl : s.1.length ≤ 200) :
    CallsIn Fence.wide 0 Tryz.prog 61 #[ptr B, iv n] w fun e w' => ∃ v, e = .returned v ∧ OwnI w' w.heap.size v (getC s.1 n).1 ∧ Chg No w w' := by
  have H1 := get_in1 B s lv rows D n w h hl
  refine callsIn_of_wp Tryz.func61 rfl trivial ?_
  simp only [Tryz.ntmps61, List.size_toArray, List.length_cons, List.length_nil, Nat.reduceAdd, Nat.reduceSub, Array.replicate_succ, Array.replicate_zero, List.push_toArray, List.append_toArray, List.nil_append, List.cons_append]
  gi_wp2_with fail
  refine ⟨trivial, rfl, H1.mono ?_⟩
  rintro e w1 ⟨pv, tv, rfl, ho1, ho2, c1⟩
  clear H1
  obtain ⟨pa, ka, rfl⟩ := row_slice ho1
  obtain ⟨qa, la, rfl⟩ := row_slice ho2
  obtain ⟨x3, hx3⟩ : ∃ x3, (getC s.1 n).2.2 = x3 := ⟨_, rfl⟩
  obtain ⟨n1, hn1⟩ : ∃ n1, (getC s.1 n).1.length = n1 := ⟨_, rfl⟩
  obtain ⟨n2, hn2⟩ : ∃ n2, (getC s.1 n).2.1.length = n2 := ⟨_, rfl⟩
  obtain ⟨u, hu⟩ : ∃ u, hasN s.1.length n = u := ⟨_, rfl⟩
  rw [hx3, hn1, hn2, hu]
  have HO : Hid (OwnI w1 w.heap.size (.slice pa n1 ka) (getC s.1 n).1) := by rw [← hn1]; exact ho1
  clear ho1 ho2 hx3 hn1 hn2 hu h
  have d0 : (w1.alloc (.cells #[.slice pa n1 ka, .slice qa n2 la, .string x3] 43)).cell? ⟨w1.heap.size, 0, none⟩ = some (.slice pa n1 ka) := by
    rw [World.cell?_alloc_at (w := w1) _ _ w1.heap.size 0 rfl]
    rfl
  gi_wp2
  go_ret
  exact ⟨_, rfl, World.ownsRow.alloc HO.out _, c1.alloc _⟩

theorem of_nil (w : World) : CallsIn Fence.wide 0 Tryz.prog 84 #[.slice none 0 0] w fun e w' => ∃ gf lb D', e = .returned (.func (.func gf) #[] lb) ∧ PSeq w' gf lb [] D' ∧ Chg No w w' ∧ ∀ k, D' k → w.heap.size ≤ k := by
  refine (of_in (.slice none 0 0) [] (by simp) w (SlI.nil w)).mono ?_
  rintro e w2 ⟨v', Bk, rfl, b, hB, hne, hr, c2⟩
  exact ⟨_, _, _, rfl, ⟨_, of1 v' [] Bk (fun h => hne h.2), ⟨b, SlI.ofRow hr⟩, enters_of Tryz.func104 (by kernel_rfl) rfl⟩, c2, fun k hk => by
    rcases hk with hk | hk
    · omega
    · exact absurd rfl hk.1⟩

set_option maxRecDepth 100000 in
set_option maxHeartbeats 4000000 in
theorem along_in (B : Nat) (s : Rp) (lv : Value) (rows : List Rw) (D : Blk) (par : Nat → List Nat) (nx : Nat → List Int) (NF : Nat) (n : Int) (tot : List Int) (w : World) (h : KRep B s lv rows D w) (eg : ∀ args w, (callFunc NF args).run Tryz.prog w = .ok (.enter NF args) w)
    (hnext : NextOk NF B s lv rows D nx) (hlow : Low par) (hless : LessI s.1.length par nx) (hl : s.1.length ≤ 200) (htot : tot = if hasN s.1.length n = true then (aheadL par n.toNat).map (fun (p : Nat) => (p : Int)) else []) :
    CallsIn Fence.wide 0 Tryz.prog 60 #[ptr B, iv n, .func (.func NF) #[] #[]] w fun e w' => ∃ gf lb D', e = .returned (.func (.func gf) #[] lb) ∧ PSeq w' gf lb tot D' ∧ Chg No w w' ∧ ∀ k, D' k → w.heap.size ≤ k ∨ (refS B lv k ∨ D k) := by
  obtain ⟨W1, hW1⟩ : ∃ W1, ((w.alloc (.cells #[ptr B] 25)).alloc (.cells #[iv n] 3)).alloc (.cells #[.func (.func NF) #[] #[]] 99) = W1 := ⟨_, rfl⟩
  have c1 : Chg No w W1 := by rw [← hW1]; exact (((Chg.refl _ w).alloc _).alloc _).alloc _
  have hk := h.no c1
  have b1 : Boxed W1 w.heap.size 25 (ptr B) := by rw [← hW1]; exact ((Boxed.new w _ _).alloc _).alloc _
  have b2 : Boxed W1 (w.heap.size + 1) 3 (iv n) := by
    have := (Boxed.new (w.alloc (.cells #[ptr B] 25)) 3 (iv n)).alloc (.cells #[.func (.func NF) #[] #[]] 99)
    rw [World.size_alloc] at this
    rw [← hW1]
    exact this
  have b3 : Boxed W1 (w.heap.size + 2) 99 (.func (.func NF) #[] #[]) := by
    have := Boxed.new ((w.alloc (.cells #[ptr B] 25)).alloc (.cells #[iv n] 3)) 99 (.func (.func NF) #[] #[])
    rw [World.size_alloc, World.size_alloc] at this
    rw [← hW1]
    exact this
  have k1 := b1.cell
  have k2 := b2.cell
  have HB : Hid (Boxed W1 w.heap.size 25 (ptr B) ∧ Boxed W1 (w.heap.size + 1) 3 (iv n) ∧ Boxed W1 (w.heap.size + 2) 99 (.func (.func NF) #[] #[])) := ⟨b1, b2, b3⟩
  have H1 := get_in1 B s lv rows D n W1 hk hl
  have HK : Hid (KRep B s lv rows D W1) := hk
  have HA : Hid ((tot = if hasN s.1.length n = true then (aheadL par n.toNat).map (fun (p : Nat) => (p : Int)) else []) ∧ KRep B s lv rows D w) := ⟨htot, h⟩
  clear hk b1 b2 b3 htot h
  refine callsIn_of_wp Tryz.func60 rfl trivial ?_
  simp only [Tryz.ntmps60, List.size_toArray, List.length_cons, List.length_nil, Nat.reduceAdd, Nat.reduceSub, Array.replicate_succ, Array.replicate_zero, List.push_toArray, List.append_toArray, List.nil_append, List.cons_append]
  gi_wp2_with fail
  refine ⟨trivial, rfl, H1.mono ?_⟩
  rintro e w2 ⟨pv, tv, rfl, ho1, ho2, c2⟩
  clear H1
  obtain ⟨pa, ka, rfl⟩ := row_slice ho1
  obtain ⟨qa, la, rfl⟩ := row_slice ho2
  clear ho1 ho2
  obtain ⟨x3, hx3⟩ : ∃ x3, (getC s.1 n).2.2 = x3 := ⟨_, rfl⟩
  obtain ⟨n1, hn1⟩ : ∃ n1, (getC s.1 n).1.length = n1 := ⟨_, rfl⟩
  obtain ⟨n2, hn2⟩ : ∃ n2, (getC s.1 n).2.1.length = n2 := ⟨_, rfl⟩
  obtain ⟨u, hu⟩ : ∃ u, hasN s.1.length n = u := ⟨_, rfl⟩
  rw [hx3, hn1, hn2, hu]
  have HU : Hid (hasN s.1.length n = u) := hu
  clear hx3 hn1 hn2 hu
  obtain ⟨W3, hW3⟩ : ∃ W3, w2.alloc (.cells #[.slice pa n1 ka, .slice qa n2 la, .string x3] 43) = W3 := ⟨_, rfl⟩
  have c3 : Chg No w2 W3 := by rw [← hW3]; exact (Chg.refl _ w2).alloc _
  have c13 : Chg No W1 W3 := c2.trans c3 (fun _ h => h.elim)
  cases u with
  | false =>
    have ht : tot = [] := by rw [HA.out.1, HU.out, if_neg Bool.false_ne_true]
    subst ht
    have H2 := of_nil W3
    gi_wp2_with fail
    refine ⟨trivial, rfl, H2.mono ?_⟩
    rintro e w4 ⟨gf, lb, D', rfl, hq, c4, hd4⟩
    have HQ : Hid (PSeq w4 gf lb [] D') := hq
    clear hq H2
    gi_wp2
    go_ret
    exact ⟨_, _, _, rfl, HQ.out, (c1.trans c13 (fun _ h => h.elim)).trans c4 (fun _ h => h.elim), fun k hk => .inl (by have := hd4 k hk; have := c1.size; have := c13.size; omega)⟩
  | true =>
    have hb : 1 ≤ n ∧ n ≤ (s.1.length : Int) := by
      have := HU.out
      unfold hasN at this
      rw [Bool.and_eq_true, decide_eq_true_iff, decide_eq_true_iff] at this
      exact this
    obtain ⟨m, rfl⟩ : ∃ m : Nat, n = (m : Int) := ⟨n.toNat, by omega⟩
    have ht : tot = (aheadL par m).map (fun (p : Nat) => (p : Int)) := by rw [HA.out.1, HU.out, if_pos rfl, Int.toNat_natCast]
    subst ht
    have hlt := HA.out.2.lt
    have hltO := HA.out.2.ltO
    have it := along1 B s lv rows D par nx NF m (w.heap.size + 1) (w.heap.size + 2) w.heap.size eg hnext hlow hless hl (by omega) (by omega)
    have hfin : PSeq W3 85 #[ptr (w.heap.size + 1), ptr (w.heap.size + 2), ptr w.heap.size] ((aheadL par m).map (fun (p : Nat) => (p : Int))) (fun k => k = w.heap.size + 1 ∨ k = w.heap.size + 2 ∨ k = w.heap.size ∨ (refS B lv k ∨ D k)) :=
      ⟨_, it, ⟨c13.boxed HB.out.2.1 (fun h => h), c13.boxed HB.out.2.2 (fun h => h), c13.boxed HB.out.1 (fun h => h), HK.out.no c13⟩, enters_of Tryz.func85 (by kernel_rfl) rfl⟩
    have HF : Hid _ := hfin
    clear hfin it hlt hltO hb
    gi_wp2
    go_ret
    exact ⟨_, _, _, rfl, HF.out, c1.trans c13 (fun _ h => h.elim), fun k hk => by
      rcases hk with h | h | h | h
      · exact .inl (by omega)
      · exact .inl (by omega)
      · exact .inl (by omega)
      · exact .inr h⟩

set_option maxRecDepth 100000 in
set_option maxHeartbeats 4000000 in
theorem ahead_in (B : Nat) (s : Rp) (lv : Value) (rows : List Rw) (D : Blk) (n : Int) (w : World) (h : KRep B s lv rows D w) (hp : ParOk s.1) (hl : s.1.length ≤ 200) :
    CallsIn Fence.wide 0 Tryz.prog 35 #[ptr B, iv n] w fun e w' => ∃ gf lb D', e = .returned (.func (.func gf) #[] lb) ∧ PSeq w' gf lb (aheadI s.1 n) D' ∧ Chg No w w' ∧ ∀ k, D' k → w.heap.size ≤ k ∨ (refS B lv k ∨ D k) := by
  obtain ⟨tot, htot⟩ : ∃ tot, aheadI s.1 n = tot := ⟨_, rfl⟩
  have H1 := along_in B s lv rows D (parL s.1) (fun m => (getC s.1 (m : Int)).1) 61 n tot w h (enters_of Tryz.func61 (by kernel_rfl) rfl)
    (fun m W hk _ _ => parents_in B s lv rows D (m : Int) W hk hl) hp.low (fun m h1 h2 => hp.par h1 h2) hl htot.symm
  rw [htot]
  clear htot h hp
  refine callsIn_of_wp Tryz.func35 rfl trivial ?_
  simp only [Tryz.ntmps35, List.size_toArray, List.length_cons, List.length_nil, Nat.reduceAdd, Nat.reduceSub, Array.replicate_succ, Array.replicate_zero, List.push_toArray, List.append_toArray, List.nil_append, List.cons_append]
  gi_wp2_with fail
  refine ⟨trivial, rfl, H1.mono ?_⟩
  rintro e w2 ⟨gf, lb, D', rfl, hq, c2, hd⟩
  have HQ : Hid (PSeq w2 gf lb tot D') := hq
  clear hq H1
  gi_wp2
  go_ret
  exact ⟨_, _, _, rfl, HQ.out, c2, hd⟩
end Go.Proofs.YtakbeololabmhaaGreatDoor

end
section
-- KIs
namespace Go.Proofs.YtakbeololabmhaaGreatDoor
open Go.RowKit Go.Shelf Go.SeqLib Go.DiffLib Go.TreeLib Go.RepoLib Go.DagLib Go.BigFrame
attribute [local go_sem] Oper.semAt_some

theorem falls_in {xs pre : List Int} {x a : Int} (hf : xs.Pairwise (fun x y => y < x)) (hp : pre ++ [x] <+: xs) (hpre : ∀ y ∈ pre, a < y) (hx : x ≤ a) : decide (a ∈ xs) = decide (x = a) := by
  obtain ⟨t, rfl⟩ := hp
  rw [List.append_assoc, List.pairwise_append] at hf
  obtain ⟨_, hf2, _⟩ := hf
  rw [List.singleton_append, List.pairwise_cons] at hf2
  apply decide_eq_decide.2
  rw [List.append_assoc, List.mem_append, List.singleton_append, List.mem_cons]
  constructor
  · rintro (h | h | h)
    · have := hpre a h; omega
    · exact h.symm
    · have := hf2.1 a h; omega
  · intro h
    exact .inr (.inl h.symm)

set_option maxRecDepth 100000 in
set_option maxHeartbeats 4000000 in
theorem is_core (pv : Value) (a n : Int) (xs : List Int) (w : World) (hf : xs.Pairwise (fun x y => y < x))
    (H : ∀ W, Chg No w W → CallsIn Fence.wide 0 Tryz.prog 35 #[pv, iv n] W fun e w' => ∃ gf lb D', e = .returned (.func (.func gf) #[] lb) ∧ PSeq w' gf lb xs D' ∧ Chg No W w' ∧ ∀ k, D' k → W.heap.size ≤ k ∨ k < w.heap.size) :
    CallsIn Fence.wide 0 Tryz.prog 20 #[pv, iv a, iv n] w fun e w' => e = .returned (.bool (decide (a ∈ xs))) ∧ Chg No w w' := by
  obtain ⟨W1, hW1⟩ : ∃ W1, (w.alloc (.cells #[iv a] 3)).alloc (.cells #[.bool false] 4) = W1 := ⟨_, rfl⟩
  have c1 : Chg No w W1 := by rw [← hW1]; exact ((Chg.refl _ w).alloc _).alloc _
  have b1 : Boxed W1 w.heap.size 3 (iv a) := by rw [← hW1]; exact (Boxed.new w _ _).alloc _
  have b2 : Boxed W1 (w.heap.size + 1) 4 (.bool false) := by
    have := Boxed.new (w.alloc (.cells #[iv a] 3)) 4 (.bool false)
    rw [World.size_alloc] at this
    rw [← hW1]
    exact this
  have H1 := H W1 c1
  have HB : Hid (Boxed W1 w.heap.size 3 (iv a) ∧ Boxed W1 (w.heap.size + 1) 4 (.bool false)) := ⟨b1, b2⟩
  have HF : Hid _ := hf
  obtain ⟨R, hR⟩ : ∃ R, decide (a ∈ xs) = R := ⟨_, rfl⟩
  have HR : Hid (decide (a ∈ xs) = R) := hR
  rw [hR]
  clear b1 b2 H hf hR
  refine callsIn_of_wp_marks Tryz.func20 rfl trivial ?_
  simp only [Tryz.ntmps20, List.size_toArray, List.length_cons, List.length_nil, Nat.reduceAdd, Nat.reduceSub, Array.replicate_succ, Array.replicate_zero, List.push_toArray, List.append_toArray, List.nil_append, List.cons_append]
  gi_wp2_with fail
  refine ⟨trivial, rfl, H1.mono ?_⟩
  rintro e w2 ⟨gf, lb, D', rfl, ⟨I0, it, hi, eg⟩, c2, hd⟩
  clear H1
  have b1 := c2.boxed HB.out.1 (fun h => h)
  have b2 := c2.boxed HB.out.2 (fun h => h)
  have c02 : Chg No w w2 := c1.trans c2 (fun _ h => h.elim)
  have hlt := it.lt0 hi
  -- the iterator's blocks lie apart from the result's box: it told its numbers ahead of it
  have hl1 : w.heap.size + 1 < W1.heap.size := HB.out.2.lt
  have hnb : ∀ k, D' k → k ≠ w.heap.size ∧ k ≠ w.heap.size + 1 := fun k hk => by
    have := hd k hk
    omega
  gi_wp2
  have pK : ∀ pre : List Int, Part (fun S W => S = (fun k => k = w.heap.size ∨ k = w.heap.size + 1) ∧ Boxed W w.heap.size 3 (iv a) ∧ Boxed W (w.heap.size + 1) 4 (.bool false) ∧ ∀ y ∈ pre, a < y) := fun pre => {
    lt := by
      rintro S W ⟨rfl, b1, b2, _⟩ k (rfl | rfl)
      · exact b1.lt
      · exact b2.lt
    kept := by
      rintro S W W' ⟨rfl, b1, b2, h⟩ hs hk
      exact ⟨rfl, (hk _ (.inl rfl)).trans b1, (hk _ (.inr rfl)).trans b2, h⟩ }
  have pX : ∀ (c : Code) (_ : List Int), Part (fun S W => S = (fun k => k = w.heap.size ∨ k = w.heap.size + 1) ∧ Boxed W w.heap.size 3 (iv a) ∧ Boxed W (w.heap.size + 1) 4 (.bool R) ∧ c = .ret) := fun c _ => {
    lt := by
      rintro S W ⟨rfl, b1, b2, _⟩ k (rfl | rfl)
      · exact b1.lt
      · exact b2.lt
    kept := by
      rintro S W W' ⟨rfl, b1, b2, h⟩ hs hk
      exact ⟨rfl, (hk _ (.inl rfl)).trans b1, (hk _ (.inr rfl)).trans b2, h⟩ }
  refine wpIn_range (gf := gf) (lb := lb) rfl eg it (fun _ => rfl) _ _ pK pX (S := fun k => k = w.heap.size ∨ k = w.heap.size + 1) hi ⟨rfl, b1, b2, by simp⟩ (fun k hk h => by have := hnb k hk; omega)
    (fun x => { tmps := #[pv, iv a, iv n, undef, ptr w.heap.size, undef, ptr (w.heap.size + 1), iv x, pv, iv n, .func (.func gf) #[] lb, iv x, undef, undef, undef, undef, undef, undef], defers := [] }) ?assign ?body ?done ?stop
  case assign =>
    intro l x W K hK
    gi_wp2
    exact hK
  case body =>
    rintro lr pre x S2 W hpre ⟨rfl, k1, k2, hall⟩
    have hc1 := k1.cell
    have hc2 := k2.cell
    have hf2 := k2.frozen
    have HALL : Hid (∀ y ∈ pre, a < y) := hall
    clear hall
    by_cases hx : x ≤ a
    · have hres : decide (x = a) = R := by rw [← HR.out]; exact (falls_in HF.out hpre HALL.out hx).symm
      by_cases he : x = a
      · have HRes : Hid (R = true) := by show _ = _; rw [← hres, decide_eq_true he]
        clear hres
        subst he
        gi_wp2
        refine ⟨_, (Chg.refl _ W).setCell (p := ⟨w.heap.size + 1, 0, none⟩) (.inl (.inr rfl)) _, Grew.refl _ _, rfl, k1.other (by omega) _, ?_, rfl⟩
        rw [HRes.out]
        exact k2.set _
      · have HRes : Hid (R = false) := by show _ = _; rw [← hres, decide_eq_false he]
        clear hres
        gi_wp2
        refine ⟨_, (Chg.refl _ W).setCell (p := ⟨w.heap.size + 1, 0, none⟩) (.inl (.inr rfl)) _, Grew.refl _ _, rfl, k1.other (by omega) _, ?_, rfl⟩
        have hbe : (x == a) = false := by simpa using he
        rw [HRes.out, hbe]
        exact k2.set _
    · gi_wp2
      refine ⟨_, Chg.refl _ _, Grew.refl _ _, rfl, k1, k2, fun y hy => ?_⟩
      rcases List.mem_append.1 hy with h | h
      · exact HALL.out y h
      · rw [List.mem_singleton] at h; omega
  case done =>
    rintro d S' W hd' ⟨rfl, k1, k2, hall⟩ hI' hc hg hK hnd
    have hc1 := k2.cell
    have hf1 := k2.frozen
    have hd1 : d ≠ w.heap.size + 1 := fun e => hnd (.inr e)
    have hd3 : w.heap.size ≤ d := Nat.le_trans c02.size hd'
    have HRes : Hid (R = false) := by
      show _ = _
      rw [← HR.out]
      exact decide_eq_false (fun h => by have := hall a h; omega)
    clear hall
    have hcc : Chg No w W := c02.trans hc (fun k hk => by
      rcases hk with h | h | h
      · exact h.elim
      · exact .inr (by omega)
      · exact .inr (by omega))
    gi_wp2
    have hK' : (W.setCell ⟨w.heap.size + 1, 0, none⟩ (.bool false)).heap[d]? = some (.deferred (some [])) := (Below.heap_setCell W _ _ d (fun e => hd1 e)).trans hK
    refine ⟨by simp, .inl ⟨_, _, rfl, run_takeDeferred hK', ?_⟩⟩
    have k3 : Boxed ((W.setCell ⟨w.heap.size + 1, 0, none⟩ (.bool false)).putObj d (.deferred none)) (w.heap.size + 1) 4 (.bool false) := (World.putObj_heap_other (fun e => hd1 e.symm)).trans (k2.set _)
    have e1 := k3.cell
    refine ⟨.bool false, ?_, ?_, ?_⟩
    · rw [results_cell1 rfl]
      go_simp
    · rw [HRes.out]
    · exact Chg.putObj (hcc.setCell (p := ⟨w.heap.size + 1, 0, none⟩) (.inr (by simp)) _) (.inr hd3) _
  case stop =>
    rintro d c pre S' W hd' hpre ⟨rfl, k1, k2, rfl⟩ hI' hc hg hK hnd
    have hc1 := k2.cell
    have hd1 : d ≠ w.heap.size + 1 := fun e => hnd (.inr e)
    have hd3 : w.heap.size ≤ d := Nat.le_trans c02.size hd'
    have hcc : Chg No w W := c02.trans hc (fun k hk => by
      rcases hk with h | h | h
      · exact h.elim
      · exact .inr (by omega)
      · exact .inr (by omega))
    gi_wp2
    refine ⟨by simp, .inl ⟨_, _, rfl, run_takeDeferred hK, ?_⟩⟩
    have k3 : Boxed (W.putObj d (.deferred none)) (w.heap.size + 1) 4 (.bool R) := (World.putObj_heap_other (fun e => hd1 e.symm)).trans k2
    have e1 := k3.cell
    refine ⟨.bool R, ?_, rfl, ?_⟩
    · rw [results_cell1 rfl]
      go_simp
    · exact Chg.putObj hcc (.inr hd3) _

theorem aheadI_falls (L : List Cm) (n : Int) : (aheadI L n).Pairwise (fun x y => y < x) := by
  unfold aheadI
  split
  · rw [List.pairwise_map]
    exact (ahead_falls _).imp (fun h => by omega)
  · exact List.Pairwise.nil
theorem is_in (B : Nat) (s : Rp) (lv : Value) (rows : List Rw) (D : Blk) (a n : Int) (w : World) (h : KRep B s lv rows D w) (hp : ParOk s.1) (hl : s.1.length ≤ 200) :
    CallsIn Fence.wide 0 Tryz.prog 20 #[ptr B, iv a, iv n] w fun e w' => e = .returned (.bool (decide (a ∈ aheadI s.1 n))) ∧ Chg No w w' :=
  is_core (ptr B) a n (aheadI s.1 n) w (aheadI_falls s.1 n) (fun W c => (ahead_in B s lv rows D n W (h.no c) hp hl).mono (fun e w' ⟨gf, lb, D', e1, e2, e3, e4⟩ => ⟨gf, lb, D', e1, e2, e3, fun k hk => by
    rcases e4 k hk with h' | h' | h'
    · exact .inl h'
    · exact .inr (h.ltO k h')
    · exact .inr (h.lt k h')⟩))
end Go.Proofs.YtakbeololabmhaaGreatDoor

end
section
-- KBase
namespace Go.Proofs.YtakbeololabmhaaGreatDoor
open Go.RowKit Go.Shelf Go.SeqLib Go.DiffLib Go.TreeLib Go.RepoLib Go.DagLib Go.BigFrame
attribute [local go_sem] Oper.semAt_some

theorem aheadI_few {L : List Cm} (n : Int) : (aheadI L n).length ≤ L.length := by
  unfold aheadI
  split
  · rw [List.length_map]
    unfold aheadL
    refine Nat.le_trans (List.length_filter_le _ _) ?_
    rw [down_length]
    rename_i hh
    unfold hasN at hh
    rw [Bool.and_eq_true, decide_eq_true_eq, decide_eq_true_eq] at hh
    omega
  · exact Nat.zero_le _

set_option maxRecDepth 100000 in
set_option maxHeartbeats 4000000 in
theorem reversed_in (v : Value) (l : List Int) (base : Nat) (w : World) (hl : l.length ≤ 1000000) (h : OwnI w base v l) :
    CallsIn Fence.wide 0 Tryz.prog 36 #[v] w fun e w' => ∃ v', e = .returned v' ∧ OwnI w' base v' l.reverse ∧ Chg (fun k => base ≤ k) w w' := by
  have H1 := reverse_in v l base w hl h
  have hb : ∀ k, v.ownBlock = some k → base ≤ k := fun k hk => (World.ownsRow.lt h k hk).1
  refine callsIn_of_wp Tryz.func36 rfl trivial ?_
  simp only [Tryz.ntmps36, List.size_toArray, List.length_cons, List.length_nil, Nat.reduceAdd, Nat.reduceSub, Array.replicate_succ, Array.replicate_zero, List.push_toArray, List.append_toArray, List.nil_append, List.cons_append]
  gi_wp2_with fail
  refine ⟨trivial, rfl, H1.mono ?_⟩
  rintro e w1 ⟨rfl, ho, c⟩
  gi_wp2
  go_ret
  exact ⟨_, rfl, ho, c.mono (fun k hk => hb k hk)⟩

set_option maxRecDepth 100000 in
set_option maxHeartbeats 4000000 in
theorem common_in (B : Nat) (s : Rp) (lv : Value) (rows : List Rw) (D : Blk) (a b : Int) (w : World) (h : KRep B s lv rows D w) (hp : ParOk s.1) (hl : s.1.length ≤ 60) :
    CallsIn Fence.wide 0 Tryz.prog 32 #[ptr B, iv a, iv b] w fun e w' => ∃ v, e = .returned v ∧ OwnI w' w.heap.size v (comF s.1 a b) ∧ Chg No w w' := by
  have hmm := @run_makeMap Tryz.prog
  have hR : ∀ n x, x ∈ aheadI s.1 n → -1000000 ≤ x ∧ x ≤ 1000000 := fun n x hx => by have := (aheadI_range' hx).1; omega
  have hA : ∀ n, (aheadI s.1 n).length ≤ 60 := fun n => Nat.le_trans (aheadI_few n) hl
  obtain ⟨b0, hb0⟩ : ∃ b0, w.heap.size = b0 := ⟨_, rfl⟩
  obtain ⟨W1, hW1⟩ : ∃ W1, w.alloc (.map #[] 0) = W1 := ⟨_, rfl⟩
  have c1 : Chg No w W1 := by rw [← hW1]; exact (Chg.refl _ w).alloc _
  have m1 : MpU W1 b0 0 (fun _ => false) := by rw [← hW1, ← hb0]; exact MapU.made w
  have hs1 : W1.heap.size = b0 + 1 := by rw [← hW1, World.size_alloc, hb0]
  have H1 := ahead_in B s lv rows D a W1 (h.no c1) hp (by omega)
  have hlo : ∀ k, refS B lv k ∨ D k → k < b0 := fun k hk => by
    rw [← hb0]
    rcases hk with hk | hk
    · exact h.ltO k hk
    · exact h.lt k hk
  have HW : Hid (w.alloc (.map #[] 0) = W1) := hW1
  refine callsIn_of_wp Tryz.func32 rfl trivial ?_
  simp only [Tryz.ntmps32, List.size_toArray, List.length_cons, List.length_nil, Nat.reduceAdd, Nat.reduceSub, Array.replicate_succ, Array.replicate_zero, List.push_toArray, List.append_toArray, List.nil_append, List.cons_append]
  gi_wp2_with fail
  refine ⟨trivial, rfl, H1.mono ?_⟩
  rintro e w2 ⟨gf, lb, D1, rfl, hq, c2, hd⟩
  have m2 : MpU w2 b0 0 (fun _ => false) := m1.kept (c2.block b0 m1.lt (fun h => h))
  have H2 := putU_in b0 0 (fun _ => false) w2 hq (by have := hA a; omega) (hR a) m2 (by omega) (fun hk => by
    rcases hd b0 hk with h' | h'
    · omega
    · have := hlo b0 h'; omega)
  clear H1
  gi_wp2_with fail
  refine ⟨trivial, rfl, H2.mono ?_⟩
  rintro e w3 ⟨rfl, m3, c3⟩
  have c03 : Chg No w w3 := (c1.trans c2 (fun _ h => h.elim)).trans c3 (fun k hk => .inr (by omega))
  have H3 := ahead_in B s lv rows D b w3 (h.no c03) hp (by omega)
  clear H2
  gi_wp2_with fail
  refine ⟨trivial, rfl, H3.mono ?_⟩
  rintro e w4 ⟨gf4, lb4, D4, rfl, hq4, c4, hd4⟩
  have m4 : MpU w4 b0 (0 + (aheadI s.1 a).length) (fun x => decide (x ∈ aheadI s.1 a)) := MapU.congr (m3.kept (c4.block b0 m3.lt (fun h => h))) (fun x => by simp)
  have H4 := filterB_seq b0 _ _ w4 hq4 (hR b) m4 (fun hk => by
    rcases hd4 b0 hk with h' | h'
    · have := m3.lt; omega
    · have := hlo b0 h'; omega)
  clear H3
  gi_wp2_with fail
  refine ⟨trivial, rfl, H4.mono ?_⟩
  rintro e w5 ⟨gf5, lb5, D5, rfl, hq5, c5⟩
  have H5 := listB_seq (by have := List.length_filter_le (fun x => decide (x ∈ aheadI s.1 a)) (aheadI s.1 b); have := hA b; omega) w5 hq5
  have c05 : Chg No w w5 := (c03.trans c4 (fun _ h => h.elim)).trans c5 (fun _ h => h.elim)
  clear H4
  gi_wp2_with fail
  refine ⟨trivial, rfl, H5.mono ?_⟩
  rintro e w6 ⟨v, rfl, ho, c6⟩
  have HO : Hid (OwnI w6 w5.heap.size v (comF s.1 a b)) := ho
  clear ho H5
  gi_wp2
  go_ret
  exact ⟨_, rfl, rowBase HO.out (by have := c05.size; omega), c05.trans c6 (fun _ h => h.elim)⟩

/-- Who lies behind one that is kept. -/
def behF (L : List Cm) (l : List Int) (x : Int) : Bool := (keepsF L l).any (fun m => decide (x ∈ aheadI L m))

set_option maxRecDepth 100000 in
set_option maxHeartbeats 8000000 in
theorem bestK_in (B : Nat) (s : Rp) (lv : Value) (rows : List Rw) (D : Blk) (a b : Int) (w : World) (h : KRep B s lv rows D w) (hp : ParOk s.1) (hl : s.1.length ≤ 60) :
    CallsIn Fence.wide 0 Tryz.prog 18 #[ptr B, iv a, iv b] w fun e w' => ∃ v, e = .returned v ∧ OwnI w' w.heap.size v (bestL s.1 a b) ∧ Chg No w w' := by
  have hmm := @run_makeMap Tryz.prog
  have HR : Hid (∀ n x, x ∈ aheadI s.1 n → -1000000 ≤ x ∧ x ≤ 1000000) := fun n x hx => by have := (aheadI_range' hx).1; omega
  have HA : Hid (∀ n, (aheadI s.1 n).length ≤ 60) := fun n => Nat.le_trans (aheadI_few n) hl
  have HB : Hid ((keepsF s.1 (comF s.1 a b)).reverse = bestL s.1 a b) := keepsF_best hp.low a b
  obtain ⟨b0, hb0⟩ : ∃ b0, w.heap.size = b0 := ⟨_, rfl⟩
  obtain ⟨W1, hW1⟩ : ∃ W1, w.alloc (.map #[] 0) = W1 := ⟨_, rfl⟩
  have c1 : Chg No w W1 := by rw [← hW1]; exact (Chg.refl _ w).alloc _
  have m1 : MpU W1 b0 0 (fun _ => false) := by rw [← hW1, ← hb0]; exact MapU.made w
  have hs1 : W1.heap.size = b0 + 1 := by rw [← hW1, World.size_alloc, hb0]
  have H1 := common_in B s lv rows D a b W1 (h.no c1) hp hl
  have hlo : ∀ k, refS B lv k ∨ D k → k < b0 := fun k hk => by
    rw [← hb0]
    rcases hk with hk | hk
    · exact h.ltO k hk
    · exact h.lt k hk
  have HLo : Hid (∀ k, refS B lv k ∨ D k → k < b0) := hlo
  have HW : Hid (w.alloc (.map #[] 0) = W1) := hW1
  have HK : Hid (KRep B s lv rows D w ∧ ParOk s.1) := ⟨h, hp⟩
  obtain ⟨com, hcom⟩ : ∃ com, comF s.1 a b = com := ⟨_, rfl⟩
  have hcl : com.length ≤ 60 := by rw [← hcom]; exact Nat.le_trans (comF_len s.1 a b) hl
  have HCm : Hid (∀ x ∈ com, 1 ≤ x ∧ x ≤ 60) := fun x hx => by
    rw [← hcom] at hx
    have := (aheadI_range' (com_mem.1 (comF_mem.1 hx)).1).1
    omega
  rw [hcom] at H1 HB
  clear hcom hlo h hp
  refine callsIn_of_wp Tryz.func18 rfl trivial ?_
  simp only [Tryz.ntmps18, List.size_toArray, List.length_cons, List.length_nil, Nat.reduceAdd, Nat.reduceSub, Array.replicate_succ, Array.replicate_zero, List.push_toArray, List.append_toArray, List.nil_append, List.cons_append]
  gi_wp2_with fail
  refine ⟨trivial, rfl, H1.mono ?_⟩
  rintro e w2 ⟨v, rfl, ho, c2⟩
  clear H1
  have m2 : MpU w2 b0 0 (fun _ => false) := m1.kept (c2.block b0 m1.lt (fun h => h))
  obtain ⟨n, hn⟩ : ∃ n, com.length = n := ⟨_, rfl⟩
  have HN : Hid (com.length = n) := hn
  obtain ⟨p, kc, rfl⟩ := row_slice ho
  rw [hn] at hcl ⊢
  have HO : Hid (w2.ownsRow (b0 + 1) 3 1 (.slice p n kc) n (com.map iv)) := by show World.ownsRow _ _ _ _ _ _ _; rw [← hn, ← hs1]; exact ho
  have HLt : Hid (∀ k, Value.ownBlock (.slice p n kc) = some k → b0 + 1 ≤ k ∧ k < w2.heap.size) := fun k hk => World.ownsRow.lt HO.out k hk
  have c02 : Chg No w w2 := c1.trans c2 (fun _ h => h.elim)
  have HC02 : Hid (Chg No w w2) := c02
  have hb2 : b0 < w2.heap.size := m2.lt
  obtain ⟨G, hG⟩ : ∃ G, w2.heap.size = G := ⟨_, rfl⟩
  have HG : Hid (w2.heap.size = G) := hG
  have m2' : MpU w2 b0 (60 * 0) (behF s.1 (com.take 0)) := MapU.congr m2 (fun x => rfl)
  clear ho hn hW1 m1 m2 c1 c2 hs1
  gi_wp2
  gi_loopw [7, 17] (fun s7 s17 wr => ∃ (k : Nat) (z7 : Value), k ≤ n ∧ z7 = s7 ∧ s17 = .int .i64 (k : Int) ∧ OwnI wr G s7 (keepsF s.1 (com.take k)) ∧ MpU wr b0 (60 * k) (behF s.1 (com.take k)) ∧ Chg (fun j => j = b0) w2 wr) (fun _ s17 _ => n - (intOf s17).toNat)
  case atStart => exact ⟨0, _, Nat.zero_le _, rfl, rfl, World.ownsRow_nil _ _ _ _, m2', Chg.refl _ _⟩
  case round =>
    obtain ⟨k, z7, hk, rfl, rfl, hown, mm, c⟩ := hrel
    have c0r : Chg No w wr := HC02.out.trans c (fun j hj => .inr (by omega))
    have hGr : G ≤ wr.heap.size := by rw [← HG.out]; exact c.size
    by_cases hlt : k < n
    · have hlt' : (k : Int) < (n : Int) := by omega
      obtain ⟨m, hm⟩ : ∃ m, com[k]? = some m := ⟨_, List.getElem?_eq_getElem (by rw [HN.out]; exact hlt)⟩
      have hmr := HCm.out m (List.mem_of_getElem? hm)
      have hsw : SlV wr (.slice p n kc) (com.map iv) := by
        have := SlV.ofRow (W := wr) (base := b0 + 1) (e := 3) (v := .slice p n kc) (vals := com.map iv) (by
          rw [List.length_map, HN.out]
          exact own_still HO.out c (fun j hj e => by have := (HLt.out j hj).1; omega))
        exact this
      obtain ⟨bc, oc, hpe, hcm⟩ := hsw.get1 (i := k) (x := iv m) (by rw [List.getElem?_map, hm]; rfl)
      subst hpe
      have HTk : Hid (com.take (k + 1) = com.take k ++ [m]) := by show _ = _; rw [List.take_add_one, hm]; rfl
      obtain ⟨acc, hacc⟩ : ∃ acc, keepsF s.1 (com.take k) = acc := ⟨_, rfl⟩
      have hal : acc.length ≤ 60 := by
        rw [← hacc]
        refine Nat.le_trans (keepsF_len _ _) ?_
        rw [List.length_take]
        omega
      have HAcc : Hid (keepsF s.1 (com.take k) = acc) := hacc
      obtain ⟨u, hu⟩ : ∃ u, behF s.1 (com.take k) m = u := ⟨_, rfl⟩
      have HU : Hid (behF s.1 (com.take k) m = u) := hu
      have H2 := hasU_in b0 (60 * k) (behF s.1 (com.take k)) m wr mm (by omega)
      rw [hu] at H2
      rw [hacc] at hown
      clear hsw hm hu hacc
      gi_wp2_with fail
      refine ⟨trivial, rfl, H2.mono ?_⟩
      rintro e w3 ⟨rfl, c3⟩
      clear H2
      have c23 : Chg (fun j => j = b0) w2 w3 := c.trans c3 (fun _ h => h.elim)
      have m3 : MpU w3 b0 (60 * k) (behF s.1 (com.take k)) := mm.kept (c3.block b0 mm.lt (fun h => h))
      have o3 : OwnI w3 G z7 acc := own_still hown c3 (fun _ _ h => h)
      have hG3 : G ≤ w3.heap.size := Nat.le_trans hGr c3.size
      cases u with
      | true =>
        gi_wp2
        refine ⟨⟨k + 1, z7, hlt, rfl, by go_num, ?_, ?_, c23⟩, by simp [intOf]; omega⟩
        · rw [HTk.out, keepsF_snoc, HAcc.out]
          unfold keepF
          rw [if_pos (by have := HU.out; unfold behF at this; rw [HAcc.out] at this; exact this)]
          exact o3
        · have hbe : behF s.1 (com.take (k + 1)) = behF s.1 (com.take k) := by
            unfold behF
            rw [HTk.out, keepsF_snoc, HAcc.out]
            unfold keepF
            rw [if_pos (by have := HU.out; unfold behF at this; rw [HAcc.out] at this; exact this)]
          rw [hbe]
          exact m3.mono (by omega)
      | false =>
        have hsone : SlV (w3.alloc (.cells #[iv m] 3)) (.slice (some ⟨w3.heap.size, 0, none⟩) 1 1) ([m].map iv) := SlV.made w3 [iv m] 3 (by simp)
        have oA := World.ownsRow.alloc o3 (.cells #[iv m] 3)
        have hbase : G ≤ (w3.alloc (.cells #[iv m] 3)).heap.size := by rw [World.size_alloc]; omega
        have cA : Chg (fun j => j = b0) w2 (w3.alloc (.cells #[iv m] 3)) := c23.alloc _
        have HStep : Hid (∀ w5 : World, (w3.alloc (.cells #[iv m] 3)).grownBy w5 z7.ownBlock → Chg (fun j => j = b0) w2 w5 ∧ Chg No w w5 ∧ MpU w5 b0 (60 * k) (behF s.1 (com.take k))) := fun w5 hg => by
          have hc := cA.grown hg (fun j e => .inr (by rw [HG.out]; exact (World.ownsRow.lt o3 j e).1))
          refine ⟨hc, HC02.out.trans hc (fun j hj => .inr (by omega)), ?_⟩
          have hc3 := ((Chg.refl (fun j => G ≤ j) w3).alloc (.cells #[iv m] 3)).grown hg (fun j e => .inl (World.ownsRow.lt o3 j e).1)
          exact m3.kept (hc3.block b0 m3.lt (by have := HG.out; omega))
        have HKeep : Hid (keepsF s.1 (com.take (k + 1)) = acc ++ [m]) := by
          show _ = _
          rw [HTk.out, keepsF_snoc, HAcc.out]
          unfold keepF
          rw [if_neg (by have := HU.out; unfold behF at this; rw [HAcc.out] at this; rw [this]; decide)]
        clear m3 cA c23 c3 hown mm c
        gi_wp2_with (first | fail_if_success skip | (gi_at_builtin; refine wpListIn_append_i _ rfl _ _ rfl G _ _ _ rfl oA (some ⟨w3.heap.size, 0, none⟩) 1 1 [m] rfl hsone (by omega) hbase ?_; intro v5 w5 o5 g5 at5; obtain ⟨c5, c05, m5⟩ := HStep.out w5 g5))
        have H3 := ahead_in B s lv rows D m w5 (HK.out.1.no c05) HK.out.2 (by omega)
        refine ⟨trivial, rfl, H3.mono ?_⟩
        rintro e w6 ⟨gf, lb, D6, rfl, hq6, c6, hd6⟩
        have m6 : MpU w6 b0 (60 * k) (behF s.1 (com.take k)) := m5.kept (c6.block b0 m5.lt (fun h => h))
        have H4 := putU_in b0 (60 * k) (behF s.1 (com.take k)) w6 hq6 (by have := HA.out m; omega) (HR.out m) m6 (by omega) (fun hk' => by
          rcases hd6 b0 hk' with h' | h'
          · have := m5.lt; omega
          · have := HLo.out b0 h'; omega)
        clear H3
        gi_wp2_with fail
        refine ⟨trivial, rfl, H4.mono ?_⟩
        rintro e w7 ⟨rfl, m7, c7⟩
        clear H4
        have HE : Hid (OwnI w7 G v5 (keepsF s.1 (com.take (k + 1))) ∧ MpU w7 b0 (60 * (k + 1)) (behF s.1 (com.take (k + 1))) ∧ Chg (fun j => j = b0) w2 w7) := by
          refine ⟨?_, ?_, (c5.trans c6 (fun _ h => h.elim)).trans c7 (fun j hj => .inl hj)⟩
          · rw [HKeep.out]
            have h5 : OwnI w5 G v5 (acc ++ [m]) := by
              show World.ownsRow _ _ _ _ _ _ _
              rw [List.length_append, List.map_append]
              exact o5
            exact own_still (own_still h5 c6 (fun _ _ h => h)) c7 (fun j hj e => by have := (World.ownsRow.lt h5 j hj).1; have := HG.out; omega)
          · refine (MapU.congr m7 (fun x => ?_)).mono (by have := HA.out m; omega)
            unfold behF
            rw [HKeep.out, HAcc.out, List.any_append]
            simp
        clear m7 m6 o5
        gi_wp2
        exact ⟨⟨k + 1, v5, hlt, rfl, by go_num, HE.out.1, HE.out.2.1, HE.out.2.2⟩, by simp [intOf]; omega⟩
    · obtain rfl : k = n := by omega
      have hlt' : ¬ (k : Int) < (k : Int) := by omega
      rw [List.take_of_length_le (by rw [HN.out]; exact Nat.le_refl _)] at hown
      have H5 := reversed_in z7 (keepsF s.1 com) G wr (by have := keepsF_len s.1 com; rw [HN.out] at this; omega) hown
      rw [HB.out] at H5
      gi_wp2_with fail
      refine ⟨trivial, rfl, H5.mono ?_⟩
      rintro e w8 ⟨v8, rfl, o8, c8⟩
      have HO8 : Hid (OwnI w8 G v8 (bestL s.1 a b)) := o8
      clear o8 H5 hown
      gi_wp2
      go_ret
      refine ⟨_, rfl, rowBase HO8.out (by have := HG.out; omega), c0r.trans c8 (fun j hj => .inr (by have := HG.out; have := HC02.out.size; omega))⟩

end Go.Proofs.YtakbeololabmhaaGreatDoor

end
section
-- RJoinQ
namespace Go.TreeLib
open Go Go.TextLib

theorem under_trans {p q r : List UInt8} (h1 : under p q = true) (h2 : under q r = true) : under p r = true := by
  unfold under at h1 h2 ⊢
  simp only [Bool.and_eq_true, decide_eq_true_eq] at h1 h2 ⊢
  obtain ⟨a1, a2, a3⟩ := h1
  obtain ⟨b1, b2, b3⟩ := h2
  refine ⟨by omega, ?_, ?_⟩
  · rw [← b2]
    conv => rhs; rw [← a2, List.take_take, Nat.min_eq_left (by omega)]
    rw [List.length_take, Nat.min_eq_left (by omega)]
  · rw [← a2, List.getElem?_take, if_pos b1] at b3
    exact b3
theorem under_size {p q : List UInt8} (h : under p q = true) : q.length < p.length := by
  unfold under at h
  simp only [Bool.and_eq_true, decide_eq_true_eq] at h
  exact h.1
theorem nested_iff {t : List Fl} {p : ByteArray} : nested t p = true ↔ ∃ f ∈ t, under (Bs p) (Bs f.1) = true := List.any_eq_true
theorem under_ltB {p q : ByteArray} (h : under (Bs p) (Bs q) = true) : lt q p = true := by
  have := under_lt h
  unfold lt
  rw [ByteArray.toList_eq, ByteArray.toList_eq]
  exact this
/-- What is lesser than a path of a list that rises stands ahead of it there. -/
theorem upT_ahead {pre post : List ByteArray} {p q : ByteArray} (h : UpT (pre ++ p :: post)) (hq : q ∈ pre ++ p :: post) (hl : lt q p = true) : q ∈ pre := by
  rcases List.mem_append.1 hq with e | e
  · exact e
  · exfalso
    rcases List.mem_cons.1 e with rfl | e
    · rw [lt_irrefl] at hl; cases hl
    · have h2 := (List.pairwise_cons.1 (List.pairwise_append.1 h).2.1).1 q e
      rw [lt_asymm h2] at hl
      cases hl

/-! ### Of -/
/-! ### Virtual -/
def keptL (o a b : List Fl) (l : List ByteArray) : List Fl := (outL o a b l).filter (fun f => !nested (out3 o a b) f.1)
theorem outL_app (o a b : List Fl) (l : List ByteArray) (p : ByteArray) : outL o a b (l ++ [p]) = outL o a b l ++ (if (res o a b p).1.1 = true then [(p, (res o a b p).1.2)] else []) := by
  unfold outL
  rw [List.filterMap_append, List.filterMap_cons, List.filterMap_nil]
  by_cases h : (res o a b p).1.1 = true
  · rw [if_pos h, if_pos h]
  · rw [if_neg h, if_neg h]
theorem keptL_snoc (o a b : List Fl) (l : List ByteArray) (p : ByteArray) : keptL o a b (l ++ [p]) = keptL o a b l ++ (if ((res o a b p).1.1 && !nested (out3 o a b) p) = true then [(p, (res o a b p).1.2)] else []) := by
  unfold keptL
  rw [outL_app, List.filter_append]
  cases h : (res o a b p).1.1 with
  | false => rw [if_neg (by simp), if_neg (by simp), List.filter_nil]
  | true =>
    rw [if_pos rfl, Bool.true_and]
    cases h2 : nested (out3 o a b) p with
    | true => rw [List.filter_cons_of_neg (by show ¬ (!nested (out3 o a b) p) = true; rw [h2]; simp), if_neg (by simp), List.filter_nil]
    | false => rw [List.filter_cons_of_pos (by show (!nested (out3 o a b) p) = true; rw [h2]; rfl), if_pos (show (!false) = true from rfl), List.filter_nil]
theorem keptL_len (o a b : List Fl) (l : List ByteArray) : (keptL o a b l).length ≤ l.length := Nat.le_trans (List.length_filter_le _ _) (List.length_filterMap_le _ _)
/-- What stands under one stands under one that stands under none. -/
theorem nested_top {t : List Fl} {p : ByteArray} : ∀ (n : Nat) (f : Fl), f ∈ t → under (Bs p) (Bs f.1) = true → (Bs f.1).length ≤ n → ∃ g ∈ t, under (Bs p) (Bs g.1) = true ∧ nested t g.1 = false
  | 0, f, hf, hu, hn => ⟨f, hf, hu, by
      cases h : nested t f.1 with
      | false => rfl
      | true =>
        obtain ⟨g, _, h2⟩ := nested_iff.1 h
        have := under_size h2
        omega⟩
  | n + 1, f, hf, hu, hn => by
      cases h : nested t f.1 with
      | false => exact ⟨f, hf, hu, h⟩
      | true =>
        obtain ⟨g, hg, h2⟩ := nested_iff.1 h
        have := under_size h2
        exact nested_top n g hg (under_trans hu h2) (by omega)
theorem kept_ahead {o a b : List Fl} {pre post : List ByteArray} {p : ByteArray} (he : all3 o a b = pre ++ p :: post) : nested (keptL o a b pre) p = nested (out3 o a b) p := by
  rw [Bool.eq_iff_iff]
  have hu : UpT (pre ++ p :: post) := he ▸ all3_up o a b
  constructor
  · intro h
    obtain ⟨f, hf, h⟩ := nested_iff.1 h
    obtain ⟨h1, h2, h3⟩ := mem_outL.1 (List.mem_filter.1 hf).1
    refine nested_iff.2 ⟨f, mem_outL.2 ⟨?_, h2, h3⟩, h⟩
    rw [he]
    exact List.mem_append_left _ h1
  · intro h
    obtain ⟨f, hf, h⟩ := nested_iff.1 h
    obtain ⟨g, hg, h4, h5⟩ := nested_top _ f hf h (Nat.le_refl _)
    obtain ⟨h1, h2, h3⟩ := mem_outL.1 hg
    rw [he] at h1
    exact nested_iff.2 ⟨g, List.mem_filter.2 ⟨mem_outL.2 ⟨upT_ahead hu h1 (under_ltB h4), h2, h3⟩, by rw [h5]; rfl⟩, h4⟩
theorem virJ_kept {o a b : List Fl} (hm : may3 o a b = true) : virJ o a b = (keptL o a b (all3 o a b)).take 12 := by
  unfold virJ keptL
  rw [if_pos hm]
  rfl
theorem split_at {l : List ByteArray} {k : Nat} {p : ByteArray} (h : l[k]? = some p) : l = l.take k ++ p :: l.drop (k + 1) := by
  obtain ⟨hk, rfl⟩ := List.getElem?_eq_some_iff.1 h
  rw [← List.drop_eq_getElem_cons hk, List.take_append_drop]
end Go.TreeLib

end
section
-- JIs
namespace Go.Proofs.YtakbeololabmhaaGreatDoor
open Go.RowKit Go.Shelf Go.SeqLib Go.DiffLib Go.TreeLib Go.TextLib Go.BigFrame
attribute [local go_sem] Oper.semAt_some

set_option maxHeartbeats 1000000 in
theorem isU_in (x : Fl) (p : ByteArray) (B : Nat) (hxs : x.1.size ≤ 100000) (w : World) (hB : Boxed w B 9 (.string p)) : CallsIn Fence.wide 0 Tryz.prog 97 #[.agg #[.string x.1, .string x.2], .pointer (some ⟨B, 0, none⟩)] w fun e w' =>
    e = .returned (.bool (under (Bs p) (Bs x.1))) ∧ Chg No w w' := by
  have hb := (hB.alloc (.cells #[.string x.1, .string x.2] 49)).cell
  have hss : slash.size = 1 := rfl
  have hpf := prefix_in p (x.1 ++ slash)
  rw [append_bytes, show Bs slash = [47] from rfl, prefix_under] at hpf
  generalize under (Bs p) (Bs x.1) = u at hpf ⊢
  refine callsIn_of_wp Tryz.func97 rfl trivial ?_
  simp only [Tryz.ntmps97, List.size_toArray, List.length_cons, List.length_nil, Nat.reduceAdd, Nat.reduceSub, Array.replicate_succ, Array.replicate_zero, List.push_toArray, List.append_toArray, List.nil_append, List.cons_append]
  gi_wp2_with fail
  refine ⟨trivial, rfl, (hpf _).mono ?_⟩
  rintro e w2 ⟨rfl, rfl⟩
  gi_wp2
  go_ret
  exact ⟨rfl, (Chg.refl _ w).alloc _⟩

theorem isU_enters : ∀ args w, (callFunc 97 args).run Tryz.prog w = .ok (.enter 97 args) w := enters_of Tryz.func97 (by kernel_rfl) rfl

set_option maxHeartbeats 1000000 in
theorem indexU_in (v : Value) (t : List Fl) (p : ByteArray) (B : Nat) (hz : ∀ f ∈ t, f.1.size ≤ 100000) (w : World) (hv : SlF w v t) (hB : Boxed w B 9 (.string p)) :
    CallsIn Fence.wide 0 Tryz.prog 114 #[v, .func (.func 97) #[] #[.pointer (some ⟨B, 0, none⟩)]] w fun e w' =>
      ((∃ k : Nat, e = .returned (.int .i64 (k : Int)) ∧ nested t p = true) ∨ (e = .returned (.int .i64 (-1)) ∧ nested t p = false)) ∧ Chg No w w' := by
  obtain ⟨p0, cap, rfl, _, hmx⟩ := hv.slice
  have hml : t.length ≤ 9223372036854775807 := by unfold maxLen at hmx; omega
  obtain ⟨n, HN⟩ : ∃ n, Hid (t.length = n) := ⟨_, rfl⟩
  rw [HN.out] at hv hml ⊢
  clear hmx
  obtain ⟨z, HZ⟩ : ∃ z, Hid (nested t p = z) := ⟨_, rfl⟩
  rw [HZ.out]
  have ef := isU_enters
  refine callsIn_of_wp Tryz.func114 rfl trivial ?_
  simp only [Tryz.ntmps114, List.size_toArray, List.length_cons, List.length_nil, Nat.reduceAdd, Nat.reduceSub, Array.replicate_succ, Array.replicate_zero, List.push_toArray, List.append_toArray, List.nil_append, List.cons_append]
  gi_wp2
  gi_loopw [8] (fun i wr => ∃ k : Nat, k ≤ n ∧ i = .int .i64 (k : Int) ∧ Hid (∀ f ∈ t.take k, under (Bs p) (Bs f.1) = false) ∧ Chg No w wr) (fun i _ => n - (intOf i).toNat)
  case atStart => exact ⟨0, Nat.zero_le _, rfl, fun f hf => by simp at hf, Chg.refl _ _⟩
  case round =>
    obtain ⟨k, hk, rfl, HT, c⟩ := hrel
    by_cases hlt : k < n
    · have hlt' : (k : Int) < (n : Int) := by omega
      have hkl : k < t.length := by rw [HN.out]; exact hlt
      obtain ⟨x, hx⟩ : ∃ x, t[k]? = some x := ⟨_, List.getElem?_eq_getElem hkl⟩
      obtain ⟨b1, o1, rfl, hc1, hc2⟩ := SlF.at (hv.no c) k x hx
      have U1 := isU_in x p B (hz x (List.mem_of_getElem? hx)) wr (c.boxed hB (fun h => h))
      obtain ⟨u, HU⟩ : ∃ u, Hid (under (Bs p) (Bs x.1) = u) := ⟨_, rfl⟩
      rw [HU.out] at U1
      gi_wp2_with fail
      refine ⟨trivial, rfl, U1.mono ?_⟩
      rintro e w1 ⟨rfl, c1⟩
      cases u with
      | true =>
        have HR : Hid (z = true) := by
          show _ = _
          rw [← HZ.out]
          exact nested_iff.2 ⟨x, List.mem_of_getElem? hx, HU.out⟩
        gi_wp2
        go_ret
        exact ⟨.inl ⟨k, rfl, HR.out⟩, Chg.seq c c1⟩
      | false =>
        have HT2 : Hid (∀ f ∈ t.take (k + 1), under (Bs p) (Bs f.1) = false) := by
          intro f hf
          rw [List.take_add_one, hx] at hf
          rcases List.mem_append.1 hf with h | h
          · exact HT.out f h
          · rw [List.mem_singleton.1 h]; exact HU.out
        gi_wp2
        refine ⟨⟨k + 1, hlt, by go_num, HT2, Chg.seq c c1⟩, by simp [intOf]; omega⟩
    · have hlt' : ¬ (k : Int) < (n : Int) := by omega
      have HR : Hid (z = false) := by
        show _ = _
        rw [← HZ.out]
        refine List.any_eq_false.2 (fun f hf => ?_)
        rw [HT.out f (by rw [List.take_of_length_le (by rw [HN.out]; omega)]; exact hf)]
        exact Bool.false_ne_true
      gi_wp2
      go_ret
      exact ⟨.inr ⟨rfl, HR.out⟩, c⟩

set_option maxHeartbeats 1000000 in
theorem containsU_in (v : Value) (t : List Fl) (p : ByteArray) (B : Nat) (hz : ∀ f ∈ t, f.1.size ≤ 100000) (w : World) (hv : SlF w v t) (hB : Boxed w B 9 (.string p)) :
    CallsIn Fence.wide 0 Tryz.prog 96 #[v, .func (.func 97) #[] #[.pointer (some ⟨B, 0, none⟩)]] w fun e w' =>
      e = .returned (.bool (nested t p)) ∧ Chg No w w' := by
  have I1 := indexU_in v t p B hz w hv hB
  generalize nested t p = z at I1 ⊢
  refine callsIn_of_wp Tryz.func96 rfl trivial ?_
  simp only [Tryz.ntmps96, List.size_toArray, List.length_cons, List.length_nil, Nat.reduceAdd, Nat.reduceSub, Array.replicate_succ, Array.replicate_zero, List.push_toArray, List.append_toArray, List.nil_append, List.cons_append]
  gi_wp2_with fail
  refine ⟨trivial, rfl, I1.mono ?_⟩
  rintro e w1 ⟨⟨k, rfl, rfl⟩ | ⟨rfl, rfl⟩, c1⟩
  · have hk : (0 : Int) ≤ (k : Int) := by omega
    gi_wp2
    go_ret
    exact ⟨by simp, c1⟩
  · gi_wp2
    go_ret
    exact ⟨by simp, c1⟩

set_option maxHeartbeats 1000000 in
theorem isUnder_in (v : Value) (t : List Fl) (p : ByteArray) (hz : ∀ f ∈ t, f.1.size ≤ 100000) (w : World) (hv : SlF w v t) :
    CallsIn Fence.wide 0 Tryz.prog 74 #[v, .string p] w fun e w' => e = .returned (.bool (nested t p)) ∧ Chg No w w' := by
  have c0 : Chg No w (w.alloc (.cells #[.string p] 9)) := (Chg.refl _ w).alloc _
  have C1 := containsU_in v t p w.heap.size hz _ (hv.no c0) (Boxed.new w 9 (.string p))
  generalize nested t p = z at C1 ⊢
  refine callsIn_of_wp Tryz.func74 rfl trivial ?_
  simp only [Tryz.ntmps74, List.size_toArray, List.length_cons, List.length_nil, Nat.reduceAdd, Nat.reduceSub, Array.replicate_succ, Array.replicate_zero, List.push_toArray, List.append_toArray, List.nil_append, List.cons_append]
  gi_wp2_with fail
  refine ⟨trivial, rfl, C1.mono ?_⟩
  rintro e w1 ⟨rfl, c1⟩
  gi_wp2
  go_ret
  exact ⟨rfl, Chg.seq c0 c1⟩

end Go.Proofs.YtakbeololabmhaaGreatDoor

end
