import Derived.Test.YtcnmbldikjljeaaGreatDoorT01
namespace Go.Proofs.YtcnmbldikjljeaaGreatDoor

/-- the stages keep to their bounds -/
def StOk (st : List Stg) : Prop := ∀ i : Nat, i < st.length → (stAt st i).levels.length ≤ 4 ∧ (∀ k : Nat, k < (stAt st i).levels.length → 1 ≤ (lvAt (stAt st i) k).1 ∧ (lvAt (stAt st i) k).1 ≤ 20000) ∧ (stAt st i).next.length ≤ 140737488351232 ∧ ∀ y ∈ (stAt st i).next, 0 ≤ y ∧ y < st.length
/-- a case keeps to its bounds -/
structure CsOk (st : List Stg) (x : Cs) : Prop where
  s0 : 0 ≤ x.stage
  s1 : x.stage < st.length
  l0 : 0 ≤ x.level
  l1 : x.level ≤ 4
  d0 : -1 ≤ x.due
  d1 : x.due ≤ 100800
  dl : 0 ≤ x.due → x.level < (stAt st x.stage).levels.length
  r0 : 0 ≤ x.rest
  r1 : x.rest ≤ 20000
/-- a docket keeps to its bounds -/
structure DkOk (F : Nat → Bool) (st : List Stg) (d : Dk) (N : Int) : Prop where
  t0 : 0 ≤ d.time
  t1 : d.time ≤ 100800
  m0 : 0 ≤ d.made
  m1 : d.made ≤ N
  k0 : 0 ≤ d.told
  k1 : d.told ≤ N
  len : d.cases.length ≤ 20
  cs : ∀ x ∈ d.cases, CsOk st x
  du : ∀ x ∈ d.cases, 0 ≤ x.due → d.time ≤ x.due ∧ cnt F x.due.toNat - cnt F d.time.toNat ≤ 20000
section
variable {F : Nat → Bool} {st : List Stg} {x : Cs} {t n level : Int}
theorem arms_stage : (armsL F x t n).stage = x.stage ∧ (armsL F x t n).rest = x.rest ∧ (armsL F x t n).held = x.held ∧ (armsL F x t n).id = x.id := by
  unfold armsL; split <;> simp
theorem arms_due (h1 : t ≤ 100800) : (armsL F x t n).due = -1 ∧ (armsL F x t n).level = 0 ∨ AddN F t n (armsL F x t n).due ∧ (armsL F x t n).level = x.level := by
  cases e : addO F t n with
  | none => left; unfold armsL; rw [e]; simp
  | some y => right; unfold armsL; rw [e]; exact ⟨addO_some h1 e, rfl⟩
theorem comes_stage : (comesL F st x level t).stage = x.stage ∧ (comesL F st x level t).rest = x.rest ∧ (comesL F st x level t).held = x.held ∧ (comesL F st x level t).id = x.id := by
  unfold comesL; split
  · simp
  · exact arms_stage
theorem comes_due (hs : StOk st) (s0 : 0 ≤ x.stage) (s1 : x.stage < st.length) (l0 : 0 ≤ level) (h1 : t ≤ 100800) :
    (comesL F st x level t).due = -1 ∧ (comesL F st x level t).level = 0 ∨
    ∃ m, 1 ≤ m ∧ m ≤ 20000 ∧ AddN F t m (comesL F st x level t).due ∧ (comesL F st x level t).level = level ∧ level < (stAt st x.stage).levels.length := by
  unfold comesL
  split
  · left; simp
  · rename_i h
    have hst := hs x.stage.toNat (by omega)
    rw [show ((x.stage.toNat : Nat) : Int) = x.stage by omega] at hst
    have hk := hst.2.1 level.toNat (by omega)
    rw [show ((level.toNat : Nat) : Int) = level by omega] at hk
    rcases arms_due (F := F) (x := { x with level := level }) (n := (lvAt (stAt st x.stage) level).1) h1 with a | a
    · left; exact a
    · right; exact ⟨_, hk.1, hk.2, a.1, a.2, by omega⟩
theorem comes_ok (hs : StOk st) (s0 : 0 ≤ x.stage) (s1 : x.stage < st.length) (r0 : 0 ≤ x.rest) (r1 : x.rest ≤ 20000) (l0 : 0 ≤ level) (h0 : 0 ≤ t) (h1 : t ≤ 100800) :
    CsOk st (comesL F st x level t) ∧ (0 ≤ (comesL F st x level t).due → t < (comesL F st x level t).due ∧ cnt F (comesL F st x level t).due.toNat - cnt F t.toNat ≤ 20000) := by
  obtain ⟨e1, e2, _, _⟩ := comes_stage (F := F) (st := st) (x := x) (level := level) (t := t)
  have hst := hs x.stage.toNat (by omega)
  rw [show ((x.stage.toNat : Nat) : Int) = x.stage by omega] at hst
  rcases comes_due (F := F) hs s0 s1 l0 h1 with ⟨a1, a2⟩ | ⟨m, m0, m1, a1, a2, a3⟩
  · exact ⟨⟨by omega, by omega, by omega, by omega, by omega, by omega, fun h => by omega, by omega, by omega⟩, fun h => by omega⟩
  · obtain ⟨b1, b2, b3, _⟩ := a1
    have hne : t < (comesL F st x level t).due := by
      by_cases h : t < (comesL F st x level t).due
      · exact h
      · have : (comesL F st x level t).due = t := by omega
        rw [this] at b3; omega
    exact ⟨⟨by omega, by omega, by omega, by have := hst.1; omega, by omega, by omega, fun _ => by rw [a2, e1]; exact a3, by omega, by omega⟩, fun _ => ⟨hne, by omega⟩⟩
end
/-- Open keeps the bounds -/
theorem open_ok {F : Nat → Bool} {st : List Stg} {d : Dk} {N : Int} (h : DkOk F st d N) (hs : StOk st) (stage : Int) : DkOk F st (openC F st d stage).1 (N + 1) := by
  have hN : DkOk F st d (N + 1) := { h with m1 := by have := h.m1; omega, k1 := by have := h.k1; omega }
  unfold openC
  split
  · exact hN
  · rename_i hr
    split
    · exact hN
    · rename_i hl
      have hr : 0 ≤ stage ∧ stage < st.length := by omega
      have ok := comes_ok (F := F) (x := ⟨d.made + 1, stage, 0, 0, false, 0⟩) hs hr.1 hr.2 (by simp) (by simp) (level := 0) (by omega) h.t0 h.t1
      refine { hN with m0 := by have := h.m0; simp; omega, m1 := by have := h.m1; simp; omega, len := by simp; omega, cs := fun x hx => ?_, du := fun x hx => ?_ }
      · rcases List.mem_append.1 hx with a | a
        · exact h.cs x a
        · rw [List.mem_singleton] at a; subst a; exact ok.1
      · rcases List.mem_append.1 hx with a | a
        · exact h.du x a
        · rw [List.mem_singleton] at a; subst a
          intro hd
          have := ok.2 hd
          exact ⟨by simp; omega, this.2⟩
end Go.Proofs.YtcnmbldikjljeaaGreatDoor
namespace Go.Proofs.YtcnmbldikjljeaaGreatDoor

section
variable {F : Nat → Bool} {st : List Stg} {l : List Cs} {x : Cs} {T k : Int}
theorem csAt_nat {i : Nat} (h : i < l.length) : csAt l i = l[i] := by
  unfold csAt; rw [Int.toNat_natCast, List.getD_eq_getElem?_getD, List.getElem?_eq_getElem h]; rfl
theorem leftL_set (l : List Cs) (i : Nat) (h : i < l.length) (y : Cs) : leftL st (l.set i y) + leftOf st (csAt l i) = leftL st l + leftOf st y := by
  induction l generalizing i with
  | nil => simp at h
  | cons z l ih =>
    cases i with
    | zero => simp [leftL, csAt]; omega
    | succ i =>
      have hi : i < l.length := by simpa using h
      have := ih i hi
      rw [csAt_nat hi] at this
      rw [csAt_nat h]
      simp only [leftL, List.set_cons_succ, List.map_cons, List.sum_cons, List.getElem_cons_succ] at this ⊢
      omega
theorem leftOf_le (hs : StOk st) (h : CsOk st x) : leftOf st x ≤ 4 := by
  unfold leftOf
  split
  · have := hs x.stage.toNat (by have := h.s0; have := h.s1; omega)
    rw [show ((x.stage.toNat : Nat) : Int) = x.stage by have := h.s0; omega] at this
    omega
  · omega
theorem leftL_le (hs : StOk st) (l : List Cs) (h : ∀ x ∈ l, CsOk st x) : leftL st l ≤ 4 * l.length := by
  induction l with
  | nil => simp [leftL]
  | cons z l ih =>
    have h1 := ih (fun x hx => h x (List.mem_cons_of_mem _ hx))
    have h2 := leftOf_le hs (h z (by simp))
    simp only [leftL, List.map_cons, List.sum_cons, List.length_cons] at h1 ⊢
    omega
/-- one level fewer is to come -/
theorem comes_left (hs : StOk st) (h : CsOk st x) (hd : 0 ≤ x.due) : leftOf st (comesL F st x (x.level + 1) x.due) + 1 ≤ leftOf st x := by
  have hl := h.dl hd
  have l0 := h.l0
  have e0 : leftOf st x = (stAt st x.stage).levels.length - x.level.toNat := by unfold leftOf; rw [if_pos hd]
  obtain ⟨e1, _, _, _⟩ := comes_stage (F := F) (st := st) (x := x) (level := x.level + 1) (t := x.due)
  rcases comes_due (F := F) hs h.s0 h.s1 (level := x.level + 1) (by omega) h.d1 with ⟨a1, a2⟩ | ⟨m, _, _, a1, a2, a3⟩
  · have : leftOf st (comesL F st x (x.level + 1) x.due) = 0 := by unfold leftOf; rw [if_neg (by omega)]
    omega
  · have hd2 : 0 ≤ (comesL F st x (x.level + 1) x.due).due := by have := a1.1; omega
    have : leftOf st (comesL F st x (x.level + 1) x.due) = (stAt st x.stage).levels.length - (x.level + 1).toNat := by unfold leftOf; rw [if_pos hd2, e1, a2]
    omega
theorem nextTo_bd (l : List Cs) (k : Nat) : -1 ≤ nextTo l k ∧ nextTo l k < k ∧ (0 ≤ nextTo l k → 0 ≤ (csAt l (nextTo l k)).due) := by
  induction k with
  | zero => simp [nextTo]
  | succ k ih =>
    simp only [nextTo]
    split
    · rename_i h
      exact ⟨by omega, by omega, fun _ => h.1⟩
    · exact ⟨ih.1, by omega, ih.2.2⟩
/-- the least time of all that are due -/
theorem nextTo_least (l : List Cs) (k : Nat) : ∀ i : Nat, i < k → 0 ≤ (csAt l i).due → 0 ≤ nextTo l k ∧ (csAt l (nextTo l k)).due ≤ (csAt l i).due ∧ ((csAt l i).due = (csAt l (nextTo l k)).due → nextTo l k ≤ i) := by
  induction k with
  | zero => intro i h; omega
  | succ k ih =>
    intro i hi hd
    simp only [nextTo]
    by_cases hk : i = k
    · subst hk
      split
      · exact ⟨by omega, by omega, fun _ => by omega⟩
      · rename_i h
        have h1 : 0 ≤ nextTo l i := by
          apply Int.not_lt.1
          intro g; exact h ⟨hd, .inl g⟩
        have h2 : (csAt l (nextTo l i)).due ≤ (csAt l i).due := by
          apply Int.not_lt.1
          intro g; exact h ⟨hd, .inr g⟩
        have := (nextTo_bd l i).2.1
        exact ⟨h1, h2, fun _ => by omega⟩
    · obtain ⟨a, b, c⟩ := ih i (by omega) hd
      split
      · rename_i h
        have : (csAt l k).due < (csAt l (nextTo l k)).due := by
          rcases h.2 with g | g
          · omega
          · exact g
        exact ⟨by omega, by omega, fun e => by omega⟩
      · exact ⟨a, b, c⟩
theorem set_mem {l : List Cs} {i : Nat} {y z : Cs} (h : z ∈ l.set i y) : z = y ∨ z ∈ l := by
  rcases List.mem_or_eq_of_mem_set h with a | a
  · exact .inr a
  · exact .inl a
/-- a step of Tick -/
theorem tick_step (hs : StOk st) (hok : ∀ x ∈ l, CsOk st x) (h1 : 0 ≤ nextL l) (_h2 : (csAt l (nextL l)).due ≤ T) :
    ∃ i : Nat, nextL l = i ∧ i < l.length ∧ CsOk st (csAt l i) ∧ 0 ≤ (csAt l i).due ∧ (∀ x ∈ l.set i (comesL F st (csAt l i) ((csAt l i).level + 1) (csAt l i).due), CsOk st x) ∧ leftL st (l.set i (comesL F st (csAt l i) ((csAt l i).level + 1) (csAt l i).due)) + 1 ≤ leftL st l := by
  have hb := nextTo_bd l l.length
  have hi : (nextL l).toNat < l.length := by unfold nextL at *; omega
  have e : nextL l = ((nextL l).toNat : Nat) := by omega
  have hd : 0 ≤ (csAt l (nextL l)).due := hb.2.2 h1
  rw [e] at hd
  have hm : csAt l ((nextL l).toNat : Nat) ∈ l := by rw [csAt_nat hi]; exact List.getElem_mem hi
  have hx := hok _ hm
  refine ⟨(nextL l).toNat, e, hi, hx, hd, fun x hxm => ?_, ?_⟩
  · rcases set_mem hxm with rfl | a
    · exact (comes_ok (F := F) hs hx.s0 hx.s1 hx.r0 hx.r1 (by have := hx.l0; omega) hd hx.d1).1
    · exact hok x a
  · have := leftL_set (st := st) l _ hi (comesL F st (csAt l ((nextL l).toNat : Nat)) ((csAt l ((nextL l).toNat : Nat)).level + 1) (csAt l ((nextL l).toNat : Nat)).due)
    have := comes_left (F := F) hs hx hd
    omega
/-- more fuel changes nothing -/
theorem tick_fuel (hs : StOk st) (m : Nat) : ∀ (l : List Cs) (k : Int) (f1 f2 : Nat), (∀ x ∈ l, CsOk st x) → leftL st l ≤ m → leftL st l ≤ f1 → leftL st l ≤ f2 → tickGo F st T f1 l k = tickGo F st T f2 l k := by
  have stop : ∀ (l : List Cs) (k : Int) (f : Nat), (nextL l < 0 ∨ T < (csAt l (nextL l)).due) → tickGo F st T f l k = ([], l, k) := by
    intro l k f hc
    cases f with
    | zero => rfl
    | succ f => simp only [tickGo]; rw [if_pos hc]
  induction m with
  | zero =>
    intro l k f1 f2 hok hm h1 h2
    by_cases hc : nextL l < 0 ∨ T < (csAt l (nextL l)).due
    · rw [stop l k f1 hc, stop l k f2 hc]
    · obtain ⟨i, e, hi, _, _, hok', hlt⟩ := tick_step (F := F) (T := T) hs hok (by omega) (by omega)
      omega
  | succ m ih =>
    intro l k f1 f2 hok hm h1 h2
    by_cases hc : nextL l < 0 ∨ T < (csAt l (nextL l)).due
    · rw [stop l k f1 hc, stop l k f2 hc]
    · obtain ⟨i, e, hi, _, _, hok', hlt⟩ := tick_step (F := F) (T := T) hs hok (by omega) (by omega)
      obtain ⟨a, rfl⟩ : ∃ a, f1 = a + 1 := ⟨f1 - 1, by omega⟩
      obtain ⟨b, rfl⟩ : ∃ b, f2 = b + 1 := ⟨f2 - 1, by omega⟩
      simp only [tickGo]
      rw [if_neg hc, if_neg hc]
      have e1 := ih (setC l (nextL l) (comesL F st (csAt l (nextL l)) ((csAt l (nextL l)).level + 1) (csAt l (nextL l)).due)) (k + 1) a b (by rw [e]; unfold setC; rw [Int.toNat_natCast]; exact hok') (by rw [e]; unfold setC; rw [Int.toNat_natCast]; omega) (by rw [e]; unfold setC; rw [Int.toNat_natCast]; omega) (by rw [e]; unfold setC; rw [Int.toNat_natCast]; omega)
      rw [e1]
/-- Tick's loop: where it ends -/
theorem tick_done (hc : nextL l < 0 ∨ T < (csAt l (nextL l)).due) (f : Nat) : tickGo F st T f l k = ([], l, k) := by
  cases f with
  | zero => rfl
  | succ f => simp only [tickGo]; rw [if_pos hc]
/-- .. where it goes on -/
theorem tick_more (hs : StOk st) (hok : ∀ x ∈ l, CsOk st x) {i : Nat} (e : nextL l = i) (h2 : (csAt l i).due ≤ T) :
    tickGo F st T (leftL st l) l k = (evOf st (csAt l i) (k + 1) :: (tickGo F st T (leftL st (l.set i (comesL F st (csAt l i) ((csAt l i).level + 1) (csAt l i).due))) (l.set i (comesL F st (csAt l i) ((csAt l i).level + 1) (csAt l i).due)) (k + 1)).1,
      (tickGo F st T (leftL st (l.set i (comesL F st (csAt l i) ((csAt l i).level + 1) (csAt l i).due))) (l.set i (comesL F st (csAt l i) ((csAt l i).level + 1) (csAt l i).due)) (k + 1)).2) := by
  obtain ⟨i', e', hi, _, _, hok', hlt⟩ := tick_step (F := F) (T := T) hs hok (by omega) (by rw [e]; exact h2)
  obtain rfl : i' = i := by omega
  obtain ⟨m, hm⟩ : ∃ m, leftL st l = m + 1 := ⟨leftL st l - 1, by omega⟩
  rw [hm]
  simp only [tickGo]
  rw [if_neg (by rw [e]; omega), e]
  unfold setC
  rw [Int.toNat_natCast, tick_fuel hs (leftL st l) _ (k + 1) m (leftL st (l.set i' (comesL F st (csAt l i') ((csAt l i').level + 1) (csAt l i').due))) hok' (by omega) (by omega) (Nat.le_refl _)]
end
end Go.Proofs.YtcnmbldikjljeaaGreatDoor
namespace Go.Proofs.YtcnmbldikjljeaaGreatDoor

section
variable {F : Nat → Bool} {st : List Stg} {d : Dk} {N : Int}
theorem find_mem (d : Dk) (id : Int) (h : ¬ findL d.cases id < 0) : csAt d.cases (findL d.cases id) ∈ d.cases := by
  rcases findL_bd d.cases id with a | ⟨i, e, hi⟩
  · omega
  · rw [e, csAt_nat hi]; exact List.getElem_mem hi
theorem DkOk.set (h : DkOk F st d N) (i : Nat) (y : Cs) (hy : CsOk st y) (hd : 0 ≤ y.due → d.time ≤ y.due ∧ cnt F y.due.toNat - cnt F d.time.toNat ≤ 20000) : DkOk F st { d with cases := d.cases.set i y } N :=
  { h with
    len := by simpa using h.len
    cs := fun x hx => by
      rcases List.mem_or_eq_of_mem_set hx with a | a
      · exact h.cs x a
      · rw [a]; exact hy
    du := fun x hx => by
      rcases List.mem_or_eq_of_mem_set hx with a | a
      · exact h.du x a
      · rw [a]; exact hd }
theorem close_ok (h : DkOk F st d N) (id : Int) : DkOk F st (closeC d id).1 N := by
  unfold closeC
  split
  · exact h
  · exact { h with len := Nat.le_trans (List.length_eraseIdx_le _ _) h.len, cs := fun x hx => h.cs x (List.mem_of_mem_eraseIdx hx), du := fun x hx => h.du x (List.mem_of_mem_eraseIdx hx) }
theorem move_ok (h : DkOk F st d N) (hs : StOk st) (id stage : Int) : DkOk F st (moveC F st d id stage).1 N := by
  unfold moveC
  split
  · exact h
  rename_i hf
  split
  · exact h
  split
  · exact h
  rename_i hn
  have hx := h.cs _ (find_mem d id hf)
  generalize csAt d.cases (findL d.cases id) = x at *
  have hst := hs x.stage.toNat (by have := hx.s0; have := hx.s1; omega)
  rw [show ((x.stage.toNat : Nat) : Int) = x.stage by have := hx.s0; omega] at hst
  have hm := hst.2.2.2 stage ((hasI_iff _ _).1 (by simpa using hn))
  have ok := comes_ok (F := F) (x := { x with stage := stage }) hs hm.1 hm.2 hx.r0 hx.r1 (level := 0) (by omega) h.t0 h.t1
  exact h.set _ _ ok.1 (fun hd => ⟨Int.le_of_lt (ok.2 hd).1, (ok.2 hd).2⟩)
theorem hold_ok (h : DkOk F st d N) (id : Int) : DkOk F st (holdC F d id).1 N := by
  unfold holdC
  split
  · exact h
  rename_i hf
  split
  · exact h
  have hm := find_mem d id hf
  have hx := h.cs _ hm
  have hdu := h.du _ hm
  generalize csAt d.cases (findL d.cases id) = x at *
  split
  · rename_i hd
    have hc := (hdu hd).2
    have hmono : cnt F d.time.toNat ≤ cnt F x.due.toNat := (cnt_mono F (hdu hd).1 h.t0).1
    exact h.set _ _ ⟨hx.s0, hx.s1, hx.l0, hx.l1, by simp, by simp, fun h => by simp at h, by simp; omega, by simp; omega⟩ (fun h => by simp at h)
  · exact h.set _ _ ⟨hx.s0, hx.s1, hx.l0, hx.l1, hx.d0, hx.d1, hx.dl, hx.r0, hx.r1⟩ hdu
/-- what arms leaves -/
theorem arms_ok {x : Cs} {t n : Int} (s0 : 0 ≤ x.stage) (s1 : x.stage < st.length) (l0 : 0 ≤ x.level) (l4 : x.level ≤ 4) (hl : x.level < (stAt st x.stage).levels.length) (n0 : 1 ≤ n) (n1 : n ≤ 20000) (h0 : 0 ≤ t) (h1 : t ≤ 100800) :
    CsOk st { armsL F x t n with rest := 0 } ∧ (0 ≤ (armsL F x t n).due → t ≤ (armsL F x t n).due ∧ cnt F (armsL F x t n).due.toNat - cnt F t.toNat ≤ 20000) := by
  unfold armsL
  split
  · rename_i y hy
    obtain ⟨b1, b2, b3, _⟩ := addO_some h1 hy
    exact ⟨⟨s0, s1, l0, l4, by simp only; omega, b2, fun _ => hl, by simp, by simp⟩, fun _ => ⟨b1, by simp only; omega⟩⟩
  · exact ⟨⟨s0, s1, by simp, by simp, by simp, by simp, fun h => by simp at h, by simp, by simp⟩, fun h => by simp at h⟩
/-- a case with a rest is held, nothing of it is due, and its level is one of its stage's -/
def RestOk (st : List Stg) (x : Cs) : Prop := 0 < x.rest → x.held = true ∧ x.due = -1 ∧ x.level < (stAt st x.stage).levels.length
def DkR (st : List Stg) (d : Dk) : Prop := ∀ x ∈ d.cases, RestOk st x
theorem DkR.set (h : DkR st d) (i : Nat) (y : Cs) (hy : RestOk st y) : DkR st { d with cases := d.cases.set i y } := fun x hx => by
  rcases List.mem_or_eq_of_mem_set hx with a | a
  · exact h x a
  · rw [a]; exact hy
theorem resume_ok (h : DkOk F st d N) (hr : DkR st d) (id : Int) : DkOk F st (resumeC F d id).1 N ∧ DkR st (resumeC F d id).1 := by
  unfold resumeC
  split
  · exact ⟨h, hr⟩
  rename_i hf
  split
  · exact ⟨h, hr⟩
  have hm := find_mem d id hf
  have hx := h.cs _ hm
  have hdu := h.du _ hm
  have hrx := hr _ hm
  generalize csAt d.cases (findL d.cases id) = x at *
  split
  · rename_i hp
    obtain ⟨_, _, hl⟩ := hrx hp
    have ok := arms_ok (F := F) (st := st) (x := { x with held := false }) (t := d.time) (n := x.rest) hx.s0 hx.s1 hx.l0 hx.l1 hl (by omega) hx.r1 h.t0 h.t1
    exact ⟨h.set _ _ ok.1 ok.2, hr.set _ _ (fun h => by simp at h)⟩
  · rename_i hp
    exact ⟨h.set _ _ ⟨hx.s0, hx.s1, hx.l0, hx.l1, hx.d0, hx.d1, hx.dl, hx.r0, hx.r1⟩ hdu, hr.set _ _ (fun h => absurd h hp)⟩
theorem hold_rest (h : DkOk F st d N) (hr : DkR st d) (id : Int) : DkR st (holdC F d id).1 := by
  unfold holdC
  split
  · exact hr
  rename_i hf
  split
  · exact hr
  rename_i hh
  have hm := find_mem d id hf
  have hx := h.cs _ hm
  have hrx := hr _ hm
  generalize csAt d.cases (findL d.cases id) = x at *
  split
  · rename_i hd
    exact hr.set _ _ (fun _ => ⟨rfl, rfl, hx.dl hd⟩)
  · exact hr.set _ _ (fun hp => absurd (hrx hp).1 hh)
theorem comes_rest (x : Cs) (level t : Int) (hx : ¬ 0 < x.rest) : RestOk st (comesL F st x level t) := fun h => by
  obtain ⟨_, e2, _, _⟩ := comes_stage (F := F) (st := st) (x := x) (level := level) (t := t)
  rw [e2] at h
  exact absurd h hx
theorem open_rest (hr : DkR st d) (stage : Int) : DkR st (openC F st d stage).1 := by
  unfold openC
  split
  · exact hr
  split
  · exact hr
  · intro x hx
    rcases List.mem_append.1 hx with a | a
    · exact hr x a
    · rw [List.mem_singleton] at a; subst a
      exact comes_rest _ _ _ (by simp)
theorem move_rest (hr : DkR st d) (id stage : Int) : DkR st (moveC F st d id stage).1 := by
  unfold moveC
  split
  · exact hr
  rename_i hf
  split
  · exact hr
  rename_i hh
  split
  · exact hr
  have hrx := hr _ (find_mem d id hf)
  generalize csAt d.cases (findL d.cases id) = x at *
  exact hr.set _ _ (comes_rest _ _ _ (fun hp => hh (hrx hp).1))
theorem close_rest (hr : DkR st d) (id : Int) : DkR st (closeC d id).1 := by
  unfold closeC
  split
  · exact hr
  · exact fun x hx => hr x (List.mem_of_mem_eraseIdx hx)
/-- where Tick's loop ends, all that is due is due later -/
theorem tick_late {l : List Cs} {T : Int} (hc : nextL l < 0 ∨ T < (csAt l (nextL l)).due) : ∀ x ∈ l, 0 ≤ x.due → T < x.due := by
  intro x hx hd
  obtain ⟨i, hi, rfl⟩ := List.getElem_of_mem hx
  have e := csAt_nat hi
  obtain ⟨a, b, _⟩ := nextTo_least l l.length i hi (by rw [e]; exact hd)
  rw [e] at b
  unfold nextL at hc
  omega
/-- what stands of a case while Tick goes on -/
def TkOk (F : Nat → Bool) (st : List Stg) (T : Int) (x : Cs) : Prop := CsOk st x ∧ RestOk st x ∧ (0 ≤ x.due → x.due ≤ T ∨ cnt F x.due.toNat - cnt F T.toNat ≤ 20000)
theorem tickGo_ok (hs : StOk st) {T : Int} : ∀ (f : Nat) (l : List Cs) (k : Int), (∀ x ∈ l, TkOk F st T x) → leftL st l ≤ f →
    (∀ x ∈ (tickGo F st T f l k).2.1, CsOk st x ∧ RestOk st x ∧ (0 ≤ x.due → T ≤ x.due ∧ cnt F x.due.toNat - cnt F T.toNat ≤ 20000)) ∧ (tickGo F st T f l k).2.1.length = l.length ∧ k ≤ (tickGo F st T f l k).2.2 ∧ (tickGo F st T f l k).2.2 ≤ k + leftL st l ∧ (tickGo F st T f l k).1.length ≤ leftL st l := by
  have stop : ∀ (f : Nat) (l : List Cs) (k : Int), (∀ x ∈ l, TkOk F st T x) → (nextL l < 0 ∨ T < (csAt l (nextL l)).due) →
      (∀ x ∈ (tickGo F st T f l k).2.1, CsOk st x ∧ RestOk st x ∧ (0 ≤ x.due → T ≤ x.due ∧ cnt F x.due.toNat - cnt F T.toNat ≤ 20000)) ∧ (tickGo F st T f l k).2.1.length = l.length ∧ k ≤ (tickGo F st T f l k).2.2 ∧ (tickGo F st T f l k).2.2 ≤ k + leftL st l ∧ (tickGo F st T f l k).1.length ≤ leftL st l := by
    intro f l k hok hc
    rw [tick_done hc]
    refine ⟨fun x hx => ⟨(hok x hx).1, (hok x hx).2.1, fun hd => ?_⟩, rfl, Int.le_refl _, by simp only; omega, by simp⟩
    have h1 := tick_late hc x hx hd
    have h2 := (hok x hx).2.2 hd
    omega
  intro f
  induction f with
  | zero =>
    intro l k hok hf
    by_cases hc : nextL l < 0 ∨ T < (csAt l (nextL l)).due
    · exact stop 0 l k hok hc
    · obtain ⟨i, e, hi, _, _, hok', hlt⟩ := tick_step (F := F) (T := T) hs (fun x hx => (hok x hx).1) (by omega) (by omega)
      omega
  | succ f ih =>
    intro l k hok hf
    by_cases hc : nextL l < 0 ∨ T < (csAt l (nextL l)).due
    · exact stop _ l k hok hc
    · obtain ⟨i, e, hi, hx, hd, hok', hlt⟩ := tick_step (F := F) (T := T) hs (fun x hx => (hok x hx).1) (by omega) (by omega)
      have hT : (csAt l i).due ≤ T := by rw [e] at hc; omega
      have hm : csAt l i ∈ l := by rw [csAt_nat hi]; exact List.getElem_mem hi
      have hrx := (hok _ hm).2.1
      simp only [tickGo]
      rw [if_neg hc, e]
      unfold setC
      rw [Int.toNat_natCast]
      generalize csAt l i = x at *
      have ok := comes_ok (F := F) hs hx.s0 hx.s1 hx.r0 hx.r1 (level := x.level + 1) (by have := hx.l0; omega) hd hx.d1
      have hr2 : RestOk st (comesL F st x (x.level + 1) x.due) := comes_rest _ _ _ (fun hp => by have := (hrx hp).2.1; omega)
      have hmono := (cnt_mono F hT hd).1
      have hall : ∀ z ∈ l.set i (comesL F st x (x.level + 1) x.due), TkOk F st T z := fun z hz => by
        rcases set_mem hz with rfl | a
        · exact ⟨ok.1, hr2, fun h => by right; have := (ok.2 h).2; omega⟩
        · exact hok z a
      obtain ⟨a1, a2, a3, a4, a5⟩ := ih (l.set i (comesL F st x (x.level + 1) x.due)) (k + 1) hall (by omega)
      refine ⟨a1, by rw [a2, List.length_set], by simp only; omega, by simp only; omega, by rw [List.length_cons]; omega⟩
theorem tick_ok (h : DkOk F st d N) (hr : DkR st d) (hs : StOk st) (n : Int) : DkOk F st (tickC F st d n).1 (N + 80) ∧ DkR st (tickC F st d n).1 ∧ (tickC F st d n).2.1.length ≤ 80 := by
  have hN : DkOk F st d (N + 80) := { h with m1 := by have := h.m1; omega, k1 := by have := h.k1; omega }
  unfold tickC
  split
  · exact ⟨hN, hr, by simp⟩
  rename_i hn
  have t0 := h.t0
  have hall : ∀ x ∈ d.cases, TkOk F st (d.time + n) x := fun x hx => ⟨h.cs x hx, hr x hx, fun hd => by
    right
    have := (h.du x hx hd).2
    have := (cnt_mono F (show d.time ≤ d.time + n by omega) t0).1
    omega⟩
  have hl := leftL_le hs d.cases h.cs
  have hlen := h.len
  obtain ⟨a1, a2, a3, a4, a5⟩ := tickGo_ok (F := F) hs (leftL st d.cases) d.cases d.told hall (Nat.le_refl _)
  exact ⟨{ hN with t0 := by simp only; omega, t1 := by simp only; omega, k0 := by have := h.k0; simp only; omega, k1 := by have := h.k1; simp only; omega, len := by simp only; omega, cs := fun x hx => (a1 x hx).1, du := fun x hx => (a1 x hx).2.2 }, fun x hx => (a1 x hx).2.1, by simp only; omega⟩
/-- stages that Check takes keep the bounds, if no list of nexts is too long -/
theorem check_stok (h : checkL st = true) (hn : ∀ i : Nat, i < st.length → (stAt st i).next.length ≤ 140737488351232) : StOk st ∧ 1 ≤ st.length ∧ st.length ≤ 6 := by
  simp only [checkL, Bool.and_eq_true, decide_eq_true_eq, List.all_eq_true] at h
  refine ⟨fun i hi => ?_, h.1.1, h.1.2⟩
  have hs := h.2 (stAt st i) (by simp [stAt, hi])
  have hni := hn i hi
  generalize stAt st i = s at *
  simp only [stgOk, Bool.and_eq_true, decide_eq_true_eq, List.all_eq_true] at hs
  refine ⟨hs.1.1, fun k hk => ?_, hni, fun y hy => hs.2 y hy⟩
  have := hs.1.2 s.levels[k] (List.getElem_mem hk)
  simp only [lvAt, Int.toNat_natCast, List.getD_eq_getElem?_getD, List.getElem?_eq_getElem hk, Option.getD_some]
  exact this.1
theorem empty_ok : DkOk F st ⟨0, 0, 0, []⟩ 0 ∧ DkR st ⟨0, 0, 0, []⟩ :=
  ⟨⟨by simp, by simp, by simp, by simp, by simp, by simp, by simp, fun x hx => by simp at hx, fun x hx => by simp at hx⟩, fun x hx => by simp at hx⟩
end
end Go.Proofs.YtcnmbldikjljeaaGreatDoor
