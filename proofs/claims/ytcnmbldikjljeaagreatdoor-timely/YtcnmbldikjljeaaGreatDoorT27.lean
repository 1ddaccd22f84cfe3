import Derived.Test.YtcnmbldikjljeaaGreatDoorT25
import Derived.Test.YtcnmbldikjljeaaGreatDoorTKwA
namespace Go.Proofs.YtcnmbldikjljeaaGreatDoor

/-- what somebody knows who looks on -/
structure Wt where
  since : Int
  togo : Int
  stage : Int
  level : Int
  there : Bool
  on : Bool
  held : Bool
def wt0 : Wt := ⟨0, 0, 0, 0, false, false, false⟩
def upd (w : Nat → Wt) (j : Nat) (k : Wt) : Nat → Wt := fun i => if i = j then k else w i
theorem upd_at (w : Nat → Wt) (j : Nat) (k : Wt) : upd w j k j = k := by simp [upd]
theorem upd_ne (w : Nat → Wt) {j i : Nat} (k : Wt) (h : i ≠ j) : upd w j k i = w i := by simp [upd, h]
def entersW (st : List Stg) (k : Wt) (stage now : Int) : Wt := { k with stage := stage, level := 0, since := now, on := decide (0 < ((stAt st stage).levels.length : Int)), togo := if 0 < ((stAt st stage).levels.length : Int) then (lvAt (stAt st stage) 0).1 else k.togo }
def tellW (st : List Stg) (k : Wt) (t : Int) : Wt := { k with level := k.level + 1, since := t, on := decide (k.level + 1 < ((stAt st k.stage).levels.length : Int)), togo := if k.level + 1 < ((stAt st k.stage).levels.length : Int) then (lvAt (stAt st k.stage) (k.level + 1)).1 else k.togo }
def holdW (F : Nat → Bool) (k : Wt) (now : Int) : Wt := { k with togo := k.togo - (cnt F now.toNat - cnt F k.since.toNat), held := true }
def resumeW (k : Wt) (now : Int) : Wt := { k with held := false, since := now }
/-- what is known of a case is so -/
structure WR (F : Nat → Bool) (st : List Stg) (t : Int) (x : Cs) (k : Wt) : Prop where
  there : k.there = true
  held : k.held = x.held
  stage : k.stage = x.stage
  s0 : 0 ≤ k.since
  s1 : k.since ≤ t
  off : k.on = false → x.due < 0 ∧ ¬ 0 < x.rest
  run : k.on = true → k.held = false → (x.due < 0 ∧ cnt F 100800 - cnt F k.since.toNat < k.togo) ∨ (0 ≤ x.due ∧ k.level = x.level ∧ AddN F k.since k.togo x.due ∧ 0 < k.togo)
  hd : k.held = true → x.due < 0
  stop : k.on = true → k.held = true → (¬ 0 < x.rest ∧ cnt F 100800 - cnt F t.toNat < k.togo) ∨ (0 < x.rest ∧ k.level = x.level ∧ k.togo = x.rest)
  nr : k.held = false → ¬ 0 < x.rest
  lo : k.held = false → - k.since ≤ k.togo
  lh : k.held = true → - t ≤ k.togo
  hi : k.togo ≤ 20000
section
variable {F : Nat → Bool} {st : List Stg} {t u : Int} {x y : Cs} {k : Wt}
theorem WR.later (h : WR F st t x k) (hu : t ≤ u) (h0 : 0 ≤ t) : WR F st u x k := by
  refine ⟨h.there, h.held, h.stage, h.s0, Int.le_trans h.s1 hu, h.off, h.run, h.hd, fun a b => ?_, h.nr, h.lo, fun a => by have := h.lh a; omega, h.hi⟩
  rcases h.stop a b with ⟨c1, c2⟩ | c
  · have := (cnt_mono F hu h0).1
    exact .inl ⟨c1, by omega⟩
  · exact .inr c
/-- a level's time is reckoned from now -/
theorem WR.comes (hs : StOk st) (s0 : 0 ≤ x.stage) (s1 : x.stage < st.length) {level : Int} (l0 : 0 ≤ level) (h0 : 0 ≤ t) (h1 : t ≤ 100800) (hr : ¬ 0 < x.rest) (hh : x.held = false)
    (k1 : k.there = true) (k2 : k.held = false) (k3 : k.stage = x.stage) (k4 : k.since = t) (k5 : k.on = decide (level < ((stAt st x.stage).levels.length : Int))) (k6 : level < ((stAt st x.stage).levels.length : Int) → k.togo = (lvAt (stAt st x.stage) level).1 ∧ k.level = level) (k7 : -t ≤ k.togo) (k8 : k.togo ≤ 20000) :
    WR F st t (comesL F st x level t) k := by
  obtain ⟨e1, e2, e3, _⟩ := comes_stage (F := F) (st := st) (x := x) (level := level) (t := t)
  refine ⟨k1, by rw [k2, e3, hh], by rw [k3, e1], by omega, by omega, fun a => ?_, fun a _ => ?_, fun a => (by rw [k2] at a; cases a), fun _ a => (by rw [k2] at a; cases a), fun _ => by rw [e2]; exact hr, fun _ => by omega, fun a => (by rw [k2] at a; cases a), k8⟩
  · rw [k5] at a
    have hl : ((stAt st x.stage).levels.length : Int) ≤ level := by simpa using a
    rw [e2]
    unfold comesL
    rw [if_pos hl]
    exact ⟨by simp, hr⟩
  · rw [k5] at a
    have hl : level < ((stAt st x.stage).levels.length : Int) := by simpa using a
    obtain ⟨g1, g2⟩ := k6 hl
    have hst := hs x.stage.toNat (by omega)
    rw [show ((x.stage.toNat : Nat) : Int) = x.stage by omega] at hst
    have hk := hst.2.1 level.toNat (by omega)
    rw [show ((level.toNat : Nat) : Int) = level by omega] at hk
    unfold comesL
    rw [if_neg (by omega)]
    unfold armsL
    cases e : addO F t (lvAt (stAt st x.stage) level).1 with
    | none =>
      left
      have := never_left (addO_none e) h0 h1 (by omega)
      rw [k4, g1]
      exact ⟨by simp, this⟩
    | some y =>
      right
      have ha := addO_some h1 e
      rw [k4, g1, g2]
      exact ⟨by have := ha.1; simp only; omega, rfl, ha, by omega⟩
theorem lv_bd (hs : StOk st) {s level : Int} (s0 : 0 ≤ s) (s1 : s < st.length) (l0 : 0 ≤ level) (hl : level < ((stAt st s).levels.length : Int)) : 1 ≤ (lvAt (stAt st s) level).1 ∧ (lvAt (stAt st s) level).1 ≤ 20000 := by
  have hst := hs s.toNat (by omega)
  rw [show ((s.toNat : Nat) : Int) = s by omega] at hst
  have hk := hst.2.1 level.toNat (by omega)
  rwa [show ((level.toNat : Nat) : Int) = level by omega] at hk
theorem WR.enters (hs : StOk st) (s0 : 0 ≤ x.stage) (s1 : x.stage < st.length) (h0 : 0 ≤ t) (h1 : t ≤ 100800) (hr : ¬ 0 < x.rest) (hh : x.held = false)
    (k1 : k.there = true) (k2 : k.held = false) (k7 : -t ≤ k.togo) (k8 : k.togo ≤ 20000) :
    WR F st t (comesL F st x 0 t) (entersW st k x.stage t) := by
  refine WR.comes hs s0 s1 (Int.le_refl 0) h0 h1 hr hh k1 k2 rfl rfl rfl (fun hl => ⟨by simp only [entersW]; rw [if_pos hl], rfl⟩) ?_ ?_
  all_goals
    simp only [entersW]
    split
    · rename_i hl
      have := lv_bd hs s0 s1 (Int.le_refl 0) hl
      omega
    · assumption
theorem WR.tells (hs : StOk st) (hc : CsOk st x) (h : WR F st t x k) (hx : 0 ≤ x.due) (hxt : t ≤ x.due) (h0 : 0 ≤ t) :
    k.held = false ∧ k.on = true ∧ k.level = x.level ∧ cnt F x.due.toNat - cnt F k.since.toNat = k.togo ∧ WR F st x.due (comesL F st x (x.level + 1) x.due) (tellW st k x.due) := by
  have b1 : k.held = false := by
    cases e : k.held with
    | false => rfl
    | true => have := h.hd e; omega
  have b2 : k.on = true := by
    cases e : k.on with
    | true => rfl
    | false => have := h.off e; omega
  rcases h.run b2 b1 with a | ⟨_, a2, a3, a4⟩
  · omega
  · refine ⟨b1, b2, a2, a3.2.2.1, ?_⟩
    have l0 := hc.l0
    refine WR.comes hs hc.s0 hc.s1 (by omega) (by omega) hc.d1 (h.nr b1) (by rw [← h.held]; exact b1) h.there b1 h.stage rfl (by simp only [tellW]; rw [a2, h.stage]) (fun hl => ⟨by simp only [tellW]; rw [a2, h.stage, if_pos hl], by simp only [tellW]; rw [a2]⟩) ?_ ?_
    all_goals
      simp only [tellW]
      rw [h.stage, a2]
      split
      · rename_i hl
        have := lv_bd hs hc.s0 hc.s1 (by omega : 0 ≤ x.level + 1) hl
        omega
      · have := h.lo b1; have := h.s1; have := h.hi; omega
theorem WR.holds (h : WR F st t x k) (hk : k.held = false) (h0 : 0 ≤ t) (h1 : t ≤ 100800) (hd : 0 ≤ x.due → 0 < cnt F x.due.toNat - cnt F t.toNat) :
    WR F st t (if 0 ≤ x.due then { x with held := true, rest := cnt F x.due.toNat - cnt F t.toNat, due := -1 } else { x with held := true }) (holdW F k t) := by
  have c1 := cnt_mono F h.s1 h.s0
  have c2 := h.lo hk
  have c3 := h.hi
  have c4 := h.nr hk
  have c5 := (cnt_mono F h1 h0).1
  rw [show (100800 : Int).toNat = 100800 from rfl] at c5
  split
  · rename_i hx
    refine ⟨h.there, rfl, h.stage, h.s0, h.s1, fun a => ?_, fun _ a => ?_, fun _ => by simp, fun a _ => ?_, fun a => ?_, fun a => ?_, fun _ => ?_, ?_⟩
    · have := h.off a; omega
    · simp [holdW] at a
    · right
      rcases h.run a hk with a | ⟨_, a2, a3, a4⟩
      · omega
      · refine ⟨hd hx, a2, ?_⟩
        simp only [holdW]
        have := a3.2.2.1
        omega
    · simp [holdW] at a
    · simp [holdW] at a
    · simp only [holdW]; have := h.s1; omega
    · simp only [holdW]; omega
  · rename_i hx
    refine ⟨h.there, rfl, h.stage, h.s0, h.s1, fun a => ?_, fun _ a => ?_, fun _ => by simp only; omega, fun a _ => ?_, fun a => ?_, fun a => ?_, fun _ => ?_, ?_⟩
    · have := h.off a; exact this
    · simp [holdW] at a
    · left
      rcases h.run a hk with ⟨_, a⟩ | ⟨a1, _⟩
      · refine ⟨c4, ?_⟩
        simp only [holdW]
        omega
      · omega
    · simp [holdW] at a
    · simp [holdW] at a
    · simp only [holdW]; have := h.s1; omega
    · simp only [holdW]; omega
theorem WR.goes (h : WR F st t x k) (hk : k.held = true) (h0 : 0 ≤ t) (h1 : t ≤ 100800) :
    WR F st t (if 0 < x.rest then { armsL F { x with held := false } t x.rest with rest := 0 } else { x with held := false }) (resumeW k t) := by
  have c2 := h.lh hk
  have c3 := h.hi
  have c4 := h.hd hk
  split
  · rename_i hx
    obtain ⟨e1, e2, e3, _⟩ := arms_stage (F := F) (x := { x with held := false }) (t := t) (n := x.rest)
    refine ⟨h.there, by simp only [resumeW]; rw [e3], by simp only [resumeW]; rw [e1]; exact h.stage, h0, Int.le_refl _, fun a => ?_, fun a _ => ?_, fun a => ?_, fun _ a => ?_, fun _ => by simp, fun _ => by simp only [resumeW]; omega, fun a => ?_, by simp only [resumeW]; omega⟩
    · have := h.off a; omega
    · rcases h.stop a hk with a | ⟨_, a2, a3⟩
      · omega
      · simp only [resumeW]
        unfold armsL
        cases e : addO F t x.rest with
        | none =>
          left
          have := never_left (addO_none e) h0 h1 (by omega)
          exact ⟨by simp, by rw [a3]; exact this⟩
        | some y =>
          right
          have ha := addO_some h1 e
          rw [a3]
          exact ⟨by have := ha.1; simp only; omega, a2, ha, hx⟩
    · simp [resumeW] at a
    · simp [resumeW] at a
    · simp [resumeW] at a
  · rename_i hx
    refine ⟨h.there, rfl, h.stage, h0, Int.le_refl _, fun a => h.off a, fun a _ => ?_, fun a => ?_, fun _ a => ?_, fun _ => by simpa using hx, fun _ => by simp only [resumeW]; omega, fun a => ?_, by simp only [resumeW]; omega⟩
    · rcases h.stop a hk with ⟨_, a⟩ | a
      · left; exact ⟨by simp only; omega, by simp only [resumeW]; exact a⟩
      · omega
    · simp [resumeW] at a
    · simp [resumeW] at a
    · simp [resumeW] at a
/-- nothing was left out -/
theorem WR.quiet (h : WR F st t x k) (hk : k.held = false) (ho : k.on = true) (hl : 0 ≤ x.due → u < x.due) (hu : t ≤ u) (h1 : u ≤ 100800) : cnt F u.toNat - cnt F k.since.toNat < k.togo := by
  have s0 := h.s0
  have s1 := h.s1
  rcases h.run ho hk with ⟨_, a⟩ | ⟨a1, _, a3, _⟩
  · have := (cnt_mono F h1 (by omega)).1
    rw [show (100800 : Int).toNat = 100800 from rfl] at this
    omega
  · have hlt := hl a1
    have := a3.2.2.2 u (by omega) hlt
    have := (cnt_mono F (show u ≤ x.due by omega) (by omega)).1
    have := a3.2.2.1
    omega
end
end Go.Proofs.YtcnmbldikjljeaaGreatDoor
namespace Go.Proofs.YtcnmbldikjljeaaGreatDoor

/-- what is known of all cases is so; of others nothing is known -/
structure WA (F : Nat → Bool) (st : List Stg) (t : Int) (l : List Cs) (w : Nat → Wt) : Prop where
  rel : ∀ x ∈ l, WR F st t x (w x.id.toNat)
  none : ∀ j : Nat, (∀ x ∈ l, x.id ≠ (j : Int)) → w j = wt0
section
variable {F : Nat → Bool} {st : List Stg} {t u : Int} {l : List Cs} {w : Nat → Wt} {d : Dk} {N : Int}
theorem WA.empty : WA F st t [] fun _ => wt0 := ⟨fun x hx => by simp at hx, fun _ _ => rfl⟩
theorem WA.later (h : WA F st t l w) (hu : t ≤ u) (h0 : 0 ≤ t) : WA F st u l w := ⟨fun x hx => (h.rel x hx).later hu h0, h.none⟩
theorem ids_ne (h : (l.map Cs.id).Pairwise (· < ·)) {i j : Nat} (hi : i < l.length) (hj : j < l.length) (hne : i ≠ j) : l[i].id ≠ l[j].id := by
  rw [List.pairwise_iff_getElem] at h
  rcases Nat.lt_or_gt_of_ne hne with a | a
  · have := h i j (by simpa using hi) (by simpa using hj) a
    simp only [List.getElem_map] at this
    omega
  · have := h j i (by simpa using hj) (by simpa using hi) a
    simp only [List.getElem_map] at this
    omega
theorem ids_lt2 (h : (l.map Cs.id).Pairwise (· < ·)) {i j : Nat} (hj : j < l.length) (hij : i < j) : (csAt l i).id < (csAt l j).id := by
  rw [List.pairwise_iff_getElem] at h
  have := h i j (by simp; omega) (by simpa using hj) hij
  simp only [List.getElem_map] at this
  rw [csAt_nat hj, csAt_nat (by omega)]
  exact this
theorem WA.set (h : WA F st t l w) (hp : (l.map Cs.id).Pairwise (· < ·)) (h1 : ∀ x ∈ l, 1 ≤ x.id) {i : Nat} (hi : i < l.length) {y : Cs} {k : Wt} (hy : y.id = (csAt l i).id) (hk : WR F st t y k) : WA F st t (l.set i y) (upd w (csAt l i).id.toNat k) := by
  have hyi : y.id = l[i].id := by rw [hy, csAt_nat hi]
  have hi1 := h1 _ (List.getElem_mem hi)
  rw [csAt_nat hi]
  refine ⟨fun x hx => ?_, fun j hj => ?_⟩
  · obtain ⟨m, hm, rfl⟩ := List.mem_iff_getElem.1 hx
    rw [List.length_set] at hm
    rw [List.getElem_set]
    split
    · rw [hyi, upd_at]; exact hk
    · rename_i hne
      have e := ids_ne hp hi hm (by omega)
      have hm1 := h1 _ (List.getElem_mem hm)
      rw [upd_ne _ _ (by omega)]
      exact h.rel _ (List.getElem_mem hm)
  · have e := hj y (List.mem_iff_getElem.2 ⟨i, by simpa using hi, by simp⟩)
    rw [upd_ne _ _ (by omega)]
    refine h.none j fun x hx => ?_
    obtain ⟨m, hm, rfl⟩ := List.mem_iff_getElem.1 hx
    by_cases hne : m = i
    · subst hne; omega
    · refine hj _ (List.mem_iff_getElem.2 ⟨m, by simpa using hm, ?_⟩)
      rw [List.getElem_set_ne (by omega)]
theorem WA.add (h : WA F st t l w) {y : Cs} {k : Wt} {m : Nat} (hy : y.id = (m : Int)) (h1 : ∀ x ∈ l, 1 ≤ x.id ∧ x.id < (m : Int)) (hk : WR F st t y k) : WA F st t (l ++ [y]) (upd w m k) := by
  refine ⟨fun x hx => ?_, fun j hj => ?_⟩
  · rcases List.mem_append.1 hx with a | a
    · have := h1 x a
      rw [upd_ne _ _ (by omega)]
      exact h.rel x a
    · simp only [List.mem_singleton] at a
      subst a
      rw [hy, Int.toNat_natCast, upd_at]; exact hk
  · have := hj y (by simp)
    rw [upd_ne _ _ (by omega)]
    exact h.none j fun x hx => hj x (List.mem_append_left _ hx)
theorem WA.erase (h : WA F st t l w) (hp : (l.map Cs.id).Pairwise (· < ·)) (h1 : ∀ x ∈ l, 1 ≤ x.id) {i : Nat} (hi : i < l.length) : WA F st t (l.eraseIdx i) (upd w (csAt l i).id.toNat wt0) := by
  rw [csAt_nat hi]
  have hi1 := h1 _ (List.getElem_mem hi)
  refine ⟨fun x hx => ?_, fun j hj => ?_⟩
  · obtain ⟨m, hm, rfl⟩ := List.mem_iff_getElem.1 hx
    have hl := List.length_eraseIdx_of_lt hi
    have hne : ∃ m', ∃ hm' : m' < l.length, m' ≠ i ∧ (l.eraseIdx i)[m] = l[m'] := by
      rw [List.getElem_eraseIdx]
      split
      · exact ⟨m, by omega, by omega, rfl⟩
      · exact ⟨m + 1, by omega, by omega, rfl⟩
    obtain ⟨m', hm', hne, e⟩ := hne
    rw [e]
    have e := ids_ne hp hi hm' (by omega)
    have hm1 := h1 _ (List.getElem_mem hm')
    rw [upd_ne _ _ (by omega)]
    exact h.rel _ (List.getElem_mem hm')
  · by_cases e : j = l[i].id.toNat
    · rw [e, upd_at]
    · rw [upd_ne _ _ e]
      refine h.none j fun x hx => ?_
      obtain ⟨m, hm, rfl⟩ := List.mem_iff_getElem.1 hx
      by_cases hne : m = i
      · subst hne; omega
      · apply hj
        rw [List.mem_eraseIdx_iff_getElem]
        exact ⟨m, hm, hne, rfl⟩
/-! the moves -/
theorem find_id (h : ¬ findL l u < 0) : (csAt l (findL l u)).id = u := findTo_spec l u l.length 0 (by show 0 ≤ findL l u; omega)
theorem find_none : ∀ (k i : Nat) (j : Nat), findTo l u i k < 0 → i ≤ j → j < i + k → (csAt l j).id ≠ u
  | 0, i, j, _, h1, h2 => by omega
  | k + 1, i, j, h, h1, h2 => by
    simp only [findTo] at h
    split at h
    · omega
    · rename_i hne
      by_cases e : j = i
      · subst e; exact hne
      · exact find_none k (i + 1) j h (by omega) (by omega)
theorem WA.notThere (h : WA F st t l w) {id : Nat} (hf : findL l id < 0) : w id = wt0 := by
  refine h.none id fun x hx => ?_
  obtain ⟨m, hm, rfl⟩ := List.mem_iff_getElem.1 hx
  have := find_none l.length 0 m hf (by omega) (by omega)
  rwa [csAt_nat hm] at this
theorem WA.found (h : WA F st t l w) {id : Nat} (hf : ¬ findL l id < 0) : ∃ i : Nat, findL l id = i ∧ i < l.length ∧ (csAt l i).id = id ∧ csAt l i ∈ l ∧ WR F st t (csAt l i) (w id) := by
  obtain ⟨i, e, hi⟩ := find_nat _ _ hf
  have hid := find_id hf
  rw [e] at hid
  have hm : csAt l i ∈ l := by rw [csAt_nat hi]; exact List.getElem_mem hi
  have := h.rel _ hm
  rw [hid, Int.toNat_natCast] at this
  exact ⟨i, e, hi, hid, hm, this⟩
theorem WA.opens (hs : StOk st) (iv : InvD F d) (ok : DkOk F st d N) (h : WA F st d.time d.cases w) {stage : Int} (h0 : 0 ≤ stage) (h1 : stage < st.length) :
    ((openC F st d stage).2.2 = 0 → (openC F st d stage).2.1 = d.made + 1 ∧ (openC F st d stage).1.made = d.made + 1 ∧ WA F st d.time (openC F st d stage).1.cases (upd w (d.made + 1).toNat (entersW st ⟨0, 0, 0, 0, true, false, false⟩ stage d.time))) ∧ ((openC F st d stage).2.2 ≠ 0 → (openC F st d stage).1 = d) := by
  unfold openC
  rw [if_neg (by omega)]
  split
  · exact ⟨fun e => by simp at e, fun _ => rfl⟩
  · refine ⟨fun _ => ⟨rfl, rfl, ?_⟩, fun e => absurd rfl e⟩
    have m0 := ok.m0
    have hid := (comes_stage (F := F) (st := st) (x := ⟨d.made + 1, stage, 0, 0, false, 0⟩) (level := 0) (t := d.time)).2.2.2
    refine h.add (by rw [hid]; simp only; omega) (fun x hx => by have := iv.top x hx; omega) ?_
    have t0 := ok.t0
    exact WR.enters (x := ⟨d.made + 1, stage, 0, 0, false, 0⟩) hs h0 h1 t0 ok.t1 (by simp) rfl rfl rfl (by simp only; omega) (by simp)
theorem WA.moves (hs : StOk st) (iv : InvD F d) (ok : DkOk F st d N) (h : WA F st d.time d.cases w) (hn : ∀ i : Nat, i < st.length → ∀ y : Int, 0 ≤ y → y < st.length → y ∈ (stAt st i).next) {id : Nat} {stage : Int} (h0 : 0 ≤ stage) (h1 : stage < st.length) :
    ((moveC F st d id stage).2 = 0 ↔ (w id).there = true ∧ (w id).held = false) ∧ ((moveC F st d id stage).2 = 0 → WA F st d.time (moveC F st d id stage).1.cases (upd w id (entersW st (w id) stage d.time))) ∧ ((moveC F st d id stage).2 ≠ 0 → (moveC F st d id stage).1 = d) := by
  unfold moveC
  by_cases hf : findL d.cases id < 0
  · rw [if_pos hf, h.notThere hf]
    simp [wt0]
  · rw [if_neg hf]
    obtain ⟨i, e, hi, hid, hm, hw⟩ := h.found hf
    rw [e]
    by_cases hh : (csAt d.cases i).held = true
    · rw [if_pos hh, hw.there, hw.held, hh]
      simp
    · have hh' : (csAt d.cases i).held = false := by simpa using hh
      have hx := ok.cs _ hm
      have hmem := hn (csAt d.cases i).stage.toNat (by have := hx.s0; have := hx.s1; omega) stage h0 h1
      rw [show (((csAt d.cases i).stage.toNat : Nat) : Int) = (csAt d.cases i).stage by have := hx.s0; omega] at hmem
      have hhas := (hasI_iff _ _).2 hmem
      rw [if_neg hh, if_neg (by rw [hhas]; simp), hw.there, hw.held, hh']
      refine ⟨by simp, fun _ => ?_, fun a => absurd rfl a⟩
      unfold setC
      rw [Int.toNat_natCast]
      have hk : (w id).held = false := by rw [hw.held, hh']
      have := h.set iv.ids (fun x hx => (iv.top x hx).1) hi (y := comesL F st { csAt d.cases i with stage := stage } 0 d.time) (k := entersW st (w id) stage d.time) (comes_stage (F := F) (st := st) (x := { csAt d.cases i with stage := stage }) (level := 0) (t := d.time)).2.2.2
        (WR.enters (x := { csAt d.cases i with stage := stage }) hs h0 h1 ok.t0 ok.t1 (hw.nr hk) hh' hw.there hk (by have := hw.lo hk; have := hw.s1; omega) hw.hi)
      rw [hid, Int.toNat_natCast] at this
      exact this
theorem WA.closes (iv : InvD F d) (h : WA F st d.time d.cases w) (id : Nat) : ((closeC d id).2 = 0 ↔ (w id).there = true) ∧ WA F st d.time (closeC d id).1.cases (upd w id wt0) := by
  unfold closeC
  by_cases hf : findL d.cases id < 0
  · rw [if_pos hf]
    have := h.notThere hf
    refine ⟨by rw [this]; simp [wt0], ?_⟩
    have e : upd w id wt0 = w := by
      funext j
      by_cases hj : j = id
      · subst hj; rw [upd_at, this]
      · rw [upd_ne _ _ hj]
    rw [e]; exact h
  · rw [if_neg hf]
    obtain ⟨i, e, hi, hid, hm, hw⟩ := h.found hf
    refine ⟨by rw [hw.there]; simp, ?_⟩
    have := h.erase iv.ids (fun x hx => (iv.top x hx).1) hi
    rw [hid, Int.toNat_natCast] at this
    rw [e, Int.toNat_natCast]
    exact this
theorem WA.holds (iv : InvD F d) (ok : DkOk F st d N) (h : WA F st d.time d.cases w) (id : Nat) : ((holdC F d id).2 = 0 ↔ (w id).there = true ∧ (w id).held = false) ∧ ((holdC F d id).2 = 0 → WA F st d.time (holdC F d id).1.cases (upd w id (holdW F (w id) d.time)) ∧ 0 ≤ (w id).since ∧ (w id).since ≤ d.time ∧ -100800 ≤ (w id).togo ∧ (w id).togo ≤ 20000) ∧ ((holdC F d id).2 ≠ 0 → (holdC F d id).1 = d) := by
  unfold holdC
  by_cases hf : findL d.cases id < 0
  · rw [if_pos hf, h.notThere hf]
    simp [wt0]
  · rw [if_neg hf]
    obtain ⟨i, e, hi, hid, hm, hw⟩ := h.found hf
    rw [e]
    by_cases hh : (csAt d.cases i).held = true
    · rw [if_pos hh, hw.there, hw.held, hh]
      simp
    · have hh' : (csAt d.cases i).held = false := by simpa using hh
      have hk : (w id).held = false := by rw [hw.held, hh']
      rw [if_neg hh, hw.there, hk]
      refine ⟨by simp, fun _ => ⟨?_, hw.s0, hw.s1, by have := hw.lo hk; have := hw.s1; have := ok.t1; omega, hw.hi⟩, fun a => absurd rfl a⟩
      unfold setC
      rw [Int.toNat_natCast]
      have := h.set iv.ids (fun x hx => (iv.top x hx).1) hi (y := if 0 ≤ (csAt d.cases i).due then { csAt d.cases i with held := true, rest := cnt F (csAt d.cases i).due.toNat - cnt F d.time.toNat, due := -1 } else { csAt d.cases i with held := true }) (k := holdW F (w id) d.time) (by split <;> rfl)
        (hw.holds hk ok.t0 ok.t1 (fun hd => iv.left ok hm hd))
      rw [hid, Int.toNat_natCast] at this
      exact this
theorem WA.goes (iv : InvD F d) (ok : DkOk F st d N) (h : WA F st d.time d.cases w) (id : Nat) : ((resumeC F d id).2 = 0 ↔ (w id).there = true ∧ (w id).held = true) ∧ ((resumeC F d id).2 = 0 → WA F st d.time (resumeC F d id).1.cases (upd w id (resumeW (w id) d.time))) ∧ ((resumeC F d id).2 ≠ 0 → (resumeC F d id).1 = d) := by
  unfold resumeC
  by_cases hf : findL d.cases id < 0
  · rw [if_pos hf, h.notThere hf]
    simp [wt0]
  · rw [if_neg hf]
    obtain ⟨i, e, hi, hid, hm, hw⟩ := h.found hf
    rw [e]
    by_cases hh : (csAt d.cases i).held = false
    · rw [if_pos hh, hw.there, hw.held, hh]
      simp
    · have hh' : (csAt d.cases i).held = true := by simpa using hh
      have hk : (w id).held = true := by rw [hw.held, hh']
      rw [if_neg hh, hw.there, hk]
      refine ⟨by simp, fun _ => ?_, fun a => absurd rfl a⟩
      unfold setC
      rw [Int.toNat_natCast]
      have := h.set iv.ids (fun x hx => (iv.top x hx).1) hi (y := if 0 < (csAt d.cases i).rest then { armsL F { csAt d.cases i with held := false } d.time (csAt d.cases i).rest with rest := 0 } else { csAt d.cases i with held := false }) (k := resumeW (w id) d.time) (by
          split
          · exact (arms_stage (F := F) (x := { csAt d.cases i with held := false }) (t := d.time) (n := (csAt d.cases i).rest)).2.2.2
          · rfl)
        (hw.goes hk ok.t0 ok.t1)
      rw [hid, Int.toNat_natCast] at this
      exact this
end
/-- the events' numbers -/
theorem tickGo_told (F : Nat → Bool) (st : List Stg) (T : Int) : ∀ (f : Nat) (l : List Cs) (k : Int), (tickGo F st T f l k).2.2 = k + ((tickGo F st T f l k).1.length : Int)
  | 0, l, k => by simp [tickGo]
  | f + 1, l, k => by
    simp only [tickGo]
    split
    · simp
    · rw [tickGo_told F st T f]
      simp only [List.length_cons]
      omega
theorem tick_told (F : Nat → Bool) (st : List Stg) (d : Dk) (n : Int) : (tickC F st d n).1.told = d.told + ((tickC F st d n).2.1.length : Int) ∧ (tickC F st d n).1.made = d.made := by
  unfold tickC
  split
  · simp
  · exact ⟨tickGo_told F st _ _ _ _, rfl⟩
/-! the events of a Tick, one behind the other -/
structure TI (F : Nat → Bool) (st : List Stg) (T made : Int) (L l : List Cs) (k lt lc : Int) (w : Nat → Wt) (rest : List Ev) : Prop where
  ev : (tickGo F st T (leftL st l) l k).1 = rest
  fin : (tickGo F st T (leftL st l) l k).2.1 = L
  ok : ∀ x ∈ l, CsOk st x
  ids : (l.map Cs.id).Pairwise (· < ·)
  top : ∀ x ∈ l, 1 ≤ x.id ∧ x.id ≤ made
  ord : ∀ x ∈ l, 0 ≤ x.due → lt < x.due ∨ (lt = x.due ∧ lc < x.id)
  opn : ∀ x ∈ l, 0 ≤ x.due → F (x.due - 1).toNat = true
  l0 : 0 ≤ lt
  l1 : lt ≤ T
  wa : WA F st lt l w
/-- what told asks of an event -/
structure EvOk (F : Nat → Bool) (st : List Stg) (T made k lt lc : Int) (w : Nat → Wt) (e : Ev) : Prop where
  num : e.number = k + 1
  c0 : 1 ≤ e.case
  c1 : e.case ≤ made
  t0 : lt ≤ e.time
  t1 : e.time ≤ T
  t2 : 1 ≤ e.time
  tie : e.time = lt → lc < e.case
  there : (w e.case.toNat).there = true
  held : (w e.case.toNat).held = false
  on : (w e.case.toNat).on = true
  stage : (w e.case.toNat).stage = e.stage
  level : (w e.case.toNat).level = e.level
  s0 : 0 ≤ e.stage
  s1 : e.stage < st.length
  v0 : 0 ≤ e.level
  v1 : e.level < ((stAt st e.stage).levels.length : Int)
  who : e.who = (lvAt (stAt st e.stage) e.level).2
  n0 : 0 ≤ (w e.case.toNat).since
  n1 : (w e.case.toNat).since ≤ e.time
  gone : cnt F e.time.toNat - cnt F (w e.case.toNat).since.toNat = (w e.case.toNat).togo
  opn : F (e.time - 1).toNat = true
section
variable {F : Nat → Bool} {st : List Stg} {T made : Int} {L l : List Cs} {k lt lc : Int} {w : Nat → Wt} {rest : List Ev} {e : Ev}
theorem TI.next (hs : StOk st) (h : TI F st T made L l k lt lc w (e :: rest)) : EvOk F st T made k lt lc w e ∧ ∃ l', TI F st T made L l' (k + 1) e.time e.case (upd w e.case.toNat (tellW st (w e.case.toNat) e.time)) rest := by
  have hev := h.ev
  have hfin := h.fin
  by_cases hc : nextL l < 0 ∨ T < (csAt l (nextL l)).due
  · rw [tick_done hc] at hev; simp at hev
  · obtain ⟨i, hi0, hi, hx, hd, hok', hlt⟩ := tick_step (F := F) (T := T) hs h.ok (by omega) (by omega)
    have hdT : (csAt l i).due ≤ T := by rw [hi0] at hc; omega
    rw [tick_more (F := F) (k := k) hs h.ok hi0 hdT] at hev hfin
    simp only [List.cons.injEq] at hev
    obtain ⟨rfl, hev⟩ := hev
    have hm : csAt l i ∈ l := by rw [csAt_nat hi]; exact List.getElem_mem hi
    have htop := h.top _ hm
    have hord := h.ord _ hm hd
    have hopn := h.opn _ hm hd
    have hl0 := h.l0
    have hwr := h.wa.rel _ hm
    obtain ⟨b1, b2, b3, b4, b5⟩ := hwr.tells hs hx hd (by omega) hl0
    have hci := comes_inv (F := F) hs hx.s0 hx.s1 (level := (csAt l i).level + 1) (by have := hx.l0; omega) hd hx.d1
    have hid := (comes_stage (F := F) (st := st) (x := csAt l i) (level := (csAt l i).level + 1) (t := (csAt l i).due)).2.2.2
    refine ⟨⟨rfl, htop.1, htop.2, ?_, hdT, ?_, ?_, hwr.there, b1, b2, hwr.stage, b3, hx.s0, hx.s1, hx.l0, hx.dl hd, rfl, hwr.s0, ?_, b4, hopn⟩, _, ⟨hev, hfin, hok', ?_, ?_, ?_, ?_, hd, hdT, ?_⟩⟩
    · simp only [evOf]; omega
    · simp only [evOf]
      have : (csAt l i).due ≠ 0 := fun e0 => by
        have hs1 := hwr.s1
        have hs0 := hwr.s0
        have hrun := hwr.run b2 b1
        rcases hrun with a | ⟨_, _, a3, a4⟩
        · omega
        · have := a3.2.2.1
          have e1 : (w (csAt l i).id.toNat).since = (csAt l i).due := by have := a3.1; omega
          rw [e1] at this
          omega
      omega
    · simp only [evOf]; omega
    · simp only [evOf]; have := hwr.s1; omega
    · rw [set_ids hi hid]; exact h.ids
    · intro z hz
      rcases set_mem hz with rfl | a
      · rw [hid]; exact htop
      · exact h.top z a
    · intro z hz hzd
      obtain ⟨m, hm', rfl⟩ := List.mem_iff_getElem.1 hz
      rw [List.length_set] at hm'
      simp only [evOf]
      rw [List.getElem_set] at hzd ⊢
      split
      · rename_i e0
        rw [if_pos e0] at hzd
        exact .inl (hci hzd).1
      · rename_i e0
        rw [if_neg e0] at hzd
        have hl := nextTo_least l l.length m hm' (by rw [csAt_nat hm']; exact hzd)
        rw [show nextTo l l.length = nextL l from rfl, hi0, csAt_nat hm'] at hl
        by_cases e1 : (csAt l i).due = l[m].due
        · right
          refine ⟨e1, ?_⟩
          have h3 := hl.2.2 e1.symm
          have := ids_lt2 h.ids hm' (show i < m by omega)
          rwa [csAt_nat hm'] at this
        · left; have := hl.2.1; omega
    · intro z hz hzd
      rcases set_mem hz with rfl | a
      · exact (hci hzd).2
      · exact h.opn z a hzd
    · exact (h.wa.later (show lt ≤ (csAt l i).due by omega) hl0).set h.ids (fun x hx => (h.top x hx).1) hi hid b5
theorem TI.done (hs : StOk st) (h : TI F st T made L l k lt lc w []) : L = l ∧ ∀ x ∈ l, 0 ≤ x.due → T < x.due := by
  have hev := h.ev
  by_cases hc : nextL l < 0 ∨ T < (csAt l (nextL l)).due
  · have hfin := h.fin
    rw [tick_done hc] at hfin
    exact ⟨hfin.symm, tick_late hc⟩
  · obtain ⟨i, hi0, hi, hx, hd, hok', hlt⟩ := tick_step (F := F) (T := T) hs h.ok (by omega) (by omega)
    rw [tick_more (F := F) (k := k) hs h.ok hi0 (by rw [hi0] at hc; omega)] at hev
    simp at hev
theorem TI.start {d : Dk} {N n : Int} (iv : InvD F d) (ok : DkOk F st d N) (h : WA F st d.time d.cases w) (n0 : 0 ≤ n) (n1 : d.time + n ≤ 100800) : TI F st (d.time + n) d.made (tickC F st d n).1.cases d.cases d.told d.time 0 w (tickC F st d n).2.1 := by
  have e : tickC F st d n = (⟨d.time + n, d.made, (tickGo F st (d.time + n) (leftL st d.cases) d.cases d.told).2.2, (tickGo F st (d.time + n) (leftL st d.cases) d.cases d.told).2.1⟩, (tickGo F st (d.time + n) (leftL st d.cases) d.cases d.told).1, 0) := by
    unfold tickC; rw [if_neg (by omega)]
  rw [e]
  exact ⟨rfl, rfl, ok.cs, iv.ids, iv.top, fun x hx hd => .inl (iv.due x hx hd).1, fun x hx hd => (iv.due x hx hd).2, ok.t0, by omega, h⟩
end
end Go.Proofs.YtcnmbldikjljeaaGreatDoor
