import Derived.Test.YtcnmbldikjljeaaGreatDoorJ02
namespace Go.Proofs.YtcnmbldikjljeaaGreatDoor

theorem cnt_step (F : Nat → Bool) (k : Nat) : cnt F k ≤ cnt F (k + 1) ∧ cnt F (k + 1) ≤ cnt F k + 1 := by
  simp only [cnt]; split <;> omega
theorem cnt_add (F : Nat → Bool) (a d : Nat) : cnt F a ≤ cnt F (a + d) ∧ cnt F (a + d) ≤ cnt F a + d := by
  induction d with
  | zero => simp
  | succ d ih => have := cnt_step F (a + d); rw [← Nat.add_assoc]; omega
theorem cnt_mono (F : Nat → Bool) {a b : Int} (h : a ≤ b) (h0 : 0 ≤ a) : cnt F a.toNat ≤ cnt F b.toNat ∧ cnt F b.toNat - cnt F a.toNat ≤ b - a := by
  have e : b.toNat = a.toNat + (b - a).toNat := by omega
  have := cnt_add F a.toNat (b - a).toNat
  rw [← e] at this
  omega
theorem cnt_ivt (F : Nat → Bool) (a d : Nat) (n : Int) (h0 : 0 ≤ n) (h1 : n ≤ cnt F (a + d) - cnt F a) : ∃ y, a ≤ y ∧ y ≤ a + d ∧ cnt F y - cnt F a = n := by
  induction d with
  | zero => exact ⟨a, Nat.le_refl _, Nat.le_refl _, by simp at h1; omega⟩
  | succ d ih =>
    have := cnt_step F (a + d)
    rw [← Nat.add_assoc] at h1
    by_cases h : n ≤ cnt F (a + d) - cnt F a
    · obtain ⟨y, y0, y1, y2⟩ := ih h
      exact ⟨y, y0, by omega, y2⟩
    · exact ⟨a + d + 1, by omega, by omega, by omega⟩
section
variable {F : Nat → Bool} {a n t k u x y : Int}
theorem addN_uniq (h : AddN F a n x) (g : AddN F a n y) : x = y := by
  obtain ⟨a1, a2, a3, a4⟩ := h
  obtain ⟨b1, b2, b3, b4⟩ := g
  rcases Int.lt_trichotomy x y with e | e | e
  · exact absurd a3 (b4 x a1 e)
  · exact e
  · exact absurd b3 (a4 y b1 e)
theorem addN_never (h : AddN F a n x) (g : Never F a n) : False := g x h.1 h.2.1 h.2.2.1
theorem addN_left (h : AddN F a n x) (h0 : 0 ≤ a) : n ≤ cnt F 100800 - cnt F a.toNat := by
  have := cnt_mono F (show x ≤ 100800 from h.2.1) (by have := h.1; omega)
  have e := h.2.2.1
  rw [show (100800 : Int).toNat = 100800 from rfl] at this
  omega
theorem never_left (h : Never F a n) (h0 : 0 ≤ a) (h1 : a ≤ 100800) (hn : 0 ≤ n) : cnt F 100800 - cnt F a.toNat < n := by
  apply Int.lt_of_not_ge
  intro g
  obtain ⟨y, y0, y1, y2⟩ := cnt_ivt F a.toNat (100800 - a.toNat) n hn (by rw [show a.toNat + (100800 - a.toNat) = 100800 by omega]; omega)
  exact h y (by omega) (by omega) (by simpa using y2)
theorem addN_zero (h : AddN F a 0 x) : x = a := by
  obtain ⟨a1, a2, a3, a4⟩ := h
  by_cases e : a < x
  · exact absurd (by omega) (a4 a (Int.le_refl _) e)
  · omega
theorem addN_open (h : AddN F a n x) (h0 : 0 ≤ a) (hn : 0 < n) : a ≤ x - 1 ∧ F (x - 1).toNat = true := by
  obtain ⟨a1, a2, a3, a4⟩ := h
  have hax : a < x := by
    by_cases e : a < x
    · exact e
    · have : x = a := by omega
      subst this; omega
  refine ⟨by omega, ?_⟩
  have hne := a4 (x - 1) (by omega) (by omega)
  have e : x.toNat = (x - 1).toNat + 1 := by omega
  rw [e] at a3
  simp only [cnt] at a3
  cases hF : F (x - 1).toNat
  · rw [hF] at a3; exact absurd (by simp only [Bool.false_eq_true, if_false, Int.add_zero] at a3; exact a3) hne
  · rfl
theorem addN_add (h : AddN F a n t) (h0 : 0 ≤ a) (hk : 0 ≤ k) : AddN F t k u ↔ AddN F a (n + k) u := by
  obtain ⟨a1, a2, a3, a4⟩ := h
  constructor
  · rintro ⟨b1, b2, b3, b4⟩
    refine ⟨by omega, b2, by omega, fun y y0 y1 => ?_⟩
    by_cases e : t ≤ y
    · have := b4 y e y1; omega
    · have := cnt_mono F (show y ≤ t by omega) (by omega)
      have := a4 y y0 (by omega)
      omega
  · rintro ⟨b1, b2, b3, b4⟩
    have htu : t ≤ u := by
      by_cases e : t ≤ u
      · exact e
      · have := cnt_mono F (show u ≤ t by omega) (by omega)
        have := a4 u b1 (by omega)
        omega
    refine ⟨htu, b2, by omega, fun y y0 y1 => ?_⟩
    have := b4 y (by omega) y1
    omega
theorem never_add (h : AddN F a n t) (h0 : 0 ≤ a) (hk : 0 ≤ k) : Never F t k ↔ Never F a (n + k) := by
  obtain ⟨a1, a2, a3, a4⟩ := h
  constructor
  · intro g y y0 y1
    by_cases e : t ≤ y
    · have := g y e y1; omega
    · have := cnt_mono F (show y ≤ t by omega) (by omega)
      have := a4 y y0 (by omega)
      omega
  · intro g y y0 y1
    have := g y (by omega) y1
    omega
end
end Go.Proofs.YtcnmbldikjljeaaGreatDoor
namespace Go.Proofs.YtcnmbldikjljeaaGreatDoor

/-- a stage, a case, a docket, an event: as the document has them -/
structure Stg where
  levels : List (Int × Int)
  next : List Int
structure Cs where
  id : Int
  stage : Int
  level : Int
  due : Int
  held : Bool
  rest : Int
structure Dk where
  time : Int
  made : Int
  told : Int
  cases : List Cs
structure Ev where
  number : Int
  time : Int
  case : Int
  stage : Int
  level : Int
  who : Int
def cs0 : Cs := ⟨0, 0, 0, 0, false, 0⟩
def csAt (l : List Cs) (i : Int) : Cs := l.getD i.toNat cs0
def stAt (st : List Stg) (i : Int) : Stg := st.getD i.toNat ⟨[], []⟩
def lvAt (s : Stg) (i : Int) : Int × Int := s.levels.getD i.toNat (0, 0)

/-! Add, as a function -/
def seek (p : Int → Bool) : Nat → Int → Option Int
  | 0, _ => none
  | k + 1, y => if p y then some y else seek p k (y + 1)
theorem seek_some {p : Int → Bool} {k : Nat} {y x : Int} (h : seek p k y = some x) : y ≤ x ∧ x < y + k ∧ p x = true ∧ ∀ z, y ≤ z → z < x → p z = false := by
  induction k generalizing y with
  | zero => cases h
  | succ k ih =>
    simp only [seek] at h
    split at h
    · rename_i hp
      cases h
      exact ⟨Int.le_refl _, by omega, hp, fun z a b => by omega⟩
    · rename_i hp
      obtain ⟨h1, h2, h3, h4⟩ := ih h
      refine ⟨by omega, by omega, h3, fun z a b => ?_⟩
      by_cases e : z = y
      · rw [e]; simpa using hp
      · exact h4 z (by omega) b
theorem seek_none {p : Int → Bool} {k : Nat} {y : Int} (h : seek p k y = none) : ∀ z, y ≤ z → z < y + k → p z = false := by
  induction k generalizing y with
  | zero => intro z a b; omega
  | succ k ih =>
    simp only [seek] at h
    split at h
    · cases h
    · rename_i hp
      intro z a b
      by_cases e : z = y
      · rw [e]; simpa using hp
      · exact ih h z (by omega) (by omega)
def addO (F : Nat → Bool) (t n : Int) : Option Int := seek (fun y => cnt F y.toNat - cnt F t.toNat == n) (100801 - t).toNat t
theorem addO_some {F : Nat → Bool} {t n x : Int} (h1 : t ≤ 100800) (h : addO F t n = some x) : AddN F t n x := by
  obtain ⟨a, b, c, d⟩ := seek_some h
  exact ⟨a, by omega, by simpa using c, fun y y0 y1 => by have := d y y0 y1; simpa using this⟩
theorem addO_none {F : Nat → Bool} {t n : Int} (h : addO F t n = none) : Never F t n := by
  intro y y0 y1
  have := seek_none h y y0 (by omega)
  simpa using this
theorem addO_of {F : Nat → Bool} {t n x : Int} (h1 : t ≤ 100800) (h : AddN F t n x) : addO F t n = some x := by
  cases e : addO F t n with
  | none => exact (addN_never h (addO_none e)).elim
  | some y => rw [addN_uniq (addO_some h1 e) h]
theorem addO_never {F : Nat → Bool} {t n : Int} (h1 : t ≤ 100800) (h : Never F t n) : addO F t n = none := by
  cases e : addO F t n with
  | none => rfl
  | some y => exact (addN_never (addO_some h1 e) h).elim

/-! the document's calls -/
/-- 4: stages that do not go together -/
def stgOk (n : Nat) (s : Stg) : Bool := decide (s.levels.length ≤ 4) && s.levels.all (fun p => decide (1 ≤ p.1 ∧ p.1 ≤ 20000) && decide (0 ≤ p.2 ∧ p.2 ≤ 99)) && s.next.all (fun k => decide (0 ≤ k ∧ k < n))
def checkL (st : List Stg) : Bool := decide (1 ≤ st.length ∧ st.length ≤ 6) && st.all (stgOk st.length)
def armsL (F : Nat → Bool) (x : Cs) (t n : Int) : Cs :=
  match addO F t n with
  | some y => { x with due := y }
  | none => { x with due := -1, level := 0 }
def comesL (F : Nat → Bool) (st : List Stg) (x : Cs) (level t : Int) : Cs :=
  if (stAt st x.stage).levels.length ≤ level then { x with level := 0, due := -1 } else armsL F { x with level := level } t (lvAt (stAt st x.stage) level).1
/-- where a case stands; -1: nowhere -/
def findTo (l : List Cs) (id : Int) : Nat → Nat → Int
  | _, 0 => -1
  | i, k + 1 => if (csAt l i).id = id then i else findTo l id (i + 1) k
def findL (l : List Cs) (id : Int) : Int := findTo l id 0 l.length
theorem findTo_bd (l : List Cs) (id : Int) (i k : Nat) : findTo l id i k = -1 ∨ (i ≤ findTo l id i k ∧ findTo l id i k < i + k) := by
  induction k generalizing i with
  | zero => exact .inl rfl
  | succ k ih =>
    simp only [findTo]
    split
    · right; omega
    · rcases ih (i + 1) with h | h
      · exact .inl h
      · right; omega
theorem findL_bd (l : List Cs) (id : Int) : findL l id < 0 ∨ ∃ i : Nat, findL l id = i ∧ i < l.length := by
  rcases findTo_bd l id 0 l.length with h | h
  · left; unfold findL; omega
  · right; exact ⟨(findL l id).toNat, by unfold findL; omega, by unfold findL; omega⟩
def openC (F : Nat → Bool) (st : List Stg) (d : Dk) (stage : Int) : Dk × Int × Int :=
  if ¬ (0 ≤ stage ∧ stage < st.length) then (d, 0, 1)
  else if 20 ≤ d.cases.length then (d, 0, 8)
  else ({ d with made := d.made + 1, cases := d.cases ++ [comesL F st ⟨d.made + 1, stage, 0, 0, false, 0⟩ 0 d.time] }, d.made + 1, 0)
def hasI (l : List Int) (y : Int) : Bool := l.foldl (fun b z => b || z == y) false
theorem hasI_snoc (l : List Int) (z y : Int) : hasI (l ++ [z]) y = (hasI l y || z == y) := by simp [hasI]
theorem hasI_iff (l : List Int) (y : Int) : hasI l y = true ↔ y ∈ l := by
  have h : ∀ b, l.foldl (fun b z => b || z == y) b = true ↔ b = true ∨ y ∈ l := by
    induction l with
    | nil => intro b; simp
    | cons z l ih =>
      intro b
      rw [List.foldl_cons, ih, Bool.or_eq_true, beq_iff_eq, List.mem_cons, or_assoc, eq_comm (a := z)]
  unfold hasI
  rw [h]
  simp
def setC (l : List Cs) (i : Int) (x : Cs) : List Cs := l.set i.toNat x
def moveC (F : Nat → Bool) (st : List Stg) (d : Dk) (id stage : Int) : Dk × Int :=
  if findL d.cases id < 0 then (d, 5)
  else if (csAt d.cases (findL d.cases id)).held then (d, 6)
  else if hasI (stAt st (csAt d.cases (findL d.cases id)).stage).next stage = false then (d, 7)
  else ({ d with cases := setC d.cases (findL d.cases id) (comesL F st { csAt d.cases (findL d.cases id) with stage := stage } 0 d.time) }, 0)
def closeC (d : Dk) (id : Int) : Dk × Int :=
  if findL d.cases id < 0 then (d, 5) else ({ d with cases := d.cases.eraseIdx (findL d.cases id).toNat }, 0)
/-- the case of which something is due first, of the first k; -1: none -/
def nextTo (l : List Cs) : Nat → Int
  | 0 => -1
  | k + 1 => if 0 ≤ (csAt l k).due ∧ (nextTo l k < 0 ∨ (csAt l k).due < (csAt l (nextTo l k)).due) then k else nextTo l k
def nextL (l : List Cs) : Int := nextTo l l.length
def evOf (st : List Stg) (x : Cs) (n : Int) : Ev := ⟨n, x.due, x.id, x.stage, x.level, (lvAt (stAt st x.stage) x.level).2⟩
def tickGo (F : Nat → Bool) (st : List Stg) (T : Int) : Nat → List Cs → Int → List Ev × List Cs × Int
  | 0, l, k => ([], l, k)
  | f + 1, l, k =>
    if nextL l < 0 ∨ T < (csAt l (nextL l)).due then ([], l, k)
    else (evOf st (csAt l (nextL l)) (k + 1) :: (tickGo F st T f (setC l (nextL l) (comesL F st (csAt l (nextL l)) ((csAt l (nextL l)).level + 1) (csAt l (nextL l)).due)) (k + 1)).1,
      (tickGo F st T f (setC l (nextL l) (comesL F st (csAt l (nextL l)) ((csAt l (nextL l)).level + 1) (csAt l (nextL l)).due)) (k + 1)).2)
/-- how many levels are to come at most -/
def leftOf (st : List Stg) (x : Cs) : Nat := if 0 ≤ x.due then (stAt st x.stage).levels.length - x.level.toNat else 0
def leftL (st : List Stg) (l : List Cs) : Nat := (l.map (leftOf st)).sum
def tickC (F : Nat → Bool) (st : List Stg) (d : Dk) (n : Int) : Dk × List Ev × Int :=
  if n < 0 ∨ 100800 - d.time < n then (d, [], 1)
  else ({ d with time := d.time + n, told := (tickGo F st (d.time + n) (leftL st d.cases) d.cases d.told).2.2, cases := (tickGo F st (d.time + n) (leftL st d.cases) d.cases d.told).2.1 }, (tickGo F st (d.time + n) (leftL st d.cases) d.cases d.told).1, 0)
def holdC (F : Nat → Bool) (d : Dk) (id : Int) : Dk × Int :=
  if findL d.cases id < 0 then (d, 5)
  else if (csAt d.cases (findL d.cases id)).held then (d, 6)
  else ({ d with cases := setC d.cases (findL d.cases id) (if 0 ≤ (csAt d.cases (findL d.cases id)).due then { csAt d.cases (findL d.cases id) with held := true, rest := cnt F (csAt d.cases (findL d.cases id)).due.toNat - cnt F d.time.toNat, due := -1 } else { csAt d.cases (findL d.cases id) with held := true }) }, 0)
def resumeC (F : Nat → Bool) (d : Dk) (id : Int) : Dk × Int :=
  if findL d.cases id < 0 then (d, 5)
  else if (csAt d.cases (findL d.cases id)).held = false then (d, 6)
  else ({ d with cases := setC d.cases (findL d.cases id) (if 0 < (csAt d.cases (findL d.cases id)).rest then { armsL F { csAt d.cases (findL d.cases id) with held := false } d.time (csAt d.cases (findL d.cases id)).rest with rest := 0 } else { csAt d.cases (findL d.cases id) with held := false }) }, 0)
/-- the agenda: in the order of the times, then of the list -/
def insL (e : Int × Int) (l : List (Int × Int)) : List (Int × Int) := l.takeWhile (fun p => decide (p.2 ≤ e.2)) ++ e :: l.dropWhile (fun p => decide (p.2 ≤ e.2))
def agendaL : List Cs → List (Int × Int) → List (Int × Int)
  | [], out => out
  | x :: l, out => agendaL l (if x.due < 0 then out else insL (x.id, x.due) out)
end Go.Proofs.YtcnmbldikjljeaaGreatDoor
namespace Go.Proofs.YtcnmbldikjljeaaGreatDoor

/-- the stages keep to their bounds -/
def StOk (st : List Stg) : Prop := ∀ i : Nat, i < st.length → (stAt st i).levels.length ≤ 4 ∧ (∀ k : Nat, k < (stAt st i).levels.length → 1 ≤ (lvAt (stAt st i) k).1 ∧ (lvAt (stAt st i) k).1 ≤ 20000) ∧ (stAt st i).next.length ≤ 140737488351232 ∧ ∀ y ∈ (stAt st i).next, 0 ≤ y ∧ y < st.length
/-- a case keeps to its bounds -/
structure CsOk (st : List Stg) (x : Cs) : Prop where
  s0 : 0 ≤ x.stage
  s1 : x.stage < st.length
  l0 : 0 ≤ x.level
  l1 : x.level ≤ 4
  d0 : -1 ≤ x.due
  d1 : x.due ≤ 100800
  dl : 0 ≤ x.due → x.level < (stAt st x.stage).levels.length
  r0 : 0 ≤ x.rest
  r1 : x.rest ≤ 20000
/-- a docket keeps to its bounds -/
structure DkOk (F : Nat → Bool) (st : List Stg) (d : Dk) (N : Int) : Prop where
  t0 : 0 ≤ d.time
  t1 : d.time ≤ 100800
  m0 : 0 ≤ d.made
  m1 : d.made ≤ N
  k0 : 0 ≤ d.told
  k1 : d.told ≤ N
  len : d.cases.length ≤ 20
  cs : ∀ x ∈ d.cases, CsOk st x
  du : ∀ x ∈ d.cases, 0 ≤ x.due → d.time ≤ x.due ∧ cnt F x.due.toNat - cnt F d.time.toNat ≤ 20000
section
variable {F : Nat → Bool} {st : List Stg} {x : Cs} {t n level : Int}
theorem arms_stage : (armsL F x t n).stage = x.stage ∧ (armsL F x t n).rest = x.rest ∧ (armsL F x t n).held = x.held ∧ (armsL F x t n).id = x.id := by
  unfold armsL; split <;> simp
theorem arms_due (h1 : t ≤ 100800) : (armsL F x t n).due = -1 ∧ (armsL F x t n).level = 0 ∨ AddN F t n (armsL F x t n).due ∧ (armsL F x t n).level = x.level := by
  cases e : addO F t n with
  | none => left; unfold armsL; rw [e]; simp
  | some y => right; unfold armsL; rw [e]; exact ⟨addO_some h1 e, rfl⟩
theorem comes_stage : (comesL F st x level t).stage = x.stage ∧ (comesL F st x level t).rest = x.rest ∧ (comesL F st x level t).held = x.held ∧ (comesL F st x level t).id = x.id := by
  unfold comesL; split
  · simp
  · exact arms_stage
theorem comes_due (hs : StOk st) (s0 : 0 ≤ x.stage) (s1 : x.stage < st.length) (l0 : 0 ≤ level) (h1 : t ≤ 100800) :
    (comesL F st x level t).due = -1 ∧ (comesL F st x level t).level = 0 ∨
    ∃ m, 1 ≤ m ∧ m ≤ 20000 ∧ AddN F t m (comesL F st x level t).due ∧ (comesL F st x level t).level = level ∧ level < (stAt st x.stage).levels.length := by
  unfold comesL
  split
  · left; simp
  · rename_i h
    have hst := hs x.stage.toNat (by omega)
    rw [show ((x.stage.toNat : Nat) : Int) = x.stage by omega] at hst
    have hk := hst.2.1 level.toNat (by omega)
    rw [show ((level.toNat : Nat) : Int) = level by omega] at hk
    rcases arms_due (F := F) (x := { x with level := level }) (n := (lvAt (stAt st x.stage) level).1) h1 with a | a
    · left; exact a
    · right; exact ⟨_, hk.1, hk.2, a.1, a.2, by omega⟩
theorem comes_ok (hs : StOk st) (s0 : 0 ≤ x.stage) (s1 : x.stage < st.length) (r0 : 0 ≤ x.rest) (r1 : x.rest ≤ 20000) (l0 : 0 ≤ level) (h0 : 0 ≤ t) (h1 : t ≤ 100800) :
    CsOk st (comesL F st x level t) ∧ (0 ≤ (comesL F st x level t).due → t < (comesL F st x level t).due ∧ cnt F (comesL F st x level t).due.toNat - cnt F t.toNat ≤ 20000) := by
  obtain ⟨e1, e2, _, _⟩ := comes_stage (F := F) (st := st) (x := x) (level := level) (t := t)
  have hst := hs x.stage.toNat (by omega)
  rw [show ((x.stage.toNat : Nat) : Int) = x.stage by omega] at hst
  rcases comes_due (F := F) hs s0 s1 l0 h1 with ⟨a1, a2⟩ | ⟨m, m0, m1, a1, a2, a3⟩
  · exact ⟨⟨by omega, by omega, by omega, by omega, by omega, by omega, fun h => by omega, by omega, by omega⟩, fun h => by omega⟩
  · obtain ⟨b1, b2, b3, _⟩ := a1
    have hne : t < (comesL F st x level t).due := by
      by_cases h : t < (comesL F st x level t).due
      · exact h
      · have : (comesL F st x level t).due = t := by omega
        rw [this] at b3; omega
    exact ⟨⟨by omega, by omega, by omega, by have := hst.1; omega, by omega, by omega, fun _ => by rw [a2, e1]; exact a3, by omega, by omega⟩, fun _ => ⟨hne, by omega⟩⟩
end
/-- Open keeps the bounds -/
theorem open_ok {F : Nat → Bool} {st : List Stg} {d : Dk} {N : Int} (h : DkOk F st d N) (hs : StOk st) (stage : Int) : DkOk F st (openC F st d stage).1 (N + 1) := by
  have hN : DkOk F st d (N + 1) := { h with m1 := by have := h.m1; omega, k1 := by have := h.k1; omega }
  unfold openC
  split
  · exact hN
  · rename_i hr
    split
    · exact hN
    · rename_i hl
      have hr : 0 ≤ stage ∧ stage < st.length := by omega
      have ok := comes_ok (F := F) (x := ⟨d.made + 1, stage, 0, 0, false, 0⟩) hs hr.1 hr.2 (by simp) (by simp) (level := 0) (by omega) h.t0 h.t1
      refine { hN with m0 := by have := h.m0; simp; omega, m1 := by have := h.m1; simp; omega, len := by simp; omega, cs := fun x hx => ?_, du := fun x hx => ?_ }
      · rcases List.mem_append.1 hx with a | a
        · exact h.cs x a
        · rw [List.mem_singleton] at a; subst a; exact ok.1
      · rcases List.mem_append.1 hx with a | a
        · exact h.du x a
        · rw [List.mem_singleton] at a; subst a
          intro hd
          have := ok.2 hd
          exact ⟨by simp; omega, this.2⟩
end Go.Proofs.YtcnmbldikjljeaaGreatDoor
namespace Go.Proofs.YtcnmbldikjljeaaGreatDoor

section
variable {F : Nat → Bool} {st : List Stg} {l : List Cs} {x : Cs} {T k : Int}
theorem csAt_nat {i : Nat} (h : i < l.length) : csAt l i = l[i] := by
  unfold csAt; rw [Int.toNat_natCast, List.getD_eq_getElem?_getD, List.getElem?_eq_getElem h]; rfl
theorem leftL_set (l : List Cs) (i : Nat) (h : i < l.length) (y : Cs) : leftL st (l.set i y) + leftOf st (csAt l i) = leftL st l + leftOf st y := by
  induction l generalizing i with
  | nil => simp at h
  | cons z l ih =>
    cases i with
    | zero => simp [leftL, csAt]; omega
    | succ i =>
      have hi : i < l.length := by simpa using h
      have := ih i hi
      rw [csAt_nat hi] at this
      rw [csAt_nat h]
      simp only [leftL, List.set_cons_succ, List.map_cons, List.sum_cons, List.getElem_cons_succ] at this ⊢
      omega
theorem leftOf_le (hs : StOk st) (h : CsOk st x) : leftOf st x ≤ 4 := by
  unfold leftOf
  split
  · have := hs x.stage.toNat (by have := h.s0; have := h.s1; omega)
    rw [show ((x.stage.toNat : Nat) : Int) = x.stage by have := h.s0; omega] at this
    omega
  · omega
theorem leftL_le (hs : StOk st) (l : List Cs) (h : ∀ x ∈ l, CsOk st x) : leftL st l ≤ 4 * l.length := by
  induction l with
  | nil => simp [leftL]
  | cons z l ih =>
    have h1 := ih (fun x hx => h x (List.mem_cons_of_mem _ hx))
    have h2 := leftOf_le hs (h z (by simp))
    simp only [leftL, List.map_cons, List.sum_cons, List.length_cons] at h1 ⊢
    omega
/-- one level fewer is to come -/
theorem comes_left (hs : StOk st) (h : CsOk st x) (hd : 0 ≤ x.due) : leftOf st (comesL F st x (x.level + 1) x.due) + 1 ≤ leftOf st x := by
  have hl := h.dl hd
  have l0 := h.l0
  have e0 : leftOf st x = (stAt st x.stage).levels.length - x.level.toNat := by unfold leftOf; rw [if_pos hd]
  obtain ⟨e1, _, _, _⟩ := comes_stage (F := F) (st := st) (x := x) (level := x.level + 1) (t := x.due)
  rcases comes_due (F := F) hs h.s0 h.s1 (level := x.level + 1) (by omega) h.d1 with ⟨a1, a2⟩ | ⟨m, _, _, a1, a2, a3⟩
  · have : leftOf st (comesL F st x (x.level + 1) x.due) = 0 := by unfold leftOf; rw [if_neg (by omega)]
    omega
  · have hd2 : 0 ≤ (comesL F st x (x.level + 1) x.due).due := by have := a1.1; omega
    have : leftOf st (comesL F st x (x.level + 1) x.due) = (stAt st x.stage).levels.length - (x.level + 1).toNat := by unfold leftOf; rw [if_pos hd2, e1, a2]
    omega
theorem nextTo_bd (l : List Cs) (k : Nat) : -1 ≤ nextTo l k ∧ nextTo l k < k ∧ (0 ≤ nextTo l k → 0 ≤ (csAt l (nextTo l k)).due) := by
  induction k with
  | zero => simp [nextTo]
  | succ k ih =>
    simp only [nextTo]
    split
    · rename_i h
      exact ⟨by omega, by omega, fun _ => h.1⟩
    · exact ⟨ih.1, by omega, ih.2.2⟩
/-- the least time of all that are due -/
theorem nextTo_least (l : List Cs) (k : Nat) : ∀ i : Nat, i < k → 0 ≤ (csAt l i).due → 0 ≤ nextTo l k ∧ (csAt l (nextTo l k)).due ≤ (csAt l i).due ∧ ((csAt l i).due = (csAt l (nextTo l k)).due → nextTo l k ≤ i) := by
  induction k with
  | zero => intro i h; omega
  | succ k ih =>
    intro i hi hd
    simp only [nextTo]
    by_cases hk : i = k
    · subst hk
      split
      · exact ⟨by omega, by omega, fun _ => by omega⟩
      · rename_i h
        have h1 : 0 ≤ nextTo l i := by
          apply Int.not_lt.1
          intro g; exact h ⟨hd, .inl g⟩
        have h2 : (csAt l (nextTo l i)).due ≤ (csAt l i).due := by
          apply Int.not_lt.1
          intro g; exact h ⟨hd, .inr g⟩
        have := (nextTo_bd l i).2.1
        exact ⟨h1, h2, fun _ => by omega⟩
    · obtain ⟨a, b, c⟩ := ih i (by omega) hd
      split
      · rename_i h
        have : (csAt l k).due < (csAt l (nextTo l k)).due := by
          rcases h.2 with g | g
          · omega
          · exact g
        exact ⟨by omega, by omega, fun e => by omega⟩
      · exact ⟨a, b, c⟩
theorem set_mem {l : List Cs} {i : Nat} {y z : Cs} (h : z ∈ l.set i y) : z = y ∨ z ∈ l := by
  rcases List.mem_or_eq_of_mem_set h with a | a
  · exact .inr a
  · exact .inl a
/-- a step of Tick -/
theorem tick_step (hs : StOk st) (hok : ∀ x ∈ l, CsOk st x) (h1 : 0 ≤ nextL l) (_h2 : (csAt l (nextL l)).due ≤ T) :
    ∃ i : Nat, nextL l = i ∧ i < l.length ∧ CsOk st (csAt l i) ∧ 0 ≤ (csAt l i).due ∧ (∀ x ∈ l.set i (comesL F st (csAt l i) ((csAt l i).level + 1) (csAt l i).due), CsOk st x) ∧ leftL st (l.set i (comesL F st (csAt l i) ((csAt l i).level + 1) (csAt l i).due)) + 1 ≤ leftL st l := by
  have hb := nextTo_bd l l.length
  have hi : (nextL l).toNat < l.length := by unfold nextL at *; omega
  have e : nextL l = ((nextL l).toNat : Nat) := by omega
  have hd : 0 ≤ (csAt l (nextL l)).due := hb.2.2 h1
  rw [e] at hd
  have hm : csAt l ((nextL l).toNat : Nat) ∈ l := by rw [csAt_nat hi]; exact List.getElem_mem hi
  have hx := hok _ hm
  refine ⟨(nextL l).toNat, e, hi, hx, hd, fun x hxm => ?_, ?_⟩
  · rcases set_mem hxm with rfl | a
    · exact (comes_ok (F := F) hs hx.s0 hx.s1 hx.r0 hx.r1 (by have := hx.l0; omega) hd hx.d1).1
    · exact hok x a
  · have := leftL_set (st := st) l _ hi (comesL F st (csAt l ((nextL l).toNat : Nat)) ((csAt l ((nextL l).toNat : Nat)).level + 1) (csAt l ((nextL l).toNat : Nat)).due)
    have := comes_left (F := F) hs hx hd
    omega
/-- more fuel changes nothing -/
theorem tick_fuel (hs : StOk st) (m : Nat) : ∀ (l : List Cs) (k : Int) (f1 f2 : Nat), (∀ x ∈ l, CsOk st x) → leftL st l ≤ m → leftL st l ≤ f1 → leftL st l ≤ f2 → tickGo F st T f1 l k = tickGo F st T f2 l k := by
  have stop : ∀ (l : List Cs) (k : Int) (f : Nat), (nextL l < 0 ∨ T < (csAt l (nextL l)).due) → tickGo F st T f l k = ([], l, k) := by
    intro l k f hc
    cases f with
    | zero => rfl
    | succ f => simp only [tickGo]; rw [if_pos hc]
  induction m with
  | zero =>
    intro l k f1 f2 hok hm h1 h2
    by_cases hc : nextL l < 0 ∨ T < (csAt l (nextL l)).due
    · rw [stop l k f1 hc, stop l k f2 hc]
    · obtain ⟨i, e, hi, _, _, hok', hlt⟩ := tick_step (F := F) (T := T) hs hok (by omega) (by omega)
      omega
  | succ m ih =>
    intro l k f1 f2 hok hm h1 h2
    by_cases hc : nextL l < 0 ∨ T < (csAt l (nextL l)).due
    · rw [stop l k f1 hc, stop l k f2 hc]
    · obtain ⟨i, e, hi, _, _, hok', hlt⟩ := tick_step (F := F) (T := T) hs hok (by omega) (by omega)
      obtain ⟨a, rfl⟩ : ∃ a, f1 = a + 1 := ⟨f1 - 1, by omega⟩
      obtain ⟨b, rfl⟩ : ∃ b, f2 = b + 1 := ⟨f2 - 1, by omega⟩
      simp only [tickGo]
      rw [if_neg hc, if_neg hc]
      have e1 := ih (setC l (nextL l) (comesL F st (csAt l (nextL l)) ((csAt l (nextL l)).level + 1) (csAt l (nextL l)).due)) (k + 1) a b (by rw [e]; unfold setC; rw [Int.toNat_natCast]; exact hok') (by rw [e]; unfold setC; rw [Int.toNat_natCast]; omega) (by rw [e]; unfold setC; rw [Int.toNat_natCast]; omega) (by rw [e]; unfold setC; rw [Int.toNat_natCast]; omega)
      rw [e1]
/-- Tick's loop: where it ends -/
theorem tick_done (hc : nextL l < 0 ∨ T < (csAt l (nextL l)).due) (f : Nat) : tickGo F st T f l k = ([], l, k) := by
  cases f with
  | zero => rfl
  | succ f => simp only [tickGo]; rw [if_pos hc]
/-- .. where it goes on -/
theorem tick_more (hs : StOk st) (hok : ∀ x ∈ l, CsOk st x) {i : Nat} (e : nextL l = i) (h2 : (csAt l i).due ≤ T) :
    tickGo F st T (leftL st l) l k = (evOf st (csAt l i) (k + 1) :: (tickGo F st T (leftL st (l.set i (comesL F st (csAt l i) ((csAt l i).level + 1) (csAt l i).due))) (l.set i (comesL F st (csAt l i) ((csAt l i).level + 1) (csAt l i).due)) (k + 1)).1,
      (tickGo F st T (leftL st (l.set i (comesL F st (csAt l i) ((csAt l i).level + 1) (csAt l i).due))) (l.set i (comesL F st (csAt l i) ((csAt l i).level + 1) (csAt l i).due)) (k + 1)).2) := by
  obtain ⟨i', e', hi, _, _, hok', hlt⟩ := tick_step (F := F) (T := T) hs hok (by omega) (by rw [e]; exact h2)
  obtain rfl : i' = i := by omega
  obtain ⟨m, hm⟩ : ∃ m, leftL st l = m + 1 := ⟨leftL st l - 1, by omega⟩
  rw [hm]
  simp only [tickGo]
  rw [if_neg (by rw [e]; omega), e]
  unfold setC
  rw [Int.toNat_natCast, tick_fuel hs (leftL st l) _ (k + 1) m (leftL st (l.set i' (comesL F st (csAt l i') ((csAt l i').level + 1) (csAt l i').due))) hok' (by omega) (by omega) (Nat.le_refl _)]
end
end Go.Proofs.YtcnmbldikjljeaaGreatDoor
