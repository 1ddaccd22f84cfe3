import Derived.Test.YtcnmbldikjljeaaDoorPure1
namespace Go.Proofs.YtcnmbldikjljeaaDoor
open Go.RowKit

theorem any7 (D : Int) (h0 : 1 ≤ D) (h1 : D ≤ 127) : anyTo D 7 = true := by
  cases h : anyTo D 7
  · exfalso
    simp only [anyTo, dset, Bool.or_eq_false_iff, Bool.not_eq_false', beq_iff_eq, Int.pow_succ, Int.pow_zero] at h
    omega
  · rfl

theorem eFrom_lo (e : Ent) : 0 ≤ eFrom e := pk_lo _ _ (by omega)
theorem eFrom_hi (e : Ent) : eFrom e < 96 := pk_hi _ _ (by omega)
theorem eTo_lo (e : Ent) : eFrom e < eTo e := by have := pk_lo e.2.2 (96 - eFrom e) (by have := eFrom_hi e; omega); unfold eTo; omega
theorem eTo_hi (e : Ent) : eTo e ≤ 96 := by have := pk_hi e.2.2 (96 - eFrom e) (by have := eFrom_hi e; omega); unfold eTo; omega

def addE (wk : Nat → List (Int × Int)) (e : Ent) : Nat → List (Int × Int) := fun j => if (decide (j < 7) && dset (eDays e) j) = true then wk j ++ [(15 * eFrom e, 15 * eTo e)] else wk j

theorem feed_entry (e : Ent) (s : RS) (h : s.st = 0) (hd : s.days = fun _ => false) (hb : s.beg = -1) (ht : s.time = 0) :
    ∃ s', feed (txtI (entTxt e)) s = some s' ∧ s'.st = 9 ∧ s'.beg = -1 ∧ s'.time = 0 ∧ s'.num = s.num ∧ s'.ahead = s.ahead ∧ s'.free = s.free ∧ s'.week = addE s.week e := by
  obtain ⟨s1, f1, st1, d1, m1⟩ := feed_days (eDays e) s h hd 7 (by omega)
  rw [any7 _ (eDays_lo e) (eDays_hi e)] at st1
  simp only [if_true] at st1
  have f2 : feed [32] s1 = some { s1 with st := 3, place := s1.place + 1 } := feed1 (s1 := { s1 with st := 3 }) (by rw [take_st2 _ st1]; simp [dayEndL, markL])
  have q0 := eFrom_lo e
  have q1 := eFrom_hi e
  have q2 := eTo_lo e
  have q3 := eTo_hi e
  obtain ⟨t1, f3, a1, a2, a3, a4, a5, a6, a7, a8⟩ := feed_ck (eFrom e) q0 (by omega) { s1 with st := 3, place := s1.place + 1 } rfl (by show s1.time = 0; rw [m1.time, ht])
  have b1 : endTimeL t1 = (true, { t1 with time := 0, beg := t1.time, st := 8 }) := by
    unfold endTimeL; rw [if_pos (by rw [a4]; show s1.beg = -1; rw [m1.beg, hb])]
  rw [b1] at f3
  simp only [if_true] at f3
  have f4 : ∀ u : RS, u.st = 8 → feed [45] u = some { u with st := 3, place := u.place + 1 } := fun u hu => feed1 (s1 := { u with st := 3 }) (by rw [take_st8 _ hu]; simp [markL])
  have f4' := f4 { t1 with time := 0, beg := t1.time, st := 8, place := t1.place + 1 } rfl
  obtain ⟨t2, f5, c1, c2, c3, c4, c5, c6, c7, c8⟩ := feed_ck (eTo e) (by omega) q3 { t1 with time := 0, beg := t1.time, st := 3, place := t1.place + 1 + 1 } rfl rfl
  have c4' : t2.beg = 15 * eFrom e := by rw [c4]; exact a1
  have b2 : endTimeL t2 = (true, { t2 with time := 0, week := addW t2 (t2.beg, t2.time), beg := -1 }) := by
    unfold endTimeL; rw [if_neg (by rw [c4']; omega), if_neg (by rw [c4', c1]; omega)]
  rw [b2] at f5
  simp only [if_true] at f5
  refine ⟨{ t2 with time := 0, week := addW t2 (t2.beg, t2.time), beg := -1, place := t2.place + 1 }, ?_, c2, rfl, rfl, ?_, ?_, ?_, ?_⟩
  · unfold entTxt
    rw [txtI_app, txtI_app, txtI_app, txtI_app]
    exact feed_app (feed_app (feed_app (feed_app f1 f2) f3) f4') f5
  · show t2.num = s.num; rw [c5]; show t1.num = _; rw [a5]; exact m1.num
  · show t2.ahead = s.ahead; rw [c6]; show t1.ahead = _; rw [a6]; exact m1.ahead
  · show t2.free = s.free; rw [c8]; show t1.free = _; rw [a8]; exact m1.free
  · show addW t2 (t2.beg, t2.time) = _
    have hw : t2.week = s.week := by rw [c7]; show t1.week = _; rw [a7]; exact m1.week
    have hdd : t2.days = (fun j => decide (j < 7) && dset (eDays e) j) := by rw [c3]; show t1.days = _; rw [a3]; exact d1
    funext j
    simp only [addW, addE, hw, hdd, c4', c1]

def spansTo (es : List Ent) : Nat → Nat → List (Int × Int)
  | 0 => fun _ => []
  | k + 1 => addE (spansTo es k) (ent es k)

theorem feed_entries (es : List Ent) : ∀ k, 1 ≤ k →
    ∃ s', feed (txtI (txtTo es k)) rs0 = some s' ∧ s'.st = 9 ∧ s'.beg = -1 ∧ s'.time = 0 ∧ s'.num = 0 ∧ s'.ahead = -1 ∧ s'.free = (fun _ => false) ∧ s'.week = spansTo es k := by
  intro k
  induction k with
  | zero => intro h; omega
  | succ k ih =>
    intro _
    simp only [txtTo]
    by_cases hk : k = 0
    · subst hk
      obtain ⟨s', f, h1, h2, h3, h4, h5, h6, h7⟩ := feed_entry (ent es 0) rs0 rfl rfl rfl rfl
      exact ⟨s', by simpa [txtTo] using f, h1, h2, h3, h4, h5, h6, h7⟩
    · obtain ⟨s1, f1, h1, h2, h3, h4, h5, h6, h7⟩ := ih (by omega)
      have f2 : feed [59] s1 = some { s1 with st := 0, days := fun _ => false, place := s1.place + 1 } := feed1 (s1 := { s1 with st := 0, days := fun _ => false }) (by rw [take_st9 _ h1]; simp [spanEndL])
      obtain ⟨s', f, g1, g2, g3, g4, g5, g6, g7⟩ := feed_entry (ent es k) { s1 with st := 0, days := fun _ => false, place := s1.place + 1 } rfl rfl h2 h3
      refine ⟨s', ?_, g1, g2, g3, g4.trans h4, g5.trans h5, g6.trans h6, ?_⟩
      · rw [if_neg hk, txtI_app, txtI_app]; exact feed_app (feed_app f1 f2) f
      · rw [g7]; show addE s1.week _ = _; rw [h7]; rfl
end Go.Proofs.YtcnmbldikjljeaaDoor
