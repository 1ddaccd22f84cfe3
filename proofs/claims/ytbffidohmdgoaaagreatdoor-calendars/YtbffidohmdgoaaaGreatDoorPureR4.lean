import Derived.Test.YtbffidohmdgoaaaGreatDoorPureR3
namespace Go.Proofs.YtbffidohmdgoaaaGreatDoor
open Go.RowKit

/-- what a stretch of reading leaves as it was -/
structure Kp (s s' : RS) : Prop where
  beg : s'.beg = s.beg
  time : s'.time = s.time
  ahead : s'.ahead = s.ahead
  week : s'.week = s.week
  free : s'.free = s.free
/-- the days that are named -/
def DayR (l : List Int) (days : Nat → Bool) : Prop := ∀ j, j < 7 → days j = l.contains (j : Int)
/-- the minutes of the week -/
def WkR (wk : Nat → Bool) (week : Nat → List (Int × Int)) : Prop := ∀ d, d < 7 → ∀ m : Nat, m < 1440 → wk (d * 1440 + m) = hitL (m : Int) (week d)

section
variable {L : List Int} {I : Int} {s : RS}
theorem sim_weekday (h0 : 0 ≤ I) (hst : s.st = 0) (hp : s.place = I) :
    (∃ J P, (weekdayF L (I, -1)).2 = (J, P) ∧ Tld (mach L I s) P) ∨
    (∃ (c : Int) (d : Nat), d < 7 ∧ weekdayF L (I, -1) = ((d : Int), (I + 2, -1)) ∧ I + 2 ≤ L.length ∧
      mach L I s = mach L (I + 2) { s with letter := c, days := fun j => if j = d then true else s.days j, st := 2, place := I + 2 }) := by
  unfold weekdayF
  cases hf : isFirst (lookF L (I, -1))
  · have e : takeL s (lookF L (I, -1)) = (false, s) := by rw [take_st0 _ hst]; unfold dayFirstL; rw [hf]; rfl
    refine .inl ⟨I, I, rfl, ?_⟩
    exact mach_told h0 hp (by omega) (by rw [e]) (by rw [e])
  · have e : takeL s (lookF L (I, -1)) = (true, { s with letter := lookF L (I, -1), st := 1 }) := by rw [take_st0 _ hst]; unfold dayFirstL; rw [hf]; rfl
    obtain ⟨l1, e1⟩ := mach_yes (L := L) (s := s) h0 (by rw [e])
    rw [e] at e1
    simp only [hp] at e1
    simp only [if_true]
    obtain ⟨s1, hs1⟩ : ∃ s1, s1 = { s with letter := lookF L (I, -1), st := 1, place := I + 1 } := ⟨_, rfl⟩
    rw [← hs1] at e1
    by_cases hd : dayOf (lookF L (I, -1)) (lookF L (I + 1, -1)) < 7
    · have e2 : takeL s1 (lookF L (I + 1, -1)) = (true, { s1 with days := fun j => if j = dayOf (lookF L (I, -1)) (lookF L (I + 1, -1)) then true else s1.days j, st := 2 }) := by
        rw [take_st1 _ (by rw [hs1])]; unfold daySecondL; rw [show s1.letter = lookF L (I, -1) by rw [hs1], if_pos hd]
      obtain ⟨l2, e3⟩ := mach_yes (L := L) (s := s1) (I := I + 1) (by omega) (by rw [e2])
      rw [e2] at e3
      simp only [hs1] at e3
      rw [if_pos hd]
      refine .inr ⟨lookF L (I, -1), _, hd, ?_, by omega, ?_⟩
      · rw [show I + 1 + 1 = I + 2 by omega]
      · rw [e1, hs1, e3, show I + 1 + 1 = I + 2 by omega]
    · have e2 : takeL s1 (lookF L (I + 1, -1)) = (false, s1) := by
        rw [take_st1 _ (by rw [hs1])]; unfold daySecondL; rw [show s1.letter = lookF L (I, -1) by rw [hs1], if_neg hd]
      rw [if_neg hd]
      refine .inl ⟨I + 1, I + 1, rfl, ?_⟩
      rw [e1]
      exact mach_told (by omega) (by rw [hs1]) (by rw [hs1]; simp) (by rw [e2]) (by rw [e2])
theorem day_snoc {l : List Int} {days : Nat → Bool} (h : DayR l days) (d : Nat) : DayR (l ++ [(d : Int)]) (fun j => if j = d then true else days j) := by
  intro j hj
  have := h j hj
  by_cases e : j = d
  · subst e; simp
  · have : ¬ (j : Int) = (d : Int) := by omega
    simp [e, this, h j hj]
theorem sim_days : ∀ (f : Nat) (I : Int) (s : RS) (l : List Int), 0 ≤ I → I ≤ L.length → s.st = 2 → s.place = I → DayR l s.days → (L.length : Int) < I + f →
    (∃ J P, (takeF L (daysF L f (I, -1) l).2 32 32).2 = (J, P) ∧ Tld (mach L I s) P) ∨
    (∃ J s', (takeF L (daysF L f (I, -1) l).2 32 32).2 = (J, -1) ∧ I < J ∧ J ≤ L.length ∧ mach L I s = mach L J s' ∧ s'.st = 3 ∧ s'.place = J ∧ DayR (daysF L f (I, -1) l).1 s'.days ∧ Kp s s') := by
  intro f
  induction f with
  | zero => intro I s l h0 hl hst hp hd hf; omega
  | succ f ih =>
    intro I s l h0 hl hst hp hd hf
    simp only [daysF]
    by_cases h44 : lookF L (I, -1) = 44
    · rw [if_pos h44]
      have e : takeL s (lookF L (I, -1)) = (true, { s with st := 0 }) := by rw [take_st2 _ hst]; unfold dayEndL; rw [if_pos h44]
      obtain ⟨l1, e1⟩ := mach_yes (L := L) (s := s) h0 (by rw [e])
      rw [e] at e1
      simp only [hp] at e1
      rcases sim_weekday (L := L) (I := I + 1) (s := { s with st := 0, place := I + 1 }) (by omega) rfl rfl with ⟨J, P, h1, h2⟩ | ⟨c, d, hd7, h1, h2, h3⟩
      · rw [h1, told_days h2.2.2, told_take h2.2.2]
        exact .inl ⟨J, P, rfl, by rw [e1]; exact h2⟩
      · rw [h1]
        simp only at h3
        rw [show I + 1 + 2 = I + 3 by omega] at h2 h3 ⊢
        rcases ih (I + 3) { s with letter := c, days := fun j => if j = d then true else s.days j, st := 2, place := I + 3 } (l ++ [(d : Int)]) (by omega) h2 rfl rfl (day_snoc hd d) (by omega) with ⟨J, P, g1, g2⟩ | ⟨J, s', g1, g2, g3, g4, g5, g6, g7, g8⟩
        · exact .inl ⟨J, P, g1, by rw [e1, h3]; exact g2⟩
        · exact .inr ⟨J, s', g1, by omega, g3, by rw [e1, h3, g4], g5, g6, g7, ⟨g8.beg, g8.time, g8.ahead, g8.week, g8.free⟩⟩
    · rw [if_neg h44]
      by_cases h32 : lookF L (I, -1) = 32
      · have e : takeL s (lookF L (I, -1)) = (true, { s with st := 3 }) := by rw [take_st2 _ hst]; unfold dayEndL markL; rw [if_neg h44, if_pos h32]
        obtain ⟨l1, e1⟩ := mach_yes (L := L) (s := s) h0 (by rw [e])
        rw [e] at e1
        simp only [hp] at e1
        rw [tk_yes (by omega) (by omega) (by omega)]
        exact .inr ⟨I + 1, _, rfl, by omega, by omega, e1, rfl, rfl, hd, ⟨rfl, rfl, rfl, rfl, rfl⟩⟩
      · have e : takeL s (lookF L (I, -1)) = (false, s) := by rw [take_st2 _ hst]; unfold dayEndL markL; rw [if_neg h44, if_neg h32]
        rw [tk_no (by omega)]
        exact .inl ⟨I, I, rfl, mach_told h0 hp (by omega) (by rw [e]) (by rw [e])⟩
theorem sim_span (h0 : 0 ≤ I) (hst : s.st = 3) (ht : s.time = 0) (hb : s.beg = -1) (hp : s.place = I) :
    (∃ J P, (spanF L (I, -1)).2.2 = (J, P) ∧ Tld (mach L I s) P) ∨
    (∃ a b, 0 ≤ a ∧ a < b ∧ spanF L (I, -1) = (a, b, (I + 11, -1)) ∧ I + 11 ≤ L.length ∧ mach L I s = mach L (I + 11) { s with time := 0, week := addW s (a, b), beg := -1, st := 9, place := I + 11 }) := by
  unfold spanF
  rcases sim_time (L := L) h0 hst ht hp with ⟨J, P, h1, h2⟩ | ⟨a, ha, h1, h2, h3⟩
  · simp only [h1, told_take h2.2.2, told_time h2.2.2, told_bad h2.2.2]
    exact .inl ⟨J, P, by split <;> rfl, h2⟩
  · have e : endTimeL { s with time := a, st := 9, place := I + 4 } = (true, { s with time := 0, beg := a, st := 8, place := I + 4 }) := by unfold endTimeL; rw [if_pos hb]
    rw [e] at h3
    simp only [if_true] at h3
    simp only [h1]
    rcases mstep (L := L) (I := I + 5) (s := { s with time := 0, beg := a, st := 8, place := I + 5 }) (by omega) 45 3 (fun c => take_st8 c rfl) rfl (by simp) with ⟨c1, l1, e1⟩ | ⟨n1, t1⟩
    · simp only at e1
      rw [tk_yes (by omega) (by omega) (by omega)]
      rw [show I + 5 + 1 = I + 6 by omega] at e1 ⊢
      simp only
      rcases sim_time (L := L) (I := I + 6) (s := { s with time := 0, beg := a, st := 3, place := I + 6 }) (by omega) rfl rfl rfl with ⟨J, P, k1, k2⟩ | ⟨b, hbb, k1, k2, k3⟩
      · simp only [k1, told_bad k2.2.2]
        exact .inl ⟨J, P, by split <;> rfl, by rw [h3, e1]; exact k2⟩
      · simp only [k1]
        simp only at k3
        rw [show I + 6 + 5 = I + 11 by omega, show I + 6 + 4 = I + 10 by omega] at k3
        rw [show I + 6 + 5 = I + 11 by omega] at k1 k2 ⊢
        by_cases hab : b ≤ a
        · have e2 : endTimeL { s with time := b, beg := a, st := 9, place := I + 10 } = (false, { s with time := 0, beg := a, st := 9, place := I + 10 }) := by
            unfold endTimeL; rw [if_neg (by simp only; omega), if_pos hab]
          rw [e2] at k3
          refine .inl ⟨I + 11, I + 10, ?_, ?_⟩
          · rw [if_pos hab]; unfold badF; rw [if_pos (by simp)]; simp; omega
          · rw [h3, e1, k3]; exact ⟨rfl, rfl, by omega⟩
        · have e2 : endTimeL { s with time := b, beg := a, st := 9, place := I + 10 } = (true, { s with time := 0, week := addW s (a, b), beg := -1, st := 9, place := I + 10 }) := by
            unfold endTimeL; rw [if_neg (by simp only; omega), if_neg hab]; rfl
          rw [e2] at k3
          refine .inr ⟨a, b, ha, by omega, ?_, k2, ?_⟩
          · rw [if_neg hab]
          · rw [h3, e1, k3]; rfl
    · rw [tk_no (by omega)]
      simp only [told_time (show 0 ≤ I + 5 by omega), told_bad (show 0 ≤ I + 5 by omega)]
      exact .inl ⟨I + 5, I + 5, by split <;> rfl, by rw [h3]; exact t1⟩
end
end Go.Proofs.YtbffidohmdgoaaaGreatDoor
