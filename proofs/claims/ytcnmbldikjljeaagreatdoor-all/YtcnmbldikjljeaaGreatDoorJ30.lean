import Derived.Test.YtcnmbldikjljeaaGreatDoorJ29
namespace Go.Proofs.YtcnmbldikjljeaaGreatDoor
open Go.RowKit

/-- what a stretch of reading leaves as it was -/
structure Kp (s s' : RS) : Prop where
  beg : s'.beg = s.beg
  time : s'.time = s.time
  ahead : s'.ahead = s.ahead
  week : s'.week = s.week
  free : s'.free = s.free
/-- the days that are named -/
def DayR (l : List Int) (days : Nat → Bool) : Prop := ∀ j, j < 7 → days j = l.contains (j : Int)
/-- the minutes of the week -/
def WkR (wk : Nat → Bool) (week : Nat → List (Int × Int)) : Prop := ∀ d, d < 7 → ∀ m : Nat, m < 1440 → wk (d * 1440 + m) = hitL (m : Int) (week d)

section
variable {L : List Int} {I : Int} {s : RS}
theorem sim_weekday (h0 : 0 ≤ I) (hst : s.st = 0) (hp : s.place = I) :
    (∃ J P, (weekdayF L (I, -1)).2 = (J, P) ∧ Tld (mach L I s) P) ∨
    (∃ (c : Int) (d : Nat), d < 7 ∧ weekdayF L (I, -1) = ((d : Int), (I + 2, -1)) ∧ I + 2 ≤ L.length ∧
      mach L I s = mach L (I + 2) { s with letter := c, days := fun j => if j = d then true else s.days j, st := 2, place := I + 2 }) := by
  unfold weekdayF
  cases hf : isFirst (lookF L (I, -1))
  · have e : takeL s (lookF L (I, -1)) = (false, s) := by rw [take_st0 _ hst]; unfold dayFirstL; rw [hf]; rfl
    refine .inl ⟨I, I, rfl, ?_⟩
    exact mach_told h0 hp (by omega) (by rw [e]) (by rw [e])
  · have e : takeL s (lookF L (I, -1)) = (true, { s with letter := lookF L (I, -1), st := 1 }) := by rw [take_st0 _ hst]; unfold dayFirstL; rw [hf]; rfl
    obtain ⟨l1, e1⟩ := mach_yes (L := L) (s := s) h0 (by rw [e])
    rw [e] at e1
    simp only [hp] at e1
    simp only [if_true]
    obtain ⟨s1, hs1⟩ : ∃ s1, s1 = { s with letter := lookF L (I, -1), st := 1, place := I + 1 } := ⟨_, rfl⟩
    rw [← hs1] at e1
    by_cases hd : dayOf (lookF L (I, -1)) (lookF L (I + 1, -1)) < 7
    · have e2 : takeL s1 (lookF L (I + 1, -1)) = (true, { s1 with days := fun j => if j = dayOf (lookF L (I, -1)) (lookF L (I + 1, -1)) then true else s1.days j, st := 2 }) := by
        rw [take_st1 _ (by rw [hs1])]; unfold daySecondL; rw [show s1.letter = lookF L (I, -1) by rw [hs1], if_pos hd]
      obtain ⟨l2, e3⟩ := mach_yes (L := L) (s := s1) (I := I + 1) (by omega) (by rw [e2])
      rw [e2] at e3
      simp only [hs1] at e3
      rw [if_pos hd]
      refine .inr ⟨lookF L (I, -1), _, hd, ?_, by omega, ?_⟩
      · rw [show I + 1 + 1 = I + 2 by omega]
      · rw [e1, hs1, e3, show I + 1 + 1 = I + 2 by omega]
    · have e2 : takeL s1 (lookF L (I + 1, -1)) = (false, s1) := by
        rw [take_st1 _ (by rw [hs1])]; unfold daySecondL; rw [show s1.letter = lookF L (I, -1) by rw [hs1], if_neg hd]
      rw [if_neg hd]
      refine .inl ⟨I + 1, I + 1, rfl, ?_⟩
      rw [e1]
      exact mach_told (by omega) (by rw [hs1]) (by rw [hs1]; simp) (by rw [e2]) (by rw [e2])
theorem day_snoc {l : List Int} {days : Nat → Bool} (h : DayR l days) (d : Nat) : DayR (l ++ [(d : Int)]) (fun j => if j = d then true else days j) := by
  intro j hj
  have := h j hj
  by_cases e : j = d
  · subst e; simp
  · have : ¬ (j : Int) = (d : Int) := by omega
    simp [e, this, h j hj]
theorem sim_days : ∀ (f : Nat) (I : Int) (s : RS) (l : List Int), 0 ≤ I → I ≤ L.length → s.st = 2 → s.place = I → DayR l s.days → (L.length : Int) < I + f →
    (∃ J P, (takeF L (daysF L f (I, -1) l).2 32 32).2 = (J, P) ∧ Tld (mach L I s) P) ∨
    (∃ J s', (takeF L (daysF L f (I, -1) l).2 32 32).2 = (J, -1) ∧ I < J ∧ J ≤ L.length ∧ mach L I s = mach L J s' ∧ s'.st = 3 ∧ s'.place = J ∧ DayR (daysF L f (I, -1) l).1 s'.days ∧ Kp s s') := by
  intro f
  induction f with
  | zero => intro I s l h0 hl hst hp hd hf; omega
  | succ f ih =>
    intro I s l h0 hl hst hp hd hf
    simp only [daysF]
    by_cases h44 : lookF L (I, -1) = 44
    · rw [if_pos h44]
      have e : takeL s (lookF L (I, -1)) = (true, { s with st := 0 }) := by rw [take_st2 _ hst]; unfold dayEndL; rw [if_pos h44]
      obtain ⟨l1, e1⟩ := mach_yes (L := L) (s := s) h0 (by rw [e])
      rw [e] at e1
      simp only [hp] at e1
      rcases sim_weekday (L := L) (I := I + 1) (s := { s with st := 0, place := I + 1 }) (by omega) rfl rfl with ⟨J, P, h1, h2⟩ | ⟨c, d, hd7, h1, h2, h3⟩
      · rw [h1, told_days h2.2.2, told_take h2.2.2]
        exact .inl ⟨J, P, rfl, by rw [e1]; exact h2⟩
      · rw [h1]
        simp only at h3
        rw [show I + 1 + 2 = I + 3 by omega] at h2 h3 ⊢
        rcases ih (I + 3) { s with letter := c, days := fun j => if j = d then true else s.days j, st := 2, place := I + 3 } (l ++ [(d : Int)]) (by omega) h2 rfl rfl (day_snoc hd d) (by omega) with ⟨J, P, g1, g2⟩ | ⟨J, s', g1, g2, g3, g4, g5, g6, g7, g8⟩
        · exact .inl ⟨J, P, g1, by rw [e1, h3]; exact g2⟩
        · exact .inr ⟨J, s', g1, by omega, g3, by rw [e1, h3, g4], g5, g6, g7, ⟨g8.beg, g8.time, g8.ahead, g8.week, g8.free⟩⟩
    · rw [if_neg h44]
      by_cases h32 : lookF L (I, -1) = 32
      · have e : takeL s (lookF L (I, -1)) = (true, { s with st := 3 }) := by rw [take_st2 _ hst]; unfold dayEndL markL; rw [if_neg h44, if_pos h32]
        obtain ⟨l1, e1⟩ := mach_yes (L := L) (s := s) h0 (by rw [e])
        rw [e] at e1
        simp only [hp] at e1
        rw [tk_yes (by omega) (by omega) (by omega)]
        exact .inr ⟨I + 1, _, rfl, by omega, by omega, e1, rfl, rfl, hd, ⟨rfl, rfl, rfl, rfl, rfl⟩⟩
      · have e : takeL s (lookF L (I, -1)) = (false, s) := by rw [take_st2 _ hst]; unfold dayEndL markL; rw [if_neg h44, if_neg h32]
        rw [tk_no (by omega)]
        exact .inl ⟨I, I, rfl, mach_told h0 hp (by omega) (by rw [e]) (by rw [e])⟩
theorem sim_span (h0 : 0 ≤ I) (hst : s.st = 3) (ht : s.time = 0) (hb : s.beg = -1) (hp : s.place = I) :
    (∃ J P, (spanF L (I, -1)).2.2 = (J, P) ∧ Tld (mach L I s) P) ∨
    (∃ a b, 0 ≤ a ∧ a < b ∧ spanF L (I, -1) = (a, b, (I + 11, -1)) ∧ I + 11 ≤ L.length ∧ mach L I s = mach L (I + 11) { s with time := 0, week := addW s (a, b), beg := -1, st := 9, place := I + 11 }) := by
  unfold spanF
  rcases sim_time (L := L) h0 hst ht hp with ⟨J, P, h1, h2⟩ | ⟨a, ha, h1, h2, h3⟩
  · simp only [h1, told_take h2.2.2, told_time h2.2.2, told_bad h2.2.2]
    exact .inl ⟨J, P, by split <;> rfl, h2⟩
  · have e : endTimeL { s with time := a, st := 9, place := I + 4 } = (true, { s with time := 0, beg := a, st := 8, place := I + 4 }) := by unfold endTimeL; rw [if_pos hb]
    rw [e] at h3
    simp only [if_true] at h3
    simp only [h1]
    rcases mstep (L := L) (I := I + 5) (s := { s with time := 0, beg := a, st := 8, place := I + 5 }) (by omega) 45 3 (fun c => take_st8 c rfl) rfl (by simp) with ⟨c1, l1, e1⟩ | ⟨n1, t1⟩
    · simp only at e1
      rw [tk_yes (by omega) (by omega) (by omega)]
      rw [show I + 5 + 1 = I + 6 by omega] at e1 ⊢
      simp only
      rcases sim_time (L := L) (I := I + 6) (s := { s with time := 0, beg := a, st := 3, place := I + 6 }) (by omega) rfl rfl rfl with ⟨J, P, k1, k2⟩ | ⟨b, hbb, k1, k2, k3⟩
      · simp only [k1, told_bad k2.2.2]
        exact .inl ⟨J, P, by split <;> rfl, by rw [h3, e1]; exact k2⟩
      · simp only [k1]
        simp only at k3
        rw [show I + 6 + 5 = I + 11 by omega, show I + 6 + 4 = I + 10 by omega] at k3
        rw [show I + 6 + 5 = I + 11 by omega] at k1 k2 ⊢
        by_cases hab : b ≤ a
        · have e2 : endTimeL { s with time := b, beg := a, st := 9, place := I + 10 } = (false, { s with time := 0, beg := a, st := 9, place := I + 10 }) := by
            unfold endTimeL; rw [if_neg (by simp only; omega), if_pos hab]
          rw [e2] at k3
          refine .inl ⟨I + 11, I + 10, ?_, ?_⟩
          · rw [if_pos hab]; unfold badF; rw [if_pos (by simp)]; simp; omega
          · rw [h3, e1, k3]; exact ⟨rfl, rfl, by omega⟩
        · have e2 : endTimeL { s with time := b, beg := a, st := 9, place := I + 10 } = (true, { s with time := 0, week := addW s (a, b), beg := -1, st := 9, place := I + 10 }) := by
            unfold endTimeL; rw [if_neg (by simp only; omega), if_neg hab]; rfl
          rw [e2] at k3
          refine .inr ⟨a, b, ha, by omega, ?_, k2, ?_⟩
          · rw [if_neg hab]
          · rw [h3, e1, k3]; rfl
    · rw [tk_no (by omega)]
      simp only [told_time (show 0 ≤ I + 5 by omega), told_bad (show 0 ≤ I + 5 by omega)]
      exact .inl ⟨I + 5, I + 5, by split <;> rfl, by rw [h3]; exact t1⟩
end
end Go.Proofs.YtcnmbldikjljeaaGreatDoor
namespace Go.Proofs.YtcnmbldikjljeaaGreatDoor
open Go.RowKit

theorem hit_snoc (m : Int) (l : List (Int × Int)) (a b : Int) : hitL m (l ++ [(a, b)]) = (hitL m l || (decide (a ≤ m) && decide (m < b))) := by
  simp [hitL, List.any_append]
theorem wk_mark {wk : Nat → Bool} {s : RS} {l : List Int} (h : WkR wk s.week) (hd : DayR l s.days) (a b : Int) : WkR (markF wk l a b) (addW s (a, b)) := by
  intro d hd7 m hm
  have e1 : (d * 1440 + m) / 1440 = d := by omega
  have e2 : (d * 1440 + m) % 1440 = m := by omega
  unfold markF addW
  rw [e1, e2, h d hd7 m hm, ← hd d hd7]
  cases s.days d
  · simp
  · simp only [if_true, hit_snoc, Bool.true_and]

section
variable {L : List Int}
/-- behind an entry: the end of a span -/
structure Sp (s s' : RS) (J : Int) (wk' : Nat → Bool) : Prop where
  st : s'.st = 9
  place : s'.place = J
  beg : s'.beg = -1
  time : s'.time = 0
  ahead : s'.ahead = s.ahead
  free : s'.free = s.free
  week : WkR wk' s'.week
theorem sim_spans (l : List Int) : ∀ (f : Nat) (I : Int) (s : RS) (wk : Nat → Bool), 0 ≤ I → I ≤ L.length → s.st = 3 → s.time = 0 → s.beg = -1 → s.place = I → DayR l s.days → WkR wk s.week → (L.length : Int) < I + f →
    (∃ J P, (spansF L l f (I, -1) wk).1 = (J, P) ∧ Tld (mach L I s) P) ∨
    (∃ J s', (spansF L l f (I, -1) wk).1 = (J, -1) ∧ I < J ∧ J ≤ L.length ∧ lookF L (J, -1) ≠ 32 ∧ mach L I s = mach L J s' ∧ Sp s s' J (spansF L l f (I, -1) wk).2) := by
  intro f
  induction f with
  | zero => intro I s wk h0 hl _ _ _ _ _ _ hf; omega
  | succ f ih =>
    intro I s wk h0 hl hst ht hb hp hd hw hf
    simp only [spansF]
    rw [if_pos (by omega)]
    rcases sim_span (L := L) h0 hst ht hb hp with ⟨J, P, h1, h2⟩ | ⟨a, b, ha, hab, h1, h2, h3⟩
    · rw [h1, told_look h2.2.2, if_neg (by omega)]
      exact .inl ⟨J, P, rfl, h2⟩
    · rw [h1]
      simp only
      have hw2 := wk_mark hw hd a b
      by_cases h32 : lookF L (I + 11, -1) = 32
      · rw [if_pos h32]
        obtain ⟨s9, hs9⟩ : ∃ s9, s9 = { s with time := 0, week := addW s (a, b), beg := -1, st := 9, place := I + 11 } := ⟨_, rfl⟩
        rw [← hs9] at h3
        have e : takeL s9 (lookF L (I + 11, -1)) = (true, { s9 with st := 3 }) := by rw [take_st9 _ (by rw [hs9])]; unfold spanEndL; rw [if_neg (by omega), if_pos h32]
        obtain ⟨l1, e1⟩ := mach_yes (L := L) (s := s9) (I := I + 11) (by omega) (by rw [e])
        rw [e] at e1
        simp only [hs9] at e1
        rw [show I + 11 + 1 = I + 12 by omega] at e1 ⊢
        rcases ih (I + 12) { s with time := 0, week := addW s (a, b), beg := -1, st := 3, place := I + 12 } (markF wk l a b) (by omega) (by omega) rfl rfl rfl rfl hd hw2 (by omega) with ⟨J, P, g1, g2⟩ | ⟨J, s', g1, g2, g3, g4, g5, g6⟩
        · exact .inl ⟨J, P, g1, by rw [h3, hs9, e1]; exact g2⟩
        · exact .inr ⟨J, s', g1, by omega, g3, g4, by rw [h3, hs9, e1, g5], ⟨g6.st, g6.place, g6.beg, g6.time, g6.ahead, g6.free, g6.week⟩⟩
      · rw [if_neg h32]
        exact .inr ⟨I + 11, _, rfl, by omega, h2, h32, h3, ⟨rfl, rfl, rfl, rfl, rfl, rfl, hw2⟩⟩
theorem sim_entry {I : Int} {s : RS} {wk : Nat → Bool} (h0 : 0 ≤ I) (_hl : I ≤ L.length) (hst : s.st = 0) (ht : s.time = 0) (hb : s.beg = -1) (hp : s.place = I) (hd : ∀ j, s.days j = false) (hw : WkR wk s.week) :
    (∃ J P, (entryF L (I, -1) wk).1 = (J, P) ∧ Tld (mach L I s) P) ∨
    (∃ J s', (entryF L (I, -1) wk).1 = (J, -1) ∧ I < J ∧ J ≤ L.length ∧ lookF L (J, -1) ≠ 32 ∧ mach L I s = mach L J s' ∧ Sp s s' J (entryF L (I, -1) wk).2) := by
  unfold entryF
  simp only
  rcases sim_weekday (L := L) h0 hst hp with ⟨J, P, h1, h2⟩ | ⟨c, d, hd7, h1, h2, h3⟩
  · rw [h1, told_days h2.2.2, told_take h2.2.2]
    simp only
    rw [told_spans h2.2.2]
    exact .inl ⟨J, P, rfl, h2⟩
  · rw [h1]
    simp only
    have hdr : DayR [(d : Int)] (fun j => if j = d then true else s.days j) := by
      have := day_snoc (l := []) (days := s.days) (fun j _ => by rw [hd]; rfl) d
      simpa using this
    rcases sim_days (L := L) (L.length + 1) (I + 2) { s with letter := c, days := fun j => if j = d then true else s.days j, st := 2, place := I + 2 } [(d : Int)] (by omega) h2 rfl rfl hdr (by omega) with ⟨J, P, g1, g2⟩ | ⟨J, s', g1, g2, g3, g4, g5, g6, g7, g8⟩
    · rw [g1, told_spans g2.2.2]
      exact .inl ⟨J, P, rfl, by rw [h3]; exact g2⟩
    · rw [g1]
      have b1 := g8.beg
      have b2 := g8.time
      have b3 := g8.week
      have b4 := g8.ahead
      have b5 := g8.free
      simp only at b1 b2 b3 b4 b5
      rcases sim_spans (L := L) (daysF L (L.length + 1) (I + 2, -1) [(d : Int)]).1 (L.length + 1) J s' wk (by omega) g3 g5 (b2.trans ht) (b1.trans hb) g6 g7 (by rw [b3]; exact hw) (by omega) with ⟨K, P, k1, k2⟩ | ⟨K, s2, k1, k2, k3, k4, k5, k6⟩
      · exact .inl ⟨K, P, k1, by rw [h3, g4]; exact k2⟩
      · exact .inr ⟨K, s2, k1, by omega, k3, k4, by rw [h3, g4, k5], ⟨k6.st, k6.place, k6.beg, k6.time, k6.ahead.trans b4, k6.free.trans b5, k6.week⟩⟩
theorem told_entries {I P : Int} (hP : 0 ≤ P) (f : Nat) (wk : Nat → Bool) : entriesF L f ((I, P), wk) = ((I, P), wk) := by
  cases f with
  | zero => rfl
  | succ f => simp only [entriesF, told_look hP]; rw [if_neg (by omega)]
theorem sim_entries : ∀ (f : Nat) (I : Int) (s : RS) (wk : Nat → Bool), 0 ≤ I → I ≤ L.length → Sp s s I wk → lookF L (I, -1) ≠ 32 → (L.length : Int) < I + f →
    (∃ J P, (entriesF L f ((I, -1), wk)).1 = (J, P) ∧ Tld (mach L I s) P) ∨
    (∃ J s', (entriesF L f ((I, -1), wk)).1 = (J, -1) ∧ I ≤ J ∧ J ≤ L.length ∧ lookF L (J, -1) ≠ 32 ∧ lookF L (J, -1) ≠ 59 ∧ mach L I s = mach L J s' ∧ Sp s s' J (entriesF L f ((I, -1), wk)).2) := by
  intro f
  induction f with
  | zero => intro I s wk h0 hl _ _ hf; omega
  | succ f ih =>
    intro I s wk h0 hl hs h32 hf
    simp only [entriesF]
    by_cases h59 : lookF L (I, -1) = 59
    · rw [if_pos h59]
      have e : takeL s (lookF L (I, -1)) = (true, { s with st := 0, days := fun _ => false }) := by rw [take_st9 _ hs.st]; unfold spanEndL; rw [if_pos h59]
      obtain ⟨l1, e1⟩ := mach_yes (L := L) (s := s) h0 (by rw [e])
      rw [e] at e1
      simp only [hs.place] at e1
      rcases sim_entry (L := L) (I := I + 1) (s := { s with st := 0, days := fun _ => false, place := I + 1 }) (wk := wk) (by omega) (by omega) rfl hs.time hs.beg rfl (fun _ => rfl) hs.week with ⟨J, P, h1, h2⟩ | ⟨J, s', h1, h2, h3, h4, h5, h6⟩
      · obtain ⟨x, y, hx⟩ : ∃ x y, entryF L (I + 1, -1) wk = (x, y) := ⟨_, _, rfl⟩
        rw [hx] at h1
        simp only at h1
        rw [hx, h1, told_entries h2.2.2]
        exact .inl ⟨J, P, rfl, by rw [e1]; exact h2⟩
      · obtain ⟨x, y, hx⟩ : ∃ x y, entryF L (I + 1, -1) wk = (x, y) := ⟨_, _, rfl⟩
        rw [hx] at h1 h6
        simp only at h1 h6
        rw [hx, h1]
        rcases ih J s' y (by omega) h3 ⟨h6.st, h6.place, h6.beg, h6.time, rfl, rfl, h6.week⟩ h4 (by omega) with ⟨K, P, k1, k2⟩ | ⟨K, s2, k1, k2, k3, k4, k5, k6, k7⟩
        · exact .inl ⟨K, P, k1, by rw [e1, h5]; exact k2⟩
        · exact .inr ⟨K, s2, k1, by omega, k3, k4, k5, by rw [e1, h5, k6], ⟨k7.st, k7.place, k7.beg, k7.time, k7.ahead.trans h6.ahead, k7.free.trans h6.free, k7.week⟩⟩
    · rw [if_neg h59]
      exact .inr ⟨I, s, rfl, by omega, hl, h32, h59, rfl, hs⟩
end
end Go.Proofs.YtcnmbldikjljeaaGreatDoor
namespace Go.Proofs.YtcnmbldikjljeaaGreatDoor
open Go.RowKit

section
variable {L : List Int}
/-- the end: what is left is told -/
def endF (L : List Int) (n : Sg × (Nat → Bool)) : Sg := if n.1.1 < L.length then badF n.1 n.1.1 else n.1
theorem told_end {I P : Int} (hP : 0 ≤ P) (off : Nat → Bool) : endF L ((I, P), off) = (I, P) := by
  unfold endF; simp only; split
  · exact told_bad hP _
  · rfl
/-- how it ends -/
def Ends (M : Bool × RS) (s : RS) (n : Sg × (Nat → Bool)) (e : Sg) : Prop :=
  (0 ≤ e.2 ∧ Tld M e.2) ∨ (e.2 < 0 ∧ M.1 = true ∧ M.2.week = s.week ∧ ∀ j, M.2.free j = n.2 j)
theorem free_set {free off : Nat → Bool} (h : ∀ j, free j = off j) (n : Int) (j : Nat) : (if j = n.toNat then true else free j) = setO off n j := by
  unfold setO; rw [h j]
  by_cases e : j = n.toNat <;> simp [e]
/-- behind a number that is right: the place J, the list goes on or ends -/
theorem sim_after {f : Nat} (J last : Int) (s : RS) (off : Nat → Bool) (h0 : 0 ≤ J) (hl : J ≤ L.length) (hst : s.st = 12) (hp : s.place = J) (_ha : s.ahead = last) (hfr : ∀ j, s.free j = off j)
    (ih : lookF L (J, -1) = 44 → J < L.length → Ends (mach L (J + 1) { s with st := 10, place := J + 1 }) { s with st := 10, place := J + 1 } (numbersF L f (J, -1) last off) (endF L (numbersF L f (J, -1) last off))) :
    Ends (mach L J s) s (if lookF L (J, -1) = 44 then numbersF L f (J, -1) last off else ((J, -1), off)) (endF L (if lookF L (J, -1) = 44 then numbersF L f (J, -1) last off else ((J, -1), off))) := by
  by_cases h44 : lookF L (J, -1) = 44
  · have e : takeL s (lookF L (J, -1)) = (true, { s with st := 10 }) := by rw [take_st12 _ hst]; unfold markL; rw [if_pos h44]
    obtain ⟨l1, e1⟩ := mach_yes (L := L) (s := s) h0 (by rw [e])
    rw [e] at e1
    simp only [hp] at e1
    rw [if_pos h44, e1]
    rcases ih h44 l1 with g | g
    · exact .inl g
    · exact .inr g
  · rw [if_neg h44]
    have e : takeL s (lookF L (J, -1)) = (false, s) := by rw [take_st12 _ hst]; unfold markL; rw [if_neg h44]
    by_cases hJ : J < L.length
    · refine .inl ?_
      unfold endF
      simp only [if_pos hJ]
      unfold badF
      simp only [show (-1 : Int) < 0 by omega, if_true]
      rw [mach_no h0 hJ (by rw [e]), e]
      exact ⟨h0, rfl, hp, h0⟩
    · refine .inr ?_
      unfold endF
      simp only [if_neg hJ]
      rw [mach_out (by omega)]
      unfold finishL
      rw [if_neg (by omega)]
      exact ⟨by omega, by simp [hst], rfl, hfr⟩
theorem nums_told {I J P last : Int} {f : Nat} {off : Nat → Bool} (h : (numberF L (I + 1, -1) last).2 = (J, P)) (hP : 0 ≤ P) : numbersF L (f + 1) (I, -1) last off = ((J, P), off) := by
  simp only [numbersF, h, told_look hP]
  rw [if_neg (by omega), if_neg (by omega)]
theorem nums_ok {I J n last : Int} {f : Nat} {off : Nat → Bool} (h : numberF L (I + 1, -1) last = (n, (J, -1))) : numbersF L (f + 1) (I, -1) last off = if lookF L (J, -1) = 44 then numbersF L f (J, -1) n (setO off n) else ((J, -1), setO off n) := by
  simp only [numbersF, h, show (-1 : Int) < 0 by omega, if_true]
/-- a number of one digit that is right: the reader goes on as if it had been ended -/
theorem mach_short {J : Int} {s : RS} (h0 : 0 ≤ J) (hst : s.st = 11) (hd : ¬ isDig (lookF L (J, -1))) (he : (endNumL s).1 = true) (h12 : (endNumL s).2.st = 12) : mach L J s = mach L J (endNumL s).2 := by
  have es : endShortL s = endNumL s := by unfold endShortL; rw [if_pos he]
  by_cases hJ : J < L.length
  · have e : takeL s (lookF L (J, -1)) = takeL (endNumL s).2 (lookF L (J, -1)) := by
      rw [take_st11 _ hst, take_st12 _ h12]; unfold numSecondL; rw [if_neg hd, es, if_pos he]
    unfold mach
    rw [look_drop h0 hJ]
    simp only [loopL, e]
  · rw [mach_out (by omega), mach_out (by omega)]
    unfold finishL
    rw [if_pos hst, es, h12, if_neg (by omega)]
    have : (endNumL s) = (true, (endNumL s).2) := by rw [← he]
    rw [this]; rfl
theorem sim_number {I last : Int} {s : RS} (h0 : 0 ≤ I) (hst : s.st = 10) (hp : s.place = I + 1) (ha : s.ahead = last) :
    (∃ J P, (numberF L (I + 1, -1) last).2 = (J, P) ∧ Tld (mach L (I + 1) s) P) ∨
    (∃ n J s', numberF L (I + 1, -1) last = (n, (J, -1)) ∧ I + 1 < J ∧ J ≤ L.length ∧ mach L (I + 1) s = mach L J s' ∧ s'.st = 12 ∧ s'.place = J ∧ s'.ahead = n ∧ s'.week = s.week ∧ s'.free = fun j => if j = n.toNat then true else s.free j) := by
  unfold numberF
  simp only
  by_cases hd : 48 ≤ lookF L (I + 1, -1) ∧ lookF L (I + 1, -1) ≤ 57
  · rw [tk_yes hd.1 hd.2 (by omega)]
    simp only
    have e : takeL s (lookF L (I + 1, -1)) = (true, { s with num := lookF L (I + 1, -1) - 48, st := 11 }) := by rw [take_st10 _ hst]; unfold numFirstL; rw [if_pos hd]
    obtain ⟨l1, e1⟩ := mach_yes (L := L) (s := s) (I := I + 1) (by omega) (by rw [e])
    rw [e] at e1
    simp only [hp] at e1
    rw [show I + 1 + 1 = I + 2 by omega] at e1 ⊢
    generalize lookF L (I + 1, -1) = c1 at *
    obtain ⟨s11, hs11⟩ : ∃ s11, s11 = { s with num := c1 - 48, st := 11, place := I + 2 } := ⟨_, rfl⟩
    rw [← hs11] at e1
    rw [e1]
    have q1 : s11.num = c1 - 48 := by rw [hs11]
    have q2 : s11.st = 11 := by rw [hs11]
    have q3 : s11.place = I + 2 := by rw [hs11]
    have q4 : s11.ahead = last := by rw [hs11]; exact ha
    have q5 : s11.free = s.free := by rw [hs11]
    have q6 : s11.week = s.week := by rw [hs11]
    cases htw : isTwo (lookF L (I + 2, -1))
    · simp only [Bool.false_eq_true, if_false]
      have hnd : ¬ isDig (lookF L (I + 2, -1)) := by
        intro g; unfold isDig at g; simp [isTwo, g.1, g.2] at htw
      cases hnb : numBad (c1 - 48) last c1 false
      · have hb : ¬ (70 ≤ s11.num ∨ s11.num ≤ s11.ahead) := by rw [q1, q4]; simp [numBad] at hnb; omega
        have ee : endNumL s11 = (true, { s11 with free := fun j => if j = s11.num.toNat then true else s11.free j, ahead := s11.num, st := 12 }) := by unfold endNumL; rw [if_neg hb]
        simp only [Bool.false_eq_true, if_false]
        refine .inr ⟨c1 - 48, I + 2, (endNumL s11).2, rfl, by omega, by omega, mach_short (by omega) q2 hnd (by rw [ee]) (by rw [ee]), ?_, ?_, ?_, ?_, ?_⟩
        · rw [ee]
        · rw [ee]; exact q3
        · rw [ee]; exact q1
        · rw [ee]; exact q6
        · rw [ee]; simp only [q1, q5]
      · have hb : 70 ≤ s11.num ∨ s11.num ≤ s11.ahead := by rw [q1, q4]; simp [numBad] at hnb; omega
        have ee : endShortL s11 = (false, { s11 with place := s11.place - 1 }) := by unfold endShortL endNumL; rw [if_pos hb]; rfl
        simp only [if_true]
        refine .inl ⟨I + 2, I + 1, ?_, ?_⟩
        · unfold badF; rw [if_pos (by simp)]; simp; omega
        · have hm : mach L (I + 2) s11 = (false, { s11 with place := s11.place - 1 }) := by
            by_cases hJ : I + 2 < L.length
            · have e2 : takeL s11 (lookF L (I + 2, -1)) = (false, { s11 with place := s11.place - 1 }) := by rw [take_st11 _ q2]; unfold numSecondL; rw [if_neg hnd, ee]; rfl
              rw [mach_no (by omega) hJ (by rw [e2]), e2]
            · rw [mach_out (by omega)]; unfold finishL; rw [if_pos q2, ee]
          rw [hm]
          exact ⟨rfl, by simp only [q3]; omega, by omega⟩
    · simp only [if_true]
      have hg : isDig (lookF L (I + 2, -1)) := by
        unfold isDig; simp [isTwo] at htw; omega
      have hJ : I + 2 < L.length := by
        by_cases hJ : I + 2 < L.length
        · exact hJ
        · rw [look_end (by omega)] at hg; unfold isDig at hg; omega
      rw [show I + 2 + 1 = I + 3 by omega]
      generalize hc2 : lookF L (I + 2, -1) = c2 at *
      cases hnb : numBad (10 * (c1 - 48) + (c2 - 48)) last c1 true
      · have hb : ¬ c1 = 48 ∧ ¬ (70 ≤ s11.num * 10 + (c2 - 48) ∨ s11.num * 10 + (c2 - 48) ≤ s11.ahead) := by rw [q1, q4]; simp [numBad] at hnb; omega
        have ee : takeL s11 c2 = (true, { s11 with num := s11.num * 10 + (c2 - 48), free := fun j => if j = (s11.num * 10 + (c2 - 48)).toNat then true else s11.free j, ahead := s11.num * 10 + (c2 - 48), st := 12 }) := by
          rw [take_st11 _ q2]; unfold numSecondL; rw [if_pos hg, if_neg (by omega)]; unfold endNumL; rw [if_neg hb.2]
        have e2 := (mach_yes (L := L) (s := s11) (I := I + 2) (by omega) (by rw [hc2, ee])).2
        rw [hc2, ee] at e2
        rw [show I + 2 + 1 = I + 3 by omega] at e2
        have hn : 10 * (c1 - 48) + (c2 - 48) = s11.num * 10 + (c2 - 48) := by rw [q1]; omega
        simp only [Bool.false_eq_true, if_false]
        rw [hn]
        refine .inr ⟨_, I + 3, _, rfl, by omega, by omega, e2, rfl, ?_, rfl, q6, ?_⟩
        · simp only [q3]; omega
        · simp only [q5]
      · have ee : takeL s11 c2 = (false, s11) ∨ takeL s11 c2 = (false, { s11 with num := s11.num * 10 + (c2 - 48) }) := by
          rw [take_st11 _ q2]; unfold numSecondL; rw [if_pos hg]
          by_cases hz : s11.num = 0
          · rw [if_pos hz]; exact .inl rfl
          · rw [if_neg hz]; unfold endNumL
            rw [if_pos (by simp only [q1, q4]; simp [numBad] at hnb; omega)]
            exact .inr rfl
        simp only [if_true]
        refine .inl ⟨I + 3, I + 2, ?_, ?_⟩
        · unfold badF; rw [if_pos (by simp)]
        · have hm : mach L (I + 2) s11 = takeL s11 c2 := by
            have := mach_no (L := L) (s := s11) (I := I + 2) (by omega) hJ (by rw [hc2]; rcases ee with ee | ee <;> rw [ee])
            rw [hc2] at this; exact this
          rw [hm]
          rcases ee with ee | ee
          · rw [ee]; exact ⟨rfl, q3, by omega⟩
          · rw [ee]; exact ⟨rfl, q3, by omega⟩
  · rw [tk_no (by omega)]
    simp only [told_look (show 0 ≤ I + 1 by omega)]
    have e : takeL s (lookF L (I + 1, -1)) = (false, s) := by rw [take_st10 _ hst]; unfold numFirstL; rw [if_neg hd]
    have ht := mach_told (L := L) (I := I + 1) (by omega) hp (by omega) (by rw [e]) (by rw [e])
    have hz : isTwo 0 = false := rfl
    rw [hz]
    simp only [Bool.false_eq_true, if_false, told_bad (show 0 ≤ I + 1 by omega)]
    exact .inl ⟨I + 1, I + 1, by split <;> rfl, ht⟩
theorem sim_numbers : ∀ (f : Nat) (I : Int) (s : RS) (last : Int) (off : Nat → Bool), 0 ≤ I → I < L.length → s.st = 10 → s.place = I + 1 → s.ahead = last → (∀ j, s.free j = off j) → (L.length : Int) < I + f →
    Ends (mach L (I + 1) s) s (numbersF L f (I, -1) last off) (endF L (numbersF L f (I, -1) last off)) := by
  intro f
  induction f with
  | zero => intro I s last off h0 hl _ _ _ _ hf; omega
  | succ f ih =>
    intro I s last off h0 hl hst hp ha hfr hf
    rcases sim_number (L := L) h0 hst hp ha with ⟨J, P, h1, h2⟩ | ⟨n, J, s', h1, h2, h3, h4, h5, h6, h7, h8, h9⟩
    · rw [nums_told h1 h2.2.2, told_end h2.2.2]
      exact .inl ⟨h2.2.2, h2⟩
    · rw [nums_ok h1, h4]
      have hfr2 : ∀ j, s'.free j = setO off n j := fun j => by rw [h9]; exact free_set hfr n j
      have := sim_after (L := L) (f := f) J n s' (setO off n) (by omega) h3 h5 h6 h7 hfr2 (fun h44 hlt => ih J { s' with st := 10, place := J + 1 } n (setO off n) (by omega) hlt rfl rfl h7 hfr2 (by omega))
      rcases this with g | g
      · exact .inl g
      · exact .inr ⟨g.1, g.2.1, g.2.2.1.trans h8, g.2.2.2⟩
end

/-- both readers -/
theorem sim_all (L : List Int) :
    (0 ≤ (refF L).1.2 ∧ (loopL L rs0).1 = false ∧ (loopL L rs0).2.place = (refF L).1.2) ∨
    ((refF L).1.2 < 0 ∧ (loopL L rs0).1 = true ∧ WkR (refF L).2.1 (loopL L rs0).2.week ∧ ∀ j, (loopL L rs0).2.free j = (refF L).2.2 j) := by
  have hm : loopL L rs0 = mach L 0 rs0 := rfl
  rw [hm, refF_fin]
  rcases sim_entry (L := L) (I := 0) (s := rs0) (wk := fun _ => false) (by omega) (by omega) rfl rfl rfl rfl (fun _ => rfl) (fun d _ m _ => rfl) with ⟨J, P, h1, h2⟩ | ⟨J, s1, h1, h2, h3, h4, h5, h6⟩
  · obtain ⟨x, y, hx⟩ : ∃ x y, entryF L (0, -1) (fun _ => false) = (x, y) := ⟨_, _, rfl⟩
    rw [hx] at h1 ⊢
    simp only at h1
    rw [h1, told_entries h2.2.2]
    unfold fin
    simp only [told_look h2.2.2]
    refine .inl ?_
    simp only [show ¬ (0 : Int) = 33 by omega, if_false, told_bad h2.2.2]
    refine ⟨?_, h2.1, ?_⟩
    · split <;> exact h2.2.2
    · rw [h2.2.1]; split <;> rfl
  · obtain ⟨x, y, hx⟩ : ∃ x y, entryF L (0, -1) (fun _ => false) = (x, y) := ⟨_, _, rfl⟩
    rw [hx] at h1 h6 ⊢
    simp only at h1 h6
    rw [h1, h5]
    rcases sim_entries (L := L) (L.length + 1) J s1 y (by omega) h3 ⟨h6.st, h6.place, h6.beg, h6.time, rfl, rfl, h6.week⟩ h4 (by omega) with ⟨K, P, k1, k2⟩ | ⟨K, s2, k1, k2, k3, k4, k5, k6, k7⟩
    · obtain ⟨x2, y2, hx2⟩ : ∃ x y3, entriesF L (L.length + 1) ((J, -1), y) = (x, y3) := ⟨_, _, rfl⟩
      rw [hx2] at k1 ⊢
      simp only at k1
      rw [k1]
      unfold fin
      simp only [told_look k2.2.2]
      refine .inl ?_
      simp only [show ¬ (0 : Int) = 33 by omega, if_false, told_bad k2.2.2]
      refine ⟨?_, k2.1, ?_⟩
      · split <;> exact k2.2.2
      · rw [k2.2.1]; split <;> rfl
    · obtain ⟨x2, y2, hx2⟩ : ∃ x y3, entriesF L (L.length + 1) ((J, -1), y) = (x, y3) := ⟨_, _, rfl⟩
      rw [hx2] at k1 k7 ⊢
      simp only at k1 k7
      rw [k1, k6]
      have hfree : ∀ j, s2.free j = false := fun j => by rw [k7.free, h6.free]; rfl
      have hahead : s2.ahead = -1 := by rw [k7.ahead, h6.ahead]; rfl
      by_cases h33 : lookF L (K, -1) = 33
      · rw [fin_yes h33]
        have e : takeL s2 (lookF L (K, -1)) = (true, { s2 with st := 10 }) := by rw [take_st9 _ k7.st]; unfold spanEndL markL; rw [if_neg k5, if_neg k4, if_pos h33]
        obtain ⟨l1, e1⟩ := mach_yes (L := L) (s := s2) (I := K) (by omega) (by rw [e])
        rw [e] at e1
        simp only [k7.place] at e1
        rw [e1]
        rcases sim_numbers (L := L) (L.length + 1) K { s2 with st := 10, place := K + 1 } (-1) (fun _ => false) (by omega) l1 rfl rfl hahead hfree (by omega) with g | g
        · exact .inl ⟨g.1, g.2.1, g.2.2.1⟩
        · refine .inr ⟨g.1, g.2.1, ?_, g.2.2.2⟩
          rw [g.2.2.1]; exact k7.week
      · rw [fin_no h33]
        unfold fin2
        have e : takeL s2 (lookF L (K, -1)) = (false, s2) := by rw [take_st9 _ k7.st]; unfold spanEndL markL; rw [if_neg k5, if_neg k4, if_neg h33]
        by_cases hK : K < L.length
        · simp only [if_pos hK]
          rw [mach_no (by omega) hK (by rw [e]), e]
          refine .inl ?_
          unfold badF
          simp only [show (-1 : Int) < 0 by omega, if_true]
          exact ⟨by omega, trivial, k7.place⟩
        · simp only [if_neg hK]
          rw [mach_out (by omega)]
          unfold finishL
          rw [k7.st, if_neg (by omega)]
          exact .inr ⟨by omega, rfl, k7.week, hfree⟩
/-- the minutes that are open -/
theorem open_eq {wk : Nat → Bool} {week : Nat → List (Int × Int)} {fr off : Nat → Bool} (h : WkR wk week) (hf : ∀ j, fr j = off j) (t : Int) (h0 : 0 ≤ t) (_h1 : t < 100800) : openL week fr t = isOpen wk off t.toNat := by
  unfold openL isOpen
  have e1 : t.toNat % 10080 = (t / 1440 % 7).toNat * 1440 + (t % 1440).toNat := by omega
  rw [e1, h _ (by omega) _ (by omega), hf, show (t / 1440).toNat = t.toNat / 1440 by omega, show (((t % 1440).toNat : Nat) : Int) = t % 1440 by omega, Bool.and_comm]
end Go.Proofs.YtcnmbldikjljeaaGreatDoor
