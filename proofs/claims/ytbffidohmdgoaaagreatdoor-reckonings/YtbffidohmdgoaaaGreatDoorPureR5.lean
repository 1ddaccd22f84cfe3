import Derived.Test.YtbffidohmdgoaaaGreatDoorPureR4
namespace Go.Proofs.YtbffidohmdgoaaaGreatDoor
open Go.RowKit

theorem hit_snoc (m : Int) (l : List (Int × Int)) (a b : Int) : hitL m (l ++ [(a, b)]) = (hitL m l || (decide (a ≤ m) && decide (m < b))) := by
  simp [hitL, List.any_append]
theorem wk_mark {wk : Nat → Bool} {s : RS} {l : List Int} (h : WkR wk s.week) (hd : DayR l s.days) (a b : Int) : WkR (markF wk l a b) (addW s (a, b)) := by
  intro d hd7 m hm
  have e1 : (d * 1440 + m) / 1440 = d := by omega
  have e2 : (d * 1440 + m) % 1440 = m := by omega
  unfold markF addW
  rw [e1, e2, h d hd7 m hm, ← hd d hd7]
  cases s.days d
  · simp
  · simp only [if_true, hit_snoc, Bool.true_and]

section
variable {L : List Int}
/-- behind an entry: the end of a span -/
structure Sp (s s' : RS) (J : Int) (wk' : Nat → Bool) : Prop where
  st : s'.st = 9
  place : s'.place = J
  beg : s'.beg = -1
  time : s'.time = 0
  ahead : s'.ahead = s.ahead
  free : s'.free = s.free
  week : WkR wk' s'.week
theorem sim_spans (l : List Int) : ∀ (f : Nat) (I : Int) (s : RS) (wk : Nat → Bool), 0 ≤ I → I ≤ L.length → s.st = 3 → s.time = 0 → s.beg = -1 → s.place = I → DayR l s.days → WkR wk s.week → (L.length : Int) < I + f →
    (∃ J P, (spansF L l f (I, -1) wk).1 = (J, P) ∧ Tld (mach L I s) P) ∨
    (∃ J s', (spansF L l f (I, -1) wk).1 = (J, -1) ∧ I < J ∧ J ≤ L.length ∧ lookF L (J, -1) ≠ 32 ∧ mach L I s = mach L J s' ∧ Sp s s' J (spansF L l f (I, -1) wk).2) := by
  intro f
  induction f with
  | zero => intro I s wk h0 hl _ _ _ _ _ _ hf; omega
  | succ f ih =>
    intro I s wk h0 hl hst ht hb hp hd hw hf
    simp only [spansF]
    rw [if_pos (by omega)]
    rcases sim_span (L := L) h0 hst ht hb hp with ⟨J, P, h1, h2⟩ | ⟨a, b, ha, hab, h1, h2, h3⟩
    · rw [h1, told_look h2.2.2, if_neg (by omega)]
      exact .inl ⟨J, P, rfl, h2⟩
    · rw [h1]
      simp only
      have hw2 := wk_mark hw hd a b
      by_cases h32 : lookF L (I + 11, -1) = 32
      · rw [if_pos h32]
        obtain ⟨s9, hs9⟩ : ∃ s9, s9 = { s with time := 0, week := addW s (a, b), beg := -1, st := 9, place := I + 11 } := ⟨_, rfl⟩
        rw [← hs9] at h3
        have e : takeL s9 (lookF L (I + 11, -1)) = (true, { s9 with st := 3 }) := by rw [take_st9 _ (by rw [hs9])]; unfold spanEndL; rw [if_neg (by omega), if_pos h32]
        obtain ⟨l1, e1⟩ := mach_yes (L := L) (s := s9) (I := I + 11) (by omega) (by rw [e])
        rw [e] at e1
        simp only [hs9] at e1
        rw [show I + 11 + 1 = I + 12 by omega] at e1 ⊢
        rcases ih (I + 12) { s with time := 0, week := addW s (a, b), beg := -1, st := 3, place := I + 12 } (markF wk l a b) (by omega) (by omega) rfl rfl rfl rfl hd hw2 (by omega) with ⟨J, P, g1, g2⟩ | ⟨J, s', g1, g2, g3, g4, g5, g6⟩
        · exact .inl ⟨J, P, g1, by rw [h3, hs9, e1]; exact g2⟩
        · exact .inr ⟨J, s', g1, by omega, g3, g4, by rw [h3, hs9, e1, g5], ⟨g6.st, g6.place, g6.beg, g6.time, g6.ahead, g6.free, g6.week⟩⟩
      · rw [if_neg h32]
        exact .inr ⟨I + 11, _, rfl, by omega, h2, h32, h3, ⟨rfl, rfl, rfl, rfl, rfl, rfl, hw2⟩⟩
theorem sim_entry {I : Int} {s : RS} {wk : Nat → Bool} (h0 : 0 ≤ I) (_hl : I ≤ L.length) (hst : s.st = 0) (ht : s.time = 0) (hb : s.beg = -1) (hp : s.place = I) (hd : ∀ j, s.days j = false) (hw : WkR wk s.week) :
    (∃ J P, (entryF L (I, -1) wk).1 = (J, P) ∧ Tld (mach L I s) P) ∨
    (∃ J s', (entryF L (I, -1) wk).1 = (J, -1) ∧ I < J ∧ J ≤ L.length ∧ lookF L (J, -1) ≠ 32 ∧ mach L I s = mach L J s' ∧ Sp s s' J (entryF L (I, -1) wk).2) := by
  unfold entryF
  simp only
  rcases sim_weekday (L := L) h0 hst hp with ⟨J, P, h1, h2⟩ | ⟨c, d, hd7, h1, h2, h3⟩
  · rw [h1, told_days h2.2.2, told_take h2.2.2]
    simp only
    rw [told_spans h2.2.2]
    exact .inl ⟨J, P, rfl, h2⟩
  · rw [h1]
    simp only
    have hdr : DayR [(d : Int)] (fun j => if j = d then true else s.days j) := by
      have := day_snoc (l := []) (days := s.days) (fun j _ => by rw [hd]; rfl) d
      simpa using this
    rcases sim_days (L := L) (L.length + 1) (I + 2) { s with letter := c, days := fun j => if j = d then true else s.days j, st := 2, place := I + 2 } [(d : Int)] (by omega) h2 rfl rfl hdr (by omega) with ⟨J, P, g1, g2⟩ | ⟨J, s', g1, g2, g3, g4, g5, g6, g7, g8⟩
    · rw [g1, told_spans g2.2.2]
      exact .inl ⟨J, P, rfl, by rw [h3]; exact g2⟩
    · rw [g1]
      have b1 := g8.beg
      have b2 := g8.time
      have b3 := g8.week
      have b4 := g8.ahead
      have b5 := g8.free
      simp only at b1 b2 b3 b4 b5
      rcases sim_spans (L := L) (daysF L (L.length + 1) (I + 2, -1) [(d : Int)]).1 (L.length + 1) J s' wk (by omega) g3 g5 (b2.trans ht) (b1.trans hb) g6 g7 (by rw [b3]; exact hw) (by omega) with ⟨K, P, k1, k2⟩ | ⟨K, s2, k1, k2, k3, k4, k5, k6⟩
      · exact .inl ⟨K, P, k1, by rw [h3, g4]; exact k2⟩
      · exact .inr ⟨K, s2, k1, by omega, k3, k4, by rw [h3, g4, k5], ⟨k6.st, k6.place, k6.beg, k6.time, k6.ahead.trans b4, k6.free.trans b5, k6.week⟩⟩
theorem told_entries {I P : Int} (hP : 0 ≤ P) (f : Nat) (wk : Nat → Bool) : entriesF L f ((I, P), wk) = ((I, P), wk) := by
  cases f with
  | zero => rfl
  | succ f => simp only [entriesF, told_look hP]; rw [if_neg (by omega)]
theorem sim_entries : ∀ (f : Nat) (I : Int) (s : RS) (wk : Nat → Bool), 0 ≤ I → I ≤ L.length → Sp s s I wk → lookF L (I, -1) ≠ 32 → (L.length : Int) < I + f →
    (∃ J P, (entriesF L f ((I, -1), wk)).1 = (J, P) ∧ Tld (mach L I s) P) ∨
    (∃ J s', (entriesF L f ((I, -1), wk)).1 = (J, -1) ∧ I ≤ J ∧ J ≤ L.length ∧ lookF L (J, -1) ≠ 32 ∧ lookF L (J, -1) ≠ 59 ∧ mach L I s = mach L J s' ∧ Sp s s' J (entriesF L f ((I, -1), wk)).2) := by
  intro f
  induction f with
  | zero => intro I s wk h0 hl _ _ hf; omega
  | succ f ih =>
    intro I s wk h0 hl hs h32 hf
    simp only [entriesF]
    by_cases h59 : lookF L (I, -1) = 59
    · rw [if_pos h59]
      have e : takeL s (lookF L (I, -1)) = (true, { s with st := 0, days := fun _ => false }) := by rw [take_st9 _ hs.st]; unfold spanEndL; rw [if_pos h59]
      obtain ⟨l1, e1⟩ := mach_yes (L := L) (s := s) h0 (by rw [e])
      rw [e] at e1
      simp only [hs.place] at e1
      rcases sim_entry (L := L) (I := I + 1) (s := { s with st := 0, days := fun _ => false, place := I + 1 }) (wk := wk) (by omega) (by omega) rfl hs.time hs.beg rfl (fun _ => rfl) hs.week with ⟨J, P, h1, h2⟩ | ⟨J, s', h1, h2, h3, h4, h5, h6⟩
      · obtain ⟨x, y, hx⟩ : ∃ x y, entryF L (I + 1, -1) wk = (x, y) := ⟨_, _, rfl⟩
        rw [hx] at h1
        simp only at h1
        rw [hx, h1, told_entries h2.2.2]
        exact .inl ⟨J, P, rfl, by rw [e1]; exact h2⟩
      · obtain ⟨x, y, hx⟩ : ∃ x y, entryF L (I + 1, -1) wk = (x, y) := ⟨_, _, rfl⟩
        rw [hx] at h1 h6
        simp only at h1 h6
        rw [hx, h1]
        rcases ih J s' y (by omega) h3 ⟨h6.st, h6.place, h6.beg, h6.time, rfl, rfl, h6.week⟩ h4 (by omega) with ⟨K, P, k1, k2⟩ | ⟨K, s2, k1, k2, k3, k4, k5, k6, k7⟩
        · exact .inl ⟨K, P, k1, by rw [e1, h5]; exact k2⟩
        · exact .inr ⟨K, s2, k1, by omega, k3, k4, k5, by rw [e1, h5, k6], ⟨k7.st, k7.place, k7.beg, k7.time, k7.ahead.trans h6.ahead, k7.free.trans h6.free, k7.week⟩⟩
    · rw [if_neg h59]
      exact .inr ⟨I, s, rfl, by omega, hl, h32, h59, rfl, hs⟩
end
end Go.Proofs.YtbffidohmdgoaaaGreatDoor
