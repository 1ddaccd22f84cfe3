import Derived.Test.YtcnmbldikjljeaaGreatDoorC16
import Derived.Test.YtcnmbldikjljeaaGreatDoorC15
import Derived.Test.YtcnmbldikjljeaaGreatDoorC06
import Derived.Test.YtcnmbldikjljeaaGreatDoorC01
import Derived.Deep.RegionWith
import Derived.Laws.AppendOwnNone
namespace Go.Proofs.YtcnmbldikjljeaaGreatDoor
open Go.RowKit

theorem hit_snoc (m : Int) (l : List (Int × Int)) (a b : Int) : hitL m (l ++ [(a, b)]) = (hitL m l || (decide (a ≤ m) && decide (m < b))) := by
  simp [hitL, List.any_append]
theorem wk_mark {wk : Nat → Bool} {s : RS} {l : List Int} (h : WkR wk s.week) (hd : DayR l s.days) (a b : Int) : WkR (markF wk l a b) (addW s (a, b)) := by
  intro d hd7 m hm
  have e1 : (d * 1440 + m) / 1440 = d := by omega
  have e2 : (d * 1440 + m) % 1440 = m := by omega
  unfold markF addW
  rw [e1, e2, h d hd7 m hm, ← hd d hd7]
  cases s.days d
  · simp
  · simp only [if_true, hit_snoc, Bool.true_and]

section
variable {L : List Int}
/-- behind an entry: the end of a span -/
structure Sp (s s' : RS) (J : Int) (wk' : Nat → Bool) : Prop where
  st : s'.st = 9
  place : s'.place = J
  beg : s'.beg = -1
  time : s'.time = 0
  ahead : s'.ahead = s.ahead
  free : s'.free = s.free
  week : WkR wk' s'.week
theorem sim_spans (l : List Int) : ∀ (f : Nat) (I : Int) (s : RS) (wk : Nat → Bool), 0 ≤ I → I ≤ L.length → s.st = 3 → s.time = 0 → s.beg = -1 → s.place = I → DayR l s.days → WkR wk s.week → (L.length : Int) < I + f →
    (∃ J P, (spansF L l f (I, -1) wk).1 = (J, P) ∧ Tld (mach L I s) P) ∨
    (∃ J s', (spansF L l f (I, -1) wk).1 = (J, -1) ∧ I < J ∧ J ≤ L.length ∧ lookF L (J, -1) ≠ 32 ∧ mach L I s = mach L J s' ∧ Sp s s' J (spansF L l f (I, -1) wk).2) := by
  intro f
  induction f with
  | zero => intro I s wk h0 hl _ _ _ _ _ _ hf; omega
  | succ f ih =>
    intro I s wk h0 hl hst ht hb hp hd hw hf
    simp only [spansF]
    rw [if_pos (by omega)]
    rcases sim_span (L := L) h0 hst ht hb hp with ⟨J, P, h1, h2⟩ | ⟨a, b, ha, hab, h1, h2, h3⟩
    · rw [h1, told_look h2.2.2, if_neg (by omega)]
      exact .inl ⟨J, P, rfl, h2⟩
    · rw [h1]
      simp only
      have hw2 := wk_mark hw hd a b
      by_cases h32 : lookF L (I + 11, -1) = 32
      · rw [if_pos h32]
        obtain ⟨s9, hs9⟩ : ∃ s9, s9 = { s with time := 0, week := addW s (a, b), beg := -1, st := 9, place := I + 11 } := ⟨_, rfl⟩
        rw [← hs9] at h3
        have e : takeL s9 (lookF L (I + 11, -1)) = (true, { s9 with st := 3 }) := by rw [take_st9 _ (by rw [hs9])]; unfold spanEndL; rw [if_neg (by omega), if_pos h32]
        obtain ⟨l1, e1⟩ := mach_yes (L := L) (s := s9) (I := I + 11) (by omega) (by rw [e])
        rw [e] at e1
        simp only [hs9] at e1
        rw [show I + 11 + 1 = I + 12 by omega] at e1 ⊢
        rcases ih (I + 12) { s with time := 0, week := addW s (a, b), beg := -1, st := 3, place := I + 12 } (markF wk l a b) (by omega) (by omega) rfl rfl rfl rfl hd hw2 (by omega) with ⟨J, P, g1, g2⟩ | ⟨J, s', g1, g2, g3, g4, g5, g6⟩
        · exact .inl ⟨J, P, g1, by rw [h3, hs9, e1]; exact g2⟩
        · exact .inr ⟨J, s', g1, by omega, g3, g4, by rw [h3, hs9, e1, g5], ⟨g6.st, g6.place, g6.beg, g6.time, g6.ahead, g6.free, g6.week⟩⟩
      · rw [if_neg h32]
        exact .inr ⟨I + 11, _, rfl, by omega, h2, h32, h3, ⟨rfl, rfl, rfl, rfl, rfl, rfl, hw2⟩⟩
theorem sim_entry {I : Int} {s : RS} {wk : Nat → Bool} (h0 : 0 ≤ I) (_hl : I ≤ L.length) (hst : s.st = 0) (ht : s.time = 0) (hb : s.beg = -1) (hp : s.place = I) (hd : ∀ j, s.days j = false) (hw : WkR wk s.week) :
    (∃ J P, (entryF L (I, -1) wk).1 = (J, P) ∧ Tld (mach L I s) P) ∨
    (∃ J s', (entryF L (I, -1) wk).1 = (J, -1) ∧ I < J ∧ J ≤ L.length ∧ lookF L (J, -1) ≠ 32 ∧ mach L I s = mach L J s' ∧ Sp s s' J (entryF L (I, -1) wk).2) := by
  unfold entryF
  simp only
  rcases sim_weekday (L := L) h0 hst hp with ⟨J, P, h1, h2⟩ | ⟨c, d, hd7, h1, h2, h3⟩
  · rw [h1, told_days h2.2.2, told_take h2.2.2]
    simp only
    rw [told_spans h2.2.2]
    exact .inl ⟨J, P, rfl, h2⟩
  · rw [h1]
    simp only
    have hdr : DayR [(d : Int)] (fun j => if j = d then true else s.days j) := by
      have := day_snoc (l := []) (days := s.days) (fun j _ => by rw [hd]; rfl) d
      simpa using this
    rcases sim_days (L := L) (L.length + 1) (I + 2) { s with letter := c, days := fun j => if j = d then true else s.days j, st := 2, place := I + 2 } [(d : Int)] (by omega) h2 rfl rfl hdr (by omega) with ⟨J, P, g1, g2⟩ | ⟨J, s', g1, g2, g3, g4, g5, g6, g7, g8⟩
    · rw [g1, told_spans g2.2.2]
      exact .inl ⟨J, P, rfl, by rw [h3]; exact g2⟩
    · rw [g1]
      have b1 := g8.beg
      have b2 := g8.time
      have b3 := g8.week
      have b4 := g8.ahead
      have b5 := g8.free
      simp only at b1 b2 b3 b4 b5
      rcases sim_spans (L := L) (daysF L (L.length + 1) (I + 2, -1) [(d : Int)]).1 (L.length + 1) J s' wk (by omega) g3 g5 (b2.trans ht) (b1.trans hb) g6 g7 (by rw [b3]; exact hw) (by omega) with ⟨K, P, k1, k2⟩ | ⟨K, s2, k1, k2, k3, k4, k5, k6⟩
      · exact .inl ⟨K, P, k1, by rw [h3, g4]; exact k2⟩
      · exact .inr ⟨K, s2, k1, by omega, k3, k4, by rw [h3, g4, k5], ⟨k6.st, k6.place, k6.beg, k6.time, k6.ahead.trans b4, k6.free.trans b5, k6.week⟩⟩
theorem told_entries {I P : Int} (hP : 0 ≤ P) (f : Nat) (wk : Nat → Bool) : entriesF L f ((I, P), wk) = ((I, P), wk) := by
  cases f with
  | zero => rfl
  | succ f => simp only [entriesF, told_look hP]; rw [if_neg (by omega)]
theorem sim_entries : ∀ (f : Nat) (I : Int) (s : RS) (wk : Nat → Bool), 0 ≤ I → I ≤ L.length → Sp s s I wk → lookF L (I, -1) ≠ 32 → (L.length : Int) < I + f →
    (∃ J P, (entriesF L f ((I, -1), wk)).1 = (J, P) ∧ Tld (mach L I s) P) ∨
    (∃ J s', (entriesF L f ((I, -1), wk)).1 = (J, -1) ∧ I ≤ J ∧ J ≤ L.length ∧ lookF L (J, -1) ≠ 32 ∧ lookF L (J, -1) ≠ 59 ∧ mach L I s = mach L J s' ∧ Sp s s' J (entriesF L f ((I, -1), wk)).2) := by
  intro f
  induction f with
  | zero => intro I s wk h0 hl _ _ hf; omega
  | succ f ih =>
    intro I s wk h0 hl hs h32 hf
    simp only [entriesF]
    by_cases h59 : lookF L (I, -1) = 59
    · rw [if_pos h59]
      have e : takeL s (lookF L (I, -1)) = (true, { s with st := 0, days := fun _ => false }) := by rw [take_st9 _ hs.st]; unfold spanEndL; rw [if_pos h59]
      obtain ⟨l1, e1⟩ := mach_yes (L := L) (s := s) h0 (by rw [e])
      rw [e] at e1
      simp only [hs.place] at e1
      rcases sim_entry (L := L) (I := I + 1) (s := { s with st := 0, days := fun _ => false, place := I + 1 }) (wk := wk) (by omega) (by omega) rfl hs.time hs.beg rfl (fun _ => rfl) hs.week with ⟨J, P, h1, h2⟩ | ⟨J, s', h1, h2, h3, h4, h5, h6⟩
      · obtain ⟨x, y, hx⟩ : ∃ x y, entryF L (I + 1, -1) wk = (x, y) := ⟨_, _, rfl⟩
        rw [hx] at h1
        simp only at h1
        rw [hx, h1, told_entries h2.2.2]
        exact .inl ⟨J, P, rfl, by rw [e1]; exact h2⟩
      · obtain ⟨x, y, hx⟩ : ∃ x y, entryF L (I + 1, -1) wk = (x, y) := ⟨_, _, rfl⟩
        rw [hx] at h1 h6
        simp only at h1 h6
        rw [hx, h1]
        rcases ih J s' y (by omega) h3 ⟨h6.st, h6.place, h6.beg, h6.time, rfl, rfl, h6.week⟩ h4 (by omega) with ⟨K, P, k1, k2⟩ | ⟨K, s2, k1, k2, k3, k4, k5, k6, k7⟩
        · exact .inl ⟨K, P, k1, by rw [e1, h5]; exact k2⟩
        · exact .inr ⟨K, s2, k1, by omega, k3, k4, k5, by rw [e1, h5, k6], ⟨k7.st, k7.place, k7.beg, k7.time, k7.ahead.trans h6.ahead, k7.free.trans h6.free, k7.week⟩⟩
    · rw [if_neg h59]
      exact .inr ⟨I, s, rfl, by omega, hl, h32, h59, rfl, hs⟩
end
end Go.Proofs.YtcnmbldikjljeaaGreatDoor
namespace Go.Proofs.YtcnmbldikjljeaaGreatDoor
open Go.RowKit

section
variable {L : List Int}
/-- the end: what is left is told -/
def endF (L : List Int) (n : Sg × (Nat → Bool)) : Sg := if n.1.1 < L.length then badF n.1 n.1.1 else n.1
theorem told_end {I P : Int} (hP : 0 ≤ P) (off : Nat → Bool) : endF L ((I, P), off) = (I, P) := by
  unfold endF; simp only; split
  · exact told_bad hP _
  · rfl
/-- how it ends -/
def Ends (M : Bool × RS) (s : RS) (n : Sg × (Nat → Bool)) (e : Sg) : Prop :=
  (0 ≤ e.2 ∧ Tld M e.2) ∨ (e.2 < 0 ∧ M.1 = true ∧ M.2.week = s.week ∧ ∀ j, M.2.free j = n.2 j)
theorem free_set {free off : Nat → Bool} (h : ∀ j, free j = off j) (n : Int) (j : Nat) : (if j = n.toNat then true else free j) = setO off n j := by
  unfold setO; rw [h j]
  by_cases e : j = n.toNat <;> simp [e]
/-- behind a number that is right: the place J, the list goes on or ends -/
theorem sim_after {f : Nat} (J last : Int) (s : RS) (off : Nat → Bool) (h0 : 0 ≤ J) (hl : J ≤ L.length) (hst : s.st = 12) (hp : s.place = J) (_ha : s.ahead = last) (hfr : ∀ j, s.free j = off j)
    (ih : lookF L (J, -1) = 44 → J < L.length → Ends (mach L (J + 1) { s with st := 10, place := J + 1 }) { s with st := 10, place := J + 1 } (numbersF L f (J, -1) last off) (endF L (numbersF L f (J, -1) last off))) :
    Ends (mach L J s) s (if lookF L (J, -1) = 44 then numbersF L f (J, -1) last off else ((J, -1), off)) (endF L (if lookF L (J, -1) = 44 then numbersF L f (J, -1) last off else ((J, -1), off))) := by
  by_cases h44 : lookF L (J, -1) = 44
  · have e : takeL s (lookF L (J, -1)) = (true, { s with st := 10 }) := by rw [take_st12 _ hst]; unfold markL; rw [if_pos h44]
    obtain ⟨l1, e1⟩ := mach_yes (L := L) (s := s) h0 (by rw [e])
    rw [e] at e1
    simp only [hp] at e1
    rw [if_pos h44, e1]
    rcases ih h44 l1 with g | g
    · exact .inl g
    · exact .inr g
  · rw [if_neg h44]
    have e : takeL s (lookF L (J, -1)) = (false, s) := by rw [take_st12 _ hst]; unfold markL; rw [if_neg h44]
    by_cases hJ : J < L.length
    · refine .inl ?_
      unfold endF
      simp only [if_pos hJ]
      unfold badF
      simp only [show (-1 : Int) < 0 by omega, if_true]
      rw [mach_no h0 hJ (by rw [e]), e]
      exact ⟨h0, rfl, hp, h0⟩
    · refine .inr ?_
      unfold endF
      simp only [if_neg hJ]
      rw [mach_out (by omega)]
      unfold finishL
      rw [if_neg (by omega)]
      exact ⟨by omega, by simp [hst], rfl, hfr⟩
theorem nums_told {I J P last : Int} {f : Nat} {off : Nat → Bool} (h : (numberF L (I + 1, -1) last).2 = (J, P)) (hP : 0 ≤ P) : numbersF L (f + 1) (I, -1) last off = ((J, P), off) := by
  simp only [numbersF, h, told_look hP]
  rw [if_neg (by omega), if_neg (by omega)]
theorem nums_ok {I J n last : Int} {f : Nat} {off : Nat → Bool} (h : numberF L (I + 1, -1) last = (n, (J, -1))) : numbersF L (f + 1) (I, -1) last off = if lookF L (J, -1) = 44 then numbersF L f (J, -1) n (setO off n) else ((J, -1), setO off n) := by
  simp only [numbersF, h, show (-1 : Int) < 0 by omega, if_true]
/-- a number of one digit that is right: the reader goes on as if it had been ended -/
theorem mach_short {J : Int} {s : RS} (h0 : 0 ≤ J) (hst : s.st = 11) (hd : ¬ isDig (lookF L (J, -1))) (he : (endNumL s).1 = true) (h12 : (endNumL s).2.st = 12) : mach L J s = mach L J (endNumL s).2 := by
  have es : endShortL s = endNumL s := by unfold endShortL; rw [if_pos he]
  by_cases hJ : J < L.length
  · have e : takeL s (lookF L (J, -1)) = takeL (endNumL s).2 (lookF L (J, -1)) := by
      rw [take_st11 _ hst, take_st12 _ h12]; unfold numSecondL; rw [if_neg hd, es, if_pos he]
    unfold mach
    rw [look_drop h0 hJ]
    simp only [loopL, e]
  · rw [mach_out (by omega), mach_out (by omega)]
    unfold finishL
    rw [if_pos hst, es, h12, if_neg (by omega)]
    have : (endNumL s) = (true, (endNumL s).2) := by rw [← he]
    rw [this]; rfl
theorem sim_number {I last : Int} {s : RS} (h0 : 0 ≤ I) (hst : s.st = 10) (hp : s.place = I + 1) (ha : s.ahead = last) :
    (∃ J P, (numberF L (I + 1, -1) last).2 = (J, P) ∧ Tld (mach L (I + 1) s) P) ∨
    (∃ n J s', numberF L (I + 1, -1) last = (n, (J, -1)) ∧ I + 1 < J ∧ J ≤ L.length ∧ mach L (I + 1) s = mach L J s' ∧ s'.st = 12 ∧ s'.place = J ∧ s'.ahead = n ∧ s'.week = s.week ∧ s'.free = fun j => if j = n.toNat then true else s.free j) := by
  unfold numberF
  simp only
  by_cases hd : 48 ≤ lookF L (I + 1, -1) ∧ lookF L (I + 1, -1) ≤ 57
  · rw [tk_yes hd.1 hd.2 (by omega)]
    simp only
    have e : takeL s (lookF L (I + 1, -1)) = (true, { s with num := lookF L (I + 1, -1) - 48, st := 11 }) := by rw [take_st10 _ hst]; unfold numFirstL; rw [if_pos hd]
    obtain ⟨l1, e1⟩ := mach_yes (L := L) (s := s) (I := I + 1) (by omega) (by rw [e])
    rw [e] at e1
    simp only [hp] at e1
    rw [show I + 1 + 1 = I + 2 by omega] at e1 ⊢
    generalize lookF L (I + 1, -1) = c1 at *
    obtain ⟨s11, hs11⟩ : ∃ s11, s11 = { s with num := c1 - 48, st := 11, place := I + 2 } := ⟨_, rfl⟩
    rw [← hs11] at e1
    rw [e1]
    have q1 : s11.num = c1 - 48 := by rw [hs11]
    have q2 : s11.st = 11 := by rw [hs11]
    have q3 : s11.place = I + 2 := by rw [hs11]
    have q4 : s11.ahead = last := by rw [hs11]; exact ha
    have q5 : s11.free = s.free := by rw [hs11]
    have q6 : s11.week = s.week := by rw [hs11]
    cases htw : isTwo (lookF L (I + 2, -1))
    · simp only [Bool.false_eq_true, if_false]
      have hnd : ¬ isDig (lookF L (I + 2, -1)) := by
        intro g; unfold isDig at g; simp [isTwo, g.1, g.2] at htw
      cases hnb : numBad (c1 - 48) last c1 false
      · have hb : ¬ (70 ≤ s11.num ∨ s11.num ≤ s11.ahead) := by rw [q1, q4]; simp [numBad] at hnb; omega
        have ee : endNumL s11 = (true, { s11 with free := fun j => if j = s11.num.toNat then true else s11.free j, ahead := s11.num, st := 12 }) := by unfold endNumL; rw [if_neg hb]
        simp only [Bool.false_eq_true, if_false]
        refine .inr ⟨c1 - 48, I + 2, (endNumL s11).2, rfl, by omega, by omega, mach_short (by omega) q2 hnd (by rw [ee]) (by rw [ee]), ?_, ?_, ?_, ?_, ?_⟩
        · rw [ee]
        · rw [ee]; exact q3
        · rw [ee]; exact q1
        · rw [ee]; exact q6
        · rw [ee]; simp only [q1, q5]
      · have hb : 70 ≤ s11.num ∨ s11.num ≤ s11.ahead := by rw [q1, q4]; simp [numBad] at hnb; omega
        have ee : endShortL s11 = (false, { s11 with place := s11.place - 1 }) := by unfold endShortL endNumL; rw [if_pos hb]; rfl
        simp only [if_true]
        refine .inl ⟨I + 2, I + 1, ?_, ?_⟩
        · unfold badF; rw [if_pos (by simp)]; simp; omega
        · have hm : mach L (I + 2) s11 = (false, { s11 with place := s11.place - 1 }) := by
            by_cases hJ : I + 2 < L.length
            · have e2 : takeL s11 (lookF L (I + 2, -1)) = (false, { s11 with place := s11.place - 1 }) := by rw [take_st11 _ q2]; unfold numSecondL; rw [if_neg hnd, ee]; rfl
              rw [mach_no (by omega) hJ (by rw [e2]), e2]
            · rw [mach_out (by omega)]; unfold finishL; rw [if_pos q2, ee]
          rw [hm]
          exact ⟨rfl, by simp only [q3]; omega, by omega⟩
    · simp only [if_true]
      have hg : isDig (lookF L (I + 2, -1)) := by
        unfold isDig; simp [isTwo] at htw; omega
      have hJ : I + 2 < L.length := by
        by_cases hJ : I + 2 < L.length
        · exact hJ
        · rw [look_end (by omega)] at hg; unfold isDig at hg; omega
      rw [show I + 2 + 1 = I + 3 by omega]
      generalize hc2 : lookF L (I + 2, -1) = c2 at *
      cases hnb : numBad (10 * (c1 - 48) + (c2 - 48)) last c1 true
      · have hb : ¬ c1 = 48 ∧ ¬ (70 ≤ s11.num * 10 + (c2 - 48) ∨ s11.num * 10 + (c2 - 48) ≤ s11.ahead) := by rw [q1, q4]; simp [numBad] at hnb; omega
        have ee : takeL s11 c2 = (true, { s11 with num := s11.num * 10 + (c2 - 48), free := fun j => if j = (s11.num * 10 + (c2 - 48)).toNat then true else s11.free j, ahead := s11.num * 10 + (c2 - 48), st := 12 }) := by
          rw [take_st11 _ q2]; unfold numSecondL; rw [if_pos hg, if_neg (by omega)]; unfold endNumL; rw [if_neg hb.2]
        have e2 := (mach_yes (L := L) (s := s11) (I := I + 2) (by omega) (by rw [hc2, ee])).2
        rw [hc2, ee] at e2
        rw [show I + 2 + 1 = I + 3 by omega] at e2
        have hn : 10 * (c1 - 48) + (c2 - 48) = s11.num * 10 + (c2 - 48) := by rw [q1]; omega
        simp only [Bool.false_eq_true, if_false]
        rw [hn]
        refine .inr ⟨_, I + 3, _, rfl, by omega, by omega, e2, rfl, ?_, rfl, q6, ?_⟩
        · simp only [q3]; omega
        · simp only [q5]
      · have ee : takeL s11 c2 = (false, s11) ∨ takeL s11 c2 = (false, { s11 with num := s11.num * 10 + (c2 - 48) }) := by
          rw [take_st11 _ q2]; unfold numSecondL; rw [if_pos hg]
          by_cases hz : s11.num = 0
          · rw [if_pos hz]; exact .inl rfl
          · rw [if_neg hz]; unfold endNumL
            rw [if_pos (by simp only [q1, q4]; simp [numBad] at hnb; omega)]
            exact .inr rfl
        simp only [if_true]
        refine .inl ⟨I + 3, I + 2, ?_, ?_⟩
        · unfold badF; rw [if_pos (by simp)]
        · have hm : mach L (I + 2) s11 = takeL s11 c2 := by
            have := mach_no (L := L) (s := s11) (I := I + 2) (by omega) hJ (by rw [hc2]; rcases ee with ee | ee <;> rw [ee])
            rw [hc2] at this; exact this
          rw [hm]
          rcases ee with ee | ee
          · rw [ee]; exact ⟨rfl, q3, by omega⟩
          · rw [ee]; exact ⟨rfl, q3, by omega⟩
  · rw [tk_no (by omega)]
    simp only [told_look (show 0 ≤ I + 1 by omega)]
    have e : takeL s (lookF L (I + 1, -1)) = (false, s) := by rw [take_st10 _ hst]; unfold numFirstL; rw [if_neg hd]
    have ht := mach_told (L := L) (I := I + 1) (by omega) hp (by omega) (by rw [e]) (by rw [e])
    have hz : isTwo 0 = false := rfl
    rw [hz]
    simp only [Bool.false_eq_true, if_false, told_bad (show 0 ≤ I + 1 by omega)]
    exact .inl ⟨I + 1, I + 1, by split <;> rfl, ht⟩
theorem sim_numbers : ∀ (f : Nat) (I : Int) (s : RS) (last : Int) (off : Nat → Bool), 0 ≤ I → I < L.length → s.st = 10 → s.place = I + 1 → s.ahead = last → (∀ j, s.free j = off j) → (L.length : Int) < I + f →
    Ends (mach L (I + 1) s) s (numbersF L f (I, -1) last off) (endF L (numbersF L f (I, -1) last off)) := by
  intro f
  induction f with
  | zero => intro I s last off h0 hl _ _ _ _ hf; omega
  | succ f ih =>
    intro I s last off h0 hl hst hp ha hfr hf
    rcases sim_number (L := L) h0 hst hp ha with ⟨J, P, h1, h2⟩ | ⟨n, J, s', h1, h2, h3, h4, h5, h6, h7, h8, h9⟩
    · rw [nums_told h1 h2.2.2, told_end h2.2.2]
      exact .inl ⟨h2.2.2, h2⟩
    · rw [nums_ok h1, h4]
      have hfr2 : ∀ j, s'.free j = setO off n j := fun j => by rw [h9]; exact free_set hfr n j
      have := sim_after (L := L) (f := f) J n s' (setO off n) (by omega) h3 h5 h6 h7 hfr2 (fun h44 hlt => ih J { s' with st := 10, place := J + 1 } n (setO off n) (by omega) hlt rfl rfl h7 hfr2 (by omega))
      rcases this with g | g
      · exact .inl g
      · exact .inr ⟨g.1, g.2.1, g.2.2.1.trans h8, g.2.2.2⟩
end

/-- both readers -/
theorem sim_all (L : List Int) :
    (0 ≤ (refF L).1.2 ∧ (loopL L rs0).1 = false ∧ (loopL L rs0).2.place = (refF L).1.2) ∨
    ((refF L).1.2 < 0 ∧ (loopL L rs0).1 = true ∧ WkR (refF L).2.1 (loopL L rs0).2.week ∧ ∀ j, (loopL L rs0).2.free j = (refF L).2.2 j) := by
  have hm : loopL L rs0 = mach L 0 rs0 := rfl
  rw [hm, refF_fin]
  rcases sim_entry (L := L) (I := 0) (s := rs0) (wk := fun _ => false) (by omega) (by omega) rfl rfl rfl rfl (fun _ => rfl) (fun d _ m _ => rfl) with ⟨J, P, h1, h2⟩ | ⟨J, s1, h1, h2, h3, h4, h5, h6⟩
  · obtain ⟨x, y, hx⟩ : ∃ x y, entryF L (0, -1) (fun _ => false) = (x, y) := ⟨_, _, rfl⟩
    rw [hx] at h1 ⊢
    simp only at h1
    rw [h1, told_entries h2.2.2]
    unfold fin
    simp only [told_look h2.2.2]
    refine .inl ?_
    simp only [show ¬ (0 : Int) = 33 by omega, if_false, told_bad h2.2.2]
    refine ⟨?_, h2.1, ?_⟩
    · split <;> exact h2.2.2
    · rw [h2.2.1]; split <;> rfl
  · obtain ⟨x, y, hx⟩ : ∃ x y, entryF L (0, -1) (fun _ => false) = (x, y) := ⟨_, _, rfl⟩
    rw [hx] at h1 h6 ⊢
    simp only at h1 h6
    rw [h1, h5]
    rcases sim_entries (L := L) (L.length + 1) J s1 y (by omega) h3 ⟨h6.st, h6.place, h6.beg, h6.time, rfl, rfl, h6.week⟩ h4 (by omega) with ⟨K, P, k1, k2⟩ | ⟨K, s2, k1, k2, k3, k4, k5, k6, k7⟩
    · obtain ⟨x2, y2, hx2⟩ : ∃ x y3, entriesF L (L.length + 1) ((J, -1), y) = (x, y3) := ⟨_, _, rfl⟩
      rw [hx2] at k1 ⊢
      simp only at k1
      rw [k1]
      unfold fin
      simp only [told_look k2.2.2]
      refine .inl ?_
      simp only [show ¬ (0 : Int) = 33 by omega, if_false, told_bad k2.2.2]
      refine ⟨?_, k2.1, ?_⟩
      · split <;> exact k2.2.2
      · rw [k2.2.1]; split <;> rfl
    · obtain ⟨x2, y2, hx2⟩ : ∃ x y3, entriesF L (L.length + 1) ((J, -1), y) = (x, y3) := ⟨_, _, rfl⟩
      rw [hx2] at k1 k7 ⊢
      simp only at k1 k7
      rw [k1, k6]
      have hfree : ∀ j, s2.free j = false := fun j => by rw [k7.free, h6.free]; rfl
      have hahead : s2.ahead = -1 := by rw [k7.ahead, h6.ahead]; rfl
      by_cases h33 : lookF L (K, -1) = 33
      · rw [fin_yes h33]
        have e : takeL s2 (lookF L (K, -1)) = (true, { s2 with st := 10 }) := by rw [take_st9 _ k7.st]; unfold spanEndL markL; rw [if_neg k5, if_neg k4, if_pos h33]
        obtain ⟨l1, e1⟩ := mach_yes (L := L) (s := s2) (I := K) (by omega) (by rw [e])
        rw [e] at e1
        simp only [k7.place] at e1
        rw [e1]
        rcases sim_numbers (L := L) (L.length + 1) K { s2 with st := 10, place := K + 1 } (-1) (fun _ => false) (by omega) l1 rfl rfl hahead hfree (by omega) with g | g
        · exact .inl ⟨g.1, g.2.1, g.2.2.1⟩
        · refine .inr ⟨g.1, g.2.1, ?_, g.2.2.2⟩
          rw [g.2.2.1]; exact k7.week
      · rw [fin_no h33]
        unfold fin2
        have e : takeL s2 (lookF L (K, -1)) = (false, s2) := by rw [take_st9 _ k7.st]; unfold spanEndL markL; rw [if_neg k5, if_neg k4, if_neg h33]
        by_cases hK : K < L.length
        · simp only [if_pos hK]
          rw [mach_no (by omega) hK (by rw [e]), e]
          refine .inl ?_
          unfold badF
          simp only [show (-1 : Int) < 0 by omega, if_true]
          exact ⟨by omega, trivial, k7.place⟩
        · simp only [if_neg hK]
          rw [mach_out (by omega)]
          unfold finishL
          rw [k7.st, if_neg (by omega)]
          exact .inr ⟨by omega, rfl, k7.week, hfree⟩
/-- the minutes that are open -/
theorem open_eq {wk : Nat → Bool} {week : Nat → List (Int × Int)} {fr off : Nat → Bool} (h : WkR wk week) (hf : ∀ j, fr j = off j) (t : Int) (h0 : 0 ≤ t) (_h1 : t < 100800) : openL week fr t = isOpen wk off t.toNat := by
  unfold openL isOpen
  have e1 : t.toNat % 10080 = (t / 1440 % 7).toNat * 1440 + (t % 1440).toNat := by omega
  rw [e1, h _ (by omega) _ (by omega), hf, show (t / 1440).toNat = t.toNat / 1440 by omega, show (((t % 1440).toNat : Nat) : Int) = t % 1440 by omega, Bool.and_comm]
end Go.Proofs.YtcnmbldikjljeaaGreatDoor
namespace Go.Proofs.YtcnmbldikjljeaaGreatDoor
open Go.RowKit

/-- a step of a script -/
structure OpD where
  k : Int
  a : Int
  b : Int
  d : Int
  s : ByteArray
  l : Value
def OpD.cells (o : OpD) : List Value := [.int .i64 o.k, .int .i64 o.a, .int .i64 o.b, .int .i64 o.d, .string o.s, o.l]
def OpD.val (o : OpD) : Value := .agg #[.int .i64 o.k, .int .i64 o.a, .int .i64 o.b, .int .i64 o.d, .string o.s, o.l]
def opsCells (os : List OpD) : List Value := os.flatMap OpD.cells
/-- numbers, text and list of a step are such -/
structure OpOk (o : OpD) : Prop where
  a0 : -9223372036854775808 ≤ o.a
  a1 : o.a ≤ 9223372036854775807
  b0 : -9223372036854775808 ≤ o.b
  b1 : o.b ≤ 9223372036854775807
  d0 : -9223372036854775808 ≤ o.d
  d1 : o.d ≤ 9223372036854775807
  sz : o.s.size ≤ 9223372036854775807
  one : ∃ la ll lc, o.l = .slice la ll lc
theorem opsCells_len (os : List OpD) : (opsCells os).length = os.length * 6 := by
  induction os with
  | nil => rfl
  | cons o os ih => simp only [opsCells, List.flatMap_cons, List.length_append, List.length_cons] at ih ⊢; rw [ih]; simp [OpD.cells]; omega
theorem opsCells_at (os : List OpD) (i : Nat) (h : i < os.length) (j : Nat) (hj : j < 6) : (opsCells os)[i * 6 + j]? = (os[i].cells)[j]? := by
  induction os generalizing i with
  | nil => simp at h
  | cons o os ih =>
    have e : opsCells (o :: os) = o.cells ++ opsCells os := rfl
    have hl : o.cells.length = 6 := rfl
    rw [e]
    cases i with
    | zero => rw [List.getElem?_append_left (by omega)]; simp
    | succ i =>
      rw [List.getElem?_append_right (by omega), hl, show (i + 1) * 6 + j - 6 = i * 6 + j by omega, ih i (by simpa using h)]
      simp
theorem opsCells_append (a b : List OpD) : opsCells (a ++ b) = opsCells a ++ opsCells b := by simp [opsCells]

set_option maxRecDepth 100000 in
set_option maxHeartbeats 1000000 in
theorem lpick_any (c n : Int) (w : World) (h1 : -9223372036854775808 ≤ c) (h2 : c ≤ 9223372036854775807) (hn : 0 < n) (hm : n ≤ 9223372036854775807) :
    Calls Tryz.prog 59 #[.int .i64 c, .int .i64 n] w fun e w' => e = .returned (.int .i64 (pk c n)) ∧ w' = w := by
  by_cases hc : c < 0
  · go_enter Tryz.func59, Tryz.ntmps59
    go_wp2
    go_ret
    exact ⟨ret_int (by unfold pk; rw [if_pos hc]; exact neg_tmod c n hc), rfl⟩
  · go_enter Tryz.func59, Tryz.ntmps59
    go_wp2
    go_ret
    exact ⟨ret_int (by unfold pk; rw [if_neg (by omega)]), rfl⟩
/-- the world behind the document's own examples -/
def ownW (w : World) : World := ((w.alloc (Obj.cells #[.int .i64 60, .int .i64 1, .int .i64 30, .int .i64 2] 127)).alloc (Obj.cells #[.int .i64 1] 3)).alloc (Obj.cells #[.slice (some ⟨w.heap.size, 0, none⟩) 2 2, .slice (some ⟨w.heap.size + 1, 0, none⟩) 1 1, .slice none 0 0, .slice none 0 0] 125)
set_option maxRecDepth 100000 in
set_option maxHeartbeats 4000000 in
theorem own_any (w : World) :
    Calls Tryz.prog 55 #[] w fun e w' => ∃ s0 : ByteArray, s0.size ≤ 9223372036854775807 ∧ e = .returned (.tuple #[.string s0, .slice (some ⟨w.heap.size + 1 + 1, 0, none⟩) 2 2]) ∧ w' = ownW w := by
  go_enter Tryz.func55, Tryz.ntmps55
  go_wp2
  go_ret2
  exact ⟨_, by decide, rfl, rfl⟩
/-- the list that a step may have: none, or the examples' -/
def FirstOk (w : World) (o : OpD) : Prop := OpOk o ∧ (o.l = .slice none 0 0 ∨ o.l = .slice (some ⟨w.heap.size + 1 + 1, 0, none⟩) 2 2)
set_option maxRecDepth 100000 in
set_option maxHeartbeats 4000000 in
theorem first_any (w : World) :
    Calls Tryz.prog 28 #[] w fun e w' => ∃ os : List OpD, os.length = 17 ∧ (∀ o ∈ os, FirstOk w o) ∧ e = .returned (.slice (some ⟨w.heap.size + 3, 0, none⟩) 17 17) ∧ w' = (ownW w).alloc (.cells (opsCells os).toArray 84) := by
  go_enter Tryz.func28, Tryz.ntmps28
  go_wp2_with fail
  refine (own_any w).mono ?_
  rintro e w1 ⟨s0, hs0, rfl, rfl⟩
  have hsz : (ownW w).heap.size = w.heap.size + 3 := by simp [ownW]
  have HS := hide hsz
  clear hsz
  go_wp2_with fail
  go_ret
  rw [HS.out]
  let nl : Value := .slice none 0 0
  let sl : Value := .slice (some ⟨w.heap.size + 1 + 1, 0, none⟩) 2 2
  let e0 : ByteArray := ⟨#[]⟩
  refine ⟨[⟨1, 0, 0, 0, s0, nl⟩, ⟨2, 0, 540, 0, e0, nl⟩, ⟨3, 0, 0, 10080, e0, nl⟩, ⟨4, 0, 1020, 1, e0, nl⟩, ⟨5, 0, 0, 0, e0, sl⟩, ⟨10, 0, 0, 0, e0, sl⟩, ⟨11, 0, 0, 0, e0, nl⟩, ⟨14, 0, 600, 0, e0, nl⟩, ⟨17, 0, 1, 0, e0, nl⟩, ⟨15, 0, 1, 0, e0, nl⟩, ⟨14, 0, 200, 0, e0, nl⟩, ⟨16, 0, 1, 0, e0, nl⟩, ⟨18, 0, 0, 0, e0, nl⟩, ⟨14, 0, 30, 0, e0, nl⟩, ⟨12, 0, 1, 1, e0, nl⟩, ⟨19, 0, 0, 0, e0, nl⟩, ⟨13, 0, 1, 0, e0, nl⟩], rfl, ?_, rfl, rfl⟩
  intro o ho
  have hk : (o.a = 0 ∧ (0 ≤ o.b ∧ o.b ≤ 10080) ∧ 0 ≤ o.d ∧ o.d ≤ 10080) ∧ (o.s = s0 ∨ o.s = e0) ∧ (o.l = nl ∨ o.l = sl) := by
    simp only [List.mem_cons, List.not_mem_nil, or_false] at ho
    rcases ho with rfl | rfl | rfl | rfl | rfl | rfl | rfl | rfl | rfl | rfl | rfl | rfl | rfl | rfl | rfl | rfl | rfl <;> simp
  obtain ⟨h1, h2, h3⟩ := hk
  refine ⟨⟨by omega, by omega, by omega, by omega, by omega, by omega, ?_, ?_⟩, h3⟩
  · rcases h2 with e | e <;> rw [e]
    · exact hs0
    · decide
  · rcases h3 with e | e <;> exact ⟨_, _, _, e⟩
set_option maxRecDepth 100000 in
set_option maxHeartbeats 1000000 in
theorem among_any (g cap : Nat) (ps : List Int) (k : Int) (w : World) (hp : ∀ i x, ps[i]? = some x → w.cell? ⟨g, i, none⟩ = some (.int .i64 x)) (hl : ps.length ≤ 1000) :
    Calls Tryz.prog 29 #[.slice (some ⟨g, 0, none⟩) ps.length cap, .int .i64 k] w fun e w' => e = .returned (.bool (ps.contains k)) ∧ w' = w := by
  go_enter Tryz.func29, Tryz.ntmps29
  go_wp2_with fail
  go_loopw [5] (fun i wr => ∃ n : Nat, n ≤ ps.length ∧ i = .int .i64 n ∧ Hid ((ps.take n).contains k = false) ∧ wr = w) (fun i _ => ps.length - (intOf i).toNat)
  case atStart => exact ⟨0, by omega, rfl, by simp [Hid], rfl⟩
  case round =>
    obtain ⟨n, hn, rfl, HD, rfl⟩ := hrel
    by_cases hlt : n < ps.length
    · have hc := hp n ps[n] (by simp [hlt])
      have ht := List.take_succ_eq_append_getElem hlt
      have hlt2 : (n : Int) < ps.length := by omega
      by_cases hk : ps[n] = k
      · have e1 : (ps[n] == k) = true := by simp [hk]
        have HY := hide (show ps.contains k = true by simp only [List.contains_iff_mem]; rw [← hk]; exact List.getElem_mem hlt)
        clear hp ht hk
        go_wp2
        go_ret
        rw [HY.out]; exact ⟨rfl, rfl⟩
      · have e1 : (ps[n] == k) = false := by simp [hk]
        have HT := hide ht
        have HK := hide hk
        clear hp ht hk
        go_wp2
        go_roundw
        case rel =>
          refine ⟨n + 1, by omega, by go_num, ?_, by first | rfl | trivial⟩
          have h1 := HD.out
          have hk := HK.out
          unfold Hid
          rw [HT.out, Bool.eq_false_iff, ne_eq, List.contains_iff_mem, List.mem_append, List.mem_singleton]
          rw [Bool.eq_false_iff, ne_eq, List.contains_iff_mem] at h1
          rintro (g | g)
          · exact h1 g
          · exact hk g.symm
        case measure => simp [intOf]; omega
    · have hN : n = ps.length := by omega
      have HN := hide (show ps.contains k = false by have := HD.out; rw [hN, List.take_length] at this; exact this)
      clear hp
      go_wp2
      go_ret
      rw [HN.out]; exact ⟨rfl, rfl⟩
set_option maxRecDepth 100000 in
set_option maxHeartbeats 1000000 in
/-- no lists have come out -/
theorem looks_none (wb : Nat) (w : World) (h2 : w.cell? ⟨wb, 2, none⟩ = some (.slice none 0 0)) (h3 : w.cell? ⟨wb, 3, none⟩ = some (.slice none 0 0)) :
    Calls Tryz.prog 31 #[.pointer (some ⟨wb, 2, none⟩)] w fun e w' => e = .returned (.bool true) ∧ w' = w := by
  go_enter Tryz.func31, Tryz.ntmps31
  go_wp2_with fail
  go_loopw [3] (fun i wr => i = .int .i64 0 ∧ wr = w) (fun _ _ => 0)
  case atStart => exact ⟨rfl, rfl⟩
  case round =>
    obtain ⟨rfl, rfl⟩ := hrel
    go_wp2_with fail
    go_loopw [6] (fun i wq => i = .int .i64 0 ∧ wq = wr) (fun _ _ => 0)
    case atStart => exact ⟨rfl, rfl⟩
    case round =>
      obtain ⟨rfl, rfl⟩ := hrel
      go_wp2_with fail
      go_ret
      exact ⟨rfl, rfl⟩
end Go.Proofs.YtcnmbldikjljeaaGreatDoor
