import Derived.Test.YtcnmbldikjljeaaGreatDoorJ27
import Derived.Test.YtcnmbldikjljeaaGreatDoorJ07
import Derived.Test.YtcnmbldikjljeaaGreatDoorJ11
namespace Go.Proofs.YtcnmbldikjljeaaGreatDoor
open Go.RowKit

/-! ### What is no plain character is told as 0 is -/
theorem first_high {c : Int} (h : c = 0 ∨ 128 ≤ c) : isFirst c = false := by
  simp only [isFirst, Bool.or_eq_false_iff, beq_eq_false_iff_ne]; omega
theorem dayOf_high {a c : Int} (h : c = 0 ∨ 128 ≤ c) : dayOf a c = 7 := by
  unfold dayOf; repeat (rw [if_neg (by omega)])
theorem take_high {s : RS} {c : Int} (h : c = 0 ∨ 128 ≤ c) : (takeL s c).1 = false ∧ takeL s c = takeL s 0 := by
  have hd : ¬ isDig c := by unfold isDig; omega
  have hd0 : ¬ isDig 0 := by unfold isDig; omega
  have hm : ∀ (t : RS) (m n : Int), m ≠ 0 → m < 128 → markL t c m n = (false, t) := fun t m n h1 h2 => by unfold markL; rw [if_neg (by omega)]
  have hm0 : ∀ (t : RS) (m n : Int), m ≠ 0 → m < 128 → markL t 0 m n = (false, t) := fun t m n h1 h2 => by unfold markL; rw [if_neg (by omega)]
  have ht : ∀ (m n k : Int), timeDigitL s c m n k = (false, s) := fun m n k => by unfold timeDigitL; rw [if_neg (fun e => hd e.1)]
  have ht0 : ∀ (m n k : Int), timeDigitL s 0 m n k = (false, s) := fun m n k => by unfold timeDigitL; rw [if_neg (fun e => hd0 e.1)]
  have c44 : ¬ c = 44 := by omega
  have c59 : ¬ c = 59 := by omega
  have c32 : ¬ c = 32 := by omega
  by_cases e0 : s.st = 0
  · rw [take_st0 c e0, take_st0 0 e0]; unfold dayFirstL; rw [first_high h, first_high (.inl rfl)]; simp
  by_cases e1 : s.st = 1
  · rw [take_st1 c e1, take_st1 0 e1]; unfold daySecondL; rw [dayOf_high h, dayOf_high (.inl rfl)]; simp
  by_cases e2 : s.st = 2
  · rw [take_st2 c e2, take_st2 0 e2]; unfold dayEndL; rw [if_neg c44, hm _ _ _ (by omega) (by omega), hm0 _ _ _ (by omega) (by omega)]; simp
  by_cases e3 : s.st = 3
  · rw [take_st3 c e3, take_st3 0 e3]; rw [ht, ht0]; simp
  by_cases e4 : s.st = 4
  · rw [take_st4 c e4, take_st4 0 e4]; rw [ht, ht0]; simp
  by_cases e5 : s.st = 5
  · rw [take_st5 c e5, take_st5 0 e5]; rw [hm _ _ _ (by omega) (by omega), hm0 _ _ _ (by omega) (by omega)]; simp
  by_cases e6 : s.st = 6
  · rw [take_st6 c e6, take_st6 0 e6]; rw [ht, ht0]; simp
  by_cases e7 : s.st = 7
  · rw [take_st7 c e7, take_st7 0 e7]; unfold minOnesL; rw [ht, ht0]; simp
  by_cases e8 : s.st = 8
  · rw [take_st8 c e8, take_st8 0 e8]; rw [hm _ _ _ (by omega) (by omega), hm0 _ _ _ (by omega) (by omega)]; simp
  by_cases e9 : s.st = 9
  · rw [take_st9 c e9, take_st9 0 e9]; unfold spanEndL; rw [if_neg c59, if_neg c32, hm _ _ _ (by omega) (by omega), hm0 _ _ _ (by omega) (by omega)]; simp
  by_cases e10 : s.st = 10
  · rw [take_st10 c e10, take_st10 0 e10]; unfold numFirstL; rw [if_neg hd, if_neg hd0]; simp
  by_cases e11 : s.st = 11
  · rw [take_st11 c e11, take_st11 0 e11]; unfold numSecondL; rw [if_neg hd, if_neg hd0, hm _ _ _ (by omega) (by omega), hm0 _ _ _ (by omega) (by omega)]
    refine ⟨?_, rfl⟩
    by_cases g : (endShortL s).1 = true
    · rw [if_pos g]
    · rw [if_neg g]; simpa using g
  · have he : ∀ x, takeL s x = markL s x 44 10 := fun x => by unfold takeL; rw [if_neg e0, if_neg e1, if_neg e2, if_neg e3, if_neg e4, if_neg e5, if_neg e6, if_neg e7, if_neg e8, if_neg e9, if_neg e10, if_neg e11]
    rw [he, he, hm _ _ _ (by omega) (by omega), hm0 _ _ _ (by omega) (by omega)]; simp
theorem take_zero (s : RS) : (takeL s 0).1 = false := (take_high (.inl rfl)).1
theorem take_plain (s : RS) (c : Int) : takeL s (plain c) = takeL s c := by
  unfold plain
  split
  · exact (take_high (.inr (by assumption))).2.symm
  · rfl
theorem loop_plain (l : List Int) : ∀ s, loopL (l.map plain) s = loopL l s := by
  induction l with
  | nil => intro s; rfl
  | cons c l ih => intro s; simp only [List.map_cons, loopL, take_plain, ih]
theorem parse_crun (s : ByteArray) : parseL s = loopL (crun s s.size 0) rs0 := by rw [crun_chars, loop_plain]; rfl
end Go.Proofs.YtcnmbldikjljeaaGreatDoor
namespace Go.Proofs.YtcnmbldikjljeaaGreatDoor
open Go.RowKit

/-- the program's reader, from a place on -/
def mach (L : List Int) (I : Int) (s : RS) : Bool × RS := loopL (L.drop I.toNat) s
/-- told at a place -/
def Tld (M : Bool × RS) (P : Int) : Prop := M.1 = false ∧ M.2.place = P ∧ 0 ≤ P

section
variable {L : List Int} {I P lo hi : Int} {s : RS}
theorem look_end (h : (L.length : Int) ≤ I) : lookF L (I, -1) = 0 := by unfold lookF; rw [if_pos (.inr h)]
theorem look_drop (h0 : 0 ≤ I) (h : I < L.length) : L.drop I.toNat = lookF L (I, -1) :: L.drop (I + 1).toNat := by
  have hn : I.toNat < L.length := by omega
  rw [show (I + 1).toNat = I.toNat + 1 by omega]
  unfold lookF
  rw [if_neg (by simp; omega), List.drop_eq_getElem_cons hn]
  simp [List.getD, hn]
theorem mach_out (h : (L.length : Int) ≤ I) : mach L I s = finishL s := by
  unfold mach; rw [List.drop_eq_nil_of_le (by omega)]; rfl
theorem mach_yes (h0 : 0 ≤ I) (hy : (takeL s (lookF L (I, -1))).1 = true) : I < L.length ∧ mach L I s = mach L (I + 1) { (takeL s (lookF L (I, -1))).2 with place := (takeL s (lookF L (I, -1))).2.place + 1 } := by
  by_cases h : I < L.length
  · refine ⟨h, ?_⟩
    unfold mach
    rw [look_drop h0 h]
    simp only [loopL, hy, if_true]
  · rw [look_end (by omega), take_zero] at hy; cases hy
theorem mach_no (h0 : 0 ≤ I) (h : I < L.length) (hn : (takeL s (lookF L (I, -1))).1 = false) : mach L I s = takeL s (lookF L (I, -1)) := by
  unfold mach
  rw [look_drop h0 h]
  simp only [loopL, hn]
  rfl
theorem mach_told (h0 : 0 ≤ I) (hp : s.place = I) (hst : s.st ≠ 9 ∧ s.st ≠ 11 ∧ s.st ≠ 12) (hn : (takeL s (lookF L (I, -1))).1 = false) (hpl : (takeL s (lookF L (I, -1))).2.place = s.place) : Tld (mach L I s) I := by
  by_cases h : I < L.length
  · rw [mach_no h0 h hn]; exact ⟨hn, hpl.trans hp, h0⟩
  · rw [mach_out (by omega)]
    unfold finishL
    rw [if_neg hst.2.1]
    exact ⟨by simp [hst.1, hst.2.2], hp, h0⟩
theorem dstep (h0 : 0 ≤ I) (most minutes next : Int) (hk : ∀ c, takeL s c = timeDigitL s c most minutes next) (hp : s.place = I) (hst : s.st ≠ 9 ∧ s.st ≠ 11 ∧ s.st ≠ 12) :
    ((48 ≤ lookF L (I, -1) ∧ lookF L (I, -1) ≤ 57 ∧ lookF L (I, -1) - 48 ≤ most ∧ s.time + (lookF L (I, -1) - 48) * minutes ≤ 1440) ∧ I < L.length ∧ mach L I s = mach L (I + 1) { s with time := s.time + (lookF L (I, -1) - 48) * minutes, st := next, place := I + 1 }) ∨
    (¬ (48 ≤ lookF L (I, -1) ∧ lookF L (I, -1) ≤ 57 ∧ lookF L (I, -1) - 48 ≤ most ∧ s.time + (lookF L (I, -1) - 48) * minutes ≤ 1440) ∧ Tld (mach L I s) I) := by
  by_cases h : 48 ≤ lookF L (I, -1) ∧ lookF L (I, -1) ≤ 57 ∧ lookF L (I, -1) - 48 ≤ most ∧ s.time + (lookF L (I, -1) - 48) * minutes ≤ 1440
  · have e : takeL s (lookF L (I, -1)) = (true, { s with time := s.time + (lookF L (I, -1) - 48) * minutes, st := next }) := by
      rw [hk]; unfold timeDigitL; rw [if_pos ⟨⟨h.1, h.2.1⟩, h.2.2⟩]
    have := mach_yes (L := L) (s := s) h0 (by rw [e])
    rw [e] at this
    refine .inl ⟨h, this.1, ?_⟩
    rw [this.2]; simp [hp]
  · have e : takeL s (lookF L (I, -1)) = (false, s) := by
      rw [hk]; unfold timeDigitL; rw [if_neg (fun g => h ⟨g.1.1, g.1.2, g.2⟩)]
    exact .inr ⟨h, mach_told h0 hp hst (by rw [e]) (by rw [e])⟩
theorem mstep (h0 : 0 ≤ I) (mark next : Int) (hk : ∀ c, takeL s c = markL s c mark next) (hp : s.place = I) (hst : s.st ≠ 9 ∧ s.st ≠ 11 ∧ s.st ≠ 12) :
    (lookF L (I, -1) = mark ∧ I < L.length ∧ mach L I s = mach L (I + 1) { s with st := next, place := I + 1 }) ∨ (¬ lookF L (I, -1) = mark ∧ Tld (mach L I s) I) := by
  by_cases h : lookF L (I, -1) = mark
  · have e : takeL s (lookF L (I, -1)) = (true, { s with st := next }) := by rw [hk]; unfold markL; rw [if_pos h]
    have := mach_yes (L := L) (s := s) h0 (by rw [e])
    rw [e] at this
    refine .inl ⟨h, this.1, ?_⟩
    rw [this.2]; simp [hp]
  · have e : takeL s (lookF L (I, -1)) = (false, s) := by rw [hk]; unfold markL; rw [if_neg h]
    exact .inr ⟨h, mach_told h0 hp hst (by rw [e]) (by rw [e])⟩

/-! ### The document's reader -/
theorem tk_yes (a : lo ≤ lookF L (I, -1)) (b : lookF L (I, -1) ≤ hi) (c : lookF L (I, -1) ≠ 0) : takeF L (I, -1) lo hi = (lookF L (I, -1), (I + 1, -1)) := by
  unfold takeF; rw [if_neg (by omega)]
theorem tk_no (h : ¬ (lo ≤ lookF L (I, -1) ∧ lookF L (I, -1) ≤ hi ∧ lookF L (I, -1) ≠ 0)) : takeF L (I, -1) lo hi = (lo, (I, I)) := by
  unfold takeF; rw [if_pos (by omega)]; rfl
theorem told_look (hP : 0 ≤ P) : lookF L (I, P) = 0 := by unfold lookF; rw [if_pos (.inl hP)]
theorem told_bad (hP : 0 ≤ P) (x : Int) : badF (I, P) x = (I, P) := by unfold badF; rw [if_neg (by simp; omega)]
theorem told_take (hP : 0 ≤ P) : takeF L (I, P) lo hi = (lo, (I, P)) := by
  unfold takeF; rw [told_look hP, if_pos (.inr (.inr rfl)), told_bad hP]
theorem told_time (hP : 0 ≤ P) : (timeF L (I, P)).2 = (I, P) := by simp only [timeF, told_take hP]
theorem told_weekday (hP : 0 ≤ P) : (weekdayF L (I, P)).2 = (I, P) := by
  unfold weekdayF; rw [told_look hP, first_high (.inl rfl)]; simp only [Bool.false_eq_true, if_false]; exact told_bad hP _
theorem told_days (hP : 0 ≤ P) (f : Nat) (l : List Int) : daysF L f (I, P) l = (l, (I, P)) := by
  cases f with
  | zero => rfl
  | succ f => simp only [daysF, told_look hP]; rw [if_neg (by omega)]
theorem told_span (hP : 0 ≤ P) : (spanF L (I, P)).2.2 = (I, P) := by
  unfold spanF
  have e := told_time (L := L) (I := I) hP
  simp only [e, told_take hP, told_bad hP]
  split <;> rfl
theorem told_spans (hP : 0 ≤ P) (l : List Int) (f : Nat) (wk : Nat → Bool) : spansF L l f (I, P) wk = ((I, P), wk) := by
  cases f with
  | zero => rfl
  | succ f => simp only [spansF]; rw [if_neg (by simp; omega)]
theorem told_entry (hP : 0 ≤ P) (wk : Nat → Bool) : (entryF L (I, P) wk).1 = (I, P) := by
  unfold entryF
  simp only [told_weekday hP, told_days hP, told_take hP, told_spans hP]

/-- a time -/
theorem sim_time (h0 : 0 ≤ I) (hst : s.st = 3) (ht : s.time = 0) (hp : s.place = I) :
    (∃ J P, (timeF L (I, -1)).2 = (J, P) ∧ Tld (mach L I s) P) ∨
    (∃ T, 0 ≤ T ∧ timeF L (I, -1) = (T, (I + 5, -1)) ∧ I + 5 ≤ L.length ∧
      mach L I s = if (endTimeL { s with time := T, st := 9, place := I + 4 }).1 then mach L (I + 5) { (endTimeL { s with time := T, st := 9, place := I + 4 }).2 with place := I + 5 } else endTimeL { s with time := T, st := 9, place := I + 4 }) := by
  unfold timeF
  rcases dstep (L := L) h0 9 600 4 (fun c => take_st3 c hst) hp (by omega) with ⟨⟨a1, a2, a3, a4⟩, l1, e1⟩ | ⟨n1, t1⟩
  · rw [ht] at a4 e1
    rw [tk_yes (by omega) (by omega) (by omega)]
    simp only
    rcases dstep (L := L) (I := I + 1) (s := { s with time := 0 + (lookF L (I, -1) - 48) * 600, st := 4, place := I + 1 }) (by omega) 9 60 5 (fun c => take_st4 c rfl) rfl (by simp) with ⟨⟨b1, b2, b3, b4⟩, l2, e2⟩ | ⟨n2, t2⟩
    · simp only at b4 e2
      rw [tk_yes (by omega) (by split <;> omega) (by omega)]
      simp only
      rw [show I + 1 + 1 = I + 2 by omega] at e2 ⊢
      rcases mstep (L := L) (I := I + 2) (s := { s with time := 0 + (lookF L (I, -1) - 48) * 600 + (lookF L (I + 1, -1) - 48) * 60, st := 5, place := I + 2 }) (by omega) 58 6 (fun c => take_st5 c rfl) rfl (by simp) with ⟨c1, l3, e3⟩ | ⟨n3, t3⟩
      · simp only at e3
        rw [tk_yes (by omega) (by omega) (by omega)]
        simp only
        rw [show I + 2 + 1 = I + 3 by omega] at e3 ⊢
        rcases dstep (L := L) (I := I + 3) (s := { s with time := 0 + (lookF L (I, -1) - 48) * 600 + (lookF L (I + 1, -1) - 48) * 60, st := 6, place := I + 3 }) (by omega) 5 10 7 (fun c => take_st6 c rfl) rfl (by simp) with ⟨⟨d1, d2, d3, d4⟩, l4, e4⟩ | ⟨n4, t4⟩
        · simp only at d4 e4
          rw [tk_yes (by omega) (by split <;> omega) (by omega)]
          simp only
          rw [show I + 3 + 1 = I + 4 by omega] at e4 ⊢
          generalize hT : 0 + (lookF L (I, -1) - 48) * 600 + (lookF L (I + 1, -1) - 48) * 60 + (lookF L (I + 3, -1) - 48) * 10 = T3 at *
          obtain ⟨s7, hs7⟩ : ∃ s7, s7 = { s with time := T3, st := 7, place := I + 4 } := ⟨_, rfl⟩
          rw [← hs7] at e4
          have h7 : ∀ c, takeL s7 c = minOnesL s7 c := fun c => take_st7 c (by rw [hs7])
          by_cases hd : 48 ≤ lookF L (I + 4, -1) ∧ lookF L (I + 4, -1) ≤ 57 ∧ T3 + (lookF L (I + 4, -1) - 48) ≤ 1440
          · rw [tk_yes (by omega) (by split <;> omega) (by omega)]
            simp only
            rw [show I + 4 + 1 = I + 5 by omega]
            have e9 : timeDigitL s7 (lookF L (I + 4, -1)) 9 1 9 = (true, { s7 with time := T3 + (lookF L (I + 4, -1) - 48) * 1, st := 9 }) := by
              unfold timeDigitL; rw [if_pos (by rw [hs7]; exact ⟨⟨hd.1, hd.2.1⟩, by omega, by simp only; omega⟩)]; rw [hs7]
            have e10 : takeL s7 (lookF L (I + 4, -1)) = endTimeL { s with time := T3 + (lookF L (I + 4, -1) - 48), st := 9, place := I + 4 } := by
              rw [h7]; unfold minOnesL; rw [e9, if_pos rfl, hs7, Int.mul_one]
            have hT9 : 60 * (10 * (lookF L (I, -1) - 48) + (lookF L (I + 1, -1) - 48)) + 10 * (lookF L (I + 3, -1) - 48) + (lookF L (I + 4, -1) - 48) = T3 + (lookF L (I + 4, -1) - 48) := by omega
            rw [hT9]
            have hlt : I + 4 < L.length := by
              by_cases hl : I + 4 < L.length
              · exact hl
              · rw [look_end (by omega)] at hd; omega
            refine .inr ⟨_, by omega, rfl, by omega, ?_⟩
            rw [e1, e2, e3, e4]
            cases hb : (endTimeL { s with time := T3 + (lookF L (I + 4, -1) - 48), st := 9, place := I + 4 }).1
            · rw [mach_no (by omega) hlt (by rw [e10]; exact hb), e10]; rfl
            · have := (mach_yes (L := L) (s := s7) (I := I + 4) (by omega) (by rw [e10]; exact hb)).2
              rw [this, e10, place_endTime]
              simp only [if_true]
              rw [show I + 4 + 1 = I + 5 by omega]
          · rw [tk_no (fun g => hd ⟨by omega, by have := g.2.1; split at this <;> omega, by have := g.2.1; split at this <;> omega⟩)]
            simp only
            have e9 : timeDigitL s7 (lookF L (I + 4, -1)) 9 1 9 = (false, s7) := by
              unfold timeDigitL; rw [if_neg (fun g => hd (by rw [hs7] at g; simp only at g; have := g.1.1; have := g.1.2; have := g.2.2; omega))]
            have e10 : takeL s7 (lookF L (I + 4, -1)) = (false, s7) := by rw [h7]; unfold minOnesL; rw [e9]; rfl
            refine .inl ⟨_, _, rfl, ?_⟩
            rw [e1, e2, e3, e4]
            exact mach_told (by omega) (by rw [hs7]) (by rw [hs7]; simp) (by rw [e10]) (by rw [e10])
        · simp only at n4
          rw [tk_no (fun g => n4 ⟨by omega, by have := g.2.1; split at this <;> omega, by have := g.2.1; split at this <;> omega, by have := g.2.1; split at this <;> omega⟩)]
          simp only [told_take (show 0 ≤ I + 3 by omega)]
          exact .inl ⟨_, _, rfl, by rw [e1, e2, e3]; exact t4⟩
      · rw [tk_no (fun g => n3 (by omega))]
        simp only [told_take (show 0 ≤ I + 2 by omega)]
        exact .inl ⟨_, _, rfl, by rw [e1, e2]; exact t3⟩
    · simp only at n2
      rw [tk_no (fun g => n2 ⟨by omega, by have := g.2.1; split at this <;> omega, by have := g.2.1; split at this <;> omega, by have := g.2.1; split at this <;> omega⟩)]
      simp only [told_take (show 0 ≤ I + 1 by omega)]
      exact .inl ⟨_, _, rfl, by rw [e1]; exact t2⟩
  · rw [ht] at n1
    rw [tk_no (fun g => n1 (by omega))]
    simp only [told_take h0]
    exact .inl ⟨_, _, rfl, t1⟩
end
end Go.Proofs.YtcnmbldikjljeaaGreatDoor
namespace Go.Proofs.YtcnmbldikjljeaaGreatDoor
open Go.RowKit

/-- what a stretch of reading leaves as it was -/
structure Kp (s s' : RS) : Prop where
  beg : s'.beg = s.beg
  time : s'.time = s.time
  ahead : s'.ahead = s.ahead
  week : s'.week = s.week
  free : s'.free = s.free
/-- the days that are named -/
def DayR (l : List Int) (days : Nat → Bool) : Prop := ∀ j, j < 7 → days j = l.contains (j : Int)
/-- the minutes of the week -/
def WkR (wk : Nat → Bool) (week : Nat → List (Int × Int)) : Prop := ∀ d, d < 7 → ∀ m : Nat, m < 1440 → wk (d * 1440 + m) = hitL (m : Int) (week d)

section
variable {L : List Int} {I : Int} {s : RS}
theorem sim_weekday (h0 : 0 ≤ I) (hst : s.st = 0) (hp : s.place = I) :
    (∃ J P, (weekdayF L (I, -1)).2 = (J, P) ∧ Tld (mach L I s) P) ∨
    (∃ (c : Int) (d : Nat), d < 7 ∧ weekdayF L (I, -1) = ((d : Int), (I + 2, -1)) ∧ I + 2 ≤ L.length ∧
      mach L I s = mach L (I + 2) { s with letter := c, days := fun j => if j = d then true else s.days j, st := 2, place := I + 2 }) := by
  unfold weekdayF
  cases hf : isFirst (lookF L (I, -1))
  · have e : takeL s (lookF L (I, -1)) = (false, s) := by rw [take_st0 _ hst]; unfold dayFirstL; rw [hf]; rfl
    refine .inl ⟨I, I, rfl, ?_⟩
    exact mach_told h0 hp (by omega) (by rw [e]) (by rw [e])
  · have e : takeL s (lookF L (I, -1)) = (true, { s with letter := lookF L (I, -1), st := 1 }) := by rw [take_st0 _ hst]; unfold dayFirstL; rw [hf]; rfl
    obtain ⟨l1, e1⟩ := mach_yes (L := L) (s := s) h0 (by rw [e])
    rw [e] at e1
    simp only [hp] at e1
    simp only [if_true]
    obtain ⟨s1, hs1⟩ : ∃ s1, s1 = { s with letter := lookF L (I, -1), st := 1, place := I + 1 } := ⟨_, rfl⟩
    rw [← hs1] at e1
    by_cases hd : dayOf (lookF L (I, -1)) (lookF L (I + 1, -1)) < 7
    · have e2 : takeL s1 (lookF L (I + 1, -1)) = (true, { s1 with days := fun j => if j = dayOf (lookF L (I, -1)) (lookF L (I + 1, -1)) then true else s1.days j, st := 2 }) := by
        rw [take_st1 _ (by rw [hs1])]; unfold daySecondL; rw [show s1.letter = lookF L (I, -1) by rw [hs1], if_pos hd]
      obtain ⟨l2, e3⟩ := mach_yes (L := L) (s := s1) (I := I + 1) (by omega) (by rw [e2])
      rw [e2] at e3
      simp only [hs1] at e3
      rw [if_pos hd]
      refine .inr ⟨lookF L (I, -1), _, hd, ?_, by omega, ?_⟩
      · rw [show I + 1 + 1 = I + 2 by omega]
      · rw [e1, hs1, e3, show I + 1 + 1 = I + 2 by omega]
    · have e2 : takeL s1 (lookF L (I + 1, -1)) = (false, s1) := by
        rw [take_st1 _ (by rw [hs1])]; unfold daySecondL; rw [show s1.letter = lookF L (I, -1) by rw [hs1], if_neg hd]
      rw [if_neg hd]
      refine .inl ⟨I + 1, I + 1, rfl, ?_⟩
      rw [e1]
      exact mach_told (by omega) (by rw [hs1]) (by rw [hs1]; simp) (by rw [e2]) (by rw [e2])
theorem day_snoc {l : List Int} {days : Nat → Bool} (h : DayR l days) (d : Nat) : DayR (l ++ [(d : Int)]) (fun j => if j = d then true else days j) := by
  intro j hj
  have := h j hj
  by_cases e : j = d
  · subst e; simp
  · have : ¬ (j : Int) = (d : Int) := by omega
    simp [e, this, h j hj]
theorem sim_days : ∀ (f : Nat) (I : Int) (s : RS) (l : List Int), 0 ≤ I → I ≤ L.length → s.st = 2 → s.place = I → DayR l s.days → (L.length : Int) < I + f →
    (∃ J P, (takeF L (daysF L f (I, -1) l).2 32 32).2 = (J, P) ∧ Tld (mach L I s) P) ∨
    (∃ J s', (takeF L (daysF L f (I, -1) l).2 32 32).2 = (J, -1) ∧ I < J ∧ J ≤ L.length ∧ mach L I s = mach L J s' ∧ s'.st = 3 ∧ s'.place = J ∧ DayR (daysF L f (I, -1) l).1 s'.days ∧ Kp s s') := by
  intro f
  induction f with
  | zero => intro I s l h0 hl hst hp hd hf; omega
  | succ f ih =>
    intro I s l h0 hl hst hp hd hf
    simp only [daysF]
    by_cases h44 : lookF L (I, -1) = 44
    · rw [if_pos h44]
      have e : takeL s (lookF L (I, -1)) = (true, { s with st := 0 }) := by rw [take_st2 _ hst]; unfold dayEndL; rw [if_pos h44]
      obtain ⟨l1, e1⟩ := mach_yes (L := L) (s := s) h0 (by rw [e])
      rw [e] at e1
      simp only [hp] at e1
      rcases sim_weekday (L := L) (I := I + 1) (s := { s with st := 0, place := I + 1 }) (by omega) rfl rfl with ⟨J, P, h1, h2⟩ | ⟨c, d, hd7, h1, h2, h3⟩
      · rw [h1, told_days h2.2.2, told_take h2.2.2]
        exact .inl ⟨J, P, rfl, by rw [e1]; exact h2⟩
      · rw [h1]
        simp only at h3
        rw [show I + 1 + 2 = I + 3 by omega] at h2 h3 ⊢
        rcases ih (I + 3) { s with letter := c, days := fun j => if j = d then true else s.days j, st := 2, place := I + 3 } (l ++ [(d : Int)]) (by omega) h2 rfl rfl (day_snoc hd d) (by omega) with ⟨J, P, g1, g2⟩ | ⟨J, s', g1, g2, g3, g4, g5, g6, g7, g8⟩
        · exact .inl ⟨J, P, g1, by rw [e1, h3]; exact g2⟩
        · exact .inr ⟨J, s', g1, by omega, g3, by rw [e1, h3, g4], g5, g6, g7, ⟨g8.beg, g8.time, g8.ahead, g8.week, g8.free⟩⟩
    · rw [if_neg h44]
      by_cases h32 : lookF L (I, -1) = 32
      · have e : takeL s (lookF L (I, -1)) = (true, { s with st := 3 }) := by rw [take_st2 _ hst]; unfold dayEndL markL; rw [if_neg h44, if_pos h32]
        obtain ⟨l1, e1⟩ := mach_yes (L := L) (s := s) h0 (by rw [e])
        rw [e] at e1
        simp only [hp] at e1
        rw [tk_yes (by omega) (by omega) (by omega)]
        exact .inr ⟨I + 1, _, rfl, by omega, by omega, e1, rfl, rfl, hd, ⟨rfl, rfl, rfl, rfl, rfl⟩⟩
      · have e : takeL s (lookF L (I, -1)) = (false, s) := by rw [take_st2 _ hst]; unfold dayEndL markL; rw [if_neg h44, if_neg h32]
        rw [tk_no (by omega)]
        exact .inl ⟨I, I, rfl, mach_told h0 hp (by omega) (by rw [e]) (by rw [e])⟩
theorem sim_span (h0 : 0 ≤ I) (hst : s.st = 3) (ht : s.time = 0) (hb : s.beg = -1) (hp : s.place = I) :
    (∃ J P, (spanF L (I, -1)).2.2 = (J, P) ∧ Tld (mach L I s) P) ∨
    (∃ a b, 0 ≤ a ∧ a < b ∧ spanF L (I, -1) = (a, b, (I + 11, -1)) ∧ I + 11 ≤ L.length ∧ mach L I s = mach L (I + 11) { s with time := 0, week := addW s (a, b), beg := -1, st := 9, place := I + 11 }) := by
  unfold spanF
  rcases sim_time (L := L) h0 hst ht hp with ⟨J, P, h1, h2⟩ | ⟨a, ha, h1, h2, h3⟩
  · simp only [h1, told_take h2.2.2, told_time h2.2.2, told_bad h2.2.2]
    exact .inl ⟨J, P, by split <;> rfl, h2⟩
  · have e : endTimeL { s with time := a, st := 9, place := I + 4 } = (true, { s with time := 0, beg := a, st := 8, place := I + 4 }) := by unfold endTimeL; rw [if_pos hb]
    rw [e] at h3
    simp only [if_true] at h3
    simp only [h1]
    rcases mstep (L := L) (I := I + 5) (s := { s with time := 0, beg := a, st := 8, place := I + 5 }) (by omega) 45 3 (fun c => take_st8 c rfl) rfl (by simp) with ⟨c1, l1, e1⟩ | ⟨n1, t1⟩
    · simp only at e1
      rw [tk_yes (by omega) (by omega) (by omega)]
      rw [show I + 5 + 1 = I + 6 by omega] at e1 ⊢
      simp only
      rcases sim_time (L := L) (I := I + 6) (s := { s with time := 0, beg := a, st := 3, place := I + 6 }) (by omega) rfl rfl rfl with ⟨J, P, k1, k2⟩ | ⟨b, hbb, k1, k2, k3⟩
      · simp only [k1, told_bad k2.2.2]
        exact .inl ⟨J, P, by split <;> rfl, by rw [h3, e1]; exact k2⟩
      · simp only [k1]
        simp only at k3
        rw [show I + 6 + 5 = I + 11 by omega, show I + 6 + 4 = I + 10 by omega] at k3
        rw [show I + 6 + 5 = I + 11 by omega] at k1 k2 ⊢
        by_cases hab : b ≤ a
        · have e2 : endTimeL { s with time := b, beg := a, st := 9, place := I + 10 } = (false, { s with time := 0, beg := a, st := 9, place := I + 10 }) := by
            unfold endTimeL; rw [if_neg (by simp only; omega), if_pos hab]
          rw [e2] at k3
          refine .inl ⟨I + 11, I + 10, ?_, ?_⟩
          · rw [if_pos hab]; unfold badF; rw [if_pos (by simp)]; simp; omega
          · rw [h3, e1, k3]; exact ⟨rfl, rfl, by omega⟩
        · have e2 : endTimeL { s with time := b, beg := a, st := 9, place := I + 10 } = (true, { s with time := 0, week := addW s (a, b), beg := -1, st := 9, place := I + 10 }) := by
            unfold endTimeL; rw [if_neg (by simp only; omega), if_neg hab]; rfl
          rw [e2] at k3
          refine .inr ⟨a, b, ha, by omega, ?_, k2, ?_⟩
          · rw [if_neg hab]
          · rw [h3, e1, k3]; rfl
    · rw [tk_no (by omega)]
      simp only [told_time (show 0 ≤ I + 5 by omega), told_bad (show 0 ≤ I + 5 by omega)]
      exact .inl ⟨I + 5, I + 5, by split <;> rfl, by rw [h3]; exact t1⟩
end
end Go.Proofs.YtcnmbldikjljeaaGreatDoor
namespace Go.Proofs.YtcnmbldikjljeaaGreatDoor
open Go.RowKit

theorem hit_snoc (m : Int) (l : List (Int × Int)) (a b : Int) : hitL m (l ++ [(a, b)]) = (hitL m l || (decide (a ≤ m) && decide (m < b))) := by
  simp [hitL, List.any_append]
theorem wk_mark {wk : Nat → Bool} {s : RS} {l : List Int} (h : WkR wk s.week) (hd : DayR l s.days) (a b : Int) : WkR (markF wk l a b) (addW s (a, b)) := by
  intro d hd7 m hm
  have e1 : (d * 1440 + m) / 1440 = d := by omega
  have e2 : (d * 1440 + m) % 1440 = m := by omega
  unfold markF addW
  rw [e1, e2, h d hd7 m hm, ← hd d hd7]
  cases s.days d
  · simp
  · simp only [if_true, hit_snoc, Bool.true_and]

section
variable {L : List Int}
/-- behind an entry: the end of a span -/
structure Sp (s s' : RS) (J : Int) (wk' : Nat → Bool) : Prop where
  st : s'.st = 9
  place : s'.place = J
  beg : s'.beg = -1
  time : s'.time = 0
  ahead : s'.ahead = s.ahead
  free : s'.free = s.free
  week : WkR wk' s'.week
theorem sim_spans (l : List Int) : ∀ (f : Nat) (I : Int) (s : RS) (wk : Nat → Bool), 0 ≤ I → I ≤ L.length → s.st = 3 → s.time = 0 → s.beg = -1 → s.place = I → DayR l s.days → WkR wk s.week → (L.length : Int) < I + f →
    (∃ J P, (spansF L l f (I, -1) wk).1 = (J, P) ∧ Tld (mach L I s) P) ∨
    (∃ J s', (spansF L l f (I, -1) wk).1 = (J, -1) ∧ I < J ∧ J ≤ L.length ∧ lookF L (J, -1) ≠ 32 ∧ mach L I s = mach L J s' ∧ Sp s s' J (spansF L l f (I, -1) wk).2) := by
  intro f
  induction f with
  | zero => intro I s wk h0 hl _ _ _ _ _ _ hf; omega
  | succ f ih =>
    intro I s wk h0 hl hst ht hb hp hd hw hf
    simp only [spansF]
    rw [if_pos (by omega)]
    rcases sim_span (L := L) h0 hst ht hb hp with ⟨J, P, h1, h2⟩ | ⟨a, b, ha, hab, h1, h2, h3⟩
    · rw [h1, told_look h2.2.2, if_neg (by omega)]
      exact .inl ⟨J, P, rfl, h2⟩
    · rw [h1]
      simp only
      have hw2 := wk_mark hw hd a b
      by_cases h32 : lookF L (I + 11, -1) = 32
      · rw [if_pos h32]
        obtain ⟨s9, hs9⟩ : ∃ s9, s9 = { s with time := 0, week := addW s (a, b), beg := -1, st := 9, place := I + 11 } := ⟨_, rfl⟩
        rw [← hs9] at h3
        have e : takeL s9 (lookF L (I + 11, -1)) = (true, { s9 with st := 3 }) := by rw [take_st9 _ (by rw [hs9])]; unfold spanEndL; rw [if_neg (by omega), if_pos h32]
        obtain ⟨l1, e1⟩ := mach_yes (L := L) (s := s9) (I := I + 11) (by omega) (by rw [e])
        rw [e] at e1
        simp only [hs9] at e1
        rw [show I + 11 + 1 = I + 12 by omega] at e1 ⊢
        rcases ih (I + 12) { s with time := 0, week := addW s (a, b), beg := -1, st := 3, place := I + 12 } (markF wk l a b) (by omega) (by omega) rfl rfl rfl rfl hd hw2 (by omega) with ⟨J, P, g1, g2⟩ | ⟨J, s', g1, g2, g3, g4, g5, g6⟩
        · exact .inl ⟨J, P, g1, by rw [h3, hs9, e1]; exact g2⟩
        · exact .inr ⟨J, s', g1, by omega, g3, g4, by rw [h3, hs9, e1, g5], ⟨g6.st, g6.place, g6.beg, g6.time, g6.ahead, g6.free, g6.week⟩⟩
      · rw [if_neg h32]
        exact .inr ⟨I + 11, _, rfl, by omega, h2, h32, h3, ⟨rfl, rfl, rfl, rfl, rfl, rfl, hw2⟩⟩
theorem sim_entry {I : Int} {s : RS} {wk : Nat → Bool} (h0 : 0 ≤ I) (_hl : I ≤ L.length) (hst : s.st = 0) (ht : s.time = 0) (hb : s.beg = -1) (hp : s.place = I) (hd : ∀ j, s.days j = false) (hw : WkR wk s.week) :
    (∃ J P, (entryF L (I, -1) wk).1 = (J, P) ∧ Tld (mach L I s) P) ∨
    (∃ J s', (entryF L (I, -1) wk).1 = (J, -1) ∧ I < J ∧ J ≤ L.length ∧ lookF L (J, -1) ≠ 32 ∧ mach L I s = mach L J s' ∧ Sp s s' J (entryF L (I, -1) wk).2) := by
  unfold entryF
  simp only
  rcases sim_weekday (L := L) h0 hst hp with ⟨J, P, h1, h2⟩ | ⟨c, d, hd7, h1, h2, h3⟩
  · rw [h1, told_days h2.2.2, told_take h2.2.2]
    simp only
    rw [told_spans h2.2.2]
    exact .inl ⟨J, P, rfl, h2⟩
  · rw [h1]
    simp only
    have hdr : DayR [(d : Int)] (fun j => if j = d then true else s.days j) := by
      have := day_snoc (l := []) (days := s.days) (fun j _ => by rw [hd]; rfl) d
      simpa using this
    rcases sim_days (L := L) (L.length + 1) (I + 2) { s with letter := c, days := fun j => if j = d then true else s.days j, st := 2, place := I + 2 } [(d : Int)] (by omega) h2 rfl rfl hdr (by omega) with ⟨J, P, g1, g2⟩ | ⟨J, s', g1, g2, g3, g4, g5, g6, g7, g8⟩
    · rw [g1, told_spans g2.2.2]
      exact .inl ⟨J, P, rfl, by rw [h3]; exact g2⟩
    · rw [g1]
      have b1 := g8.beg
      have b2 := g8.time
      have b3 := g8.week
      have b4 := g8.ahead
      have b5 := g8.free
      simp only at b1 b2 b3 b4 b5
      rcases sim_spans (L := L) (daysF L (L.length + 1) (I + 2, -1) [(d : Int)]).1 (L.length + 1) J s' wk (by omega) g3 g5 (b2.trans ht) (b1.trans hb) g6 g7 (by rw [b3]; exact hw) (by omega) with ⟨K, P, k1, k2⟩ | ⟨K, s2, k1, k2, k3, k4, k5, k6⟩
      · exact .inl ⟨K, P, k1, by rw [h3, g4]; exact k2⟩
      · exact .inr ⟨K, s2, k1, by omega, k3, k4, by rw [h3, g4, k5], ⟨k6.st, k6.place, k6.beg, k6.time, k6.ahead.trans b4, k6.free.trans b5, k6.week⟩⟩
theorem told_entries {I P : Int} (hP : 0 ≤ P) (f : Nat) (wk : Nat → Bool) : entriesF L f ((I, P), wk) = ((I, P), wk) := by
  cases f with
  | zero => rfl
  | succ f => simp only [entriesF, told_look hP]; rw [if_neg (by omega)]
theorem sim_entries : ∀ (f : Nat) (I : Int) (s : RS) (wk : Nat → Bool), 0 ≤ I → I ≤ L.length → Sp s s I wk → lookF L (I, -1) ≠ 32 → (L.length : Int) < I + f →
    (∃ J P, (entriesF L f ((I, -1), wk)).1 = (J, P) ∧ Tld (mach L I s) P) ∨
    (∃ J s', (entriesF L f ((I, -1), wk)).1 = (J, -1) ∧ I ≤ J ∧ J ≤ L.length ∧ lookF L (J, -1) ≠ 32 ∧ lookF L (J, -1) ≠ 59 ∧ mach L I s = mach L J s' ∧ Sp s s' J (entriesF L f ((I, -1), wk)).2) := by
  intro f
  induction f with
  | zero => intro I s wk h0 hl _ _ hf; omega
  | succ f ih =>
    intro I s wk h0 hl hs h32 hf
    simp only [entriesF]
    by_cases h59 : lookF L (I, -1) = 59
    · rw [if_pos h59]
      have e : takeL s (lookF L (I, -1)) = (true, { s with st := 0, days := fun _ => false }) := by rw [take_st9 _ hs.st]; unfold spanEndL; rw [if_pos h59]
      obtain ⟨l1, e1⟩ := mach_yes (L := L) (s := s) h0 (by rw [e])
      rw [e] at e1
      simp only [hs.place] at e1
      rcases sim_entry (L := L) (I := I + 1) (s := { s with st := 0, days := fun _ => false, place := I + 1 }) (wk := wk) (by omega) (by omega) rfl hs.time hs.beg rfl (fun _ => rfl) hs.week with ⟨J, P, h1, h2⟩ | ⟨J, s', h1, h2, h3, h4, h5, h6⟩
      · obtain ⟨x, y, hx⟩ : ∃ x y, entryF L (I + 1, -1) wk = (x, y) := ⟨_, _, rfl⟩
        rw [hx] at h1
        simp only at h1
        rw [hx, h1, told_entries h2.2.2]
        exact .inl ⟨J, P, rfl, by rw [e1]; exact h2⟩
      · obtain ⟨x, y, hx⟩ : ∃ x y, entryF L (I + 1, -1) wk = (x, y) := ⟨_, _, rfl⟩
        rw [hx] at h1 h6
        simp only at h1 h6
        rw [hx, h1]
        rcases ih J s' y (by omega) h3 ⟨h6.st, h6.place, h6.beg, h6.time, rfl, rfl, h6.week⟩ h4 (by omega) with ⟨K, P, k1, k2⟩ | ⟨K, s2, k1, k2, k3, k4, k5, k6, k7⟩
        · exact .inl ⟨K, P, k1, by rw [e1, h5]; exact k2⟩
        · exact .inr ⟨K, s2, k1, by omega, k3, k4, k5, by rw [e1, h5, k6], ⟨k7.st, k7.place, k7.beg, k7.time, k7.ahead.trans h6.ahead, k7.free.trans h6.free, k7.week⟩⟩
    · rw [if_neg h59]
      exact .inr ⟨I, s, rfl, by omega, hl, h32, h59, rfl, hs⟩
end
end Go.Proofs.YtcnmbldikjljeaaGreatDoor
