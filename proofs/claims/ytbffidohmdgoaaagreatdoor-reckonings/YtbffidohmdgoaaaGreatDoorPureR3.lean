import Derived.Test.YtbffidohmdgoaaaGreatDoorPureR2
namespace Go.Proofs.YtbffidohmdgoaaaGreatDoor
open Go.RowKit

/-- the program's reader, from a place on -/
def mach (L : List Int) (I : Int) (s : RS) : Bool × RS := loopL (L.drop I.toNat) s
/-- told at a place -/
def Tld (M : Bool × RS) (P : Int) : Prop := M.1 = false ∧ M.2.place = P ∧ 0 ≤ P

section
variable {L : List Int} {I P lo hi : Int} {s : RS}
theorem look_end (h : (L.length : Int) ≤ I) : lookF L (I, -1) = 0 := by unfold lookF; rw [if_pos (.inr h)]
theorem look_drop (h0 : 0 ≤ I) (h : I < L.length) : L.drop I.toNat = lookF L (I, -1) :: L.drop (I + 1).toNat := by
  have hn : I.toNat < L.length := by omega
  rw [show (I + 1).toNat = I.toNat + 1 by omega]
  unfold lookF
  rw [if_neg (by simp; omega), List.drop_eq_getElem_cons hn]
  simp [List.getD, hn]
theorem mach_out (h : (L.length : Int) ≤ I) : mach L I s = finishL s := by
  unfold mach; rw [List.drop_eq_nil_of_le (by omega)]; rfl
theorem mach_yes (h0 : 0 ≤ I) (hy : (takeL s (lookF L (I, -1))).1 = true) : I < L.length ∧ mach L I s = mach L (I + 1) { (takeL s (lookF L (I, -1))).2 with place := (takeL s (lookF L (I, -1))).2.place + 1 } := by
  by_cases h : I < L.length
  · refine ⟨h, ?_⟩
    unfold mach
    rw [look_drop h0 h]
    simp only [loopL, hy, if_true]
  · rw [look_end (by omega), take_zero] at hy; cases hy
theorem mach_no (h0 : 0 ≤ I) (h : I < L.length) (hn : (takeL s (lookF L (I, -1))).1 = false) : mach L I s = takeL s (lookF L (I, -1)) := by
  unfold mach
  rw [look_drop h0 h]
  simp only [loopL, hn]
  rfl
theorem mach_told (h0 : 0 ≤ I) (hp : s.place = I) (hst : s.st ≠ 9 ∧ s.st ≠ 11 ∧ s.st ≠ 12) (hn : (takeL s (lookF L (I, -1))).1 = false) (hpl : (takeL s (lookF L (I, -1))).2.place = s.place) : Tld (mach L I s) I := by
  by_cases h : I < L.length
  · rw [mach_no h0 h hn]; exact ⟨hn, hpl.trans hp, h0⟩
  · rw [mach_out (by omega)]
    unfold finishL
    rw [if_neg hst.2.1]
    exact ⟨by simp [hst.1, hst.2.2], hp, h0⟩
theorem dstep (h0 : 0 ≤ I) (most minutes next : Int) (hk : ∀ c, takeL s c = timeDigitL s c most minutes next) (hp : s.place = I) (hst : s.st ≠ 9 ∧ s.st ≠ 11 ∧ s.st ≠ 12) :
    ((48 ≤ lookF L (I, -1) ∧ lookF L (I, -1) ≤ 57 ∧ lookF L (I, -1) - 48 ≤ most ∧ s.time + (lookF L (I, -1) - 48) * minutes ≤ 1440) ∧ I < L.length ∧ mach L I s = mach L (I + 1) { s with time := s.time + (lookF L (I, -1) - 48) * minutes, st := next, place := I + 1 }) ∨
    (¬ (48 ≤ lookF L (I, -1) ∧ lookF L (I, -1) ≤ 57 ∧ lookF L (I, -1) - 48 ≤ most ∧ s.time + (lookF L (I, -1) - 48) * minutes ≤ 1440) ∧ Tld (mach L I s) I) := by
  by_cases h : 48 ≤ lookF L (I, -1) ∧ lookF L (I, -1) ≤ 57 ∧ lookF L (I, -1) - 48 ≤ most ∧ s.time + (lookF L (I, -1) - 48) * minutes ≤ 1440
  · have e : takeL s (lookF L (I, -1)) = (true, { s with time := s.time + (lookF L (I, -1) - 48) * minutes, st := next }) := by
      rw [hk]; unfold timeDigitL; rw [if_pos ⟨⟨h.1, h.2.1⟩, h.2.2⟩]
    have := mach_yes (L := L) (s := s) h0 (by rw [e])
    rw [e] at this
    refine .inl ⟨h, this.1, ?_⟩
    rw [this.2]; simp [hp]
  · have e : takeL s (lookF L (I, -1)) = (false, s) := by
      rw [hk]; unfold timeDigitL; rw [if_neg (fun g => h ⟨g.1.1, g.1.2, g.2⟩)]
    exact .inr ⟨h, mach_told h0 hp hst (by rw [e]) (by rw [e])⟩
theorem mstep (h0 : 0 ≤ I) (mark next : Int) (hk : ∀ c, takeL s c = markL s c mark next) (hp : s.place = I) (hst : s.st ≠ 9 ∧ s.st ≠ 11 ∧ s.st ≠ 12) :
    (lookF L (I, -1) = mark ∧ I < L.length ∧ mach L I s = mach L (I + 1) { s with st := next, place := I + 1 }) ∨ (¬ lookF L (I, -1) = mark ∧ Tld (mach L I s) I) := by
  by_cases h : lookF L (I, -1) = mark
  · have e : takeL s (lookF L (I, -1)) = (true, { s with st := next }) := by rw [hk]; unfold markL; rw [if_pos h]
    have := mach_yes (L := L) (s := s) h0 (by rw [e])
    rw [e] at this
    refine .inl ⟨h, this.1, ?_⟩
    rw [this.2]; simp [hp]
  · have e : takeL s (lookF L (I, -1)) = (false, s) := by rw [hk]; unfold markL; rw [if_neg h]
    exact .inr ⟨h, mach_told h0 hp hst (by rw [e]) (by rw [e])⟩

/-! ### The document's reader -/
theorem tk_yes (a : lo ≤ lookF L (I, -1)) (b : lookF L (I, -1) ≤ hi) (c : lookF L (I, -1) ≠ 0) : takeF L (I, -1) lo hi = (lookF L (I, -1), (I + 1, -1)) := by
  unfold takeF; rw [if_neg (by omega)]
theorem tk_no (h : ¬ (lo ≤ lookF L (I, -1) ∧ lookF L (I, -1) ≤ hi ∧ lookF L (I, -1) ≠ 0)) : takeF L (I, -1) lo hi = (lo, (I, I)) := by
  unfold takeF; rw [if_pos (by omega)]; rfl
theorem told_look (hP : 0 ≤ P) : lookF L (I, P) = 0 := by unfold lookF; rw [if_pos (.inl hP)]
theorem told_bad (hP : 0 ≤ P) (x : Int) : badF (I, P) x = (I, P) := by unfold badF; rw [if_neg (by simp; omega)]
theorem told_take (hP : 0 ≤ P) : takeF L (I, P) lo hi = (lo, (I, P)) := by
  unfold takeF; rw [told_look hP, if_pos (.inr (.inr rfl)), told_bad hP]
theorem told_time (hP : 0 ≤ P) : (timeF L (I, P)).2 = (I, P) := by simp only [timeF, told_take hP]
theorem told_weekday (hP : 0 ≤ P) : (weekdayF L (I, P)).2 = (I, P) := by
  unfold weekdayF; rw [told_look hP, first_high (.inl rfl)]; simp only [Bool.false_eq_true, if_false]; exact told_bad hP _
theorem told_days (hP : 0 ≤ P) (f : Nat) (l : List Int) : daysF L f (I, P) l = (l, (I, P)) := by
  cases f with
  | zero => rfl
  | succ f => simp only [daysF, told_look hP]; rw [if_neg (by omega)]
theorem told_span (hP : 0 ≤ P) : (spanF L (I, P)).2.2 = (I, P) := by
  unfold spanF
  have e := told_time (L := L) (I := I) hP
  simp only [e, told_take hP, told_bad hP]
  split <;> rfl
theorem told_spans (hP : 0 ≤ P) (l : List Int) (f : Nat) (wk : Nat → Bool) : spansF L l f (I, P) wk = ((I, P), wk) := by
  cases f with
  | zero => rfl
  | succ f => simp only [spansF]; rw [if_neg (by simp; omega)]
theorem told_entry (hP : 0 ≤ P) (wk : Nat → Bool) : (entryF L (I, P) wk).1 = (I, P) := by
  unfold entryF
  simp only [told_weekday hP, told_days hP, told_take hP, told_spans hP]

/-- a time -/
theorem sim_time (h0 : 0 ≤ I) (hst : s.st = 3) (ht : s.time = 0) (hp : s.place = I) :
    (∃ J P, (timeF L (I, -1)).2 = (J, P) ∧ Tld (mach L I s) P) ∨
    (∃ T, 0 ≤ T ∧ timeF L (I, -1) = (T, (I + 5, -1)) ∧ I + 5 ≤ L.length ∧
      mach L I s = if (endTimeL { s with time := T, st := 9, place := I + 4 }).1 then mach L (I + 5) { (endTimeL { s with time := T, st := 9, place := I + 4 }).2 with place := I + 5 } else endTimeL { s with time := T, st := 9, place := I + 4 }) := by
  unfold timeF
  rcases dstep (L := L) h0 9 600 4 (fun c => take_st3 c hst) hp (by omega) with ⟨⟨a1, a2, a3, a4⟩, l1, e1⟩ | ⟨n1, t1⟩
  · rw [ht] at a4 e1
    rw [tk_yes (by omega) (by omega) (by omega)]
    simp only
    rcases dstep (L := L) (I := I + 1) (s := { s with time := 0 + (lookF L (I, -1) - 48) * 600, st := 4, place := I + 1 }) (by omega) 9 60 5 (fun c => take_st4 c rfl) rfl (by simp) with ⟨⟨b1, b2, b3, b4⟩, l2, e2⟩ | ⟨n2, t2⟩
    · simp only at b4 e2
      rw [tk_yes (by omega) (by split <;> omega) (by omega)]
      simp only
      rw [show I + 1 + 1 = I + 2 by omega] at e2 ⊢
      rcases mstep (L := L) (I := I + 2) (s := { s with time := 0 + (lookF L (I, -1) - 48) * 600 + (lookF L (I + 1, -1) - 48) * 60, st := 5, place := I + 2 }) (by omega) 58 6 (fun c => take_st5 c rfl) rfl (by simp) with ⟨c1, l3, e3⟩ | ⟨n3, t3⟩
      · simp only at e3
        rw [tk_yes (by omega) (by omega) (by omega)]
        simp only
        rw [show I + 2 + 1 = I + 3 by omega] at e3 ⊢
        rcases dstep (L := L) (I := I + 3) (s := { s with time := 0 + (lookF L (I, -1) - 48) * 600 + (lookF L (I + 1, -1) - 48) * 60, st := 6, place := I + 3 }) (by omega) 5 10 7 (fun c => take_st6 c rfl) rfl (by simp) with ⟨⟨d1, d2, d3, d4⟩, l4, e4⟩ | ⟨n4, t4⟩
        · simp only at d4 e4
          rw [tk_yes (by omega) (by split <;> omega) (by omega)]
          simp only
          rw [show I + 3 + 1 = I + 4 by omega] at e4 ⊢
          generalize hT : 0 + (lookF L (I, -1) - 48) * 600 + (lookF L (I + 1, -1) - 48) * 60 + (lookF L (I + 3, -1) - 48) * 10 = T3 at *
          obtain ⟨s7, hs7⟩ : ∃ s7, s7 = { s with time := T3, st := 7, place := I + 4 } := ⟨_, rfl⟩
          rw [← hs7] at e4
          have h7 : ∀ c, takeL s7 c = minOnesL s7 c := fun c => take_st7 c (by rw [hs7])
          by_cases hd : 48 ≤ lookF L (I + 4, -1) ∧ lookF L (I + 4, -1) ≤ 57 ∧ T3 + (lookF L (I + 4, -1) - 48) ≤ 1440
          · rw [tk_yes (by omega) (by split <;> omega) (by omega)]
            simp only
            rw [show I + 4 + 1 = I + 5 by omega]
            have e9 : timeDigitL s7 (lookF L (I + 4, -1)) 9 1 9 = (true, { s7 with time := T3 + (lookF L (I + 4, -1) - 48) * 1, st := 9 }) := by
              unfold timeDigitL; rw [if_pos (by rw [hs7]; exact ⟨⟨hd.1, hd.2.1⟩, by omega, by simp only; omega⟩)]; rw [hs7]
            have e10 : takeL s7 (lookF L (I + 4, -1)) = endTimeL { s with time := T3 + (lookF L (I + 4, -1) - 48), st := 9, place := I + 4 } := by
              rw [h7]; unfold minOnesL; rw [e9, if_pos rfl, hs7, Int.mul_one]
            have hT9 : 60 * (10 * (lookF L (I, -1) - 48) + (lookF L (I + 1, -1) - 48)) + 10 * (lookF L (I + 3, -1) - 48) + (lookF L (I + 4, -1) - 48) = T3 + (lookF L (I + 4, -1) - 48) := by omega
            rw [hT9]
            have hlt : I + 4 < L.length := by
              by_cases hl : I + 4 < L.length
              · exact hl
              · rw [look_end (by omega)] at hd; omega
            refine .inr ⟨_, by omega, rfl, by omega, ?_⟩
            rw [e1, e2, e3, e4]
            cases hb : (endTimeL { s with time := T3 + (lookF L (I + 4, -1) - 48), st := 9, place := I + 4 }).1
            · rw [mach_no (by omega) hlt (by rw [e10]; exact hb), e10]; rfl
            · have := (mach_yes (L := L) (s := s7) (I := I + 4) (by omega) (by rw [e10]; exact hb)).2
              rw [this, e10, place_endTime]
              simp only [if_true]
              rw [show I + 4 + 1 = I + 5 by omega]
          · rw [tk_no (fun g => hd ⟨by omega, by have := g.2.1; split at this <;> omega, by have := g.2.1; split at this <;> omega⟩)]
            simp only
            have e9 : timeDigitL s7 (lookF L (I + 4, -1)) 9 1 9 = (false, s7) := by
              unfold timeDigitL; rw [if_neg (fun g => hd (by rw [hs7] at g; simp only at g; have := g.1.1; have := g.1.2; have := g.2.2; omega))]
            have e10 : takeL s7 (lookF L (I + 4, -1)) = (false, s7) := by rw [h7]; unfold minOnesL; rw [e9]; rfl
            refine .inl ⟨_, _, rfl, ?_⟩
            rw [e1, e2, e3, e4]
            exact mach_told (by omega) (by rw [hs7]) (by rw [hs7]; simp) (by rw [e10]) (by rw [e10])
        · simp only at n4
          rw [tk_no (fun g => n4 ⟨by omega, by have := g.2.1; split at this <;> omega, by have := g.2.1; split at this <;> omega, by have := g.2.1; split at this <;> omega⟩)]
          simp only [told_take (show 0 ≤ I + 3 by omega)]
          exact .inl ⟨_, _, rfl, by rw [e1, e2, e3]; exact t4⟩
      · rw [tk_no (fun g => n3 (by omega))]
        simp only [told_take (show 0 ≤ I + 2 by omega)]
        exact .inl ⟨_, _, rfl, by rw [e1, e2]; exact t3⟩
    · simp only at n2
      rw [tk_no (fun g => n2 ⟨by omega, by have := g.2.1; split at this <;> omega, by have := g.2.1; split at this <;> omega, by have := g.2.1; split at this <;> omega⟩)]
      simp only [told_take (show 0 ≤ I + 1 by omega)]
      exact .inl ⟨_, _, rfl, by rw [e1]; exact t2⟩
  · rw [ht] at n1
    rw [tk_no (fun g => n1 (by omega))]
    simp only [told_take h0]
    exact .inl ⟨_, _, rfl, t1⟩
end
end Go.Proofs.YtbffidohmdgoaaaGreatDoor
