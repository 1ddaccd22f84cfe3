import Derived.Test.YtcnmbldikjljeaaDoorRdW2
import Derived.Test.YtcnmbldikjljeaaDoorRdW4
import Derived.Test.YtcnmbldikjljeaaDoorRdW5
namespace Go.Proofs.YtcnmbldikjljeaaDoor
open Go.RowKit
section
variable {it : Obj} {B b : Nat} {w0 w : World} {s : RS} {vs : Nat → Value}

set_option maxRecDepth 100000 in
set_option maxHeartbeats 1000000 in
theorem endTime_any (R : RW it B b w0 w s vs) (hl : ∀ j, (s.week j).length ≤ 1000) :
    Calls Tryd.prog 31 #[P0 b] w fun e w' => e = .returned (.bool (endTimeL s).1) ∧ ∃ vs', RW it B b w0 w' (endTimeL s).2 vs' := by
  have f0 := R.frz 0
  have g0 := R.c0
  have f10 := R.frz 10
  have g10 := R.c10
  have f11 := R.frz 11
  have g11 := R.c11
  by_cases h : s.beg = -1
  · have hd : endTimeL s = (true, { s with time := 0, beg := s.time, st := 8 }) := by unfold endTimeL; rw [if_pos h]
    have HD := hide hd
    have e1 : (s.beg == -1) = true := by simp [h]
    clear hd h
    go_enter Tryd.func31, Tryd.ntmps31
    go_wp2
    go_ret
    rw [HD.out]
    exact ⟨rfl, vs, ((R.setTime _).setBeg _).setSt _⟩
  · have e1 : (s.beg == -1) = false := by simp [h]
    by_cases h2 : s.time ≤ s.beg
    · have hd : endTimeL s = (false, { s with time := 0 }) := by unfold endTimeL; rw [if_neg h, if_pos h2]
      have HD := hide hd
      clear hd h
      go_enter Tryd.func31, Tryd.ntmps31
      go_wp2
      go_ret
      rw [HD.out]
      exact ⟨rfl, vs, R.setTime _⟩
    · have hd : endTimeL s = (true, { s with time := 0, week := addW s (s.beg, s.time), beg := -1 }) := by unfold endTimeL; rw [if_neg h, if_neg h2]
      have HD := hide hd
      clear hd h
      go_enter Tryd.func31, Tryd.ntmps31
      go_wp2_with fail
      refine (addSpan_any (R.setTime 0) _ _ hl).mono ?_
      rintro e w' ⟨rfl, vs', R2⟩
      have f10 := R2.frz 10
      have g10 := R2.c10
      go_wp2
      go_ret
      rw [HD.out]
      exact ⟨rfl, vs', R2.setBeg _⟩

set_option maxRecDepth 100000 in
set_option maxHeartbeats 4000000 in
theorem take_any {n : Nat} (R : RW it B b w0 w s vs) (hI : Inv n s) (hn : n ≤ 1000) (c : Int) (p0 : 0 ≤ s.place) (p1 : s.place ≤ 1000) :
    Calls Tryd.prog 21 #[P0 b, .int .i32 c] w fun e w' => e = .returned (.bool (takeL s c).1) ∧ ∃ vs', RW it B b w0 w' (takeL s c).2 vs' := by
  have g0 := R.c0
  have hs : s.st = 0 ∨ s.st = 1 ∨ s.st = 2 ∨ s.st = 3 ∨ s.st = 4 ∨ s.st = 5 ∨ s.st = 6 ∨ s.st = 7 ∨ s.st = 8 ∨ s.st = 9 ∨ s.st = 10 ∨ s.st = 11 ∨ s.st = 12 := by
    have := hI.st0; have := hI.st1; omega
  rcases hs with e | e | e | e | e | e | e | e | e | e | e | e | e
  · have HT := hide (take_st0 c e)
    rw [e] at g0
    clear e
    go_enter Tryd.func21, Tryd.ntmps21
    go_wp2_with fail
    refine (dayFirst_any R _).mono ?_
    rintro e w' ⟨rfl, R2⟩
    go_wp2_with fail
    go_ret
    rw [HT.out]
    exact ⟨rfl, vs, R2⟩
  · have HT := hide (take_st1 c e)
    rw [e] at g0
    clear e
    go_enter Tryd.func21, Tryd.ntmps21
    go_wp2_with fail
    refine (daySecond_any R _).mono ?_
    rintro e w' ⟨rfl, R2⟩
    go_wp2_with fail
    go_ret
    rw [HT.out]
    exact ⟨rfl, vs, R2⟩
  · have HT := hide (take_st2 c e)
    rw [e] at g0
    clear e
    go_enter Tryd.func21, Tryd.ntmps21
    go_wp2_with fail
    refine (dayEnd_any R _).mono ?_
    rintro e w' ⟨rfl, R2⟩
    go_wp2_with fail
    go_ret
    rw [HT.out]
    exact ⟨rfl, vs, R2⟩
  · have HT := hide (take_st3 c e)
    rw [e] at g0
    clear e
    go_enter Tryd.func21, Tryd.ntmps21
    go_wp2_with fail
    refine (timeDigit_any R _ _ _ _ hI.t0 hI.t1 (by omega) (by omega)).mono ?_
    rintro e w' ⟨rfl, R2⟩
    go_wp2_with fail
    go_ret
    rw [HT.out]
    exact ⟨rfl, vs, R2⟩
  · have HT := hide (take_st4 c e)
    rw [e] at g0
    clear e
    go_enter Tryd.func21, Tryd.ntmps21
    go_wp2_with fail
    refine (timeDigit_any R _ _ _ _ hI.t0 hI.t1 (by omega) (by omega)).mono ?_
    rintro e w' ⟨rfl, R2⟩
    go_wp2_with fail
    go_ret
    rw [HT.out]
    exact ⟨rfl, vs, R2⟩
  · have HT := hide (take_st5 c e)
    rw [e] at g0
    clear e
    go_enter Tryd.func21, Tryd.ntmps21
    go_wp2_with fail
    refine (mark_any R _ _ _).mono ?_
    rintro e w' ⟨rfl, R2⟩
    go_wp2_with fail
    go_ret
    rw [HT.out]
    exact ⟨rfl, vs, R2⟩
  · have HT := hide (take_st6 c e)
    rw [e] at g0
    clear e
    go_enter Tryd.func21, Tryd.ntmps21
    go_wp2_with fail
    refine (timeDigit_any R _ _ _ _ hI.t0 hI.t1 (by omega) (by omega)).mono ?_
    rintro e w' ⟨rfl, R2⟩
    go_wp2_with fail
    go_ret
    rw [HT.out]
    exact ⟨rfl, vs, R2⟩
  · have HT := hide (take_st7 c e)
    rw [e] at g0
    clear e
    cases hr : (timeDigitL s c 9 1 9).1
    · have hd : minOnesL s c = timeDigitL s c 9 1 9 := by unfold minOnesL; rw [hr]; rfl
      have HD := hide hd
      have HR := hide hr
      clear hd hr
      go_enter Tryd.func21, Tryd.ntmps21
      go_wp2_with fail
      refine (timeDigit_any R _ _ _ _ hI.t0 hI.t1 (by omega) (by omega)).mono ?_
      rw [HR.out]
      rintro e w' ⟨rfl, R2⟩
      go_wp2_with fail
      go_ret
      rw [HT.out, HD.out, HR.out]
      exact ⟨rfl, vs, R2⟩
    · have hd : minOnesL s c = endTimeL (timeDigitL s c 9 1 9).2 := by unfold minOnesL; rw [hr]; rfl
      have hw : (timeDigitL s c 9 1 9).2.week = s.week := by unfold timeDigitL; split <;> rfl
      have HD := hide hd
      have HR := hide hr
      have HW := hide hw
      clear hd hr hw
      go_enter Tryd.func21, Tryd.ntmps21
      go_wp2_with fail
      refine (timeDigit_any R _ _ _ _ hI.t0 hI.t1 (by omega) (by omega)).mono ?_
      rw [HR.out]
      rintro e w' ⟨rfl, R2⟩
      go_wp2_with fail
      refine (endTime_any R2 (fun j => by rw [HW.out]; exact Nat.le_trans (hI.wk j) hn)).mono ?_
      rintro e w' ⟨rfl, R3⟩
      go_wp2_with fail
      go_ret
      rw [HT.out, HD.out]
      exact ⟨rfl, R3⟩
  · have HT := hide (take_st8 c e)
    rw [e] at g0
    clear e
    go_enter Tryd.func21, Tryd.ntmps21
    go_wp2_with fail
    refine (mark_any R _ _ _).mono ?_
    rintro e w' ⟨rfl, R2⟩
    go_wp2_with fail
    go_ret
    rw [HT.out]
    exact ⟨rfl, vs, R2⟩
  · have HT := hide (take_st9 c e)
    rw [e] at g0
    clear e
    go_enter Tryd.func21, Tryd.ntmps21
    go_wp2_with fail
    refine (spanEnd_any R _).mono ?_
    rintro e w' ⟨rfl, R2⟩
    go_wp2_with fail
    go_ret
    rw [HT.out]
    exact ⟨rfl, vs, R2⟩
  · have HT := hide (take_st10 c e)
    rw [e] at g0
    clear e
    go_enter Tryd.func21, Tryd.ntmps21
    go_wp2_with fail
    refine (numFirst_any R _).mono ?_
    rintro e w' ⟨rfl, R2⟩
    go_wp2_with fail
    go_ret
    rw [HT.out]
    exact ⟨rfl, vs, R2⟩
  · have HT := hide (take_st11 c e)
    have h9 := hI.n2 e
    rw [e] at g0
    clear e
    go_enter Tryd.func21, Tryd.ntmps21
    go_wp2_with fail
    refine (numSecond_any R _ hI.n0 h9 p0 p1).mono ?_
    rintro e w' ⟨rfl, R2⟩
    go_wp2_with fail
    go_ret
    rw [HT.out]
    exact ⟨rfl, vs, R2⟩
  · have HT := hide (take_st12 c e)
    rw [e] at g0
    clear e
    go_enter Tryd.func21, Tryd.ntmps21
    go_wp2_with fail
    refine (mark_any R _ _ _).mono ?_
    rintro e w' ⟨rfl, R2⟩
    go_wp2_with fail
    go_ret
    rw [HT.out]
    exact ⟨rfl, vs, R2⟩

set_option maxRecDepth 100000 in
set_option maxHeartbeats 1000000 in
theorem finish_any {n : Nat} (R : RW it B b w0 w s vs) (hI : Inv n s) (p0 : 0 ≤ s.place) (p1 : s.place ≤ 1000) :
    Calls Tryd.prog 22 #[P0 b] w fun e w' => e = .returned (.bool (finishL s).1) ∧ RW it B b w0 w' (finishL s).2 vs := by
  have g0 := R.c0
  by_cases h : s.st = 11
  · have hd : finishL s = endShortL s := by unfold finishL; rw [if_pos h]
    have HD := hide hd
    have e1 : (s.st == 11) = true := by simp [h]
    clear hd h
    go_enter Tryd.func22, Tryd.ntmps22
    go_wp2_with fail
    refine (endShort_any R hI.n0 hI.n1 p0 p1).mono ?_
    rintro e w' ⟨rfl, R2⟩
    go_wp2_with fail
    go_ret
    rw [HD.out]
    exact ⟨rfl, R2⟩
  · have hd : finishL s = (s.st == 9 || s.st == 12, s) := by unfold finishL; rw [if_neg h]
    have HD := hide hd
    have e1 : (s.st == 11) = false := by simp [h]
    clear hd h
    cases e2 : (s.st == 9)
    all_goals
      have HE := hide e2
      go_enter Tryd.func22, Tryd.ntmps22
      go_wp2
      go_ret
      rw [HD.out, HE.out]
      exact ⟨rfl, R⟩

end
end Go.Proofs.YtcnmbldikjljeaaDoor
