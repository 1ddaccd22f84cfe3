import Derived.Test.YtcnmbldikjljeaaDoorRdW1
namespace Go.Proofs.YtcnmbldikjljeaaDoor
open Go.RowKit
section
variable {it : Obj} {B b : Nat} {w0 w : World} {s : RS} {vs : Nat → Value}

theorem mark_yes {s : RS} {c mark next : Int} (h : c = mark) : markL s c mark next = (true, { s with st := next }) := by unfold markL; rw [if_pos h]
theorem mark_no {s : RS} {c mark next : Int} (h : ¬ c = mark) : markL s c mark next = (false, s) := by unfold markL; rw [if_neg h]

set_option maxRecDepth 100000 in
set_option maxHeartbeats 1000000 in
theorem dayEnd_any (R : RW it B b w0 w s vs) (c : Int) :
    Calls Tryd.prog 28 #[P0 b, .int .i32 c] w fun e w' => e = .returned (.bool (dayEndL s c).1) ∧ RW it B b w0 w' (dayEndL s c).2 vs := by
  by_cases h : c = 44
  · have hm := hide (mark_yes (s := s) (next := 0) h)
    have hd : dayEndL s c = (true, { s with st := 0 }) := by unfold dayEndL; rw [if_pos h]
    have HD := hide hd
    clear h hd
    go_enter Tryd.func28, Tryd.ntmps28
    go_wp2_with fail
    refine (mark_any R _ _ _).mono ?_
    rw [hm.out]
    rintro e w' ⟨rfl, R2⟩
    go_wp2_with fail
    go_ret
    rw [HD.out]
    exact ⟨rfl, R2⟩
  · have hm := hide (mark_no (s := s) (next := 0) h)
    have hd : dayEndL s c = markL s c 32 3 := by unfold dayEndL; rw [if_neg h]
    have HD := hide hd
    clear h hd
    go_enter Tryd.func28, Tryd.ntmps28
    go_wp2_with fail
    refine (mark_any R _ _ _).mono ?_
    rw [hm.out]
    rintro e w' ⟨rfl, R2⟩
    go_wp2_with fail
    refine (mark_any R2 _ _ _).mono ?_
    rintro e w' ⟨rfl, R3⟩
    go_wp2_with fail
    go_ret
    rw [HD.out]
    exact ⟨rfl, R3⟩

set_option maxRecDepth 100000 in
set_option maxHeartbeats 1000000 in
theorem spanEnd_any (R : RW it B b w0 w s vs) (c : Int) :
    Calls Tryd.prog 32 #[P0 b, .int .i32 c] w fun e w' => e = .returned (.bool (spanEndL s c).1) ∧ RW it B b w0 w' (spanEndL s c).2 vs := by
  by_cases h : c = 59
  · have hm := hide (mark_yes (s := s) (next := 0) h)
    have hd : spanEndL s c = (true, { s with st := 0, days := fun _ => false }) := by unfold spanEndL; rw [if_pos h]
    have HD := hide hd
    clear h hd
    go_enter Tryd.func32, Tryd.ntmps32
    go_wp2_with fail
    refine (mark_any R _ _ _).mono ?_
    rw [hm.out]
    rintro e w' ⟨rfl, R2⟩
    have d0 := R2.cd 0 (by omega)
    have d1 := R2.cd 1 (by omega)
    have d2 := R2.cd 2 (by omega)
    have d3 := R2.cd 3 (by omega)
    have d4 := R2.cd 4 (by omega)
    have d5 := R2.cd 5 (by omega)
    have d6 := R2.cd 6 (by omega)
    simp only [Nat.reduceAdd] at d0 d1 d2 d3 d4 d5 d6
    have f0 := R2.frz 3
    have f1 := R2.frz 4
    have f2 := R2.frz 5
    have f3 := R2.frz 6
    have f4 := R2.frz 7
    have f5 := R2.frz 8
    have f6 := R2.frz 9
    go_wp2_with fail
    go_ret
    rw [HD.out]
    have R3 := ((((((R2.setDay 0 (by omega) false).setDay 1 (by omega) false).setDay 2 (by omega) false).setDay 3 (by omega) false).setDay 4 (by omega) false).setDay 5 (by omega) false).setDay 6 (by omega) false
    exact ⟨rfl, R3.daysC (fun _ => false) (fun j hj => by
      have : j = 0 ∨ j = 1 ∨ j = 2 ∨ j = 3 ∨ j = 4 ∨ j = 5 ∨ j = 6 := by omega
      rcases this with rfl | rfl | rfl | rfl | rfl | rfl | rfl <;> rfl)⟩
  · have hm := hide (mark_no (s := s) (next := 0) h)
    by_cases h2 : c = 32
    · have hm2 := hide (mark_yes (s := s) (next := 3) h2)
      have hd : spanEndL s c = (true, { s with st := 3 }) := by unfold spanEndL; rw [if_neg h, if_pos h2]
      have HD := hide hd
      clear h hd h2
      go_enter Tryd.func32, Tryd.ntmps32
      go_wp2_with fail
      refine (mark_any R _ _ _).mono ?_
      rw [hm.out]
      rintro e w' ⟨rfl, R2⟩
      go_wp2_with fail
      refine (mark_any R2 _ _ _).mono ?_
      rw [hm2.out]
      rintro e w' ⟨rfl, R3⟩
      go_wp2_with fail
      go_ret
      rw [HD.out]
      exact ⟨rfl, R3⟩
    · have hm2 := hide (mark_no (s := s) (next := 3) h2)
      have hd : spanEndL s c = markL s c 33 10 := by unfold spanEndL; rw [if_neg h, if_neg h2]
      have HD := hide hd
      clear h hd h2
      go_enter Tryd.func32, Tryd.ntmps32
      go_wp2_with fail
      refine (mark_any R _ _ _).mono ?_
      rw [hm.out]
      rintro e w' ⟨rfl, R2⟩
      go_wp2_with fail
      refine (mark_any R2 _ _ _).mono ?_
      rw [hm2.out]
      rintro e w' ⟨rfl, R3⟩
      go_wp2_with fail
      refine (mark_any R3 _ _ _).mono ?_
      rintro e w' ⟨rfl, R4⟩
      go_wp2_with fail
      go_ret
      rw [HD.out]
      exact ⟨rfl, R4⟩

set_option maxRecDepth 100000 in
set_option maxHeartbeats 1000000 in
theorem numFirst_any (R : RW it B b w0 w s vs) (c : Int) :
    Calls Tryd.prog 33 #[P0 b, .int .i32 c] w fun e w' => e = .returned (.bool (numFirstL s c).1) ∧ RW it B b w0 w' (numFirstL s c).2 vs := by
  have f0 := R.frz 0
  have g0 := R.c0
  have f12 := R.frz 12
  have g12 := R.c12
  by_cases h : isDig c
  · have hd : numFirstL s c = (true, { s with num := c - 48, st := 11 }) := by unfold numFirstL; rw [if_pos h]
    have HD := hide hd
    have H := hide h
    clear h hd
    go_enter Tryd.func33, Tryd.ntmps33
    go_wp2_with fail
    refine (digit_yes _ _ H.out).mono ?_
    rintro e w' ⟨rfl, rfl⟩
    go_wp2_with fail
    go_ret
    rw [HD.out]
    exact ⟨rfl, (R.setNum _).setSt _⟩
  · have hd : numFirstL s c = (false, s) := by unfold numFirstL; rw [if_neg h]
    have HD := hide hd
    have H := hide h
    clear h hd
    go_enter Tryd.func33, Tryd.ntmps33
    go_wp2_with fail
    refine (digit_no _ _ H.out).mono ?_
    rintro e w' ⟨rfl, rfl⟩
    go_wp2_with fail
    go_ret
    rw [HD.out]
    exact ⟨rfl, R⟩

set_option maxRecDepth 100000 in
set_option maxHeartbeats 1000000 in
theorem timeDigit_any (R : RW it B b w0 w s vs) (c most minutes next : Int) (t0 : 0 ≤ s.time) (t1 : s.time ≤ 1440) (m0 : 0 ≤ minutes) (m1 : minutes ≤ 600) :
    Calls Tryd.prog 29 #[P0 b, .int .i32 c, .int .i64 most, .int .i64 minutes, .int .i64 next] w fun e w' => e = .returned (.bool (timeDigitL s c most minutes next).1) ∧ RW it B b w0 w' (timeDigitL s c most minutes next).2 vs := by
  have f0 := R.frz 0
  have g0 := R.c0
  have f11 := R.frz 11
  have g11 := R.c11
  by_cases h : isDig c
  · have H := hide h
    have b1 : 0 ≤ (c - 48) * minutes := Int.mul_nonneg (by omega) m0
    have b2 : (c - 48) * minutes ≤ 9 * 600 := Int.mul_le_mul (by omega) (by omega) m0 (by omega)
    by_cases hm : most < c - 48
    · have hd : timeDigitL s c most minutes next = (false, s) := by unfold timeDigitL; rw [if_neg (by omega)]
      have HD := hide hd
      obtain ⟨hc0, hc1⟩ := h
      clear hd
      go_enter Tryd.func29, Tryd.ntmps29
      go_wp2_with fail
      refine (digit_yes _ _ H.out).mono ?_
      rintro e w' ⟨rfl, rfl⟩
      go_wp2_with fail
      go_ret
      rw [HD.out]
      exact ⟨rfl, R⟩
    · by_cases ht : 1440 < s.time + (c - 48) * minutes
      · have hd : timeDigitL s c most minutes next = (false, s) := by unfold timeDigitL; rw [if_neg (by omega)]
        have HD := hide hd
        obtain ⟨hc0, hc1⟩ := h
        clear hd
        go_enter Tryd.func29, Tryd.ntmps29
        go_wp2_with fail
        refine (digit_yes _ _ H.out).mono ?_
        rintro e w' ⟨rfl, rfl⟩
        go_wp2_with fail
        go_ret
        rw [HD.out]
        exact ⟨rfl, R⟩
      · have hd : timeDigitL s c most minutes next = (true, { s with time := s.time + (c - 48) * minutes, st := next }) := by unfold timeDigitL; rw [if_pos ⟨h, by omega, by omega⟩]
        have HD := hide hd
        obtain ⟨hc0, hc1⟩ := h
        clear hd
        go_enter Tryd.func29, Tryd.ntmps29
        go_wp2_with fail
        refine (digit_yes _ _ H.out).mono ?_
        rintro e w' ⟨rfl, rfl⟩
        go_wp2_with fail
        go_ret
        rw [HD.out]
        exact ⟨rfl, (R.setTime _).setSt _⟩
  · have hd : timeDigitL s c most minutes next = (false, s) := by unfold timeDigitL; rw [if_neg (by omega)]
    have HD := hide hd
    have H := hide h
    clear h hd
    go_enter Tryd.func29, Tryd.ntmps29
    go_wp2_with fail
    refine (digit_no _ _ H.out).mono ?_
    rintro e w' ⟨rfl, rfl⟩
    go_wp2_with fail
    go_ret
    rw [HD.out]
    exact ⟨rfl, R⟩
end
end Go.Proofs.YtcnmbldikjljeaaDoor
