import Derived.Test.YtcnmbldikjljeaaDoorRdW3
namespace Go.Proofs.YtcnmbldikjljeaaDoor
open Go.RowKit
section
variable {it : Obj} {B b : Nat} {w0 w : World} {s : RS} {vs : Nat → Value}

set_option maxRecDepth 100000 in
set_option maxHeartbeats 1000000 in
theorem endNum_any (R : RW it B b w0 w s vs) (n0 : 0 ≤ s.num) (n1 : s.num ≤ 99) :
    Calls Tryd.prog 42 #[P0 b] w fun e w' => e = .returned (.bool (endNumL s).1) ∧ RW it B b w0 w' (endNumL s).2 vs := by
  have g12 := R.c12
  have g13 := R.c13
  by_cases h : 70 ≤ s.num
  · have hd : endNumL s = (false, s) := by unfold endNumL; rw [if_pos (by omega)]
    have HD := hide hd
    clear hd
    go_enter Tryd.func42, Tryd.ntmps42
    go_wp2
    go_quiet (fail)
    go_wp2
    go_ret
    rw [HD.out]
    exact ⟨rfl, R.drewN _⟩
  · have hf : decide (70 ≤ s.num) = false := by simp; omega
    by_cases h2 : s.num ≤ s.ahead
    · have hd : endNumL s = (false, s) := by unfold endNumL; rw [if_pos (by omega)]
      have HD := hide hd
      clear hd
      go_enter Tryd.func42, Tryd.ntmps42
      go_wp2
      go_quiet (fail)
      go_wp2
      go_ret
      rw [HD.out]
      exact ⟨rfl, R.drewN _⟩
    · have hf2 : decide (s.num ≤ s.ahead) = false := by simp; omega
      have hd : endNumL s = (true, { s with free := fun j => if j = s.num.toNat then true else s.free j, ahead := s.num, st := 12 }) := by unfold endNumL; rw [if_neg (by omega)]
      have HD := hide hd
      clear hd
      have f0 := R.frz 0
      have g0 := R.c0
      have f13 := R.frz 13
      have fk := R.frz (21 + s.num.toNat)
      have gk := R.cf s.num.toNat (by omega)
      have h70 : s.num < 70 := by omega
      go_enter Tryd.func42, Tryd.ntmps42
      go_wp2
      go_quiet (fail)
      go_wp2
      go_region
      go_wp2
      go_ret
      rw [HD.out]
      exact ⟨rfl, (((R.drewN _).setFree _ (by omega) true).setAhead _).setSt _⟩

set_option maxRecDepth 100000 in
set_option maxHeartbeats 1000000 in
theorem endShort_any (R : RW it B b w0 w s vs) (n0 : 0 ≤ s.num) (n1 : s.num ≤ 99) (p0 : 0 ≤ s.place) (p1 : s.place ≤ 1000) :
    Calls Tryd.prog 35 #[P0 b] w fun e w' => e = .returned (.bool (endShortL s).1) ∧ RW it B b w0 w' (endShortL s).2 vs := by
  cases hr : (endNumL s).1
  · have hd : endShortL s = (false, { s with place := s.place - 1 }) := by unfold endShortL; rw [hr]; rfl
    have he : (endNumL s).2 = s := by unfold endNumL at hr ⊢; split at hr <;> simp_all
    have HD := hide hd
    have HE := hide he
    have HR := hide hr
    clear hd he hr
    go_enter Tryd.func35, Tryd.ntmps35
    go_wp2_with fail
    refine (endNum_any R n0 n1).mono ?_
    rw [HR.out, HE.out]
    rintro e w' ⟨rfl, R2⟩
    have g1 := R2.c1
    have f1 := R2.frz 1
    go_wp2_with fail
    go_ret
    rw [HD.out]
    exact ⟨rfl, R2.setPlace _⟩
  · have hd : endShortL s = endNumL s := by unfold endShortL; rw [hr]; rfl
    have HD := hide hd
    have HR := hide hr
    clear hd hr
    go_enter Tryd.func35, Tryd.ntmps35
    go_wp2_with fail
    refine (endNum_any R n0 n1).mono ?_
    rw [HR.out]
    rintro e w' ⟨rfl, R2⟩
    go_wp2_with fail
    go_ret
    rw [HD.out, HR.out]
    exact ⟨rfl, R2⟩

set_option maxRecDepth 100000 in
set_option maxHeartbeats 1000000 in
theorem numSecond_any (R : RW it B b w0 w s vs) (c : Int) (n0 : 0 ≤ s.num) (n1 : s.num ≤ 9) (p0 : 0 ≤ s.place) (p1 : s.place ≤ 1000) :
    Calls Tryd.prog 34 #[P0 b, .int .i32 c] w fun e w' => e = .returned (.bool (numSecondL s c).1) ∧ RW it B b w0 w' (numSecondL s c).2 vs := by
  have f12 := R.frz 12
  have g12 := R.c12
  by_cases h : isDig c
  · have H := hide h
    obtain ⟨hc0, hc1⟩ := h
    by_cases hz : s.num = 0
    · have hd : numSecondL s c = (false, s) := by unfold numSecondL; rw [if_pos H.out, if_pos hz]
      have HD := hide hd
      have hz2 : (s.num == 0) = true := by simp [hz]
      clear hd hz
      go_enter Tryd.func34, Tryd.ntmps34
      go_wp2_with fail
      refine (digit_yes _ _ H.out).mono ?_
      rintro e w' ⟨rfl, rfl⟩
      go_wp2_with fail
      go_ret
      rw [HD.out]
      exact ⟨rfl, R⟩
    · have hd : numSecondL s c = endNumL { s with num := s.num * 10 + (c - 48) } := by unfold numSecondL; rw [if_pos H.out, if_neg hz]
      have HD := hide hd
      have hz2 : (s.num == 0) = false := by simp [hz]
      clear hd hz
      go_enter Tryd.func34, Tryd.ntmps34
      go_wp2_with fail
      refine (digit_yes _ _ H.out).mono ?_
      rintro e w' ⟨rfl, rfl⟩
      go_wp2_with fail
      refine (endNum_any (R.setNum _) (by simp; omega) (by simp; omega)).mono ?_
      rintro e w' ⟨rfl, R2⟩
      go_wp2_with fail
      go_ret
      rw [HD.out]
      exact ⟨rfl, R2⟩
  · have H := hide h
    clear h
    cases hr : (endShortL s).1
    · have hd : numSecondL s c = endShortL s := by unfold numSecondL; rw [if_neg H.out, hr]; rfl
      have HD := hide hd
      have HR := hide hr
      clear hd hr
      go_enter Tryd.func34, Tryd.ntmps34
      go_wp2_with fail
      refine (digit_no _ _ H.out).mono ?_
      rintro e w' ⟨rfl, rfl⟩
      go_wp2_with fail
      refine (endShort_any R n0 (by omega) p0 p1).mono ?_
      rw [HR.out]
      rintro e w' ⟨rfl, R2⟩
      go_wp2_with fail
      go_ret
      rw [HD.out, HR.out]
      exact ⟨rfl, R2⟩
    · have hd : numSecondL s c = markL (endShortL s).2 c 44 10 := by unfold numSecondL; rw [if_neg H.out, hr]; rfl
      have HD := hide hd
      have HR := hide hr
      clear hd hr
      go_enter Tryd.func34, Tryd.ntmps34
      go_wp2_with fail
      refine (digit_no _ _ H.out).mono ?_
      rintro e w' ⟨rfl, rfl⟩
      go_wp2_with fail
      refine (endShort_any R n0 (by omega) p0 p1).mono ?_
      rw [HR.out]
      rintro e w' ⟨rfl, R2⟩
      go_wp2_with fail
      refine (mark_any R2 _ _ _).mono ?_
      rintro e w' ⟨rfl, R3⟩
      go_wp2_with fail
      go_ret
      rw [HD.out]
      exact ⟨rfl, R3⟩
end
end Go.Proofs.YtcnmbldikjljeaaDoor
