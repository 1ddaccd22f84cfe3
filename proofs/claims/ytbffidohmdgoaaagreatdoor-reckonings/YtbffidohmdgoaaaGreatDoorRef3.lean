import Derived.Test.YtbffidohmdgoaaaGreatDoorRef2
namespace Go.Proofs.YtbffidohmdgoaaaGreatDoor
open Go.RowKit

def isTwo (b : Int) : Bool := decide (48 ≤ b) && decide (b ≤ 57)
def numBad (n last a : Int) (two : Bool) : Bool := decide (70 ≤ n) || decide (n ≤ last) || (two && a == 48)
def numberF (L : List Int) (s : Sg) (last : Int) : Int × Sg :=
  let a := takeF L s 48 57
  let b := lookF L a.2
  if isTwo b then
    (if numBad (10 * (a.1 - 48) + (b - 48)) last a.1 true then (10 * (a.1 - 48) + (b - 48), badF (a.2.1 + 1, a.2.2) a.2.1) else (10 * (a.1 - 48) + (b - 48), (a.2.1 + 1, a.2.2)))
  else
    (if numBad (a.1 - 48) last a.1 false then (a.1 - 48, badF a.2 (a.2.1 - 1)) else (a.1 - 48, a.2))

section
variable {w : World} {b : Nat} {vL : Value} {L : List Int} {I P : Int}
set_option maxRecDepth 100000 in
set_option maxHeartbeats 4000000 in
theorem numberF_any (C : FC w b vL I P) (R : Row w b vL L) (hI : 0 ≤ I) (hI2 : I ≤ 90000) (last : Int) :
    Calls Tryz.prog 125 #[.pointer (some ⟨b, 0, none⟩), .int .i64 last] w fun e w' => e = .returned (.int .i64 (numberF L (I, P) last).1) ∧ FC w' b vL (numberF L (I, P) last).2.1 (numberF L (I, P) last).2.2 ∧ But b w w' := by
  obtain ⟨r, hr⟩ : ∃ r, numberF L (I, P) last = r := ⟨_, rfl⟩
  rw [hr]
  unfold numberF at hr
  simp only at hr
  have HR := hide hr
  clear hr
  have lo1 := takeF_lo L (I, P) 48 57
  have hi1 := takeF_hi L (I, P) 48 57 (by omega)
  have i1 := takeF_I L (I, P) 48 57
  go_enter Tryz.func125, Tryz.ntmps125
  go_wp2_with fail
  refine (takeF_any C R hI (by omega) _ _).mono ?_
  rintro e w1 ⟨rfl, C1, b1⟩
  have R1 := R.on b1
  generalize takeF L (I, P) 48 57 = t1 at *
  obtain ⟨a, I1, P1⟩ := t1
  simp only at lo1 hi1 i1 C1 HR ⊢
  have hbd := lookF_bd R.vals (I1, P1)
  go_wp2_with fail
  refine (look_any C1 R1 (by omega)).mono ?_
  rintro e w2 ⟨rfl, n, rfl⟩
  have C2 := C1.drewN n
  have b2 := b1.trans (But.drewN b w1 n)
  generalize w1.drewN n = w2 at *
  generalize lookF L (I1, P1) = bb at *
  have c1 := C2.c1
  have f1 := C2.f1
  by_cases ht : 48 ≤ bb ∧ bb ≤ 57
  · have e1 : isTwo bb = true := by unfold isTwo; simp [ht.1, ht.2]
    rw [e1] at HR
    simp only [if_true] at HR
    clear e1
    obtain ⟨ht1, ht2⟩ := ht
    have C3 := C2.setI (I1 + 1)
    have b3 := b2.trans (But.set b w2 1 (.int .i64 (I1 + 1)))
    have c3 := C3.c1
    by_cases k1 : 70 ≤ 10 * (a - 48) + (bb - 48)
    · have e2 : numBad (10 * (a - 48) + (bb - 48)) last a true = true := by unfold numBad; simp [k1]
      rw [e2] at HR
      simp only [if_true] at HR
      clear e2
      go_wp2_with fail
      refine (bad_any C3 _).mono ?_
      rintro e w4 ⟨rfl, C4, b4⟩
      go_wp2_with fail
      go_ret
      rw [← HR.out]
      exact ⟨rfl, C4, b3.trans b4⟩
    · by_cases k2 : 10 * (a - 48) + (bb - 48) ≤ last
      · have e2 : numBad (10 * (a - 48) + (bb - 48)) last a true = true := by unfold numBad; simp [k2]
        rw [e2] at HR
        simp only [if_true] at HR
        clear e2
        go_wp2_with fail
        refine (bad_any C3 _).mono ?_
        rintro e w4 ⟨rfl, C4, b4⟩
        go_wp2_with fail
        go_ret
        rw [← HR.out]
        exact ⟨rfl, C4, b3.trans b4⟩
      · cases k3 : (a == 48)
        · have e2 : numBad (10 * (a - 48) + (bb - 48)) last a true = false := by unfold numBad; rw [k3]; simp; omega
          rw [e2] at HR
          simp only [Bool.false_eq_true, if_false] at HR
          clear e2
          go_wp2_with fail
          go_ret
          rw [← HR.out]
          exact ⟨rfl, C3, b3⟩
        · have e2 : numBad (10 * (a - 48) + (bb - 48)) last a true = true := by unfold numBad; rw [k3]; simp
          rw [e2] at HR
          simp only [if_true] at HR
          clear e2
          go_wp2_with fail
          refine (bad_any C3 _).mono ?_
          rintro e w4 ⟨rfl, C4, b4⟩
          go_wp2_with fail
          go_ret
          rw [← HR.out]
          exact ⟨rfl, C4, b3.trans b4⟩
  · have e1 : isTwo bb = false := by unfold isTwo; simp; omega
    rw [e1] at HR
    simp only [Bool.false_eq_true, if_false] at HR
    clear e1
    have hcases : (bb < 48) ∨ (48 ≤ bb ∧ 57 < bb) := by omega
    clear ht
    by_cases k1 : 70 ≤ a - 48
    · omega
    · by_cases k2 : a - 48 ≤ last
      · have e2 : numBad (a - 48) last a false = true := by unfold numBad; simp [k2]
        rw [e2] at HR
        simp only [if_true] at HR
        clear e2
        rcases hcases with h1 | ⟨h1, h2⟩
        all_goals
          go_wp2_with fail
          refine (bad_any C2 _).mono ?_
          rintro e w4 ⟨rfl, C4, b4⟩
          go_wp2_with fail
          go_ret
          rw [← HR.out]
          exact ⟨rfl, C4, b2.trans b4⟩
      · have e2 : numBad (a - 48) last a false = false := by unfold numBad; simp; omega
        rw [e2] at HR
        simp only [Bool.false_eq_true, if_false] at HR
        clear e2
        rcases hcases with h1 | ⟨h1, h2⟩
        all_goals
          go_wp2_with fail
          go_ret
          rw [← HR.out]
          exact ⟨rfl, C2, b2⟩
end
end Go.Proofs.YtbffidohmdgoaaaGreatDoor
