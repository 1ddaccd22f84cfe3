import Derived.Test.YtbffidohmdgoaaaGreatDoorPureR1
import Derived.Test.YtbffidohmdgoaaaGreatDoorRef8
import Derived.Test.YtbffidohmdgoaaaGreatDoorOpen
namespace Go.Proofs.YtbffidohmdgoaaaGreatDoor
open Go.RowKit

/-! ### What is no plain character is told as 0 is -/
theorem first_high {c : Int} (h : c = 0 ∨ 128 ≤ c) : isFirst c = false := by
  simp only [isFirst, Bool.or_eq_false_iff, beq_eq_false_iff_ne]; omega
theorem dayOf_high {a c : Int} (h : c = 0 ∨ 128 ≤ c) : dayOf a c = 7 := by
  unfold dayOf; repeat (rw [if_neg (by omega)])
theorem take_high {s : RS} {c : Int} (h : c = 0 ∨ 128 ≤ c) : (takeL s c).1 = false ∧ takeL s c = takeL s 0 := by
  have hd : ¬ isDig c := by unfold isDig; omega
  have hd0 : ¬ isDig 0 := by unfold isDig; omega
  have hm : ∀ (t : RS) (m n : Int), m ≠ 0 → m < 128 → markL t c m n = (false, t) := fun t m n h1 h2 => by unfold markL; rw [if_neg (by omega)]
  have hm0 : ∀ (t : RS) (m n : Int), m ≠ 0 → m < 128 → markL t 0 m n = (false, t) := fun t m n h1 h2 => by unfold markL; rw [if_neg (by omega)]
  have ht : ∀ (m n k : Int), timeDigitL s c m n k = (false, s) := fun m n k => by unfold timeDigitL; rw [if_neg (fun e => hd e.1)]
  have ht0 : ∀ (m n k : Int), timeDigitL s 0 m n k = (false, s) := fun m n k => by unfold timeDigitL; rw [if_neg (fun e => hd0 e.1)]
  have c44 : ¬ c = 44 := by omega
  have c59 : ¬ c = 59 := by omega
  have c32 : ¬ c = 32 := by omega
  by_cases e0 : s.st = 0
  · rw [take_st0 c e0, take_st0 0 e0]; unfold dayFirstL; rw [first_high h, first_high (.inl rfl)]; simp
  by_cases e1 : s.st = 1
  · rw [take_st1 c e1, take_st1 0 e1]; unfold daySecondL; rw [dayOf_high h, dayOf_high (.inl rfl)]; simp
  by_cases e2 : s.st = 2
  · rw [take_st2 c e2, take_st2 0 e2]; unfold dayEndL; rw [if_neg c44, hm _ _ _ (by omega) (by omega), hm0 _ _ _ (by omega) (by omega)]; simp
  by_cases e3 : s.st = 3
  · rw [take_st3 c e3, take_st3 0 e3]; rw [ht, ht0]; simp
  by_cases e4 : s.st = 4
  · rw [take_st4 c e4, take_st4 0 e4]; rw [ht, ht0]; simp
  by_cases e5 : s.st = 5
  · rw [take_st5 c e5, take_st5 0 e5]; rw [hm _ _ _ (by omega) (by omega), hm0 _ _ _ (by omega) (by omega)]; simp
  by_cases e6 : s.st = 6
  · rw [take_st6 c e6, take_st6 0 e6]; rw [ht, ht0]; simp
  by_cases e7 : s.st = 7
  · rw [take_st7 c e7, take_st7 0 e7]; unfold minOnesL; rw [ht, ht0]; simp
  by_cases e8 : s.st = 8
  · rw [take_st8 c e8, take_st8 0 e8]; rw [hm _ _ _ (by omega) (by omega), hm0 _ _ _ (by omega) (by omega)]; simp
  by_cases e9 : s.st = 9
  · rw [take_st9 c e9, take_st9 0 e9]; unfold spanEndL; rw [if_neg c59, if_neg c32, hm _ _ _ (by omega) (by omega), hm0 _ _ _ (by omega) (by omega)]; simp
  by_cases e10 : s.st = 10
  · rw [take_st10 c e10, take_st10 0 e10]; unfold numFirstL; rw [if_neg hd, if_neg hd0]; simp
  by_cases e11 : s.st = 11
  · rw [take_st11 c e11, take_st11 0 e11]; unfold numSecondL; rw [if_neg hd, if_neg hd0, hm _ _ _ (by omega) (by omega), hm0 _ _ _ (by omega) (by omega)]
    refine ⟨?_, rfl⟩
    by_cases g : (endShortL s).1 = true
    · rw [if_pos g]
    · rw [if_neg g]; simpa using g
  · have he : ∀ x, takeL s x = markL s x 44 10 := fun x => by unfold takeL; rw [if_neg e0, if_neg e1, if_neg e2, if_neg e3, if_neg e4, if_neg e5, if_neg e6, if_neg e7, if_neg e8, if_neg e9, if_neg e10, if_neg e11]
    rw [he, he, hm _ _ _ (by omega) (by omega), hm0 _ _ _ (by omega) (by omega)]; simp
theorem take_zero (s : RS) : (takeL s 0).1 = false := (take_high (.inl rfl)).1
theorem take_plain (s : RS) (c : Int) : takeL s (plain c) = takeL s c := by
  unfold plain
  split
  · exact (take_high (.inr (by assumption))).2.symm
  · rfl
theorem loop_plain (l : List Int) : ∀ s, loopL (l.map plain) s = loopL l s := by
  induction l with
  | nil => intro s; rfl
  | cons c l ih => intro s; simp only [List.map_cons, loopL, take_plain, ih]
theorem parse_crun (s : ByteArray) : parseL s = loopL (crun s s.size 0) rs0 := by rw [crun_chars, loop_plain]; rfl
end Go.Proofs.YtbffidohmdgoaaaGreatDoor
