import Derived.Test.YtcnmbldikjljeaaDoorRd
import Derived.Test.YtcnmbldikjljeaaDoorSpan
namespace Go.Proofs.YtcnmbldikjljeaaDoor
open Go.RowKit

abbrev isDig (c : Int) : Prop := 48 ≤ c ∧ c ≤ 57
def markL (s : RS) (c mark next : Int) : Bool × RS := if c = mark then (true, { s with st := next }) else (false, s)
def isFirst (c : Int) : Bool := c == 77 || c == 84 || c == 87 || c == 70 || c == 83
def dayFirstL (s : RS) (c : Int) : Bool × RS := if isFirst c then (true, { s with letter := c, st := 1 }) else (false, s)
/-- the day of two letters; 7: none -/
def dayOf (a b : Int) : Nat :=
  if a = 77 ∧ b = 111 then 0 else if a = 84 ∧ b = 117 then 1 else if a = 87 ∧ b = 101 then 2 else if a = 84 ∧ b = 104 then 3
  else if a = 70 ∧ b = 114 then 4 else if a = 83 ∧ b = 97 then 5 else if a = 83 ∧ b = 117 then 6 else 7
def daySecondL (s : RS) (c : Int) : Bool × RS :=
  if dayOf s.letter c < 7 then (true, { s with days := fun j => if j = dayOf s.letter c then true else s.days j, st := 2 }) else (false, s)
def dayEndL (s : RS) (c : Int) : Bool × RS := if c = 44 then (true, { s with st := 0 }) else markL s c 32 3
def timeDigitL (s : RS) (c most minutes next : Int) : Bool × RS :=
  if isDig c ∧ c - 48 ≤ most ∧ s.time + (c - 48) * minutes ≤ 1440 then (true, { s with time := s.time + (c - 48) * minutes, st := next }) else (false, s)
def addW (s : RS) (p : Int × Int) : Nat → List (Int × Int) := fun j => if s.days j then s.week j ++ [p] else s.week j
def endTimeL (s : RS) : Bool × RS :=
  if s.beg = -1 then (true, { s with time := 0, beg := s.time, st := 8 })
  else if s.time ≤ s.beg then (false, { s with time := 0 })
  else (true, { s with time := 0, week := addW s (s.beg, s.time), beg := -1 })
def spanEndL (s : RS) (c : Int) : Bool × RS :=
  if c = 59 then (true, { s with st := 0, days := fun _ => false }) else if c = 32 then (true, { s with st := 3 }) else markL s c 33 10
def numFirstL (s : RS) (c : Int) : Bool × RS := if isDig c then (true, { s with num := c - 48, st := 11 }) else (false, s)
def endNumL (s : RS) : Bool × RS :=
  if 70 ≤ s.num ∨ s.num ≤ s.ahead then (false, s) else (true, { s with free := fun j => if j = s.num.toNat then true else s.free j, ahead := s.num, st := 12 })
def endShortL (s : RS) : Bool × RS := if (endNumL s).1 then endNumL s else (false, { s with place := s.place - 1 })
def numSecondL (s : RS) (c : Int) : Bool × RS :=
  if isDig c then (if s.num = 0 then (false, s) else endNumL { s with num := s.num * 10 + (c - 48) })
  else if (endShortL s).1 then markL (endShortL s).2 c 44 10 else endShortL s
def minOnesL (s : RS) (c : Int) : Bool × RS := if (timeDigitL s c 9 1 9).1 then endTimeL (timeDigitL s c 9 1 9).2 else timeDigitL s c 9 1 9
def takeL (s : RS) (c : Int) : Bool × RS :=
  if s.st = 0 then dayFirstL s c else if s.st = 1 then daySecondL s c else if s.st = 2 then dayEndL s c
  else if s.st = 3 then timeDigitL s c 9 600 4 else if s.st = 4 then timeDigitL s c 9 60 5 else if s.st = 5 then markL s c 58 6
  else if s.st = 6 then timeDigitL s c 5 10 7 else if s.st = 7 then minOnesL s c else if s.st = 8 then markL s c 45 3
  else if s.st = 9 then spanEndL s c else if s.st = 10 then numFirstL s c else if s.st = 11 then numSecondL s c else markL s c 44 10
def finishL (s : RS) : Bool × RS := if s.st = 11 then endShortL s else (s.st == 9 || s.st == 12, s)
def loopL : List Int → RS → Bool × RS
  | [], s => finishL s
  | c :: cs, s => if (takeL s c).1 then loopL cs { (takeL s c).2 with place := (takeL s c).2.place + 1 } else takeL s c
def rs0 : RS := { st := 0, place := 0, letter := 0, days := fun _ => false, beg := -1, time := 0, num := 0, ahead := -1, week := fun _ => [], free := fun _ => false }

/-- bounds that the walks lean on -/
structure Inv (n : Nat) (s : RS) : Prop where
  t0 : 0 ≤ s.time
  t1 : s.time ≤ 1440
  b0 : -1 ≤ s.beg
  b1 : s.beg ≤ 1440
  n0 : 0 ≤ s.num
  n1 : s.num ≤ 99
  n2 : s.st = 11 → s.num ≤ 9
  a0 : -1 ≤ s.ahead
  a1 : s.ahead ≤ 99
  st0 : 0 ≤ s.st
  st1 : s.st ≤ 12
  wk : ∀ j, (s.week j).length ≤ n
  sp : ∀ j, ∀ p ∈ s.week j, Good p
theorem inv0 : Inv 0 rs0 := by constructor <;> simp [rs0]
theorem Inv.mono {n m : Nat} {s : RS} (h : Inv n s) (hm : n ≤ m) : Inv m s := { h with wk := fun j => Nat.le_trans (h.wk j) hm }
theorem addW_le (s : RS) (p : Int × Int) (n : Nat) (h : ∀ j, (s.week j).length ≤ n) (j : Nat) : (addW s p j).length ≤ n + 1 := by
  unfold addW; have := h j; split <;> simp <;> omega
theorem addW_good (s : RS) (p : Int × Int) (h : ∀ j, ∀ q ∈ s.week j, Good q) (hp : Good p) (j : Nat) : ∀ q ∈ addW s p j, Good q := by
  unfold addW
  split
  · intro q hq
    rcases List.mem_append.1 hq with a | a
    · exact h j q a
    · rw [List.mem_singleton] at a; subst a; exact hp
  · exact h j
theorem inv_mark {n : Nat} {s : RS} (h : Inv n s) (c mark next : Int) (h0 : 0 ≤ next) (h1 : next ≤ 10) : Inv n (markL s c mark next).2 := by
  unfold markL
  split
  · exact { h with n2 := fun e => by simp at e; omega, st0 := h0, st1 := by simp; omega }
  · exact h
theorem inv_timeDigit {n : Nat} {s : RS} (h : Inv n s) (c most minutes next : Int) (hm : 0 ≤ minutes) (h0 : 0 ≤ next) (h1 : next ≤ 10) : Inv n (timeDigitL s c most minutes next).2 := by
  unfold timeDigitL
  split
  · rename_i g
    have := h.t0
    have hp : 0 ≤ (c - 48) * minutes := Int.mul_nonneg (by omega) hm
    exact { h with t0 := by simp; omega, t1 := by simp; omega, n2 := fun e => by simp at e; omega, st0 := h0, st1 := by simp; omega }
  · exact h
theorem inv_endTime {n : Nat} {s : RS} (h : Inv n s) (_hs : s.st ≠ 11) : Inv (n + 1) (endTimeL s).2 := by
  have := h.t0
  have := h.t1
  unfold endTimeL
  split
  · exact { (h.mono (Nat.le_succ n)) with t0 := by simp, t1 := by simp, b0 := by simp; omega, b1 := by simp; omega, n2 := fun e => by simp at e, st0 := by simp, st1 := by simp }
  · split
    · exact { (h.mono (Nat.le_succ n)) with t0 := by simp, t1 := by simp }
    · exact { (h.mono (Nat.le_succ n)) with t0 := by simp, t1 := by simp, b0 := by simp, b1 := by simp, wk := addW_le s _ n h.wk, sp := addW_good s _ h.sp (by have := h.b0; unfold Good; simp only; omega) }
theorem inv_endNum {n : Nat} {s : RS} (h : Inv n s) : Inv n (endNumL s).2 := by
  have := h.n0
  have := h.n1
  unfold endNumL
  split
  · exact h
  · exact { h with a0 := by simp; omega, a1 := by simp; omega, n2 := fun e => by simp at e, st0 := by simp, st1 := by simp }
theorem inv_place {n : Nat} {s : RS} (h : Inv n s) (x : Int) : Inv n { s with place := x } := { h with }
theorem inv_endShort {n : Nat} {s : RS} (h : Inv n s) : Inv n (endShortL s).2 := by
  unfold endShortL
  split
  · exact inv_endNum h
  · exact inv_place h _
theorem inv_finish {n : Nat} {s : RS} (h : Inv n s) : Inv n (finishL s).2 := by
  unfold finishL
  split
  · exact inv_endShort h
  · exact h
theorem take_st0 {s : RS} (c : Int) (h : s.st = 0) : takeL s c = dayFirstL s c := by simp [takeL, h]
theorem take_st1 {s : RS} (c : Int) (h : s.st = 1) : takeL s c = daySecondL s c := by simp [takeL, h]
theorem take_st2 {s : RS} (c : Int) (h : s.st = 2) : takeL s c = dayEndL s c := by simp [takeL, h]
theorem take_st3 {s : RS} (c : Int) (h : s.st = 3) : takeL s c = timeDigitL s c 9 600 4 := by simp [takeL, h]
theorem take_st4 {s : RS} (c : Int) (h : s.st = 4) : takeL s c = timeDigitL s c 9 60 5 := by simp [takeL, h]
theorem take_st5 {s : RS} (c : Int) (h : s.st = 5) : takeL s c = markL s c 58 6 := by simp [takeL, h]
theorem take_st6 {s : RS} (c : Int) (h : s.st = 6) : takeL s c = timeDigitL s c 5 10 7 := by simp [takeL, h]
theorem take_st7 {s : RS} (c : Int) (h : s.st = 7) : takeL s c = minOnesL s c := by simp [takeL, h]
theorem take_st8 {s : RS} (c : Int) (h : s.st = 8) : takeL s c = markL s c 45 3 := by simp [takeL, h]
theorem take_st9 {s : RS} (c : Int) (h : s.st = 9) : takeL s c = spanEndL s c := by simp [takeL, h]
theorem take_st10 {s : RS} (c : Int) (h : s.st = 10) : takeL s c = numFirstL s c := by simp [takeL, h]
theorem take_st11 {s : RS} (c : Int) (h : s.st = 11) : takeL s c = numSecondL s c := by simp [takeL, h]
theorem take_st12 {s : RS} (c : Int) (h : s.st = 12) : takeL s c = markL s c 44 10 := by simp [takeL, h]
theorem inv_take {n : Nat} {s : RS} (h : Inv n s) (c : Int) (ok : (takeL s c).1 = true) : Inv (n + 1) (takeL s c).2 := by
  have h1 := h.mono (Nat.le_succ n)
  have hs : s.st = 0 ∨ s.st = 1 ∨ s.st = 2 ∨ s.st = 3 ∨ s.st = 4 ∨ s.st = 5 ∨ s.st = 6 ∨ s.st = 7 ∨ s.st = 8 ∨ s.st = 9 ∨ s.st = 10 ∨ s.st = 11 ∨ s.st = 12 := by
    have := h.st0; have := h.st1; omega
  rcases hs with e | e | e | e | e | e | e | e | e | e | e | e | e
  · rw [take_st0 c e] at ok ⊢
    unfold dayFirstL; split
    · exact { h1 with n2 := fun e => by simp at e, st0 := by simp, st1 := by simp }
    · exact h1
  · rw [take_st1 c e] at ok ⊢
    unfold daySecondL; split
    · exact { h1 with n2 := fun e => by simp at e, st0 := by simp, st1 := by simp }
    · exact h1
  · rw [take_st2 c e] at ok ⊢
    unfold dayEndL; split
    · exact { h1 with n2 := fun e => by simp at e, st0 := by simp, st1 := by simp }
    · exact inv_mark h1 _ _ _ (by omega) (by omega)
  · rw [take_st3 c e]; exact inv_timeDigit h1 _ _ _ _ (by omega) (by omega) (by omega)
  · rw [take_st4 c e]; exact inv_timeDigit h1 _ _ _ _ (by omega) (by omega) (by omega)
  · rw [take_st5 c e]; exact inv_mark h1 _ _ _ (by omega) (by omega)
  · rw [take_st6 c e]; exact inv_timeDigit h1 _ _ _ _ (by omega) (by omega) (by omega)
  · rw [take_st7 c e]
    unfold minOnesL
    have ht := inv_timeDigit h c 9 1 9 (by omega) (by omega) (by omega)
    split
    · rename_i g
      refine inv_endTime ht ?_
      unfold timeDigitL at g ⊢
      split
      · simp
      · simp [e]
    · exact ht.mono (Nat.le_succ n)
  · rw [take_st8 c e]; exact inv_mark h1 _ _ _ (by omega) (by omega)
  · rw [take_st9 c e]
    unfold spanEndL; split
    · exact { h1 with n2 := fun e => by simp at e, st0 := by simp, st1 := by simp }
    · split
      · exact { h1 with n2 := fun e => by simp at e, st0 := by simp, st1 := by simp }
      · exact inv_mark h1 _ _ _ (by omega) (by omega)
  · rw [take_st10 c e]
    unfold numFirstL; split
    · exact { h1 with n0 := by simp; omega, n1 := by simp; omega, n2 := fun _ => by simp; omega, st0 := by simp, st1 := by simp }
    · exact h1
  · rw [take_st11 c e] at ok ⊢
    have g9 := h.n2 e
    have g0 := h.n0
    unfold numSecondL at ok ⊢
    split
    · rename_i hd
      rw [if_pos hd] at ok
      split
      · exact h1
      · rename_i hz
        rw [if_neg hz] at ok
        unfold endNumL at ok ⊢
        split
        · rename_i hb; simp only [if_pos hb] at ok; simp at ok
        · exact { h1 with n0 := by simp; omega, n1 := by simp; omega, n2 := fun e => by simp at e, a0 := by simp; omega, a1 := by simp; omega, st0 := by simp, st1 := by simp }
    · split
      · exact inv_mark (inv_endShort h1) _ _ _ (by omega) (by omega)
      · exact inv_endShort h1
  · rw [take_st12 c e]; exact inv_mark h1 _ _ _ (by omega) (by omega)
end Go.Proofs.YtcnmbldikjljeaaDoor
