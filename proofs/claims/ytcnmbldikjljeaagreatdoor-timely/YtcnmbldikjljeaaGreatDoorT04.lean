import Derived.Test.YtcnmbldikjljeaaGreatDoorT03
import Derived.WalkKit
import Derived.WalkSpells
import Derived.WalkLawsBesides
import Derived.Test.YtcnmbldikjljeaaGreatDoorT01
import Derived.Laws.RangeAny
import Derived.Deep.QuietTactic
import Derived.BigQuiet
namespace Go.Proofs.YtcnmbldikjljeaaGreatDoor
open Go.RowKit

/-- the reader, as it stands -/
structure RS where
  st : Int
  place : Int
  letter : Int
  days : Nat → Bool
  beg : Int
  time : Int
  num : Int
  ahead : Int
  week : Nat → List (Int × Int)
  free : Nat → Bool

def enc (s : RS) (vs : Nat → Value) (j : Nat) : Value :=
  if j = 0 then .int .i64 s.st else if j = 1 then .int .i64 s.place else if j = 2 then .int .i32 s.letter else if j < 10 then .bool (s.days (j - 3))
  else if j = 10 then .int .i64 s.beg else if j = 11 then .int .i64 s.time else if j = 12 then .int .i64 s.num else if j = 13 then .int .i64 s.ahead
  else if j < 21 then vs (j - 14) else .bool (s.free (j - 21))
def flat (l : List (Int × Int)) : List Value := l.flatMap fun p => [.int .i64 p.1, .int .i64 p.2]
def nmV (j : Nat) : Value := .string ⟨(nm j).toArray⟩

structure RW (it : Obj) (B b : Nat) (w0 w : World) (s : RS) (vs : Nat → Value) : Prop where
  below : Below B w0 w
  hB : B ≤ b
  hb : b < w.heap.size
  cell : ∀ j, j < 91 → w.cell? ⟨b, j, none⟩ = some (enc s vs j)
  frz : ∀ j, w.frozen? ⟨b, j, none⟩ = false
  own : ∀ j, j < 7 → w.ownsRow (b + 2) 140 2 (vs j) (s.week j).length (flat (s.week j))
  apart : ∀ i j, i < 7 → j < 7 → i ≠ j → (vs i).ownBlock = none ∨ (vs i).ownBlock ≠ (vs j).ownBlock
  names : ∀ j, j < 7 → w.cell? ⟨0, j, none⟩ = some (nmV j)
  n0 : 0 < B
  iter : w.heap[b + 1]? = some it

section
variable {it : Obj} {B b : Nat} {w0 w : World} {s : RS} {vs : Nat → Value}

theorem RW.set (h : RW it B b w0 w s vs) (k : Nat) (v : Value) (s' : RS) (hk : k < 91) (hw : s'.week = s.week) (he : ∀ j, j < 91 → enc s' vs j = if j = k then v else enc s vs j) :
    RW it B b w0 (w.setCell ⟨b, k, none⟩ v) s' vs := by
  refine ⟨h.below.setCell h.hB v, h.hB, by simpa using h.hb, ?_, ?_, ?_, h.apart, ?_, h.n0, (Below.heap_setCell _ _ _ _ (by simp)).trans h.iter⟩
  · intro j hj
    rw [he j hj]
    by_cases e : j = k
    · subst e; rw [if_pos rfl]; exact sc_eq (h.cell j hj)
    · rw [if_neg e, sc_ne (by omega)]; exact h.cell j hj
  · intro j; rw [World.frozen?_setCell]; exact h.frz j
  · intro j hj; rw [hw]; exact ownsRow_setCell_below (h.own j hj) (by simp) v
  · intro j hj
    have := h.hB
    have := h.n0
    rw [sc_ne (by omega)]; exact h.names j hj

theorem RW.on (h : RW it B b w0 w s vs) {w' : World} (hb : Below w.heap.size w w') : RW it B b w0 w' s vs := by
  have hB := h.hB
  have hbb := h.hb
  have hn := h.n0
  have hit : b + 1 < w.heap.size := (Array.getElem?_eq_some_iff.1 h.iter).1
  have hg : w.grownBy w' none := ⟨hb.os, hb.tape, hb.output, hb.size, fun k hk _ => hb.block k hk⟩
  refine ⟨h.below.trans (hb.mono (by omega)), h.hB, by have := hb.size; omega, ?_, ?_, ?_, h.apart, ?_, h.n0, (hb.block _ hit).trans h.iter⟩
  · intro j hj; rw [hb.cell (p := ⟨b, j, none⟩) h.hb]; exact h.cell j hj
  · intro j; rw [hb.frozen (p := ⟨b, j, none⟩) h.hb]; exact h.frz j
  · intro j hj; exact (h.own j hj).kept hg (by cases (vs j).ownBlock <;> simp)
  · intro j hj; rw [hb.cell (p := ⟨0, j, none⟩) (by simp; omega)]; exact h.names j hj
theorem RW.drew (h : RW it B b w0 w s vs) : RW it B b w0 w.drew s vs := h.on (Below.refl _ _).drew
theorem RW.drewN (h : RW it B b w0 w s vs) (n : Nat) : RW it B b w0 (w.drewN n) s vs := h.on (below_drewN (Below.refl _ _) n)
theorem RW.alloc (h : RW it B b w0 w s vs) (o : Obj) : RW it B b w0 (w.alloc o) s vs := h.on ((Below.refl _ _).alloc (Nat.le_refl _) o)

theorem RW.c0 (h : RW it B b w0 w s vs) : w.cell? ⟨b, 0, none⟩ = some (.int .i64 s.st) := h.cell 0 (by omega)
theorem RW.c1 (h : RW it B b w0 w s vs) : w.cell? ⟨b, 1, none⟩ = some (.int .i64 s.place) := h.cell 1 (by omega)
theorem RW.c2 (h : RW it B b w0 w s vs) : w.cell? ⟨b, 2, none⟩ = some (.int .i32 s.letter) := h.cell 2 (by omega)
theorem RW.cd (h : RW it B b w0 w s vs) (j : Nat) (hj : j < 7) : w.cell? ⟨b, 3 + j, none⟩ = some (.bool (s.days j)) := by
  rw [h.cell (3 + j) (by omega)]
  simp only [enc]
  rw [if_neg (by omega), if_neg (by omega), if_neg (by omega), if_pos (by omega)]
  congr 3; omega
theorem RW.c10 (h : RW it B b w0 w s vs) : w.cell? ⟨b, 10, none⟩ = some (.int .i64 s.beg) := h.cell 10 (by omega)
theorem RW.c11 (h : RW it B b w0 w s vs) : w.cell? ⟨b, 11, none⟩ = some (.int .i64 s.time) := h.cell 11 (by omega)
theorem RW.c12 (h : RW it B b w0 w s vs) : w.cell? ⟨b, 12, none⟩ = some (.int .i64 s.num) := h.cell 12 (by omega)
theorem RW.c13 (h : RW it B b w0 w s vs) : w.cell? ⟨b, 13, none⟩ = some (.int .i64 s.ahead) := h.cell 13 (by omega)
theorem RW.cw (h : RW it B b w0 w s vs) (j : Nat) (hj : j < 7) : w.cell? ⟨b, 14 + j, none⟩ = some (vs j) := by
  rw [h.cell (14 + j) (by omega)]
  simp only [enc]
  rw [if_neg (by omega), if_neg (by omega), if_neg (by omega), if_neg (by omega), if_neg (by omega), if_neg (by omega), if_neg (by omega), if_neg (by omega), if_pos (by omega)]
  congr 2; omega
theorem RW.cf (h : RW it B b w0 w s vs) (j : Nat) (hj : j < 70) : w.cell? ⟨b, 21 + j, none⟩ = some (.bool (s.free j)) := by
  rw [h.cell (21 + j) (by omega)]
  simp only [enc]
  rw [if_neg (by omega), if_neg (by omega), if_neg (by omega), if_neg (by omega), if_neg (by omega), if_neg (by omega), if_neg (by omega), if_neg (by omega), if_neg (by omega)]
  congr 3; omega

theorem RW.setSt (h : RW it B b w0 w s vs) (x : Int) : RW it B b w0 (w.setCell ⟨b, 0, none⟩ (.int .i64 x)) { s with st := x } vs :=
  h.set 0 _ _ (by omega) rfl (fun j _ => by simp only [enc]; split <;> simp_all)
theorem RW.setPlace (h : RW it B b w0 w s vs) (x : Int) : RW it B b w0 (w.setCell ⟨b, 1, none⟩ (.int .i64 x)) { s with place := x } vs :=
  h.set 1 _ _ (by omega) rfl (fun j _ => by simp only [enc]; split <;> simp_all)
theorem RW.setLetter (h : RW it B b w0 w s vs) (x : Int) : RW it B b w0 (w.setCell ⟨b, 2, none⟩ (.int .i32 x)) { s with letter := x } vs :=
  h.set 2 _ _ (by omega) rfl (fun j _ => by simp only [enc]; by_cases e : j = 2 <;> simp [e])
theorem RW.setBeg (h : RW it B b w0 w s vs) (x : Int) : RW it B b w0 (w.setCell ⟨b, 10, none⟩ (.int .i64 x)) { s with beg := x } vs :=
  h.set 10 _ _ (by omega) rfl (fun j _ => by simp only [enc]; by_cases e : j = 10 <;> simp [e])
theorem RW.setTime (h : RW it B b w0 w s vs) (x : Int) : RW it B b w0 (w.setCell ⟨b, 11, none⟩ (.int .i64 x)) { s with time := x } vs :=
  h.set 11 _ _ (by omega) rfl (fun j _ => by simp only [enc]; by_cases e : j = 11 <;> simp [e])
theorem RW.setNum (h : RW it B b w0 w s vs) (x : Int) : RW it B b w0 (w.setCell ⟨b, 12, none⟩ (.int .i64 x)) { s with num := x } vs :=
  h.set 12 _ _ (by omega) rfl (fun j _ => by simp only [enc]; by_cases e : j = 12 <;> simp [e])
theorem RW.setAhead (h : RW it B b w0 w s vs) (x : Int) : RW it B b w0 (w.setCell ⟨b, 13, none⟩ (.int .i64 x)) { s with ahead := x } vs :=
  h.set 13 _ _ (by omega) rfl (fun j _ => by simp only [enc]; by_cases e : j = 13 <;> simp [e])
theorem RW.setDay (h : RW it B b w0 w s vs) (k : Nat) (hk : k < 7) (x : Bool) : RW it B b w0 (w.setCell ⟨b, 3 + k, none⟩ (.bool x)) { s with days := fun j => if j = k then x else s.days j } vs :=
  h.set (3 + k) _ _ (by omega) rfl (fun j _ => by
    simp only [enc]
    by_cases e : j = 3 + k
    · subst e; rw [if_neg (by omega), if_neg (by omega), if_neg (by omega), if_pos (by omega), if_pos rfl, if_pos (by omega)]
    · rw [if_neg e]
      by_cases g : 3 ≤ j ∧ j < 10
      · rw [if_neg (by omega), if_neg (by omega), if_neg (by omega), if_pos (by omega), if_neg (by omega)]
        rw [if_neg (by omega), if_neg (by omega), if_neg (by omega), if_pos (by omega)]
      · by_cases g0 : j = 0
        · rw [if_pos g0, if_pos g0]
        · by_cases g1 : j = 1
          · rw [if_neg g0, if_pos g1, if_neg g0, if_pos g1]
          · by_cases g2 : j = 2
            · rw [if_neg g0, if_neg g1, if_pos g2, if_neg g0, if_neg g1, if_pos g2]
            · have g3 : ¬ j < 10 := by omega
              simp only [if_neg g0, if_neg g1, if_neg g2, if_neg g3])
theorem RW.setFree (h : RW it B b w0 w s vs) (k : Nat) (hk : k < 70) (x : Bool) : RW it B b w0 (w.setCell ⟨b, 21 + k, none⟩ (.bool x)) { s with free := fun j => if j = k then x else s.free j } vs :=
  h.set (21 + k) _ _ (by omega) rfl (fun j _ => by
    simp only [enc]
    by_cases e : j = 21 + k
    · subst e
      rw [if_neg (by omega), if_neg (by omega), if_neg (by omega), if_neg (by omega), if_neg (by omega), if_neg (by omega), if_neg (by omega), if_neg (by omega), if_neg (by omega), if_pos (by omega), if_pos rfl]
    · rw [if_neg e]
      by_cases g : j < 21
      · repeat (first | rfl | (split; · rfl))
      · rw [if_neg (by omega : ¬ j - 21 = k)])
theorem RW.daysC (h : RW it B b w0 w s vs) (d : Nat → Bool) (hd : ∀ j, j < 7 → s.days j = d j) : RW it B b w0 w { s with days := d } vs := by
  refine ⟨h.below, h.hB, h.hb, ?_, h.frz, h.own, h.apart, h.names, h.n0, h.iter⟩
  intro j hj
  rw [h.cell j hj]
  simp only [enc]
  by_cases g0 : j = 0
  · simp [g0]
  · by_cases g1 : j = 1
    · simp [g1]
    · by_cases g2 : j = 2
      · simp [g2]
      · by_cases g3 : j < 10
        · simp only [if_neg g0, if_neg g1, if_neg g2, if_pos g3]; rw [hd (j - 3) (by omega)]
        · simp only [if_neg g0, if_neg g1, if_neg g2, if_neg g3]
theorem RW.eqv (h : RW it B b w0 w s vs) {s' : RS} (e : s = s') : RW it B b w0 w s' vs := e ▸ h
end
end Go.Proofs.YtcnmbldikjljeaaGreatDoor
namespace Go.Proofs.YtcnmbldikjljeaaGreatDoor
open Go.RowKit

abbrev isDig (c : Int) : Prop := 48 ≤ c ∧ c ≤ 57
def markL (s : RS) (c mark next : Int) : Bool × RS := if c = mark then (true, { s with st := next }) else (false, s)
def isFirst (c : Int) : Bool := c == 77 || c == 84 || c == 87 || c == 70 || c == 83
def dayFirstL (s : RS) (c : Int) : Bool × RS := if isFirst c then (true, { s with letter := c, st := 1 }) else (false, s)
/-- the day of two letters; 7: none -/
def dayOf (a b : Int) : Nat :=
  if a = 77 ∧ b = 111 then 0 else if a = 84 ∧ b = 117 then 1 else if a = 87 ∧ b = 101 then 2 else if a = 84 ∧ b = 104 then 3
  else if a = 70 ∧ b = 114 then 4 else if a = 83 ∧ b = 97 then 5 else if a = 83 ∧ b = 117 then 6 else 7
def daySecondL (s : RS) (c : Int) : Bool × RS :=
  if dayOf s.letter c < 7 then (true, { s with days := fun j => if j = dayOf s.letter c then true else s.days j, st := 2 }) else (false, s)
def dayEndL (s : RS) (c : Int) : Bool × RS := if c = 44 then (true, { s with st := 0 }) else markL s c 32 3
def timeDigitL (s : RS) (c most minutes next : Int) : Bool × RS :=
  if isDig c ∧ c - 48 ≤ most ∧ s.time + (c - 48) * minutes ≤ 1440 then (true, { s with time := s.time + (c - 48) * minutes, st := next }) else (false, s)
def addW (s : RS) (p : Int × Int) : Nat → List (Int × Int) := fun j => if s.days j then s.week j ++ [p] else s.week j
def endTimeL (s : RS) : Bool × RS :=
  if s.beg = -1 then (true, { s with time := 0, beg := s.time, st := 8 })
  else if s.time ≤ s.beg then (false, { s with time := 0 })
  else (true, { s with time := 0, week := addW s (s.beg, s.time), beg := -1 })
def spanEndL (s : RS) (c : Int) : Bool × RS :=
  if c = 59 then (true, { s with st := 0, days := fun _ => false }) else if c = 32 then (true, { s with st := 3 }) else markL s c 33 10
def numFirstL (s : RS) (c : Int) : Bool × RS := if isDig c then (true, { s with num := c - 48, st := 11 }) else (false, s)
def endNumL (s : RS) : Bool × RS :=
  if 70 ≤ s.num ∨ s.num ≤ s.ahead then (false, s) else (true, { s with free := fun j => if j = s.num.toNat then true else s.free j, ahead := s.num, st := 12 })
def endShortL (s : RS) : Bool × RS := if (endNumL s).1 then endNumL s else (false, { s with place := s.place - 1 })
def numSecondL (s : RS) (c : Int) : Bool × RS :=
  if isDig c then (if s.num = 0 then (false, s) else endNumL { s with num := s.num * 10 + (c - 48) })
  else if (endShortL s).1 then markL (endShortL s).2 c 44 10 else endShortL s
def minOnesL (s : RS) (c : Int) : Bool × RS := if (timeDigitL s c 9 1 9).1 then endTimeL (timeDigitL s c 9 1 9).2 else timeDigitL s c 9 1 9
def takeL (s : RS) (c : Int) : Bool × RS :=
  if s.st = 0 then dayFirstL s c else if s.st = 1 then daySecondL s c else if s.st = 2 then dayEndL s c
  else if s.st = 3 then timeDigitL s c 9 600 4 else if s.st = 4 then timeDigitL s c 9 60 5 else if s.st = 5 then markL s c 58 6
  else if s.st = 6 then timeDigitL s c 5 10 7 else if s.st = 7 then minOnesL s c else if s.st = 8 then markL s c 45 3
  else if s.st = 9 then spanEndL s c else if s.st = 10 then numFirstL s c else if s.st = 11 then numSecondL s c else markL s c 44 10
def finishL (s : RS) : Bool × RS := if s.st = 11 then endShortL s else (s.st == 9 || s.st == 12, s)
def loopL : List Int → RS → Bool × RS
  | [], s => finishL s
  | c :: cs, s => if (takeL s c).1 then loopL cs { (takeL s c).2 with place := (takeL s c).2.place + 1 } else takeL s c
def rs0 : RS := { st := 0, place := 0, letter := 0, days := fun _ => false, beg := -1, time := 0, num := 0, ahead := -1, week := fun _ => [], free := fun _ => false }

/-- bounds that the walks lean on -/
structure Inv (n : Nat) (s : RS) : Prop where
  t0 : 0 ≤ s.time
  t1 : s.time ≤ 1440
  b0 : -1 ≤ s.beg
  b1 : s.beg ≤ 1440
  n0 : 0 ≤ s.num
  n1 : s.num ≤ 99
  n2 : s.st = 11 → s.num ≤ 9
  a0 : -1 ≤ s.ahead
  a1 : s.ahead ≤ 99
  st0 : 0 ≤ s.st
  st1 : s.st ≤ 12
  wk : ∀ j, (s.week j).length ≤ n
  sp : ∀ j, ∀ p ∈ s.week j, Good p
theorem inv0 : Inv 0 rs0 := by constructor <;> simp [rs0]
theorem Inv.mono {n m : Nat} {s : RS} (h : Inv n s) (hm : n ≤ m) : Inv m s := { h with wk := fun j => Nat.le_trans (h.wk j) hm }
theorem addW_le (s : RS) (p : Int × Int) (n : Nat) (h : ∀ j, (s.week j).length ≤ n) (j : Nat) : (addW s p j).length ≤ n + 1 := by
  unfold addW; have := h j; split <;> simp <;> omega
theorem addW_good (s : RS) (p : Int × Int) (h : ∀ j, ∀ q ∈ s.week j, Good q) (hp : Good p) (j : Nat) : ∀ q ∈ addW s p j, Good q := by
  unfold addW
  split
  · intro q hq
    rcases List.mem_append.1 hq with a | a
    · exact h j q a
    · rw [List.mem_singleton] at a; subst a; exact hp
  · exact h j
theorem inv_mark {n : Nat} {s : RS} (h : Inv n s) (c mark next : Int) (h0 : 0 ≤ next) (h1 : next ≤ 10) : Inv n (markL s c mark next).2 := by
  unfold markL
  split
  · exact { h with n2 := fun e => by simp at e; omega, st0 := h0, st1 := by simp; omega }
  · exact h
theorem inv_timeDigit {n : Nat} {s : RS} (h : Inv n s) (c most minutes next : Int) (hm : 0 ≤ minutes) (h0 : 0 ≤ next) (h1 : next ≤ 10) : Inv n (timeDigitL s c most minutes next).2 := by
  unfold timeDigitL
  split
  · rename_i g
    have := h.t0
    have hp : 0 ≤ (c - 48) * minutes := Int.mul_nonneg (by omega) hm
    exact { h with t0 := by simp; omega, t1 := by simp; omega, n2 := fun e => by simp at e; omega, st0 := h0, st1 := by simp; omega }
  · exact h
theorem inv_endTime {n : Nat} {s : RS} (h : Inv n s) (_hs : s.st ≠ 11) : Inv (n + 1) (endTimeL s).2 := by
  have := h.t0
  have := h.t1
  unfold endTimeL
  split
  · exact { (h.mono (Nat.le_succ n)) with t0 := by simp, t1 := by simp, b0 := by simp; omega, b1 := by simp; omega, n2 := fun e => by simp at e, st0 := by simp, st1 := by simp }
  · split
    · exact { (h.mono (Nat.le_succ n)) with t0 := by simp, t1 := by simp }
    · exact { (h.mono (Nat.le_succ n)) with t0 := by simp, t1 := by simp, b0 := by simp, b1 := by simp, wk := addW_le s _ n h.wk, sp := addW_good s _ h.sp (by have := h.b0; unfold Good; simp only; omega) }
theorem inv_endNum {n : Nat} {s : RS} (h : Inv n s) : Inv n (endNumL s).2 := by
  have := h.n0
  have := h.n1
  unfold endNumL
  split
  · exact h
  · exact { h with a0 := by simp; omega, a1 := by simp; omega, n2 := fun e => by simp at e, st0 := by simp, st1 := by simp }
theorem inv_place {n : Nat} {s : RS} (h : Inv n s) (x : Int) : Inv n { s with place := x } := { h with }
theorem inv_endShort {n : Nat} {s : RS} (h : Inv n s) : Inv n (endShortL s).2 := by
  unfold endShortL
  split
  · exact inv_endNum h
  · exact inv_place h _
theorem inv_finish {n : Nat} {s : RS} (h : Inv n s) : Inv n (finishL s).2 := by
  unfold finishL
  split
  · exact inv_endShort h
  · exact h
theorem take_st0 {s : RS} (c : Int) (h : s.st = 0) : takeL s c = dayFirstL s c := by simp [takeL, h]
theorem take_st1 {s : RS} (c : Int) (h : s.st = 1) : takeL s c = daySecondL s c := by simp [takeL, h]
theorem take_st2 {s : RS} (c : Int) (h : s.st = 2) : takeL s c = dayEndL s c := by simp [takeL, h]
theorem take_st3 {s : RS} (c : Int) (h : s.st = 3) : takeL s c = timeDigitL s c 9 600 4 := by simp [takeL, h]
theorem take_st4 {s : RS} (c : Int) (h : s.st = 4) : takeL s c = timeDigitL s c 9 60 5 := by simp [takeL, h]
theorem take_st5 {s : RS} (c : Int) (h : s.st = 5) : takeL s c = markL s c 58 6 := by simp [takeL, h]
theorem take_st6 {s : RS} (c : Int) (h : s.st = 6) : takeL s c = timeDigitL s c 5 10 7 := by simp [takeL, h]
theorem take_st7 {s : RS} (c : Int) (h : s.st = 7) : takeL s c = minOnesL s c := by simp [takeL, h]
theorem take_st8 {s : RS} (c : Int) (h : s.st = 8) : takeL s c = markL s c 45 3 := by simp [takeL, h]
theorem take_st9 {s : RS} (c : Int) (h : s.st = 9) : takeL s c = spanEndL s c := by simp [takeL, h]
theorem take_st10 {s : RS} (c : Int) (h : s.st = 10) : takeL s c = numFirstL s c := by simp [takeL, h]
theorem take_st11 {s : RS} (c : Int) (h : s.st = 11) : takeL s c = numSecondL s c := by simp [takeL, h]
theorem take_st12 {s : RS} (c : Int) (h : s.st = 12) : takeL s c = markL s c 44 10 := by simp [takeL, h]
theorem inv_take {n : Nat} {s : RS} (h : Inv n s) (c : Int) (ok : (takeL s c).1 = true) : Inv (n + 1) (takeL s c).2 := by
  have h1 := h.mono (Nat.le_succ n)
  have hs : s.st = 0 ∨ s.st = 1 ∨ s.st = 2 ∨ s.st = 3 ∨ s.st = 4 ∨ s.st = 5 ∨ s.st = 6 ∨ s.st = 7 ∨ s.st = 8 ∨ s.st = 9 ∨ s.st = 10 ∨ s.st = 11 ∨ s.st = 12 := by
    have := h.st0; have := h.st1; omega
  rcases hs with e | e | e | e | e | e | e | e | e | e | e | e | e
  · rw [take_st0 c e] at ok ⊢
    unfold dayFirstL; split
    · exact { h1 with n2 := fun e => by simp at e, st0 := by simp, st1 := by simp }
    · exact h1
  · rw [take_st1 c e] at ok ⊢
    unfold daySecondL; split
    · exact { h1 with n2 := fun e => by simp at e, st0 := by simp, st1 := by simp }
    · exact h1
  · rw [take_st2 c e] at ok ⊢
    unfold dayEndL; split
    · exact { h1 with n2 := fun e => by simp at e, st0 := by simp, st1 := by simp }
    · exact inv_mark h1 _ _ _ (by omega) (by omega)
  · rw [take_st3 c e]; exact inv_timeDigit h1 _ _ _ _ (by omega) (by omega) (by omega)
  · rw [take_st4 c e]; exact inv_timeDigit h1 _ _ _ _ (by omega) (by omega) (by omega)
  · rw [take_st5 c e]; exact inv_mark h1 _ _ _ (by omega) (by omega)
  · rw [take_st6 c e]; exact inv_timeDigit h1 _ _ _ _ (by omega) (by omega) (by omega)
  · rw [take_st7 c e]
    unfold minOnesL
    have ht := inv_timeDigit h c 9 1 9 (by omega) (by omega) (by omega)
    split
    · rename_i g
      refine inv_endTime ht ?_
      unfold timeDigitL at g ⊢
      split
      · simp
      · simp [e]
    · exact ht.mono (Nat.le_succ n)
  · rw [take_st8 c e]; exact inv_mark h1 _ _ _ (by omega) (by omega)
  · rw [take_st9 c e]
    unfold spanEndL; split
    · exact { h1 with n2 := fun e => by simp at e, st0 := by simp, st1 := by simp }
    · split
      · exact { h1 with n2 := fun e => by simp at e, st0 := by simp, st1 := by simp }
      · exact inv_mark h1 _ _ _ (by omega) (by omega)
  · rw [take_st10 c e]
    unfold numFirstL; split
    · exact { h1 with n0 := by simp; omega, n1 := by simp; omega, n2 := fun _ => by simp; omega, st0 := by simp, st1 := by simp }
    · exact h1
  · rw [take_st11 c e] at ok ⊢
    have g9 := h.n2 e
    have g0 := h.n0
    unfold numSecondL at ok ⊢
    split
    · rename_i hd
      rw [if_pos hd] at ok
      split
      · exact h1
      · rename_i hz
        rw [if_neg hz] at ok
        unfold endNumL at ok ⊢
        split
        · rename_i hb; simp only [if_pos hb] at ok; simp at ok
        · exact { h1 with n0 := by simp; omega, n1 := by simp; omega, n2 := fun e => by simp at e, a0 := by simp; omega, a1 := by simp; omega, st0 := by simp, st1 := by simp }
    · split
      · exact inv_mark (inv_endShort h1) _ _ _ (by omega) (by omega)
      · exact inv_endShort h1
  · rw [take_st12 c e]; exact inv_mark h1 _ _ _ (by omega) (by omega)
end Go.Proofs.YtcnmbldikjljeaaGreatDoor
namespace Go.Proofs.YtcnmbldikjljeaaGreatDoor
open Go.RowKit
/-- the characters of a text, as range gives them -/
def runes (s : ByteArray) : Nat → Nat → List Int
  | 0, _ => []
  | f + 1, pos => if pos < s.size then ((Utf8.decode s pos).1 : Int) :: runes s f (pos + (Utf8.decode s pos).2) else []
def chars (s : ByteArray) : List Int := runes s s.size 0
/-- what Parse answers: none, and the place; or the reader -/
def parseL (s : ByteArray) : Bool × RS := loopL (chars s) rs0
theorem width_pos (s : ByteArray) (pos : Nat) (h : pos < s.size) : 1 ≤ (Utf8.decode s pos).2 := by
  by_cases ha : (s[pos]'h).toNat < 128
  · rw [decode_ascii s pos h ha]; exact Nat.le_refl _
  · exact (decode_high s pos h (by omega)).2
theorem runes_end (s : ByteArray) (f pos : Nat) (h : ¬ pos < s.size) : runes s f pos = [] := by
  cases f with
  | zero => rfl
  | succ f => simp [runes, h]
theorem loop_yes {s : ByteArray} {f pos : Nat} {st : RS} {r : Bool × RS} (hp : pos < s.size) (h : loopL (runes s (f + 1) pos) st = r) (ok : (takeL st ((Utf8.decode s pos).1 : Int)).1 = true) :
    loopL (runes s f (pos + (Utf8.decode s pos).2)) { (takeL st ((Utf8.decode s pos).1 : Int)).2 with place := (takeL st ((Utf8.decode s pos).1 : Int)).2.place + 1 } = r := by
  rw [← h]; simp only [runes, if_pos hp, loopL, ok, if_true]
theorem loop_no {s : ByteArray} {f pos : Nat} {st : RS} {r : Bool × RS} (hp : pos < s.size) (h : loopL (runes s (f + 1) pos) st = r) (ok : (takeL st ((Utf8.decode s pos).1 : Int)).1 = false) :
    takeL st ((Utf8.decode s pos).1 : Int) = r := by
  rw [← h]; simp only [runes, if_pos hp, loopL, ok]; rfl
theorem loop_end {s : ByteArray} {f pos : Nat} {st : RS} {r : Bool × RS} (hp : ¬ pos < s.size) (h : loopL (runes s f pos) st = r) : finishL st = r := by
  rw [← h, runes_end s f pos hp]; rfl
theorem place_mark (s : RS) (c m n : Int) : (markL s c m n).2.place = s.place := by unfold markL; split <;> rfl
theorem place_timeDigit (s : RS) (c m n k : Int) : (timeDigitL s c m n k).2.place = s.place := by unfold timeDigitL; split <;> rfl
theorem place_endNum (s : RS) : (endNumL s).2.place = s.place := by unfold endNumL; split <;> rfl
theorem place_endTime (s : RS) : (endTimeL s).2.place = s.place := by unfold endTimeL; split; · rfl
                                                                      split <;> rfl
theorem place_endShort (s : RS) (h : (endShortL s).1 = true) : (endShortL s).2.place = s.place := by
  unfold endShortL at h ⊢
  split
  · exact place_endNum s
  · rename_i g; rw [if_neg g] at h; cases h
theorem place_take {n : Nat} {s : RS} (hI : Inv n s) (c : Int) (ok : (takeL s c).1 = true) : (takeL s c).2.place = s.place := by
  have hs : s.st = 0 ∨ s.st = 1 ∨ s.st = 2 ∨ s.st = 3 ∨ s.st = 4 ∨ s.st = 5 ∨ s.st = 6 ∨ s.st = 7 ∨ s.st = 8 ∨ s.st = 9 ∨ s.st = 10 ∨ s.st = 11 ∨ s.st = 12 := by
    have := hI.st0; have := hI.st1; omega
  rcases hs with e | e | e | e | e | e | e | e | e | e | e | e | e
  · rw [take_st0 c e]; unfold dayFirstL; split <;> rfl
  · rw [take_st1 c e]; unfold daySecondL; split <;> rfl
  · rw [take_st2 c e]; unfold dayEndL; split
    · rfl
    · exact place_mark _ _ _ _
  · rw [take_st3 c e]; exact place_timeDigit _ _ _ _ _
  · rw [take_st4 c e]; exact place_timeDigit _ _ _ _ _
  · rw [take_st5 c e]; exact place_mark _ _ _ _
  · rw [take_st6 c e]; exact place_timeDigit _ _ _ _ _
  · rw [take_st7 c e]; unfold minOnesL; split
    · rw [place_endTime, place_timeDigit]
    · exact place_timeDigit _ _ _ _ _
  · rw [take_st8 c e]; exact place_mark _ _ _ _
  · rw [take_st9 c e]; unfold spanEndL; split
    · rfl
    · split
      · rfl
      · exact place_mark _ _ _ _
  · rw [take_st10 c e]; unfold numFirstL; split <;> rfl
  · rw [take_st11 c e] at ok ⊢
    unfold numSecondL at ok ⊢
    split
    · split
      · rfl
      · rw [place_endNum]
    · rename_i g
      rw [if_neg g] at ok
      split
      · rename_i g2; rw [place_mark, place_endShort _ g2]
      · rename_i g2; rw [if_neg g2] at ok; exact absurd ok g2
  · rw [take_st12 c e]; exact place_mark _ _ _ _
theorem loop_len (cs : List Int) : ∀ (n : Nat) (st : RS), Inv n st → (loopL cs st).1 = true → ∀ j, ((loopL cs st).2.week j).length ≤ n + cs.length := by
  induction cs with
  | nil =>
    intro n st hI _ j
    simp only [loopL, finishL]
    split
    · exact Nat.le_trans ((inv_endShort hI).wk j) (by simp)
    · exact Nat.le_trans (hI.wk j) (by simp)
  | cons c cs ih =>
    intro n st hI ok j
    simp only [loopL] at ok ⊢
    cases hr : (takeL st c).1
    · rw [hr] at ok; simp [hr] at ok
    · rw [hr] at ok
      rw [if_pos rfl] at ok ⊢
      have := ih (n + 1) _ (inv_place (inv_take hI c hr) _) ok j
      simp only [List.length_cons]; omega
theorem runes_len (s : ByteArray) : ∀ (f pos : Nat), (runes s f pos).length ≤ f := by
  intro f
  induction f with
  | zero => intro pos; simp [runes]
  | succ f ih => intro pos; simp only [runes]; split <;> simp [ih]
theorem parse_len (s : ByteArray) (hs : s.size ≤ 200) (ok : (parseL s).1 = true) (j : Nat) : ((parseL s).2.week j).length ≤ 1000 := by
  have := loop_len (chars s) 0 rs0 inv0 ok j
  have h2 := runes_len s s.size 0
  unfold parseL; unfold chars at *; omega
end Go.Proofs.YtcnmbldikjljeaaGreatDoor
namespace Go.Proofs.YtcnmbldikjljeaaGreatDoor
open Go.RowKit

abbrev P0 (b : Nat) : Value := .pointer (some ⟨b, 0, none⟩)

set_option maxRecDepth 100000 in
set_option maxHeartbeats 400000 in
theorem digit_yes (c : Int) (w : World) (h : isDig c) :
    Calls Tryz.prog 173 #[.int .i32 c] w fun e w' => e = .returned (.tuple #[.int .i64 (c - 48), .bool true]) ∧ w' = w := by
  obtain ⟨h0, h1⟩ := h
  go_enter Tryz.func173, Tryz.ntmps173
  go_wp2
  go_ret2
  exact ⟨rfl, rfl⟩
set_option maxRecDepth 100000 in
set_option maxHeartbeats 400000 in
theorem digit_no (c : Int) (w : World) (h : ¬ isDig c) :
    Calls Tryz.prog 173 #[.int .i32 c] w fun e w' => e = .returned (.tuple #[.int .i64 0, .bool false]) ∧ w' = w := by
  by_cases h0 : c < 48
  · go_enter Tryz.func173, Tryz.ntmps173
    go_wp2
    go_ret2
    exact ⟨rfl, rfl⟩
  · have h1 : 57 < c := by unfold isDig at h; omega
    clear h
    go_enter Tryz.func173, Tryz.ntmps173
    go_wp2
    go_ret2
    exact ⟨rfl, rfl⟩

section
variable {it : Obj} {B b : Nat} {w0 w : World} {s : RS} {vs : Nat → Value}
set_option maxRecDepth 100000 in
set_option maxHeartbeats 400000 in
theorem mark_any (R : RW it B b w0 w s vs) (c mark next : Int) :
    Calls Tryz.prog 148 #[P0 b, .int .i32 c, .int .i32 mark, .int .i64 next] w fun e w' => e = .returned (.bool (markL s c mark next).1) ∧ RW it B b w0 w' (markL s c mark next).2 vs := by
  by_cases h : c = mark
  · subst h
    have f0 := R.frz 0
    have g0 := R.c0
    go_enter Tryz.func148, Tryz.ntmps148
    go_wp2
    go_ret
    simp only [markL, if_pos]
    exact ⟨rfl, R.setSt next⟩
  · have hn : (c != mark) = true := by simp [h]
    go_enter Tryz.func148, Tryz.ntmps148
    go_wp2
    go_ret
    simp only [markL, if_neg h]
    exact ⟨rfl, R⟩
end
end Go.Proofs.YtcnmbldikjljeaaGreatDoor
