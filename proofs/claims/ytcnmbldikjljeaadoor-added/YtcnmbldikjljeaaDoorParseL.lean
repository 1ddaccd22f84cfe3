import Derived.Test.YtcnmbldikjljeaaDoorRdL
import Derived.Laws.RangeAny
namespace Go.Proofs.YtcnmbldikjljeaaDoor
open Go.RowKit
/-- the characters of a text, as range gives them -/
def runes (s : ByteArray) : Nat → Nat → List Int
  | 0, _ => []
  | f + 1, pos => if pos < s.size then ((Utf8.decode s pos).1 : Int) :: runes s f (pos + (Utf8.decode s pos).2) else []
def chars (s : ByteArray) : List Int := runes s s.size 0
/-- what Parse answers: none, and the place; or the reader -/
def parseL (s : ByteArray) : Bool × RS := loopL (chars s) rs0
theorem width_pos (s : ByteArray) (pos : Nat) (h : pos < s.size) : 1 ≤ (Utf8.decode s pos).2 := by
  by_cases ha : (s[pos]'h).toNat < 128
  · rw [decode_ascii s pos h ha]; exact Nat.le_refl _
  · exact (decode_high s pos h (by omega)).2
theorem runes_end (s : ByteArray) (f pos : Nat) (h : ¬ pos < s.size) : runes s f pos = [] := by
  cases f with
  | zero => rfl
  | succ f => simp [runes, h]
theorem loop_yes {s : ByteArray} {f pos : Nat} {st : RS} {r : Bool × RS} (hp : pos < s.size) (h : loopL (runes s (f + 1) pos) st = r) (ok : (takeL st ((Utf8.decode s pos).1 : Int)).1 = true) :
    loopL (runes s f (pos + (Utf8.decode s pos).2)) { (takeL st ((Utf8.decode s pos).1 : Int)).2 with place := (takeL st ((Utf8.decode s pos).1 : Int)).2.place + 1 } = r := by
  rw [← h]; simp only [runes, if_pos hp, loopL, ok, if_true]
theorem loop_no {s : ByteArray} {f pos : Nat} {st : RS} {r : Bool × RS} (hp : pos < s.size) (h : loopL (runes s (f + 1) pos) st = r) (ok : (takeL st ((Utf8.decode s pos).1 : Int)).1 = false) :
    takeL st ((Utf8.decode s pos).1 : Int) = r := by
  rw [← h]; simp only [runes, if_pos hp, loopL, ok]; rfl
theorem loop_end {s : ByteArray} {f pos : Nat} {st : RS} {r : Bool × RS} (hp : ¬ pos < s.size) (h : loopL (runes s f pos) st = r) : finishL st = r := by
  rw [← h, runes_end s f pos hp]; rfl
theorem place_mark (s : RS) (c m n : Int) : (markL s c m n).2.place = s.place := by unfold markL; split <;> rfl
theorem place_timeDigit (s : RS) (c m n k : Int) : (timeDigitL s c m n k).2.place = s.place := by unfold timeDigitL; split <;> rfl
theorem place_endNum (s : RS) : (endNumL s).2.place = s.place := by unfold endNumL; split <;> rfl
theorem place_endTime (s : RS) : (endTimeL s).2.place = s.place := by unfold endTimeL; split; · rfl
                                                                      split <;> rfl
theorem place_endShort (s : RS) (h : (endShortL s).1 = true) : (endShortL s).2.place = s.place := by
  unfold endShortL at h ⊢
  split
  · exact place_endNum s
  · rename_i g; rw [if_neg g] at h; cases h
theorem place_take {n : Nat} {s : RS} (hI : Inv n s) (c : Int) (ok : (takeL s c).1 = true) : (takeL s c).2.place = s.place := by
  have hs : s.st = 0 ∨ s.st = 1 ∨ s.st = 2 ∨ s.st = 3 ∨ s.st = 4 ∨ s.st = 5 ∨ s.st = 6 ∨ s.st = 7 ∨ s.st = 8 ∨ s.st = 9 ∨ s.st = 10 ∨ s.st = 11 ∨ s.st = 12 := by
    have := hI.st0; have := hI.st1; omega
  rcases hs with e | e | e | e | e | e | e | e | e | e | e | e | e
  · rw [take_st0 c e]; unfold dayFirstL; split <;> rfl
  · rw [take_st1 c e]; unfold daySecondL; split <;> rfl
  · rw [take_st2 c e]; unfold dayEndL; split
    · rfl
    · exact place_mark _ _ _ _
  · rw [take_st3 c e]; exact place_timeDigit _ _ _ _ _
  · rw [take_st4 c e]; exact place_timeDigit _ _ _ _ _
  · rw [take_st5 c e]; exact place_mark _ _ _ _
  · rw [take_st6 c e]; exact place_timeDigit _ _ _ _ _
  · rw [take_st7 c e]; unfold minOnesL; split
    · rw [place_endTime, place_timeDigit]
    · exact place_timeDigit _ _ _ _ _
  · rw [take_st8 c e]; exact place_mark _ _ _ _
  · rw [take_st9 c e]; unfold spanEndL; split
    · rfl
    · split
      · rfl
      · exact place_mark _ _ _ _
  · rw [take_st10 c e]; unfold numFirstL; split <;> rfl
  · rw [take_st11 c e] at ok ⊢
    unfold numSecondL at ok ⊢
    split
    · split
      · rfl
      · rw [place_endNum]
    · rename_i g
      rw [if_neg g] at ok
      split
      · rename_i g2; rw [place_mark, place_endShort _ g2]
      · rename_i g2; rw [if_neg g2] at ok; exact absurd ok g2
  · rw [take_st12 c e]; exact place_mark _ _ _ _
theorem loop_len (cs : List Int) : ∀ (n : Nat) (st : RS), Inv n st → (loopL cs st).1 = true → ∀ j, ((loopL cs st).2.week j).length ≤ n + cs.length := by
  induction cs with
  | nil =>
    intro n st hI _ j
    simp only [loopL, finishL]
    split
    · exact Nat.le_trans ((inv_endShort hI).wk j) (by simp)
    · exact Nat.le_trans (hI.wk j) (by simp)
  | cons c cs ih =>
    intro n st hI ok j
    simp only [loopL] at ok ⊢
    cases hr : (takeL st c).1
    · rw [hr] at ok; simp [hr] at ok
    · rw [hr] at ok
      rw [if_pos rfl] at ok ⊢
      have := ih (n + 1) _ (inv_place (inv_take hI c hr) _) ok j
      simp only [List.length_cons]; omega
theorem runes_len (s : ByteArray) : ∀ (f pos : Nat), (runes s f pos).length ≤ f := by
  intro f
  induction f with
  | zero => intro pos; simp [runes]
  | succ f ih => intro pos; simp only [runes]; split <;> simp [ih]
theorem parse_len (s : ByteArray) (hs : s.size ≤ 200) (ok : (parseL s).1 = true) (j : Nat) : ((parseL s).2.week j).length ≤ 1000 := by
  have := loop_len (chars s) 0 rs0 inv0 ok j
  have h2 := runes_len s s.size 0
  unfold parseL; unfold chars at *; omega
end Go.Proofs.YtcnmbldikjljeaaDoor
