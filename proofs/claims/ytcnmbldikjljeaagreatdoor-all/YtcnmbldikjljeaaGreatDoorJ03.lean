import Derived.Test.YtcnmbldikjljeaaGreatDoorJ02
import Derived.Laws.RangeAny
import Derived.Deep.QuietTactic
import Derived.BigQuiet
namespace Go.Proofs.YtcnmbldikjljeaaGreatDoor
open Go.RowKit
/-- the characters of a text, as range gives them -/
def runes (s : ByteArray) : Nat → Nat → List Int
  | 0, _ => []
  | f + 1, pos => if pos < s.size then ((Utf8.decode s pos).1 : Int) :: runes s f (pos + (Utf8.decode s pos).2) else []
def chars (s : ByteArray) : List Int := runes s s.size 0
/-- what Parse answers: none, and the place; or the reader -/
def parseL (s : ByteArray) : Bool × RS := loopL (chars s) rs0
theorem width_pos (s : ByteArray) (pos : Nat) (h : pos < s.size) : 1 ≤ (Utf8.decode s pos).2 := by
  by_cases ha : (s[pos]'h).toNat < 128
  · rw [decode_ascii s pos h ha]; exact Nat.le_refl _
  · exact (decode_high s pos h (by omega)).2
theorem runes_end (s : ByteArray) (f pos : Nat) (h : ¬ pos < s.size) : runes s f pos = [] := by
  cases f with
  | zero => rfl
  | succ f => simp [runes, h]
theorem loop_yes {s : ByteArray} {f pos : Nat} {st : RS} {r : Bool × RS} (hp : pos < s.size) (h : loopL (runes s (f + 1) pos) st = r) (ok : (takeL st ((Utf8.decode s pos).1 : Int)).1 = true) :
    loopL (runes s f (pos + (Utf8.decode s pos).2)) { (takeL st ((Utf8.decode s pos).1 : Int)).2 with place := (takeL st ((Utf8.decode s pos).1 : Int)).2.place + 1 } = r := by
  rw [← h]; simp only [runes, if_pos hp, loopL, ok, if_true]
theorem loop_no {s : ByteArray} {f pos : Nat} {st : RS} {r : Bool × RS} (hp : pos < s.size) (h : loopL (runes s (f + 1) pos) st = r) (ok : (takeL st ((Utf8.decode s pos).1 : Int)).1 = false) :
    takeL st ((Utf8.decode s pos).1 : Int) = r := by
  rw [← h]; simp only [runes, if_pos hp, loopL, ok]; rfl
theorem loop_end {s : ByteArray} {f pos : Nat} {st : RS} {r : Bool × RS} (hp : ¬ pos < s.size) (h : loopL (runes s f pos) st = r) : finishL st = r := by
  rw [← h, runes_end s f pos hp]; rfl
theorem place_mark (s : RS) (c m n : Int) : (markL s c m n).2.place = s.place := by unfold markL; split <;> rfl
theorem place_timeDigit (s : RS) (c m n k : Int) : (timeDigitL s c m n k).2.place = s.place := by unfold timeDigitL; split <;> rfl
theorem place_endNum (s : RS) : (endNumL s).2.place = s.place := by unfold endNumL; split <;> rfl
theorem place_endTime (s : RS) : (endTimeL s).2.place = s.place := by unfold endTimeL; split; · rfl
                                                                      split <;> rfl
theorem place_endShort (s : RS) (h : (endShortL s).1 = true) : (endShortL s).2.place = s.place := by
  unfold endShortL at h ⊢
  split
  · exact place_endNum s
  · rename_i g; rw [if_neg g] at h; cases h
theorem place_take {n : Nat} {s : RS} (hI : Inv n s) (c : Int) (ok : (takeL s c).1 = true) : (takeL s c).2.place = s.place := by
  have hs : s.st = 0 ∨ s.st = 1 ∨ s.st = 2 ∨ s.st = 3 ∨ s.st = 4 ∨ s.st = 5 ∨ s.st = 6 ∨ s.st = 7 ∨ s.st = 8 ∨ s.st = 9 ∨ s.st = 10 ∨ s.st = 11 ∨ s.st = 12 := by
    have := hI.st0; have := hI.st1; omega
  rcases hs with e | e | e | e | e | e | e | e | e | e | e | e | e
  · rw [take_st0 c e]; unfold dayFirstL; split <;> rfl
  · rw [take_st1 c e]; unfold daySecondL; split <;> rfl
  · rw [take_st2 c e]; unfold dayEndL; split
    · rfl
    · exact place_mark _ _ _ _
  · rw [take_st3 c e]; exact place_timeDigit _ _ _ _ _
  · rw [take_st4 c e]; exact place_timeDigit _ _ _ _ _
  · rw [take_st5 c e]; exact place_mark _ _ _ _
  · rw [take_st6 c e]; exact place_timeDigit _ _ _ _ _
  · rw [take_st7 c e]; unfold minOnesL; split
    · rw [place_endTime, place_timeDigit]
    · exact place_timeDigit _ _ _ _ _
  · rw [take_st8 c e]; exact place_mark _ _ _ _
  · rw [take_st9 c e]; unfold spanEndL; split
    · rfl
    · split
      · rfl
      · exact place_mark _ _ _ _
  · rw [take_st10 c e]; unfold numFirstL; split <;> rfl
  · rw [take_st11 c e] at ok ⊢
    unfold numSecondL at ok ⊢
    split
    · split
      · rfl
      · rw [place_endNum]
    · rename_i g
      rw [if_neg g] at ok
      split
      · rename_i g2; rw [place_mark, place_endShort _ g2]
      · rename_i g2; rw [if_neg g2] at ok; exact absurd ok g2
  · rw [take_st12 c e]; exact place_mark _ _ _ _
theorem loop_len (cs : List Int) : ∀ (n : Nat) (st : RS), Inv n st → (loopL cs st).1 = true → ∀ j, ((loopL cs st).2.week j).length ≤ n + cs.length := by
  induction cs with
  | nil =>
    intro n st hI _ j
    simp only [loopL, finishL]
    split
    · exact Nat.le_trans ((inv_endShort hI).wk j) (by simp)
    · exact Nat.le_trans (hI.wk j) (by simp)
  | cons c cs ih =>
    intro n st hI ok j
    simp only [loopL] at ok ⊢
    cases hr : (takeL st c).1
    · rw [hr] at ok; simp [hr] at ok
    · rw [hr] at ok
      rw [if_pos rfl] at ok ⊢
      have := ih (n + 1) _ (inv_place (inv_take hI c hr) _) ok j
      simp only [List.length_cons]; omega
theorem runes_len (s : ByteArray) : ∀ (f pos : Nat), (runes s f pos).length ≤ f := by
  intro f
  induction f with
  | zero => intro pos; simp [runes]
  | succ f ih => intro pos; simp only [runes]; split <;> simp [ih]
theorem parse_len (s : ByteArray) (hs : s.size ≤ 200) (ok : (parseL s).1 = true) (j : Nat) : ((parseL s).2.week j).length ≤ 1000 := by
  have := loop_len (chars s) 0 rs0 inv0 ok j
  have h2 := runes_len s s.size 0
  unfold parseL; unfold chars at *; omega
end Go.Proofs.YtcnmbldikjljeaaGreatDoor
namespace Go.Proofs.YtcnmbldikjljeaaGreatDoor
open Go.RowKit

abbrev P0 (b : Nat) : Value := .pointer (some ⟨b, 0, none⟩)

set_option maxRecDepth 100000 in
set_option maxHeartbeats 400000 in
theorem digit_yes (c : Int) (w : World) (h : isDig c) :
    Calls Tryz.prog 173 #[.int .i32 c] w fun e w' => e = .returned (.tuple #[.int .i64 (c - 48), .bool true]) ∧ w' = w := by
  obtain ⟨h0, h1⟩ := h
  go_enter Tryz.func173, Tryz.ntmps173
  go_wp2
  go_ret2
  exact ⟨rfl, rfl⟩
set_option maxRecDepth 100000 in
set_option maxHeartbeats 400000 in
theorem digit_no (c : Int) (w : World) (h : ¬ isDig c) :
    Calls Tryz.prog 173 #[.int .i32 c] w fun e w' => e = .returned (.tuple #[.int .i64 0, .bool false]) ∧ w' = w := by
  by_cases h0 : c < 48
  · go_enter Tryz.func173, Tryz.ntmps173
    go_wp2
    go_ret2
    exact ⟨rfl, rfl⟩
  · have h1 : 57 < c := by unfold isDig at h; omega
    clear h
    go_enter Tryz.func173, Tryz.ntmps173
    go_wp2
    go_ret2
    exact ⟨rfl, rfl⟩

section
variable {it : Obj} {B b : Nat} {w0 w : World} {s : RS} {vs : Nat → Value}
set_option maxRecDepth 100000 in
set_option maxHeartbeats 400000 in
theorem mark_any (R : RW it B b w0 w s vs) (c mark next : Int) :
    Calls Tryz.prog 148 #[P0 b, .int .i32 c, .int .i32 mark, .int .i64 next] w fun e w' => e = .returned (.bool (markL s c mark next).1) ∧ RW it B b w0 w' (markL s c mark next).2 vs := by
  by_cases h : c = mark
  · subst h
    have f0 := R.frz 0
    have g0 := R.c0
    go_enter Tryz.func148, Tryz.ntmps148
    go_wp2
    go_ret
    simp only [markL, if_pos]
    exact ⟨rfl, R.setSt next⟩
  · have hn : (c != mark) = true := by simp [h]
    go_enter Tryz.func148, Tryz.ntmps148
    go_wp2
    go_ret
    simp only [markL, if_neg h]
    exact ⟨rfl, R⟩
end
end Go.Proofs.YtcnmbldikjljeaaGreatDoor
namespace Go.Proofs.YtcnmbldikjljeaaGreatDoor
open Go.RowKit

def nmAgg : Value := .agg #[.string ⟨#[77, 111]⟩, .string ⟨#[84, 117]⟩, .string ⟨#[87, 101]⟩, .string ⟨#[84, 104]⟩, .string ⟨#[70, 114]⟩, .string ⟨#[83, 97]⟩, .string ⟨#[83, 117]⟩]

theorem ix0 (w : World) : (Instr.index 262 (.agg #[.string ⟨#[77, 111]⟩, .string ⟨#[84, 117]⟩, .string ⟨#[87, 101]⟩, .string ⟨#[84, 104]⟩, .string ⟨#[70, 114]⟩, .string ⟨#[83, 97]⟩, .string ⟨#[83, 117]⟩]) (.int .i64 0)).run Tryz.prog w = .ok (.string ⟨#[77, 111]⟩) w := by kernel_rfl
theorem ix1 (w : World) : (Instr.index 262 (.agg #[.string ⟨#[77, 111]⟩, .string ⟨#[84, 117]⟩, .string ⟨#[87, 101]⟩, .string ⟨#[84, 104]⟩, .string ⟨#[70, 114]⟩, .string ⟨#[83, 97]⟩, .string ⟨#[83, 117]⟩]) (.int .i64 1)).run Tryz.prog w = .ok (.string ⟨#[84, 117]⟩) w := by kernel_rfl
theorem ix2 (w : World) : (Instr.index 262 (.agg #[.string ⟨#[77, 111]⟩, .string ⟨#[84, 117]⟩, .string ⟨#[87, 101]⟩, .string ⟨#[84, 104]⟩, .string ⟨#[70, 114]⟩, .string ⟨#[83, 97]⟩, .string ⟨#[83, 117]⟩]) (.int .i64 2)).run Tryz.prog w = .ok (.string ⟨#[87, 101]⟩) w := by kernel_rfl
theorem ix3 (w : World) : (Instr.index 262 (.agg #[.string ⟨#[77, 111]⟩, .string ⟨#[84, 117]⟩, .string ⟨#[87, 101]⟩, .string ⟨#[84, 104]⟩, .string ⟨#[70, 114]⟩, .string ⟨#[83, 97]⟩, .string ⟨#[83, 117]⟩]) (.int .i64 3)).run Tryz.prog w = .ok (.string ⟨#[84, 104]⟩) w := by kernel_rfl
theorem ix4 (w : World) : (Instr.index 262 (.agg #[.string ⟨#[77, 111]⟩, .string ⟨#[84, 117]⟩, .string ⟨#[87, 101]⟩, .string ⟨#[84, 104]⟩, .string ⟨#[70, 114]⟩, .string ⟨#[83, 97]⟩, .string ⟨#[83, 117]⟩]) (.int .i64 4)).run Tryz.prog w = .ok (.string ⟨#[70, 114]⟩) w := by kernel_rfl
theorem ix5 (w : World) : (Instr.index 262 (.agg #[.string ⟨#[77, 111]⟩, .string ⟨#[84, 117]⟩, .string ⟨#[87, 101]⟩, .string ⟨#[84, 104]⟩, .string ⟨#[70, 114]⟩, .string ⟨#[83, 97]⟩, .string ⟨#[83, 117]⟩]) (.int .i64 5)).run Tryz.prog w = .ok (.string ⟨#[83, 97]⟩) w := by kernel_rfl
theorem ix6 (w : World) : (Instr.index 262 (.agg #[.string ⟨#[77, 111]⟩, .string ⟨#[84, 117]⟩, .string ⟨#[87, 101]⟩, .string ⟨#[84, 104]⟩, .string ⟨#[70, 114]⟩, .string ⟨#[83, 97]⟩, .string ⟨#[83, 117]⟩]) (.int .i64 6)).run Tryz.prog w = .ok (.string ⟨#[83, 117]⟩) w := by kernel_rfl

theorem uu0 : wrap32 ↑((⟨#[77, 111]⟩ : ByteArray)[0]'(by decide)).toNat = 77 := by kernel_rfl
theorem vv0 : wrap32 ↑((⟨#[77, 111]⟩ : ByteArray)[1]'(by decide)).toNat = 111 := by kernel_rfl
theorem uu1 : wrap32 ↑((⟨#[84, 117]⟩ : ByteArray)[0]'(by decide)).toNat = 84 := by kernel_rfl
theorem vv1 : wrap32 ↑((⟨#[84, 117]⟩ : ByteArray)[1]'(by decide)).toNat = 117 := by kernel_rfl
theorem uu2 : wrap32 ↑((⟨#[87, 101]⟩ : ByteArray)[0]'(by decide)).toNat = 87 := by kernel_rfl
theorem vv2 : wrap32 ↑((⟨#[87, 101]⟩ : ByteArray)[1]'(by decide)).toNat = 101 := by kernel_rfl
theorem uu3 : wrap32 ↑((⟨#[84, 104]⟩ : ByteArray)[0]'(by decide)).toNat = 84 := by kernel_rfl
theorem vv3 : wrap32 ↑((⟨#[84, 104]⟩ : ByteArray)[1]'(by decide)).toNat = 104 := by kernel_rfl
theorem uu4 : wrap32 ↑((⟨#[70, 114]⟩ : ByteArray)[0]'(by decide)).toNat = 70 := by kernel_rfl
theorem vv4 : wrap32 ↑((⟨#[70, 114]⟩ : ByteArray)[1]'(by decide)).toNat = 114 := by kernel_rfl
theorem uu5 : wrap32 ↑((⟨#[83, 97]⟩ : ByteArray)[0]'(by decide)).toNat = 83 := by kernel_rfl
theorem vv5 : wrap32 ↑((⟨#[83, 97]⟩ : ByteArray)[1]'(by decide)).toNat = 97 := by kernel_rfl
theorem uu6 : wrap32 ↑((⟨#[83, 117]⟩ : ByteArray)[0]'(by decide)).toNat = 83 := by kernel_rfl
theorem vv6 : wrap32 ↑((⟨#[83, 117]⟩ : ByteArray)[1]'(by decide)).toNat = 117 := by kernel_rfl

section
variable {it : Obj} {B b : Nat} {w0 w : World} {s : RS} {vs : Nat → Value}
set_option maxRecDepth 100000 in
set_option maxHeartbeats 4000000 in
theorem dayFirst_any (R : RW it B b w0 w s vs) (c : Int) :
    Calls Tryz.prog 144 #[P0 b, .int .i32 c] w fun e w' => e = .returned (.bool (dayFirstL s c).1) ∧ RW it B b w0 w' (dayFirstL s c).2 vs := by
  have n0 : w.cell? ⟨0, 0, none⟩ = some (.string ⟨#[77, 111]⟩) := R.names 0 (by omega)
  have n1 : w.cell? ⟨0, 1, none⟩ = some (.string ⟨#[84, 117]⟩) := R.names 1 (by omega)
  have n2 : w.cell? ⟨0, 2, none⟩ = some (.string ⟨#[87, 101]⟩) := R.names 2 (by omega)
  have n3 : w.cell? ⟨0, 3, none⟩ = some (.string ⟨#[84, 104]⟩) := R.names 3 (by omega)
  have n4 : w.cell? ⟨0, 4, none⟩ = some (.string ⟨#[70, 114]⟩) := R.names 4 (by omega)
  have n5 : w.cell? ⟨0, 5, none⟩ = some (.string ⟨#[83, 97]⟩) := R.names 5 (by omega)
  have n6 : w.cell? ⟨0, 6, none⟩ = some (.string ⟨#[83, 117]⟩) := R.names 6 (by omega)
  go_enter Tryz.func144, Tryz.ntmps144
  go_wp2
  clear n0 n1 n2 n3 n4 n5 n6
  have f0 := R.frz 0
  have g0 := R.c0
  have f2 := R.frz 2
  have g2 := R.c2
  have i0 := ix0
  have i1 := ix1
  have i2 := ix2
  have i3 := ix3
  have i4 := ix4
  have i5 := ix5
  have i6 := ix6
  have u0 := uu0
  have u1 := uu1
  have u2 := uu2
  have u3 := uu3
  have u4 := uu4
  have u5 := uu5
  have u6 := uu6
  go_loopw [8] (fun i wr => ∃ k : Int, 0 ≤ k ∧ k ≤ 7 ∧ i = .int .i64 k ∧ wr = w ∧ Hid ((1 ≤ k → c ≠ 77) ∧ (2 ≤ k → c ≠ 84) ∧ (3 ≤ k → c ≠ 87) ∧ (5 ≤ k → c ≠ 70) ∧ (6 ≤ k → c ≠ 83))) (fun i _ => 7 - (intOf i).toNat)
  case atStart => exact ⟨0, by omega, by omega, rfl, rfl, by unfold Hid; omega⟩
  case round =>
    obtain ⟨k, hk0, hk7, rfl, rfl, H⟩ := hrel
    have hks : k = 7 ∨ k = 0 ∨ k = 1 ∨ k = 2 ∨ k = 3 ∨ k = 4 ∨ k = 5 ∨ k = 6 := by omega
    rcases hks with rfl | hks
    · have hc : isFirst c = false := by have := H.out; simp only [isFirst]; simp; omega
      have HC := hide hc
      clear hc i0 i1 i2 i3 i4 i5 i6
      go_wp2
      go_ret
      simp only [dayFirstL, HC.out]
      exact ⟨rfl, R⟩
    · rcases hks with rfl | rfl | rfl | rfl | rfl | rfl | rfl
      all_goals
        go_wp2
        · go_ret
          rename_i hc
          have hc' := eq_of_beq hc
          subst hc'
          exact ⟨rfl, (R.setLetter _).setSt 1⟩
        · go_roundw
          case rel =>
            have hH := H.out
            rename_i hc
            have hc' := ne_of_beq_false hc
            refine ⟨_, ?_, ?_, rfl, by trivial, ?_⟩
            · omega
            · omega
            · unfold Hid; omega
          case measure => simp [intOf]

theorem daySecond_yes {s : RS} {c : Int} {k : Nat} (h : dayOf s.letter c = k) (hk : k < 7) : daySecondL s c = (true, { s with days := fun j => if j = k then true else s.days j, st := 2 }) := by
  subst h; unfold daySecondL; rw [if_pos hk]
set_option maxRecDepth 100000 in
set_option maxHeartbeats 8000000 in
theorem daySecond_any (R : RW it B b w0 w s vs) (c : Int) :
    Calls Tryz.prog 145 #[P0 b, .int .i32 c] w fun e w' => e = .returned (.bool (daySecondL s c).1) ∧ RW it B b w0 w' (daySecondL s c).2 vs := by
  have n0 : w.cell? ⟨0, 0, none⟩ = some (.string ⟨#[77, 111]⟩) := R.names 0 (by omega)
  have n1 : w.cell? ⟨0, 1, none⟩ = some (.string ⟨#[84, 117]⟩) := R.names 1 (by omega)
  have n2 : w.cell? ⟨0, 2, none⟩ = some (.string ⟨#[87, 101]⟩) := R.names 2 (by omega)
  have n3 : w.cell? ⟨0, 3, none⟩ = some (.string ⟨#[84, 104]⟩) := R.names 3 (by omega)
  have n4 : w.cell? ⟨0, 4, none⟩ = some (.string ⟨#[70, 114]⟩) := R.names 4 (by omega)
  have n5 : w.cell? ⟨0, 5, none⟩ = some (.string ⟨#[83, 97]⟩) := R.names 5 (by omega)
  have n6 : w.cell? ⟨0, 6, none⟩ = some (.string ⟨#[83, 117]⟩) := R.names 6 (by omega)
  go_enter Tryz.func145, Tryz.ntmps145
  go_wp2
  clear n0 n1 n2 n3 n4 n5 n6
  have i0 := ix0
  have i1 := ix1
  have i2 := ix2
  have i3 := ix3
  have i4 := ix4
  have i5 := ix5
  have i6 := ix6
  have u0 := uu0
  have v0 := vv0
  have u1 := uu1
  have v1 := vv1
  have u2 := uu2
  have v2 := vv2
  have u3 := uu3
  have v3 := vv3
  have u4 := uu4
  have v4 := vv4
  have u5 := uu5
  have v5 := vv5
  have u6 := uu6
  have v6 := vv6
  go_loopw [8] (fun i wr => ∃ k : Int, 0 ≤ k ∧ k ≤ 7 ∧ i = .int .i64 k ∧ RW it B b w0 wr s vs ∧ Hid ((1 ≤ k → ¬ (s.letter = 77 ∧ c = 111)) ∧ (2 ≤ k → ¬ (s.letter = 84 ∧ c = 117)) ∧ (3 ≤ k → ¬ (s.letter = 87 ∧ c = 101)) ∧ (4 ≤ k → ¬ (s.letter = 84 ∧ c = 104)) ∧ (5 ≤ k → ¬ (s.letter = 70 ∧ c = 114)) ∧ (6 ≤ k → ¬ (s.letter = 83 ∧ c = 97)) ∧ (7 ≤ k → ¬ (s.letter = 83 ∧ c = 117)))) (fun i _ => 7 - (intOf i).toNat)
  case atStart => exact ⟨0, by omega, by omega, rfl, R, by unfold Hid; omega⟩
  case round =>
    obtain ⟨k, hk0, hk7, rfl, R2, H⟩ := hrel
    have g2 := R2.c2
    have hks : k = 7 ∨ k = 0 ∨ k = 1 ∨ k = 2 ∨ k = 3 ∨ k = 4 ∨ k = 5 ∨ k = 6 := by omega
    rcases hks with rfl | hks
    · have hc : dayOf s.letter c = 7 := by have := H.out; simp only [dayOf]; repeat (rw [if_neg (by omega)])
      have HC := hide hc
      clear hc i0 i1 i2 i3 i4 i5 i6
      go_wp2
      go_ret
      simp only [daySecondL, HC.out]
      exact ⟨rfl, R2⟩
    · have f0 := R2.frz 0
      have g0 := R2.c0
      rcases hks with rfl | rfl | rfl | rfl | rfl | rfl | rfl
      · have fk := R2.frz 3
        have gk := R2.cd 0 (by omega)
        simp only [Nat.reduceAdd] at gk
        by_cases hl : s.letter = 77
        · have e1 : (s.letter == 77) = true := by simp [hl]
          by_cases hc : c = 111
          · have e2 : (c == 111) = true := by simp [hc]
            have HD := hide (daySecond_yes (k := 0) (show dayOf s.letter c = 0 by rw [hl, hc]; rfl) (by omega))
            clear hl hc
            go_wp2
            go_quiet (fail)
            go_wp2
            go_ret
            rw [HD.out]
            exact ⟨rfl, ((R2.drewN _).setDay 0 (by omega) true).setSt 2⟩
          · have e2 : (c == 111) = false := by simp [hc]
            have hc2 := hide hc
            clear hl hc
            go_wp2
            go_quiet (fail)
            go_wp2
            go_roundw
            case rel =>
              have hH := H.out
              have := hc2.out
              refine ⟨1, by omega, by omega, rfl, R2.drewN _, by unfold Hid; omega⟩
            case measure => simp [intOf]
        · have e1 : (s.letter == 77) = false := by simp [hl]
          have hl2 := hide hl
          clear hl
          go_wp2
          go_quiet (fail)
          go_wp2
          go_roundw
          case rel =>
            have hH := H.out
            have := hl2.out
            refine ⟨1, by omega, by omega, rfl, R2.drewN _, by unfold Hid; omega⟩
          case measure => simp [intOf]
      · have fk := R2.frz 4
        have gk := R2.cd 1 (by omega)
        simp only [Nat.reduceAdd] at gk
        by_cases hl : s.letter = 84
        · have e1 : (s.letter == 84) = true := by simp [hl]
          by_cases hc : c = 117
          · have e2 : (c == 117) = true := by simp [hc]
            have HD := hide (daySecond_yes (k := 1) (show dayOf s.letter c = 1 by rw [hl, hc]; rfl) (by omega))
            clear hl hc
            go_wp2
            go_quiet (fail)
            go_wp2
            go_ret
            rw [HD.out]
            exact ⟨rfl, ((R2.drewN _).setDay 1 (by omega) true).setSt 2⟩
          · have e2 : (c == 117) = false := by simp [hc]
            have hc2 := hide hc
            clear hl hc
            go_wp2
            go_quiet (fail)
            go_wp2
            go_roundw
            case rel =>
              have hH := H.out
              have := hc2.out
              refine ⟨2, by omega, by omega, rfl, R2.drewN _, by unfold Hid; omega⟩
            case measure => simp [intOf]
        · have e1 : (s.letter == 84) = false := by simp [hl]
          have hl2 := hide hl
          clear hl
          go_wp2
          go_quiet (fail)
          go_wp2
          go_roundw
          case rel =>
            have hH := H.out
            have := hl2.out
            refine ⟨2, by omega, by omega, rfl, R2.drewN _, by unfold Hid; omega⟩
          case measure => simp [intOf]
      · have fk := R2.frz 5
        have gk := R2.cd 2 (by omega)
        simp only [Nat.reduceAdd] at gk
        by_cases hl : s.letter = 87
        · have e1 : (s.letter == 87) = true := by simp [hl]
          by_cases hc : c = 101
          · have e2 : (c == 101) = true := by simp [hc]
            have HD := hide (daySecond_yes (k := 2) (show dayOf s.letter c = 2 by rw [hl, hc]; rfl) (by omega))
            clear hl hc
            go_wp2
            go_quiet (fail)
            go_wp2
            go_ret
            rw [HD.out]
            exact ⟨rfl, ((R2.drewN _).setDay 2 (by omega) true).setSt 2⟩
          · have e2 : (c == 101) = false := by simp [hc]
            have hc2 := hide hc
            clear hl hc
            go_wp2
            go_quiet (fail)
            go_wp2
            go_roundw
            case rel =>
              have hH := H.out
              have := hc2.out
              refine ⟨3, by omega, by omega, rfl, R2.drewN _, by unfold Hid; omega⟩
            case measure => simp [intOf]
        · have e1 : (s.letter == 87) = false := by simp [hl]
          have hl2 := hide hl
          clear hl
          go_wp2
          go_quiet (fail)
          go_wp2
          go_roundw
          case rel =>
            have hH := H.out
            have := hl2.out
            refine ⟨3, by omega, by omega, rfl, R2.drewN _, by unfold Hid; omega⟩
          case measure => simp [intOf]
      · have fk := R2.frz 6
        have gk := R2.cd 3 (by omega)
        simp only [Nat.reduceAdd] at gk
        by_cases hl : s.letter = 84
        · have e1 : (s.letter == 84) = true := by simp [hl]
          by_cases hc : c = 104
          · have e2 : (c == 104) = true := by simp [hc]
            have HD := hide (daySecond_yes (k := 3) (show dayOf s.letter c = 3 by rw [hl, hc]; rfl) (by omega))
            clear hl hc
            go_wp2
            go_quiet (fail)
            go_wp2
            go_ret
            rw [HD.out]
            exact ⟨rfl, ((R2.drewN _).setDay 3 (by omega) true).setSt 2⟩
          · have e2 : (c == 104) = false := by simp [hc]
            have hc2 := hide hc
            clear hl hc
            go_wp2
            go_quiet (fail)
            go_wp2
            go_roundw
            case rel =>
              have hH := H.out
              have := hc2.out
              refine ⟨4, by omega, by omega, rfl, R2.drewN _, by unfold Hid; omega⟩
            case measure => simp [intOf]
        · have e1 : (s.letter == 84) = false := by simp [hl]
          have hl2 := hide hl
          clear hl
          go_wp2
          go_quiet (fail)
          go_wp2
          go_roundw
          case rel =>
            have hH := H.out
            have := hl2.out
            refine ⟨4, by omega, by omega, rfl, R2.drewN _, by unfold Hid; omega⟩
          case measure => simp [intOf]
      · have fk := R2.frz 7
        have gk := R2.cd 4 (by omega)
        simp only [Nat.reduceAdd] at gk
        by_cases hl : s.letter = 70
        · have e1 : (s.letter == 70) = true := by simp [hl]
          by_cases hc : c = 114
          · have e2 : (c == 114) = true := by simp [hc]
            have HD := hide (daySecond_yes (k := 4) (show dayOf s.letter c = 4 by rw [hl, hc]; rfl) (by omega))
            clear hl hc
            go_wp2
            go_quiet (fail)
            go_wp2
            go_ret
            rw [HD.out]
            exact ⟨rfl, ((R2.drewN _).setDay 4 (by omega) true).setSt 2⟩
          · have e2 : (c == 114) = false := by simp [hc]
            have hc2 := hide hc
            clear hl hc
            go_wp2
            go_quiet (fail)
            go_wp2
            go_roundw
            case rel =>
              have hH := H.out
              have := hc2.out
              refine ⟨5, by omega, by omega, rfl, R2.drewN _, by unfold Hid; omega⟩
            case measure => simp [intOf]
        · have e1 : (s.letter == 70) = false := by simp [hl]
          have hl2 := hide hl
          clear hl
          go_wp2
          go_quiet (fail)
          go_wp2
          go_roundw
          case rel =>
            have hH := H.out
            have := hl2.out
            refine ⟨5, by omega, by omega, rfl, R2.drewN _, by unfold Hid; omega⟩
          case measure => simp [intOf]
      · have fk := R2.frz 8
        have gk := R2.cd 5 (by omega)
        simp only [Nat.reduceAdd] at gk
        by_cases hl : s.letter = 83
        · have e1 : (s.letter == 83) = true := by simp [hl]
          by_cases hc : c = 97
          · have e2 : (c == 97) = true := by simp [hc]
            have HD := hide (daySecond_yes (k := 5) (show dayOf s.letter c = 5 by rw [hl, hc]; rfl) (by omega))
            clear hl hc
            go_wp2
            go_quiet (fail)
            go_wp2
            go_ret
            rw [HD.out]
            exact ⟨rfl, ((R2.drewN _).setDay 5 (by omega) true).setSt 2⟩
          · have e2 : (c == 97) = false := by simp [hc]
            have hc2 := hide hc
            clear hl hc
            go_wp2
            go_quiet (fail)
            go_wp2
            go_roundw
            case rel =>
              have hH := H.out
              have := hc2.out
              refine ⟨6, by omega, by omega, rfl, R2.drewN _, by unfold Hid; omega⟩
            case measure => simp [intOf]
        · have e1 : (s.letter == 83) = false := by simp [hl]
          have hl2 := hide hl
          clear hl
          go_wp2
          go_quiet (fail)
          go_wp2
          go_roundw
          case rel =>
            have hH := H.out
            have := hl2.out
            refine ⟨6, by omega, by omega, rfl, R2.drewN _, by unfold Hid; omega⟩
          case measure => simp [intOf]
      · have fk := R2.frz 9
        have gk := R2.cd 6 (by omega)
        simp only [Nat.reduceAdd] at gk
        by_cases hl : s.letter = 83
        · have e1 : (s.letter == 83) = true := by simp [hl]
          by_cases hc : c = 117
          · have e2 : (c == 117) = true := by simp [hc]
            have HD := hide (daySecond_yes (k := 6) (show dayOf s.letter c = 6 by rw [hl, hc]; rfl) (by omega))
            clear hl hc
            go_wp2
            go_quiet (fail)
            go_wp2
            go_ret
            rw [HD.out]
            exact ⟨rfl, ((R2.drewN _).setDay 6 (by omega) true).setSt 2⟩
          · have e2 : (c == 117) = false := by simp [hc]
            have hc2 := hide hc
            clear hl hc
            go_wp2
            go_quiet (fail)
            go_wp2
            go_roundw
            case rel =>
              have hH := H.out
              have := hc2.out
              refine ⟨7, by omega, by omega, rfl, R2.drewN _, by unfold Hid; omega⟩
            case measure => simp [intOf]
        · have e1 : (s.letter == 83) = false := by simp [hl]
          have hl2 := hide hl
          clear hl
          go_wp2
          go_quiet (fail)
          go_wp2
          go_roundw
          case rel =>
            have hH := H.out
            have := hl2.out
            refine ⟨7, by omega, by omega, rfl, R2.drewN _, by unfold Hid; omega⟩
          case measure => simp [intOf]
end
end Go.Proofs.YtcnmbldikjljeaaGreatDoor
