import Derived.Test.YtjmdepmeohenhaaDoorParseW
import Derived.Test.YtjmdepmeohenhaaDoorOpen
import Derived.Test.YtjmdepmeohenhaaDoorTxtWalk
namespace Go.Proofs.YtjmdepmeohenhaaDoor
open Go.RowKit

theorem loop_len (cs : List Int) : ∀ (n : Nat) (st : RS), Inv n st → (loopL cs st).1 = true → ∀ j, ((loopL cs st).2.week j).length ≤ n + cs.length := by
  induction cs with
  | nil =>
    intro n st hI _ j
    simp only [loopL, finishL]
    split
    · exact Nat.le_trans ((inv_endShort hI).wk j) (by simp)
    · exact Nat.le_trans (hI.wk j) (by simp)
  | cons c cs ih =>
    intro n st hI ok j
    simp only [loopL] at ok ⊢
    cases hr : (takeL st c).1
    · rw [hr] at ok; simp [hr] at ok
    · rw [hr] at ok
      rw [if_pos rfl] at ok ⊢
      have := ih (n + 1) _ (inv_place (inv_take hI c hr) _) ok j
      simp only [List.length_cons]; omega
theorem runes_len (s : ByteArray) : ∀ (f pos : Nat), (runes s f pos).length ≤ f := by
  intro f
  induction f with
  | zero => intro pos; simp [runes]
  | succ f ih => intro pos; simp only [runes]; split <;> simp [ih]
theorem parse_len (s : ByteArray) (hs : s.size ≤ 200) (ok : (parseL s).1 = true) (j : Nat) : ((parseL s).2.week j).length ≤ 1000 := by
  have := loop_len (chars s) 0 rs0 inv0 ok j
  have h2 := runes_len s s.size 0
  unfold parseL; unfold chars at *; omega

def moB : ByteArray := ⟨#[77, 111, 32, 48, 57, 58, 48, 48, 45, 49, 48, 58, 48, 48]⟩
theorem mo_ok : (parseL moB).1 = true := by kernel_rfl
theorem mo_540 : openL (parseL moB).2.week (parseL moB).2.free 540 = true := by kernel_rfl
theorem mo_600 : openL (parseL moB).2.week (parseL moB).2.free 600 = false := by kernel_rfl

set_option maxRecDepth 100000 in
set_option maxHeartbeats 1000000 in
theorem reads_any (w : World) (h0 : 0 < w.heap.size) (hnm : ∀ j, j < 7 → w.cell? ⟨0, j, none⟩ = some (nmV j)) :
    Calls Tryd.prog 17 #[] w fun e w' => e = .returned (.bool true) ∧ Below w.heap.size w w' := by
  have HNM := hide hnm
  clear hnm
  go_enter Tryd.func17, Tryd.ntmps17
  go_wp2_with fail
  refine (parse_any moB w h0 HNM.out (by decide)).mono ?_
  rintro e w1 ⟨hb1, ⟨_, g, hg, rfl, C⟩ | ⟨hno, _⟩⟩
  · go_wp2_with fail
    refine (open_any g _ _ _ _ C (by omega) (by omega) (parse_len moB (by decide) mo_ok)).mono ?_
    rw [mo_540]
    rintro e w2 ⟨rfl, hb2⟩
    go_wp2_with fail
    refine (open_any g _ _ _ _ (C.on hb2) (by omega) (by omega) (parse_len moB (by decide) mo_ok)).mono ?_
    rw [mo_600]
    rintro e w3 ⟨rfl, hb3⟩
    go_wp2_with fail
    go_ret
    exact ⟨rfl, hb1.trans ((hb2.mono hb1.size).trans (hb3.mono (Nat.le_trans hb1.size hb2.size)))⟩
  · rw [mo_ok] at hno; cases hno

end Go.Proofs.YtjmdepmeohenhaaDoor
