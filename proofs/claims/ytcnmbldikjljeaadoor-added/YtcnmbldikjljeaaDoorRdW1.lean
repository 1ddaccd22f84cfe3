import Derived.Test.YtcnmbldikjljeaaDoorRdL
import Derived.Deep.QuietTactic
import Derived.BigQuiet
namespace Go.Proofs.YtcnmbldikjljeaaDoor
open Go.RowKit

abbrev P0 (b : Nat) : Value := .pointer (some ⟨b, 0, none⟩)

set_option maxRecDepth 100000 in
set_option maxHeartbeats 400000 in
theorem digit_yes (c : Int) (w : World) (h : isDig c) :
    Calls Tryd.prog 40 #[.int .i32 c] w fun e w' => e = .returned (.tuple #[.int .i64 (c - 48), .bool true]) ∧ w' = w := by
  obtain ⟨h0, h1⟩ := h
  go_enter Tryd.func40, Tryd.ntmps40
  go_wp2
  go_ret2
  exact ⟨rfl, rfl⟩
set_option maxRecDepth 100000 in
set_option maxHeartbeats 400000 in
theorem digit_no (c : Int) (w : World) (h : ¬ isDig c) :
    Calls Tryd.prog 40 #[.int .i32 c] w fun e w' => e = .returned (.tuple #[.int .i64 0, .bool false]) ∧ w' = w := by
  by_cases h0 : c < 48
  · go_enter Tryd.func40, Tryd.ntmps40
    go_wp2
    go_ret2
    exact ⟨rfl, rfl⟩
  · have h1 : 57 < c := by unfold isDig at h; omega
    clear h
    go_enter Tryd.func40, Tryd.ntmps40
    go_wp2
    go_ret2
    exact ⟨rfl, rfl⟩

section
variable {it : Obj} {B b : Nat} {w0 w : World} {s : RS} {vs : Nat → Value}
set_option maxRecDepth 100000 in
set_option maxHeartbeats 400000 in
theorem mark_any (R : RW it B b w0 w s vs) (c mark next : Int) :
    Calls Tryd.prog 30 #[P0 b, .int .i32 c, .int .i32 mark, .int .i64 next] w fun e w' => e = .returned (.bool (markL s c mark next).1) ∧ RW it B b w0 w' (markL s c mark next).2 vs := by
  by_cases h : c = mark
  · subst h
    have f0 := R.frz 0
    have g0 := R.c0
    go_enter Tryd.func30, Tryd.ntmps30
    go_wp2
    go_ret
    simp only [markL, if_pos]
    exact ⟨rfl, R.setSt next⟩
  · have hn : (c != mark) = true := by simp [h]
    go_enter Tryd.func30, Tryd.ntmps30
    go_wp2
    go_ret
    simp only [markL, if_neg h]
    exact ⟨rfl, R⟩
end
end Go.Proofs.YtcnmbldikjljeaaDoor
