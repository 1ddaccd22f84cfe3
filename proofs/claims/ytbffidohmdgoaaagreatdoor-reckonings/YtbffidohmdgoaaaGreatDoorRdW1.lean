import Derived.Test.YtbffidohmdgoaaaGreatDoorRdL
import Derived.Deep.QuietTactic
import Derived.BigQuiet
namespace Go.Proofs.YtbffidohmdgoaaaGreatDoor
open Go.RowKit

abbrev P0 (b : Nat) : Value := .pointer (some ⟨b, 0, none⟩)

set_option maxRecDepth 100000 in
set_option maxHeartbeats 400000 in
theorem digit_yes (c : Int) (w : World) (h : isDig c) :
    Calls Tryz.prog 165 #[.int .i32 c] w fun e w' => e = .returned (.tuple #[.int .i64 (c - 48), .bool true]) ∧ w' = w := by
  obtain ⟨h0, h1⟩ := h
  go_enter Tryz.func165, Tryz.ntmps165
  go_wp2
  go_ret2
  exact ⟨rfl, rfl⟩
set_option maxRecDepth 100000 in
set_option maxHeartbeats 400000 in
theorem digit_no (c : Int) (w : World) (h : ¬ isDig c) :
    Calls Tryz.prog 165 #[.int .i32 c] w fun e w' => e = .returned (.tuple #[.int .i64 0, .bool false]) ∧ w' = w := by
  by_cases h0 : c < 48
  · go_enter Tryz.func165, Tryz.ntmps165
    go_wp2
    go_ret2
    exact ⟨rfl, rfl⟩
  · have h1 : 57 < c := by unfold isDig at h; omega
    clear h
    go_enter Tryz.func165, Tryz.ntmps165
    go_wp2
    go_ret2
    exact ⟨rfl, rfl⟩

section
variable {it : Obj} {B b : Nat} {w0 w : World} {s : RS} {vs : Nat → Value}
set_option maxRecDepth 100000 in
set_option maxHeartbeats 400000 in
theorem mark_any (R : RW it B b w0 w s vs) (c mark next : Int) :
    Calls Tryz.prog 140 #[P0 b, .int .i32 c, .int .i32 mark, .int .i64 next] w fun e w' => e = .returned (.bool (markL s c mark next).1) ∧ RW it B b w0 w' (markL s c mark next).2 vs := by
  by_cases h : c = mark
  · subst h
    have f0 := R.frz 0
    have g0 := R.c0
    go_enter Tryz.func140, Tryz.ntmps140
    go_wp2
    go_ret
    simp only [markL, if_pos]
    exact ⟨rfl, R.setSt next⟩
  · have hn : (c != mark) = true := by simp [h]
    go_enter Tryz.func140, Tryz.ntmps140
    go_wp2
    go_ret
    simp only [markL, if_neg h]
    exact ⟨rfl, R⟩
end
end Go.Proofs.YtbffidohmdgoaaaGreatDoor
