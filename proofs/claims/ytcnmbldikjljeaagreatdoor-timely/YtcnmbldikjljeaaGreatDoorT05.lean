import Derived.Test.YtcnmbldikjljeaaGreatDoorT04
namespace Go.Proofs.YtcnmbldikjljeaaGreatDoor
open Go.RowKit

def nmAgg : Value := .agg #[.string ⟨#[77, 111]⟩, .string ⟨#[84, 117]⟩, .string ⟨#[87, 101]⟩, .string ⟨#[84, 104]⟩, .string ⟨#[70, 114]⟩, .string ⟨#[83, 97]⟩, .string ⟨#[83, 117]⟩]

theorem ix0 (w : World) : (Instr.index 262 (.agg #[.string ⟨#[77, 111]⟩, .string ⟨#[84, 117]⟩, .string ⟨#[87, 101]⟩, .string ⟨#[84, 104]⟩, .string ⟨#[70, 114]⟩, .string ⟨#[83, 97]⟩, .string ⟨#[83, 117]⟩]) (.int .i64 0)).run Tryz.prog w = .ok (.string ⟨#[77, 111]⟩) w := by kernel_rfl
theorem ix1 (w : World) : (Instr.index 262 (.agg #[.string ⟨#[77, 111]⟩, .string ⟨#[84, 117]⟩, .string ⟨#[87, 101]⟩, .string ⟨#[84, 104]⟩, .string ⟨#[70, 114]⟩, .string ⟨#[83, 97]⟩, .string ⟨#[83, 117]⟩]) (.int .i64 1)).run Tryz.prog w = .ok (.string ⟨#[84, 117]⟩) w := by kernel_rfl
theorem ix2 (w : World) : (Instr.index 262 (.agg #[.string ⟨#[77, 111]⟩, .string ⟨#[84, 117]⟩, .string ⟨#[87, 101]⟩, .string ⟨#[84, 104]⟩, .string ⟨#[70, 114]⟩, .string ⟨#[83, 97]⟩, .string ⟨#[83, 117]⟩]) (.int .i64 2)).run Tryz.prog w = .ok (.string ⟨#[87, 101]⟩) w := by kernel_rfl
theorem ix3 (w : World) : (Instr.index 262 (.agg #[.string ⟨#[77, 111]⟩, .string ⟨#[84, 117]⟩, .string ⟨#[87, 101]⟩, .string ⟨#[84, 104]⟩, .string ⟨#[70, 114]⟩, .string ⟨#[83, 97]⟩, .string ⟨#[83, 117]⟩]) (.int .i64 3)).run Tryz.prog w = .ok (.string ⟨#[84, 104]⟩) w := by kernel_rfl
theorem ix4 (w : World) : (Instr.index 262 (.agg #[.string ⟨#[77, 111]⟩, .string ⟨#[84, 117]⟩, .string ⟨#[87, 101]⟩, .string ⟨#[84, 104]⟩, .string ⟨#[70, 114]⟩, .string ⟨#[83, 97]⟩, .string ⟨#[83, 117]⟩]) (.int .i64 4)).run Tryz.prog w = .ok (.string ⟨#[70, 114]⟩) w := by kernel_rfl
theorem ix5 (w : World) : (Instr.index 262 (.agg #[.string ⟨#[77, 111]⟩, .string ⟨#[84, 117]⟩, .string ⟨#[87, 101]⟩, .string ⟨#[84, 104]⟩, .string ⟨#[70, 114]⟩, .string ⟨#[83, 97]⟩, .string ⟨#[83, 117]⟩]) (.int .i64 5)).run Tryz.prog w = .ok (.string ⟨#[83, 97]⟩) w := by kernel_rfl
theorem ix6 (w : World) : (Instr.index 262 (.agg #[.string ⟨#[77, 111]⟩, .string ⟨#[84, 117]⟩, .string ⟨#[87, 101]⟩, .string ⟨#[84, 104]⟩, .string ⟨#[70, 114]⟩, .string ⟨#[83, 97]⟩, .string ⟨#[83, 117]⟩]) (.int .i64 6)).run Tryz.prog w = .ok (.string ⟨#[83, 117]⟩) w := by kernel_rfl

theorem uu0 : wrap32 ↑((⟨#[77, 111]⟩ : ByteArray)[0]'(by decide)).toNat = 77 := by kernel_rfl
theorem vv0 : wrap32 ↑((⟨#[77, 111]⟩ : ByteArray)[1]'(by decide)).toNat = 111 := by kernel_rfl
theorem uu1 : wrap32 ↑((⟨#[84, 117]⟩ : ByteArray)[0]'(by decide)).toNat = 84 := by kernel_rfl
theorem vv1 : wrap32 ↑((⟨#[84, 117]⟩ : ByteArray)[1]'(by decide)).toNat = 117 := by kernel_rfl
theorem uu2 : wrap32 ↑((⟨#[87, 101]⟩ : ByteArray)[0]'(by decide)).toNat = 87 := by kernel_rfl
theorem vv2 : wrap32 ↑((⟨#[87, 101]⟩ : ByteArray)[1]'(by decide)).toNat = 101 := by kernel_rfl
theorem uu3 : wrap32 ↑((⟨#[84, 104]⟩ : ByteArray)[0]'(by decide)).toNat = 84 := by kernel_rfl
theorem vv3 : wrap32 ↑((⟨#[84, 104]⟩ : ByteArray)[1]'(by decide)).toNat = 104 := by kernel_rfl
theorem uu4 : wrap32 ↑((⟨#[70, 114]⟩ : ByteArray)[0]'(by decide)).toNat = 70 := by kernel_rfl
theorem vv4 : wrap32 ↑((⟨#[70, 114]⟩ : ByteArray)[1]'(by decide)).toNat = 114 := by kernel_rfl
theorem uu5 : wrap32 ↑((⟨#[83, 97]⟩ : ByteArray)[0]'(by decide)).toNat = 83 := by kernel_rfl
theorem vv5 : wrap32 ↑((⟨#[83, 97]⟩ : ByteArray)[1]'(by decide)).toNat = 97 := by kernel_rfl
theorem uu6 : wrap32 ↑((⟨#[83, 117]⟩ : ByteArray)[0]'(by decide)).toNat = 83 := by kernel_rfl
theorem vv6 : wrap32 ↑((⟨#[83, 117]⟩ : ByteArray)[1]'(by decide)).toNat = 117 := by kernel_rfl

section
variable {it : Obj} {B b : Nat} {w0 w : World} {s : RS} {vs : Nat → Value}
set_option maxRecDepth 100000 in
set_option maxHeartbeats 4000000 in
theorem dayFirst_any (R : RW it B b w0 w s vs) (c : Int) :
    Calls Tryz.prog 144 #[P0 b, .int .i32 c] w fun e w' => e = .returned (.bool (dayFirstL s c).1) ∧ RW it B b w0 w' (dayFirstL s c).2 vs := by
  have n0 : w.cell? ⟨0, 0, none⟩ = some (.string ⟨#[77, 111]⟩) := R.names 0 (by omega)
  have n1 : w.cell? ⟨0, 1, none⟩ = some (.string ⟨#[84, 117]⟩) := R.names 1 (by omega)
  have n2 : w.cell? ⟨0, 2, none⟩ = some (.string ⟨#[87, 101]⟩) := R.names 2 (by omega)
  have n3 : w.cell? ⟨0, 3, none⟩ = some (.string ⟨#[84, 104]⟩) := R.names 3 (by omega)
  have n4 : w.cell? ⟨0, 4, none⟩ = some (.string ⟨#[70, 114]⟩) := R.names 4 (by omega)
  have n5 : w.cell? ⟨0, 5, none⟩ = some (.string ⟨#[83, 97]⟩) := R.names 5 (by omega)
  have n6 : w.cell? ⟨0, 6, none⟩ = some (.string ⟨#[83, 117]⟩) := R.names 6 (by omega)
  go_enter Tryz.func144, Tryz.ntmps144
  go_wp2
  clear n0 n1 n2 n3 n4 n5 n6
  have f0 := R.frz 0
  have g0 := R.c0
  have f2 := R.frz 2
  have g2 := R.c2
  have i0 := ix0
  have i1 := ix1
  have i2 := ix2
  have i3 := ix3
  have i4 := ix4
  have i5 := ix5
  have i6 := ix6
  have u0 := uu0
  have u1 := uu1
  have u2 := uu2
  have u3 := uu3
  have u4 := uu4
  have u5 := uu5
  have u6 := uu6
  go_loopw [8] (fun i wr => ∃ k : Int, 0 ≤ k ∧ k ≤ 7 ∧ i = .int .i64 k ∧ wr = w ∧ Hid ((1 ≤ k → c ≠ 77) ∧ (2 ≤ k → c ≠ 84) ∧ (3 ≤ k → c ≠ 87) ∧ (5 ≤ k → c ≠ 70) ∧ (6 ≤ k → c ≠ 83))) (fun i _ => 7 - (intOf i).toNat)
  case atStart => exact ⟨0, by omega, by omega, rfl, rfl, by unfold Hid; omega⟩
  case round =>
    obtain ⟨k, hk0, hk7, rfl, rfl, H⟩ := hrel
    have hks : k = 7 ∨ k = 0 ∨ k = 1 ∨ k = 2 ∨ k = 3 ∨ k = 4 ∨ k = 5 ∨ k = 6 := by omega
    rcases hks with rfl | hks
    · have hc : isFirst c = false := by have := H.out; simp only [isFirst]; simp; omega
      have HC := hide hc
      clear hc i0 i1 i2 i3 i4 i5 i6
      go_wp2
      go_ret
      simp only [dayFirstL, HC.out]
      exact ⟨rfl, R⟩
    · rcases hks with rfl | rfl | rfl | rfl | rfl | rfl | rfl
      all_goals
        go_wp2
        · go_ret
          rename_i hc
          have hc' := eq_of_beq hc
          subst hc'
          exact ⟨rfl, (R.setLetter _).setSt 1⟩
        · go_roundw
          case rel =>
            have hH := H.out
            rename_i hc
            have hc' := ne_of_beq_false hc
            refine ⟨_, ?_, ?_, rfl, by trivial, ?_⟩
            · omega
            · omega
            · unfold Hid; omega
          case measure => simp [intOf]

theorem daySecond_yes {s : RS} {c : Int} {k : Nat} (h : dayOf s.letter c = k) (hk : k < 7) : daySecondL s c = (true, { s with days := fun j => if j = k then true else s.days j, st := 2 }) := by
  subst h; unfold daySecondL; rw [if_pos hk]
set_option maxRecDepth 100000 in
set_option maxHeartbeats 8000000 in
theorem daySecond_any (R : RW it B b w0 w s vs) (c : Int) :
    Calls Tryz.prog 145 #[P0 b, .int .i32 c] w fun e w' => e = .returned (.bool (daySecondL s c).1) ∧ RW it B b w0 w' (daySecondL s c).2 vs := by
  have n0 : w.cell? ⟨0, 0, none⟩ = some (.string ⟨#[77, 111]⟩) := R.names 0 (by omega)
  have n1 : w.cell? ⟨0, 1, none⟩ = some (.string ⟨#[84, 117]⟩) := R.names 1 (by omega)
  have n2 : w.cell? ⟨0, 2, none⟩ = some (.string ⟨#[87, 101]⟩) := R.names 2 (by omega)
  have n3 : w.cell? ⟨0, 3, none⟩ = some (.string ⟨#[84, 104]⟩) := R.names 3 (by omega)
  have n4 : w.cell? ⟨0, 4, none⟩ = some (.string ⟨#[70, 114]⟩) := R.names 4 (by omega)
  have n5 : w.cell? ⟨0, 5, none⟩ = some (.string ⟨#[83, 97]⟩) := R.names 5 (by omega)
  have n6 : w.cell? ⟨0, 6, none⟩ = some (.string ⟨#[83, 117]⟩) := R.names 6 (by omega)
  go_enter Tryz.func145, Tryz.ntmps145
  go_wp2
  clear n0 n1 n2 n3 n4 n5 n6
  have i0 := ix0
  have i1 := ix1
  have i2 := ix2
  have i3 := ix3
  have i4 := ix4
  have i5 := ix5
  have i6 := ix6
  have u0 := uu0
  have v0 := vv0
  have u1 := uu1
  have v1 := vv1
  have u2 := uu2
  have v2 := vv2
  have u3 := uu3
  have v3 := vv3
  have u4 := uu4
  have v4 := vv4
  have u5 := uu5
  have v5 := vv5
  have u6 := uu6
  have v6 := vv6
  go_loopw [8] (fun i wr => ∃ k : Int, 0 ≤ k ∧ k ≤ 7 ∧ i = .int .i64 k ∧ RW it B b w0 wr s vs ∧ Hid ((1 ≤ k → ¬ (s.letter = 77 ∧ c = 111)) ∧ (2 ≤ k → ¬ (s.letter = 84 ∧ c = 117)) ∧ (3 ≤ k → ¬ (s.letter = 87 ∧ c = 101)) ∧ (4 ≤ k → ¬ (s.letter = 84 ∧ c = 104)) ∧ (5 ≤ k → ¬ (s.letter = 70 ∧ c = 114)) ∧ (6 ≤ k → ¬ (s.letter = 83 ∧ c = 97)) ∧ (7 ≤ k → ¬ (s.letter = 83 ∧ c = 117)))) (fun i _ => 7 - (intOf i).toNat)
  case atStart => exact ⟨0, by omega, by omega, rfl, R, by unfold Hid; omega⟩
  case round =>
    obtain ⟨k, hk0, hk7, rfl, R2, H⟩ := hrel
    have g2 := R2.c2
    have hks : k = 7 ∨ k = 0 ∨ k = 1 ∨ k = 2 ∨ k = 3 ∨ k = 4 ∨ k = 5 ∨ k = 6 := by omega
    rcases hks with rfl | hks
    · have hc : dayOf s.letter c = 7 := by have := H.out; simp only [dayOf]; repeat (rw [if_neg (by omega)])
      have HC := hide hc
      clear hc i0 i1 i2 i3 i4 i5 i6
      go_wp2
      go_ret
      simp only [daySecondL, HC.out]
      exact ⟨rfl, R2⟩
    · have f0 := R2.frz 0
      have g0 := R2.c0
      rcases hks with rfl | rfl | rfl | rfl | rfl | rfl | rfl
      · have fk := R2.frz 3
        have gk := R2.cd 0 (by omega)
        simp only [Nat.reduceAdd] at gk
        by_cases hl : s.letter = 77
        · have e1 : (s.letter == 77) = true := by simp [hl]
          by_cases hc : c = 111
          · have e2 : (c == 111) = true := by simp [hc]
            have HD := hide (daySecond_yes (k := 0) (show dayOf s.letter c = 0 by rw [hl, hc]; rfl) (by omega))
            clear hl hc
            go_wp2
            go_quiet (fail)
            go_wp2
            go_ret
            rw [HD.out]
            exact ⟨rfl, ((R2.drewN _).setDay 0 (by omega) true).setSt 2⟩
          · have e2 : (c == 111) = false := by simp [hc]
            have hc2 := hide hc
            clear hl hc
            go_wp2
            go_quiet (fail)
            go_wp2
            go_roundw
            case rel =>
              have hH := H.out
              have := hc2.out
              refine ⟨1, by omega, by omega, rfl, R2.drewN _, by unfold Hid; omega⟩
            case measure => simp [intOf]
        · have e1 : (s.letter == 77) = false := by simp [hl]
          have hl2 := hide hl
          clear hl
          go_wp2
          go_quiet (fail)
          go_wp2
          go_roundw
          case rel =>
            have hH := H.out
            have := hl2.out
            refine ⟨1, by omega, by omega, rfl, R2.drewN _, by unfold Hid; omega⟩
          case measure => simp [intOf]
      · have fk := R2.frz 4
        have gk := R2.cd 1 (by omega)
        simp only [Nat.reduceAdd] at gk
        by_cases hl : s.letter = 84
        · have e1 : (s.letter == 84) = true := by simp [hl]
          by_cases hc : c = 117
          · have e2 : (c == 117) = true := by simp [hc]
            have HD := hide (daySecond_yes (k := 1) (show dayOf s.letter c = 1 by rw [hl, hc]; rfl) (by omega))
            clear hl hc
            go_wp2
            go_quiet (fail)
            go_wp2
            go_ret
            rw [HD.out]
            exact ⟨rfl, ((R2.drewN _).setDay 1 (by omega) true).setSt 2⟩
          · have e2 : (c == 117) = false := by simp [hc]
            have hc2 := hide hc
            clear hl hc
            go_wp2
            go_quiet (fail)
            go_wp2
            go_roundw
            case rel =>
              have hH := H.out
              have := hc2.out
              refine ⟨2, by omega, by omega, rfl, R2.drewN _, by unfold Hid; omega⟩
            case measure => simp [intOf]
        · have e1 : (s.letter == 84) = false := by simp [hl]
          have hl2 := hide hl
          clear hl
          go_wp2
          go_quiet (fail)
          go_wp2
          go_roundw
          case rel =>
            have hH := H.out
            have := hl2.out
            refine ⟨2, by omega, by omega, rfl, R2.drewN _, by unfold Hid; omega⟩
          case measure => simp [intOf]
      · have fk := R2.frz 5
        have gk := R2.cd 2 (by omega)
        simp only [Nat.reduceAdd] at gk
        by_cases hl : s.letter = 87
        · have e1 : (s.letter == 87) = true := by simp [hl]
          by_cases hc : c = 101
          · have e2 : (c == 101) = true := by simp [hc]
            have HD := hide (daySecond_yes (k := 2) (show dayOf s.letter c = 2 by rw [hl, hc]; rfl) (by omega))
            clear hl hc
            go_wp2
            go_quiet (fail)
            go_wp2
            go_ret
            rw [HD.out]
            exact ⟨rfl, ((R2.drewN _).setDay 2 (by omega) true).setSt 2⟩
          · have e2 : (c == 101) = false := by simp [hc]
            have hc2 := hide hc
            clear hl hc
            go_wp2
            go_quiet (fail)
            go_wp2
            go_roundw
            case rel =>
              have hH := H.out
              have := hc2.out
              refine ⟨3, by omega, by omega, rfl, R2.drewN _, by unfold Hid; omega⟩
            case measure => simp [intOf]
        · have e1 : (s.letter == 87) = false := by simp [hl]
          have hl2 := hide hl
          clear hl
          go_wp2
          go_quiet (fail)
          go_wp2
          go_roundw
          case rel =>
            have hH := H.out
            have := hl2.out
            refine ⟨3, by omega, by omega, rfl, R2.drewN _, by unfold Hid; omega⟩
          case measure => simp [intOf]
      · have fk := R2.frz 6
        have gk := R2.cd 3 (by omega)
        simp only [Nat.reduceAdd] at gk
        by_cases hl : s.letter = 84
        · have e1 : (s.letter == 84) = true := by simp [hl]
          by_cases hc : c = 104
          · have e2 : (c == 104) = true := by simp [hc]
            have HD := hide (daySecond_yes (k := 3) (show dayOf s.letter c = 3 by rw [hl, hc]; rfl) (by omega))
            clear hl hc
            go_wp2
            go_quiet (fail)
            go_wp2
            go_ret
            rw [HD.out]
            exact ⟨rfl, ((R2.drewN _).setDay 3 (by omega) true).setSt 2⟩
          · have e2 : (c == 104) = false := by simp [hc]
            have hc2 := hide hc
            clear hl hc
            go_wp2
            go_quiet (fail)
            go_wp2
            go_roundw
            case rel =>
              have hH := H.out
              have := hc2.out
              refine ⟨4, by omega, by omega, rfl, R2.drewN _, by unfold Hid; omega⟩
            case measure => simp [intOf]
        · have e1 : (s.letter == 84) = false := by simp [hl]
          have hl2 := hide hl
          clear hl
          go_wp2
          go_quiet (fail)
          go_wp2
          go_roundw
          case rel =>
            have hH := H.out
            have := hl2.out
            refine ⟨4, by omega, by omega, rfl, R2.drewN _, by unfold Hid; omega⟩
          case measure => simp [intOf]
      · have fk := R2.frz 7
        have gk := R2.cd 4 (by omega)
        simp only [Nat.reduceAdd] at gk
        by_cases hl : s.letter = 70
        · have e1 : (s.letter == 70) = true := by simp [hl]
          by_cases hc : c = 114
          · have e2 : (c == 114) = true := by simp [hc]
            have HD := hide (daySecond_yes (k := 4) (show dayOf s.letter c = 4 by rw [hl, hc]; rfl) (by omega))
            clear hl hc
            go_wp2
            go_quiet (fail)
            go_wp2
            go_ret
            rw [HD.out]
            exact ⟨rfl, ((R2.drewN _).setDay 4 (by omega) true).setSt 2⟩
          · have e2 : (c == 114) = false := by simp [hc]
            have hc2 := hide hc
            clear hl hc
            go_wp2
            go_quiet (fail)
            go_wp2
            go_roundw
            case rel =>
              have hH := H.out
              have := hc2.out
              refine ⟨5, by omega, by omega, rfl, R2.drewN _, by unfold Hid; omega⟩
            case measure => simp [intOf]
        · have e1 : (s.letter == 70) = false := by simp [hl]
          have hl2 := hide hl
          clear hl
          go_wp2
          go_quiet (fail)
          go_wp2
          go_roundw
          case rel =>
            have hH := H.out
            have := hl2.out
            refine ⟨5, by omega, by omega, rfl, R2.drewN _, by unfold Hid; omega⟩
          case measure => simp [intOf]
      · have fk := R2.frz 8
        have gk := R2.cd 5 (by omega)
        simp only [Nat.reduceAdd] at gk
        by_cases hl : s.letter = 83
        · have e1 : (s.letter == 83) = true := by simp [hl]
          by_cases hc : c = 97
          · have e2 : (c == 97) = true := by simp [hc]
            have HD := hide (daySecond_yes (k := 5) (show dayOf s.letter c = 5 by rw [hl, hc]; rfl) (by omega))
            clear hl hc
            go_wp2
            go_quiet (fail)
            go_wp2
            go_ret
            rw [HD.out]
            exact ⟨rfl, ((R2.drewN _).setDay 5 (by omega) true).setSt 2⟩
          · have e2 : (c == 97) = false := by simp [hc]
            have hc2 := hide hc
            clear hl hc
            go_wp2
            go_quiet (fail)
            go_wp2
            go_roundw
            case rel =>
              have hH := H.out
              have := hc2.out
              refine ⟨6, by omega, by omega, rfl, R2.drewN _, by unfold Hid; omega⟩
            case measure => simp [intOf]
        · have e1 : (s.letter == 83) = false := by simp [hl]
          have hl2 := hide hl
          clear hl
          go_wp2
          go_quiet (fail)
          go_wp2
          go_roundw
          case rel =>
            have hH := H.out
            have := hl2.out
            refine ⟨6, by omega, by omega, rfl, R2.drewN _, by unfold Hid; omega⟩
          case measure => simp [intOf]
      · have fk := R2.frz 9
        have gk := R2.cd 6 (by omega)
        simp only [Nat.reduceAdd] at gk
        by_cases hl : s.letter = 83
        · have e1 : (s.letter == 83) = true := by simp [hl]
          by_cases hc : c = 117
          · have e2 : (c == 117) = true := by simp [hc]
            have HD := hide (daySecond_yes (k := 6) (show dayOf s.letter c = 6 by rw [hl, hc]; rfl) (by omega))
            clear hl hc
            go_wp2
            go_quiet (fail)
            go_wp2
            go_ret
            rw [HD.out]
            exact ⟨rfl, ((R2.drewN _).setDay 6 (by omega) true).setSt 2⟩
          · have e2 : (c == 117) = false := by simp [hc]
            have hc2 := hide hc
            clear hl hc
            go_wp2
            go_quiet (fail)
            go_wp2
            go_roundw
            case rel =>
              have hH := H.out
              have := hc2.out
              refine ⟨7, by omega, by omega, rfl, R2.drewN _, by unfold Hid; omega⟩
            case measure => simp [intOf]
        · have e1 : (s.letter == 83) = false := by simp [hl]
          have hl2 := hide hl
          clear hl
          go_wp2
          go_quiet (fail)
          go_wp2
          go_roundw
          case rel =>
            have hH := H.out
            have := hl2.out
            refine ⟨7, by omega, by omega, rfl, R2.drewN _, by unfold Hid; omega⟩
          case measure => simp [intOf]
end
end Go.Proofs.YtcnmbldikjljeaaGreatDoor
namespace Go.Proofs.YtcnmbldikjljeaaGreatDoor
open Go.RowKit
section
variable {it : Obj} {B b : Nat} {w0 w : World} {s : RS} {vs : Nat → Value}

theorem mark_yes {s : RS} {c mark next : Int} (h : c = mark) : markL s c mark next = (true, { s with st := next }) := by unfold markL; rw [if_pos h]
theorem mark_no {s : RS} {c mark next : Int} (h : ¬ c = mark) : markL s c mark next = (false, s) := by unfold markL; rw [if_neg h]

set_option maxRecDepth 100000 in
set_option maxHeartbeats 1000000 in
theorem dayEnd_any (R : RW it B b w0 w s vs) (c : Int) :
    Calls Tryz.prog 146 #[P0 b, .int .i32 c] w fun e w' => e = .returned (.bool (dayEndL s c).1) ∧ RW it B b w0 w' (dayEndL s c).2 vs := by
  by_cases h : c = 44
  · have hm := hide (mark_yes (s := s) (next := 0) h)
    have hd : dayEndL s c = (true, { s with st := 0 }) := by unfold dayEndL; rw [if_pos h]
    have HD := hide hd
    clear h hd
    go_enter Tryz.func146, Tryz.ntmps146
    go_wp2_with fail
    refine (mark_any R _ _ _).mono ?_
    rw [hm.out]
    rintro e w' ⟨rfl, R2⟩
    go_wp2_with fail
    go_ret
    rw [HD.out]
    exact ⟨rfl, R2⟩
  · have hm := hide (mark_no (s := s) (next := 0) h)
    have hd : dayEndL s c = markL s c 32 3 := by unfold dayEndL; rw [if_neg h]
    have HD := hide hd
    clear h hd
    go_enter Tryz.func146, Tryz.ntmps146
    go_wp2_with fail
    refine (mark_any R _ _ _).mono ?_
    rw [hm.out]
    rintro e w' ⟨rfl, R2⟩
    go_wp2_with fail
    refine (mark_any R2 _ _ _).mono ?_
    rintro e w' ⟨rfl, R3⟩
    go_wp2_with fail
    go_ret
    rw [HD.out]
    exact ⟨rfl, R3⟩

set_option maxRecDepth 100000 in
set_option maxHeartbeats 1000000 in
theorem spanEnd_any (R : RW it B b w0 w s vs) (c : Int) :
    Calls Tryz.prog 150 #[P0 b, .int .i32 c] w fun e w' => e = .returned (.bool (spanEndL s c).1) ∧ RW it B b w0 w' (spanEndL s c).2 vs := by
  by_cases h : c = 59
  · have hm := hide (mark_yes (s := s) (next := 0) h)
    have hd : spanEndL s c = (true, { s with st := 0, days := fun _ => false }) := by unfold spanEndL; rw [if_pos h]
    have HD := hide hd
    clear h hd
    go_enter Tryz.func150, Tryz.ntmps150
    go_wp2_with fail
    refine (mark_any R _ _ _).mono ?_
    rw [hm.out]
    rintro e w' ⟨rfl, R2⟩
    have d0 := R2.cd 0 (by omega)
    have d1 := R2.cd 1 (by omega)
    have d2 := R2.cd 2 (by omega)
    have d3 := R2.cd 3 (by omega)
    have d4 := R2.cd 4 (by omega)
    have d5 := R2.cd 5 (by omega)
    have d6 := R2.cd 6 (by omega)
    simp only [Nat.reduceAdd] at d0 d1 d2 d3 d4 d5 d6
    have f0 := R2.frz 3
    have f1 := R2.frz 4
    have f2 := R2.frz 5
    have f3 := R2.frz 6
    have f4 := R2.frz 7
    have f5 := R2.frz 8
    have f6 := R2.frz 9
    go_wp2_with fail
    go_ret
    rw [HD.out]
    have R3 := ((((((R2.setDay 0 (by omega) false).setDay 1 (by omega) false).setDay 2 (by omega) false).setDay 3 (by omega) false).setDay 4 (by omega) false).setDay 5 (by omega) false).setDay 6 (by omega) false
    exact ⟨rfl, R3.daysC (fun _ => false) (fun j hj => by
      have : j = 0 ∨ j = 1 ∨ j = 2 ∨ j = 3 ∨ j = 4 ∨ j = 5 ∨ j = 6 := by omega
      rcases this with rfl | rfl | rfl | rfl | rfl | rfl | rfl <;> rfl)⟩
  · have hm := hide (mark_no (s := s) (next := 0) h)
    by_cases h2 : c = 32
    · have hm2 := hide (mark_yes (s := s) (next := 3) h2)
      have hd : spanEndL s c = (true, { s with st := 3 }) := by unfold spanEndL; rw [if_neg h, if_pos h2]
      have HD := hide hd
      clear h hd h2
      go_enter Tryz.func150, Tryz.ntmps150
      go_wp2_with fail
      refine (mark_any R _ _ _).mono ?_
      rw [hm.out]
      rintro e w' ⟨rfl, R2⟩
      go_wp2_with fail
      refine (mark_any R2 _ _ _).mono ?_
      rw [hm2.out]
      rintro e w' ⟨rfl, R3⟩
      go_wp2_with fail
      go_ret
      rw [HD.out]
      exact ⟨rfl, R3⟩
    · have hm2 := hide (mark_no (s := s) (next := 3) h2)
      have hd : spanEndL s c = markL s c 33 10 := by unfold spanEndL; rw [if_neg h, if_neg h2]
      have HD := hide hd
      clear h hd h2
      go_enter Tryz.func150, Tryz.ntmps150
      go_wp2_with fail
      refine (mark_any R _ _ _).mono ?_
      rw [hm.out]
      rintro e w' ⟨rfl, R2⟩
      go_wp2_with fail
      refine (mark_any R2 _ _ _).mono ?_
      rw [hm2.out]
      rintro e w' ⟨rfl, R3⟩
      go_wp2_with fail
      refine (mark_any R3 _ _ _).mono ?_
      rintro e w' ⟨rfl, R4⟩
      go_wp2_with fail
      go_ret
      rw [HD.out]
      exact ⟨rfl, R4⟩

set_option maxRecDepth 100000 in
set_option maxHeartbeats 1000000 in
theorem numFirst_any (R : RW it B b w0 w s vs) (c : Int) :
    Calls Tryz.prog 151 #[P0 b, .int .i32 c] w fun e w' => e = .returned (.bool (numFirstL s c).1) ∧ RW it B b w0 w' (numFirstL s c).2 vs := by
  have f0 := R.frz 0
  have g0 := R.c0
  have f12 := R.frz 12
  have g12 := R.c12
  by_cases h : isDig c
  · have hd : numFirstL s c = (true, { s with num := c - 48, st := 11 }) := by unfold numFirstL; rw [if_pos h]
    have HD := hide hd
    have H := hide h
    clear h hd
    go_enter Tryz.func151, Tryz.ntmps151
    go_wp2_with fail
    refine (digit_yes _ _ H.out).mono ?_
    rintro e w' ⟨rfl, rfl⟩
    go_wp2_with fail
    go_ret
    rw [HD.out]
    exact ⟨rfl, (R.setNum _).setSt _⟩
  · have hd : numFirstL s c = (false, s) := by unfold numFirstL; rw [if_neg h]
    have HD := hide hd
    have H := hide h
    clear h hd
    go_enter Tryz.func151, Tryz.ntmps151
    go_wp2_with fail
    refine (digit_no _ _ H.out).mono ?_
    rintro e w' ⟨rfl, rfl⟩
    go_wp2_with fail
    go_ret
    rw [HD.out]
    exact ⟨rfl, R⟩

set_option maxRecDepth 100000 in
set_option maxHeartbeats 1000000 in
theorem timeDigit_any (R : RW it B b w0 w s vs) (c most minutes next : Int) (t0 : 0 ≤ s.time) (t1 : s.time ≤ 1440) (m0 : 0 ≤ minutes) (m1 : minutes ≤ 600) :
    Calls Tryz.prog 147 #[P0 b, .int .i32 c, .int .i64 most, .int .i64 minutes, .int .i64 next] w fun e w' => e = .returned (.bool (timeDigitL s c most minutes next).1) ∧ RW it B b w0 w' (timeDigitL s c most minutes next).2 vs := by
  have f0 := R.frz 0
  have g0 := R.c0
  have f11 := R.frz 11
  have g11 := R.c11
  by_cases h : isDig c
  · have H := hide h
    have b1 : 0 ≤ (c - 48) * minutes := Int.mul_nonneg (by omega) m0
    have b2 : (c - 48) * minutes ≤ 9 * 600 := Int.mul_le_mul (by omega) (by omega) m0 (by omega)
    by_cases hm : most < c - 48
    · have hd : timeDigitL s c most minutes next = (false, s) := by unfold timeDigitL; rw [if_neg (by omega)]
      have HD := hide hd
      obtain ⟨hc0, hc1⟩ := h
      clear hd
      go_enter Tryz.func147, Tryz.ntmps147
      go_wp2_with fail
      refine (digit_yes _ _ H.out).mono ?_
      rintro e w' ⟨rfl, rfl⟩
      go_wp2_with fail
      go_ret
      rw [HD.out]
      exact ⟨rfl, R⟩
    · by_cases ht : 1440 < s.time + (c - 48) * minutes
      · have hd : timeDigitL s c most minutes next = (false, s) := by unfold timeDigitL; rw [if_neg (by omega)]
        have HD := hide hd
        obtain ⟨hc0, hc1⟩ := h
        clear hd
        go_enter Tryz.func147, Tryz.ntmps147
        go_wp2_with fail
        refine (digit_yes _ _ H.out).mono ?_
        rintro e w' ⟨rfl, rfl⟩
        go_wp2_with fail
        go_ret
        rw [HD.out]
        exact ⟨rfl, R⟩
      · have hd : timeDigitL s c most minutes next = (true, { s with time := s.time + (c - 48) * minutes, st := next }) := by unfold timeDigitL; rw [if_pos ⟨h, by omega, by omega⟩]
        have HD := hide hd
        obtain ⟨hc0, hc1⟩ := h
        clear hd
        go_enter Tryz.func147, Tryz.ntmps147
        go_wp2_with fail
        refine (digit_yes _ _ H.out).mono ?_
        rintro e w' ⟨rfl, rfl⟩
        go_wp2_with fail
        go_ret
        rw [HD.out]
        exact ⟨rfl, (R.setTime _).setSt _⟩
  · have hd : timeDigitL s c most minutes next = (false, s) := by unfold timeDigitL; rw [if_neg (by omega)]
    have HD := hide hd
    have H := hide h
    clear h hd
    go_enter Tryz.func147, Tryz.ntmps147
    go_wp2_with fail
    refine (digit_no _ _ H.out).mono ?_
    rintro e w' ⟨rfl, rfl⟩
    go_wp2_with fail
    go_ret
    rw [HD.out]
    exact ⟨rfl, R⟩
end
end Go.Proofs.YtcnmbldikjljeaaGreatDoor
namespace Go.Proofs.YtcnmbldikjljeaaGreatDoor
open Go.RowKit
section
variable {it : Obj} {B b : Nat} {w0 w : World} {s : RS} {vs : Nat → Value}

set_option maxRecDepth 100000 in
set_option maxHeartbeats 1000000 in
theorem endNum_any (R : RW it B b w0 w s vs) (n0 : 0 ≤ s.num) (n1 : s.num ≤ 99) :
    Calls Tryz.prog 175 #[P0 b] w fun e w' => e = .returned (.bool (endNumL s).1) ∧ RW it B b w0 w' (endNumL s).2 vs := by
  have g12 := R.c12
  have g13 := R.c13
  by_cases h : 70 ≤ s.num
  · have hd : endNumL s = (false, s) := by unfold endNumL; rw [if_pos (by omega)]
    have HD := hide hd
    clear hd
    go_enter Tryz.func175, Tryz.ntmps175
    go_wp2
    go_quiet (fail)
    go_wp2
    go_ret
    rw [HD.out]
    exact ⟨rfl, R.drewN _⟩
  · have hf : decide (70 ≤ s.num) = false := by simp; omega
    by_cases h2 : s.num ≤ s.ahead
    · have hd : endNumL s = (false, s) := by unfold endNumL; rw [if_pos (by omega)]
      have HD := hide hd
      clear hd
      go_enter Tryz.func175, Tryz.ntmps175
      go_wp2
      go_quiet (fail)
      go_wp2
      go_ret
      rw [HD.out]
      exact ⟨rfl, R.drewN _⟩
    · have hf2 : decide (s.num ≤ s.ahead) = false := by simp; omega
      have hd : endNumL s = (true, { s with free := fun j => if j = s.num.toNat then true else s.free j, ahead := s.num, st := 12 }) := by unfold endNumL; rw [if_neg (by omega)]
      have HD := hide hd
      clear hd
      have f0 := R.frz 0
      have g0 := R.c0
      have f13 := R.frz 13
      have fk := R.frz (21 + s.num.toNat)
      have gk := R.cf s.num.toNat (by omega)
      have h70 : s.num < 70 := by omega
      go_enter Tryz.func175, Tryz.ntmps175
      go_wp2
      go_quiet (fail)
      go_wp2
      go_region
      go_wp2
      go_ret
      rw [HD.out]
      exact ⟨rfl, (((R.drewN _).setFree _ (by omega) true).setAhead _).setSt _⟩

set_option maxRecDepth 100000 in
set_option maxHeartbeats 1000000 in
theorem endShort_any (R : RW it B b w0 w s vs) (n0 : 0 ≤ s.num) (n1 : s.num ≤ 99) (p0 : 0 ≤ s.place) (p1 : s.place ≤ 1000) :
    Calls Tryz.prog 153 #[P0 b] w fun e w' => e = .returned (.bool (endShortL s).1) ∧ RW it B b w0 w' (endShortL s).2 vs := by
  cases hr : (endNumL s).1
  · have hd : endShortL s = (false, { s with place := s.place - 1 }) := by unfold endShortL; rw [hr]; rfl
    have he : (endNumL s).2 = s := by unfold endNumL at hr ⊢; split at hr <;> simp_all
    have HD := hide hd
    have HE := hide he
    have HR := hide hr
    clear hd he hr
    go_enter Tryz.func153, Tryz.ntmps153
    go_wp2_with fail
    refine (endNum_any R n0 n1).mono ?_
    rw [HR.out, HE.out]
    rintro e w' ⟨rfl, R2⟩
    have g1 := R2.c1
    have f1 := R2.frz 1
    go_wp2_with fail
    go_ret
    rw [HD.out]
    exact ⟨rfl, R2.setPlace _⟩
  · have hd : endShortL s = endNumL s := by unfold endShortL; rw [hr]; rfl
    have HD := hide hd
    have HR := hide hr
    clear hd hr
    go_enter Tryz.func153, Tryz.ntmps153
    go_wp2_with fail
    refine (endNum_any R n0 n1).mono ?_
    rw [HR.out]
    rintro e w' ⟨rfl, R2⟩
    go_wp2_with fail
    go_ret
    rw [HD.out, HR.out]
    exact ⟨rfl, R2⟩

set_option maxRecDepth 100000 in
set_option maxHeartbeats 1000000 in
theorem numSecond_any (R : RW it B b w0 w s vs) (c : Int) (n0 : 0 ≤ s.num) (n1 : s.num ≤ 9) (p0 : 0 ≤ s.place) (p1 : s.place ≤ 1000) :
    Calls Tryz.prog 152 #[P0 b, .int .i32 c] w fun e w' => e = .returned (.bool (numSecondL s c).1) ∧ RW it B b w0 w' (numSecondL s c).2 vs := by
  have f12 := R.frz 12
  have g12 := R.c12
  by_cases h : isDig c
  · have H := hide h
    obtain ⟨hc0, hc1⟩ := h
    by_cases hz : s.num = 0
    · have hd : numSecondL s c = (false, s) := by unfold numSecondL; rw [if_pos H.out, if_pos hz]
      have HD := hide hd
      have hz2 : (s.num == 0) = true := by simp [hz]
      clear hd hz
      go_enter Tryz.func152, Tryz.ntmps152
      go_wp2_with fail
      refine (digit_yes _ _ H.out).mono ?_
      rintro e w' ⟨rfl, rfl⟩
      go_wp2_with fail
      go_ret
      rw [HD.out]
      exact ⟨rfl, R⟩
    · have hd : numSecondL s c = endNumL { s with num := s.num * 10 + (c - 48) } := by unfold numSecondL; rw [if_pos H.out, if_neg hz]
      have HD := hide hd
      have hz2 : (s.num == 0) = false := by simp [hz]
      clear hd hz
      go_enter Tryz.func152, Tryz.ntmps152
      go_wp2_with fail
      refine (digit_yes _ _ H.out).mono ?_
      rintro e w' ⟨rfl, rfl⟩
      go_wp2_with fail
      refine (endNum_any (R.setNum _) (by simp; omega) (by simp; omega)).mono ?_
      rintro e w' ⟨rfl, R2⟩
      go_wp2_with fail
      go_ret
      rw [HD.out]
      exact ⟨rfl, R2⟩
  · have H := hide h
    clear h
    cases hr : (endShortL s).1
    · have hd : numSecondL s c = endShortL s := by unfold numSecondL; rw [if_neg H.out, hr]; rfl
      have HD := hide hd
      have HR := hide hr
      clear hd hr
      go_enter Tryz.func152, Tryz.ntmps152
      go_wp2_with fail
      refine (digit_no _ _ H.out).mono ?_
      rintro e w' ⟨rfl, rfl⟩
      go_wp2_with fail
      refine (endShort_any R n0 (by omega) p0 p1).mono ?_
      rw [HR.out]
      rintro e w' ⟨rfl, R2⟩
      go_wp2_with fail
      go_ret
      rw [HD.out, HR.out]
      exact ⟨rfl, R2⟩
    · have hd : numSecondL s c = markL (endShortL s).2 c 44 10 := by unfold numSecondL; rw [if_neg H.out, hr]; rfl
      have HD := hide hd
      have HR := hide hr
      clear hd hr
      go_enter Tryz.func152, Tryz.ntmps152
      go_wp2_with fail
      refine (digit_no _ _ H.out).mono ?_
      rintro e w' ⟨rfl, rfl⟩
      go_wp2_with fail
      refine (endShort_any R n0 (by omega) p0 p1).mono ?_
      rw [HR.out]
      rintro e w' ⟨rfl, R2⟩
      go_wp2_with fail
      refine (mark_any R2 _ _ _).mono ?_
      rintro e w' ⟨rfl, R3⟩
      go_wp2_with fail
      go_ret
      rw [HD.out]
      exact ⟨rfl, R3⟩
end
end Go.Proofs.YtcnmbldikjljeaaGreatDoor
