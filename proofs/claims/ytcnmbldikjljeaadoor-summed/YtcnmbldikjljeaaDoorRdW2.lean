import Derived.Test.YtcnmbldikjljeaaDoorRdW1
namespace Go.Proofs.YtcnmbldikjljeaaDoor
open Go.RowKit

def nmAgg : Value := .agg #[.string ⟨#[77, 111]⟩, .string ⟨#[84, 117]⟩, .string ⟨#[87, 101]⟩, .string ⟨#[84, 104]⟩, .string ⟨#[70, 114]⟩, .string ⟨#[83, 97]⟩, .string ⟨#[83, 117]⟩]

theorem ix0 (w : World) : (Instr.index 73 (.agg #[.string ⟨#[77, 111]⟩, .string ⟨#[84, 117]⟩, .string ⟨#[87, 101]⟩, .string ⟨#[84, 104]⟩, .string ⟨#[70, 114]⟩, .string ⟨#[83, 97]⟩, .string ⟨#[83, 117]⟩]) (.int .i64 0)).run Tryd.prog w = .ok (.string ⟨#[77, 111]⟩) w := by kernel_rfl
theorem ix1 (w : World) : (Instr.index 73 (.agg #[.string ⟨#[77, 111]⟩, .string ⟨#[84, 117]⟩, .string ⟨#[87, 101]⟩, .string ⟨#[84, 104]⟩, .string ⟨#[70, 114]⟩, .string ⟨#[83, 97]⟩, .string ⟨#[83, 117]⟩]) (.int .i64 1)).run Tryd.prog w = .ok (.string ⟨#[84, 117]⟩) w := by kernel_rfl
theorem ix2 (w : World) : (Instr.index 73 (.agg #[.string ⟨#[77, 111]⟩, .string ⟨#[84, 117]⟩, .string ⟨#[87, 101]⟩, .string ⟨#[84, 104]⟩, .string ⟨#[70, 114]⟩, .string ⟨#[83, 97]⟩, .string ⟨#[83, 117]⟩]) (.int .i64 2)).run Tryd.prog w = .ok (.string ⟨#[87, 101]⟩) w := by kernel_rfl
theorem ix3 (w : World) : (Instr.index 73 (.agg #[.string ⟨#[77, 111]⟩, .string ⟨#[84, 117]⟩, .string ⟨#[87, 101]⟩, .string ⟨#[84, 104]⟩, .string ⟨#[70, 114]⟩, .string ⟨#[83, 97]⟩, .string ⟨#[83, 117]⟩]) (.int .i64 3)).run Tryd.prog w = .ok (.string ⟨#[84, 104]⟩) w := by kernel_rfl
theorem ix4 (w : World) : (Instr.index 73 (.agg #[.string ⟨#[77, 111]⟩, .string ⟨#[84, 117]⟩, .string ⟨#[87, 101]⟩, .string ⟨#[84, 104]⟩, .string ⟨#[70, 114]⟩, .string ⟨#[83, 97]⟩, .string ⟨#[83, 117]⟩]) (.int .i64 4)).run Tryd.prog w = .ok (.string ⟨#[70, 114]⟩) w := by kernel_rfl
theorem ix5 (w : World) : (Instr.index 73 (.agg #[.string ⟨#[77, 111]⟩, .string ⟨#[84, 117]⟩, .string ⟨#[87, 101]⟩, .string ⟨#[84, 104]⟩, .string ⟨#[70, 114]⟩, .string ⟨#[83, 97]⟩, .string ⟨#[83, 117]⟩]) (.int .i64 5)).run Tryd.prog w = .ok (.string ⟨#[83, 97]⟩) w := by kernel_rfl
theorem ix6 (w : World) : (Instr.index 73 (.agg #[.string ⟨#[77, 111]⟩, .string ⟨#[84, 117]⟩, .string ⟨#[87, 101]⟩, .string ⟨#[84, 104]⟩, .string ⟨#[70, 114]⟩, .string ⟨#[83, 97]⟩, .string ⟨#[83, 117]⟩]) (.int .i64 6)).run Tryd.prog w = .ok (.string ⟨#[83, 117]⟩) w := by kernel_rfl

theorem uu0 : wrap32 ↑((⟨#[77, 111]⟩ : ByteArray)[0]'(by decide)).toNat = 77 := by kernel_rfl
theorem vv0 : wrap32 ↑((⟨#[77, 111]⟩ : ByteArray)[1]'(by decide)).toNat = 111 := by kernel_rfl
theorem uu1 : wrap32 ↑((⟨#[84, 117]⟩ : ByteArray)[0]'(by decide)).toNat = 84 := by kernel_rfl
theorem vv1 : wrap32 ↑((⟨#[84, 117]⟩ : ByteArray)[1]'(by decide)).toNat = 117 := by kernel_rfl
theorem uu2 : wrap32 ↑((⟨#[87, 101]⟩ : ByteArray)[0]'(by decide)).toNat = 87 := by kernel_rfl
theorem vv2 : wrap32 ↑((⟨#[87, 101]⟩ : ByteArray)[1]'(by decide)).toNat = 101 := by kernel_rfl
theorem uu3 : wrap32 ↑((⟨#[84, 104]⟩ : ByteArray)[0]'(by decide)).toNat = 84 := by kernel_rfl
theorem vv3 : wrap32 ↑((⟨#[84, 104]⟩ : ByteArray)[1]'(by decide)).toNat = 104 := by kernel_rfl
theorem uu4 : wrap32 ↑((⟨#[70, 114]⟩ : ByteArray)[0]'(by decide)).toNat = 70 := by kernel_rfl
theorem vv4 : wrap32 ↑((⟨#[70, 114]⟩ : ByteArray)[1]'(by decide)).toNat = 114 := by kernel_rfl
theorem uu5 : wrap32 ↑((⟨#[83, 97]⟩ : ByteArray)[0]'(by decide)).toNat = 83 := by kernel_rfl
theorem vv5 : wrap32 ↑((⟨#[83, 97]⟩ : ByteArray)[1]'(by decide)).toNat = 97 := by kernel_rfl
theorem uu6 : wrap32 ↑((⟨#[83, 117]⟩ : ByteArray)[0]'(by decide)).toNat = 83 := by kernel_rfl
theorem vv6 : wrap32 ↑((⟨#[83, 117]⟩ : ByteArray)[1]'(by decide)).toNat = 117 := by kernel_rfl

section
variable {it : Obj} {B b : Nat} {w0 w : World} {s : RS} {vs : Nat → Value}
set_option maxRecDepth 100000 in
set_option maxHeartbeats 4000000 in
theorem dayFirst_any (R : RW it B b w0 w s vs) (c : Int) :
    Calls Tryd.prog 26 #[P0 b, .int .i32 c] w fun e w' => e = .returned (.bool (dayFirstL s c).1) ∧ RW it B b w0 w' (dayFirstL s c).2 vs := by
  have n0 : w.cell? ⟨0, 0, none⟩ = some (.string ⟨#[77, 111]⟩) := R.names 0 (by omega)
  have n1 : w.cell? ⟨0, 1, none⟩ = some (.string ⟨#[84, 117]⟩) := R.names 1 (by omega)
  have n2 : w.cell? ⟨0, 2, none⟩ = some (.string ⟨#[87, 101]⟩) := R.names 2 (by omega)
  have n3 : w.cell? ⟨0, 3, none⟩ = some (.string ⟨#[84, 104]⟩) := R.names 3 (by omega)
  have n4 : w.cell? ⟨0, 4, none⟩ = some (.string ⟨#[70, 114]⟩) := R.names 4 (by omega)
  have n5 : w.cell? ⟨0, 5, none⟩ = some (.string ⟨#[83, 97]⟩) := R.names 5 (by omega)
  have n6 : w.cell? ⟨0, 6, none⟩ = some (.string ⟨#[83, 117]⟩) := R.names 6 (by omega)
  go_enter Tryd.func26, Tryd.ntmps26
  go_wp2
  clear n0 n1 n2 n3 n4 n5 n6
  have f0 := R.frz 0
  have g0 := R.c0
  have f2 := R.frz 2
  have g2 := R.c2
  have i0 := ix0
  have i1 := ix1
  have i2 := ix2
  have i3 := ix3
  have i4 := ix4
  have i5 := ix5
  have i6 := ix6
  have u0 := uu0
  have u1 := uu1
  have u2 := uu2
  have u3 := uu3
  have u4 := uu4
  have u5 := uu5
  have u6 := uu6
  go_loopw [8] (fun i wr => ∃ k : Int, 0 ≤ k ∧ k ≤ 7 ∧ i = .int .i64 k ∧ wr = w ∧ Hid ((1 ≤ k → c ≠ 77) ∧ (2 ≤ k → c ≠ 84) ∧ (3 ≤ k → c ≠ 87) ∧ (5 ≤ k → c ≠ 70) ∧ (6 ≤ k → c ≠ 83))) (fun i _ => 7 - (intOf i).toNat)
  case atStart => exact ⟨0, by omega, by omega, rfl, rfl, by unfold Hid; omega⟩
  case round =>
    obtain ⟨k, hk0, hk7, rfl, rfl, H⟩ := hrel
    have hks : k = 7 ∨ k = 0 ∨ k = 1 ∨ k = 2 ∨ k = 3 ∨ k = 4 ∨ k = 5 ∨ k = 6 := by omega
    rcases hks with rfl | hks
    · have hc : isFirst c = false := by have := H.out; simp only [isFirst]; simp; omega
      have HC := hide hc
      clear hc i0 i1 i2 i3 i4 i5 i6
      go_wp2
      go_ret
      simp only [dayFirstL, HC.out]
      exact ⟨rfl, R⟩
    · rcases hks with rfl | rfl | rfl | rfl | rfl | rfl | rfl
      all_goals
        go_wp2
        · go_ret
          rename_i hc
          have hc' := eq_of_beq hc
          subst hc'
          exact ⟨rfl, (R.setLetter _).setSt 1⟩
        · go_roundw
          case rel =>
            have hH := H.out
            rename_i hc
            have hc' := ne_of_beq_false hc
            refine ⟨_, ?_, ?_, rfl, by trivial, ?_⟩
            · omega
            · omega
            · unfold Hid; omega
          case measure => simp [intOf]

theorem daySecond_yes {s : RS} {c : Int} {k : Nat} (h : dayOf s.letter c = k) (hk : k < 7) : daySecondL s c = (true, { s with days := fun j => if j = k then true else s.days j, st := 2 }) := by
  subst h; unfold daySecondL; rw [if_pos hk]
set_option maxRecDepth 100000 in
set_option maxHeartbeats 8000000 in
theorem daySecond_any (R : RW it B b w0 w s vs) (c : Int) :
    Calls Tryd.prog 27 #[P0 b, .int .i32 c] w fun e w' => e = .returned (.bool (daySecondL s c).1) ∧ RW it B b w0 w' (daySecondL s c).2 vs := by
  have n0 : w.cell? ⟨0, 0, none⟩ = some (.string ⟨#[77, 111]⟩) := R.names 0 (by omega)
  have n1 : w.cell? ⟨0, 1, none⟩ = some (.string ⟨#[84, 117]⟩) := R.names 1 (by omega)
  have n2 : w.cell? ⟨0, 2, none⟩ = some (.string ⟨#[87, 101]⟩) := R.names 2 (by omega)
  have n3 : w.cell? ⟨0, 3, none⟩ = some (.string ⟨#[84, 104]⟩) := R.names 3 (by omega)
  have n4 : w.cell? ⟨0, 4, none⟩ = some (.string ⟨#[70, 114]⟩) := R.names 4 (by omega)
  have n5 : w.cell? ⟨0, 5, none⟩ = some (.string ⟨#[83, 97]⟩) := R.names 5 (by omega)
  have n6 : w.cell? ⟨0, 6, none⟩ = some (.string ⟨#[83, 117]⟩) := R.names 6 (by omega)
  go_enter Tryd.func27, Tryd.ntmps27
  go_wp2
  clear n0 n1 n2 n3 n4 n5 n6
  have i0 := ix0
  have i1 := ix1
  have i2 := ix2
  have i3 := ix3
  have i4 := ix4
  have i5 := ix5
  have i6 := ix6
  have u0 := uu0
  have v0 := vv0
  have u1 := uu1
  have v1 := vv1
  have u2 := uu2
  have v2 := vv2
  have u3 := uu3
  have v3 := vv3
  have u4 := uu4
  have v4 := vv4
  have u5 := uu5
  have v5 := vv5
  have u6 := uu6
  have v6 := vv6
  go_loopw [8] (fun i wr => ∃ k : Int, 0 ≤ k ∧ k ≤ 7 ∧ i = .int .i64 k ∧ RW it B b w0 wr s vs ∧ Hid ((1 ≤ k → ¬ (s.letter = 77 ∧ c = 111)) ∧ (2 ≤ k → ¬ (s.letter = 84 ∧ c = 117)) ∧ (3 ≤ k → ¬ (s.letter = 87 ∧ c = 101)) ∧ (4 ≤ k → ¬ (s.letter = 84 ∧ c = 104)) ∧ (5 ≤ k → ¬ (s.letter = 70 ∧ c = 114)) ∧ (6 ≤ k → ¬ (s.letter = 83 ∧ c = 97)) ∧ (7 ≤ k → ¬ (s.letter = 83 ∧ c = 117)))) (fun i _ => 7 - (intOf i).toNat)
  case atStart => exact ⟨0, by omega, by omega, rfl, R, by unfold Hid; omega⟩
  case round =>
    obtain ⟨k, hk0, hk7, rfl, R2, H⟩ := hrel
    have g2 := R2.c2
    have hks : k = 7 ∨ k = 0 ∨ k = 1 ∨ k = 2 ∨ k = 3 ∨ k = 4 ∨ k = 5 ∨ k = 6 := by omega
    rcases hks with rfl | hks
    · have hc : dayOf s.letter c = 7 := by have := H.out; simp only [dayOf]; repeat (rw [if_neg (by omega)])
      have HC := hide hc
      clear hc i0 i1 i2 i3 i4 i5 i6
      go_wp2
      go_ret
      simp only [daySecondL, HC.out]
      exact ⟨rfl, R2⟩
    · have f0 := R2.frz 0
      have g0 := R2.c0
      rcases hks with rfl | rfl | rfl | rfl | rfl | rfl | rfl
      · have fk := R2.frz 3
        have gk := R2.cd 0 (by omega)
        simp only [Nat.reduceAdd] at gk
        by_cases hl : s.letter = 77
        · have e1 : (s.letter == 77) = true := by simp [hl]
          by_cases hc : c = 111
          · have e2 : (c == 111) = true := by simp [hc]
            have HD := hide (daySecond_yes (k := 0) (show dayOf s.letter c = 0 by rw [hl, hc]; rfl) (by omega))
            clear hl hc
            go_wp2
            go_quiet (fail)
            go_wp2
            go_ret
            rw [HD.out]
            exact ⟨rfl, ((R2.drewN _).setDay 0 (by omega) true).setSt 2⟩
          · have e2 : (c == 111) = false := by simp [hc]
            have hc2 := hide hc
            clear hl hc
            go_wp2
            go_quiet (fail)
            go_wp2
            go_roundw
            case rel =>
              have hH := H.out
              have := hc2.out
              refine ⟨1, by omega, by omega, rfl, R2.drewN _, by unfold Hid; omega⟩
            case measure => simp [intOf]
        · have e1 : (s.letter == 77) = false := by simp [hl]
          have hl2 := hide hl
          clear hl
          go_wp2
          go_quiet (fail)
          go_wp2
          go_roundw
          case rel =>
            have hH := H.out
            have := hl2.out
            refine ⟨1, by omega, by omega, rfl, R2.drewN _, by unfold Hid; omega⟩
          case measure => simp [intOf]
      · have fk := R2.frz 4
        have gk := R2.cd 1 (by omega)
        simp only [Nat.reduceAdd] at gk
        by_cases hl : s.letter = 84
        · have e1 : (s.letter == 84) = true := by simp [hl]
          by_cases hc : c = 117
          · have e2 : (c == 117) = true := by simp [hc]
            have HD := hide (daySecond_yes (k := 1) (show dayOf s.letter c = 1 by rw [hl, hc]; rfl) (by omega))
            clear hl hc
            go_wp2
            go_quiet (fail)
            go_wp2
            go_ret
            rw [HD.out]
            exact ⟨rfl, ((R2.drewN _).setDay 1 (by omega) true).setSt 2⟩
          · have e2 : (c == 117) = false := by simp [hc]
            have hc2 := hide hc
            clear hl hc
            go_wp2
            go_quiet (fail)
            go_wp2
            go_roundw
            case rel =>
              have hH := H.out
              have := hc2.out
              refine ⟨2, by omega, by omega, rfl, R2.drewN _, by unfold Hid; omega⟩
            case measure => simp [intOf]
        · have e1 : (s.letter == 84) = false := by simp [hl]
          have hl2 := hide hl
          clear hl
          go_wp2
          go_quiet (fail)
          go_wp2
          go_roundw
          case rel =>
            have hH := H.out
            have := hl2.out
            refine ⟨2, by omega, by omega, rfl, R2.drewN _, by unfold Hid; omega⟩
          case measure => simp [intOf]
      · have fk := R2.frz 5
        have gk := R2.cd 2 (by omega)
        simp only [Nat.reduceAdd] at gk
        by_cases hl : s.letter = 87
        · have e1 : (s.letter == 87) = true := by simp [hl]
          by_cases hc : c = 101
          · have e2 : (c == 101) = true := by simp [hc]
            have HD := hide (daySecond_yes (k := 2) (show dayOf s.letter c = 2 by rw [hl, hc]; rfl) (by omega))
            clear hl hc
            go_wp2
            go_quiet (fail)
            go_wp2
            go_ret
            rw [HD.out]
            exact ⟨rfl, ((R2.drewN _).setDay 2 (by omega) true).setSt 2⟩
          · have e2 : (c == 101) = false := by simp [hc]
            have hc2 := hide hc
            clear hl hc
            go_wp2
            go_quiet (fail)
            go_wp2
            go_roundw
            case rel =>
              have hH := H.out
              have := hc2.out
              refine ⟨3, by omega, by omega, rfl, R2.drewN _, by unfold Hid; omega⟩
            case measure => simp [intOf]
        · have e1 : (s.letter == 87) = false := by simp [hl]
          have hl2 := hide hl
          clear hl
          go_wp2
          go_quiet (fail)
          go_wp2
          go_roundw
          case rel =>
            have hH := H.out
            have := hl2.out
            refine ⟨3, by omega, by omega, rfl, R2.drewN _, by unfold Hid; omega⟩
          case measure => simp [intOf]
      · have fk := R2.frz 6
        have gk := R2.cd 3 (by omega)
        simp only [Nat.reduceAdd] at gk
        by_cases hl : s.letter = 84
        · have e1 : (s.letter == 84) = true := by simp [hl]
          by_cases hc : c = 104
          · have e2 : (c == 104) = true := by simp [hc]
            have HD := hide (daySecond_yes (k := 3) (show dayOf s.letter c = 3 by rw [hl, hc]; rfl) (by omega))
            clear hl hc
            go_wp2
            go_quiet (fail)
            go_wp2
            go_ret
            rw [HD.out]
            exact ⟨rfl, ((R2.drewN _).setDay 3 (by omega) true).setSt 2⟩
          · have e2 : (c == 104) = false := by simp [hc]
            have hc2 := hide hc
            clear hl hc
            go_wp2
            go_quiet (fail)
            go_wp2
            go_roundw
            case rel =>
              have hH := H.out
              have := hc2.out
              refine ⟨4, by omega, by omega, rfl, R2.drewN _, by unfold Hid; omega⟩
            case measure => simp [intOf]
        · have e1 : (s.letter == 84) = false := by simp [hl]
          have hl2 := hide hl
          clear hl
          go_wp2
          go_quiet (fail)
          go_wp2
          go_roundw
          case rel =>
            have hH := H.out
            have := hl2.out
            refine ⟨4, by omega, by omega, rfl, R2.drewN _, by unfold Hid; omega⟩
          case measure => simp [intOf]
      · have fk := R2.frz 7
        have gk := R2.cd 4 (by omega)
        simp only [Nat.reduceAdd] at gk
        by_cases hl : s.letter = 70
        · have e1 : (s.letter == 70) = true := by simp [hl]
          by_cases hc : c = 114
          · have e2 : (c == 114) = true := by simp [hc]
            have HD := hide (daySecond_yes (k := 4) (show dayOf s.letter c = 4 by rw [hl, hc]; rfl) (by omega))
            clear hl hc
            go_wp2
            go_quiet (fail)
            go_wp2
            go_ret
            rw [HD.out]
            exact ⟨rfl, ((R2.drewN _).setDay 4 (by omega) true).setSt 2⟩
          · have e2 : (c == 114) = false := by simp [hc]
            have hc2 := hide hc
            clear hl hc
            go_wp2
            go_quiet (fail)
            go_wp2
            go_roundw
            case rel =>
              have hH := H.out
              have := hc2.out
              refine ⟨5, by omega, by omega, rfl, R2.drewN _, by unfold Hid; omega⟩
            case measure => simp [intOf]
        · have e1 : (s.letter == 70) = false := by simp [hl]
          have hl2 := hide hl
          clear hl
          go_wp2
          go_quiet (fail)
          go_wp2
          go_roundw
          case rel =>
            have hH := H.out
            have := hl2.out
            refine ⟨5, by omega, by omega, rfl, R2.drewN _, by unfold Hid; omega⟩
          case measure => simp [intOf]
      · have fk := R2.frz 8
        have gk := R2.cd 5 (by omega)
        simp only [Nat.reduceAdd] at gk
        by_cases hl : s.letter = 83
        · have e1 : (s.letter == 83) = true := by simp [hl]
          by_cases hc : c = 97
          · have e2 : (c == 97) = true := by simp [hc]
            have HD := hide (daySecond_yes (k := 5) (show dayOf s.letter c = 5 by rw [hl, hc]; rfl) (by omega))
            clear hl hc
            go_wp2
            go_quiet (fail)
            go_wp2
            go_ret
            rw [HD.out]
            exact ⟨rfl, ((R2.drewN _).setDay 5 (by omega) true).setSt 2⟩
          · have e2 : (c == 97) = false := by simp [hc]
            have hc2 := hide hc
            clear hl hc
            go_wp2
            go_quiet (fail)
            go_wp2
            go_roundw
            case rel =>
              have hH := H.out
              have := hc2.out
              refine ⟨6, by omega, by omega, rfl, R2.drewN _, by unfold Hid; omega⟩
            case measure => simp [intOf]
        · have e1 : (s.letter == 83) = false := by simp [hl]
          have hl2 := hide hl
          clear hl
          go_wp2
          go_quiet (fail)
          go_wp2
          go_roundw
          case rel =>
            have hH := H.out
            have := hl2.out
            refine ⟨6, by omega, by omega, rfl, R2.drewN _, by unfold Hid; omega⟩
          case measure => simp [intOf]
      · have fk := R2.frz 9
        have gk := R2.cd 6 (by omega)
        simp only [Nat.reduceAdd] at gk
        by_cases hl : s.letter = 83
        · have e1 : (s.letter == 83) = true := by simp [hl]
          by_cases hc : c = 117
          · have e2 : (c == 117) = true := by simp [hc]
            have HD := hide (daySecond_yes (k := 6) (show dayOf s.letter c = 6 by rw [hl, hc]; rfl) (by omega))
            clear hl hc
            go_wp2
            go_quiet (fail)
            go_wp2
            go_ret
            rw [HD.out]
            exact ⟨rfl, ((R2.drewN _).setDay 6 (by omega) true).setSt 2⟩
          · have e2 : (c == 117) = false := by simp [hc]
            have hc2 := hide hc
            clear hl hc
            go_wp2
            go_quiet (fail)
            go_wp2
            go_roundw
            case rel =>
              have hH := H.out
              have := hc2.out
              refine ⟨7, by omega, by omega, rfl, R2.drewN _, by unfold Hid; omega⟩
            case measure => simp [intOf]
        · have e1 : (s.letter == 83) = false := by simp [hl]
          have hl2 := hide hl
          clear hl
          go_wp2
          go_quiet (fail)
          go_wp2
          go_roundw
          case rel =>
            have hH := H.out
            have := hl2.out
            refine ⟨7, by omega, by omega, rfl, R2.drewN _, by unfold Hid; omega⟩
          case measure => simp [intOf]
end
end Go.Proofs.YtcnmbldikjljeaaDoor
