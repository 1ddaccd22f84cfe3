import Derived.Test.YtcnmbldikjljeaaGreatDoorJ37
namespace Go.Proofs.YtcnmbldikjljeaaGreatDoor
open Go.RowKit

theorem CalW.unro {own : Nat → Nat} {w : World} {g : Nat} {wk : Nat → List (Int × Int)} {fr : Nat → Bool} (h : CalW (roW own w) g wk fr) : CalW w g wk fr := by
  obtain ⟨jk, h, hj⟩ := h
  have hl := h.lt
  rw [ro_size] at hl
  refine ⟨jk, ⟨hl, fun j hj' => ?_, fun j hj' => (ro_cell (h.free j hj')).2⟩, hj⟩
  obtain ⟨v, h1, h2⟩ := h.week j hj'
  exact ⟨v, (ro_cell h1).2, ro_row h2 (by decide)⟩
theorem YM.yr {own : Nat → Nat} {w : World} {y : Nat × Nat} {wk : Nat → List (Int × Int)} {fr F : Nat → Bool} (h : YM own w y wk fr F) : Yr w w.heap.size none y := by
  have hc := h.cal.unro
  have hcl := hc.lt
  obtain ⟨q, cap, h1, h0, h2, h3⟩ := h.ref.unro.row
  have hrl := h.ref.unro.lt
  exact ⟨wk, fr, F, q, cap, hc, h.len, h.same, ⟨hrl, h1, h0, h2, h3⟩, fun k hk => ⟨by omega, by simp⟩⟩
/-- what a kind of step asks of a pair of calendars -/
def Rck (k a b dd : Int) (s : ByteArray) (l : Value) : Prop :=
  ∀ (u : World) (c r : Nat), Yr u u.heap.size none (c, r) → Calls Tryz.prog 58 #[.agg #[P0 c, P0 r], .agg #[.int .i64 k, .int .i64 a, .int .i64 b, .int .i64 dd, .string s, l]] u fun e w' => e = .returned (.bool true) ∧ Below u.heap.size u w'
section
variable {PS : PSt} {W w : World} {own : Nat → Nat} {wb : Nat} {v0 v1 v2 v3 : Value} {ys ds : List (Nat × Nat)} {es ns : List Value} {N : Int}
set_option maxRecDepth 100000 in
set_option maxHeartbeats 8000000 in
theorem step_reck (P : Prg PS) (D : DD PS W w own wb v0 v1 v2 v3 ys ds es ns N) (k a b d : Int) (s : ByteArray) (l : Value) (hk : k = 2 ∨ k = 3 ∨ k = 4) (A : Rck k a b d s l) (a0 : -9223372036854775808 ≤ a) (a1 : a ≤ 9223372036854775807) (hys : ys.length ≤ 2000000000000) :
    Calls Tryz.prog 30 #[P0 wb, .agg #[.int .i64 k, .int .i64 a, .int .i64 b, .int .i64 d, .string s, l]] w fun e w' => e = .returned (.bool true) ∧ DD PS W w' own wb v0 v1 v2 v3 ys ds es ns N := by
  have hcv : w.cell? ⟨wb, 0, none⟩ = some v0 := by simp [World.cell?, D.wbc]
  obtain ⟨ya, yc, hy⟩ := row_any D.yr.1
  have D0 := D.on P ((Below.refl _ _).alloc (Nat.le_refl _) (Obj.cells #[.int .i64 k, .int .i64 a, .int .i64 b, .int .i64 d, .string s, l] 84)) (Int.le_refl N)
  have HB := hide (box_facts w (.int .i64 k) (.int .i64 a) (.int .i64 b) (.int .i64 d) (.string s) l 84)
  have HD := hide D0
  have HA : Hid (Rck k a b d s l) := A
  have hlt : wb < w.heap.size := World.block_lt_of_cell? _ _ hcv
  subst hy
  have hk1 : (k == 1) = false := by simp; omega
  have hk5 : (k == 5) = false := by simp; omega
  have hk10 : (k == 10) = false := by simp; omega
  have hk2 : 2 ≤ k := by omega
  have hk4 : k ≤ 4 := by omega
  have hk11 : k < 11 := by omega
  clear D D0 A hk
  by_cases hz : ys.length = 0
  · rw [hz] at hcv
    go_enter Tryz.func30, Tryz.ntmps30
    go_wp2_with fail
    go_ret
    exact ⟨rfl, HD.out⟩
  · have hp : 0 < ys.length := by omega
    have hp2 : 0 < (ys.length : Int) := by omega
    have hp3 : (ys.length : Int) ≤ 9223372036854775807 := by omega
    have HL : Hid (∀ u : World, _) := fun u => lpick_any a ys.length u a0 a1 hp2 hp3
    obtain ⟨i, hi, hil⟩ := pk_nat a ys.length hp
    have hi2 : (i : Int) < ys.length := by omega
    rw [hi] at HL
    obtain ⟨q, cap, hq⟩ := row_some HD.out.yr.1 hp
    simp only [Value.slice.injEq] at hq
    obtain ⟨rfl, _, rfl⟩ := hq
    clear hi
    go_enter Tryz.func30, Tryz.ntmps30
    go_wp2_with fail
    generalize w.alloc (Obj.cells #[.int .i64 k, .int .i64 a, .int .i64 b, .int .i64 d, .string s, l] 84) = wo at *
    have D0 := HD.out
    have HDD := hide (D0.on P ((Below.refl _ _).drew) (Int.le_refl N))
    clear hcv hlt
    have hcv : wo.drew.cell? ⟨wb, 0, none⟩ = some (.slice (some ⟨q, 0, none⟩) ys.length yc) := by
      have h9 : wo.drew.heap[wb]? = _ := D0.wbc
      simp [World.cell?, h9]
    have hc := yrCells_at ys i hil
    have e0 : wo.drew.cell? ⟨q, i * 2, none⟩ = some (P0 ys[i].1) := (D0.yr.1.cellAt (i * 2) (by omega)).trans hc.1
    have e1 : wo.drew.cell? ⟨q, i * 2 + 1, none⟩ = some (P0 ys[i].2) := (D0.yr.1.cellAt (i * 2 + 1) (by omega)).trans hc.2
    obtain ⟨wk, fr, F, Y⟩ := HDD.out.yrs ys[i] (List.getElem_mem hil)
    have HM := hide (HA.out wo.drew ys[i].1 ys[i].2 Y.yr)
    obtain ⟨_, hsz, q0, q1, q2, q3, q4, q5⟩ := HB.out
    clear D0 hc HB HD HA Y
    have hqs : q < wo.drew.heap.size := World.block_lt_of_cell? _ _ e0
    have hws : wb < wo.drew.heap.size := World.block_lt_of_cell? _ _ hcv
    have hbs : w.heap.size < wo.drew.heap.size := hsz
    generalize ys[i].1 = pc at *
    generalize ys[i].2 = pr at *
    go_region_held3 (fun w' => w'.cell? ⟨wb, 0, none⟩ = some (.slice (some ⟨q, 0, none⟩) ys.length yc) ∧ w'.cell? ⟨q, i * 2, none⟩ = some (P0 pc) ∧ w'.cell? ⟨q, i * 2 + 1, none⟩ = some (P0 pr) ∧ w'.cell? ⟨w.heap.size, 0, none⟩ = some (.int .i64 k) ∧ w'.cell? ⟨w.heap.size, 1, none⟩ = some (.int .i64 a) ∧ w'.cell? ⟨w.heap.size, 2, none⟩ = some (.int .i64 b) ∧ w'.cell? ⟨w.heap.size, 3, none⟩ = some (.int .i64 d) ∧ w'.cell? ⟨w.heap.size, 4, none⟩ = some (.string s) ∧ w'.cell? ⟨w.heap.size, 5, none⟩ = some l) ((go_keep; done))
      (first | (go_at_call 59; refine (HL.out _).mono ?_; rintro e w' ⟨rfl, rfl⟩) | (go_at_call 58; refine HM.out.mono ?_; rintro e w' ⟨rfl, bl⟩; have z0 := (bl.cell (p := ⟨wb, 0, none⟩) hws).trans hcv; have z1 := (bl.cell (p := ⟨q, i * 2, none⟩) hqs).trans e0; have z2 := (bl.cell (p := ⟨q, i * 2 + 1, none⟩) hqs).trans e1; have y0 := (bl.cell (p := ⟨w.heap.size, 0, none⟩) hbs).trans q0; have y1 := (bl.cell (p := ⟨w.heap.size, 1, none⟩) hbs).trans q1; have y2 := (bl.cell (p := ⟨w.heap.size, 2, none⟩) hbs).trans q2; have y3 := (bl.cell (p := ⟨w.heap.size, 3, none⟩) hbs).trans q3; have y4 := (bl.cell (p := ⟨w.heap.size, 4, none⟩) hbs).trans q4; have y5 := (bl.cell (p := ⟨w.heap.size, 5, none⟩) hbs).trans q5))
    have HF := hide (HDD.out.on P bl (Int.le_refl N))
    clear HDD HM HL bl
    go_wp2_with fail
    go_ret
    exact ⟨rfl, HF.out⟩
end
end Go.Proofs.YtcnmbldikjljeaaGreatDoor
