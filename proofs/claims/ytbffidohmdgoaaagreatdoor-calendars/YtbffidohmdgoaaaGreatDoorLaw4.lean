import Derived.Test.YtbffidohmdgoaaaGreatDoorLaw3
import Derived.Deep.DeepMust
import Derived.Deep.RegionHeld3
namespace Go.Proofs.YtbffidohmdgoaaaGreatDoor
open Go.RowKit

theorem pk_nat (c : Int) (n : Nat) (hn : 0 < n) : ∃ i : Nat, pk c n = (i : Int) ∧ i < n := by
  have h1 := pk_lo c n (by omega)
  have h2 := pk_hi c n (by omega)
  exact ⟨(pk c n).toNat, by omega, by omega⟩
theorem box_facts (w : World) (x0 x1 x2 x3 x4 x5 : Value) (t : TypeId) : Below w.heap.size w (w.alloc (Obj.cells #[x0, x1, x2, x3, x4, x5] t)) ∧ w.heap.size < (w.alloc (Obj.cells #[x0, x1, x2, x3, x4, x5] t)).heap.size ∧
    ((w.alloc (Obj.cells #[x0, x1, x2, x3, x4, x5] t)).drew.cell? ⟨w.heap.size, 0, none⟩ = some x0 ∧ (w.alloc (Obj.cells #[x0, x1, x2, x3, x4, x5] t)).drew.cell? ⟨w.heap.size, 1, none⟩ = some x1 ∧ (w.alloc (Obj.cells #[x0, x1, x2, x3, x4, x5] t)).drew.cell? ⟨w.heap.size, 2, none⟩ = some x2 ∧
     (w.alloc (Obj.cells #[x0, x1, x2, x3, x4, x5] t)).drew.cell? ⟨w.heap.size, 3, none⟩ = some x3 ∧ (w.alloc (Obj.cells #[x0, x1, x2, x3, x4, x5] t)).drew.cell? ⟨w.heap.size, 4, none⟩ = some x4 ∧ (w.alloc (Obj.cells #[x0, x1, x2, x3, x4, x5] t)).drew.cell? ⟨w.heap.size, 5, none⟩ = some x5) := by
  have hd : ∀ (u : World) (p : Addr), u.drew.cell? p = u.cell? p := fun _ _ => rfl
  refine ⟨(Below.refl _ _).alloc (Nat.le_refl _) _, by simp, ?_⟩
  simp only [hd]
  refine ⟨?_, ?_, ?_, ?_, ?_, ?_⟩ <;> (rw [World.cell?_alloc_at _ _ _ _ rfl]; rfl)
set_option maxRecDepth 100000 in
set_option maxHeartbeats 4000000 in
/-- a Parse -/
theorem step_parse (W w : World) (wb : Nat) (v : Value) (ys : List (Nat × Nat)) (D : DW W w wb v ys) (a b d : Int) (s : ByteArray) (l : Value) (h0 : 0 < W.heap.size) (hnm : ∀ j, j < 7 → W.cell? ⟨0, j, none⟩ = some (nmV j)) (hs : s.size ≤ 9223372036854775807)
    (hn : (ys.length + 1) * 16 ≤ 140737488355328) :
    Calls Tryz.prog 25 #[P0 wb, .agg #[.int .i64 1, .int .i64 a, .int .i64 b, .int .i64 d, .string s, l]] w fun e w' => e = .returned (.bool true) ∧ ∃ v' ys', DW W w' wb v' ys' ∧ ys'.length ≤ ys.length + 1 := by
  have D0 := D.on ((Below.refl _ _).alloc (Nat.le_refl _) (Obj.cells #[.int .i64 1, .int .i64 a, .int .i64 b, .int .i64 d, .string s, l] 77))
  have HP := hide (parsed_any W _ wb v ys D0 1 a b d s l h0 hnm hs hn)
  clear D D0 hnm
  go_enter Tryz.func25, Tryz.ntmps25
  go_wp2_with fail
  refine HP.out.mono ?_
  rintro e w1 ⟨rfl, v', ys', D', hl'⟩
  have HR := hide (And.intro D' hl')
  clear D' hl' HP
  go_wp2_with fail
  go_ret
  exact ⟨rfl, v', ys', HR.out.1, HR.out.2⟩
set_option maxRecDepth 100000 in
set_option maxHeartbeats 4000000 in
/-- a minute of a calendar, if there is one -/
theorem step_minute (W w : World) (wb : Nat) (v : Value) (ys : List (Nat × Nat)) (D : DW W w wb v ys) (a b d : Int) (s : ByteArray) (l : Value) (a0 : -9223372036854775808 ≤ a) (a1 : a ≤ 9223372036854775807) (hn : (ys.length + 1) * 16 ≤ 140737488355328) :
    Calls Tryz.prog 25 #[P0 wb, .agg #[.int .i64 2, .int .i64 a, .int .i64 b, .int .i64 d, .string s, l]] w fun e w' => e = .returned (.bool true) ∧ ∃ v' ys', DW W w' wb v' ys' ∧ ys'.length ≤ ys.length + 1 := by
  have hcv := D.c0
  have hc1 := D.c1
  have hlt := D.lt
  have D0 := D.on ((Below.refl _ _).alloc (Nat.le_refl _) (Obj.cells #[.int .i64 2, .int .i64 a, .int .i64 b, .int .i64 d, .string s, l] 77))
  have HB := hide (box_facts w (.int .i64 2) (.int .i64 a) (.int .i64 b) (.int .i64 d) (.string s) l 77)
  have HD := hide D0
  rcases D.own.2 with ⟨rfl, hz⟩ | ⟨q, cap, cur, rfl, _, hg, _⟩
  · clear D D0
    go_enter Tryz.func25, Tryz.ntmps25
    go_wp2_with fail
    go_ret
    exact ⟨rfl, _, ys, HD.out, by omega⟩
  · by_cases hz : ys.length = 0
    · rw [hz] at hcv
      clear D D0
      go_enter Tryz.func25, Tryz.ntmps25
      go_wp2_with fail
      go_ret
      exact ⟨rfl, _, ys, HD.out, by omega⟩
    · have hp : 0 < ys.length := by omega
      have hp2 : 0 < (ys.length : Int) := by omega
      have hp3 : (ys.length : Int) ≤ 9223372036854775807 := by omega
      have HL : Hid (∀ u : World, _) := fun u => lpick_any a ys.length u a0 a1 hp2 hp3
      obtain ⟨i, hi, hil⟩ := pk_nat a ys.length hp
      have hi2 : (i : Int) < ys.length := by omega
      rw [hi] at HL
      clear D D0 hi hg
      go_enter Tryz.func25, Tryz.ntmps25
      go_wp2_with fail
      generalize w.alloc (Obj.cells #[.int .i64 2, .int .i64 a, .int .i64 b, .int .i64 d, .string s, l] 77) = wo at *
      have D0 := HD.out
      have HDD := hide (D0.on ((Below.refl _ _).drew))
      clear hcv hc1 hlt
      have hcv : wo.drew.cell? ⟨wb, 0, none⟩ = some _ := D0.c0
      have hc := yrCells_at ys i hil
      have e0 : wo.drew.cell? ⟨q, i * 2, none⟩ = some (P0 ys[i].1) := (D0.own.cellAt (i * 2) (by omega)).trans hc.1
      have e1 : wo.drew.cell? ⟨q, i * 2 + 1, none⟩ = some (P0 ys[i].2) := (D0.own.cellAt (i * 2 + 1) (by omega)).trans hc.2
      have HM := hide (minute_any wo.drew wb _ ys[i].1 ys[i].2 (HDD.out.yrs ys[i] (List.getElem_mem hil)) a b d s l)
      obtain ⟨_, hsz, q0, q1, q2, q3, q4, q5⟩ := HB.out
      clear D0 hc HB HD
      have hqs : q < wo.drew.heap.size := World.block_lt_of_cell? _ _ e0
      have hws : wb < wo.drew.heap.size := World.block_lt_of_cell? _ _ hcv
      have hbs : w.heap.size < wo.drew.heap.size := hsz
      generalize ys[i].1 = yc at *
      generalize ys[i].2 = yr at *
      go_region_held3 (fun w' => w'.cell? ⟨wb, 0, none⟩ = some (.slice (some ⟨q, 0, none⟩) ys.length cap) ∧ w'.cell? ⟨q, i * 2, none⟩ = some (P0 yc) ∧ w'.cell? ⟨q, i * 2 + 1, none⟩ = some (P0 yr) ∧ w'.cell? ⟨w.heap.size, 0, none⟩ = some (.int .i64 2) ∧ w'.cell? ⟨w.heap.size, 1, none⟩ = some (.int .i64 a) ∧ w'.cell? ⟨w.heap.size, 2, none⟩ = some (.int .i64 b) ∧ w'.cell? ⟨w.heap.size, 3, none⟩ = some (.int .i64 d) ∧ w'.cell? ⟨w.heap.size, 4, none⟩ = some (.string s) ∧ w'.cell? ⟨w.heap.size, 5, none⟩ = some l) ((go_keep; done))
        (first | (go_at_call 51; refine (HL.out _).mono ?_; rintro e w' ⟨rfl, rfl⟩) | (go_at_call 50; refine HM.out.mono ?_; rintro e w' ⟨rfl, bl⟩; have z0 := (bl.cell (p := ⟨wb, 0, none⟩) hws).trans hcv; have z1 := (bl.cell (p := ⟨q, i * 2, none⟩) hqs).trans e0; have z2 := (bl.cell (p := ⟨q, i * 2 + 1, none⟩) hqs).trans e1; have y0 := (bl.cell (p := ⟨w.heap.size, 0, none⟩) hbs).trans q0; have y1 := (bl.cell (p := ⟨w.heap.size, 1, none⟩) hbs).trans q1; have y2 := (bl.cell (p := ⟨w.heap.size, 2, none⟩) hbs).trans q2; have y3 := (bl.cell (p := ⟨w.heap.size, 3, none⟩) hbs).trans q3; have y4 := (bl.cell (p := ⟨w.heap.size, 4, none⟩) hbs).trans q4; have y5 := (bl.cell (p := ⟨w.heap.size, 5, none⟩) hbs).trans q5))
      have HF := hide (HDD.out.on bl)
      clear HDD HM HL bl
      go_wp2_with fail
      go_ret
      exact ⟨rfl, _, ys, HF.out, by omega⟩
end Go.Proofs.YtbffidohmdgoaaaGreatDoor
