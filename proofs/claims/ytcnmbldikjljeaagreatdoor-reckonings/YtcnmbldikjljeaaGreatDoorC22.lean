import Derived.Test.YtcnmbldikjljeaaGreatDoorC21
namespace Go.Proofs.YtcnmbldikjljeaaGreatDoor
open Go.RowKit

set_option maxRecDepth 100000 in
set_option maxHeartbeats 4000000 in
/-- a Between of a calendar, if there is one -/
theorem step_between (W w : World) (wb : Nat) (v : Value) (ys : List (Nat × Nat)) (D : DW W w wb v ys) (a b d : Int) (s : ByteArray) (l : Value) (a0 : -9223372036854775808 ≤ a) (a1 : a ≤ 9223372036854775807) (hn : (ys.length + 1) * 16 ≤ 140737488355328) :
    Calls Tryz.prog 30 #[P0 wb, .agg #[.int .i64 3, .int .i64 a, .int .i64 b, .int .i64 d, .string s, l]] w fun e w' => e = .returned (.bool true) ∧ ∃ v' ys', DW W w' wb v' ys' ∧ ys'.length ≤ ys.length + 1 := by
  have hcv := D.c0
  have hc1 := D.c1
  have hlt := D.lt
  have D0 := D.on ((Below.refl _ _).alloc (Nat.le_refl _) (Obj.cells #[.int .i64 3, .int .i64 a, .int .i64 b, .int .i64 d, .string s, l] 84))
  have HB := hide (box_facts w (.int .i64 3) (.int .i64 a) (.int .i64 b) (.int .i64 d) (.string s) l 84)
  have HD := hide D0
  rcases D.own.2 with ⟨rfl, hz⟩ | ⟨q, cap, cur, rfl, _, hg, _⟩
  · clear D D0
    go_enter Tryz.func30, Tryz.ntmps30
    go_wp2_with fail
    go_ret
    exact ⟨rfl, _, ys, HD.out, by omega⟩
  · by_cases hz : ys.length = 0
    · rw [hz] at hcv
      clear D D0
      go_enter Tryz.func30, Tryz.ntmps30
      go_wp2_with fail
      go_ret
      exact ⟨rfl, _, ys, HD.out, by omega⟩
    · have hp : 0 < ys.length := by omega
      have hp2 : 0 < (ys.length : Int) := by omega
      have hp3 : (ys.length : Int) ≤ 9223372036854775807 := by omega
      have HL : Hid (∀ u : World, _) := fun u => lpick_any a ys.length u a0 a1 hp2 hp3
      obtain ⟨i, hi, hil⟩ := pk_nat a ys.length hp
      have hi2 : (i : Int) < ys.length := by omega
      rw [hi] at HL
      clear D D0 hi hg
      go_enter Tryz.func30, Tryz.ntmps30
      go_wp2_with fail
      generalize w.alloc (Obj.cells #[.int .i64 3, .int .i64 a, .int .i64 b, .int .i64 d, .string s, l] 84) = wo at *
      have D0 := HD.out
      have HDD := hide (D0.on ((Below.refl _ _).drew))
      clear hcv hc1 hlt
      have hcv : wo.drew.cell? ⟨wb, 0, none⟩ = some _ := D0.c0
      have hc := yrCells_at ys i hil
      have e0 : wo.drew.cell? ⟨q, i * 2, none⟩ = some (P0 ys[i].1) := (D0.own.cellAt (i * 2) (by omega)).trans hc.1
      have e1 : wo.drew.cell? ⟨q, i * 2 + 1, none⟩ = some (P0 ys[i].2) := (D0.own.cellAt (i * 2 + 1) (by omega)).trans hc.2
      have HM := hide (between_rk wo.drew wb _ ys[i].1 ys[i].2 (HDD.out.yrs ys[i] (List.getElem_mem hil)) a b d s l)
      obtain ⟨_, hsz, q0, q1, q2, q3, q4, q5⟩ := HB.out
      clear D0 hc HB HD
      have hqs : q < wo.drew.heap.size := World.block_lt_of_cell? _ _ e0
      have hws : wb < wo.drew.heap.size := World.block_lt_of_cell? _ _ hcv
      have hbs : w.heap.size < wo.drew.heap.size := hsz
      generalize ys[i].1 = yc at *
      generalize ys[i].2 = yr at *
      go_region_held3 (fun w' => w'.cell? ⟨wb, 0, none⟩ = some (.slice (some ⟨q, 0, none⟩) ys.length cap) ∧ w'.cell? ⟨q, i * 2, none⟩ = some (P0 yc) ∧ w'.cell? ⟨q, i * 2 + 1, none⟩ = some (P0 yr) ∧ w'.cell? ⟨w.heap.size, 0, none⟩ = some (.int .i64 3) ∧ w'.cell? ⟨w.heap.size, 1, none⟩ = some (.int .i64 a) ∧ w'.cell? ⟨w.heap.size, 2, none⟩ = some (.int .i64 b) ∧ w'.cell? ⟨w.heap.size, 3, none⟩ = some (.int .i64 d) ∧ w'.cell? ⟨w.heap.size, 4, none⟩ = some (.string s) ∧ w'.cell? ⟨w.heap.size, 5, none⟩ = some l) ((go_keep; done))
        (first | (go_at_call 59; refine (HL.out _).mono ?_; rintro e w' ⟨rfl, rfl⟩) | (go_at_call 58; refine HM.out.mono ?_; rintro e w' ⟨rfl, bl⟩; have z0 := (bl.cell (p := ⟨wb, 0, none⟩) hws).trans hcv; have z1 := (bl.cell (p := ⟨q, i * 2, none⟩) hqs).trans e0; have z2 := (bl.cell (p := ⟨q, i * 2 + 1, none⟩) hqs).trans e1; have y0 := (bl.cell (p := ⟨w.heap.size, 0, none⟩) hbs).trans q0; have y1 := (bl.cell (p := ⟨w.heap.size, 1, none⟩) hbs).trans q1; have y2 := (bl.cell (p := ⟨w.heap.size, 2, none⟩) hbs).trans q2; have y3 := (bl.cell (p := ⟨w.heap.size, 3, none⟩) hbs).trans q3; have y4 := (bl.cell (p := ⟨w.heap.size, 4, none⟩) hbs).trans q4; have y5 := (bl.cell (p := ⟨w.heap.size, 5, none⟩) hbs).trans q5))
      have HF := hide (HDD.out.on bl)
      clear HDD HM HL bl
      go_wp2_with fail
      go_ret
      exact ⟨rfl, _, ys, HF.out, by omega⟩
set_option maxRecDepth 100000 in
set_option maxHeartbeats 4000000 in
/-- an Add of a calendar, if there is one -/
theorem step_add (W w : World) (wb : Nat) (v : Value) (ys : List (Nat × Nat)) (D : DW W w wb v ys) (a b d : Int) (s : ByteArray) (l : Value) (a0 : -9223372036854775808 ≤ a) (a1 : a ≤ 9223372036854775807) (hn : (ys.length + 1) * 16 ≤ 140737488355328) :
    Calls Tryz.prog 30 #[P0 wb, .agg #[.int .i64 4, .int .i64 a, .int .i64 b, .int .i64 d, .string s, l]] w fun e w' => e = .returned (.bool true) ∧ ∃ v' ys', DW W w' wb v' ys' ∧ ys'.length ≤ ys.length + 1 := by
  have hcv := D.c0
  have hc1 := D.c1
  have hlt := D.lt
  have D0 := D.on ((Below.refl _ _).alloc (Nat.le_refl _) (Obj.cells #[.int .i64 4, .int .i64 a, .int .i64 b, .int .i64 d, .string s, l] 84))
  have HB := hide (box_facts w (.int .i64 4) (.int .i64 a) (.int .i64 b) (.int .i64 d) (.string s) l 84)
  have HD := hide D0
  rcases D.own.2 with ⟨rfl, hz⟩ | ⟨q, cap, cur, rfl, _, hg, _⟩
  · clear D D0
    go_enter Tryz.func30, Tryz.ntmps30
    go_wp2_with fail
    go_ret
    exact ⟨rfl, _, ys, HD.out, by omega⟩
  · by_cases hz : ys.length = 0
    · rw [hz] at hcv
      clear D D0
      go_enter Tryz.func30, Tryz.ntmps30
      go_wp2_with fail
      go_ret
      exact ⟨rfl, _, ys, HD.out, by omega⟩
    · have hp : 0 < ys.length := by omega
      have hp2 : 0 < (ys.length : Int) := by omega
      have hp3 : (ys.length : Int) ≤ 9223372036854775807 := by omega
      have HL : Hid (∀ u : World, _) := fun u => lpick_any a ys.length u a0 a1 hp2 hp3
      obtain ⟨i, hi, hil⟩ := pk_nat a ys.length hp
      have hi2 : (i : Int) < ys.length := by omega
      rw [hi] at HL
      clear D D0 hi hg
      go_enter Tryz.func30, Tryz.ntmps30
      go_wp2_with fail
      generalize w.alloc (Obj.cells #[.int .i64 4, .int .i64 a, .int .i64 b, .int .i64 d, .string s, l] 84) = wo at *
      have D0 := HD.out
      have HDD := hide (D0.on ((Below.refl _ _).drew))
      clear hcv hc1 hlt
      have hcv : wo.drew.cell? ⟨wb, 0, none⟩ = some _ := D0.c0
      have hc := yrCells_at ys i hil
      have e0 : wo.drew.cell? ⟨q, i * 2, none⟩ = some (P0 ys[i].1) := (D0.own.cellAt (i * 2) (by omega)).trans hc.1
      have e1 : wo.drew.cell? ⟨q, i * 2 + 1, none⟩ = some (P0 ys[i].2) := (D0.own.cellAt (i * 2 + 1) (by omega)).trans hc.2
      have HM := hide (add_rk wo.drew wb _ ys[i].1 ys[i].2 (HDD.out.yrs ys[i] (List.getElem_mem hil)) a b d s l)
      obtain ⟨_, hsz, q0, q1, q2, q3, q4, q5⟩ := HB.out
      clear D0 hc HB HD
      have hqs : q < wo.drew.heap.size := World.block_lt_of_cell? _ _ e0
      have hws : wb < wo.drew.heap.size := World.block_lt_of_cell? _ _ hcv
      have hbs : w.heap.size < wo.drew.heap.size := hsz
      generalize ys[i].1 = yc at *
      generalize ys[i].2 = yr at *
      go_region_held3 (fun w' => w'.cell? ⟨wb, 0, none⟩ = some (.slice (some ⟨q, 0, none⟩) ys.length cap) ∧ w'.cell? ⟨q, i * 2, none⟩ = some (P0 yc) ∧ w'.cell? ⟨q, i * 2 + 1, none⟩ = some (P0 yr) ∧ w'.cell? ⟨w.heap.size, 0, none⟩ = some (.int .i64 4) ∧ w'.cell? ⟨w.heap.size, 1, none⟩ = some (.int .i64 a) ∧ w'.cell? ⟨w.heap.size, 2, none⟩ = some (.int .i64 b) ∧ w'.cell? ⟨w.heap.size, 3, none⟩ = some (.int .i64 d) ∧ w'.cell? ⟨w.heap.size, 4, none⟩ = some (.string s) ∧ w'.cell? ⟨w.heap.size, 5, none⟩ = some l) ((go_keep; done))
        (first | (go_at_call 59; refine (HL.out _).mono ?_; rintro e w' ⟨rfl, rfl⟩) | (go_at_call 58; refine HM.out.mono ?_; rintro e w' ⟨rfl, bl⟩; have z0 := (bl.cell (p := ⟨wb, 0, none⟩) hws).trans hcv; have z1 := (bl.cell (p := ⟨q, i * 2, none⟩) hqs).trans e0; have z2 := (bl.cell (p := ⟨q, i * 2 + 1, none⟩) hqs).trans e1; have y0 := (bl.cell (p := ⟨w.heap.size, 0, none⟩) hbs).trans q0; have y1 := (bl.cell (p := ⟨w.heap.size, 1, none⟩) hbs).trans q1; have y2 := (bl.cell (p := ⟨w.heap.size, 2, none⟩) hbs).trans q2; have y3 := (bl.cell (p := ⟨w.heap.size, 3, none⟩) hbs).trans q3; have y4 := (bl.cell (p := ⟨w.heap.size, 4, none⟩) hbs).trans q4; have y5 := (bl.cell (p := ⟨w.heap.size, 5, none⟩) hbs).trans q5))
      have HF := hide (HDD.out.on bl)
      clear HDD HM HL bl
      go_wp2_with fail
      go_ret
      exact ⟨rfl, _, ys, HF.out, by omega⟩
set_option maxRecDepth 100000 in
set_option maxHeartbeats 1000000 in
theorem reckonings_any (a : Option Addr) (os : List OpD) (c : Nat) (w : World) (S : Scr w a os c) (h0 : 0 < w.heap.size) (hnm : ∀ j, j < 7 → w.cell? ⟨0, j, none⟩ = some (nmV j)) :
    Calls Tryz.prog 4 #[.slice a os.length c] w fun e w' => e = .returned (.bool true) ∧ Below w.heap.size w w' := by
  have b1 : Below w.heap.size w (w.alloc (Obj.cells #[.int .i64 1, .int .i64 2, .int .i64 3, .int .i64 4] 3)) := (Below.refl _ _).alloc (Nat.le_refl _) _
  have hsz : (w.alloc (Obj.cells #[.int .i64 1, .int .i64 2, .int .i64 3, .int .i64 4] 3)).heap.size = w.heap.size + 1 := by simp
  have S1 : Scr (w.alloc (Obj.cells #[.int .i64 1, .int .i64 2, .int .i64 3, .int .i64 4] 3)) a os c := S.on b1
  have hp : ∀ (i : Nat) (x : Int), ([1, 2, 3, 4] : List Int)[i]? = some x → (w.alloc (Obj.cells #[.int .i64 1, .int .i64 2, .int .i64 3, .int .i64 4] 3)).cell? ⟨w.heap.size, i, none⟩ = some (.int .i64 x) := by
    intro i x hx
    rw [World.cell?_alloc_at _ _ _ _ rfl]
    match i, hx with
    | 0, hx => simp at hx; subst hx; rfl
    | 1, hx => simp at hx; subst hx; rfl
    | 2, hx => simp at hx; subst hx; rfl
    | 3, hx => simp at hx; subst hx; rfl
  have HC := hide (plays_any a os c w.heap.size 4 [1, 2, 3, 4] _ S1 hp (by omega) (by decide) (by omega) (fun j hj => (b1.cell (p := ⟨0, j, none⟩) h0).trans (hnm j hj)) (by
    intro o W w1 wb v ys hk ho D hW hn hy
    obtain ⟨ok, oa, ob, od, oS, ol⟩ := o
    have hk2 : ok = 1 ∨ ok = 2 ∨ ok = 3 ∨ ok = 4 := by simpa using hk
    rcases hk2 with rfl | rfl | rfl | rfl
    · exact step_parse W w1 wb v ys D oa ob od oS ol hW hn ho.sz hy
    · exact step_minute W w1 wb v ys D oa ob od oS ol ho.a0 ho.a1 hy
    · exact step_between W w1 wb v ys D oa ob od oS ol ho.a0 ho.a1 hy
    · exact step_add W w1 wb v ys D oa ob od oS ol ho.a0 ho.a1 hy))
  clear S S1 hp hnm
  go_enter Tryz.func4, Tryz.ntmps4
  go_wp2_with fail
  refine HC.out.mono ?_
  rintro e w2 ⟨rfl, b2⟩
  have HB := hide (b1.trans (b2.mono b1.size))
  clear HC b1 b2
  go_wp2_with fail
  go_ret
  exact ⟨rfl, HB.out⟩
end Go.Proofs.YtcnmbldikjljeaaGreatDoor
