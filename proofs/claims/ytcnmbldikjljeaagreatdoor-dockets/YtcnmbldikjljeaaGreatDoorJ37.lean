import Derived.Test.YtcnmbldikjljeaaGreatDoorJ32
import Derived.Test.YtcnmbldikjljeaaGreatDoorJ36
namespace Go.Proofs.YtcnmbldikjljeaaGreatDoor
open Go.RowKit

set_option maxRecDepth 100000 in
set_option maxHeartbeats 4000000 in
/-- a Between of a calendar, if there is one -/
theorem step_between (W w : World) (wb : Nat) (v : Value) (ys : List (Nat × Nat)) (D : DW W w wb v ys) (a b d : Int) (s : ByteArray) (l : Value) (a0 : -9223372036854775808 ≤ a) (a1 : a ≤ 9223372036854775807) (hn : (ys.length + 1) * 16 ≤ 140737488355328) :
    Calls Tryz.prog 30 #[P0 wb, .agg #[.int .i64 3, .int .i64 a, .int .i64 b, .int .i64 d, .string s, l]] w fun e w' => e = .returned (.bool true) ∧ ∃ v' ys', DW W w' wb v' ys' ∧ ys'.length ≤ ys.length + 1 := by
  have hcv := D.c0
  have hc1 := D.c1
  have hlt := D.lt
  have D0 := D.on ((Below.refl _ _).alloc (Nat.le_refl _) (Obj.cells #[.int .i64 3, .int .i64 a, .int .i64 b, .int .i64 d, .string s, l] 84))
  have HB := hide (box_facts w (.int .i64 3) (.int .i64 a) (.int .i64 b) (.int .i64 d) (.string s) l 84)
  have HD := hide D0
  rcases D.own.2 with ⟨rfl, hz⟩ | ⟨q, cap, cur, rfl, _, hg, _⟩
  · clear D D0
    go_enter Tryz.func30, Tryz.ntmps30
    go_wp2_with fail
    go_ret
    exact ⟨rfl, _, ys, HD.out, by omega⟩
  · by_cases hz : ys.length = 0
    · rw [hz] at hcv
      clear D D0
      go_enter Tryz.func30, Tryz.ntmps30
      go_wp2_with fail
      go_ret
      exact ⟨rfl, _, ys, HD.out, by omega⟩
    · have hp : 0 < ys.length := by omega
      have hp2 : 0 < (ys.length : Int) := by omega
      have hp3 : (ys.length : Int) ≤ 9223372036854775807 := by omega
      have HL : Hid (∀ u : World, _) := fun u => lpick_any a ys.length u a0 a1 hp2 hp3
      obtain ⟨i, hi, hil⟩ := pk_nat a ys.length hp
      have hi2 : (i : Int) < ys.length := by omega
      rw [hi] at HL
      clear D D0 hi hg
      go_enter Tryz.func30, Tryz.ntmps30
      go_wp2_with fail
      generalize w.alloc (Obj.cells #[.int .i64 3, .int .i64 a, .int .i64 b, .int .i64 d, .string s, l] 84) = wo at *
      have D0 := HD.out
      have HDD := hide (D0.on ((Below.refl _ _).drew))
      clear hcv hc1 hlt
      have hcv : wo.drew.cell? ⟨wb, 0, none⟩ = some _ := D0.c0
      have hc := yrCells_at ys i hil
      have e0 : wo.drew.cell? ⟨q, i * 2, none⟩ = some (P0 ys[i].1) := (D0.own.cellAt (i * 2) (by omega)).trans hc.1
      have e1 : wo.drew.cell? ⟨q, i * 2 + 1, none⟩ = some (P0 ys[i].2) := (D0.own.cellAt (i * 2 + 1) (by omega)).trans hc.2
      have HM := hide (between_rk wo.drew wb _ ys[i].1 ys[i].2 (HDD.out.yrs ys[i] (List.getElem_mem hil)) a b d s l)
      obtain ⟨_, hsz, q0, q1, q2, q3, q4, q5⟩ := HB.out
      clear D0 hc HB HD
      have hqs : q < wo.drew.heap.size := World.block_lt_of_cell? _ _ e0
      have hws : wb < wo.drew.heap.size := World.block_lt_of_cell? _ _ hcv
      have hbs : w.heap.size < wo.drew.heap.size := hsz
      generalize ys[i].1 = yc at *
      generalize ys[i].2 = yr at *
      go_region_held3 (fun w' => w'.cell? ⟨wb, 0, none⟩ = some (.slice (some ⟨q, 0, none⟩) ys.length cap) ∧ w'.cell? ⟨q, i * 2, none⟩ = some (P0 yc) ∧ w'.cell? ⟨q, i * 2 + 1, none⟩ = some (P0 yr) ∧ w'.cell? ⟨w.heap.size, 0, none⟩ = some (.int .i64 3) ∧ w'.cell? ⟨w.heap.size, 1, none⟩ = some (.int .i64 a) ∧ w'.cell? ⟨w.heap.size, 2, none⟩ = some (.int .i64 b) ∧ w'.cell? ⟨w.heap.size, 3, none⟩ = some (.int .i64 d) ∧ w'.cell? ⟨w.heap.size, 4, none⟩ = some (.string s) ∧ w'.cell? ⟨w.heap.size, 5, none⟩ = some l) ((go_keep; done))
        (first | (go_at_call 59; refine (HL.out _).mono ?_; rintro e w' ⟨rfl, rfl⟩) | (go_at_call 58; refine HM.out.mono ?_; rintro e w' ⟨rfl, bl⟩; have z0 := (bl.cell (p := ⟨wb, 0, none⟩) hws).trans hcv; have z1 := (bl.cell (p := ⟨q, i * 2, none⟩) hqs).trans e0; have z2 := (bl.cell (p := ⟨q, i * 2 + 1, none⟩) hqs).trans e1; have y0 := (bl.cell (p := ⟨w.heap.size, 0, none⟩) hbs).trans q0; have y1 := (bl.cell (p := ⟨w.heap.size, 1, none⟩) hbs).trans q1; have y2 := (bl.cell (p := ⟨w.heap.size, 2, none⟩) hbs).trans q2; have y3 := (bl.cell (p := ⟨w.heap.size, 3, none⟩) hbs).trans q3; have y4 := (bl.cell (p := ⟨w.heap.size, 4, none⟩) hbs).trans q4; have y5 := (bl.cell (p := ⟨w.heap.size, 5, none⟩) hbs).trans q5))
      have HF := hide (HDD.out.on bl)
      clear HDD HM HL bl
      go_wp2_with fail
      go_ret
      exact ⟨rfl, _, ys, HF.out, by omega⟩
set_option maxRecDepth 100000 in
set_option maxHeartbeats 4000000 in
/-- an Add of a calendar, if there is one -/
theorem step_add (W w : World) (wb : Nat) (v : Value) (ys : List (Nat × Nat)) (D : DW W w wb v ys) (a b d : Int) (s : ByteArray) (l : Value) (a0 : -9223372036854775808 ≤ a) (a1 : a ≤ 9223372036854775807) (hn : (ys.length + 1) * 16 ≤ 140737488355328) :
    Calls Tryz.prog 30 #[P0 wb, .agg #[.int .i64 4, .int .i64 a, .int .i64 b, .int .i64 d, .string s, l]] w fun e w' => e = .returned (.bool true) ∧ ∃ v' ys', DW W w' wb v' ys' ∧ ys'.length ≤ ys.length + 1 := by
  have hcv := D.c0
  have hc1 := D.c1
  have hlt := D.lt
  have D0 := D.on ((Below.refl _ _).alloc (Nat.le_refl _) (Obj.cells #[.int .i64 4, .int .i64 a, .int .i64 b, .int .i64 d, .string s, l] 84))
  have HB := hide (box_facts w (.int .i64 4) (.int .i64 a) (.int .i64 b) (.int .i64 d) (.string s) l 84)
  have HD := hide D0
  rcases D.own.2 with ⟨rfl, hz⟩ | ⟨q, cap, cur, rfl, _, hg, _⟩
  · clear D D0
    go_enter Tryz.func30, Tryz.ntmps30
    go_wp2_with fail
    go_ret
    exact ⟨rfl, _, ys, HD.out, by omega⟩
  · by_cases hz : ys.length = 0
    · rw [hz] at hcv
      clear D D0
      go_enter Tryz.func30, Tryz.ntmps30
      go_wp2_with fail
      go_ret
      exact ⟨rfl, _, ys, HD.out, by omega⟩
    · have hp : 0 < ys.length := by omega
      have hp2 : 0 < (ys.length : Int) := by omega
      have hp3 : (ys.length : Int) ≤ 9223372036854775807 := by omega
      have HL : Hid (∀ u : World, _) := fun u => lpick_any a ys.length u a0 a1 hp2 hp3
      obtain ⟨i, hi, hil⟩ := pk_nat a ys.length hp
      have hi2 : (i : Int) < ys.length := by omega
      rw [hi] at HL
      clear D D0 hi hg
      go_enter Tryz.func30, Tryz.ntmps30
      go_wp2_with fail
      generalize w.alloc (Obj.cells #[.int .i64 4, .int .i64 a, .int .i64 b, .int .i64 d, .string s, l] 84) = wo at *
      have D0 := HD.out
      have HDD := hide (D0.on ((Below.refl _ _).drew))
      clear hcv hc1 hlt
      have hcv : wo.drew.cell? ⟨wb, 0, none⟩ = some _ := D0.c0
      have hc := yrCells_at ys i hil
      have e0 : wo.drew.cell? ⟨q, i * 2, none⟩ = some (P0 ys[i].1) := (D0.own.cellAt (i * 2) (by omega)).trans hc.1
      have e1 : wo.drew.cell? ⟨q, i * 2 + 1, none⟩ = some (P0 ys[i].2) := (D0.own.cellAt (i * 2 + 1) (by omega)).trans hc.2
      have HM := hide (add_rk wo.drew wb _ ys[i].1 ys[i].2 (HDD.out.yrs ys[i] (List.getElem_mem hil)) a b d s l)
      obtain ⟨_, hsz, q0, q1, q2, q3, q4, q5⟩ := HB.out
      clear D0 hc HB HD
      have hqs : q < wo.drew.heap.size := World.block_lt_of_cell? _ _ e0
      have hws : wb < wo.drew.heap.size := World.block_lt_of_cell? _ _ hcv
      have hbs : w.heap.size < wo.drew.heap.size := hsz
      generalize ys[i].1 = yc at *
      generalize ys[i].2 = yr at *
      go_region_held3 (fun w' => w'.cell? ⟨wb, 0, none⟩ = some (.slice (some ⟨q, 0, none⟩) ys.length cap) ∧ w'.cell? ⟨q, i * 2, none⟩ = some (P0 yc) ∧ w'.cell? ⟨q, i * 2 + 1, none⟩ = some (P0 yr) ∧ w'.cell? ⟨w.heap.size, 0, none⟩ = some (.int .i64 4) ∧ w'.cell? ⟨w.heap.size, 1, none⟩ = some (.int .i64 a) ∧ w'.cell? ⟨w.heap.size, 2, none⟩ = some (.int .i64 b) ∧ w'.cell? ⟨w.heap.size, 3, none⟩ = some (.int .i64 d) ∧ w'.cell? ⟨w.heap.size, 4, none⟩ = some (.string s) ∧ w'.cell? ⟨w.heap.size, 5, none⟩ = some l) ((go_keep; done))
        (first | (go_at_call 59; refine (HL.out _).mono ?_; rintro e w' ⟨rfl, rfl⟩) | (go_at_call 58; refine HM.out.mono ?_; rintro e w' ⟨rfl, bl⟩; have z0 := (bl.cell (p := ⟨wb, 0, none⟩) hws).trans hcv; have z1 := (bl.cell (p := ⟨q, i * 2, none⟩) hqs).trans e0; have z2 := (bl.cell (p := ⟨q, i * 2 + 1, none⟩) hqs).trans e1; have y0 := (bl.cell (p := ⟨w.heap.size, 0, none⟩) hbs).trans q0; have y1 := (bl.cell (p := ⟨w.heap.size, 1, none⟩) hbs).trans q1; have y2 := (bl.cell (p := ⟨w.heap.size, 2, none⟩) hbs).trans q2; have y3 := (bl.cell (p := ⟨w.heap.size, 3, none⟩) hbs).trans q3; have y4 := (bl.cell (p := ⟨w.heap.size, 4, none⟩) hbs).trans q4; have y5 := (bl.cell (p := ⟨w.heap.size, 5, none⟩) hbs).trans q5))
      have HF := hide (HDD.out.on bl)
      clear HDD HM HL bl
      go_wp2_with fail
      go_ret
      exact ⟨rfl, _, ys, HF.out, by omega⟩
set_option maxRecDepth 100000 in
set_option maxHeartbeats 1000000 in
theorem reckonings_any (a : Option Addr) (os : List OpD) (c : Nat) (w : World) (S : Scr w a os c) (h0 : 0 < w.heap.size) (hnm : ∀ j, j < 7 → w.cell? ⟨0, j, none⟩ = some (nmV j)) :
    Calls Tryz.prog 4 #[.slice a os.length c] w fun e w' => e = .returned (.bool true) ∧ Below w.heap.size w w' := by
  have b1 : Below w.heap.size w (w.alloc (Obj.cells #[.int .i64 1, .int .i64 2, .int .i64 3, .int .i64 4] 3)) := (Below.refl _ _).alloc (Nat.le_refl _) _
  have hsz : (w.alloc (Obj.cells #[.int .i64 1, .int .i64 2, .int .i64 3, .int .i64 4] 3)).heap.size = w.heap.size + 1 := by simp
  have S1 : Scr (w.alloc (Obj.cells #[.int .i64 1, .int .i64 2, .int .i64 3, .int .i64 4] 3)) a os c := S.on b1
  have hp : ∀ (i : Nat) (x : Int), ([1, 2, 3, 4] : List Int)[i]? = some x → (w.alloc (Obj.cells #[.int .i64 1, .int .i64 2, .int .i64 3, .int .i64 4] 3)).cell? ⟨w.heap.size, i, none⟩ = some (.int .i64 x) := by
    intro i x hx
    rw [World.cell?_alloc_at _ _ _ _ rfl]
    match i, hx with
    | 0, hx => simp at hx; subst hx; rfl
    | 1, hx => simp at hx; subst hx; rfl
    | 2, hx => simp at hx; subst hx; rfl
    | 3, hx => simp at hx; subst hx; rfl
  have HC := hide (plays_any a os c w.heap.size 4 [1, 2, 3, 4] _ S1 hp (by omega) (by decide) (by omega) (fun j hj => (b1.cell (p := ⟨0, j, none⟩) h0).trans (hnm j hj)) (by
    intro o W w1 wb v ys hk ho D hW hn hy
    obtain ⟨ok, oa, ob, od, oS, ol⟩ := o
    have hk2 : ok = 1 ∨ ok = 2 ∨ ok = 3 ∨ ok = 4 := by simpa using hk
    rcases hk2 with rfl | rfl | rfl | rfl
    · exact step_parse W w1 wb v ys D oa ob od oS ol hW hn ho.sz hy
    · exact step_minute W w1 wb v ys D oa ob od oS ol ho.a0 ho.a1 hy
    · exact step_between W w1 wb v ys D oa ob od oS ol ho.a0 ho.a1 hy
    · exact step_add W w1 wb v ys D oa ob od oS ol ho.a0 ho.a1 hy))
  clear S S1 hp hnm
  go_enter Tryz.func4, Tryz.ntmps4
  go_wp2_with fail
  refine HC.out.mono ?_
  rintro e w2 ⟨rfl, b2⟩
  have HB := hide (b1.trans (b2.mono b1.size))
  clear HC b1 b2
  go_wp2_with fail
  go_ret
  exact ⟨rfl, HB.out⟩
end Go.Proofs.YtcnmbldikjljeaaGreatDoor
namespace Go.Proofs.YtcnmbldikjljeaaGreatDoor
open Go.RowKit

/-- what a kind of step asks of a pair of dockets -/
def Acts (PS : PSt) (k a b dd : Int) (s : ByteArray) (l : Value) : Prop :=
  ∀ {own : Nat → Nat} {w : World} {t1 t2 p r : Nat} {F : Nat → Bool} {st : List Stg} {d : Dk} {N : Int}, DS PS own w t1 t2 p r F st d → 10 ≤ t1 → 10 ≤ t2 → t1 ≠ t2 → Pre own w F st d → DkOk F st d N →
    Calls Tryz.prog 61 #[.agg #[P0 p, P0 r], .agg #[.int .i64 k, .int .i64 a, .int .i64 b, .int .i64 dd, .string s, l]] w fun e w' => e = .returned (.bool true) ∧ ∃ own' d', DS PS own' w' t1 t2 p r F st d' ∧ Two own own' t1 t2 w w' ∧ DkOk F st d' (N + 80) ∧ DkR st d'
section
variable {PS : PSt} (a b dd : Int) (s : ByteArray) (l : Value)
theorem acts_open (P : Prg PS) : Acts PS 11 a b dd s l := fun D h1 h2 h12 Q ok => by
  refine (acted_open P D (by omega) (by omega) h12 Q a b dd s l).mono ?_
  rintro e w' ⟨rfl, own', D', k⟩
  exact ⟨rfl, own', _, D', k, (open_ok ok Q.stok b).mono (by omega), open_rest Q.rest b⟩
theorem acts_move (P : Prg PS) : Acts PS 12 a b dd s l := fun D h1 h2 h12 Q ok => by
  refine (acted_move P D (by omega) (by omega) h12 Q a b dd s l).mono ?_
  rintro e w' ⟨rfl, own', D', k⟩
  exact ⟨rfl, own', _, D', k, (move_ok ok Q.stok b dd).mono (by omega), move_rest Q.rest b dd⟩
theorem acts_close (P : Prg PS) : Acts PS 13 a b dd s l := fun D h1 h2 h12 Q ok => by
  refine (acted_close P D (by omega) (by omega) h12 Q a b dd s l).mono ?_
  rintro e w' ⟨rfl, own', D', k⟩
  exact ⟨rfl, own', _, D', k, (close_ok ok b).mono (by omega), close_rest Q.rest b⟩
theorem acts_case (P : Prg PS) : Acts PS 17 a b dd s l := fun D h1 h2 h12 Q ok => by
  refine (acted_case P D (by omega) (by omega) h12 Q a b dd s l).mono ?_
  rintro e w' ⟨rfl, own', D', k⟩
  exact ⟨rfl, own', _, D', k, ok.mono (by omega), Q.rest⟩
theorem acts_now (P : Prg PS) : Acts PS 19 a b dd s l := fun D h1 h2 h12 Q ok => by
  refine (acted_now P D (by omega) (by omega) h12 Q a b dd s l).mono ?_
  rintro e w' ⟨rfl, own', D', k⟩
  exact ⟨rfl, own', _, D', k, ok.mono (by omega), Q.rest⟩
end
section
variable {PS : PSt} {W w : World} {own : Nat → Nat} {wb : Nat} {v0 v1 v2 v3 : Value} {ys ds : List (Nat × Nat)} {es ns : List Value} {N : Int}
set_option maxRecDepth 100000 in
set_option maxHeartbeats 8000000 in
theorem step_act (P : Prg PS) (D : DD PS W w own wb v0 v1 v2 v3 ys ds es ns N) (hN : N ≤ 4611686018427386000) (k a b dd : Int) (s : ByteArray) (l : Value) (hk : k = 11 ∨ k = 12 ∨ k = 13 ∨ k = 15 ∨ k = 16 ∨ k = 17 ∨ k = 19) (A : Acts PS k a b dd s l) (a0 : -9223372036854775808 ≤ a) (a1 : a ≤ 9223372036854775807) (hds : ds.length ≤ 2000000000000) :
    Calls Tryz.prog 30 #[P0 wb, .agg #[.int .i64 k, .int .i64 a, .int .i64 b, .int .i64 dd, .string s, l]] w fun e w' => e = .returned (.bool true) ∧ ∃ own', DD PS W w' own' wb v0 v1 v2 v3 ys ds es ns (N + 80) := by
  have hc1 : w.cell? ⟨wb, 1, none⟩ = some v1 := by simp [World.cell?, D.wbc]
  have hc0 : w.cell? ⟨wb, 0, none⟩ = some v0 := by simp [World.cell?, D.wbc]
  obtain ⟨ya, yc, hy⟩ := row_any D.yr.1
  obtain ⟨da, dc, hd⟩ := row_any D.dr.1
  have D0 := D.on P ((Below.refl _ _).alloc (Nat.le_refl _) (Obj.cells #[.int .i64 k, .int .i64 a, .int .i64 b, .int .i64 dd, .string s, l] 84)) (Int.le_refl N)
  have HB := hide (box_facts w (.int .i64 k) (.int .i64 a) (.int .i64 b) (.int .i64 dd) (.string s) l 84)
  have HD := hide D0
  have HA : Hid (Acts PS k a b dd s l) := A
  have hlt : wb < w.heap.size := World.block_lt_of_cell? _ _ hc0
  subst hy hd
  clear D D0 A
  have hk1 : (k == 1) = false := by simp; omega
  have hk5 : (k == 5) = false := by simp; omega
  have hk10 : (k == 10) = false := by simp; omega
  have hk14 : (k == 14) = false := by simp; omega
  have hk18 : (k == 18) = false := by simp; omega
  have hk4 : ¬ k ≤ 4 := by omega
  have hk2 : 2 ≤ k := by omega
  have hk11 : ¬ k < 11 := by omega
  have hk19 : ¬ 19 < k := by omega
  clear hk
  by_cases hz : ds.length = 0
  · rw [hz] at hc1
    go_enter Tryz.func30, Tryz.ntmps30
    go_wp2_with fail
    go_ret
    have h9 := DD.on P HD.out (Below.refl _ _) (show N ≤ N + 80 by omega)
    rw [hz] at h9
    exact ⟨rfl, own, h9⟩
  · have hp : 0 < ds.length := by omega
    have hp2 : 0 < (ds.length : Int) := by omega
    have hp3 : (ds.length : Int) ≤ 9223372036854775807 := by omega
    have HL : Hid (∀ u : World, _) := fun u => lpick_any a ds.length u a0 a1 hp2 hp3
    obtain ⟨i, hi, hil⟩ := pk_nat a ds.length hp
    have hi2 : (i : Int) < ds.length := by omega
    rw [hi] at HL
    obtain ⟨q, cap, hq⟩ := row_some HD.out.dr.1 hp
    simp only [Value.slice.injEq] at hq
    obtain ⟨rfl, _, rfl⟩ := hq
    clear hi
    go_enter Tryz.func30, Tryz.ntmps30
    go_wp2_with fail
    generalize w.alloc (Obj.cells #[.int .i64 k, .int .i64 a, .int .i64 b, .int .i64 dd, .string s, l] 84) = wo at *
    have D0 := HD.out
    have HDD := hide (D0.on P ((Below.refl _ _).drew) (Int.le_refl N))
    obtain ⟨_, hsz, q0, q1, q2, q3, q4, q5⟩ := HB.out
    have hbs : w.heap.size < wo.drew.heap.size := hsz
    have hc := yrCells_at ds i hil
    have hcv : wo.drew.cell? ⟨wb, 1, none⟩ = some (.slice (some ⟨q, 0, none⟩) ds.length dc) := by
      have h9 : wo.drew.heap[wb]? = _ := D0.wbc
      simp [World.cell?, h9]
    have e0 : wo.drew.cell? ⟨q, i * 2, none⟩ = some (P0 ds[i].1) := (D0.dr.1.cellAt (i * 2) (by omega)).trans hc.1
    have e1 : wo.drew.cell? ⟨q, i * 2 + 1, none⟩ = some (P0 ds[i].2) := (D0.dr.1.cellAt (i * 2 + 1) (by omega)).trans hc.2
    obtain ⟨F, st, d, DSi, hst, h6, hok, hrs⟩ := HDD.out.dks i hil
    generalize hdp : ds[i].1 = dp at *
    generalize hdq : ds[i].2 = dq at *
    have HDI := hide (And.intro DSi (And.intro hst (And.intro h6 (And.intro hok (And.intro hrs (And.intro hdp hdq))))))
    clear DSi hst h6 hok hrs hdp hdq
    clear D0 hc HB HD hc0 hc1
    have hcv' : wo.cell? ⟨wb, 1, none⟩ = _ := hcv
    have e0' : wo.cell? ⟨q, i * 2, none⟩ = _ := e0
    have e1' : wo.cell? ⟨q, i * 2 + 1, none⟩ = _ := e1
    have q1' : wo.cell? ⟨w.heap.size, 1, none⟩ = _ := q1
    have u1 := World.new_ne _ _ hcv'
    have u2 := World.new_ne _ _ e0'
    have u3 := World.new_ne _ _ e1'
    have u4 := World.new_ne _ _ q1'
    go_region_held3 (fun w' => w'.cell? ⟨wb, 1, none⟩ = some (.slice (some ⟨q, 0, none⟩) ds.length dc) ∧ w'.cell? ⟨q, i * 2, none⟩ = some (P0 dp) ∧ w'.cell? ⟨q, i * 2 + 1, none⟩ = some (P0 dq) ∧ w'.cell? ⟨w.heap.size, 1, none⟩ = some (.int .i64 a)) ((go_keep; done))
      (first | (go_at_call 59; refine (HL.out _).mono ?_; rintro e w' ⟨rfl, rfl⟩))
    all_goals
      rename_i hHeld
      clear hHeld
      have b5 : Below wo.drew.heap.size wo.drew (wo.alloc (Obj.cells #[.pointer (some ⟨dp, 0, none⟩), .pointer (some ⟨dq, 0, none⟩)] 155)).drew := ⟨rfl, rfl, rfl, (by show wo.heap.size ≤ (wo.alloc _).heap.size; simp), fun k hk => Below.heap_alloc wo _ k hk⟩
      have hX5 : (wo.alloc (Obj.cells #[.pointer (some ⟨dp, 0, none⟩), .pointer (some ⟨dq, 0, none⟩)] 155)).drew.heap[wo.heap.size]? = some (.cells #[P0 dp, P0 dq] 155 (0, 0)) := heap_alloc_new _ _
      generalize (wo.alloc (Obj.cells #[.pointer (some ⟨dp, 0, none⟩), .pointer (some ⟨dq, 0, none⟩)] 155)).drew = W5 at *
      have HD5 := hide (HDD.out.on P b5 (Int.le_refl N))
      have x0 : W5.cell? ⟨wo.heap.size, 0, none⟩ = some (P0 dp) := by simp [World.cell?, hX5]
      have x1 : W5.cell? ⟨wo.heap.size, 1, none⟩ = some (P0 dq) := by simp [World.cell?, hX5]
      have o0 := (b5.cell (p := ⟨w.heap.size, 0, none⟩) hbs).trans q0
      have o1 := (b5.cell (p := ⟨w.heap.size, 1, none⟩) hbs).trans q1
      have o2 := (b5.cell (p := ⟨w.heap.size, 2, none⟩) hbs).trans q2
      have o3 := (b5.cell (p := ⟨w.heap.size, 3, none⟩) hbs).trans q3
      have o4 := (b5.cell (p := ⟨w.heap.size, 4, none⟩) hbs).trans q4
      have o5 := (b5.cell (p := ⟨w.heap.size, 5, none⟩) hbs).trans q5
      have DS5 : DS PS own W5 (10 + 2 * i) (11 + 2 * i) dp dq F st d := HDI.out.1.kept P (.of_below (T := fun _ => False) b5 HDD.out.lt) id id id
      have HM := hide (HA.out DS5 (by omega) (by omega) (by omega) ⟨HD5.out.lt, HDI.out.2.1, HDI.out.2.2.1, HDI.out.2.2.2.1.mono (by omega), HDI.out.2.2.2.2.1⟩ HDI.out.2.2.2.1)
      clear q0 q1 q2 q3 q4 q5 hcv e0 e1 hcv' e0' e1' q1' u1 u2 u3 u4 b5 hX5 DS5 HL HA
      go_wp2_with fail
      refine HM.out.mono ?_
      rintro e w6 ⟨rfl, own', d', D', k', ok', rs'⟩
      have HFIN := hide (HD5.out.act P i hil k' (M := N + 80) (by rw [Dsk, HDI.out.2.2.2.2.2.1, HDI.out.2.2.2.2.2.2]; exact ⟨F, st, d', D', HDI.out.2.1, HDI.out.2.2.1, ok', rs'⟩) (by omega))
      clear D' k' ok' rs' HM HD5 HDI HDD x0 x1 o0 o1 o2 o3 o4 o5
      go_wp2_with fail
      go_ret
      exact ⟨rfl, own', HFIN.out⟩
end
end Go.Proofs.YtcnmbldikjljeaaGreatDoor
namespace Go.Proofs.YtcnmbldikjljeaaGreatDoor
open Go.RowKit

section
variable {PS : PSt} {W w : World} {own : Nat → Nat} {wb : Nat} {v0 v1 v2 v3 : Value} {ys ds : List (Nat × Nat)} {es ns : List Value} {N : Int}
set_option maxRecDepth 100000 in
set_option maxHeartbeats 8000000 in
theorem step_tick (P : Prg PS) (D : DD PS W w own wb v0 v1 v2 v3 ys ds es ns N) (hN : N ≤ 4611686018427386000) (a b dd : Int) (s : ByteArray) (l : Value) (a0 : -9223372036854775808 ≤ a) (a1 : a ≤ 9223372036854775807) (hds : ds.length ≤ 2000000000000) (hes : es.length ≤ 8000000000000) :
    Calls Tryz.prog 30 #[P0 wb, .agg #[.int .i64 14, .int .i64 a, .int .i64 b, .int .i64 dd, .string s, l]] w fun e w' => e = .returned (.bool true) ∧ ∃ own' v2' es', DD PS W w' own' wb v0 v1 v2' v3 ys ds es' ns (N + 80) ∧ es'.length ≤ es.length + 4 := by
  have hc1 : w.cell? ⟨wb, 1, none⟩ = some v1 := by simp [World.cell?, D.wbc]
  have hc0 : w.cell? ⟨wb, 0, none⟩ = some v0 := by simp [World.cell?, D.wbc]
  obtain ⟨ya, yc, hy⟩ := row_any D.yr.1
  obtain ⟨da, dc, hd⟩ := row_any D.dr.1
  have D0 := D.on P ((Below.refl _ _).alloc (Nat.le_refl _) (Obj.cells #[.int .i64 14, .int .i64 a, .int .i64 b, .int .i64 dd, .string s, l] 84)) (Int.le_refl N)
  have HB := hide (box_facts w (.int .i64 14) (.int .i64 a) (.int .i64 b) (.int .i64 dd) (.string s) l 84)
  have HD := hide D0
  have HES := hide hes
  clear hes
  have hlt : wb < w.heap.size := World.block_lt_of_cell? _ _ hc0
  subst hy hd
  clear D D0
  by_cases hz : ds.length = 0
  · rw [hz] at hc1
    go_enter Tryz.func30, Tryz.ntmps30
    go_wp2_with fail
    go_ret
    have h9 := DD.on P HD.out (Below.refl _ _) (show N ≤ N + 80 by omega)
    exact ⟨rfl, own, v2, es, h9, by omega⟩
  · have hp : 0 < ds.length := by omega
    have hp2 : 0 < (ds.length : Int) := by omega
    have hp3 : (ds.length : Int) ≤ 9223372036854775807 := by omega
    have HL : Hid (∀ u : World, _) := fun u => lpick_any a ds.length u a0 a1 hp2 hp3
    obtain ⟨i, hi, hil⟩ := pk_nat a ds.length hp
    have hi2 : (i : Int) < ds.length := by omega
    rw [hi] at HL
    obtain ⟨q, cap, hq⟩ := row_some HD.out.dr.1 hp
    simp only [Value.slice.injEq] at hq
    obtain ⟨rfl, _, rfl⟩ := hq
    clear hi
    go_enter Tryz.func30, Tryz.ntmps30
    go_wp2_with fail
    generalize w.alloc (Obj.cells #[.int .i64 14, .int .i64 a, .int .i64 b, .int .i64 dd, .string s, l] 84) = wo at *
    have D0 := HD.out
    have HDD := hide (D0.on P ((Below.refl _ _).drew) (Int.le_refl N))
    obtain ⟨_, hsz, q0, q1, q2, q3, q4, q5⟩ := HB.out
    have hbs : w.heap.size < wo.drew.heap.size := hsz
    have hc := yrCells_at ds i hil
    have hcv : wo.drew.cell? ⟨wb, 1, none⟩ = some (.slice (some ⟨q, 0, none⟩) ds.length dc) := by
      have h9 : wo.drew.heap[wb]? = _ := D0.wbc
      simp [World.cell?, h9]
    have e0 : wo.drew.cell? ⟨q, i * 2, none⟩ = some (P0 ds[i].1) := (D0.dr.1.cellAt (i * 2) (by omega)).trans hc.1
    have e1 : wo.drew.cell? ⟨q, i * 2 + 1, none⟩ = some (P0 ds[i].2) := (D0.dr.1.cellAt (i * 2 + 1) (by omega)).trans hc.2
    obtain ⟨F, st, d, DSi, hst, h6, hok, hrs⟩ := HDD.out.dks i hil
    generalize hdp : ds[i].1 = dp at *
    generalize hdq : ds[i].2 = dq at *
    have HDI := hide (And.intro DSi (And.intro hst (And.intro h6 (And.intro hok (And.intro hrs (And.intro hdp hdq))))))
    clear DSi hst h6 hok hrs hdp hdq
    clear D0 hc HB HD hc0 hc1
    have hcv' : wo.cell? ⟨wb, 1, none⟩ = _ := hcv
    have e0' : wo.cell? ⟨q, i * 2, none⟩ = _ := e0
    have e1' : wo.cell? ⟨q, i * 2 + 1, none⟩ = _ := e1
    have q1' : wo.cell? ⟨w.heap.size, 1, none⟩ = _ := q1
    have u1 := World.new_ne _ _ hcv'
    have u2 := World.new_ne _ _ e0'
    have u3 := World.new_ne _ _ e1'
    have u4 := World.new_ne _ _ q1'
    go_region_held3 (fun w' => w'.cell? ⟨wb, 1, none⟩ = some (.slice (some ⟨q, 0, none⟩) ds.length dc) ∧ w'.cell? ⟨q, i * 2, none⟩ = some (P0 dp) ∧ w'.cell? ⟨q, i * 2 + 1, none⟩ = some (P0 dq) ∧ w'.cell? ⟨w.heap.size, 1, none⟩ = some (.int .i64 a)) ((go_keep; done))
      (first | (go_at_call 59; refine (HL.out _).mono ?_; rintro e w' ⟨rfl, rfl⟩))
    all_goals
      rename_i hHeld
      clear hHeld
      have b5 : Below wo.drew.heap.size wo.drew (wo.alloc (Obj.cells #[.pointer (some ⟨dp, 0, none⟩), .pointer (some ⟨dq, 0, none⟩)] 155)).drew := ⟨rfl, rfl, rfl, (by show wo.heap.size ≤ (wo.alloc _).heap.size; simp), fun k hk => Below.heap_alloc wo _ k hk⟩
      have hX5 : (wo.alloc (Obj.cells #[.pointer (some ⟨dp, 0, none⟩), .pointer (some ⟨dq, 0, none⟩)] 155)).drew.heap[wo.heap.size]? = some (.cells #[P0 dp, P0 dq] 155 (0, 0)) := heap_alloc_new _ _
      generalize (wo.alloc (Obj.cells #[.pointer (some ⟨dp, 0, none⟩), .pointer (some ⟨dq, 0, none⟩)] 155)).drew = W5 at *
      have HD5 := hide (HDD.out.on P b5 (Int.le_refl N))
      have x0 : W5.cell? ⟨wo.heap.size, 0, none⟩ = some (P0 dp) := by simp [World.cell?, hX5]
      have x1 : W5.cell? ⟨wo.heap.size, 1, none⟩ = some (P0 dq) := by simp [World.cell?, hX5]
      have o0 := (b5.cell (p := ⟨w.heap.size, 0, none⟩) hbs).trans q0
      have o1 := (b5.cell (p := ⟨w.heap.size, 1, none⟩) hbs).trans q1
      have o2 := (b5.cell (p := ⟨w.heap.size, 2, none⟩) hbs).trans q2
      have o3 := (b5.cell (p := ⟨w.heap.size, 3, none⟩) hbs).trans q3
      have o4 := (b5.cell (p := ⟨w.heap.size, 4, none⟩) hbs).trans q4
      have o5 := (b5.cell (p := ⟨w.heap.size, 5, none⟩) hbs).trans q5
      have DS5 : DS PS own W5 (10 + 2 * i) (11 + 2 * i) dp dq F st d := HDI.out.1.kept P (.of_below (T := fun _ => False) b5 HDD.out.lt) id id id
      have HM := hide (listed_tick P DS5 (by omega) (by omega) (by omega) ⟨HD5.out.lt, HDI.out.2.1, HDI.out.2.2.1, HDI.out.2.2.2.1.mono (by omega), HDI.out.2.2.2.2.1⟩ HD5.out.wbc HD5.out.wbt HD5.out.er HES.out _ rfl a b dd s l)
      clear q0 q1 q2 q3 q4 q5 hcv e0 e1 hcv' e0' e1' q1' u1 u2 u3 u4 b5 hX5 DS5 HL
      go_wp2_with fail
      refine HM.out.mono ?_
      rintro e w6 ⟨rfl, own', v2', s0, s1, s2, s3, D', k', hw', he', ho'⟩
      have tk := tick_ok HDI.out.2.2.2.1 HDI.out.2.2.2.2.1 HDI.out.2.1 b
      have HFIN := hide (HD5.out.lists P i hil k' (M := N + 80) (by rw [Dsk, HDI.out.2.2.2.2.2.1, HDI.out.2.2.2.2.2.2]; exact ⟨F, st, _, D', HDI.out.2.1, HDI.out.2.2.1, tk.1, tk.2.1⟩) (by omega) hw' he' ho')
      clear D' k' hw' he' ho' tk HM HD5 HDI HDD x0 x1 o0 o1 o2 o3 o4 o5
      go_wp2_with fail
      go_ret
      exact ⟨rfl, own', v2', _, HFIN.out, by simp⟩
set_option maxRecDepth 100000 in
set_option maxHeartbeats 8000000 in
theorem step_agenda (P : Prg PS) (D : DD PS W w own wb v0 v1 v2 v3 ys ds es ns N) (hN : N ≤ 4611686018427386000) (a b dd : Int) (s : ByteArray) (l : Value) (a0 : -9223372036854775808 ≤ a) (a1 : a ≤ 9223372036854775807) (hds : ds.length ≤ 2000000000000) (hes : ns.length ≤ 8000000000000) :
    Calls Tryz.prog 30 #[P0 wb, .agg #[.int .i64 18, .int .i64 a, .int .i64 b, .int .i64 dd, .string s, l]] w fun e w' => e = .returned (.bool true) ∧ ∃ own' v3' ns', DD PS W w' own' wb v0 v1 v2 v3' ys ds es ns' (N + 80) ∧ ns'.length ≤ ns.length + 4 := by
  have hc1 : w.cell? ⟨wb, 1, none⟩ = some v1 := by simp [World.cell?, D.wbc]
  have hc0 : w.cell? ⟨wb, 0, none⟩ = some v0 := by simp [World.cell?, D.wbc]
  obtain ⟨ya, yc, hy⟩ := row_any D.yr.1
  obtain ⟨da, dc, hd⟩ := row_any D.dr.1
  have D0 := D.on P ((Below.refl _ _).alloc (Nat.le_refl _) (Obj.cells #[.int .i64 18, .int .i64 a, .int .i64 b, .int .i64 dd, .string s, l] 84)) (Int.le_refl N)
  have HB := hide (box_facts w (.int .i64 18) (.int .i64 a) (.int .i64 b) (.int .i64 dd) (.string s) l 84)
  have HD := hide D0
  have HES := hide hes
  clear hes
  have hlt : wb < w.heap.size := World.block_lt_of_cell? _ _ hc0
  subst hy hd
  clear D D0
  by_cases hz : ds.length = 0
  · rw [hz] at hc1
    go_enter Tryz.func30, Tryz.ntmps30
    go_wp2_with fail
    go_ret
    have h9 := DD.on P HD.out (Below.refl _ _) (show N ≤ N + 80 by omega)
    exact ⟨rfl, own, v3, ns, h9, by omega⟩
  · have hp : 0 < ds.length := by omega
    have hp2 : 0 < (ds.length : Int) := by omega
    have hp3 : (ds.length : Int) ≤ 9223372036854775807 := by omega
    have HL : Hid (∀ u : World, _) := fun u => lpick_any a ds.length u a0 a1 hp2 hp3
    obtain ⟨i, hi, hil⟩ := pk_nat a ds.length hp
    have hi2 : (i : Int) < ds.length := by omega
    rw [hi] at HL
    obtain ⟨q, cap, hq⟩ := row_some HD.out.dr.1 hp
    simp only [Value.slice.injEq] at hq
    obtain ⟨rfl, _, rfl⟩ := hq
    clear hi
    go_enter Tryz.func30, Tryz.ntmps30
    go_wp2_with fail
    generalize w.alloc (Obj.cells #[.int .i64 18, .int .i64 a, .int .i64 b, .int .i64 dd, .string s, l] 84) = wo at *
    have D0 := HD.out
    have HDD := hide (D0.on P ((Below.refl _ _).drew) (Int.le_refl N))
    obtain ⟨_, hsz, q0, q1, q2, q3, q4, q5⟩ := HB.out
    have hbs : w.heap.size < wo.drew.heap.size := hsz
    have hc := yrCells_at ds i hil
    have hcv : wo.drew.cell? ⟨wb, 1, none⟩ = some (.slice (some ⟨q, 0, none⟩) ds.length dc) := by
      have h9 : wo.drew.heap[wb]? = _ := D0.wbc
      simp [World.cell?, h9]
    have e0 : wo.drew.cell? ⟨q, i * 2, none⟩ = some (P0 ds[i].1) := (D0.dr.1.cellAt (i * 2) (by omega)).trans hc.1
    have e1 : wo.drew.cell? ⟨q, i * 2 + 1, none⟩ = some (P0 ds[i].2) := (D0.dr.1.cellAt (i * 2 + 1) (by omega)).trans hc.2
    obtain ⟨F, st, d, DSi, hst, h6, hok, hrs⟩ := HDD.out.dks i hil
    generalize hdp : ds[i].1 = dp at *
    generalize hdq : ds[i].2 = dq at *
    have HDI := hide (And.intro DSi (And.intro hst (And.intro h6 (And.intro hok (And.intro hrs (And.intro hdp hdq))))))
    clear DSi hst h6 hok hrs hdp hdq
    clear D0 hc HB HD hc0 hc1
    have hcv' : wo.cell? ⟨wb, 1, none⟩ = _ := hcv
    have e0' : wo.cell? ⟨q, i * 2, none⟩ = _ := e0
    have e1' : wo.cell? ⟨q, i * 2 + 1, none⟩ = _ := e1
    have q1' : wo.cell? ⟨w.heap.size, 1, none⟩ = _ := q1
    have u1 := World.new_ne _ _ hcv'
    have u2 := World.new_ne _ _ e0'
    have u3 := World.new_ne _ _ e1'
    have u4 := World.new_ne _ _ q1'
    go_region_held3 (fun w' => w'.cell? ⟨wb, 1, none⟩ = some (.slice (some ⟨q, 0, none⟩) ds.length dc) ∧ w'.cell? ⟨q, i * 2, none⟩ = some (P0 dp) ∧ w'.cell? ⟨q, i * 2 + 1, none⟩ = some (P0 dq) ∧ w'.cell? ⟨w.heap.size, 1, none⟩ = some (.int .i64 a)) ((go_keep; done))
      (first | (go_at_call 59; refine (HL.out _).mono ?_; rintro e w' ⟨rfl, rfl⟩))
    all_goals
      rename_i hHeld
      clear hHeld
      have b5 : Below wo.drew.heap.size wo.drew (wo.alloc (Obj.cells #[.pointer (some ⟨dp, 0, none⟩), .pointer (some ⟨dq, 0, none⟩)] 155)).drew := ⟨rfl, rfl, rfl, (by show wo.heap.size ≤ (wo.alloc _).heap.size; simp), fun k hk => Below.heap_alloc wo _ k hk⟩
      have hX5 : (wo.alloc (Obj.cells #[.pointer (some ⟨dp, 0, none⟩), .pointer (some ⟨dq, 0, none⟩)] 155)).drew.heap[wo.heap.size]? = some (.cells #[P0 dp, P0 dq] 155 (0, 0)) := heap_alloc_new _ _
      generalize (wo.alloc (Obj.cells #[.pointer (some ⟨dp, 0, none⟩), .pointer (some ⟨dq, 0, none⟩)] 155)).drew = W5 at *
      have HD5 := hide (HDD.out.on P b5 (Int.le_refl N))
      have x0 : W5.cell? ⟨wo.heap.size, 0, none⟩ = some (P0 dp) := by simp [World.cell?, hX5]
      have x1 : W5.cell? ⟨wo.heap.size, 1, none⟩ = some (P0 dq) := by simp [World.cell?, hX5]
      have o0 := (b5.cell (p := ⟨w.heap.size, 0, none⟩) hbs).trans q0
      have o1 := (b5.cell (p := ⟨w.heap.size, 1, none⟩) hbs).trans q1
      have o2 := (b5.cell (p := ⟨w.heap.size, 2, none⟩) hbs).trans q2
      have o3 := (b5.cell (p := ⟨w.heap.size, 3, none⟩) hbs).trans q3
      have o4 := (b5.cell (p := ⟨w.heap.size, 4, none⟩) hbs).trans q4
      have o5 := (b5.cell (p := ⟨w.heap.size, 5, none⟩) hbs).trans q5
      have DS5 : DS PS own W5 (10 + 2 * i) (11 + 2 * i) dp dq F st d := HDI.out.1.kept P (.of_below (T := fun _ => False) b5 HDD.out.lt) id id id
      have HM := hide (listed_agenda P DS5 (by omega) (by omega) (by omega) ⟨HD5.out.lt, HDI.out.2.1, HDI.out.2.2.1, HDI.out.2.2.2.1.mono (by omega), HDI.out.2.2.2.2.1⟩ HD5.out.wbc HD5.out.wbt HD5.out.nr HES.out _ rfl a b dd s l)
      clear q0 q1 q2 q3 q4 q5 hcv e0 e1 hcv' e0' e1' q1' u1 u2 u3 u4 b5 hX5 DS5 HL
      go_wp2_with fail
      refine HM.out.mono ?_
      rintro e w6 ⟨rfl, own', v2', s0, s1, s2, s3, D', k', hw', he', ho'⟩
      have HFIN := hide (HD5.out.listn P i hil k' (M := N + 80) (by rw [Dsk, HDI.out.2.2.2.2.2.1, HDI.out.2.2.2.2.2.2]; exact ⟨F, st, _, D', HDI.out.2.1, HDI.out.2.2.1, HDI.out.2.2.2.1.mono (by omega), HDI.out.2.2.2.2.1⟩) (by omega) hw' he' ho')
      clear D' k' hw' he' ho' HM HD5 HDI HDD x0 x1 o0 o1 o2 o3 o4 o5
      go_wp2_with fail
      go_ret
      exact ⟨rfl, own', v2', _, HFIN.out, by simp⟩
end
end Go.Proofs.YtcnmbldikjljeaaGreatDoor
