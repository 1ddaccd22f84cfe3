import Derived.Test.YtcnmbldikjljeaaGreatDoorJ09
import Derived.Test.YtcnmbldikjljeaaGreatDoorJ41
import Derived.StillTailTactics
namespace Go.Proofs.YtcnmbldikjljeaaGreatDoor
open Go.Shelf Go.RowKit Go.Lib Go.Sort Go.MuLone

section
variable {w : World} {p : Nat} {K : Kf} {F : Nat → Bool} {st : List Stg} {lv : Value} {d : Dk} {N : Int}
/-- a docket, what has been left as it lay, and a box of the call's own -/
structure DF (w u : World) (p : Nat) (K : Kf) (F : Nat → Bool) (st : List Stg) (lk : Int) (lv0 lv : Value) (d : Dk) (B : Nat) (e : TypeId) : Prop where
  pd : PD u p K F st lk lv d
  fr : Frm p lv0 lv w u
  lo : w.heap.size ≤ B
  box : ∃ cur, u.heap[B]? = some (.cells cur e (0, 0))
theorem DF.set {u : World} {lk : Int} {lv0 : Value} {B : Nat} {e : TypeId} (h : DF w u p K F st lk lv0 lv d B e) (he : e ≠ 113 ∧ e ≠ 140 ∧ e ≠ 131 ∧ e ≠ 127 ∧ e ≠ 119) (j : Nat) (v : Value) : DF w (u.setCell ⟨B, j, none⟩ v) p K F st lk lv0 lv d B e := by
  obtain ⟨cur, hB⟩ := h.box
  have hG : u.grownBy (u.setCell ⟨B, j, none⟩ v) (some B) := ⟨rfl, rfl, rfl, by simp, fun k _ hne => Below.heap_setCell _ _ _ k (fun e => hne (by rw [e]))⟩
  have hlo := h.lo
  exact ⟨⟨h.pd.pr.left hG hB he.1 he.2.1 he.2.2.1 he.2.2.2.1, row_leftP h.pd.own hG hB he.2.2.2.2⟩, ⟨h.fr.os, h.fr.tape, h.fr.output, by have := h.fr.size; simpa using this, fun k hk h1 h2 => (Below.heap_setCell _ _ _ k (by simp only; omega)).trans (h.fr.block k hk h1 h2), h.fr.row⟩, h.lo, ⟨_, heap_setCell_same _ _ _ _ _ _ hB⟩⟩
theorem DF.unlock {u : World} {lk : Int} {lv0 : Value} {B : Nat} {e : TypeId} (h : DF w u p K F st lk lv0 lv d B e) (he : e ≠ 113) : DF w (u.setCell ⟨p, 0, none⟩ (.int .i32 0)) p K F st 0 lv0 lv d B e := by
  obtain ⟨R1, F1⟩ := h.pd.lock 0
  obtain ⟨cur, hB⟩ := h.box
  refine ⟨R1, h.fr.trans F1, h.lo, ⟨cur, (Below.heap_setCell _ _ _ B ?_).trans hB⟩⟩
  rintro rfl
  have := h.pd.pr.blk
  rw [hB] at this
  simp only [Option.some.injEq, Obj.cells.injEq] at this
  exact he this.2.1
set_option maxRecDepth 100000 in
set_option maxHeartbeats 1000000 in
theorem case_any (R : PD w p K F st 0 lv d) (ok : DkOk F st d N) (id : Int) :
    Calls Tryz.prog 26 #[P0 p, .int .i64 id] w fun e w' => e = .returned (caseV d id) ∧ PD w' p K F st 0 lv d ∧ Frm p lv lv w w' := by
  have hlen := ok.len
  have hb0 : Below w.heap.size w (w.alloc (Obj.cells #[.int .i64 0, .int .i64 0, .int .i64 0, .bool false] 69)) := (Below.refl _ _).alloc (Nat.le_refl _) _
  have R0 := R.on hb0
  have F0 : Frm p lv lv w _ := .of_below hb0
  have c0 := R0.pr.c0
  have f0 := R0.pr.frz 0
  obtain ⟨R1, F1⟩ := R0.lock 1
  have H1 := hide (And.intro R1 (F0.trans F1))
  have hpl := R.pr.lt
  have HPL := hide hpl
  have HX : Hid (((w.alloc (Obj.cells #[.int .i64 0, .int .i64 0, .int .i64 0, .bool false] 69)).setCell ⟨p, 0, none⟩ (.int .i32 1)).heap[w.heap.size]? = some (.cells #[.int .i64 0, .int .i64 0, .int .i64 0, .bool false] 69 (0, 0))) := (Below.heap_setCell _ _ _ _ (by simp only; omega)).trans (heap_alloc_new _ _)
  rcases findL_bd d.cases id with hneg | ⟨i, hi, hil⟩
  · have HV := hide (show caseV d id = .tuple #[.agg #[.int .i64 0, .int .i64 0, .int .i64 0, .bool false], .int .i64 5] by unfold caseV; rw [if_pos hneg])
    have HF := hide (findP_none R1 (by omega) id hneg)
    clear R R0 R1 F0 F1 hb0 hpl
    go_enter_defers Tryz.func26, Tryz.ntmps26
    go_wp2_with (go_at_call 36; refine (lock_free muLib ⟨p, 0, none⟩ _ c0 f0).mono ?_; rintro e w' ⟨rfl, rfl⟩)
    refine HF.out.mono ?_
    rintro e u ⟨rfl, hb⟩
    have hx := (hb.block w.heap.size (by simp)).trans HX.out
    have R2 := H1.out.1.on hb
    have F2 := H1.out.2.trans (.of_below hb)
    have x0 : u.cell? ⟨w.heap.size, 0, none⟩ = some (.int .i64 0) := by simp [World.cell?, hx]
    have x1 : u.cell? ⟨w.heap.size, 1, none⟩ = some (.int .i64 0) := by simp [World.cell?, hx]
    have x2 : u.cell? ⟨w.heap.size, 2, none⟩ = some (.int .i64 0) := by simp [World.cell?, hx]
    have x3 : u.cell? ⟨w.heap.size, 3, none⟩ = some (.bool false) := by simp [World.cell?, hx]
    have xf : ∀ j, u.frozen? ⟨w.heap.size, j, none⟩ = false := fun j => by simp [World.frozen?, hx]
    have D2 : DF w u p K F st 1 lv lv d w.heap.size 69 := ⟨R2, F2, Nat.le_refl _, ⟨_, hx⟩⟩
    have D6 := (((D2.set (by decide) 0 (.int .i64 0)).set (by decide) 1 (.int .i64 0)).set (by decide) 2 (.int .i64 0)).set (by decide) 3 (.bool false)
    have H6 := hide D6
    clear hb hx R2 F2 H1 c0 f0 D2 D6
    go_wp2_with fail
    refine leaves_cons (f := 37) (args := #[.pointer (some ⟨p, 0, none⟩)]) (by simp) (by simp [go_sem]) ?_
    refine (unlock_deferred muLib ⟨p, 0, none⟩ .returning _ H6.out.pd.pr.c0 (H6.out.pd.pr.frz 0)).mono ?_
    rintro e u' w'' ⟨rfl, rfl, rfl⟩
    rw [HV.out]
    refine ⟨_, ?_, rfl, (H6.out.unlock (by decide)).pd, (H6.out.unlock (by decide)).fr⟩
    have hp1 : p ≠ w.heap.size := Nat.ne_of_lt HPL.out
    simp [results, Tryz.f26, go_sem, x0, x1, x2, x3]
  · have hnn : ¬ findL d.cases id < 0 := by omega
    have HV := hide (show caseV d id = .tuple #[.agg #[.int .i64 (csAt d.cases i).stage, .int .i64 (csAt d.cases i).level, .int .i64 (csAt d.cases i).due, .bool (csAt d.cases i).held], .int .i64 0] by unfold caseV; rw [if_neg hnn, hi])
    obtain ⟨q, cap, hlv⟩ := row_some R.own (by omega)
    subst hlv
    have HF := hide (findP_some R1 (by omega) id hi hil)
    have hd0 := (ok.cs (csAt d.cases i) (by rw [csAt_nat hil]; exact List.getElem_mem hil)).d0
    clear R R0 R1 F0 F1 hb0 hpl
    go_enter_defers Tryz.func26, Tryz.ntmps26
    go_wp2_with (go_at_call 36; refine (lock_free muLib ⟨p, 0, none⟩ _ c0 f0).mono ?_; rintro e w' ⟨rfl, rfl⟩)
    refine HF.out.mono ?_
    rintro e u0 ⟨rfl, hb0⟩
    have R1 := H1.out.1.on hb0
    have HS := hide (state_any (R1.ra i hil) hd0)
    have HB0 := hide hb0
    clear hb0 R1 c0 f0
    generalize csAt d.cases i = x at *
    go_wp2_with fail
    refine HS.out.mono ?_
    rintro e u ⟨rfl, hb1⟩
    have hb := HB0.out.trans (hb1.mono HB0.out.size)
    have hx := (hb.block w.heap.size (by simp)).trans HX.out
    have R2 := H1.out.1.on hb
    have F2 := H1.out.2.trans (.of_below hb)
    have x0 : u.cell? ⟨w.heap.size, 0, none⟩ = some (.int .i64 0) := by simp [World.cell?, hx]
    have x1 : u.cell? ⟨w.heap.size, 1, none⟩ = some (.int .i64 0) := by simp [World.cell?, hx]
    have x2 : u.cell? ⟨w.heap.size, 2, none⟩ = some (.int .i64 0) := by simp [World.cell?, hx]
    have x3 : u.cell? ⟨w.heap.size, 3, none⟩ = some (.bool false) := by simp [World.cell?, hx]
    have xf : ∀ j, u.frozen? ⟨w.heap.size, j, none⟩ = false := fun j => by simp [World.frozen?, hx]
    have D2 : DF w u p K F st 1 _ _ d w.heap.size 69 := ⟨R2, F2, Nat.le_refl _, ⟨_, hx⟩⟩
    have D6 := (((D2.set (by decide) 0 (.int .i64 x.stage)).set (by decide) 1 (.int .i64 x.level)).set (by decide) 2 (.int .i64 x.due)).set (by decide) 3 (.bool x.held)
    have H6 := hide D6
    clear hb hb1 hx R2 F2 H1 D2 D6
    go_wp2_with fail
    refine leaves_cons (f := 37) (args := #[.pointer (some ⟨p, 0, none⟩)]) (by simp) (by simp [go_sem]) ?_
    refine (unlock_deferred muLib ⟨p, 0, none⟩ .returning _ H6.out.pd.pr.c0 (H6.out.pd.pr.frz 0)).mono ?_
    rintro e u' w'' ⟨rfl, rfl, rfl⟩
    rw [HV.out]
    refine ⟨_, ?_, rfl, (H6.out.unlock (by decide)).pd, (H6.out.unlock (by decide)).fr⟩
    have hp1 : p ≠ w.heap.size := Nat.ne_of_lt HPL.out
    simp [results, Tryz.f26, go_sem, x0, x1, x2, x3]
end
end Go.Proofs.YtcnmbldikjljeaaGreatDoor
namespace Go.Proofs.YtcnmbldikjljeaaGreatDoor
open Go.RowKit

set_option maxHeartbeats 1000000 in
theorem isStage_any (n m : Int) (w : World) : Calls Tryz.prog 41 #[.int .i64 n, .int .i64 m] w fun e w' => e = .returned (.bool (decide (0 ≤ n ∧ n < m))) ∧ w' = w := by
  go_enter Tryz.func41, Tryz.ntmps41
  go_wp2
  all_goals
    go_ret
    exact ⟨by simp <;> omega, rfl⟩
set_option maxRecDepth 100000 in
set_option maxHeartbeats 1000000 in
theorem checkLevel_any (x y : Int) (w : World) : Calls Tryz.prog 156 #[.agg #[.int .i64 x, .int .i64 y]] w fun e w' => e = .returned (.bool (lvOk (x, y))) ∧ Below w.heap.size w w' := by
  have hb : Below w.heap.size w (w.alloc (Obj.cells #[.int .i64 x, .int .i64 y] 127)) := (Below.refl _ _).alloc (Nat.le_refl _) _
  have HB := hide hb
  clear hb
  by_cases h1 : 1 ≤ x
  · by_cases h2 : x ≤ 20000
    · by_cases h3 : 0 ≤ y
      · by_cases h4 : y ≤ 99
        · have HL := hide (show lvOk (x, y) = true by unfold lvOk; simp; omega)
          go_enter Tryz.func156, Tryz.ntmps156
          go_wp2_with fail
          go_ret
          rw [HL.out]
          exact ⟨rfl, HB.out⟩
        · have HL := hide (show lvOk (x, y) = false by unfold lvOk; simp; omega)
          go_enter Tryz.func156, Tryz.ntmps156
          go_wp2_with fail
          go_ret
          rw [HL.out]
          exact ⟨rfl, HB.out⟩
      · have HL := hide (show lvOk (x, y) = false by unfold lvOk; simp; omega)
        go_enter Tryz.func156, Tryz.ntmps156
        go_wp2_with fail
        go_ret
        rw [HL.out]
        exact ⟨rfl, HB.out⟩
    · have HL := hide (show lvOk (x, y) = false by unfold lvOk; simp; omega)
      go_enter Tryz.func156, Tryz.ntmps156
      go_wp2_with fail
      go_ret
      rw [HL.out]
      exact ⟨rfl, HB.out⟩
  · have HL := hide (show lvOk (x, y) = false by unfold lvOk; simp; omega)
    go_enter Tryz.func156, Tryz.ntmps156
    go_wp2_with fail
    go_ret
    rw [HL.out]
    exact ⟨rfl, HB.out⟩
end Go.Proofs.YtcnmbldikjljeaaGreatDoor
namespace Go.Proofs.YtcnmbldikjljeaaGreatDoor
open Go.Shelf Go.RowKit Go.Lib Go.Sort Go.MuLone

section
variable {w : World} {p : Nat} {K : Kf} {F : Nat → Bool} {st : List Stg} {lv : Value} {d : Dk} {N : Int}
/-- a call that has come to its end: the lock is given back -/
theorem PD.free {u : World} {lk : Int} {lv0 : Value} (R : PD u p K F st lk lv d) (f : Frm p lv0 lv w u) : PD (u.setCell ⟨p, 0, none⟩ (.int .i32 0)) p K F st 0 lv d ∧ Frm p lv0 lv w (u.setCell ⟨p, 0, none⟩ (.int .i32 0)) := by
  obtain ⟨R1, F1⟩ := R.lock 0
  exact ⟨R1, f.trans F1⟩
theorem csMem {i : Nat} (hi : i < d.cases.length) : csAt d.cases i ∈ d.cases := by rw [csAt_nat hi]; exact List.getElem_mem hi
set_option maxRecDepth 100000 in
set_option maxHeartbeats 1000000 in
theorem move_any (R : PD w p K F st 0 lv d) (ok : DkOk F st d N) (hr : DkR st d) (hs : StOk st) (hn : st.length ≤ 6) (id stage : Int) :
    Calls Tryz.prog 19 #[P0 p, .int .i64 id, .int .i64 stage] w fun e w' => e = .returned (.int .i64 (moveC F st d id stage).2) ∧ PD w' p K F st 0 lv (moveC F st d id stage).1 ∧ Frm p lv lv w w' := by
  have hlen := ok.len
  have c0 := R.pr.c0
  have f0 := R.pr.frz 0
  obtain ⟨R1, F1⟩ := R.lock 1
  have H1 := hide (And.intro R1 F1)
  rcases findL_bd d.cases id with hneg | ⟨i, hi, hil⟩
  · have HV := hide (show moveC F st d id stage = (d, 5) by unfold moveC; rw [if_pos hneg])
    have HF := hide (findP_none R1 (by omega) id hneg)
    clear R R1 F1
    go_enter_defers Tryz.func19, Tryz.ntmps19
    go_wp2_with (go_at_call 36; refine (lock_free muLib ⟨p, 0, none⟩ _ c0 f0).mono ?_; rintro e w' ⟨rfl, rfl⟩)
    refine HF.out.mono ?_
    rintro e u ⟨rfl, hb⟩
    have H2 := hide (And.intro (H1.out.1.on hb) (H1.out.2.trans (.of_below hb)))
    clear hb H1 c0 f0
    go_wp2_with fail
    refine leaves_cons (f := 37) (args := #[.pointer (some ⟨p, 0, none⟩)]) (by simp) (by simp [go_sem]) ?_
    refine (unlock_deferred muLib ⟨p, 0, none⟩ .returning _ H2.out.1.pr.c0 (H2.out.1.pr.frz 0)).mono ?_
    rintro e u' w'' ⟨rfl, rfl, rfl⟩
    rw [HV.out]
    exact ⟨_, results_tmp rfl _ _ _, rfl, H2.out.1.free H2.out.2⟩
  obtain ⟨q, cap, hlv⟩ := row_some R.own (by omega)
  subst hlv
  have hnn : ¬ findL d.cases id < 0 := by omega
  have hxm := csMem hil
  have hx := ok.cs _ hxm
  have HF := hide (findP_some R1 (by omega) id hi hil)
  by_cases hh : (csAt d.cases i).held = true
  · have HV := hide (show moveC F st d id stage = (d, 6) by unfold moveC; rw [if_neg hnn, hi, if_pos hh])
    clear R R1 F1
    go_enter_defers Tryz.func19, Tryz.ntmps19
    go_wp2_with (go_at_call 36; refine (lock_free muLib ⟨p, 0, none⟩ _ c0 f0).mono ?_; rintro e w' ⟨rfl, rfl⟩)
    refine HF.out.mono ?_
    rintro e u ⟨rfl, hb⟩
    have R2 := H1.out.1.on hb
    have e6 := (R2.ra i hil).cell 6 _ rfl
    rw [hh] at e6
    have H2 := hide (And.intro R2 (H1.out.2.trans (.of_below hb)))
    clear hb H1 c0 f0 R2
    go_wp2_with fail
    refine leaves_cons (f := 37) (args := #[.pointer (some ⟨p, 0, none⟩)]) (by simp) (by simp [go_sem]) ?_
    refine (unlock_deferred muLib ⟨p, 0, none⟩ .returning _ H2.out.1.pr.c0 (H2.out.1.pr.frz 0)).mono ?_
    rintro e u' w'' ⟨rfl, rfl, rfl⟩
    rw [HV.out]
    exact ⟨_, results_tmp rfl _ _ _, rfl, H2.out.1.free H2.out.2⟩
  have hh' : (csAt d.cases i).held = false := by simpa using hh
  obtain ⟨j, hj⟩ : ∃ j : Nat, (csAt d.cases i).stage = j := ⟨(csAt d.cases i).stage.toNat, by have := hx.s0; omega⟩
  have hjl : j < st.length := by have := hx.s1; omega
  have hjl' : (j : Int) < st.length := by omega
  have hst := hs j hjl
  have HIS := hide (fun u => isStage_any stage st.length u)
  by_cases hin : 0 ≤ stage ∧ stage < st.length
  · obtain ⟨k, hk⟩ : ∃ k : Nat, stage = k := ⟨stage.toNat, by omega⟩
    subst hk
    have hkl : k < st.length := by omega
    have hk6 : (k : Int) < 6 := by omega
    rw [show decide (0 ≤ (k : Int) ∧ (k : Int) < (st.length : Int)) = true by simpa using hin] at HIS
    obtain ⟨sq, scap, hsv⟩ := row_someP R.pr.stg.row (by omega)
    clear R R1 F1
    cases hno : hasI (stAt st j).next k with
    | false =>
      have HV := hide (show moveC F st d id k = (d, 7) by unfold moveC; rw [if_neg hnn, hi, if_neg hh, hj, if_pos hno])
      go_enter_defers Tryz.func19, Tryz.ntmps19
      go_wp2_with (go_at_call 36; refine (lock_free muLib ⟨p, 0, none⟩ _ c0 f0).mono ?_; rintro e w' ⟨rfl, rfl⟩)
      refine HF.out.mono ?_
      rintro e u ⟨rfl, hb⟩
      have R2 := H1.out.1.on hb
      have e6 := (R2.ra i hil).cell 6 _ rfl
      have e1 := (R2.ra i hil).cell 1 _ rfl
      rw [hh'] at e6
      rw [hj] at e1
      have c79 := R2.pr.c79
      have hrow := R2.pr.stg.row
      rw [hsv] at c79 hrow
      have cb := (hrow.cellAt (j * 7 + 1 + k) (by omega)).trans (sgCells_bit K.ls st j hjl k (by omega))
      rw [hno] at cb
      have H2 := hide (And.intro R2 (H1.out.2.trans (.of_below hb)))
      clear hb H1 c0 f0 R2 hrow
      go_wp2_with fail
      go_quiet (first | (go_at_call 41; exact Calls.quiet_of_same (HIS.out _)))
      have hb := below_drewN (Below.refl u.heap.size u) nq
      have H3 := hide (And.intro (H2.out.1.on hb) (H2.out.2.trans (.of_below hb)))
      clear hb H2 c79 e1 e6
      go_wp2_with fail
      refine leaves_cons (f := 37) (args := #[.pointer (some ⟨p, 0, none⟩)]) (by simp) (by simp [go_sem]) ?_
      refine (unlock_deferred muLib ⟨p, 0, none⟩ .returning _ H3.out.1.pr.c0 (H3.out.1.pr.frz 0)).mono ?_
      rintro e u' w'' ⟨rfl, rfl, rfl⟩
      rw [HV.out]
      exact ⟨_, results_tmp rfl _ _ _, rfl, H3.out.1.free H3.out.2⟩
    | true =>
      have hrest : (csAt d.cases i).rest = 0 := by
        have h1 := hr _ hxm
        have h2 := hx.r0
        unfold RestOk at h1
        by_cases h3 : 0 < (csAt d.cases i).rest
        · exact absurd (h1 h3).1 hh
        · omega
      have HV := hide (show moveC F st d id k = ({ d with cases := d.cases.set i (comesL F st { csAt d.cases i with stage := k, rest := 0 } 0 d.time) }, 0) by
        unfold moveC; rw [if_neg hnn, hi, if_neg hh, hj, if_neg (by rw [hno]; simp)]; unfold setC; rw [Int.toNat_natCast]
        congr 4
        rw [← hrest])
      go_enter_defers Tryz.func19, Tryz.ntmps19
      go_wp2_with (go_at_call 36; refine (lock_free muLib ⟨p, 0, none⟩ _ c0 f0).mono ?_; rintro e w' ⟨rfl, rfl⟩)
      refine HF.out.mono ?_
      rintro e u ⟨rfl, hb⟩
      have R2 := H1.out.1.on hb
      have e6 := (R2.ra i hil).cell 6 _ rfl
      have e1 := (R2.ra i hil).cell 1 _ rfl
      rw [hh'] at e6
      rw [hj] at e1
      have c79 := R2.pr.c79
      have hrow := R2.pr.stg.row
      rw [hsv] at c79 hrow
      have cb := (hrow.cellAt (j * 7 + 1 + k) (by omega)).trans (sgCells_bit K.ls st j hjl k (by omega))
      rw [hno] at cb
      have H2 := hide (And.intro R2 (H1.out.2.trans (.of_below hb)))
      clear hb H1 c0 f0 R2 hrow
      go_wp2_with fail
      go_quiet (first | (go_at_call 41; exact Calls.quiet_of_same (HIS.out _)))
      have hb := below_drewN (Below.refl u.heap.size u) nq
      have R3 := H2.out.1.on hb
      have H3 := hide (And.intro R3 (H2.out.2.trans (.of_below hb)))
      have HE := hide (enter_any R3.pr (R3.ra i hil) hs k hin.1 hin.2 ok.t0 ok.t1)
      clear hb H2 c79 e1 e6 R3 cb
      go_wp2_with fail
      refine HE.out.mono ?_
      rintro e u2 ⟨rfl, hp⟩
      obtain ⟨R4, F4⟩ := H3.out.1.put i hil hp
      have H4 := hide (And.intro R4 (H3.out.2.trans F4))
      clear hp R4 F4
      go_wp2_with fail
      refine leaves_cons (f := 37) (args := #[.pointer (some ⟨p, 0, none⟩)]) (by simp) (by simp [go_sem]) ?_
      refine (unlock_deferred muLib ⟨p, 0, none⟩ .returning _ H4.out.1.pr.c0 (H4.out.1.pr.frz 0)).mono ?_
      rintro e u' w'' ⟨rfl, rfl, rfl⟩
      rw [HV.out]
      exact ⟨_, results_tmp rfl _ _ _, rfl, H4.out.1.free H4.out.2⟩
  · have hno : hasI (stAt st j).next stage = false := by
      cases e : hasI (stAt st j).next stage with
      | false => rfl
      | true => exact absurd (hst.2.2.2 stage ((hasI_iff _ _).1 e)) hin
    have HV := hide (show moveC F st d id stage = (d, 7) by unfold moveC; rw [if_neg hnn, hi, if_neg hh, hj, if_pos hno])
    rw [show decide (0 ≤ stage ∧ stage < (st.length : Int)) = false by simpa using hin] at HIS
    clear R R1 F1
    go_enter_defers Tryz.func19, Tryz.ntmps19
    go_wp2_with (go_at_call 36; refine (lock_free muLib ⟨p, 0, none⟩ _ c0 f0).mono ?_; rintro e w' ⟨rfl, rfl⟩)
    refine HF.out.mono ?_
    rintro e u ⟨rfl, hb⟩
    have R2 := H1.out.1.on hb
    have e6 := (R2.ra i hil).cell 6 _ rfl
    have e1 := (R2.ra i hil).cell 1 _ rfl
    rw [hh'] at e6
    rw [hj] at e1
    obtain ⟨sq, scap, hsv⟩ := row_someP R2.pr.stg.row (by omega)
    have c79 := R2.pr.c79
    rw [hsv] at c79
    have H2 := hide (And.intro R2 (H1.out.2.trans (.of_below hb)))
    clear hb H1 c0 f0 R2
    go_wp2_with fail
    go_quiet (first | (go_at_call 41; exact Calls.quiet_of_same (HIS.out _)))
    have hb := below_drewN (Below.refl u.heap.size u) nq
    have H3 := hide (And.intro (H2.out.1.on hb) (H2.out.2.trans (.of_below hb)))
    clear hb H2 c79 e1 e6
    go_wp2_with fail
    refine leaves_cons (f := 37) (args := #[.pointer (some ⟨p, 0, none⟩)]) (by simp) (by simp [go_sem]) ?_
    refine (unlock_deferred muLib ⟨p, 0, none⟩ .returning _ H3.out.1.pr.c0 (H3.out.1.pr.frz 0)).mono ?_
    rintro e u' w'' ⟨rfl, rfl, rfl⟩
    rw [HV.out]
    exact ⟨_, results_tmp rfl _ _ _, rfl, H3.out.1.free H3.out.2⟩
end
end Go.Proofs.YtcnmbldikjljeaaGreatDoor
namespace Go.Proofs.YtcnmbldikjljeaaGreatDoor
open Go.RowKit

/-- the program's docket, of owner t -/
structure PSo (own : Nat → Nat) (w : World) (t p : Nat) (K : Kf) (F : Nat → Bool) (st : List Stg) (lv : Value) (d : Dk) : Prop where
  ok : KfOk K F
  blk : w.heap[p]? = some (.cells (dArr 0 K d.time d.made lv d.told) 113 (0, 0))
  row : w.ownsRow 0 119 7 lv d.cases.length (rcsCells d.cases)
  tg : own p = t
  tl : ∀ k, lv.ownBlock = some k → own k = t
  cal : ∀ j, j < 7 → (roW own w).ownsRow 0 140 2 (K.vs j) (K.wk j).length (flat (K.wk j))
  stg : PW (roW own w) K.sv st K.ls
  inv : InvD F d
def PSi : PSt := fun own w t p F st d => ∃ K lv, PSo own w t p K F st lv d
section
variable {own own' : Nat → Nat} {w w' : World} {T : Nat → Prop} {t p : Nat} {K : Kf} {F : Nat → Bool} {st : List Stg} {lv lv' : Value} {d d' : Dk}
theorem PW.unro (h : PW (roW own w) K.sv st K.ls) : PW w K.sv st K.ls := ⟨ro_row h.row (by decide), fun i hi h0 => ro_row (h.lev i hi h0) (by decide), h.len⟩
theorem PSo.pd (h : PSo own w t p K F st lv d) : PD w p K F st 0 lv d := ⟨⟨h.ok, h.blk, fun j hj => ro_row (h.cal j hj) (by decide), h.stg.unro⟩, h.row⟩
theorem calRow_kept {v : Value} {n : Nat} {xs : List Value} (h : (roW own w).ownsRow 0 140 2 v n xs) (k : KeptS own own' T w w') (hs : ¬ T 0) : (roW own' w').ownsRow 0 140 2 v n xs := by
  have hb : Below (roW own w).heap.size (roW own w) (roW own' w') := by rw [ro_size]; exact k.below hs
  exact h.kept (row := none) ⟨hb.os, hb.tape, hb.output, hb.size, fun k hk _ => hb.block k hk⟩ (by cases v.ownBlock <;> simp)
theorem PW.keptR (h : PW (roW own w) K.sv st K.ls) (k : KeptS own own' T w w') (hs : ¬ T 0) : PW (roW own' w') K.sv st K.ls := h.on (by rw [ro_size]; exact k.below hs)
theorem PSo.kept (h : PSo own w t p K F st lv d) (k : KeptS own own' T w w') (hs : ¬ T 0) (hst : ¬ T t) : PSo own' w' t p K F st lv d := by
  have hg := k.at h.blk (by rw [h.tg]; exact hst)
  have hm : MRow own t w _ _ _ _ _ := ⟨h.row, h.tl⟩
  have hm' := hm.kept k hst
  exact ⟨h.ok, hg.1, hm'.1, hg.2.trans h.tg, hm'.2, fun j hj => calRow_kept (h.cal j hj) k hs, h.stg.keptR k hs, h.inv⟩
theorem PSo.step (h : PSo own w t p K F st lv d) (ht : t ≠ 0) (hl : ∀ k, own k ≠ 0 → k < w.heap.size) (R : PD w' p K F st 0 lv' d') (f : Frm p lv lv' w w') (iv : InvD F d') : ∃ own', PSi own' w' t p F st d' ∧ Kept own own' t w w' := by
  have hk : Kept own (tagOf own lv'.ownBlock t) t w w' := by
    refine ⟨f.os, f.tape, f.output, f.size, fun k hk hne => f.block k hk (fun e => hne (by rw [e]; exact h.tg)) (fun e => hne (h.tl k e.symm)), fun k hk => ?_, fun k hk h0 => ?_, tagOf_nt⟩
    · unfold tagOf
      split
      · rename_i e
        rcases f.row k e.symm with a | a
        · exact (h.tl k a).symm
        · omega
      · rfl
    · unfold tagOf at h0
      split at h0
      · rename_i e
        exact (R.own.lt k e.symm).2
      · exact absurd (hl k h0) (by omega)
  refine ⟨_, ⟨K, lv', h.ok, R.pr.blk, R.own, ?_, fun k e => by unfold tagOf; rw [if_pos e.symm], fun j hj => calRow_kept (h.cal j hj) hk (Ne.symm ht), h.stg.keptR hk (Ne.symm ht), iv⟩, hk⟩
  have hgl := h.pd.pr.lt
  rw [hk.same p hgl]; exact h.tg
/-- a call that gives a list of its own -/
theorem PSo.step8 (h : PSo own w t p K F st lv d) (ht : t ≠ 0) (hl : ∀ k, own k ≠ 0 → k < w.heap.size) (R : PD w' p K F st 0 lv d') (f : Frm p lv lv w w') (iv : InvD F d') {ov : Value} {e : TypeId} {size n : Nat} {xs : List Value} (ho : w'.ownsRow w.heap.size e size ov n xs) : ∃ own', PSi own' w' t p F st d' ∧ Kept own own' t w w' ∧ ∀ k, ov.ownBlock = some k → own' k = 8 := by
  have hk : Kept own (tagOf own ov.ownBlock 8) t w w' := by
    refine ⟨f.os, f.tape, f.output, f.size, fun k hk hne => f.block k hk (fun e => hne (by rw [e]; exact h.tg)) (fun e => hne (h.tl k e.symm)), fun k hk => ?_, fun k hk h0 => ?_, fun k => ?_⟩
    · unfold tagOf
      split
      · rename_i e
        have := (ho.lt k e.symm).1
        omega
      · rfl
    · unfold tagOf at h0
      split at h0
      · rename_i e
        exact (ho.lt k e.symm).2
      · exact absurd (hl k h0) (by omega)
    · unfold tagOf
      split
      · exact .inl (by omega)
      · exact .inr (.inl rfl)
  refine ⟨_, ⟨K, lv, h.ok, R.pr.blk, R.own, ?_, fun k e => ?_, fun j hj => calRow_kept (h.cal j hj) hk (Ne.symm ht), h.stg.keptR hk (Ne.symm ht), iv⟩, hk, fun k e => by unfold tagOf; rw [if_pos e.symm]⟩
  · have hgl := h.pd.pr.lt
    rw [hk.same p hgl]; exact h.tg
  · have := (h.row.lt k e).2
    rw [hk.same k this]; exact h.tl k e
end
end Go.Proofs.YtcnmbldikjljeaaGreatDoor
namespace Go.Proofs.YtcnmbldikjljeaaGreatDoor
open Go.Shelf Go.RowKit Go.Lib Go.Sort Go.MuLone

section
variable {w : World} {p b off : Nat} {K : Kf} {F : Nat → Bool} {st : List Stg} {lk t m : Int} {lv : Value} {k : Int} {x : Cs}
def heldL (F : Nat → Bool) (t : Int) (x : Cs) : Cs := if 0 ≤ x.due then { x with held := true, rest := cnt F x.due.toNat - cnt F t.toNat, due := -1 } else { x with held := true }
def wentL (F : Nat → Bool) (t : Int) (x : Cs) : Cs := if 0 < x.rest then { armsL F { x with held := false } t x.rest with rest := 0 } else { x with held := false }
set_option maxRecDepth 100000 in
set_option maxHeartbeats 1000000 in
theorem holdR_any (R : PR w p K F st lk t m lv k) (A : RA w b off (rcCells x)) (t0 : 0 ≤ t) (hd : 0 ≤ x.due → t ≤ x.due ∧ x.due ≤ 100800 ∧ 0 < cnt F x.due.toNat - cnt F t.toNat) :
    Calls Tryz.prog 46 #[P0 p, .pointer (some ⟨b, off, none⟩)] w fun e w' => e = .returned (.tuple #[]) ∧ PutR w w' b off (rcCells (heldL F t x)) := by
  have d6 := A.cell 6 _ rfl
  have f6 := A.frozen (off + 6)
  have P1 : PutR w (w.setCell ⟨b, off + 6, none⟩ (.bool true)) b off ((rcCells x).set 6 (.bool true)) := (A.put (Below.refl _ _)).set 6 (by simp [rcCells]) (.bool true)
  have A1 := P1.ra
  have R1 := R.put P1
  have HP := hide P1
  by_cases h0 : 0 ≤ x.due
  · obtain ⟨h1, h2, h3⟩ := hd h0
    have HH := hide (show heldL F t x = { x with held := true, rest := cnt F x.due.toNat - cnt F t.toNat, due := -1 } by unfold heldL; rw [if_pos h0])
    have d2 : (w.setCell ⟨b, off + 6, none⟩ (.bool true)).cell? ⟨b, off + 2, none⟩ = some (.int .i64 1) := by
      have := A1.cell 2 (.int .i64 (crs x)) rfl
      rwa [show crs x = 1 by unfold crs; rw [if_pos h0]] at this
    have d4 : (w.setCell ⟨b, off + 6, none⟩ (.bool true)).cell? ⟨b, off + 4, none⟩ = some (.int .i64 x.due) := by
      have := A1.cell 4 (.int .i64 (dueC x)) rfl
      rwa [show dueC x = x.due by unfold dueC; rw [if_pos h0]] at this
    have c80 := R1.c80
    have HB := hide (R1.on ((Below.refl _ _).drew) |>.between t x.due t0 h1 h2)
    have HC : Hid (((((rcCells x).set 6 (.bool true)).set 2 (.int .i64 2)).set 4 (.int .i64 0)).set 5 (.int .i64 (cnt F x.due.toNat - cnt F t.toNat)) = rcCells { x with held := true, rest := cnt F x.due.toNat - cnt F t.toNat, due := -1 }) := by
      have h3' : cnt F t.toNat < cnt F x.due.toNat := by omega
      unfold Hid rcCells crs dueC
      simp [h3']
    have hbl := A.lt
    have hpl := R.lt
    have hne := R.ne A
    clear R A R1 A1 P1 hd
    generalize cnt F x.due.toNat - cnt F t.toNat = rr at *
    go_enter Tryz.func46, Tryz.ntmps46
    go_wp2_with fail
    have hb1 : b < (w.setCell ⟨b, off + 6, none⟩ (.bool true)).heap.size := by simpa using hbl
    have hp1 : p < (w.setCell ⟨b, off + 6, none⟩ (.bool true)).heap.size := by simpa using hpl
    generalize w.setCell ⟨b, off + 6, none⟩ (.bool true) = w1 at *
    clear d6 f6 hbl hpl
    go_region_held3 (fun w' => w'.cell? ⟨p, 80, none⟩ = some (.int .i64 t) ∧ w'.cell? ⟨b, off + 4, none⟩ = some (.int .i64 x.due)) ((go_keep; done))
      (first | (go_at_call 22; refine HB.out.mono ?_; rintro e w' ⟨rfl, bl⟩; have z0 := (bl.cell (p := ⟨p, 80, none⟩) hp1).trans c80; have z1 := (bl.cell (p := ⟨b, off + 4, none⟩) hb1).trans d4))
    have hbw : Below w1.heap.size w1 w' := ((Below.refl w1.heap.size w1).drew).trans bl
    have P2 := HP.out.trans (HP.out.ra.put hbw) rfl
    have A2 := P2.ra
    have g2 := A2.cell 2 _ rfl
    have g4 := A2.cell 4 _ rfl
    have g5 := A2.cell 5 _ rfl
    have q2 := A2.frozen (off + 2)
    have q4 := A2.frozen (off + 4)
    have q5 := A2.frozen (off + 5)
    have HP2 := hide (((P2.set 2 (by simp [rcCells]) (.int .i64 2)).set 4 (by simp [rcCells]) (.int .i64 0)).set 5 (by simp [rcCells]) (.int .i64 rr))
    clear hbw P2 A2 bl z0 z1 d2 d4 c80 HB HP
    go_wp2_with fail
    go_end0
    refine ⟨rfl, ?_⟩
    rw [HH.out, ← HC.out]; exact HP2.out
  · have HH := hide (show heldL F t x = { x with held := true } by unfold heldL; rw [if_neg h0])
    have hcb : (crs x != 1) = true := by unfold crs; rw [if_neg h0]; split <;> rfl
    have d2 : (w.setCell ⟨b, off + 6, none⟩ (.bool true)).cell? ⟨b, off + 2, none⟩ = some (.int .i64 (crs x)) := A1.cell 2 (.int .i64 (crs x)) rfl
    clear R A R1 A1 P1 hd
    have HC : Hid ((rcCells x).set 6 (.bool true) = rcCells { x with held := true }) := rfl
    generalize crs x = cc at *
    go_enter Tryz.func46, Tryz.ntmps46
    go_wp2_with fail
    refine bodyPost_ret (results_none rfl _ _ _) rfl ?_
    refine ⟨rfl, ?_⟩
    rw [HH.out, ← HC.out]; exact HP.out
theorem arms_rest0 (F : Nat → Bool) (x : Cs) (t n : Int) : { armsL F x t n with rest := 0 } = armsL F { x with rest := 0 } t n := by
  unfold armsL; split <;> rfl
set_option maxRecDepth 100000 in
set_option maxHeartbeats 1000000 in
theorem resumeR_any (R : PR w p K F st lk t m lv k) (A : RA w b off (rcCells x)) (t0 : 0 ≤ t) (t1 : t ≤ 100800) (hr : 0 < x.rest → x.due = -1) (r1 : x.rest ≤ 20000) :
    Calls Tryz.prog 49 #[P0 p, .pointer (some ⟨b, off, none⟩)] w fun e w' => e = .returned (.tuple #[]) ∧ PutR w w' b off (rcCells (wentL F t x)) := by
  have d6 := A.cell 6 _ rfl
  have f6 := A.frozen (off + 6)
  have P1 : PutR w (w.setCell ⟨b, off + 6, none⟩ (.bool false)) b off (rcCells { x with held := false }) := (A.put (Below.refl _ _)).set 6 (by simp [rcCells]) (.bool false)
  have A1 := P1.ra
  have R1 := R.put P1
  have HP := hide P1
  have d2 := A1.cell 2 _ rfl
  by_cases h0 : 0 < x.rest
  · have HH := hide (show wentL F t x = armsL F { x with held := false, rest := 0 } t x.rest by unfold wentL; rw [if_pos h0, arms_rest0])
    have hc2 : crs { x with held := false } = 2 := by unfold crs; rw [if_neg (by have := hr h0; simp only; omega), if_pos h0]
    rw [hc2] at d2
    have d3 := A1.cell 3 _ rfl
    have d5 := A1.cell 5 _ rfl
    have c80 := R1.c80
    have HR := hide (fun n => run_any (R1.on (below_drewN (Below.refl _ _) n)) (A1.on (below_drewN (Below.refl _ _) n)) x.level t x.rest t0 t1 (by omega) r1)
    have hbl := A.lt
    have hpl := R.lt
    have hne := R.ne A
    clear R A R1 A1 P1 hr hc2
    go_enter Tryz.func49, Tryz.ntmps49
    go_wp2_with fail
    have hb1 : b < (w.setCell ⟨b, off + 6, none⟩ (.bool false)).heap.size := by simpa using hbl
    have hp1 : p < (w.setCell ⟨b, off + 6, none⟩ (.bool false)).heap.size := by simpa using hpl
    generalize w.setCell ⟨b, off + 6, none⟩ (.bool false) = w1 at *
    clear d6 f6 hbl hpl
    have HR1 := hide (HR.out 1)
    clear HR
    go_still_tail 14, (by kernel_rfl)
    go_wp2_with fail
    refine HR1.out.mono ?_
    rintro e w' ⟨rfl, hp⟩
    have HPP := hide ((HP.out.trans (HP.out.ra.put (below_drewN (Below.refl _ _) 1)) rfl).trans hp rfl)
    clear hp
    go_wp2_with fail
    go_end0
    refine ⟨rfl, ?_⟩
    rw [HH.out]; exact HPP.out
  · have HH := hide (show wentL F t x = { x with held := false } by unfold wentL; rw [if_neg h0])
    have hcb : (crs { x with held := false } == 2) = false := by
      unfold crs; dsimp only
      rw [if_neg h0]
      split <;> rfl
    clear R A R1 A1 P1 hr
    generalize crs { x with held := false } = cc at *
    go_enter Tryz.func49, Tryz.ntmps49
    go_wp2_with fail
    go_end0
    refine ⟨rfl, ?_⟩
    rw [HH.out]; exact HP.out
end
end Go.Proofs.YtcnmbldikjljeaaGreatDoor
