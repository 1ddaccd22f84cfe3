import Derived.Test.YtcnmbldikjljeaaGreatDoorJ09
import Derived.Test.YtcnmbldikjljeaaGreatDoorJ20
namespace Go.Proofs.YtcnmbldikjljeaaGreatDoor
open Go.RowKit
section
variable {w : World} {g c : Nat} {F : Nat → Bool} {st : List Stg} {sv lv : Value} {vs : Nat → Value × Value} {d : Dk} {N : Int}
set_option maxRecDepth 100000 in
set_option maxHeartbeats 1000000 in
theorem refDNow_any (R : RD w g c F st sv vs lv d) :
    Calls Tryz.prog 100 #[P0 g] w fun e w' => e = .returned (.tuple #[.int .i64 d.time, .int .i64 d.told]) ∧ RD w' g c F st sv vs lv d ∧ Fr g lv lv w w' := by
  have c2 := R.c2
  have c4 := R.c4
  have HR := hide R
  clear R
  go_enter Tryz.func100, Tryz.ntmps100
  go_wp2_with fail
  go_quiet (fail)
  go_wp2_with fail
  go_ret2
  exact ⟨rfl, HR.out.on (below_drewN (Below.refl _ _) _), Fr.of_below (below_drewN (Below.refl _ _) _)⟩
set_option maxRecDepth 100000 in
set_option maxHeartbeats 1000000 in
theorem refDCase_any (R : RD w g c F st sv vs lv d) (hl : d.cases.length ≤ 20) (id : Int) :
    Calls Tryz.prog 99 #[P0 g, .int .i64 id] w fun e w' => e = .returned (caseV d id) ∧ RD w' g c F st sv vs lv d ∧ Fr g lv lv w w' := by
  have hb0 : ∀ o : Obj, Below w.heap.size w (w.alloc o) := fun o => (Below.refl _ _).alloc (Nat.le_refl _) o
  have HF := hide (fun o : Obj => find_any (R.on (hb0 o)) (by omega) id)
  have HR := hide R
  rcases findL_bd d.cases id with hneg | ⟨i, hi, hil⟩
  · have HV := hide (show caseV d id = .tuple #[.agg #[.int .i64 0, .int .i64 0, .int .i64 0, .bool false], .int .i64 5] by unfold caseV; rw [if_pos hneg])
    clear R
    go_enter Tryz.func99, Tryz.ntmps99
    go_wp2_with fail
    refine (HF.out _).mono ?_
    rintro e u ⟨rfl, rfl⟩
    generalize findL d.cases id = f at *
    go_wp2_with fail
    rw [HV.out]
    refine bodyPost_ret (v := .tuple #[.agg #[.int .i64 0, .int .i64 0, .int .i64 0, .bool false], .int .i64 5]) (by simp [results, Tryz.f99, go_sem]) rfl ?_
    exact ⟨rfl, HR.out.on (hb0 _), Fr.of_below (hb0 _)⟩
  · have hnn : ¬ findL d.cases id < 0 := by omega
    have HV := hide (show caseV d id = .tuple #[.agg #[.int .i64 (csAt d.cases i).stage, .int .i64 (csAt d.cases i).level, .int .i64 (csAt d.cases i).due, .bool (csAt d.cases i).held], .int .i64 0] by unfold caseV; rw [if_neg hnn, hi])
    obtain ⟨q, cap, hlv⟩ := row_some R.own (by omega)
    subst hlv
    have hA := R.ca i hil
    have hql := hA.lt
    have hgl := R.lt
    have c5 := R.c5
    have e0 := hA.cell 0 _ rfl
    have e1 := hA.cell 1 _ rfl
    have e2 := hA.cell 2 _ rfl
    have e3 := hA.cell 3 _ rfl
    have e4 := hA.cell 4 _ rfl
    have e5 := hA.cell 5 _ rfl
    rw [Nat.add_zero] at e0
    have hil' : (i : Int) < d.cases.length := by omega
    clear R hA
    go_enter Tryz.func99, Tryz.ntmps99
    go_wp2_with fail
    refine (HF.out _).mono ?_
    rintro e u ⟨rfl, rfl⟩
    rw [hi]
    clear HF hnn hi
    generalize csAt d.cases i = x at *
    go_wp2_with fail
    rw [HV.out]
    refine bodyPost_ret (v := .tuple #[.agg #[.int .i64 x.stage, .int .i64 x.level, .int .i64 x.due, .bool x.held], .int .i64 0]) (by simp [results, Tryz.f99, go_sem]) rfl ?_
    have hb2 : ∀ o o2 : Obj, Below w.heap.size w ((w.alloc o).alloc o2) := fun o o2 => (hb0 o).alloc (by simp) o2
    exact ⟨rfl, HR.out.on (hb2 _ _), Fr.of_below (hb2 _ _)⟩
set_option maxRecDepth 100000 in
set_option maxHeartbeats 4000000 in
theorem refDMove_any (R : RD w g c F st sv vs lv d) (hs : StOk st) (hn : st.length ≤ 6) (ok : DkOk F st d N) (id stage : Int) :
    Calls Tryz.prog 95 #[P0 g, .int .i64 id, .int .i64 stage] w fun e w' => e = .returned (.int .i64 (moveC F st d id stage).2) ∧ RD w' g c F st sv vs lv (moveC F st d id stage).1 ∧ Fr g lv lv w w' := by
  have hlen := ok.len
  have HF := hide (find_any R (by omega) id)
  rcases findL_bd d.cases id with hneg | ⟨i, hi, hil⟩
  · have hE : moveC F st d id stage = (d, 5) := by unfold moveC; rw [if_pos hneg]
    rw [hE]
    have HR := hide R
    clear R
    go_enter Tryz.func95, Tryz.ntmps95
    go_wp2_with fail
    refine HF.out.mono ?_
    rintro e u ⟨rfl, rfl⟩
    generalize findL d.cases id = f at *
    go_wp2_with fail
    go_ret
    exact ⟨rfl, HR.out, Fr.refl⟩
  · obtain ⟨q, cap, hlv⟩ := row_some R.own (by omega)
    subst hlv
    have hx := ok.cs (csAt d.cases i) (by unfold csAt; rw [Int.toNat_natCast, List.getD_eq_getElem?_getD, List.getElem?_eq_getElem hil]; exact List.getElem_mem hil)
    have hA := R.ca i hil
    have hql := hA.lt
    have hgl := R.lt
    have c5 := R.c5
    have c1 := R.c1
    have c2 := R.c2
    have e1 := hA.cell 1 _ rfl
    have e4 := hA.cell 4 _ rfl
    have f1 := hA.frozen (i * 6 + 1)
    have hil' : (i : Int) < d.cases.length := by omega
    have hnn : ¬ findL d.cases id < 0 := by omega
    have HR := hide R
    cases hh : (csAt d.cases i).held
    · rw [hh] at e4
      obtain ⟨sa, scap, hsv⟩ := row_some R.stg.row (by have := hx.s1; have := hx.s0; omega)
      subst hsv
      obtain ⟨s, hs2⟩ : ∃ s : Nat, (csAt d.cases i).stage = s := ⟨(csAt d.cases i).stage.toNat, by have := hx.s0; omega⟩
      have hsl : s < st.length := by have := hx.s1; omega
      have hsl' : (s : Int) < st.length := by omega
      have cs := (R.stg.row.cellAt (s * 2 + 1) (by omega)).trans (stCells_at vs st.length s hsl).2
      have hnx := R.stg.nxt s hsl
      obtain ⟨na, ncap, hnv⟩ := row_any hnx
      rw [hnv] at cs hnx
      rw [hs2] at e1
      have hst := hs s hsl
      generalize hL : (stAt st s).next = L at *
      have HL := hide hL
      have HMV := hide (show moveC F st d id stage = if hasI L stage = false then (d, 7) else ({ d with cases := d.cases.set i (comesL F st { csAt d.cases i with stage := stage } 0 d.time) }, 0) by unfold moveC setC; rw [if_neg hnn, hi, hh, hs2, hL]; rfl)
      clear R hA
      go_enter Tryz.func95, Tryz.ntmps95
      go_wp2_with fail
      refine HF.out.mono ?_
      rintro e u ⟨rfl, rfl⟩
      rw [hi]
      go_wp2_with fail
      go_quiet (fail)
      have R1 := HR.out.on (below_drewN (Below.refl _ _) nq)
      have hnx1 := hnx.kept (w' := u.drewN nq) (row := none) ⟨rfl, rfl, rfl, Nat.le_refl _, fun _ _ _ => rfl⟩ (by cases (Value.slice na L.length ncap).ownBlock <;> simp)
      have HFr := hide (Fr.of_below (g := g) (lv := .slice (some ⟨q, 0, none⟩) d.cases.length cap) (below_drewN (Below.refl u.heap.size u) nq))
      have c5' := R1.c5
      have c2' := R1.c2
      have f1' := (R1.ca i hil).frozen (i * 6 + 1)
      have e1' := (R1.ca i hil).cell 1 _ rfl
      have HR1 := hide R1
      have HNX := hide hnx1
      clear R1 hnx1 hnx c1 c2 c5 e1 e4 f1 cs HR HF
      generalize u.drewN nq = W1 at *
      go_wp2_with fail
      go_loopw [9, 10] (fun fv kv wr => ∃ k : Nat, k ≤ L.length ∧ kv = .int .i64 k ∧ fv = .bool (hasI (L.take k) stage) ∧ wr = W1) (fun _ kv _ => L.length - (intOf kv).toNat)
      case atStart => exact ⟨0, Nat.zero_le _, rfl, rfl, rfl⟩
      case round =>
        obtain ⟨k, hk, rfl, rfl, rfl⟩ := hrel
        by_cases hlt : k < L.length
        · have hlt' : (k : Int) < L.length := by omega
          obtain ⟨nq2, ncap2, hna⟩ := row_some HNX.out (by omega)
          simp only [Value.slice.injEq, true_and] at hna
          obtain ⟨rfl, rfl⟩ := hna
          have ek : wr.cell? ⟨nq2, k, none⟩ = some (.int .i64 L[k]) := (HNX.out.cellAt k (by omega)).trans (by simp [intCells, hlt])
          have HS := hide (show hasI (L.take (k + 1)) stage = (hasI (L.take k) stage || L[k] == stage) by rw [List.take_succ_eq_append_getElem hlt, hasI_snoc])
          generalize hasI (L.take k) stage = fd at *
          generalize L[k] = lk at *
          cases fd
          · go_wp2_with fail
            go_roundw
            case rel => exact ⟨k + 1, by omega, by go_num, by rw [HS.out]; simp, (by trivial)⟩
            case measure => simp [intOf]; omega
          · go_wp2_with fail
            go_roundw
            case rel => exact ⟨k + 1, by omega, by go_num, by rw [HS.out]; simp, (by trivial)⟩
            case measure => simp [intOf]; omega
        · have hke : L.take k = L := List.take_of_length_le (by omega)
          rw [hke]
          cases hfd : hasI L stage
          · have HE := hide (show moveC F st d id stage = (d, 7) by rw [HMV.out, if_pos hfd])
            go_wp2_with fail
            go_ret
            rw [HE.out]
            exact ⟨rfl, HR1.out, HFr.out⟩
          · have HE := hide (show moveC F st d id stage = ({ d with cases := d.cases.set i (comesL F st { csAt d.cases i with stage := stage } 0 d.time) }, 0) by rw [HMV.out, hfd]; rfl)
            have hin := hst.2.2.2 stage ((hasI_iff L stage).1 hfd)
            have P1 : Put wr (wr.setCell ⟨q, i * 6 + 1, none⟩ (.int .i64 stage)) q (i * 6) (csCells { csAt d.cases i with stage := stage }) := ((HR1.out.ca i hil).put (Below.refl _ _)).set 1 (by simp [csCells]) (.int .i64 stage)
            have R2 := (HR1.out.put (by omega) i hil P1).1
            have HP1 := hide P1
            have c5'' := R2.c5
            have c2'' := R2.c2
            have hz : ∃ y : Int, (wr.setCell ⟨q, i * 6 + 1, none⟩ (.int .i64 stage)).cell? ⟨q, 0, none⟩ = some (.int .i64 y) := ⟨_, by have := RD.at (d := { d with cases := d.cases.set i { csAt d.cases i with stage := stage } }) (by simpa using R2) 0 (by simp; omega) 0 _ rfl; simpa using this⟩
            have hgq : g ≠ q := by
              rintro rfl
              have h9 := HR1.out.c0
              have h8 := HR1.out.at 0 (by omega) 0 _ rfl
              rw [Nat.zero_mul] at h8
              rw [h8] at h9
              simp at h9
            have HC := hide (fun (z : World) (hb : Below (wr.setCell ⟨q, i * 6 + 1, none⟩ (.int .i64 stage)).heap.size (wr.setCell ⟨q, i * 6 + 1, none⟩ (.int .i64 stage)) z) => comes_any ((R2.dr).on hb) (P1.ca.on hb) (by obtain ⟨y, hy⟩ := hz; exact ⟨y, (hb.cell (p := ⟨q, 0, none⟩) (World.block_lt_of_cell? _ _ hy)).trans hy⟩) (by omega) hgq hs hin.1 hin.2 0 d.time (by omega) (by omega) ok.t0 ok.t1)
            have HCA := hide P1.ca
            clear P1 R2 hz
            go_wp2_with fail
            generalize wr.setCell ⟨q, i * 6 + 1, none⟩ (.int .i64 stage) = W2 at *
            go_region_with (go_at_call 141; refine (HC.out _ (by first | exact Below.refl _ _ | exact (Below.refl _ _).drew | exact below_drewN (Below.refl _ _) _)).mono ?_; rintro e w3 ⟨rfl, hP3⟩)
            all_goals
              have HP3 := hide ((HP1.out.trans (HCA.out.put (by first | exact Below.refl _ _ | exact (Below.refl _ _).drew | exact below_drewN (Below.refl _ _) _)) rfl).trans hP3 rfl)
              clear hP3
              go_wp2_with fail
              go_ret
              rw [HE.out]
              obtain ⟨R4, F4⟩ := HR1.out.put (by omega) i hil HP3.out
              exact ⟨rfl, R4, HFr.out.trans F4⟩
    · have hE : moveC F st d id stage = (d, 6) := by unfold moveC; rw [if_neg hnn, hi, hh]; rfl
      rw [hE]
      rw [hh] at e4
      clear R hA
      go_enter Tryz.func95, Tryz.ntmps95
      go_wp2_with fail
      refine HF.out.mono ?_
      rintro e u ⟨rfl, rfl⟩
      rw [hi]
      go_wp2_with fail
      go_ret
      exact ⟨rfl, HR.out, Fr.refl⟩
end
end Go.Proofs.YtcnmbldikjljeaaGreatDoor
namespace Go.Proofs.YtcnmbldikjljeaaGreatDoor
open Go.RowKit
section
variable {w : World} {g c : Nat} {F : Nat → Bool} {st : List Stg} {sv lv : Value} {vs : Nat → Value × Value} {d : Dk} {N : Int}
theorem csAt_mem {l : List Cs} {i : Nat} (h : i < l.length) : csAt l i ∈ l := by
  unfold csAt; rw [Int.toNat_natCast, List.getD_eq_getElem?_getD, List.getElem?_eq_getElem h]; exact List.getElem_mem h
theorem RD.gq {q cap : Nat} (R : RD w g c F st sv vs (.slice (some ⟨q, 0, none⟩) d.cases.length cap) d) (h : 0 < d.cases.length) : g ≠ q ∧ c ≠ q ∧ ∃ y : Int, w.cell? ⟨q, 0, none⟩ = some (.int .i64 y) := by
  have h8 := R.at 0 h 0 _ rfl
  rw [Nat.zero_mul] at h8
  refine ⟨?_, ?_, _, h8⟩
  · rintro rfl
    have h9 := R.c0
    rw [h8] at h9
    simp at h9
  · rintro rfl
    obtain ⟨q2, cap2, h1, _⟩ := R.cal.row
    rw [h8] at h1
    simp at h1
set_option maxRecDepth 100000 in
set_option maxHeartbeats 4000000 in
theorem refDHold_any (R : RD w g c F st sv vs lv d) (ok : DkOk F st d N) (id : Int) :
    Calls Tryz.prog 97 #[P0 g, .int .i64 id] w fun e w' => e = .returned (.int .i64 (holdC F d id).2) ∧ RD w' g c F st sv vs lv (holdC F d id).1 ∧ Fr g lv lv w w' := by
  have hlen := ok.len
  have HF := hide (find_any R (by omega) id)
  rcases findL_bd d.cases id with hneg | ⟨i, hi, hil⟩
  · have hE : holdC F d id = (d, 5) := by unfold holdC; rw [if_pos hneg]
    rw [hE]
    have HR := hide R
    clear R
    go_enter Tryz.func97, Tryz.ntmps97
    go_wp2_with fail
    refine HF.out.mono ?_
    rintro e u ⟨rfl, rfl⟩
    generalize findL d.cases id = f at *
    go_wp2_with fail
    go_ret
    exact ⟨rfl, HR.out, Fr.refl⟩
  · obtain ⟨q, cap, hlv⟩ := row_some R.own (by omega)
    subst hlv
    have hx := ok.cs _ (csAt_mem hil)
    have hA := R.ca i hil
    have hgl := R.lt
    have c5 := R.c5
    have e4 := hA.cell 4 _ rfl
    have f4 := hA.frozen (i * 6 + 4)
    have hil' : (i : Int) < d.cases.length := by omega
    have hnn : ¬ findL d.cases id < 0 := by omega
    have HR := hide R
    cases hh : (csAt d.cases i).held
    · rw [hh] at e4
      have P1 : Put w (w.setCell ⟨q, i * 6 + 4, none⟩ (.bool true)) q (i * 6) (csCells { csAt d.cases i with held := true }) := (hA.put (Below.refl _ _)).set 4 (by simp [csCells]) (.bool true)
      have A1 := P1.ca
      have R2 := (R.put (by omega) i hil P1).1
      have d3 := A1.cell 3 _ rfl
      have f3 := A1.frozen (i * 6 + 3)
      have f5 := A1.frozen (i * 6 + 5)
      have d5 := A1.cell 5 _ rfl
      by_cases hdu : 0 ≤ (csAt d.cases i).due
      · have hE : holdC F d id = ({ d with cases := d.cases.set i { csAt d.cases i with held := true, rest := cnt F (csAt d.cases i).due.toNat - cnt F d.time.toNat, due := -1 } }, 0) := by unfold holdC setC; rw [if_neg hnn, hi, hh, if_pos hdu]; rfl
        rw [hE]
        have c0 := R2.c0
        have c2 := R2.c2
        obtain ⟨hq, hcap, r1, _, hqs, hall⟩ := R2.cal.row
        obtain ⟨hgq, hcq, y, hyq⟩ := R.gq (by omega)
        have hhq : hq ≠ q := by
          rintro rfl
          have h9 := hall (i * 6 + 4) (by omega)
          have h8 := A1.cell 4 _ rfl
          rw [h8] at h9
          simp at h9
        have t0 := ok.t0
        have t1 := ok.t1
        have z1 := hall (csAt d.cases i).due.toNat (by have := hx.d1; omega)
        have z2 := hall d.time.toNat (by omega)
        have b1 : (csAt d.cases i).due < 100801 := by have := hx.d1; omega
        have b2 : d.time < 100801 := by omega
        have k1 := (cnt_bd F (csAt d.cases i).due.toNat)
        have k2 := (cnt_bd F d.time.toNat)
        have k3 : cnt F (csAt d.cases i).due.toNat ≤ 200000 := by omega
        have k4 : cnt F d.time.toNat ≤ 200000 := by omega
        have k5 := k1.1
        have k6 := k2.1
        have HP1 := hide P1
        have HA1 := hide A1
        clear R hA P1 A1 R2 hall k1 k2
        go_enter Tryz.func97, Tryz.ntmps97
        go_wp2_with fail
        refine HF.out.mono ?_
        rintro e u ⟨rfl, rfl⟩
        rw [hi]
        generalize hy1 : cnt F (csAt d.cases i).due.toNat = y1 at *
        generalize hy2 : cnt F d.time.toNat = y2 at *
        have HY := hide (And.intro hy1 hy2)
        clear hy1 hy2
        have hwr : IntKind.i64.wrap (y1 - y2) = y1 - y2 := by simp [IntKind.wrap, IntKind.bits, IntKind.signed]; omega
        go_wp2_with fail
        generalize u.setCell ⟨q, i * 6 + 4, none⟩ (.bool true) = W2 at *
        go_region_held3 (fun w' => w'.cell? ⟨g, 0, none⟩ = some (P0 c) ∧ w'.cell? ⟨g, 2, none⟩ = some (.int .i64 d.time) ∧ w'.cell? ⟨c, 0, none⟩ = some (.slice (some ⟨hq, 0, none⟩) 100801 hcap) ∧ w'.cell? ⟨q, i * 6 + 3, none⟩ = some (.int .i64 (csAt d.cases i).due) ∧ w'.cell? ⟨hq, (csAt d.cases i).due.toNat, none⟩ = some (.int .i64 y1) ∧ w'.cell? ⟨hq, d.time.toNat, none⟩ = some (.int .i64 y2)) (first | (go_keep; done) | (go_split_ands; refine ⟨?_, ?_, ?_, ?_, ?_, ?_⟩; all_goals (rw [show ∀ (z : World) (p : Addr), z.drew.cell? p = z.cell? p from fun _ _ => rfl, sc_ne (by omega)]; assumption))) (fail)
        have P5 : Put u (W2.setCell ⟨q, i * 6 + 5, none⟩ (.int .i64 (y1 - y2))) q (i * 6) (csCells { csAt d.cases i with held := true, rest := y1 - y2 }) := HP1.out.set 5 (by simp [csCells]) (.int .i64 (y1 - y2))
        have P6 := P5.trans (P5.ca.put (Below.refl _ _).drew) rfl
        have A6 := P6.ca
        have g3 := A6.cell 3 _ rfl
        have h3 := A6.frozen (i * 6 + 3)
        have HP7 := hide (P6.set 3 (by simp [csCells]) (.int .i64 (-1)))
        clear P5 P6 A6
        generalize (W2.setCell ⟨q, i * 6 + 5, none⟩ (.int .i64 (y1 - y2))).drew = W3 at *
        go_wp2_with fail
        go_ret
        rw [HY.out.1, HY.out.2]
        obtain ⟨R4, F4⟩ := HR.out.put (x := { csAt d.cases i with held := true, rest := y1 - y2, due := -1 }) (by omega) i hil HP7.out
        exact ⟨rfl, R4, F4⟩
      · have hE : holdC F d id = ({ d with cases := d.cases.set i { csAt d.cases i with held := true } }, 0) := by unfold holdC setC; rw [if_neg hnn, hi, hh, if_neg hdu]; rfl
        rw [hE]
        have hdu' : (csAt d.cases i).due < 0 := by omega
        have HP1 := hide P1
        clear R hA P1 A1 R2
        go_enter Tryz.func97, Tryz.ntmps97
        go_wp2_with fail
        refine HF.out.mono ?_
        rintro e u ⟨rfl, rfl⟩
        rw [hi]
        go_wp2_with fail
        go_ret
        obtain ⟨R4, F4⟩ := HR.out.put (by omega) i hil HP1.out
        exact ⟨rfl, R4, F4⟩
    · have hE : holdC F d id = (d, 6) := by unfold holdC; rw [if_neg hnn, hi, hh]; rfl
      rw [hE]
      rw [hh] at e4
      clear R hA
      go_enter Tryz.func97, Tryz.ntmps97
      go_wp2_with fail
      refine HF.out.mono ?_
      rintro e u ⟨rfl, rfl⟩
      rw [hi]
      go_wp2_with fail
      go_ret
      exact ⟨rfl, HR.out, Fr.refl⟩
end
end Go.Proofs.YtcnmbldikjljeaaGreatDoor
namespace Go.Proofs.YtcnmbldikjljeaaGreatDoor
open Go.RowKit
section
variable {w : World} {g c : Nat} {F : Nat → Bool} {st : List Stg} {sv lv : Value} {vs : Nat → Value × Value} {d : Dk} {N : Int}
set_option maxRecDepth 100000 in
set_option maxHeartbeats 4000000 in
theorem refDResume_any (R : RD w g c F st sv vs lv d) (ok : DkOk F st d N) (id : Int) :
    Calls Tryz.prog 98 #[P0 g, .int .i64 id] w fun e w' => e = .returned (.int .i64 (resumeC F d id).2) ∧ RD w' g c F st sv vs lv (resumeC F d id).1 ∧ Fr g lv lv w w' := by
  have hlen := ok.len
  have HF := hide (find_any R (by omega) id)
  rcases findL_bd d.cases id with hneg | ⟨i, hi, hil⟩
  · have hE : resumeC F d id = (d, 5) := by unfold resumeC; rw [if_pos hneg]
    rw [hE]
    have HR := hide R
    clear R
    go_enter Tryz.func98, Tryz.ntmps98
    go_wp2_with fail
    refine HF.out.mono ?_
    rintro e u ⟨rfl, rfl⟩
    generalize findL d.cases id = f at *
    go_wp2_with fail
    go_ret
    exact ⟨rfl, HR.out, Fr.refl⟩
  · obtain ⟨q, cap, hlv⟩ := row_some R.own (by omega)
    subst hlv
    have hx := ok.cs _ (csAt_mem hil)
    have hA := R.ca i hil
    have hgl := R.lt
    have c5 := R.c5
    have e4 := hA.cell 4 _ rfl
    have f4 := hA.frozen (i * 6 + 4)
    have hil' : (i : Int) < d.cases.length := by omega
    have hnn : ¬ findL d.cases id < 0 := by omega
    have HR := hide R
    cases hh : (csAt d.cases i).held
    · have hE : resumeC F d id = (d, 6) := by unfold resumeC; rw [if_neg hnn, hi, hh]; rfl
      rw [hE]
      rw [hh] at e4
      clear R hA
      go_enter Tryz.func98, Tryz.ntmps98
      go_wp2_with fail
      refine HF.out.mono ?_
      rintro e u ⟨rfl, rfl⟩
      rw [hi]
      go_wp2_with fail
      go_ret
      exact ⟨rfl, HR.out, Fr.refl⟩
    · rw [hh] at e4
      have P1 : Put w (w.setCell ⟨q, i * 6 + 4, none⟩ (.bool false)) q (i * 6) (csCells { csAt d.cases i with held := false }) := (hA.put (Below.refl _ _)).set 4 (by simp [csCells]) (.bool false)
      have A1 := P1.ca
      have R2 := (R.put (by omega) i hil P1).1
      have d5 := A1.cell 5 _ rfl
      have c2 := R2.c2
      by_cases hre : 0 < (csAt d.cases i).rest
      · have hE : resumeC F d id = ({ d with cases := d.cases.set i { armsL F { csAt d.cases i with held := false } d.time (csAt d.cases i).rest with rest := 0 } }, 0) := by unfold resumeC setC; rw [if_neg hnn, hi, hh, if_pos hre]; rfl
        rw [hE]
        have HC := hide (fun (z : World) (hb : Below (w.setCell ⟨q, i * 6 + 4, none⟩ (.bool false)).heap.size (w.setCell ⟨q, i * 6 + 4, none⟩ (.bool false)) z) => arms_any ((R2.dr).on hb) (A1.on hb) d.time (csAt d.cases i).rest ok.t0 ok.t1 hx.r0 hx.r1)
        have HP1 := hide P1
        have HCA := hide A1
        have hrs := hx.r1
        clear R hA P1 A1 R2
        go_enter Tryz.func98, Tryz.ntmps98
        go_wp2_with fail
        refine HF.out.mono ?_
        rintro e u ⟨rfl, rfl⟩
        rw [hi]
        go_wp2_with fail
        generalize u.setCell ⟨q, i * 6 + 4, none⟩ (.bool false) = W2 at *
        go_region_with (go_at_call 143; refine (HC.out _ (by first | exact Below.refl _ _ | exact (Below.refl _ _).drew | exact below_drewN (Below.refl _ _) _)).mono ?_; rintro e w3 ⟨rfl, hP3⟩)
        all_goals
          have P3 := (HP1.out.trans (HCA.out.put (by first | exact Below.refl _ _ | exact (Below.refl _ _).drew | exact below_drewN (Below.refl _ _) _)) rfl).trans hP3 rfl
          have A3 := P3.ca
          have g5 := A3.cell 5 _ rfl
          have h5 := A3.frozen (i * 6 + 5)
          have HP4 := hide (P3.set 5 (by simp [csCells]) (.int .i64 0))
          clear hP3 P3 A3
          go_wp2_with fail
          go_ret
          obtain ⟨R4, F4⟩ := HR.out.put (x := { armsL F { csAt d.cases i with held := false } d.time (csAt d.cases i).rest with rest := 0 }) (by omega) i hil HP4.out
          exact ⟨rfl, R4, F4⟩
      · have hE : resumeC F d id = ({ d with cases := d.cases.set i { csAt d.cases i with held := false } }, 0) := by unfold resumeC setC; rw [if_neg hnn, hi, hh, if_neg hre]; rfl
        rw [hE]
        have hre' : (csAt d.cases i).rest ≤ 0 := by omega
        have HP1 := hide P1
        clear R hA P1 A1 R2
        go_enter Tryz.func98, Tryz.ntmps98
        go_wp2_with fail
        refine HF.out.mono ?_
        rintro e u ⟨rfl, rfl⟩
        rw [hi]
        go_wp2_with fail
        go_ret
        obtain ⟨R4, F4⟩ := HR.out.put (by omega) i hil HP1.out
        exact ⟨rfl, R4, F4⟩
end
end Go.Proofs.YtcnmbldikjljeaaGreatDoor
namespace Go.Proofs.YtcnmbldikjljeaaGreatDoor
open Go.RowKit
theorem addr_add (q off j : Nat) : (Addr.mk q off none).add j = ⟨q, off + j, none⟩ := by unfold Addr.add; split <;> simp_all
section
variable {w : World} {g c : Nat} {F : Nat → Bool} {st : List Stg} {sv lv : Value} {vs : Nat → Value × Value} {d : Dk} {N : Int}
theorem cssCells_one (l : List Cs) : ∀ u ∈ cssCells l, u.oneCell' = true := by
  intro u hu
  simp only [cssCells, List.mem_flatMap] at hu
  obtain ⟨x, _, hu⟩ := hu
  simp only [csCells, List.mem_cons, List.not_mem_nil, or_false] at hu
  rcases hu with rfl | rfl | rfl | rfl | rfl | rfl <;> rfl
theorem cssCells_append (a b : List Cs) : cssCells (a ++ b) = cssCells a ++ cssCells b := by simp [cssCells]
/-- the cells of a part of the row -/
theorem RD.part {q cap : Nat} (R : RD w g c F st sv vs (.slice (some ⟨q, 0, none⟩) d.cases.length cap) d) (k m : Nat) (hm : k + m ≤ d.cases.length) : ∀ j u, (cssCells ((d.cases.drop k).take m))[j]? = some u → w.cell? ⟨q, k * 6 + j, none⟩ = some u := by
  intro j u hj
  have hlt : j < m * 6 := by
    have := (List.getElem?_eq_some_iff.1 hj).1
    rw [cssCells_len] at this
    simp at this
    omega
  have hc := R.own.cellAt (k * 6 + j) (by omega)
  rw [hc]
  have e : cssCells d.cases = cssCells (d.cases.take k) ++ (cssCells ((d.cases.drop k).take m) ++ cssCells ((d.cases.drop k).drop m)) := by rw [← cssCells_append, ← cssCells_append, List.take_append_drop, List.take_append_drop]
  have hl : (cssCells (d.cases.take k)).length = k * 6 := by rw [cssCells_len]; simp; omega
  have hl2 : (cssCells ((d.cases.drop k).take m)).length = m * 6 := by rw [cssCells_len]; simp; omega
  rw [e, List.getElem?_append_right (by omega), List.getElem?_append_left (by omega), hl, show k * 6 + j - k * 6 = j by omega]
  exact hj
theorem close_list {l : List Cs} {i : Nat} : [] ++ cssCells ((l.drop 0).take i) ++ cssCells ((l.drop (i + 1)).take (l.length - (i + 1))) = cssCells (l.eraseIdx i) := by
  rw [List.nil_append, ← cssCells_append, List.drop_zero, List.eraseIdx_eq_take_drop_succ, List.take_of_length_le (l := l.drop (i + 1)) (by simp)]
theorem close_own {u : World} {v : Value} {l : List Cs} {i : Nat} {t : TypeId} (hi : i < l.length) (h : u.ownsRow 0 t 6 v (0 + i + (l.length - (i + 1))) ([] ++ cssCells ((l.drop 0).take i) ++ cssCells ((l.drop (i + 1)).take (l.length - (i + 1))))) : u.ownsRow 0 t 6 v (l.eraseIdx i).length (cssCells (l.eraseIdx i)) := by
  rw [close_list, show 0 + i + (l.length - (i + 1)) = (l.eraseIdx i).length by rw [List.length_eraseIdx, if_pos hi]; omega] at h
  exact h
theorem close_nil {v1 v2 : Value} {l : List Cs} {i : Nat} (hi : i < l.length) (h1 : v1 = .slice none 0 0 ↔ Value.slice none 0 0 = .slice none 0 0 ∧ i = 0) (h2 : v2 = .slice none 0 0 ↔ v1 = .slice none 0 0 ∧ l.length - (i + 1) = 0) : l.eraseIdx i = [] → v2 = .slice none 0 0 := by
  intro e
  have hl : (l.eraseIdx i).length = 0 := by rw [e]; rfl
  rw [List.length_eraseIdx, if_pos hi] at hl
  exact h2.2 ⟨h1.2 ⟨rfl, by omega⟩, by omega⟩
set_option maxRecDepth 100000 in
set_option maxHeartbeats 4000000 in
theorem refDClose_any (R : RD w g c F st sv vs lv d) (ok : DkOk F st d N) (id : Int) :
    Calls Tryz.prog 96 #[P0 g, .int .i64 id] w fun e w' => e = .returned (.int .i64 (closeC d id).2) ∧ ∃ lv', RD w' g c F st sv vs lv' (closeC d id).1 ∧ Fr g lv lv' w w' := by
  have hlen := ok.len
  have HF := hide (find_any R (by omega) id)
  rcases findL_bd d.cases id with hneg | ⟨i, hi, hil⟩
  · have hE : closeC d id = (d, 5) := by unfold closeC; rw [if_pos hneg]
    rw [hE]
    have HR := hide R
    clear R
    go_enter Tryz.func96, Tryz.ntmps96
    go_wp2_with fail
    refine HF.out.mono ?_
    rintro e u ⟨rfl, rfl⟩
    generalize findL d.cases id = f at *
    go_wp2_with fail
    go_ret
    exact ⟨rfl, _, HR.out, Fr.refl⟩
  · obtain ⟨q, cap, hlv⟩ := row_some R.own (by omega)
    subst hlv
    have hcap : d.cases.length ≤ cap ∧ cap ≤ maxLen := by
      rcases R.own.2 with ⟨h', _⟩ | ⟨q', cap', cur, h', _, _, h1, h2, _⟩
      · cases h'
      · simp only [Value.slice.injEq, Option.some.injEq, Addr.mk.injEq, and_true, true_and] at h'
        obtain ⟨rfl, rfl⟩ := h'
        exact ⟨h1, h2⟩
    have hgl := R.lt
    have c5 := R.c5
    have hil' : (i : Int) < d.cases.length := by omega
    have hE : closeC d id = ({ d with cases := d.cases.eraseIdx i }, 0) := by unfold closeC; rw [if_neg (by omega), hi, Int.toNat_natCast]
    rw [hE]
    have HR := hide R
    obtain ⟨i0, hi0, hz0, hz1, hz2⟩ := info_parts caseInfo
    have HII := hide hi0
    have hc1 : (i : Int) ≤ cap := by omega
    have hc2 : (i : Int) + 1 ≤ d.cases.length := by omega
    clear hi0 R
    go_enter Tryz.func96, Tryz.ntmps96
    go_wp2_with fail
    refine HF.out.mono ?_
    rintro e u ⟨rfl, rfl⟩
    rw [hi]
    go_upto_region 6 with (first | (at_builtin; go_must (refine wpList_append_own _ rfl _ _ 238 rfl u.heap.size 242 i0 _ 6 48 Tryz.underlying238 HII.out hz0 hz1 hz2 rfl (by decide) (.slice none 0 0) 0 [] (by rfl) (World.ownsRow_nil _ _ _ _) ⟨q, 0, none⟩ i cap (cssCells ((d.cases.drop 0).take i)) (by rfl) (by rw [cssCells_len]; simp; omega) (fun j v hj => by rw [addr_add]; have := HR.out.part 0 i (by omega) j v hj; rwa [Nat.zero_mul] at this) (cssCells_one _) (by unfold maxLen; omega) (by omega) (Nat.le_refl _) ?_); intro v1 w1 hown1 hgrow1 hnl1) | fail)
    have hgB : w1.heap.size ≥ u.heap.size := hgrow1.size
    have hb1 : Below u.heap.size u w1 := ⟨hgrow1.os, hgrow1.tape, hgrow1.output, hgrow1.size, fun k hk => hgrow1.block k hk (by simp [Value.ownBlock])⟩
    have R1 := HR.out.on hb1
    have c5' := R1.c5
    have HR1 := hide R1
    obtain ⟨va, vl, vc, rfl⟩ := ownsRow_form hown1
    have hcc : (i : Int) + 1 ≤ cap := by omega
    clear R1 c5 HF
    by_cases hce : cap = i + 1
    · subst hce
      have hlz : d.cases.length - (i + 1) = 0 := by omega
      go_upto_region 7 with (first | (at_builtin; go_must (refine wpList_append_own _ rfl _ _ 238 rfl u.heap.size 242 i0 _ 6 48 Tryz.underlying238 HII.out hz0 hz1 hz2 rfl (by decide) (.slice va vl vc) (0 + i) ([] ++ cssCells ((d.cases.drop 0).take i)) (by rfl) hown1 ⟨q, 0, none⟩ 0 0 (cssCells ((d.cases.drop (i + 1)).take 0)) (by rfl) (by rw [cssCells_len]; simp) (fun j v hj => by simp [cssCells] at hj) (cssCells_one _) (by unfold maxLen; omega) (by omega) hgB ?_); intro v2 w2 hown2 hgrow2 hnl2; obtain ⟨wa, wl, wc, rfl⟩ := ownsRow_form hown2; have hb2 := hb1.grown hgrow2 hgB (fun k hk => (hown1.lt k hk).1); obtain ⟨hc10, hf10, R10, F10⟩ := RD.row (l := d.cases.eraseIdx i) (lv' := .slice wa wl wc) HR.out ⟨hb2.os, hb2.tape, hb2.output, hb2.size, fun k hk _ => hb2.block k hk⟩ (close_own hil (by rw [hlz]; exact ownsRow_base hown2 (Nat.zero_le _))) (fun k hk => .inr (hown2.lt k hk).1) (close_nil hil hnl1 (by rw [hlz]; exact hnl2))) | fail)
      have HR10 := hide (And.intro R10 F10)
      clear R10 F10 hc10 hf10 hown2 hgrow2 hnl2 hb2
      go_wp2_with fail
      go_ret
      exact ⟨rfl, _, HR10.out.1, HR10.out.2⟩
    · go_upto_region 7 with (first | (at_builtin; go_must (refine wpList_append_own _ rfl _ _ 238 rfl u.heap.size 242 i0 _ 6 48 Tryz.underlying238 HII.out hz0 hz1 hz2 rfl (by decide) (.slice va vl vc) (0 + i) ([] ++ cssCells ((d.cases.drop 0).take i)) (by rfl) hown1 ⟨q, (i + 1) * 6, none⟩ (d.cases.length - (i + 1)) (cap - (i + 1)) (cssCells ((d.cases.drop (i + 1)).take (d.cases.length - (i + 1)))) (by rfl) (by rw [cssCells_len]; simp) (fun j v hj => by rw [addr_add]; exact HR1.out.part (i + 1) _ (by omega) j v hj) (cssCells_one _) (by unfold maxLen; omega) (by omega) hgB ?_); intro v2 w2 hown2 hgrow2 hnl2; obtain ⟨wa, wl, wc, rfl⟩ := ownsRow_form hown2; have hb2 := hb1.grown hgrow2 hgB (fun k hk => (hown1.lt k hk).1); obtain ⟨hc10, hf10, R10, F10⟩ := RD.row (l := d.cases.eraseIdx i) (lv' := .slice wa wl wc) HR.out ⟨hb2.os, hb2.tape, hb2.output, hb2.size, fun k hk _ => hb2.block k hk⟩ (close_own hil (ownsRow_base hown2 (Nat.zero_le _))) (fun k hk => .inr (hown2.lt k hk).1) (close_nil hil hnl1 hnl2)) | fail)
      have HR10 := hide (And.intro R10 F10)
      clear R10 F10 hc10 hf10 hown2 hgrow2 hnl2 hb2
      go_wp2_with fail
      go_ret
      exact ⟨rfl, _, HR10.out.1, HR10.out.2⟩
end
end Go.Proofs.YtcnmbldikjljeaaGreatDoor
