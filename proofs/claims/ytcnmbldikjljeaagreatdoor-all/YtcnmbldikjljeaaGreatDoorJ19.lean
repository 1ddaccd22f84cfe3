import Derived.Test.YtcnmbldikjljeaaGreatDoorJ09
import Derived.Test.YtcnmbldikjljeaaGreatDoorJ18
import Derived.BigQuiet
import Derived.Deep.RegionHeld3
namespace Go.Proofs.YtcnmbldikjljeaaGreatDoor
open Go.RowKit

/-- the address of a case in a block -/
abbrev PC (b off : Nat) : Value := .pointer (some ⟨b, off, none⟩)
theorem ret_unit : True := trivial
section
variable {w : World} {g c b off : Nat} {F : Nat → Bool} {st : List Stg} {sv : Value} {vs : Nat → Value × Value} {x : Cs}
set_option maxRecDepth 100000 in
set_option maxHeartbeats 1000000 in
theorem arms_any (R : DR w g c F st sv vs) (A : CA w b off x) (t n : Int) (h0 : 0 ≤ t) (h1 : t ≤ 100800) (h2 : 0 ≤ n) (h3 : n ≤ 20000) :
    Calls Tryz.prog 143 #[P0 g, PC b off, .int .i64 t, .int .i64 n] w fun e w' => e = .returned (.tuple #[]) ∧ Put w w' b off (csCells (armsL F x t n)) := by
  have c0 := R.c0
  have HA := hide (refAdd_any c F t n w R.cal h0 h1 h2 h3)
  have HCA := hide A
  clear R A
  go_enter Tryz.func143, Tryz.ntmps143
  go_wp2_with fail
  refine HA.out.mono ?_
  rintro e u ⟨⟨y, hy, rfl⟩ | ⟨hy, rfl⟩, hb⟩
  · have P0 := HCA.out.put hb
    have A1 := HCA.out.on hb
    have d3 := A1.cell 3 _ rfl
    have f3 := A1.frozen (off + 3)
    have HP := hide (P0.set 3 (by simp [csCells]) (.int .i64 y))
    have hEq : armsL F x t n = { x with due := y } := by unfold armsL; rw [addO_of h1 hy]
    have HE := hide hEq
    clear P0 A1 c0 hEq hy
    go_wp2_with fail
    go_end0
    refine ⟨rfl, ?_⟩
    rw [HE.out]; exact HP.out
  · have P0 := HCA.out.put hb
    have A1 := HCA.out.on hb
    have d2 := A1.cell 2 _ rfl
    have d3 := A1.cell 3 _ rfl
    have f2 := A1.frozen (off + 2)
    have f3 := A1.frozen (off + 3)
    have HP := hide (((P0.set 3 (by simp [csCells]) (.int .i64 0)).set 3 (by simp [csCells]) (.int .i64 (-1))).set 2 (by simp [csCells]) (.int .i64 0))
    have hEq : armsL F x t n = { x with due := -1, level := 0 } := by unfold armsL; rw [addO_never h1 hy]
    have HE := hide hEq
    clear P0 A1 c0 hEq hy
    go_wp2_with fail
    go_end0
    refine ⟨rfl, ?_⟩
    rw [HE.out]; exact HP.out
set_option maxRecDepth 100000 in
set_option maxHeartbeats 1000000 in
theorem comes_any (R : DR w g c F st sv vs) (A : CA w b off x) (hz : ∃ y : Int, w.cell? ⟨b, 0, none⟩ = some (.int .i64 y)) (ho : off < 100000) (hgb : g ≠ b) (hs : StOk st) (s0 : 0 ≤ x.stage) (s1 : x.stage < st.length) (level t : Int) (l0 : 0 ≤ level) (l1 : level ≤ 100) (h0 : 0 ≤ t) (h1 : t ≤ 100800) :
    Calls Tryz.prog 141 #[P0 g, PC b off, .int .i64 level, .int .i64 t] w fun e w' => e = .returned (.tuple #[]) ∧ Put w w' b off (csCells (comesL F st x level t)) := by
  have d2 := A.cell 2 _ rfl
  have f2 := A.frozen (off + 2)
  have P1 : Put w (w.setCell ⟨b, off + 2, none⟩ (.int .i64 level)) b off (csCells { x with level := level }) := (A.put (Below.refl _ _)).set 2 (by simp [csCells]) (.int .i64 level)
  have A1 := P1.ca
  have R1 := R.put A hz ho hgb P1
  obtain ⟨i, hi⟩ : ∃ i : Nat, x.stage = i := ⟨x.stage.toNat, by omega⟩
  have hil : i < st.length := by omega
  have hil' : (i : Int) < st.length := by omega
  have hrow := R1.stg.row
  have hlev := R1.stg.lev i hil
  obtain ⟨sq, scap, rfl⟩ := row_some hrow (by omega)
  have cs := (hrow.cellAt (i * 2) (by omega)).trans (stCells_at vs st.length i hil).1
  have c1 := R1.c1
  have e1 := A1.cell 1 _ rfl
  simp only [hi] at e1
  have hst := hs i hil
  have hEq : comesL F st x level t = if ((stAt st i).levels.length : Int) ≤ level then { x with level := 0, due := -1 } else armsL F { x with level := level } t (lvAt (stAt st i) level).1 := by unfold comesL; rw [hi]
  have HE := hide hEq
  have HP := hide P1
  have HA := hide A1
  have HR := hide R1
  have hb2 := A1.lt
  clear hEq P1 A1 R1 A R hz hrow
  go_enter Tryz.func141, Tryz.ntmps141
  go_wp2_with fail
  clear d2 f2
  generalize w.setCell ⟨b, off + 2, none⟩ (.int .i64 level) = w1 at *
  generalize hlv : (stAt st i).levels = L at *
  have HLV := hide hlv
  rcases hlev.2 with ⟨hv, hz⟩ | ⟨lq, lcap, lcur, hv, _⟩
  · rw [hv] at cs
    have hle : ((L.length : Nat) : Int) ≤ level := by omega
    have d2 := HA.out.cell 2 _ rfl
    have d3 := HA.out.cell 3 _ rfl
    have f2 := HA.out.frozen (off + 2)
    have f3 := HA.out.frozen (off + 3)
    clear hlev hlv hst
    go_quiet (fail)
    have HPD := hide (((HP.out.trans (HA.out.put (below_drewN (Below.refl _ _) nq)) rfl).set 2 (by simp [csCells]) (.int .i64 0)).set 3 (by simp [csCells]) (.int .i64 (-1)))
    clear cs c1 e1
    go_wp2_with fail
    refine bodyPost_ret (results_none rfl _ _ _) rfl ?_
    refine ⟨rfl, ?_⟩
    rw [HE.out, if_pos hle]; exact HPD.out
  · rw [hv] at cs hlev
    by_cases hle : ((L.length : Nat) : Int) ≤ level
    · have d2 := HA.out.cell 2 _ rfl
      have d3 := HA.out.cell 3 _ rfl
      have f2 := HA.out.frozen (off + 2)
      have f3 := HA.out.frozen (off + 3)
      clear hlev hlv hst
      go_quiet (fail)
      have HPD := hide (((HP.out.trans (HA.out.put (below_drewN (Below.refl _ _) nq)) rfl).set 2 (by simp [csCells]) (.int .i64 0)).set 3 (by simp [csCells]) (.int .i64 (-1)))
      clear cs c1 e1
      go_wp2_with fail
      refine bodyPost_ret (results_none rfl _ _ _) rfl ?_
      refine ⟨rfl, ?_⟩
      rw [HE.out, if_pos hle]; exact HPD.out
    · obtain ⟨k, hk⟩ : ∃ k : Nat, level = k := ⟨level.toNat, by omega⟩
      subst hk
      have hkl : k < L.length := by omega
      have hkl' : (k : Int) < L.length := by omega
      have cl := (hlev.cellAt (k * 2) (by omega)).trans (flat_at L k hkl).1
      have hlt : lq < w1.heap.size := World.block_lt_of_cell? _ _ cl
      have hde := hst.2.1 k (by omega)
      have hlk : (lvAt (stAt st i) k).1 = L[k].1 := by unfold lvAt; rw [HLV.out]; simp [hkl]
      rw [hlk] at hde
      have HR2 := hide (fun n => arms_any (HR.out.on (below_drewN (Below.refl _ _) n)) (HA.out.on (below_drewN (Below.refl _ _) n)) t L[k].1 h0 h1 (by omega) (by omega))
      have HLK := hide hlk
      generalize L[k].1 = dl at *
      clear hlev hlv hst hlk
      go_quiet (fail)
      go_wp2_with fail
      refine (HR2.out _).mono ?_
      rintro e u ⟨rfl, hp⟩
      have HPD := hide ((HP.out.trans (HA.out.put (below_drewN (Below.refl _ _) nq)) rfl).trans hp rfl)
      clear cs c1 e1 cl
      go_wp2_with fail
      go_end0
      refine ⟨rfl, ?_⟩
      rw [HE.out, if_neg (by omega), HLK.out]; exact HPD.out
end
end Go.Proofs.YtcnmbldikjljeaaGreatDoor
namespace Go.Proofs.YtcnmbldikjljeaaGreatDoor
open Go.RowKit

theorem cssCells_len (l : List Cs) : (cssCells l).length = l.length * 6 := by
  induction l with
  | nil => rfl
  | cons x l ih => rw [show cssCells (x :: l) = csCells x ++ cssCells l by simp [cssCells], List.length_append, ih]; simp [csCells]; omega
theorem cssCells_at (l : List Cs) (i : Nat) (h : i < l.length) (j : Nat) (hj : j < 6) : (cssCells l)[i * 6 + j]? = (csCells (csAt l i))[j]? := by
  induction l generalizing i with
  | nil => simp at h
  | cons x l ih =>
    rw [show cssCells (x :: l) = csCells x ++ cssCells l by simp [cssCells]]
    have hl : (csCells x).length = 6 := rfl
    cases i with
    | zero => rw [List.getElem?_append_left (by omega)]; simp [csAt]
    | succ i =>
      rw [List.getElem?_append_right (by omega), show (i + 1) * 6 + j - (csCells x).length = i * 6 + j by omega, ih i (by simpa using h)]
      rfl
/-- the docket of the document in memory -/
structure RD (w : World) (g c : Nat) (F : Nat → Bool) (st : List Stg) (sv : Value) (vs : Nat → Value × Value) (lv : Value) (d : Dk) : Prop where
  blk : w.heap[g]? = some (.cells #[P0 c, sv, .int .i64 d.time, .int .i64 d.made, .int .i64 d.told, lv] 240 (0, 0))
  cal : RC w c F
  stg : SW w sv st vs
  own : w.ownsRow 0 242 6 lv d.cases.length (cssCells d.cases)
  nl : d.cases = [] → lv = .slice none 0 0
section
variable {w : World} {g c : Nat} {F : Nat → Bool} {st : List Stg} {sv lv : Value} {vs : Nat → Value × Value} {d : Dk}
theorem RD.lt (R : RD w g c F st sv vs lv d) : g < w.heap.size := (Array.getElem?_eq_some_iff.1 R.blk).1
theorem RD.c0 (R : RD w g c F st sv vs lv d) : w.cell? ⟨g, 0, none⟩ = some (P0 c) := by simp [World.cell?, R.blk]
theorem RD.c1 (R : RD w g c F st sv vs lv d) : w.cell? ⟨g, 1, none⟩ = some sv := by simp [World.cell?, R.blk]
theorem RD.c2 (R : RD w g c F st sv vs lv d) : w.cell? ⟨g, 2, none⟩ = some (.int .i64 d.time) := by simp [World.cell?, R.blk]
theorem RD.c3 (R : RD w g c F st sv vs lv d) : w.cell? ⟨g, 3, none⟩ = some (.int .i64 d.made) := by simp [World.cell?, R.blk]
theorem RD.c4 (R : RD w g c F st sv vs lv d) : w.cell? ⟨g, 4, none⟩ = some (.int .i64 d.told) := by simp [World.cell?, R.blk]
theorem RD.c5 (R : RD w g c F st sv vs lv d) : w.cell? ⟨g, 5, none⟩ = some lv := by simp [World.cell?, R.blk]
theorem RD.frz (R : RD w g c F st sv vs lv d) (j : Nat) : w.frozen? ⟨g, j, none⟩ = false := by simp [World.frozen?, R.blk]
theorem RD.dr (R : RD w g c F st sv vs lv d) : DR w g c F st sv vs := ⟨R.c0, R.c1, R.cal, R.stg⟩
theorem RD.on {u : World} (R : RD w g c F st sv vs lv d) (hb : Below w.heap.size w u) : RD u g c F st sv vs lv d := by
  have hg : w.grownBy u none := ⟨hb.os, hb.tape, hb.output, hb.size, fun k hk _ => hb.block k hk⟩
  exact ⟨(hb.block g R.lt).trans R.blk, R.cal.on hb, R.stg.on hb, R.own.kept hg (by cases lv.ownBlock <;> simp), R.nl⟩
/-- a case of the row -/
theorem RD.ca {q cap : Nat} (R : RD w g c F st sv vs (.slice (some ⟨q, 0, none⟩) d.cases.length cap) d) (i : Nat) (hi : i < d.cases.length) : CA w q (i * 6) (csAt d.cases i) := by
  rcases R.own.2 with ⟨h', _⟩ | ⟨q', cap', cur, h', _, hh, _, _, _, ht⟩
  · cases h'
  simp only [Value.slice.injEq, Option.some.injEq, Addr.mk.injEq, and_true, true_and] at h'
  obtain ⟨rfl, rfl⟩ := h'
  refine ⟨cur, hh, fun j v hv => ?_⟩
  have hj : j < 6 := (List.getElem?_eq_some_iff.1 hv).1
  have e := cssCells_at d.cases i hi j hj
  rw [← ht, List.getElem?_take_of_lt (by omega), hv, Array.getElem?_toList] at e
  exact e
theorem RD.at {q cap : Nat} (R : RD w g c F st sv vs (.slice (some ⟨q, 0, none⟩) d.cases.length cap) d) (i : Nat) (hi : i < d.cases.length) (j : Nat) (v : Value) (hj : (csCells (csAt d.cases i))[j]? = some v) : w.cell? ⟨q, i * 6 + j, none⟩ = some v := (R.ca i hi).cell j v hj
theorem findTo_step (l : List Cs) (id : Int) (i k : Nat) (h : (csAt l i).id ≠ id) : findTo l id i (k + 1) = findTo l id (i + 1) k := by
  simp only [findTo]; rw [if_neg h]
theorem findTo_hit (l : List Cs) (id : Int) (i k : Nat) (h : (csAt l i).id = id) : findTo l id i (k + 1) = i := by
  simp only [findTo]; rw [if_pos h]
set_option maxRecDepth 100000 in
set_option maxHeartbeats 1000000 in
theorem find_any (R : RD w g c F st sv vs lv d) (hl : d.cases.length ≤ 1000) (id : Int) :
    Calls Tryz.prog 142 #[P0 g, .int .i64 id] w fun e w' => e = .returned (.int .i64 (findL d.cases id)) ∧ w' = w := by
  have c5 := R.c5
  rcases R.own.2 with ⟨rfl, hz⟩ | ⟨q, cap, cur, rfl, _, hq, _⟩
  · have hF : findL d.cases id = -1 := by unfold findL; rw [hz]; rfl
    rw [hF]
    clear R hF
    go_enter Tryz.func142, Tryz.ntmps142
    go_wp2_with fail
    go_loopw [5] (fun i wr => i = .int .i64 0 ∧ wr = w) (fun _ _ => 0)
    case atStart => exact ⟨rfl, rfl⟩
    case round =>
      obtain ⟨rfl, rfl⟩ := hrel
      go_wp2_with fail
      go_ret
      exact ⟨rfl, rfl⟩
  · have HR := hide R
    clear R hq
    generalize hn : d.cases.length = n at *
    have HN := hide hn
    go_enter Tryz.func142, Tryz.ntmps142
    go_wp2_with fail
    go_loopw [5] (fun iv wr => ∃ i : Nat, i ≤ n ∧ iv = .int .i64 i ∧ wr = w ∧ Hid (findL d.cases id = findTo d.cases id i (n - i))) (fun iv _ => n - (intOf iv).toNat)
    case atStart => exact ⟨0, Nat.zero_le _, rfl, rfl, by unfold Hid findL; rw [hn]; rfl⟩
    case round =>
      obtain ⟨i, hi, rfl, rfl, HI⟩ := hrel
      by_cases hlt : i < n
      · have hlt' : (i : Int) < n := by omega
        have e0 : wr.cell? ⟨q, i * 6, none⟩ = some (.int .i64 (csAt d.cases i).id) := RD.at (by rw [HN.out]; exact HR.out) i (by omega) 0 _ rfl
        by_cases hid : (csAt d.cases i).id = id
        · have HF := hide (show findL d.cases id = i by rw [HI.out, show n - i = n - i - 1 + 1 by omega, findTo_hit _ _ _ _ hid])
          have hb : ((csAt d.cases i).id == id) = true := by simpa using hid
          generalize (csAt d.cases i).id = y at *
          go_wp2_with fail
          go_ret
          rw [HF.out]
          exact ⟨rfl, rfl⟩
        · have HF := hide (show findL d.cases id = findTo d.cases id (i + 1) (n - (i + 1)) by rw [HI.out, show n - i = n - (i + 1) + 1 by omega, findTo_step _ _ _ _ hid])
          have hb : ((csAt d.cases i).id == id) = false := by simpa using hid
          generalize (csAt d.cases i).id = y at *
          go_wp2_with fail
          go_roundw
          case rel => exact ⟨i + 1, by omega, by go_num, (by trivial), HF⟩
          case measure => simp [intOf]; omega
      · have HF := hide (show findL d.cases id = -1 by rw [HI.out, show n - i = 0 by omega]; rfl)
        go_wp2_with fail
        go_ret
        rw [HF.out]
        exact ⟨rfl, rfl⟩
set_option maxRecDepth 100000 in
set_option maxHeartbeats 1000000 in
theorem next_any (R : RD w g c F st sv vs lv d) (hl : d.cases.length ≤ 1000) :
    Calls Tryz.prog 140 #[P0 g] w fun e w' => e = .returned (.int .i64 (nextL d.cases)) ∧ Below w.heap.size w w' := by
  have c5 := R.c5
  have hgl := R.lt
  rcases R.own.2 with ⟨rfl, hz⟩ | ⟨q, cap, cur, rfl, _, hq, _⟩
  · have hF : nextL d.cases = -1 := by unfold nextL; rw [hz]; rfl
    rw [hF]
    clear R hF
    go_enter Tryz.func140, Tryz.ntmps140
    go_wp2_with fail
    go_loopw [3, 4] (fun av i wr => av = .int .i64 (-1) ∧ i = .int .i64 0 ∧ wr = w) (fun _ _ _ => 0)
    case atStart => exact ⟨rfl, rfl, rfl⟩
    case round =>
      obtain ⟨rfl, rfl, rfl⟩ := hrel
      go_wp2_with fail
      go_ret
      exact ⟨rfl, Below.refl _ _⟩
  · have hql : q < w.heap.size := (Array.getElem?_eq_some_iff.1 hq).1
    have HR := hide R
    clear R hq
    generalize hn : d.cases.length = n at *
    have HN := hide hn
    go_enter Tryz.func140, Tryz.ntmps140
    go_wp2_with fail
    go_loopw [3, 4] (fun av iv wr => ∃ i : Nat, i ≤ n ∧ iv = .int .i64 i ∧ av = .int .i64 (nextTo d.cases i) ∧ Below w.heap.size w wr) (fun _ iv _ => n - (intOf iv).toNat)
    case atStart => exact ⟨0, Nat.zero_le _, rfl, rfl, Below.refl _ _⟩
    case round =>
      obtain ⟨i, hi, rfl, rfl, hb⟩ := hrel
      have c5' := (hb.cell (p := ⟨g, 5, none⟩) hgl).trans c5
      have hsz := hb.size
      by_cases hlt : i < n
      · have hlt' : (i : Int) < n := by omega
        have at3 : ∀ k : Nat, k < n → wr.cell? ⟨q, k * 6 + 3, none⟩ = some (.int .i64 (csAt d.cases k).due) := fun k hk => (hb.cell (p := ⟨q, k * 6 + 3, none⟩) hql).trans (RD.at (by rw [HN.out]; exact HR.out) k (by omega) 3 _ rfl)
        have e3 := at3 i hlt
        have hbd := nextTo_bd d.cases i
        by_cases h1 : 0 ≤ (csAt d.cases i).due
        · by_cases h2 : nextTo d.cases i < 0
          · have HF := hide (show nextTo d.cases (i + 1) = i by simp only [nextTo]; rw [if_pos ⟨h1, .inl h2⟩])
            generalize nextTo d.cases i = a at *
            generalize (csAt d.cases i).due = y at *
            clear at3 c5
            have HBB := hide hb
            clear hb
            go_wp2_with fail
            go_quiet (fail)
            go_wp2_with fail
            go_roundw
            case rel => exact ⟨i + 1, by omega, by go_num, by rw [HF.out], below_drewN HBB.out _⟩
            case measure => simp [intOf]; omega
          · obtain ⟨k, hk⟩ : ∃ k : Nat, nextTo d.cases i = k := ⟨(nextTo d.cases i).toNat, by omega⟩
            have hkn : k < n := by omega
            have hkn' : (k : Int) < n := by omega
            have e4 := at3 k hkn
            by_cases h3 : (csAt d.cases i).due < (csAt d.cases k).due
            · have HF := hide (show nextTo d.cases (i + 1) = i by simp only [nextTo]; rw [if_pos ⟨h1, .inr (by rw [hk]; exact h3)⟩])
              rw [hk]
              generalize (csAt d.cases i).due = y at *
              generalize (csAt d.cases k).due = z at *
              clear at3 c5 hbd h2 hk
              have HBB := hide hb
              clear hb
              go_wp2_with fail
              go_quiet (fail)
              go_wp2_with fail
              go_roundw
              case rel => exact ⟨i + 1, by omega, by go_num, by rw [HF.out], below_drewN HBB.out _⟩
              case measure => simp [intOf]; omega
            · have HF := hide (show nextTo d.cases (i + 1) = k by simp only [nextTo]; rw [if_neg (by rw [hk]; omega), hk])
              have h3' : (csAt d.cases k).due ≤ (csAt d.cases i).due := by omega
              rw [hk]
              generalize (csAt d.cases i).due = y at *
              generalize (csAt d.cases k).due = z at *
              clear at3 c5 hbd h2 hk
              have HBB := hide hb
              clear hb
              go_wp2_with fail
              go_quiet (fail)
              go_wp2_with fail
              go_roundw
              case rel => exact ⟨i + 1, by omega, by go_num, by rw [HF.out], below_drewN HBB.out _⟩
              case measure => simp [intOf]; omega
        · have HF := hide (show nextTo d.cases (i + 1) = nextTo d.cases i by simp only [nextTo]; rw [if_neg (fun h => h1 h.1)])
          have h1' : (csAt d.cases i).due < 0 := by omega
          have hdec : decide (0 ≤ (csAt d.cases i).due) = false := by simp; omega
          generalize hna : nextTo d.cases i = a at *
          generalize (csAt d.cases i).due = y at *
          clear at3 c5 hbd
          have HBB := hide hb
          clear hb
          go_wp2_with fail
          go_quiet (fail)
          go_wp2_with fail
          go_roundw
          case rel => exact ⟨i + 1, by omega, by go_num, by rw [HF.out], below_drewN HBB.out _⟩
          case measure => simp [intOf]; omega
      · have HF := hide (show nextL d.cases = nextTo d.cases i by unfold nextL; rw [HN.out, show n = i by omega])
        go_wp2_with fail
        go_ret
        rw [HF.out]
        exact ⟨rfl, hb⟩
end
end Go.Proofs.YtcnmbldikjljeaaGreatDoor
namespace Go.Proofs.YtcnmbldikjljeaaGreatDoor
open Go.RowKit

/-- what a docket's call leaves as it lay: all but its own block and its row of cases; where the row of cases lies then -/
structure Fr (g : Nat) (lv lv' : Value) (w w' : World) : Prop where
  os : w'.os = w.os
  tape : w'.tape = w.tape
  output : w'.output = w.output
  size : w.heap.size ≤ w'.heap.size
  block : ∀ k, k < w.heap.size → k ≠ g → some k ≠ lv.ownBlock → w'.heap[k]? = w.heap[k]?
  row : ∀ k, lv'.ownBlock = some k → lv.ownBlock = some k ∨ w.heap.size ≤ k
section
variable {g : Nat} {lv lv' lv2 : Value} {w u z : World}
theorem Fr.of_below (hb : Below w.heap.size w u) : Fr g lv lv w u := ⟨hb.os, hb.tape, hb.output, hb.size, fun k hk _ _ => hb.block k hk, fun _ h => .inl h⟩
theorem Fr.refl : Fr g lv lv w w := Fr.of_below (Below.refl _ _)
theorem Fr.trans (h : Fr g lv lv' w u) (k : Fr g lv' lv2 u z) : Fr g lv lv2 w z := by
  refine ⟨k.os.trans h.os, k.tape.trans h.tape, k.output.trans h.output, Nat.le_trans h.size k.size, fun j hj h1 h2 => ?_, fun j hj => ?_⟩
  · refine (k.block j (Nat.lt_of_lt_of_le hj h.size) h1 (fun e => ?_)).trans (h.block j hj h1 h2)
    rcases h.row j e.symm with a | a
    · exact h2 a.symm
    · omega
  · rcases k.row j hj with a | a
    · exact h.row j a
    · exact .inr (Nat.le_trans h.size a)
end
section
variable {w u : World} {g c : Nat} {F : Nat → Bool} {st : List Stg} {sv lv : Value} {vs : Nat → Value × Value} {d : Dk}
theorem RD.cg (R : RD w g c F st sv vs lv d) : c ≠ g := by
  rintro rfl
  obtain ⟨q, cap, h1, _⟩ := R.cal.row
  rw [R.c0] at h1
  simp at h1
theorem cssCells_set (l : List Cs) (i : Nat) (hi : i < l.length) (x : Cs) (cur : Array Value) (cur' : Array Value) (ht : cur.toList.take (l.length * 6) = cssCells l)
    (hj : ∀ j, cur'[j]? = if i * 6 ≤ j ∧ j < i * 6 + (csCells x).length then (csCells x)[j - i * 6]? else cur[j]?) : cur'.toList.take (l.length * 6) = cssCells (l.set i x) := by
  apply List.ext_getElem?
  intro j
  by_cases hjl : j < l.length * 6
  · rw [List.getElem?_take_of_lt hjl, Array.getElem?_toList, hj j]
    have hl : (csCells x).length = 6 := rfl
    have ej : j = j / 6 * 6 + j % 6 := by omega
    have hk : j / 6 < l.length := by omega
    have e2 := cssCells_at (l.set i x) (j / 6) (by simpa using hk) (j % 6) (by omega)
    rw [← ej] at e2
    rw [e2]
    by_cases h : i * 6 ≤ j ∧ j < i * 6 + (csCells x).length
    · rw [if_pos h]
      have : j / 6 = i := by omega
      rw [this, show j - i * 6 = j % 6 by omega]
      congr 1
      simp [csAt, hi]
    · rw [if_neg h]
      have hne : j / 6 ≠ i := by omega
      have e3 := cssCells_at l (j / 6) hk (j % 6) (by omega)
      rw [← ej, ← ht, List.getElem?_take_of_lt hjl, Array.getElem?_toList] at e3
      rw [e3]
      congr 2
      unfold csAt
      rw [Int.toNat_natCast, List.getD_eq_getElem?_getD, List.getD_eq_getElem?_getD, List.getElem?_set_ne (Ne.symm hne)]
  · rw [List.getElem?_take_eq_none (by omega), List.getElem?_eq_none (by rw [cssCells_len]; simp; omega)]
/-- a case of the row was written -/
theorem RD.put {q cap : Nat} {x : Cs} (R : RD w g c F st sv vs (.slice (some ⟨q, 0, none⟩) d.cases.length cap) d) (hl : d.cases.length ≤ 1000) (i : Nat) (hi : i < d.cases.length) (P : Put w u q (i * 6) (csCells x)) :
    RD u g c F st sv vs (.slice (some ⟨q, 0, none⟩) d.cases.length cap) { d with cases := d.cases.set i x } ∧ Fr g (.slice (some ⟨q, 0, none⟩) d.cases.length cap) (.slice (some ⟨q, 0, none⟩) d.cases.length cap) w u := by
  have hG := P.grown
  have h0 := R.at 0 (by omega) 0 _ rfl
  rw [Nat.zero_mul] at h0
  have A := R.ca i hi
  rcases R.own.2 with ⟨h', _⟩ | ⟨q', cap', cur, h', hbq, hh, hc1, hc2, hc3, ht⟩
  · cases h'
  simp only [Value.slice.injEq, Option.some.injEq, Addr.mk.injEq, and_true, true_and] at h'
  obtain ⟨rfl, rfl⟩ := h'
  obtain ⟨cur0, cur', p1, p2, p3, p4⟩ := P.blk
  rw [hh] at p1
  cases p1
  have hgq : g ≠ q := by
    rintro rfl
    have := R.blk
    rw [hh] at this
    simp at this
  have hD := R.dr.put A ⟨_, h0⟩ (by omega) hgq P
  refine ⟨⟨(P.other g R.lt hgq).trans R.blk, hD.cal, hD.stg, ⟨by rw [cssCells_len], .inr ⟨q, cap, cur', by simp, hbq, p2, by simpa using hc1, hc2, by rw [p3, hc3], ?_⟩⟩, fun e => (by have h9 := congrArg List.length e; simp at h9; rw [h9] at hi; simp at hi)⟩, ?_⟩
  · have := cssCells_set d.cases i hi x cur cur' ht p4
    simpa using this
  · refine ⟨P.os, P.tape, P.output, P.size, fun k hk _ h2 => P.other k hk (fun e => h2 (by rw [e]; rfl)), fun _ h => .inl h⟩
/-- a number of the docket's own was written -/
theorem RD.num (R : RD w g c F st sv vs lv d) (j : Nat) (x : Int) (d' : Dk) (hc : d'.cases = d.cases)
    (hd : (#[P0 c, sv, .int .i64 d.time, .int .i64 d.made, .int .i64 d.told, lv] : Array Value).setIfInBounds j (.int .i64 x) = #[P0 c, sv, .int .i64 d'.time, .int .i64 d'.made, .int .i64 d'.told, lv]) :
    RD (w.setCell ⟨g, j, none⟩ (.int .i64 x)) g c F st sv vs lv d' ∧ Fr g lv lv w (w.setCell ⟨g, j, none⟩ (.int .i64 x)) := by
  have hG : w.grownBy (w.setCell ⟨g, j, none⟩ (.int .i64 x)) (some g) := ⟨rfl, rfl, rfl, by simp, fun k _ hne => Below.heap_setCell _ _ _ k (fun e => hne (by rw [e]))⟩
  refine ⟨⟨?_, R.cal.left hG R.cg (j := 0) (by omega) R.c0 (fun x => by simp), R.stg.left hG R.blk (by decide) (by decide) (by decide), ?_, fun e => R.nl (by rw [← hc]; exact e)⟩, ?_⟩
  · rw [heap_setCell_same _ _ _ _ _ _ R.blk, hd]
  · rw [hc]; exact row_left R.own hG R.blk (by decide)
  · exact ⟨rfl, rfl, rfl, by simp, fun k _ h1 _ => Below.heap_setCell _ _ _ k h1, fun _ h => .inl h⟩
/-- another row of cases was laid, and stored -/
theorem RD.row {lv' : Value} {l : List Cs} (R : RD w g c F st sv vs lv d) (hg : w.grownBy u lv.ownBlock) (hown : u.ownsRow 0 242 6 lv' l.length (cssCells l)) (hat : ∀ k, lv'.ownBlock = some k → lv.ownBlock = some k ∨ w.heap.size ≤ k) (hnl : l = [] → lv' = .slice none 0 0) :
    u.cell? ⟨g, 5, none⟩ = some lv ∧ u.frozen? ⟨g, 5, none⟩ = false ∧ RD (u.setCell ⟨g, 5, none⟩ lv') g c F st sv vs lv' { d with cases := l } ∧ Fr g lv lv' w (u.setCell ⟨g, 5, none⟩ lv') := by
  have hgq : some g ≠ lv.ownBlock := by
    intro e
    rcases R.own.2 with ⟨rfl, _⟩ | ⟨q, cap, cur, rfl, _, hh, _⟩
    · simp [Value.ownBlock] at e
    · simp [Value.ownBlock] at e
      subst e
      have := R.blk
      rw [hh] at this
      simp at this
  have hblk := (hg.block g R.lt hgq).trans R.blk
  have hcal : RC u c F ∧ SW u sv st vs := by
    rcases R.own.2 with ⟨rfl, _⟩ | ⟨q, cap, cur, rfl, _, hh, _, _, hsz, ht⟩
    · have hb : Below w.heap.size w u := ⟨hg.os, hg.tape, hg.output, hg.size, fun k hk => hg.block k hk (by simp [Value.ownBlock])⟩
      exact ⟨R.cal.on hb, R.stg.on hb⟩
    · have hg2 : w.grownBy u (some q) := hg
      refine ⟨?_, R.stg.left hg2 hh (by decide) (by decide) (by decide)⟩
      by_cases hz : d.cases.length = 0
      · have := R.nl (List.length_eq_zero_iff.1 hz)
        cases this
      · have h0 := R.at 0 (by omega) 0 _ rfl
        rw [Nat.zero_mul] at h0
        have h4 := R.at 0 (by omega) 4 _ rfl
        have hcq : c ≠ q := by
          rintro rfl
          obtain ⟨q2, cap2, h1, _⟩ := R.cal.row
          rw [h0] at h1
          simp at h1
        exact R.cal.left hg2 hcq (by omega) h4 (fun x => by simp)
  have hG : u.grownBy (u.setCell ⟨g, 5, none⟩ lv') (some g) := ⟨rfl, rfl, rfl, by simp, fun k _ hne => Below.heap_setCell _ _ _ k (fun e => hne (by rw [e]))⟩
  have hc0 : u.cell? ⟨g, 0, none⟩ = some (P0 c) := by simp [World.cell?, hblk]
  refine ⟨by simp [World.cell?, hblk], by simp [World.frozen?, hblk], ⟨?_, hcal.1.left hG R.cg (j := 0) (by omega) hc0 (fun x => by simp), hcal.2.left hG hblk (by decide) (by decide) (by decide), row_left hown hG hblk (by decide), hnl⟩, ?_⟩
  · rw [heap_setCell_same _ _ _ _ _ _ hblk]; rfl
  · exact ⟨hg.os, hg.tape, hg.output, by have := hg.size; simpa using this, fun k hk h1 h2 => (Below.heap_setCell _ _ _ k h1).trans (hg.block k hk h2), hat⟩
end
end Go.Proofs.YtcnmbldikjljeaaGreatDoor
