import Derived.Test.YtcnmbldikjljeaaGreatDoorJ15
import Derived.Test.YtcnmbldikjljeaaGreatDoorJ14
import Derived.BigQuiet
import Derived.Deep.RegionHeld3
namespace Go.Proofs.YtcnmbldikjljeaaGreatDoor
open Go.RowKit

theorem made2 (N j : Nat) (hj : j < N) : (madeCells #[.int .i64 0, .int .i64 0] N)[j]? = some (.int .i64 0) := by
  have : j % 2 = 0 ∨ j % 2 = 1 := by omega
  simp only [madeCells, Array.getElem?_map, Array.getElem?_range, hj, if_true, Option.map_some]
  rcases this with e | e <;> simp [e]
theorem flat_len (l : List (Int × Int)) : (flat l).length = l.length * 2 := by
  induction l with
  | nil => rfl
  | cons x l ih => rw [show flat (x :: l) = [.int .i64 x.1, .int .i64 x.2] ++ flat l by simp [flat], List.length_append, ih]; simp; omega
section
variable {w : World} {v : Value} {l : List (Int × Int)}
set_option maxRecDepth 100000 in
set_option maxHeartbeats 4000000 in
theorem lentLevels_any (L : LR w 2 v l.length (flat l)) (hm : l.length * 16 ≤ 140737488351232) :
    Calls Tryz.prog 135 #[v] w fun e w' => ∃ r, e = .returned r ∧ Lnt w' w.heap.size 127 2 v r l.length (lentF (flat l) sp2) ∧ Below w.heap.size w w' := by
  obtain ⟨a, cap, rfl, hnone, hcell⟩ := L.form
  have hlen := L.len
  cases a with
  | none =>
    obtain ⟨h0, rfl⟩ := hnone rfl
    rw [h0]
    have hnil : ∀ W, (binOp .eql 123 (.slice none 0 0) (.slice none 0 0)).run Tryz.prog W = .ok (.bool true) W := fun W => Lib.run_eql_slice_nil_nil W _ _ Tryz.underlying123
    clear L hcell hnone hlen
    go_enter Tryz.func135, Tryz.ntmps135
    go_wp2_with fail
    go_ret
    exact ⟨_, rfl, .inl ⟨rfl, rfl⟩, Below.refl _ _⟩
  | some a =>
    have hmk := fun w => run_mk 123 127 (.agg #[.int .i64 0, .int .i64 0]) 2 16 Tryz.underlying123 levelInfo l.length (by omega) (by omega) w
    have hnil : ∀ W, (binOp .eql 123 (.slice (some a) l.length cap) (.slice none 0 0)).run Tryz.prog W = .ok (.bool false) W := fun W => Lib.run_eql_slice_some_nil W _ _ _ Tryz.underlying123
    have HL := hide hlen
    have hsz : (Tryz.prog.info? 127).map (·.size) = some 2 := by
      obtain ⟨i, hi, hq0, hq1, hq2⟩ := info_parts levelInfo
      rw [hi]; simp [hq1]
    obtain ⟨M, hM⟩ : ∃ M, M = madeCells (Value.agg #[.int .i64 0, .int .i64 0]).cells ((l.length + 8) * 2) := ⟨_, rfl⟩
    have hMs : M.size = (l.length + 8) * 2 := by rw [hM, size_madeCells]
    have hMc : ∀ j, j < (l.length + 8) * 2 → M[j]? = some (.int .i64 0) := fun j hj => by rw [hM]; exact made2 _ j hj
    rw [← hM] at hmk
    clear hM
    have hcp := fun (hc : ∀ j u, (flat l)[j]? = some u → ∃ b off, some a = some ⟨b, off, none⟩ ∧ (w.alloc (.cells M 127)).cell? ⟨b, off + j, none⟩ = some u) => run_copy_K (P := Tryz.prog) (w.alloc (.cells M 127)) 123 123 3 127 2 w.heap.size (l.length + 8) (l.length + 8) l.length cap (some a) M 127 (flat l) Tryz.underlying123 hsz (heap_alloc_new _ _) (by omega) hlen (fun e => by cases e) hc (by rw [hlen, hMs]; omega) (flatOne l)
    replace hcp := hcp (fun j u hj => by obtain ⟨b, off, e1, e2⟩ := hcell j u hj; exact ⟨b, off, e1, (World.cell?_alloc_lt _ _ _ (World.block_lt_of_cell? _ _ e2)).trans e2⟩)
    have hB := BK.copy (cs := flat l) (heap_alloc_new w (.cells M 127)) hMs (f := fun _ => .int .i64 0) (N := (l.length + 8) * 2) hMc (by rw [hlen]; omega)
    have hBl := below_setRow (((Below.refl w.heap.size w).alloc (Nat.le_refl _) (.cells M 127))) (Nat.le_refl _) (flat l ++ M.toList.drop (flat l).length).toArray
    generalize (w.alloc (.cells M 127)).setRow w.heap.size (flat l ++ M.toList.drop (flat l).length).toArray = W1 at *
    have HB := hide hB
    have HBL := hide hBl
    clear hcell hlen hnone L hsz hB hBl hMs hMc
    generalize hn : l.length = n at *
    have HN := hide hn
    clear hn
    go_enter Tryz.func135, Tryz.ntmps135
    go_wp2_with fail
    clear hcp hmk hnil
    have HL0 := hide (show ∀ j, n * 2 ≤ j → (flat l)[j]? = none from fun j hj => List.getElem?_eq_none (by rw [HL.out]; omega))
    obtain ⟨G, hG⟩ : ∃ G, G = w.heap.size := ⟨_, rfl⟩
    have hGl : G < W1.heap.size := by rw [hG]; exact HB.out.lt
    rw [← hG] at HB HBL ⊢
    have HGG := hide hG
    clear hG
    go_loopw [5] (fun iv wr => ∃ i : Nat, iv = .int .i64 i ∧ n ≤ i ∧ i ≤ n + 8 ∧ BK wr G 127 ((n + 8) * 2) (fun j => ((flat l)[j]?).getD (if j < i * 2 then sp2 j else .int .i64 0)) ∧ Below G w wr) (fun iv _ => n + 8 - (intOf iv).toNat)
    case atStart => exact ⟨n, rfl, Nat.le_refl _, by omega, HB.out.congr (fun j _ => by
      by_cases hj : n * 2 ≤ j
      · rw [HL0.out j hj, if_neg (by omega)]
      · rw [List.getElem?_eq_getElem (by rw [HL.out]; omega)]; rfl), HBL.out⟩
    case round =>
      obtain ⟨i, rfl, hi0, hi1, hK, hb⟩ := hrel
      by_cases hlt : i < n + 8
      · have hlt' : (i : Int) < (n : Int) + 8 := by omega
        have ci := hK.cell (i * 2) (by omega)
        have fi := hK.frz (i * 2)
        have ci' := hK.cell (i * 2 + 1) (by omega)
        have fi' := hK.frz (i * 2 + 1)
        have HK := hide ((hK.set (i * 2) (.int .i64 77)).set (i * 2 + 1) (.int .i64 0))
        have HBB := hide ((hb.setCell (p := ⟨G, i * 2, none⟩) (Nat.le_refl _) (.int .i64 77)).setCell (p := ⟨G, i * 2 + 1, none⟩) (Nat.le_refl _) (.int .i64 0))
        rw [HL0.out (i * 2) (by omega)] at ci
        rw [HL0.out (i * 2 + 1) (by omega)] at ci'
        clear hK hb
        go_wp2_with fail
        go_roundw
        case rel => exact ⟨i + 1, by go_num, by omega, by omega, HK.out.congr (fun j _ => by
          by_cases e : j = i * 2 + 1
          · subst e; rw [if_pos rfl, HL0.out _ (by omega), if_pos (by omega)]; unfold sp2; rw [if_neg (by omega)]; rfl
          · rw [if_neg e]
            by_cases e2 : j = i * 2
            · subst e2; rw [if_pos rfl, HL0.out _ (by omega), if_pos (by omega)]; unfold sp2; rw [if_pos (by omega)]; rfl
            · rw [if_neg e2]
              by_cases h2 : j < i * 2
              · rw [if_pos h2, if_pos (by omega)]
              · rw [if_neg h2, if_neg (by omega)]), HBB.out⟩
        case measure => simp [intOf]; omega
      · obtain rfl : i = n + 8 := by omega
        have HK := hide hK
        have HBB := hide hb
        clear hK hb
        go_wp2_with fail
        go_ret
        exact ⟨_, rfl, .inr ⟨by simp, G, Nat.le_of_eq HGG.out.symm, rfl, HK.out.congr (fun j hj => by unfold lentF; rw [if_pos hj])⟩, by rw [← HGG.out]; exact HBB.out⟩
set_option maxRecDepth 100000 in
set_option maxHeartbeats 4000000 in
/-- .. looked at again, and written over -/
theorem wholeLevels_any {w0 : World} {r : Value} (L : LR w0 2 v l.length (flat l)) (hm : l.length * 16 ≤ 140737488351232) (hb : Below w0.heap.size w0 w) (T : Lnt w w0.heap.size 127 2 v r l.length (lentF (flat l) sp2)) :
    Calls Tryz.prog 137 #[r, v] w fun e w' => e = .returned (.bool true) ∧ Lnt w' w0.heap.size 127 2 v r l.length (fun _ => .int .i64 1) ∧ w.grownBy w' r.ownBlock := by
  obtain ⟨a, cap, rfl, hnone, hcell⟩ := L.form
  have hlen := L.len
  rcases T with ⟨h1, rfl⟩ | ⟨h1, g, hg, rfl, K⟩
  · simp only [Value.slice.injEq] at h1
    obtain ⟨rfl, h0, rfl⟩ := h1
    rw [h0]
    have hnil : ∀ W, (binOp .eql 123 (.slice none 0 0) (.slice none 0 0)).run Tryz.prog W = .ok (.bool true) W := fun W => Lib.run_eql_slice_nil_nil W _ _ Tryz.underlying123
    clear L hcell hnone hlen hb
    go_enter Tryz.func137, Tryz.ntmps137
    go_wp2_with fail
    go_ret
    exact ⟨rfl, .inl ⟨rfl, rfl⟩, ⟨rfl, rfl, rfl, Nat.le_refl _, fun _ _ _ => rfl⟩⟩
  · cases a with
    | none =>
      obtain ⟨h0, rfl⟩ := hnone rfl
      rw [h0] at h1
      exact absurd rfl h1
    | some a =>
      have hnil : ∀ W, (binOp .eql 123 (.slice (some a) l.length cap) (.slice none 0 0)).run Tryz.prog W = .ok (.bool false) W := fun W => Lib.run_eql_slice_some_nil W _ _ _ Tryz.underlying123
      have HC := hide hcell
      have HL := hide hlen
      have HB0 := hide hb
      have HK0 := hide K
      have hgl := K.lt
      clear hcell hlen hnone L hb K h1
      generalize hn : l.length = n at *
      have HN := hide hn
      clear hn
      have HL0 := hide (show ∀ j, n * 2 ≤ j → (flat l)[j]? = none from fun j hj => List.getElem?_eq_none (by rw [HL.out]; omega))
      go_enter Tryz.func137, Tryz.ntmps137
      go_wp2_with fail
      go_loopw [7, 8] (fun kv iv wr => ∃ i : Nat, kv = .bool true ∧ iv = .int .i64 i ∧ i ≤ n + 8 ∧ BK wr g 127 ((n + 8) * 2) (fun j => if j < i * 2 then .int .i64 1 else lentF (flat l) sp2 j) ∧ w.grownBy wr (some g)) (fun _ iv _ => n + 8 - (intOf iv).toNat)
      case atStart => exact ⟨0, rfl, rfl, by omega, HK0.out.congr (fun j _ => by rw [if_neg (by omega)]), ⟨rfl, rfl, rfl, Nat.le_refl _, fun _ _ _ => rfl⟩⟩
      case round =>
        obtain ⟨i, rfl, rfl, hi, hK, hgw⟩ := hrel
        by_cases hlt : i < n + 8
        · have hlt' : (i : Int) < (n : Int) + 8 := by omega
          have ci := hK.cell (i * 2) (by omega)
          rw [if_neg (by omega)] at ci
          have fi := hK.frz (i * 2)
          have ci' := hK.cell (i * 2 + 1) (by omega)
          rw [if_neg (by omega)] at ci'
          have fi' := hK.frz (i * 2 + 1)
          have hgr : g < wr.heap.size := hK.lt
          have HS : Hid (∀ W, Below wr.heap.size wr W → BK ((W.setCell ⟨g, i * 2, none⟩ (.int .i64 1)).setCell ⟨g, i * 2 + 1, none⟩ (.int .i64 1)) g 127 ((n + 8) * 2) (fun j => if j < (i + 1) * 2 then .int .i64 1 else lentF (flat l) sp2 j) ∧ w.grownBy ((W.setCell ⟨g, i * 2, none⟩ (.int .i64 1)).setCell ⟨g, i * 2 + 1, none⟩ (.int .i64 1)) (some g)) := fun W hbW => by
            refine ⟨(((hK.on hbW).set (i * 2) (.int .i64 1)).set (i * 2 + 1) (.int .i64 1)).congr (fun j _ => ?_), ⟨hbW.os.trans hgw.os, hbW.tape.trans hgw.tape, hbW.output.trans hgw.output, by simpa using Nat.le_trans hgw.size hbW.size, fun k hk hne => (Below.heap_setCell _ _ _ k (fun e => hne (by rw [e]))).trans ((Below.heap_setCell _ _ _ k (fun e => hne (by rw [e]))).trans ((hbW.block k (Nat.lt_of_lt_of_le hk hgw.size)).trans (hgw.block k hk hne)))⟩⟩
            by_cases e : j = i * 2 + 1
            · subst e; rw [if_pos rfl, if_pos (by omega)]
            · rw [if_neg e]
              by_cases e2 : j = i * 2
              · subst e2; rw [if_pos rfl, if_pos (by omega)]
              · rw [if_neg e2]
                by_cases h2 : j < i * 2
                · rw [if_pos h2, if_pos (by omega)]
                · rw [if_neg h2, if_neg (by omega)]
          by_cases hin : i < n
          · have hin' : (i : Int) < n := by omega
            have hil : i < l.length := by rw [HN.out]; exact hin
            have hfa := flat_at l i hil
            obtain ⟨b, off, e1, e2⟩ := HC.out _ _ hfa.1
            obtain ⟨b', off', e1', e2'⟩ := HC.out _ _ hfa.2
            simp only [Option.some.injEq] at e1 e1'
            subst e1
            simp only [Addr.mk.injEq, and_true] at e1'
            obtain ⟨rfl, rfl⟩ := e1'
            have hbl : b < w0.heap.size := World.block_lt_of_cell? _ _ e2
            have hbg : b ≠ g := by omega
            have hbw : b < w.heap.size := Nat.lt_of_lt_of_le hbl HB0.out.size
            have hbk := hgw.block b hbw (fun e => hbg (by cases e; rfl))
            have e3 := (World.cell?_of_block (a := ⟨b, off + i * 2, none⟩) hbk).trans ((HB0.out.cell (p := ⟨b, off + i * 2, none⟩) hbl).trans e2)
            have e3' := (World.cell?_of_block (a := ⟨b, off + (i * 2 + 1), none⟩) hbk).trans ((HB0.out.cell (p := ⟨b, off + (i * 2 + 1), none⟩) hbl).trans e2')
            rw [← Nat.add_assoc] at e3'
            have hbr : b < wr.heap.size := World.block_lt_of_cell? _ _ e3
            have hv2 : lentF (flat l) sp2 (i * 2) = .int .i64 l[i].1 := by unfold lentF; rw [hfa.1]; rfl
            have hv3 : lentF (flat l) sp2 (i * 2 + 1) = .int .i64 l[i].2 := by unfold lentF; rw [hfa.2]; rfl
            rw [hv2] at ci
            rw [hv3] at ci'
            generalize l[i].1 = y at *
            generalize l[i].2 = z at *
            clear hK hgw hv2 hv3 e2 e2' HC hfa hbk
            go_wp2_with fail
            go_quiet (fail)
            go_wp2_with fail
            go_roundw
            case rel => exact ⟨i + 1, by simp, by go_num, by omega, HS.out _ (below_drewN ((Below.refl _ _).alloc (Nat.le_refl _) _) _)⟩
            case measure => simp [intOf]; omega
          · have hin' : ¬ (i : Int) < n := by omega
            have hv2 : lentF (flat l) sp2 (i * 2) = .int .i64 77 := by unfold lentF; rw [HL0.out _ (by omega)]; unfold sp2; rw [if_pos (by omega)]; rfl
            have hv3 : lentF (flat l) sp2 (i * 2 + 1) = .int .i64 0 := by unfold lentF; rw [HL0.out _ (by omega)]; unfold sp2; rw [if_neg (by omega)]; rfl
            rw [hv2] at ci
            rw [hv3] at ci'
            clear hK hgw hv2 hv3 HC
            go_wp2_with fail
            go_quiet (fail)
            go_wp2_with fail
            go_roundw
            case rel => exact ⟨i + 1, by simp, by go_num, by omega, HS.out _ (below_drewN ((Below.refl _ _).alloc (Nat.le_refl _) _) _)⟩
            case measure => simp [intOf]; omega
        · obtain rfl : i = n + 8 := by omega
          have HK := hide hK
          have HG := hide hgw
          clear hK hgw
          go_wp2_with fail
          go_ret
          exact ⟨rfl, .inr ⟨by simp, g, hg, rfl, HK.out.congr (fun j hj => by rw [if_pos hj])⟩, HG.out⟩
end
end Go.Proofs.YtcnmbldikjljeaaGreatDoor
namespace Go.Proofs.YtcnmbldikjljeaaGreatDoor
open Go.RowKit

/-- the address of a case in a block -/
abbrev PC (b off : Nat) : Value := .pointer (some ⟨b, off, none⟩)
theorem ret_unit : True := trivial
section
variable {w : World} {g c b off : Nat} {F : Nat → Bool} {st : List Stg} {sv : Value} {vs : Nat → Value × Value} {x : Cs}
set_option maxRecDepth 100000 in
set_option maxHeartbeats 1000000 in
theorem arms_any (R : DR w g c F st sv vs) (A : CA w b off x) (t n : Int) (h0 : 0 ≤ t) (h1 : t ≤ 100800) (h2 : 0 ≤ n) (h3 : n ≤ 20000) :
    Calls Tryz.prog 143 #[P0 g, PC b off, .int .i64 t, .int .i64 n] w fun e w' => e = .returned (.tuple #[]) ∧ Put w w' b off (csCells (armsL F x t n)) := by
  have c0 := R.c0
  have HA := hide (refAdd_any c F t n w R.cal h0 h1 h2 h3)
  have HCA := hide A
  clear R A
  go_enter Tryz.func143, Tryz.ntmps143
  go_wp2_with fail
  refine HA.out.mono ?_
  rintro e u ⟨⟨y, hy, rfl⟩ | ⟨hy, rfl⟩, hb⟩
  · have P0 := HCA.out.put hb
    have A1 := HCA.out.on hb
    have d3 := A1.cell 3 _ rfl
    have f3 := A1.frozen (off + 3)
    have HP := hide (P0.set 3 (by simp [csCells]) (.int .i64 y))
    have hEq : armsL F x t n = { x with due := y } := by unfold armsL; rw [addO_of h1 hy]
    have HE := hide hEq
    clear P0 A1 c0 hEq hy
    go_wp2_with fail
    go_end0
    refine ⟨rfl, ?_⟩
    rw [HE.out]; exact HP.out
  · have P0 := HCA.out.put hb
    have A1 := HCA.out.on hb
    have d2 := A1.cell 2 _ rfl
    have d3 := A1.cell 3 _ rfl
    have f2 := A1.frozen (off + 2)
    have f3 := A1.frozen (off + 3)
    have HP := hide (((P0.set 3 (by simp [csCells]) (.int .i64 0)).set 3 (by simp [csCells]) (.int .i64 (-1))).set 2 (by simp [csCells]) (.int .i64 0))
    have hEq : armsL F x t n = { x with due := -1, level := 0 } := by unfold armsL; rw [addO_never h1 hy]
    have HE := hide hEq
    clear P0 A1 c0 hEq hy
    go_wp2_with fail
    go_end0
    refine ⟨rfl, ?_⟩
    rw [HE.out]; exact HP.out
theorem row_some {w : World} {base n size : Nat} {t : TypeId} {v : Value} {xs : List Value} (h : w.ownsRow base t size v n xs) (hn : 0 < n) : ∃ q cap, v = .slice (some ⟨q, 0, none⟩) n cap := by
  rcases h.2 with ⟨_, hz⟩ | ⟨q, cap, cur, hv, _⟩
  · omega
  · exact ⟨q, cap, hv⟩
theorem row_any {w : World} {base n size : Nat} {t : TypeId} {v : Value} {xs : List Value} (h : w.ownsRow base t size v n xs) : ∃ a cap, v = .slice a n cap := by
  rcases h.2 with ⟨rfl, rfl⟩ | ⟨q, cap, cur, rfl, _⟩
  · exact ⟨_, _, rfl⟩
  · exact ⟨_, _, rfl⟩
set_option maxRecDepth 100000 in
set_option maxHeartbeats 1000000 in
theorem comes_any (R : DR w g c F st sv vs) (A : CA w b off x) (hz : ∃ y : Int, w.cell? ⟨b, 0, none⟩ = some (.int .i64 y)) (ho : off < 100000) (hgb : g ≠ b) (hs : StOk st) (s0 : 0 ≤ x.stage) (s1 : x.stage < st.length) (level t : Int) (l0 : 0 ≤ level) (l1 : level ≤ 100) (h0 : 0 ≤ t) (h1 : t ≤ 100800) :
    Calls Tryz.prog 141 #[P0 g, PC b off, .int .i64 level, .int .i64 t] w fun e w' => e = .returned (.tuple #[]) ∧ Put w w' b off (csCells (comesL F st x level t)) := by
  have d2 := A.cell 2 _ rfl
  have f2 := A.frozen (off + 2)
  have P1 : Put w (w.setCell ⟨b, off + 2, none⟩ (.int .i64 level)) b off (csCells { x with level := level }) := (A.put (Below.refl _ _)).set 2 (by simp [csCells]) (.int .i64 level)
  have A1 := P1.ca
  have R1 := R.put A hz ho hgb P1
  obtain ⟨i, hi⟩ : ∃ i : Nat, x.stage = i := ⟨x.stage.toNat, by omega⟩
  have hil : i < st.length := by omega
  have hil' : (i : Int) < st.length := by omega
  have hrow := R1.stg.row
  have hlev := R1.stg.lev i hil
  obtain ⟨sq, scap, rfl⟩ := row_some hrow (by omega)
  have cs := (hrow.cellAt (i * 2) (by omega)).trans (stCells_at vs st.length i hil).1
  have c1 := R1.c1
  have e1 := A1.cell 1 _ rfl
  simp only [hi] at e1
  have hst := hs i hil
  have hEq : comesL F st x level t = if ((stAt st i).levels.length : Int) ≤ level then { x with level := 0, due := -1 } else armsL F { x with level := level } t (lvAt (stAt st i) level).1 := by unfold comesL; rw [hi]
  have HE := hide hEq
  have HP := hide P1
  have HA := hide A1
  have HR := hide R1
  have hb2 := A1.lt
  clear hEq P1 A1 R1 A R hz hrow
  go_enter Tryz.func141, Tryz.ntmps141
  go_wp2_with fail
  clear d2 f2
  generalize w.setCell ⟨b, off + 2, none⟩ (.int .i64 level) = w1 at *
  generalize hlv : (stAt st i).levels = L at *
  have HLV := hide hlv
  rcases hlev.2 with ⟨hv, hz⟩ | ⟨lq, lcap, lcur, hv, _⟩
  · rw [hv] at cs
    have hle : ((L.length : Nat) : Int) ≤ level := by omega
    have d2 := HA.out.cell 2 _ rfl
    have d3 := HA.out.cell 3 _ rfl
    have f2 := HA.out.frozen (off + 2)
    have f3 := HA.out.frozen (off + 3)
    clear hlev hlv hst
    go_quiet (fail)
    have HPD := hide (((HP.out.trans (HA.out.put (below_drewN (Below.refl _ _) nq)) rfl).set 2 (by simp [csCells]) (.int .i64 0)).set 3 (by simp [csCells]) (.int .i64 (-1)))
    clear cs c1 e1
    go_wp2_with fail
    refine bodyPost_ret (results_none rfl _ _ _) rfl ?_
    refine ⟨rfl, ?_⟩
    rw [HE.out, if_pos hle]; exact HPD.out
  · rw [hv] at cs hlev
    by_cases hle : ((L.length : Nat) : Int) ≤ level
    · have d2 := HA.out.cell 2 _ rfl
      have d3 := HA.out.cell 3 _ rfl
      have f2 := HA.out.frozen (off + 2)
      have f3 := HA.out.frozen (off + 3)
      clear hlev hlv hst
      go_quiet (fail)
      have HPD := hide (((HP.out.trans (HA.out.put (below_drewN (Below.refl _ _) nq)) rfl).set 2 (by simp [csCells]) (.int .i64 0)).set 3 (by simp [csCells]) (.int .i64 (-1)))
      clear cs c1 e1
      go_wp2_with fail
      refine bodyPost_ret (results_none rfl _ _ _) rfl ?_
      refine ⟨rfl, ?_⟩
      rw [HE.out, if_pos hle]; exact HPD.out
    · obtain ⟨k, hk⟩ : ∃ k : Nat, level = k := ⟨level.toNat, by omega⟩
      subst hk
      have hkl : k < L.length := by omega
      have hkl' : (k : Int) < L.length := by omega
      have cl := (hlev.cellAt (k * 2) (by omega)).trans (flat_at L k hkl).1
      have hlt : lq < w1.heap.size := World.block_lt_of_cell? _ _ cl
      have hde := hst.2.1 k (by omega)
      have hlk : (lvAt (stAt st i) k).1 = L[k].1 := by unfold lvAt; rw [HLV.out]; simp [hkl]
      rw [hlk] at hde
      have HR2 := hide (fun n => arms_any (HR.out.on (below_drewN (Below.refl _ _) n)) (HA.out.on (below_drewN (Below.refl _ _) n)) t L[k].1 h0 h1 (by omega) (by omega))
      have HLK := hide hlk
      generalize L[k].1 = dl at *
      clear hlev hlv hst hlk
      go_quiet (fail)
      go_wp2_with fail
      refine (HR2.out _).mono ?_
      rintro e u ⟨rfl, hp⟩
      have HPD := hide ((HP.out.trans (HA.out.put (below_drewN (Below.refl _ _) nq)) rfl).trans hp rfl)
      clear cs c1 e1 cl
      go_wp2_with fail
      go_end0
      refine ⟨rfl, ?_⟩
      rw [HE.out, if_neg (by omega), HLK.out]; exact HPD.out
end
end Go.Proofs.YtcnmbldikjljeaaGreatDoor
namespace Go.Proofs.YtcnmbldikjljeaaGreatDoor
open Go.RowKit

theorem cssCells_len (l : List Cs) : (cssCells l).length = l.length * 6 := by
  induction l with
  | nil => rfl
  | cons x l ih => rw [show cssCells (x :: l) = csCells x ++ cssCells l by simp [cssCells], List.length_append, ih]; simp [csCells]; omega
theorem cssCells_at (l : List Cs) (i : Nat) (h : i < l.length) (j : Nat) (hj : j < 6) : (cssCells l)[i * 6 + j]? = (csCells (csAt l i))[j]? := by
  induction l generalizing i with
  | nil => simp at h
  | cons x l ih =>
    rw [show cssCells (x :: l) = csCells x ++ cssCells l by simp [cssCells]]
    have hl : (csCells x).length = 6 := rfl
    cases i with
    | zero => rw [List.getElem?_append_left (by omega)]; simp [csAt]
    | succ i =>
      rw [List.getElem?_append_right (by omega), show (i + 1) * 6 + j - (csCells x).length = i * 6 + j by omega, ih i (by simpa using h)]
      rfl
/-- the docket of the document in memory -/
structure RD (w : World) (g c : Nat) (F : Nat → Bool) (st : List Stg) (sv : Value) (vs : Nat → Value × Value) (lv : Value) (d : Dk) : Prop where
  blk : w.heap[g]? = some (.cells #[P0 c, sv, .int .i64 d.time, .int .i64 d.made, .int .i64 d.told, lv] 240 (0, 0))
  cal : RC w c F
  stg : SW w sv st vs
  own : w.ownsRow 0 242 6 lv d.cases.length (cssCells d.cases)
  nl : d.cases = [] → lv = .slice none 0 0
section
variable {w : World} {g c : Nat} {F : Nat → Bool} {st : List Stg} {sv lv : Value} {vs : Nat → Value × Value} {d : Dk}
theorem RD.lt (R : RD w g c F st sv vs lv d) : g < w.heap.size := (Array.getElem?_eq_some_iff.1 R.blk).1
theorem RD.c0 (R : RD w g c F st sv vs lv d) : w.cell? ⟨g, 0, none⟩ = some (P0 c) := by simp [World.cell?, R.blk]
theorem RD.c1 (R : RD w g c F st sv vs lv d) : w.cell? ⟨g, 1, none⟩ = some sv := by simp [World.cell?, R.blk]
theorem RD.c2 (R : RD w g c F st sv vs lv d) : w.cell? ⟨g, 2, none⟩ = some (.int .i64 d.time) := by simp [World.cell?, R.blk]
theorem RD.c3 (R : RD w g c F st sv vs lv d) : w.cell? ⟨g, 3, none⟩ = some (.int .i64 d.made) := by simp [World.cell?, R.blk]
theorem RD.c4 (R : RD w g c F st sv vs lv d) : w.cell? ⟨g, 4, none⟩ = some (.int .i64 d.told) := by simp [World.cell?, R.blk]
theorem RD.c5 (R : RD w g c F st sv vs lv d) : w.cell? ⟨g, 5, none⟩ = some lv := by simp [World.cell?, R.blk]
theorem RD.frz (R : RD w g c F st sv vs lv d) (j : Nat) : w.frozen? ⟨g, j, none⟩ = false := by simp [World.frozen?, R.blk]
theorem RD.dr (R : RD w g c F st sv vs lv d) : DR w g c F st sv vs := ⟨R.c0, R.c1, R.cal, R.stg⟩
theorem RD.on {u : World} (R : RD w g c F st sv vs lv d) (hb : Below w.heap.size w u) : RD u g c F st sv vs lv d := by
  have hg : w.grownBy u none := ⟨hb.os, hb.tape, hb.output, hb.size, fun k hk _ => hb.block k hk⟩
  exact ⟨(hb.block g R.lt).trans R.blk, R.cal.on hb, R.stg.on hb, R.own.kept hg (by cases lv.ownBlock <;> simp), R.nl⟩
/-- a case of the row -/
theorem RD.ca {q cap : Nat} (R : RD w g c F st sv vs (.slice (some ⟨q, 0, none⟩) d.cases.length cap) d) (i : Nat) (hi : i < d.cases.length) : CA w q (i * 6) (csAt d.cases i) := by
  rcases R.own.2 with ⟨h', _⟩ | ⟨q', cap', cur, h', _, hh, _, _, _, ht⟩
  · cases h'
  simp only [Value.slice.injEq, Option.some.injEq, Addr.mk.injEq, and_true, true_and] at h'
  obtain ⟨rfl, rfl⟩ := h'
  refine ⟨cur, hh, fun j v hv => ?_⟩
  have hj : j < 6 := (List.getElem?_eq_some_iff.1 hv).1
  have e := cssCells_at d.cases i hi j hj
  rw [← ht, List.getElem?_take_of_lt (by omega), hv, Array.getElem?_toList] at e
  exact e
theorem RD.at {q cap : Nat} (R : RD w g c F st sv vs (.slice (some ⟨q, 0, none⟩) d.cases.length cap) d) (i : Nat) (hi : i < d.cases.length) (j : Nat) (v : Value) (hj : (csCells (csAt d.cases i))[j]? = some v) : w.cell? ⟨q, i * 6 + j, none⟩ = some v := (R.ca i hi).cell j v hj
theorem findTo_step (l : List Cs) (id : Int) (i k : Nat) (h : (csAt l i).id ≠ id) : findTo l id i (k + 1) = findTo l id (i + 1) k := by
  simp only [findTo]; rw [if_neg h]
theorem findTo_hit (l : List Cs) (id : Int) (i k : Nat) (h : (csAt l i).id = id) : findTo l id i (k + 1) = i := by
  simp only [findTo]; rw [if_pos h]
set_option maxRecDepth 100000 in
set_option maxHeartbeats 1000000 in
theorem find_any (R : RD w g c F st sv vs lv d) (hl : d.cases.length ≤ 1000) (id : Int) :
    Calls Tryz.prog 142 #[P0 g, .int .i64 id] w fun e w' => e = .returned (.int .i64 (findL d.cases id)) ∧ w' = w := by
  have c5 := R.c5
  rcases R.own.2 with ⟨rfl, hz⟩ | ⟨q, cap, cur, rfl, _, hq, _⟩
  · have hF : findL d.cases id = -1 := by unfold findL; rw [hz]; rfl
    rw [hF]
    clear R hF
    go_enter Tryz.func142, Tryz.ntmps142
    go_wp2_with fail
    go_loopw [5] (fun i wr => i = .int .i64 0 ∧ wr = w) (fun _ _ => 0)
    case atStart => exact ⟨rfl, rfl⟩
    case round =>
      obtain ⟨rfl, rfl⟩ := hrel
      go_wp2_with fail
      go_ret
      exact ⟨rfl, rfl⟩
  · have HR := hide R
    clear R hq
    generalize hn : d.cases.length = n at *
    have HN := hide hn
    go_enter Tryz.func142, Tryz.ntmps142
    go_wp2_with fail
    go_loopw [5] (fun iv wr => ∃ i : Nat, i ≤ n ∧ iv = .int .i64 i ∧ wr = w ∧ Hid (findL d.cases id = findTo d.cases id i (n - i))) (fun iv _ => n - (intOf iv).toNat)
    case atStart => exact ⟨0, Nat.zero_le _, rfl, rfl, by unfold Hid findL; rw [hn]; rfl⟩
    case round =>
      obtain ⟨i, hi, rfl, rfl, HI⟩ := hrel
      by_cases hlt : i < n
      · have hlt' : (i : Int) < n := by omega
        have e0 : wr.cell? ⟨q, i * 6, none⟩ = some (.int .i64 (csAt d.cases i).id) := RD.at (by rw [HN.out]; exact HR.out) i (by omega) 0 _ rfl
        by_cases hid : (csAt d.cases i).id = id
        · have HF := hide (show findL d.cases id = i by rw [HI.out, show n - i = n - i - 1 + 1 by omega, findTo_hit _ _ _ _ hid])
          have hb : ((csAt d.cases i).id == id) = true := by simpa using hid
          generalize (csAt d.cases i).id = y at *
          go_wp2_with fail
          go_ret
          rw [HF.out]
          exact ⟨rfl, rfl⟩
        · have HF := hide (show findL d.cases id = findTo d.cases id (i + 1) (n - (i + 1)) by rw [HI.out, show n - i = n - (i + 1) + 1 by omega, findTo_step _ _ _ _ hid])
          have hb : ((csAt d.cases i).id == id) = false := by simpa using hid
          generalize (csAt d.cases i).id = y at *
          go_wp2_with fail
          go_roundw
          case rel => exact ⟨i + 1, by omega, by go_num, (by trivial), HF⟩
          case measure => simp [intOf]; omega
      · have HF := hide (show findL d.cases id = -1 by rw [HI.out, show n - i = 0 by omega]; rfl)
        go_wp2_with fail
        go_ret
        rw [HF.out]
        exact ⟨rfl, rfl⟩
set_option maxRecDepth 100000 in
set_option maxHeartbeats 1000000 in
theorem next_any (R : RD w g c F st sv vs lv d) (hl : d.cases.length ≤ 1000) :
    Calls Tryz.prog 140 #[P0 g] w fun e w' => e = .returned (.int .i64 (nextL d.cases)) ∧ Below w.heap.size w w' := by
  have c5 := R.c5
  have hgl := R.lt
  rcases R.own.2 with ⟨rfl, hz⟩ | ⟨q, cap, cur, rfl, _, hq, _⟩
  · have hF : nextL d.cases = -1 := by unfold nextL; rw [hz]; rfl
    rw [hF]
    clear R hF
    go_enter Tryz.func140, Tryz.ntmps140
    go_wp2_with fail
    go_loopw [3, 4] (fun av i wr => av = .int .i64 (-1) ∧ i = .int .i64 0 ∧ wr = w) (fun _ _ _ => 0)
    case atStart => exact ⟨rfl, rfl, rfl⟩
    case round =>
      obtain ⟨rfl, rfl, rfl⟩ := hrel
      go_wp2_with fail
      go_ret
      exact ⟨rfl, Below.refl _ _⟩
  · have hql : q < w.heap.size := (Array.getElem?_eq_some_iff.1 hq).1
    have HR := hide R
    clear R hq
    generalize hn : d.cases.length = n at *
    have HN := hide hn
    go_enter Tryz.func140, Tryz.ntmps140
    go_wp2_with fail
    go_loopw [3, 4] (fun av iv wr => ∃ i : Nat, i ≤ n ∧ iv = .int .i64 i ∧ av = .int .i64 (nextTo d.cases i) ∧ Below w.heap.size w wr) (fun _ iv _ => n - (intOf iv).toNat)
    case atStart => exact ⟨0, Nat.zero_le _, rfl, rfl, Below.refl _ _⟩
    case round =>
      obtain ⟨i, hi, rfl, rfl, hb⟩ := hrel
      have c5' := (hb.cell (p := ⟨g, 5, none⟩) hgl).trans c5
      have hsz := hb.size
      by_cases hlt : i < n
      · have hlt' : (i : Int) < n := by omega
        have at3 : ∀ k : Nat, k < n → wr.cell? ⟨q, k * 6 + 3, none⟩ = some (.int .i64 (csAt d.cases k).due) := fun k hk => (hb.cell (p := ⟨q, k * 6 + 3, none⟩) hql).trans (RD.at (by rw [HN.out]; exact HR.out) k (by omega) 3 _ rfl)
        have e3 := at3 i hlt
        have hbd := nextTo_bd d.cases i
        by_cases h1 : 0 ≤ (csAt d.cases i).due
        · by_cases h2 : nextTo d.cases i < 0
          · have HF := hide (show nextTo d.cases (i + 1) = i by simp only [nextTo]; rw [if_pos ⟨h1, .inl h2⟩])
            generalize nextTo d.cases i = a at *
            generalize (csAt d.cases i).due = y at *
            clear at3 c5
            have HBB := hide hb
            clear hb
            go_wp2_with fail
            go_quiet (fail)
            go_wp2_with fail
            go_roundw
            case rel => exact ⟨i + 1, by omega, by go_num, by rw [HF.out], below_drewN HBB.out _⟩
            case measure => simp [intOf]; omega
          · obtain ⟨k, hk⟩ : ∃ k : Nat, nextTo d.cases i = k := ⟨(nextTo d.cases i).toNat, by omega⟩
            have hkn : k < n := by omega
            have hkn' : (k : Int) < n := by omega
            have e4 := at3 k hkn
            by_cases h3 : (csAt d.cases i).due < (csAt d.cases k).due
            · have HF := hide (show nextTo d.cases (i + 1) = i by simp only [nextTo]; rw [if_pos ⟨h1, .inr (by rw [hk]; exact h3)⟩])
              rw [hk]
              generalize (csAt d.cases i).due = y at *
              generalize (csAt d.cases k).due = z at *
              clear at3 c5 hbd h2 hk
              have HBB := hide hb
              clear hb
              go_wp2_with fail
              go_quiet (fail)
              go_wp2_with fail
              go_roundw
              case rel => exact ⟨i + 1, by omega, by go_num, by rw [HF.out], below_drewN HBB.out _⟩
              case measure => simp [intOf]; omega
            · have HF := hide (show nextTo d.cases (i + 1) = k by simp only [nextTo]; rw [if_neg (by rw [hk]; omega), hk])
              have h3' : (csAt d.cases k).due ≤ (csAt d.cases i).due := by omega
              rw [hk]
              generalize (csAt d.cases i).due = y at *
              generalize (csAt d.cases k).due = z at *
              clear at3 c5 hbd h2 hk
              have HBB := hide hb
              clear hb
              go_wp2_with fail
              go_quiet (fail)
              go_wp2_with fail
              go_roundw
              case rel => exact ⟨i + 1, by omega, by go_num, by rw [HF.out], below_drewN HBB.out _⟩
              case measure => simp [intOf]; omega
        · have HF := hide (show nextTo d.cases (i + 1) = nextTo d.cases i by simp only [nextTo]; rw [if_neg (fun h => h1 h.1)])
          have h1' : (csAt d.cases i).due < 0 := by omega
          have hdec : decide (0 ≤ (csAt d.cases i).due) = false := by simp; omega
          generalize hna : nextTo d.cases i = a at *
          generalize (csAt d.cases i).due = y at *
          clear at3 c5 hbd
          have HBB := hide hb
          clear hb
          go_wp2_with fail
          go_quiet (fail)
          go_wp2_with fail
          go_roundw
          case rel => exact ⟨i + 1, by omega, by go_num, by rw [HF.out], below_drewN HBB.out _⟩
          case measure => simp [intOf]; omega
      · have HF := hide (show nextL d.cases = nextTo d.cases i by unfold nextL; rw [HN.out, show n = i by omega])
        go_wp2_with fail
        go_ret
        rw [HF.out]
        exact ⟨rfl, hb⟩
end
end Go.Proofs.YtcnmbldikjljeaaGreatDoor
