import Derived.Test.YtcnmbldikjljeaaGreatDoorJ09
import Derived.Deep.OwnRows
import Derived.Lib.BufferMore
namespace Go.Proofs.YtcnmbldikjljeaaGreatDoor
open Go.RowKit

section
variable {w u : World} {g N : Nat} {e : TypeId} {f f' : Nat → Value}
theorem BK.made (w : World) (e : TypeId) (z : Value) (N : Nat) : BK (w.alloc (.cells (madeCells #[z] N) e)) w.heap.size e N (fun _ => z) :=
  ⟨_, heap_alloc_new _ _, by simp [madeCells], fun j hj => by simp [madeCells, hj, Nat.mod_one]⟩
/-- a list was copied into its beginning -/
theorem BK.copy {cur : Array Value} {cs : List Value} (h1 : w.heap[g]? = some (.cells cur e (0, 0))) (h2 : cur.size = N) (h3 : ∀ j, j < N → cur[j]? = some (f j)) (hl : cs.length ≤ N) : BK (w.setRow g (cs ++ cur.toList.drop cs.length).toArray) g e N (fun j => (cs[j]?).getD (f j)) := by
  refine ⟨_, setRow_heap w g cur _ e _ h1, by simp; omega, fun j hj => ?_⟩
  rw [List.getElem?_toArray]
  by_cases hjl : j < cs.length
  · rw [List.getElem?_append_left hjl]; simp [hjl]
  · rw [List.getElem?_append_right (by omega), List.getElem?_drop, Array.getElem?_toList, show cs.length + (j - cs.length) = j by omega, h3 j hj]
    simp [List.getElem?_eq_none (l := cs) (i := j) (by omega)]
end
/-- what is lent: the list, with something of the caller's behind it -/
def lentF (cs : List Value) (sp : Nat → Value) (j : Nat) : Value := (cs[j]?).getD (sp j)
def sp1 : Nat → Value := fun _ => .int .i64 77
def sp2 : Nat → Value := fun j => if j % 2 = 0 then .int .i64 77 else .int .i64 0
/-- a list that was lent: nil for nil -/
def Lnt (w : World) (B : Nat) (e : TypeId) (size : Nat) (v r : Value) (n : Nat) (f : Nat → Value) : Prop :=
  (v = .slice none 0 0 ∧ r = .slice none 0 0) ∨ (v ≠ .slice none 0 0 ∧ ∃ g, B ≤ g ∧ r = .slice (some ⟨g, 0, none⟩) n (n + 8) ∧ BK w g e ((n + 8) * size) f)
theorem run_mk (T E : TypeId) (z : Value) (size bytes : Nat) (hT : Tryz.prog.underlying T = some (.slice E)) (hinfo : (Tryz.prog.info? E).map (fun i => (i.zero, i.size, i.bytes)) = some (some z, size, bytes)) (n : Nat) (hb : bytes * (n + 8) ≤ 281474976710656) (h63 : n + 8 ≤ 9223372036854775807) (w : World) :
    (Instr.makeSlice T (.int .i64 ((n : Int) + 8)) (.int .i64 ((n : Int) + 8))).run Tryz.prog w = .ok (.slice (some ⟨w.heap.size, 0, none⟩) (n + 8) (n + 8)) (w.alloc (.cells (madeCells z.cells ((n + 8) * size)) E)) := by
  obtain ⟨i, hi, hzz⟩ := Option.map_eq_some_iff.1 hinfo
  simp only [Prod.mk.injEq] at hzz
  obtain ⟨hz, hs, hby⟩ := hzz
  have hb' : (i.bytes : Int) * ((n : Int) + 8) ≤ 281474976710656 := by
    have h : ((bytes * (n + 8) : Nat) : Int) ≤ 281474976710656 := by omega
    rw [Int.natCast_mul] at h
    rw [hby]; simpa using h
  have hr := run_make (P := Tryz.prog) w T E i z hT hi hz .i64 .i64 ((n : Int) + 8) ((n : Int) + 8) (by omega) (Int.le_refl _) hb' (by omega)
  rw [hr, hs, show ((n : Int) + 8).toNat = n + 8 by omega]
section
variable {w : World} {v : Value} {l : List Int}
set_option maxRecDepth 100000 in
set_option maxHeartbeats 4000000 in
theorem lentInts_any (L : LR w 1 v l.length (intCells l)) (hm : l.length * 8 ≤ 140737488351232) :
    Calls Tryz.prog 136 #[v] w fun e w' => ∃ r, e = .returned r ∧ Lnt w' w.heap.size 3 1 v r l.length (lentF (intCells l) sp1) ∧ Below w.heap.size w w' := by
  obtain ⟨a, cap, rfl, hnone, hcell⟩ := L.form
  have hlen := L.len
  cases a with
  | none =>
    obtain ⟨h0, rfl⟩ := hnone rfl
    rw [h0]
    have hnil : ∀ W, (binOp .eql 24 (.slice none 0 0) (.slice none 0 0)).run Tryz.prog W = .ok (.bool true) W := fun W => Lib.run_eql_slice_nil_nil W _ _ Tryz.underlying24
    clear L hcell hnone hlen
    go_enter Tryz.func136, Tryz.ntmps136
    go_wp2_with fail
    go_ret
    exact ⟨_, rfl, .inl ⟨rfl, rfl⟩, Below.refl _ _⟩
  | some a =>
    have hmk := fun w => run_mk 24 3 (.int .i64 0) 1 8 Tryz.underlying24 intInfo l.length (by omega) (by omega) w
    simp only [Value.cells, Nat.mul_one] at hmk
    have hnil : ∀ W, (binOp .eql 24 (.slice (some a) l.length cap) (.slice none 0 0)).run Tryz.prog W = .ok (.bool false) W := fun W => Lib.run_eql_slice_some_nil W _ _ _ Tryz.underlying24
    have HC := hide hcell
    have HL := hide hlen
    have hsz : (Tryz.prog.info? 3).map (·.size) = some 1 := by
      obtain ⟨i, hi, hq0, hq1, hq2⟩ := info_parts intInfo
      rw [hi]; simp [hq1]
    have HSZ := hide hsz
    have hcp := fun (hc : ∀ j u, (intCells l)[j]? = some u → ∃ b off, some a = some ⟨b, off, none⟩ ∧ (w.alloc (.cells (madeCells #[.int .i64 0] (l.length + 8)) 3)).cell? ⟨b, off + j, none⟩ = some u) => run_copy_K (P := Tryz.prog) (w.alloc (.cells (madeCells #[.int .i64 0] (l.length + 8)) 3)) 24 24 3 3 1 w.heap.size (l.length + 8) (l.length + 8) l.length cap (some a) (madeCells #[.int .i64 0] (l.length + 8)) 3 (intCells l) Tryz.underlying24 hsz (heap_alloc_new _ _) (by omega) hlen (fun e => by cases e) hc (by rw [hlen, size_madeCells]; omega) (intCells_one l)
    replace hcp := hcp (fun j u hj => by obtain ⟨b, off, e1, e2⟩ := hcell j u hj; exact ⟨b, off, e1, (World.cell?_alloc_lt _ _ _ (World.block_lt_of_cell? _ _ e2)).trans e2⟩)
    have hB := BK.copy (cs := intCells l) (heap_alloc_new w (.cells (madeCells #[.int .i64 0] (l.length + 8)) 3)) (by simp [madeCells]) (f := fun _ => .int .i64 0) (N := l.length + 8) (fun j hj => by simp [madeCells, hj, Nat.mod_one]) (by rw [hlen]; omega)
    have hBl := below_setRow (((Below.refl w.heap.size w).alloc (Nat.le_refl _) (.cells (madeCells #[.int .i64 0] (l.length + 8)) 3))) (Nat.le_refl _) (intCells l ++ (madeCells #[.int .i64 0] (l.length + 8)).toList.drop (intCells l).length).toArray
    generalize (w.alloc (.cells (madeCells #[.int .i64 0] (l.length + 8)) 3)).setRow w.heap.size (intCells l ++ (madeCells #[.int .i64 0] (l.length + 8)).toList.drop (intCells l).length).toArray = W1 at *
    have HB := hide hB
    have HBL := hide hBl
    clear hcell hlen hnone L hsz hB hBl
    generalize hn : l.length = n at *
    have HN := hide hn
    clear hn
    go_enter Tryz.func136, Tryz.ntmps136
    go_wp2_with fail
    clear hcp hmk hnil HC HSZ
    have HL0 := hide (show ∀ j, n ≤ j → (intCells l)[j]? = none from fun j hj => List.getElem?_eq_none (by rw [HL.out]; omega))
    obtain ⟨G, hG⟩ : ∃ G, G = w.heap.size := ⟨_, rfl⟩
    have hGl : G < W1.heap.size := by rw [hG]; exact HB.out.lt
    rw [← hG] at HB HBL ⊢
    have HGG := hide hG
    clear hG
    go_loopw [5] (fun iv wr => ∃ i : Nat, iv = .int .i64 i ∧ n ≤ i ∧ i ≤ n + 8 ∧ BK wr G 3 (n + 8) (fun j => ((intCells l)[j]?).getD (if j < i then .int .i64 77 else .int .i64 0)) ∧ Below G w wr) (fun iv _ => n + 8 - (intOf iv).toNat)
    case atStart => exact ⟨n, rfl, Nat.le_refl _, by omega, HB.out.congr (fun j _ => by
      by_cases hj : n ≤ j
      · rw [HL0.out j hj, if_neg (by omega)]
      · rw [List.getElem?_eq_getElem (by rw [HL.out]; omega)]; rfl), HBL.out⟩
    case round =>
      obtain ⟨i, rfl, hi0, hi1, hK, hb⟩ := hrel
      by_cases hlt : i < n + 8
      · have hlt' : (i : Int) < (n : Int) + 8 := by omega
        have ci := hK.cell i hlt
        have fi := hK.frz i
        have HK := hide (hK.set i (.int .i64 77))
        have HBB := hide (hb.setCell (p := ⟨G, i, none⟩) (Nat.le_refl _) (.int .i64 77))
        rw [HL0.out i hi0] at ci
        clear hK hb
        go_wp2_with fail
        go_roundw
        case rel => exact ⟨i + 1, by go_num, by omega, by omega, HK.out.congr (fun j _ => by
          by_cases e : j = i
          · subst e; rw [if_pos rfl, HL0.out j hi0, if_pos (by omega)]; rfl
          · rw [if_neg e]
            by_cases h2 : j < i
            · rw [if_pos h2, if_pos (by omega)]
            · rw [if_neg h2, if_neg (by omega)]), HBB.out⟩
        case measure => simp [intOf]; omega
      · obtain rfl : i = n + 8 := by omega
        have HK := hide hK
        have HBB := hide hb
        clear hK hb
        go_wp2_with fail
        go_ret
        exact ⟨_, rfl, .inr ⟨by simp, G, Nat.le_of_eq HGG.out.symm, rfl, by rw [Nat.mul_one]; exact HK.out.congr (fun j hj => by unfold lentF sp1; rw [if_pos hj])⟩, by rw [← HGG.out]; exact HBB.out⟩
set_option maxRecDepth 100000 in
set_option maxHeartbeats 4000000 in
/-- .. looked at again, and written over -/
theorem wholeInts_any {w0 : World} {r : Value} (L : LR w0 1 v l.length (intCells l)) (hm : l.length * 8 ≤ 140737488351232) (hb : Below w0.heap.size w0 w) (T : Lnt w w0.heap.size 3 1 v r l.length (lentF (intCells l) sp1)) :
    Calls Tryz.prog 138 #[r, v] w fun e w' => e = .returned (.bool true) ∧ Lnt w' w0.heap.size 3 1 v r l.length (fun _ => .int .i64 0) ∧ w.grownBy w' r.ownBlock := by
  obtain ⟨a, cap, rfl, hnone, hcell⟩ := L.form
  have hlen := L.len
  rcases T with ⟨h1, rfl⟩ | ⟨h1, g, hg, rfl, K⟩
  · simp only [Value.slice.injEq] at h1
    obtain ⟨rfl, h0, rfl⟩ := h1
    rw [h0]
    have hnil : ∀ W, (binOp .eql 24 (.slice none 0 0) (.slice none 0 0)).run Tryz.prog W = .ok (.bool true) W := fun W => Lib.run_eql_slice_nil_nil W _ _ Tryz.underlying24
    clear L hcell hnone hlen hb
    go_enter Tryz.func138, Tryz.ntmps138
    go_wp2_with fail
    go_ret
    exact ⟨rfl, .inl ⟨rfl, rfl⟩, ⟨rfl, rfl, rfl, Nat.le_refl _, fun _ _ _ => rfl⟩⟩
  · cases a with
    | none =>
      obtain ⟨h0, rfl⟩ := hnone rfl
      rw [h0] at h1
      exact absurd rfl h1
    | some a =>
      have hnil : ∀ W, (binOp .eql 24 (.slice (some a) l.length cap) (.slice none 0 0)).run Tryz.prog W = .ok (.bool false) W := fun W => Lib.run_eql_slice_some_nil W _ _ _ Tryz.underlying24
      have HC := hide hcell
      have HL := hide hlen
      have HB0 := hide hb
      rw [Nat.mul_one] at K
      have HK0 := hide K
      have hgl := K.lt
      clear hcell hlen hnone L hb K h1
      generalize hn : l.length = n at *
      have HN := hide hn
      clear hn
      have HL0 := hide (show ∀ j, n ≤ j → (intCells l)[j]? = none from fun j hj => List.getElem?_eq_none (by rw [HL.out]; omega))
      go_enter Tryz.func138, Tryz.ntmps138
      go_wp2_with fail
      go_loopw [7, 8] (fun kv iv wr => ∃ i : Nat, kv = .bool true ∧ iv = .int .i64 i ∧ i ≤ n + 8 ∧ BK wr g 3 (n + 8) (fun j => if j < i then .int .i64 0 else lentF (intCells l) sp1 j) ∧ w.grownBy wr (some g)) (fun _ iv _ => n + 8 - (intOf iv).toNat)
      case atStart => exact ⟨0, rfl, rfl, by omega, HK0.out.congr (fun j _ => by rw [if_neg (by omega)]), ⟨rfl, rfl, rfl, Nat.le_refl _, fun _ _ _ => rfl⟩⟩
      case round =>
        obtain ⟨i, rfl, rfl, hi, hK, hgw⟩ := hrel
        by_cases hlt : i < n + 8
        · have hlt' : (i : Int) < (n : Int) + 8 := by omega
          have ci := hK.cell i hlt
          rw [if_neg (by omega)] at ci
          have fi := hK.frz i
          have HK := hide (hK.set i (.int .i64 0))
          have HG := hide (show w.grownBy (wr.setCell ⟨g, i, none⟩ (.int .i64 0)) (some g) from ⟨hgw.os, hgw.tape, hgw.output, by simpa using hgw.size, fun k hk hne => (Below.heap_setCell _ _ _ k (fun e => hne (by rw [e]))).trans (hgw.block k hk hne)⟩)
          have HREL := hide (show BK (wr.setCell ⟨g, i, none⟩ (.int .i64 0)) g 3 (n + 8) (fun j => if j < i + 1 then .int .i64 0 else lentF (intCells l) sp1 j) from HK.out.congr (fun j _ => by
            by_cases e : j = i
            · subst e; rw [if_pos rfl, if_pos (by omega)]
            · rw [if_neg e]
              by_cases h2 : j < i
              · rw [if_pos h2, if_pos (by omega)]
              · rw [if_neg h2, if_neg (by omega)]))
          by_cases hin : i < n
          · have hin' : (i : Int) < n := by omega
            have hil : i < (intCells l).length := by rw [HL.out]; omega
            obtain ⟨b, off, e1, e2⟩ := HC.out i _ (List.getElem?_eq_getElem hil)
            simp only [Option.some.injEq] at e1
            subst e1
            have hbl : b < w0.heap.size := World.block_lt_of_cell? _ _ e2
            have hbg : b ≠ g := by omega
            have hbw : b < w.heap.size := Nat.lt_of_lt_of_le hbl HB0.out.size
            have e3 := (World.cell?_of_block (a := ⟨b, off + i, none⟩) (hgw.block b hbw (fun e => hbg (by cases e; rfl)))).trans ((HB0.out.cell (p := ⟨b, off + i, none⟩) hbl).trans e2)
            have hil2 : i < l.length := by rw [HN.out]; exact hin
            have hv : (intCells l)[i] = .int .i64 l[i] := by simp [intCells]
            have hv2 : lentF (intCells l) sp1 i = .int .i64 l[i] := by unfold lentF; rw [List.getElem?_eq_getElem hil, hv]; rfl
            rw [hv] at e3
            rw [hv2] at ci
            generalize l[i] = y at *
            clear hK hgw hv hv2 e2 HK HC
            go_wp2_with fail
            go_roundw
            case rel => exact ⟨i + 1, by simp, by go_num, by omega, HREL.out, HG.out⟩
            case measure => simp [intOf]; omega
          · have hin' : ¬ (i : Int) < n := by omega
            have hv2 : lentF (intCells l) sp1 i = .int .i64 77 := by unfold lentF; rw [HL0.out i (by omega)]; rfl
            rw [hv2] at ci
            clear hK hgw hv2 HK HC
            go_wp2_with fail
            go_roundw
            case rel => exact ⟨i + 1, by simp, by go_num, by omega, HREL.out, HG.out⟩
            case measure => simp [intOf]; omega
        · obtain rfl : i = n + 8 := by omega
          have HK := hide hK
          have HG := hide hgw
          clear hK hgw
          go_wp2_with fail
          go_ret
          exact ⟨rfl, .inr ⟨by simp, g, hg, rfl, by rw [Nat.mul_one]; exact HK.out.congr (fun j hj => by rw [if_pos hj])⟩, HG.out⟩
end
end Go.Proofs.YtcnmbldikjljeaaGreatDoor
namespace Go.Proofs.YtcnmbldikjljeaaGreatDoor
open Go.RowKit

theorem made2 (N j : Nat) (hj : j < N) : (madeCells #[.int .i64 0, .int .i64 0] N)[j]? = some (.int .i64 0) := by
  have : j % 2 = 0 ∨ j % 2 = 1 := by omega
  simp only [madeCells, Array.getElem?_map, Array.getElem?_range, hj, if_true, Option.map_some]
  rcases this with e | e <;> simp [e]
theorem flat_len (l : List (Int × Int)) : (flat l).length = l.length * 2 := by
  induction l with
  | nil => rfl
  | cons x l ih => rw [show flat (x :: l) = [.int .i64 x.1, .int .i64 x.2] ++ flat l by simp [flat], List.length_append, ih]; simp; omega
section
variable {w : World} {v : Value} {l : List (Int × Int)}
set_option maxRecDepth 100000 in
set_option maxHeartbeats 4000000 in
theorem lentLevels_any (L : LR w 2 v l.length (flat l)) (hm : l.length * 16 ≤ 140737488351232) :
    Calls Tryz.prog 135 #[v] w fun e w' => ∃ r, e = .returned r ∧ Lnt w' w.heap.size 127 2 v r l.length (lentF (flat l) sp2) ∧ Below w.heap.size w w' := by
  obtain ⟨a, cap, rfl, hnone, hcell⟩ := L.form
  have hlen := L.len
  cases a with
  | none =>
    obtain ⟨h0, rfl⟩ := hnone rfl
    rw [h0]
    have hnil : ∀ W, (binOp .eql 123 (.slice none 0 0) (.slice none 0 0)).run Tryz.prog W = .ok (.bool true) W := fun W => Lib.run_eql_slice_nil_nil W _ _ Tryz.underlying123
    clear L hcell hnone hlen
    go_enter Tryz.func135, Tryz.ntmps135
    go_wp2_with fail
    go_ret
    exact ⟨_, rfl, .inl ⟨rfl, rfl⟩, Below.refl _ _⟩
  | some a =>
    have hmk := fun w => run_mk 123 127 (.agg #[.int .i64 0, .int .i64 0]) 2 16 Tryz.underlying123 levelInfo l.length (by omega) (by omega) w
    have hnil : ∀ W, (binOp .eql 123 (.slice (some a) l.length cap) (.slice none 0 0)).run Tryz.prog W = .ok (.bool false) W := fun W => Lib.run_eql_slice_some_nil W _ _ _ Tryz.underlying123
    have HL := hide hlen
    have hsz : (Tryz.prog.info? 127).map (·.size) = some 2 := by
      obtain ⟨i, hi, hq0, hq1, hq2⟩ := info_parts levelInfo
      rw [hi]; simp [hq1]
    obtain ⟨M, hM⟩ : ∃ M, M = madeCells (Value.agg #[.int .i64 0, .int .i64 0]).cells ((l.length + 8) * 2) := ⟨_, rfl⟩
    have hMs : M.size = (l.length + 8) * 2 := by rw [hM, size_madeCells]
    have hMc : ∀ j, j < (l.length + 8) * 2 → M[j]? = some (.int .i64 0) := fun j hj => by rw [hM]; exact made2 _ j hj
    rw [← hM] at hmk
    clear hM
    have hcp := fun (hc : ∀ j u, (flat l)[j]? = some u → ∃ b off, some a = some ⟨b, off, none⟩ ∧ (w.alloc (.cells M 127)).cell? ⟨b, off + j, none⟩ = some u) => run_copy_K (P := Tryz.prog) (w.alloc (.cells M 127)) 123 123 3 127 2 w.heap.size (l.length + 8) (l.length + 8) l.length cap (some a) M 127 (flat l) Tryz.underlying123 hsz (heap_alloc_new _ _) (by omega) hlen (fun e => by cases e) hc (by rw [hlen, hMs]; omega) (flatOne l)
    replace hcp := hcp (fun j u hj => by obtain ⟨b, off, e1, e2⟩ := hcell j u hj; exact ⟨b, off, e1, (World.cell?_alloc_lt _ _ _ (World.block_lt_of_cell? _ _ e2)).trans e2⟩)
    have hB := BK.copy (cs := flat l) (heap_alloc_new w (.cells M 127)) hMs (f := fun _ => .int .i64 0) (N := (l.length + 8) * 2) hMc (by rw [hlen]; omega)
    have hBl := below_setRow (((Below.refl w.heap.size w).alloc (Nat.le_refl _) (.cells M 127))) (Nat.le_refl _) (flat l ++ M.toList.drop (flat l).length).toArray
    generalize (w.alloc (.cells M 127)).setRow w.heap.size (flat l ++ M.toList.drop (flat l).length).toArray = W1 at *
    have HB := hide hB
    have HBL := hide hBl
    clear hcell hlen hnone L hsz hB hBl hMs hMc
    generalize hn : l.length = n at *
    have HN := hide hn
    clear hn
    go_enter Tryz.func135, Tryz.ntmps135
    go_wp2_with fail
    clear hcp hmk hnil
    have HL0 := hide (show ∀ j, n * 2 ≤ j → (flat l)[j]? = none from fun j hj => List.getElem?_eq_none (by rw [HL.out]; omega))
    obtain ⟨G, hG⟩ : ∃ G, G = w.heap.size := ⟨_, rfl⟩
    have hGl : G < W1.heap.size := by rw [hG]; exact HB.out.lt
    rw [← hG] at HB HBL ⊢
    have HGG := hide hG
    clear hG
    go_loopw [5] (fun iv wr => ∃ i : Nat, iv = .int .i64 i ∧ n ≤ i ∧ i ≤ n + 8 ∧ BK wr G 127 ((n + 8) * 2) (fun j => ((flat l)[j]?).getD (if j < i * 2 then sp2 j else .int .i64 0)) ∧ Below G w wr) (fun iv _ => n + 8 - (intOf iv).toNat)
    case atStart => exact ⟨n, rfl, Nat.le_refl _, by omega, HB.out.congr (fun j _ => by
      by_cases hj : n * 2 ≤ j
      · rw [HL0.out j hj, if_neg (by omega)]
      · rw [List.getElem?_eq_getElem (by rw [HL.out]; omega)]; rfl), HBL.out⟩
    case round =>
      obtain ⟨i, rfl, hi0, hi1, hK, hb⟩ := hrel
      by_cases hlt : i < n + 8
      · have hlt' : (i : Int) < (n : Int) + 8 := by omega
        have ci := hK.cell (i * 2) (by omega)
        have fi := hK.frz (i * 2)
        have ci' := hK.cell (i * 2 + 1) (by omega)
        have fi' := hK.frz (i * 2 + 1)
        have HK := hide ((hK.set (i * 2) (.int .i64 77)).set (i * 2 + 1) (.int .i64 0))
        have HBB := hide ((hb.setCell (p := ⟨G, i * 2, none⟩) (Nat.le_refl _) (.int .i64 77)).setCell (p := ⟨G, i * 2 + 1, none⟩) (Nat.le_refl _) (.int .i64 0))
        rw [HL0.out (i * 2) (by omega)] at ci
        rw [HL0.out (i * 2 + 1) (by omega)] at ci'
        clear hK hb
        go_wp2_with fail
        go_roundw
        case rel => exact ⟨i + 1, by go_num, by omega, by omega, HK.out.congr (fun j _ => by
          by_cases e : j = i * 2 + 1
          · subst e; rw [if_pos rfl, HL0.out _ (by omega), if_pos (by omega)]; unfold sp2; rw [if_neg (by omega)]; rfl
          · rw [if_neg e]
            by_cases e2 : j = i * 2
            · subst e2; rw [if_pos rfl, HL0.out _ (by omega), if_pos (by omega)]; unfold sp2; rw [if_pos (by omega)]; rfl
            · rw [if_neg e2]
              by_cases h2 : j < i * 2
              · rw [if_pos h2, if_pos (by omega)]
              · rw [if_neg h2, if_neg (by omega)]), HBB.out⟩
        case measure => simp [intOf]; omega
      · obtain rfl : i = n + 8 := by omega
        have HK := hide hK
        have HBB := hide hb
        clear hK hb
        go_wp2_with fail
        go_ret
        exact ⟨_, rfl, .inr ⟨by simp, G, Nat.le_of_eq HGG.out.symm, rfl, HK.out.congr (fun j hj => by unfold lentF; rw [if_pos hj])⟩, by rw [← HGG.out]; exact HBB.out⟩
set_option maxRecDepth 100000 in
set_option maxHeartbeats 4000000 in
/-- .. looked at again, and written over -/
theorem wholeLevels_any {w0 : World} {r : Value} (L : LR w0 2 v l.length (flat l)) (hm : l.length * 16 ≤ 140737488351232) (hb : Below w0.heap.size w0 w) (T : Lnt w w0.heap.size 127 2 v r l.length (lentF (flat l) sp2)) :
    Calls Tryz.prog 137 #[r, v] w fun e w' => e = .returned (.bool true) ∧ Lnt w' w0.heap.size 127 2 v r l.length (fun _ => .int .i64 1) ∧ w.grownBy w' r.ownBlock := by
  obtain ⟨a, cap, rfl, hnone, hcell⟩ := L.form
  have hlen := L.len
  rcases T with ⟨h1, rfl⟩ | ⟨h1, g, hg, rfl, K⟩
  · simp only [Value.slice.injEq] at h1
    obtain ⟨rfl, h0, rfl⟩ := h1
    rw [h0]
    have hnil : ∀ W, (binOp .eql 123 (.slice none 0 0) (.slice none 0 0)).run Tryz.prog W = .ok (.bool true) W := fun W => Lib.run_eql_slice_nil_nil W _ _ Tryz.underlying123
    clear L hcell hnone hlen hb
    go_enter Tryz.func137, Tryz.ntmps137
    go_wp2_with fail
    go_ret
    exact ⟨rfl, .inl ⟨rfl, rfl⟩, ⟨rfl, rfl, rfl, Nat.le_refl _, fun _ _ _ => rfl⟩⟩
  · cases a with
    | none =>
      obtain ⟨h0, rfl⟩ := hnone rfl
      rw [h0] at h1
      exact absurd rfl h1
    | some a =>
      have hnil : ∀ W, (binOp .eql 123 (.slice (some a) l.length cap) (.slice none 0 0)).run Tryz.prog W = .ok (.bool false) W := fun W => Lib.run_eql_slice_some_nil W _ _ _ Tryz.underlying123
      have HC := hide hcell
      have HL := hide hlen
      have HB0 := hide hb
      have HK0 := hide K
      have hgl := K.lt
      clear hcell hlen hnone L hb K h1
      generalize hn : l.length = n at *
      have HN := hide hn
      clear hn
      have HL0 := hide (show ∀ j, n * 2 ≤ j → (flat l)[j]? = none from fun j hj => List.getElem?_eq_none (by rw [HL.out]; omega))
      go_enter Tryz.func137, Tryz.ntmps137
      go_wp2_with fail
      go_loopw [7, 8] (fun kv iv wr => ∃ i : Nat, kv = .bool true ∧ iv = .int .i64 i ∧ i ≤ n + 8 ∧ BK wr g 127 ((n + 8) * 2) (fun j => if j < i * 2 then .int .i64 1 else lentF (flat l) sp2 j) ∧ w.grownBy wr (some g)) (fun _ iv _ => n + 8 - (intOf iv).toNat)
      case atStart => exact ⟨0, rfl, rfl, by omega, HK0.out.congr (fun j _ => by rw [if_neg (by omega)]), ⟨rfl, rfl, rfl, Nat.le_refl _, fun _ _ _ => rfl⟩⟩
      case round =>
        obtain ⟨i, rfl, rfl, hi, hK, hgw⟩ := hrel
        by_cases hlt : i < n + 8
        · have hlt' : (i : Int) < (n : Int) + 8 := by omega
          have ci := hK.cell (i * 2) (by omega)
          rw [if_neg (by omega)] at ci
          have fi := hK.frz (i * 2)
          have ci' := hK.cell (i * 2 + 1) (by omega)
          rw [if_neg (by omega)] at ci'
          have fi' := hK.frz (i * 2 + 1)
          have hgr : g < wr.heap.size := hK.lt
          have HS : Hid (∀ W, Below wr.heap.size wr W → BK ((W.setCell ⟨g, i * 2, none⟩ (.int .i64 1)).setCell ⟨g, i * 2 + 1, none⟩ (.int .i64 1)) g 127 ((n + 8) * 2) (fun j => if j < (i + 1) * 2 then .int .i64 1 else lentF (flat l) sp2 j) ∧ w.grownBy ((W.setCell ⟨g, i * 2, none⟩ (.int .i64 1)).setCell ⟨g, i * 2 + 1, none⟩ (.int .i64 1)) (some g)) := fun W hbW => by
            refine ⟨(((hK.on hbW).set (i * 2) (.int .i64 1)).set (i * 2 + 1) (.int .i64 1)).congr (fun j _ => ?_), ⟨hbW.os.trans hgw.os, hbW.tape.trans hgw.tape, hbW.output.trans hgw.output, by simpa using Nat.le_trans hgw.size hbW.size, fun k hk hne => (Below.heap_setCell _ _ _ k (fun e => hne (by rw [e]))).trans ((Below.heap_setCell _ _ _ k (fun e => hne (by rw [e]))).trans ((hbW.block k (Nat.lt_of_lt_of_le hk hgw.size)).trans (hgw.block k hk hne)))⟩⟩
            by_cases e : j = i * 2 + 1
            · subst e; rw [if_pos rfl, if_pos (by omega)]
            · rw [if_neg e]
              by_cases e2 : j = i * 2
              · subst e2; rw [if_pos rfl, if_pos (by omega)]
              · rw [if_neg e2]
                by_cases h2 : j < i * 2
                · rw [if_pos h2, if_pos (by omega)]
                · rw [if_neg h2, if_neg (by omega)]
          by_cases hin : i < n
          · have hin' : (i : Int) < n := by omega
            have hil : i < l.length := by rw [HN.out]; exact hin
            have hfa := flat_at l i hil
            obtain ⟨b, off, e1, e2⟩ := HC.out _ _ hfa.1
            obtain ⟨b', off', e1', e2'⟩ := HC.out _ _ hfa.2
            simp only [Option.some.injEq] at e1 e1'
            subst e1
            simp only [Addr.mk.injEq, and_true] at e1'
            obtain ⟨rfl, rfl⟩ := e1'
            have hbl : b < w0.heap.size := World.block_lt_of_cell? _ _ e2
            have hbg : b ≠ g := by omega
            have hbw : b < w.heap.size := Nat.lt_of_lt_of_le hbl HB0.out.size
            have hbk := hgw.block b hbw (fun e => hbg (by cases e; rfl))
            have e3 := (World.cell?_of_block (a := ⟨b, off + i * 2, none⟩) hbk).trans ((HB0.out.cell (p := ⟨b, off + i * 2, none⟩) hbl).trans e2)
            have e3' := (World.cell?_of_block (a := ⟨b, off + (i * 2 + 1), none⟩) hbk).trans ((HB0.out.cell (p := ⟨b, off + (i * 2 + 1), none⟩) hbl).trans e2')
            rw [← Nat.add_assoc] at e3'
            have hbr : b < wr.heap.size := World.block_lt_of_cell? _ _ e3
            have hv2 : lentF (flat l) sp2 (i * 2) = .int .i64 l[i].1 := by unfold lentF; rw [hfa.1]; rfl
            have hv3 : lentF (flat l) sp2 (i * 2 + 1) = .int .i64 l[i].2 := by unfold lentF; rw [hfa.2]; rfl
            rw [hv2] at ci
            rw [hv3] at ci'
            generalize l[i].1 = y at *
            generalize l[i].2 = z at *
            clear hK hgw hv2 hv3 e2 e2' HC hfa hbk
            go_wp2_with fail
            go_quiet (fail)
            go_wp2_with fail
            go_roundw
            case rel => exact ⟨i + 1, by simp, by go_num, by omega, HS.out _ (below_drewN ((Below.refl _ _).alloc (Nat.le_refl _) _) _)⟩
            case measure => simp [intOf]; omega
          · have hin' : ¬ (i : Int) < n := by omega
            have hv2 : lentF (flat l) sp2 (i * 2) = .int .i64 77 := by unfold lentF; rw [HL0.out _ (by omega)]; unfold sp2; rw [if_pos (by omega)]; rfl
            have hv3 : lentF (flat l) sp2 (i * 2 + 1) = .int .i64 0 := by unfold lentF; rw [HL0.out _ (by omega)]; unfold sp2; rw [if_neg (by omega)]; rfl
            rw [hv2] at ci
            rw [hv3] at ci'
            clear hK hgw hv2 hv3 HC
            go_wp2_with fail
            go_quiet (fail)
            go_wp2_with fail
            go_roundw
            case rel => exact ⟨i + 1, by simp, by go_num, by omega, HS.out _ (below_drewN ((Below.refl _ _).alloc (Nat.le_refl _) _) _)⟩
            case measure => simp [intOf]; omega
        · obtain rfl : i = n + 8 := by omega
          have HK := hide hK
          have HG := hide hgw
          clear hK hgw
          go_wp2_with fail
          go_ret
          exact ⟨rfl, .inr ⟨by simp, g, hg, rfl, HK.out.congr (fun j hj => by rw [if_pos hj])⟩, HG.out⟩
end
end Go.Proofs.YtcnmbldikjljeaaGreatDoor
