import Derived.Test.YtcnmbldikjljeaaGreatDoorJ09
import Derived.Test.YtcnmbldikjljeaaGreatDoorJ42
import Derived.Test.YtcnmbldikjljeaaGreatDoorJ45
import Derived.Deep.RegionHeld3
import Derived.Test.YtcnmbldikjljeaaGreatDoorJ43
import Derived.Test.YtcnmbldikjljeaaGreatDoorJ44
import Derived.Test.YtcnmbldikjljeaaGreatDoorJ01
import Derived.ProofKit
import Derived.LaidMore
import Derived.OpenShut
import Derived.Stop.Joined
import Derived.ChangeOld
import Derived.Deep.Slices
import Derived.Lib.SmallJoins
namespace Go.Proofs.YtcnmbldikjljeaaGreatDoor
open Go.RowKit

set_option maxRecDepth 100000 in
set_option maxHeartbeats 4000000 in
theorem checkStage_any (s : Stg) (n : Nat) (lv nv : Value) (w : World) (HL : LR w 2 lv s.levels.length (flat s.levels)) (HN : LR w 1 nv s.next.length (intCells s.next)) :
    Calls Tryz.prog 107 #[.agg #[lv, nv], .int .i64 n] w fun e w' => e = .returned (.bool (stgOk n s)) ∧ Below w.heap.size w w' := by
  obtain ⟨la, lcap, hla⟩ := HL.any
  obtain ⟨na, ncap, hna⟩ := HN.any
  have hlm : s.levels.length ≤ 9223372036854775807 := by have := HL.max; simp only [maxLen] at this; omega
  have hnm : s.next.length ≤ 9223372036854775807 := by have := HN.max; simp only [maxLen] at this; omega
  subst hla hna
  have HLV := hide HL
  have HNX := hide HN
  clear HL HN
  have hb0 : Below w.heap.size w (w.alloc (Obj.cells #[.slice la s.levels.length lcap, .slice na s.next.length ncap] 125)) := (Below.refl _ _).alloc (Nat.le_refl _) _
  have x0 : (w.alloc (Obj.cells #[.slice la s.levels.length lcap, .slice na s.next.length ncap] 125)).cell? ⟨w.heap.size, 0, none⟩ = some (.slice la s.levels.length lcap) := by rw [World.cell?_alloc_at _ _ _ _ rfl]; rfl
  have x1 : (w.alloc (Obj.cells #[.slice la s.levels.length lcap, .slice na s.next.length ncap] 125)).cell? ⟨w.heap.size, 1, none⟩ = some (.slice na s.next.length ncap) := by rw [World.cell?_alloc_at _ _ _ _ rfl]; rfl
  have hz : w.heap.size < (w.alloc (Obj.cells #[.slice la s.levels.length lcap, .slice na s.next.length ncap] 125)).heap.size := by simp
  generalize hr : stgOk n s = r
  have HR := hide hr
  clear hr
  by_cases h4 : s.levels.length ≤ 4
  · have h4' : (s.levels.length : Int) ≤ 4 := by omega
    go_enter Tryz.func107, Tryz.ntmps107
    go_wp2_with fail
    generalize w.alloc (Obj.cells #[.slice la s.levels.length lcap, .slice na s.next.length ncap] 125) = W at *
    have HB0 := hide hb0
    have HX1 := hide x1
    clear hb0
    go_loopw [16] (fun kv wz => ∃ k : Nat, kv = .int .i64 k ∧ k ≤ s.levels.length ∧ Below W.heap.size W wz ∧ Hid (∀ p ∈ s.levels.take k, lvOk p = true)) (fun kv _ => s.levels.length - (intOf kv).toNat)
    case atStart => exact ⟨0, rfl, Nat.zero_le _, Below.refl _ _, fun p hp => by simp at hp⟩
    case round =>
      obtain ⟨k, rfl, hk, hbz, HP⟩ := hrel
      by_cases hkl : k < s.levels.length
      · have hkl' : (k : Int) < s.levels.length := by omega
        obtain ⟨lq, lo, lc, hlq⟩ := HLV.out.some (by omega) (by omega)
        simp only [Value.slice.injEq] at hlq
        obtain ⟨rfl, _, rfl⟩ := hlq
        have hrow := (HLV.out.on HB0.out).on hbz
        have e0 := hrow.cell (k * 2) _ (flat_at s.levels k hkl).1
        have e1 := hrow.cell (k * 2 + 1) _ (flat_at s.levels k hkl).2
        rw [← Nat.add_assoc] at e1
        have HPS := hide (show lvOk s.levels[k] = true → ∀ p ∈ s.levels.take (k + 1), lvOk p = true from fun h p hp => by
          rw [List.take_succ_eq_append_getElem hkl] at hp
          rcases List.mem_append.1 hp with a | a
          · exact HP.out p a
          · rw [List.mem_singleton] at a; subst a; exact h)
        have HNS := hide (show lvOk s.levels[k] = false → r = false from fun h => by
          rw [← HR.out, stgOk_eq, List.all_eq_false.2 ⟨_, List.getElem_mem hkl, by rw [h]; simp⟩, Bool.and_false, Bool.false_and])
        have HC := hide (fun u => checkLevel_any s.levels[k].1 s.levels[k].2 u)
        rw [show (s.levels[k].1, s.levels[k].2) = s.levels[k] from rfl] at HC
        have HBZ := hide hbz
        have hsz := hbz.size
        clear hrow HP hbz
        generalize lvOk s.levels[k] = ok at *
        generalize s.levels[k].1 = x at *
        generalize s.levels[k].2 = y at *
        go_wp2_with fail
        refine (HC.out _).mono ?_
        rintro e u ⟨rfl, hb⟩
        have HB1 := hide (HBZ.out.trans (((Below.refl wr.heap.size wr).alloc (Nat.le_refl _) _ |>.trans (hb.mono (by simp))).mono hsz))
        clear hb HBZ e0 e1
        cases ok
        · have HE := hide (HNS.out rfl)
          go_wp2_with fail
          go_ret
          rw [HE.out]
          exact ⟨rfl, HB0.out.trans (HB1.out.mono HB0.out.size)⟩
        · have HQ := hide (HPS.out rfl)
          go_wp2_with fail
          go_roundw
          case rel => exact ⟨k + 1, by go_num, by omega, HB1.out, HQ⟩
          case measure => simp [intOf]; omega
      · have hkl' : ¬ (k : Int) < s.levels.length := by omega
        have HLO := hide (show s.levels.all lvOk = true from List.all_eq_true.2 fun p hp => HP.out p (by rw [List.take_of_length_le (by omega)]; exact hp))
        have x1' := (hbz.cell (p := ⟨w.heap.size, 1, none⟩) hz).trans x1
        have HB2 := hide (HB0.out.trans (hbz.mono HB0.out.size))
        have HNX2 := hide ((HNX.out.on HB0.out).on hbz)
        clear hbz HNX
        go_wp2_with fail
        obtain ⟨V, rfl⟩ : ∃ V, V = wr := ⟨_, rfl⟩
        go_loopw [27] (fun kv wz => ∃ k : Nat, kv = .int .i64 k ∧ k ≤ s.next.length ∧ wz = V ∧ Hid (∀ p ∈ s.next.take k, nxOk n p = true)) (fun kv _ => s.next.length - (intOf kv).toNat)
        case atStart => exact ⟨0, rfl, Nat.zero_le _, rfl, fun p hp => by simp at hp⟩
        case round =>
          obtain ⟨m, rfl, hm, rfl, HP2⟩ := hrel
          by_cases hml : m < s.next.length
          · have hml' : (m : Int) < s.next.length := by omega
            obtain ⟨lq, lo, lc, hlq⟩ := HNX2.out.some (by omega) (by omega)
            simp only [Value.slice.injEq] at hlq
            obtain ⟨rfl, _, rfl⟩ := hlq
            have e0 := HNX2.out.cell (m * 1) _ (intCells_at s.next m hml)
            rw [Nat.mul_one] at e0
            have HPS := hide (show nxOk n s.next[m] = true → ∀ p ∈ s.next.take (m + 1), nxOk n p = true from fun h p hp => by
              rw [List.take_succ_eq_append_getElem hml] at hp
              rcases List.mem_append.1 hp with a | a
              · exact HP2.out p a
              · rw [List.mem_singleton] at a; subst a; exact h)
            have HNS := hide (show nxOk n s.next[m] = false → r = false from fun h => by
              rw [← HR.out, stgOk_eq, List.all_eq_false.2 ⟨_, List.getElem_mem hml, by rw [h]; simp⟩, Bool.and_false])
            have HC := hide (fun u => isStage_any s.next[m] n u)
            rw [show decide (0 ≤ s.next[m] ∧ s.next[m] < (n : Int)) = nxOk n s.next[m] from rfl] at HC
            generalize nxOk n s.next[m] = ok at *
            generalize s.next[m] = x at *
            go_wp2_with fail
            refine (HC.out _).mono ?_
            rintro e u2 ⟨rfl, rfl⟩
            cases ok
            · have HE := hide (HNS.out rfl)
              go_wp2_with fail
              go_ret
              rw [HE.out]
              exact ⟨rfl, HB2.out⟩
            · have HQ := hide (HPS.out rfl)
              go_wp2_with fail
              go_roundw
              case rel => exact ⟨m + 1, by go_num, by omega, (by trivial), HQ⟩
              case measure => simp [intOf]; omega
          · have hml' : ¬ (m : Int) < s.next.length := by omega
            have HSO := hide (show r = true by
              rw [← HR.out, stgOk_eq, decide_eq_true h4, HLO.out, Bool.true_and, Bool.true_and]
              exact List.all_eq_true.2 fun p hp => HP2.out p (by rw [List.take_of_length_le (by omega)]; exact hp))
            go_wp2_with fail
            go_ret
            rw [HSO.out]
            exact ⟨rfl, HB2.out⟩
  · have h4' : 4 < (s.levels.length : Int) := by omega
    have HE := hide (show r = false by rw [← HR.out]; unfold stgOk; rw [decide_eq_false h4]; rfl)
    have HB0 := hide hb0
    clear hb0
    go_enter Tryz.func107, Tryz.ntmps107
    go_wp2_with fail
    go_ret
    rw [HE.out]
    exact ⟨rfl, HB0.out⟩
section
variable {w : World} {st : List Stg} {sv : Value} {vs : Nat → Value × Value}
set_option maxRecDepth 100000 in
set_option maxHeartbeats 4000000 in
theorem check_any (S : SL w sv st vs) :
    Calls Tryz.prog 66 #[sv] w fun e w' => e = .returned (.int .i64 (if checkL st = true then 0 else 4)) ∧ Below w.heap.size w w' := by
  obtain ⟨sa, scap, hsv⟩ := S.row.any
  subst hsv
  generalize hr : (if checkL st = true then (0 : Int) else 4) = r
  have HT := hide (show checkL st = true → r = 0 from fun h => by rw [← hr, if_pos h])
  have HF := hide (show checkL st = false → r = 4 from fun h => by rw [← hr, h]; rfl)
  clear hr
  by_cases h1 : 1 ≤ st.length ∧ st.length ≤ 6
  · have i1 : (1 : Int) ≤ st.length := by omega
    have i2 : (st.length : Int) ≤ 6 := by omega
    obtain ⟨q, qo, cap, hq⟩ := S.row.some (by omega) (by omega)
    simp only [Value.slice.injEq] at hq
    obtain ⟨rfl, _, rfl⟩ := hq
    have HS := hide S
    clear S
    go_enter Tryz.func66, Tryz.ntmps66
    go_wp2_with fail
    go_loopw [15] (fun iv wr => ∃ i : Nat, iv = .int .i64 i ∧ i ≤ st.length ∧ Below w.heap.size w wr ∧ Hid (∀ j : Nat, j < i → stgOk st.length (stAt st j) = true)) (fun iv _ => st.length - (intOf iv).toNat)
    case atStart => exact ⟨0, rfl, Nat.zero_le _, Below.refl _ _, fun j hj => by omega⟩
    case round =>
      obtain ⟨i, rfl, hi, hb, HJ⟩ := hrel
      by_cases hlt : i < st.length
      · have hlt' : (i : Int) < st.length := by omega
        have S' := HS.out.on hb
        have l0 := S'.row.cell (i * 2) _ (stCells_at vs st.length i hlt).1
        have l1 := S'.row.cell (i * 2 + 1) _ (stCells_at vs st.length i hlt).2
        rw [← Nat.add_assoc] at l1
        have HC := hide (fun u hu => checkStage_any (stAt st i) st.length (vs i).1 (vs i).2 u ((S'.lev i hlt).on hu) ((S'.nxt i hlt).on hu))
        have HNO := hide (fun h => HF.out (check_no i hlt h))
        obtain ⟨la, lcap, hla⟩ := (S'.lev i hlt).any
        obtain ⟨na, ncap, hna⟩ := (S'.nxt i hlt).any
        rw [hla] at l0 HC
        rw [hna] at l1 HC
        have HYES := hide (show stgOk st.length (stAt st i) = true → ∀ j : Nat, j < i + 1 → stgOk st.length (stAt st j) = true from fun h j hj => by
          by_cases e : j = i
          · subst e; exact h
          · exact HJ.out j (by omega))
        generalize stgOk st.length (stAt st i) = ok at *
        generalize (stAt st i).levels.length = n1 at *
        generalize (stAt st i).next.length = n2 at *
        have HB := hide hb
        have hsz := hb.size
        clear S' hla hna hb HJ
        go_wp2_with fail
        refine (HC.out _ ((Below.refl _ _).alloc (Nat.le_refl _) _)).mono ?_
        rintro e u ⟨rfl, hb⟩
        have HB1 := hide (HB.out.trans (((Below.refl wr.heap.size wr).alloc (Nat.le_refl _) _ |>.trans (hb.mono (by simp))).mono hsz))
        clear hb HB l0 l1 HC
        cases ok
        · have HE := hide (HNO.out rfl)
          go_wp2_with fail
          go_ret
          rw [HE.out]
          exact ⟨rfl, HB1.out⟩
        · have HQ := hide (HYES.out rfl)
          go_wp2_with fail
          go_roundw
          case rel => exact ⟨i + 1, by go_num, by omega, HB1.out, HQ⟩
          case measure => simp [intOf]; omega
      · have HE := hide (HT.out <| check_yes h1 (fun j hj => HJ.out j (by omega)))
        have HB := hide hb
        clear hb
        go_wp2_with fail
        go_ret
        rw [HE.out]
        exact ⟨rfl, HB.out⟩
  · have HE := hide (HF.out (show checkL st = false by unfold checkL; rw [decide_eq_false h1]; rfl))
    clear S
    by_cases h2 : 1 ≤ st.length
    · have i1 : (1 : Int) ≤ st.length := by omega
      have i2 : (6 : Int) < st.length := by omega
      go_enter Tryz.func66, Tryz.ntmps66
      go_wp2_with fail
      go_ret
      rw [HE.out]
      exact ⟨rfl, Below.refl _ _⟩
    · have i1 : (st.length : Int) < 1 := by omega
      go_enter Tryz.func66, Tryz.ntmps66
      go_wp2_with fail
      go_ret
      rw [HE.out]
      exact ⟨rfl, Below.refl _ _⟩
end
end Go.Proofs.YtcnmbldikjljeaaGreatDoor
namespace Go.Proofs.YtcnmbldikjljeaaGreatDoor
open Go.RowKit

section
variable {w : World} {sv : Value} {st : List Stg} {vs : Nat → Value × Value}
set_option maxRecDepth 100000 in
set_option maxHeartbeats 1000000 in
theorem newNil_any (a : Option Addr) (n cap : Nat) : Calls Tryz.prog 35 #[.pointer none, .slice a n cap] w fun e w' => e = .returned (.tuple #[.pointer none, .int .i64 1]) ∧ Below w.heap.size w w' := by
  go_enter Tryz.func35, Tryz.ntmps35
  go_wp2_with fail
  go_ret2
  exact ⟨rfl, Below.refl _ _⟩
set_option maxRecDepth 100000 in
set_option maxHeartbeats 1000000 in
theorem newNo_any (c : Nat) (S : SL w sv st vs) (hck : checkL st = false) : Calls Tryz.prog 35 #[P0 c, sv] w fun e w' => e = .returned (.tuple #[.pointer none, .int .i64 4]) ∧ Below w.heap.size w w' := by
  have HC := hide (check_any S)
  rw [hck] at HC
  obtain ⟨sa, scap, hsv⟩ := S.row.any
  subst hsv
  clear S hck
  go_enter Tryz.func35, Tryz.ntmps35
  go_wp2_with fail
  refine HC.out.mono ?_
  rintro e u ⟨rfl, hb⟩
  have HB := hide hb
  clear hb
  go_wp2_with fail
  go_ret2
  exact ⟨rfl, HB.out⟩
theorem rangeAt_on {w u : World} {c : Nat} {cs : List Value} (h : w.rangeAt c 0 cs) (hb : Below w.heap.size w u) : u.rangeAt c 0 cs := fun j v hv => by
  have h1 := h j v hv
  exact (hb.cell (p := ⟨c, 0 + j, none⟩) (World.block_lt_of_cell? _ _ h1)).trans h1
theorem calInfo : (Tryz.prog.info? 105).map (·.size) = some 77 := by kernel_rfl
set_option maxRecDepth 100000 in
set_option maxHeartbeats 4000000 in
theorem newOk_any (c : Nat) (cs : List Value) (hl : cs.length = 77) (S : SL w sv st vs) (hck : checkL st = true) (hr : w.rangeAt c 0 cs) :
    Calls Tryz.prog 35 #[P0 c, sv] w fun e w' => ∃ p g ls, e = .returned (.tuple #[P0 p, .int .i64 0]) ∧ w.heap.size ≤ p ∧ w'.heap[p]? = some (.cells (.int .i32 0 :: ((.int .u32 0 :: cs) ++ [.slice (some ⟨g, 0, none⟩) st.length st.length, .int .i64 0, .int .i64 0, .slice none 0 0, .int .i64 0])).toArray 113 (0, 0)) ∧ CY w g st w' ls st.length (fS ls st st.length) := by
  have HC := hide (check_any S)
  rw [hck] at HC
  obtain ⟨sa, scap, hsv⟩ := S.row.any
  subst hsv
  have HS := hide S
  have HR := hide hr
  clear S hr
  go_enter Tryz.func35, Tryz.ntmps35
  go_wp2_with fail
  refine HC.out.mono ?_
  rintro e u ⟨rfl, hb⟩
  have HB := hide hb
  have HCP := hide (fun (z : World) (hz : Below u.heap.size u z) => copyStages_any ((HS.out.on hb).on hz) hck)
  have HLD := hide (fun (z : World) (hz : Below u.heap.size u z) => run_loadAt_mid (P := Tryz.prog) z c 0 105 cs _ (rangeAt_on (rangeAt_on HR.out hb) hz) Tryz.underlying105 rfl (by rw [calInfo, hl]))
  have hru := rangeAt_on HR.out hb
  clear hb HS HR HLD
  go_wp2_with fail
  refine wp_region_held_drew (S := fun z => z.rangeAt c 0 cs) (by kernel_rfl) (by simpa using hru) (fun hHeld => ?_)
  refine wpAnyH_take (i := 0) (v := P0 c) rfl (by kernel_rfl) (by kernel_rfl) (by kernel_rfl) (fun _ _ _ h => h) (Or.inl ⟨by rfl, fun z hz => by go_simp⟩) hHeld ?_
  simp only [Act.put, List.setIfInBounds_toArray]
  refine wpAnyH_take (i := 1) (v := P0 c) rfl (by kernel_rfl) (by kernel_rfl) (by kernel_rfl) (fun _ _ _ h => h) (Or.inl ⟨by rfl, fun z hz => by go_simp⟩) hHeld ?_
  simp only [Act.put]
  refine wpAnyH_take (i := 2) (v := .agg cs.toArray) rfl (by kernel_rfl) (by kernel_rfl) (by kernel_rfl) (fun _ _ _ h => h) (yieldsIf_load_mid (by rfl) _ _ rfl c 0 rfl cs _ (fun z hz => hz) Tryz.underlying105 rfl (by rw [calInfo, hl])) hHeld ?_
  simp only [Act.put]
  refine wpAnyH_take (i := 3) (v := .slice sa st.length scap) rfl (by kernel_rfl) (by kernel_rfl) (by kernel_rfl) (fun _ _ _ h => h) (Or.inl ⟨by rfl, fun z hz => by go_simp⟩) hHeld ?_
  simp only [Act.put]
  refine wpAnyH_ready (rs := [4]) (by kernel_rfl) (by simp) ?_
  refine AllReadyH.cons rfl (fun K hK => ?_) AllReadyH.nil
  go_simp
  refine (HCP.out _ (Below.refl _ _).drew).mono ?_
  rintro e w' ⟨g, ls, rfl, C⟩
  have hbu : Below u.heap.size u w' := (Below.refl _ _).drew.trans C.below
  refine hK.out _ _ (rangeAt_on hru hbu) (fun hHeld2 => ?_)
  clear hK K
  have hbd := fun z => run_buildD cs hl (some ⟨g, 0, none⟩) st.length st.length z
  refine wpAnyH_take (i := 5) (v := _) rfl (by kernel_rfl) (by kernel_rfl) (by kernel_rfl) (fun _ _ _ h => h) (Or.inl ⟨by rfl, fun z hz => by have h9 := hbd z; simp [execOp, h9, Act.eval]; rfl⟩) hHeld2 ?_
  simp only [Act.put, List.setIfInBounds_toArray]
  refine wpAnyH_ready (rs := [6]) (by kernel_rfl) (by simp) ?_
  refine AllReadyH.cons rfl (fun K hK => ?_) AllReadyH.nil
  go_simp
  have hr3 := World.rangeAt_alloc (rangeAt_on hru hbu) (Obj.cells (Value.int IntKind.i32 0 :: Value.int IntKind.u32 0 :: (cs ++ [Value.slice (some ⟨g, 0, none⟩) st.length st.length, Value.int IntKind.i64 0, Value.int IntKind.i64 0, Value.slice none 0 0, Value.int IntKind.i64 0])).toArray 113)
  refine hK.out _ _ hr3 (fun hHeld3 => ?_)
  clear hK K hr3
  refine wpAnyH_take (i := 7) (v := P0 w'.heap.size) rfl (by kernel_rfl) (by kernel_rfl) (by kernel_rfl) (fun _ _ _ h => h) (Or.inl ⟨by rfl, fun z hz => by go_simp⟩) hHeld3 ?_
  simp only [Act.put, List.setIfInBounds_toArray]
  refine wpAnyH_take (i := 8) (v := .int .i64 0) rfl (by kernel_rfl) (by kernel_rfl) (by kernel_rfl) (fun _ _ _ h => h) (Or.inl ⟨by rfl, fun z hz => by go_simp⟩) hHeld3 ?_
  simp only [Act.put]
  refine wpAnyH_done (by kernel_rfl) ?_ _
  simp only [List.getElem_toArray, List.getElem_cons_succ, List.getElem_cons_zero, List.set_cons_zero, List.set_cons_succ]
  go_wp2_with fail
  go_ret2
  have hsz := hbu.size
  have hsz2 := HB.out.size
  refine ⟨w'.heap.size, g, ls, rfl, by omega, heap_alloc_new _ _, ?_⟩
  have C1 := C.on ((Below.refl _ _).alloc (Nat.le_refl _) (Obj.cells (Value.int IntKind.i32 0 :: Value.int IntKind.u32 0 :: (cs ++ [Value.slice (some ⟨g, 0, none⟩) st.length st.length, Value.int IntKind.i64 0, Value.int IntKind.i64 0, Value.slice none 0 0, Value.int IntKind.i64 0])).toArray 113))
  have hlo := C.lo
  have hud : u.drew.heap.size = u.heap.size := rfl
  refine ⟨HB.out.trans (((Below.refl u.heap.size u).drew.trans C1.below).mono hsz2), by omega, C1.blk, fun j hj => row_mono (C1.lev j hj) (by omega)⟩
end
end Go.Proofs.YtcnmbldikjljeaaGreatDoor
namespace Go.Proofs.YtcnmbldikjljeaaGreatDoor
open Go.RowKit

section
variable {w : World} {p : Nat} {K : Kf} {F : Nat → Bool} {st : List Stg} {lv : Value} {d : Dk} {N : Int}
theorem open_any' (R : PD w p K F st 0 lv d) (ok : DkOk F st d 4611686018427387000) (hs : StOk st) (stage : Int) :
    Calls Tryz.prog 17 #[P0 p, .int .i64 stage] w fun e w' => e = .returned (.tuple #[.int .i64 (openC F st d stage).2.1, .int .i64 (openC F st d stage).2.2]) ∧ ∃ lv', PD w' p K F st 0 lv' (openC F st d stage).1 ∧ Frm p lv lv' w w' := by
  unfold openC
  by_cases h : 0 ≤ stage ∧ stage < st.length
  · rw [if_neg (by omega)]
    by_cases hf : 20 ≤ d.cases.length
    · rw [if_pos hf]
      refine (open_full R stage h hf).mono ?_
      rintro e w' ⟨rfl, h1, h2⟩
      exact ⟨rfl, lv, h1, h2⟩
    · rw [if_neg hf]
      exact open_yes R ok hs stage h (by omega)
  · rw [if_pos h]
    refine (open_no R stage h).mono ?_
    rintro e w' ⟨rfl, h1, h2⟩
    exact ⟨rfl, lv, h1, h2⟩
end
/-- a calendar's cells -/
def calC (V : Nat → Value) (fr : Nat → Bool) : List Value := (List.range 7).map V ++ (List.range 70).map fun j => .bool (fr j)
theorem calC_len (V : Nat → Value) (fr : Nat → Bool) : (calC V fr).length = 77 := by simp [calC]
theorem calC_week (V : Nat → Value) (fr : Nat → Bool) (j : Nat) (hj : j < 7) : (calC V fr)[j]? = some (V j) := by
  unfold calC
  rw [List.getElem?_append_left (by simpa using hj)]
  simp [hj]
theorem calC_free (V : Nat → Value) (fr : Nat → Bool) (j : Nat) (hj : j < 70) : (calC V fr)[7 + j]? = some (.bool (fr j)) := by
  unfold calC
  rw [List.getElem?_append_right (by simp)]
  simp [hj]
/-- a new docket of the program's -/
theorem PSi.new {own : Nat → Nat} {w w' : World} {t p g : Nat} {st : List Stg} {ls : Nat → Value} {V : Nat → Value} {jk wk : Nat → List (Int × Int)} {fr F : Nat → Bool} (ht : t ≠ 0) (hl : ∀ k, own k ≠ 0 → k < w.heap.size)
    (hrow : ∀ j, j < 7 → (roW own w).ownsRow 0 140 2 (V j) (jk j).length (flat (jk j))) (hjoin : ∀ j, j < 7 → JoinOf (wk j) (jk j)) (hfew : ∀ j, (wk j).length ≤ 1000) (hF : ∀ x : Int, 0 ≤ x → x < 100800 → openL wk fr x = F x.toNat)
    (hp : w.heap.size ≤ p) (hblk : w'.heap[p]? = some (.cells (.int .i32 0 :: ((.int .u32 0 :: calC V fr) ++ [.slice (some ⟨g, 0, none⟩) st.length st.length, .int .i64 0, .int .i64 0, .slice none 0 0, .int .i64 0])).toArray 113 (0, 0))) (C : CY w g st w' ls st.length (fS ls st st.length)) (hn : st.length ≤ 6) :
    PSi (tagOf own (some p) t) w' t p F st ⟨0, 0, 0, []⟩ ∧ Kept own (tagOf own (some p) t) t w w' := by
  have hb := C.below
  have hpl : p < w'.heap.size := (Array.getElem?_eq_some_iff.1 hblk).1
  have hk : Kept own (tagOf own (some p) t) t w w' := by
    refine ⟨hb.os, hb.tape, hb.output, hb.size, fun k hk _ => hb.block k hk, fun k hk => ?_, fun k hk h0 => ?_, tagOf_nt⟩
    · unfold tagOf; rw [if_neg (by simp; omega)]
    · unfold tagOf at h0
      split at h0
      · rename_i e
        obtain rfl : k = p := by simpa using e
        exact hpl
      · exact absurd (hl k h0) (by omega)
  have hz : ∀ {e : TypeId} {base size n : Nat} {v : Value} {xs : List Value}, e ≠ 113 → (∀ k, v.ownBlock = some k → w.heap.size ≤ k) → w'.ownsRow base e size v n xs → ∀ k, v.ownBlock = some k → tagOf own (some p) t k = 0 := by
    intro e base size n v xs he hlo hr k hkk
    have h1 := hlo k hkk
    unfold tagOf
    rw [if_neg]
    · exact Classical.byContradiction fun h => by have := hl k h; omega
    · intro e'
      obtain rfl : k = p := by simpa using e'
      rcases hr.2 with ⟨hv, _⟩ | ⟨q, cap, cur, hv, _, hq, _⟩
      · rw [hv] at hkk; simp [Value.ownBlock] at hkk
      · rw [hv] at hkk
        obtain rfl : q = k := by simpa [Value.ownBlock] using hkk
        rw [hblk] at hq
        cases hq
        exact he rfl
  have hsr : w'.ownsRow 0 131 7 (.slice (some ⟨g, 0, none⟩) st.length st.length) st.length (sgCells ls st) := C.blk.row rfl (Nat.le_refl _) (by unfold maxLen; omega) (Nat.zero_le _) (by unfold sgCells; rw [sgCells_len]) (fun j v hv => fS_cells ls st j v hv)
  refine ⟨⟨⟨.int .u32 0 :: calC V fr, V, jk, wk, fr, .slice (some ⟨g, 0, none⟩) st.length st.length, ls⟩, .slice none 0 0, ⟨by simp [calC_len], fun j hj => ?_, fun j hj => ?_, hjoin, hfew, hF⟩, hblk, World.ownsRow_nil _ _ _ _, by unfold tagOf; rw [if_pos rfl], fun k hk' => by simp [Value.ownBlock] at hk', fun j hj => calRow_kept (hrow j hj) hk (Ne.symm ht), ⟨?_, fun i hi h0 => ?_, fun i hi => ?_⟩, InvD.empty⟩, hk⟩
  · rw [Nat.add_comm 1 j, List.getElem?_cons_succ]; exact calC_week V fr j hj
  · rw [show 8 + j = (7 + j) + 1 by omega, List.getElem?_cons_succ]; exact calC_free V fr j hj
  · exact row_ro hsr (hz (by decide) (fun k hk' => by simp [Value.ownBlock] at hk'; have := C.lo; omega) hsr)
  · exact row_ro (row_mono (C.lev i hi) (Nat.zero_le _)) (hz (by decide) (fun k hk' => ((C.lev i hi).lt k hk').1) (C.lev i hi))
  · exact row_any (C.lev i hi)
theorem prgI : Prg PSi where
  kept := fun ⟨K, lv, h⟩ k hs ht => ⟨K, lv, h.kept k hs ht⟩
  tag := fun ⟨K, lv, h⟩ => ⟨h.tg, h.pd.pr.lt⟩
  open_ := fun ⟨K, lv, h⟩ ht Q stage => by
    refine (open_any' h.pd Q.ok Q.stok stage).mono ?_
    rintro e w' ⟨rfl, lv', R, f⟩
    exact ⟨rfl, h.step ht Q.lt R f (open_inv h.inv Q.ok Q.stok stage)⟩
  move := fun ⟨K, lv, h⟩ ht Q id stage => by
    refine (move_any h.pd Q.ok Q.rest Q.stok Q.n6 id stage).mono ?_
    rintro e w' ⟨rfl, R, f⟩
    exact ⟨rfl, h.step ht Q.lt R f (move_inv h.inv Q.ok Q.stok id stage)⟩
  close := fun ⟨K, lv, h⟩ ht Q id => by
    refine (close_any h.pd Q.ok id).mono ?_
    rintro e w' ⟨rfl, lv', R, f⟩
    exact ⟨rfl, h.step ht Q.lt R f (close_inv h.inv id)⟩
  hold := fun ⟨K, lv, h⟩ ht Q id => by
    refine (hold_any h.pd Q.ok h.inv id).mono ?_
    rintro e w' ⟨rfl, R, f⟩
    exact ⟨rfl, h.step ht Q.lt R f (hold_inv h.inv id)⟩
  resume := fun ⟨K, lv, h⟩ ht Q id => by
    refine (resume_any h.pd Q.ok Q.rest id).mono ?_
    rintro e w' ⟨rfl, R, f⟩
    exact ⟨rfl, h.step ht Q.lt R f (resume_inv h.inv Q.ok id)⟩
  case_ := fun ⟨K, lv, h⟩ ht Q id => by
    refine (case_any h.pd Q.ok id).mono ?_
    rintro e w' ⟨rfl, R, f⟩
    exact ⟨rfl, h.step ht Q.lt R f h.inv⟩
  now := fun ⟨K, lv, h⟩ ht Q => by
    refine (now_any h.pd).mono ?_
    rintro e w' ⟨rfl, R, f⟩
    exact ⟨rfl, h.step ht Q.lt R f h.inv⟩
  tick := fun ⟨K, lv, h⟩ ht Q n => by
    refine (tick_any h.pd Q.ok Q.rest h.inv Q.stok n).mono ?_
    rintro e w' ⟨ov, rfl, ho, hn, R, f⟩
    exact ⟨ov, rfl, ho, hn, h.step8 ht Q.lt R f (tick_inv h.inv Q.ok Q.stok n) ho⟩
  agenda := fun ⟨K, lv, h⟩ ht Q => by
    refine (agenda_any h.pd Q.ok.len h.inv.ids).mono ?_
    rintro e w' ⟨ov, rfl, ho, R, f⟩
    exact ⟨ov, rfl, ho, h.step8 ht Q.lt R f h.inv ho⟩
  check := fun S => check_any S.sl
  newNil := fun S => by
    obtain ⟨a, cap, h⟩ := row_any S.row
    rw [h]
    exact newNil_any a _ cap
  newNo := fun c S hck => newNo_any c S.sl hck
  newOk := fun {own w sv st vs c wk fr F} S C hfew hF hck _ hl t ht => by
    obtain ⟨jk, M, hj⟩ := C
    have hV : ∀ j, ∃ v, j < 7 → (roW own w).cell? ⟨c, j, none⟩ = some v ∧ (roW own w).ownsRow 0 140 2 v (jk j).length (flat (jk j)) := fun j => by
      by_cases h : j < 7
      · obtain ⟨v, h1, h2⟩ := M.week j h
        exact ⟨v, fun _ => ⟨h1, h2⟩⟩
      · exact ⟨.slice none 0 0, fun h' => absurd h' h⟩
    obtain ⟨V, hV⟩ := Classical.axiomOfChoice hV
    have hn : st.length ≤ 6 := by
      simp only [checkL, Bool.and_eq_true, decide_eq_true_eq] at hck
      exact hck.1.2
    have hr : w.rangeAt c 0 (calC V fr) := fun j v hv => by
      have hlt := (List.getElem?_eq_some_iff.1 hv).1
      rw [calC_len] at hlt
      rw [Nat.zero_add]
      by_cases h : j < 7
      · rw [calC_week V fr j h] at hv
        cases hv
        exact (ro_cell (hV j h).1).2
      · have e := calC_free V fr (j - 7) (by omega)
        rw [show 7 + (j - 7) = j by omega] at e
        rw [e] at hv
        cases hv
        have := M.free (j - 7) (by omega)
        rw [show 7 + (j - 7) = j by omega] at this
        exact (ro_cell this).2
    refine (newOk_any c (calC V fr) (calC_len V fr) S.sl hck hr).mono ?_
    rintro e w' ⟨p, g, ls, rfl, hp, hblk, CY⟩
    obtain ⟨h1, h2⟩ := PSi.new ht hl (fun j hj => (hV j hj).2) hj hfew hF hp hblk CY hn
    exact ⟨p, _, rfl, hp, h1, h2⟩
end Go.Proofs.YtcnmbldikjljeaaGreatDoor
namespace Go.Proofs.YtcnmbldikjljeaaGreatDoor
open Go.ChangeShapes Go.WideShapes Go.ChangeAt Go.RowKit

theorem own : ownKnob Tryz.prog.godebug = none := by kernel_rfl
theorem laidOut : laidOutB Tryz.prog = true := by kernel_rfl
/-- the listed variable's name, off the row -/
abbrev dn : String := Rows.calendarsRow.named.headD default
theorem gNames : Tryz.prog.globalNamed dn = some 0 := by kernel_rfl
theorem tNames : (Tryz.prog.globals[0]?).map (·.type) = some 262 := by kernel_rfl
theorem cellsInt : Tryz.prog.cellsOf 3 = 1 := by kernel_rfl
theorem cellsStr : Tryz.prog.cellsOf 9 = 1 := by kernel_rfl
theorem cellsN : Tryz.prog.cellsOf 262 = 7 := by kernel_rfl

abbrev laidList : List (String × DataW Unit) := [(dn, Rows.laid_docket_docket_dayNames)]

theorem door_met (os : Os) (args : Array Value) : laidMetH Tryz.prog laidList ((World.doorLaid Tryz.prog 400 os).forCall (fun _ _ => 0) ⟨#[], args, []⟩).memory :=
  laidMetH_of_parts3 (fuel := 8) (laidMet_of_run' 8 (by kernel_rfl) (by kernel_rfl)) (by kernel_rfl) (by kernel_rfl)

theorem bytes_of_list (s : ByteArray) (l : List UInt8) (h : s.data.toList = l) : s = ⟨l.toArray⟩ := by subst h; cases s; simp

theorem names_of_laid {W : World} (h : laidMetH Tryz.prog laidList W) : ∀ j, j < 7 → W.cell? ⟨0, j, none⟩ = some (nmV j) := by
  rw [MakeChecks.laidMetH_plain _ _ _ (by kernel_rfl)] at h
  obtain ⟨ps, ⟨g0, t0, cs0, f0, p0, q0, hg0, ht0, hv0, hd0, _, _⟩, _, _⟩ := h
  obtain rfl := Option.some.inj (gNames.symm.trans hg0)
  obtain rfl := Option.some.inj (tNames.symm.trans ht0)
  obtain ⟨xs, m, rfl, hx, hlen, hn, hel⟩ := DataW.trod_array Tryz.underlying262 hd0
  simp only [Prod.mk.injEq] at hx
  intro j hj
  have hc := World.var?_cell hg0 hv0 j
  rw [hc]
  have hj2 := hel j hj
  rw [cellsStr] at hj2
  obtain ⟨y, hy⟩ : ∃ y, xs[j]? = some y := ⟨xs[j]'(by omega), by simp⟩
  rw [hy] at hj2
  obtain ⟨s, e1, e2, _⟩ := DataW.trod_string Tryz.underlying9 hj2
  have hcs : cs0[j]? = some (.string s) := by
    have := congrArg (·[0]?) e1
    simpa [List.getElem?_take, List.getElem?_drop] using this
  rw [hcs]
  have hmap : (xs.map (·.1))[j]? = some (.lit (.string s.data.toList)) := by simp [hy, e2]
  have hD := hx.1
  simp only [Rows.laid_docket_docket_dayNames, DataW.agg.injEq] at hD
  rw [← hD] at hmap
  unfold nmV
  have key : ∀ l : List UInt8, s.data.toList = l → Value.string s = .string ⟨l.toArray⟩ := fun l hl => by rw [bytes_of_list s l hl]
  have hj7 : j = 0 ∨ j = 1 ∨ j = 2 ∨ j = 3 ∨ j = 4 ∨ j = 5 ∨ j = 6 := by omega
  rcases hj7 with rfl | rfl | rfl | rfl | rfl | rfl | rfl
  all_goals
    simp only [List.getElem?_cons_zero, List.getElem?_cons_succ, Option.some.injEq, DataW.lit.injEq, Lit.string.injEq] at hmap
    rw [key _ hmap.symm]
    rfl
end Go.Proofs.YtcnmbldikjljeaaGreatDoor
