import Derived.Test.YtbffidohmdgoaaaGreatDoorLaw2
namespace Go.Proofs.YtbffidohmdgoaaaGreatDoor
open Go.RowKit

theorem yearInfo : (Tryz.prog.info? 138).map (fun i => (i.zero, i.size, i.bytes)) = some (some (.agg #[.pointer none, .pointer none]), 2, 16) := by kernel_rfl
theorem cell_two_new (w : World) (x y : Value) (t : TypeId) : ∀ j u, [x, y][j]? = some u → (w.alloc (.cells #[x, y] t)).cell? ((⟨w.heap.size, 0, none⟩ : Addr).add j) = some u := by
  intro j u hj
  have e : (⟨w.heap.size, 0, none⟩ : Addr).add j = ⟨w.heap.size, j, none⟩ := by unfold Addr.add; split <;> simp_all
  rw [e, World.cell?_alloc_at _ _ _ _ rfl]
  match j, hj with
  | 0, hj => simpa using hj
  | 1, hj => simpa using hj
/-- both calendars, as they were made -/
theorem Yr.made {w w1 w2 : World} {wb : Nat} {row : Option Nat} {c r : Nat} {week : Nat → List (Int × Int)} {fr F : Nat → Bool} (hwb : wb < w.heap.size) (hrow : ∀ k, row = some k → k < w.heap.size)
    (b1 : w.heap.size ≤ w1.heap.size) (b2 : Below w1.heap.size w1 w2) (hc : w.heap.size ≤ c) (C : CalW w1 c week fr) (hl : ∀ j, (week j).length ≤ 1000) (ho : ∀ t : Int, 0 ≤ t → t < 100800 → openL week fr t = F t.toNat)
    (hr : w1.heap.size ≤ r) (R : RC w2 r F) : Yr w2 wb row (c, r) := by
  obtain ⟨h, cap, r2, r3, r4, r5⟩ := R.row
  refine ⟨week, fr, F, h, cap, C.on b2, hl, ho, ⟨R.lt, r2, r3, r4, r5⟩, fun k hk => ?_⟩
  have hk2 : w.heap.size ≤ k := by rcases hk with rfl | rfl | rfl <;> omega
  refine ⟨by omega, fun e => ?_⟩
  have := hrow k e.symm
  omega
set_option maxRecDepth 100000 in
set_option maxHeartbeats 4000000 in
theorem parsed_any (W w : World) (wb : Nat) (v : Value) (ys : List (Nat × Nat)) (D : DW W w wb v ys) (k a b d : Int) (s : ByteArray) (l : Value) (h0 : 0 < W.heap.size) (hnm : ∀ j, j < 7 → W.cell? ⟨0, j, none⟩ = some (nmV j)) (hs : s.size ≤ 9223372036854775807) (hn : (ys.length + 1) * 16 ≤ 140737488355328) :
    Calls Tryz.prog 48 #[P0 wb, .agg #[.int .i64 k, .int .i64 a, .int .i64 b, .int .i64 d, .string s, l]] w fun e w' => e = .returned (.bool true) ∧ ∃ v' ys', DW W w' wb v' ys' ∧ ys'.length ≤ ys.length + 1 := by
  have D0 := D.on ((Below.refl _ _).alloc (Nat.le_refl _) (Obj.cells #[.int .i64 k, .int .i64 a, .int .i64 b, .int .i64 d, .string s, l] 77))
  have hb4 : (w.alloc (Obj.cells #[.int .i64 k, .int .i64 a, .int .i64 b, .int .i64 d, .string s, l] 77)).cell? ⟨w.heap.size, 4, none⟩ = some (.string s) := by rw [World.cell?_alloc_at _ _ _ _ rfl]; rfl
  have hsz : w.heap.size < (w.alloc (Obj.cells #[.int .i64 k, .int .i64 a, .int .i64 b, .int .i64 d, .string s, l] 77)).heap.size := by simp
  have HD0 := hide (And.intro D0 (And.intro hb4 hsz))
  clear D0 hb4 hsz D
  by_cases hl : s.size ≤ 200
  · have hnw : ∀ wo : World, DW W wo wb v ys → 0 < wo.heap.size ∧ ∀ j, j < 7 → wo.cell? ⟨0, j, none⟩ = some (nmV j) := fun wo D => ⟨by have := D.below.size; omega, fun j hj => (D.below.cell (p := ⟨0, j, none⟩) h0).trans (hnm j hj)⟩
    have HP : Hid (∀ wo : World, DW W wo wb v ys → Calls Tryz.prog 55 #[.string s] wo fun e w' => PPost s wo e w') := fun wo D => parse_any s wo (hnw wo D).1 (hnw wo D).2 hl
    have hsim := sim_all (crun s s.size 0)
    rw [← parse_crun] at hsim
    have hlen := parse_len s hl
    clear hnw hnm
    rcases hsim with ⟨a1, a2, a3⟩ | ⟨a1, a2, a3, a4⟩
    · have HA := hide (And.intro a1 (And.intro a2 a3))
      clear a1 a2 a3 hlen
      go_enter Tryz.func48, Tryz.ntmps48
      go_wp2_with fail
      generalize w.alloc (Obj.cells #[.int .i64 k, .int .i64 a, .int .i64 b, .int .i64 d, .string s, l] 77) = wo at *
      obtain ⟨D, hb4, hsz⟩ := HD0.out
      refine (HP.out wo D).mono ?_
      rintro e w1 ⟨b1, ⟨hp1, _⟩ | ⟨hp1, rfl⟩⟩
      · rw [HA.out.2.1] at hp1; cases hp1
      have HR := hide (refParse_any s hl w1)
      clear HP hp1
      have hb5 := (b1.cell (p := ⟨w.heap.size, 4, none⟩) hsz).trans hb4
      rw [HA.out.2.2]
      go_wp2_with fail
      refine HR.out.mono ?_
      rintro e w2 ⟨b2, ⟨_, rfl⟩ | ⟨hp2, _⟩⟩
      · generalize (refF (crun s s.size 0)).1.2 = p at *
        clear HR HA
        have D2 := hide ((D.on b1).on b2)
        clear b1 b2 D
        go_wp2_with fail
        go_ret
        exact ⟨rfl, v, ys, D2.out, by omega⟩
      · exact absurd HA.out.1 hp2
    · have ho := hide (fun t h0 h1 => open_eq a3 a4 t h0 h1)
      have HA := hide (And.intro a1 a2)
      have HL := hide (fun j => hlen a2 j)
      clear a1 a2 a3 a4 hlen
      obtain ⟨i0, hi, hq0, hq1, hq2⟩ := info_parts yearInfo
      have HI := hide hi
      clear hi
      go_enter Tryz.func48, Tryz.ntmps48
      go_wp2_with fail
      generalize w.alloc (Obj.cells #[.int .i64 k, .int .i64 a, .int .i64 b, .int .i64 d, .string s, l] 77) = wo at *
      obtain ⟨D, hb4, hsz⟩ := HD0.out
      refine (HP.out wo D).mono ?_
      rintro e w1 ⟨b1, ⟨hp1, c, hc, rfl, C⟩ | ⟨hp1, _⟩⟩
      · have HR := hide (refParse_any s hl w1)
        have hb5 := (b1.cell (p := ⟨w.heap.size, 4, none⟩) hsz).trans hb4
        clear HP hp1
        go_wp2_with fail
        refine HR.out.mono ?_
        rintro e w2 ⟨b2, ⟨hp2, _⟩ | ⟨_, r, hr, rfl, R⟩⟩
        · have := HA.out.1; omega
        · have Y := Yr.made (wb := wb) (row := v.ownBlock) D.lt (fun q hq => (D.own.lt q hq).2) b1.size b2 hc C HL.out ho.out hr R
          have D2 := (D.on b1).on b2
          have hcv := D2.c0
          have hown := D2.own
          have hlt := D2.lt
          have HD := hide D2
          have HY := hide Y
          clear HR HA HL ho C R b1 b2 D D2 Y hc hr hb4 hb5 hsz HD0
          go_upto_region 99 with (first | (at_builtin; refine wpList_append_lies _ rfl _ _ 68 rfl (wb + 1) 138 i0 (.agg #[.pointer none, .pointer none]) 2 16 Tryz.underlying68 HI.out hq0 hq1 hq2 rfl (by decide) _ ys.length (yrCells ys) (by rfl) (hown.alloc _) ⟨w2.heap.size, 0, none⟩ 1 1 [P0 c, P0 r] (by rfl) (by rfl) (cell_two_new _ _ _ _) (by simp [Value.oneCell']) (by omega) (by unfold maxLen; omega) (by omega) (by simp; omega) (w2.heap.size + 1) (by simp) ?_; intro gg cap w10 hown10 hgrow hat hlt; obtain ⟨hc10, hf10, A2⟩ := HD.out.go HY.out hown10 hgrow hat; clear hown10 hgrow hat) | fail)
          have HA2 := hide A2
          clear A2 hc10 hf10 hlt
          go_ret
          exact ⟨rfl, _, _, HA2.out, by simp⟩
      · rw [HA.out.2] at hp1; cases hp1
  · have h1 : 200 < s.size := by omega
    go_enter Tryz.func48, Tryz.ntmps48
    go_wp2_with fail
    generalize w.alloc (Obj.cells #[.int .i64 k, .int .i64 a, .int .i64 b, .int .i64 d, .string s, l] 77) = wo at *
    obtain ⟨D, hb4, hsz⟩ := HD0.out
    refine (parse_long s wo h1 hs).mono ?_
    rintro e w1 ⟨rfl, rfl⟩
    go_wp2_with fail
    refine (refParse_long s w1 h1 hs).mono ?_
    rintro e w2 ⟨rfl, rfl⟩
    go_wp2_with fail
    go_ret
    exact ⟨rfl, v, ys, D, by omega⟩
/-- the boxes of a pair of calendars and of a step -/
theorem boxes (w : World) (x y k a b d s l : Value) (t u : TypeId) {wo : World} (hwo : wo = (w.alloc (Obj.cells #[x, y] t)).alloc (Obj.cells #[k, a, b, d, s, l] u)) :
    Below w.heap.size w wo ∧ w.heap.size + 1 < wo.heap.size ∧ (wo.cell? ⟨w.heap.size, 0, none⟩ = some x ∧ wo.cell? ⟨w.heap.size, 1, none⟩ = some y) ∧ wo.cell? ⟨w.heap.size + 1, 2, none⟩ = some b ∧ wo.cell? ⟨w.heap.size + 1, 3, none⟩ = some d := by
  subst hwo
  refine ⟨((Below.refl _ _).alloc (Nat.le_refl _) _).alloc (by simp) _, by simp, ⟨?_, ?_⟩, ?_, ?_⟩
  · rw [World.cell?_alloc_past _ _ _ (by simp), World.cell?_alloc_at _ _ _ _ rfl]; rfl
  · rw [World.cell?_alloc_past _ _ _ (by simp), World.cell?_alloc_at _ _ _ _ rfl]; rfl
  · rw [World.cell?_alloc_at _ _ _ _ (by simp)]; rfl
  · rw [World.cell?_alloc_at _ _ _ _ (by simp)]; rfl
set_option maxRecDepth 100000 in
set_option maxHeartbeats 1000000 in
/-- one minute, asked of both -/
theorem minute_any (w : World) (wb : Nat) (row : Option Nat) (c r : Nat) (Y : Yr w wb row (c, r)) (a b d : Int) (s : ByteArray) (l : Value) :
    Calls Tryz.prog 50 #[.agg #[P0 c, P0 r], .agg #[.int .i64 2, .int .i64 a, .int .i64 b, .int .i64 d, .string s, l]] w fun e w' => e = .returned (.bool true) ∧ Below w.heap.size w w' := by
  obtain ⟨wk, fr, F, h, cap, C, hl, ho, ⟨r1, r2, r3, r4, r5⟩, _⟩ := Y
  have R : RC w r F := ⟨r1, h, cap, r2, r3, r4, r5⟩
  clear r1 r2 r3 r4 r5
  have HB := hide (boxes w (P0 c) (P0 r) (.int .i64 2) (.int .i64 a) (.int .i64 b) (.int .i64 d) (.string s) l 138 77 rfl)
  have HCR := hide (And.intro C R)
  clear C R
  by_cases hb : b < 0 ∨ 100800 ≤ b
  · go_enter Tryz.func50, Tryz.ntmps50
    go_wp2_with fail
    generalize (w.alloc (Obj.cells #[P0 c, P0 r] 138)).alloc (Obj.cells #[.int .i64 2, .int .i64 a, .int .i64 b, .int .i64 d, .string s, l] 77) = wo at *
    obtain ⟨bo, hsz, ⟨_, q1⟩, q2, _⟩ := HB.out
    refine (open_bad c b wo hb).mono ?_
    rintro e w1 ⟨rfl, rfl⟩
    go_wp2_with fail
    refine (refOpen_bad r b w1 hb).mono ?_
    rintro e w2 ⟨rfl, rfl⟩
    go_wp2_with fail
    go_ret
    exact ⟨rfl, HB.out.1⟩
  · have b0 : 0 ≤ b := by omega
    have b1 : b < 100800 := by omega
    have HO := hide (ho b b0 b1)
    have HL := hide hl
    clear ho hl hb
    go_enter Tryz.func50, Tryz.ntmps50
    go_wp2_with fail
    generalize (w.alloc (Obj.cells #[P0 c, P0 r] 138)).alloc (Obj.cells #[.int .i64 2, .int .i64 a, .int .i64 b, .int .i64 d, .string s, l] 77) = wo at *
    obtain ⟨bo, hsz, ⟨_, q1⟩, q2, _⟩ := HB.out
    refine (open_any c wk fr b wo (HCR.out.1.on bo) b0 b1 HL.out).mono ?_
    rintro e w1 ⟨rfl, bl1⟩
    have hs1 := bl1.size
    have q1' := (bl1.cell (p := ⟨w.heap.size, 1, none⟩) (by simp; omega)).trans q1
    have q2' := (bl1.cell (p := ⟨w.heap.size + 1, 2, none⟩) (by simp; omega)).trans q2
    rw [HO.out]
    have HR2 := hide (refOpen_any r F b w1 ((HCR.out.2.on bo).on bl1) b0 b1)
    have HBB := hide (bo.trans (bl1.mono bo.size))
    clear HCR HO HL HB q1 q2 bo bl1
    go_wp2_with fail
    refine HR2.out.mono ?_
    rintro e w2 ⟨rfl, bl2⟩
    have HZ := hide (HBB.out.trans (bl2.mono HBB.out.size))
    clear HR2 HBB bl2 q1' q2' hs1 hsz
    generalize F b.toNat = x at *
    cases x
    · go_wp2_with fail
      go_ret
      exact ⟨rfl, HZ.out⟩
    · go_wp2_with fail
      go_ret
      exact ⟨rfl, HZ.out⟩
end Go.Proofs.YtbffidohmdgoaaaGreatDoor
