import Derived.Test.YtbffidohmdgoaaaGreatDoorLaw5
import Derived.Test.YtbffidohmdgoaaaGreatDoorRef12
import Derived.Test.YtbffidohmdgoaaaGreatDoorCntP
namespace Go.Proofs.YtbffidohmdgoaaaGreatDoor
open Go.RowKit

set_option maxRecDepth 100000 in
set_option maxHeartbeats 1000000 in
/-- a Between, asked of both -/
theorem between_rk (w : World) (wb : Nat) (row : Option Nat) (c r : Nat) (Y : Yr w wb row (c, r)) (a b d : Int) (s : ByteArray) (l : Value) :
    Calls Tryz.prog 50 #[.agg #[P0 c, P0 r], .agg #[.int .i64 3, .int .i64 a, .int .i64 b, .int .i64 d, .string s, l]] w fun e w' => e = .returned (.bool true) ∧ Below w.heap.size w w' := by
  obtain ⟨wk, fr, F, h, cap, C, hl, ho, ⟨r1, r2, r3, r4, r5⟩, _⟩ := Y
  have R : RC w r F := ⟨r1, h, cap, r2, r3, r4, r5⟩
  clear r1 r2 r3 r4 r5
  have HB := hide (boxes w (P0 c) (P0 r) (.int .i64 3) (.int .i64 a) (.int .i64 b) (.int .i64 d) (.string s) l 138 77 rfl)
  have HCR := hide (And.intro C (And.intro R (And.intro hl ho)))
  clear C R hl ho
  by_cases hb : b < 0 ∨ 100800 < d ∨ d < b
  · go_enter Tryz.func50, Tryz.ntmps50
    go_wp2_with fail
    generalize (w.alloc (Obj.cells #[P0 c, P0 r] 138)).alloc (Obj.cells #[.int .i64 3, .int .i64 a, .int .i64 b, .int .i64 d, .string s, l] 77) = wo at *
    obtain ⟨bo, hsz, ⟨_, q1⟩, q2, q3⟩ := HB.out
    refine (between_bad c b d wo hb).mono ?_
    rintro e w1 ⟨rfl, bl1⟩
    have hs1 := bl1.size
    have q1' := (bl1.cell (p := ⟨w.heap.size, 1, none⟩) (by simp; omega)).trans q1
    have q2' := (bl1.cell (p := ⟨w.heap.size + 1, 2, none⟩) (by simp; omega)).trans q2
    have q3' := (bl1.cell (p := ⟨w.heap.size + 1, 3, none⟩) (by simp; omega)).trans q3
    have HBB := hide (bo.trans (bl1.mono bo.size))
    clear q1 q2 q3
    go_wp2_with fail
    refine (refBetween_bad r b d w1 hb).mono ?_
    rintro e w2 ⟨rfl, rfl⟩
    go_wp2_with fail
    go_ret
    exact ⟨rfl, HBB.out⟩
  · have b0 : 0 ≤ b := by omega
    have b1 : b ≤ d := by omega
    have b2 : d ≤ 100800 := by omega
    have k1 := cnt_mono F b1 b0
    clear hb
    go_enter Tryz.func50, Tryz.ntmps50
    go_wp2_with fail
    generalize (w.alloc (Obj.cells #[P0 c, P0 r] 138)).alloc (Obj.cells #[.int .i64 3, .int .i64 a, .int .i64 b, .int .i64 d, .string s, l] 77) = wo at *
    obtain ⟨bo, hsz, ⟨_, q1⟩, q2, q3⟩ := HB.out
    refine (between_any c wk fr F b d wo (HCR.out.1.on bo) HCR.out.2.2.1 HCR.out.2.2.2 b0 b1 b2).mono ?_
    rintro e w1 ⟨rfl, bl1⟩
    have hs1 := bl1.size
    have q1' := (bl1.cell (p := ⟨w.heap.size, 1, none⟩) (by simp; omega)).trans q1
    have q2' := (bl1.cell (p := ⟨w.heap.size + 1, 2, none⟩) (by simp; omega)).trans q2
    have q3' := (bl1.cell (p := ⟨w.heap.size + 1, 3, none⟩) (by simp; omega)).trans q3
    have HR2 := hide (refBetween_any r F b d w1 ((HCR.out.2.1.on bo).on bl1) b0 b1 b2)
    have HBB := hide (bo.trans (bl1.mono bo.size))
    clear HCR HB q1 q2 q3 bo bl1
    go_wp2_with fail
    refine HR2.out.mono ?_
    rintro e w2 ⟨rfl, bl2⟩
    have HZ := hide (HBB.out.trans (bl2.mono HBB.out.size))
    clear HR2 HBB bl2 q1' q2' q3' hs1 hsz
    generalize cnt F d.toNat - cnt F b.toNat = x at *
    go_wp2_with fail
    go_ret
    exact ⟨by simp, HZ.out⟩
set_option maxRecDepth 100000 in
set_option maxHeartbeats 1000000 in
/-- an Add, asked of both -/
theorem add_rk (w : World) (wb : Nat) (row : Option Nat) (c r : Nat) (Y : Yr w wb row (c, r)) (a b d : Int) (s : ByteArray) (l : Value) :
    Calls Tryz.prog 50 #[.agg #[P0 c, P0 r], .agg #[.int .i64 4, .int .i64 a, .int .i64 b, .int .i64 d, .string s, l]] w fun e w' => e = .returned (.bool true) ∧ Below w.heap.size w w' := by
  obtain ⟨wk, fr, F, h, cap, C, hl, ho, ⟨r1, r2, r3, r4, r5⟩, _⟩ := Y
  have R : RC w r F := ⟨r1, h, cap, r2, r3, r4, r5⟩
  clear r1 r2 r3 r4 r5
  have HB := hide (boxes w (P0 c) (P0 r) (.int .i64 4) (.int .i64 a) (.int .i64 b) (.int .i64 d) (.string s) l 138 77 rfl)
  have HCR := hide (And.intro C (And.intro R (And.intro hl ho)))
  clear C R hl ho
  by_cases hb : b < 0 ∨ 100800 < b ∨ d < 0 ∨ 20000 < d
  · go_enter Tryz.func50, Tryz.ntmps50
    go_wp2_with fail
    generalize (w.alloc (Obj.cells #[P0 c, P0 r] 138)).alloc (Obj.cells #[.int .i64 4, .int .i64 a, .int .i64 b, .int .i64 d, .string s, l] 77) = wo at *
    obtain ⟨bo, hsz, ⟨_, q1⟩, q2, q3⟩ := HB.out
    refine (add_bad c b d wo hb).mono ?_
    rintro e w1 ⟨rfl, bl1⟩
    have hs1 := bl1.size
    have q1' := (bl1.cell (p := ⟨w.heap.size, 1, none⟩) (by simp; omega)).trans q1
    have q2' := (bl1.cell (p := ⟨w.heap.size + 1, 2, none⟩) (by simp; omega)).trans q2
    have q3' := (bl1.cell (p := ⟨w.heap.size + 1, 3, none⟩) (by simp; omega)).trans q3
    have HBB := hide (bo.trans (bl1.mono bo.size))
    clear q1 q2 q3
    go_wp2_with fail
    refine (refAdd_bad r b d w1 hb).mono ?_
    rintro e w2 ⟨rfl, rfl⟩
    go_wp2_with fail
    go_ret
    exact ⟨rfl, HBB.out⟩
  · have b0 : 0 ≤ b := by omega
    have b1 : b ≤ 100800 := by omega
    have b2 : 0 ≤ d := by omega
    have b3 : d ≤ 20000 := by omega
    clear hb
    go_enter Tryz.func50, Tryz.ntmps50
    go_wp2_with fail
    generalize (w.alloc (Obj.cells #[P0 c, P0 r] 138)).alloc (Obj.cells #[.int .i64 4, .int .i64 a, .int .i64 b, .int .i64 d, .string s, l] 77) = wo at *
    obtain ⟨bo, hsz, ⟨_, q1⟩, q2, q3⟩ := HB.out
    refine (add_any c wk fr F b d wo (HCR.out.1.on bo) HCR.out.2.2.1 HCR.out.2.2.2 b0 b1 b2 b3).mono ?_
    rintro e w1 ⟨⟨x, hx, rfl⟩ | ⟨hx, rfl⟩, bl1⟩
    · have HX := hide hx
      clear hx
      have hs1 := bl1.size
      have q1' := (bl1.cell (p := ⟨w.heap.size, 1, none⟩) (by simp; omega)).trans q1
      have q2' := (bl1.cell (p := ⟨w.heap.size + 1, 2, none⟩) (by simp; omega)).trans q2
      have q3' := (bl1.cell (p := ⟨w.heap.size + 1, 3, none⟩) (by simp; omega)).trans q3
      have HR2 := hide (refAdd_any r F b d w1 ((HCR.out.2.1.on bo).on bl1) b0 b1 b2 b3)
      have HBB := hide (bo.trans (bl1.mono bo.size))
      clear HCR HB q1 q2 q3 bo bl1
      go_wp2_with fail
      refine HR2.out.mono ?_
      rintro e w2 ⟨⟨y, hy, rfl⟩ | ⟨hy, _⟩, bl2⟩
      · obtain rfl := addN_uniq HX.out hy
        clear hy
        have HZ := hide (HBB.out.trans (bl2.mono HBB.out.size))
        clear HR2 HBB bl2 q1' q2' q3' hs1 hsz
        go_wp2_with fail
        go_ret
        exact ⟨by simp, HZ.out⟩
      · exact (addN_never HX.out hy).elim
    · have HX := hide hx
      clear hx
      have hs1 := bl1.size
      have q1' := (bl1.cell (p := ⟨w.heap.size, 1, none⟩) (by simp; omega)).trans q1
      have q2' := (bl1.cell (p := ⟨w.heap.size + 1, 2, none⟩) (by simp; omega)).trans q2
      have q3' := (bl1.cell (p := ⟨w.heap.size + 1, 3, none⟩) (by simp; omega)).trans q3
      have HR2 := hide (refAdd_any r F b d w1 ((HCR.out.2.1.on bo).on bl1) b0 b1 b2 b3)
      have HBB := hide (bo.trans (bl1.mono bo.size))
      clear HCR HB q1 q2 q3 bo bl1
      go_wp2_with fail
      refine HR2.out.mono ?_
      rintro e w2 ⟨⟨y, hy, _⟩ | ⟨hy, rfl⟩, bl2⟩
      · exact (addN_never hy HX.out).elim
      · clear hy
        have HZ := hide (HBB.out.trans (bl2.mono HBB.out.size))
        clear HR2 HBB bl2 q1' q2' q3' hs1 hsz
        go_wp2_with fail
        go_ret
        exact ⟨by simp, HZ.out⟩
end Go.Proofs.YtbffidohmdgoaaaGreatDoor
