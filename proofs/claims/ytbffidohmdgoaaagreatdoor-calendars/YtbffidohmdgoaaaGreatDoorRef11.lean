import Derived.Test.YtbffidohmdgoaaaGreatDoorRef9
namespace Go.Proofs.YtbffidohmdgoaaaGreatDoor
open Go.RowKit

theorem cnt_succ (F : Nat → Bool) (k : Nat) : decide (cnt F k < cnt F (k + 1)) = F k := by
  simp only [cnt]
  by_cases h : F k = true
  · simp [h]; omega
  · simp [h]

set_option maxRecDepth 100000 in
set_option maxHeartbeats 400000 in
theorem refParse_long (s : ByteArray) (w : World) (hs : 200 < s.size) (hm : s.size ≤ 9223372036854775807) :
    Calls Tryz.prog 73 #[.string s] w fun e w' => e = .returned (.tuple #[.pointer none, .int .i64 0]) ∧ w' = w := by
  go_enter Tryz.func73, Tryz.ntmps73
  go_wp2
  go_ret2
  exact ⟨rfl, rfl⟩

set_option maxRecDepth 100000 in
set_option maxHeartbeats 400000 in
theorem refOpen_bad (g : Nat) (t : Int) (w : World) (h : t < 0 ∨ 100800 ≤ t) :
    Calls Tryz.prog 79 #[.pointer (some ⟨g, 0, none⟩), .int .i64 t] w fun e w' => e = .returned (.tuple #[.bool false, .int .i64 1]) ∧ w' = w := by
  by_cases h0 : t < 0
  · clear h
    go_enter Tryz.func79, Tryz.ntmps79
    go_wp2
    go_ret2
    exact ⟨rfl, rfl⟩
  · have h1 : 100800 ≤ t := by omega
    clear h
    go_enter Tryz.func79, Tryz.ntmps79
    go_wp2
    go_ret2
    exact ⟨rfl, rfl⟩

set_option maxRecDepth 100000 in
set_option maxHeartbeats 1000000 in
theorem refOpen_any (g : Nat) (F : Nat → Bool) (t : Int) (w : World) (C : RC w g F) (h0 : 0 ≤ t) (h1 : t < 100800) :
    Calls Tryz.prog 79 #[.pointer (some ⟨g, 0, none⟩), .int .i64 t] w fun e w' => e = .returned (.tuple #[.bool (F t.toNat), .int .i64 0]) ∧ Below w.heap.size w w' := by
  obtain ⟨q, cap, hc, _, hq, hall⟩ := C.row
  have z0 := hall t.toNat (by omega)
  have z1 := hall (t + 1).toNat (by omega)
  have HF := hide (cnt_succ F t.toNat)
  have e1 : (t + 1).toNat = t.toNat + 1 := by omega
  have HE := hide e1
  rw [← e1] at HF
  clear e1 hall C
  generalize cnt F t.toNat = x at *
  generalize cnt F (t + 1).toNat = y at *
  go_enter Tryz.func79, Tryz.ntmps79
  go_wp2
  go_quiet (fail)
  go_wp2
  go_ret2
  rw [HF.out]
  exact ⟨rfl, below_drewN (Below.refl _ _) _⟩
end Go.Proofs.YtbffidohmdgoaaaGreatDoor
