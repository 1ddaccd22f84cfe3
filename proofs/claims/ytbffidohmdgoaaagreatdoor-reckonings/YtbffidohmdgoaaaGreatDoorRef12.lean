import Derived.Test.YtbffidohmdgoaaaGreatDoorRef11
import Derived.Test.YtbffidohmdgoaaaGreatDoorAdd
namespace Go.Proofs.YtbffidohmdgoaaaGreatDoor
open Go.RowKit

set_option maxRecDepth 100000 in
set_option maxHeartbeats 1000000 in
theorem refBetween_bad (g : Nat) (a b : Int) (w : World) (h : a < 0 ∨ 100800 < b ∨ b < a) :
    Calls Tryz.prog 81 #[.pointer (some ⟨g, 0, none⟩), .int .i64 a, .int .i64 b] w fun e w' => e = .returned (.tuple #[.int .i64 0, .int .i64 1]) ∧ w' = w := by
  by_cases h0 : a < 0
  · clear h
    go_enter Tryz.func81, Tryz.ntmps81
    go_wp2
    go_ret2
    exact ⟨rfl, rfl⟩
  · have n0 : ¬ a < 0 := h0
    by_cases h1 : 100800 < b
    · clear h
      go_enter Tryz.func81, Tryz.ntmps81
      go_wp2
      go_ret2
      exact ⟨rfl, rfl⟩
    · have h2 : b < a := by omega
      clear h
      go_enter Tryz.func81, Tryz.ntmps81
      go_wp2
      go_ret2
      exact ⟨rfl, rfl⟩
set_option maxRecDepth 100000 in
set_option maxHeartbeats 1000000 in
theorem refBetween_any (g : Nat) (F : Nat → Bool) (a b : Int) (w : World) (C : RC w g F) (h0 : 0 ≤ a) (h1 : a ≤ b) (h2 : b ≤ 100800) :
    Calls Tryz.prog 81 #[.pointer (some ⟨g, 0, none⟩), .int .i64 a, .int .i64 b] w fun e w' => e = .returned (.tuple #[.int .i64 (cnt F b.toNat - cnt F a.toNat), .int .i64 0]) ∧ Below w.heap.size w w' := by
  obtain ⟨q, cap, hc, _, hq, hall⟩ := C.row
  have z0 := hall a.toNat (by omega)
  have z1 := hall b.toNat (by omega)
  have k0 := cnt_bd F a.toNat
  have k1 := cnt_bd F b.toNat
  have n0 : ¬ a < 0 := by omega
  have n1 : ¬ 100800 < b := by omega
  have n2 : ¬ b < a := by omega
  have j0 : a < 100801 := by omega
  have j1 : b < 100801 := by omega
  have j2 : 0 ≤ b := by omega
  have l0 : (a.toNat : Int) = a := by omega
  have l1 : (b.toNat : Int) = b := by omega
  have HL := hide (And.intro l0 l1)
  have x0 : cnt F a.toNat ≤ 200000 := by omega
  have x1 : cnt F b.toNat ≤ 200000 := by omega
  have y0 := k0.1
  have y1 := k1.1
  clear hall C k0 k1 l0 l1
  go_enter Tryz.func81, Tryz.ntmps81
  generalize cnt F a.toNat = x at *
  generalize cnt F b.toNat = y at *
  go_wp2
  go_quiet (fail)
  go_wp2
  go_ret2
  exact ⟨rfl, below_drewN (Below.refl _ _) _⟩
set_option maxRecDepth 100000 in
set_option maxHeartbeats 1000000 in
theorem refAdd_bad (g : Nat) (t n : Int) (w : World) (h : t < 0 ∨ 100800 < t ∨ n < 0 ∨ 20000 < n) :
    Calls Tryz.prog 82 #[.pointer (some ⟨g, 0, none⟩), .int .i64 t, .int .i64 n] w fun e w' => e = .returned (.tuple #[.int .i64 0, .int .i64 1]) ∧ w' = w := by
  by_cases h0 : t < 0
  · clear h
    go_enter Tryz.func82, Tryz.ntmps82
    go_wp2
    go_ret2
    exact ⟨rfl, rfl⟩
  · by_cases h1 : 100800 < t
    · clear h
      go_enter Tryz.func82, Tryz.ntmps82
      go_wp2
      go_ret2
      exact ⟨rfl, rfl⟩
    · by_cases h2 : n < 0
      · clear h
        go_enter Tryz.func82, Tryz.ntmps82
        go_wp2
        go_ret2
        exact ⟨rfl, rfl⟩
      · have h3 : 20000 < n := by omega
        clear h
        go_enter Tryz.func82, Tryz.ntmps82
        go_wp2
        go_ret2
        exact ⟨rfl, rfl⟩
set_option maxRecDepth 100000 in
set_option maxHeartbeats 1000000 in
theorem refAdd_any (g : Nat) (F : Nat → Bool) (t n : Int) (w : World) (C : RC w g F) (h0 : 0 ≤ t) (h1 : t ≤ 100800) (h2 : 0 ≤ n) (h3 : n ≤ 20000) :
    Calls Tryz.prog 82 #[.pointer (some ⟨g, 0, none⟩), .int .i64 t, .int .i64 n] w fun e w' => AddP F t n e ∧ Below w.heap.size w w' := by
  obtain ⟨q, cap, hc, _, hq, hall⟩ := C.row
  have HALL := hide hall
  have z0 := hall t.toNat (by omega)
  have k0 := cnt_bd F t.toNat
  have n0 : ¬ t < 0 := by omega
  have n1 : ¬ 100800 < t := by omega
  have n2 : ¬ n < 0 := by omega
  have n3 : ¬ 20000 < n := by omega
  have x0 : cnt F t.toNat ≤ 200000 := by omega
  have y0 := k0.1
  have j0 : t < 100801 := by omega
  have hl : (t.toNat : Int) = t := by omega
  have HL := hide hl
  clear hall C k0 hl
  go_enter Tryz.func82, Tryz.ntmps82
  go_wp2_with fail
  go_loopw [8] (fun i wr => ∃ x : Int, t ≤ x ∧ x ≤ 100801 ∧ i = .int .i64 x ∧ Below w.heap.size w wr ∧ Hid (∀ y : Int, t ≤ y → y < x → cnt F y.toNat - cnt F t.toNat ≠ n)) (fun i _ => 100801 - (intOf i).toNat)
  case atStart => exact ⟨t, by omega, by omega, rfl, Below.refl _ _, fun y a b => by omega⟩
  case round =>
    obtain ⟨x, hx0, hx1, rfl, hb, HH⟩ := hrel
    by_cases hlt : x ≤ 100800
    · have r0 := (hb.cell (p := ⟨g, 0, none⟩) (by simp; omega)).trans hc
      have r1 := (hb.cell (p := ⟨q, t.toNat, none⟩) hq).trans z0
      have r2 := (hb.cell (p := ⟨q, x.toNat, none⟩) hq).trans (HALL.out x.toNat (by omega))
      have k1 := cnt_bd F x.toNat
      have x1 : cnt F x.toNat ≤ 200000 := by omega
      have y1 := k1.1
      have p0 : 0 ≤ x := by omega
      have p1 : x < 100801 := by omega
      have HBB := hide hb
      clear k1 hb hc z0
      by_cases he : cnt F x.toNat - cnt F t.toNat = n
      · have HE := hide he
        have hd : (cnt F x.toNat - cnt F t.toNat == n) = true := by simpa using he
        generalize hu : cnt F x.toNat = u at *
        generalize hv : cnt F t.toNat = v at *
        have HU := hide (And.intro hu hv)
        clear hu hv he
        go_wp2
        go_quiet (fail)
        go_wp2
        go_ret2
        refine ⟨.inl ⟨x, ⟨hx0, hlt, by rw [HU.out.1, HU.out.2]; exact HE.out, by rw [HU.out.2]; exact HH.out⟩, rfl⟩, below_drewN HBB.out _⟩
      · have HE := hide he
        have hd : (cnt F x.toNat - cnt F t.toNat == n) = false := by simpa using he
        generalize hu : cnt F x.toNat = u at *
        generalize hv : cnt F t.toNat = v at *
        have HU := hide (And.intro hu hv)
        clear hu hv he
        go_wp2
        go_quiet (fail)
        go_wp2
        go_roundw
        case rel =>
          refine ⟨x + 1, by omega, by omega, by go_num, below_drewN HBB.out _, fun y a b => ?_⟩
          by_cases hy : y < x
          · exact HH.out y a hy
          · have e : y = x := by omega
            rw [e, HU.out.1]; exact HE.out
        case measure => simp [intOf]; omega
    · have hN : ¬ x ≤ 100800 := hlt
      go_wp2
      go_ret2
      exact ⟨.inr ⟨fun y a b => HH.out y a (by omega), rfl⟩, hb⟩
end Go.Proofs.YtbffidohmdgoaaaGreatDoor
