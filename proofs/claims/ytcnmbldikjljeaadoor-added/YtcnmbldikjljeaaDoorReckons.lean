import Derived.Test.YtcnmbldikjljeaaDoorKeep2
import Derived.Test.YtcnmbldikjljeaaDoorAdd
import Derived.Test.YtcnmbldikjljeaaDoorCntP
namespace Go.Proofs.YtcnmbldikjljeaaDoor
open Go.RowKit

/-- the minutes of a calendar, by their numbers -/
def FF (raw : Nat → List (Int × Int)) (fr : Nat → Bool) (m : Nat) : Bool := openL raw fr m
theorem ff_eq (raw : Nat → List (Int × Int)) (fr : Nat → Bool) (t : Int) (h0 : 0 ≤ t) (_h1 : t < 100800) : openL raw fr t = FF raw fr t.toNat := by
  unfold FF; rw [show ((t.toNat : Nat) : Int) = t by omega]
theorem mo_week : (parseL moB).2.week 0 = [(540, 600)] := by kernel_rfl
theorem mo_free : (parseL moB).2.free 0 = false := by kernel_rfl
theorem mo_at (m : Nat) (h : m < 1440) : FF (parseL moB).2.week (parseL moB).2.free m = decide (540 ≤ m ∧ m < 600) := by
  unfold FF openL
  rw [show ((m : Int) / 1440).toNat = 0 by omega, show ((m : Int) / 1440 % 7).toNat = 0 by omega, mo_free, mo_week, show (m : Int) % 1440 = m by omega]
  rw [Bool.eq_iff_iff]
  simp [hitL]
  omega
theorem mo_cnt (y : Int) (h0 : 0 ≤ y) (h1 : y ≤ 1440) : cnt (FF (parseL moB).2.week (parseL moB).2.free) y.toNat = if y ≤ 540 then 0 else if y ≤ 600 then y - 540 else 60 := by
  have hat := mo_at
  generalize FF (parseL moB).2.week (parseL moB).2.free = F at *
  have z : cnt F (0 : Int).toNat = 0 := rfl
  have run1 : ∀ c : Int, 0 ≤ c → c ≤ 540 → cnt F c.toNat - cnt F (0 : Int).toNat = 0 := fun c c0 c1 => by
    rw [cnt_run F 0 c false (Int.le_refl _) c0 (fun m g0 g1 => by rw [hat _ (by omega)]; simp; omega)]; rfl
  have run2 : ∀ c : Int, 540 ≤ c → c ≤ 600 → cnt F c.toNat - cnt F (540 : Int).toNat = c - 540 := fun c c0 c1 => by
    rw [cnt_run F 540 c true (by omega) c0 (fun m g0 g1 => by rw [hat _ (by omega)]; simp; omega)]; rfl
  have run3 : ∀ c : Int, 600 ≤ c → c ≤ 1440 → cnt F c.toNat - cnt F (600 : Int).toNat = 0 := fun c c0 c1 => by
    rw [cnt_run F 600 c false (by omega) c0 (fun m g0 g1 => by rw [hat _ (by omega)]; simp; omega)]; rfl
  have r1 := run1 540 (by omega) (by omega)
  have r2 := run2 600 (by omega) (by omega)
  by_cases a : y ≤ 540
  · rw [if_pos a]; have := run1 y h0 a; omega
  · rw [if_neg a]
    by_cases b : y ≤ 600
    · rw [if_pos b]; have := run2 y (by omega) b; omega
    · rw [if_neg b]; have := run3 y (by omega) h1; omega
theorem mo_add : AddN (FF (parseL moB).2.week (parseL moB).2.free) 0 60 600 := by
  refine ⟨by omega, by omega, ?_, fun y y0 y1 => ?_⟩
  · rw [mo_cnt 600 (by omega) (by omega), mo_cnt 0 (by omega) (by omega)]; rfl
  · rw [mo_cnt y (by omega) (by omega), mo_cnt 0 (by omega) (by omega)]
    split <;> simp <;> omega
theorem mo_btw : cnt (FF (parseL moB).2.week (parseL moB).2.free) (1000 : Int).toNat - cnt (FF (parseL moB).2.week (parseL moB).2.free) (0 : Int).toNat = 60 := by
  rw [mo_cnt 1000 (by omega) (by omega), mo_cnt 0 (by omega) (by omega)]; rfl
set_option maxRecDepth 100000 in
set_option maxHeartbeats 1000000 in
theorem reckons_any (w : World) (h0 : 0 < w.heap.size) (hnm : ∀ j, j < 7 → w.cell? ⟨0, j, none⟩ = some (nmV j)) :
    Calls Tryd.prog 13 #[] w fun e w' => e = .returned (.bool true) ∧ Below w.heap.size w w' := by
  have HNM := hide hnm
  clear hnm
  go_enter Tryd.func13, Tryd.ntmps13
  go_wp2_with fail
  refine (reads_any w h0 HNM.out).mono ?_
  rintro e w0 ⟨rfl, hb0⟩
  go_wp2_with fail
  refine (parse_any moB w0 (by have := hb0.size; omega) (nm_on h0 HNM.out hb0) (by decide)).mono ?_
  rintro e w1 ⟨hb1, ⟨_, g, hg, rfl, C⟩ | ⟨hno, _⟩⟩
  · have hb01 := hb0.trans (hb1.mono hb0.size)
    go_wp2_with fail
    refine (between_any g _ _ (FF (parseL moB).2.week (parseL moB).2.free) 0 1000 w1 C (parse_len moB (by decide) mo_ok) (ff_eq _ _) (by omega) (by omega) (by omega)).mono ?_
    rw [mo_btw]
    rintro e w2 ⟨rfl, hb2⟩
    have hb02 := hb01.trans (hb2.mono hb01.size)
    go_wp2_with fail
    refine (add_any g _ _ (FF (parseL moB).2.week (parseL moB).2.free) 0 60 w2 (C.on hb2) (parse_len moB (by decide) mo_ok) (ff_eq _ _) (by omega) (by omega) (by omega) (by omega)).mono ?_
    rintro e w3 ⟨⟨x, hx, rfl⟩ | ⟨hx, _⟩, hb3⟩
    · obtain rfl := addN_uniq hx mo_add
      have HB := hide (hb02.trans (hb3.mono hb02.size))
      clear hx
      go_wp2_with fail
      go_ret
      exact ⟨rfl, HB.out⟩
    · exact (addN_never mo_add hx).elim
  · rw [mo_ok] at hno; cases hno
end Go.Proofs.YtcnmbldikjljeaaDoor
