import Derived.Test.YtcnmbldikjljeaaGreatDoorJ03
import Derived.Deep.AppendLies
import Derived.Deep.RegionHeld3
import Derived.Deep.RegionLaw
namespace Go.Proofs.YtcnmbldikjljeaaGreatDoor
open Go.RowKit
section
variable {it : Obj} {B b : Nat} {w0 w : World} {s : RS} {vs : Nat → Value}

theorem mark_yes {s : RS} {c mark next : Int} (h : c = mark) : markL s c mark next = (true, { s with st := next }) := by unfold markL; rw [if_pos h]
theorem mark_no {s : RS} {c mark next : Int} (h : ¬ c = mark) : markL s c mark next = (false, s) := by unfold markL; rw [if_neg h]

set_option maxRecDepth 100000 in
set_option maxHeartbeats 1000000 in
theorem dayEnd_any (R : RW it B b w0 w s vs) (c : Int) :
    Calls Tryz.prog 146 #[P0 b, .int .i32 c] w fun e w' => e = .returned (.bool (dayEndL s c).1) ∧ RW it B b w0 w' (dayEndL s c).2 vs := by
  by_cases h : c = 44
  · have hm := hide (mark_yes (s := s) (next := 0) h)
    have hd : dayEndL s c = (true, { s with st := 0 }) := by unfold dayEndL; rw [if_pos h]
    have HD := hide hd
    clear h hd
    go_enter Tryz.func146, Tryz.ntmps146
    go_wp2_with fail
    refine (mark_any R _ _ _).mono ?_
    rw [hm.out]
    rintro e w' ⟨rfl, R2⟩
    go_wp2_with fail
    go_ret
    rw [HD.out]
    exact ⟨rfl, R2⟩
  · have hm := hide (mark_no (s := s) (next := 0) h)
    have hd : dayEndL s c = markL s c 32 3 := by unfold dayEndL; rw [if_neg h]
    have HD := hide hd
    clear h hd
    go_enter Tryz.func146, Tryz.ntmps146
    go_wp2_with fail
    refine (mark_any R _ _ _).mono ?_
    rw [hm.out]
    rintro e w' ⟨rfl, R2⟩
    go_wp2_with fail
    refine (mark_any R2 _ _ _).mono ?_
    rintro e w' ⟨rfl, R3⟩
    go_wp2_with fail
    go_ret
    rw [HD.out]
    exact ⟨rfl, R3⟩

set_option maxRecDepth 100000 in
set_option maxHeartbeats 1000000 in
theorem spanEnd_any (R : RW it B b w0 w s vs) (c : Int) :
    Calls Tryz.prog 150 #[P0 b, .int .i32 c] w fun e w' => e = .returned (.bool (spanEndL s c).1) ∧ RW it B b w0 w' (spanEndL s c).2 vs := by
  by_cases h : c = 59
  · have hm := hide (mark_yes (s := s) (next := 0) h)
    have hd : spanEndL s c = (true, { s with st := 0, days := fun _ => false }) := by unfold spanEndL; rw [if_pos h]
    have HD := hide hd
    clear h hd
    go_enter Tryz.func150, Tryz.ntmps150
    go_wp2_with fail
    refine (mark_any R _ _ _).mono ?_
    rw [hm.out]
    rintro e w' ⟨rfl, R2⟩
    have d0 := R2.cd 0 (by omega)
    have d1 := R2.cd 1 (by omega)
    have d2 := R2.cd 2 (by omega)
    have d3 := R2.cd 3 (by omega)
    have d4 := R2.cd 4 (by omega)
    have d5 := R2.cd 5 (by omega)
    have d6 := R2.cd 6 (by omega)
    simp only [Nat.reduceAdd] at d0 d1 d2 d3 d4 d5 d6
    have f0 := R2.frz 3
    have f1 := R2.frz 4
    have f2 := R2.frz 5
    have f3 := R2.frz 6
    have f4 := R2.frz 7
    have f5 := R2.frz 8
    have f6 := R2.frz 9
    go_wp2_with fail
    go_ret
    rw [HD.out]
    have R3 := ((((((R2.setDay 0 (by omega) false).setDay 1 (by omega) false).setDay 2 (by omega) false).setDay 3 (by omega) false).setDay 4 (by omega) false).setDay 5 (by omega) false).setDay 6 (by omega) false
    exact ⟨rfl, R3.daysC (fun _ => false) (fun j hj => by
      have : j = 0 ∨ j = 1 ∨ j = 2 ∨ j = 3 ∨ j = 4 ∨ j = 5 ∨ j = 6 := by omega
      rcases this with rfl | rfl | rfl | rfl | rfl | rfl | rfl <;> rfl)⟩
  · have hm := hide (mark_no (s := s) (next := 0) h)
    by_cases h2 : c = 32
    · have hm2 := hide (mark_yes (s := s) (next := 3) h2)
      have hd : spanEndL s c = (true, { s with st := 3 }) := by unfold spanEndL; rw [if_neg h, if_pos h2]
      have HD := hide hd
      clear h hd h2
      go_enter Tryz.func150, Tryz.ntmps150
      go_wp2_with fail
      refine (mark_any R _ _ _).mono ?_
      rw [hm.out]
      rintro e w' ⟨rfl, R2⟩
      go_wp2_with fail
      refine (mark_any R2 _ _ _).mono ?_
      rw [hm2.out]
      rintro e w' ⟨rfl, R3⟩
      go_wp2_with fail
      go_ret
      rw [HD.out]
      exact ⟨rfl, R3⟩
    · have hm2 := hide (mark_no (s := s) (next := 3) h2)
      have hd : spanEndL s c = markL s c 33 10 := by unfold spanEndL; rw [if_neg h, if_neg h2]
      have HD := hide hd
      clear h hd h2
      go_enter Tryz.func150, Tryz.ntmps150
      go_wp2_with fail
      refine (mark_any R _ _ _).mono ?_
      rw [hm.out]
      rintro e w' ⟨rfl, R2⟩
      go_wp2_with fail
      refine (mark_any R2 _ _ _).mono ?_
      rw [hm2.out]
      rintro e w' ⟨rfl, R3⟩
      go_wp2_with fail
      refine (mark_any R3 _ _ _).mono ?_
      rintro e w' ⟨rfl, R4⟩
      go_wp2_with fail
      go_ret
      rw [HD.out]
      exact ⟨rfl, R4⟩

set_option maxRecDepth 100000 in
set_option maxHeartbeats 1000000 in
theorem numFirst_any (R : RW it B b w0 w s vs) (c : Int) :
    Calls Tryz.prog 151 #[P0 b, .int .i32 c] w fun e w' => e = .returned (.bool (numFirstL s c).1) ∧ RW it B b w0 w' (numFirstL s c).2 vs := by
  have f0 := R.frz 0
  have g0 := R.c0
  have f12 := R.frz 12
  have g12 := R.c12
  by_cases h : isDig c
  · have hd : numFirstL s c = (true, { s with num := c - 48, st := 11 }) := by unfold numFirstL; rw [if_pos h]
    have HD := hide hd
    have H := hide h
    clear h hd
    go_enter Tryz.func151, Tryz.ntmps151
    go_wp2_with fail
    refine (digit_yes _ _ H.out).mono ?_
    rintro e w' ⟨rfl, rfl⟩
    go_wp2_with fail
    go_ret
    rw [HD.out]
    exact ⟨rfl, (R.setNum _).setSt _⟩
  · have hd : numFirstL s c = (false, s) := by unfold numFirstL; rw [if_neg h]
    have HD := hide hd
    have H := hide h
    clear h hd
    go_enter Tryz.func151, Tryz.ntmps151
    go_wp2_with fail
    refine (digit_no _ _ H.out).mono ?_
    rintro e w' ⟨rfl, rfl⟩
    go_wp2_with fail
    go_ret
    rw [HD.out]
    exact ⟨rfl, R⟩

set_option maxRecDepth 100000 in
set_option maxHeartbeats 1000000 in
theorem timeDigit_any (R : RW it B b w0 w s vs) (c most minutes next : Int) (t0 : 0 ≤ s.time) (t1 : s.time ≤ 1440) (m0 : 0 ≤ minutes) (m1 : minutes ≤ 600) :
    Calls Tryz.prog 147 #[P0 b, .int .i32 c, .int .i64 most, .int .i64 minutes, .int .i64 next] w fun e w' => e = .returned (.bool (timeDigitL s c most minutes next).1) ∧ RW it B b w0 w' (timeDigitL s c most minutes next).2 vs := by
  have f0 := R.frz 0
  have g0 := R.c0
  have f11 := R.frz 11
  have g11 := R.c11
  by_cases h : isDig c
  · have H := hide h
    have b1 : 0 ≤ (c - 48) * minutes := Int.mul_nonneg (by omega) m0
    have b2 : (c - 48) * minutes ≤ 9 * 600 := Int.mul_le_mul (by omega) (by omega) m0 (by omega)
    by_cases hm : most < c - 48
    · have hd : timeDigitL s c most minutes next = (false, s) := by unfold timeDigitL; rw [if_neg (by omega)]
      have HD := hide hd
      obtain ⟨hc0, hc1⟩ := h
      clear hd
      go_enter Tryz.func147, Tryz.ntmps147
      go_wp2_with fail
      refine (digit_yes _ _ H.out).mono ?_
      rintro e w' ⟨rfl, rfl⟩
      go_wp2_with fail
      go_ret
      rw [HD.out]
      exact ⟨rfl, R⟩
    · by_cases ht : 1440 < s.time + (c - 48) * minutes
      · have hd : timeDigitL s c most minutes next = (false, s) := by unfold timeDigitL; rw [if_neg (by omega)]
        have HD := hide hd
        obtain ⟨hc0, hc1⟩ := h
        clear hd
        go_enter Tryz.func147, Tryz.ntmps147
        go_wp2_with fail
        refine (digit_yes _ _ H.out).mono ?_
        rintro e w' ⟨rfl, rfl⟩
        go_wp2_with fail
        go_ret
        rw [HD.out]
        exact ⟨rfl, R⟩
      · have hd : timeDigitL s c most minutes next = (true, { s with time := s.time + (c - 48) * minutes, st := next }) := by unfold timeDigitL; rw [if_pos ⟨h, by omega, by omega⟩]
        have HD := hide hd
        obtain ⟨hc0, hc1⟩ := h
        clear hd
        go_enter Tryz.func147, Tryz.ntmps147
        go_wp2_with fail
        refine (digit_yes _ _ H.out).mono ?_
        rintro e w' ⟨rfl, rfl⟩
        go_wp2_with fail
        go_ret
        rw [HD.out]
        exact ⟨rfl, (R.setTime _).setSt _⟩
  · have hd : timeDigitL s c most minutes next = (false, s) := by unfold timeDigitL; rw [if_neg (by omega)]
    have HD := hide hd
    have H := hide h
    clear h hd
    go_enter Tryz.func147, Tryz.ntmps147
    go_wp2_with fail
    refine (digit_no _ _ H.out).mono ?_
    rintro e w' ⟨rfl, rfl⟩
    go_wp2_with fail
    go_ret
    rw [HD.out]
    exact ⟨rfl, R⟩
end
end Go.Proofs.YtcnmbldikjljeaaGreatDoor
namespace Go.Proofs.YtcnmbldikjljeaaGreatDoor
open Go.RowKit
section
variable {it : Obj} {B b : Nat} {w0 w : World} {s : RS} {vs : Nat → Value}

set_option maxRecDepth 100000 in
set_option maxHeartbeats 1000000 in
theorem endNum_any (R : RW it B b w0 w s vs) (n0 : 0 ≤ s.num) (n1 : s.num ≤ 99) :
    Calls Tryz.prog 175 #[P0 b] w fun e w' => e = .returned (.bool (endNumL s).1) ∧ RW it B b w0 w' (endNumL s).2 vs := by
  have g12 := R.c12
  have g13 := R.c13
  by_cases h : 70 ≤ s.num
  · have hd : endNumL s = (false, s) := by unfold endNumL; rw [if_pos (by omega)]
    have HD := hide hd
    clear hd
    go_enter Tryz.func175, Tryz.ntmps175
    go_wp2
    go_quiet (fail)
    go_wp2
    go_ret
    rw [HD.out]
    exact ⟨rfl, R.drewN _⟩
  · have hf : decide (70 ≤ s.num) = false := by simp; omega
    by_cases h2 : s.num ≤ s.ahead
    · have hd : endNumL s = (false, s) := by unfold endNumL; rw [if_pos (by omega)]
      have HD := hide hd
      clear hd
      go_enter Tryz.func175, Tryz.ntmps175
      go_wp2
      go_quiet (fail)
      go_wp2
      go_ret
      rw [HD.out]
      exact ⟨rfl, R.drewN _⟩
    · have hf2 : decide (s.num ≤ s.ahead) = false := by simp; omega
      have hd : endNumL s = (true, { s with free := fun j => if j = s.num.toNat then true else s.free j, ahead := s.num, st := 12 }) := by unfold endNumL; rw [if_neg (by omega)]
      have HD := hide hd
      clear hd
      have f0 := R.frz 0
      have g0 := R.c0
      have f13 := R.frz 13
      have fk := R.frz (21 + s.num.toNat)
      have gk := R.cf s.num.toNat (by omega)
      have h70 : s.num < 70 := by omega
      go_enter Tryz.func175, Tryz.ntmps175
      go_wp2
      go_quiet (fail)
      go_wp2
      go_region
      go_wp2
      go_ret
      rw [HD.out]
      exact ⟨rfl, (((R.drewN _).setFree _ (by omega) true).setAhead _).setSt _⟩

set_option maxRecDepth 100000 in
set_option maxHeartbeats 1000000 in
theorem endShort_any (R : RW it B b w0 w s vs) (n0 : 0 ≤ s.num) (n1 : s.num ≤ 99) (p0 : 0 ≤ s.place) (p1 : s.place ≤ 1000) :
    Calls Tryz.prog 153 #[P0 b] w fun e w' => e = .returned (.bool (endShortL s).1) ∧ RW it B b w0 w' (endShortL s).2 vs := by
  cases hr : (endNumL s).1
  · have hd : endShortL s = (false, { s with place := s.place - 1 }) := by unfold endShortL; rw [hr]; rfl
    have he : (endNumL s).2 = s := by unfold endNumL at hr ⊢; split at hr <;> simp_all
    have HD := hide hd
    have HE := hide he
    have HR := hide hr
    clear hd he hr
    go_enter Tryz.func153, Tryz.ntmps153
    go_wp2_with fail
    refine (endNum_any R n0 n1).mono ?_
    rw [HR.out, HE.out]
    rintro e w' ⟨rfl, R2⟩
    have g1 := R2.c1
    have f1 := R2.frz 1
    go_wp2_with fail
    go_ret
    rw [HD.out]
    exact ⟨rfl, R2.setPlace _⟩
  · have hd : endShortL s = endNumL s := by unfold endShortL; rw [hr]; rfl
    have HD := hide hd
    have HR := hide hr
    clear hd hr
    go_enter Tryz.func153, Tryz.ntmps153
    go_wp2_with fail
    refine (endNum_any R n0 n1).mono ?_
    rw [HR.out]
    rintro e w' ⟨rfl, R2⟩
    go_wp2_with fail
    go_ret
    rw [HD.out, HR.out]
    exact ⟨rfl, R2⟩

set_option maxRecDepth 100000 in
set_option maxHeartbeats 1000000 in
theorem numSecond_any (R : RW it B b w0 w s vs) (c : Int) (n0 : 0 ≤ s.num) (n1 : s.num ≤ 9) (p0 : 0 ≤ s.place) (p1 : s.place ≤ 1000) :
    Calls Tryz.prog 152 #[P0 b, .int .i32 c] w fun e w' => e = .returned (.bool (numSecondL s c).1) ∧ RW it B b w0 w' (numSecondL s c).2 vs := by
  have f12 := R.frz 12
  have g12 := R.c12
  by_cases h : isDig c
  · have H := hide h
    obtain ⟨hc0, hc1⟩ := h
    by_cases hz : s.num = 0
    · have hd : numSecondL s c = (false, s) := by unfold numSecondL; rw [if_pos H.out, if_pos hz]
      have HD := hide hd
      have hz2 : (s.num == 0) = true := by simp [hz]
      clear hd hz
      go_enter Tryz.func152, Tryz.ntmps152
      go_wp2_with fail
      refine (digit_yes _ _ H.out).mono ?_
      rintro e w' ⟨rfl, rfl⟩
      go_wp2_with fail
      go_ret
      rw [HD.out]
      exact ⟨rfl, R⟩
    · have hd : numSecondL s c = endNumL { s with num := s.num * 10 + (c - 48) } := by unfold numSecondL; rw [if_pos H.out, if_neg hz]
      have HD := hide hd
      have hz2 : (s.num == 0) = false := by simp [hz]
      clear hd hz
      go_enter Tryz.func152, Tryz.ntmps152
      go_wp2_with fail
      refine (digit_yes _ _ H.out).mono ?_
      rintro e w' ⟨rfl, rfl⟩
      go_wp2_with fail
      refine (endNum_any (R.setNum _) (by simp; omega) (by simp; omega)).mono ?_
      rintro e w' ⟨rfl, R2⟩
      go_wp2_with fail
      go_ret
      rw [HD.out]
      exact ⟨rfl, R2⟩
  · have H := hide h
    clear h
    cases hr : (endShortL s).1
    · have hd : numSecondL s c = endShortL s := by unfold numSecondL; rw [if_neg H.out, hr]; rfl
      have HD := hide hd
      have HR := hide hr
      clear hd hr
      go_enter Tryz.func152, Tryz.ntmps152
      go_wp2_with fail
      refine (digit_no _ _ H.out).mono ?_
      rintro e w' ⟨rfl, rfl⟩
      go_wp2_with fail
      refine (endShort_any R n0 (by omega) p0 p1).mono ?_
      rw [HR.out]
      rintro e w' ⟨rfl, R2⟩
      go_wp2_with fail
      go_ret
      rw [HD.out, HR.out]
      exact ⟨rfl, R2⟩
    · have hd : numSecondL s c = markL (endShortL s).2 c 44 10 := by unfold numSecondL; rw [if_neg H.out, hr]; rfl
      have HD := hide hd
      have HR := hide hr
      clear hd hr
      go_enter Tryz.func152, Tryz.ntmps152
      go_wp2_with fail
      refine (digit_no _ _ H.out).mono ?_
      rintro e w' ⟨rfl, rfl⟩
      go_wp2_with fail
      refine (endShort_any R n0 (by omega) p0 p1).mono ?_
      rw [HR.out]
      rintro e w' ⟨rfl, R2⟩
      go_wp2_with fail
      refine (mark_any R2 _ _ _).mono ?_
      rintro e w' ⟨rfl, R3⟩
      go_wp2_with fail
      go_ret
      rw [HD.out]
      exact ⟨rfl, R3⟩
end
end Go.Proofs.YtcnmbldikjljeaaGreatDoor
namespace Go.Proofs.YtcnmbldikjljeaaGreatDoor
open Go.RowKit
section
variable {it : Obj} {B b : Nat} {w0 w : World} {s : RS} {vs : Nat → Value}

def putW (s : RS) (p : Int × Int) (k : Nat) : Nat → List (Int × Int) := fun j => if j = k then s.week k ++ [p] else s.week j
def addTo (s : RS) (p : Int × Int) (k : Nat) : Nat → List (Int × Int) := fun j => if j < k ∧ s.days j = true then s.week j ++ [p] else s.week j
theorem flat_snoc (l : List (Int × Int)) (p : Int × Int) : flat (l ++ [p]) = flat l ++ [.int .i64 p.1, .int .i64 p.2] := by simp [flat]

theorem RW.append {w1 : World} (h : RW it B b w0 w s vs) (k : Nat) (hk : k < 7) (p : Int × Int) (g cap : Nat)
    (hown : w1.ownsRow (b + 2) 140 2 (.slice (some ⟨g, 0, none⟩) ((s.week k).length + 1) cap) ((s.week k).length + 1) (flat (s.week k) ++ [.int .i64 p.1, .int .i64 p.2]))
    (hg : w.grownBy w1 (vs k).ownBlock) (hat : (vs k).ownBlock = some g ∨ g = w.heap.size) :
    RW it B b w0 (w1.setCell ⟨b, 14 + k, none⟩ (.slice (some ⟨g, 0, none⟩) ((s.week k).length + 1) cap)) { s with week := putW s p k } (fun j => if j = k then .slice (some ⟨g, 0, none⟩) ((s.week k).length + 1) cap else vs j) := by
  have hB := h.hB
  have hbb := h.hb
  have hn := h.n0
  have hlo : ∀ m, (vs k).ownBlock = some m → b + 2 ≤ m := fun m hm => ((h.own k hk).lt m hm).1
  have hne : some b ≠ (vs k).ownBlock := fun e => by have := hlo b e.symm; omega
  have hne0 : some 0 ≠ (vs k).ownBlock := fun e => by have := hlo 0 e.symm; omega
  have hit : b + 1 < w.heap.size := (Array.getElem?_eq_some_iff.1 h.iter).1
  have hne1 : some (b + 1) ≠ (vs k).ownBlock := fun e => by have := hlo (b + 1) e.symm; omega
  have hgb : b < g := by
    rcases hat with e | e
    · have := hlo g e; omega
    · omega
  have hcell : ∀ j, w1.cell? ⟨b, j, none⟩ = w.cell? ⟨b, j, none⟩ := fun j => World.cell?_of_block (hg.block b hbb hne)
  have hfrz : ∀ j, w1.frozen? ⟨b, j, none⟩ = w.frozen? ⟨b, j, none⟩ := fun j => World.frozen?_of_block (hg.block b hbb hne)
  refine ⟨(h.below.grown hg (by omega) (fun m hm => by have := hlo m hm; omega)).setCell (by simp; omega) _, h.hB, by have := hg.size; simp; omega, ?_, ?_, ?_, ?_, ?_, h.n0, (Below.heap_setCell _ _ _ _ (by simp)).trans ((hg.block _ hit hne1).trans h.iter)⟩
  · intro j hj
    by_cases e : j = 14 + k
    · subst e
      rw [sc_eq (u := vs k) (by rw [hcell]; exact h.cw k hk)]
      simp only [enc]
      rw [if_neg (by omega), if_neg (by omega), if_neg (by omega), if_neg (by omega), if_neg (by omega), if_neg (by omega), if_neg (by omega), if_neg (by omega), if_pos (by omega), if_pos (by omega)]
    · rw [sc_ne (by omega), hcell, h.cell j hj]
      simp only [enc]
      by_cases g1 : j < 21
      · by_cases g2 : j < 14
        · repeat (first | rfl | (split; · rfl))
          omega
        · rw [if_neg (by omega : ¬ j - 14 = k)]
      · simp only [if_neg g1]
  · intro j; rw [World.frozen?_setCell, hfrz]; exact h.frz j
  · intro j hj
    simp only [putW]
    by_cases e : j = k
    · subst e
      rw [if_pos rfl, if_pos rfl, flat_snoc]
      refine ownsRow_setCell_below ?_ (by simp) _
      rw [List.length_append]; exact hown
    · rw [if_neg e, if_neg e]
      exact ownsRow_setCell_below ((h.own j hj).kept hg (h.apart j k hj hk e)) (by simp) _
  · intro i j hi hj hij
    by_cases ei : i = k
    · subst ei
      rw [if_pos rfl, if_neg (Ne.symm hij)]
      right
      simp only [Value.ownBlock]
      intro e
      rcases hat with hat | hat
      · rcases h.apart i j hi hj hij with a | a
        · rw [a] at hat; cases hat
        · exact a (hat.trans e)
      · have := ((h.own j hj).lt g e.symm).2; omega
    · rw [if_neg ei]
      by_cases ej : j = k
      · subst ej
        rw [if_pos rfl]
        cases hv : (vs i).ownBlock with
        | none => exact .inl rfl
        | some m =>
          right
          simp only [Value.ownBlock]
          intro e
          injection e with e
          subst e
          rcases hat with hat | hat
          · rcases h.apart i j hi hj hij with a | a
            · rw [a] at hv; cases hv
            · exact a (hv.trans hat.symm)
          · have := ((h.own i hi).lt m hv).2; omega
      · rw [if_neg ej]; exact h.apart i j hi hj hij
  · intro j hj
    rw [sc_ne (by omega), World.cell?_of_block (w := w) (hg.block 0 (by omega) hne0)]
    exact h.names j hj

theorem spanInfo : (Tryz.prog.info? 140).map (fun i => (i.zero, i.size, i.bytes)) = some (some (.agg #[.int .i64 0, .int .i64 0]), 2, 16) := by kernel_rfl
theorem jx0 (a b c d e f g : Bool) (w : World) : (Instr.index 197 (.agg #[.bool a, .bool b, .bool c, .bool d, .bool e, .bool f, .bool g]) (.int .i64 0)).run Tryz.prog w = .ok (.bool a) w := by kernel_rfl
theorem jx1 (a b c d e f g : Bool) (w : World) : (Instr.index 197 (.agg #[.bool a, .bool b, .bool c, .bool d, .bool e, .bool f, .bool g]) (.int .i64 1)).run Tryz.prog w = .ok (.bool b) w := by kernel_rfl
theorem jx2 (a b c d e f g : Bool) (w : World) : (Instr.index 197 (.agg #[.bool a, .bool b, .bool c, .bool d, .bool e, .bool f, .bool g]) (.int .i64 2)).run Tryz.prog w = .ok (.bool c) w := by kernel_rfl
theorem jx3 (a b c d e f g : Bool) (w : World) : (Instr.index 197 (.agg #[.bool a, .bool b, .bool c, .bool d, .bool e, .bool f, .bool g]) (.int .i64 3)).run Tryz.prog w = .ok (.bool d) w := by kernel_rfl
theorem jx4 (a b c d e f g : Bool) (w : World) : (Instr.index 197 (.agg #[.bool a, .bool b, .bool c, .bool d, .bool e, .bool f, .bool g]) (.int .i64 4)).run Tryz.prog w = .ok (.bool e) w := by kernel_rfl
theorem jx5 (a b c d e f g : Bool) (w : World) : (Instr.index 197 (.agg #[.bool a, .bool b, .bool c, .bool d, .bool e, .bool f, .bool g]) (.int .i64 5)).run Tryz.prog w = .ok (.bool f) w := by kernel_rfl
theorem jx6 (a b c d e f g : Bool) (w : World) : (Instr.index 197 (.agg #[.bool a, .bool b, .bool c, .bool d, .bool e, .bool f, .bool g]) (.int .i64 6)).run Tryz.prog w = .ok (.bool g) w := by kernel_rfl

theorem own_ne_b {n : Nat} {v : Value} {k : Nat} {xs : List Value} {t : TypeId} (h : w.ownsRow (b + 2) t n v k xs) : some b ≠ v.ownBlock := fun e => by have := (h.lt b e.symm).1; omega
theorem jx (d : Nat → Bool) (k : Nat) (hk : k < 7) (w : World) : (Instr.index 197 (.agg #[.bool (d 0), .bool (d 1), .bool (d 2), .bool (d 3), .bool (d 4), .bool (d 5), .bool (d 6)]) (.int .i64 k)).run Tryz.prog w = .ok (.bool (d k)) w := by
  match k, hk with
  | 0, _ => exact jx0 _ _ _ _ _ _ _ w
  | 1, _ => exact jx1 _ _ _ _ _ _ _ w
  | 2, _ => exact jx2 _ _ _ _ _ _ _ w
  | 3, _ => exact jx3 _ _ _ _ _ _ _ w
  | 4, _ => exact jx4 _ _ _ _ _ _ _ w
  | 5, _ => exact jx5 _ _ _ _ _ _ _ w
  | 6, _ => exact jx6 _ _ _ _ _ _ _ w
theorem addTo_zero (s : RS) (p : Int × Int) : addTo s p 0 = s.week := by funext j; simp [addTo]
theorem addTo_skip (s : RS) (p : Int × Int) (k : Nat) (h : s.days k = false) : addTo s p k = addTo s p (k + 1) := by
  funext j; simp only [addTo]
  by_cases e : j = k
  · subst e; simp [h]
  · have : (j < k) ↔ (j < k + 1) := by omega
    simp only [this]
theorem addTo_step (s : RS) (p : Int × Int) (k : Nat) (h : s.days k = true) : putW { s with week := addTo s p k } p k = addTo s p (k + 1) := by
  funext j; simp only [addTo, putW]
  by_cases e : j = k
  · subst e; simp [h]
  · have : (j < k) ↔ (j < k + 1) := by omega
    simp only [this, if_neg e]
theorem RW.weekC (h : RW it B b w0 w s vs) (d : Nat → List (Int × Int)) (hd : ∀ j, j < 7 → s.week j = d j) : RW it B b w0 w { s with week := d } vs := by
  refine ⟨h.below, h.hB, h.hb, h.cell, h.frz, ?_, h.apart, h.names, h.n0, h.iter⟩
  intro j hj; have := h.own j hj; rw [hd j hj] at this; exact this
theorem addTo_len (s : RS) (p : Int × Int) (k j n : Nat) (h : ∀ j, (s.week j).length ≤ n) : (addTo s p k j).length ≤ n + 1 := by
  unfold addTo; have := h j; split <;> simp <;> omega

set_option maxRecDepth 100000 in
set_option maxHeartbeats 4000000 in
theorem addSpan_any (R : RW it B b w0 w s vs) (p1 p2 : Int) (hl : ∀ j, (s.week j).length ≤ 1000) :
    Calls Tryz.prog 174 #[P0 b, .agg #[.int .i64 p1, .int .i64 p2]] w fun e w' => e = .returned (.tuple #[]) ∧ ∃ vs', RW it B b w0 w' { s with week := addW s (p1, p2) } vs' := by
  have d0 := R.cd 0 (by omega)
  have d1 := R.cd 1 (by omega)
  have d2 := R.cd 2 (by omega)
  have d3 := R.cd 3 (by omega)
  have d4 := R.cd 4 (by omega)
  have d5 := R.cd 5 (by omega)
  have d6 := R.cd 6 (by omega)
  simp only [Nat.reduceAdd] at d0 d1 d2 d3 d4 d5 d6
  have hbz := R.hb
  go_enter Tryz.func174, Tryz.ntmps174
  go_wp2
  clear d0 d1 d2 d3 d4 d5 d6
  obtain ⟨X, hX⟩ : ∃ X, X = w.heap.size := ⟨_, rfl⟩
  have HX0 := hide hX
  rw [← hX]
  obtain ⟨i0, hi, hz0, hz1, hz2⟩ := info_parts spanInfo
  have HI := hide hi
  clear hi
  have hbX : b ≠ X := by omega
  go_loopw [10] (fun i wr => ∃ (k : Nat) (vk : Nat → Value), k ≤ 7 ∧ i = .int .i64 k ∧ RW it B b w0 wr { s with week := addTo s (p1, p2) k } vk ∧ X < wr.heap.size ∧ wr.cell? ⟨X, 0, none⟩ = some (.int .i64 p1) ∧ wr.cell? ⟨X, 1, none⟩ = some (.int .i64 p2) ∧ Hid (∀ j, j < 7 → (vk j).ownBlock ≠ some X)) (fun i _ => 7 - (intOf i).toNat)
  case atStart =>
    refine ⟨0, vs, by omega, rfl, ?_, by rw [hX]; simp, by rw [hX]; simp, by rw [hX]; simp, ?_⟩
    · exact (R.alloc _).eqv (by rw [addTo_zero])
    · unfold Hid; intro j hj e
      have := ((R.own j hj).lt X e).2; omega
  case round =>
    obtain ⟨k, vk, hk7, rfl, R2, hXw, q0, q1, HO⟩ := hrel
    clear hX
    by_cases hk : k < 7
    · have hix := jx s.days k hk
      have hk' : (k : Int) < 7 := by omega
      cases hd : s.days k
      · have HD := hide hd
        go_wp2
        go_roundw
        case rel => exact ⟨k + 1, vk, by omega, by go_num, R2.eqv (by rw [addTo_skip _ _ _ HD.out]), hXw, q0, q1, HO⟩
        case measure => simp [intOf]; omega
      · have HD := hide hd
        have gk := R2.cw k (by omega)
        have fk := R2.frz (14 + k)
        have hbw := R2.hb
        have hit : b + 1 < wr.heap.size := (Array.getElem?_eq_some_iff.1 R2.iter).1
        have hlk : ({ s with week := addTo s (p1, p2) k }.week k).length ≤ 1001 := addTo_len s (p1, p2) k k 1000 hl
        have hvX := hide (HO.out k hk)
        go_wp2
        go_region_law
          ((refine step_append_lies _ (by rfl) _ _ _ (by rfl) (b + 2) 140 i0 _ 2 16 Tryz.underlying101 HI.out hz0 hz1 hz2 rfl (by omega) (vk k) (addTo s (p1, p2) k k).length (flat (addTo s (p1, p2) k k)) (by rfl) (((R2.alloc _).drew).own k hk)
              ⟨wr.heap.size, 0, none⟩ 1 1 [.int .i64 p1, .int .i64 p2] (by rfl) (by rfl) (World.news_of_block (cs := #[.int .i64 p1, .int .i64 p2]) (t := 140) (fr := (0, 0)) (heap_alloc_new wr _)) (by simp [Value.oneCell'])
              (by omega) (by unfold maxLen; omega) (by omega) (by simp; omega) (wr.heap.size + 1) (by simp) ?_; intro gg cap w1 hown1 hgrow hat hlt; have hc1 := (hgrow.cell_far ⟨b, 14 + k, none⟩ (by simp; omega) (own_ne_b (R2.own k hk))).trans (((R2.alloc _).drew).cw k hk); have hf1 := (hgrow.frozen_far ⟨b, 14 + k, none⟩ (by simp; omega) (own_ne_b (R2.own k hk))).trans (((R2.alloc _).drew).frz (14 + k))))
        all_goals
          have q0' := (hgrow.cell_far ⟨X, 0, none⟩ (by simp; omega) (Ne.symm hvX.out)).trans ((World.cell?_alloc_past _ _ _ hXw).trans q0)
          have q1' := (hgrow.cell_far ⟨X, 1, none⟩ (by simp; omega) (Ne.symm hvX.out)).trans ((World.cell?_alloc_past _ _ _ hXw).trans q1)
          have hsz := hgrow.size
          have R3 := ((R2.alloc (Obj.cells #[.int .i64 p1, .int .i64 p2] 140)).drew).append k hk (p1, p2) gg cap hown1 hgrow (by simpa using hat)
          have hgX : gg ≠ X := by
            rcases hat with e | e
            · intro e2; subst e2; exact hvX.out e
            · omega
          clear hown1 hgrow hat
          go_wp2
          go_roundw
          case rel =>
            refine ⟨k + 1, _, by omega, by go_num, R3.eqv (by rw [← addTo_step _ _ _ HD.out]), by simp at hsz ⊢; omega, ?_, ?_, ?_⟩
            · rw [sc_ne (by omega)]; exact q0'
            · rw [sc_ne (by omega)]; exact q1'
            · unfold Hid; intro j hj
              by_cases e : j = k
              · subst e; simp [Value.ownBlock, hgX]
              · rw [if_neg e]; exact HO.out j hj
          case measure => simp [intOf]; omega
    · go_wp2
      go_end0
      have hk8 : k = 7 := by omega
      subst hk8
      exact ⟨rfl, vk, R2.weekC _ (fun j hj => by simp only [addTo, addW]; simp [hj])⟩
end
end Go.Proofs.YtcnmbldikjljeaaGreatDoor
