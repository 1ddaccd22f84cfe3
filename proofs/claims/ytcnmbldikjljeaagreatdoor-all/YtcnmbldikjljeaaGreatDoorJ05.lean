import Derived.Test.YtcnmbldikjljeaaGreatDoorJ03
import Derived.Test.YtcnmbldikjljeaaGreatDoorJ04
import Derived.Test.YtcnmbldikjljeaaGreatDoorJ01
import Derived.Test.YtcnmbldikjljeaaGreatDoorJ02
import Derived.Shelf.GgSortFunc.InsertionK
import Derived.Lib.OthersKept
import Derived.Deep.MidRow
import Derived.Shelf.SlLaysF0
import Derived.Test.YtcnmbldikjljeaaGreatDoorRows
namespace Go.Proofs.YtcnmbldikjljeaaGreatDoor
open Go.RowKit
section
variable {it : Obj} {B b : Nat} {w0 w : World} {s : RS} {vs : Nat → Value}

set_option maxRecDepth 100000 in
set_option maxHeartbeats 1000000 in
theorem endTime_any (R : RW it B b w0 w s vs) (hl : ∀ j, (s.week j).length ≤ 1000) :
    Calls Tryz.prog 149 #[P0 b] w fun e w' => e = .returned (.bool (endTimeL s).1) ∧ ∃ vs', RW it B b w0 w' (endTimeL s).2 vs' := by
  have f0 := R.frz 0
  have g0 := R.c0
  have f10 := R.frz 10
  have g10 := R.c10
  have f11 := R.frz 11
  have g11 := R.c11
  by_cases h : s.beg = -1
  · have hd : endTimeL s = (true, { s with time := 0, beg := s.time, st := 8 }) := by unfold endTimeL; rw [if_pos h]
    have HD := hide hd
    have e1 : (s.beg == -1) = true := by simp [h]
    clear hd h
    go_enter Tryz.func149, Tryz.ntmps149
    go_wp2
    go_ret
    rw [HD.out]
    exact ⟨rfl, vs, ((R.setTime _).setBeg _).setSt _⟩
  · have e1 : (s.beg == -1) = false := by simp [h]
    by_cases h2 : s.time ≤ s.beg
    · have hd : endTimeL s = (false, { s with time := 0 }) := by unfold endTimeL; rw [if_neg h, if_pos h2]
      have HD := hide hd
      clear hd h
      go_enter Tryz.func149, Tryz.ntmps149
      go_wp2
      go_ret
      rw [HD.out]
      exact ⟨rfl, vs, R.setTime _⟩
    · have hd : endTimeL s = (true, { s with time := 0, week := addW s (s.beg, s.time), beg := -1 }) := by unfold endTimeL; rw [if_neg h, if_neg h2]
      have HD := hide hd
      clear hd h
      go_enter Tryz.func149, Tryz.ntmps149
      go_wp2_with fail
      refine (addSpan_any (R.setTime 0) _ _ hl).mono ?_
      rintro e w' ⟨rfl, vs', R2⟩
      have f10 := R2.frz 10
      have g10 := R2.c10
      go_wp2
      go_ret
      rw [HD.out]
      exact ⟨rfl, vs', R2.setBeg _⟩

set_option maxRecDepth 100000 in
set_option maxHeartbeats 4000000 in
theorem take_any {n : Nat} (R : RW it B b w0 w s vs) (hI : Inv n s) (hn : n ≤ 1000) (c : Int) (p0 : 0 ≤ s.place) (p1 : s.place ≤ 1000) :
    Calls Tryz.prog 102 #[P0 b, .int .i32 c] w fun e w' => e = .returned (.bool (takeL s c).1) ∧ ∃ vs', RW it B b w0 w' (takeL s c).2 vs' := by
  have g0 := R.c0
  have hs : s.st = 0 ∨ s.st = 1 ∨ s.st = 2 ∨ s.st = 3 ∨ s.st = 4 ∨ s.st = 5 ∨ s.st = 6 ∨ s.st = 7 ∨ s.st = 8 ∨ s.st = 9 ∨ s.st = 10 ∨ s.st = 11 ∨ s.st = 12 := by
    have := hI.st0; have := hI.st1; omega
  rcases hs with e | e | e | e | e | e | e | e | e | e | e | e | e
  · have HT := hide (take_st0 c e)
    rw [e] at g0
    clear e
    go_enter Tryz.func102, Tryz.ntmps102
    go_wp2_with fail
    refine (dayFirst_any R _).mono ?_
    rintro e w' ⟨rfl, R2⟩
    go_wp2_with fail
    go_ret
    rw [HT.out]
    exact ⟨rfl, vs, R2⟩
  · have HT := hide (take_st1 c e)
    rw [e] at g0
    clear e
    go_enter Tryz.func102, Tryz.ntmps102
    go_wp2_with fail
    refine (daySecond_any R _).mono ?_
    rintro e w' ⟨rfl, R2⟩
    go_wp2_with fail
    go_ret
    rw [HT.out]
    exact ⟨rfl, vs, R2⟩
  · have HT := hide (take_st2 c e)
    rw [e] at g0
    clear e
    go_enter Tryz.func102, Tryz.ntmps102
    go_wp2_with fail
    refine (dayEnd_any R _).mono ?_
    rintro e w' ⟨rfl, R2⟩
    go_wp2_with fail
    go_ret
    rw [HT.out]
    exact ⟨rfl, vs, R2⟩
  · have HT := hide (take_st3 c e)
    rw [e] at g0
    clear e
    go_enter Tryz.func102, Tryz.ntmps102
    go_wp2_with fail
    refine (timeDigit_any R _ _ _ _ hI.t0 hI.t1 (by omega) (by omega)).mono ?_
    rintro e w' ⟨rfl, R2⟩
    go_wp2_with fail
    go_ret
    rw [HT.out]
    exact ⟨rfl, vs, R2⟩
  · have HT := hide (take_st4 c e)
    rw [e] at g0
    clear e
    go_enter Tryz.func102, Tryz.ntmps102
    go_wp2_with fail
    refine (timeDigit_any R _ _ _ _ hI.t0 hI.t1 (by omega) (by omega)).mono ?_
    rintro e w' ⟨rfl, R2⟩
    go_wp2_with fail
    go_ret
    rw [HT.out]
    exact ⟨rfl, vs, R2⟩
  · have HT := hide (take_st5 c e)
    rw [e] at g0
    clear e
    go_enter Tryz.func102, Tryz.ntmps102
    go_wp2_with fail
    refine (mark_any R _ _ _).mono ?_
    rintro e w' ⟨rfl, R2⟩
    go_wp2_with fail
    go_ret
    rw [HT.out]
    exact ⟨rfl, vs, R2⟩
  · have HT := hide (take_st6 c e)
    rw [e] at g0
    clear e
    go_enter Tryz.func102, Tryz.ntmps102
    go_wp2_with fail
    refine (timeDigit_any R _ _ _ _ hI.t0 hI.t1 (by omega) (by omega)).mono ?_
    rintro e w' ⟨rfl, R2⟩
    go_wp2_with fail
    go_ret
    rw [HT.out]
    exact ⟨rfl, vs, R2⟩
  · have HT := hide (take_st7 c e)
    rw [e] at g0
    clear e
    cases hr : (timeDigitL s c 9 1 9).1
    · have hd : minOnesL s c = timeDigitL s c 9 1 9 := by unfold minOnesL; rw [hr]; rfl
      have HD := hide hd
      have HR := hide hr
      clear hd hr
      go_enter Tryz.func102, Tryz.ntmps102
      go_wp2_with fail
      refine (timeDigit_any R _ _ _ _ hI.t0 hI.t1 (by omega) (by omega)).mono ?_
      rw [HR.out]
      rintro e w' ⟨rfl, R2⟩
      go_wp2_with fail
      go_ret
      rw [HT.out, HD.out, HR.out]
      exact ⟨rfl, vs, R2⟩
    · have hd : minOnesL s c = endTimeL (timeDigitL s c 9 1 9).2 := by unfold minOnesL; rw [hr]; rfl
      have hw : (timeDigitL s c 9 1 9).2.week = s.week := by unfold timeDigitL; split <;> rfl
      have HD := hide hd
      have HR := hide hr
      have HW := hide hw
      clear hd hr hw
      go_enter Tryz.func102, Tryz.ntmps102
      go_wp2_with fail
      refine (timeDigit_any R _ _ _ _ hI.t0 hI.t1 (by omega) (by omega)).mono ?_
      rw [HR.out]
      rintro e w' ⟨rfl, R2⟩
      go_wp2_with fail
      refine (endTime_any R2 (fun j => by rw [HW.out]; exact Nat.le_trans (hI.wk j) hn)).mono ?_
      rintro e w' ⟨rfl, R3⟩
      go_wp2_with fail
      go_ret
      rw [HT.out, HD.out]
      exact ⟨rfl, R3⟩
  · have HT := hide (take_st8 c e)
    rw [e] at g0
    clear e
    go_enter Tryz.func102, Tryz.ntmps102
    go_wp2_with fail
    refine (mark_any R _ _ _).mono ?_
    rintro e w' ⟨rfl, R2⟩
    go_wp2_with fail
    go_ret
    rw [HT.out]
    exact ⟨rfl, vs, R2⟩
  · have HT := hide (take_st9 c e)
    rw [e] at g0
    clear e
    go_enter Tryz.func102, Tryz.ntmps102
    go_wp2_with fail
    refine (spanEnd_any R _).mono ?_
    rintro e w' ⟨rfl, R2⟩
    go_wp2_with fail
    go_ret
    rw [HT.out]
    exact ⟨rfl, vs, R2⟩
  · have HT := hide (take_st10 c e)
    rw [e] at g0
    clear e
    go_enter Tryz.func102, Tryz.ntmps102
    go_wp2_with fail
    refine (numFirst_any R _).mono ?_
    rintro e w' ⟨rfl, R2⟩
    go_wp2_with fail
    go_ret
    rw [HT.out]
    exact ⟨rfl, vs, R2⟩
  · have HT := hide (take_st11 c e)
    have h9 := hI.n2 e
    rw [e] at g0
    clear e
    go_enter Tryz.func102, Tryz.ntmps102
    go_wp2_with fail
    refine (numSecond_any R _ hI.n0 h9 p0 p1).mono ?_
    rintro e w' ⟨rfl, R2⟩
    go_wp2_with fail
    go_ret
    rw [HT.out]
    exact ⟨rfl, vs, R2⟩
  · have HT := hide (take_st12 c e)
    rw [e] at g0
    clear e
    go_enter Tryz.func102, Tryz.ntmps102
    go_wp2_with fail
    refine (mark_any R _ _ _).mono ?_
    rintro e w' ⟨rfl, R2⟩
    go_wp2_with fail
    go_ret
    rw [HT.out]
    exact ⟨rfl, vs, R2⟩

set_option maxRecDepth 100000 in
set_option maxHeartbeats 1000000 in
theorem finish_any {n : Nat} (R : RW it B b w0 w s vs) (hI : Inv n s) (p0 : 0 ≤ s.place) (p1 : s.place ≤ 1000) :
    Calls Tryz.prog 103 #[P0 b] w fun e w' => e = .returned (.bool (finishL s).1) ∧ RW it B b w0 w' (finishL s).2 vs := by
  have g0 := R.c0
  by_cases h : s.st = 11
  · have hd : finishL s = endShortL s := by unfold finishL; rw [if_pos h]
    have HD := hide hd
    have e1 : (s.st == 11) = true := by simp [h]
    clear hd h
    go_enter Tryz.func103, Tryz.ntmps103
    go_wp2_with fail
    refine (endShort_any R hI.n0 hI.n1 p0 p1).mono ?_
    rintro e w' ⟨rfl, R2⟩
    go_wp2_with fail
    go_ret
    rw [HD.out]
    exact ⟨rfl, R2⟩
  · have hd : finishL s = (s.st == 9 || s.st == 12, s) := by unfold finishL; rw [if_neg h]
    have HD := hide hd
    have e1 : (s.st == 11) = false := by simp [h]
    clear hd h
    cases e2 : (s.st == 9)
    all_goals
      have HE := hide e2
      go_enter Tryz.func103, Tryz.ntmps103
      go_wp2
      go_ret
      rw [HD.out, HE.out]
      exact ⟨rfl, R⟩

end
end Go.Proofs.YtcnmbldikjljeaaGreatDoor
namespace Go.Proofs.YtcnmbldikjljeaaGreatDoor
open Go.RowKit Go.Shelf Go.Sort

theorem flat_at (l : List (Int × Int)) (k : Nat) (h : k < l.length) : (flat l)[k * 2]? = some (.int .i64 l[k].1) ∧ (flat l)[k * 2 + 1]? = some (.int .i64 l[k].2) := by
  induction l generalizing k with
  | nil => simp at h
  | cons p l ih =>
    cases k with
    | zero => simp [flat]
    | succ k =>
      have := ih k (by simpa using h)
      have e : flat (p :: l) = [.int .i64 p.1, .int .i64 p.2] ++ flat l := by simp [flat]
      rw [e, show (k + 1) * 2 = k * 2 + 2 by omega, show k * 2 + 2 + 1 = (k * 2 + 1) + 2 by omega]
      simpa using this
theorem flat_length (l : List (Int × Int)) : (flat l).length = l.length * 2 := by
  induction l with
  | nil => rfl
  | cons p l ih => have e : flat (p :: l) = [.int .i64 p.1, .int .i64 p.2] ++ flat l := by simp [flat]
                   rw [e]; simp [ih]; omega
/-- a span's two cells -/
def encP (x : Int × Int) : List Value := [.int .i64 x.1, .int .i64 x.2]
theorem flatK_flat (l : List (Int × Int)) : (flatK encP 2 l.toArray).toList = flat l := by
  apply List.ext_getElem?
  intro j
  by_cases hj : j < l.length * 2
  · have h2 : j / 2 < l.length := by omega
    have hf := flat_at l (j / 2) h2
    have e : (flatK encP 2 l.toArray).toList[j]? = some ((encP l[j / 2])[j % 2]!) := by
      simp [flatK, hj, h2]
    rw [e]
    rcases Nat.mod_two_eq_zero_or_one j with m | m
    · have : j = j / 2 * 2 := by omega
      rw [m]
      rw [← this] at hf
      rw [hf.1]; rfl
    · have : j = j / 2 * 2 + 1 := by omega
      rw [m]
      rw [← this] at hf
      rw [hf.2]; rfl
  · rw [List.getElem?_eq_none (by simp; omega), List.getElem?_eq_none (by rw [flat_length]; omega)]
theorem holds_flat {w : World} {g : Nat} {cur : Array Value} {e : TypeId} {l : List (Int × Int)} (hb : w.heap[g]? = some (.cells cur e (0, 0))) (ht : cur.toList.take (l.length * 2) = flat l) : HoldsK encP 2 w g 0 l.toArray := by
  intro j hj
  have hj' : j < l.length * 2 := by simpa using hj
  refine ⟨?_, by simp [World.frozen?, hb]⟩
  have h1 : (cur.toList.take (l.length * 2))[j]? = (flatK encP 2 l.toArray).toList[j]? := by rw [ht, flatK_flat]
  rw [List.getElem?_take_of_lt hj'] at h1
  simp only [World.cell?, hb, Nat.zero_add]
  simp only [Option.isSome_none, Bool.false_eq_true, if_false]
  rw [← Array.getElem?_toList, h1, Array.getElem?_toList, Array.getElem?_eq_getElem hj, getElem!_pos _ j hj]
  rfl
theorem grownBy_sortK {w : World} {g n : Nat} {os : Array Obj} (d : Array (Int × Int)) : w.grownBy (sortWorldK encP 2 w g 0 n d os) (some g) := by
  refine ⟨rfl, rfl, rfl, by simp [sortWorldK, putRowK], fun k hk hne => ?_⟩
  unfold sortWorldK putRowK
  rw [heap_grow_old _ _ (by simpa using hk)]
  have : g ≠ k := fun e => hne (by rw [e])
  simp [putRow, mapBlock, Sort.ahead, Array.getElem?_modify, this]
theorem heap_sortK {w : World} {g n : Nat} {os : Array Obj} {cur : Array Value} {e : TypeId} {fr : Nat × Nat} (d : Array (Int × Int)) (hb : w.heap[g]? = some (.cells cur e fr)) :
    (sortWorldK encP 2 w g 0 n d os).heap[g]? = some (.cells (putCells id 0 (flatK encP 2 d) cur) e fr) := by
  have hg : g < w.heap.size := (Array.getElem?_eq_some_iff.1 hb).1
  unfold sortWorldK putRowK
  rw [heap_grow_old _ _ (by simpa using hg)]
  simp [putRow, mapBlock, Sort.ahead, Array.getElem?_modify, hb, onCells]
theorem take_putCellsK (cur : Array Value) (ts : List (Int × Int)) (h : ts.length * 2 ≤ cur.size) : (putCells id 0 (flatK encP 2 ts.toArray) cur).toList.take (ts.length * 2) = flat ts := by
  rw [← flatK_flat]
  apply List.ext_getElem?
  intro j
  by_cases hj : j < ts.length * 2
  · rw [List.getElem?_take_of_lt hj, Array.getElem?_toList, Array.getElem?_toList]
    have h2 : j < (flatK encP 2 ts.toArray).size := by simpa using hj
    simp only [putCells, Array.getElem?_mapIdx, Array.getElem?_eq_getElem (show j < cur.size by omega), Option.map_some, Nat.zero_add, Nat.zero_le, true_and, if_pos h2, Nat.sub_zero, id]
    rw [getElem!_pos _ j h2, Array.getElem?_eq_getElem h2]
  · rw [List.getElem?_take_eq_none (by omega), List.getElem?_eq_none (by simp; omega)]
/-- behind the sort the same slice owns the sorted spans -/
theorem ownsRow_sortK {w : World} {base g cap n : Nat} {e : TypeId} {os : Array Obj} {cur : Array Value} {ss ts : List (Int × Int)} (hl : ts.length = ss.length) (hbase : base ≤ g) (hb : w.heap[g]? = some (.cells cur e (0, 0)))
    (h1 : ss.length ≤ cap) (h2 : cap ≤ maxLen) (h3 : cur.size = cap * 2) :
    (sortWorldK encP 2 w g 0 n ts.toArray os).ownsRow base e 2 (.slice (some ⟨g, 0, none⟩) ss.length cap) ss.length (flat ts) :=
  ⟨by rw [flat_length, hl], .inr ⟨g, cap, _, rfl, hbase, heap_sortK _ hb, h1, h2, by simp [putCells, h3], by rw [← hl]; exact take_putCellsK cur ts (by omega)⟩⟩
theorem perm_list {l : List (Int × Int)} {d : Array (Int × Int)} (h : PermIn 0 l.toArray.size l.toArray d) : d.toList.Perm l := by
  obtain ⟨h1, _, h3⟩ := h
  have e : d.extract 0 l.toArray.size = d := by rw [← h1]; simp
  rw [e] at h3
  simpa using h3
end Go.Proofs.YtcnmbldikjljeaaGreatDoor
namespace Go.Proofs.YtcnmbldikjljeaaGreatDoor
open Go.RowKit

def nilVs : Nat → Value := fun _ => .slice none 0 0
theorem rd0_cells : ((Tryz.zeroCells199.setIfInBounds 0 (.int .i64 0)).setIfInBounds 10 (.int .i64 (-1))).setIfInBounds 13 (.int .i64 (-1)) = ((List.range 91).map (enc rs0 nilVs)).toArray := by kernel_rfl
def frees (f : Nat → Bool) : List Value := (List.range 70).map fun j => .bool (f j)
/-- a calendar that is being made: k days are joined -/
structure PJ (B b g : Nat) (w0 w : World) (s : RS) (vs us : Nat → Value) (A : Nat → List (Int × Int)) (k : Nat) : Prop where
  below : Below B w0 w
  hB : B ≤ b
  hb : b < g
  lt : g < w.heap.size
  week : ∀ j, j < 7 → w.cell? ⟨g, j, none⟩ = some (if j < k then us j else .slice none 0 0)
  free : ∀ j, j < 70 → w.cell? ⟨g, 7 + j, none⟩ = some (.bool (s.free j))
  frz : ∀ j, w.frozen? ⟨g, j, none⟩ = false
  own : ∀ j, k ≤ j → j < 7 → w.ownsRow (b + 2) 140 2 (vs j) (s.week j).length (flat (s.week j))
  old : ∀ j q, j < 7 → (vs j).ownBlock = some q → b + 2 ≤ q ∧ q < g
  apart : ∀ i j, i < 7 → j < 7 → i ≠ j → (vs i).ownBlock = none ∨ (vs i).ownBlock ≠ (vs j).ownBlock
  new : ∀ j, j < k → w.ownsRow (g + 1) 140 2 (us j) (A j).length (flat (A j)) ∧ JoinOf (s.week j) (A j)
/-- a calendar in memory: its spans, joined -/
structure CalM (w : World) (g : Nat) (wk : Nat → List (Int × Int)) (fr : Nat → Bool) : Prop where
  lt : g < w.heap.size
  week : ∀ j, j < 7 → ∃ v, w.cell? ⟨g, j, none⟩ = some v ∧ w.ownsRow 0 140 2 v (wk j).length (flat (wk j))
  free : ∀ j, j < 70 → w.cell? ⟨g, 7 + j, none⟩ = some (.bool (fr j))
theorem CalM.on {w w' : World} {g : Nat} {wk : Nat → List (Int × Int)} {fr : Nat → Bool} (h : CalM w g wk fr) (hb : Below w.heap.size w w') : CalM w' g wk fr := by
  have hg : w.grownBy w' none := ⟨hb.os, hb.tape, hb.output, hb.size, fun k hk _ => hb.block k hk⟩
  refine ⟨Nat.lt_of_lt_of_le h.lt hb.size, fun j hj => ?_, fun j hj => ?_⟩
  · obtain ⟨v, h1, h2⟩ := h.week j hj
    exact ⟨v, (hb.cell (p := ⟨g, j, none⟩) h.lt).trans h1, h2.kept hg (by cases v.ownBlock <;> simp)⟩
  · exact (hb.cell (p := ⟨g, 7 + j, none⟩) h.lt).trans (h.free j hj)
/-- a calendar in memory, by the spans that its text names -/
def CalW (w : World) (g : Nat) (raw : Nat → List (Int × Int)) (fr : Nat → Bool) : Prop := ∃ wk, CalM w g wk fr ∧ ∀ j, j < 7 → JoinOf (raw j) (wk j)
theorem CalW.lt {w : World} {g : Nat} {raw : Nat → List (Int × Int)} {fr : Nat → Bool} (h : CalW w g raw fr) : g < w.heap.size := by
  obtain ⟨wk, h, _⟩ := h; exact h.lt
theorem CalW.on {w w' : World} {g : Nat} {raw : Nat → List (Int × Int)} {fr : Nat → Bool} (h : CalW w g raw fr) (hb : Below w.heap.size w w') : CalW w' g raw fr := by
  obtain ⟨wk, h, hj⟩ := h; exact ⟨wk, h.on hb, hj⟩
theorem ownsRow_base {w : World} {b b' : Nat} {e : TypeId} {size : Nat} {v : Value} {n : Nat} {xs : List Value} (h : w.ownsRow b e size v n xs) (hb : b' ≤ b) : w.ownsRow b' e size v n xs := by
  refine ⟨h.1, ?_⟩
  rcases h.2 with hn | ⟨g, cap, cur, h1, h2, h3⟩
  · exact .inl hn
  · exact .inr ⟨g, cap, cur, h1, by omega, h3⟩

theorem ownsRow_form {w : World} {b : Nat} {e : TypeId} {size : Nat} {v : Value} {n : Nat} {xs : List Value} (h : w.ownsRow b e size v n xs) : ∃ a l c, v = .slice a l c := by
  rcases h.2 with ⟨rfl, _⟩ | ⟨g, cap, cur, rfl, _⟩
  · exact ⟨_, _, _, rfl⟩
  · exact ⟨_, _, _, rfl⟩
section
variable {B b g k : Nat} {w0 w : World} {s : RS} {vs us : Nat → Value} {A : Nat → List (Int × Int)}
theorem PJ.on {w' : World} (h : PJ B b g w0 w s vs us A k) (hb : Below w.heap.size w w') : PJ B b g w0 w' s vs us A k := by
  have hg : w.grownBy w' none := ⟨hb.os, hb.tape, hb.output, hb.size, fun k hk _ => hb.block k hk⟩
  have hlt := h.lt
  have hbg := h.hb
  have hB := h.hB
  refine ⟨h.below.trans (hb.mono (by omega)), h.hB, h.hb, Nat.lt_of_lt_of_le h.lt hb.size, fun j hj => (hb.cell (p := ⟨g, j, none⟩) h.lt).trans (h.week j hj), fun j hj => (hb.cell (p := ⟨g, 7 + j, none⟩) h.lt).trans (h.free j hj), fun j => (hb.frozen (p := ⟨g, j, none⟩) h.lt).trans (h.frz j), fun j h1 h2 => (h.own j h1 h2).kept hg (by cases (vs j).ownBlock <;> simp), h.old, h.apart, fun j hj => ⟨(h.new j hj).1.kept hg (by cases (us j).ownBlock <;> simp), (h.new j hj).2⟩⟩
theorem PJ.step {w1 : World} {v : Value} {l : List (Int × Int)} (h : PJ B b g w0 w s vs us A k) (hk : k < 7) (hg : w.grownBy w1 (vs k).ownBlock) (hown : w1.ownsRow w.heap.size 140 2 v l.length (flat l)) (hJ : JoinOf (s.week k) l) :
    PJ B b g w0 (w1.setCell ⟨g, k, none⟩ v) s vs (fun j => if j = k then v else us j) (fun j => if j = k then l else A j) (k + 1) := by
  have hlt := h.lt
  have hbg := h.hb
  have hB := h.hB
  have hne : some g ≠ (vs k).ownBlock := fun e => by have := (h.old k g hk e.symm).2; omega
  have hblk := hg.block g hlt hne
  have hc : ∀ j, w1.cell? ⟨g, j, none⟩ = w.cell? ⟨g, j, none⟩ := fun j => World.cell?_of_block hblk
  have hsz := hg.size
  refine ⟨(h.below.grown hg (by omega) (fun q hq => by have := (h.old k q hk hq).1; omega)).setCell (by simp; omega) _, h.hB, h.hb, by simp; omega, fun j hj => ?_, fun j hj => ?_, fun j => ?_, fun j h1 h2 => ?_, h.old, h.apart, fun j hj2 => ?_⟩
  · by_cases e : j = k
    · subst e
      rw [sc_eq (by rw [hc]; exact h.week j hj), if_pos (by omega), if_pos rfl]
    · rw [sc_ne (by omega), hc, h.week j hj, if_neg e]
      by_cases q : j < k
      · rw [if_pos q, if_pos (by omega)]
      · rw [if_neg q, if_neg (by omega)]
  · rw [sc_ne (by omega), hc]; exact h.free j hj
  · rw [World.frozen?_setCell, World.frozen?_of_block hblk]; exact h.frz j
  · have hr := (h.own j (by omega) h2).kept hg (h.apart j k h2 hk (by omega))
    refine hr.kept (row := some g) ⟨rfl, rfl, rfl, by simp, fun q hq hne2 => Below.heap_setCell _ _ _ q (fun e => hne2 (by rw [e]))⟩ ?_
    cases hv : (vs j).ownBlock with
    | none => exact .inl rfl
    | some q =>
      right
      intro e
      injection e with e
      have := (h.old j q h2 hv).2
      omega
  · by_cases e : j = k
    · subst e
      rw [if_pos rfl, if_pos rfl]
      exact ⟨ownsRow_base (b := w.heap.size) (ownsRow_setCell_below hown (a := ⟨g, j, none⟩) (by simpa using hlt) v) (by omega), hJ⟩
    · rw [if_neg e, if_neg e]
      obtain ⟨n1, n2⟩ := h.new j (by omega)
      refine ⟨ownsRow_setCell_below (n1.kept hg ?_) (a := ⟨g, k, none⟩) (by simp) v, n2⟩
      cases hv : (vs k).ownBlock with
      | none => cases (us j).ownBlock <;> simp
      | some q =>
        cases hu : (us j).ownBlock with
        | none => exact .inl rfl
        | some r =>
          right
          intro e2
          injection e2 with e2
          have a1 := (h.old k q hk hv).2
          have a2 := (n1.lt r hu).1
          omega
theorem PJ.room {w1 : World} (h : PJ B b g w0 w s vs us A k) (hk : k < 7) (hg : w.grownBy w1 (vs k).ownBlock) : w1.cell? ⟨g, k, none⟩ = some (.slice none 0 0) ∧ w1.frozen? ⟨g, k, none⟩ = false := by
  have hlt := h.lt
  have hne : some g ≠ (vs k).ownBlock := fun e => by have := (h.old k g hk e.symm).2; omega
  have hblk := hg.block g hlt hne
  refine ⟨?_, ?_⟩
  · rw [World.cell?_of_block (a := ⟨g, k, none⟩) hblk, h.week k hk, if_neg (by omega)]
  · rw [World.frozen?_of_block (a := ⟨g, k, none⟩) hblk]; exact h.frz k
theorem PJ.cal (h : PJ B b g w0 w s vs us A 7) : CalW w g s.week s.free :=
  ⟨A, ⟨h.lt, fun j hj => ⟨us j, by rw [h.week j hj, if_pos hj], ownsRow_base (h.new j hj).1 (by omega)⟩, h.free⟩, fun j hj => (h.new j hj).2⟩
end
section
variable {it : Obj} {B b : Nat} {w0 w : World} {s : RS} {vs : Nat → Value}
theorem RW.made (h : RW it B b w0 w s vs) (cs : Array Value) (hcs : ∀ j, j < 77 → cs[j]? = some (if j < 7 then .slice none 0 0 else .bool (s.free (j - 7)))) : PJ B b w.heap.size w0 (w.alloc (.cells cs 105)) s vs nilVs (fun _ => []) 0 := by
  have hB := h.hB
  have hb := h.hb
  refine ⟨h.below.alloc (by omega) _, hB, hb, by simp, fun j hj => ?_, fun j hj => ?_, fun j => World.frozen?_alloc_at _ _ _ _ rfl, fun j _ hj => (h.own j hj).alloc _, fun j q hj hq => (h.own j hj).lt q hq, h.apart, fun j hj => by omega⟩
  · rw [World.cell?_alloc_at _ _ _ _ rfl, hcs j (by omega), if_pos hj, if_neg (by omega)]
  · rw [World.cell?_alloc_at _ _ _ _ rfl, hcs (7 + j) (by omega), if_neg (by omega)]
    congr 3; omega
theorem RW.iterAt {str : ByteArray} {p : Nat} (h : RW (.stringIter str p) B b w0 w s vs) (p' : Nat) : RW (.stringIter str p') B b w0 (w.iterAt (b + 1) str p') s vs := by
  have hB := h.hB
  have hn := h.n0
  have ho : ∀ j, j ≠ b + 1 → (w.iterAt (b + 1) str p').heap[j]? = w.heap[j]? := fun j hj => Lib.iterAt_other w (b + 1) j str p' hj
  have hsz := Lib.iterAt_size w (b + 1) str p'
  refine ⟨Lib.below_iterAt h.below (by omega) str p', h.hB, by rw [hsz]; exact h.hb, ?_, ?_, ?_, h.apart, ?_, h.n0, Lib.iterAt_heap w (b + 1) str p p' h.iter⟩
  · intro j hj; rw [World.cell?_of_block (w := w) (ho b (by omega))]; exact h.cell j hj
  · intro j; rw [World.frozen?_of_block (w := w) (ho b (by omega))]; exact h.frz j
  · intro j hj
    exact ownsRow_iterAt (h.own j hj) (by omega) str p'
  · intro j hj; rw [World.cell?_of_block (w := w) (ho 0 (by omega))]; exact h.names j hj
end
theorem RW.start (w : World) (s : ByteArray) (cs : Array Value) (h0 : 0 < w.heap.size) (hnm : ∀ j, j < 7 → w.cell? ⟨0, j, none⟩ = some (nmV j)) (hcs : ∀ j, j < 91 → cs[j]? = some (enc rs0 nilVs j)) :
    RW (.stringIter s 0) w.heap.size w.heap.size w ((w.alloc (.cells cs 199)).iter s 0) rs0 nilVs := by
  have hb1 : Below w.heap.size w (w.alloc (.cells cs 199)) := (Below.refl _ _).alloc (Nat.le_refl _) _
  have hb2 : Below (w.heap.size + 1) (w.alloc (.cells cs 199)) ((w.alloc (.cells cs 199)).iter s 0) := (Below.refl _ _).alloc (by simp) _
  have hi := World.iter_heap (w.alloc (.cells cs 199)) s 0
  refine ⟨hb1.trans (hb2.mono (by omega)), Nat.le_refl _, ?_, ?_, ?_, ?_, ?_, ?_, h0, ?_⟩
  · have := hb2.size; simp at this; omega
  · intro j hj
    rw [hb2.cell (p := ⟨w.heap.size, j, none⟩) (by simp), World.cell?_alloc_at _ _ _ _ rfl]; exact hcs j hj
  · intro j
    rw [hb2.frozen (p := ⟨w.heap.size, j, none⟩) (by simp)]; exact World.frozen?_alloc_at _ _ _ _ rfl
  · intro j hj; exact World.ownsRow_nil _ _ _ _
  · intro i j _ _ _; exact .inl rfl
  · intro j hj
    rw [hb2.cell (p := ⟨0, j, none⟩) (by simp), hb1.cell (p := ⟨0, j, none⟩) (by simpa using h0)]; exact hnm j hj
  · simpa using hi

set_option maxRecDepth 100000 in
set_option maxHeartbeats 1000000 in
theorem newReader_any (w : World) :
    Calls Tryz.prog 101 #[] w fun e w' => e = .returned (P0 w.heap.size) ∧ ∃ cs, w' = w.alloc (.cells cs 199) ∧ ∀ j, j < 91 → cs[j]? = some (enc rs0 nilVs j) := by
  go_enter Tryz.func101, Tryz.ntmps101
  go_wp2
  go_ret
  refine ⟨rfl, _, rfl, ?_⟩
  rw [rd0_cells]
  intro j hj
  simp [hj]
end Go.Proofs.YtcnmbldikjljeaaGreatDoor
namespace Go.Proofs.YtcnmbldikjljeaaGreatDoor
open Go.Shelf

def sortSpan_ren : Go.Shelf.Ren := ⟨fun | 6 => 154 | 15 => 79 | 14 => 176 | 28 => 127 | 29 => 128 | 20 => 178 | 21 => 179 | 22 => 180 | 23 => 181 | 24 => 182 | 25 => 183 | 26 => 184 | 27 => 185 | 46 => 186 | 47 => 165 | 48 => 166 | 49 => 187 | 50 => 188 | 57 => 189 | n => n, fun | 22 => 101 | 24 => 140 | 25 => 249 | 3 => 3 | 39 => 179 | 0 => 0 | 53 => 96 | 55 => 223 | 4 => 4 | 46 => 215 | 45 => 214 | 50 => 219 | 5 => 5 | 9 => 9 | 66 => 254 | 70 => 258 | 76 => 266 | 77 => 42 | n => n, fun | n => n⟩
theorem sortSpan : Go.Proofs.SlLaysF0.n6 Tryz.prog sortSpan_ren where
  mixed := by kernel_rfl
  f6 := ⟨ "slices.SortFunc[[]docket/docket.span,docket/docket.span]", by decide, Tryz.func154.trans (congrArg some (by kernel_rfl))⟩
  f14 := ⟨ "slices.pdqsortCmpFunc[docket/docket.span]", by decide, Tryz.func176.trans (congrArg some (by kernel_rfl))⟩
  f15 := Tryz.func79.trans (congrArg some (by kernel_rfl))
  f20 := ⟨ "slices.insertionSortCmpFunc[docket/docket.span]", by decide, Tryz.func178.trans (congrArg some (by kernel_rfl))⟩
  f21 := ⟨ "slices.heapSortCmpFunc[docket/docket.span]", by decide, Tryz.func179.trans (congrArg some (by kernel_rfl))⟩
  f22 := ⟨ "slices.breakPatternsCmpFunc[docket/docket.span]", by decide, Tryz.func180.trans (congrArg some (by kernel_rfl))⟩
  f23 := ⟨ "slices.choosePivotCmpFunc[docket/docket.span]", by decide, Tryz.func181.trans (congrArg some (by kernel_rfl))⟩
  f24 := ⟨ "slices.reverseRangeCmpFunc[docket/docket.span]", by decide, Tryz.func182.trans (congrArg some (by kernel_rfl))⟩
  f25 := ⟨ "slices.partialInsertionSortCmpFunc[docket/docket.span]", by decide, Tryz.func183.trans (congrArg some (by kernel_rfl))⟩
  f26 := ⟨ "slices.partitionEqualCmpFunc[docket/docket.span]", by decide, Tryz.func184.trans (congrArg some (by kernel_rfl))⟩
  f27 := ⟨ "slices.partitionCmpFunc[docket/docket.span]", by decide, Tryz.func185.trans (congrArg some (by kernel_rfl))⟩
  f28 := Tryz.func127.trans (congrArg some (by kernel_rfl))
  f29 := Tryz.func128.trans (congrArg some (by kernel_rfl))
  f46 := ⟨ "slices.siftDownCmpFunc[docket/docket.span]", by decide, Tryz.func186.trans (congrArg some (by kernel_rfl))⟩
  f47 := Tryz.func165.trans (congrArg some (by kernel_rfl))
  f48 := Tryz.func166.trans (congrArg some (by kernel_rfl))
  f49 := ⟨ "slices.medianAdjacentCmpFunc[docket/docket.span]", by decide, Tryz.func187.trans (congrArg some (by kernel_rfl))⟩
  f50 := ⟨ "slices.medianCmpFunc[docket/docket.span]", by decide, Tryz.func188.trans (congrArg some (by kernel_rfl))⟩
  f57 := ⟨ "slices.order2CmpFunc[docket/docket.span]", by decide, Tryz.func189.trans (congrArg some (by kernel_rfl))⟩
  t0 := Tryz.underlying0
  a0 := Tryz.isAgg0
  z0 := Tryz.sizeOf0
  v0 := Tryz.zeroValue0
  t3 := Tryz.underlying3
  a3 := Tryz.isAgg3
  z3 := Tryz.sizeOf3
  v3 := Tryz.zeroValue3
  t4 := Tryz.underlying4
  a4 := Tryz.isAgg4
  z4 := Tryz.sizeOf4
  v4 := Tryz.zeroValue4
  t5 := Tryz.underlying5
  a5 := Tryz.isAgg5
  z5 := Tryz.sizeOf5
  v5 := Tryz.zeroValue5
  t9 := Tryz.underlying9
  a9 := Tryz.isAgg9
  z9 := Tryz.sizeOf9
  v9 := Tryz.zeroValue9
  t22 := Tryz.underlying101
  a22 := Tryz.isAgg101
  z22 := Tryz.sizeOf101
  v22 := Tryz.zeroValue101
  t25 := Tryz.underlying249
  a25 := Tryz.isAgg249
  z25 := Tryz.sizeOf249
  v25 := Tryz.zeroValue249
  t39 := Tryz.underlying179
  a39 := Tryz.isAgg179
  z39 := Tryz.sizeOf179
  v39 := Tryz.zeroValue179
  t45 := Tryz.underlying214
  a45 := Tryz.isAgg214
  z45 := Tryz.sizeOf214
  v45 := Tryz.zeroValue214
  t46 := Tryz.underlying215
  a46 := Tryz.isAgg215
  z46 := Tryz.sizeOf215
  v46 := Tryz.zeroValue215
  t50 := Tryz.underlying219
  a50 := Tryz.isAgg219
  z50 := Tryz.sizeOf219
  v50 := Tryz.zeroValue219
  t53 := Tryz.underlying96
  a53 := Tryz.isAgg96
  z53 := Tryz.sizeOf96
  v53 := Tryz.zeroValue96
  t55 := Tryz.underlying223
  a55 := Tryz.isAgg223
  z55 := Tryz.sizeOf223
  v55 := Tryz.zeroValue223
  t66 := Tryz.underlying254
  a66 := Tryz.isAgg254
  z66 := Tryz.sizeOf254
  v66 := Tryz.zeroValue254
  t70 := Tryz.underlying258
  a70 := Tryz.isAgg258
  z70 := Tryz.sizeOf258
  v70 := Tryz.zeroValue258
  t76 := Tryz.underlying266
  a76 := Tryz.isAgg266
  z76 := Tryz.sizeOf266
  v76 := Tryz.zeroValue266
  t77 := Tryz.underlying42
  a77 := Tryz.isAgg42
  z77 := Tryz.sizeOf42
  v77 := Tryz.zeroValue42
end Go.Proofs.YtcnmbldikjljeaaGreatDoor
