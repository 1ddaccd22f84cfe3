import Derived.Test.YtcnmbldikjljeaaGreatDoorT05
import Derived.Deep.AppendLies
import Derived.Deep.RegionHeld3
import Derived.Deep.RegionLaw
import Derived.Test.YtcnmbldikjljeaaGreatDoorT04
import Derived.Test.YtcnmbldikjljeaaGreatDoorT01
import Derived.Shelf.GgSortFunc.InsertionK
namespace Go.Proofs.YtcnmbldikjljeaaGreatDoor
open Go.RowKit
section
variable {it : Obj} {B b : Nat} {w0 w : World} {s : RS} {vs : Nat → Value}

def putW (s : RS) (p : Int × Int) (k : Nat) : Nat → List (Int × Int) := fun j => if j = k then s.week k ++ [p] else s.week j
def addTo (s : RS) (p : Int × Int) (k : Nat) : Nat → List (Int × Int) := fun j => if j < k ∧ s.days j = true then s.week j ++ [p] else s.week j
theorem flat_snoc (l : List (Int × Int)) (p : Int × Int) : flat (l ++ [p]) = flat l ++ [.int .i64 p.1, .int .i64 p.2] := by simp [flat]

theorem RW.append {w1 : World} (h : RW it B b w0 w s vs) (k : Nat) (hk : k < 7) (p : Int × Int) (g cap : Nat)
    (hown : w1.ownsRow (b + 2) 140 2 (.slice (some ⟨g, 0, none⟩) ((s.week k).length + 1) cap) ((s.week k).length + 1) (flat (s.week k) ++ [.int .i64 p.1, .int .i64 p.2]))
    (hg : w.grownBy w1 (vs k).ownBlock) (hat : (vs k).ownBlock = some g ∨ g = w.heap.size) :
    RW it B b w0 (w1.setCell ⟨b, 14 + k, none⟩ (.slice (some ⟨g, 0, none⟩) ((s.week k).length + 1) cap)) { s with week := putW s p k } (fun j => if j = k then .slice (some ⟨g, 0, none⟩) ((s.week k).length + 1) cap else vs j) := by
  have hB := h.hB
  have hbb := h.hb
  have hn := h.n0
  have hlo : ∀ m, (vs k).ownBlock = some m → b + 2 ≤ m := fun m hm => ((h.own k hk).lt m hm).1
  have hne : some b ≠ (vs k).ownBlock := fun e => by have := hlo b e.symm; omega
  have hne0 : some 0 ≠ (vs k).ownBlock := fun e => by have := hlo 0 e.symm; omega
  have hit : b + 1 < w.heap.size := (Array.getElem?_eq_some_iff.1 h.iter).1
  have hne1 : some (b + 1) ≠ (vs k).ownBlock := fun e => by have := hlo (b + 1) e.symm; omega
  have hgb : b < g := by
    rcases hat with e | e
    · have := hlo g e; omega
    · omega
  have hcell : ∀ j, w1.cell? ⟨b, j, none⟩ = w.cell? ⟨b, j, none⟩ := fun j => World.cell?_of_block (hg.block b hbb hne)
  have hfrz : ∀ j, w1.frozen? ⟨b, j, none⟩ = w.frozen? ⟨b, j, none⟩ := fun j => World.frozen?_of_block (hg.block b hbb hne)
  refine ⟨(h.below.grown hg (by omega) (fun m hm => by have := hlo m hm; omega)).setCell (by simp; omega) _, h.hB, by have := hg.size; simp; omega, ?_, ?_, ?_, ?_, ?_, h.n0, (Below.heap_setCell _ _ _ _ (by simp)).trans ((hg.block _ hit hne1).trans h.iter)⟩
  · intro j hj
    by_cases e : j = 14 + k
    · subst e
      rw [sc_eq (u := vs k) (by rw [hcell]; exact h.cw k hk)]
      simp only [enc]
      rw [if_neg (by omega), if_neg (by omega), if_neg (by omega), if_neg (by omega), if_neg (by omega), if_neg (by omega), if_neg (by omega), if_neg (by omega), if_pos (by omega), if_pos (by omega)]
    · rw [sc_ne (by omega), hcell, h.cell j hj]
      simp only [enc]
      by_cases g1 : j < 21
      · by_cases g2 : j < 14
        · repeat (first | rfl | (split; · rfl))
          omega
        · rw [if_neg (by omega : ¬ j - 14 = k)]
      · simp only [if_neg g1]
  · intro j; rw [World.frozen?_setCell, hfrz]; exact h.frz j
  · intro j hj
    simp only [putW]
    by_cases e : j = k
    · subst e
      rw [if_pos rfl, if_pos rfl, flat_snoc]
      refine ownsRow_setCell_below ?_ (by simp) _
      rw [List.length_append]; exact hown
    · rw [if_neg e, if_neg e]
      exact ownsRow_setCell_below ((h.own j hj).kept hg (h.apart j k hj hk e)) (by simp) _
  · intro i j hi hj hij
    by_cases ei : i = k
    · subst ei
      rw [if_pos rfl, if_neg (Ne.symm hij)]
      right
      simp only [Value.ownBlock]
      intro e
      rcases hat with hat | hat
      · rcases h.apart i j hi hj hij with a | a
        · rw [a] at hat; cases hat
        · exact a (hat.trans e)
      · have := ((h.own j hj).lt g e.symm).2; omega
    · rw [if_neg ei]
      by_cases ej : j = k
      · subst ej
        rw [if_pos rfl]
        cases hv : (vs i).ownBlock with
        | none => exact .inl rfl
        | some m =>
          right
          simp only [Value.ownBlock]
          intro e
          injection e with e
          subst e
          rcases hat with hat | hat
          · rcases h.apart i j hi hj hij with a | a
            · rw [a] at hv; cases hv
            · exact a (hv.trans hat.symm)
          · have := ((h.own i hi).lt m hv).2; omega
      · rw [if_neg ej]; exact h.apart i j hi hj hij
  · intro j hj
    rw [sc_ne (by omega), World.cell?_of_block (w := w) (hg.block 0 (by omega) hne0)]
    exact h.names j hj

theorem spanInfo : (Tryz.prog.info? 140).map (fun i => (i.zero, i.size, i.bytes)) = some (some (.agg #[.int .i64 0, .int .i64 0]), 2, 16) := by kernel_rfl
theorem jx0 (a b c d e f g : Bool) (w : World) : (Instr.index 197 (.agg #[.bool a, .bool b, .bool c, .bool d, .bool e, .bool f, .bool g]) (.int .i64 0)).run Tryz.prog w = .ok (.bool a) w := by kernel_rfl
theorem jx1 (a b c d e f g : Bool) (w : World) : (Instr.index 197 (.agg #[.bool a, .bool b, .bool c, .bool d, .bool e, .bool f, .bool g]) (.int .i64 1)).run Tryz.prog w = .ok (.bool b) w := by kernel_rfl
theorem jx2 (a b c d e f g : Bool) (w : World) : (Instr.index 197 (.agg #[.bool a, .bool b, .bool c, .bool d, .bool e, .bool f, .bool g]) (.int .i64 2)).run Tryz.prog w = .ok (.bool c) w := by kernel_rfl
theorem jx3 (a b c d e f g : Bool) (w : World) : (Instr.index 197 (.agg #[.bool a, .bool b, .bool c, .bool d, .bool e, .bool f, .bool g]) (.int .i64 3)).run Tryz.prog w = .ok (.bool d) w := by kernel_rfl
theorem jx4 (a b c d e f g : Bool) (w : World) : (Instr.index 197 (.agg #[.bool a, .bool b, .bool c, .bool d, .bool e, .bool f, .bool g]) (.int .i64 4)).run Tryz.prog w = .ok (.bool e) w := by kernel_rfl
theorem jx5 (a b c d e f g : Bool) (w : World) : (Instr.index 197 (.agg #[.bool a, .bool b, .bool c, .bool d, .bool e, .bool f, .bool g]) (.int .i64 5)).run Tryz.prog w = .ok (.bool f) w := by kernel_rfl
theorem jx6 (a b c d e f g : Bool) (w : World) : (Instr.index 197 (.agg #[.bool a, .bool b, .bool c, .bool d, .bool e, .bool f, .bool g]) (.int .i64 6)).run Tryz.prog w = .ok (.bool g) w := by kernel_rfl

theorem own_ne_b {n : Nat} {v : Value} {k : Nat} {xs : List Value} {t : TypeId} (h : w.ownsRow (b + 2) t n v k xs) : some b ≠ v.ownBlock := fun e => by have := (h.lt b e.symm).1; omega
theorem jx (d : Nat → Bool) (k : Nat) (hk : k < 7) (w : World) : (Instr.index 197 (.agg #[.bool (d 0), .bool (d 1), .bool (d 2), .bool (d 3), .bool (d 4), .bool (d 5), .bool (d 6)]) (.int .i64 k)).run Tryz.prog w = .ok (.bool (d k)) w := by
  match k, hk with
  | 0, _ => exact jx0 _ _ _ _ _ _ _ w
  | 1, _ => exact jx1 _ _ _ _ _ _ _ w
  | 2, _ => exact jx2 _ _ _ _ _ _ _ w
  | 3, _ => exact jx3 _ _ _ _ _ _ _ w
  | 4, _ => exact jx4 _ _ _ _ _ _ _ w
  | 5, _ => exact jx5 _ _ _ _ _ _ _ w
  | 6, _ => exact jx6 _ _ _ _ _ _ _ w
theorem addTo_zero (s : RS) (p : Int × Int) : addTo s p 0 = s.week := by funext j; simp [addTo]
theorem addTo_skip (s : RS) (p : Int × Int) (k : Nat) (h : s.days k = false) : addTo s p k = addTo s p (k + 1) := by
  funext j; simp only [addTo]
  by_cases e : j = k
  · subst e; simp [h]
  · have : (j < k) ↔ (j < k + 1) := by omega
    simp only [this]
theorem addTo_step (s : RS) (p : Int × Int) (k : Nat) (h : s.days k = true) : putW { s with week := addTo s p k } p k = addTo s p (k + 1) := by
  funext j; simp only [addTo, putW]
  by_cases e : j = k
  · subst e; simp [h]
  · have : (j < k) ↔ (j < k + 1) := by omega
    simp only [this, if_neg e]
theorem RW.weekC (h : RW it B b w0 w s vs) (d : Nat → List (Int × Int)) (hd : ∀ j, j < 7 → s.week j = d j) : RW it B b w0 w { s with week := d } vs := by
  refine ⟨h.below, h.hB, h.hb, h.cell, h.frz, ?_, h.apart, h.names, h.n0, h.iter⟩
  intro j hj; have := h.own j hj; rw [hd j hj] at this; exact this
theorem addTo_len (s : RS) (p : Int × Int) (k j n : Nat) (h : ∀ j, (s.week j).length ≤ n) : (addTo s p k j).length ≤ n + 1 := by
  unfold addTo; have := h j; split <;> simp <;> omega

set_option maxRecDepth 100000 in
set_option maxHeartbeats 4000000 in
theorem addSpan_any (R : RW it B b w0 w s vs) (p1 p2 : Int) (hl : ∀ j, (s.week j).length ≤ 1000) :
    Calls Tryz.prog 174 #[P0 b, .agg #[.int .i64 p1, .int .i64 p2]] w fun e w' => e = .returned (.tuple #[]) ∧ ∃ vs', RW it B b w0 w' { s with week := addW s (p1, p2) } vs' := by
  have d0 := R.cd 0 (by omega)
  have d1 := R.cd 1 (by omega)
  have d2 := R.cd 2 (by omega)
  have d3 := R.cd 3 (by omega)
  have d4 := R.cd 4 (by omega)
  have d5 := R.cd 5 (by omega)
  have d6 := R.cd 6 (by omega)
  simp only [Nat.reduceAdd] at d0 d1 d2 d3 d4 d5 d6
  have hbz := R.hb
  go_enter Tryz.func174, Tryz.ntmps174
  go_wp2
  clear d0 d1 d2 d3 d4 d5 d6
  obtain ⟨X, hX⟩ : ∃ X, X = w.heap.size := ⟨_, rfl⟩
  have HX0 := hide hX
  rw [← hX]
  obtain ⟨i0, hi, hz0, hz1, hz2⟩ := info_parts spanInfo
  have HI := hide hi
  clear hi
  have hbX : b ≠ X := by omega
  go_loopw [10] (fun i wr => ∃ (k : Nat) (vk : Nat → Value), k ≤ 7 ∧ i = .int .i64 k ∧ RW it B b w0 wr { s with week := addTo s (p1, p2) k } vk ∧ X < wr.heap.size ∧ wr.cell? ⟨X, 0, none⟩ = some (.int .i64 p1) ∧ wr.cell? ⟨X, 1, none⟩ = some (.int .i64 p2) ∧ Hid (∀ j, j < 7 → (vk j).ownBlock ≠ some X)) (fun i _ => 7 - (intOf i).toNat)
  case atStart =>
    refine ⟨0, vs, by omega, rfl, ?_, by rw [hX]; simp, by rw [hX]; simp, by rw [hX]; simp, ?_⟩
    · exact (R.alloc _).eqv (by rw [addTo_zero])
    · unfold Hid; intro j hj e
      have := ((R.own j hj).lt X e).2; omega
  case round =>
    obtain ⟨k, vk, hk7, rfl, R2, hXw, q0, q1, HO⟩ := hrel
    clear hX
    by_cases hk : k < 7
    · have hix := jx s.days k hk
      have hk' : (k : Int) < 7 := by omega
      cases hd : s.days k
      · have HD := hide hd
        go_wp2
        go_roundw
        case rel => exact ⟨k + 1, vk, by omega, by go_num, R2.eqv (by rw [addTo_skip _ _ _ HD.out]), hXw, q0, q1, HO⟩
        case measure => simp [intOf]; omega
      · have HD := hide hd
        have gk := R2.cw k (by omega)
        have fk := R2.frz (14 + k)
        have hbw := R2.hb
        have hit : b + 1 < wr.heap.size := (Array.getElem?_eq_some_iff.1 R2.iter).1
        have hlk : ({ s with week := addTo s (p1, p2) k }.week k).length ≤ 1001 := addTo_len s (p1, p2) k k 1000 hl
        have hvX := hide (HO.out k hk)
        go_wp2
        go_region_law
          ((refine step_append_lies _ (by rfl) _ _ _ (by rfl) (b + 2) 140 i0 _ 2 16 Tryz.underlying101 HI.out hz0 hz1 hz2 rfl (by omega) (vk k) (addTo s (p1, p2) k k).length (flat (addTo s (p1, p2) k k)) (by rfl) (((R2.alloc _).drew).own k hk)
              ⟨wr.heap.size, 0, none⟩ 1 1 [.int .i64 p1, .int .i64 p2] (by rfl) (by rfl) (World.news_of_block (cs := #[.int .i64 p1, .int .i64 p2]) (t := 140) (fr := (0, 0)) (heap_alloc_new wr _)) (by simp [Value.oneCell'])
              (by omega) (by unfold maxLen; omega) (by omega) (by simp; omega) (wr.heap.size + 1) (by simp) ?_; intro gg cap w1 hown1 hgrow hat hlt; have hc1 := (hgrow.cell_far ⟨b, 14 + k, none⟩ (by simp; omega) (own_ne_b (R2.own k hk))).trans (((R2.alloc _).drew).cw k hk); have hf1 := (hgrow.frozen_far ⟨b, 14 + k, none⟩ (by simp; omega) (own_ne_b (R2.own k hk))).trans (((R2.alloc _).drew).frz (14 + k))))
        all_goals
          have q0' := (hgrow.cell_far ⟨X, 0, none⟩ (by simp; omega) (Ne.symm hvX.out)).trans ((World.cell?_alloc_past _ _ _ hXw).trans q0)
          have q1' := (hgrow.cell_far ⟨X, 1, none⟩ (by simp; omega) (Ne.symm hvX.out)).trans ((World.cell?_alloc_past _ _ _ hXw).trans q1)
          have hsz := hgrow.size
          have R3 := ((R2.alloc (Obj.cells #[.int .i64 p1, .int .i64 p2] 140)).drew).append k hk (p1, p2) gg cap hown1 hgrow (by simpa using hat)
          have hgX : gg ≠ X := by
            rcases hat with e | e
            · intro e2; subst e2; exact hvX.out e
            · omega
          clear hown1 hgrow hat
          go_wp2
          go_roundw
          case rel =>
            refine ⟨k + 1, _, by omega, by go_num, R3.eqv (by rw [← addTo_step _ _ _ HD.out]), by simp at hsz ⊢; omega, ?_, ?_, ?_⟩
            · rw [sc_ne (by omega)]; exact q0'
            · rw [sc_ne (by omega)]; exact q1'
            · unfold Hid; intro j hj
              by_cases e : j = k
              · subst e; simp [Value.ownBlock, hgX]
              · rw [if_neg e]; exact HO.out j hj
          case measure => simp [intOf]; omega
    · go_wp2
      go_end0
      have hk8 : k = 7 := by omega
      subst hk8
      exact ⟨rfl, vk, R2.weekC _ (fun j hj => by simp only [addTo, addW]; simp [hj])⟩
end
end Go.Proofs.YtcnmbldikjljeaaGreatDoor
namespace Go.Proofs.YtcnmbldikjljeaaGreatDoor
open Go.RowKit
section
variable {it : Obj} {B b : Nat} {w0 w : World} {s : RS} {vs : Nat → Value}

set_option maxRecDepth 100000 in
set_option maxHeartbeats 1000000 in
theorem endTime_any (R : RW it B b w0 w s vs) (hl : ∀ j, (s.week j).length ≤ 1000) :
    Calls Tryz.prog 149 #[P0 b] w fun e w' => e = .returned (.bool (endTimeL s).1) ∧ ∃ vs', RW it B b w0 w' (endTimeL s).2 vs' := by
  have f0 := R.frz 0
  have g0 := R.c0
  have f10 := R.frz 10
  have g10 := R.c10
  have f11 := R.frz 11
  have g11 := R.c11
  by_cases h : s.beg = -1
  · have hd : endTimeL s = (true, { s with time := 0, beg := s.time, st := 8 }) := by unfold endTimeL; rw [if_pos h]
    have HD := hide hd
    have e1 : (s.beg == -1) = true := by simp [h]
    clear hd h
    go_enter Tryz.func149, Tryz.ntmps149
    go_wp2
    go_ret
    rw [HD.out]
    exact ⟨rfl, vs, ((R.setTime _).setBeg _).setSt _⟩
  · have e1 : (s.beg == -1) = false := by simp [h]
    by_cases h2 : s.time ≤ s.beg
    · have hd : endTimeL s = (false, { s with time := 0 }) := by unfold endTimeL; rw [if_neg h, if_pos h2]
      have HD := hide hd
      clear hd h
      go_enter Tryz.func149, Tryz.ntmps149
      go_wp2
      go_ret
      rw [HD.out]
      exact ⟨rfl, vs, R.setTime _⟩
    · have hd : endTimeL s = (true, { s with time := 0, week := addW s (s.beg, s.time), beg := -1 }) := by unfold endTimeL; rw [if_neg h, if_neg h2]
      have HD := hide hd
      clear hd h
      go_enter Tryz.func149, Tryz.ntmps149
      go_wp2_with fail
      refine (addSpan_any (R.setTime 0) _ _ hl).mono ?_
      rintro e w' ⟨rfl, vs', R2⟩
      have f10 := R2.frz 10
      have g10 := R2.c10
      go_wp2
      go_ret
      rw [HD.out]
      exact ⟨rfl, vs', R2.setBeg _⟩

set_option maxRecDepth 100000 in
set_option maxHeartbeats 4000000 in
theorem take_any {n : Nat} (R : RW it B b w0 w s vs) (hI : Inv n s) (hn : n ≤ 1000) (c : Int) (p0 : 0 ≤ s.place) (p1 : s.place ≤ 1000) :
    Calls Tryz.prog 102 #[P0 b, .int .i32 c] w fun e w' => e = .returned (.bool (takeL s c).1) ∧ ∃ vs', RW it B b w0 w' (takeL s c).2 vs' := by
  have g0 := R.c0
  have hs : s.st = 0 ∨ s.st = 1 ∨ s.st = 2 ∨ s.st = 3 ∨ s.st = 4 ∨ s.st = 5 ∨ s.st = 6 ∨ s.st = 7 ∨ s.st = 8 ∨ s.st = 9 ∨ s.st = 10 ∨ s.st = 11 ∨ s.st = 12 := by
    have := hI.st0; have := hI.st1; omega
  rcases hs with e | e | e | e | e | e | e | e | e | e | e | e | e
  · have HT := hide (take_st0 c e)
    rw [e] at g0
    clear e
    go_enter Tryz.func102, Tryz.ntmps102
    go_wp2_with fail
    refine (dayFirst_any R _).mono ?_
    rintro e w' ⟨rfl, R2⟩
    go_wp2_with fail
    go_ret
    rw [HT.out]
    exact ⟨rfl, vs, R2⟩
  · have HT := hide (take_st1 c e)
    rw [e] at g0
    clear e
    go_enter Tryz.func102, Tryz.ntmps102
    go_wp2_with fail
    refine (daySecond_any R _).mono ?_
    rintro e w' ⟨rfl, R2⟩
    go_wp2_with fail
    go_ret
    rw [HT.out]
    exact ⟨rfl, vs, R2⟩
  · have HT := hide (take_st2 c e)
    rw [e] at g0
    clear e
    go_enter Tryz.func102, Tryz.ntmps102
    go_wp2_with fail
    refine (dayEnd_any R _).mono ?_
    rintro e w' ⟨rfl, R2⟩
    go_wp2_with fail
    go_ret
    rw [HT.out]
    exact ⟨rfl, vs, R2⟩
  · have HT := hide (take_st3 c e)
    rw [e] at g0
    clear e
    go_enter Tryz.func102, Tryz.ntmps102
    go_wp2_with fail
    refine (timeDigit_any R _ _ _ _ hI.t0 hI.t1 (by omega) (by omega)).mono ?_
    rintro e w' ⟨rfl, R2⟩
    go_wp2_with fail
    go_ret
    rw [HT.out]
    exact ⟨rfl, vs, R2⟩
  · have HT := hide (take_st4 c e)
    rw [e] at g0
    clear e
    go_enter Tryz.func102, Tryz.ntmps102
    go_wp2_with fail
    refine (timeDigit_any R _ _ _ _ hI.t0 hI.t1 (by omega) (by omega)).mono ?_
    rintro e w' ⟨rfl, R2⟩
    go_wp2_with fail
    go_ret
    rw [HT.out]
    exact ⟨rfl, vs, R2⟩
  · have HT := hide (take_st5 c e)
    rw [e] at g0
    clear e
    go_enter Tryz.func102, Tryz.ntmps102
    go_wp2_with fail
    refine (mark_any R _ _ _).mono ?_
    rintro e w' ⟨rfl, R2⟩
    go_wp2_with fail
    go_ret
    rw [HT.out]
    exact ⟨rfl, vs, R2⟩
  · have HT := hide (take_st6 c e)
    rw [e] at g0
    clear e
    go_enter Tryz.func102, Tryz.ntmps102
    go_wp2_with fail
    refine (timeDigit_any R _ _ _ _ hI.t0 hI.t1 (by omega) (by omega)).mono ?_
    rintro e w' ⟨rfl, R2⟩
    go_wp2_with fail
    go_ret
    rw [HT.out]
    exact ⟨rfl, vs, R2⟩
  · have HT := hide (take_st7 c e)
    rw [e] at g0
    clear e
    cases hr : (timeDigitL s c 9 1 9).1
    · have hd : minOnesL s c = timeDigitL s c 9 1 9 := by unfold minOnesL; rw [hr]; rfl
      have HD := hide hd
      have HR := hide hr
      clear hd hr
      go_enter Tryz.func102, Tryz.ntmps102
      go_wp2_with fail
      refine (timeDigit_any R _ _ _ _ hI.t0 hI.t1 (by omega) (by omega)).mono ?_
      rw [HR.out]
      rintro e w' ⟨rfl, R2⟩
      go_wp2_with fail
      go_ret
      rw [HT.out, HD.out, HR.out]
      exact ⟨rfl, vs, R2⟩
    · have hd : minOnesL s c = endTimeL (timeDigitL s c 9 1 9).2 := by unfold minOnesL; rw [hr]; rfl
      have hw : (timeDigitL s c 9 1 9).2.week = s.week := by unfold timeDigitL; split <;> rfl
      have HD := hide hd
      have HR := hide hr
      have HW := hide hw
      clear hd hr hw
      go_enter Tryz.func102, Tryz.ntmps102
      go_wp2_with fail
      refine (timeDigit_any R _ _ _ _ hI.t0 hI.t1 (by omega) (by omega)).mono ?_
      rw [HR.out]
      rintro e w' ⟨rfl, R2⟩
      go_wp2_with fail
      refine (endTime_any R2 (fun j => by rw [HW.out]; exact Nat.le_trans (hI.wk j) hn)).mono ?_
      rintro e w' ⟨rfl, R3⟩
      go_wp2_with fail
      go_ret
      rw [HT.out, HD.out]
      exact ⟨rfl, R3⟩
  · have HT := hide (take_st8 c e)
    rw [e] at g0
    clear e
    go_enter Tryz.func102, Tryz.ntmps102
    go_wp2_with fail
    refine (mark_any R _ _ _).mono ?_
    rintro e w' ⟨rfl, R2⟩
    go_wp2_with fail
    go_ret
    rw [HT.out]
    exact ⟨rfl, vs, R2⟩
  · have HT := hide (take_st9 c e)
    rw [e] at g0
    clear e
    go_enter Tryz.func102, Tryz.ntmps102
    go_wp2_with fail
    refine (spanEnd_any R _).mono ?_
    rintro e w' ⟨rfl, R2⟩
    go_wp2_with fail
    go_ret
    rw [HT.out]
    exact ⟨rfl, vs, R2⟩
  · have HT := hide (take_st10 c e)
    rw [e] at g0
    clear e
    go_enter Tryz.func102, Tryz.ntmps102
    go_wp2_with fail
    refine (numFirst_any R _).mono ?_
    rintro e w' ⟨rfl, R2⟩
    go_wp2_with fail
    go_ret
    rw [HT.out]
    exact ⟨rfl, vs, R2⟩
  · have HT := hide (take_st11 c e)
    have h9 := hI.n2 e
    rw [e] at g0
    clear e
    go_enter Tryz.func102, Tryz.ntmps102
    go_wp2_with fail
    refine (numSecond_any R _ hI.n0 h9 p0 p1).mono ?_
    rintro e w' ⟨rfl, R2⟩
    go_wp2_with fail
    go_ret
    rw [HT.out]
    exact ⟨rfl, vs, R2⟩
  · have HT := hide (take_st12 c e)
    rw [e] at g0
    clear e
    go_enter Tryz.func102, Tryz.ntmps102
    go_wp2_with fail
    refine (mark_any R _ _ _).mono ?_
    rintro e w' ⟨rfl, R2⟩
    go_wp2_with fail
    go_ret
    rw [HT.out]
    exact ⟨rfl, vs, R2⟩

set_option maxRecDepth 100000 in
set_option maxHeartbeats 1000000 in
theorem finish_any {n : Nat} (R : RW it B b w0 w s vs) (hI : Inv n s) (p0 : 0 ≤ s.place) (p1 : s.place ≤ 1000) :
    Calls Tryz.prog 103 #[P0 b] w fun e w' => e = .returned (.bool (finishL s).1) ∧ RW it B b w0 w' (finishL s).2 vs := by
  have g0 := R.c0
  by_cases h : s.st = 11
  · have hd : finishL s = endShortL s := by unfold finishL; rw [if_pos h]
    have HD := hide hd
    have e1 : (s.st == 11) = true := by simp [h]
    clear hd h
    go_enter Tryz.func103, Tryz.ntmps103
    go_wp2_with fail
    refine (endShort_any R hI.n0 hI.n1 p0 p1).mono ?_
    rintro e w' ⟨rfl, R2⟩
    go_wp2_with fail
    go_ret
    rw [HD.out]
    exact ⟨rfl, R2⟩
  · have hd : finishL s = (s.st == 9 || s.st == 12, s) := by unfold finishL; rw [if_neg h]
    have HD := hide hd
    have e1 : (s.st == 11) = false := by simp [h]
    clear hd h
    cases e2 : (s.st == 9)
    all_goals
      have HE := hide e2
      go_enter Tryz.func103, Tryz.ntmps103
      go_wp2
      go_ret
      rw [HD.out, HE.out]
      exact ⟨rfl, R⟩

end
end Go.Proofs.YtcnmbldikjljeaaGreatDoor
namespace Go.Proofs.YtcnmbldikjljeaaGreatDoor
open Go.RowKit Go.Shelf Go.Sort

theorem flat_at (l : List (Int × Int)) (k : Nat) (h : k < l.length) : (flat l)[k * 2]? = some (.int .i64 l[k].1) ∧ (flat l)[k * 2 + 1]? = some (.int .i64 l[k].2) := by
  induction l generalizing k with
  | nil => simp at h
  | cons p l ih =>
    cases k with
    | zero => simp [flat]
    | succ k =>
      have := ih k (by simpa using h)
      have e : flat (p :: l) = [.int .i64 p.1, .int .i64 p.2] ++ flat l := by simp [flat]
      rw [e, show (k + 1) * 2 = k * 2 + 2 by omega, show k * 2 + 2 + 1 = (k * 2 + 1) + 2 by omega]
      simpa using this
theorem flat_length (l : List (Int × Int)) : (flat l).length = l.length * 2 := by
  induction l with
  | nil => rfl
  | cons p l ih => have e : flat (p :: l) = [.int .i64 p.1, .int .i64 p.2] ++ flat l := by simp [flat]
                   rw [e]; simp [ih]; omega
/-- a span's two cells -/
def encP (x : Int × Int) : List Value := [.int .i64 x.1, .int .i64 x.2]
theorem flatK_flat (l : List (Int × Int)) : (flatK encP 2 l.toArray).toList = flat l := by
  apply List.ext_getElem?
  intro j
  by_cases hj : j < l.length * 2
  · have h2 : j / 2 < l.length := by omega
    have hf := flat_at l (j / 2) h2
    have e : (flatK encP 2 l.toArray).toList[j]? = some ((encP l[j / 2])[j % 2]!) := by
      simp [flatK, hj, h2]
    rw [e]
    rcases Nat.mod_two_eq_zero_or_one j with m | m
    · have : j = j / 2 * 2 := by omega
      rw [m]
      rw [← this] at hf
      rw [hf.1]; rfl
    · have : j = j / 2 * 2 + 1 := by omega
      rw [m]
      rw [← this] at hf
      rw [hf.2]; rfl
  · rw [List.getElem?_eq_none (by simp; omega), List.getElem?_eq_none (by rw [flat_length]; omega)]
theorem holds_flat {w : World} {g : Nat} {cur : Array Value} {e : TypeId} {l : List (Int × Int)} (hb : w.heap[g]? = some (.cells cur e (0, 0))) (ht : cur.toList.take (l.length * 2) = flat l) : HoldsK encP 2 w g 0 l.toArray := by
  intro j hj
  have hj' : j < l.length * 2 := by simpa using hj
  refine ⟨?_, by simp [World.frozen?, hb]⟩
  have h1 : (cur.toList.take (l.length * 2))[j]? = (flatK encP 2 l.toArray).toList[j]? := by rw [ht, flatK_flat]
  rw [List.getElem?_take_of_lt hj'] at h1
  simp only [World.cell?, hb, Nat.zero_add]
  simp only [Option.isSome_none, Bool.false_eq_true, if_false]
  rw [← Array.getElem?_toList, h1, Array.getElem?_toList, Array.getElem?_eq_getElem hj, getElem!_pos _ j hj]
  rfl
theorem grownBy_sortK {w : World} {g n : Nat} {os : Array Obj} (d : Array (Int × Int)) : w.grownBy (sortWorldK encP 2 w g 0 n d os) (some g) := by
  refine ⟨rfl, rfl, rfl, by simp [sortWorldK, putRowK], fun k hk hne => ?_⟩
  unfold sortWorldK putRowK
  rw [heap_grow_old _ _ (by simpa using hk)]
  have : g ≠ k := fun e => hne (by rw [e])
  simp [putRow, mapBlock, Sort.ahead, Array.getElem?_modify, this]
theorem heap_sortK {w : World} {g n : Nat} {os : Array Obj} {cur : Array Value} {e : TypeId} {fr : Nat × Nat} (d : Array (Int × Int)) (hb : w.heap[g]? = some (.cells cur e fr)) :
    (sortWorldK encP 2 w g 0 n d os).heap[g]? = some (.cells (putCells id 0 (flatK encP 2 d) cur) e fr) := by
  have hg : g < w.heap.size := (Array.getElem?_eq_some_iff.1 hb).1
  unfold sortWorldK putRowK
  rw [heap_grow_old _ _ (by simpa using hg)]
  simp [putRow, mapBlock, Sort.ahead, Array.getElem?_modify, hb, onCells]
theorem take_putCellsK (cur : Array Value) (ts : List (Int × Int)) (h : ts.length * 2 ≤ cur.size) : (putCells id 0 (flatK encP 2 ts.toArray) cur).toList.take (ts.length * 2) = flat ts := by
  rw [← flatK_flat]
  apply List.ext_getElem?
  intro j
  by_cases hj : j < ts.length * 2
  · rw [List.getElem?_take_of_lt hj, Array.getElem?_toList, Array.getElem?_toList]
    have h2 : j < (flatK encP 2 ts.toArray).size := by simpa using hj
    simp only [putCells, Array.getElem?_mapIdx, Array.getElem?_eq_getElem (show j < cur.size by omega), Option.map_some, Nat.zero_add, Nat.zero_le, true_and, if_pos h2, Nat.sub_zero, id]
    rw [getElem!_pos _ j h2, Array.getElem?_eq_getElem h2]
  · rw [List.getElem?_take_eq_none (by omega), List.getElem?_eq_none (by simp; omega)]
/-- behind the sort the same slice owns the sorted spans -/
theorem ownsRow_sortK {w : World} {base g cap n : Nat} {e : TypeId} {os : Array Obj} {cur : Array Value} {ss ts : List (Int × Int)} (hl : ts.length = ss.length) (hbase : base ≤ g) (hb : w.heap[g]? = some (.cells cur e (0, 0)))
    (h1 : ss.length ≤ cap) (h2 : cap ≤ maxLen) (h3 : cur.size = cap * 2) :
    (sortWorldK encP 2 w g 0 n ts.toArray os).ownsRow base e 2 (.slice (some ⟨g, 0, none⟩) ss.length cap) ss.length (flat ts) :=
  ⟨by rw [flat_length, hl], .inr ⟨g, cap, _, rfl, hbase, heap_sortK _ hb, h1, h2, by simp [putCells, h3], by rw [← hl]; exact take_putCellsK cur ts (by omega)⟩⟩
theorem perm_list {l : List (Int × Int)} {d : Array (Int × Int)} (h : PermIn 0 l.toArray.size l.toArray d) : d.toList.Perm l := by
  obtain ⟨h1, _, h3⟩ := h
  have e : d.extract 0 l.toArray.size = d := by rw [← h1]; simp
  rw [e] at h3
  simpa using h3
end Go.Proofs.YtcnmbldikjljeaaGreatDoor
