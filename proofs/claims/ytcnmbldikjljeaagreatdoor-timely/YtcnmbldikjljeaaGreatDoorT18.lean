import Derived.Test.YtcnmbldikjljeaaGreatDoorT17
import Derived.Laws.LoneSync
import Derived.Test.YtcnmbldikjljeaaGreatDoorRows
import Derived.Conc.MuLone
import Derived.KernelRfl
import Derived.WalkKit
import Derived.Test.YtcnmbldikjljeaaGreatDoorT09
namespace Go.Proofs.YtcnmbldikjljeaaGreatDoor
open Go.Shelf Go.RowKit Go.Lib Go.Sort

section
variable {w : World} {p : Nat} {o : Nat} {x : Int}
theorem addInt64_run (a : Addr) (x y s : Int) (w : World) (hc : w.cell? a = some (.int .i64 x)) (hz : w.frozen? a = false) (hs : s = x + y) (h0 : -9223372036854775808 ≤ s) (h1 : s ≤ 9223372036854775807) :
    (callFunc 117 #[.pointer (some a), .int .i64 y]).run Tryz.prog w = .ok (.value (.int .i64 s)) (w.setCell a (.int .i64 s)) := by
  refine run_call_add Tryz.func117 (by kernel_rfl) (by kernel_rfl) (by kernel_rfl) .i64 (by kernel_rfl) hc hz ?_
  subst hs
  simp [go_sem]
  exact IntWalk.i64_in _ ⟨h0, h1⟩
theorem loadInt64_run (a : Addr) (x : Int) (w : World) (hc : w.cell? a = some (.int .i64 x)) :
    (callFunc 70 #[.pointer (some a)]).run Tryz.prog w = .ok (.value (.int .i64 x)) w :=
  run_call_load Tryz.func70 (by kernel_rfl) (by kernel_rfl) (by kernel_rfl) .i64 (by kernel_rfl) hc
set_option maxRecDepth 100000 in
set_option maxHeartbeats 1000000 in
theorem aLoad_any (hc : w.cell? ⟨p, o, none⟩ = some (.int .i64 x)) :
    Calls Tryz.prog 38 #[.pointer (some ⟨p, o, none⟩)] w fun e w' => e = .returned (.int .i64 x) ∧ w' = w := by
  have hL := loadInt64_run ⟨p, o, none⟩ x w hc
  go_enter Tryz.func38, Tryz.ntmps38
  go_wp2
  go_ret
  exact ⟨rfl, rfl⟩
set_option maxRecDepth 100000 in
set_option maxHeartbeats 1000000 in
theorem aAdd_any (hc : w.cell? ⟨p, o, none⟩ = some (.int .i64 x)) (hz : w.frozen? ⟨p, o, none⟩ = false) (h0 : 0 ≤ x) (h1 : x ≤ 4611686018427387904) :
    Calls Tryz.prog 71 #[.pointer (some ⟨p, o, none⟩), .int .i64 1] w fun e w' => e = .returned (.int .i64 (x + 1)) ∧ w' = w.setCell ⟨p, o, none⟩ (.int .i64 (x + 1)) := by
  have hL := addInt64_run ⟨p, o, none⟩ x 1 (x + 1) w hc hz rfl (by omega) (by omega)
  go_enter Tryz.func71, Tryz.ntmps71
  go_wp2
  go_ret
  exact ⟨rfl, rfl⟩
end
section
variable {w : World} {p b off : Nat} {K : Kf} {F : Nat → Bool} {st : List Stg} {lk t m : Int} {lv : Value} {k : Int} {x : Cs}
/-- an event, as a value -/
def evV (e : Ev) : Value := .agg #[.int .i64 e.number, .int .i64 e.time, .int .i64 e.case, .int .i64 e.stage, .int .i64 e.level, .int .i64 e.who]
theorem PR.ne_row {e : TypeId} {size n q n' cap : Nat} {xs : List Value} (R : PR w p K F st lk t m lv k) (h : w.ownsRow 0 e size (.slice (some ⟨q, 0, none⟩) n' cap) n xs) (he : e ≠ 113) : p ≠ q := by
  rintro rfl
  rcases h.2 with ⟨h', _⟩ | ⟨q', cap', cur, h', _, hh, _⟩
  · cases h'
  simp only [Value.slice.injEq, Option.some.injEq, Addr.mk.injEq, and_true] at h'
  obtain ⟨rfl, _⟩ := h'
  rw [R.blk] at hh
  simp only [Option.some.injEq, Obj.cells.injEq] at hh
  exact he hh.2.1.symm
theorem below_set_both {w u : World} {p j : Nat} {v : Value} {cur : Array Value} {e : TypeId} (hb : Below w.heap.size w u) (h : w.heap[p]? = some (.cells cur e (0, 0))) : Below w.heap.size (w.setCell ⟨p, j, none⟩ v) (u.setCell ⟨p, j, none⟩ v) := by
  have hp : p < w.heap.size := (Array.getElem?_eq_some_iff.1 h).1
  refine ⟨hb.os, hb.tape, hb.output, by simpa using hb.size, fun k hk => ?_⟩
  by_cases e' : k = p
  · subst e'
    rw [heap_setCell_same w _ _ _ _ _ h, heap_setCell_same u _ _ _ _ _ ((hb.block k hk).trans h)]
  · rw [Below.heap_setCell _ _ _ k e', Below.heap_setCell _ _ _ k e']; exact hb.block k hk
theorem RA.set_other {w : World} {p b off j : Nat} {v : Value} {us : List Value} (A : RA w b off us) (h : p ≠ b) : RA (w.setCell ⟨p, j, none⟩ v) b off us := by
  obtain ⟨cur, h1, h2⟩ := A
  exact ⟨cur, (Below.heap_setCell _ _ _ b (Ne.symm h)).trans h1, h2⟩
theorem drew_heap (w : World) : w.drew.heap = w.heap := rfl
/-- six cells of a block were written -/
def six (u : World) (B : Nat) (a0 a1 a2 a3 a4 a5 : Value) : World := (((((u.setCell ⟨B, 0, none⟩ a0).setCell ⟨B, 1, none⟩ a1).setCell ⟨B, 2, none⟩ a2).setCell ⟨B, 3, none⟩ a3).setCell ⟨B, 4, none⟩ a4).setCell ⟨B, 5, none⟩ a5
theorem six_below {n : Nat} {v u : World} {B : Nat} (a0 a1 a2 a3 a4 a5 : Value) (h : Below n v u) (hB : n ≤ B) : Below n v (six u B a0 a1 a2 a3 a4 a5) := by
  unfold six
  exact (((((h.setCell (p := ⟨B, 0, none⟩) hB _).setCell (p := ⟨B, 1, none⟩) hB _).setCell (p := ⟨B, 2, none⟩) hB _).setCell (p := ⟨B, 3, none⟩) hB _).setCell (p := ⟨B, 4, none⟩) hB _).setCell (p := ⟨B, 5, none⟩) hB _
theorem six_other (u : World) {B k : Nat} (a0 a1 a2 a3 a4 a5 : Value) (h : k ≠ B) : (six u B a0 a1 a2 a3 a4 a5).heap[k]? = u.heap[k]? := by
  unfold six
  rw [Below.heap_setCell _ _ _ k h, Below.heap_setCell _ _ _ k h, Below.heap_setCell _ _ _ k h, Below.heap_setCell _ _ _ k h, Below.heap_setCell _ _ _ k h, Below.heap_setCell _ _ _ k h]
theorem six_at (u : World) {B : Nat} {e : TypeId} {b0 b1 b2 b3 b4 b5 : Value} (a0 a1 a2 a3 a4 a5 : Value) (h : u.heap[B]? = some (.cells #[b0, b1, b2, b3, b4, b5] e (0, 0))) : (six u B a0 a1 a2 a3 a4 a5).heap[B]? = some (.cells #[a0, a1, a2, a3, a4, a5] e (0, 0)) := by
  unfold six
  rw [heap_setCell_same _ _ _ _ _ _ (heap_setCell_same _ _ _ _ _ _ (heap_setCell_same _ _ _ _ _ _ (heap_setCell_same _ _ _ _ _ _ (heap_setCell_same _ _ _ _ _ _ (heap_setCell_same _ _ _ _ _ _ h)))))]
  rfl
theorem tell_w {w wo W2 : World} {p : Nat} {k due id i j who : Int} {cur : Array Value} {e : TypeId} (hwo : w.alloc (Obj.cells #[.int .i64 0, .int .i64 0, .int .i64 0, .int .i64 0, .int .i64 0, .int .i64 0] 63) = wo) (hp : w.heap[p]? = some (.cells cur e (0, 0)))
    (hW2 : (six ((wo.alloc (Obj.cells #[.int .i64 0, .int .i64 0, .int .i64 0, .int .i64 0, .int .i64 0, .int .i64 0] 63)).setCell ⟨p, 83, none⟩ (.int .i64 (k + 1))) (w.heap.size + 1) (.int .i64 (k + 1)) (.int .i64 due) (.int .i64 id) (.int .i64 i) (.int .i64 j) (.int .i64 who)).drew = W2) :
    Below w.heap.size (w.setCell ⟨p, 83, none⟩ (.int .i64 (k + 1))) W2 ∧ W2.heap[w.heap.size]? = some (.cells #[.int .i64 0, .int .i64 0, .int .i64 0, .int .i64 0, .int .i64 0, .int .i64 0] 63 (0, 0)) ∧ W2.heap[w.heap.size + 1]? = some (.cells #[.int .i64 (k + 1), .int .i64 due, .int .i64 id, .int .i64 i, .int .i64 j, .int .i64 who] 63 (0, 0)) := by
  have hpw : p < w.heap.size := (Array.getElem?_eq_some_iff.1 hp).1
  have hb0 : Below w.heap.size w wo := by rw [← hwo]; exact (Below.refl _ _).alloc (Nat.le_refl _) _
  have g0 : wo.heap[w.heap.size]? = some (.cells #[.int .i64 0, .int .i64 0, .int .i64 0, .int .i64 0, .int .i64 0, .int .i64 0] 63 (0, 0)) := by rw [← hwo]; exact heap_alloc_new _ _
  have hzz : wo.heap.size = w.heap.size + 1 := by rw [← hwo]; simp
  have g1 := heap_alloc_new wo (Obj.cells #[.int .i64 0, .int .i64 0, .int .i64 0, .int .i64 0, .int .i64 0, .int .i64 0] 63)
  rw [hzz] at g1
  have h1 := below_set_both (j := 83) (v := .int .i64 (k + 1)) (hb0.alloc hb0.size (Obj.cells #[.int .i64 0, .int .i64 0, .int .i64 0, .int .i64 0, .int .i64 0, .int .i64 0] 63)) hp
  have g0' : ((wo.alloc (Obj.cells #[.int .i64 0, .int .i64 0, .int .i64 0, .int .i64 0, .int .i64 0, .int .i64 0] 63)).setCell ⟨p, 83, none⟩ (.int .i64 (k + 1))).heap[w.heap.size]? = some (.cells #[.int .i64 0, .int .i64 0, .int .i64 0, .int .i64 0, .int .i64 0, .int .i64 0] 63 (0, 0)) := by
    rw [Below.heap_setCell _ _ _ _ (by simp only; omega), Below.heap_alloc _ _ _ (by omega)]; exact g0
  have g1' : ((wo.alloc (Obj.cells #[.int .i64 0, .int .i64 0, .int .i64 0, .int .i64 0, .int .i64 0, .int .i64 0] 63)).setCell ⟨p, 83, none⟩ (.int .i64 (k + 1))).heap[w.heap.size + 1]? = some (.cells #[.int .i64 0, .int .i64 0, .int .i64 0, .int .i64 0, .int .i64 0, .int .i64 0] 63 (0, 0)) := by
    rw [Below.heap_setCell _ _ _ _ (by simp only; omega)]; exact g1
  generalize (wo.alloc (Obj.cells #[.int .i64 0, .int .i64 0, .int .i64 0, .int .i64 0, .int .i64 0, .int .i64 0] 63)).setCell ⟨p, 83, none⟩ (.int .i64 (k + 1)) = U at *
  rw [← hW2]
  clear hW2 hwo hb0 g0 g1
  refine ⟨?_, ?_, ?_⟩
  · have h2 := six_below (B := w.heap.size + 1) (.int .i64 (k + 1)) (.int .i64 due) (.int .i64 id) (.int .i64 i) (.int .i64 j) (.int .i64 who) h1 (Nat.le_succ _)
    exact h2.drew
  · rw [drew_heap, six_other U _ _ _ _ _ _ (by omega)]; exact g0'
  · rw [drew_heap]; exact six_at U _ _ _ _ _ _ g1'
theorem tell_w1 {w wo W2 : World} {p : Nat} {k due id i j who : Int} {cur : Array Value} {e : TypeId} (hwo : w.alloc (Obj.cells #[.int .i64 0, .int .i64 0, .int .i64 0, .int .i64 0, .int .i64 0, .int .i64 0] 63) = wo) (hp : w.heap[p]? = some (.cells cur e (0, 0)))
    (hW2 : ((wo.setCell ⟨p, 83, none⟩ (.int .i64 (k + 1))).alloc (Obj.cells #[.int .i64 (k + 1), .int .i64 due, .int .i64 id, .int .i64 i, .int .i64 j, .int .i64 who] 63)).drew = W2) :
    Below w.heap.size (w.setCell ⟨p, 83, none⟩ (.int .i64 (k + 1))) W2 ∧ W2.heap[w.heap.size]? = some (.cells #[.int .i64 0, .int .i64 0, .int .i64 0, .int .i64 0, .int .i64 0, .int .i64 0] 63 (0, 0)) ∧ W2.heap[w.heap.size + 1]? = some (.cells #[.int .i64 (k + 1), .int .i64 due, .int .i64 id, .int .i64 i, .int .i64 j, .int .i64 who] 63 (0, 0)) := by
  have hpw : p < w.heap.size := (Array.getElem?_eq_some_iff.1 hp).1
  have hb0 : Below w.heap.size w wo := by rw [← hwo]; exact (Below.refl _ _).alloc (Nat.le_refl _) _
  have g0 : wo.heap[w.heap.size]? = some (.cells #[.int .i64 0, .int .i64 0, .int .i64 0, .int .i64 0, .int .i64 0, .int .i64 0] 63 (0, 0)) := by rw [← hwo]; exact heap_alloc_new _ _
  have hzz : wo.heap.size = w.heap.size + 1 := by rw [← hwo]; simp
  have h1 := below_set_both (j := 83) (v := .int .i64 (k + 1)) hb0 hp
  have g0' : (wo.setCell ⟨p, 83, none⟩ (.int .i64 (k + 1))).heap[w.heap.size]? = some (.cells #[.int .i64 0, .int .i64 0, .int .i64 0, .int .i64 0, .int .i64 0, .int .i64 0] 63 (0, 0)) := by
    rw [Below.heap_setCell _ _ _ _ (by simp only; omega)]; exact g0
  have hz2 : (wo.setCell ⟨p, 83, none⟩ (.int .i64 (k + 1))).heap.size = w.heap.size + 1 := by simpa using hzz
  clear hwo hb0 g0
  generalize wo.setCell ⟨p, 83, none⟩ (.int .i64 (k + 1)) = U at *
  rw [← hW2]
  clear hW2
  refine ⟨(h1.alloc (by omega) _).drew, ?_, ?_⟩
  · rw [drew_heap, Below.heap_alloc _ _ _ (by omega)]; exact g0'
  · rw [drew_heap, ← hz2]; exact heap_alloc_new _ _
end
end Go.Proofs.YtcnmbldikjljeaaGreatDoor
namespace Go.Proofs.YtcnmbldikjljeaaGreatDoor

/-- where this program holds the library's lock -/
abbrev muLink : Go.Conc.Locks.MuLink := { lock := 36, unlock := 37, ilock := 68, iunlock := 69, lockSlow := 113, unlockSlow := 116, disable := 109, enable := 111, acquire := 112, relMerge := 114, cas32 := 110, add32 := 115, tMutex := 100, tIMutex := 98, tPMutex := 166, tPIMutex := 205, tPI32 := 207, tUP := 209, tNoCopy := 95, tU32 := 96 }
theorem muLib : Go.Conc.Locks.MuLib Tryz.prog muLink :=
  ⟨Tryz.func36, Tryz.func37, Tryz.func68, Tryz.func69, Tryz.func109, Tryz.func111, Tryz.func112, Tryz.func114, Tryz.func110, Tryz.func115,
    Tryz.underlying98, Tryz.runUnderlying98, Tryz.sizeOf98, Tryz.isAgg98, Tryz.zeroValue98, Tryz.underlying100, Tryz.runUnderlying100, Tryz.sizeOf100, Tryz.isAgg100, Tryz.zeroValue100, Tryz.underlying166, Tryz.runUnderlying166, Tryz.sizeOf166, Tryz.isAgg166, Tryz.zeroValue166, Tryz.underlying205, Tryz.runUnderlying205, Tryz.sizeOf205, Tryz.isAgg205, Tryz.zeroValue205, Tryz.underlying207, Tryz.runUnderlying207, Tryz.sizeOf207, Tryz.isAgg207, Tryz.zeroValue207, Tryz.underlying209, Tryz.runUnderlying209, Tryz.sizeOf209, Tryz.isAgg209, Tryz.zeroValue209, Tryz.underlying95, Tryz.runUnderlying95, Tryz.sizeOf95, Tryz.isAgg95, Tryz.zeroValue95, Tryz.underlying21, Tryz.runUnderlying21, Tryz.sizeOf21, Tryz.isAgg21, Tryz.zeroValue21, (by kernel_rfl)⟩
end Go.Proofs.YtcnmbldikjljeaaGreatDoor
namespace Go.Proofs.YtcnmbldikjljeaaGreatDoor
open Go.Shelf Go.RowKit Go.Lib Go.Sort Go.MuLone

section
variable {w : World} {p : Nat} {K : Kf} {F : Nat → Bool} {st : List Stg} {lv : Value} {d : Dk}
set_option maxRecDepth 100000 in
set_option maxHeartbeats 1000000 in
theorem now_any (R : PD w p K F st 0 lv d) :
    Calls Tryz.prog 13 #[P0 p] w fun e w' => e = .returned (.tuple #[.int .i64 d.time, .int .i64 d.told]) ∧ PD w' p K F st 0 lv d ∧ Frm p lv lv w w' := by
  have c0 := R.pr.c0
  have f0 := R.pr.frz 0
  obtain ⟨R1, F1⟩ := R.lock 1
  have c80 := R1.pr.c80
  have c83 := R1.pr.c83
  have hld := hide (fun (u : World) (h : u.cell? ⟨p, 83, none⟩ = some (.int .i64 d.told)) => aLoad_any h)
  have H1 := hide (And.intro R1 F1)
  clear R R1 F1
  go_enter_defers Tryz.func13, Tryz.ntmps13
  go_wp2_with (go_at_call 36; refine (lock_free muLib ⟨p, 0, none⟩ _ c0 f0).mono ?_; rintro e w' ⟨rfl, rfl⟩)
  generalize w.setCell ⟨p, 0, none⟩ (.int .i32 1) = w1 at *
  go_quiet (first | (go_at_call 38; exact Calls.quiet_of_same (hld.out _ (by simpa using c83))))
  have hb := below_drewN (Below.refl w1.heap.size w1) nq
  have R2 := H1.out.1.on hb
  have F2 := H1.out.2.trans (.of_below hb)
  obtain ⟨R3, F3⟩ := R2.lock 0
  have HF := hide (And.intro R3 (F2.trans F3))
  have u0 := R2.pr.c0
  have g0 := R2.pr.frz 0
  clear hb R2 F2 R3 F3 c80 c83 H1
  go_wp2_with fail
  refine leaves_cons (f := 37) (args := #[.pointer (some ⟨p, 0, none⟩)]) (by simp) (by simp [go_sem]) ?_
  refine (unlock_deferred muLib ⟨p, 0, none⟩ .returning _ u0 g0).mono ?_
  rintro e u' w'' ⟨rfl, rfl, rfl⟩
  exact ⟨_, results_tmp2 rfl _ _ _, rfl, HF.out⟩
end
end Go.Proofs.YtcnmbldikjljeaaGreatDoor
namespace Go.Proofs.YtcnmbldikjljeaaGreatDoor
open Go.Shelf Go.RowKit Go.Lib Go.Sort Go.MuLone

section
variable {w : World} {p : Nat} {K : Kf} {F : Nat → Bool} {st : List Stg} {lv : Value} {d : Dk} {N : Int}
/-- a docket, what has been left as it lay, and a box of the call's own -/
structure DF (w u : World) (p : Nat) (K : Kf) (F : Nat → Bool) (st : List Stg) (lk : Int) (lv0 lv : Value) (d : Dk) (B : Nat) (e : TypeId) : Prop where
  pd : PD u p K F st lk lv d
  fr : Frm p lv0 lv w u
  lo : w.heap.size ≤ B
  box : ∃ cur, u.heap[B]? = some (.cells cur e (0, 0))
theorem DF.set {u : World} {lk : Int} {lv0 : Value} {B : Nat} {e : TypeId} (h : DF w u p K F st lk lv0 lv d B e) (he : e ≠ 113 ∧ e ≠ 140 ∧ e ≠ 131 ∧ e ≠ 127 ∧ e ≠ 119) (j : Nat) (v : Value) : DF w (u.setCell ⟨B, j, none⟩ v) p K F st lk lv0 lv d B e := by
  obtain ⟨cur, hB⟩ := h.box
  have hG : u.grownBy (u.setCell ⟨B, j, none⟩ v) (some B) := ⟨rfl, rfl, rfl, by simp, fun k _ hne => Below.heap_setCell _ _ _ k (fun e => hne (by rw [e]))⟩
  have hlo := h.lo
  exact ⟨⟨h.pd.pr.left hG hB he.1 he.2.1 he.2.2.1 he.2.2.2.1, row_leftP h.pd.own hG hB he.2.2.2.2⟩, ⟨h.fr.os, h.fr.tape, h.fr.output, by have := h.fr.size; simpa using this, fun k hk h1 h2 => (Below.heap_setCell _ _ _ k (by simp only; omega)).trans (h.fr.block k hk h1 h2), h.fr.row⟩, h.lo, ⟨_, heap_setCell_same _ _ _ _ _ _ hB⟩⟩
theorem DF.unlock {u : World} {lk : Int} {lv0 : Value} {B : Nat} {e : TypeId} (h : DF w u p K F st lk lv0 lv d B e) (he : e ≠ 113) : DF w (u.setCell ⟨p, 0, none⟩ (.int .i32 0)) p K F st 0 lv0 lv d B e := by
  obtain ⟨R1, F1⟩ := h.pd.lock 0
  obtain ⟨cur, hB⟩ := h.box
  refine ⟨R1, h.fr.trans F1, h.lo, ⟨cur, (Below.heap_setCell _ _ _ B ?_).trans hB⟩⟩
  rintro rfl
  have := h.pd.pr.blk
  rw [hB] at this
  simp only [Option.some.injEq, Obj.cells.injEq] at this
  exact he this.2.1
set_option maxRecDepth 100000 in
set_option maxHeartbeats 1000000 in
theorem case_any (R : PD w p K F st 0 lv d) (ok : DkOk F st d N) (id : Int) :
    Calls Tryz.prog 26 #[P0 p, .int .i64 id] w fun e w' => e = .returned (caseV d id) ∧ PD w' p K F st 0 lv d ∧ Frm p lv lv w w' := by
  have hlen := ok.len
  have hb0 : Below w.heap.size w (w.alloc (Obj.cells #[.int .i64 0, .int .i64 0, .int .i64 0, .bool false] 69)) := (Below.refl _ _).alloc (Nat.le_refl _) _
  have R0 := R.on hb0
  have F0 : Frm p lv lv w _ := .of_below hb0
  have c0 := R0.pr.c0
  have f0 := R0.pr.frz 0
  obtain ⟨R1, F1⟩ := R0.lock 1
  have H1 := hide (And.intro R1 (F0.trans F1))
  have hpl := R.pr.lt
  have HPL := hide hpl
  have HX : Hid (((w.alloc (Obj.cells #[.int .i64 0, .int .i64 0, .int .i64 0, .bool false] 69)).setCell ⟨p, 0, none⟩ (.int .i32 1)).heap[w.heap.size]? = some (.cells #[.int .i64 0, .int .i64 0, .int .i64 0, .bool false] 69 (0, 0))) := (Below.heap_setCell _ _ _ _ (by simp only; omega)).trans (heap_alloc_new _ _)
  rcases findL_bd d.cases id with hneg | ⟨i, hi, hil⟩
  · have HV := hide (show caseV d id = .tuple #[.agg #[.int .i64 0, .int .i64 0, .int .i64 0, .bool false], .int .i64 5] by unfold caseV; rw [if_pos hneg])
    have HF := hide (findP_none R1 (by omega) id hneg)
    clear R R0 R1 F0 F1 hb0 hpl
    go_enter_defers Tryz.func26, Tryz.ntmps26
    go_wp2_with (go_at_call 36; refine (lock_free muLib ⟨p, 0, none⟩ _ c0 f0).mono ?_; rintro e w' ⟨rfl, rfl⟩)
    refine HF.out.mono ?_
    rintro e u ⟨rfl, hb⟩
    have hx := (hb.block w.heap.size (by simp)).trans HX.out
    have R2 := H1.out.1.on hb
    have F2 := H1.out.2.trans (.of_below hb)
    have x0 : u.cell? ⟨w.heap.size, 0, none⟩ = some (.int .i64 0) := by simp [World.cell?, hx]
    have x1 : u.cell? ⟨w.heap.size, 1, none⟩ = some (.int .i64 0) := by simp [World.cell?, hx]
    have x2 : u.cell? ⟨w.heap.size, 2, none⟩ = some (.int .i64 0) := by simp [World.cell?, hx]
    have x3 : u.cell? ⟨w.heap.size, 3, none⟩ = some (.bool false) := by simp [World.cell?, hx]
    have xf : ∀ j, u.frozen? ⟨w.heap.size, j, none⟩ = false := fun j => by simp [World.frozen?, hx]
    have D2 : DF w u p K F st 1 lv lv d w.heap.size 69 := ⟨R2, F2, Nat.le_refl _, ⟨_, hx⟩⟩
    have D6 := (((D2.set (by decide) 0 (.int .i64 0)).set (by decide) 1 (.int .i64 0)).set (by decide) 2 (.int .i64 0)).set (by decide) 3 (.bool false)
    have H6 := hide D6
    clear hb hx R2 F2 H1 c0 f0 D2 D6
    go_wp2_with fail
    refine leaves_cons (f := 37) (args := #[.pointer (some ⟨p, 0, none⟩)]) (by simp) (by simp [go_sem]) ?_
    refine (unlock_deferred muLib ⟨p, 0, none⟩ .returning _ H6.out.pd.pr.c0 (H6.out.pd.pr.frz 0)).mono ?_
    rintro e u' w'' ⟨rfl, rfl, rfl⟩
    rw [HV.out]
    refine ⟨_, ?_, rfl, (H6.out.unlock (by decide)).pd, (H6.out.unlock (by decide)).fr⟩
    have hp1 : p ≠ w.heap.size := Nat.ne_of_lt HPL.out
    simp [results, Tryz.f26, go_sem, x0, x1, x2, x3]
  · have hnn : ¬ findL d.cases id < 0 := by omega
    have HV := hide (show caseV d id = .tuple #[.agg #[.int .i64 (csAt d.cases i).stage, .int .i64 (csAt d.cases i).level, .int .i64 (csAt d.cases i).due, .bool (csAt d.cases i).held], .int .i64 0] by unfold caseV; rw [if_neg hnn, hi])
    obtain ⟨q, cap, hlv⟩ := row_some R.own (by omega)
    subst hlv
    have HF := hide (findP_some R1 (by omega) id hi hil)
    have hd0 := (ok.cs (csAt d.cases i) (by rw [csAt_nat hil]; exact List.getElem_mem hil)).d0
    clear R R0 R1 F0 F1 hb0 hpl
    go_enter_defers Tryz.func26, Tryz.ntmps26
    go_wp2_with (go_at_call 36; refine (lock_free muLib ⟨p, 0, none⟩ _ c0 f0).mono ?_; rintro e w' ⟨rfl, rfl⟩)
    refine HF.out.mono ?_
    rintro e u0 ⟨rfl, hb0⟩
    have R1 := H1.out.1.on hb0
    have HS := hide (state_any (R1.ra i hil) hd0)
    have HB0 := hide hb0
    clear hb0 R1 c0 f0
    generalize csAt d.cases i = x at *
    go_wp2_with fail
    refine HS.out.mono ?_
    rintro e u ⟨rfl, hb1⟩
    have hb := HB0.out.trans (hb1.mono HB0.out.size)
    have hx := (hb.block w.heap.size (by simp)).trans HX.out
    have R2 := H1.out.1.on hb
    have F2 := H1.out.2.trans (.of_below hb)
    have x0 : u.cell? ⟨w.heap.size, 0, none⟩ = some (.int .i64 0) := by simp [World.cell?, hx]
    have x1 : u.cell? ⟨w.heap.size, 1, none⟩ = some (.int .i64 0) := by simp [World.cell?, hx]
    have x2 : u.cell? ⟨w.heap.size, 2, none⟩ = some (.int .i64 0) := by simp [World.cell?, hx]
    have x3 : u.cell? ⟨w.heap.size, 3, none⟩ = some (.bool false) := by simp [World.cell?, hx]
    have xf : ∀ j, u.frozen? ⟨w.heap.size, j, none⟩ = false := fun j => by simp [World.frozen?, hx]
    have D2 : DF w u p K F st 1 _ _ d w.heap.size 69 := ⟨R2, F2, Nat.le_refl _, ⟨_, hx⟩⟩
    have D6 := (((D2.set (by decide) 0 (.int .i64 x.stage)).set (by decide) 1 (.int .i64 x.level)).set (by decide) 2 (.int .i64 x.due)).set (by decide) 3 (.bool x.held)
    have H6 := hide D6
    clear hb hb1 hx R2 F2 H1 D2 D6
    go_wp2_with fail
    refine leaves_cons (f := 37) (args := #[.pointer (some ⟨p, 0, none⟩)]) (by simp) (by simp [go_sem]) ?_
    refine (unlock_deferred muLib ⟨p, 0, none⟩ .returning _ H6.out.pd.pr.c0 (H6.out.pd.pr.frz 0)).mono ?_
    rintro e u' w'' ⟨rfl, rfl, rfl⟩
    rw [HV.out]
    refine ⟨_, ?_, rfl, (H6.out.unlock (by decide)).pd, (H6.out.unlock (by decide)).fr⟩
    have hp1 : p ≠ w.heap.size := Nat.ne_of_lt HPL.out
    simp [results, Tryz.f26, go_sem, x0, x1, x2, x3]
end
end Go.Proofs.YtcnmbldikjljeaaGreatDoor
namespace Go.Proofs.YtcnmbldikjljeaaGreatDoor
open Go.RowKit

set_option maxHeartbeats 1000000 in
theorem isStage_any (n m : Int) (w : World) : Calls Tryz.prog 41 #[.int .i64 n, .int .i64 m] w fun e w' => e = .returned (.bool (decide (0 ≤ n ∧ n < m))) ∧ w' = w := by
  go_enter Tryz.func41, Tryz.ntmps41
  go_wp2
  all_goals
    go_ret
    exact ⟨by simp <;> omega, rfl⟩
set_option maxRecDepth 100000 in
set_option maxHeartbeats 1000000 in
theorem checkLevel_any (x y : Int) (w : World) : Calls Tryz.prog 156 #[.agg #[.int .i64 x, .int .i64 y]] w fun e w' => e = .returned (.bool (lvOk (x, y))) ∧ Below w.heap.size w w' := by
  have hb : Below w.heap.size w (w.alloc (Obj.cells #[.int .i64 x, .int .i64 y] 127)) := (Below.refl _ _).alloc (Nat.le_refl _) _
  have HB := hide hb
  clear hb
  by_cases h1 : 1 ≤ x
  · by_cases h2 : x ≤ 20000
    · by_cases h3 : 0 ≤ y
      · by_cases h4 : y ≤ 99
        · have HL := hide (show lvOk (x, y) = true by unfold lvOk; simp; omega)
          go_enter Tryz.func156, Tryz.ntmps156
          go_wp2_with fail
          go_ret
          rw [HL.out]
          exact ⟨rfl, HB.out⟩
        · have HL := hide (show lvOk (x, y) = false by unfold lvOk; simp; omega)
          go_enter Tryz.func156, Tryz.ntmps156
          go_wp2_with fail
          go_ret
          rw [HL.out]
          exact ⟨rfl, HB.out⟩
      · have HL := hide (show lvOk (x, y) = false by unfold lvOk; simp; omega)
        go_enter Tryz.func156, Tryz.ntmps156
        go_wp2_with fail
        go_ret
        rw [HL.out]
        exact ⟨rfl, HB.out⟩
    · have HL := hide (show lvOk (x, y) = false by unfold lvOk; simp; omega)
      go_enter Tryz.func156, Tryz.ntmps156
      go_wp2_with fail
      go_ret
      rw [HL.out]
      exact ⟨rfl, HB.out⟩
  · have HL := hide (show lvOk (x, y) = false by unfold lvOk; simp; omega)
    go_enter Tryz.func156, Tryz.ntmps156
    go_wp2_with fail
    go_ret
    rw [HL.out]
    exact ⟨rfl, HB.out⟩
end Go.Proofs.YtcnmbldikjljeaaGreatDoor
namespace Go.Proofs.YtcnmbldikjljeaaGreatDoor
open Go.Shelf Go.RowKit Go.Lib Go.Sort Go.MuLone

section
variable {w : World} {p : Nat} {K : Kf} {F : Nat → Bool} {st : List Stg} {lv : Value} {d : Dk} {N : Int}
/-- a call that has come to its end: the lock is given back -/
theorem PD.free {u : World} {lk : Int} {lv0 : Value} (R : PD u p K F st lk lv d) (f : Frm p lv0 lv w u) : PD (u.setCell ⟨p, 0, none⟩ (.int .i32 0)) p K F st 0 lv d ∧ Frm p lv0 lv w (u.setCell ⟨p, 0, none⟩ (.int .i32 0)) := by
  obtain ⟨R1, F1⟩ := R.lock 0
  exact ⟨R1, f.trans F1⟩
theorem csMem {i : Nat} (hi : i < d.cases.length) : csAt d.cases i ∈ d.cases := by rw [csAt_nat hi]; exact List.getElem_mem hi
set_option maxRecDepth 100000 in
set_option maxHeartbeats 1000000 in
theorem move_any (R : PD w p K F st 0 lv d) (ok : DkOk F st d N) (hr : DkR st d) (hs : StOk st) (hn : st.length ≤ 6) (id stage : Int) :
    Calls Tryz.prog 19 #[P0 p, .int .i64 id, .int .i64 stage] w fun e w' => e = .returned (.int .i64 (moveC F st d id stage).2) ∧ PD w' p K F st 0 lv (moveC F st d id stage).1 ∧ Frm p lv lv w w' := by
  have hlen := ok.len
  have c0 := R.pr.c0
  have f0 := R.pr.frz 0
  obtain ⟨R1, F1⟩ := R.lock 1
  have H1 := hide (And.intro R1 F1)
  rcases findL_bd d.cases id with hneg | ⟨i, hi, hil⟩
  · have HV := hide (show moveC F st d id stage = (d, 5) by unfold moveC; rw [if_pos hneg])
    have HF := hide (findP_none R1 (by omega) id hneg)
    clear R R1 F1
    go_enter_defers Tryz.func19, Tryz.ntmps19
    go_wp2_with (go_at_call 36; refine (lock_free muLib ⟨p, 0, none⟩ _ c0 f0).mono ?_; rintro e w' ⟨rfl, rfl⟩)
    refine HF.out.mono ?_
    rintro e u ⟨rfl, hb⟩
    have H2 := hide (And.intro (H1.out.1.on hb) (H1.out.2.trans (.of_below hb)))
    clear hb H1 c0 f0
    go_wp2_with fail
    refine leaves_cons (f := 37) (args := #[.pointer (some ⟨p, 0, none⟩)]) (by simp) (by simp [go_sem]) ?_
    refine (unlock_deferred muLib ⟨p, 0, none⟩ .returning _ H2.out.1.pr.c0 (H2.out.1.pr.frz 0)).mono ?_
    rintro e u' w'' ⟨rfl, rfl, rfl⟩
    rw [HV.out]
    exact ⟨_, results_tmp rfl _ _ _, rfl, H2.out.1.free H2.out.2⟩
  obtain ⟨q, cap, hlv⟩ := row_some R.own (by omega)
  subst hlv
  have hnn : ¬ findL d.cases id < 0 := by omega
  have hxm := csMem hil
  have hx := ok.cs _ hxm
  have HF := hide (findP_some R1 (by omega) id hi hil)
  by_cases hh : (csAt d.cases i).held = true
  · have HV := hide (show moveC F st d id stage = (d, 6) by unfold moveC; rw [if_neg hnn, hi, if_pos hh])
    clear R R1 F1
    go_enter_defers Tryz.func19, Tryz.ntmps19
    go_wp2_with (go_at_call 36; refine (lock_free muLib ⟨p, 0, none⟩ _ c0 f0).mono ?_; rintro e w' ⟨rfl, rfl⟩)
    refine HF.out.mono ?_
    rintro e u ⟨rfl, hb⟩
    have R2 := H1.out.1.on hb
    have e6 := (R2.ra i hil).cell 6 _ rfl
    rw [hh] at e6
    have H2 := hide (And.intro R2 (H1.out.2.trans (.of_below hb)))
    clear hb H1 c0 f0 R2
    go_wp2_with fail
    refine leaves_cons (f := 37) (args := #[.pointer (some ⟨p, 0, none⟩)]) (by simp) (by simp [go_sem]) ?_
    refine (unlock_deferred muLib ⟨p, 0, none⟩ .returning _ H2.out.1.pr.c0 (H2.out.1.pr.frz 0)).mono ?_
    rintro e u' w'' ⟨rfl, rfl, rfl⟩
    rw [HV.out]
    exact ⟨_, results_tmp rfl _ _ _, rfl, H2.out.1.free H2.out.2⟩
  have hh' : (csAt d.cases i).held = false := by simpa using hh
  obtain ⟨j, hj⟩ : ∃ j : Nat, (csAt d.cases i).stage = j := ⟨(csAt d.cases i).stage.toNat, by have := hx.s0; omega⟩
  have hjl : j < st.length := by have := hx.s1; omega
  have hjl' : (j : Int) < st.length := by omega
  have hst := hs j hjl
  have HIS := hide (fun u => isStage_any stage st.length u)
  by_cases hin : 0 ≤ stage ∧ stage < st.length
  · obtain ⟨k, hk⟩ : ∃ k : Nat, stage = k := ⟨stage.toNat, by omega⟩
    subst hk
    have hkl : k < st.length := by omega
    have hk6 : (k : Int) < 6 := by omega
    rw [show decide (0 ≤ (k : Int) ∧ (k : Int) < (st.length : Int)) = true by simpa using hin] at HIS
    obtain ⟨sq, scap, hsv⟩ := row_someP R.pr.stg.row (by omega)
    clear R R1 F1
    cases hno : hasI (stAt st j).next k with
    | false =>
      have HV := hide (show moveC F st d id k = (d, 7) by unfold moveC; rw [if_neg hnn, hi, if_neg hh, hj, if_pos hno])
      go_enter_defers Tryz.func19, Tryz.ntmps19
      go_wp2_with (go_at_call 36; refine (lock_free muLib ⟨p, 0, none⟩ _ c0 f0).mono ?_; rintro e w' ⟨rfl, rfl⟩)
      refine HF.out.mono ?_
      rintro e u ⟨rfl, hb⟩
      have R2 := H1.out.1.on hb
      have e6 := (R2.ra i hil).cell 6 _ rfl
      have e1 := (R2.ra i hil).cell 1 _ rfl
      rw [hh'] at e6
      rw [hj] at e1
      have c79 := R2.pr.c79
      have hrow := R2.pr.stg.row
      rw [hsv] at c79 hrow
      have cb := (hrow.cellAt (j * 7 + 1 + k) (by omega)).trans (sgCells_bit K.ls st j hjl k (by omega))
      rw [hno] at cb
      have H2 := hide (And.intro R2 (H1.out.2.trans (.of_below hb)))
      clear hb H1 c0 f0 R2 hrow
      go_wp2_with fail
      go_quiet (first | (go_at_call 41; exact Calls.quiet_of_same (HIS.out _)))
      have hb := below_drewN (Below.refl u.heap.size u) nq
      have H3 := hide (And.intro (H2.out.1.on hb) (H2.out.2.trans (.of_below hb)))
      clear hb H2 c79 e1 e6
      go_wp2_with fail
      refine leaves_cons (f := 37) (args := #[.pointer (some ⟨p, 0, none⟩)]) (by simp) (by simp [go_sem]) ?_
      refine (unlock_deferred muLib ⟨p, 0, none⟩ .returning _ H3.out.1.pr.c0 (H3.out.1.pr.frz 0)).mono ?_
      rintro e u' w'' ⟨rfl, rfl, rfl⟩
      rw [HV.out]
      exact ⟨_, results_tmp rfl _ _ _, rfl, H3.out.1.free H3.out.2⟩
    | true =>
      have hrest : (csAt d.cases i).rest = 0 := by
        have h1 := hr _ hxm
        have h2 := hx.r0
        unfold RestOk at h1
        by_cases h3 : 0 < (csAt d.cases i).rest
        · exact absurd (h1 h3).1 hh
        · omega
      have HV := hide (show moveC F st d id k = ({ d with cases := d.cases.set i (comesL F st { csAt d.cases i with stage := k, rest := 0 } 0 d.time) }, 0) by
        unfold moveC; rw [if_neg hnn, hi, if_neg hh, hj, if_neg (by rw [hno]; simp)]; unfold setC; rw [Int.toNat_natCast]
        congr 4
        rw [← hrest])
      go_enter_defers Tryz.func19, Tryz.ntmps19
      go_wp2_with (go_at_call 36; refine (lock_free muLib ⟨p, 0, none⟩ _ c0 f0).mono ?_; rintro e w' ⟨rfl, rfl⟩)
      refine HF.out.mono ?_
      rintro e u ⟨rfl, hb⟩
      have R2 := H1.out.1.on hb
      have e6 := (R2.ra i hil).cell 6 _ rfl
      have e1 := (R2.ra i hil).cell 1 _ rfl
      rw [hh'] at e6
      rw [hj] at e1
      have c79 := R2.pr.c79
      have hrow := R2.pr.stg.row
      rw [hsv] at c79 hrow
      have cb := (hrow.cellAt (j * 7 + 1 + k) (by omega)).trans (sgCells_bit K.ls st j hjl k (by omega))
      rw [hno] at cb
      have H2 := hide (And.intro R2 (H1.out.2.trans (.of_below hb)))
      clear hb H1 c0 f0 R2 hrow
      go_wp2_with fail
      go_quiet (first | (go_at_call 41; exact Calls.quiet_of_same (HIS.out _)))
      have hb := below_drewN (Below.refl u.heap.size u) nq
      have R3 := H2.out.1.on hb
      have H3 := hide (And.intro R3 (H2.out.2.trans (.of_below hb)))
      have HE := hide (enter_any R3.pr (R3.ra i hil) hs k hin.1 hin.2 ok.t0 ok.t1)
      clear hb H2 c79 e1 e6 R3 cb
      go_wp2_with fail
      refine HE.out.mono ?_
      rintro e u2 ⟨rfl, hp⟩
      obtain ⟨R4, F4⟩ := H3.out.1.put i hil hp
      have H4 := hide (And.intro R4 (H3.out.2.trans F4))
      clear hp R4 F4
      go_wp2_with fail
      refine leaves_cons (f := 37) (args := #[.pointer (some ⟨p, 0, none⟩)]) (by simp) (by simp [go_sem]) ?_
      refine (unlock_deferred muLib ⟨p, 0, none⟩ .returning _ H4.out.1.pr.c0 (H4.out.1.pr.frz 0)).mono ?_
      rintro e u' w'' ⟨rfl, rfl, rfl⟩
      rw [HV.out]
      exact ⟨_, results_tmp rfl _ _ _, rfl, H4.out.1.free H4.out.2⟩
  · have hno : hasI (stAt st j).next stage = false := by
      cases e : hasI (stAt st j).next stage with
      | false => rfl
      | true => exact absurd (hst.2.2.2 stage ((hasI_iff _ _).1 e)) hin
    have HV := hide (show moveC F st d id stage = (d, 7) by unfold moveC; rw [if_neg hnn, hi, if_neg hh, hj, if_pos hno])
    rw [show decide (0 ≤ stage ∧ stage < (st.length : Int)) = false by simpa using hin] at HIS
    clear R R1 F1
    go_enter_defers Tryz.func19, Tryz.ntmps19
    go_wp2_with (go_at_call 36; refine (lock_free muLib ⟨p, 0, none⟩ _ c0 f0).mono ?_; rintro e w' ⟨rfl, rfl⟩)
    refine HF.out.mono ?_
    rintro e u ⟨rfl, hb⟩
    have R2 := H1.out.1.on hb
    have e6 := (R2.ra i hil).cell 6 _ rfl
    have e1 := (R2.ra i hil).cell 1 _ rfl
    rw [hh'] at e6
    rw [hj] at e1
    obtain ⟨sq, scap, hsv⟩ := row_someP R2.pr.stg.row (by omega)
    have c79 := R2.pr.c79
    rw [hsv] at c79
    have H2 := hide (And.intro R2 (H1.out.2.trans (.of_below hb)))
    clear hb H1 c0 f0 R2
    go_wp2_with fail
    go_quiet (first | (go_at_call 41; exact Calls.quiet_of_same (HIS.out _)))
    have hb := below_drewN (Below.refl u.heap.size u) nq
    have H3 := hide (And.intro (H2.out.1.on hb) (H2.out.2.trans (.of_below hb)))
    clear hb H2 c79 e1 e6
    go_wp2_with fail
    refine leaves_cons (f := 37) (args := #[.pointer (some ⟨p, 0, none⟩)]) (by simp) (by simp [go_sem]) ?_
    refine (unlock_deferred muLib ⟨p, 0, none⟩ .returning _ H3.out.1.pr.c0 (H3.out.1.pr.frz 0)).mono ?_
    rintro e u' w'' ⟨rfl, rfl, rfl⟩
    rw [HV.out]
    exact ⟨_, results_tmp rfl _ _ _, rfl, H3.out.1.free H3.out.2⟩
end
end Go.Proofs.YtcnmbldikjljeaaGreatDoor
