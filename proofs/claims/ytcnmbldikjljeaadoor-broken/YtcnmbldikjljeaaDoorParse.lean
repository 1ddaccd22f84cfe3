import Derived.Test.YtcnmbldikjljeaaDoorParseL
import Derived.Test.YtcnmbldikjljeaaDoorRdW6
import Derived.Lib.OthersKept
import Derived.Deep.MidRow
import Derived.Test.YtcnmbldikjljeaaDoorSortW
namespace Go.Proofs.YtcnmbldikjljeaaDoor
open Go.RowKit

def nilVs : Nat → Value := fun _ => .slice none 0 0
theorem rd0_cells : ((Tryd.zeroCells59.setIfInBounds 0 (.int .i64 0)).setIfInBounds 10 (.int .i64 (-1))).setIfInBounds 13 (.int .i64 (-1)) = ((List.range 91).map (enc rs0 nilVs)).toArray := by kernel_rfl
def frees (f : Nat → Bool) : List Value := (List.range 70).map fun j => .bool (f j)
/-- a calendar that is being made: k days are joined -/
structure PJ (B b g : Nat) (w0 w : World) (s : RS) (vs us : Nat → Value) (A : Nat → List (Int × Int)) (k : Nat) : Prop where
  below : Below B w0 w
  hB : B ≤ b
  hb : b < g
  lt : g < w.heap.size
  week : ∀ j, j < 7 → w.cell? ⟨g, j, none⟩ = some (if j < k then us j else .slice none 0 0)
  free : ∀ j, j < 70 → w.cell? ⟨g, 7 + j, none⟩ = some (.bool (s.free j))
  frz : ∀ j, w.frozen? ⟨g, j, none⟩ = false
  own : ∀ j, k ≤ j → j < 7 → w.ownsRow (b + 2) 48 2 (vs j) (s.week j).length (flat (s.week j))
  old : ∀ j q, j < 7 → (vs j).ownBlock = some q → b + 2 ≤ q ∧ q < g
  apart : ∀ i j, i < 7 → j < 7 → i ≠ j → (vs i).ownBlock = none ∨ (vs i).ownBlock ≠ (vs j).ownBlock
  new : ∀ j, j < k → w.ownsRow (g + 1) 48 2 (us j) (A j).length (flat (A j)) ∧ JoinOf (s.week j) (A j)
/-- a calendar in memory: its spans, joined -/
structure CalM (w : World) (g : Nat) (wk : Nat → List (Int × Int)) (fr : Nat → Bool) : Prop where
  lt : g < w.heap.size
  week : ∀ j, j < 7 → ∃ v, w.cell? ⟨g, j, none⟩ = some v ∧ w.ownsRow 0 48 2 v (wk j).length (flat (wk j))
  free : ∀ j, j < 70 → w.cell? ⟨g, 7 + j, none⟩ = some (.bool (fr j))
theorem CalM.on {w w' : World} {g : Nat} {wk : Nat → List (Int × Int)} {fr : Nat → Bool} (h : CalM w g wk fr) (hb : Below w.heap.size w w') : CalM w' g wk fr := by
  have hg : w.grownBy w' none := ⟨hb.os, hb.tape, hb.output, hb.size, fun k hk _ => hb.block k hk⟩
  refine ⟨Nat.lt_of_lt_of_le h.lt hb.size, fun j hj => ?_, fun j hj => ?_⟩
  · obtain ⟨v, h1, h2⟩ := h.week j hj
    exact ⟨v, (hb.cell (p := ⟨g, j, none⟩) h.lt).trans h1, h2.kept hg (by cases v.ownBlock <;> simp)⟩
  · exact (hb.cell (p := ⟨g, 7 + j, none⟩) h.lt).trans (h.free j hj)
/-- a calendar in memory, by the spans that its text names -/
def CalW (w : World) (g : Nat) (raw : Nat → List (Int × Int)) (fr : Nat → Bool) : Prop := ∃ wk, CalM w g wk fr ∧ ∀ j, j < 7 → JoinOf (raw j) (wk j)
theorem CalW.lt {w : World} {g : Nat} {raw : Nat → List (Int × Int)} {fr : Nat → Bool} (h : CalW w g raw fr) : g < w.heap.size := by
  obtain ⟨wk, h, _⟩ := h; exact h.lt
theorem CalW.on {w w' : World} {g : Nat} {raw : Nat → List (Int × Int)} {fr : Nat → Bool} (h : CalW w g raw fr) (hb : Below w.heap.size w w') : CalW w' g raw fr := by
  obtain ⟨wk, h, hj⟩ := h; exact ⟨wk, h.on hb, hj⟩
theorem ownsRow_base {w : World} {b b' : Nat} {e : TypeId} {size : Nat} {v : Value} {n : Nat} {xs : List Value} (h : w.ownsRow b e size v n xs) (hb : b' ≤ b) : w.ownsRow b' e size v n xs := by
  refine ⟨h.1, ?_⟩
  rcases h.2 with hn | ⟨g, cap, cur, h1, h2, h3⟩
  · exact .inl hn
  · exact .inr ⟨g, cap, cur, h1, by omega, h3⟩

theorem ownsRow_form {w : World} {b : Nat} {e : TypeId} {size : Nat} {v : Value} {n : Nat} {xs : List Value} (h : w.ownsRow b e size v n xs) : ∃ a l c, v = .slice a l c := by
  rcases h.2 with ⟨rfl, _⟩ | ⟨g, cap, cur, rfl, _⟩
  · exact ⟨_, _, _, rfl⟩
  · exact ⟨_, _, _, rfl⟩
section
variable {B b g k : Nat} {w0 w : World} {s : RS} {vs us : Nat → Value} {A : Nat → List (Int × Int)}
theorem PJ.on {w' : World} (h : PJ B b g w0 w s vs us A k) (hb : Below w.heap.size w w') : PJ B b g w0 w' s vs us A k := by
  have hg : w.grownBy w' none := ⟨hb.os, hb.tape, hb.output, hb.size, fun k hk _ => hb.block k hk⟩
  have hlt := h.lt
  have hbg := h.hb
  have hB := h.hB
  refine ⟨h.below.trans (hb.mono (by omega)), h.hB, h.hb, Nat.lt_of_lt_of_le h.lt hb.size, fun j hj => (hb.cell (p := ⟨g, j, none⟩) h.lt).trans (h.week j hj), fun j hj => (hb.cell (p := ⟨g, 7 + j, none⟩) h.lt).trans (h.free j hj), fun j => (hb.frozen (p := ⟨g, j, none⟩) h.lt).trans (h.frz j), fun j h1 h2 => (h.own j h1 h2).kept hg (by cases (vs j).ownBlock <;> simp), h.old, h.apart, fun j hj => ⟨(h.new j hj).1.kept hg (by cases (us j).ownBlock <;> simp), (h.new j hj).2⟩⟩
theorem PJ.step {w1 : World} {v : Value} {l : List (Int × Int)} (h : PJ B b g w0 w s vs us A k) (hk : k < 7) (hg : w.grownBy w1 (vs k).ownBlock) (hown : w1.ownsRow w.heap.size 48 2 v l.length (flat l)) (hJ : JoinOf (s.week k) l) :
    PJ B b g w0 (w1.setCell ⟨g, k, none⟩ v) s vs (fun j => if j = k then v else us j) (fun j => if j = k then l else A j) (k + 1) := by
  have hlt := h.lt
  have hbg := h.hb
  have hB := h.hB
  have hne : some g ≠ (vs k).ownBlock := fun e => by have := (h.old k g hk e.symm).2; omega
  have hblk := hg.block g hlt hne
  have hc : ∀ j, w1.cell? ⟨g, j, none⟩ = w.cell? ⟨g, j, none⟩ := fun j => World.cell?_of_block hblk
  have hsz := hg.size
  refine ⟨(h.below.grown hg (by omega) (fun q hq => by have := (h.old k q hk hq).1; omega)).setCell (by simp; omega) _, h.hB, h.hb, by simp; omega, fun j hj => ?_, fun j hj => ?_, fun j => ?_, fun j h1 h2 => ?_, h.old, h.apart, fun j hj2 => ?_⟩
  · by_cases e : j = k
    · subst e
      rw [sc_eq (by rw [hc]; exact h.week j hj), if_pos (by omega), if_pos rfl]
    · rw [sc_ne (by omega), hc, h.week j hj, if_neg e]
      by_cases q : j < k
      · rw [if_pos q, if_pos (by omega)]
      · rw [if_neg q, if_neg (by omega)]
  · rw [sc_ne (by omega), hc]; exact h.free j hj
  · rw [World.frozen?_setCell, World.frozen?_of_block hblk]; exact h.frz j
  · have hr := (h.own j (by omega) h2).kept hg (h.apart j k h2 hk (by omega))
    refine hr.kept (row := some g) ⟨rfl, rfl, rfl, by simp, fun q hq hne2 => Below.heap_setCell _ _ _ q (fun e => hne2 (by rw [e]))⟩ ?_
    cases hv : (vs j).ownBlock with
    | none => exact .inl rfl
    | some q =>
      right
      intro e
      injection e with e
      have := (h.old j q h2 hv).2
      omega
  · by_cases e : j = k
    · subst e
      rw [if_pos rfl, if_pos rfl]
      exact ⟨ownsRow_base (b := w.heap.size) (ownsRow_setCell_below hown (a := ⟨g, j, none⟩) (by simpa using hlt) v) (by omega), hJ⟩
    · rw [if_neg e, if_neg e]
      obtain ⟨n1, n2⟩ := h.new j (by omega)
      refine ⟨ownsRow_setCell_below (n1.kept hg ?_) (a := ⟨g, k, none⟩) (by simp) v, n2⟩
      cases hv : (vs k).ownBlock with
      | none => cases (us j).ownBlock <;> simp
      | some q =>
        cases hu : (us j).ownBlock with
        | none => exact .inl rfl
        | some r =>
          right
          intro e2
          injection e2 with e2
          have a1 := (h.old k q hk hv).2
          have a2 := (n1.lt r hu).1
          omega
theorem PJ.room {w1 : World} (h : PJ B b g w0 w s vs us A k) (hk : k < 7) (hg : w.grownBy w1 (vs k).ownBlock) : w1.cell? ⟨g, k, none⟩ = some (.slice none 0 0) ∧ w1.frozen? ⟨g, k, none⟩ = false := by
  have hlt := h.lt
  have hne : some g ≠ (vs k).ownBlock := fun e => by have := (h.old k g hk e.symm).2; omega
  have hblk := hg.block g hlt hne
  refine ⟨?_, ?_⟩
  · rw [World.cell?_of_block (a := ⟨g, k, none⟩) hblk, h.week k hk, if_neg (by omega)]
  · rw [World.frozen?_of_block (a := ⟨g, k, none⟩) hblk]; exact h.frz k
theorem PJ.cal (h : PJ B b g w0 w s vs us A 7) : CalW w g s.week s.free :=
  ⟨A, ⟨h.lt, fun j hj => ⟨us j, by rw [h.week j hj, if_pos hj], ownsRow_base (h.new j hj).1 (by omega)⟩, h.free⟩, fun j hj => (h.new j hj).2⟩
end
section
variable {it : Obj} {B b : Nat} {w0 w : World} {s : RS} {vs : Nat → Value}
theorem RW.made (h : RW it B b w0 w s vs) (cs : Array Value) (hcs : ∀ j, j < 77 → cs[j]? = some (if j < 7 then .slice none 0 0 else .bool (s.free (j - 7)))) : PJ B b w.heap.size w0 (w.alloc (.cells cs 61)) s vs nilVs (fun _ => []) 0 := by
  have hB := h.hB
  have hb := h.hb
  refine ⟨h.below.alloc (by omega) _, hB, hb, by simp, fun j hj => ?_, fun j hj => ?_, fun j => World.frozen?_alloc_at _ _ _ _ rfl, fun j _ hj => (h.own j hj).alloc _, fun j q hj hq => (h.own j hj).lt q hq, h.apart, fun j hj => by omega⟩
  · rw [World.cell?_alloc_at _ _ _ _ rfl, hcs j (by omega), if_pos hj, if_neg (by omega)]
  · rw [World.cell?_alloc_at _ _ _ _ rfl, hcs (7 + j) (by omega), if_neg (by omega)]
    congr 3; omega
theorem RW.iterAt {str : ByteArray} {p : Nat} (h : RW (.stringIter str p) B b w0 w s vs) (p' : Nat) : RW (.stringIter str p') B b w0 (w.iterAt (b + 1) str p') s vs := by
  have hB := h.hB
  have hn := h.n0
  have ho : ∀ j, j ≠ b + 1 → (w.iterAt (b + 1) str p').heap[j]? = w.heap[j]? := fun j hj => Lib.iterAt_other w (b + 1) j str p' hj
  have hsz := Lib.iterAt_size w (b + 1) str p'
  refine ⟨Lib.below_iterAt h.below (by omega) str p', h.hB, by rw [hsz]; exact h.hb, ?_, ?_, ?_, h.apart, ?_, h.n0, Lib.iterAt_heap w (b + 1) str p p' h.iter⟩
  · intro j hj; rw [World.cell?_of_block (w := w) (ho b (by omega))]; exact h.cell j hj
  · intro j; rw [World.frozen?_of_block (w := w) (ho b (by omega))]; exact h.frz j
  · intro j hj
    exact ownsRow_iterAt (h.own j hj) (by omega) str p'
  · intro j hj; rw [World.cell?_of_block (w := w) (ho 0 (by omega))]; exact h.names j hj
end
theorem RW.start (w : World) (s : ByteArray) (cs : Array Value) (h0 : 0 < w.heap.size) (hnm : ∀ j, j < 7 → w.cell? ⟨0, j, none⟩ = some (nmV j)) (hcs : ∀ j, j < 91 → cs[j]? = some (enc rs0 nilVs j)) :
    RW (.stringIter s 0) w.heap.size w.heap.size w ((w.alloc (.cells cs 59)).iter s 0) rs0 nilVs := by
  have hb1 : Below w.heap.size w (w.alloc (.cells cs 59)) := (Below.refl _ _).alloc (Nat.le_refl _) _
  have hb2 : Below (w.heap.size + 1) (w.alloc (.cells cs 59)) ((w.alloc (.cells cs 59)).iter s 0) := (Below.refl _ _).alloc (by simp) _
  have hi := World.iter_heap (w.alloc (.cells cs 59)) s 0
  refine ⟨hb1.trans (hb2.mono (by omega)), Nat.le_refl _, ?_, ?_, ?_, ?_, ?_, ?_, h0, ?_⟩
  · have := hb2.size; simp at this; omega
  · intro j hj
    rw [hb2.cell (p := ⟨w.heap.size, j, none⟩) (by simp), World.cell?_alloc_at _ _ _ _ rfl]; exact hcs j hj
  · intro j
    rw [hb2.frozen (p := ⟨w.heap.size, j, none⟩) (by simp)]; exact World.frozen?_alloc_at _ _ _ _ rfl
  · intro j hj; exact World.ownsRow_nil _ _ _ _
  · intro i j _ _ _; exact .inl rfl
  · intro j hj
    rw [hb2.cell (p := ⟨0, j, none⟩) (by simp), hb1.cell (p := ⟨0, j, none⟩) (by simpa using h0)]; exact hnm j hj
  · simpa using hi

set_option maxRecDepth 100000 in
set_option maxHeartbeats 1000000 in
theorem newReader_any (w : World) :
    Calls Tryd.prog 20 #[] w fun e w' => e = .returned (P0 w.heap.size) ∧ ∃ cs, w' = w.alloc (.cells cs 59) ∧ ∀ j, j < 91 → cs[j]? = some (enc rs0 nilVs j) := by
  go_enter Tryd.func20, Tryd.ntmps20
  go_wp2
  go_ret
  refine ⟨rfl, _, rfl, ?_⟩
  rw [rd0_cells]
  intro j hj
  simp [hj]
end Go.Proofs.YtcnmbldikjljeaaDoor
