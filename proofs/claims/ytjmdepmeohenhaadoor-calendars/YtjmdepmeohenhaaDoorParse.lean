import Derived.Test.YtjmdepmeohenhaaDoorParseL
import Derived.Test.YtjmdepmeohenhaaDoorRdW6
import Derived.Lib.OthersKept
import Derived.Deep.MidRow
namespace Go.Proofs.YtjmdepmeohenhaaDoor
open Go.RowKit

def nilVs : Nat → Value := fun _ => .slice none 0 0
theorem rd0_cells : ((Tryd.zeroCells75.setIfInBounds 0 (.int .i64 0)).setIfInBounds 10 (.int .i64 (-1))).setIfInBounds 13 (.int .i64 (-1)) = ((List.range 91).map (enc rs0 nilVs)).toArray := by kernel_rfl
def calCells (v : Nat → Value) (f : Nat → Bool) : List Value := (List.range 77).map fun j => if j < 7 then v j else .bool (f (j - 7))
def frees (f : Nat → Bool) : List Value := (List.range 70).map fun j => .bool (f j)
theorem built_cal (v : Nat → Value) (f : Nat → Bool) : Tryd.prog.built 64 [(0, .agg #[v 0, v 1, v 2, v 3, v 4, v 5, v 6]), (1, .agg (frees f).toArray)] = some (calCells v f).toArray := by kernel_rfl
theorem run_build_cal (v : Nat → Value) (f : Nat → Bool) (w : World) : (Instr.build 64 #[(0, .agg #[v 0, v 1, v 2, v 3, v 4, v 5, v 6]), (1, .agg (frees f).toArray)]).run Tryd.prog w = .ok (.agg (calCells v f).toArray) w :=
  run_build w _ _ _ (built_cal v f)

/-- a calendar in memory -/
structure CalW (w : World) (g : Nat) (wk : Nat → List (Int × Int)) (fr : Nat → Bool) : Prop where
  lt : g < w.heap.size
  week : ∀ j, j < 7 → ∃ v, w.cell? ⟨g, j, none⟩ = some v ∧ w.ownsRow 0 66 2 v (wk j).length (flat (wk j))
  free : ∀ j, j < 70 → w.cell? ⟨g, 7 + j, none⟩ = some (.bool (fr j))
theorem CalW.on {w w' : World} {g : Nat} {wk : Nat → List (Int × Int)} {fr : Nat → Bool} (h : CalW w g wk fr) (hb : Below w.heap.size w w') : CalW w' g wk fr := by
  have hg : w.grownBy w' none := ⟨hb.os, hb.tape, hb.output, hb.size, fun k hk _ => hb.block k hk⟩
  refine ⟨Nat.lt_of_lt_of_le h.lt hb.size, fun j hj => ?_, fun j hj => ?_⟩
  · obtain ⟨v, h1, h2⟩ := h.week j hj
    exact ⟨v, (hb.cell (p := ⟨g, j, none⟩) h.lt).trans h1, h2.kept hg (by cases v.ownBlock <;> simp)⟩
  · exact (hb.cell (p := ⟨g, 7 + j, none⟩) h.lt).trans (h.free j hj)
theorem ownsRow_base {w : World} {b b' : Nat} {e : TypeId} {size : Nat} {v : Value} {n : Nat} {xs : List Value} (h : w.ownsRow b e size v n xs) (hb : b' ≤ b) : w.ownsRow b' e size v n xs := by
  refine ⟨h.1, ?_⟩
  rcases h.2 with hn | ⟨g, cap, cur, h1, h2, h3⟩
  · exact .inl hn
  · exact .inr ⟨g, cap, cur, h1, by omega, h3⟩

section
variable {it : Obj} {B b : Nat} {w0 w : World} {s : RS} {vs : Nat → Value}
theorem RW.cal (h : RW it B b w0 w s vs) : CalW (w.alloc (.cells (calCells vs s.free).toArray 64)) w.heap.size s.week s.free := by
  refine ⟨by simp, fun j hj => ⟨vs j, ?_, ?_⟩, fun j hj => ?_⟩
  · rw [World.cell?_alloc_at _ _ _ _ rfl]; simp [calCells, show j < 77 by omega, hj]
  · exact ownsRow_base ((h.own j hj).alloc _) (by omega)
  · rw [World.cell?_alloc_at _ _ _ _ rfl]; simp [calCells, show 7 + j < 77 by omega]; intro h; omega
theorem RW.iterAt {str : ByteArray} {p : Nat} (h : RW (.stringIter str p) B b w0 w s vs) (p' : Nat) : RW (.stringIter str p') B b w0 (w.iterAt (b + 1) str p') s vs := by
  have hB := h.hB
  have hn := h.n0
  have ho : ∀ j, j ≠ b + 1 → (w.iterAt (b + 1) str p').heap[j]? = w.heap[j]? := fun j hj => Lib.iterAt_other w (b + 1) j str p' hj
  have hsz := Lib.iterAt_size w (b + 1) str p'
  refine ⟨Lib.below_iterAt h.below (by omega) str p', h.hB, by rw [hsz]; exact h.hb, ?_, ?_, ?_, h.apart, ?_, h.n0, Lib.iterAt_heap w (b + 1) str p p' h.iter⟩
  · intro j hj; rw [World.cell?_of_block (w := w) (ho b (by omega))]; exact h.cell j hj
  · intro j; rw [World.frozen?_of_block (w := w) (ho b (by omega))]; exact h.frz j
  · intro j hj
    exact ownsRow_iterAt (h.own j hj) (by omega) str p'
  · intro j hj; rw [World.cell?_of_block (w := w) (ho 0 (by omega))]; exact h.names j hj
end
theorem RW.start (w : World) (s : ByteArray) (cs : Array Value) (h0 : 0 < w.heap.size) (hnm : ∀ j, j < 7 → w.cell? ⟨0, j, none⟩ = some (nmV j)) (hcs : ∀ j, j < 91 → cs[j]? = some (enc rs0 nilVs j)) :
    RW (.stringIter s 0) w.heap.size w.heap.size w ((w.alloc (.cells cs 75)).iter s 0) rs0 nilVs := by
  have hb1 : Below w.heap.size w (w.alloc (.cells cs 75)) := (Below.refl _ _).alloc (Nat.le_refl _) _
  have hb2 : Below (w.heap.size + 1) (w.alloc (.cells cs 75)) ((w.alloc (.cells cs 75)).iter s 0) := (Below.refl _ _).alloc (by simp) _
  have hi := World.iter_heap (w.alloc (.cells cs 75)) s 0
  refine ⟨hb1.trans (hb2.mono (by omega)), Nat.le_refl _, ?_, ?_, ?_, ?_, ?_, ?_, h0, ?_⟩
  · have := hb2.size; simp at this; omega
  · intro j hj
    rw [hb2.cell (p := ⟨w.heap.size, j, none⟩) (by simp), World.cell?_alloc_at _ _ _ _ rfl]; exact hcs j hj
  · intro j
    rw [hb2.frozen (p := ⟨w.heap.size, j, none⟩) (by simp)]; exact World.frozen?_alloc_at _ _ _ _ rfl
  · intro j hj; exact World.ownsRow_nil _ _ _ _
  · intro i j _ _ _; exact .inl rfl
  · intro j hj
    rw [hb2.cell (p := ⟨0, j, none⟩) (by simp), hb1.cell (p := ⟨0, j, none⟩) (by simpa using h0)]; exact hnm j hj
  · simpa using hi

set_option maxRecDepth 100000 in
set_option maxHeartbeats 1000000 in
theorem newReader_any (w : World) :
    Calls Tryd.prog 20 #[] w fun e w' => e = .returned (P0 w.heap.size) ∧ ∃ cs, w' = w.alloc (.cells cs 75) ∧ ∀ j, j < 91 → cs[j]? = some (enc rs0 nilVs j) := by
  go_enter Tryd.func20, Tryd.ntmps20
  go_wp2
  go_ret
  refine ⟨rfl, _, rfl, ?_⟩
  rw [rd0_cells]
  intro j hj
  simp [hj]
end Go.Proofs.YtjmdepmeohenhaaDoor
