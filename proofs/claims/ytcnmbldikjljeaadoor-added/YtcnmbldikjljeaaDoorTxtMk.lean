import Derived.Test.YtcnmbldikjljeaaDoorTxt
import Derived.WalkKit
import Derived.WalkSpells
import Derived.WalkLawsBesides
namespace Go.Proofs.YtcnmbldikjljeaaDoor
open Go.RowKit

def falses (n : Nat) : Array Value := madeCells #[.bool false] n
theorem boolInfo : (Tryd.prog.info? 4).map (fun i => (i.zero, i.size, i.bytes)) = some (some (.bool false), 1, 1) := by kernel_rfl
theorem mkN (n : Nat) (hn : n ≤ 1000) (w : World) : (Instr.makeSlice 27 (.int .i64 n) (.int .i64 n)).run Tryd.prog w = .ok (.slice (some ⟨w.heap.size, 0, none⟩) n n) (w.alloc (.cells (falses n) 4)) := by
  obtain ⟨i0, hi, hz0, hz1, hz2⟩ := info_parts boolInfo
  have h := run_make w 27 4 i0 (.bool false) Tryd.underlying27 hi hz0 .i64 .i64 n n (by omega) (by omega) (by rw [hz2]; omega) (by omega)
  rw [h, hz1]; simp [falses, Value.cells]
theorem mk672 (w : World) : (Instr.makeSlice 27 (.int .i64 672) (.int .i64 672)).run Tryd.prog w = .ok (.slice (some ⟨w.heap.size, 0, none⟩) 672 672) (w.alloc (.cells (falses 672) 4)) := mkN 672 (by omega) w
theorem mk70 (w : World) : (Instr.makeSlice 27 (.int .i64 70) (.int .i64 70)).run Tryd.prog w = .ok (.slice (some ⟨w.heap.size, 0, none⟩) 70 70) (w.alloc (.cells (falses 70) 4)) := mkN 70 (by omega) w

theorem cell_falses (w : World) (n j b : Nat) (t : TypeId) (hb : b = w.heap.size) (h : j < n) : (w.alloc (.cells (falses n) t)).cell? ⟨b, j, none⟩ = some (.bool false) := by
  rw [World.cell?_alloc_at _ _ _ _ hb]; simp [falses, madeCells, h, Nat.mod_one]
theorem TW.start (w : World) (ve vf : Value) (t t' : TypeId) (b : Nat) (hb : b = w.heap.size) :
    TW b w (((w.alloc (.cells #[ve, vf] t)).alloc (.cells (falses 672) t')).alloc (.cells (falses 70) t')) ve vf (fun _ => false) (fun _ => false) := by
  subst hb
  refine ⟨(((Below.refl _ _).alloc (Nat.le_refl _) _).alloc (by simp) _).alloc (by simp; omega) _, by simp, ?_, ?_, ?_, ?_, ?_, ?_⟩
  · rw [World.cell?_alloc_lt (h := by simp; omega), World.cell?_alloc_lt (h := by simp), World.cell?_alloc_at _ _ _ _ rfl]; rfl
  · rw [World.cell?_alloc_lt (h := by simp; omega), World.cell?_alloc_lt (h := by simp), World.cell?_alloc_at _ _ _ _ rfl]; rfl
  · intro j hj
    rw [World.cell?_alloc_lt (h := by simp)]
    exact cell_falses _ _ _ _ _ (by simp) hj
  · intro j
    rw [World.frozen?_alloc_old (h := by simp)]
    exact World.frozen?_alloc_at _ _ _ _ (by simp)
  · intro j hj
    exact cell_falses _ _ _ _ _ (by simp) hj
  · intro j
    exact World.frozen?_alloc_at _ _ _ _ (by simp)
end Go.Proofs.YtcnmbldikjljeaaDoor
