import Derived.Test.YtcnmbldikjljeaaDoorRd
import Derived.ProofKit
import Derived.LaidMore
import Derived.OpenShut
import Derived.Stop.Joined
import Derived.ChangeOld
import Derived.Deep.Slices
import Derived.Lib.SmallJoins
namespace Go.Proofs.YtcnmbldikjljeaaDoor
open Go.ChangeShapes Go.WideShapes Go.ChangeAt Go.RowKit

theorem own : ownKnob Tryd.prog.godebug = none := by kernel_rfl
theorem laidOut : laidOutB Tryd.prog = true := by kernel_rfl
/-- the listed variable's name, off the row -/
abbrev dn : String := Rows.namedRow.named.headD default
theorem gNames : Tryd.prog.globalNamed dn = some 0 := by kernel_rfl
theorem tNames : (Tryd.prog.globals[0]?).map (·.type) = some 73 := by kernel_rfl
theorem cellsInt : Tryd.prog.cellsOf 3 = 1 := by kernel_rfl
theorem cellsStr : Tryd.prog.cellsOf 9 = 1 := by kernel_rfl
theorem cellsN : Tryd.prog.cellsOf 73 = 7 := by kernel_rfl

abbrev laidList : List (String × DataW Unit) := [(dn, Rows.laid_docket_docket_dayNames)]

theorem door_met (os : Os) (args : Array Value) : laidMetH Tryd.prog laidList ((World.doorLaid Tryd.prog 400 os).forCall (fun _ _ => 0) ⟨#[], args, []⟩).memory :=
  laidMetH_of_parts3 (fuel := 8) (laidMet_of_run' 8 (by kernel_rfl) (by kernel_rfl)) (by kernel_rfl) (by kernel_rfl)

theorem bytes_of_list (s : ByteArray) (l : List UInt8) (h : s.data.toList = l) : s = ⟨l.toArray⟩ := by subst h; cases s; simp

theorem names_of_laid {W : World} (h : laidMetH Tryd.prog laidList W) : ∀ j, j < 7 → W.cell? ⟨0, j, none⟩ = some (nmV j) := by
  rw [MakeChecks.laidMetH_plain _ _ _ (by kernel_rfl)] at h
  obtain ⟨ps, ⟨g0, t0, cs0, f0, p0, q0, hg0, ht0, hv0, hd0, _, _⟩, _, _⟩ := h
  obtain rfl := Option.some.inj (gNames.symm.trans hg0)
  obtain rfl := Option.some.inj (tNames.symm.trans ht0)
  obtain ⟨xs, m, rfl, hx, hlen, hn, hel⟩ := DataW.trod_array Tryd.underlying73 hd0
  simp only [Prod.mk.injEq] at hx
  intro j hj
  have hc := World.var?_cell hg0 hv0 j
  rw [hc]
  have hj2 := hel j hj
  rw [cellsStr] at hj2
  obtain ⟨y, hy⟩ : ∃ y, xs[j]? = some y := ⟨xs[j]'(by omega), by simp⟩
  rw [hy] at hj2
  obtain ⟨s, e1, e2, _⟩ := DataW.trod_string Tryd.underlying9 hj2
  have hcs : cs0[j]? = some (.string s) := by
    have := congrArg (·[0]?) e1
    simpa [List.getElem?_take, List.getElem?_drop] using this
  rw [hcs]
  have hmap : (xs.map (·.1))[j]? = some (.lit (.string s.data.toList)) := by simp [hy, e2]
  have hD := hx.1
  simp only [Rows.laid_docket_docket_dayNames, DataW.agg.injEq] at hD
  rw [← hD] at hmap
  unfold nmV
  have key : ∀ l : List UInt8, s.data.toList = l → Value.string s = .string ⟨l.toArray⟩ := fun l hl => by rw [bytes_of_list s l hl]
  have hj7 : j = 0 ∨ j = 1 ∨ j = 2 ∨ j = 3 ∨ j = 4 ∨ j = 5 ∨ j = 6 := by omega
  rcases hj7 with rfl | rfl | rfl | rfl | rfl | rfl | rfl
  all_goals
    simp only [List.getElem?_cons_zero, List.getElem?_cons_succ, Option.some.injEq, DataW.lit.injEq, Lit.string.injEq] at hmap
    rw [key _ hmap.symm]
    rfl
end Go.Proofs.YtcnmbldikjljeaaDoor
