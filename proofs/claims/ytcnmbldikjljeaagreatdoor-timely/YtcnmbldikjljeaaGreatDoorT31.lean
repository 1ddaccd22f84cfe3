import Derived.Test.YtcnmbldikjljeaaGreatDoorT30
import Derived.Test.YtcnmbldikjljeaaGreatDoorT25
namespace Go.Proofs.YtcnmbldikjljeaaGreatDoor
open Go.ChangeShapes Go.WideShapes Go.ChangeAt Go.RowKit

theorem cells2 : Tryz.prog.cellsOf 163 = 2 := by kernel_rfl
theorem cellsLL : Tryz.prog.cellsOf 162 = 1 := by kernel_rfl
theorem cellsPlan : Tryz.prog.cellsOf 31 = 1 := by kernel_rfl
theorem cellsLLL : Tryz.prog.cellsOf 29 = 1 := by kernel_rfl
theorem cellsMove : Tryz.prog.cellsOf 41 = 3 := by kernel_rfl
theorem list3 {α : Type} {l : List α} (h : l.length = 3) : ∃ a b c, l = [a, b, c] := by
  match l, h with
  | [a, b, c], _ => exact ⟨a, b, c, rfl⟩
section
variable {H : Type} {enc : TypeId × Value → H} {W : World}
/-- numbers that came in -/
theorem open_nums {v : Value} {fuel : Nat} {x : DataW H × List MemPlace} (h : DataW.trod enc Tryz.prog W 0 (fun _ => true) true fuel 24 [v] = some x) (hw : ∀ n ∈ x.1.weights Tryz.prog 24, n ≤ reachBytes) :
    ∃ l : List Int, LR W 1 v l.length (intCells l) ∧ ∀ x ∈ l, inR x := by
  obtain ⟨l, h1, hq, _⟩ := open_lst (α := Int) (fun x => inR x) (fun x => [.int .i64 x]) (fun _ => rfl) (by decide) Tryz.underlying24 cellsInt (fun cs fuel y hl hy _ => by
    match cs, hl with
    | [u], _ =>
      obtain ⟨k0, e0, _, w0⟩ := DataW.trod_int Tryz.underlying3 hy
      exact ⟨k0, e0, bounds_i64 w0⟩) h hw
  refine ⟨l, ?_, hq⟩
  rw [intCells_flat]; exact h1
theorem open_pairs {v : Value} {fuel : Nat} {x : DataW H × List MemPlace} (h : DataW.trod enc Tryz.prog W 0 (fun _ => true) true fuel 162 [v] = some x) (hw : ∀ n ∈ x.1.weights Tryz.prog 162, n ≤ reachBytes) :
    ∃ l : List (Int × Int), LR W 2 v l.length (flat l) ∧ ∀ x ∈ l, inR x.1 ∧ inR x.2 := by
  obtain ⟨l, h1, hq, _⟩ := open_lst (α := Int × Int) (fun x => inR x.1 ∧ inR x.2) (fun p => [.int .i64 p.1, .int .i64 p.2]) (fun _ => rfl) (by decide) Tryz.underlying162 cells2 (fun cs fuel y hl hy _ => by
    obtain ⟨u0, u1, rfl⟩ := list2 hl
    obtain ⟨ys, k, _, _, _, hn, hz⟩ := DataW.trod_array Tryz.underlying163 hy
    obtain ⟨z0, z1, rfl⟩ := list2 hn
    rw [cellsInt] at hz
    have y0 := hz 0 (by omega)
    have y1 := hz 1 (by omega)
    simp at y0 y1
    obtain ⟨k0, e0, _, w0⟩ := DataW.trod_int Tryz.underlying3 y0
    obtain ⟨k1, e1, _, w1⟩ := DataW.trod_int Tryz.underlying3 y1
    simp only [List.cons.injEq, and_true] at e0 e1
    subst e0 e1
    exact ⟨(k0, k1), rfl, bounds_i64 w0, bounds_i64 w1⟩) h hw
  exact ⟨l, h1, hq⟩
/-- moves that came in -/
theorem open_moves {v : Value} {fuel : Nat} {x : DataW H × List MemPlace} (h : DataW.trod enc Tryz.prog W 0 (fun _ => true) true fuel 32 [v] = some x) (hw : ∀ n ∈ x.1.weights Tryz.prog 32, n ≤ reachBytes) :
    ∃ ms : List Mv, MV W v ms := by
  obtain ⟨l, h1, hq, _⟩ := open_lst (α := Mv) (fun m => inR m.1 ∧ inR m.2.1 ∧ inR m.2.2) (fun m => [.int .i64 m.1, .int .i64 m.2.1, .int .i64 m.2.2]) (fun _ => rfl) (by decide) Tryz.underlying32 cellsMove (fun cs fuel y hl hy _ => by
    obtain ⟨u0, u1, u2, rfl⟩ := list3 hl
    obtain ⟨ys, k, _, _, _, hn, hz⟩ := DataW.trod_struct Tryz.underlying41 hy
    obtain ⟨z0, z1, z2, rfl⟩ := list3 hn
    have y0 : DataW.trod enc Tryz.prog W 0 (fun _ => true) true k 3 (([u0, u1, u2].drop 0).take (Tryz.prog.cellsOf 3)) = some z0 := hz 0 _ rfl
    have y1 : DataW.trod enc Tryz.prog W 0 (fun _ => true) true k 3 (([u0, u1, u2].drop 1).take (Tryz.prog.cellsOf 3)) = some z1 := hz 1 _ rfl
    have y2 : DataW.trod enc Tryz.prog W 0 (fun _ => true) true k 3 (([u0, u1, u2].drop 2).take (Tryz.prog.cellsOf 3)) = some z2 := hz 2 _ rfl
    rw [cellsInt] at y0 y1 y2
    obtain ⟨k0, e0, _, w0⟩ := DataW.trod_int Tryz.underlying3 y0
    obtain ⟨k1, e1, _, w1⟩ := DataW.trod_int Tryz.underlying3 y1
    obtain ⟨k2, e2, _, w2⟩ := DataW.trod_int Tryz.underlying3 y2
    simp only [List.drop_zero, List.drop_succ_cons, List.take_succ_cons, List.take_zero, List.cons.injEq, and_true] at e0 e1 e2
    subst e0 e1 e2
    exact ⟨(k0, k1, k2), rfl, bounds_i64 w0, bounds_i64 w1, bounds_i64 w2⟩) h hw
  exact ⟨l, h1, hq⟩
theorem flatMap_single (l : List (Value × List (Int × Int))) (d : Value × List (Int × Int)) : (l.flatMap fun x => [x.1]) = (List.range l.length).map fun i => (l.getD i d).1 := by
  apply List.ext_getElem?
  intro j
  by_cases hj : j < l.length
  · have := flatMap_at (fun x : Value × List (Int × Int) => [x.1]) 1 (fun _ => rfl) l j hj 0 (by omega)
    rw [Nat.mul_one, Nat.add_zero] at this
    rw [this]
    simp [hj]
  · rw [List.getElem?_eq_none (by rw [flatMap_len _ 1 (fun _ => rfl)]; omega), List.getElem?_eq_none (by simp; omega)]
theorem open_plan1 {v : Value} {fuel : Nat} {x : DataW H × List MemPlace} (h : DataW.trod enc Tryz.prog W 0 (fun _ => true) true fuel 29 [v] = some x) (hw : ∀ n ∈ x.1.weights Tryz.prog 29, n ≤ reachBytes) :
    ∃ ps lv, PL W v ps lv := by
  have _ : Inhabited (Value × List (Int × Int)) := ⟨(.slice none 0 0, [])⟩
  obtain ⟨l, h1, hq, _⟩ := open_lst (α := Value × List (Int × Int)) (fun x => LR W 2 x.1 x.2.length (flat x.2) ∧ ∀ y ∈ x.2, inR y.1 ∧ inR y.2) (fun x => [x.1]) (fun _ => rfl) (by decide) Tryz.underlying29 cellsLL (fun cs fuel y hl hy hyw => by
    match cs, hl with
    | [u], _ =>
      obtain ⟨L, l1, l2⟩ := open_pairs hy hyw
      exact ⟨(u, L), rfl, l1, l2⟩) h hw
  have hpl : ∀ i, i < l.length → plAt (l.map (·.2)) i = (l.getD i default).2 := fun i hi => by unfold plAt; simp [hi]
  have hmem : ∀ i, i < l.length → l.getD i default ∈ l := fun i hi => by simp [hi]
  refine ⟨l.map (·.2), fun i => (l.getD i default).1, ⟨?_, fun i hi => ?_, fun i hi => ?_⟩⟩
  · rw [List.length_map, ← flatMap_single]; exact h1
  · rw [List.length_map] at hi
    rw [hpl i hi]; exact (hq _ (hmem i hi)).1
  · rw [List.length_map] at hi
    rw [hpl i hi]; exact (hq _ (hmem i hi)).2
set_option maxRecDepth 100000 in
/-- a Plan that came in -/
theorem open_plan {v : Value} {d : DataW H} {p : List MemPlace} {r : Reach} {b0 : Nat} (hv : Value.okWide Tryz.prog W r b0 31 v) (h : DataW.Trod enc Tryz.prog W 0 (fun _ => true) true 31 v d p) (hw : ∀ n ∈ d.weights Tryz.prog 31, n ≤ reachBytes) :
    ∃ pv ps lv, v = .agg #[pv] ∧ PL W pv ps lv := by
  obtain ⟨cs, rfl, hsz⟩ := okWide_struct Tryz.underlying31 hv
  obtain ⟨c0, rfl⟩ : ∃ c0, cs = #[c0] := by
    have h1 : cs.size = 1 := hsz.trans cellsPlan
    obtain ⟨l⟩ := cs
    match l, h1 with
    | [c0], _ => exact ⟨c0, rfl⟩
  obtain ⟨fuel, hf⟩ := h
  obtain ⟨ys, k, _, hy1, _, hn, hz⟩ := DataW.trod_struct Tryz.underlying31 hf
  obtain ⟨z0, rfl⟩ : ∃ z0, ys = [z0] := by
    match ys, hn with
    | [z0], _ => exact ⟨z0, rfl⟩
  have y0 : DataW.trod enc Tryz.prog W 0 (fun _ => true) true k 29 (([c0].drop 0).take (Tryz.prog.cellsOf 29)) = some z0 := hz 0 _ rfl
  rw [cellsLLL] at y0
  simp only [Prod.mk.injEq] at hy1
  rw [hy1.1] at hw
  obtain ⟨ps, lv, hP⟩ := open_plan1 (show DataW.trod enc Tryz.prog W 0 (fun _ => true) true k 29 [c0] = some z0 from y0) (fun n hn => hw n (by
    simp only [DataW.weights, Tryz.underlying31]
    exact DataW.weights_mem_each (j := 0) (t := 29) (d := z0.1) rfl rfl n hn))
  exact ⟨c0, ps, lv, rfl, hP⟩
end
end Go.Proofs.YtcnmbldikjljeaaGreatDoor
