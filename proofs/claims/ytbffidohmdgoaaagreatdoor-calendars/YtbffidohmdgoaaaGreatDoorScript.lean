import Derived.Test.YtbffidohmdgoaaaGreatDoorLaw5
import Derived.Test.YtbffidohmdgoaaaGreatDoorArgs0
import Derived.SizedLaws
namespace Go.Proofs.YtbffidohmdgoaaaGreatDoor
open Go.ChangeShapes Go.WideShapes Go.ChangeAt Go.RowKit

theorem list6 {α : Type} {l : List α} (h : l.length = 6) : ∃ a b c d e f, l = [a, b, c, d, e, f] := by
  match l, h with
  | [a, b, c, d, e, f], _ => exact ⟨a, b, c, d, e, f, rfl⟩
theorem cellsOp : Tryz.prog.cellsOf 77 = 6 := by kernel_rfl
theorem bytesOp : Tryz.prog.bytesOf 77 = 72 := by kernel_rfl
theorem cellsStages : Tryz.prog.cellsOf 35 = 1 := by kernel_rfl
section
variable {H : Type} {enc : TypeId × Value → H} {W : World}
/-- a step that came in -/
theorem open_op {cs : List Value} {fuel : Nat} {y : DataW H × List MemPlace} (hlen : cs.length = 6) (h : DataW.trod enc Tryz.prog W 0 (fun _ => true) true fuel 77 cs = some y) : ∃ o : OpD, cs = o.cells ∧ OpOk o := by
  obtain ⟨u0, u1, u2, u3, u4, u5, rfl⟩ := list6 hlen
  obtain ⟨ys, k, _, _, _, hn, hy⟩ := DataW.trod_struct Tryz.underlying77 h
  obtain ⟨z0, z1, z2, z3, z4, z5, rfl⟩ := list6 hn
  have y0 : DataW.trod enc Tryz.prog W 0 (fun _ => true) true k 3 (([u0, u1, u2, u3, u4, u5].drop 0).take (Tryz.prog.cellsOf 3)) = some z0 := hy 0 _ rfl
  rw [cellsInt] at y0
  have y1 : DataW.trod enc Tryz.prog W 0 (fun _ => true) true k 3 (([u0, u1, u2, u3, u4, u5].drop 1).take (Tryz.prog.cellsOf 3)) = some z1 := hy 1 _ rfl
  rw [cellsInt] at y1
  have y2 : DataW.trod enc Tryz.prog W 0 (fun _ => true) true k 3 (([u0, u1, u2, u3, u4, u5].drop 2).take (Tryz.prog.cellsOf 3)) = some z2 := hy 2 _ rfl
  rw [cellsInt] at y2
  have y3 : DataW.trod enc Tryz.prog W 0 (fun _ => true) true k 3 (([u0, u1, u2, u3, u4, u5].drop 3).take (Tryz.prog.cellsOf 3)) = some z3 := hy 3 _ rfl
  rw [cellsInt] at y3
  have y4 : DataW.trod enc Tryz.prog W 0 (fun _ => true) true k 9 (([u0, u1, u2, u3, u4, u5].drop 4).take (Tryz.prog.cellsOf 9)) = some z4 := hy 4 _ rfl
  rw [cellsStr] at y4
  have y5 : DataW.trod enc Tryz.prog W 0 (fun _ => true) true k 35 (([u0, u1, u2, u3, u4, u5].drop 5).take (Tryz.prog.cellsOf 35)) = some z5 := hy 5 _ rfl
  rw [cellsStages] at y5
  obtain ⟨k0, e0, _, w0⟩ := DataW.trod_int Tryz.underlying3 y0
  obtain ⟨k1, e1, _, w1⟩ := DataW.trod_int Tryz.underlying3 y1
  obtain ⟨k2, e2, _, w2⟩ := DataW.trod_int Tryz.underlying3 y2
  obtain ⟨k3, e3, _, w3⟩ := DataW.trod_int Tryz.underlying3 y3
  obtain ⟨s, e4, _, w4⟩ := DataW.trod_string Tryz.underlying9 y4
  obtain ⟨la, ll, lc, e5⟩ := Joins.slice_form (show Tryz.prog.underlying 35 = some (.slice 149) from Tryz.underlying35) y5
  simp only [List.drop_zero, List.drop_succ_cons, List.take_succ_cons, List.take_zero, List.cons.injEq, and_true] at e0 e1 e2 e3 e4 e5
  subst e0 e1 e2 e3 e4 e5
  have b1 := bounds_i64 w1
  have b2 := bounds_i64 w2
  have b3 := bounds_i64 w3
  unfold maxLen at w4
  exact ⟨⟨k0, k1, k2, k3, s, .slice la ll lc⟩, rfl, ⟨b1.1, b1.2, b2.1, b2.2, b3.1, b3.2, w4, ⟨la, ll, lc, rfl⟩⟩⟩
/-- a script that came in -/
theorem open_script {a : Option Addr} {len cap fuel : Nat} {x : DataW H × List MemPlace} (h : DataW.trod enc Tryz.prog W 0 (fun _ => true) true fuel 22 [.slice a len cap] = some x)
    (hr : ∀ elems spare, x.1 = .slice elems spare → (elems.length + spare.length) * 72 ≤ 140737488351232) : ∃ os : List OpD, len = os.length ∧ Scr W a os cap := by
  rcases Deep.open_slice Tryz.underlying22 h with ⟨hcs, _⟩ | ⟨x0, l, c, m, n, D, Pl, hcs, _, hl, hm, hmm, hx, hel⟩
  · simp only [List.cons.injEq, Value.slice.injEq, and_true] at hcs
    obtain ⟨rfl, rfl, rfl⟩ := hcs
    exact ⟨[], rfl, ⟨fun _ => ⟨rfl, rfl⟩, fun j u hu => by simp [opsCells] at hu, fun o ho => by simp at ho, by simp⟩⟩
  · simp only [List.cons.injEq, Value.slice.injEq, and_true] at hcs
    obtain ⟨rfl, rfl, rfl⟩ := hcs
    simp only [if_true] at hmm
    subst hmm
    have hroom := hr _ _ (by rw [hx])
    simp only [List.length_map, List.length_range] at hroom
    rw [cellsOp] at hel
    have hE : ∀ i, i < len → ∃ o : OpD, OpOk o ∧ ∀ j, j < 6 → W.cell? ((x0.add (i * 6)).add j) = (o.cells)[j]? := by
      intro i hi
      obtain ⟨cs', h1, h2⟩ := hel i (by omega)
      obtain ⟨_, hlen, hcell⟩ := World.cells?_some h1
      obtain ⟨o, rfl, ho⟩ := open_op hlen h2
      exact ⟨o, ho, hcell⟩
    have _ : Inhabited OpD := ⟨⟨0, 0, 0, 0, ⟨#[]⟩, .slice none 0 0⟩⟩
    obtain ⟨en, hen⟩ := Deep.choose_lt (α := OpD) hE
    refine ⟨(List.range len).map en, by simp, ⟨fun e => (by cases e), fun j u hu => ?_, fun o ho => ?_, by simp; omega⟩⟩
    · have hlt : j < ((List.range len).map en).length * 6 := by rw [← opsCells_len]; exact (List.getElem?_eq_some_iff.1 hu).1
      simp only [List.length_map, List.length_range] at hlt
      have hi : j / 6 < len := by omega
      have hj : j = j / 6 * 6 + j % 6 := by omega
      have hat := opsCells_at ((List.range len).map en) (j / 6) (by simpa using hi) (j % 6) (by omega)
      rw [← hj, hu] at hat
      simp only [List.getElem_map, List.getElem_range] at hat
      have hc := (hen (j / 6) hi).2 (j % 6) (by omega)
      rw [← hat] at hc
      obtain ⟨b, off, spot⟩ := x0
      have hspot : spot = none := by
        have h00 : W.cell? (((Addr.mk b off spot).add (0 * 6)).add 0) = some (.int .i64 (en 0).k) := (hen 0 (by omega)).2 0 (by omega)
        have := World.cell?_spot h00
        simpa [Addr.add] using this
      subst hspot
      rw [add_plain, add_plain] at hc
      have e : off + j = off + j / 6 * 6 + j % 6 := by omega
      rw [← e] at hc
      exact ⟨b, off, rfl, World.block_lt_of_cell? W _ hc, hc⟩
    · simp only [List.mem_map, List.mem_range] at ho
      obtain ⟨i, hi, rfl⟩ := ho
      exact (hen i hi).1
end
end Go.Proofs.YtbffidohmdgoaaaGreatDoor
