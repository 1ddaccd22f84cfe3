import Derived.Test.YtcnmbldikjljeaaDoorKeep2
import Derived.Test.YtcnmbldikjljeaaDoorArgs0
namespace Go.Proofs.YtcnmbldikjljeaaDoor
open Go.ChangeShapes Go.WideShapes Go.ChangeAt Go.RowKit

theorem cellsE : Tryd.prog.cellsOf 49 = 3 := by kernel_rfl
section
variable {H : Type} {enc : TypeId × Value → H} {W : World}
/-- a slice of integers that came in -/
theorem open_list {a : Option Addr} {len cap fuel : Nat} {x : DataW H × List MemPlace} (h : DataW.trod enc Tryd.prog W 0 (fun _ => true) true fuel 23 [.slice a len cap] = some x) :
    ∃ fs : List Int, len = fs.length ∧ fs.length ≤ 9223372036854775807 ∧ ∀ i x, fs[i]? = some x → ∃ b off, a = some ⟨b, off, none⟩ ∧ b < W.heap.size ∧ W.cell? ⟨b, off + i, none⟩ = some (.int .i64 x) ∧ inR x := by
  rcases open_ints Tryd.underlying23 Tryd.underlying3 cellsInt h with ⟨hcs, _⟩ | ⟨x, l, c, zs, hcs, _, hl, hm, hz, _, hcell, hwz⟩
  · simp only [List.cons.injEq, Value.slice.injEq, and_true] at hcs
    obtain ⟨rfl, rfl, rfl⟩ := hcs
    exact ⟨[], rfl, by simp, fun i x hx => by simp at hx⟩
  · simp only [List.cons.injEq, Value.slice.injEq, and_true] at hcs
    obtain ⟨rfl, rfl, rfl⟩ := hcs
    simp only [if_true] at hz
    unfold maxLen at hm
    refine ⟨zs.take len, by simp; omega, by simp; omega, fun i y hy => ?_⟩
    have hi : i < len := by have := (List.getElem?_eq_some_iff.1 hy).1; simp at this; omega
    have hzi : zs[i]? = some y := by rw [List.getElem?_take] at hy; simpa [hi] using hy
    have hg : zs.getD i 0 = y := by simp [List.getD, hzi]
    obtain ⟨b, off, rfl, hc⟩ := ints_at hcell (by omega)
    have hc2 := hc i (by omega)
    rw [hg] at hc2
    exact ⟨b, off, rfl, World.block_lt_of_cell? W _ hc2, hc2, bounds_i64 (hwz y (List.mem_of_getElem? hzi))⟩

/-- a slice of arrays of three integers -/
theorem open_ents {a : Option Addr} {len cap fuel : Nat} {x : DataW H × List MemPlace} (h : DataW.trod enc Tryd.prog W 0 (fun _ => true) true fuel 22 [.slice a len cap] = some x) :
    ∃ es : List Ent, len = es.length ∧ es.length ≤ 9223372036854775807 ∧ ∀ i e, es[i]? = some e → ∃ b off, a = some ⟨b, off, none⟩ ∧ b < W.heap.size ∧ W.cell? ⟨b, off + i * 3, none⟩ = some (.int .i64 e.1) ∧ W.cell? ⟨b, off + i * 3 + 1, none⟩ = some (.int .i64 e.2.1) ∧ W.cell? ⟨b, off + i * 3 + 2, none⟩ = some (.int .i64 e.2.2) ∧ inR e.1 ∧ inR e.2.1 ∧ inR e.2.2 := by
  rcases Deep.open_slice Tryd.underlying22 h with ⟨hcs, _⟩ | ⟨x, l, c, m, n, D, Pl, hcs, _, hl, hm, hmm, _, hel⟩
  · simp only [List.cons.injEq, Value.slice.injEq, and_true] at hcs
    obtain ⟨rfl, rfl, rfl⟩ := hcs
    exact ⟨[], rfl, by simp, fun i x hx => by simp at hx⟩
  · simp only [List.cons.injEq, Value.slice.injEq, and_true] at hcs
    obtain ⟨rfl, rfl, rfl⟩ := hcs
    simp only [if_true] at hmm
    subst hmm
    unfold maxLen at hm
    rw [cellsE] at hel
    have hE : ∀ i, i < len → ∃ e : Ent, W.cell? (x.add (i * 3)) = some (.int .i64 e.1) ∧ W.cell? ((x.add (i * 3)).add 1) = some (.int .i64 e.2.1) ∧ W.cell? ((x.add (i * 3)).add 2) = some (.int .i64 e.2.2) ∧ inR e.1 ∧ inR e.2.1 ∧ inR e.2.2 := by
      intro i hi
      obtain ⟨cs', h1, h2⟩ := hel i (by omega)
      obtain ⟨_, hlen, hcell⟩ := World.cells?_some h1
      obtain ⟨ys, k, _, _, _, hn, hy⟩ := DataW.trod_array Tryd.underlying49 h2
      rw [cellsInt] at hy
      have y0 := hy 0 (by omega)
      have y1 := hy 1 (by omega)
      have y2 := hy 2 (by omega)
      match cs', hlen, ys, hn with
      | [u0, u1, u2], _, [z0, z1, z2], _ =>
        simp at y0 y1 y2
        obtain ⟨k0, e0, _, w0⟩ := DataW.trod_int Tryd.underlying3 y0
        obtain ⟨k1, e1, _, w1⟩ := DataW.trod_int Tryd.underlying3 y1
        obtain ⟨k2, e2, _, w2⟩ := DataW.trod_int Tryd.underlying3 y2
        simp at e0 e1 e2
        subst e0 e1 e2
        refine ⟨(k0, k1, k2), ?_, hcell 1 (by omega), hcell 2 (by omega), bounds_i64 w0, bounds_i64 w1, bounds_i64 w2⟩
        have := hcell 0 (by omega)
        simpa [Addr.add] using this
    obtain ⟨en, hen⟩ := Deep.choose_lt (α := Ent) hE
    refine ⟨(List.range len).map en, by simp, by simp; omega, fun i e he => ?_⟩
    have hi : i < len := by have := (List.getElem?_eq_some_iff.1 he).1; simpa using this
    have hee : en i = e := by simpa [hi] using he
    subst hee
    obtain ⟨g0, g1, g2, r0, r1, r2⟩ := hen i hi
    obtain ⟨b, off, spot⟩ := x
    have hspot : spot = none := by
      have := World.cell?_spot (hen 0 (by omega)).1
      simpa [Addr.add] using this
    subst hspot
    rw [add_plain] at g0 g1 g2
    rw [add_plain] at g1 g2
    exact ⟨b, off, rfl, World.block_lt_of_cell? W _ g0, g0, g1, g2, r0, r1, r2⟩

set_option maxRecDepth 100000 in
/-- a Week that came in -/
theorem open_week {v : Value} {d : DataW H} {p : List MemPlace} {r : Reach} {b0 : Nat} (hv : Value.okWide Tryd.prog W r b0 25 v) (h : DataW.Trod enc Tryd.prog W 0 (fun _ => true) true 25 v d p) :
    ∃ (es : List Ent) (fs : List Int) (ae af : Option Addr) (ce cf : Nat), v = .agg #[.slice ae es.length ce, .slice af fs.length cf] ∧ WK W es fs ae af := by
  obtain ⟨v0, v1, y0, y1, n, rfl, _, _, h0, h1⟩ := Joins.open_agg2 Tryd.underlying25 (by kernel_rfl) (by kernel_rfl) hv h
  obtain ⟨ae, le, ce, e0⟩ := Joins.slice_form (show Tryd.prog.underlying 22 = some (.slice 49) from Tryd.underlying22) h0
  obtain ⟨af, lf, cf, e1⟩ := Joins.slice_form (show Tryd.prog.underlying 23 = some (.slice 3) from Tryd.underlying23) h1
  simp at e0 e1
  subst e0 e1
  obtain ⟨es, rfl, b1, hE⟩ := open_ents h0
  obtain ⟨fs, rfl, b2, hF⟩ := open_list h1
  exact ⟨es, fs, ae, af, ce, cf, rfl, ⟨hE, hF, b1, b2⟩⟩
end
end Go.Proofs.YtcnmbldikjljeaaDoor
