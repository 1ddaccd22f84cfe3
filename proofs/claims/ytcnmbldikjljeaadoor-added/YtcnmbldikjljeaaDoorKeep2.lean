import Derived.Test.YtcnmbldikjljeaaDoorKeep1
namespace Go.Proofs.YtcnmbldikjljeaaDoor
open Go.RowKit

/-- a Week in memory -/
structure WK (w : World) (es : List Ent) (fs : List Int) (ae af : Option Addr) : Prop where
  E : ∀ i e, es[i]? = some e → ∃ b off, ae = some ⟨b, off, none⟩ ∧ b < w.heap.size ∧ w.cell? ⟨b, off + i * 3, none⟩ = some (.int .i64 e.1) ∧ w.cell? ⟨b, off + i * 3 + 1, none⟩ = some (.int .i64 e.2.1) ∧ w.cell? ⟨b, off + i * 3 + 2, none⟩ = some (.int .i64 e.2.2) ∧ inR e.1 ∧ inR e.2.1 ∧ inR e.2.2
  F : ∀ i x, fs[i]? = some x → ∃ b off, af = some ⟨b, off, none⟩ ∧ b < w.heap.size ∧ w.cell? ⟨b, off + i, none⟩ = some (.int .i64 x) ∧ inR x
  le : es.length ≤ 9223372036854775807
  lf : fs.length ≤ 9223372036854775807
theorem WK.on {w w' : World} {es : List Ent} {fs : List Int} {ae af : Option Addr} (h : WK w es fs ae af) (hb : Below w.heap.size w w') : WK w' es fs ae af := by
  refine ⟨fun i e he => ?_, fun i x hx => ?_, h.le, h.lf⟩
  · obtain ⟨b, off, h1, h2, h3, h4, h5, h6⟩ := h.E i e he
    exact ⟨b, off, h1, Nat.lt_of_lt_of_le h2 hb.size, (hb.cell (p := ⟨b, off + i * 3, none⟩) h2).trans h3, (hb.cell (p := ⟨b, off + i * 3 + 1, none⟩) h2).trans h4, (hb.cell (p := ⟨b, off + i * 3 + 2, none⟩) h2).trans h5, h6⟩
  · obtain ⟨b, off, h1, h2, h3, h4⟩ := h.F i x hx
    exact ⟨b, off, h1, Nat.lt_of_lt_of_le h2 hb.size, (hb.cell (p := ⟨b, off + i, none⟩) h2).trans h3, h4⟩
theorem nm_on {w w' : World} (h0 : 0 < w.heap.size) (hnm : ∀ j, j < 7 → w.cell? ⟨0, j, none⟩ = some (nmV j)) (hb : Below w.heap.size w w') : ∀ j, j < 7 → w'.cell? ⟨0, j, none⟩ = some (nmV j) :=
  fun j hj => (hb.cell (p := ⟨0, j, none⟩) h0).trans (hnm j hj)

abbrev txtB (es : List Ent) (fs : List Int) : ByteArray := ⟨(theTxt es fs).toArray⟩

/-- what read answers, and leaves -/
structure RP (es : List Ent) (fs : List Int) (w : World) (e : Ending) (w' : World) (g X : Nat) : Prop where
  eq : e = .returned (.tuple #[P0 g, .slice (some ⟨X + 1, 0, none⟩) 672 672, .slice (some ⟨X + 2, 0, none⟩) 70 70])
  below : Below w.heap.size w w'
  hX : w.heap.size ≤ X
  hX2 : X + 2 < w'.heap.size
  cal : CalW w' g (parseL (txtB es fs)).2.week (parseL (txtB es fs)).2.free
  wk : ∀ j, j < 672 → w'.cell? ⟨X + 1, j, none⟩ = some (.bool (theWk es j))
  off : ∀ j, j < 70 → w'.cell? ⟨X + 2, j, none⟩ = some (.bool (theOff fs j))

set_option maxRecDepth 100000 in
set_option maxHeartbeats 1000000 in
theorem read_any (es : List Ent) (fs : List Int) (ae af : Option Addr) (ce cf : Nat) (w : World) (h0 : 0 < w.heap.size) (hnm : ∀ j, j < 7 → w.cell? ⟨0, j, none⟩ = some (nmV j)) (K : WK w es fs ae af)
    (hok : (parseL (txtB es fs)).1 = true) (hsz : (theTxt es fs).length ≤ 200) :
    Calls Tryd.prog 7 #[.agg #[.slice ae es.length ce, .slice af fs.length cf]] w fun e w' => ∃ g X, RP es fs w e w' g X := by
  have HNM := hide hnm
  have HOK := hide hok
  clear hnm hok
  have hbA : Below w.heap.size w (w.alloc (Obj.cells #[.slice ae es.length ce, .slice af fs.length cf] 25)) := (Below.refl _ _).alloc (Nat.le_refl _) _
  go_enter Tryd.func7, Tryd.ntmps7
  go_wp2_with fail
  refine (reads_any _ (by simp) (nm_on h0 HNM.out hbA)).mono ?_
  rintro e w1 ⟨rfl, hb1⟩
  have c0 : w1.cell? ⟨w.heap.size, 0, none⟩ = some (.slice ae es.length ce) := (hb1.cell (p := ⟨w.heap.size, 0, none⟩) (by simp)).trans (World.cell?_alloc_at _ _ _ _ rfl)
  have c1 : w1.cell? ⟨w.heap.size, 1, none⟩ = some (.slice af fs.length cf) := (hb1.cell (p := ⟨w.heap.size, 1, none⟩) (by simp)).trans (World.cell?_alloc_at _ _ _ _ rfl)
  have hb01 : Below w.heap.size w w1 := hbA.trans (hb1.mono (by simp))
  have K1 := K.on hb01
  go_wp2_with fail
  refine (text_any es fs ae af ce cf _ K1.E K1.F K1.lf K1.le).mono ?_
  rintro e w2 ⟨rfl, T⟩
  have hb12 : Below w1.heap.size w1 w2 := T.below
  have hb02 : Below w.heap.size w w2 := hb01.trans (hb12.mono hb01.size)
  go_wp2_with fail
  refine (parse_any (txtB es fs) w2 (by have := hb02.size; omega) (nm_on h0 HNM.out hb02) (by show (theTxt es fs).toArray.size ≤ 200; simpa using hsz)).mono ?_
  rintro e w3 ⟨hb3, ⟨_, g, hg, rfl, C⟩ | ⟨hno, _⟩⟩
  · have hsz3 := hb3.size
    have hTs := T.size
    go_wp2_with fail
    go_ret3
    exact ⟨g, w1.heap.size, rfl, hb02.trans (hb3.mono hb02.size), hb01.size, by omega, C,
      fun j hj => (hb3.cell (p := ⟨w1.heap.size + 1, j, none⟩) (by simp; omega)).trans (T.wk j hj),
      fun j hj => (hb3.cell (p := ⟨w1.heap.size + 2, j, none⟩) (by simp; omega)).trans (T.ok j hj)⟩
  · rw [HOK.out] at hno; cases hno

end Go.Proofs.YtcnmbldikjljeaaDoor
