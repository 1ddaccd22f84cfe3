import Derived.Test.YtbffidohmdgoaaaGreatDoorLaw1
namespace Go.Proofs.YtbffidohmdgoaaaGreatDoor
open Go.RowKit

/-- a calendar of the program, and the document's, in memory; they agree; none of their blocks is the script's own -/
def YrP (w : World) (wb : Nat) (row : Option Nat) (c r : Nat) (wk : Nat → List (Int × Int)) (fr : Nat → Bool) (F : Nat → Bool) (h cap : Nat) : Prop :=
  CalW w c wk fr ∧ (∀ j, (wk j).length ≤ 1000) ∧ (∀ t : Int, 0 ≤ t → t < 100800 → openL wk fr t = F t.toNat) ∧
  (r < w.heap.size ∧ w.cell? ⟨r, 0, none⟩ = some (.slice (some ⟨h, 0, none⟩) 100801 cap) ∧ r < h ∧ h < w.heap.size ∧ ∀ j, j < 100801 → w.cell? ⟨h, j, none⟩ = some (.int .i64 (cnt F j))) ∧
  (∀ k, k = c ∨ k = r ∨ k = h → k ≠ wb ∧ some k ≠ row)
def Yr (w : World) (wb : Nat) (row : Option Nat) (y : Nat × Nat) : Prop := ∃ wk fr F h cap, YrP w wb row y.1 y.2 wk fr F h cap
/-- what a change of memory leaves alone -/
structure Left2 (wb : Nat) (row : Option Nat) (w w' : World) : Prop where
  size : w.heap.size ≤ w'.heap.size
  block : ∀ k, k < w.heap.size → k ≠ wb → some k ≠ row → w'.heap[k]? = w.heap[k]?
theorem CalM.left {w w' : World} {wb : Nat} {row : Option Nat} {g : Nat} {wk : Nat → List (Int × Int)} {fr : Nat → Bool} (h : CalM w g wk fr) (L : Left2 wb row w w')
    (h1 : g ≠ wb) (h2 : some g ≠ row) (hwb : ∃ cs, w.heap[wb]? = some (.cells cs 75 (0, 0))) (hrow : ∀ k, row = some k → ∃ cs, w.heap[k]? = some (.cells cs 138 (0, 0))) : CalM w' g wk fr := by
  have hg := L.block g h.lt h1 h2
  refine ⟨Nat.lt_of_lt_of_le h.lt L.size, fun j hj => ?_, fun j hj => ?_⟩
  · obtain ⟨v, c1, c2⟩ := h.week j hj
    refine ⟨v, (World.cell?_of_block (a := ⟨g, j, none⟩) hg).trans c1, c2.1, ?_⟩
    rcases c2.2 with hn | ⟨q, cap, cur, e1, e2, e3, e4⟩
    · exact .inl hn
    · refine .inr ⟨q, cap, cur, e1, e2, ?_, e4⟩
      have n1 : q ≠ wb := by
        rintro rfl
        obtain ⟨cs, hcs⟩ := hwb
        rw [hcs] at e3
        simp at e3
      have n2 : some q ≠ row := by
        intro e
        obtain ⟨cs, hcs⟩ := hrow q e.symm
        rw [hcs] at e3
        simp at e3
      rw [L.block q (Array.getElem?_eq_some_iff.1 e3).1 n1 n2]
      exact e3
  · exact (World.cell?_of_block (a := ⟨g, 7 + j, none⟩) hg).trans (h.free j hj)
theorem CalW.left {w w' : World} {wb : Nat} {row : Option Nat} {g : Nat} {wk : Nat → List (Int × Int)} {fr : Nat → Bool} (h : CalW w g wk fr) (L : Left2 wb row w w')
    (h1 : g ≠ wb) (h2 : some g ≠ row) (hwb : ∃ cs, w.heap[wb]? = some (.cells cs 75 (0, 0))) (hrow : ∀ k, row = some k → ∃ cs, w.heap[k]? = some (.cells cs 138 (0, 0))) : CalW w' g wk fr := by
  obtain ⟨wj, M, hJ⟩ := h
  exact ⟨wj, M.left L h1 h2 hwb hrow, hJ⟩
theorem Yr.left {w w' : World} {wb : Nat} {row row' : Option Nat} {y : Nat × Nat} (h : Yr w wb row y) (L : Left2 wb row w w') (hwb : ∃ cs, w.heap[wb]? = some (.cells cs 75 (0, 0))) (hrow : ∀ k, row = some k → ∃ cs, w.heap[k]? = some (.cells cs 138 (0, 0)))
    (hr : ∀ k, row' = some k → row = some k ∨ w.heap.size ≤ k) : Yr w' wb row' y := by
  obtain ⟨wk, fr, F, h, cap, C, hl, ho, ⟨r1, r2, r3, r4, r5⟩, hav⟩ := h
  have ac := hav y.1 (.inl rfl)
  have ar := hav y.2 (.inr (.inl rfl))
  have ah := hav h (.inr (.inr rfl))
  have b1 := L.block y.2 r1 ar.1 ar.2
  have b2 := L.block h r4 ah.1 ah.2
  have hs := L.size
  refine ⟨wk, fr, F, h, cap, C.left L ac.1 ac.2 hwb hrow, hl, ho, ⟨by omega, (World.cell?_of_block (a := ⟨y.2, 0, none⟩) b1).trans r2, r3, by omega, fun j hj => (World.cell?_of_block (a := ⟨h, j, none⟩) b2).trans (r5 j hj)⟩, fun k hk => ⟨(hav k hk).1, fun e => ?_⟩⟩
  rcases hr k e.symm with q | q
  · exact (hav k hk).2 q.symm
  · have c1 := C.lt
    rcases hk with rfl | rfl | rfl <;> omega
def yrCells (ys : List (Nat × Nat)) : List Value := ys.flatMap fun y => [P0 y.1, P0 y.2]
theorem yrCells_append (a b : List (Nat × Nat)) : yrCells (a ++ b) = yrCells a ++ yrCells b := by simp [yrCells]
theorem yrCells_at (ys : List (Nat × Nat)) (i : Nat) (h : i < ys.length) : (yrCells ys)[i * 2]? = some (P0 ys[i].1) ∧ (yrCells ys)[i * 2 + 1]? = some (P0 ys[i].2) := by
  induction ys generalizing i with
  | nil => simp at h
  | cons y ys ih =>
    have e : yrCells (y :: ys) = P0 y.1 :: P0 y.2 :: yrCells ys := rfl
    rw [e]
    cases i with
    | zero => simp
    | succ i => rw [show (i + 1) * 2 = i * 2 + 1 + 1 by omega, show i * 2 + 1 + 1 + 1 = (i * 2 + 1) + 1 + 1 by omega]; simpa using ih i (by simpa using h)
/-- all that a script has made: calendars alone -/
structure DW (W w : World) (wb : Nat) (v : Value) (ys : List (Nat × Nat)) : Prop where
  below : Below W.heap.size W w
  hW : W.heap.size ≤ wb
  wbc : w.heap[wb]? = some (.cells #[v, .slice none 0 0, .slice none 0 0, .slice none 0 0] 75 (0, 0))
  own : w.ownsRow (wb + 1) 138 2 v ys.length (yrCells ys)
  yrs : ∀ y ∈ ys, Yr w wb v.ownBlock y
section
variable {W w : World} {wb : Nat} {v : Value} {ys : List (Nat × Nat)}
theorem DW.lt (D : DW W w wb v ys) : wb < w.heap.size := (Array.getElem?_eq_some_iff.1 D.wbc).1
theorem DW.row (D : DW W w wb v ys) : ∀ k, v.ownBlock = some k → ∃ cs, w.heap[k]? = some (.cells cs 138 (0, 0)) := by
  intro k hk
  rcases D.own.2 with ⟨rfl, _⟩ | ⟨q, cap, cur, rfl, _, e3, _⟩
  · simp [Value.ownBlock] at hk
  · simp [Value.ownBlock] at hk
    subst hk
    exact ⟨cur, e3⟩
theorem DW.c0 (D : DW W w wb v ys) : w.cell? ⟨wb, 0, none⟩ = some v := by simp [World.cell?, D.wbc]
theorem DW.c1 (D : DW W w wb v ys) : w.cell? ⟨wb, 1, none⟩ = some (.slice none 0 0) := by simp [World.cell?, D.wbc]
theorem DW.c2 (D : DW W w wb v ys) : w.cell? ⟨wb, 2, none⟩ = some (.slice none 0 0) := by simp [World.cell?, D.wbc]
theorem DW.c3 (D : DW W w wb v ys) : w.cell? ⟨wb, 3, none⟩ = some (.slice none 0 0) := by simp [World.cell?, D.wbc]
theorem DW.f0 (D : DW W w wb v ys) (j : Nat) : w.frozen? ⟨wb, j, none⟩ = false := by simp [World.frozen?, D.wbc]
theorem DW.on {w' : World} (D : DW W w wb v ys) (hb : Below w.heap.size w w') : DW W w' wb v ys := by
  have hW := D.below.size
  refine ⟨D.below.trans (hb.mono hW), D.hW, (hb.block wb D.lt).trans D.wbc, ?_, fun y hy => ?_⟩
  · exact D.own.kept (row := none) ⟨hb.os, hb.tape, hb.output, hb.size, fun k hk _ => hb.block k hk⟩ (by cases v.ownBlock <;> simp)
  · exact (D.yrs y hy).left ⟨hb.size, fun k hk _ _ => hb.block k hk⟩ ⟨_, D.wbc⟩ D.row (fun k hk => .inl hk)
/-- the append through the pointer, and the store behind it -/
theorem DW.go {w10 : World} {c r gg cap : Nat} (D : DW W w wb v ys) (hY : Yr w wb v.ownBlock (c, r))
    (hown : w10.ownsRow (wb + 1) 138 2 (.slice (some ⟨gg, 0, none⟩) (ys.length + 1) cap) (ys.length + 1) (yrCells ys ++ [P0 c, P0 r])) (hgrow : (w.alloc (.cells #[P0 c, P0 r] 138)).grownBy w10 v.ownBlock) (hat : v.ownBlock = some gg ∨ gg = w.heap.size + 1) :
    w10.cell? ⟨wb, 0, none⟩ = some v ∧ w10.frozen? ⟨wb, 0, none⟩ = false ∧ DW W (w10.setCell ⟨wb, 0, none⟩ (.slice (some ⟨gg, 0, none⟩) (ys.length + 1) cap)) wb (.slice (some ⟨gg, 0, none⟩) (ys.length + 1) cap) (ys ++ [(c, r)]) := by
  have hne : ∀ q, q ≤ wb → some q ≠ v.ownBlock := fun q hq e => by have := (D.own.lt q e.symm).1; omega
  have hlt := D.lt
  have h10 : w10.heap[wb]? = some (.cells #[v, .slice none 0 0, .slice none 0 0, .slice none 0 0] 75 (0, 0)) := (hgrow.block wb (by simp; omega) (hne wb (Nat.le_refl _))).trans ((Below.heap_alloc w _ wb hlt).trans D.wbc)
  have hsz := hgrow.size
  simp at hsz
  have L : Left2 wb v.ownBlock w (w10.setCell ⟨wb, 0, none⟩ (.slice (some ⟨gg, 0, none⟩) (ys.length + 1) cap)) := by
    refine ⟨by simp [World.setCell]; omega, fun k hk h1 h2 => ?_⟩
    rw [heap_setCell_other _ _ _ _ (by simpa using h1), hgrow.block k (by simp; omega) h2, Below.heap_alloc w _ k hk]
  have bW : Below W.heap.size W w10 := (D.below.alloc D.below.size _).grown hgrow (by have := D.below.size; simp; omega) (fun q hq => by have := (D.own.lt q hq).1; have := D.hW; omega)
  refine ⟨by simp [World.cell?, h10], by simp [World.frozen?, h10], bW.setCell (p := ⟨wb, 0, none⟩) D.hW _, D.hW, ?_, ?_, fun y hy => ?_⟩
  · rw [heap_setCell_same _ _ _ _ _ _ h10]; rfl
  · rw [yrCells_append, List.length_append]; exact ownsRow_setCell_below hown (a := ⟨wb, 0, none⟩) (by simp) _
  · have hr : ∀ k, (Value.slice (some ⟨gg, 0, none⟩) (ys.length + 1) cap).ownBlock = some k → v.ownBlock = some k ∨ w.heap.size ≤ k := by
      intro k hk
      simp [Value.ownBlock] at hk
      subst hk
      rcases hat with e | e
      · exact .inl e
      · right; omega
    rcases List.mem_append.1 hy with h | h
    · exact (D.yrs y h).left L ⟨_, D.wbc⟩ D.row hr
    · rw [List.mem_singleton] at h
      subst h
      exact hY.left L ⟨_, D.wbc⟩ D.row hr
end
end Go.Proofs.YtbffidohmdgoaaaGreatDoor
