import Derived.Test.YtcnmbldikjljeaaGreatDoorC17
import Derived.Deep.DeepMust
import Derived.Deep.RegionHeld3
namespace Go.Proofs.YtcnmbldikjljeaaGreatDoor
open Go.RowKit

/-- a calendar of the program, and the document's, in memory; they agree; none of their blocks is the script's own -/
def YrP (w : World) (wb : Nat) (row : Option Nat) (c r : Nat) (wk : Nat → List (Int × Int)) (fr : Nat → Bool) (F : Nat → Bool) (h cap : Nat) : Prop :=
  CalW w c wk fr ∧ (∀ j, (wk j).length ≤ 1000) ∧ (∀ t : Int, 0 ≤ t → t < 100800 → openL wk fr t = F t.toNat) ∧
  (r < w.heap.size ∧ w.cell? ⟨r, 0, none⟩ = some (.slice (some ⟨h, 0, none⟩) 100801 cap) ∧ r < h ∧ h < w.heap.size ∧ ∀ j, j < 100801 → w.cell? ⟨h, j, none⟩ = some (.int .i64 (cnt F j))) ∧
  (∀ k, k = c ∨ k = r ∨ k = h → k ≠ wb ∧ some k ≠ row)
def Yr (w : World) (wb : Nat) (row : Option Nat) (y : Nat × Nat) : Prop := ∃ wk fr F h cap, YrP w wb row y.1 y.2 wk fr F h cap
/-- what a change of memory leaves alone -/
structure Left2 (wb : Nat) (row : Option Nat) (w w' : World) : Prop where
  size : w.heap.size ≤ w'.heap.size
  block : ∀ k, k < w.heap.size → k ≠ wb → some k ≠ row → w'.heap[k]? = w.heap[k]?
theorem CalM.left {w w' : World} {wb : Nat} {row : Option Nat} {g : Nat} {wk : Nat → List (Int × Int)} {fr : Nat → Bool} (h : CalM w g wk fr) (L : Left2 wb row w w')
    (h1 : g ≠ wb) (h2 : some g ≠ row) (hwb : ∃ cs, w.heap[wb]? = some (.cells cs 82 (0, 0))) (hrow : ∀ k, row = some k → ∃ cs, w.heap[k]? = some (.cells cs 152 (0, 0))) : CalM w' g wk fr := by
  have hg := L.block g h.lt h1 h2
  refine ⟨Nat.lt_of_lt_of_le h.lt L.size, fun j hj => ?_, fun j hj => ?_⟩
  · obtain ⟨v, c1, c2⟩ := h.week j hj
    refine ⟨v, (World.cell?_of_block (a := ⟨g, j, none⟩) hg).trans c1, c2.1, ?_⟩
    rcases c2.2 with hn | ⟨q, cap, cur, e1, e2, e3, e4⟩
    · exact .inl hn
    · refine .inr ⟨q, cap, cur, e1, e2, ?_, e4⟩
      have n1 : q ≠ wb := by
        rintro rfl
        obtain ⟨cs, hcs⟩ := hwb
        rw [hcs] at e3
        simp at e3
      have n2 : some q ≠ row := by
        intro e
        obtain ⟨cs, hcs⟩ := hrow q e.symm
        rw [hcs] at e3
        simp at e3
      rw [L.block q (Array.getElem?_eq_some_iff.1 e3).1 n1 n2]
      exact e3
  · exact (World.cell?_of_block (a := ⟨g, 7 + j, none⟩) hg).trans (h.free j hj)
theorem CalW.left {w w' : World} {wb : Nat} {row : Option Nat} {g : Nat} {wk : Nat → List (Int × Int)} {fr : Nat → Bool} (h : CalW w g wk fr) (L : Left2 wb row w w')
    (h1 : g ≠ wb) (h2 : some g ≠ row) (hwb : ∃ cs, w.heap[wb]? = some (.cells cs 82 (0, 0))) (hrow : ∀ k, row = some k → ∃ cs, w.heap[k]? = some (.cells cs 152 (0, 0))) : CalW w' g wk fr := by
  obtain ⟨wj, M, hJ⟩ := h
  exact ⟨wj, M.left L h1 h2 hwb hrow, hJ⟩
theorem Yr.left {w w' : World} {wb : Nat} {row row' : Option Nat} {y : Nat × Nat} (h : Yr w wb row y) (L : Left2 wb row w w') (hwb : ∃ cs, w.heap[wb]? = some (.cells cs 82 (0, 0))) (hrow : ∀ k, row = some k → ∃ cs, w.heap[k]? = some (.cells cs 152 (0, 0)))
    (hr : ∀ k, row' = some k → row = some k ∨ w.heap.size ≤ k) : Yr w' wb row' y := by
  obtain ⟨wk, fr, F, h, cap, C, hl, ho, ⟨r1, r2, r3, r4, r5⟩, hav⟩ := h
  have ac := hav y.1 (.inl rfl)
  have ar := hav y.2 (.inr (.inl rfl))
  have ah := hav h (.inr (.inr rfl))
  have b1 := L.block y.2 r1 ar.1 ar.2
  have b2 := L.block h r4 ah.1 ah.2
  have hs := L.size
  refine ⟨wk, fr, F, h, cap, C.left L ac.1 ac.2 hwb hrow, hl, ho, ⟨by omega, (World.cell?_of_block (a := ⟨y.2, 0, none⟩) b1).trans r2, r3, by omega, fun j hj => (World.cell?_of_block (a := ⟨h, j, none⟩) b2).trans (r5 j hj)⟩, fun k hk => ⟨(hav k hk).1, fun e => ?_⟩⟩
  rcases hr k e.symm with q | q
  · exact (hav k hk).2 q.symm
  · have c1 := C.lt
    rcases hk with rfl | rfl | rfl <;> omega
def yrCells (ys : List (Nat × Nat)) : List Value := ys.flatMap fun y => [P0 y.1, P0 y.2]
theorem yrCells_append (a b : List (Nat × Nat)) : yrCells (a ++ b) = yrCells a ++ yrCells b := by simp [yrCells]
theorem yrCells_at (ys : List (Nat × Nat)) (i : Nat) (h : i < ys.length) : (yrCells ys)[i * 2]? = some (P0 ys[i].1) ∧ (yrCells ys)[i * 2 + 1]? = some (P0 ys[i].2) := by
  induction ys generalizing i with
  | nil => simp at h
  | cons y ys ih =>
    have e : yrCells (y :: ys) = P0 y.1 :: P0 y.2 :: yrCells ys := rfl
    rw [e]
    cases i with
    | zero => simp
    | succ i => rw [show (i + 1) * 2 = i * 2 + 1 + 1 by omega, show i * 2 + 1 + 1 + 1 = (i * 2 + 1) + 1 + 1 by omega]; simpa using ih i (by simpa using h)
/-- all that a script has made: calendars alone -/
structure DW (W w : World) (wb : Nat) (v : Value) (ys : List (Nat × Nat)) : Prop where
  below : Below W.heap.size W w
  hW : W.heap.size ≤ wb
  wbc : w.heap[wb]? = some (.cells #[v, .slice none 0 0, .slice none 0 0, .slice none 0 0] 82 (0, 0))
  own : w.ownsRow (wb + 1) 152 2 v ys.length (yrCells ys)
  yrs : ∀ y ∈ ys, Yr w wb v.ownBlock y
section
variable {W w : World} {wb : Nat} {v : Value} {ys : List (Nat × Nat)}
theorem DW.lt (D : DW W w wb v ys) : wb < w.heap.size := (Array.getElem?_eq_some_iff.1 D.wbc).1
theorem DW.row (D : DW W w wb v ys) : ∀ k, v.ownBlock = some k → ∃ cs, w.heap[k]? = some (.cells cs 152 (0, 0)) := by
  intro k hk
  rcases D.own.2 with ⟨rfl, _⟩ | ⟨q, cap, cur, rfl, _, e3, _⟩
  · simp [Value.ownBlock] at hk
  · simp [Value.ownBlock] at hk
    subst hk
    exact ⟨cur, e3⟩
theorem DW.c0 (D : DW W w wb v ys) : w.cell? ⟨wb, 0, none⟩ = some v := by simp [World.cell?, D.wbc]
theorem DW.c1 (D : DW W w wb v ys) : w.cell? ⟨wb, 1, none⟩ = some (.slice none 0 0) := by simp [World.cell?, D.wbc]
theorem DW.c2 (D : DW W w wb v ys) : w.cell? ⟨wb, 2, none⟩ = some (.slice none 0 0) := by simp [World.cell?, D.wbc]
theorem DW.c3 (D : DW W w wb v ys) : w.cell? ⟨wb, 3, none⟩ = some (.slice none 0 0) := by simp [World.cell?, D.wbc]
theorem DW.f0 (D : DW W w wb v ys) (j : Nat) : w.frozen? ⟨wb, j, none⟩ = false := by simp [World.frozen?, D.wbc]
theorem DW.on {w' : World} (D : DW W w wb v ys) (hb : Below w.heap.size w w') : DW W w' wb v ys := by
  have hW := D.below.size
  refine ⟨D.below.trans (hb.mono hW), D.hW, (hb.block wb D.lt).trans D.wbc, ?_, fun y hy => ?_⟩
  · exact D.own.kept (row := none) ⟨hb.os, hb.tape, hb.output, hb.size, fun k hk _ => hb.block k hk⟩ (by cases v.ownBlock <;> simp)
  · exact (D.yrs y hy).left ⟨hb.size, fun k hk _ _ => hb.block k hk⟩ ⟨_, D.wbc⟩ D.row (fun k hk => .inl hk)
/-- the append through the pointer, and the store behind it -/
theorem DW.go {w10 : World} {c r gg cap : Nat} (D : DW W w wb v ys) (hY : Yr w wb v.ownBlock (c, r))
    (hown : w10.ownsRow (wb + 1) 152 2 (.slice (some ⟨gg, 0, none⟩) (ys.length + 1) cap) (ys.length + 1) (yrCells ys ++ [P0 c, P0 r])) (hgrow : (w.alloc (.cells #[P0 c, P0 r] 152)).grownBy w10 v.ownBlock) (hat : v.ownBlock = some gg ∨ gg = w.heap.size + 1) :
    w10.cell? ⟨wb, 0, none⟩ = some v ∧ w10.frozen? ⟨wb, 0, none⟩ = false ∧ DW W (w10.setCell ⟨wb, 0, none⟩ (.slice (some ⟨gg, 0, none⟩) (ys.length + 1) cap)) wb (.slice (some ⟨gg, 0, none⟩) (ys.length + 1) cap) (ys ++ [(c, r)]) := by
  have hne : ∀ q, q ≤ wb → some q ≠ v.ownBlock := fun q hq e => by have := (D.own.lt q e.symm).1; omega
  have hlt := D.lt
  have h10 : w10.heap[wb]? = some (.cells #[v, .slice none 0 0, .slice none 0 0, .slice none 0 0] 82 (0, 0)) := (hgrow.block wb (by simp; omega) (hne wb (Nat.le_refl _))).trans ((Below.heap_alloc w _ wb hlt).trans D.wbc)
  have hsz := hgrow.size
  simp at hsz
  have L : Left2 wb v.ownBlock w (w10.setCell ⟨wb, 0, none⟩ (.slice (some ⟨gg, 0, none⟩) (ys.length + 1) cap)) := by
    refine ⟨by simp [World.setCell]; omega, fun k hk h1 h2 => ?_⟩
    rw [heap_setCell_other _ _ _ _ (by simpa using h1), hgrow.block k (by simp; omega) h2, Below.heap_alloc w _ k hk]
  have bW : Below W.heap.size W w10 := (D.below.alloc D.below.size _).grown hgrow (by have := D.below.size; simp; omega) (fun q hq => by have := (D.own.lt q hq).1; have := D.hW; omega)
  refine ⟨by simp [World.cell?, h10], by simp [World.frozen?, h10], bW.setCell (p := ⟨wb, 0, none⟩) D.hW _, D.hW, ?_, ?_, fun y hy => ?_⟩
  · rw [heap_setCell_same _ _ _ _ _ _ h10]; rfl
  · rw [yrCells_append, List.length_append]; exact ownsRow_setCell_below hown (a := ⟨wb, 0, none⟩) (by simp) _
  · have hr : ∀ k, (Value.slice (some ⟨gg, 0, none⟩) (ys.length + 1) cap).ownBlock = some k → v.ownBlock = some k ∨ w.heap.size ≤ k := by
      intro k hk
      simp [Value.ownBlock] at hk
      subst hk
      rcases hat with e | e
      · exact .inl e
      · right; omega
    rcases List.mem_append.1 hy with h | h
    · exact (D.yrs y h).left L ⟨_, D.wbc⟩ D.row hr
    · rw [List.mem_singleton] at h
      subst h
      exact hY.left L ⟨_, D.wbc⟩ D.row hr
end
end Go.Proofs.YtcnmbldikjljeaaGreatDoor
namespace Go.Proofs.YtcnmbldikjljeaaGreatDoor
open Go.RowKit

theorem yearInfo : (Tryz.prog.info? 152).map (fun i => (i.zero, i.size, i.bytes)) = some (some (.agg #[.pointer none, .pointer none]), 2, 16) := by kernel_rfl
theorem cell_two_new (w : World) (x y : Value) (t : TypeId) : ∀ j u, [x, y][j]? = some u → (w.alloc (.cells #[x, y] t)).cell? ((⟨w.heap.size, 0, none⟩ : Addr).add j) = some u := by
  intro j u hj
  have e : (⟨w.heap.size, 0, none⟩ : Addr).add j = ⟨w.heap.size, j, none⟩ := by unfold Addr.add; split <;> simp_all
  rw [e, World.cell?_alloc_at _ _ _ _ rfl]
  match j, hj with
  | 0, hj => simpa using hj
  | 1, hj => simpa using hj
/-- both calendars, as they were made -/
theorem Yr.made {w w1 w2 : World} {wb : Nat} {row : Option Nat} {c r : Nat} {week : Nat → List (Int × Int)} {fr F : Nat → Bool} (hwb : wb < w.heap.size) (hrow : ∀ k, row = some k → k < w.heap.size)
    (b1 : w.heap.size ≤ w1.heap.size) (b2 : Below w1.heap.size w1 w2) (hc : w.heap.size ≤ c) (C : CalW w1 c week fr) (hl : ∀ j, (week j).length ≤ 1000) (ho : ∀ t : Int, 0 ≤ t → t < 100800 → openL week fr t = F t.toNat)
    (hr : w1.heap.size ≤ r) (R : RC w2 r F) : Yr w2 wb row (c, r) := by
  obtain ⟨h, cap, r2, r3, r4, r5⟩ := R.row
  refine ⟨week, fr, F, h, cap, C.on b2, hl, ho, ⟨R.lt, r2, r3, r4, r5⟩, fun k hk => ?_⟩
  have hk2 : w.heap.size ≤ k := by rcases hk with rfl | rfl | rfl <;> omega
  refine ⟨by omega, fun e => ?_⟩
  have := hrow k e.symm
  omega
set_option maxRecDepth 100000 in
set_option maxHeartbeats 4000000 in
theorem parsed_any (W w : World) (wb : Nat) (v : Value) (ys : List (Nat × Nat)) (D : DW W w wb v ys) (k a b d : Int) (s : ByteArray) (l : Value) (h0 : 0 < W.heap.size) (hnm : ∀ j, j < 7 → W.cell? ⟨0, j, none⟩ = some (nmV j)) (hs : s.size ≤ 9223372036854775807) (hn : (ys.length + 1) * 16 ≤ 140737488355328) :
    Calls Tryz.prog 56 #[P0 wb, .agg #[.int .i64 k, .int .i64 a, .int .i64 b, .int .i64 d, .string s, l]] w fun e w' => e = .returned (.bool true) ∧ ∃ v' ys', DW W w' wb v' ys' ∧ ys'.length ≤ ys.length + 1 := by
  have D0 := D.on ((Below.refl _ _).alloc (Nat.le_refl _) (Obj.cells #[.int .i64 k, .int .i64 a, .int .i64 b, .int .i64 d, .string s, l] 84))
  have hb4 : (w.alloc (Obj.cells #[.int .i64 k, .int .i64 a, .int .i64 b, .int .i64 d, .string s, l] 84)).cell? ⟨w.heap.size, 4, none⟩ = some (.string s) := by rw [World.cell?_alloc_at _ _ _ _ rfl]; rfl
  have hsz : w.heap.size < (w.alloc (Obj.cells #[.int .i64 k, .int .i64 a, .int .i64 b, .int .i64 d, .string s, l] 84)).heap.size := by simp
  have HD0 := hide (And.intro D0 (And.intro hb4 hsz))
  clear D0 hb4 hsz D
  by_cases hl : s.size ≤ 200
  · have hnw : ∀ wo : World, DW W wo wb v ys → 0 < wo.heap.size ∧ ∀ j, j < 7 → wo.cell? ⟨0, j, none⟩ = some (nmV j) := fun wo D => ⟨by have := D.below.size; omega, fun j hj => (D.below.cell (p := ⟨0, j, none⟩) h0).trans (hnm j hj)⟩
    have HP : Hid (∀ wo : World, DW W wo wb v ys → Calls Tryz.prog 63 #[.string s] wo fun e w' => PPost s wo e w') := fun wo D => parse_any s wo (hnw wo D).1 (hnw wo D).2 hl
    have hsim := sim_all (crun s s.size 0)
    rw [← parse_crun] at hsim
    have hlen := parse_len s hl
    clear hnw hnm
    rcases hsim with ⟨a1, a2, a3⟩ | ⟨a1, a2, a3, a4⟩
    · have HA := hide (And.intro a1 (And.intro a2 a3))
      clear a1 a2 a3 hlen
      go_enter Tryz.func56, Tryz.ntmps56
      go_wp2_with fail
      generalize w.alloc (Obj.cells #[.int .i64 k, .int .i64 a, .int .i64 b, .int .i64 d, .string s, l] 84) = wo at *
      obtain ⟨D, hb4, hsz⟩ := HD0.out
      refine (HP.out wo D).mono ?_
      rintro e w1 ⟨b1, ⟨hp1, _⟩ | ⟨hp1, rfl⟩⟩
      · rw [HA.out.2.1] at hp1; cases hp1
      have HR := hide (refParse_any s hl w1)
      clear HP hp1
      have hb5 := (b1.cell (p := ⟨w.heap.size, 4, none⟩) hsz).trans hb4
      rw [HA.out.2.2]
      go_wp2_with fail
      refine HR.out.mono ?_
      rintro e w2 ⟨b2, ⟨_, rfl⟩ | ⟨hp2, _⟩⟩
      · generalize (refF (crun s s.size 0)).1.2 = p at *
        clear HR HA
        have D2 := hide ((D.on b1).on b2)
        clear b1 b2 D
        go_wp2_with fail
        go_ret
        exact ⟨rfl, v, ys, D2.out, by omega⟩
      · exact absurd HA.out.1 hp2
    · have ho := hide (fun t h0 h1 => open_eq a3 a4 t h0 h1)
      have HA := hide (And.intro a1 a2)
      have HL := hide (fun j => hlen a2 j)
      clear a1 a2 a3 a4 hlen
      obtain ⟨i0, hi, hq0, hq1, hq2⟩ := info_parts yearInfo
      have HI := hide hi
      clear hi
      go_enter Tryz.func56, Tryz.ntmps56
      go_wp2_with fail
      generalize w.alloc (Obj.cells #[.int .i64 k, .int .i64 a, .int .i64 b, .int .i64 d, .string s, l] 84) = wo at *
      obtain ⟨D, hb4, hsz⟩ := HD0.out
      refine (HP.out wo D).mono ?_
      rintro e w1 ⟨b1, ⟨hp1, c, hc, rfl, C⟩ | ⟨hp1, _⟩⟩
      · have HR := hide (refParse_any s hl w1)
        have hb5 := (b1.cell (p := ⟨w.heap.size, 4, none⟩) hsz).trans hb4
        clear HP hp1
        go_wp2_with fail
        refine HR.out.mono ?_
        rintro e w2 ⟨b2, ⟨hp2, _⟩ | ⟨_, r, hr, rfl, R⟩⟩
        · have := HA.out.1; omega
        · have Y := Yr.made (wb := wb) (row := v.ownBlock) D.lt (fun q hq => (D.own.lt q hq).2) b1.size b2 hc C HL.out ho.out hr R
          have D2 := (D.on b1).on b2
          have hcv := D2.c0
          have hown := D2.own
          have hlt := D2.lt
          have HD := hide D2
          have HY := hide Y
          clear HR HA HL ho C R b1 b2 D D2 Y hc hr hb4 hb5 hsz HD0
          go_upto_region 99 with (first | (at_builtin; refine wpList_append_lies _ rfl _ _ 75 rfl (wb + 1) 152 i0 (.agg #[.pointer none, .pointer none]) 2 16 Tryz.underlying75 HI.out hq0 hq1 hq2 rfl (by decide) _ ys.length (yrCells ys) (by rfl) (hown.alloc _) ⟨w2.heap.size, 0, none⟩ 1 1 [P0 c, P0 r] (by rfl) (by rfl) (cell_two_new _ _ _ _) (by simp [Value.oneCell']) (by omega) (by unfold maxLen; omega) (by omega) (by simp; omega) (w2.heap.size + 1) (by simp) ?_; intro gg cap w10 hown10 hgrow hat hlt; obtain ⟨hc10, hf10, A2⟩ := HD.out.go HY.out hown10 hgrow hat; clear hown10 hgrow hat) | fail)
          have HA2 := hide A2
          clear A2 hc10 hf10 hlt
          go_ret
          exact ⟨rfl, _, _, HA2.out, by simp⟩
      · rw [HA.out.2] at hp1; cases hp1
  · have h1 : 200 < s.size := by omega
    go_enter Tryz.func56, Tryz.ntmps56
    go_wp2_with fail
    generalize w.alloc (Obj.cells #[.int .i64 k, .int .i64 a, .int .i64 b, .int .i64 d, .string s, l] 84) = wo at *
    obtain ⟨D, hb4, hsz⟩ := HD0.out
    refine (parse_long s wo h1 hs).mono ?_
    rintro e w1 ⟨rfl, rfl⟩
    go_wp2_with fail
    refine (refParse_long s w1 h1 hs).mono ?_
    rintro e w2 ⟨rfl, rfl⟩
    go_wp2_with fail
    go_ret
    exact ⟨rfl, v, ys, D, by omega⟩
/-- the boxes of a pair of calendars and of a step -/
theorem boxes (w : World) (x y k a b d s l : Value) (t u : TypeId) {wo : World} (hwo : wo = (w.alloc (Obj.cells #[x, y] t)).alloc (Obj.cells #[k, a, b, d, s, l] u)) :
    Below w.heap.size w wo ∧ w.heap.size + 1 < wo.heap.size ∧ (wo.cell? ⟨w.heap.size, 0, none⟩ = some x ∧ wo.cell? ⟨w.heap.size, 1, none⟩ = some y) ∧ wo.cell? ⟨w.heap.size + 1, 2, none⟩ = some b ∧ wo.cell? ⟨w.heap.size + 1, 3, none⟩ = some d := by
  subst hwo
  refine ⟨((Below.refl _ _).alloc (Nat.le_refl _) _).alloc (by simp) _, by simp, ⟨?_, ?_⟩, ?_, ?_⟩
  · rw [World.cell?_alloc_past _ _ _ (by simp), World.cell?_alloc_at _ _ _ _ rfl]; rfl
  · rw [World.cell?_alloc_past _ _ _ (by simp), World.cell?_alloc_at _ _ _ _ rfl]; rfl
  · rw [World.cell?_alloc_at _ _ _ _ (by simp)]; rfl
  · rw [World.cell?_alloc_at _ _ _ _ (by simp)]; rfl
set_option maxRecDepth 100000 in
set_option maxHeartbeats 1000000 in
/-- one minute, asked of both -/
theorem minute_any (w : World) (wb : Nat) (row : Option Nat) (c r : Nat) (Y : Yr w wb row (c, r)) (a b d : Int) (s : ByteArray) (l : Value) :
    Calls Tryz.prog 58 #[.agg #[P0 c, P0 r], .agg #[.int .i64 2, .int .i64 a, .int .i64 b, .int .i64 d, .string s, l]] w fun e w' => e = .returned (.bool true) ∧ Below w.heap.size w w' := by
  obtain ⟨wk, fr, F, h, cap, C, hl, ho, ⟨r1, r2, r3, r4, r5⟩, _⟩ := Y
  have R : RC w r F := ⟨r1, h, cap, r2, r3, r4, r5⟩
  clear r1 r2 r3 r4 r5
  have HB := hide (boxes w (P0 c) (P0 r) (.int .i64 2) (.int .i64 a) (.int .i64 b) (.int .i64 d) (.string s) l 152 84 rfl)
  have HCR := hide (And.intro C R)
  clear C R
  by_cases hb : b < 0 ∨ 100800 ≤ b
  · go_enter Tryz.func58, Tryz.ntmps58
    go_wp2_with fail
    generalize (w.alloc (Obj.cells #[P0 c, P0 r] 152)).alloc (Obj.cells #[.int .i64 2, .int .i64 a, .int .i64 b, .int .i64 d, .string s, l] 84) = wo at *
    obtain ⟨bo, hsz, ⟨_, q1⟩, q2, _⟩ := HB.out
    refine (open_bad c b wo hb).mono ?_
    rintro e w1 ⟨rfl, rfl⟩
    go_wp2_with fail
    refine (refOpen_bad r b w1 hb).mono ?_
    rintro e w2 ⟨rfl, rfl⟩
    go_wp2_with fail
    go_ret
    exact ⟨rfl, HB.out.1⟩
  · have b0 : 0 ≤ b := by omega
    have b1 : b < 100800 := by omega
    have HO := hide (ho b b0 b1)
    have HL := hide hl
    clear ho hl hb
    go_enter Tryz.func58, Tryz.ntmps58
    go_wp2_with fail
    generalize (w.alloc (Obj.cells #[P0 c, P0 r] 152)).alloc (Obj.cells #[.int .i64 2, .int .i64 a, .int .i64 b, .int .i64 d, .string s, l] 84) = wo at *
    obtain ⟨bo, hsz, ⟨_, q1⟩, q2, _⟩ := HB.out
    refine (open_any c wk fr b wo (HCR.out.1.on bo) b0 b1 HL.out).mono ?_
    rintro e w1 ⟨rfl, bl1⟩
    have hs1 := bl1.size
    have q1' := (bl1.cell (p := ⟨w.heap.size, 1, none⟩) (by simp; omega)).trans q1
    have q2' := (bl1.cell (p := ⟨w.heap.size + 1, 2, none⟩) (by simp; omega)).trans q2
    rw [HO.out]
    have HR2 := hide (refOpen_any r F b w1 ((HCR.out.2.on bo).on bl1) b0 b1)
    have HBB := hide (bo.trans (bl1.mono bo.size))
    clear HCR HO HL HB q1 q2 bo bl1
    go_wp2_with fail
    refine HR2.out.mono ?_
    rintro e w2 ⟨rfl, bl2⟩
    have HZ := hide (HBB.out.trans (bl2.mono HBB.out.size))
    clear HR2 HBB bl2 q1' q2' hs1 hsz
    generalize F b.toNat = x at *
    cases x
    · go_wp2_with fail
      go_ret
      exact ⟨rfl, HZ.out⟩
    · go_wp2_with fail
      go_ret
      exact ⟨rfl, HZ.out⟩
end Go.Proofs.YtcnmbldikjljeaaGreatDoor
namespace Go.Proofs.YtcnmbldikjljeaaGreatDoor
open Go.RowKit

theorem pk_nat (c : Int) (n : Nat) (hn : 0 < n) : ∃ i : Nat, pk c n = (i : Int) ∧ i < n := by
  have h1 := pk_lo c n (by omega)
  have h2 := pk_hi c n (by omega)
  exact ⟨(pk c n).toNat, by omega, by omega⟩
theorem box_facts (w : World) (x0 x1 x2 x3 x4 x5 : Value) (t : TypeId) : Below w.heap.size w (w.alloc (Obj.cells #[x0, x1, x2, x3, x4, x5] t)) ∧ w.heap.size < (w.alloc (Obj.cells #[x0, x1, x2, x3, x4, x5] t)).heap.size ∧
    ((w.alloc (Obj.cells #[x0, x1, x2, x3, x4, x5] t)).drew.cell? ⟨w.heap.size, 0, none⟩ = some x0 ∧ (w.alloc (Obj.cells #[x0, x1, x2, x3, x4, x5] t)).drew.cell? ⟨w.heap.size, 1, none⟩ = some x1 ∧ (w.alloc (Obj.cells #[x0, x1, x2, x3, x4, x5] t)).drew.cell? ⟨w.heap.size, 2, none⟩ = some x2 ∧
     (w.alloc (Obj.cells #[x0, x1, x2, x3, x4, x5] t)).drew.cell? ⟨w.heap.size, 3, none⟩ = some x3 ∧ (w.alloc (Obj.cells #[x0, x1, x2, x3, x4, x5] t)).drew.cell? ⟨w.heap.size, 4, none⟩ = some x4 ∧ (w.alloc (Obj.cells #[x0, x1, x2, x3, x4, x5] t)).drew.cell? ⟨w.heap.size, 5, none⟩ = some x5) := by
  have hd : ∀ (u : World) (p : Addr), u.drew.cell? p = u.cell? p := fun _ _ => rfl
  refine ⟨(Below.refl _ _).alloc (Nat.le_refl _) _, by simp, ?_⟩
  simp only [hd]
  refine ⟨?_, ?_, ?_, ?_, ?_, ?_⟩ <;> (rw [World.cell?_alloc_at _ _ _ _ rfl]; rfl)
set_option maxRecDepth 100000 in
set_option maxHeartbeats 4000000 in
/-- a Parse -/
theorem step_parse (W w : World) (wb : Nat) (v : Value) (ys : List (Nat × Nat)) (D : DW W w wb v ys) (a b d : Int) (s : ByteArray) (l : Value) (h0 : 0 < W.heap.size) (hnm : ∀ j, j < 7 → W.cell? ⟨0, j, none⟩ = some (nmV j)) (hs : s.size ≤ 9223372036854775807)
    (hn : (ys.length + 1) * 16 ≤ 140737488355328) :
    Calls Tryz.prog 30 #[P0 wb, .agg #[.int .i64 1, .int .i64 a, .int .i64 b, .int .i64 d, .string s, l]] w fun e w' => e = .returned (.bool true) ∧ ∃ v' ys', DW W w' wb v' ys' ∧ ys'.length ≤ ys.length + 1 := by
  have D0 := D.on ((Below.refl _ _).alloc (Nat.le_refl _) (Obj.cells #[.int .i64 1, .int .i64 a, .int .i64 b, .int .i64 d, .string s, l] 84))
  have HP := hide (parsed_any W _ wb v ys D0 1 a b d s l h0 hnm hs hn)
  clear D D0 hnm
  go_enter Tryz.func30, Tryz.ntmps30
  go_wp2_with fail
  refine HP.out.mono ?_
  rintro e w1 ⟨rfl, v', ys', D', hl'⟩
  have HR := hide (And.intro D' hl')
  clear D' hl' HP
  go_wp2_with fail
  go_ret
  exact ⟨rfl, v', ys', HR.out.1, HR.out.2⟩
set_option maxRecDepth 100000 in
set_option maxHeartbeats 4000000 in
/-- a minute of a calendar, if there is one -/
theorem step_minute (W w : World) (wb : Nat) (v : Value) (ys : List (Nat × Nat)) (D : DW W w wb v ys) (a b d : Int) (s : ByteArray) (l : Value) (a0 : -9223372036854775808 ≤ a) (a1 : a ≤ 9223372036854775807) (hn : (ys.length + 1) * 16 ≤ 140737488355328) :
    Calls Tryz.prog 30 #[P0 wb, .agg #[.int .i64 2, .int .i64 a, .int .i64 b, .int .i64 d, .string s, l]] w fun e w' => e = .returned (.bool true) ∧ ∃ v' ys', DW W w' wb v' ys' ∧ ys'.length ≤ ys.length + 1 := by
  have hcv := D.c0
  have hc1 := D.c1
  have hlt := D.lt
  have D0 := D.on ((Below.refl _ _).alloc (Nat.le_refl _) (Obj.cells #[.int .i64 2, .int .i64 a, .int .i64 b, .int .i64 d, .string s, l] 84))
  have HB := hide (box_facts w (.int .i64 2) (.int .i64 a) (.int .i64 b) (.int .i64 d) (.string s) l 84)
  have HD := hide D0
  rcases D.own.2 with ⟨rfl, hz⟩ | ⟨q, cap, cur, rfl, _, hg, _⟩
  · clear D D0
    go_enter Tryz.func30, Tryz.ntmps30
    go_wp2_with fail
    go_ret
    exact ⟨rfl, _, ys, HD.out, by omega⟩
  · by_cases hz : ys.length = 0
    · rw [hz] at hcv
      clear D D0
      go_enter Tryz.func30, Tryz.ntmps30
      go_wp2_with fail
      go_ret
      exact ⟨rfl, _, ys, HD.out, by omega⟩
    · have hp : 0 < ys.length := by omega
      have hp2 : 0 < (ys.length : Int) := by omega
      have hp3 : (ys.length : Int) ≤ 9223372036854775807 := by omega
      have HL : Hid (∀ u : World, _) := fun u => lpick_any a ys.length u a0 a1 hp2 hp3
      obtain ⟨i, hi, hil⟩ := pk_nat a ys.length hp
      have hi2 : (i : Int) < ys.length := by omega
      rw [hi] at HL
      clear D D0 hi hg
      go_enter Tryz.func30, Tryz.ntmps30
      go_wp2_with fail
      generalize w.alloc (Obj.cells #[.int .i64 2, .int .i64 a, .int .i64 b, .int .i64 d, .string s, l] 84) = wo at *
      have D0 := HD.out
      have HDD := hide (D0.on ((Below.refl _ _).drew))
      clear hcv hc1 hlt
      have hcv : wo.drew.cell? ⟨wb, 0, none⟩ = some _ := D0.c0
      have hc := yrCells_at ys i hil
      have e0 : wo.drew.cell? ⟨q, i * 2, none⟩ = some (P0 ys[i].1) := (D0.own.cellAt (i * 2) (by omega)).trans hc.1
      have e1 : wo.drew.cell? ⟨q, i * 2 + 1, none⟩ = some (P0 ys[i].2) := (D0.own.cellAt (i * 2 + 1) (by omega)).trans hc.2
      have HM := hide (minute_any wo.drew wb _ ys[i].1 ys[i].2 (HDD.out.yrs ys[i] (List.getElem_mem hil)) a b d s l)
      obtain ⟨_, hsz, q0, q1, q2, q3, q4, q5⟩ := HB.out
      clear D0 hc HB HD
      have hqs : q < wo.drew.heap.size := World.block_lt_of_cell? _ _ e0
      have hws : wb < wo.drew.heap.size := World.block_lt_of_cell? _ _ hcv
      have hbs : w.heap.size < wo.drew.heap.size := hsz
      generalize ys[i].1 = yc at *
      generalize ys[i].2 = yr at *
      go_region_held3 (fun w' => w'.cell? ⟨wb, 0, none⟩ = some (.slice (some ⟨q, 0, none⟩) ys.length cap) ∧ w'.cell? ⟨q, i * 2, none⟩ = some (P0 yc) ∧ w'.cell? ⟨q, i * 2 + 1, none⟩ = some (P0 yr) ∧ w'.cell? ⟨w.heap.size, 0, none⟩ = some (.int .i64 2) ∧ w'.cell? ⟨w.heap.size, 1, none⟩ = some (.int .i64 a) ∧ w'.cell? ⟨w.heap.size, 2, none⟩ = some (.int .i64 b) ∧ w'.cell? ⟨w.heap.size, 3, none⟩ = some (.int .i64 d) ∧ w'.cell? ⟨w.heap.size, 4, none⟩ = some (.string s) ∧ w'.cell? ⟨w.heap.size, 5, none⟩ = some l) ((go_keep; done))
        (first | (go_at_call 59; refine (HL.out _).mono ?_; rintro e w' ⟨rfl, rfl⟩) | (go_at_call 58; refine HM.out.mono ?_; rintro e w' ⟨rfl, bl⟩; have z0 := (bl.cell (p := ⟨wb, 0, none⟩) hws).trans hcv; have z1 := (bl.cell (p := ⟨q, i * 2, none⟩) hqs).trans e0; have z2 := (bl.cell (p := ⟨q, i * 2 + 1, none⟩) hqs).trans e1; have y0 := (bl.cell (p := ⟨w.heap.size, 0, none⟩) hbs).trans q0; have y1 := (bl.cell (p := ⟨w.heap.size, 1, none⟩) hbs).trans q1; have y2 := (bl.cell (p := ⟨w.heap.size, 2, none⟩) hbs).trans q2; have y3 := (bl.cell (p := ⟨w.heap.size, 3, none⟩) hbs).trans q3; have y4 := (bl.cell (p := ⟨w.heap.size, 4, none⟩) hbs).trans q4; have y5 := (bl.cell (p := ⟨w.heap.size, 5, none⟩) hbs).trans q5))
      have HF := hide (HDD.out.on bl)
      clear HDD HM HL bl
      go_wp2_with fail
      go_ret
      exact ⟨rfl, _, ys, HF.out, by omega⟩
end Go.Proofs.YtcnmbldikjljeaaGreatDoor
