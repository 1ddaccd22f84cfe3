import Derived.Test.YtcnmbldikjljeaaGreatDoorJ16
import Derived.Test.YtcnmbldikjljeaaGreatDoorJ30
import Derived.Test.YtcnmbldikjljeaaGreatDoorJ06
import Derived.Test.YtcnmbldikjljeaaGreatDoorJ01
import Derived.Deep.RegionWith
import Derived.Laws.AppendOwnNone
namespace Go.Proofs.YtcnmbldikjljeaaGreatDoor
open Go.RowKit

/-- a step of a script -/
structure OpD where
  k : Int
  a : Int
  b : Int
  d : Int
  s : ByteArray
  l : Value
def OpD.cells (o : OpD) : List Value := [.int .i64 o.k, .int .i64 o.a, .int .i64 o.b, .int .i64 o.d, .string o.s, o.l]
def OpD.val (o : OpD) : Value := .agg #[.int .i64 o.k, .int .i64 o.a, .int .i64 o.b, .int .i64 o.d, .string o.s, o.l]
def opsCells (os : List OpD) : List Value := os.flatMap OpD.cells
/-- numbers, text and list of a step are such -/
structure OpOk (o : OpD) : Prop where
  a0 : -9223372036854775808 ≤ o.a
  a1 : o.a ≤ 9223372036854775807
  b0 : -9223372036854775808 ≤ o.b
  b1 : o.b ≤ 9223372036854775807
  d0 : -9223372036854775808 ≤ o.d
  d1 : o.d ≤ 9223372036854775807
  sz : o.s.size ≤ 9223372036854775807
  one : ∃ la ll lc, o.l = .slice la ll lc
theorem opsCells_len (os : List OpD) : (opsCells os).length = os.length * 6 := by
  induction os with
  | nil => rfl
  | cons o os ih => simp only [opsCells, List.flatMap_cons, List.length_append, List.length_cons] at ih ⊢; rw [ih]; simp [OpD.cells]; omega
theorem opsCells_at (os : List OpD) (i : Nat) (h : i < os.length) (j : Nat) (hj : j < 6) : (opsCells os)[i * 6 + j]? = (os[i].cells)[j]? := by
  induction os generalizing i with
  | nil => simp at h
  | cons o os ih =>
    have e : opsCells (o :: os) = o.cells ++ opsCells os := rfl
    have hl : o.cells.length = 6 := rfl
    rw [e]
    cases i with
    | zero => rw [List.getElem?_append_left (by omega)]; simp
    | succ i =>
      rw [List.getElem?_append_right (by omega), hl, show (i + 1) * 6 + j - 6 = i * 6 + j by omega, ih i (by simpa using h)]
      simp
theorem opsCells_append (a b : List OpD) : opsCells (a ++ b) = opsCells a ++ opsCells b := by simp [opsCells]

set_option maxRecDepth 100000 in
set_option maxHeartbeats 1000000 in
theorem lpick_any (c n : Int) (w : World) (h1 : -9223372036854775808 ≤ c) (h2 : c ≤ 9223372036854775807) (hn : 0 < n) (hm : n ≤ 9223372036854775807) :
    Calls Tryz.prog 59 #[.int .i64 c, .int .i64 n] w fun e w' => e = .returned (.int .i64 (pk c n)) ∧ w' = w := by
  by_cases hc : c < 0
  · go_enter Tryz.func59, Tryz.ntmps59
    go_wp2
    go_ret
    exact ⟨ret_int (by unfold pk; rw [if_pos hc]; exact neg_tmod c n hc), rfl⟩
  · go_enter Tryz.func59, Tryz.ntmps59
    go_wp2
    go_ret
    exact ⟨ret_int (by unfold pk; rw [if_neg (by omega)]), rfl⟩
/-- the world behind the document's own examples -/
def ownW (w : World) : World := ((w.alloc (Obj.cells #[.int .i64 60, .int .i64 1, .int .i64 30, .int .i64 2] 127)).alloc (Obj.cells #[.int .i64 1] 3)).alloc (Obj.cells #[.slice (some ⟨w.heap.size, 0, none⟩) 2 2, .slice (some ⟨w.heap.size + 1, 0, none⟩) 1 1, .slice none 0 0, .slice none 0 0] 125)
set_option maxRecDepth 100000 in
set_option maxHeartbeats 4000000 in
theorem own_any (w : World) :
    Calls Tryz.prog 55 #[] w fun e w' => ∃ s0 : ByteArray, s0.size ≤ 9223372036854775807 ∧ e = .returned (.tuple #[.string s0, .slice (some ⟨w.heap.size + 1 + 1, 0, none⟩) 2 2]) ∧ w' = ownW w := by
  go_enter Tryz.func55, Tryz.ntmps55
  go_wp2
  go_ret2
  exact ⟨_, by decide, rfl, rfl⟩
/-- the list that a step may have: none, or the examples' -/
def FirstOk (w : World) (o : OpD) : Prop := OpOk o ∧ (o.l = .slice none 0 0 ∨ o.l = .slice (some ⟨w.heap.size + 1 + 1, 0, none⟩) 2 2)
set_option maxRecDepth 100000 in
set_option maxHeartbeats 4000000 in
theorem first_any (w : World) :
    Calls Tryz.prog 28 #[] w fun e w' => ∃ os : List OpD, os.length = 17 ∧ (∀ o ∈ os, FirstOk w o) ∧ e = .returned (.slice (some ⟨w.heap.size + 3, 0, none⟩) 17 17) ∧ w' = (ownW w).alloc (.cells (opsCells os).toArray 84) := by
  go_enter Tryz.func28, Tryz.ntmps28
  go_wp2_with fail
  refine (own_any w).mono ?_
  rintro e w1 ⟨s0, hs0, rfl, rfl⟩
  have hsz : (ownW w).heap.size = w.heap.size + 3 := by simp [ownW]
  have HS := hide hsz
  clear hsz
  go_wp2_with fail
  go_ret
  rw [HS.out]
  let nl : Value := .slice none 0 0
  let sl : Value := .slice (some ⟨w.heap.size + 1 + 1, 0, none⟩) 2 2
  let e0 : ByteArray := ⟨#[]⟩
  refine ⟨[⟨1, 0, 0, 0, s0, nl⟩, ⟨2, 0, 540, 0, e0, nl⟩, ⟨3, 0, 0, 10080, e0, nl⟩, ⟨4, 0, 1020, 1, e0, nl⟩, ⟨5, 0, 0, 0, e0, sl⟩, ⟨10, 0, 0, 0, e0, sl⟩, ⟨11, 0, 0, 0, e0, nl⟩, ⟨14, 0, 600, 0, e0, nl⟩, ⟨17, 0, 1, 0, e0, nl⟩, ⟨15, 0, 1, 0, e0, nl⟩, ⟨14, 0, 200, 0, e0, nl⟩, ⟨16, 0, 1, 0, e0, nl⟩, ⟨18, 0, 0, 0, e0, nl⟩, ⟨14, 0, 30, 0, e0, nl⟩, ⟨12, 0, 1, 1, e0, nl⟩, ⟨19, 0, 0, 0, e0, nl⟩, ⟨13, 0, 1, 0, e0, nl⟩], rfl, ?_, rfl, rfl⟩
  intro o ho
  have hk : (o.a = 0 ∧ (0 ≤ o.b ∧ o.b ≤ 10080) ∧ 0 ≤ o.d ∧ o.d ≤ 10080) ∧ (o.s = s0 ∨ o.s = e0) ∧ (o.l = nl ∨ o.l = sl) := by
    simp only [List.mem_cons, List.not_mem_nil, or_false] at ho
    rcases ho with rfl | rfl | rfl | rfl | rfl | rfl | rfl | rfl | rfl | rfl | rfl | rfl | rfl | rfl | rfl | rfl | rfl <;> simp
  obtain ⟨h1, h2, h3⟩ := hk
  refine ⟨⟨by omega, by omega, by omega, by omega, by omega, by omega, ?_, ?_⟩, h3⟩
  · rcases h2 with e | e <;> rw [e]
    · exact hs0
    · decide
  · rcases h3 with e | e <;> exact ⟨_, _, _, e⟩
set_option maxRecDepth 100000 in
set_option maxHeartbeats 1000000 in
theorem among_any (g cap : Nat) (ps : List Int) (k : Int) (w : World) (hp : ∀ i x, ps[i]? = some x → w.cell? ⟨g, i, none⟩ = some (.int .i64 x)) (hl : ps.length ≤ 1000) :
    Calls Tryz.prog 29 #[.slice (some ⟨g, 0, none⟩) ps.length cap, .int .i64 k] w fun e w' => e = .returned (.bool (ps.contains k)) ∧ w' = w := by
  go_enter Tryz.func29, Tryz.ntmps29
  go_wp2_with fail
  go_loopw [5] (fun i wr => ∃ n : Nat, n ≤ ps.length ∧ i = .int .i64 n ∧ Hid ((ps.take n).contains k = false) ∧ wr = w) (fun i _ => ps.length - (intOf i).toNat)
  case atStart => exact ⟨0, by omega, rfl, by simp [Hid], rfl⟩
  case round =>
    obtain ⟨n, hn, rfl, HD, rfl⟩ := hrel
    by_cases hlt : n < ps.length
    · have hc := hp n ps[n] (by simp [hlt])
      have ht := List.take_succ_eq_append_getElem hlt
      have hlt2 : (n : Int) < ps.length := by omega
      by_cases hk : ps[n] = k
      · have e1 : (ps[n] == k) = true := by simp [hk]
        have HY := hide (show ps.contains k = true by simp only [List.contains_iff_mem]; rw [← hk]; exact List.getElem_mem hlt)
        clear hp ht hk
        go_wp2
        go_ret
        rw [HY.out]; exact ⟨rfl, rfl⟩
      · have e1 : (ps[n] == k) = false := by simp [hk]
        have HT := hide ht
        have HK := hide hk
        clear hp ht hk
        go_wp2
        go_roundw
        case rel =>
          refine ⟨n + 1, by omega, by go_num, ?_, by first | rfl | trivial⟩
          have h1 := HD.out
          have hk := HK.out
          unfold Hid
          rw [HT.out, Bool.eq_false_iff, ne_eq, List.contains_iff_mem, List.mem_append, List.mem_singleton]
          rw [Bool.eq_false_iff, ne_eq, List.contains_iff_mem] at h1
          rintro (g | g)
          · exact h1 g
          · exact hk g.symm
        case measure => simp [intOf]; omega
    · have hN : n = ps.length := by omega
      have HN := hide (show ps.contains k = false by have := HD.out; rw [hN, List.take_length] at this; exact this)
      clear hp
      go_wp2
      go_ret
      rw [HN.out]; exact ⟨rfl, rfl⟩
set_option maxRecDepth 100000 in
set_option maxHeartbeats 1000000 in
/-- no lists have come out -/
theorem looks_none (wb : Nat) (w : World) (h2 : w.cell? ⟨wb, 2, none⟩ = some (.slice none 0 0)) (h3 : w.cell? ⟨wb, 3, none⟩ = some (.slice none 0 0)) :
    Calls Tryz.prog 31 #[.pointer (some ⟨wb, 2, none⟩)] w fun e w' => e = .returned (.bool true) ∧ w' = w := by
  go_enter Tryz.func31, Tryz.ntmps31
  go_wp2_with fail
  go_loopw [3] (fun i wr => i = .int .i64 0 ∧ wr = w) (fun _ _ => 0)
  case atStart => exact ⟨rfl, rfl⟩
  case round =>
    obtain ⟨rfl, rfl⟩ := hrel
    go_wp2_with fail
    go_loopw [6] (fun i wq => i = .int .i64 0 ∧ wq = wr) (fun _ _ => 0)
    case atStart => exact ⟨rfl, rfl⟩
    case round =>
      obtain ⟨rfl, rfl⟩ := hrel
      go_wp2_with fail
      go_ret
      exact ⟨rfl, rfl⟩
end Go.Proofs.YtcnmbldikjljeaaGreatDoor
namespace Go.Proofs.YtcnmbldikjljeaaGreatDoor
open Go.RowKit

/-- a calendar of the program, and the document's, in memory; they agree; none of their blocks is the script's own -/
def YrP (w : World) (wb : Nat) (row : Option Nat) (c r : Nat) (wk : Nat → List (Int × Int)) (fr : Nat → Bool) (F : Nat → Bool) (h cap : Nat) : Prop :=
  CalW w c wk fr ∧ (∀ j, (wk j).length ≤ 1000) ∧ (∀ t : Int, 0 ≤ t → t < 100800 → openL wk fr t = F t.toNat) ∧
  (r < w.heap.size ∧ w.cell? ⟨r, 0, none⟩ = some (.slice (some ⟨h, 0, none⟩) 100801 cap) ∧ r < h ∧ h < w.heap.size ∧ ∀ j, j < 100801 → w.cell? ⟨h, j, none⟩ = some (.int .i64 (cnt F j))) ∧
  (∀ k, k = c ∨ k = r ∨ k = h → k ≠ wb ∧ some k ≠ row)
def Yr (w : World) (wb : Nat) (row : Option Nat) (y : Nat × Nat) : Prop := ∃ wk fr F h cap, YrP w wb row y.1 y.2 wk fr F h cap
/-- what a change of memory leaves alone -/
structure Left2 (wb : Nat) (row : Option Nat) (w w' : World) : Prop where
  size : w.heap.size ≤ w'.heap.size
  block : ∀ k, k < w.heap.size → k ≠ wb → some k ≠ row → w'.heap[k]? = w.heap[k]?
theorem CalM.left {w w' : World} {wb : Nat} {row : Option Nat} {g : Nat} {wk : Nat → List (Int × Int)} {fr : Nat → Bool} (h : CalM w g wk fr) (L : Left2 wb row w w')
    (h1 : g ≠ wb) (h2 : some g ≠ row) (hwb : ∃ cs, w.heap[wb]? = some (.cells cs 82 (0, 0))) (hrow : ∀ k, row = some k → ∃ cs, w.heap[k]? = some (.cells cs 152 (0, 0))) : CalM w' g wk fr := by
  have hg := L.block g h.lt h1 h2
  refine ⟨Nat.lt_of_lt_of_le h.lt L.size, fun j hj => ?_, fun j hj => ?_⟩
  · obtain ⟨v, c1, c2⟩ := h.week j hj
    refine ⟨v, (World.cell?_of_block (a := ⟨g, j, none⟩) hg).trans c1, c2.1, ?_⟩
    rcases c2.2 with hn | ⟨q, cap, cur, e1, e2, e3, e4⟩
    · exact .inl hn
    · refine .inr ⟨q, cap, cur, e1, e2, ?_, e4⟩
      have n1 : q ≠ wb := by
        rintro rfl
        obtain ⟨cs, hcs⟩ := hwb
        rw [hcs] at e3
        simp at e3
      have n2 : some q ≠ row := by
        intro e
        obtain ⟨cs, hcs⟩ := hrow q e.symm
        rw [hcs] at e3
        simp at e3
      rw [L.block q (Array.getElem?_eq_some_iff.1 e3).1 n1 n2]
      exact e3
  · exact (World.cell?_of_block (a := ⟨g, 7 + j, none⟩) hg).trans (h.free j hj)
theorem CalW.left {w w' : World} {wb : Nat} {row : Option Nat} {g : Nat} {wk : Nat → List (Int × Int)} {fr : Nat → Bool} (h : CalW w g wk fr) (L : Left2 wb row w w')
    (h1 : g ≠ wb) (h2 : some g ≠ row) (hwb : ∃ cs, w.heap[wb]? = some (.cells cs 82 (0, 0))) (hrow : ∀ k, row = some k → ∃ cs, w.heap[k]? = some (.cells cs 152 (0, 0))) : CalW w' g wk fr := by
  obtain ⟨wj, M, hJ⟩ := h
  exact ⟨wj, M.left L h1 h2 hwb hrow, hJ⟩
theorem Yr.left {w w' : World} {wb : Nat} {row row' : Option Nat} {y : Nat × Nat} (h : Yr w wb row y) (L : Left2 wb row w w') (hwb : ∃ cs, w.heap[wb]? = some (.cells cs 82 (0, 0))) (hrow : ∀ k, row = some k → ∃ cs, w.heap[k]? = some (.cells cs 152 (0, 0)))
    (hr : ∀ k, row' = some k → row = some k ∨ w.heap.size ≤ k) : Yr w' wb row' y := by
  obtain ⟨wk, fr, F, h, cap, C, hl, ho, ⟨r1, r2, r3, r4, r5⟩, hav⟩ := h
  have ac := hav y.1 (.inl rfl)
  have ar := hav y.2 (.inr (.inl rfl))
  have ah := hav h (.inr (.inr rfl))
  have b1 := L.block y.2 r1 ar.1 ar.2
  have b2 := L.block h r4 ah.1 ah.2
  have hs := L.size
  refine ⟨wk, fr, F, h, cap, C.left L ac.1 ac.2 hwb hrow, hl, ho, ⟨by omega, (World.cell?_of_block (a := ⟨y.2, 0, none⟩) b1).trans r2, r3, by omega, fun j hj => (World.cell?_of_block (a := ⟨h, j, none⟩) b2).trans (r5 j hj)⟩, fun k hk => ⟨(hav k hk).1, fun e => ?_⟩⟩
  rcases hr k e.symm with q | q
  · exact (hav k hk).2 q.symm
  · have c1 := C.lt
    rcases hk with rfl | rfl | rfl <;> omega
def yrCells (ys : List (Nat × Nat)) : List Value := ys.flatMap fun y => [P0 y.1, P0 y.2]
theorem yrCells_append (a b : List (Nat × Nat)) : yrCells (a ++ b) = yrCells a ++ yrCells b := by simp [yrCells]
theorem yrCells_at (ys : List (Nat × Nat)) (i : Nat) (h : i < ys.length) : (yrCells ys)[i * 2]? = some (P0 ys[i].1) ∧ (yrCells ys)[i * 2 + 1]? = some (P0 ys[i].2) := by
  induction ys generalizing i with
  | nil => simp at h
  | cons y ys ih =>
    have e : yrCells (y :: ys) = P0 y.1 :: P0 y.2 :: yrCells ys := rfl
    rw [e]
    cases i with
    | zero => simp
    | succ i => rw [show (i + 1) * 2 = i * 2 + 1 + 1 by omega, show i * 2 + 1 + 1 + 1 = (i * 2 + 1) + 1 + 1 by omega]; simpa using ih i (by simpa using h)
/-- all that a script has made: calendars alone -/
structure DW (W w : World) (wb : Nat) (v : Value) (ys : List (Nat × Nat)) : Prop where
  below : Below W.heap.size W w
  hW : W.heap.size ≤ wb
  wbc : w.heap[wb]? = some (.cells #[v, .slice none 0 0, .slice none 0 0, .slice none 0 0] 82 (0, 0))
  own : w.ownsRow (wb + 1) 152 2 v ys.length (yrCells ys)
  yrs : ∀ y ∈ ys, Yr w wb v.ownBlock y
section
variable {W w : World} {wb : Nat} {v : Value} {ys : List (Nat × Nat)}
theorem DW.lt (D : DW W w wb v ys) : wb < w.heap.size := (Array.getElem?_eq_some_iff.1 D.wbc).1
theorem DW.row (D : DW W w wb v ys) : ∀ k, v.ownBlock = some k → ∃ cs, w.heap[k]? = some (.cells cs 152 (0, 0)) := by
  intro k hk
  rcases D.own.2 with ⟨rfl, _⟩ | ⟨q, cap, cur, rfl, _, e3, _⟩
  · simp [Value.ownBlock] at hk
  · simp [Value.ownBlock] at hk
    subst hk
    exact ⟨cur, e3⟩
theorem DW.c0 (D : DW W w wb v ys) : w.cell? ⟨wb, 0, none⟩ = some v := by simp [World.cell?, D.wbc]
theorem DW.c1 (D : DW W w wb v ys) : w.cell? ⟨wb, 1, none⟩ = some (.slice none 0 0) := by simp [World.cell?, D.wbc]
theorem DW.c2 (D : DW W w wb v ys) : w.cell? ⟨wb, 2, none⟩ = some (.slice none 0 0) := by simp [World.cell?, D.wbc]
theorem DW.c3 (D : DW W w wb v ys) : w.cell? ⟨wb, 3, none⟩ = some (.slice none 0 0) := by simp [World.cell?, D.wbc]
theorem DW.f0 (D : DW W w wb v ys) (j : Nat) : w.frozen? ⟨wb, j, none⟩ = false := by simp [World.frozen?, D.wbc]
theorem DW.on {w' : World} (D : DW W w wb v ys) (hb : Below w.heap.size w w') : DW W w' wb v ys := by
  have hW := D.below.size
  refine ⟨D.below.trans (hb.mono hW), D.hW, (hb.block wb D.lt).trans D.wbc, ?_, fun y hy => ?_⟩
  · exact D.own.kept (row := none) ⟨hb.os, hb.tape, hb.output, hb.size, fun k hk _ => hb.block k hk⟩ (by cases v.ownBlock <;> simp)
  · exact (D.yrs y hy).left ⟨hb.size, fun k hk _ _ => hb.block k hk⟩ ⟨_, D.wbc⟩ D.row (fun k hk => .inl hk)
/-- the append through the pointer, and the store behind it -/
theorem DW.go {w10 : World} {c r gg cap : Nat} (D : DW W w wb v ys) (hY : Yr w wb v.ownBlock (c, r))
    (hown : w10.ownsRow (wb + 1) 152 2 (.slice (some ⟨gg, 0, none⟩) (ys.length + 1) cap) (ys.length + 1) (yrCells ys ++ [P0 c, P0 r])) (hgrow : (w.alloc (.cells #[P0 c, P0 r] 152)).grownBy w10 v.ownBlock) (hat : v.ownBlock = some gg ∨ gg = w.heap.size + 1) :
    w10.cell? ⟨wb, 0, none⟩ = some v ∧ w10.frozen? ⟨wb, 0, none⟩ = false ∧ DW W (w10.setCell ⟨wb, 0, none⟩ (.slice (some ⟨gg, 0, none⟩) (ys.length + 1) cap)) wb (.slice (some ⟨gg, 0, none⟩) (ys.length + 1) cap) (ys ++ [(c, r)]) := by
  have hne : ∀ q, q ≤ wb → some q ≠ v.ownBlock := fun q hq e => by have := (D.own.lt q e.symm).1; omega
  have hlt := D.lt
  have h10 : w10.heap[wb]? = some (.cells #[v, .slice none 0 0, .slice none 0 0, .slice none 0 0] 82 (0, 0)) := (hgrow.block wb (by simp; omega) (hne wb (Nat.le_refl _))).trans ((Below.heap_alloc w _ wb hlt).trans D.wbc)
  have hsz := hgrow.size
  simp at hsz
  have L : Left2 wb v.ownBlock w (w10.setCell ⟨wb, 0, none⟩ (.slice (some ⟨gg, 0, none⟩) (ys.length + 1) cap)) := by
    refine ⟨by simp [World.setCell]; omega, fun k hk h1 h2 => ?_⟩
    rw [heap_setCell_other _ _ _ _ (by simpa using h1), hgrow.block k (by simp; omega) h2, Below.heap_alloc w _ k hk]
  have bW : Below W.heap.size W w10 := (D.below.alloc D.below.size _).grown hgrow (by have := D.below.size; simp; omega) (fun q hq => by have := (D.own.lt q hq).1; have := D.hW; omega)
  refine ⟨by simp [World.cell?, h10], by simp [World.frozen?, h10], bW.setCell (p := ⟨wb, 0, none⟩) D.hW _, D.hW, ?_, ?_, fun y hy => ?_⟩
  · rw [heap_setCell_same _ _ _ _ _ _ h10]; rfl
  · rw [yrCells_append, List.length_append]; exact ownsRow_setCell_below hown (a := ⟨wb, 0, none⟩) (by simp) _
  · have hr : ∀ k, (Value.slice (some ⟨gg, 0, none⟩) (ys.length + 1) cap).ownBlock = some k → v.ownBlock = some k ∨ w.heap.size ≤ k := by
      intro k hk
      simp [Value.ownBlock] at hk
      subst hk
      rcases hat with e | e
      · exact .inl e
      · right; omega
    rcases List.mem_append.1 hy with h | h
    · exact (D.yrs y h).left L ⟨_, D.wbc⟩ D.row hr
    · rw [List.mem_singleton] at h
      subst h
      exact hY.left L ⟨_, D.wbc⟩ D.row hr
end
end Go.Proofs.YtcnmbldikjljeaaGreatDoor
namespace Go.Proofs.YtcnmbldikjljeaaGreatDoor
open Go.RowKit

theorem yearInfo : (Tryz.prog.info? 152).map (fun i => (i.zero, i.size, i.bytes)) = some (some (.agg #[.pointer none, .pointer none]), 2, 16) := by kernel_rfl
theorem cell_two_new (w : World) (x y : Value) (t : TypeId) : ∀ j u, [x, y][j]? = some u → (w.alloc (.cells #[x, y] t)).cell? ((⟨w.heap.size, 0, none⟩ : Addr).add j) = some u := by
  intro j u hj
  have e : (⟨w.heap.size, 0, none⟩ : Addr).add j = ⟨w.heap.size, j, none⟩ := by unfold Addr.add; split <;> simp_all
  rw [e, World.cell?_alloc_at _ _ _ _ rfl]
  match j, hj with
  | 0, hj => simpa using hj
  | 1, hj => simpa using hj
/-- both calendars, as they were made -/
theorem Yr.made {w w1 w2 : World} {wb : Nat} {row : Option Nat} {c r : Nat} {week : Nat → List (Int × Int)} {fr F : Nat → Bool} (hwb : wb < w.heap.size) (hrow : ∀ k, row = some k → k < w.heap.size)
    (b1 : w.heap.size ≤ w1.heap.size) (b2 : Below w1.heap.size w1 w2) (hc : w.heap.size ≤ c) (C : CalW w1 c week fr) (hl : ∀ j, (week j).length ≤ 1000) (ho : ∀ t : Int, 0 ≤ t → t < 100800 → openL week fr t = F t.toNat)
    (hr : w1.heap.size ≤ r) (R : RC w2 r F) : Yr w2 wb row (c, r) := by
  obtain ⟨h, cap, r2, r3, r4, r5⟩ := R.row
  refine ⟨week, fr, F, h, cap, C.on b2, hl, ho, ⟨R.lt, r2, r3, r4, r5⟩, fun k hk => ?_⟩
  have hk2 : w.heap.size ≤ k := by rcases hk with rfl | rfl | rfl <;> omega
  refine ⟨by omega, fun e => ?_⟩
  have := hrow k e.symm
  omega
set_option maxRecDepth 100000 in
set_option maxHeartbeats 4000000 in
theorem parsed_any (W w : World) (wb : Nat) (v : Value) (ys : List (Nat × Nat)) (D : DW W w wb v ys) (k a b d : Int) (s : ByteArray) (l : Value) (h0 : 0 < W.heap.size) (hnm : ∀ j, j < 7 → W.cell? ⟨0, j, none⟩ = some (nmV j)) (hs : s.size ≤ 9223372036854775807) (hn : (ys.length + 1) * 16 ≤ 140737488355328) :
    Calls Tryz.prog 56 #[P0 wb, .agg #[.int .i64 k, .int .i64 a, .int .i64 b, .int .i64 d, .string s, l]] w fun e w' => e = .returned (.bool true) ∧ ∃ v' ys', DW W w' wb v' ys' ∧ ys'.length ≤ ys.length + 1 := by
  have D0 := D.on ((Below.refl _ _).alloc (Nat.le_refl _) (Obj.cells #[.int .i64 k, .int .i64 a, .int .i64 b, .int .i64 d, .string s, l] 84))
  have hb4 : (w.alloc (Obj.cells #[.int .i64 k, .int .i64 a, .int .i64 b, .int .i64 d, .string s, l] 84)).cell? ⟨w.heap.size, 4, none⟩ = some (.string s) := by rw [World.cell?_alloc_at _ _ _ _ rfl]; rfl
  have hsz : w.heap.size < (w.alloc (Obj.cells #[.int .i64 k, .int .i64 a, .int .i64 b, .int .i64 d, .string s, l] 84)).heap.size := by simp
  have HD0 := hide (And.intro D0 (And.intro hb4 hsz))
  clear D0 hb4 hsz D
  by_cases hl : s.size ≤ 200
  · have hnw : ∀ wo : World, DW W wo wb v ys → 0 < wo.heap.size ∧ ∀ j, j < 7 → wo.cell? ⟨0, j, none⟩ = some (nmV j) := fun wo D => ⟨by have := D.below.size; omega, fun j hj => (D.below.cell (p := ⟨0, j, none⟩) h0).trans (hnm j hj)⟩
    have HP : Hid (∀ wo : World, DW W wo wb v ys → Calls Tryz.prog 63 #[.string s] wo fun e w' => PPost s wo e w') := fun wo D => parse_any s wo (hnw wo D).1 (hnw wo D).2 hl
    have hsim := sim_all (crun s s.size 0)
    rw [← parse_crun] at hsim
    have hlen := parse_len s hl
    clear hnw hnm
    rcases hsim with ⟨a1, a2, a3⟩ | ⟨a1, a2, a3, a4⟩
    · have HA := hide (And.intro a1 (And.intro a2 a3))
      clear a1 a2 a3 hlen
      go_enter Tryz.func56, Tryz.ntmps56
      go_wp2_with fail
      generalize w.alloc (Obj.cells #[.int .i64 k, .int .i64 a, .int .i64 b, .int .i64 d, .string s, l] 84) = wo at *
      obtain ⟨D, hb4, hsz⟩ := HD0.out
      refine (HP.out wo D).mono ?_
      rintro e w1 ⟨b1, ⟨hp1, _⟩ | ⟨hp1, rfl⟩⟩
      · rw [HA.out.2.1] at hp1; cases hp1
      have HR := hide (refParse_any s hl w1)
      clear HP hp1
      have hb5 := (b1.cell (p := ⟨w.heap.size, 4, none⟩) hsz).trans hb4
      rw [HA.out.2.2]
      go_wp2_with fail
      refine HR.out.mono ?_
      rintro e w2 ⟨b2, ⟨_, rfl⟩ | ⟨hp2, _⟩⟩
      · generalize (refF (crun s s.size 0)).1.2 = p at *
        clear HR HA
        have D2 := hide ((D.on b1).on b2)
        clear b1 b2 D
        go_wp2_with fail
        go_ret
        exact ⟨rfl, v, ys, D2.out, by omega⟩
      · exact absurd HA.out.1 hp2
    · have ho := hide (fun t h0 h1 => open_eq a3 a4 t h0 h1)
      have HA := hide (And.intro a1 a2)
      have HL := hide (fun j => hlen a2 j)
      clear a1 a2 a3 a4 hlen
      obtain ⟨i0, hi, hq0, hq1, hq2⟩ := info_parts yearInfo
      have HI := hide hi
      clear hi
      go_enter Tryz.func56, Tryz.ntmps56
      go_wp2_with fail
      generalize w.alloc (Obj.cells #[.int .i64 k, .int .i64 a, .int .i64 b, .int .i64 d, .string s, l] 84) = wo at *
      obtain ⟨D, hb4, hsz⟩ := HD0.out
      refine (HP.out wo D).mono ?_
      rintro e w1 ⟨b1, ⟨hp1, c, hc, rfl, C⟩ | ⟨hp1, _⟩⟩
      · have HR := hide (refParse_any s hl w1)
        have hb5 := (b1.cell (p := ⟨w.heap.size, 4, none⟩) hsz).trans hb4
        clear HP hp1
        go_wp2_with fail
        refine HR.out.mono ?_
        rintro e w2 ⟨b2, ⟨hp2, _⟩ | ⟨_, r, hr, rfl, R⟩⟩
        · have := HA.out.1; omega
        · have Y := Yr.made (wb := wb) (row := v.ownBlock) D.lt (fun q hq => (D.own.lt q hq).2) b1.size b2 hc C HL.out ho.out hr R
          have D2 := (D.on b1).on b2
          have hcv := D2.c0
          have hown := D2.own
          have hlt := D2.lt
          have HD := hide D2
          have HY := hide Y
          clear HR HA HL ho C R b1 b2 D D2 Y hc hr hb4 hb5 hsz HD0
          go_upto_region 99 with (first | (at_builtin; refine wpList_append_lies _ rfl _ _ 75 rfl (wb + 1) 152 i0 (.agg #[.pointer none, .pointer none]) 2 16 Tryz.underlying75 HI.out hq0 hq1 hq2 rfl (by decide) _ ys.length (yrCells ys) (by rfl) (hown.alloc _) ⟨w2.heap.size, 0, none⟩ 1 1 [P0 c, P0 r] (by rfl) (by rfl) (cell_two_new _ _ _ _) (by simp [Value.oneCell']) (by omega) (by unfold maxLen; omega) (by omega) (by simp; omega) (w2.heap.size + 1) (by simp) ?_; intro gg cap w10 hown10 hgrow hat hlt; obtain ⟨hc10, hf10, A2⟩ := HD.out.go HY.out hown10 hgrow hat; clear hown10 hgrow hat) | fail)
          have HA2 := hide A2
          clear A2 hc10 hf10 hlt
          go_ret
          exact ⟨rfl, _, _, HA2.out, by simp⟩
      · rw [HA.out.2] at hp1; cases hp1
  · have h1 : 200 < s.size := by omega
    go_enter Tryz.func56, Tryz.ntmps56
    go_wp2_with fail
    generalize w.alloc (Obj.cells #[.int .i64 k, .int .i64 a, .int .i64 b, .int .i64 d, .string s, l] 84) = wo at *
    obtain ⟨D, hb4, hsz⟩ := HD0.out
    refine (parse_long s wo h1 hs).mono ?_
    rintro e w1 ⟨rfl, rfl⟩
    go_wp2_with fail
    refine (refParse_long s w1 h1 hs).mono ?_
    rintro e w2 ⟨rfl, rfl⟩
    go_wp2_with fail
    go_ret
    exact ⟨rfl, v, ys, D, by omega⟩
/-- the boxes of a pair of calendars and of a step -/
theorem boxes (w : World) (x y k a b d s l : Value) (t u : TypeId) {wo : World} (hwo : wo = (w.alloc (Obj.cells #[x, y] t)).alloc (Obj.cells #[k, a, b, d, s, l] u)) :
    Below w.heap.size w wo ∧ w.heap.size + 1 < wo.heap.size ∧ (wo.cell? ⟨w.heap.size, 0, none⟩ = some x ∧ wo.cell? ⟨w.heap.size, 1, none⟩ = some y) ∧ wo.cell? ⟨w.heap.size + 1, 2, none⟩ = some b ∧ wo.cell? ⟨w.heap.size + 1, 3, none⟩ = some d := by
  subst hwo
  refine ⟨((Below.refl _ _).alloc (Nat.le_refl _) _).alloc (by simp) _, by simp, ⟨?_, ?_⟩, ?_, ?_⟩
  · rw [World.cell?_alloc_past _ _ _ (by simp), World.cell?_alloc_at _ _ _ _ rfl]; rfl
  · rw [World.cell?_alloc_past _ _ _ (by simp), World.cell?_alloc_at _ _ _ _ rfl]; rfl
  · rw [World.cell?_alloc_at _ _ _ _ (by simp)]; rfl
  · rw [World.cell?_alloc_at _ _ _ _ (by simp)]; rfl
set_option maxRecDepth 100000 in
set_option maxHeartbeats 1000000 in
/-- one minute, asked of both -/
theorem minute_any (w : World) (wb : Nat) (row : Option Nat) (c r : Nat) (Y : Yr w wb row (c, r)) (a b d : Int) (s : ByteArray) (l : Value) :
    Calls Tryz.prog 58 #[.agg #[P0 c, P0 r], .agg #[.int .i64 2, .int .i64 a, .int .i64 b, .int .i64 d, .string s, l]] w fun e w' => e = .returned (.bool true) ∧ Below w.heap.size w w' := by
  obtain ⟨wk, fr, F, h, cap, C, hl, ho, ⟨r1, r2, r3, r4, r5⟩, _⟩ := Y
  have R : RC w r F := ⟨r1, h, cap, r2, r3, r4, r5⟩
  clear r1 r2 r3 r4 r5
  have HB := hide (boxes w (P0 c) (P0 r) (.int .i64 2) (.int .i64 a) (.int .i64 b) (.int .i64 d) (.string s) l 152 84 rfl)
  have HCR := hide (And.intro C R)
  clear C R
  by_cases hb : b < 0 ∨ 100800 ≤ b
  · go_enter Tryz.func58, Tryz.ntmps58
    go_wp2_with fail
    generalize (w.alloc (Obj.cells #[P0 c, P0 r] 152)).alloc (Obj.cells #[.int .i64 2, .int .i64 a, .int .i64 b, .int .i64 d, .string s, l] 84) = wo at *
    obtain ⟨bo, hsz, ⟨_, q1⟩, q2, _⟩ := HB.out
    refine (open_bad c b wo hb).mono ?_
    rintro e w1 ⟨rfl, rfl⟩
    go_wp2_with fail
    refine (refOpen_bad r b w1 hb).mono ?_
    rintro e w2 ⟨rfl, rfl⟩
    go_wp2_with fail
    go_ret
    exact ⟨rfl, HB.out.1⟩
  · have b0 : 0 ≤ b := by omega
    have b1 : b < 100800 := by omega
    have HO := hide (ho b b0 b1)
    have HL := hide hl
    clear ho hl hb
    go_enter Tryz.func58, Tryz.ntmps58
    go_wp2_with fail
    generalize (w.alloc (Obj.cells #[P0 c, P0 r] 152)).alloc (Obj.cells #[.int .i64 2, .int .i64 a, .int .i64 b, .int .i64 d, .string s, l] 84) = wo at *
    obtain ⟨bo, hsz, ⟨_, q1⟩, q2, _⟩ := HB.out
    refine (open_any c wk fr b wo (HCR.out.1.on bo) b0 b1 HL.out).mono ?_
    rintro e w1 ⟨rfl, bl1⟩
    have hs1 := bl1.size
    have q1' := (bl1.cell (p := ⟨w.heap.size, 1, none⟩) (by simp; omega)).trans q1
    have q2' := (bl1.cell (p := ⟨w.heap.size + 1, 2, none⟩) (by simp; omega)).trans q2
    rw [HO.out]
    have HR2 := hide (refOpen_any r F b w1 ((HCR.out.2.on bo).on bl1) b0 b1)
    have HBB := hide (bo.trans (bl1.mono bo.size))
    clear HCR HO HL HB q1 q2 bo bl1
    go_wp2_with fail
    refine HR2.out.mono ?_
    rintro e w2 ⟨rfl, bl2⟩
    have HZ := hide (HBB.out.trans (bl2.mono HBB.out.size))
    clear HR2 HBB bl2 q1' q2' hs1 hsz
    generalize F b.toNat = x at *
    cases x
    · go_wp2_with fail
      go_ret
      exact ⟨rfl, HZ.out⟩
    · go_wp2_with fail
      go_ret
      exact ⟨rfl, HZ.out⟩
end Go.Proofs.YtcnmbldikjljeaaGreatDoor
