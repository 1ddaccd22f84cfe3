import Derived.Test.YtcnmbldikjljeaaGreatDoorT04
import Derived.Test.YtcnmbldikjljeaaGreatDoorT06
import Derived.Lib.OthersKept
import Derived.Deep.MidRow
import Derived.Shelf.SlLaysF0
import Derived.Test.YtcnmbldikjljeaaGreatDoorRows
import Derived.Deep.AppendLies
import Derived.Deep.RegionHeld3
import Derived.Deep.RegionLaw
import Derived.BigQuiet
import Derived.Deep.Cut
import Derived.Laws.AppendOwnNone
namespace Go.Proofs.YtcnmbldikjljeaaGreatDoor
open Go.RowKit

def nilVs : Nat → Value := fun _ => .slice none 0 0
theorem rd0_cells : ((Tryz.zeroCells199.setIfInBounds 0 (.int .i64 0)).setIfInBounds 10 (.int .i64 (-1))).setIfInBounds 13 (.int .i64 (-1)) = ((List.range 91).map (enc rs0 nilVs)).toArray := by kernel_rfl
def frees (f : Nat → Bool) : List Value := (List.range 70).map fun j => .bool (f j)
/-- a calendar that is being made: k days are joined -/
structure PJ (B b g : Nat) (w0 w : World) (s : RS) (vs us : Nat → Value) (A : Nat → List (Int × Int)) (k : Nat) : Prop where
  below : Below B w0 w
  hB : B ≤ b
  hb : b < g
  lt : g < w.heap.size
  week : ∀ j, j < 7 → w.cell? ⟨g, j, none⟩ = some (if j < k then us j else .slice none 0 0)
  free : ∀ j, j < 70 → w.cell? ⟨g, 7 + j, none⟩ = some (.bool (s.free j))
  frz : ∀ j, w.frozen? ⟨g, j, none⟩ = false
  own : ∀ j, k ≤ j → j < 7 → w.ownsRow (b + 2) 140 2 (vs j) (s.week j).length (flat (s.week j))
  old : ∀ j q, j < 7 → (vs j).ownBlock = some q → b + 2 ≤ q ∧ q < g
  apart : ∀ i j, i < 7 → j < 7 → i ≠ j → (vs i).ownBlock = none ∨ (vs i).ownBlock ≠ (vs j).ownBlock
  new : ∀ j, j < k → w.ownsRow (g + 1) 140 2 (us j) (A j).length (flat (A j)) ∧ JoinOf (s.week j) (A j)
/-- a calendar in memory: its spans, joined -/
structure CalM (w : World) (g : Nat) (wk : Nat → List (Int × Int)) (fr : Nat → Bool) : Prop where
  lt : g < w.heap.size
  week : ∀ j, j < 7 → ∃ v, w.cell? ⟨g, j, none⟩ = some v ∧ w.ownsRow 0 140 2 v (wk j).length (flat (wk j))
  free : ∀ j, j < 70 → w.cell? ⟨g, 7 + j, none⟩ = some (.bool (fr j))
theorem CalM.on {w w' : World} {g : Nat} {wk : Nat → List (Int × Int)} {fr : Nat → Bool} (h : CalM w g wk fr) (hb : Below w.heap.size w w') : CalM w' g wk fr := by
  have hg : w.grownBy w' none := ⟨hb.os, hb.tape, hb.output, hb.size, fun k hk _ => hb.block k hk⟩
  refine ⟨Nat.lt_of_lt_of_le h.lt hb.size, fun j hj => ?_, fun j hj => ?_⟩
  · obtain ⟨v, h1, h2⟩ := h.week j hj
    exact ⟨v, (hb.cell (p := ⟨g, j, none⟩) h.lt).trans h1, h2.kept hg (by cases v.ownBlock <;> simp)⟩
  · exact (hb.cell (p := ⟨g, 7 + j, none⟩) h.lt).trans (h.free j hj)
/-- a calendar in memory, by the spans that its text names -/
def CalW (w : World) (g : Nat) (raw : Nat → List (Int × Int)) (fr : Nat → Bool) : Prop := ∃ wk, CalM w g wk fr ∧ ∀ j, j < 7 → JoinOf (raw j) (wk j)
theorem CalW.lt {w : World} {g : Nat} {raw : Nat → List (Int × Int)} {fr : Nat → Bool} (h : CalW w g raw fr) : g < w.heap.size := by
  obtain ⟨wk, h, _⟩ := h; exact h.lt
theorem CalW.on {w w' : World} {g : Nat} {raw : Nat → List (Int × Int)} {fr : Nat → Bool} (h : CalW w g raw fr) (hb : Below w.heap.size w w') : CalW w' g raw fr := by
  obtain ⟨wk, h, hj⟩ := h; exact ⟨wk, h.on hb, hj⟩
theorem ownsRow_base {w : World} {b b' : Nat} {e : TypeId} {size : Nat} {v : Value} {n : Nat} {xs : List Value} (h : w.ownsRow b e size v n xs) (hb : b' ≤ b) : w.ownsRow b' e size v n xs := by
  refine ⟨h.1, ?_⟩
  rcases h.2 with hn | ⟨g, cap, cur, h1, h2, h3⟩
  · exact .inl hn
  · exact .inr ⟨g, cap, cur, h1, by omega, h3⟩

theorem ownsRow_form {w : World} {b : Nat} {e : TypeId} {size : Nat} {v : Value} {n : Nat} {xs : List Value} (h : w.ownsRow b e size v n xs) : ∃ a l c, v = .slice a l c := by
  rcases h.2 with ⟨rfl, _⟩ | ⟨g, cap, cur, rfl, _⟩
  · exact ⟨_, _, _, rfl⟩
  · exact ⟨_, _, _, rfl⟩
section
variable {B b g k : Nat} {w0 w : World} {s : RS} {vs us : Nat → Value} {A : Nat → List (Int × Int)}
theorem PJ.on {w' : World} (h : PJ B b g w0 w s vs us A k) (hb : Below w.heap.size w w') : PJ B b g w0 w' s vs us A k := by
  have hg : w.grownBy w' none := ⟨hb.os, hb.tape, hb.output, hb.size, fun k hk _ => hb.block k hk⟩
  have hlt := h.lt
  have hbg := h.hb
  have hB := h.hB
  refine ⟨h.below.trans (hb.mono (by omega)), h.hB, h.hb, Nat.lt_of_lt_of_le h.lt hb.size, fun j hj => (hb.cell (p := ⟨g, j, none⟩) h.lt).trans (h.week j hj), fun j hj => (hb.cell (p := ⟨g, 7 + j, none⟩) h.lt).trans (h.free j hj), fun j => (hb.frozen (p := ⟨g, j, none⟩) h.lt).trans (h.frz j), fun j h1 h2 => (h.own j h1 h2).kept hg (by cases (vs j).ownBlock <;> simp), h.old, h.apart, fun j hj => ⟨(h.new j hj).1.kept hg (by cases (us j).ownBlock <;> simp), (h.new j hj).2⟩⟩
theorem PJ.step {w1 : World} {v : Value} {l : List (Int × Int)} (h : PJ B b g w0 w s vs us A k) (hk : k < 7) (hg : w.grownBy w1 (vs k).ownBlock) (hown : w1.ownsRow w.heap.size 140 2 v l.length (flat l)) (hJ : JoinOf (s.week k) l) :
    PJ B b g w0 (w1.setCell ⟨g, k, none⟩ v) s vs (fun j => if j = k then v else us j) (fun j => if j = k then l else A j) (k + 1) := by
  have hlt := h.lt
  have hbg := h.hb
  have hB := h.hB
  have hne : some g ≠ (vs k).ownBlock := fun e => by have := (h.old k g hk e.symm).2; omega
  have hblk := hg.block g hlt hne
  have hc : ∀ j, w1.cell? ⟨g, j, none⟩ = w.cell? ⟨g, j, none⟩ := fun j => World.cell?_of_block hblk
  have hsz := hg.size
  refine ⟨(h.below.grown hg (by omega) (fun q hq => by have := (h.old k q hk hq).1; omega)).setCell (by simp; omega) _, h.hB, h.hb, by simp; omega, fun j hj => ?_, fun j hj => ?_, fun j => ?_, fun j h1 h2 => ?_, h.old, h.apart, fun j hj2 => ?_⟩
  · by_cases e : j = k
    · subst e
      rw [sc_eq (by rw [hc]; exact h.week j hj), if_pos (by omega), if_pos rfl]
    · rw [sc_ne (by omega), hc, h.week j hj, if_neg e]
      by_cases q : j < k
      · rw [if_pos q, if_pos (by omega)]
      · rw [if_neg q, if_neg (by omega)]
  · rw [sc_ne (by omega), hc]; exact h.free j hj
  · rw [World.frozen?_setCell, World.frozen?_of_block hblk]; exact h.frz j
  · have hr := (h.own j (by omega) h2).kept hg (h.apart j k h2 hk (by omega))
    refine hr.kept (row := some g) ⟨rfl, rfl, rfl, by simp, fun q hq hne2 => Below.heap_setCell _ _ _ q (fun e => hne2 (by rw [e]))⟩ ?_
    cases hv : (vs j).ownBlock with
    | none => exact .inl rfl
    | some q =>
      right
      intro e
      injection e with e
      have := (h.old j q h2 hv).2
      omega
  · by_cases e : j = k
    · subst e
      rw [if_pos rfl, if_pos rfl]
      exact ⟨ownsRow_base (b := w.heap.size) (ownsRow_setCell_below hown (a := ⟨g, j, none⟩) (by simpa using hlt) v) (by omega), hJ⟩
    · rw [if_neg e, if_neg e]
      obtain ⟨n1, n2⟩ := h.new j (by omega)
      refine ⟨ownsRow_setCell_below (n1.kept hg ?_) (a := ⟨g, k, none⟩) (by simp) v, n2⟩
      cases hv : (vs k).ownBlock with
      | none => cases (us j).ownBlock <;> simp
      | some q =>
        cases hu : (us j).ownBlock with
        | none => exact .inl rfl
        | some r =>
          right
          intro e2
          injection e2 with e2
          have a1 := (h.old k q hk hv).2
          have a2 := (n1.lt r hu).1
          omega
theorem PJ.room {w1 : World} (h : PJ B b g w0 w s vs us A k) (hk : k < 7) (hg : w.grownBy w1 (vs k).ownBlock) : w1.cell? ⟨g, k, none⟩ = some (.slice none 0 0) ∧ w1.frozen? ⟨g, k, none⟩ = false := by
  have hlt := h.lt
  have hne : some g ≠ (vs k).ownBlock := fun e => by have := (h.old k g hk e.symm).2; omega
  have hblk := hg.block g hlt hne
  refine ⟨?_, ?_⟩
  · rw [World.cell?_of_block (a := ⟨g, k, none⟩) hblk, h.week k hk, if_neg (by omega)]
  · rw [World.frozen?_of_block (a := ⟨g, k, none⟩) hblk]; exact h.frz k
theorem PJ.cal (h : PJ B b g w0 w s vs us A 7) : CalW w g s.week s.free :=
  ⟨A, ⟨h.lt, fun j hj => ⟨us j, by rw [h.week j hj, if_pos hj], ownsRow_base (h.new j hj).1 (by omega)⟩, h.free⟩, fun j hj => (h.new j hj).2⟩
end
section
variable {it : Obj} {B b : Nat} {w0 w : World} {s : RS} {vs : Nat → Value}
theorem RW.made (h : RW it B b w0 w s vs) (cs : Array Value) (hcs : ∀ j, j < 77 → cs[j]? = some (if j < 7 then .slice none 0 0 else .bool (s.free (j - 7)))) : PJ B b w.heap.size w0 (w.alloc (.cells cs 105)) s vs nilVs (fun _ => []) 0 := by
  have hB := h.hB
  have hb := h.hb
  refine ⟨h.below.alloc (by omega) _, hB, hb, by simp, fun j hj => ?_, fun j hj => ?_, fun j => World.frozen?_alloc_at _ _ _ _ rfl, fun j _ hj => (h.own j hj).alloc _, fun j q hj hq => (h.own j hj).lt q hq, h.apart, fun j hj => by omega⟩
  · rw [World.cell?_alloc_at _ _ _ _ rfl, hcs j (by omega), if_pos hj, if_neg (by omega)]
  · rw [World.cell?_alloc_at _ _ _ _ rfl, hcs (7 + j) (by omega), if_neg (by omega)]
    congr 3; omega
theorem RW.iterAt {str : ByteArray} {p : Nat} (h : RW (.stringIter str p) B b w0 w s vs) (p' : Nat) : RW (.stringIter str p') B b w0 (w.iterAt (b + 1) str p') s vs := by
  have hB := h.hB
  have hn := h.n0
  have ho : ∀ j, j ≠ b + 1 → (w.iterAt (b + 1) str p').heap[j]? = w.heap[j]? := fun j hj => Lib.iterAt_other w (b + 1) j str p' hj
  have hsz := Lib.iterAt_size w (b + 1) str p'
  refine ⟨Lib.below_iterAt h.below (by omega) str p', h.hB, by rw [hsz]; exact h.hb, ?_, ?_, ?_, h.apart, ?_, h.n0, Lib.iterAt_heap w (b + 1) str p p' h.iter⟩
  · intro j hj; rw [World.cell?_of_block (w := w) (ho b (by omega))]; exact h.cell j hj
  · intro j; rw [World.frozen?_of_block (w := w) (ho b (by omega))]; exact h.frz j
  · intro j hj
    exact ownsRow_iterAt (h.own j hj) (by omega) str p'
  · intro j hj; rw [World.cell?_of_block (w := w) (ho 0 (by omega))]; exact h.names j hj
end
theorem RW.start (w : World) (s : ByteArray) (cs : Array Value) (h0 : 0 < w.heap.size) (hnm : ∀ j, j < 7 → w.cell? ⟨0, j, none⟩ = some (nmV j)) (hcs : ∀ j, j < 91 → cs[j]? = some (enc rs0 nilVs j)) :
    RW (.stringIter s 0) w.heap.size w.heap.size w ((w.alloc (.cells cs 199)).iter s 0) rs0 nilVs := by
  have hb1 : Below w.heap.size w (w.alloc (.cells cs 199)) := (Below.refl _ _).alloc (Nat.le_refl _) _
  have hb2 : Below (w.heap.size + 1) (w.alloc (.cells cs 199)) ((w.alloc (.cells cs 199)).iter s 0) := (Below.refl _ _).alloc (by simp) _
  have hi := World.iter_heap (w.alloc (.cells cs 199)) s 0
  refine ⟨hb1.trans (hb2.mono (by omega)), Nat.le_refl _, ?_, ?_, ?_, ?_, ?_, ?_, h0, ?_⟩
  · have := hb2.size; simp at this; omega
  · intro j hj
    rw [hb2.cell (p := ⟨w.heap.size, j, none⟩) (by simp), World.cell?_alloc_at _ _ _ _ rfl]; exact hcs j hj
  · intro j
    rw [hb2.frozen (p := ⟨w.heap.size, j, none⟩) (by simp)]; exact World.frozen?_alloc_at _ _ _ _ rfl
  · intro j hj; exact World.ownsRow_nil _ _ _ _
  · intro i j _ _ _; exact .inl rfl
  · intro j hj
    rw [hb2.cell (p := ⟨0, j, none⟩) (by simp), hb1.cell (p := ⟨0, j, none⟩) (by simpa using h0)]; exact hnm j hj
  · simpa using hi

set_option maxRecDepth 100000 in
set_option maxHeartbeats 1000000 in
theorem newReader_any (w : World) :
    Calls Tryz.prog 101 #[] w fun e w' => e = .returned (P0 w.heap.size) ∧ ∃ cs, w' = w.alloc (.cells cs 199) ∧ ∀ j, j < 91 → cs[j]? = some (enc rs0 nilVs j) := by
  go_enter Tryz.func101, Tryz.ntmps101
  go_wp2
  go_ret
  refine ⟨rfl, _, rfl, ?_⟩
  rw [rd0_cells]
  intro j hj
  simp [hj]
end Go.Proofs.YtcnmbldikjljeaaGreatDoor
namespace Go.Proofs.YtcnmbldikjljeaaGreatDoor
open Go.Shelf

def sortSpan_ren : Go.Shelf.Ren := ⟨fun | 6 => 154 | 15 => 79 | 14 => 176 | 28 => 127 | 29 => 128 | 20 => 178 | 21 => 179 | 22 => 180 | 23 => 181 | 24 => 182 | 25 => 183 | 26 => 184 | 27 => 185 | 46 => 186 | 47 => 165 | 48 => 166 | 49 => 187 | 50 => 188 | 57 => 189 | n => n, fun | 22 => 101 | 24 => 140 | 25 => 249 | 3 => 3 | 39 => 179 | 0 => 0 | 53 => 96 | 55 => 223 | 4 => 4 | 46 => 215 | 45 => 214 | 50 => 219 | 5 => 5 | 9 => 9 | 66 => 254 | 70 => 258 | 76 => 266 | 77 => 42 | n => n, fun | n => n⟩
theorem sortSpan : Go.Proofs.SlLaysF0.n6 Tryz.prog sortSpan_ren where
  mixed := by kernel_rfl
  f6 := ⟨ "slices.SortFunc[[]docket/docket.span,docket/docket.span]", by decide, Tryz.func154.trans (congrArg some (by kernel_rfl))⟩
  f14 := ⟨ "slices.pdqsortCmpFunc[docket/docket.span]", by decide, Tryz.func176.trans (congrArg some (by kernel_rfl))⟩
  f15 := Tryz.func79.trans (congrArg some (by kernel_rfl))
  f20 := ⟨ "slices.insertionSortCmpFunc[docket/docket.span]", by decide, Tryz.func178.trans (congrArg some (by kernel_rfl))⟩
  f21 := ⟨ "slices.heapSortCmpFunc[docket/docket.span]", by decide, Tryz.func179.trans (congrArg some (by kernel_rfl))⟩
  f22 := ⟨ "slices.breakPatternsCmpFunc[docket/docket.span]", by decide, Tryz.func180.trans (congrArg some (by kernel_rfl))⟩
  f23 := ⟨ "slices.choosePivotCmpFunc[docket/docket.span]", by decide, Tryz.func181.trans (congrArg some (by kernel_rfl))⟩
  f24 := ⟨ "slices.reverseRangeCmpFunc[docket/docket.span]", by decide, Tryz.func182.trans (congrArg some (by kernel_rfl))⟩
  f25 := ⟨ "slices.partialInsertionSortCmpFunc[docket/docket.span]", by decide, Tryz.func183.trans (congrArg some (by kernel_rfl))⟩
  f26 := ⟨ "slices.partitionEqualCmpFunc[docket/docket.span]", by decide, Tryz.func184.trans (congrArg some (by kernel_rfl))⟩
  f27 := ⟨ "slices.partitionCmpFunc[docket/docket.span]", by decide, Tryz.func185.trans (congrArg some (by kernel_rfl))⟩
  f28 := Tryz.func127.trans (congrArg some (by kernel_rfl))
  f29 := Tryz.func128.trans (congrArg some (by kernel_rfl))
  f46 := ⟨ "slices.siftDownCmpFunc[docket/docket.span]", by decide, Tryz.func186.trans (congrArg some (by kernel_rfl))⟩
  f47 := Tryz.func165.trans (congrArg some (by kernel_rfl))
  f48 := Tryz.func166.trans (congrArg some (by kernel_rfl))
  f49 := ⟨ "slices.medianAdjacentCmpFunc[docket/docket.span]", by decide, Tryz.func187.trans (congrArg some (by kernel_rfl))⟩
  f50 := ⟨ "slices.medianCmpFunc[docket/docket.span]", by decide, Tryz.func188.trans (congrArg some (by kernel_rfl))⟩
  f57 := ⟨ "slices.order2CmpFunc[docket/docket.span]", by decide, Tryz.func189.trans (congrArg some (by kernel_rfl))⟩
  t0 := Tryz.underlying0
  a0 := Tryz.isAgg0
  z0 := Tryz.sizeOf0
  v0 := Tryz.zeroValue0
  t3 := Tryz.underlying3
  a3 := Tryz.isAgg3
  z3 := Tryz.sizeOf3
  v3 := Tryz.zeroValue3
  t4 := Tryz.underlying4
  a4 := Tryz.isAgg4
  z4 := Tryz.sizeOf4
  v4 := Tryz.zeroValue4
  t5 := Tryz.underlying5
  a5 := Tryz.isAgg5
  z5 := Tryz.sizeOf5
  v5 := Tryz.zeroValue5
  t9 := Tryz.underlying9
  a9 := Tryz.isAgg9
  z9 := Tryz.sizeOf9
  v9 := Tryz.zeroValue9
  t22 := Tryz.underlying101
  a22 := Tryz.isAgg101
  z22 := Tryz.sizeOf101
  v22 := Tryz.zeroValue101
  t25 := Tryz.underlying249
  a25 := Tryz.isAgg249
  z25 := Tryz.sizeOf249
  v25 := Tryz.zeroValue249
  t39 := Tryz.underlying179
  a39 := Tryz.isAgg179
  z39 := Tryz.sizeOf179
  v39 := Tryz.zeroValue179
  t45 := Tryz.underlying214
  a45 := Tryz.isAgg214
  z45 := Tryz.sizeOf214
  v45 := Tryz.zeroValue214
  t46 := Tryz.underlying215
  a46 := Tryz.isAgg215
  z46 := Tryz.sizeOf215
  v46 := Tryz.zeroValue215
  t50 := Tryz.underlying219
  a50 := Tryz.isAgg219
  z50 := Tryz.sizeOf219
  v50 := Tryz.zeroValue219
  t53 := Tryz.underlying96
  a53 := Tryz.isAgg96
  z53 := Tryz.sizeOf96
  v53 := Tryz.zeroValue96
  t55 := Tryz.underlying223
  a55 := Tryz.isAgg223
  z55 := Tryz.sizeOf223
  v55 := Tryz.zeroValue223
  t66 := Tryz.underlying254
  a66 := Tryz.isAgg254
  z66 := Tryz.sizeOf254
  v66 := Tryz.zeroValue254
  t70 := Tryz.underlying258
  a70 := Tryz.isAgg258
  z70 := Tryz.sizeOf258
  v70 := Tryz.zeroValue258
  t76 := Tryz.underlying266
  a76 := Tryz.isAgg266
  z76 := Tryz.sizeOf266
  v76 := Tryz.zeroValue266
  t77 := Tryz.underlying42
  a77 := Tryz.isAgg42
  z77 := Tryz.sizeOf42
  v77 := Tryz.zeroValue42
end Go.Proofs.YtcnmbldikjljeaaGreatDoor
namespace Go.Proofs.YtcnmbldikjljeaaGreatDoor
open Go.RowKit

/-- what the sort of a day's spans does -/
def SortsTo (base : Nat) (v : Value) (l : List (Int × Int)) (w : World) : Prop :=
  Calls Tryz.prog 154 #[v, .func (.func 155) #[] #[]] w fun e w' => e = .returned (.tuple #[]) ∧ ∃ l', l'.Perm l ∧ l'.Pairwise (fun p q => p.1 ≤ q.1) ∧ w.grownBy w' v.ownBlock ∧ w'.ownsRow base 140 2 v l.length (flat l')

/-- the last span's end is written -/
theorem own_last {w : World} {base g m cap : Nat} {t : TypeId} {B : List (Int × Int)} {q : Int × Int} (hm : B.length = m) (h : w.ownsRow base t 2 (.slice (some ⟨g, 0, none⟩) (m + 1) cap) (m + 1) (flat (B ++ [q]))) (x : Int) :
    (w.setCell ⟨g, m * 2 + 1, none⟩ (.int .i64 x)).ownsRow base t 2 (.slice (some ⟨g, 0, none⟩) (m + 1) cap) (m + 1) (flat (B ++ [(q.1, x)])) := by
  refine ⟨by rw [flat_length]; simp [hm], ?_⟩
  rcases h.2 with ⟨h', _⟩ | ⟨g', cap', cur, h', hg, hh, h1, h2, h3, h4⟩
  · cases h'
  simp only [Value.slice.injEq, Option.some.injEq, Addr.mk.injEq, and_true, true_and] at h'
  obtain ⟨rfl, rfl⟩ := h'
  refine .inr ⟨g, cap, cur.setIfInBounds (m * 2 + 1) (.int .i64 x), rfl, hg, ?_, h1, h2, by simp [h3], ?_⟩
  · rw [heap_setCell_same _ _ _ _ _ _ hh]
  · rw [Array.toList_setIfInBounds, List.take_set, h4, flat_snoc, flat_snoc, List.set_append_right _ _ (by rw [flat_length]; omega), flat_length, hm]
    rw [show m * 2 + 1 - m * 2 = 1 by omega]
    rfl
theorem own_frozen {w : World} {base g n cap : Nat} {t : TypeId} {xs : List Value} (h : w.ownsRow base t 2 (.slice (some ⟨g, 0, none⟩) n cap) n xs) (j : Nat) : w.frozen? ⟨g, j, none⟩ = false := by
  rcases h.2 with ⟨h', _⟩ | ⟨g', cap', cur, h', _, hh, _⟩
  · cases h'
  simp only [Value.slice.injEq, Option.some.injEq, Addr.mk.injEq, and_true, true_and] at h'
  obtain ⟨rfl, rfl⟩ := h'
  simp [World.frozen?, hh]
theorem nil_or_snoc (A : List (Int × Int)) : A = [] ∨ ∃ B q1 q2, A = B ++ [(q1, q2)] := by
  rcases List.eq_nil_or_concat A with h | ⟨B, q, h⟩
  · exact .inl h
  · exact .inr ⟨B, q.1, q.2, by rw [h, List.concat_eq_append]⟩
/-- where a loop over the sorted spans stands -/
structure JS (w1 : World) (L : List (Int × Int)) (k : Nat) (A : List (Int × Int)) (v : Value) (w : World) : Prop where
  below : Below w1.heap.size w1 w
  own : w.ownsRow w1.heap.size 140 2 v A.length (flat A)
  ji : JI A (L.take k) (L.drop k)
  nl : A = [] → v = .slice none 0 0
section
variable {w1 w : World} {L A : List (Int × Int)} {k : Nat} {v : Value}
theorem JS.on {w' : World} (h : JS w1 L k A v w) (hb : Below w.heap.size w w') : JS w1 L k A v w' :=
  ⟨h.below.trans (hb.mono h.below.size), h.own.kept (row := none) ⟨hb.os, hb.tape, hb.output, hb.size, fun k hk _ => hb.block k hk⟩ (by cases v.ownBlock <;> simp), h.ji, h.nl⟩
theorem get_cons {L : List (Int × Int)} {k : Nat} {p : Int × Int} (hp : L[k]? = some p) : L.drop k = p :: L.drop (k + 1) ∧ L.take (k + 1) = L.take k ++ [p] := by
  obtain ⟨hk, rfl⟩ := List.getElem?_eq_some_iff.1 hp
  exact ⟨List.drop_eq_getElem_cons hk, List.take_succ_eq_append_getElem hk⟩
theorem JI.last' {B pre : List (Int × Int)} {q1 q2 p1 p2 : Int} (h : JI (B ++ [(q1, q2)]) pre (L.drop k)) (hp : L[k]? = some (p1, p2)) (hf : q2 < p1) : ∀ p ∈ B ++ [(q1, q2)], p.2 < p1 := by
  rw [(get_cons hp).1] at h
  exact h.last hf
theorem JS.app {w10 : World} {gg cap : Nat} {p1 p2 : Int} (h : JS w1 L k A v w) (hp : L[k]? = some (p1, p2)) (hg : Good (p1, p2)) (hs : L.Pairwise fun p q => p.1 ≤ q.1) (hl : ∀ p ∈ A, p.2 < p1)
    (hown : w10.ownsRow w1.heap.size 140 2 (.slice (some ⟨gg, 0, none⟩) (A.length + 1) cap) (A.length + 1) (flat A ++ [.int .i64 p1, .int .i64 p2])) (hgr : w.grownBy w10 v.ownBlock) :
    JS w1 L (k + 1) (A ++ [(p1, p2)]) (.slice (some ⟨gg, 0, none⟩) (A.length + 1) cap) w10 := by
  refine ⟨h.below.grown hgr h.below.size (fun q hq => (h.own.lt q hq).1), by rw [flat_snoc, List.length_append]; exact hown, ?_, fun e => by simp at e⟩
  obtain ⟨e1, e2⟩ := get_cons hp
  have hj := h.ji
  rw [e1] at hj
  rw [e2]
  refine hj.app hg (fun q hq => ?_) hl
  have := hs.sublist (List.drop_sublist k L)
  rw [e1, List.pairwise_cons] at this
  exact this.1 q hq
theorem JS.fuse {B : List (Int × Int)} {q1 q2 p1 p2 : Int} {g m cap : Nat} (h : JS w1 L k (B ++ [(q1, q2)]) (.slice (some ⟨g, 0, none⟩) (m + 1) cap) w) (hm : B.length = m) (hp : L[k]? = some (p1, p2)) (hg : Good (p1, p2)) (hf : p1 ≤ q2) :
    JS w1 L (k + 1) (B ++ [(q1, max q2 p2)]) (.slice (some ⟨g, 0, none⟩) (m + 1) cap) (w.setCell ⟨g, m * 2 + 1, none⟩ (.int .i64 (max q2 p2))) := by
  have hlo := (h.own.lt g rfl).1
  have ho := h.own
  rw [show (B ++ [(q1, q2)]).length = m + 1 by simp [hm]] at ho
  refine ⟨h.below.setCell (p := ⟨g, m * 2 + 1, none⟩) hlo _, ?_, ?_, fun e => by simp at e⟩
  · rw [show (B ++ [(q1, max q2 p2)]).length = m + 1 by simp [hm]]
    exact own_last (q := (q1, q2)) hm ho _
  · obtain ⟨e1, e2⟩ := get_cons hp
    have hj := h.ji
    rw [e1] at hj
    rw [e2]
    exact hj.fuse hg hf
end
set_option maxRecDepth 100000 in
set_option maxHeartbeats 4000000 in
theorem join_any (base : Nat) (v : Value) (l : List (Int × Int)) (w : World) (hs : SortsTo base v l w) (hg : ∀ p ∈ l, Good p) (hl : l.length ≤ 1000) :
    Calls Tryz.prog 104 #[v] w fun e w' => ∃ v' A, e = .returned v' ∧ w.grownBy w' v.ownBlock ∧ w'.ownsRow w.heap.size 140 2 v' A.length (flat A) ∧ JoinOf l A := by
  unfold SortsTo at hs
  have HS := hide hs
  clear hs
  go_enter Tryz.func104, Tryz.ntmps104
  go_wp2_with fail
  refine HS.out.mono ?_
  rintro e w1 ⟨rfl, L, hp, hso, hgr, hown⟩
  have hlen := hp.length_eq
  obtain ⟨i0, hi, hz0, hz1, hz2⟩ := info_parts spanInfo
  have HI := hide hi
  clear hi
  rcases hown.2 with ⟨rfl, hz⟩ | ⟨g2, cap, cur, rfl, _, hg2, _⟩
  · have hz2 : l = [] := List.length_eq_zero_iff.1 hz
    subst hz2
    clear HS hso hp hlen
    have HG := hide hgr
    have HO := hide hown
    clear hgr hown
    go_wp2
    go_loopw [3, 11] (fun a i wr => a = .slice none 0 0 ∧ i = .int .i64 0 ∧ wr = w1) (fun _ _ _ => 0)
    case atStart => exact ⟨rfl, rfl, rfl⟩
    case round =>
      obtain ⟨rfl, rfl, rfl⟩ := hrel
      go_wp2
      go_ret
      exact ⟨_, [], rfl, HG.out, World.ownsRow_nil _ _ _ _, joinOf_nil⟩
  · have hg2s : g2 < w1.heap.size := (Array.getElem?_eq_some_iff.1 hg2).1
    have HG := hide (And.intro hgr hp)
    have HO := hide hown
    have HSO := hide hso
    have hgood : ∀ k (hk : k < L.length), Good L[k] := fun k hk => hg _ (hp.mem_iff.1 (List.getElem_mem hk))
    have HGD := hide hgood
    clear HS hgr hg2 hown hso hgood hg hp
    generalize l.length = n at *
    go_wp2_with fail
    go_loopw [3, 11] (fun va i wr => ∃ (k : Nat) (A : List (Int × Int)), k ≤ n ∧ i = .int .i64 k ∧ JS w1 L k A va wr) (fun _ i _ => n - (intOf i).toNat)
    case atStart => exact ⟨0, [], Nat.zero_le _, rfl, ⟨Below.refl _ _, World.ownsRow_nil _ _ _ _, by rw [List.take_zero, List.drop_zero]; exact JI.nil _, fun _ => rfl⟩⟩
    case round =>
      obtain ⟨k, A, hk, rfl, S⟩ := hrel
      by_cases hlt : k < n
      · have hkL : k < L.length := by omega
        have hc := flat_at L k hkL
        have hbl := S.below
        have hAn : A.length ≤ 1000 := Nat.le_trans S.ji.len (by simp; omega)
        have e0 : wr.cell? ⟨g2, k * 2, none⟩ = some (.int .i64 L[k].1) := (hbl.cell (p := ⟨g2, k * 2, none⟩) hg2s).trans ((HO.out.cellAt (k * 2) (by omega)).trans hc.1)
        have e1 : wr.cell? ⟨g2, k * 2 + 1, none⟩ = some (.int .i64 L[k].2) := (hbl.cell (p := ⟨g2, k * 2 + 1, none⟩) hg2s).trans ((HO.out.cellAt (k * 2 + 1) (by omega)).trans hc.2)
        have hsz := hbl.size
        have hg2r : g2 < wr.heap.size := by omega
        have hGk := HGD.out k hkL
        have hpk : L[k]? = some (L[k].1, L[k].2) := by rw [List.getElem?_eq_getElem hkL]
        have hGp : Good (L[k].1, L[k].2) := hGk
        have HP := hide (And.intro hpk hGp)
        clear hGk hpk hGp
        have HS := hide S
        have S2 := S.on ((Below.refl _ _).alloc (Nat.le_refl _) (Obj.cells #[.int .i64 L[k].1, .int .i64 L[k].2] 140))
        have HS2 := hide S2
        have hlt' : (k : Int) < n := by omega
        clear hc hbl S2
        generalize L[k].1 = p1 at *
        generalize L[k].2 = p2 at *
        rcases nil_or_snoc A with rfl | ⟨B, q1, q2, rfl⟩
        · obtain rfl := S.nl rfl
          clear S
          go_wp2_with fail
          go_quiet (fail)
          have HS3 := hide (HS2.out.on (below_drewN (Below.refl _ _) nq))
          have g4 : ((wr.alloc (Obj.cells #[.int .i64 p1, .int .i64 p2] 140)).drewN nq).cell? ⟨wr.heap.size, 0, none⟩ = some (.int .i64 p1) := by rw [World.cell?_drewN, World.cell?_alloc_at _ _ _ _ rfl]; rfl
          have g5 : ((wr.alloc (Obj.cells #[.int .i64 p1, .int .i64 p2] 140)).drewN nq).cell? ⟨wr.heap.size, 1, none⟩ = some (.int .i64 p2) := by rw [World.cell?_drewN, World.cell?_alloc_at _ _ _ _ rfl]; rfl
          have g6 : wr.heap.size < ((wr.alloc (Obj.cells #[.int .i64 p1, .int .i64 p2] 140)).drewN nq).heap.size := by simp
          generalize (wr.alloc (Obj.cells #[.int .i64 p1, .int .i64 p2] 140)).drewN nq = W2 at *
          go_upto_region 99 with (first | (at_builtin; refine wpList_append_lies _ rfl _ _ 101 rfl w1.heap.size 140 i0 _ 2 16 Tryz.underlying101 HI.out hz0 hz1 hz2 rfl (by decide) _ 0 [] (by rfl) (HS3.out.own.alloc _) ⟨W2.heap.size, 0, none⟩ 1 1 [.int .i64 p1, .int .i64 p2] (by rfl) (by rfl) (World.news_of_block (cs := #[.int .i64 p1, .int .i64 p2]) (t := 140) (fr := (0, 0)) (heap_alloc_new W2 _)) (by simp [Value.oneCell']) (by omega) (by unfold maxLen; omega) (by omega) (by have := HS3.out.below.size; simp; omega) (W2.heap.size + 1) (by simp) ?_; intro gg cap3 w10 hown10 hgrow hat hlt10; have HA := hide (And.intro hown10 hgrow); clear hown10 hgrow hat) | fail)
          go_roundw
          case rel => exact ⟨k + 1, _, by omega, by go_num, (HS3.out.on ((Below.refl _ _).alloc (Nat.le_refl _) _)).app HP.out.1 HP.out.2 HSO.out (fun p hp => by cases hp) HA.out.1 HA.out.2⟩
          case measure => simp [intOf]; omega
        · obtain ⟨m, hm⟩ : ∃ m, B.length = m := ⟨_, rfl⟩
          have hAl : (B ++ [(q1, q2)]).length = m + 1 := by simp [hm]
          have ho := S.own
          rw [hAl] at ho
          rcases ho.2 with ⟨_, h0⟩ | ⟨gA, capA, curA, rfl, hgA, _⟩
          · omega
          have hq2 : wr.cell? ⟨gA, m * 2 + 1, none⟩ = some (.int .i64 q2) := by
            rw [ho.cellAt (m * 2 + 1) (by omega)]
            have := (flat_at (B ++ [(q1, q2)]) m (by omega)).2
            rw [this]; simp [← hm]
          have hfA : wr.frozen? ⟨gA, m * 2 + 1, none⟩ = false := own_frozen ho _
          have hgAl : gA < wr.heap.size := (ho.lt gA rfl).2
          have hml : m ≤ 1000 := by omega
          have HM := hide (And.intro hm hAl)
          clear S ho hm
          by_cases hf : p1 ≤ q2
          · have HF := hide hf
            go_wp2_with fail
            go_quiet (fail)
            have HS3 := hide (HS2.out.on (below_drewN (Below.refl _ _) nq))
            have g4 : ((wr.alloc (Obj.cells #[.int .i64 p1, .int .i64 p2] 140)).drewN nq).cell? ⟨wr.heap.size, 0, none⟩ = some (.int .i64 p1) := by rw [World.cell?_drewN, World.cell?_alloc_at _ _ _ _ rfl]; rfl
            have g5 : ((wr.alloc (Obj.cells #[.int .i64 p1, .int .i64 p2] 140)).drewN nq).cell? ⟨wr.heap.size, 1, none⟩ = some (.int .i64 p2) := by rw [World.cell?_drewN, World.cell?_alloc_at _ _ _ _ rfl]; rfl
            have g6 : wr.heap.size < ((wr.alloc (Obj.cells #[.int .i64 p1, .int .i64 p2] 140)).drewN nq).heap.size := by simp
            have g7 : ((wr.alloc (Obj.cells #[.int .i64 p1, .int .i64 p2] 140)).drewN nq).cell? ⟨gA, m * 2 + 1, none⟩ = some (.int .i64 q2) := by rw [World.cell?_drewN, World.cell?_alloc_past _ _ _ hgAl]; exact hq2
            have g8 : ((wr.alloc (Obj.cells #[.int .i64 p1, .int .i64 p2] 140)).drewN nq).frozen? ⟨gA, m * 2 + 1, none⟩ = false := own_frozen (by have := HS3.out.own; rw [HM.out.2] at this; exact this) _
            generalize (wr.alloc (Obj.cells #[.int .i64 p1, .int .i64 p2] 140)).drewN nq = W2 at *
            clear hq2 hfA e0 e1
            go_wp2_with fail
            have b0 : (0 : Int) ≤ (m : Int) := by omega
            have b1 : (m : Int) < (m : Int) + 1 := by omega
            go_region
            go_wp2_with fail
            go_roundw
            case rel => exact ⟨k + 1, _, by omega, by go_num, (HS3.out.fuse HM.out.1 HP.out.1 HP.out.2 HF.out).on (Below.refl _ _).drew⟩
            case measure => simp [intOf]; omega
          · have hf' : q2 < p1 := by omega
            go_wp2_with fail
            go_quiet (fail)
            have HS3 := hide (HS2.out.on (below_drewN (Below.refl _ _) nq))
            have g4 : ((wr.alloc (Obj.cells #[.int .i64 p1, .int .i64 p2] 140)).drewN nq).cell? ⟨wr.heap.size, 0, none⟩ = some (.int .i64 p1) := by rw [World.cell?_drewN, World.cell?_alloc_at _ _ _ _ rfl]; rfl
            have g5 : ((wr.alloc (Obj.cells #[.int .i64 p1, .int .i64 p2] 140)).drewN nq).cell? ⟨wr.heap.size, 1, none⟩ = some (.int .i64 p2) := by rw [World.cell?_drewN, World.cell?_alloc_at _ _ _ _ rfl]; rfl
            have g6 : wr.heap.size < ((wr.alloc (Obj.cells #[.int .i64 p1, .int .i64 p2] 140)).drewN nq).heap.size := by simp
            have g7 : ((wr.alloc (Obj.cells #[.int .i64 p1, .int .i64 p2] 140)).drewN nq).cell? ⟨gA, m * 2 + 1, none⟩ = some (.int .i64 q2) := by rw [World.cell?_drewN, World.cell?_alloc_past _ _ _ hgAl]; exact hq2
            have g8 : ((wr.alloc (Obj.cells #[.int .i64 p1, .int .i64 p2] 140)).drewN nq).frozen? ⟨gA, m * 2 + 1, none⟩ = false := own_frozen (by have := HS3.out.own; rw [HM.out.2] at this; exact this) _
            generalize (wr.alloc (Obj.cells #[.int .i64 p1, .int .i64 p2] 140)).drewN nq = W2 at *
            have ho3 := HS3.out.own
            rw [HM.out.2] at ho3
            go_upto_region 99 with (first | (at_builtin; refine wpList_append_lies _ rfl _ _ 101 rfl w1.heap.size 140 i0 _ 2 16 Tryz.underlying101 HI.out hz0 hz1 hz2 rfl (by decide) _ (m + 1) (flat (B ++ [(q1, q2)])) (by rfl) (ho3.alloc _) ⟨W2.heap.size, 0, none⟩ 1 1 [.int .i64 p1, .int .i64 p2] (by rfl) (by rfl) (World.news_of_block (cs := #[.int .i64 p1, .int .i64 p2]) (t := 140) (fr := (0, 0)) (heap_alloc_new W2 _)) (by simp [Value.oneCell']) (by omega) (by unfold maxLen; omega) (by omega) (by have := HS3.out.below.size; simp; omega) (W2.heap.size + 1) (by simp) ?_; intro gg cap3 w10 hown10 hgrow hat hlt10; have HA := hide (And.intro hown10 hgrow); clear hown10 hgrow hat) | fail)
            go_roundw
            case rel => exact ⟨k + 1, _, by omega, by go_num, by
              have := (HS3.out.on ((Below.refl _ _).alloc (Nat.le_refl _) (Obj.cells #[.int .i64 p1, .int .i64 p2] 140))).app (gg := gg) (cap := cap3) HP.out.1 HP.out.2 HSO.out (HS3.out.ji.last' HP.out.1 hf') (by rw [HM.out.2]; exact HA.out.1) HA.out.2
              rw [HM.out.2] at this
              exact this⟩
            case measure => simp [intOf]; omega
      · have hke : L.take k = L ∧ L.drop k = [] := ⟨List.take_of_length_le (by omega), List.drop_eq_nil_of_le (by omega)⟩
        have HK := hide hke
        clear hke
        go_wp2
        go_ret
        have hj := S.ji
        rw [HK.out.1, HK.out.2] at hj
        have hbl := S.below
        exact ⟨_, A, rfl, HG.out.1.andThen (row' := none) ⟨hbl.os, hbl.tape, hbl.output, hbl.size, fun j hj _ => hbl.block j hj⟩ (fun j e => by cases e), ownsRow_base S.own HG.out.1.size, hj.done HG.out.2⟩
end Go.Proofs.YtcnmbldikjljeaaGreatDoor
