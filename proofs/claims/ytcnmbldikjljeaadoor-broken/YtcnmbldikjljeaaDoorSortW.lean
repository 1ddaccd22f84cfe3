import Derived.Test.YtcnmbldikjljeaaDoorRd
import Derived.Test.YtcnmbldikjljeaaDoorSpan
import Derived.Shelf.GgSortFunc.InsertionK
namespace Go.Proofs.YtcnmbldikjljeaaDoor
open Go.RowKit Go.Shelf Go.Sort

theorem flat_at (l : List (Int × Int)) (k : Nat) (h : k < l.length) : (flat l)[k * 2]? = some (.int .i64 l[k].1) ∧ (flat l)[k * 2 + 1]? = some (.int .i64 l[k].2) := by
  induction l generalizing k with
  | nil => simp at h
  | cons p l ih =>
    cases k with
    | zero => simp [flat]
    | succ k =>
      have := ih k (by simpa using h)
      have e : flat (p :: l) = [.int .i64 p.1, .int .i64 p.2] ++ flat l := by simp [flat]
      rw [e, show (k + 1) * 2 = k * 2 + 2 by omega, show k * 2 + 2 + 1 = (k * 2 + 1) + 2 by omega]
      simpa using this
theorem flat_length (l : List (Int × Int)) : (flat l).length = l.length * 2 := by
  induction l with
  | nil => rfl
  | cons p l ih => have e : flat (p :: l) = [.int .i64 p.1, .int .i64 p.2] ++ flat l := by simp [flat]
                   rw [e]; simp [ih]; omega
/-- a span's two cells -/
def encP (x : Int × Int) : List Value := [.int .i64 x.1, .int .i64 x.2]
theorem flatK_flat (l : List (Int × Int)) : (flatK encP 2 l.toArray).toList = flat l := by
  apply List.ext_getElem?
  intro j
  by_cases hj : j < l.length * 2
  · have h2 : j / 2 < l.length := by omega
    have hf := flat_at l (j / 2) h2
    have e : (flatK encP 2 l.toArray).toList[j]? = some ((encP l[j / 2])[j % 2]!) := by
      simp [flatK, hj, h2]
    rw [e]
    rcases Nat.mod_two_eq_zero_or_one j with m | m
    · have : j = j / 2 * 2 := by omega
      rw [m]
      rw [← this] at hf
      rw [hf.1]; rfl
    · have : j = j / 2 * 2 + 1 := by omega
      rw [m]
      rw [← this] at hf
      rw [hf.2]; rfl
  · rw [List.getElem?_eq_none (by simp; omega), List.getElem?_eq_none (by rw [flat_length]; omega)]
theorem holds_flat {w : World} {g : Nat} {cur : Array Value} {e : TypeId} {l : List (Int × Int)} (hb : w.heap[g]? = some (.cells cur e (0, 0))) (ht : cur.toList.take (l.length * 2) = flat l) : HoldsK encP 2 w g 0 l.toArray := by
  intro j hj
  have hj' : j < l.length * 2 := by simpa using hj
  refine ⟨?_, by simp [World.frozen?, hb]⟩
  have h1 : (cur.toList.take (l.length * 2))[j]? = (flatK encP 2 l.toArray).toList[j]? := by rw [ht, flatK_flat]
  rw [List.getElem?_take_of_lt hj'] at h1
  simp only [World.cell?, hb, Nat.zero_add]
  simp only [Option.isSome_none, Bool.false_eq_true, if_false]
  rw [← Array.getElem?_toList, h1, Array.getElem?_toList, Array.getElem?_eq_getElem hj, getElem!_pos _ j hj]
  rfl
theorem grownBy_sortK {w : World} {g n : Nat} {os : Array Obj} (d : Array (Int × Int)) : w.grownBy (sortWorldK encP 2 w g 0 n d os) (some g) := by
  refine ⟨rfl, rfl, rfl, by simp [sortWorldK, putRowK], fun k hk hne => ?_⟩
  unfold sortWorldK putRowK
  rw [heap_grow_old _ _ (by simpa using hk)]
  have : g ≠ k := fun e => hne (by rw [e])
  simp [putRow, mapBlock, Sort.ahead, Array.getElem?_modify, this]
theorem heap_sortK {w : World} {g n : Nat} {os : Array Obj} {cur : Array Value} {e : TypeId} {fr : Nat × Nat} (d : Array (Int × Int)) (hb : w.heap[g]? = some (.cells cur e fr)) :
    (sortWorldK encP 2 w g 0 n d os).heap[g]? = some (.cells (putCells id 0 (flatK encP 2 d) cur) e fr) := by
  have hg : g < w.heap.size := (Array.getElem?_eq_some_iff.1 hb).1
  unfold sortWorldK putRowK
  rw [heap_grow_old _ _ (by simpa using hg)]
  simp [putRow, mapBlock, Sort.ahead, Array.getElem?_modify, hb, onCells]
theorem take_putCellsK (cur : Array Value) (ts : List (Int × Int)) (h : ts.length * 2 ≤ cur.size) : (putCells id 0 (flatK encP 2 ts.toArray) cur).toList.take (ts.length * 2) = flat ts := by
  rw [← flatK_flat]
  apply List.ext_getElem?
  intro j
  by_cases hj : j < ts.length * 2
  · rw [List.getElem?_take_of_lt hj, Array.getElem?_toList, Array.getElem?_toList]
    have h2 : j < (flatK encP 2 ts.toArray).size := by simpa using hj
    simp only [putCells, Array.getElem?_mapIdx, Array.getElem?_eq_getElem (show j < cur.size by omega), Option.map_some, Nat.zero_add, Nat.zero_le, true_and, if_pos h2, Nat.sub_zero, id]
    rw [getElem!_pos _ j h2, Array.getElem?_eq_getElem h2]
  · rw [List.getElem?_take_eq_none (by omega), List.getElem?_eq_none (by simp; omega)]
/-- behind the sort the same slice owns the sorted spans -/
theorem ownsRow_sortK {w : World} {base g cap n : Nat} {e : TypeId} {os : Array Obj} {cur : Array Value} {ss ts : List (Int × Int)} (hl : ts.length = ss.length) (hbase : base ≤ g) (hb : w.heap[g]? = some (.cells cur e (0, 0)))
    (h1 : ss.length ≤ cap) (h2 : cap ≤ maxLen) (h3 : cur.size = cap * 2) :
    (sortWorldK encP 2 w g 0 n ts.toArray os).ownsRow base e 2 (.slice (some ⟨g, 0, none⟩) ss.length cap) ss.length (flat ts) :=
  ⟨by rw [flat_length, hl], .inr ⟨g, cap, _, rfl, hbase, heap_sortK _ hb, h1, h2, by simp [putCells, h3], by rw [← hl]; exact take_putCellsK cur ts (by omega)⟩⟩
theorem perm_list {l : List (Int × Int)} {d : Array (Int × Int)} (h : PermIn 0 l.toArray.size l.toArray d) : d.toList.Perm l := by
  obtain ⟨h1, _, h3⟩ := h
  have e : d.extract 0 l.toArray.size = d := by rw [← h1]; simp
  rw [e] at h3
  simpa using h3
end Go.Proofs.YtcnmbldikjljeaaDoor
