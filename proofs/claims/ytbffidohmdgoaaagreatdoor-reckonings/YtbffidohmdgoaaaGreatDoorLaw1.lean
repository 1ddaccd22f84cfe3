import Derived.Test.YtbffidohmdgoaaaGreatDoorRef11
import Derived.Test.YtbffidohmdgoaaaGreatDoorPureR6
import Derived.Test.YtbffidohmdgoaaaGreatDoorOpen
import Derived.Test.YtbffidohmdgoaaaGreatDoorParseW
import Derived.Test.YtbffidohmdgoaaaGreatDoorPick0
import Derived.Deep.RegionWith
import Derived.Laws.AppendOwnNone
namespace Go.Proofs.YtbffidohmdgoaaaGreatDoor
open Go.RowKit

/-- a step of a script -/
structure OpD where
  k : Int
  a : Int
  b : Int
  d : Int
  s : ByteArray
  l : Value
def OpD.cells (o : OpD) : List Value := [.int .i64 o.k, .int .i64 o.a, .int .i64 o.b, .int .i64 o.d, .string o.s, o.l]
def OpD.val (o : OpD) : Value := .agg #[.int .i64 o.k, .int .i64 o.a, .int .i64 o.b, .int .i64 o.d, .string o.s, o.l]
def opsCells (os : List OpD) : List Value := os.flatMap OpD.cells
/-- numbers, text and list of a step are such -/
structure OpOk (o : OpD) : Prop where
  a0 : -9223372036854775808 ≤ o.a
  a1 : o.a ≤ 9223372036854775807
  b0 : -9223372036854775808 ≤ o.b
  b1 : o.b ≤ 9223372036854775807
  d0 : -9223372036854775808 ≤ o.d
  d1 : o.d ≤ 9223372036854775807
  sz : o.s.size ≤ 9223372036854775807
  one : ∃ la ll lc, o.l = .slice la ll lc
theorem opsCells_len (os : List OpD) : (opsCells os).length = os.length * 6 := by
  induction os with
  | nil => rfl
  | cons o os ih => simp only [opsCells, List.flatMap_cons, List.length_append, List.length_cons] at ih ⊢; rw [ih]; simp [OpD.cells]; omega
theorem opsCells_at (os : List OpD) (i : Nat) (h : i < os.length) (j : Nat) (hj : j < 6) : (opsCells os)[i * 6 + j]? = (os[i].cells)[j]? := by
  induction os generalizing i with
  | nil => simp at h
  | cons o os ih =>
    have e : opsCells (o :: os) = o.cells ++ opsCells os := rfl
    have hl : o.cells.length = 6 := rfl
    rw [e]
    cases i with
    | zero => rw [List.getElem?_append_left (by omega)]; simp
    | succ i =>
      rw [List.getElem?_append_right (by omega), hl, show (i + 1) * 6 + j - 6 = i * 6 + j by omega, ih i (by simpa using h)]
      simp
theorem opsCells_append (a b : List OpD) : opsCells (a ++ b) = opsCells a ++ opsCells b := by simp [opsCells]

set_option maxRecDepth 100000 in
set_option maxHeartbeats 1000000 in
theorem lpick_any (c n : Int) (w : World) (h1 : -9223372036854775808 ≤ c) (h2 : c ≤ 9223372036854775807) (hn : 0 < n) (hm : n ≤ 9223372036854775807) :
    Calls Tryz.prog 51 #[.int .i64 c, .int .i64 n] w fun e w' => e = .returned (.int .i64 (pk c n)) ∧ w' = w := by
  by_cases hc : c < 0
  · go_enter Tryz.func51, Tryz.ntmps51
    go_wp2
    go_ret
    exact ⟨ret_int (by unfold pk; rw [if_pos hc]; exact neg_tmod c n hc), rfl⟩
  · go_enter Tryz.func51, Tryz.ntmps51
    go_wp2
    go_ret
    exact ⟨ret_int (by unfold pk; rw [if_neg (by omega)]), rfl⟩
/-- the world behind the document's own examples -/
def ownW (w : World) : World := ((w.alloc (Obj.cells #[.int .i64 60, .int .i64 1, .int .i64 30, .int .i64 2] 147)).alloc (Obj.cells #[.int .i64 1] 3)).alloc (Obj.cells #[.slice (some ⟨w.heap.size, 0, none⟩) 2 2, .slice (some ⟨w.heap.size + 1, 0, none⟩) 1 1, .slice none 0 0, .slice none 0 0] 149)
set_option maxRecDepth 100000 in
set_option maxHeartbeats 4000000 in
theorem own_any (w : World) :
    Calls Tryz.prog 47 #[] w fun e w' => ∃ s0 : ByteArray, s0.size ≤ 9223372036854775807 ∧ e = .returned (.tuple #[.string s0, .slice (some ⟨w.heap.size + 1 + 1, 0, none⟩) 2 2]) ∧ w' = ownW w := by
  go_enter Tryz.func47, Tryz.ntmps47
  go_wp2
  go_ret2
  exact ⟨_, by decide, rfl, rfl⟩
/-- the list that a step may have: none, or the examples' -/
def FirstOk (w : World) (o : OpD) : Prop := OpOk o ∧ (o.l = .slice none 0 0 ∨ o.l = .slice (some ⟨w.heap.size + 1 + 1, 0, none⟩) 2 2)
set_option maxRecDepth 100000 in
set_option maxHeartbeats 4000000 in
theorem first_any (w : World) :
    Calls Tryz.prog 23 #[] w fun e w' => ∃ os : List OpD, os.length = 17 ∧ (∀ o ∈ os, FirstOk w o) ∧ e = .returned (.slice (some ⟨w.heap.size + 3, 0, none⟩) 17 17) ∧ w' = (ownW w).alloc (.cells (opsCells os).toArray 77) := by
  go_enter Tryz.func23, Tryz.ntmps23
  go_wp2_with fail
  refine (own_any w).mono ?_
  rintro e w1 ⟨s0, hs0, rfl, rfl⟩
  have hsz : (ownW w).heap.size = w.heap.size + 3 := by simp [ownW]
  have HS := hide hsz
  clear hsz
  go_wp2_with fail
  go_ret
  rw [HS.out]
  let nl : Value := .slice none 0 0
  let sl : Value := .slice (some ⟨w.heap.size + 1 + 1, 0, none⟩) 2 2
  let e0 : ByteArray := ⟨#[]⟩
  refine ⟨[⟨1, 0, 0, 0, s0, nl⟩, ⟨2, 0, 540, 0, e0, nl⟩, ⟨3, 0, 0, 10080, e0, nl⟩, ⟨4, 0, 1020, 1, e0, nl⟩, ⟨5, 0, 0, 0, e0, sl⟩, ⟨10, 0, 0, 0, e0, sl⟩, ⟨11, 0, 0, 0, e0, nl⟩, ⟨14, 0, 600, 0, e0, nl⟩, ⟨17, 0, 1, 0, e0, nl⟩, ⟨15, 0, 1, 0, e0, nl⟩, ⟨14, 0, 200, 0, e0, nl⟩, ⟨16, 0, 1, 0, e0, nl⟩, ⟨18, 0, 0, 0, e0, nl⟩, ⟨14, 0, 30, 0, e0, nl⟩, ⟨12, 0, 1, 1, e0, nl⟩, ⟨19, 0, 0, 0, e0, nl⟩, ⟨13, 0, 1, 0, e0, nl⟩], rfl, ?_, rfl, rfl⟩
  intro o ho
  have hk : (o.a = 0 ∧ (0 ≤ o.b ∧ o.b ≤ 10080) ∧ 0 ≤ o.d ∧ o.d ≤ 10080) ∧ (o.s = s0 ∨ o.s = e0) ∧ (o.l = nl ∨ o.l = sl) := by
    simp only [List.mem_cons, List.not_mem_nil, or_false] at ho
    rcases ho with rfl | rfl | rfl | rfl | rfl | rfl | rfl | rfl | rfl | rfl | rfl | rfl | rfl | rfl | rfl | rfl | rfl <;> simp
  obtain ⟨h1, h2, h3⟩ := hk
  refine ⟨⟨by omega, by omega, by omega, by omega, by omega, by omega, ?_, ?_⟩, h3⟩
  · rcases h2 with e | e <;> rw [e]
    · exact hs0
    · decide
  · rcases h3 with e | e <;> exact ⟨_, _, _, e⟩
set_option maxRecDepth 100000 in
set_option maxHeartbeats 1000000 in
theorem among_any (g cap : Nat) (ps : List Int) (k : Int) (w : World) (hp : ∀ i x, ps[i]? = some x → w.cell? ⟨g, i, none⟩ = some (.int .i64 x)) (hl : ps.length ≤ 1000) :
    Calls Tryz.prog 24 #[.slice (some ⟨g, 0, none⟩) ps.length cap, .int .i64 k] w fun e w' => e = .returned (.bool (ps.contains k)) ∧ w' = w := by
  go_enter Tryz.func24, Tryz.ntmps24
  go_wp2_with fail
  go_loopw [5] (fun i wr => ∃ n : Nat, n ≤ ps.length ∧ i = .int .i64 n ∧ Hid ((ps.take n).contains k = false) ∧ wr = w) (fun i _ => ps.length - (intOf i).toNat)
  case atStart => exact ⟨0, by omega, rfl, by simp [Hid], rfl⟩
  case round =>
    obtain ⟨n, hn, rfl, HD, rfl⟩ := hrel
    by_cases hlt : n < ps.length
    · have hc := hp n ps[n] (by simp [hlt])
      have ht := List.take_succ_eq_append_getElem hlt
      have hlt2 : (n : Int) < ps.length := by omega
      by_cases hk : ps[n] = k
      · have e1 : (ps[n] == k) = true := by simp [hk]
        have HY := hide (show ps.contains k = true by simp only [List.contains_iff_mem]; rw [← hk]; exact List.getElem_mem hlt)
        clear hp ht hk
        go_wp2
        go_ret
        rw [HY.out]; exact ⟨rfl, rfl⟩
      · have e1 : (ps[n] == k) = false := by simp [hk]
        have HT := hide ht
        have HK := hide hk
        clear hp ht hk
        go_wp2
        go_roundw
        case rel =>
          refine ⟨n + 1, by omega, by go_num, ?_, by first | rfl | trivial⟩
          have h1 := HD.out
          have hk := HK.out
          unfold Hid
          rw [HT.out, Bool.eq_false_iff, ne_eq, List.contains_iff_mem, List.mem_append, List.mem_singleton]
          rw [Bool.eq_false_iff, ne_eq, List.contains_iff_mem] at h1
          rintro (g | g)
          · exact h1 g
          · exact hk g.symm
        case measure => simp [intOf]; omega
    · have hN : n = ps.length := by omega
      have HN := hide (show ps.contains k = false by have := HD.out; rw [hN, List.take_length] at this; exact this)
      clear hp
      go_wp2
      go_ret
      rw [HN.out]; exact ⟨rfl, rfl⟩
set_option maxRecDepth 100000 in
set_option maxHeartbeats 1000000 in
/-- no lists have come out -/
theorem looks_none (wb : Nat) (w : World) (h2 : w.cell? ⟨wb, 2, none⟩ = some (.slice none 0 0)) (h3 : w.cell? ⟨wb, 3, none⟩ = some (.slice none 0 0)) :
    Calls Tryz.prog 26 #[.pointer (some ⟨wb, 2, none⟩)] w fun e w' => e = .returned (.bool true) ∧ w' = w := by
  go_enter Tryz.func26, Tryz.ntmps26
  go_wp2_with fail
  go_loopw [3] (fun i wr => i = .int .i64 0 ∧ wr = w) (fun _ _ => 0)
  case atStart => exact ⟨rfl, rfl⟩
  case round =>
    obtain ⟨rfl, rfl⟩ := hrel
    go_wp2_with fail
    go_loopw [6] (fun i wq => i = .int .i64 0 ∧ wq = wr) (fun _ _ => 0)
    case atStart => exact ⟨rfl, rfl⟩
    case round =>
      obtain ⟨rfl, rfl⟩ := hrel
      go_wp2_with fail
      go_ret
      exact ⟨rfl, rfl⟩
end Go.Proofs.YtbffidohmdgoaaaGreatDoor
