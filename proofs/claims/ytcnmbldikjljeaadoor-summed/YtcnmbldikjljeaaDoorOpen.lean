import Derived.Test.YtcnmbldikjljeaaDoorParse
namespace Go.Proofs.YtcnmbldikjljeaaDoor
open Go.RowKit

theorem hit_none {m : Int} {l : List (Int × Int)} (h : hitL m (l.take l.length) = false) : hitL m l = false := by rw [List.take_length] at h; exact h
theorem hit_step {m : Int} {l : List (Int × Int)} {k : Nat} (hk : k < l.length) (h : hitL m (l.take k) = false) (hn : ¬ (l[k].1 ≤ m ∧ m < l[k].2)) : hitL m (l.take (k + 1)) = false := by
  rw [List.take_succ_eq_append_getElem hk]
  simp only [hitL, List.any_append, Bool.or_eq_false_iff] at h ⊢
  refine ⟨h, ?_⟩
  simp only [List.any_cons, List.any_nil, Bool.or_false]
  by_cases a : l[k].1 ≤ m
  · have : ¬ m < l[k].2 := fun e => hn ⟨a, e⟩
    simp [this]
  · simp [a]
theorem hit_yes {m : Int} {l : List (Int × Int)} {k : Nat} (hk : k < l.length) (h1 : l[k].1 ≤ m) (h2 : m < l[k].2) : hitL m l = true := by
  simp only [hitL, List.any_eq_true]
  exact ⟨l[k], List.getElem_mem hk, by simp [h1, h2]⟩

set_option maxRecDepth 100000 in
set_option maxHeartbeats 400000 in
theorem open_bad (g : Nat) (t : Int) (w : World) (h : t < 0 ∨ 100800 ≤ t) :
    Calls Tryd.prog 9 #[.pointer (some ⟨g, 0, none⟩), .int .i64 t] w fun e w' => e = .returned (.tuple #[.bool false, .int .i64 1]) ∧ w' = w := by
  by_cases h0 : t < 0
  · clear h
    go_enter Tryd.func9, Tryd.ntmps9
    go_wp2
    go_ret2
    exact ⟨rfl, rfl⟩
  · have h1 : 100800 ≤ t := by omega
    clear h
    go_enter Tryd.func9, Tryd.ntmps9
    go_wp2
    go_ret2
    exact ⟨rfl, rfl⟩

/-- a calendar inside a block: from cell o on -/
structure CalO (w : World) (g o : Nat) (wk : Nat → List (Int × Int)) (fr : Nat → Bool) : Prop where
  lt : g < w.heap.size
  week : ∀ j, j < 7 → ∃ v, w.cell? ⟨g, o + j, none⟩ = some v ∧ w.ownsRow 0 48 2 v (wk j).length (flat (wk j))
  free : ∀ j, j < 70 → w.cell? ⟨g, o + 7 + j, none⟩ = some (.bool (fr j))
theorem CalM.off {w : World} {g : Nat} {wk : Nat → List (Int × Int)} {fr : Nat → Bool} (h : CalM w g wk fr) : CalO w g 0 wk fr :=
  ⟨h.lt, fun j hj => by rw [Nat.zero_add]; exact h.week j hj, fun j hj => by rw [Nat.zero_add]; exact h.free j hj⟩
theorem CalO.on {w w' : World} {g o : Nat} {wk : Nat → List (Int × Int)} {fr : Nat → Bool} (h : CalO w g o wk fr) (hb : Below w.heap.size w w') : CalO w' g o wk fr := by
  have hg : w.grownBy w' none := ⟨hb.os, hb.tape, hb.output, hb.size, fun k hk _ => hb.block k hk⟩
  refine ⟨Nat.lt_of_lt_of_le h.lt hb.size, fun j hj => ?_, fun j hj => ?_⟩
  · obtain ⟨v, h1, h2⟩ := h.week j hj
    exact ⟨v, (hb.cell (p := ⟨g, o + j, none⟩) h.lt).trans h1, h2.kept hg (by cases v.ownBlock <;> simp)⟩
  · exact (hb.cell (p := ⟨g, o + 7 + j, none⟩) h.lt).trans (h.free j hj)
set_option maxRecDepth 100000 in
set_option maxHeartbeats 1000000 in
/-- the spans of a day -/
theorem spansO_any (g o : Nat) (wk : Nat → List (Int × Int)) (fr : Nat → Bool) (d : Nat) (w0 w : World) (C : CalO w0 g o wk fr) (hb : Below w0.heap.size w0 w) (h1 : d < 70) :
    Calls Tryd.prog 17 #[.pointer (some ⟨g, o, none⟩), .int .i64 d] w fun e w' => w' = w ∧ ∃ v, e = .returned v ∧ w0.ownsRow 0 48 2 v (dayL wk fr d).length (flat (dayL wk fr d)) := by
  have cf := (hb.cell (p := ⟨g, o + 7 + d, none⟩) C.lt).trans (C.free d h1)
  obtain ⟨v, cv0, hown⟩ := C.week (d % 7) (by omega)
  have cv := (hb.cell (p := ⟨g, o + d % 7, none⟩) C.lt).trans cv0
  have d1 : (d : Int) < 70 := by omega
  have m0 : (0 : Int) ≤ (d : Int) % 7 := by omega
  have m1 : (d : Int) % 7 < 7 := by omega
  have m2 : ((d : Int) % 7).toNat = d % 7 := by omega
  cases hf : fr d
  · have hd : dayL wk fr d = wk (d % 7) := by unfold dayL; rw [hf]; rfl
    rw [hd]
    rw [hf] at cf
    have cv2 := cv
    rw [← m2] at cv2
    have m3 : d % 7 < 7 := by omega
    have m4 : ((d % 7 : Nat) : Int) < 7 := by omega
    have HO := hide hown
    clear hf hd hown C m2 cv0 hb
    go_enter Tryd.func17, Tryd.ntmps17
    go_wp2
    go_ret
    exact ⟨rfl, _, rfl, HO.out⟩
  · have hd : dayL wk fr d = [] := by unfold dayL; rw [hf]; rfl
    rw [hd]
    rw [hf] at cf
    clear hf hd hown C m2 cv0 hb
    go_enter Tryd.func17, Tryd.ntmps17
    go_wp2
    go_ret
    exact ⟨rfl, _, rfl, World.ownsRow_nil _ _ _ _⟩

theorem spansOf_any (g : Nat) (wk : Nat → List (Int × Int)) (fr : Nat → Bool) (d : Nat) (w0 w : World) (C : CalM w0 g wk fr) (hb : Below w0.heap.size w0 w) (h1 : d < 70) :
    Calls Tryd.prog 17 #[.pointer (some ⟨g, 0, none⟩), .int .i64 d] w fun e w' => w' = w ∧ ∃ v, e = .returned v ∧ w0.ownsRow 0 48 2 v (dayL wk fr d).length (flat (dayL wk fr d)) := spansO_any g 0 wk fr d w0 w C.off hb h1

set_option maxRecDepth 100000 in
set_option maxHeartbeats 1000000 in
theorem openM_any (g : Nat) (wk : Nat → List (Int × Int)) (fr : Nat → Bool) (t : Int) (w : World) (C : CalM w g wk fr) (h0 : 0 ≤ t) (h1 : t < 100800) (hl : ∀ j, j < 7 → (wk j).length ≤ 1000) :
    Calls Tryd.prog 9 #[.pointer (some ⟨g, 0, none⟩), .int .i64 t] w fun e w' => e = .returned (.tuple #[.bool (openL wk fr t), .int .i64 0]) ∧ Below w.heap.size w w' := by
  obtain ⟨d, hd⟩ : ∃ d : Nat, t / 1440 = d := ⟨(t / 1440).toNat, by omega⟩
  have hd70 : d < 70 := by omega
  have HS := hide (spansOf_any g wk fr d w w C (Below.refl _ _) hd70)
  have ho : openL wk fr t = hitL (t % 1440) (dayL wk fr d) := by
    unfold openL dayL
    rw [hd, show ((d : Int) % 7).toNat = d % 7 by omega, Int.toNat_natCast]
    cases fr d <;> simp [hitL]
  have hn : (dayL wk fr d).length ≤ 1000 := by
    unfold dayL; split
    · simp
    · exact hl _ (by omega)
  have HO := hide ho
  clear ho C hl
  generalize dayL wk fr d = l at *
  go_enter Tryd.func9, Tryd.ntmps9
  go_wp2_with fail
  rw [hd]
  refine HS.out.mono ?_
  rintro e w1 ⟨rfl, v, rfl, hown⟩
  rcases hown.2 with ⟨rfl, hz⟩ | ⟨g2, cap, cur, rfl, _, hg2, _⟩
  · have hz2 : hitL (t % 1440) l = false := by rw [List.length_eq_zero_iff] at hz; subst hz; rfl
    have HZ := hide hz2
    clear hz2
    go_wp2_with fail
    go_loopw [22] (fun i wr => i = .int .i64 0 ∧ wr = w1) (fun _ _ => 0)
    case atStart => exact ⟨rfl, rfl⟩
    case round =>
      obtain ⟨rfl, rfl⟩ := hrel
      go_wp2
      go_ret2
      rw [HO.out, HZ.out]
      exact ⟨rfl, Below.refl _ _⟩
  · have hg2s : g2 < w1.heap.size := (Array.getElem?_eq_some_iff.1 hg2).1
    go_wp2_with fail
    go_loopw [22] (fun i wr => ∃ k : Nat, k ≤ l.length ∧ i = .int .i64 k ∧ Below w1.heap.size w1 wr ∧ Hid (hitL (t % 1440) (l.take k) = false)) (fun i _ => l.length - (intOf i).toNat)
    case atStart => exact ⟨0, Nat.zero_le _, rfl, Below.refl _ _, rfl⟩
    case round =>
      obtain ⟨k, hk, rfl, hb, HH⟩ := hrel
      have hsz := hb.size
      by_cases hlt : k < l.length
      · have hc := flat_at l k hlt
        have e0 : wr.cell? ⟨g2, k * 2, none⟩ = some (.int .i64 l[k].1) := (hb.cell (p := ⟨g2, k * 2, none⟩) hg2s).trans ((hown.cellAt (k * 2) (by omega)).trans hc.1)
        have e1 : wr.cell? ⟨g2, k * 2 + 1, none⟩ = some (.int .i64 l[k].2) := (hb.cell (p := ⟨g2, k * 2 + 1, none⟩) hg2s).trans ((hown.cellAt (k * 2 + 1) (by omega)).trans hc.2)
        have hlt' : (k : Int) < l.length := by omega
        have hg2r : g2 < wr.heap.size := by omega
        clear hc hown
        by_cases a : l[k].1 ≤ t % 1440
        · by_cases a2 : t % 1440 < l[k].2
          · have HY := hide (hit_yes hlt a a2)
            go_wp2
            go_ret2
            rw [HO.out, HY.out]
            exact ⟨rfl, hb.alloc hsz _⟩
          · go_wp2
            go_roundw
            case rel => exact ⟨k + 1, by omega, by go_num, hb.alloc hsz _, hit_step hlt HH.out (fun e => a2 e.2)⟩
            case measure => simp [intOf]; omega
        · have a' : t % 1440 < l[k].1 := by omega
          go_wp2
          go_roundw
          case rel => exact ⟨k + 1, by omega, by go_num, hb.alloc hsz _, hit_step hlt HH.out (fun e => a e.1)⟩
          case measure => simp [intOf]; omega
      · have hke : k = l.length := by omega
        have HK := hide hke
        clear hke
        go_wp2
        go_ret2
        have hH := HH.out
        rw [HK.out] at hH
        rw [HO.out, hit_none hH]
        exact ⟨rfl, hb⟩
theorem open_any (g : Nat) (raw : Nat → List (Int × Int)) (fr : Nat → Bool) (t : Int) (w : World) (C : CalW w g raw fr) (h0 : 0 ≤ t) (h1 : t < 100800) (hl : ∀ j, (raw j).length ≤ 1000) :
    Calls Tryd.prog 9 #[.pointer (some ⟨g, 0, none⟩), .int .i64 t] w fun e w' => e = .returned (.tuple #[.bool (openL raw fr t), .int .i64 0]) ∧ Below w.heap.size w w' := by
  obtain ⟨wk, M, hJ⟩ := C
  rw [← open_join hJ fr t h0]
  exact openM_any g wk fr t w M h0 h1 (fun j hj => Nat.le_trans (hJ j hj).2.2 (hl j))
end Go.Proofs.YtcnmbldikjljeaaDoor
