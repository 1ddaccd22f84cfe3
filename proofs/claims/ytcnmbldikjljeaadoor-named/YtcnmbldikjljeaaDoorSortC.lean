import Derived.Shelf.SlSortCmp.NoneTotal
import Derived.Test.YtcnmbldikjljeaaDoorLay
import Derived.Test.YtcnmbldikjljeaaDoorJoinW
import Derived.Lib.Small
namespace Go.Proofs.YtcnmbldikjljeaaDoor
open Go.Shelf Go.RowKit Go.Lib Go.Sort

set_option maxHeartbeats 1000000 in
theorem isNaN_any (x : Int) (w : World) : Calls Tryd.prog 45 #[.int .i64 x] w fun e w' => e = .returned (.bool false) ∧ w' = w := by
  go_enter Tryd.func45, Tryd.ntmps45
  go_wp2
  go_ret
  exact ⟨by simp, rfl⟩
set_option maxHeartbeats 1000000 in
theorem compare_any (x y : Int) (w : World) : Calls Tryd.prog 38 #[.int .i64 x, .int .i64 y] w fun e w' => e = .returned (.int .i64 (Lib.compareInt x y)) ∧ w' = w := by
  by_cases h1 : x < y
  · have HR : Hid (Lib.compareInt x y = -1) := by unfold Lib.compareInt; exact if_pos h1
    go_enter Tryd.func38, Tryd.ntmps38
    go_wp2_with fail
    refine (isNaN_any _ _).mono ?_
    rintro e w' ⟨rfl, rfl⟩
    go_wp2_with fail
    refine (isNaN_any _ _).mono ?_
    rintro e w2 ⟨rfl, rfl⟩
    go_wp2_with fail
    go_ret
    exact ⟨by rw [HR.out]; rfl, rfl⟩
  · by_cases h2 : y < x
    · have HR : Hid (Lib.compareInt x y = 1) := by unfold Lib.compareInt; exact (if_neg h1).trans (if_pos h2)
      go_enter Tryd.func38, Tryd.ntmps38
      go_wp2_with fail
      refine (isNaN_any _ _).mono ?_
      rintro e w' ⟨rfl, rfl⟩
      go_wp2_with fail
      refine (isNaN_any _ _).mono ?_
      rintro e w2 ⟨rfl, rfl⟩
      go_wp2_with fail
      go_ret
      exact ⟨by rw [HR.out]; rfl, rfl⟩
    · have HR : Hid (Lib.compareInt x y = 0) := by unfold Lib.compareInt; exact (if_neg h1).trans (if_neg h2)
      go_enter Tryd.func38, Tryd.ntmps38
      go_wp2_with fail
      refine (isNaN_any _ _).mono ?_
      rintro e w' ⟨rfl, rfl⟩
      go_wp2_with fail
      refine (isNaN_any _ _).mono ?_
      rintro e w2 ⟨rfl, rfl⟩
      go_wp2_with fail
      go_ret
      exact ⟨by rw [HR.out]; rfl, rfl⟩
def cfP (x y : Int × Int) : Int := Lib.compareInt x.1 y.1
theorem ltP (x y : Int × Int) : ltOf cfP x y = decide (x.1 < y.1) := by
  unfold ltOf cfP Lib.compareInt
  by_cases h1 : x.1 < y.1
  · simp [h1]
  · by_cases h2 : y.1 < x.1 <;> simp [h1, h2]
theorem swoP : SWO (ltOf cfP) where
  irrefl x := by rw [ltP]; simp
  trans x y z h1 h2 := by rw [ltP] at *; simp at *; omega
  ntrans x y z h1 h2 := by rw [ltP] at *; simp at *; omega
set_option maxHeartbeats 1000000 in
/-- the comparison that join hands over -/
theorem closure_any (x y : Int × Int) (W : World) : Calls Tryd.prog 37 #[.agg #[.int .i64 x.1, .int .i64 x.2], .agg #[.int .i64 y.1, .int .i64 y.2]] W fun e w' => e = .returned (.int .i64 (cfP x y)) ∧ ∃ q os', w' = grow (W.drewN q) os' := by
  have hcon := fun W' => compare_any x.1 y.1 W'
  unfold cfP
  generalize Lib.compareInt x.1 y.1 = r at hcon ⊢
  go_enter Tryd.func37, Tryd.ntmps37
  go_wp2_with (go_at_call 38; refine (hcon _).mono ?_; rintro e w' ⟨rfl, rfl⟩)
  go_ret
  exact ⟨rfl, 0, _, by rw [alloc_eq_grow, alloc_eq_grow, grow_grow]; rfl⟩
theorem cmpLays (blk off size : Nat) (w : World) : CmpLays Tryd.prog 37 #[] encP 2 cfP blk off size w := fun _ _ _ _ x y => closure_any x y _
theorem sorted_list {d : Array (Int × Int)} {n : Nat} (hn : d.size = n) (h : SortedIn (ltOf cfP) 0 n d) : d.toList.Pairwise fun p q => p.1 ≤ q.1 := by
  rw [List.pairwise_iff_getElem]
  intro i j hi hj hij
  have hi' : i < d.size := by simpa using hi
  have hj' : j < d.size := by simpa using hj
  have := h i j (Nat.zero_le _) hij (by omega)
  rw [ltP, getElem!_pos d i hi', getElem!_pos d j hj'] at this
  simp at this ⊢
  exact this
set_option maxHeartbeats 1000000 in
theorem sort_any {base : Nat} {v : Value} {l : List (Int × Int)} {w : World} (hown : w.ownsRow base 48 2 v l.length (flat l)) (hl : l.length ≤ 1000) : SortsTo base v l w := by
  unfold SortsTo
  rcases hown.2 with ⟨rfl, hz⟩ | ⟨g, cap, cur, rfl, hg, hb, h1, h2, h3, h4⟩
  · have hz2 : l = [] := List.length_eq_zero_iff.1 hz
    subst hz2
    have hS := AnyF.slices_SortFunc_none (P := Tryd.prog) (ρ := sortSpan_ren) sortSpan none 0 (.func (.func 37) #[] #[]) w
    refine Calls.mono (show Calls Tryd.prog 36 _ _ _ from hS) ?_
    rintro e w' ⟨rfl, rfl⟩
    exact ⟨rfl, [], .refl _, .nil, ⟨rfl, rfl, rfl, Nat.le_refl _, fun _ _ _ => rfl⟩, hown⟩
  · have eg : ∀ args w, (callFunc 37 args).run Tryd.prog w = .ok (.enter 37 args) w := enters_of Tryd.func37 (by kernel_rfl) rfl
    have hblk : g < w.heap.size := (Array.getElem?_eq_some_iff.1 hb).1
    have hS := AnyQ.slices_SortFunc sortSpan 2 Tryd.isAgg48 Tryd.sizeOf48 encP (fun _ => rfl) (fun x v hv => by simp [encP] at hv; rcases hv with rfl | rfl <;> rfl) cfP swoP 37 #[] g 0 cap l.toArray w eg (cmpLays g 0 l.toArray.size w) (holds_flat hb h4) hblk (by simp; omega)
    refine Calls.mono (show Calls Tryd.prog 36 #[.slice (some ⟨g, 0, none⟩) l.length cap, _] _ _ from hS) ?_
    rintro e w' ⟨rfl, d, n, os, hp, hs, rfl⟩
    have hsz : d.size = l.length := by rw [hp.1]; simp
    refine ⟨rfl, d.toList, perm_list hp, sorted_list (by rw [hp.1]) hs, ?_, ?_⟩
    · exact grownBy_sortK d
    · have := ownsRow_sortK (os := os) (n := n) (ts := d.toList) (ss := l) (by simp [hsz]) hg hb h1 h2 h3
      simpa using this
end Go.Proofs.YtcnmbldikjljeaaDoor
