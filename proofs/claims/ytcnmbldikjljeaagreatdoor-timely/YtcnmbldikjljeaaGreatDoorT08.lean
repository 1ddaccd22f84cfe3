import Derived.Shelf.SlSortCmp.NoneTotal
import Derived.Test.YtcnmbldikjljeaaGreatDoorT07
import Derived.Lib.Small
import Derived.Deep.RegionHeld3
import Derived.Below
import Derived.Laws.AppendOwn
namespace Go.Proofs.YtcnmbldikjljeaaGreatDoor
open Go.Shelf Go.RowKit Go.Lib Go.Sort

set_option maxHeartbeats 1000000 in
theorem isNaN_any (x : Int) (w : World) : Calls Tryz.prog 129 #[.int .i64 x] w fun e w' => e = .returned (.bool false) ∧ w' = w := by
  go_enter Tryz.func129, Tryz.ntmps129
  go_wp2
  go_ret
  exact ⟨by simp, rfl⟩
set_option maxHeartbeats 1000000 in
theorem compare_any (x y : Int) (w : World) : Calls Tryz.prog 81 #[.int .i64 x, .int .i64 y] w fun e w' => e = .returned (.int .i64 (Lib.compareInt x y)) ∧ w' = w := by
  by_cases h1 : x < y
  · have HR : Hid (Lib.compareInt x y = -1) := by unfold Lib.compareInt; exact if_pos h1
    go_enter Tryz.func81, Tryz.ntmps81
    go_wp2_with fail
    refine (isNaN_any _ _).mono ?_
    rintro e w' ⟨rfl, rfl⟩
    go_wp2_with fail
    refine (isNaN_any _ _).mono ?_
    rintro e w2 ⟨rfl, rfl⟩
    go_wp2_with fail
    go_ret
    exact ⟨by rw [HR.out]; rfl, rfl⟩
  · by_cases h2 : y < x
    · have HR : Hid (Lib.compareInt x y = 1) := by unfold Lib.compareInt; exact (if_neg h1).trans (if_pos h2)
      go_enter Tryz.func81, Tryz.ntmps81
      go_wp2_with fail
      refine (isNaN_any _ _).mono ?_
      rintro e w' ⟨rfl, rfl⟩
      go_wp2_with fail
      refine (isNaN_any _ _).mono ?_
      rintro e w2 ⟨rfl, rfl⟩
      go_wp2_with fail
      go_ret
      exact ⟨by rw [HR.out]; rfl, rfl⟩
    · have HR : Hid (Lib.compareInt x y = 0) := by unfold Lib.compareInt; exact (if_neg h1).trans (if_neg h2)
      go_enter Tryz.func81, Tryz.ntmps81
      go_wp2_with fail
      refine (isNaN_any _ _).mono ?_
      rintro e w' ⟨rfl, rfl⟩
      go_wp2_with fail
      refine (isNaN_any _ _).mono ?_
      rintro e w2 ⟨rfl, rfl⟩
      go_wp2_with fail
      go_ret
      exact ⟨by rw [HR.out]; rfl, rfl⟩
def cfP (x y : Int × Int) : Int := Lib.compareInt x.1 y.1
theorem ltP (x y : Int × Int) : ltOf cfP x y = decide (x.1 < y.1) := by
  unfold ltOf cfP Lib.compareInt
  by_cases h1 : x.1 < y.1
  · simp [h1]
  · by_cases h2 : y.1 < x.1 <;> simp [h1, h2]
theorem swoP : SWO (ltOf cfP) where
  irrefl x := by rw [ltP]; simp
  trans x y z h1 h2 := by rw [ltP] at *; simp at *; omega
  ntrans x y z h1 h2 := by rw [ltP] at *; simp at *; omega
set_option maxHeartbeats 1000000 in
/-- the comparison that join hands over -/
theorem closure_any (x y : Int × Int) (W : World) : Calls Tryz.prog 155 #[.agg #[.int .i64 x.1, .int .i64 x.2], .agg #[.int .i64 y.1, .int .i64 y.2]] W fun e w' => e = .returned (.int .i64 (cfP x y)) ∧ ∃ q os', w' = grow (W.drewN q) os' := by
  have hcon := fun W' => compare_any x.1 y.1 W'
  unfold cfP
  generalize Lib.compareInt x.1 y.1 = r at hcon ⊢
  go_enter Tryz.func155, Tryz.ntmps155
  go_wp2_with (go_at_call 81; refine (hcon _).mono ?_; rintro e w' ⟨rfl, rfl⟩)
  go_ret
  exact ⟨rfl, 0, _, by rw [alloc_eq_grow, alloc_eq_grow, grow_grow]; rfl⟩
theorem cmpLays (blk off size : Nat) (w : World) : CmpLays Tryz.prog 155 #[] encP 2 cfP blk off size w := fun _ _ _ _ x y => closure_any x y _
theorem sorted_list {d : Array (Int × Int)} {n : Nat} (hn : d.size = n) (h : SortedIn (ltOf cfP) 0 n d) : d.toList.Pairwise fun p q => p.1 ≤ q.1 := by
  rw [List.pairwise_iff_getElem]
  intro i j hi hj hij
  have hi' : i < d.size := by simpa using hi
  have hj' : j < d.size := by simpa using hj
  have := h i j (Nat.zero_le _) hij (by omega)
  rw [ltP, getElem!_pos d i hi', getElem!_pos d j hj'] at this
  simp at this ⊢
  exact this
set_option maxHeartbeats 1000000 in
theorem sort_any {base : Nat} {v : Value} {l : List (Int × Int)} {w : World} (hown : w.ownsRow base 140 2 v l.length (flat l)) (hl : l.length ≤ 1000) : SortsTo base v l w := by
  unfold SortsTo
  rcases hown.2 with ⟨rfl, hz⟩ | ⟨g, cap, cur, rfl, hg, hb, h1, h2, h3, h4⟩
  · have hz2 : l = [] := List.length_eq_zero_iff.1 hz
    subst hz2
    have hS := AnyF.slices_SortFunc_none (P := Tryz.prog) (ρ := sortSpan_ren) sortSpan none 0 (.func (.func 155) #[] #[]) w
    refine Calls.mono (show Calls Tryz.prog 154 _ _ _ from hS) ?_
    rintro e w' ⟨rfl, rfl⟩
    exact ⟨rfl, [], .refl _, .nil, ⟨rfl, rfl, rfl, Nat.le_refl _, fun _ _ _ => rfl⟩, hown⟩
  · have eg : ∀ args w, (callFunc 155 args).run Tryz.prog w = .ok (.enter 155 args) w := enters_of Tryz.func155 (by kernel_rfl) rfl
    have hblk : g < w.heap.size := (Array.getElem?_eq_some_iff.1 hb).1
    have hS := AnyQ.slices_SortFunc sortSpan 2 Tryz.isAgg140 Tryz.sizeOf140 encP (fun _ => rfl) (fun x v hv => by simp [encP] at hv; rcases hv with rfl | rfl <;> rfl) cfP swoP 155 #[] g 0 cap l.toArray w eg (cmpLays g 0 l.toArray.size w) (holds_flat hb h4) hblk (by simp; omega)
    refine Calls.mono (show Calls Tryz.prog 154 #[.slice (some ⟨g, 0, none⟩) l.length cap, _] _ _ from hS) ?_
    rintro e w' ⟨rfl, d, n, os, hp, hs, rfl⟩
    have hsz : d.size = l.length := by rw [hp.1]; simp
    refine ⟨rfl, d.toList, perm_list hp, sorted_list (by rw [hp.1]) hs, ?_, ?_⟩
    · exact grownBy_sortK d
    · have := ownsRow_sortK (os := os) (n := n) (ts := d.toList) (ss := l) (by simp [hsz]) hg hb h1 h2 h3
      simpa using this
end Go.Proofs.YtcnmbldikjljeaaGreatDoor
namespace Go.Proofs.YtcnmbldikjljeaaGreatDoor
open Go.RowKit

/-- a calendar whose rows lie behind its block -/
def CalF (w : World) (g : Nat) (raw : Nat → List (Int × Int)) (fr : Nat → Bool) : Prop := ∃ wk, CalM w g wk fr ∧ (∀ j, j < 7 → JoinOf (raw j) (wk j)) ∧ ∀ j, j < 7 → ∀ v, w.cell? ⟨g, j, none⟩ = some v → ∀ k, v.ownBlock = some k → g < k
theorem CalF.calW {w : World} {g : Nat} {raw : Nat → List (Int × Int)} {fr : Nat → Bool} (h : CalF w g raw fr) : CalW w g raw fr := by
  obtain ⟨wk, h1, h2, _⟩ := h
  exact ⟨wk, h1, h2⟩
theorem PJ.calF {B b g : Nat} {w0 w : World} {s : RS} {vs us : Nat → Value} {A : Nat → List (Int × Int)} (h : PJ B b g w0 w s vs us A 7) : CalF w g s.week s.free := by
  obtain ⟨wk, h1, h2⟩ := h.cal
  refine ⟨wk, h1, h2, fun j hj v hv k hk => ?_⟩
  rw [h.week j hj, if_pos hj] at hv
  cases hv
  have := ((h.new j hj).1.lt k hk).1
  omega
def PPostF (s : ByteArray) (w : World) (e : Ending) (w' : World) : Prop :=
  Below w.heap.size w w' ∧
  (((parseL s).1 = true ∧ ∃ g, w.heap.size ≤ g ∧ e = .returned (.tuple #[P0 g, .int .i64 0, .int .i64 0]) ∧ CalF w' g (parseL s).2.week (parseL s).2.free) ∨
   ((parseL s).1 = false ∧ e = .returned (.tuple #[.pointer none, .int .i64 2, .int .i64 (parseL s).2.place])))
/-- what Parse answers, and leaves -/
def PPost (s : ByteArray) (w : World) (e : Ending) (w' : World) : Prop :=
  Below w.heap.size w w' ∧
  (((parseL s).1 = true ∧ ∃ g, w.heap.size ≤ g ∧ e = .returned (.tuple #[P0 g, .int .i64 0, .int .i64 0]) ∧ CalW w' g (parseL s).2.week (parseL s).2.free) ∨
   ((parseL s).1 = false ∧ e = .returned (.tuple #[.pointer none, .int .i64 2, .int .i64 (parseL s).2.place])))

theorem frees_len (f : Nat → Bool) : (frees f).length = 70 := by simp [frees]
theorem freeInfo : (Tryz.prog.info? 103).map (·.size) = some 70 := by kernel_rfl

def calCells (f : Nat → Bool) : List Value := (List.range 77).map fun j => if j < 7 then .slice none 0 0 else .bool (f (j - 7))
theorem cal_fold (f : Nat → Bool) : List.foldl (fun cs x => cs.setIfInBounds (7 + x.2) x.1) Tryz.zeroCells105 (frees f).zipIdx = (calCells f).toArray := by kernel_rfl
theorem wx0 (a b c d e f g : Value) (w : World) : (Instr.index 102 (.agg #[a, b, c, d, e, f, g]) (.int .i64 0)).run Tryz.prog w = .ok a w := by kernel_rfl
theorem wx1 (a b c d e f g : Value) (w : World) : (Instr.index 102 (.agg #[a, b, c, d, e, f, g]) (.int .i64 1)).run Tryz.prog w = .ok b w := by kernel_rfl
theorem wx2 (a b c d e f g : Value) (w : World) : (Instr.index 102 (.agg #[a, b, c, d, e, f, g]) (.int .i64 2)).run Tryz.prog w = .ok c w := by kernel_rfl
theorem wx3 (a b c d e f g : Value) (w : World) : (Instr.index 102 (.agg #[a, b, c, d, e, f, g]) (.int .i64 3)).run Tryz.prog w = .ok d w := by kernel_rfl
theorem wx4 (a b c d e f g : Value) (w : World) : (Instr.index 102 (.agg #[a, b, c, d, e, f, g]) (.int .i64 4)).run Tryz.prog w = .ok e w := by kernel_rfl
theorem wx5 (a b c d e f g : Value) (w : World) : (Instr.index 102 (.agg #[a, b, c, d, e, f, g]) (.int .i64 5)).run Tryz.prog w = .ok f w := by kernel_rfl
theorem wx6 (a b c d e f g : Value) (w : World) : (Instr.index 102 (.agg #[a, b, c, d, e, f, g]) (.int .i64 6)).run Tryz.prog w = .ok g w := by kernel_rfl
theorem wx (v : Nat → Value) (k : Nat) (hk : k < 7) (w : World) : (Instr.index 102 (.agg #[v 0, v 1, v 2, v 3, v 4, v 5, v 6]) (.int .i64 k)).run Tryz.prog w = .ok (v k) w := by
  match k, hk with
  | 0, _ => exact wx0 _ _ _ _ _ _ _ w
  | 1, _ => exact wx1 _ _ _ _ _ _ _ w
  | 2, _ => exact wx2 _ _ _ _ _ _ _ w
  | 3, _ => exact wx3 _ _ _ _ _ _ _ w
  | 4, _ => exact wx4 _ _ _ _ _ _ _ w
  | 5, _ => exact wx5 _ _ _ _ _ _ _ w
  | 6, _ => exact wx6 _ _ _ _ _ _ _ w
theorem calCells_at (f : Nat → Bool) (j : Nat) (hj : j < 77) : (calCells f).toArray[j]? = some (if j < 7 then .slice none 0 0 else .bool (f (j - 7))) := by
  simp [calCells, hj]
set_option maxRecDepth 100000 in
set_option maxHeartbeats 4000000 in
theorem parseF_any (s : ByteArray) (w : World) (h0 : 0 < w.heap.size) (hnm : ∀ j, j < 7 → w.cell? ⟨0, j, none⟩ = some (nmV j)) (hs : s.size ≤ 200) :
    Calls Tryz.prog 63 #[.string s] w fun e w' => PPostF s w e w' := by
  have HNM := hide hnm
  clear hnm
  go_enter Tryz.func63, Tryz.ntmps63
  go_wp2_with fail
  refine (newReader_any _).mono ?_
  rintro e w1 ⟨rfl, cs, rfl, hcs⟩
  have RS0 := RW.start w s cs h0 HNM.out hcs
  clear hcs
  go_wp2_with fail
  obtain ⟨b, hb⟩ : ∃ b, b = w.heap.size := ⟨_, rfl⟩
  have Hb := hide hb
  rw [← hb] at RS0 ⊢
  clear hb
  go_loopw [7] (fun _ wr => ∃ (pos fuel n : Nat) (st : RS) (vk : Nat → Value), RW (.stringIter s pos) b b w wr st vk ∧ Inv n st ∧ n ≤ pos ∧ n ≤ s.size ∧ 0 ≤ st.place ∧ st.place ≤ n ∧ Hid (loopL (runes s fuel pos) st = parseL s) ∧ s.size ≤ pos + fuel) (fun _ wr => s.size - wr.iterPos (b + 1))
  case atStart => exact ⟨0, s.size, 0, rs0, nilVs, RS0, inv0, by omega, by omega, by simp [rs0], by simp [rs0], rfl, by omega⟩
  case round =>
    obtain ⟨pos, fuel, n, st, vk, R, hI, hn, hns, hp0, hp1, HS, hf⟩ := hrel
    have hpos0 := iterPos_of R.iter
    by_cases hp : pos < s.size
    · have hnx : ∀ ty, (Instr.next (.pointer (some ⟨b + 1, 0, none⟩)) true ty).run Tryz.prog wr = _ := fun ty => Lib.run_next_any_at wr (b + 1) s pos ty R.iter hp
      have hwd := width_pos s pos hp
      obtain ⟨fuel, rfl⟩ : ∃ f', fuel = f' + 1 := ⟨fuel - 1, by omega⟩
      have R2 := R.iterAt (pos + (Utf8.decode s pos).2)
      obtain ⟨W1, hW1⟩ : ∃ W1, W1 = wr.iterAt (b + 1) s (pos + (Utf8.decode s pos).2) := ⟨_, rfl⟩
      rw [← hW1] at hnx R2
      clear hW1
      cases hr : (takeL st ((Utf8.decode s pos).1 : Int)).1
      · have HN := hide (loop_no hp HS.out hr)
        have HR := hide hr
        clear hr
        go_wp2_with fail
        refine (take_any R2 hI (by omega) _ hp0 (by omega)).mono ?_
        rw [HR.out]
        rintro e w' ⟨rfl, vk', R3⟩
        have g1 := R3.c1
        go_wp2_with fail
        go_quiet (fail)
        go_wp2
        go_ret3
        refine ⟨?_, .inr ⟨by rw [← HN.out]; exact HR.out, ?_⟩⟩
        · rw [← Hb.out]; exact (R3.drewN _).below
        · rw [← HN.out]; rfl
      · have HN := hide (loop_yes hp HS.out hr)
        have hI2 := inv_take hI _ hr
        have hpl := hide (place_take hI _ hr)
        have HR := hide hr
        clear hr
        go_wp2_with fail
        refine (take_any R2 hI (by omega) _ hp0 (by omega)).mono ?_
        rw [HR.out]
        rintro e w' ⟨rfl, vk', R3⟩
        generalize takeL st ((Utf8.decode s pos).1 : Int) = q at *
        have hq0 : 0 ≤ q.2.place := by rw [hpl.out]; omega
        have hq1 : q.2.place ≤ n := by rw [hpl.out]; omega
        have g1 := R3.c1
        have f1 := R3.frz 1
        go_wp2_with fail
        go_roundw
        case rel => exact ⟨_, fuel, n + 1, _, vk', R3.setPlace _, inv_place hI2 _, by omega, by omega, by simp; omega, by simp; omega, HN, by omega⟩
        case measure =>
          rw [iterPos_of (R3.setPlace _).iter, hpos0]; omega
    · have hnx : ∀ ty, (Instr.next (.pointer (some ⟨b + 1, 0, none⟩)) true ty).run Tryz.prog wr = _ := fun ty => Lib.run_next_end_at wr (b + 1) s pos ty R.iter hp
      have HN := hide (loop_end hp HS.out)
      cases hr : (finishL st).1
      · have HR := hide hr
        clear hr
        go_wp2_with fail
        refine (finish_any R hI hp0 (by omega)).mono ?_
        rw [HR.out]
        rintro e w' ⟨rfl, R3⟩
        have g1 := R3.c1
        go_wp2_with fail
        go_quiet (fail)
        go_wp2
        go_ret3
        refine ⟨?_, .inr ⟨by rw [← HN.out]; exact HR.out, ?_⟩⟩
        · rw [← Hb.out]; exact (R3.drewN _).below
        · rw [← HN.out]; rfl
      · have HR := hide hr
        clear hr
        go_wp2_with fail
        refine (finish_any R hI hp0 (by omega)).mono ?_
        rw [HR.out]
        rintro e w' ⟨rfl, R3⟩
        have hIq := inv_finish hI
        generalize finishL st = q at *
        have d0 := R3.cw 0 (by omega)
        have d1 := R3.cw 1 (by omega)
        have d2 := R3.cw 2 (by omega)
        have d3 := R3.cw 3 (by omega)
        have d4 := R3.cw 4 (by omega)
        have d5 := R3.cw 5 (by omega)
        have d6 := R3.cw 6 (by omega)
        simp only [Nat.reduceAdd] at d0 d1 d2 d3 d4 d5 d6
        have hfr : w'.rangeAt b 21 (frees q.2.free) := by
          intro j v hv
          have hj : j < 70 := by
            have := (List.getElem?_eq_some_iff.1 hv).1; rw [frees_len] at this; exact this
          have hv2 : v = .bool (q.2.free j) := by
            simp [frees, hj] at hv; exact hv.symm
          rw [hv2]; exact R3.cf j hj
        have hu := Tryz.underlying103
        have hi : (Tryz.prog.info? 103).map (·.size) = some (frees q.2.free).length := by rw [frees_len]; exact freeInfo
        have hl := frees_len q.2.free
        have h1 : ∀ v ∈ frees q.2.free, v.oneCell' = true := by intro v hv; simp [frees] at hv; obtain ⟨_, _, rfl⟩ := hv; rfl
        have M := R3.made (calCells q.2.free).toArray (calCells_at q.2.free)
        have R5 := R3.alloc (.cells (calCells q.2.free).toArray 105)
        have HM := hide (And.intro M R5)
        have hszw : w'.heap.size < (w'.alloc (.cells (calCells q.2.free).toArray 105)).heap.size := by simp
        clear M R5
        generalize hF : frees q.2.free = F at *
        have HF := hide hF
        clear hF
        go_upto_region 13 with (first | (refine wpList_load_mid rfl 103 _ rfl b 21 rfl F _ hfr hu rfl hi ?_) | fail)
        clear hu hi hl h1 hfr d0 d1 d2 d3 d4 d5 d6
        rw [← HF.out, cal_fold]
        generalize (w'.alloc (.cells (calCells q.2.free).toArray 105)) = W2 at *
        have d0 := HM.out.2.cw 0 (by omega)
        have d1 := HM.out.2.cw 1 (by omega)
        have d2 := HM.out.2.cw 2 (by omega)
        have d3 := HM.out.2.cw 3 (by omega)
        have d4 := HM.out.2.cw 4 (by omega)
        have d5 := HM.out.2.cw 5 (by omega)
        have d6 := HM.out.2.cw 6 (by omega)
        simp only [Nat.reduceAdd] at d0 d1 d2 d3 d4 d5 d6
        have HGD := hide (fun j => And.intro (show (q.2.week j).length ≤ 1000 by have := hIq.wk j; omega) (hIq.sp j))
        have HM0 := hide HM.out.1
        clear hIq
        go_wp2_with fail
        clear d0 d1 d2 d3 d4 d5 d6 HM
        go_loopw [52] (fun i wz => ∃ (k : Nat) (us : Nat → Value) (A : Nat → List (Int × Int)), k ≤ 7 ∧ i = .int .i64 k ∧ PJ b b w'.heap.size w wz q.2 vk us A k) (fun i _ => 7 - (intOf i).toNat)
        case atStart => exact ⟨0, _, _, by omega, rfl, HM0.out⟩
        case round =>
          obtain ⟨k, us, A, hk, rfl, M⟩ := hrel
          by_cases hk7 : k < 7
          · have hix := wx vk k hk7
            have hk' : (k : Int) < 7 := by omega
            have HJ := hide (fun (wz : World) (M : PJ b b w'.heap.size w wz q.2 vk us A k) => join_any (b + 2) (vk k) (q.2.week k) wz (sort_any (M.own k (Nat.le_refl _) hk7) (HGD.out k).1) (HGD.out k).2 (HGD.out k).1)
            go_wp2_with fail
            go_region_with (go_at_call 104; refine (HJ.out _ (by first | exact M | exact M.on (Below.refl _ _).drew | exact M.on (below_drewN (Below.refl _ _) _))).mono ?_; rintro e w1 ⟨v', l, rfl, hgr, hown, hJ⟩; obtain ⟨sa, sl, sc, rfl⟩ := ownsRow_form hown; obtain ⟨hc1, hf1⟩ := PJ.room (w1 := w1) (by first | exact M | exact M.on (Below.refl _ _).drew | exact M.on (below_drewN (Below.refl _ _) _)) hk7 hgr)
            all_goals
              have HM2 := hide (PJ.step (by first | exact M | exact M.on (Below.refl _ _).drew | exact M.on (below_drewN (Below.refl _ _) _)) hk7 hgr hown hJ)
              clear hgr hown hJ hc1 hf1
              go_wp2
              go_roundw
              case rel => exact ⟨k + 1, _, _, by omega, by go_num, HM2.out⟩
              case measure => simp [intOf]; omega
          · have hke : k = 7 := by omega
            subst hke
            go_wp2
            go_ret3
            refine ⟨?_, .inl ⟨by rw [← HN.out]; exact HR.out, w'.heap.size, ?_, rfl, ?_⟩⟩
            · rw [← Hb.out]; exact M.below
            · have := R3.hb; rw [← Hb.out]; omega
            · rw [← HN.out]; exact M.calF

set_option maxRecDepth 100000 in
set_option maxHeartbeats 400000 in
theorem parse_long (s : ByteArray) (w : World) (hs : 200 < s.size) (hm : s.size ≤ 9223372036854775807) :
    Calls Tryz.prog 63 #[.string s] w fun e w' => e = .returned (.tuple #[.pointer none, .int .i64 2, .int .i64 0]) ∧ w' = w := by
  go_enter Tryz.func63, Tryz.ntmps63
  go_wp2
  go_ret3
  exact ⟨rfl, rfl⟩
theorem parse_any (s : ByteArray) (w : World) (h0 : 0 < w.heap.size) (hnm : ∀ j, j < 7 → w.cell? ⟨0, j, none⟩ = some (nmV j)) (hs : s.size ≤ 200) :
    Calls Tryz.prog 63 #[.string s] w fun e w' => PPost s w e w' := by
  refine (parseF_any s w h0 hnm hs).mono ?_
  rintro e w' ⟨hb, ⟨h1, g, h2, h3, C⟩ | h⟩
  · exact ⟨hb, .inl ⟨h1, g, h2, h3, C.calW⟩⟩
  · exact ⟨hb, .inr h⟩
end Go.Proofs.YtcnmbldikjljeaaGreatDoor
namespace Go.Proofs.YtcnmbldikjljeaaGreatDoor
open Go.RowKit

/-! who may still write a block: 0: nobody -/
def junk : Obj := .cells #[] 1000000 (0, 0)
/-- memory, without what somebody may still write -/
def roW (own : Nat → Nat) (w : World) : World := { w with heap := w.heap.mapIdx fun k o => if own k = 0 then o else junk }
section
variable {own own' own2 : Nat → Nat} {w w' u : World} {t s : Nat}
theorem ro_size (own : Nat → Nat) (w : World) : (roW own w).heap.size = w.heap.size := by simp [roW]
theorem ro_get (own : Nat → Nat) (w : World) (k : Nat) : (roW own w).heap[k]? = (w.heap[k]?).map fun o => if own k = 0 then o else junk := by simp [roW]
theorem ro_free {k : Nat} (h : own k = 0) : (roW own w).heap[k]? = w.heap[k]? := by
  rw [ro_get]
  cases w.heap[k]? <;> simp [h]
theorem ro_cells {k : Nat} {cur : Array Value} {e : TypeId} {fz : Nat × Nat} (h : (roW own w).heap[k]? = some (.cells cur e fz)) (he : e ≠ 1000000) : own k = 0 ∧ w.heap[k]? = some (.cells cur e fz) := by
  by_cases h0 : own k = 0
  · exact ⟨h0, (ro_free h0).symm.trans h⟩
  · rw [ro_get] at h
    cases hk : w.heap[k]? with
    | none => rw [hk] at h; cases h
    | some o =>
      rw [hk] at h
      simp only [Option.map_some, if_neg h0, junk, Option.some.injEq, Obj.cells.injEq] at h
      exact absurd h.2.1.symm he
theorem ro_cell {p : Addr} {v : Value} (h : (roW own w).cell? p = some v) : own p.block = 0 ∧ w.cell? p = some v := by
  by_cases h0 : own p.block = 0
  · exact ⟨h0, (World.cell?_of_block (ro_free h0)).symm.trans h⟩
  · exfalso
    have hg := ro_get own w p.block
    cases hk : w.heap[p.block]? with
    | none => rw [hk] at hg; simp [World.cell?, hg] at h
    | some o => rw [hk] at hg; simp [World.cell?, hg, h0, junk] at h
theorem ro_row {base size n : Nat} {e : TypeId} {v : Value} {xs : List Value} (h : (roW own w).ownsRow base e size v n xs) (he : e ≠ 1000000) : w.ownsRow base e size v n xs := by
  refine ⟨h.1, h.2.imp id fun ⟨g, cap, cur, a, b, c, r⟩ => ⟨g, cap, cur, a, b, (ro_cells c he).2, r⟩⟩
theorem row_ro {base size n : Nat} {e : TypeId} {v : Value} {xs : List Value} (h : w.ownsRow base e size v n xs) (ho : ∀ k, v.ownBlock = some k → own k = 0) : (roW own w).ownsRow base e size v n xs := by
  refine ⟨h.1, h.2.imp id fun ⟨g, cap, cur, a, b, c, r⟩ => ⟨g, cap, cur, a, b, (ro_free (ho g (by rw [a]; rfl))).trans c, r⟩⟩
/-- what a call leaves that may write the blocks of owners in T alone -/
structure KeptS (own own' : Nat → Nat) (T : Nat → Prop) (w w' : World) : Prop where
  os : w'.os = w.os
  tape : w'.tape = w.tape
  output : w'.output = w.output
  size : w.heap.size ≤ w'.heap.size
  block : ∀ k, k < w.heap.size → ¬ T (own k) → w'.heap[k]? = w.heap[k]?
  same : ∀ k, k < w.heap.size → own' k = own k
  lt : ∀ k, w.heap.size ≤ k → own' k ≠ 0 → k < w'.heap.size
  nt : ∀ k, own' k < 10 ∨ own' k = own k ∨ T (own' k)
/-- .. of one owner -/
abbrev Kept (own own' : Nat → Nat) (t : Nat) (w w' : World) : Prop := KeptS own own' (fun x => x = t) w w'
variable {T : Nat → Prop}
theorem KeptS.below (h : KeptS own own' T w w') (ht : ¬ T 0) : Below w.heap.size (roW own w) (roW own' w') := by
  refine ⟨h.os, h.tape, h.output, by rw [ro_size, ro_size]; exact h.size, fun k hk => ?_⟩
  rw [ro_get, ro_get, h.same k hk]
  by_cases h0 : own k = 0
  · rw [h.block k hk (by rw [h0]; exact ht)]
  · have a : k < w'.heap.size := Nat.lt_of_lt_of_le hk h.size
    simp [h0, hk, a]
theorem KeptS.of_below (h : Below w.heap.size w w') (hl : ∀ k, own k ≠ 0 → k < w.heap.size) : KeptS own own T w w' :=
  ⟨h.os, h.tape, h.output, h.size, fun k hk _ => h.block k hk, fun _ _ => rfl, fun k hk h0 => absurd (hl k h0) (by omega), fun _ => .inr (.inl rfl)⟩
theorem KeptS.trans (h : KeptS own own' T w w') (k : KeptS own' own2 T w' u) : KeptS own own2 T w u :=
  ⟨k.os.trans h.os, k.tape.trans h.tape, k.output.trans h.output, Nat.le_trans h.size k.size,
    fun i hi ht => (k.block i (Nat.lt_of_lt_of_le hi h.size) (by rw [h.same i hi]; exact ht)).trans (h.block i hi ht),
    fun i hi => (k.same i (Nat.lt_of_lt_of_le hi h.size)).trans (h.same i hi),
    fun i hi h0 => by
      by_cases hw : i < w'.heap.size
      · exact Nat.lt_of_lt_of_le hw k.size
      · exact k.lt i (by omega) h0,
    fun i => by
      rcases k.nt i with a | a | a
      · exact .inl a
      · rcases h.nt i with b | b | b
        · exact .inl (by omega)
        · exact .inr (.inl (a.trans b))
        · exact .inr (.inr (by rw [a]; exact b))
      · exact .inr (.inr a)⟩
theorem KeptS.mono {S : Nat → Prop} (h : KeptS own own' T w w') (hs : ∀ x, T x → S x) : KeptS own own' S w w' := ⟨h.os, h.tape, h.output, h.size, fun k hk ht => h.block k hk (fun a => ht (hs _ a)), h.same, h.lt, fun k => (h.nt k).imp id (fun x => x.imp id (hs _))⟩
/-- own's bound goes on -/
theorem KeptS.bound (h : KeptS own own' T w w') : ∀ k, own' k ≠ 0 → k < w'.heap.size := fun k h0 => by
  by_cases hk : k < w.heap.size
  · exact Nat.lt_of_lt_of_le hk h.size
  · exact h.lt k (by omega) h0
/-- a block of somebody's -/
theorem KeptS.at (h : KeptS own own' T w w') {k : Nat} {o : Obj} (hk : w.heap[k]? = some o) (ht : ¬ T (own k)) : w'.heap[k]? = some o ∧ own' k = own k := by
  have hlt : k < w.heap.size := (Array.getElem?_eq_some_iff.1 hk).1
  exact ⟨(h.block k hlt ht).trans hk, h.same k hlt⟩
/-- a row of somebody's -/
def MRow (own : Nat → Nat) (t : Nat) (w : World) (e : TypeId) (size : Nat) (v : Value) (n : Nat) (xs : List Value) : Prop := w.ownsRow 0 e size v n xs ∧ ∀ k, v.ownBlock = some k → own k = t
theorem MRow.kept {e : TypeId} {size n : Nat} {v : Value} {xs : List Value} (R : MRow own s w e size v n xs) (h : KeptS own own' T w w') (hne : ¬ T s) : MRow own' s w' e size v n xs := by
  refine ⟨⟨R.1.1, R.1.2.imp id fun ⟨g, cap, cur, a, b, c, r⟩ => ⟨g, cap, cur, a, b, (h.at c (by rw [R.2 g (by rw [a]; rfl)]; exact hne)).1, r⟩⟩, fun k hk => ?_⟩
  rw [h.same k (R.1.lt k hk).2]; exact R.2 k hk
theorem MRow.nil (own : Nat → Nat) (t : Nat) (w : World) (e : TypeId) (size : Nat) : MRow own t w e size (.slice none 0 0) 0 [] := ⟨World.ownsRow_nil _ _ _ _, fun k hk => by simp [Value.ownBlock] at hk⟩
/-- a new block is somebody's -/
def tagOf (own : Nat → Nat) (b : Option Nat) (t : Nat) : Nat → Nat := fun k => if some k = b then t else own k
theorem tagOf_nt {b : Option Nat} : ∀ k, tagOf own b t k < 10 ∨ tagOf own b t k = own k ∨ tagOf own b t k = t := fun k => by
  unfold tagOf
  split
  · exact .inr (.inr rfl)
  · exact .inr (.inl rfl)
/-- a row's append: the row's block is owner t's, the new one too -/
theorem Kept.grown {v v' : Value} {e : TypeId} {size n : Nat} {xs : List Value} (hg : w.grownBy w' v.ownBlock) (hv : ∀ k, v.ownBlock = some k → own k = t) (hown : w'.ownsRow 0 e size v' n xs)
    (hat : ∀ k, v'.ownBlock = some k → v.ownBlock = some k ∨ w.heap.size ≤ k) (hl : ∀ k, own k ≠ 0 → k < w.heap.size) : Kept own (tagOf own v'.ownBlock t) t w w' ∧ MRow (tagOf own v'.ownBlock t) t w' e size v' n xs := by
  refine ⟨⟨hg.os, hg.tape, hg.output, hg.size, fun k hk ht => hg.block k hk (fun e' => ht (hv k e'.symm)), fun k hk => ?_, fun k hk h0 => ?_, tagOf_nt⟩, hown, fun k hk => ?_⟩
  · unfold tagOf
    split
    · rename_i e'
      rcases hat k e'.symm with a | a
      · exact (hv k a).symm
      · omega
    · rfl
  · unfold tagOf at h0
    split at h0
    · rename_i e'
      exact (hown.lt k e'.symm).2
    · exact absurd (hl k h0) (by omega)
  · unfold tagOf; rw [if_pos hk.symm]
end
end Go.Proofs.YtcnmbldikjljeaaGreatDoor
