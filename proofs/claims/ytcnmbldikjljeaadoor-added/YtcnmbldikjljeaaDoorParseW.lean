import Derived.Test.YtcnmbldikjljeaaDoorParse
import Derived.Test.YtcnmbldikjljeaaDoorSortC
import Derived.Deep.RegionHeld3
namespace Go.Proofs.YtcnmbldikjljeaaDoor
open Go.RowKit

/-- a calendar whose rows lie behind its block -/
def CalF (w : World) (g : Nat) (raw : Nat → List (Int × Int)) (fr : Nat → Bool) : Prop := ∃ wk, CalM w g wk fr ∧ (∀ j, j < 7 → JoinOf (raw j) (wk j)) ∧ ∀ j, j < 7 → ∀ v, w.cell? ⟨g, j, none⟩ = some v → ∀ k, v.ownBlock = some k → g < k
theorem CalF.calW {w : World} {g : Nat} {raw : Nat → List (Int × Int)} {fr : Nat → Bool} (h : CalF w g raw fr) : CalW w g raw fr := by
  obtain ⟨wk, h1, h2, _⟩ := h
  exact ⟨wk, h1, h2⟩
theorem PJ.calF {B b g : Nat} {w0 w : World} {s : RS} {vs us : Nat → Value} {A : Nat → List (Int × Int)} (h : PJ B b g w0 w s vs us A 7) : CalF w g s.week s.free := by
  obtain ⟨wk, h1, h2⟩ := h.cal
  refine ⟨wk, h1, h2, fun j hj v hv k hk => ?_⟩
  rw [h.week j hj, if_pos hj] at hv
  cases hv
  have := ((h.new j hj).1.lt k hk).1
  omega
def PPostF (s : ByteArray) (w : World) (e : Ending) (w' : World) : Prop :=
  Below w.heap.size w w' ∧
  (((parseL s).1 = true ∧ ∃ g, w.heap.size ≤ g ∧ e = .returned (.tuple #[P0 g, .int .i64 0, .int .i64 0]) ∧ CalF w' g (parseL s).2.week (parseL s).2.free) ∨
   ((parseL s).1 = false ∧ e = .returned (.tuple #[.pointer none, .int .i64 2, .int .i64 (parseL s).2.place])))
/-- what Parse answers, and leaves -/
def PPost (s : ByteArray) (w : World) (e : Ending) (w' : World) : Prop :=
  Below w.heap.size w w' ∧
  (((parseL s).1 = true ∧ ∃ g, w.heap.size ≤ g ∧ e = .returned (.tuple #[P0 g, .int .i64 0, .int .i64 0]) ∧ CalW w' g (parseL s).2.week (parseL s).2.free) ∨
   ((parseL s).1 = false ∧ e = .returned (.tuple #[.pointer none, .int .i64 2, .int .i64 (parseL s).2.place])))

theorem frees_len (f : Nat → Bool) : (frees f).length = 70 := by simp [frees]
theorem freeInfo : (Tryd.prog.info? 57).map (·.size) = some 70 := by kernel_rfl

def calCells (f : Nat → Bool) : List Value := (List.range 77).map fun j => if j < 7 then .slice none 0 0 else .bool (f (j - 7))
theorem cal_fold (f : Nat → Bool) : List.foldl (fun cs x => cs.setIfInBounds (7 + x.2) x.1) Tryd.zeroCells61 (frees f).zipIdx = (calCells f).toArray := by kernel_rfl
theorem wx0 (a b c d e f g : Value) (w : World) : (Instr.index 56 (.agg #[a, b, c, d, e, f, g]) (.int .i64 0)).run Tryd.prog w = .ok a w := by kernel_rfl
theorem wx1 (a b c d e f g : Value) (w : World) : (Instr.index 56 (.agg #[a, b, c, d, e, f, g]) (.int .i64 1)).run Tryd.prog w = .ok b w := by kernel_rfl
theorem wx2 (a b c d e f g : Value) (w : World) : (Instr.index 56 (.agg #[a, b, c, d, e, f, g]) (.int .i64 2)).run Tryd.prog w = .ok c w := by kernel_rfl
theorem wx3 (a b c d e f g : Value) (w : World) : (Instr.index 56 (.agg #[a, b, c, d, e, f, g]) (.int .i64 3)).run Tryd.prog w = .ok d w := by kernel_rfl
theorem wx4 (a b c d e f g : Value) (w : World) : (Instr.index 56 (.agg #[a, b, c, d, e, f, g]) (.int .i64 4)).run Tryd.prog w = .ok e w := by kernel_rfl
theorem wx5 (a b c d e f g : Value) (w : World) : (Instr.index 56 (.agg #[a, b, c, d, e, f, g]) (.int .i64 5)).run Tryd.prog w = .ok f w := by kernel_rfl
theorem wx6 (a b c d e f g : Value) (w : World) : (Instr.index 56 (.agg #[a, b, c, d, e, f, g]) (.int .i64 6)).run Tryd.prog w = .ok g w := by kernel_rfl
theorem wx (v : Nat → Value) (k : Nat) (hk : k < 7) (w : World) : (Instr.index 56 (.agg #[v 0, v 1, v 2, v 3, v 4, v 5, v 6]) (.int .i64 k)).run Tryd.prog w = .ok (v k) w := by
  match k, hk with
  | 0, _ => exact wx0 _ _ _ _ _ _ _ w
  | 1, _ => exact wx1 _ _ _ _ _ _ _ w
  | 2, _ => exact wx2 _ _ _ _ _ _ _ w
  | 3, _ => exact wx3 _ _ _ _ _ _ _ w
  | 4, _ => exact wx4 _ _ _ _ _ _ _ w
  | 5, _ => exact wx5 _ _ _ _ _ _ _ w
  | 6, _ => exact wx6 _ _ _ _ _ _ _ w
theorem calCells_at (f : Nat → Bool) (j : Nat) (hj : j < 77) : (calCells f).toArray[j]? = some (if j < 7 then .slice none 0 0 else .bool (f (j - 7))) := by
  simp [calCells, hj]
set_option maxRecDepth 100000 in
set_option maxHeartbeats 4000000 in
theorem parseF_any (s : ByteArray) (w : World) (h0 : 0 < w.heap.size) (hnm : ∀ j, j < 7 → w.cell? ⟨0, j, none⟩ = some (nmV j)) (hs : s.size ≤ 200) :
    Calls Tryd.prog 12 #[.string s] w fun e w' => PPostF s w e w' := by
  have HNM := hide hnm
  clear hnm
  go_enter Tryd.func12, Tryd.ntmps12
  go_wp2_with fail
  refine (newReader_any _).mono ?_
  rintro e w1 ⟨rfl, cs, rfl, hcs⟩
  have RS0 := RW.start w s cs h0 HNM.out hcs
  clear hcs
  go_wp2_with fail
  obtain ⟨b, hb⟩ : ∃ b, b = w.heap.size := ⟨_, rfl⟩
  have Hb := hide hb
  rw [← hb] at RS0 ⊢
  clear hb
  go_loopw [7] (fun _ wr => ∃ (pos fuel n : Nat) (st : RS) (vk : Nat → Value), RW (.stringIter s pos) b b w wr st vk ∧ Inv n st ∧ n ≤ pos ∧ n ≤ s.size ∧ 0 ≤ st.place ∧ st.place ≤ n ∧ Hid (loopL (runes s fuel pos) st = parseL s) ∧ s.size ≤ pos + fuel) (fun _ wr => s.size - wr.iterPos (b + 1))
  case atStart => exact ⟨0, s.size, 0, rs0, nilVs, RS0, inv0, by omega, by omega, by simp [rs0], by simp [rs0], rfl, by omega⟩
  case round =>
    obtain ⟨pos, fuel, n, st, vk, R, hI, hn, hns, hp0, hp1, HS, hf⟩ := hrel
    have hpos0 := iterPos_of R.iter
    by_cases hp : pos < s.size
    · have hnx : ∀ ty, (Instr.next (.pointer (some ⟨b + 1, 0, none⟩)) true ty).run Tryd.prog wr = _ := fun ty => Lib.run_next_any_at wr (b + 1) s pos ty R.iter hp
      have hwd := width_pos s pos hp
      obtain ⟨fuel, rfl⟩ : ∃ f', fuel = f' + 1 := ⟨fuel - 1, by omega⟩
      have R2 := R.iterAt (pos + (Utf8.decode s pos).2)
      obtain ⟨W1, hW1⟩ : ∃ W1, W1 = wr.iterAt (b + 1) s (pos + (Utf8.decode s pos).2) := ⟨_, rfl⟩
      rw [← hW1] at hnx R2
      clear hW1
      cases hr : (takeL st ((Utf8.decode s pos).1 : Int)).1
      · have HN := hide (loop_no hp HS.out hr)
        have HR := hide hr
        clear hr
        go_wp2_with fail
        refine (take_any R2 hI (by omega) _ hp0 (by omega)).mono ?_
        rw [HR.out]
        rintro e w' ⟨rfl, vk', R3⟩
        have g1 := R3.c1
        go_wp2_with fail
        go_quiet (fail)
        go_wp2
        go_ret3
        refine ⟨?_, .inr ⟨by rw [← HN.out]; exact HR.out, ?_⟩⟩
        · rw [← Hb.out]; exact (R3.drewN _).below
        · rw [← HN.out]; rfl
      · have HN := hide (loop_yes hp HS.out hr)
        have hI2 := inv_take hI _ hr
        have hpl := hide (place_take hI _ hr)
        have HR := hide hr
        clear hr
        go_wp2_with fail
        refine (take_any R2 hI (by omega) _ hp0 (by omega)).mono ?_
        rw [HR.out]
        rintro e w' ⟨rfl, vk', R3⟩
        generalize takeL st ((Utf8.decode s pos).1 : Int) = q at *
        have hq0 : 0 ≤ q.2.place := by rw [hpl.out]; omega
        have hq1 : q.2.place ≤ n := by rw [hpl.out]; omega
        have g1 := R3.c1
        have f1 := R3.frz 1
        go_wp2_with fail
        go_roundw
        case rel => exact ⟨_, fuel, n + 1, _, vk', R3.setPlace _, inv_place hI2 _, by omega, by omega, by simp; omega, by simp; omega, HN, by omega⟩
        case measure =>
          rw [iterPos_of (R3.setPlace _).iter, hpos0]; omega
    · have hnx : ∀ ty, (Instr.next (.pointer (some ⟨b + 1, 0, none⟩)) true ty).run Tryd.prog wr = _ := fun ty => Lib.run_next_end_at wr (b + 1) s pos ty R.iter hp
      have HN := hide (loop_end hp HS.out)
      cases hr : (finishL st).1
      · have HR := hide hr
        clear hr
        go_wp2_with fail
        refine (finish_any R hI hp0 (by omega)).mono ?_
        rw [HR.out]
        rintro e w' ⟨rfl, R3⟩
        have g1 := R3.c1
        go_wp2_with fail
        go_quiet (fail)
        go_wp2
        go_ret3
        refine ⟨?_, .inr ⟨by rw [← HN.out]; exact HR.out, ?_⟩⟩
        · rw [← Hb.out]; exact (R3.drewN _).below
        · rw [← HN.out]; rfl
      · have HR := hide hr
        clear hr
        go_wp2_with fail
        refine (finish_any R hI hp0 (by omega)).mono ?_
        rw [HR.out]
        rintro e w' ⟨rfl, R3⟩
        have hIq := inv_finish hI
        generalize finishL st = q at *
        have d0 := R3.cw 0 (by omega)
        have d1 := R3.cw 1 (by omega)
        have d2 := R3.cw 2 (by omega)
        have d3 := R3.cw 3 (by omega)
        have d4 := R3.cw 4 (by omega)
        have d5 := R3.cw 5 (by omega)
        have d6 := R3.cw 6 (by omega)
        simp only [Nat.reduceAdd] at d0 d1 d2 d3 d4 d5 d6
        have hfr : w'.rangeAt b 21 (frees q.2.free) := by
          intro j v hv
          have hj : j < 70 := by
            have := (List.getElem?_eq_some_iff.1 hv).1; rw [frees_len] at this; exact this
          have hv2 : v = .bool (q.2.free j) := by
            simp [frees, hj] at hv; exact hv.symm
          rw [hv2]; exact R3.cf j hj
        have hu := Tryd.underlying57
        have hi : (Tryd.prog.info? 57).map (·.size) = some (frees q.2.free).length := by rw [frees_len]; exact freeInfo
        have hl := frees_len q.2.free
        have h1 : ∀ v ∈ frees q.2.free, v.oneCell' = true := by intro v hv; simp [frees] at hv; obtain ⟨_, _, rfl⟩ := hv; rfl
        have M := R3.made (calCells q.2.free).toArray (calCells_at q.2.free)
        have R5 := R3.alloc (.cells (calCells q.2.free).toArray 61)
        have HM := hide (And.intro M R5)
        have hszw : w'.heap.size < (w'.alloc (.cells (calCells q.2.free).toArray 61)).heap.size := by simp
        clear M R5
        generalize hF : frees q.2.free = F at *
        have HF := hide hF
        clear hF
        go_upto_region 13 with (first | (refine wpList_load_mid rfl 57 _ rfl b 21 rfl F _ hfr hu rfl hi ?_) | fail)
        clear hu hi hl h1 hfr d0 d1 d2 d3 d4 d5 d6
        rw [← HF.out, cal_fold]
        generalize (w'.alloc (.cells (calCells q.2.free).toArray 61)) = W2 at *
        have d0 := HM.out.2.cw 0 (by omega)
        have d1 := HM.out.2.cw 1 (by omega)
        have d2 := HM.out.2.cw 2 (by omega)
        have d3 := HM.out.2.cw 3 (by omega)
        have d4 := HM.out.2.cw 4 (by omega)
        have d5 := HM.out.2.cw 5 (by omega)
        have d6 := HM.out.2.cw 6 (by omega)
        simp only [Nat.reduceAdd] at d0 d1 d2 d3 d4 d5 d6
        have HGD := hide (fun j => And.intro (show (q.2.week j).length ≤ 1000 by have := hIq.wk j; omega) (hIq.sp j))
        have HM0 := hide HM.out.1
        clear hIq
        go_wp2_with fail
        clear d0 d1 d2 d3 d4 d5 d6 HM
        go_loopw [52] (fun i wz => ∃ (k : Nat) (us : Nat → Value) (A : Nat → List (Int × Int)), k ≤ 7 ∧ i = .int .i64 k ∧ PJ b b w'.heap.size w wz q.2 vk us A k) (fun i _ => 7 - (intOf i).toNat)
        case atStart => exact ⟨0, _, _, by omega, rfl, HM0.out⟩
        case round =>
          obtain ⟨k, us, A, hk, rfl, M⟩ := hrel
          by_cases hk7 : k < 7
          · have hix := wx vk k hk7
            have hk' : (k : Int) < 7 := by omega
            have HJ := hide (fun (wz : World) (M : PJ b b w'.heap.size w wz q.2 vk us A k) => join_any (b + 2) (vk k) (q.2.week k) wz (sort_any (M.own k (Nat.le_refl _) hk7) (HGD.out k).1) (HGD.out k).2 (HGD.out k).1)
            go_wp2_with fail
            go_region_with (go_at_call 23; refine (HJ.out _ (by first | exact M | exact M.on (Below.refl _ _).drew | exact M.on (below_drewN (Below.refl _ _) _))).mono ?_; rintro e w1 ⟨v', l, rfl, hgr, hown, hJ⟩; obtain ⟨sa, sl, sc, rfl⟩ := ownsRow_form hown; obtain ⟨hc1, hf1⟩ := PJ.room (w1 := w1) (by first | exact M | exact M.on (Below.refl _ _).drew | exact M.on (below_drewN (Below.refl _ _) _)) hk7 hgr)
            all_goals
              have HM2 := hide (PJ.step (by first | exact M | exact M.on (Below.refl _ _).drew | exact M.on (below_drewN (Below.refl _ _) _)) hk7 hgr hown hJ)
              clear hgr hown hJ hc1 hf1
              go_wp2
              go_roundw
              case rel => exact ⟨k + 1, _, _, by omega, by go_num, HM2.out⟩
              case measure => simp [intOf]; omega
          · have hke : k = 7 := by omega
            subst hke
            go_wp2
            go_ret3
            refine ⟨?_, .inl ⟨by rw [← HN.out]; exact HR.out, w'.heap.size, ?_, rfl, ?_⟩⟩
            · rw [← Hb.out]; exact M.below
            · have := R3.hb; rw [← Hb.out]; omega
            · rw [← HN.out]; exact M.calF

set_option maxRecDepth 100000 in
set_option maxHeartbeats 400000 in
theorem parse_long (s : ByteArray) (w : World) (hs : 200 < s.size) (hm : s.size ≤ 9223372036854775807) :
    Calls Tryd.prog 12 #[.string s] w fun e w' => e = .returned (.tuple #[.pointer none, .int .i64 2, .int .i64 0]) ∧ w' = w := by
  go_enter Tryd.func12, Tryd.ntmps12
  go_wp2
  go_ret3
  exact ⟨rfl, rfl⟩
theorem parse_any (s : ByteArray) (w : World) (h0 : 0 < w.heap.size) (hnm : ∀ j, j < 7 → w.cell? ⟨0, j, none⟩ = some (nmV j)) (hs : s.size ≤ 200) :
    Calls Tryd.prog 12 #[.string s] w fun e w' => PPost s w e w' := by
  refine (parseF_any s w h0 hnm hs).mono ?_
  rintro e w' ⟨hb, ⟨h1, g, h2, h3, C⟩ | h⟩
  · exact ⟨hb, .inl ⟨h1, g, h2, h3, C.calW⟩⟩
  · exact ⟨hb, .inr h⟩
end Go.Proofs.YtcnmbldikjljeaaDoor
