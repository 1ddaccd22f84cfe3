import Derived.Test.YtjmdepmeohenhaaDoorParse
import Derived.Deep.RegionHeld3
namespace Go.Proofs.YtjmdepmeohenhaaDoor
open Go.RowKit

/-- what Parse answers, and leaves -/
def PPost (s : ByteArray) (w : World) (e : Ending) (w' : World) : Prop :=
  Below w.heap.size w w' ∧
  (((parseL s).1 = true ∧ ∃ g, w.heap.size ≤ g ∧ e = .returned (.tuple #[P0 g, .int .i64 0, .int .i64 0]) ∧ CalW w' g (parseL s).2.week (parseL s).2.free) ∨
   ((parseL s).1 = false ∧ e = .returned (.tuple #[.pointer none, .int .i64 2, .int .i64 (parseL s).2.place])))

theorem frees_len (f : Nat → Bool) : (frees f).length = 70 := by simp [frees]
theorem freeInfo : (Tryd.prog.info? 62).map (·.size) = some 70 := by kernel_rfl

theorem cal_fold (v : Nat → Value) (f : Nat → Bool) : List.foldl (fun cs x => cs.setIfInBounds (7 + x.2) x.1) (((((((Tryd.zeroCells64.setIfInBounds 0 (v 0)).setIfInBounds 1 (v 1)).setIfInBounds 2 (v 2)).setIfInBounds 3 (v 3)).setIfInBounds 4 (v 4)).setIfInBounds 5 (v 5)).setIfInBounds 6 (v 6)) (frees f).zipIdx = (calCells v f).toArray := by kernel_rfl
set_option maxRecDepth 100000 in
set_option maxHeartbeats 4000000 in
theorem parse_any (s : ByteArray) (w : World) (h0 : 0 < w.heap.size) (hnm : ∀ j, j < 7 → w.cell? ⟨0, j, none⟩ = some (nmV j)) (hs : s.size ≤ 200) :
    Calls Tryd.prog 12 #[.string s] w fun e w' => PPost s w e w' := by
  have HNM := hide hnm
  clear hnm
  go_enter Tryd.func12, Tryd.ntmps12
  go_wp2_with fail
  refine (newReader_any _).mono ?_
  rintro e w1 ⟨rfl, cs, rfl, hcs⟩
  have RS0 := RW.start w s cs h0 HNM.out hcs
  clear hcs
  go_wp2_with fail
  obtain ⟨b, hb⟩ : ∃ b, b = w.heap.size := ⟨_, rfl⟩
  have Hb := hide hb
  rw [← hb] at RS0 ⊢
  clear hb
  go_loopw [7] (fun _ wr => ∃ (pos fuel n : Nat) (st : RS) (vk : Nat → Value), RW (.stringIter s pos) b b w wr st vk ∧ Inv n st ∧ n ≤ pos ∧ n ≤ s.size ∧ 0 ≤ st.place ∧ st.place ≤ n ∧ Hid (loopL (runes s fuel pos) st = parseL s) ∧ s.size ≤ pos + fuel) (fun _ wr => s.size - wr.iterPos (b + 1))
  case atStart => exact ⟨0, s.size, 0, rs0, nilVs, RS0, inv0, by omega, by omega, by simp [rs0], by simp [rs0], rfl, by omega⟩
  case round =>
    obtain ⟨pos, fuel, n, st, vk, R, hI, hn, hns, hp0, hp1, HS, hf⟩ := hrel
    have hpos0 := iterPos_of R.iter
    by_cases hp : pos < s.size
    · have hnx : ∀ ty, (Instr.next (.pointer (some ⟨b + 1, 0, none⟩)) true ty).run Tryd.prog wr = _ := fun ty => Lib.run_next_any_at wr (b + 1) s pos ty R.iter hp
      have hwd := width_pos s pos hp
      obtain ⟨fuel, rfl⟩ : ∃ f', fuel = f' + 1 := ⟨fuel - 1, by omega⟩
      have R2 := R.iterAt (pos + (Utf8.decode s pos).2)
      obtain ⟨W1, hW1⟩ : ∃ W1, W1 = wr.iterAt (b + 1) s (pos + (Utf8.decode s pos).2) := ⟨_, rfl⟩
      rw [← hW1] at hnx R2
      clear hW1
      cases hr : (takeL st ((Utf8.decode s pos).1 : Int)).1
      · have HN := hide (loop_no hp HS.out hr)
        have HR := hide hr
        clear hr
        go_wp2_with fail
        refine (take_any R2 hI (by omega) _ hp0 (by omega)).mono ?_
        rw [HR.out]
        rintro e w' ⟨rfl, vk', R3⟩
        have g1 := R3.c1
        go_wp2_with fail
        go_quiet (fail)
        go_wp2
        go_ret3
        refine ⟨?_, .inr ⟨by rw [← HN.out]; exact HR.out, ?_⟩⟩
        · rw [← Hb.out]; exact (R3.drewN _).below
        · rw [← HN.out]; rfl
      · have HN := hide (loop_yes hp HS.out hr)
        have hI2 := inv_take hI _ hr
        have hpl := hide (place_take hI _ hr)
        have HR := hide hr
        clear hr
        go_wp2_with fail
        refine (take_any R2 hI (by omega) _ hp0 (by omega)).mono ?_
        rw [HR.out]
        rintro e w' ⟨rfl, vk', R3⟩
        generalize takeL st ((Utf8.decode s pos).1 : Int) = q at *
        have hq0 : 0 ≤ q.2.place := by rw [hpl.out]; omega
        have hq1 : q.2.place ≤ n := by rw [hpl.out]; omega
        have g1 := R3.c1
        have f1 := R3.frz 1
        go_wp2_with fail
        go_roundw
        case rel => exact ⟨_, fuel, n + 1, _, vk', R3.setPlace _, inv_place hI2 _, by omega, by omega, by simp; omega, by simp; omega, HN, by omega⟩
        case measure =>
          rw [iterPos_of (R3.setPlace _).iter, hpos0]; omega
    · have hnx : ∀ ty, (Instr.next (.pointer (some ⟨b + 1, 0, none⟩)) true ty).run Tryd.prog wr = _ := fun ty => Lib.run_next_end_at wr (b + 1) s pos ty R.iter hp
      have HN := hide (loop_end hp HS.out)
      cases hr : (finishL st).1
      · have HR := hide hr
        clear hr
        go_wp2_with fail
        refine (finish_any R hI hp0 (by omega)).mono ?_
        rw [HR.out]
        rintro e w' ⟨rfl, R3⟩
        have g1 := R3.c1
        go_wp2_with fail
        go_quiet (fail)
        go_wp2
        go_ret3
        refine ⟨?_, .inr ⟨by rw [← HN.out]; exact HR.out, ?_⟩⟩
        · rw [← Hb.out]; exact (R3.drewN _).below
        · rw [← HN.out]; rfl
      · have HR := hide hr
        clear hr
        go_wp2_with fail
        refine (finish_any R hI hp0 (by omega)).mono ?_
        rw [HR.out]
        rintro e w' ⟨rfl, R3⟩
        generalize finishL st = q at *
        have d0 := R3.cw 0 (by omega)
        have d1 := R3.cw 1 (by omega)
        have d2 := R3.cw 2 (by omega)
        have d3 := R3.cw 3 (by omega)
        have d4 := R3.cw 4 (by omega)
        have d5 := R3.cw 5 (by omega)
        have d6 := R3.cw 6 (by omega)
        simp only [Nat.reduceAdd] at d0 d1 d2 d3 d4 d5 d6
        have hfr : w'.rangeAt b 21 (frees q.2.free) := by
          intro j v hv
          have hj : j < 70 := by
            have := (List.getElem?_eq_some_iff.1 hv).1; rw [frees_len] at this; exact this
          have hv2 : v = .bool (q.2.free j) := by
            simp [frees, hj] at hv; exact hv.symm
          rw [hv2]; exact R3.cf j hj
        have hu := Tryd.underlying62
        have hi : (Tryd.prog.info? 62).map (·.size) = some (frees q.2.free).length := by rw [frees_len]; exact freeInfo
        have hl := frees_len q.2.free
        have h1 : ∀ v ∈ frees q.2.free, v.oneCell' = true := by intro v hv; simp [frees] at hv; obtain ⟨_, _, rfl⟩ := hv; rfl
        generalize hF : frees q.2.free = F at *
        have HF := hide hF
        clear hF
        go_wp2_with fail
        go_region_held3 (fun w' => w'.cell? ⟨b, 14, none⟩ = some (vk 0) ∧ w'.cell? ⟨b, 15, none⟩ = some (vk 1) ∧ w'.cell? ⟨b, 16, none⟩ = some (vk 2) ∧ w'.cell? ⟨b, 17, none⟩ = some (vk 3) ∧ w'.cell? ⟨b, 18, none⟩ = some (vk 4) ∧ w'.cell? ⟨b, 19, none⟩ = some (vk 5) ∧ w'.cell? ⟨b, 20, none⟩ = some (vk 6) ∧ w'.rangeAt b 21 F) (first | (go_keep_ranges; done) | (go_split_ands; refine ⟨?_, ?_, ?_, ?_, ?_, ?_, ?_, ?_⟩; all_goals (first | (go_keep; done) | (go_keep_ranges; done)))) (fail)
        clear hu hi hl h1 hfr d0 d1 d2 d3 d4 d5 d6
        rename_i hHeld
        clear hHeld
        rw [← HF.out, cal_fold]
        have R4 := R3.cal
        have R5 := R3.alloc (.cells (calCells vk q.2.free).toArray 64)
        go_wp2
        go_ret3
        refine ⟨?_, .inl ⟨by rw [← HN.out]; exact HR.out, w'.heap.size, ?_, rfl, ?_⟩⟩
        · rw [← Hb.out]; exact R5.drew.below
        · have := R3.hb; rw [← Hb.out]; omega
        · rw [← HN.out]; exact R4.on (Below.refl _ _).drew

set_option maxRecDepth 100000 in
set_option maxHeartbeats 400000 in
theorem parse_long (s : ByteArray) (w : World) (hs : 200 < s.size) (hm : s.size ≤ 9223372036854775807) :
    Calls Tryd.prog 12 #[.string s] w fun e w' => e = .returned (.tuple #[.pointer none, .int .i64 2, .int .i64 0]) ∧ w' = w := by
  go_enter Tryd.func12, Tryd.ntmps12
  go_wp2
  go_ret3
  exact ⟨rfl, rfl⟩
end Go.Proofs.YtjmdepmeohenhaaDoor
