import Derived.Test.YtcnmbldikjljeaaGreatDoorTKwA
import Derived.Test.YtcnmbldikjljeaaGreatDoorT25
import Derived.Carry
import Derived.Test.YtcnmbldikjljeaaGreatDoorT26
import Derived.SizedLaws
import Derived.Test.YtcnmbldikjljeaaGreatDoorCards
import Derived.Test.YtcnmbldikjljeaaGreatDoorTie
namespace Go.Proofs.YtcnmbldikjljeaaGreatDoor
open Go.ChangeShapes Go.WideShapes Go.ChangeAt Go.RowKit

set_option maxRecDepth 100000 in
theorem quiet_lifted (os : Os) (started : os.Started) (H : Type) (enc : TypeId × Value → H) :
    ReturnsInHanded {} Tryz.checked os 8 .any (fun w args => (Rows.quietSpec.pre enc Tryz.prog Tryz.f8 [] false w args ∧ laidMetH Tryz.prog laidList w) ∧ sizedMet enc Tryz.prog Tryz.f8 (OpenSpec.ofChange Rows.quietSpec) false w args)
      (Rows.quietSpec.post enc Tryz.prog Tryz.f8 false true false false) := by
  refine returnsInHanded_of_change_and (C := Tryz.checked) (X := fun w _ => laidMetH Tryz.prog laidList w) (fun _ _ _ hh h => h.of_heap hh) own started (by kernel_rfl) Tryz.func8
    (ChangeSpec.witness_shaped (enc := enc) (C := Tryz.checked) (os := os) (X := fun w _ => laidMetH Tryz.prog laidList w) false (World.doorLaid Tryz.prog 400 os) #[.agg #[.slice none 0 0, .slice none 0 0], .agg #[.slice none 0 0], .slice none 0 0, .int .i64 0] 8 rfl (World.shaped_of_RefB (by kernel_rfl) (by kernel_rfl)) (by kernel_rfl) (by kernel_rfl) (by kernel_rfl) (door_met os _)) ?_
  intro W base args ds gs before hval0 hW _ hsz hL _
  have hval : ∀ (j : Nat) t v, Tryz.f8.params[j]? = some t → args[j]? = some v → Value.okWide Tryz.prog W .any base t v := hval0
  have hW' := hW
  obtain ⟨p, q, hA0, hV, rfl, hfz, hnd⟩ := hW
  have hA : DataW.TrodAll enc Tryz.prog W 0 (fun _ => true) true Tryz.f8.params.toList args.toList ds p := hA0
  rw [Tryz.params8] at hA hval
  obtain ⟨v0, v1, v2, v3, d0, d1, d2, d3, p0, p1, p2, p3, rfl, rfl, rfl, h0, h1, h2, h3⟩ := trodAll_four hA
  obtain ⟨rfl, rfl⟩ := trodVars_none hV
  have lt0 : ∀ x ∈ p0, x.block < W.heap.size := by obtain ⟨m, hm⟩ := h0; exact DataW.trod_lt m _ _ _ hm
  have lt1 : ∀ x ∈ p1, x.block < W.heap.size := by obtain ⟨m, hm⟩ := h1; exact DataW.trod_lt m _ _ _ hm
  have lt2 : ∀ x ∈ p2, x.block < W.heap.size := by obtain ⟨m, hm⟩ := h2; exact DataW.trod_lt m _ _ _ hm
  have hw1 : ∀ n ∈ d1.weights Tryz.prog 31, n ≤ reachBytes := fun n hn => by
    have h1 := DataW.weights_mem_each (P := Tryz.prog) (ts := Tryz.f8.params.toList) (ds := [d0, d1, d2, d3]) (j := 1) (t := 31) (d := d1) (by rw [Tryz.params8]; rfl) rfl n hn
    have h2 := List.all_eq_true.1 hsz n h1
    simpa using h2
  have hw2 : ∀ n ∈ d2.weights Tryz.prog 32, n ≤ reachBytes := fun n hn => by
    have h1 := DataW.weights_mem_each (P := Tryz.prog) (ts := Tryz.f8.params.toList) (ds := [d0, d1, d2, d3]) (j := 2) (t := 32) (d := d2) (by rw [Tryz.params8]; rfl) rfl n hn
    have h2 := List.all_eq_true.1 hsz n h1
    simpa using h2
  obtain ⟨es, fs, ae, af, ce, cf, rfl, K⟩ := open_week (hval 0 28 v0 rfl rfl) h0
  obtain ⟨pv, ps, lv, rfl, PP⟩ := open_plan (hval 1 31 v1 rfl rfl) h1 hw1
  obtain ⟨a2, l2, c2, rfl⟩ := okWide_slice Tryz.underlying32 (hval 2 32 v2 rfl rfl)
  have k2 := h2
  obtain ⟨fuel2, hf2⟩ := h2
  obtain ⟨ms, M⟩ := open_moves (show DataW.trod enc Tryz.prog W 0 (fun _ => true) true fuel2 32 [.slice a2 l2 c2] = some (d2, p2) by simpa [Value.cells] using hf2) hw2
  obtain ⟨x3, rfl, rfl, rfl, w3⟩ := open_int Tryz.underlying3 (hval 3 3 v3 rfl rfl) h3
  have hnm := names_of_laid hL
  have hh0 : 0 < W.heap.size := World.block_lt_of_cell? W _ (hnm 0 (by omega))
  clear hA0 hval0
  refine (quiet_any es fs ae af ce cf pv (.slice a2 l2 c2) ps lv ms x3 W hh0 hnm K PP M (bounds_i64 w3)).mono fun e W' ⟨he, bel⟩ => ?_
  subst he
  exact ⟨_, rfl, _, _, _, [], _, [], hW', trodAll_mk1 (shut_bool Tryz.underlying4 _), trodAll_mk4 (Below.trod laidOut (by kernel_rfl) (of_decide_eq_true (by kernel_rfl)) h0 bel lt0) (Below.trod laidOut (by kernel_rfl) (of_decide_eq_true (by kernel_rfl)) h1 bel lt1) (Below.trod laidOut (by kernel_rfl) (of_decide_eq_true (by kernel_rfl)) k2 bel lt2) (shut_int Tryz.underlying3 w3), rfl, bel.frame _, fun h => by cases h⟩

theorem quiet_row : Rows.QuietSaid :=
  OpenClaim.holds_of_wide 8 Tryz.f8 rfl rfl rfl rfl rfl rfl rfl ⟨rfl, rfl, rfl, rfl, rfl⟩ rfl rfl rfl rfl rfl (by kernel_rfl) Tryz.func8 (by kernel_rfl)
    (of_decide_eq_true (by kernel_rfl)) (by unfold Func.isWrapper; rw [if_neg (of_decide_eq_false (by kernel_rfl))]; exact ⟨rfl, rfl⟩)
    (fun os started H enc _ => quiet_lifted os started H enc)

theorem quiet_card : Rows.QuietCardSaid :=
  Claim7.holds_tied_plain_at .later [] [.data] true Rows.quietCard.stood.harness false
    quiet_row (fun _ h => by cases h) (by kernel_rfl) (fun _ h => by cases h) quiet_row_tie rfl ⟨rfl, rfl⟩ (by kernel_rfl) rfl
    (fun f fn hf hfn => by
      obtain rfl : f = 8 := Option.some.inj ((show Tryz.prog.funcNamed Rows.quietRow.func = some 8 by kernel_rfl).symm.trans hf) |>.symm
      obtain rfl : fn = Tryz.f8 := (Option.some.inj (Tryz.func8.symm.trans hfn)).symm
      exact ⟨by kernel_rfl, fun j t ht => by
        rw [Tryz.params8] at ht
        have hm : t ∈ [28, 31, 32, 3] := by simpa using Array.mem_of_getElem? ht
        have hall : ([28, 31, 32, 3].all fun u => !Tryz.prog.wantsStandIn u) = true := by kernel_rfl
        exact (show Tryz.prog.wantsStandIn t = false by simpa using List.all_eq_true.1 hall t hm)⟩)
    (by kernel_rfl)
#print axioms quiet_card
end Go.Proofs.YtcnmbldikjljeaaGreatDoor
