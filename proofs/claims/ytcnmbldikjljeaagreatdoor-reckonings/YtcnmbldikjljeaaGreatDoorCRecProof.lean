import Derived.Test.YtcnmbldikjljeaaGreatDoorC22
import Derived.Test.YtcnmbldikjljeaaGreatDoorC19
import Derived.Test.YtcnmbldikjljeaaGreatDoorCards
import Derived.Test.YtcnmbldikjljeaaGreatDoorTie
import Derived.SizedLaws
namespace Go.Proofs.YtcnmbldikjljeaaGreatDoor
open Go.ChangeShapes Go.WideShapes Go.ChangeAt Go.RowKit

set_option maxRecDepth 100000 in
theorem reckonings_lifted (os : Os) (started : os.Started) (H : Type) (enc : TypeId × Value → H) :
    ReturnsInHanded {} Tryz.checked os 4 .any (fun w args => (Rows.reckoningsSpec.pre enc Tryz.prog Tryz.f4 [] false w args ∧ laidMetH Tryz.prog laidList w) ∧ sizedMet enc Tryz.prog Tryz.f4 (OpenSpec.ofChange Rows.reckoningsSpec) false w args)
      (Rows.reckoningsSpec.post enc Tryz.prog Tryz.f4 false true false false) := by
  refine returnsInHanded_of_change_and (C := Tryz.checked) (X := fun w _ => laidMetH Tryz.prog laidList w) (fun _ _ _ hh h => h.of_heap hh) own started (by kernel_rfl) Tryz.func4
    (ChangeSpec.witness_shaped (enc := enc) (C := Tryz.checked) (os := os) (X := fun w _ => laidMetH Tryz.prog laidList w) false (World.doorLaid Tryz.prog 400 os) #[.slice none 0 0] 8 rfl (World.shaped_of_RefB (by kernel_rfl) (by kernel_rfl)) (by kernel_rfl) (by kernel_rfl) (by kernel_rfl) (door_met os _)) ?_
  intro W base args ds gs before hval0 hW _ hsz hL _
  have hval : ∀ (j : Nat) t v, Tryz.f4.params[j]? = some t → args[j]? = some v → Value.okWide Tryz.prog W .any base t v := hval0
  have hW' := hW
  obtain ⟨p, q, hA0, hV, rfl, hfz, hnd⟩ := hW
  have hA : DataW.TrodAll enc Tryz.prog W 0 (fun _ => true) true Tryz.f4.params.toList args.toList ds p := hA0
  rw [Tryz.params4] at hA hval
  obtain ⟨v0, d0, rfl, rfl, h0⟩ := trodAll_one hA
  obtain ⟨rfl, rfl⟩ := trodVars_none hV
  have lt0 : ∀ x ∈ p, x.block < W.heap.size := by obtain ⟨m, hm⟩ := h0; exact DataW.trod_lt m _ _ _ hm
  obtain ⟨am, lm, cm, rfl⟩ := okWide_slice Tryz.underlying22 (hval 0 22 v0 rfl rfl)
  have k0 := h0
  obtain ⟨fuel, hf⟩ := h0
  have hr : ∀ elems spare, d0 = .slice elems spare → (elems.length + spare.length) * 72 ≤ 140737488351232 := by
    intro elems spare hd
    have := sized_slice (t := 22) (e := 84) hsz (j := 0) (elems := elems) (spare := spare) (by rw [Tryz.params4]; rfl) (by rw [hd]; rfl) Tryz.underlying22
    rw [show Tryz.checked.prog.bytesOf 84 = 72 from bytesOp] at this
    simpa [reachBytes] using this
  obtain ⟨sc, rfl, S⟩ := open_script (show DataW.trod enc Tryz.prog W 0 (fun _ => true) true fuel 22 [.slice am lm cm] = some (d0, p) by simpa [Value.cells] using hf) hr
  have hnm := names_of_laid hL
  have hh0 : 0 < W.heap.size := World.block_lt_of_cell? W _ (hnm 0 (by omega))
  clear hA0 hval0
  refine (reckonings_any am sc cm W S hh0 hnm).mono fun e W' ⟨he, bel⟩ => ?_
  subst he
  exact ⟨_, rfl, _, _, _, [], _, [], hW', trodAll_mk1 (shut_bool Tryz.underlying4 _), trodAll_mk1 (Below.trod laidOut (by kernel_rfl) (of_decide_eq_true (by kernel_rfl)) k0 bel lt0), rfl, bel.frame _, fun h => by cases h⟩

theorem reckonings_row : Rows.ReckoningsSaid :=
  OpenClaim.holds_of_wide 4 Tryz.f4 rfl rfl rfl rfl rfl rfl rfl ⟨rfl, rfl, rfl, rfl, rfl⟩ rfl rfl rfl rfl rfl (by kernel_rfl) Tryz.func4 (by kernel_rfl)
    (of_decide_eq_true (by kernel_rfl)) (by unfold Func.isWrapper; rw [if_neg (of_decide_eq_false (by kernel_rfl))]; exact ⟨rfl, rfl⟩)
    (fun os started H enc _ => reckonings_lifted os started H enc)

theorem reckonings_card : Rows.ReckoningsCardSaid :=
  Claim7.holds_tied_plain_at .later [] [.data] true Rows.reckoningsCard.stood.harness false
    reckonings_row (fun _ h => by cases h) (by kernel_rfl) (fun _ h => by cases h) reckonings_row_tie rfl ⟨rfl, rfl⟩ (by kernel_rfl) rfl
    (fun f fn hf hfn => by
      obtain rfl : f = 4 := Option.some.inj ((show Tryz.prog.funcNamed Rows.reckoningsRow.func = some 4 by kernel_rfl).symm.trans hf) |>.symm
      obtain rfl : fn = Tryz.f4 := (Option.some.inj (Tryz.func4.symm.trans hfn)).symm
      exact ⟨by kernel_rfl, fun j t ht => by
        rw [Tryz.params4] at ht
        have hm : t ∈ [22] := by simpa using Array.mem_of_getElem? ht
        have hall : ([22].all fun u => !Tryz.prog.wantsStandIn u) = true := by kernel_rfl
        exact (show Tryz.prog.wantsStandIn t = false by simpa using List.all_eq_true.1 hall t hm)⟩)
    (by kernel_rfl)
#print axioms reckonings_card
end Go.Proofs.YtcnmbldikjljeaaGreatDoor
