import Derived.Test.YtcnmbldikjljeaaDoorKeep2
namespace Go.Proofs.YtcnmbldikjljeaaDoor
open Go.RowKit

/-- does the mark stand among the first c? -/
def bang (l : List UInt8) (c : Nat) : Bool := (l.take c).contains 33
theorem bang_step (l : List UInt8) (k : Nat) (hk : k < l.length) (h : bang l k = false) (hn : l[k] ≠ 33) : bang l (k + 1) = false := by
  unfold bang at *
  rw [List.take_succ_eq_append_getElem hk, List.contains_eq_any_beq] at *
  rw [List.any_append, h]
  simp
  exact fun e => hn e.symm
theorem bang_hit (l : List UInt8) (c k : Nat) (hk : k < l.length) (hc : k < c) (h : l[k] = 33) : bang l c = true := by
  unfold bang
  simp only [List.contains_iff_mem]
  rw [← h]
  exact List.mem_take_iff_getElem.2 ⟨k, by omega, rfl⟩

set_option maxRecDepth 100000 in
set_option maxHeartbeats 1000000 in
theorem banged_any (l : List UInt8) (c : Nat) (hc : c ≤ l.length) (hl : l.length ≤ 1000) (w : World) :
    Calls Tryd.prog 11 #[.string ⟨l.toArray⟩, .int .i64 c] w fun e w' => e = .returned (.bool (bang l c)) ∧ w' = w := by
  go_enter Tryd.func11, Tryd.ntmps11
  go_wp2
  go_loop [5] (fun i => ∃ k : Nat, k ≤ c ∧ i = .int .i64 k ∧ Hid (bang l k = false)) (fun i => c - (intOf i).toNat)
  case atStart => exact ⟨0, Nat.zero_le _, rfl, rfl⟩
  case round =>
    obtain ⟨k, hk, rfl, HH⟩ := hrel
    by_cases hlt : k < c
    · have hkl : k < l.length := by omega
      have hlt' : (k : Int) < c := by omega
      have hks : k < (⟨l.toArray⟩ : ByteArray).size := by show k < l.toArray.size; simpa using hkl
      by_cases h33 : l[k] = 33
      · have HB := hide (bang_hit l c k hkl hlt h33)
        have e1 : ((((⟨l.toArray⟩ : ByteArray)[k]'hks).toNat : Int) == 33) = true := by show ((l[k].toNat : Int) == 33) = true; rw [h33]; rfl
        clear h33
        go_wp2
        go_ret
        rw [HB.out]
        exact ⟨rfl, rfl⟩
      · have HB := hide (bang_step l k hkl HH.out h33)
        have e1 : ((((⟨l.toArray⟩ : ByteArray)[k]'hks).toNat : Int) == 33) = false := by
          show ((l[k].toNat : Int) == 33) = false
          simp only [beq_eq_false_iff_ne]
          intro e
          exact h33 (UInt8.toNat_inj.1 (by have : l[k].toNat = 33 := by omega
                                           rw [this]; rfl))
        clear h33
        go_wp2
        go_round
        case rel => exact ⟨k + 1, by omega, by go_num, HB⟩
        case measure => simp [intOf]; omega
    · have hkc : k = c := by omega
      have HK := hide hkc
      clear hkc
      go_wp2
      go_ret
      have := HH.out
      rw [HK.out] at this
      rw [this]
      exact ⟨rfl, rfl⟩
end Go.Proofs.YtcnmbldikjljeaaDoor
