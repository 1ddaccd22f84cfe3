import Derived.Test.YtcnmbldikjljeaaGreatDoorJ11
import Derived.Test.YtcnmbldikjljeaaGreatDoorJ02
namespace Go.Proofs.YtcnmbldikjljeaaGreatDoor
open Go.RowKit

def fl (a : Int) (k : Nat) : Bool := ([77, 84, 87, 84, 70, 83, 83].take k).contains a
theorem fl_all (a : Int) : fl a 7 = isFirst a := by
  simp only [fl, isFirst, List.take_succ_cons, List.take_zero, List.contains_cons, List.contains_nil, Bool.or_false]
  cases (a == 77) <;> cases (a == 84) <;> cases (a == 87) <;> cases (a == 70) <;> cases (a == 83) <;> rfl
theorem fl_step (a : Int) (k : Nat) (hk : k < 7) : fl a (k + 1) = (fl a k || (a == [77, 84, 87, 84, 70, 83, 83][k])) := by
  match k, hk with
  | 0, _ => rw [Bool.eq_iff_iff]; (simp [fl]) <;> omega
  | 1, _ => rw [Bool.eq_iff_iff]; (simp [fl]) <;> omega
  | 2, _ => rw [Bool.eq_iff_iff]; (simp [fl]) <;> omega
  | 3, _ => rw [Bool.eq_iff_iff]; (simp [fl]) <;> omega
  | 4, _ => rw [Bool.eq_iff_iff]; (simp [fl]) <;> omega
  | 5, _ => rw [Bool.eq_iff_iff]; (simp [fl]) <;> omega
  | 6, _ => rw [Bool.eq_iff_iff]; (simp [fl]) <;> omega
def weekdayF (L : List Int) (s : Sg) : Int × Sg :=
  if isFirst (lookF L s) then
    (if dayOf (lookF L s) (lookF L (s.1 + 1, s.2)) < 7 then ((dayOf (lookF L s) (lookF L (s.1 + 1, s.2)) : Int), (s.1 + 1 + 1, s.2)) else (0, badF (s.1 + 1, s.2) (s.1 + 1)))
  else (0, badF s s.1)
theorem nb0 : (((⟨#[77, 111, 84, 117, 87, 101, 84, 104, 70, 114, 83, 97, 83, 117]⟩ : ByteArray)[0]'(by decide)).toNat : Int) = 77 := by kernel_rfl
theorem nb1 : (((⟨#[77, 111, 84, 117, 87, 101, 84, 104, 70, 114, 83, 97, 83, 117]⟩ : ByteArray)[1]'(by decide)).toNat : Int) = 111 := by kernel_rfl
theorem nb2 : (((⟨#[77, 111, 84, 117, 87, 101, 84, 104, 70, 114, 83, 97, 83, 117]⟩ : ByteArray)[2]'(by decide)).toNat : Int) = 84 := by kernel_rfl
theorem nb3 : (((⟨#[77, 111, 84, 117, 87, 101, 84, 104, 70, 114, 83, 97, 83, 117]⟩ : ByteArray)[3]'(by decide)).toNat : Int) = 117 := by kernel_rfl
theorem nb4 : (((⟨#[77, 111, 84, 117, 87, 101, 84, 104, 70, 114, 83, 97, 83, 117]⟩ : ByteArray)[4]'(by decide)).toNat : Int) = 87 := by kernel_rfl
theorem nb5 : (((⟨#[77, 111, 84, 117, 87, 101, 84, 104, 70, 114, 83, 97, 83, 117]⟩ : ByteArray)[5]'(by decide)).toNat : Int) = 101 := by kernel_rfl
theorem nb6 : (((⟨#[77, 111, 84, 117, 87, 101, 84, 104, 70, 114, 83, 97, 83, 117]⟩ : ByteArray)[6]'(by decide)).toNat : Int) = 84 := by kernel_rfl
theorem nb7 : (((⟨#[77, 111, 84, 117, 87, 101, 84, 104, 70, 114, 83, 97, 83, 117]⟩ : ByteArray)[7]'(by decide)).toNat : Int) = 104 := by kernel_rfl
theorem nb8 : (((⟨#[77, 111, 84, 117, 87, 101, 84, 104, 70, 114, 83, 97, 83, 117]⟩ : ByteArray)[8]'(by decide)).toNat : Int) = 70 := by kernel_rfl
theorem nb9 : (((⟨#[77, 111, 84, 117, 87, 101, 84, 104, 70, 114, 83, 97, 83, 117]⟩ : ByteArray)[9]'(by decide)).toNat : Int) = 114 := by kernel_rfl
theorem nb10 : (((⟨#[77, 111, 84, 117, 87, 101, 84, 104, 70, 114, 83, 97, 83, 117]⟩ : ByteArray)[10]'(by decide)).toNat : Int) = 83 := by kernel_rfl
theorem nb11 : (((⟨#[77, 111, 84, 117, 87, 101, 84, 104, 70, 114, 83, 97, 83, 117]⟩ : ByteArray)[11]'(by decide)).toNat : Int) = 97 := by kernel_rfl
theorem nb12 : (((⟨#[77, 111, 84, 117, 87, 101, 84, 104, 70, 114, 83, 97, 83, 117]⟩ : ByteArray)[12]'(by decide)).toNat : Int) = 83 := by kernel_rfl
theorem nb13 : (((⟨#[77, 111, 84, 117, 87, 101, 84, 104, 70, 114, 83, 97, 83, 117]⟩ : ByteArray)[13]'(by decide)).toNat : Int) = 117 := by kernel_rfl

section
variable {w : World} {b : Nat} {vL : Value} {L : List Int} {I P : Int}
set_option maxRecDepth 100000 in
set_option maxHeartbeats 4000000 in
theorem weekdayF_any (C : FC w b vL I P) (R : Row w b vL L) (hI : 0 ≤ I) (hI2 : I ≤ 90000) :
    Calls Tryz.prog 170 #[.pointer (some ⟨b, 0, none⟩)] w fun e w' => e = .returned (.int .i64 (weekdayF L (I, P)).1) ∧ FC w' b vL (weekdayF L (I, P)).2.1 (weekdayF L (I, P)).2.2 ∧ But b w w' := by
  obtain ⟨r, hr⟩ : ∃ r, weekdayF L (I, P) = r := ⟨_, rfl⟩
  rw [hr]
  unfold weekdayF at hr
  have HR := hide hr
  clear hr
  have hbd := lookF_bd R.vals (I, P)
  go_enter Tryz.func170, Tryz.ntmps170
  go_wp2_with fail
  refine (look_any C R hI).mono ?_
  rintro e w1 ⟨rfl, n, rfl⟩
  have C1 := C.drewN n
  have R1 := R.on (But.drewN b w n)
  have b1 := But.drewN b w n
  generalize w.drewN n = w1 at *
  generalize lookF L (I, P) = a at *
  go_wp2_with fail
  go_loopw [5, 6] (fun f i wr => ∃ k : Nat, k ≤ 7 ∧ i = .int .i64 k ∧ f = .bool (fl a k) ∧ wr = w1) (fun _ i _ => 7 - (intOf i).toNat)
  case atStart => exact ⟨0, by omega, rfl, rfl, rfl⟩
  case round =>
    obtain ⟨k, hk, rfl, rfl, rfl⟩ := hrel
    have hks : k = 7 ∨ k = 0 ∨ k = 1 ∨ k = 2 ∨ k = 3 ∨ k = 4 ∨ k = 5 ∨ k = 6 := by omega
    rcases hks with rfl | hks
    · rw [fl_all]
      cases hf : isFirst a
      · have HF := hide hf
        rw [hf] at HR
        clear hf
        have c1 := C1.c1
        go_wp2_with fail
        refine (bad_any C1 _).mono ?_
        rintro e w2 ⟨rfl, C2, b2⟩
        go_wp2_with fail
        go_ret
        rw [← HR.out]
        exact ⟨rfl, C2, b1.trans b2⟩
      · have HF := hide hf
        rw [hf] at HR
        clear hf
        have c1 := C1.c1
        have f1 := C1.f1
        go_wp2_with fail
        refine (look_any (C1.setI (I + 1)) (R1.on (But.set _ _ _ _)) (by omega)).mono ?_
        rintro e w2 ⟨rfl, n2, rfl⟩
        have C2 := (C1.setI (I + 1)).drewN n2
        have b2 := b1.trans ((But.set b wr 1 (.int .i64 (I + 1))).trans (But.drewN b _ n2))
        generalize (wr.setCell ⟨b, 1, none⟩ (.int .i64 (I + 1))).drewN n2 = w2 at *
        have hbd2 := lookF_bd R.vals (I + 1, P)
        generalize lookF L (I + 1, P) = bb at *
        go_wp2_with fail
        go_loopw [8] (fun i wq => ∃ q : Int, 0 ≤ q ∧ q ≤ 7 ∧ i = .int .i64 q ∧ wq = w2 ∧ Hid ((1 ≤ q → ¬ (a = 77 ∧ bb = 111)) ∧ (2 ≤ q → ¬ (a = 84 ∧ bb = 117)) ∧ (3 ≤ q → ¬ (a = 87 ∧ bb = 101)) ∧ (4 ≤ q → ¬ (a = 84 ∧ bb = 104)) ∧ (5 ≤ q → ¬ (a = 70 ∧ bb = 114)) ∧ (6 ≤ q → ¬ (a = 83 ∧ bb = 97)) ∧ (7 ≤ q → ¬ (a = 83 ∧ bb = 117)))) (fun i _ => 7 - (intOf i).toNat)
        case atStart => exact ⟨0, by omega, by omega, rfl, rfl, by unfold Hid; omega⟩
        case round =>
          obtain ⟨q, hq0, hq7, rfl, rfl, H⟩ := hrel
          have c1 := C2.c1
          have f1 := C2.f1
          have hqs : q = 7 ∨ q = 0 ∨ q = 1 ∨ q = 2 ∨ q = 3 ∨ q = 4 ∨ q = 5 ∨ q = 6 := by omega
          rcases hqs with rfl | hqs
          · have hd7 : dayOf a bb = 7 := by have := H.out; simp only [dayOf]; repeat (rw [if_neg (by omega)])
            have HR2 := hide HR.out
            rw [hd7] at HR2
            clear hd7
            go_wp2_with fail
            refine (bad_any C2 _).mono ?_
            rintro e w3 ⟨rfl, C3, b3⟩
            go_wp2_with fail
            go_ret
            rw [← HR2.out]
            exact ⟨rfl, C3, b2.trans b3⟩
          · rcases hqs with rfl | rfl | rfl | rfl | rfl | rfl | rfl
            · have u0 := nb0
              have u1 := nb1
              by_cases hl : a = 77
              · have e1 : ((77 : Int) == a) = true := by simp [hl]
                by_cases hc : bb = 111
                · have e2 : ((111 : Int) == bb) = true := by simp [hc]
                  have hd7 : dayOf a bb = 0 := by rw [hl, hc]; rfl
                  have HR2 := hide HR.out
                  rw [hd7] at HR2
                  clear hd7 hl hc
                  go_wp2_with fail
                  go_ret
                  rw [← HR2.out]
                  exact ⟨rfl, C2.setI _, b2.trans (But.set _ _ _ _)⟩
                · have e2 : ((111 : Int) == bb) = false := by simp; omega
                  have hc2 := hide hc
                  clear hl hc
                  go_wp2_with fail
                  go_roundw
                  case rel =>
                    have hH := H.out
                    have := hc2.out
                    refine ⟨1, by omega, by omega, rfl, by trivial, by unfold Hid; omega⟩
                  case measure => simp [intOf]
              · have e1 : ((77 : Int) == a) = false := by simp; omega
                have hl2 := hide hl
                clear hl
                go_wp2_with fail
                go_roundw
                case rel =>
                  have hH := H.out
                  have := hl2.out
                  refine ⟨1, by omega, by omega, rfl, by trivial, by unfold Hid; omega⟩
                case measure => simp [intOf]
            · have u0 := nb2
              have u1 := nb3
              by_cases hl : a = 84
              · have e1 : ((84 : Int) == a) = true := by simp [hl]
                by_cases hc : bb = 117
                · have e2 : ((117 : Int) == bb) = true := by simp [hc]
                  have hd7 : dayOf a bb = 1 := by rw [hl, hc]; rfl
                  have HR2 := hide HR.out
                  rw [hd7] at HR2
                  clear hd7 hl hc
                  go_wp2_with fail
                  go_ret
                  rw [← HR2.out]
                  exact ⟨rfl, C2.setI _, b2.trans (But.set _ _ _ _)⟩
                · have e2 : ((117 : Int) == bb) = false := by simp; omega
                  have hc2 := hide hc
                  clear hl hc
                  go_wp2_with fail
                  go_roundw
                  case rel =>
                    have hH := H.out
                    have := hc2.out
                    refine ⟨2, by omega, by omega, rfl, by trivial, by unfold Hid; omega⟩
                  case measure => simp [intOf]
              · have e1 : ((84 : Int) == a) = false := by simp; omega
                have hl2 := hide hl
                clear hl
                go_wp2_with fail
                go_roundw
                case rel =>
                  have hH := H.out
                  have := hl2.out
                  refine ⟨2, by omega, by omega, rfl, by trivial, by unfold Hid; omega⟩
                case measure => simp [intOf]
            · have u0 := nb4
              have u1 := nb5
              by_cases hl : a = 87
              · have e1 : ((87 : Int) == a) = true := by simp [hl]
                by_cases hc : bb = 101
                · have e2 : ((101 : Int) == bb) = true := by simp [hc]
                  have hd7 : dayOf a bb = 2 := by rw [hl, hc]; rfl
                  have HR2 := hide HR.out
                  rw [hd7] at HR2
                  clear hd7 hl hc
                  go_wp2_with fail
                  go_ret
                  rw [← HR2.out]
                  exact ⟨rfl, C2.setI _, b2.trans (But.set _ _ _ _)⟩
                · have e2 : ((101 : Int) == bb) = false := by simp; omega
                  have hc2 := hide hc
                  clear hl hc
                  go_wp2_with fail
                  go_roundw
                  case rel =>
                    have hH := H.out
                    have := hc2.out
                    refine ⟨3, by omega, by omega, rfl, by trivial, by unfold Hid; omega⟩
                  case measure => simp [intOf]
              · have e1 : ((87 : Int) == a) = false := by simp; omega
                have hl2 := hide hl
                clear hl
                go_wp2_with fail
                go_roundw
                case rel =>
                  have hH := H.out
                  have := hl2.out
                  refine ⟨3, by omega, by omega, rfl, by trivial, by unfold Hid; omega⟩
                case measure => simp [intOf]
            · have u0 := nb6
              have u1 := nb7
              by_cases hl : a = 84
              · have e1 : ((84 : Int) == a) = true := by simp [hl]
                by_cases hc : bb = 104
                · have e2 : ((104 : Int) == bb) = true := by simp [hc]
                  have hd7 : dayOf a bb = 3 := by rw [hl, hc]; rfl
                  have HR2 := hide HR.out
                  rw [hd7] at HR2
                  clear hd7 hl hc
                  go_wp2_with fail
                  go_ret
                  rw [← HR2.out]
                  exact ⟨rfl, C2.setI _, b2.trans (But.set _ _ _ _)⟩
                · have e2 : ((104 : Int) == bb) = false := by simp; omega
                  have hc2 := hide hc
                  clear hl hc
                  go_wp2_with fail
                  go_roundw
                  case rel =>
                    have hH := H.out
                    have := hc2.out
                    refine ⟨4, by omega, by omega, rfl, by trivial, by unfold Hid; omega⟩
                  case measure => simp [intOf]
              · have e1 : ((84 : Int) == a) = false := by simp; omega
                have hl2 := hide hl
                clear hl
                go_wp2_with fail
                go_roundw
                case rel =>
                  have hH := H.out
                  have := hl2.out
                  refine ⟨4, by omega, by omega, rfl, by trivial, by unfold Hid; omega⟩
                case measure => simp [intOf]
            · have u0 := nb8
              have u1 := nb9
              by_cases hl : a = 70
              · have e1 : ((70 : Int) == a) = true := by simp [hl]
                by_cases hc : bb = 114
                · have e2 : ((114 : Int) == bb) = true := by simp [hc]
                  have hd7 : dayOf a bb = 4 := by rw [hl, hc]; rfl
                  have HR2 := hide HR.out
                  rw [hd7] at HR2
                  clear hd7 hl hc
                  go_wp2_with fail
                  go_ret
                  rw [← HR2.out]
                  exact ⟨rfl, C2.setI _, b2.trans (But.set _ _ _ _)⟩
                · have e2 : ((114 : Int) == bb) = false := by simp; omega
                  have hc2 := hide hc
                  clear hl hc
                  go_wp2_with fail
                  go_roundw
                  case rel =>
                    have hH := H.out
                    have := hc2.out
                    refine ⟨5, by omega, by omega, rfl, by trivial, by unfold Hid; omega⟩
                  case measure => simp [intOf]
              · have e1 : ((70 : Int) == a) = false := by simp; omega
                have hl2 := hide hl
                clear hl
                go_wp2_with fail
                go_roundw
                case rel =>
                  have hH := H.out
                  have := hl2.out
                  refine ⟨5, by omega, by omega, rfl, by trivial, by unfold Hid; omega⟩
                case measure => simp [intOf]
            · have u0 := nb10
              have u1 := nb11
              by_cases hl : a = 83
              · have e1 : ((83 : Int) == a) = true := by simp [hl]
                by_cases hc : bb = 97
                · have e2 : ((97 : Int) == bb) = true := by simp [hc]
                  have hd7 : dayOf a bb = 5 := by rw [hl, hc]; rfl
                  have HR2 := hide HR.out
                  rw [hd7] at HR2
                  clear hd7 hl hc
                  go_wp2_with fail
                  go_ret
                  rw [← HR2.out]
                  exact ⟨rfl, C2.setI _, b2.trans (But.set _ _ _ _)⟩
                · have e2 : ((97 : Int) == bb) = false := by simp; omega
                  have hc2 := hide hc
                  clear hl hc
                  go_wp2_with fail
                  go_roundw
                  case rel =>
                    have hH := H.out
                    have := hc2.out
                    refine ⟨6, by omega, by omega, rfl, by trivial, by unfold Hid; omega⟩
                  case measure => simp [intOf]
              · have e1 : ((83 : Int) == a) = false := by simp; omega
                have hl2 := hide hl
                clear hl
                go_wp2_with fail
                go_roundw
                case rel =>
                  have hH := H.out
                  have := hl2.out
                  refine ⟨6, by omega, by omega, rfl, by trivial, by unfold Hid; omega⟩
                case measure => simp [intOf]
            · have u0 := nb12
              have u1 := nb13
              by_cases hl : a = 83
              · have e1 : ((83 : Int) == a) = true := by simp [hl]
                by_cases hc : bb = 117
                · have e2 : ((117 : Int) == bb) = true := by simp [hc]
                  have hd7 : dayOf a bb = 6 := by rw [hl, hc]; rfl
                  have HR2 := hide HR.out
                  rw [hd7] at HR2
                  clear hd7 hl hc
                  go_wp2_with fail
                  go_ret
                  rw [← HR2.out]
                  exact ⟨rfl, C2.setI _, b2.trans (But.set _ _ _ _)⟩
                · have e2 : ((117 : Int) == bb) = false := by simp; omega
                  have hc2 := hide hc
                  clear hl hc
                  go_wp2_with fail
                  go_roundw
                  case rel =>
                    have hH := H.out
                    have := hc2.out
                    refine ⟨7, by omega, by omega, rfl, by trivial, by unfold Hid; omega⟩
                  case measure => simp [intOf]
              · have e1 : ((83 : Int) == a) = false := by simp; omega
                have hl2 := hide hl
                clear hl
                go_wp2_with fail
                go_roundw
                case rel =>
                  have hH := H.out
                  have := hl2.out
                  refine ⟨7, by omega, by omega, rfl, by trivial, by unfold Hid; omega⟩
                case measure => simp [intOf]
    · rcases hks with rfl | rfl | rfl | rfl | rfl | rfl | rfl
      · have u0 := nb0
        cases hf : fl a 0
        · by_cases hl : a = 77
          · have e1 : ((77 : Int) == a) = true := by simp [hl]
            have e3 : (a != 0) = true := by simp; omega
            have hn : fl a 1 = true := by rw [hl]; rfl
            have HN := hide hn
            clear hl hn
            go_wp2_with fail
            go_roundw
            case rel => exact ⟨1, by omega, rfl, by rw [HN.out], by trivial⟩
            case measure => simp [intOf]
          · have e1 : ((77 : Int) == a) = false := by simp; omega
            have hn : fl a 1 = false := by rw [fl_step a 0 (by omega), hf]; simp; omega
            have HN := hide hn
            clear hl hn
            go_wp2_with fail
            go_roundw
            case rel => exact ⟨1, by omega, rfl, by rw [HN.out], by trivial⟩
            case measure => simp [intOf]
        · have hn : fl a 1 = true := by rw [fl_step a 0 (by omega), hf]; rfl
          have HN := hide hn
          clear hn
          go_wp2_with fail
          go_roundw
          case rel => exact ⟨1, by omega, rfl, by rw [HN.out], by trivial⟩
          case measure => simp [intOf]
      · have u0 := nb2
        cases hf : fl a 1
        · by_cases hl : a = 84
          · have e1 : ((84 : Int) == a) = true := by simp [hl]
            have e3 : (a != 0) = true := by simp; omega
            have hn : fl a 2 = true := by rw [hl]; rfl
            have HN := hide hn
            clear hl hn
            go_wp2_with fail
            go_roundw
            case rel => exact ⟨2, by omega, rfl, by rw [HN.out], by trivial⟩
            case measure => simp [intOf]
          · have e1 : ((84 : Int) == a) = false := by simp; omega
            have hn : fl a 2 = false := by rw [fl_step a 1 (by omega), hf]; simp; omega
            have HN := hide hn
            clear hl hn
            go_wp2_with fail
            go_roundw
            case rel => exact ⟨2, by omega, rfl, by rw [HN.out], by trivial⟩
            case measure => simp [intOf]
        · have hn : fl a 2 = true := by rw [fl_step a 1 (by omega), hf]; rfl
          have HN := hide hn
          clear hn
          go_wp2_with fail
          go_roundw
          case rel => exact ⟨2, by omega, rfl, by rw [HN.out], by trivial⟩
          case measure => simp [intOf]
      · have u0 := nb4
        cases hf : fl a 2
        · by_cases hl : a = 87
          · have e1 : ((87 : Int) == a) = true := by simp [hl]
            have e3 : (a != 0) = true := by simp; omega
            have hn : fl a 3 = true := by rw [hl]; rfl
            have HN := hide hn
            clear hl hn
            go_wp2_with fail
            go_roundw
            case rel => exact ⟨3, by omega, rfl, by rw [HN.out], by trivial⟩
            case measure => simp [intOf]
          · have e1 : ((87 : Int) == a) = false := by simp; omega
            have hn : fl a 3 = false := by rw [fl_step a 2 (by omega), hf]; simp; omega
            have HN := hide hn
            clear hl hn
            go_wp2_with fail
            go_roundw
            case rel => exact ⟨3, by omega, rfl, by rw [HN.out], by trivial⟩
            case measure => simp [intOf]
        · have hn : fl a 3 = true := by rw [fl_step a 2 (by omega), hf]; rfl
          have HN := hide hn
          clear hn
          go_wp2_with fail
          go_roundw
          case rel => exact ⟨3, by omega, rfl, by rw [HN.out], by trivial⟩
          case measure => simp [intOf]
      · have u0 := nb6
        cases hf : fl a 3
        · by_cases hl : a = 84
          · have e1 : ((84 : Int) == a) = true := by simp [hl]
            have e3 : (a != 0) = true := by simp; omega
            have hn : fl a 4 = true := by rw [hl]; rfl
            have HN := hide hn
            clear hl hn
            go_wp2_with fail
            go_roundw
            case rel => exact ⟨4, by omega, rfl, by rw [HN.out], by trivial⟩
            case measure => simp [intOf]
          · have e1 : ((84 : Int) == a) = false := by simp; omega
            have hn : fl a 4 = false := by rw [fl_step a 3 (by omega), hf]; simp; omega
            have HN := hide hn
            clear hl hn
            go_wp2_with fail
            go_roundw
            case rel => exact ⟨4, by omega, rfl, by rw [HN.out], by trivial⟩
            case measure => simp [intOf]
        · have hn : fl a 4 = true := by rw [fl_step a 3 (by omega), hf]; rfl
          have HN := hide hn
          clear hn
          go_wp2_with fail
          go_roundw
          case rel => exact ⟨4, by omega, rfl, by rw [HN.out], by trivial⟩
          case measure => simp [intOf]
      · have u0 := nb8
        cases hf : fl a 4
        · by_cases hl : a = 70
          · have e1 : ((70 : Int) == a) = true := by simp [hl]
            have e3 : (a != 0) = true := by simp; omega
            have hn : fl a 5 = true := by rw [hl]; rfl
            have HN := hide hn
            clear hl hn
            go_wp2_with fail
            go_roundw
            case rel => exact ⟨5, by omega, rfl, by rw [HN.out], by trivial⟩
            case measure => simp [intOf]
          · have e1 : ((70 : Int) == a) = false := by simp; omega
            have hn : fl a 5 = false := by rw [fl_step a 4 (by omega), hf]; simp; omega
            have HN := hide hn
            clear hl hn
            go_wp2_with fail
            go_roundw
            case rel => exact ⟨5, by omega, rfl, by rw [HN.out], by trivial⟩
            case measure => simp [intOf]
        · have hn : fl a 5 = true := by rw [fl_step a 4 (by omega), hf]; rfl
          have HN := hide hn
          clear hn
          go_wp2_with fail
          go_roundw
          case rel => exact ⟨5, by omega, rfl, by rw [HN.out], by trivial⟩
          case measure => simp [intOf]
      · have u0 := nb10
        cases hf : fl a 5
        · by_cases hl : a = 83
          · have e1 : ((83 : Int) == a) = true := by simp [hl]
            have e3 : (a != 0) = true := by simp; omega
            have hn : fl a 6 = true := by rw [hl]; rfl
            have HN := hide hn
            clear hl hn
            go_wp2_with fail
            go_roundw
            case rel => exact ⟨6, by omega, rfl, by rw [HN.out], by trivial⟩
            case measure => simp [intOf]
          · have e1 : ((83 : Int) == a) = false := by simp; omega
            have hn : fl a 6 = false := by rw [fl_step a 5 (by omega), hf]; simp; omega
            have HN := hide hn
            clear hl hn
            go_wp2_with fail
            go_roundw
            case rel => exact ⟨6, by omega, rfl, by rw [HN.out], by trivial⟩
            case measure => simp [intOf]
        · have hn : fl a 6 = true := by rw [fl_step a 5 (by omega), hf]; rfl
          have HN := hide hn
          clear hn
          go_wp2_with fail
          go_roundw
          case rel => exact ⟨6, by omega, rfl, by rw [HN.out], by trivial⟩
          case measure => simp [intOf]
      · have u0 := nb12
        cases hf : fl a 6
        · by_cases hl : a = 83
          · have e1 : ((83 : Int) == a) = true := by simp [hl]
            have e3 : (a != 0) = true := by simp; omega
            have hn : fl a 7 = true := by rw [hl]; rfl
            have HN := hide hn
            clear hl hn
            go_wp2_with fail
            go_roundw
            case rel => exact ⟨7, by omega, rfl, by rw [HN.out], by trivial⟩
            case measure => simp [intOf]
          · have e1 : ((83 : Int) == a) = false := by simp; omega
            have hn : fl a 7 = false := by rw [fl_step a 6 (by omega), hf]; simp; omega
            have HN := hide hn
            clear hl hn
            go_wp2_with fail
            go_roundw
            case rel => exact ⟨7, by omega, rfl, by rw [HN.out], by trivial⟩
            case measure => simp [intOf]
        · have hn : fl a 7 = true := by rw [fl_step a 6 (by omega), hf]; rfl
          have HN := hide hn
          clear hn
          go_wp2_with fail
          go_roundw
          case rel => exact ⟨7, by omega, rfl, by rw [HN.out], by trivial⟩
          case measure => simp [intOf]
end
end Go.Proofs.YtcnmbldikjljeaaGreatDoor
namespace Go.Proofs.YtcnmbldikjljeaaGreatDoor
open Go.RowKit

def isTwo (b : Int) : Bool := decide (48 ≤ b) && decide (b ≤ 57)
def numBad (n last a : Int) (two : Bool) : Bool := decide (70 ≤ n) || decide (n ≤ last) || (two && a == 48)
def numberF (L : List Int) (s : Sg) (last : Int) : Int × Sg :=
  let a := takeF L s 48 57
  let b := lookF L a.2
  if isTwo b then
    (if numBad (10 * (a.1 - 48) + (b - 48)) last a.1 true then (10 * (a.1 - 48) + (b - 48), badF (a.2.1 + 1, a.2.2) a.2.1) else (10 * (a.1 - 48) + (b - 48), (a.2.1 + 1, a.2.2)))
  else
    (if numBad (a.1 - 48) last a.1 false then (a.1 - 48, badF a.2 (a.2.1 - 1)) else (a.1 - 48, a.2))

section
variable {w : World} {b : Nat} {vL : Value} {L : List Int} {I P : Int}
set_option maxRecDepth 100000 in
set_option maxHeartbeats 4000000 in
theorem numberF_any (C : FC w b vL I P) (R : Row w b vL L) (hI : 0 ≤ I) (hI2 : I ≤ 90000) (last : Int) :
    Calls Tryz.prog 133 #[.pointer (some ⟨b, 0, none⟩), .int .i64 last] w fun e w' => e = .returned (.int .i64 (numberF L (I, P) last).1) ∧ FC w' b vL (numberF L (I, P) last).2.1 (numberF L (I, P) last).2.2 ∧ But b w w' := by
  obtain ⟨r, hr⟩ : ∃ r, numberF L (I, P) last = r := ⟨_, rfl⟩
  rw [hr]
  unfold numberF at hr
  simp only at hr
  have HR := hide hr
  clear hr
  have lo1 := takeF_lo L (I, P) 48 57
  have hi1 := takeF_hi L (I, P) 48 57 (by omega)
  have i1 := takeF_I L (I, P) 48 57
  go_enter Tryz.func133, Tryz.ntmps133
  go_wp2_with fail
  refine (takeF_any C R hI (by omega) _ _).mono ?_
  rintro e w1 ⟨rfl, C1, b1⟩
  have R1 := R.on b1
  generalize takeF L (I, P) 48 57 = t1 at *
  obtain ⟨a, I1, P1⟩ := t1
  simp only at lo1 hi1 i1 C1 HR ⊢
  have hbd := lookF_bd R.vals (I1, P1)
  go_wp2_with fail
  refine (look_any C1 R1 (by omega)).mono ?_
  rintro e w2 ⟨rfl, n, rfl⟩
  have C2 := C1.drewN n
  have b2 := b1.trans (But.drewN b w1 n)
  generalize w1.drewN n = w2 at *
  generalize lookF L (I1, P1) = bb at *
  have c1 := C2.c1
  have f1 := C2.f1
  by_cases ht : 48 ≤ bb ∧ bb ≤ 57
  · have e1 : isTwo bb = true := by unfold isTwo; simp [ht.1, ht.2]
    rw [e1] at HR
    simp only [if_true] at HR
    clear e1
    obtain ⟨ht1, ht2⟩ := ht
    have C3 := C2.setI (I1 + 1)
    have b3 := b2.trans (But.set b w2 1 (.int .i64 (I1 + 1)))
    have c3 := C3.c1
    by_cases k1 : 70 ≤ 10 * (a - 48) + (bb - 48)
    · have e2 : numBad (10 * (a - 48) + (bb - 48)) last a true = true := by unfold numBad; simp [k1]
      rw [e2] at HR
      simp only [if_true] at HR
      clear e2
      go_wp2_with fail
      refine (bad_any C3 _).mono ?_
      rintro e w4 ⟨rfl, C4, b4⟩
      go_wp2_with fail
      go_ret
      rw [← HR.out]
      exact ⟨rfl, C4, b3.trans b4⟩
    · by_cases k2 : 10 * (a - 48) + (bb - 48) ≤ last
      · have e2 : numBad (10 * (a - 48) + (bb - 48)) last a true = true := by unfold numBad; simp [k2]
        rw [e2] at HR
        simp only [if_true] at HR
        clear e2
        go_wp2_with fail
        refine (bad_any C3 _).mono ?_
        rintro e w4 ⟨rfl, C4, b4⟩
        go_wp2_with fail
        go_ret
        rw [← HR.out]
        exact ⟨rfl, C4, b3.trans b4⟩
      · cases k3 : (a == 48)
        · have e2 : numBad (10 * (a - 48) + (bb - 48)) last a true = false := by unfold numBad; rw [k3]; simp; omega
          rw [e2] at HR
          simp only [Bool.false_eq_true, if_false] at HR
          clear e2
          go_wp2_with fail
          go_ret
          rw [← HR.out]
          exact ⟨rfl, C3, b3⟩
        · have e2 : numBad (10 * (a - 48) + (bb - 48)) last a true = true := by unfold numBad; rw [k3]; simp
          rw [e2] at HR
          simp only [if_true] at HR
          clear e2
          go_wp2_with fail
          refine (bad_any C3 _).mono ?_
          rintro e w4 ⟨rfl, C4, b4⟩
          go_wp2_with fail
          go_ret
          rw [← HR.out]
          exact ⟨rfl, C4, b3.trans b4⟩
  · have e1 : isTwo bb = false := by unfold isTwo; simp; omega
    rw [e1] at HR
    simp only [Bool.false_eq_true, if_false] at HR
    clear e1
    have hcases : (bb < 48) ∨ (48 ≤ bb ∧ 57 < bb) := by omega
    clear ht
    by_cases k1 : 70 ≤ a - 48
    · omega
    · by_cases k2 : a - 48 ≤ last
      · have e2 : numBad (a - 48) last a false = true := by unfold numBad; simp [k2]
        rw [e2] at HR
        simp only [if_true] at HR
        clear e2
        rcases hcases with h1 | ⟨h1, h2⟩
        all_goals
          go_wp2_with fail
          refine (bad_any C2 _).mono ?_
          rintro e w4 ⟨rfl, C4, b4⟩
          go_wp2_with fail
          go_ret
          rw [← HR.out]
          exact ⟨rfl, C4, b2.trans b4⟩
      · have e2 : numBad (a - 48) last a false = false := by unfold numBad; simp; omega
        rw [e2] at HR
        simp only [Bool.false_eq_true, if_false] at HR
        clear e2
        rcases hcases with h1 | ⟨h1, h2⟩
        all_goals
          go_wp2_with fail
          go_ret
          rw [← HR.out]
          exact ⟨rfl, C2, b2⟩
end
end Go.Proofs.YtcnmbldikjljeaaGreatDoor
