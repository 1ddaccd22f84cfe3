import Derived.Test.YtcnmbldikjljeaaGreatDoorJ11
import Derived.Deep.AppendLies
namespace Go.Proofs.YtcnmbldikjljeaaGreatDoor
open Go.RowKit

def okW (s : ByteArray) (p : Nat) (lo hi : Int) : Bool := if h : p < s.size then decide (lo ≤ ((s[p]'h).toNat : Int)) && decide (((s[p]'h).toNat : Int) ≤ hi) else false
def wl (s : ByteArray) (p n : Nat) : Nat → Nat → Int → Int → Nat
  | 0, _, _, _ => n
  | f + 1, i, lo, hi => if i < n then (if okW s (p + i) lo hi then wl s p n f (i + 1) 128 191 else 1) else n
def nOf (c : Int) : Nat := if 194 ≤ c ∧ c ≤ 223 then 2 else if 224 ≤ c ∧ c ≤ 239 then 3 else if 240 ≤ c ∧ c ≤ 244 then 4 else 1
def loOf (c : Int) : Int := if c = 224 then 160 else if c = 240 then 144 else 128
def hiOf (c : Int) : Int := if c = 237 then 159 else if c = 244 then 143 else 191
def wideF (s : ByteArray) (p : Nat) (c : Int) : Nat := wl s p (nOf c) 4 1 (loOf c) (hiOf c)

theorem okW_yes {s : ByteArray} {p : Nat} {x y : Int} (h : p < s.size) (hx : x ≤ ((s[p]'h).toNat : Int)) (hy : ((s[p]'h).toNat : Int) ≤ y) : okW s p x y = true := by simp [okW, h, hx, hy]
theorem okW_no {s : ByteArray} {p : Nat} {x y : Int} (h : p < s.size) (hn : ¬ x ≤ ((s[p]'h).toNat : Int) ∨ ¬ ((s[p]'h).toNat : Int) ≤ y) : okW s p x y = false := by
  simp only [okW, dif_pos h]
  rcases hn with hn | hn <;> simp [hn]
theorem okW_out {s : ByteArray} {p : Nat} {x y : Int} (h : ¬ p < s.size) : okW s p x y = false := by simp [okW, h]
theorem wl_yes {s : ByteArray} {p n f k : Nat} {x y : Int} (h : k < n) (ok : okW s (p + k) x y = true) : wl s p n (f + 1) k x y = wl s p n f (k + 1) 128 191 := by simp [wl, h, ok]
theorem wl_no {s : ByteArray} {p n f k : Nat} {x y : Int} (h : k < n) (ok : okW s (p + k) x y = false) : wl s p n (f + 1) k x y = 1 := by simp [wl, h, ok]
theorem wl_end {s : ByteArray} {p n f k : Nat} {x y : Int} (h : ¬ k < n) : wl s p n f k x y = n := by cases f <;> simp [wl, h]

set_option maxRecDepth 100000 in
set_option maxHeartbeats 4000000 in
theorem wide_any (s : ByteArray) (p : Nat) (hp : p < s.size) (hs : s.size ≤ 200) (w : World) :
    Calls Tryz.prog 169 #[.string s, .int .i64 p] w fun e w' => e = .returned (.int .i64 (wideF s p ((s[p]'hp).toNat : Int))) ∧ w' = w := by
  have hc1 : ((s[p]'hp).toNat : Int) ≤ 255 := by have := (s[p]'hp).toNat_lt; omega
  have hc0 : (0 : Int) ≤ ((s[p]'hp).toNat : Int) := by omega
  have hcl : (((s[p]'hp).toNat : Int) < 194 ∨ 244 < ((s[p]'hp).toNat : Int)) ∨ (194 ≤ ((s[p]'hp).toNat : Int) ∧ ((s[p]'hp).toNat : Int) ≤ 223) ∨ ((s[p]'hp).toNat : Int) = 224 ∨ ((s[p]'hp).toNat : Int) = 237 ∨
      (224 < ((s[p]'hp).toNat : Int) ∧ ((s[p]'hp).toNat : Int) ≤ 239 ∧ ((s[p]'hp).toNat : Int) ≠ 237) ∨ ((s[p]'hp).toNat : Int) = 240 ∨ ((s[p]'hp).toNat : Int) = 244 ∨ (240 < ((s[p]'hp).toNat : Int) ∧ ((s[p]'hp).toNat : Int) < 244) := by omega
  generalize hcc : ((s[p]'hp).toNat : Int) = c at *
  have hp' : (p : Int) < s.size := by omega
  rcases hcl with h | h | h | h | h | h | h | h
  · have hn : nOf c = 1 := by unfold nOf; split <;> (try split) <;> (try split) <;> omega
    have hlo : loOf c = 128 := by unfold loOf; split <;> (try split) <;> omega
    have hhi : hiOf c = 191 := by unfold hiOf; split <;> (try split) <;> omega
    have HW := hide (show wideF s p c = wl s p 1 4 1 128 191 by unfold wideF; rw [hn, hlo, hhi])
    clear hn hlo hhi
    have e1 : (c == 224) = false := by simp; omega
    have e2 : (c == 237) = false := by simp; omega
    have e3 : (c == 240) = false := by simp; omega
    have e4 : (c == 244) = false := by simp; omega
    rcases h with h | h
    all_goals
      go_enter Tryz.func169, Tryz.ntmps169
      go_wp2_with fail
      go_loop [7, 8, 9] (fun lo hi i => ∃ (f k : Nat) (x y : Int), lo = .int .u8 x ∧ hi = .int .u8 y ∧ i = .int .i64 k ∧ 1 ≤ k ∧ k ≤ 1 ∧ 1 ≤ k + f ∧ Hid (wl s p 1 f k x y = wideF s p c)) (fun _ _ i => 4 - (intOf i).toNat)
      case atStart => exact ⟨4, 1, _, _, rfl, rfl, rfl, by omega, by omega, by omega, HW.out.symm⟩
      case round =>
        obtain ⟨f, k, x, y, rfl, rfl, rfl, hk1, hk2, hkf, HK⟩ := hrel
        by_cases hlt : k < 1
        · omega
        · have HS := hide (wl_end (s := s) (p := p) (f := f) (x := x) (y := y) hlt)
          go_wp2
          go_ret
          exact ⟨ret_int (by rw [← HK.out, HS.out]; rfl), rfl⟩
  · have hn : nOf c = 2 := by unfold nOf; split <;> (try split) <;> (try split) <;> omega
    have hlo : loOf c = 128 := by unfold loOf; split <;> (try split) <;> omega
    have hhi : hiOf c = 191 := by unfold hiOf; split <;> (try split) <;> omega
    have HW := hide (show wideF s p c = wl s p 2 4 1 128 191 by unfold wideF; rw [hn, hlo, hhi])
    clear hn hlo hhi
    have d1 : decide (194 ≤ c) = true := by simp; omega
    have d2 : decide (c ≤ 223) = true := by simp; omega
    have d3 : decide (224 ≤ c) = false := by simp; omega
    have d4 : decide (c ≤ 239) = true := by simp; omega
    have d5 : decide (240 ≤ c) = false := by simp; omega
    have d6 : decide (c ≤ 244) = true := by simp; omega
    have e1 : (c == 224) = false := by simp; omega
    have e2 : (c == 237) = false := by simp; omega
    have e3 : (c == 240) = false := by simp; omega
    have e4 : (c == 244) = false := by simp; omega
    obtain ⟨h1, h2⟩ := h
    go_enter Tryz.func169, Tryz.ntmps169
    go_wp2_with fail
    go_loop [7, 8, 9] (fun lo hi i => ∃ (f k : Nat) (x y : Int), lo = .int .u8 x ∧ hi = .int .u8 y ∧ i = .int .i64 k ∧ 1 ≤ k ∧ k ≤ 2 ∧ 2 ≤ k + f ∧ Hid (wl s p 2 f k x y = wideF s p c)) (fun _ _ i => 4 - (intOf i).toNat)
    case atStart => exact ⟨4, 1, _, _, rfl, rfl, rfl, by omega, by omega, by omega, HW.out.symm⟩
    case round =>
      obtain ⟨f, k, x, y, rfl, rfl, rfl, hk1, hk2, hkf, HK⟩ := hrel
      by_cases hlt : k < 2
      · obtain ⟨f, rfl⟩ : ∃ g, f = g + 1 := ⟨f - 1, by omega⟩
        have hlt' : (k : Int) < 2 := by omega
        by_cases hin : p + k < s.size
        · have hin' : (p : Int) + k < s.size := by omega
          have hz0 : (0 : Int) ≤ ((s[p + k]'hin).toNat : Int) := by omega
          by_cases hx : x ≤ ((s[p + k]'hin).toNat : Int)
          · by_cases hy : ((s[p + k]'hin).toNat : Int) ≤ y
            · have HS := hide (wl_yes (f := f) hlt (okW_yes hin hx hy))
              go_wp2
              go_round
              case rel => exact ⟨f, k + 1, 128, 191, rfl, rfl, by go_num, by omega, by omega, by omega, HS.out.symm.trans HK.out⟩
              case measure => simp [intOf]; omega
            · have HS := hide (wl_no (f := f) (x := x) (y := y) hlt (okW_no hin (.inr hy)))
              go_wp2
              go_ret
              exact ⟨ret_int (by rw [← HK.out, HS.out]; rfl), rfl⟩
          · have HS := hide (wl_no (f := f) (x := x) (y := y) hlt (okW_no hin (.inl hx)))
            go_wp2
            go_ret
            exact ⟨ret_int (by rw [← HK.out, HS.out]; rfl), rfl⟩
        · have hin' : (s.size : Int) ≤ (p : Int) + k := by omega
          have HS := hide (wl_no (f := f) (x := x) (y := y) hlt (okW_out hin))
          go_wp2
          go_ret
          exact ⟨ret_int (by rw [← HK.out, HS.out]; rfl), rfl⟩
      · have HS := hide (wl_end (s := s) (p := p) (f := f) (x := x) (y := y) hlt)
        go_wp2
        go_ret
        exact ⟨ret_int (by rw [← HK.out, HS.out]; rfl), rfl⟩
  · have hn : nOf c = 3 := by unfold nOf; split <;> (try split) <;> (try split) <;> omega
    have hlo : loOf c = 160 := by unfold loOf; split <;> (try split) <;> omega
    have hhi : hiOf c = 191 := by unfold hiOf; split <;> (try split) <;> omega
    have HW := hide (show wideF s p c = wl s p 3 4 1 160 191 by unfold wideF; rw [hn, hlo, hhi])
    clear hn hlo hhi
    have d1 : decide (194 ≤ c) = true := by simp; omega
    have d2 : decide (c ≤ 223) = false := by simp; omega
    have d3 : decide (224 ≤ c) = true := by simp; omega
    have d4 : decide (c ≤ 239) = true := by simp; omega
    have d5 : decide (240 ≤ c) = false := by simp; omega
    have d6 : decide (c ≤ 244) = true := by simp; omega
    have e1 : (c == 224) = true := by simp [h]
    have e2 : (c == 237) = false := by simp; omega
    have e3 : (c == 240) = false := by simp; omega
    have e4 : (c == 244) = false := by simp; omega
    have h1 : 224 ≤ c := by omega
    have h2 : c ≤ 224 := by omega
    clear h
    go_enter Tryz.func169, Tryz.ntmps169
    go_wp2_with fail
    go_loop [7, 8, 9] (fun lo hi i => ∃ (f k : Nat) (x y : Int), lo = .int .u8 x ∧ hi = .int .u8 y ∧ i = .int .i64 k ∧ 1 ≤ k ∧ k ≤ 3 ∧ 3 ≤ k + f ∧ Hid (wl s p 3 f k x y = wideF s p c)) (fun _ _ i => 4 - (intOf i).toNat)
    case atStart => exact ⟨4, 1, _, _, rfl, rfl, rfl, by omega, by omega, by omega, HW.out.symm⟩
    case round =>
      obtain ⟨f, k, x, y, rfl, rfl, rfl, hk1, hk2, hkf, HK⟩ := hrel
      by_cases hlt : k < 3
      · obtain ⟨f, rfl⟩ : ∃ g, f = g + 1 := ⟨f - 1, by omega⟩
        have hlt' : (k : Int) < 3 := by omega
        by_cases hin : p + k < s.size
        · have hin' : (p : Int) + k < s.size := by omega
          have hz0 : (0 : Int) ≤ ((s[p + k]'hin).toNat : Int) := by omega
          by_cases hx : x ≤ ((s[p + k]'hin).toNat : Int)
          · by_cases hy : ((s[p + k]'hin).toNat : Int) ≤ y
            · have HS := hide (wl_yes (f := f) hlt (okW_yes hin hx hy))
              go_wp2
              go_round
              case rel => exact ⟨f, k + 1, 128, 191, rfl, rfl, by go_num, by omega, by omega, by omega, HS.out.symm.trans HK.out⟩
              case measure => simp [intOf]; omega
            · have HS := hide (wl_no (f := f) (x := x) (y := y) hlt (okW_no hin (.inr hy)))
              go_wp2
              go_ret
              exact ⟨ret_int (by rw [← HK.out, HS.out]; rfl), rfl⟩
          · have HS := hide (wl_no (f := f) (x := x) (y := y) hlt (okW_no hin (.inl hx)))
            go_wp2
            go_ret
            exact ⟨ret_int (by rw [← HK.out, HS.out]; rfl), rfl⟩
        · have hin' : (s.size : Int) ≤ (p : Int) + k := by omega
          have HS := hide (wl_no (f := f) (x := x) (y := y) hlt (okW_out hin))
          go_wp2
          go_ret
          exact ⟨ret_int (by rw [← HK.out, HS.out]; rfl), rfl⟩
      · have HS := hide (wl_end (s := s) (p := p) (f := f) (x := x) (y := y) hlt)
        go_wp2
        go_ret
        exact ⟨ret_int (by rw [← HK.out, HS.out]; rfl), rfl⟩
  · have hn : nOf c = 3 := by unfold nOf; split <;> (try split) <;> (try split) <;> omega
    have hlo : loOf c = 128 := by unfold loOf; split <;> (try split) <;> omega
    have hhi : hiOf c = 159 := by unfold hiOf; split <;> (try split) <;> omega
    have HW := hide (show wideF s p c = wl s p 3 4 1 128 159 by unfold wideF; rw [hn, hlo, hhi])
    clear hn hlo hhi
    have d1 : decide (194 ≤ c) = true := by simp; omega
    have d2 : decide (c ≤ 223) = false := by simp; omega
    have d3 : decide (224 ≤ c) = true := by simp; omega
    have d4 : decide (c ≤ 239) = true := by simp; omega
    have d5 : decide (240 ≤ c) = false := by simp; omega
    have d6 : decide (c ≤ 244) = true := by simp; omega
    have e1 : (c == 224) = false := by simp; omega
    have e2 : (c == 237) = true := by simp [h]
    have e3 : (c == 240) = false := by simp; omega
    have e4 : (c == 244) = false := by simp; omega
    have h1 : 237 ≤ c := by omega
    have h2 : c ≤ 237 := by omega
    clear h
    go_enter Tryz.func169, Tryz.ntmps169
    go_wp2_with fail
    go_loop [7, 8, 9] (fun lo hi i => ∃ (f k : Nat) (x y : Int), lo = .int .u8 x ∧ hi = .int .u8 y ∧ i = .int .i64 k ∧ 1 ≤ k ∧ k ≤ 3 ∧ 3 ≤ k + f ∧ Hid (wl s p 3 f k x y = wideF s p c)) (fun _ _ i => 4 - (intOf i).toNat)
    case atStart => exact ⟨4, 1, _, _, rfl, rfl, rfl, by omega, by omega, by omega, HW.out.symm⟩
    case round =>
      obtain ⟨f, k, x, y, rfl, rfl, rfl, hk1, hk2, hkf, HK⟩ := hrel
      by_cases hlt : k < 3
      · obtain ⟨f, rfl⟩ : ∃ g, f = g + 1 := ⟨f - 1, by omega⟩
        have hlt' : (k : Int) < 3 := by omega
        by_cases hin : p + k < s.size
        · have hin' : (p : Int) + k < s.size := by omega
          have hz0 : (0 : Int) ≤ ((s[p + k]'hin).toNat : Int) := by omega
          by_cases hx : x ≤ ((s[p + k]'hin).toNat : Int)
          · by_cases hy : ((s[p + k]'hin).toNat : Int) ≤ y
            · have HS := hide (wl_yes (f := f) hlt (okW_yes hin hx hy))
              go_wp2
              go_round
              case rel => exact ⟨f, k + 1, 128, 191, rfl, rfl, by go_num, by omega, by omega, by omega, HS.out.symm.trans HK.out⟩
              case measure => simp [intOf]; omega
            · have HS := hide (wl_no (f := f) (x := x) (y := y) hlt (okW_no hin (.inr hy)))
              go_wp2
              go_ret
              exact ⟨ret_int (by rw [← HK.out, HS.out]; rfl), rfl⟩
          · have HS := hide (wl_no (f := f) (x := x) (y := y) hlt (okW_no hin (.inl hx)))
            go_wp2
            go_ret
            exact ⟨ret_int (by rw [← HK.out, HS.out]; rfl), rfl⟩
        · have hin' : (s.size : Int) ≤ (p : Int) + k := by omega
          have HS := hide (wl_no (f := f) (x := x) (y := y) hlt (okW_out hin))
          go_wp2
          go_ret
          exact ⟨ret_int (by rw [← HK.out, HS.out]; rfl), rfl⟩
      · have HS := hide (wl_end (s := s) (p := p) (f := f) (x := x) (y := y) hlt)
        go_wp2
        go_ret
        exact ⟨ret_int (by rw [← HK.out, HS.out]; rfl), rfl⟩
  · have hn : nOf c = 3 := by unfold nOf; split <;> (try split) <;> (try split) <;> omega
    have hlo : loOf c = 128 := by unfold loOf; split <;> (try split) <;> omega
    have hhi : hiOf c = 191 := by unfold hiOf; split <;> (try split) <;> omega
    have HW := hide (show wideF s p c = wl s p 3 4 1 128 191 by unfold wideF; rw [hn, hlo, hhi])
    clear hn hlo hhi
    have d1 : decide (194 ≤ c) = true := by simp; omega
    have d2 : decide (c ≤ 223) = false := by simp; omega
    have d3 : decide (224 ≤ c) = true := by simp; omega
    have d4 : decide (c ≤ 239) = true := by simp; omega
    have d5 : decide (240 ≤ c) = false := by simp; omega
    have d6 : decide (c ≤ 244) = true := by simp; omega
    have e1 : (c == 224) = false := by simp; omega
    have e2 : (c == 237) = false := by simp; omega
    have e3 : (c == 240) = false := by simp; omega
    have e4 : (c == 244) = false := by simp; omega
    obtain ⟨h1, h2, h3⟩ := h
    clear h3
    go_enter Tryz.func169, Tryz.ntmps169
    go_wp2_with fail
    go_loop [7, 8, 9] (fun lo hi i => ∃ (f k : Nat) (x y : Int), lo = .int .u8 x ∧ hi = .int .u8 y ∧ i = .int .i64 k ∧ 1 ≤ k ∧ k ≤ 3 ∧ 3 ≤ k + f ∧ Hid (wl s p 3 f k x y = wideF s p c)) (fun _ _ i => 4 - (intOf i).toNat)
    case atStart => exact ⟨4, 1, _, _, rfl, rfl, rfl, by omega, by omega, by omega, HW.out.symm⟩
    case round =>
      obtain ⟨f, k, x, y, rfl, rfl, rfl, hk1, hk2, hkf, HK⟩ := hrel
      by_cases hlt : k < 3
      · obtain ⟨f, rfl⟩ : ∃ g, f = g + 1 := ⟨f - 1, by omega⟩
        have hlt' : (k : Int) < 3 := by omega
        by_cases hin : p + k < s.size
        · have hin' : (p : Int) + k < s.size := by omega
          have hz0 : (0 : Int) ≤ ((s[p + k]'hin).toNat : Int) := by omega
          by_cases hx : x ≤ ((s[p + k]'hin).toNat : Int)
          · by_cases hy : ((s[p + k]'hin).toNat : Int) ≤ y
            · have HS := hide (wl_yes (f := f) hlt (okW_yes hin hx hy))
              go_wp2
              go_round
              case rel => exact ⟨f, k + 1, 128, 191, rfl, rfl, by go_num, by omega, by omega, by omega, HS.out.symm.trans HK.out⟩
              case measure => simp [intOf]; omega
            · have HS := hide (wl_no (f := f) (x := x) (y := y) hlt (okW_no hin (.inr hy)))
              go_wp2
              go_ret
              exact ⟨ret_int (by rw [← HK.out, HS.out]; rfl), rfl⟩
          · have HS := hide (wl_no (f := f) (x := x) (y := y) hlt (okW_no hin (.inl hx)))
            go_wp2
            go_ret
            exact ⟨ret_int (by rw [← HK.out, HS.out]; rfl), rfl⟩
        · have hin' : (s.size : Int) ≤ (p : Int) + k := by omega
          have HS := hide (wl_no (f := f) (x := x) (y := y) hlt (okW_out hin))
          go_wp2
          go_ret
          exact ⟨ret_int (by rw [← HK.out, HS.out]; rfl), rfl⟩
      · have HS := hide (wl_end (s := s) (p := p) (f := f) (x := x) (y := y) hlt)
        go_wp2
        go_ret
        exact ⟨ret_int (by rw [← HK.out, HS.out]; rfl), rfl⟩
  · have hn : nOf c = 4 := by unfold nOf; split <;> (try split) <;> (try split) <;> omega
    have hlo : loOf c = 144 := by unfold loOf; split <;> (try split) <;> omega
    have hhi : hiOf c = 191 := by unfold hiOf; split <;> (try split) <;> omega
    have HW := hide (show wideF s p c = wl s p 4 4 1 144 191 by unfold wideF; rw [hn, hlo, hhi])
    clear hn hlo hhi
    have d1 : decide (194 ≤ c) = true := by simp; omega
    have d2 : decide (c ≤ 223) = false := by simp; omega
    have d3 : decide (224 ≤ c) = true := by simp; omega
    have d4 : decide (c ≤ 239) = false := by simp; omega
    have d5 : decide (240 ≤ c) = true := by simp; omega
    have d6 : decide (c ≤ 244) = true := by simp; omega
    have e1 : (c == 224) = false := by simp; omega
    have e2 : (c == 237) = false := by simp; omega
    have e3 : (c == 240) = true := by simp [h]
    have e4 : (c == 244) = false := by simp; omega
    have h1 : 240 ≤ c := by omega
    have h2 : c ≤ 240 := by omega
    clear h
    go_enter Tryz.func169, Tryz.ntmps169
    go_wp2_with fail
    go_loop [7, 8, 9] (fun lo hi i => ∃ (f k : Nat) (x y : Int), lo = .int .u8 x ∧ hi = .int .u8 y ∧ i = .int .i64 k ∧ 1 ≤ k ∧ k ≤ 4 ∧ 4 ≤ k + f ∧ Hid (wl s p 4 f k x y = wideF s p c)) (fun _ _ i => 4 - (intOf i).toNat)
    case atStart => exact ⟨4, 1, _, _, rfl, rfl, rfl, by omega, by omega, by omega, HW.out.symm⟩
    case round =>
      obtain ⟨f, k, x, y, rfl, rfl, rfl, hk1, hk2, hkf, HK⟩ := hrel
      by_cases hlt : k < 4
      · obtain ⟨f, rfl⟩ : ∃ g, f = g + 1 := ⟨f - 1, by omega⟩
        have hlt' : (k : Int) < 4 := by omega
        by_cases hin : p + k < s.size
        · have hin' : (p : Int) + k < s.size := by omega
          have hz0 : (0 : Int) ≤ ((s[p + k]'hin).toNat : Int) := by omega
          by_cases hx : x ≤ ((s[p + k]'hin).toNat : Int)
          · by_cases hy : ((s[p + k]'hin).toNat : Int) ≤ y
            · have HS := hide (wl_yes (f := f) hlt (okW_yes hin hx hy))
              go_wp2
              go_round
              case rel => exact ⟨f, k + 1, 128, 191, rfl, rfl, by go_num, by omega, by omega, by omega, HS.out.symm.trans HK.out⟩
              case measure => simp [intOf]; omega
            · have HS := hide (wl_no (f := f) (x := x) (y := y) hlt (okW_no hin (.inr hy)))
              go_wp2
              go_ret
              exact ⟨ret_int (by rw [← HK.out, HS.out]; rfl), rfl⟩
          · have HS := hide (wl_no (f := f) (x := x) (y := y) hlt (okW_no hin (.inl hx)))
            go_wp2
            go_ret
            exact ⟨ret_int (by rw [← HK.out, HS.out]; rfl), rfl⟩
        · have hin' : (s.size : Int) ≤ (p : Int) + k := by omega
          have HS := hide (wl_no (f := f) (x := x) (y := y) hlt (okW_out hin))
          go_wp2
          go_ret
          exact ⟨ret_int (by rw [← HK.out, HS.out]; rfl), rfl⟩
      · have HS := hide (wl_end (s := s) (p := p) (f := f) (x := x) (y := y) hlt)
        go_wp2
        go_ret
        exact ⟨ret_int (by rw [← HK.out, HS.out]; rfl), rfl⟩
  · have hn : nOf c = 4 := by unfold nOf; split <;> (try split) <;> (try split) <;> omega
    have hlo : loOf c = 128 := by unfold loOf; split <;> (try split) <;> omega
    have hhi : hiOf c = 143 := by unfold hiOf; split <;> (try split) <;> omega
    have HW := hide (show wideF s p c = wl s p 4 4 1 128 143 by unfold wideF; rw [hn, hlo, hhi])
    clear hn hlo hhi
    have d1 : decide (194 ≤ c) = true := by simp; omega
    have d2 : decide (c ≤ 223) = false := by simp; omega
    have d3 : decide (224 ≤ c) = true := by simp; omega
    have d4 : decide (c ≤ 239) = false := by simp; omega
    have d5 : decide (240 ≤ c) = true := by simp; omega
    have d6 : decide (c ≤ 244) = true := by simp; omega
    have e1 : (c == 224) = false := by simp; omega
    have e2 : (c == 237) = false := by simp; omega
    have e3 : (c == 240) = false := by simp; omega
    have e4 : (c == 244) = true := by simp [h]
    have h1 : 244 ≤ c := by omega
    have h2 : c ≤ 244 := by omega
    clear h
    go_enter Tryz.func169, Tryz.ntmps169
    go_wp2_with fail
    go_loop [7, 8, 9] (fun lo hi i => ∃ (f k : Nat) (x y : Int), lo = .int .u8 x ∧ hi = .int .u8 y ∧ i = .int .i64 k ∧ 1 ≤ k ∧ k ≤ 4 ∧ 4 ≤ k + f ∧ Hid (wl s p 4 f k x y = wideF s p c)) (fun _ _ i => 4 - (intOf i).toNat)
    case atStart => exact ⟨4, 1, _, _, rfl, rfl, rfl, by omega, by omega, by omega, HW.out.symm⟩
    case round =>
      obtain ⟨f, k, x, y, rfl, rfl, rfl, hk1, hk2, hkf, HK⟩ := hrel
      by_cases hlt : k < 4
      · obtain ⟨f, rfl⟩ : ∃ g, f = g + 1 := ⟨f - 1, by omega⟩
        have hlt' : (k : Int) < 4 := by omega
        by_cases hin : p + k < s.size
        · have hin' : (p : Int) + k < s.size := by omega
          have hz0 : (0 : Int) ≤ ((s[p + k]'hin).toNat : Int) := by omega
          by_cases hx : x ≤ ((s[p + k]'hin).toNat : Int)
          · by_cases hy : ((s[p + k]'hin).toNat : Int) ≤ y
            · have HS := hide (wl_yes (f := f) hlt (okW_yes hin hx hy))
              go_wp2
              go_round
              case rel => exact ⟨f, k + 1, 128, 191, rfl, rfl, by go_num, by omega, by omega, by omega, HS.out.symm.trans HK.out⟩
              case measure => simp [intOf]; omega
            · have HS := hide (wl_no (f := f) (x := x) (y := y) hlt (okW_no hin (.inr hy)))
              go_wp2
              go_ret
              exact ⟨ret_int (by rw [← HK.out, HS.out]; rfl), rfl⟩
          · have HS := hide (wl_no (f := f) (x := x) (y := y) hlt (okW_no hin (.inl hx)))
            go_wp2
            go_ret
            exact ⟨ret_int (by rw [← HK.out, HS.out]; rfl), rfl⟩
        · have hin' : (s.size : Int) ≤ (p : Int) + k := by omega
          have HS := hide (wl_no (f := f) (x := x) (y := y) hlt (okW_out hin))
          go_wp2
          go_ret
          exact ⟨ret_int (by rw [← HK.out, HS.out]; rfl), rfl⟩
      · have HS := hide (wl_end (s := s) (p := p) (f := f) (x := x) (y := y) hlt)
        go_wp2
        go_ret
        exact ⟨ret_int (by rw [← HK.out, HS.out]; rfl), rfl⟩
  · have hn : nOf c = 4 := by unfold nOf; split <;> (try split) <;> (try split) <;> omega
    have hlo : loOf c = 128 := by unfold loOf; split <;> (try split) <;> omega
    have hhi : hiOf c = 191 := by unfold hiOf; split <;> (try split) <;> omega
    have HW := hide (show wideF s p c = wl s p 4 4 1 128 191 by unfold wideF; rw [hn, hlo, hhi])
    clear hn hlo hhi
    have d1 : decide (194 ≤ c) = true := by simp; omega
    have d2 : decide (c ≤ 223) = false := by simp; omega
    have d3 : decide (224 ≤ c) = true := by simp; omega
    have d4 : decide (c ≤ 239) = false := by simp; omega
    have d5 : decide (240 ≤ c) = true := by simp; omega
    have d6 : decide (c ≤ 244) = true := by simp; omega
    have e1 : (c == 224) = false := by simp; omega
    have e2 : (c == 237) = false := by simp; omega
    have e3 : (c == 240) = false := by simp; omega
    have e4 : (c == 244) = false := by simp; omega
    obtain ⟨h1, h2⟩ := h
    go_enter Tryz.func169, Tryz.ntmps169
    go_wp2_with fail
    go_loop [7, 8, 9] (fun lo hi i => ∃ (f k : Nat) (x y : Int), lo = .int .u8 x ∧ hi = .int .u8 y ∧ i = .int .i64 k ∧ 1 ≤ k ∧ k ≤ 4 ∧ 4 ≤ k + f ∧ Hid (wl s p 4 f k x y = wideF s p c)) (fun _ _ i => 4 - (intOf i).toNat)
    case atStart => exact ⟨4, 1, _, _, rfl, rfl, rfl, by omega, by omega, by omega, HW.out.symm⟩
    case round =>
      obtain ⟨f, k, x, y, rfl, rfl, rfl, hk1, hk2, hkf, HK⟩ := hrel
      by_cases hlt : k < 4
      · obtain ⟨f, rfl⟩ : ∃ g, f = g + 1 := ⟨f - 1, by omega⟩
        have hlt' : (k : Int) < 4 := by omega
        by_cases hin : p + k < s.size
        · have hin' : (p : Int) + k < s.size := by omega
          have hz0 : (0 : Int) ≤ ((s[p + k]'hin).toNat : Int) := by omega
          by_cases hx : x ≤ ((s[p + k]'hin).toNat : Int)
          · by_cases hy : ((s[p + k]'hin).toNat : Int) ≤ y
            · have HS := hide (wl_yes (f := f) hlt (okW_yes hin hx hy))
              go_wp2
              go_round
              case rel => exact ⟨f, k + 1, 128, 191, rfl, rfl, by go_num, by omega, by omega, by omega, HS.out.symm.trans HK.out⟩
              case measure => simp [intOf]; omega
            · have HS := hide (wl_no (f := f) (x := x) (y := y) hlt (okW_no hin (.inr hy)))
              go_wp2
              go_ret
              exact ⟨ret_int (by rw [← HK.out, HS.out]; rfl), rfl⟩
          · have HS := hide (wl_no (f := f) (x := x) (y := y) hlt (okW_no hin (.inl hx)))
            go_wp2
            go_ret
            exact ⟨ret_int (by rw [← HK.out, HS.out]; rfl), rfl⟩
        · have hin' : (s.size : Int) ≤ (p : Int) + k := by omega
          have HS := hide (wl_no (f := f) (x := x) (y := y) hlt (okW_out hin))
          go_wp2
          go_ret
          exact ⟨ret_int (by rw [← HK.out, HS.out]; rfl), rfl⟩
      · have HS := hide (wl_end (s := s) (p := p) (f := f) (x := x) (y := y) hlt)
        go_wp2
        go_ret
        exact ⟨ret_int (by rw [← HK.out, HS.out]; rfl), rfl⟩
end Go.Proofs.YtcnmbldikjljeaaGreatDoor
namespace Go.Proofs.YtcnmbldikjljeaaGreatDoor
open Go.RowKit

theorem u8Info : (Tryz.prog.info? 5).map (fun i => (i.zero, i.size, i.bytes)) = some (some (.int .u8 0), 1, 1) := by kernel_rfl
def plain (c : Int) : Int := if 128 ≤ c then 0 else c
def crun (s : ByteArray) : Nat → Nat → List Int
  | 0, _ => []
  | f + 1, pos => if h : pos < s.size then plain ((s[pos]'h).toNat : Int) :: crun s f (pos + wideF s pos ((s[pos]'h).toNat : Int)) else []
theorem crun_go {s : ByteArray} {f pos : Nat} (h : pos < s.size) : crun s (f + 1) pos = plain ((s[pos]'h).toNat : Int) :: crun s f (pos + wideF s pos ((s[pos]'h).toNat : Int)) := by simp [crun, h]
theorem crun_end {s : ByteArray} {f pos : Nat} (h : ¬ pos < s.size) : crun s f pos = [] := by cases f <;> simp [crun, h]
def u8s (l : List Int) : List Value := l.map (Value.int .u8)
theorem wl_pos (s : ByteArray) (p n : Nat) (hn : 1 ≤ n) (hn2 : n ≤ 4) : ∀ f i lo hi, 1 ≤ wl s p n f i lo hi ∧ wl s p n f i lo hi ≤ 4 := by
  intro f
  induction f with
  | zero => intro i lo hi; simp only [wl]; omega
  | succ f ih =>
    intro i lo hi; simp only [wl]
    split
    · split
      · exact ih _ _ _
      · omega
    · omega
theorem wideF_pos (s : ByteArray) (p : Nat) (c : Int) : 1 ≤ wideF s p c ∧ wideF s p c ≤ 4 :=
  wl_pos s p _ (by unfold nOf; split <;> (try split) <;> (try split) <;> omega) (by unfold nOf; split <;> (try split) <;> (try split) <;> omega) _ _ _ _

set_option maxRecDepth 100000 in
set_option maxHeartbeats 2000000 in
theorem characters_any (s : ByteArray) (hs : s.size ≤ 200) (w : World) :
    Calls Tryz.prog 130 #[.string s] w fun e w' => ∃ v, e = .returned v ∧ w'.ownsRow w.heap.size 5 1 v (crun s s.size 0).length (u8s (crun s s.size 0)) ∧ Below w.heap.size w w' := by
  obtain ⟨i0, hi, hz0, hz1, hz2⟩ := info_parts u8Info
  have HI := hide hi
  clear hi
  go_enter Tryz.func130, Tryz.ntmps130
  go_wp2_with fail
  go_loopw [3, 4] (fun v i wr => ∃ (f pos : Nat) (l : List Int), i = .int .i64 pos ∧ wr.ownsRow w.heap.size 5 1 v l.length (u8s l) ∧ Below w.heap.size w wr ∧ l.length ≤ pos ∧ pos ≤ s.size + 4 ∧ Hid (l ++ crun s f pos = crun s s.size 0) ∧ s.size ≤ pos + f) (fun _ i _ => s.size - (intOf i).toNat)
  case atStart => exact ⟨s.size, 0, [], rfl, World.ownsRow_nil _ _ _ _, Below.refl _ _, by simp, by omega, by unfold Hid; simp, by omega⟩
  case round =>
    obtain ⟨f, pos, l, rfl, hown, hb, hlp, hpl, HD, hf⟩ := hrel
    have hsz := hb.size
    by_cases hp : pos < s.size
    · obtain ⟨f, rfl⟩ : ∃ g, f = g + 1 := ⟨f - 1, by omega⟩
      have HG := hide (crun_go (f := f) hp)
      have hwd := wideF_pos s pos ((s[pos]'hp).toNat : Int)
      have HWD := hide (wide_any s pos hp hs)
      have hp' : (pos : Int) < s.size := by omega
      have hc1 : ((s[pos]'hp).toNat : Int) ≤ 255 := by have := (s[pos]'hp).toNat_lt; omega
      have hc0 : (0 : Int) ≤ ((s[pos]'hp).toNat : Int) := by omega
      obtain ⟨c, hc⟩ : ∃ c : Int, ((s[pos]'hp).toNat : Int) = c := ⟨_, rfl⟩
      rw [hc] at hwd HG hc1 hc0 HWD
      generalize hwf : wideF s pos c = wd at *
      by_cases h128 : 128 ≤ c
      · skip
        have hpl2 : plain c = 0 := by unfold plain; rw [if_pos h128]
        rw [hpl2] at HG
        clear hpl2 hwf
        go_wp2_with (first | (at_builtin; refine wpList_append_lies _ rfl _ _ 225 rfl w.heap.size 5 i0 (.int .u8 0) 1 1 Tryz.underlying225 HI.out hz0 hz1 hz2 rfl (by decide) _ l.length (u8s l) (by rfl) (hown.alloc _) ⟨wr.heap.size, 0, none⟩ 1 1 [.int .u8 0] (by rfl) (by rfl) (cell_one_new _ _ _) (by simp [Value.oneCell']) (by omega) (by unfold maxLen; omega) (by omega) (by simp; omega) (wr.heap.size + 1) (by simp) ?_; intro gg cap w6 hown7 hgrow hat hlt) | fail)
        refine (HWD.out w6).mono ?_
        rintro e w' ⟨rfl, rfl⟩
        have hb2 : Below w.heap.size w w' := (hb.alloc hsz _).grown hgrow (by simp; omega) (fun k hk => (hown.lt k hk).1)
        clear hgrow hat
        go_wp2_with fail
        go_roundw
        case rel =>
          refine ⟨f, pos + wd, l ++ [0], by go_num, by rw [List.length_append]; simpa [u8s] using hown7, hb2, by simp; omega, by omega, ?_, by omega⟩
          unfold Hid; rw [← HD.out, HG.out]; simp
        case measure => simp [intOf]; omega
      · skip
        have hpl2 : plain c = c := by unfold plain; rw [if_neg h128]
        rw [hpl2] at HG
        clear hpl2 hwf
        go_wp2_with (first | (at_builtin; refine wpList_append_lies _ rfl _ _ 225 rfl w.heap.size 5 i0 (.int .u8 0) 1 1 Tryz.underlying225 HI.out hz0 hz1 hz2 rfl (by decide) _ l.length (u8s l) (by rfl) (hown.alloc _) ⟨wr.heap.size, 0, none⟩ 1 1 [.int .u8 c] (by rfl) (by rfl) (cell_one_new _ _ _) (by simp [Value.oneCell']) (by omega) (by unfold maxLen; omega) (by omega) (by simp; omega) (wr.heap.size + 1) (by simp) ?_; intro gg cap w6 hown7 hgrow hat hlt) | fail)
        refine (HWD.out w6).mono ?_
        rintro e w' ⟨rfl, rfl⟩
        have hb2 : Below w.heap.size w w' := (hb.alloc hsz _).grown hgrow (by simp; omega) (fun k hk => (hown.lt k hk).1)
        clear hgrow hat
        go_wp2_with fail
        go_roundw
        case rel =>
          refine ⟨f, pos + wd, l ++ [c], by go_num, by rw [List.length_append]; simpa [u8s] using hown7, hb2, by simp; omega, by omega, ?_, by omega⟩
          unfold Hid; rw [← HD.out, HG.out]; simp
        case measure => simp [intOf]; omega
    · have HE := hide (crun_end (f := f) hp)
      go_wp2_with fail
      go_ret
      refine ⟨_, rfl, ?_, hb⟩
      have := HD.out
      rw [HE.out, List.append_nil] at this
      rw [← this]; exact hown
end Go.Proofs.YtcnmbldikjljeaaGreatDoor
