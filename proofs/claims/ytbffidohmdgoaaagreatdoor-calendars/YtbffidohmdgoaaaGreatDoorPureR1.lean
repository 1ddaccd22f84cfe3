import Derived.Test.YtbffidohmdgoaaaGreatDoorRef7
import Derived.Test.YtbffidohmdgoaaaGreatDoorParseL
namespace Go.Proofs.YtbffidohmdgoaaaGreatDoor
open Go.RowKit

theorem get_in (s : ByteArray) (p : Nat) (h : p < s.size) : s.get! p = s[p]'h := get_at s p h
theorem okW_eq (s : ByteArray) (p : Nat) (lo hi : Int) : okW s p lo hi = (decide (p < s.size) && (decide (lo ≤ ((s.get! p).toNat : Int)) && decide (((s.get! p).toNat : Int) ≤ hi))) := by
  by_cases h : p < s.size
  · rw [get_in s p h]; simp [okW, h]
  · simp [okW, h]
/-- how wide, by the bytes -/
def ww (b0 : Nat) (i1 : Bool) (b1 : Nat) (i2 : Bool) (b2 : Nat) (i3 : Bool) (b3 : Nat) : Nat :=
  if 194 ≤ b0 ∧ b0 ≤ 223 then (if i1 = true ∧ 128 ≤ b1 ∧ b1 ≤ 191 then 2 else 1)
  else if 224 ≤ b0 ∧ b0 ≤ 239 then (if i1 = true ∧ (if b0 = 224 then 160 else 128) ≤ b1 ∧ b1 ≤ (if b0 = 237 then 159 else 191) ∧ i2 = true ∧ 128 ≤ b2 ∧ b2 ≤ 191 then 3 else 1)
  else if 240 ≤ b0 ∧ b0 ≤ 244 then (if i1 = true ∧ (if b0 = 240 then 144 else 128) ≤ b1 ∧ b1 ≤ (if b0 = 244 then 143 else 191) ∧ i2 = true ∧ 128 ≤ b2 ∧ b2 ≤ 191 ∧ i3 = true ∧ 128 ≤ b3 ∧ b3 ≤ 191 then 4 else 1)
  else 1
theorem okW_iff (s : ByteArray) (p : Nat) (lo hi : Int) : okW s p lo hi = true ↔ (decide (p < s.size) = true ∧ lo ≤ ((s.get! p).toNat : Int) ∧ ((s.get! p).toNat : Int) ≤ hi) := by
  rw [okW_eq]; simp
theorem wl2 (s : ByteArray) (p : Nat) (lo hi : Int) : wl s p 2 4 1 lo hi = if okW s (p + 1) lo hi = true then 2 else 1 := by
  simp [wl]
theorem wl3 (s : ByteArray) (p : Nat) (lo hi : Int) : wl s p 3 4 1 lo hi = if okW s (p + 1) lo hi = true ∧ okW s (p + 2) 128 191 = true then 3 else 1 := by
  cases h1 : okW s (p + 1) lo hi <;> cases h2 : okW s (p + 2) 128 191 <;> simp [wl, h1, h2]
theorem wl4 (s : ByteArray) (p : Nat) (lo hi : Int) : wl s p 4 4 1 lo hi = if okW s (p + 1) lo hi = true ∧ okW s (p + 2) 128 191 = true ∧ okW s (p + 3) 128 191 = true then 4 else 1 := by
  cases h1 : okW s (p + 1) lo hi <;> cases h2 : okW s (p + 2) 128 191 <;> cases h3 : okW s (p + 3) 128 191 <;> simp [wl, h1, h2, h3]
theorem wideF_ww (s : ByteArray) (p : Nat) (b0 : Nat) : wideF s p (b0 : Int) = ww b0 (decide (p + 1 < s.size)) (s.get! (p + 1)).toNat (decide (p + 2 < s.size)) (s.get! (p + 2)).toNat (decide (p + 3 < s.size)) (s.get! (p + 3)).toNat := by
  unfold wideF ww
  by_cases h2 : 194 ≤ b0 ∧ b0 ≤ 223
  · have hn : nOf (b0 : Int) = 2 := by unfold nOf; rw [if_pos (by omega)]
    have hlo : loOf (b0 : Int) = 128 := by unfold loOf; rw [if_neg (by omega), if_neg (by omega)]
    have hhi : hiOf (b0 : Int) = 191 := by unfold hiOf; rw [if_neg (by omega), if_neg (by omega)]
    rw [hn, hlo, hhi, wl2, if_pos h2]
    simp only [okW_iff]
    congr 1
    apply propext
    constructor <;> rintro ⟨a, b, c⟩ <;> exact ⟨a, by omega, by omega⟩
  · rw [if_neg h2]
    by_cases h3 : 224 ≤ b0 ∧ b0 ≤ 239
    · have hn : nOf (b0 : Int) = 3 := by unfold nOf; rw [if_neg (by omega), if_pos (by omega)]
      have hlo : loOf (b0 : Int) = ((if b0 = 224 then 160 else 128 : Nat) : Int) := by unfold loOf; split <;> split <;> (try split) <;> omega
      have hhi : hiOf (b0 : Int) = ((if b0 = 237 then 159 else 191 : Nat) : Int) := by unfold hiOf; split <;> split <;> (try split) <;> omega
      rw [hn, hlo, hhi, wl3, if_pos h3]
      generalize (if b0 = 224 then 160 else 128 : Nat) = lo
      generalize (if b0 = 237 then 159 else 191 : Nat) = hi
      simp only [okW_iff]
      congr 1
      apply propext
      constructor
      · rintro ⟨⟨a, b, c⟩, d, e, f⟩; exact ⟨a, by omega, by omega, d, by omega, by omega⟩
      · rintro ⟨a, b, c, d, e, f⟩; exact ⟨⟨a, by omega, by omega⟩, d, by omega, by omega⟩
    · rw [if_neg h3]
      by_cases h4 : 240 ≤ b0 ∧ b0 ≤ 244
      · have hn : nOf (b0 : Int) = 4 := by unfold nOf; rw [if_neg (by omega), if_neg (by omega), if_pos (by omega)]
        have hlo : loOf (b0 : Int) = ((if b0 = 240 then 144 else 128 : Nat) : Int) := by unfold loOf; split <;> split <;> (try split) <;> omega
        have hhi : hiOf (b0 : Int) = ((if b0 = 244 then 143 else 191 : Nat) : Int) := by unfold hiOf; split <;> split <;> (try split) <;> omega
        rw [hn, hlo, hhi, wl4, if_pos h4]
        generalize (if b0 = 240 then 144 else 128 : Nat) = lo
        generalize (if b0 = 244 then 143 else 191 : Nat) = hi
        simp only [okW_iff]
        congr 1
        apply propext
        constructor
        · rintro ⟨⟨a, b, c⟩, ⟨d, e, f⟩, g, h, i⟩; exact ⟨a, by omega, by omega, d, by omega, by omega, g, by omega, by omega⟩
        · rintro ⟨a, b, c, d, e, f, g, h, i⟩; exact ⟨⟨a, by omega, by omega⟩, ⟨d, by omega, by omega⟩, g, by omega, by omega⟩
      · have hn : nOf (b0 : Int) = 1 := by unfold nOf; rw [if_neg (by omega), if_neg (by omega), if_neg (by omega)]
        rw [hn, if_neg h4]
        simp [wl]
/-- how wide, as range reads it -/
def dw (b0 : Nat) (i1 : Bool) (b1 : Nat) (i2 : Bool) (b2 : Nat) (i3 : Bool) (b3 : Nat) : Nat :=
  if b0 < 0x80 then 1
  else if (b0 / 32 == 6 && (i1 && b1 / 64 == 2)) = true then (if (b0 % 32) * 64 + b1 % 64 ≥ 0x80 then 2 else 1)
  else if (b0 / 16 == 14 && (i1 && b1 / 64 == 2) && (i2 && b2 / 64 == 2)) = true then
    (if (decide ((b0 % 16) * 4096 + (b1 % 64) * 64 + b2 % 64 ≥ 0x800) && Utf8.valid (((b0 % 16) * 4096 + (b1 % 64) * 64 + b2 % 64 : Nat) : Int)) = true then 3 else 1)
  else if (b0 / 8 == 30 && (i1 && b1 / 64 == 2) && (i2 && b2 / 64 == 2) && (i3 && b3 / 64 == 2)) = true then
    (if (decide ((b0 % 8) * 262144 + (b1 % 64) * 4096 + (b2 % 64) * 64 + b3 % 64 ≥ 0x10000) && Utf8.valid (((b0 % 8) * 262144 + (b1 % 64) * 4096 + (b2 % 64) * 64 + b3 % 64 : Nat) : Int)) = true then 4 else 1)
  else 1
theorem decode_dw (s : ByteArray) (p : Nat) : (Utf8.decode s p).2 = dw (s.get! p).toNat (decide (p + 1 < s.size)) (s.get! (p + 1)).toNat (decide (p + 2 < s.size)) (s.get! (p + 2)).toNat (decide (p + 3 < s.size)) (s.get! (p + 3)).toNat := by
  simp only [Utf8.decode, dw, Nat.add_zero]
  repeat' split
  all_goals first | rfl | (exfalso; simp_all)
theorem valid_iff (n : Nat) : Utf8.valid (n : Int) = true ↔ (n < 55296 ∨ (57344 ≤ n ∧ n ≤ 1114111)) := by
  simp [Utf8.valid]; omega
theorem ww_dw (b0 b1 b2 b3 : Nat) (i1 i2 i3 : Bool) (h0 : b0 < 256) (h1 : b1 < 256) (h2 : b2 < 256) (h3 : b3 < 256) : ww b0 i1 b1 i2 b2 i3 b3 = dw b0 i1 b1 i2 b2 i3 b3 := by
  unfold ww dw
  simp only [Bool.and_eq_true, beq_iff_eq, decide_eq_true_eq, valid_iff]
  by_cases a1 : b0 < 128
  · have k1 : ¬ (194 ≤ b0 ∧ b0 ≤ 223) := by omega
    have k2 : ¬ (224 ≤ b0 ∧ b0 ≤ 239) := by omega
    have k3 : ¬ (240 ≤ b0 ∧ b0 ≤ 244) := by omega
    simp only [k1, k2, k3, a1, if_true, if_false]
  · by_cases a2 : b0 < 194
    · have k1 : ¬ (194 ≤ b0 ∧ b0 ≤ 223) := by omega
      have k2 : ¬ (224 ≤ b0 ∧ b0 ≤ 239) := by omega
      have k3 : ¬ (240 ≤ b0 ∧ b0 ≤ 244) := by omega
      have k4 : ¬ b0 / 16 = 14 := by omega
      have k5 : ¬ b0 / 8 = 30 := by omega
      simp only [k1, k2, k3, k4, k5, a1, if_false, false_and]
      split
      · rw [if_neg (by omega)]
      · rfl
    · by_cases a3 : b0 < 224
      · have k1 : 194 ≤ b0 ∧ b0 ≤ 223 := by omega
        have k4 : ¬ b0 / 16 = 14 := by omega
        have k5 : ¬ b0 / 8 = 30 := by omega
        have k6 : b0 / 32 = 6 := by omega
        simp only [k1, k4, k5, k6, a1, if_true, if_false, false_and, true_and, and_self]
        cases i1
        · simp
        · simp only [true_and]
          split <;> split <;> (try split) <;> omega
      · by_cases a5 : b0 < 240
        · have k1 : ¬ (194 ≤ b0 ∧ b0 ≤ 223) := by omega
          have k2 : 224 ≤ b0 ∧ b0 ≤ 239 := by omega
          have k4 : b0 / 16 = 14 := by omega
          have k5 : ¬ b0 / 8 = 30 := by omega
          have k6 : ¬ b0 / 32 = 6 := by omega
          simp only [k1, k2, k4, k5, k6, a1, if_true, if_false, false_and, true_and, and_self]
          cases i1
          · simp
          · cases i2
            · simp
            · simp only [true_and]
              by_cases c1 : b0 = 224
              · subst c1; simp only [if_true, show ¬ (224 : Nat) = 237 by omega, if_false]
                split <;> split <;> (try split) <;> omega
              · by_cases c2 : b0 = 237
                · subst c2; simp only [if_true, show ¬ (237 : Nat) = 224 by omega, if_false]
                  split <;> split <;> (try split) <;> omega
                · simp only [c1, c2, if_false]
                  split <;> split <;> (try split) <;> omega
        · by_cases a6 : b0 ≤ 244
          · have k1 : ¬ (194 ≤ b0 ∧ b0 ≤ 223) := by omega
            have k2 : ¬ (224 ≤ b0 ∧ b0 ≤ 239) := by omega
            have k3 : 240 ≤ b0 ∧ b0 ≤ 244 := by omega
            have k4 : ¬ b0 / 16 = 14 := by omega
            have k5 : b0 / 8 = 30 := by omega
            have k6 : ¬ b0 / 32 = 6 := by omega
            simp only [k1, k2, k3, k4, k5, k6, a1, if_true, if_false, false_and, true_and, and_self]
            cases i1
            · simp
            · cases i2
              · simp
              · cases i3
                · simp
                · simp only [true_and]
                  by_cases c1 : b0 = 240
                  · subst c1; simp only [if_true, show ¬ (240 : Nat) = 244 by omega, if_false]
                    split <;> split <;> (try split) <;> omega
                  · by_cases c2 : b0 = 244
                    · subst c2; simp only [if_true, show ¬ (244 : Nat) = 240 by omega, if_false]
                      split <;> split <;> (try split) <;> omega
                    · simp only [c1, c2, if_false]
                      split <;> split <;> (try split) <;> omega
          · have k1 : ¬ (194 ≤ b0 ∧ b0 ≤ 223) := by omega
            have k2 : ¬ (224 ≤ b0 ∧ b0 ≤ 239) := by omega
            have k3 : ¬ (240 ≤ b0 ∧ b0 ≤ 244) := by omega
            have k4 : ¬ b0 / 16 = 14 := by omega
            have k6 : ¬ b0 / 32 = 6 := by omega
            simp only [k1, k2, k3, k4, k6, a1, if_false, false_and]
            split
            · rw [if_neg (by omega)]
            · rfl
theorem wide_decode (s : ByteArray) (p : Nat) (h : p < s.size) : wideF s p ((s[p]'h).toNat : Int) = (Utf8.decode s p).2 := by
  rw [wideF_ww, decode_dw, ww_dw _ _ _ _ _ _ _ (UInt8.toNat_lt _) (UInt8.toNat_lt _) (UInt8.toNat_lt _) (UInt8.toNat_lt _), get_in s p h]
theorem plain_decode (s : ByteArray) (p : Nat) (h : p < s.size) : plain ((s[p]'h).toNat : Int) = plain ((Utf8.decode s p).1 : Int) := by
  by_cases ha : (s[p]'h).toNat < 128
  · rw [decode_ascii s p h ha]
  · have := (decode_high s p h (by omega)).1
    unfold plain
    rw [if_pos (by omega), if_pos (by omega)]
theorem crun_runes (s : ByteArray) : ∀ f p, crun s f p = (runes s f p).map plain := by
  intro f
  induction f with
  | zero => intro p; rfl
  | succ f ih =>
    intro p
    by_cases h : p < s.size
    · rw [crun_go h, wide_decode s p h, plain_decode s p h, ih]; simp [runes, h]
    · rw [crun_end h, runes_end s _ p h]; rfl
theorem crun_chars (s : ByteArray) : crun s s.size 0 = (chars s).map plain := crun_runes s _ _
end Go.Proofs.YtbffidohmdgoaaaGreatDoor
