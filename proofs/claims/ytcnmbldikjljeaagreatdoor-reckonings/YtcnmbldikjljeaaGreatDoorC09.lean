import Derived.Test.YtcnmbldikjljeaaGreatDoorC06
import Derived.Test.YtcnmbldikjljeaaGreatDoorC08
import Derived.Test.YtcnmbldikjljeaaGreatDoorC03
import Derived.Deep.QuietTactic
import Derived.BigQuiet
namespace Go.Proofs.YtcnmbldikjljeaaGreatDoor
open Go.RowKit

theorem get_in (s : ByteArray) (p : Nat) (h : p < s.size) : s.get! p = s[p]'h := get_at s p h
theorem okW_eq (s : ByteArray) (p : Nat) (lo hi : Int) : okW s p lo hi = (decide (p < s.size) && (decide (lo ≤ ((s.get! p).toNat : Int)) && decide (((s.get! p).toNat : Int) ≤ hi))) := by
  by_cases h : p < s.size
  · rw [get_in s p h]; simp [okW, h]
  · simp [okW, h]
/-- how wide, by the bytes -/
def ww (b0 : Nat) (i1 : Bool) (b1 : Nat) (i2 : Bool) (b2 : Nat) (i3 : Bool) (b3 : Nat) : Nat :=
  if 194 ≤ b0 ∧ b0 ≤ 223 then (if i1 = true ∧ 128 ≤ b1 ∧ b1 ≤ 191 then 2 else 1)
  else if 224 ≤ b0 ∧ b0 ≤ 239 then (if i1 = true ∧ (if b0 = 224 then 160 else 128) ≤ b1 ∧ b1 ≤ (if b0 = 237 then 159 else 191) ∧ i2 = true ∧ 128 ≤ b2 ∧ b2 ≤ 191 then 3 else 1)
  else if 240 ≤ b0 ∧ b0 ≤ 244 then (if i1 = true ∧ (if b0 = 240 then 144 else 128) ≤ b1 ∧ b1 ≤ (if b0 = 244 then 143 else 191) ∧ i2 = true ∧ 128 ≤ b2 ∧ b2 ≤ 191 ∧ i3 = true ∧ 128 ≤ b3 ∧ b3 ≤ 191 then 4 else 1)
  else 1
theorem okW_iff (s : ByteArray) (p : Nat) (lo hi : Int) : okW s p lo hi = true ↔ (decide (p < s.size) = true ∧ lo ≤ ((s.get! p).toNat : Int) ∧ ((s.get! p).toNat : Int) ≤ hi) := by
  rw [okW_eq]; simp
theorem wl2 (s : ByteArray) (p : Nat) (lo hi : Int) : wl s p 2 4 1 lo hi = if okW s (p + 1) lo hi = true then 2 else 1 := by
  simp [wl]
theorem wl3 (s : ByteArray) (p : Nat) (lo hi : Int) : wl s p 3 4 1 lo hi = if okW s (p + 1) lo hi = true ∧ okW s (p + 2) 128 191 = true then 3 else 1 := by
  cases h1 : okW s (p + 1) lo hi <;> cases h2 : okW s (p + 2) 128 191 <;> simp [wl, h1, h2]
theorem wl4 (s : ByteArray) (p : Nat) (lo hi : Int) : wl s p 4 4 1 lo hi = if okW s (p + 1) lo hi = true ∧ okW s (p + 2) 128 191 = true ∧ okW s (p + 3) 128 191 = true then 4 else 1 := by
  cases h1 : okW s (p + 1) lo hi <;> cases h2 : okW s (p + 2) 128 191 <;> cases h3 : okW s (p + 3) 128 191 <;> simp [wl, h1, h2, h3]
theorem wideF_ww (s : ByteArray) (p : Nat) (b0 : Nat) : wideF s p (b0 : Int) = ww b0 (decide (p + 1 < s.size)) (s.get! (p + 1)).toNat (decide (p + 2 < s.size)) (s.get! (p + 2)).toNat (decide (p + 3 < s.size)) (s.get! (p + 3)).toNat := by
  unfold wideF ww
  by_cases h2 : 194 ≤ b0 ∧ b0 ≤ 223
  · have hn : nOf (b0 : Int) = 2 := by unfold nOf; rw [if_pos (by omega)]
    have hlo : loOf (b0 : Int) = 128 := by unfold loOf; rw [if_neg (by omega), if_neg (by omega)]
    have hhi : hiOf (b0 : Int) = 191 := by unfold hiOf; rw [if_neg (by omega), if_neg (by omega)]
    rw [hn, hlo, hhi, wl2, if_pos h2]
    simp only [okW_iff]
    congr 1
    apply propext
    constructor <;> rintro ⟨a, b, c⟩ <;> exact ⟨a, by omega, by omega⟩
  · rw [if_neg h2]
    by_cases h3 : 224 ≤ b0 ∧ b0 ≤ 239
    · have hn : nOf (b0 : Int) = 3 := by unfold nOf; rw [if_neg (by omega), if_pos (by omega)]
      have hlo : loOf (b0 : Int) = ((if b0 = 224 then 160 else 128 : Nat) : Int) := by unfold loOf; split <;> split <;> (try split) <;> omega
      have hhi : hiOf (b0 : Int) = ((if b0 = 237 then 159 else 191 : Nat) : Int) := by unfold hiOf; split <;> split <;> (try split) <;> omega
      rw [hn, hlo, hhi, wl3, if_pos h3]
      generalize (if b0 = 224 then 160 else 128 : Nat) = lo
      generalize (if b0 = 237 then 159 else 191 : Nat) = hi
      simp only [okW_iff]
      congr 1
      apply propext
      constructor
      · rintro ⟨⟨a, b, c⟩, d, e, f⟩; exact ⟨a, by omega, by omega, d, by omega, by omega⟩
      · rintro ⟨a, b, c, d, e, f⟩; exact ⟨⟨a, by omega, by omega⟩, d, by omega, by omega⟩
    · rw [if_neg h3]
      by_cases h4 : 240 ≤ b0 ∧ b0 ≤ 244
      · have hn : nOf (b0 : Int) = 4 := by unfold nOf; rw [if_neg (by omega), if_neg (by omega), if_pos (by omega)]
        have hlo : loOf (b0 : Int) = ((if b0 = 240 then 144 else 128 : Nat) : Int) := by unfold loOf; split <;> split <;> (try split) <;> omega
        have hhi : hiOf (b0 : Int) = ((if b0 = 244 then 143 else 191 : Nat) : Int) := by unfold hiOf; split <;> split <;> (try split) <;> omega
        rw [hn, hlo, hhi, wl4, if_pos h4]
        generalize (if b0 = 240 then 144 else 128 : Nat) = lo
        generalize (if b0 = 244 then 143 else 191 : Nat) = hi
        simp only [okW_iff]
        congr 1
        apply propext
        constructor
        · rintro ⟨⟨a, b, c⟩, ⟨d, e, f⟩, g, h, i⟩; exact ⟨a, by omega, by omega, d, by omega, by omega, g, by omega, by omega⟩
        · rintro ⟨a, b, c, d, e, f, g, h, i⟩; exact ⟨⟨a, by omega, by omega⟩, ⟨d, by omega, by omega⟩, g, by omega, by omega⟩
      · have hn : nOf (b0 : Int) = 1 := by unfold nOf; rw [if_neg (by omega), if_neg (by omega), if_neg (by omega)]
        rw [hn, if_neg h4]
        simp [wl]
/-- how wide, as range reads it -/
def dw (b0 : Nat) (i1 : Bool) (b1 : Nat) (i2 : Bool) (b2 : Nat) (i3 : Bool) (b3 : Nat) : Nat :=
  if b0 < 0x80 then 1
  else if (b0 / 32 == 6 && (i1 && b1 / 64 == 2)) = true then (if (b0 % 32) * 64 + b1 % 64 ≥ 0x80 then 2 else 1)
  else if (b0 / 16 == 14 && (i1 && b1 / 64 == 2) && (i2 && b2 / 64 == 2)) = true then
    (if (decide ((b0 % 16) * 4096 + (b1 % 64) * 64 + b2 % 64 ≥ 0x800) && Utf8.valid (((b0 % 16) * 4096 + (b1 % 64) * 64 + b2 % 64 : Nat) : Int)) = true then 3 else 1)
  else if (b0 / 8 == 30 && (i1 && b1 / 64 == 2) && (i2 && b2 / 64 == 2) && (i3 && b3 / 64 == 2)) = true then
    (if (decide ((b0 % 8) * 262144 + (b1 % 64) * 4096 + (b2 % 64) * 64 + b3 % 64 ≥ 0x10000) && Utf8.valid (((b0 % 8) * 262144 + (b1 % 64) * 4096 + (b2 % 64) * 64 + b3 % 64 : Nat) : Int)) = true then 4 else 1)
  else 1
theorem decode_dw (s : ByteArray) (p : Nat) : (Utf8.decode s p).2 = dw (s.get! p).toNat (decide (p + 1 < s.size)) (s.get! (p + 1)).toNat (decide (p + 2 < s.size)) (s.get! (p + 2)).toNat (decide (p + 3 < s.size)) (s.get! (p + 3)).toNat := by
  simp only [Utf8.decode, dw, Nat.add_zero]
  repeat' split
  all_goals first | rfl | (exfalso; simp_all)
theorem valid_iff (n : Nat) : Utf8.valid (n : Int) = true ↔ (n < 55296 ∨ (57344 ≤ n ∧ n ≤ 1114111)) := by
  simp [Utf8.valid]; omega
theorem ww_dw (b0 b1 b2 b3 : Nat) (i1 i2 i3 : Bool) (h0 : b0 < 256) (h1 : b1 < 256) (h2 : b2 < 256) (h3 : b3 < 256) : ww b0 i1 b1 i2 b2 i3 b3 = dw b0 i1 b1 i2 b2 i3 b3 := by
  unfold ww dw
  simp only [Bool.and_eq_true, beq_iff_eq, decide_eq_true_eq, valid_iff]
  by_cases a1 : b0 < 128
  · have k1 : ¬ (194 ≤ b0 ∧ b0 ≤ 223) := by omega
    have k2 : ¬ (224 ≤ b0 ∧ b0 ≤ 239) := by omega
    have k3 : ¬ (240 ≤ b0 ∧ b0 ≤ 244) := by omega
    simp only [k1, k2, k3, a1, if_true, if_false]
  · by_cases a2 : b0 < 194
    · have k1 : ¬ (194 ≤ b0 ∧ b0 ≤ 223) := by omega
      have k2 : ¬ (224 ≤ b0 ∧ b0 ≤ 239) := by omega
      have k3 : ¬ (240 ≤ b0 ∧ b0 ≤ 244) := by omega
      have k4 : ¬ b0 / 16 = 14 := by omega
      have k5 : ¬ b0 / 8 = 30 := by omega
      simp only [k1, k2, k3, k4, k5, a1, if_false, false_and]
      split
      · rw [if_neg (by omega)]
      · rfl
    · by_cases a3 : b0 < 224
      · have k1 : 194 ≤ b0 ∧ b0 ≤ 223 := by omega
        have k4 : ¬ b0 / 16 = 14 := by omega
        have k5 : ¬ b0 / 8 = 30 := by omega
        have k6 : b0 / 32 = 6 := by omega
        simp only [k1, k4, k5, k6, a1, if_true, if_false, false_and, true_and, and_self]
        cases i1
        · simp
        · simp only [true_and]
          split <;> split <;> (try split) <;> omega
      · by_cases a5 : b0 < 240
        · have k1 : ¬ (194 ≤ b0 ∧ b0 ≤ 223) := by omega
          have k2 : 224 ≤ b0 ∧ b0 ≤ 239 := by omega
          have k4 : b0 / 16 = 14 := by omega
          have k5 : ¬ b0 / 8 = 30 := by omega
          have k6 : ¬ b0 / 32 = 6 := by omega
          simp only [k1, k2, k4, k5, k6, a1, if_true, if_false, false_and, true_and, and_self]
          cases i1
          · simp
          · cases i2
            · simp
            · simp only [true_and]
              by_cases c1 : b0 = 224
              · subst c1; simp only [if_true, show ¬ (224 : Nat) = 237 by omega, if_false]
                split <;> split <;> (try split) <;> omega
              · by_cases c2 : b0 = 237
                · subst c2; simp only [if_true, show ¬ (237 : Nat) = 224 by omega, if_false]
                  split <;> split <;> (try split) <;> omega
                · simp only [c1, c2, if_false]
                  split <;> split <;> (try split) <;> omega
        · by_cases a6 : b0 ≤ 244
          · have k1 : ¬ (194 ≤ b0 ∧ b0 ≤ 223) := by omega
            have k2 : ¬ (224 ≤ b0 ∧ b0 ≤ 239) := by omega
            have k3 : 240 ≤ b0 ∧ b0 ≤ 244 := by omega
            have k4 : ¬ b0 / 16 = 14 := by omega
            have k5 : b0 / 8 = 30 := by omega
            have k6 : ¬ b0 / 32 = 6 := by omega
            simp only [k1, k2, k3, k4, k5, k6, a1, if_true, if_false, false_and, true_and, and_self]
            cases i1
            · simp
            · cases i2
              · simp
              · cases i3
                · simp
                · simp only [true_and]
                  by_cases c1 : b0 = 240
                  · subst c1; simp only [if_true, show ¬ (240 : Nat) = 244 by omega, if_false]
                    split <;> split <;> (try split) <;> omega
                  · by_cases c2 : b0 = 244
                    · subst c2; simp only [if_true, show ¬ (244 : Nat) = 240 by omega, if_false]
                      split <;> split <;> (try split) <;> omega
                    · simp only [c1, c2, if_false]
                      split <;> split <;> (try split) <;> omega
          · have k1 : ¬ (194 ≤ b0 ∧ b0 ≤ 223) := by omega
            have k2 : ¬ (224 ≤ b0 ∧ b0 ≤ 239) := by omega
            have k3 : ¬ (240 ≤ b0 ∧ b0 ≤ 244) := by omega
            have k4 : ¬ b0 / 16 = 14 := by omega
            have k6 : ¬ b0 / 32 = 6 := by omega
            simp only [k1, k2, k3, k4, k6, a1, if_false, false_and]
            split
            · rw [if_neg (by omega)]
            · rfl
theorem wide_decode (s : ByteArray) (p : Nat) (h : p < s.size) : wideF s p ((s[p]'h).toNat : Int) = (Utf8.decode s p).2 := by
  rw [wideF_ww, decode_dw, ww_dw _ _ _ _ _ _ _ (UInt8.toNat_lt _) (UInt8.toNat_lt _) (UInt8.toNat_lt _) (UInt8.toNat_lt _), get_in s p h]
theorem plain_decode (s : ByteArray) (p : Nat) (h : p < s.size) : plain ((s[p]'h).toNat : Int) = plain ((Utf8.decode s p).1 : Int) := by
  by_cases ha : (s[p]'h).toNat < 128
  · rw [decode_ascii s p h ha]
  · have := (decode_high s p h (by omega)).1
    unfold plain
    rw [if_pos (by omega), if_pos (by omega)]
theorem crun_runes (s : ByteArray) : ∀ f p, crun s f p = (runes s f p).map plain := by
  intro f
  induction f with
  | zero => intro p; rfl
  | succ f ih =>
    intro p
    by_cases h : p < s.size
    · rw [crun_go h, wide_decode s p h, plain_decode s p h, ih]; simp [runes, h]
    · rw [crun_end h, runes_end s _ p h]; rfl
theorem crun_chars (s : ByteArray) : crun s s.size 0 = (chars s).map plain := crun_runes s _ _
end Go.Proofs.YtcnmbldikjljeaaGreatDoor
namespace Go.Proofs.YtcnmbldikjljeaaGreatDoor
open Go.RowKit

abbrev P0 (b : Nat) : Value := .pointer (some ⟨b, 0, none⟩)

set_option maxRecDepth 100000 in
set_option maxHeartbeats 400000 in
theorem digit_yes (c : Int) (w : World) (h : isDig c) :
    Calls Tryz.prog 173 #[.int .i32 c] w fun e w' => e = .returned (.tuple #[.int .i64 (c - 48), .bool true]) ∧ w' = w := by
  obtain ⟨h0, h1⟩ := h
  go_enter Tryz.func173, Tryz.ntmps173
  go_wp2
  go_ret2
  exact ⟨rfl, rfl⟩
set_option maxRecDepth 100000 in
set_option maxHeartbeats 400000 in
theorem digit_no (c : Int) (w : World) (h : ¬ isDig c) :
    Calls Tryz.prog 173 #[.int .i32 c] w fun e w' => e = .returned (.tuple #[.int .i64 0, .bool false]) ∧ w' = w := by
  by_cases h0 : c < 48
  · go_enter Tryz.func173, Tryz.ntmps173
    go_wp2
    go_ret2
    exact ⟨rfl, rfl⟩
  · have h1 : 57 < c := by unfold isDig at h; omega
    clear h
    go_enter Tryz.func173, Tryz.ntmps173
    go_wp2
    go_ret2
    exact ⟨rfl, rfl⟩

section
variable {it : Obj} {B b : Nat} {w0 w : World} {s : RS} {vs : Nat → Value}
set_option maxRecDepth 100000 in
set_option maxHeartbeats 400000 in
theorem mark_any (R : RW it B b w0 w s vs) (c mark next : Int) :
    Calls Tryz.prog 148 #[P0 b, .int .i32 c, .int .i32 mark, .int .i64 next] w fun e w' => e = .returned (.bool (markL s c mark next).1) ∧ RW it B b w0 w' (markL s c mark next).2 vs := by
  by_cases h : c = mark
  · subst h
    have f0 := R.frz 0
    have g0 := R.c0
    go_enter Tryz.func148, Tryz.ntmps148
    go_wp2
    go_ret
    simp only [markL, if_pos]
    exact ⟨rfl, R.setSt next⟩
  · have hn : (c != mark) = true := by simp [h]
    go_enter Tryz.func148, Tryz.ntmps148
    go_wp2
    go_ret
    simp only [markL, if_neg h]
    exact ⟨rfl, R⟩
end
end Go.Proofs.YtcnmbldikjljeaaGreatDoor
namespace Go.Proofs.YtcnmbldikjljeaaGreatDoor
open Go.RowKit

def nmAgg : Value := .agg #[.string ⟨#[77, 111]⟩, .string ⟨#[84, 117]⟩, .string ⟨#[87, 101]⟩, .string ⟨#[84, 104]⟩, .string ⟨#[70, 114]⟩, .string ⟨#[83, 97]⟩, .string ⟨#[83, 117]⟩]

theorem ix0 (w : World) : (Instr.index 262 (.agg #[.string ⟨#[77, 111]⟩, .string ⟨#[84, 117]⟩, .string ⟨#[87, 101]⟩, .string ⟨#[84, 104]⟩, .string ⟨#[70, 114]⟩, .string ⟨#[83, 97]⟩, .string ⟨#[83, 117]⟩]) (.int .i64 0)).run Tryz.prog w = .ok (.string ⟨#[77, 111]⟩) w := by kernel_rfl
theorem ix1 (w : World) : (Instr.index 262 (.agg #[.string ⟨#[77, 111]⟩, .string ⟨#[84, 117]⟩, .string ⟨#[87, 101]⟩, .string ⟨#[84, 104]⟩, .string ⟨#[70, 114]⟩, .string ⟨#[83, 97]⟩, .string ⟨#[83, 117]⟩]) (.int .i64 1)).run Tryz.prog w = .ok (.string ⟨#[84, 117]⟩) w := by kernel_rfl
theorem ix2 (w : World) : (Instr.index 262 (.agg #[.string ⟨#[77, 111]⟩, .string ⟨#[84, 117]⟩, .string ⟨#[87, 101]⟩, .string ⟨#[84, 104]⟩, .string ⟨#[70, 114]⟩, .string ⟨#[83, 97]⟩, .string ⟨#[83, 117]⟩]) (.int .i64 2)).run Tryz.prog w = .ok (.string ⟨#[87, 101]⟩) w := by kernel_rfl
theorem ix3 (w : World) : (Instr.index 262 (.agg #[.string ⟨#[77, 111]⟩, .string ⟨#[84, 117]⟩, .string ⟨#[87, 101]⟩, .string ⟨#[84, 104]⟩, .string ⟨#[70, 114]⟩, .string ⟨#[83, 97]⟩, .string ⟨#[83, 117]⟩]) (.int .i64 3)).run Tryz.prog w = .ok (.string ⟨#[84, 104]⟩) w := by kernel_rfl
theorem ix4 (w : World) : (Instr.index 262 (.agg #[.string ⟨#[77, 111]⟩, .string ⟨#[84, 117]⟩, .string ⟨#[87, 101]⟩, .string ⟨#[84, 104]⟩, .string ⟨#[70, 114]⟩, .string ⟨#[83, 97]⟩, .string ⟨#[83, 117]⟩]) (.int .i64 4)).run Tryz.prog w = .ok (.string ⟨#[70, 114]⟩) w := by kernel_rfl
theorem ix5 (w : World) : (Instr.index 262 (.agg #[.string ⟨#[77, 111]⟩, .string ⟨#[84, 117]⟩, .string ⟨#[87, 101]⟩, .string ⟨#[84, 104]⟩, .string ⟨#[70, 114]⟩, .string ⟨#[83, 97]⟩, .string ⟨#[83, 117]⟩]) (.int .i64 5)).run Tryz.prog w = .ok (.string ⟨#[83, 97]⟩) w := by kernel_rfl
theorem ix6 (w : World) : (Instr.index 262 (.agg #[.string ⟨#[77, 111]⟩, .string ⟨#[84, 117]⟩, .string ⟨#[87, 101]⟩, .string ⟨#[84, 104]⟩, .string ⟨#[70, 114]⟩, .string ⟨#[83, 97]⟩, .string ⟨#[83, 117]⟩]) (.int .i64 6)).run Tryz.prog w = .ok (.string ⟨#[83, 117]⟩) w := by kernel_rfl

theorem uu0 : wrap32 ↑((⟨#[77, 111]⟩ : ByteArray)[0]'(by decide)).toNat = 77 := by kernel_rfl
theorem vv0 : wrap32 ↑((⟨#[77, 111]⟩ : ByteArray)[1]'(by decide)).toNat = 111 := by kernel_rfl
theorem uu1 : wrap32 ↑((⟨#[84, 117]⟩ : ByteArray)[0]'(by decide)).toNat = 84 := by kernel_rfl
theorem vv1 : wrap32 ↑((⟨#[84, 117]⟩ : ByteArray)[1]'(by decide)).toNat = 117 := by kernel_rfl
theorem uu2 : wrap32 ↑((⟨#[87, 101]⟩ : ByteArray)[0]'(by decide)).toNat = 87 := by kernel_rfl
theorem vv2 : wrap32 ↑((⟨#[87, 101]⟩ : ByteArray)[1]'(by decide)).toNat = 101 := by kernel_rfl
theorem uu3 : wrap32 ↑((⟨#[84, 104]⟩ : ByteArray)[0]'(by decide)).toNat = 84 := by kernel_rfl
theorem vv3 : wrap32 ↑((⟨#[84, 104]⟩ : ByteArray)[1]'(by decide)).toNat = 104 := by kernel_rfl
theorem uu4 : wrap32 ↑((⟨#[70, 114]⟩ : ByteArray)[0]'(by decide)).toNat = 70 := by kernel_rfl
theorem vv4 : wrap32 ↑((⟨#[70, 114]⟩ : ByteArray)[1]'(by decide)).toNat = 114 := by kernel_rfl
theorem uu5 : wrap32 ↑((⟨#[83, 97]⟩ : ByteArray)[0]'(by decide)).toNat = 83 := by kernel_rfl
theorem vv5 : wrap32 ↑((⟨#[83, 97]⟩ : ByteArray)[1]'(by decide)).toNat = 97 := by kernel_rfl
theorem uu6 : wrap32 ↑((⟨#[83, 117]⟩ : ByteArray)[0]'(by decide)).toNat = 83 := by kernel_rfl
theorem vv6 : wrap32 ↑((⟨#[83, 117]⟩ : ByteArray)[1]'(by decide)).toNat = 117 := by kernel_rfl

section
variable {it : Obj} {B b : Nat} {w0 w : World} {s : RS} {vs : Nat → Value}
set_option maxRecDepth 100000 in
set_option maxHeartbeats 4000000 in
theorem dayFirst_any (R : RW it B b w0 w s vs) (c : Int) :
    Calls Tryz.prog 144 #[P0 b, .int .i32 c] w fun e w' => e = .returned (.bool (dayFirstL s c).1) ∧ RW it B b w0 w' (dayFirstL s c).2 vs := by
  have n0 : w.cell? ⟨0, 0, none⟩ = some (.string ⟨#[77, 111]⟩) := R.names 0 (by omega)
  have n1 : w.cell? ⟨0, 1, none⟩ = some (.string ⟨#[84, 117]⟩) := R.names 1 (by omega)
  have n2 : w.cell? ⟨0, 2, none⟩ = some (.string ⟨#[87, 101]⟩) := R.names 2 (by omega)
  have n3 : w.cell? ⟨0, 3, none⟩ = some (.string ⟨#[84, 104]⟩) := R.names 3 (by omega)
  have n4 : w.cell? ⟨0, 4, none⟩ = some (.string ⟨#[70, 114]⟩) := R.names 4 (by omega)
  have n5 : w.cell? ⟨0, 5, none⟩ = some (.string ⟨#[83, 97]⟩) := R.names 5 (by omega)
  have n6 : w.cell? ⟨0, 6, none⟩ = some (.string ⟨#[83, 117]⟩) := R.names 6 (by omega)
  go_enter Tryz.func144, Tryz.ntmps144
  go_wp2
  clear n0 n1 n2 n3 n4 n5 n6
  have f0 := R.frz 0
  have g0 := R.c0
  have f2 := R.frz 2
  have g2 := R.c2
  have i0 := ix0
  have i1 := ix1
  have i2 := ix2
  have i3 := ix3
  have i4 := ix4
  have i5 := ix5
  have i6 := ix6
  have u0 := uu0
  have u1 := uu1
  have u2 := uu2
  have u3 := uu3
  have u4 := uu4
  have u5 := uu5
  have u6 := uu6
  go_loopw [8] (fun i wr => ∃ k : Int, 0 ≤ k ∧ k ≤ 7 ∧ i = .int .i64 k ∧ wr = w ∧ Hid ((1 ≤ k → c ≠ 77) ∧ (2 ≤ k → c ≠ 84) ∧ (3 ≤ k → c ≠ 87) ∧ (5 ≤ k → c ≠ 70) ∧ (6 ≤ k → c ≠ 83))) (fun i _ => 7 - (intOf i).toNat)
  case atStart => exact ⟨0, by omega, by omega, rfl, rfl, by unfold Hid; omega⟩
  case round =>
    obtain ⟨k, hk0, hk7, rfl, rfl, H⟩ := hrel
    have hks : k = 7 ∨ k = 0 ∨ k = 1 ∨ k = 2 ∨ k = 3 ∨ k = 4 ∨ k = 5 ∨ k = 6 := by omega
    rcases hks with rfl | hks
    · have hc : isFirst c = false := by have := H.out; simp only [isFirst]; simp; omega
      have HC := hide hc
      clear hc i0 i1 i2 i3 i4 i5 i6
      go_wp2
      go_ret
      simp only [dayFirstL, HC.out]
      exact ⟨rfl, R⟩
    · rcases hks with rfl | rfl | rfl | rfl | rfl | rfl | rfl
      all_goals
        go_wp2
        · go_ret
          rename_i hc
          have hc' := eq_of_beq hc
          subst hc'
          exact ⟨rfl, (R.setLetter _).setSt 1⟩
        · go_roundw
          case rel =>
            have hH := H.out
            rename_i hc
            have hc' := ne_of_beq_false hc
            refine ⟨_, ?_, ?_, rfl, by trivial, ?_⟩
            · omega
            · omega
            · unfold Hid; omega
          case measure => simp [intOf]

theorem daySecond_yes {s : RS} {c : Int} {k : Nat} (h : dayOf s.letter c = k) (hk : k < 7) : daySecondL s c = (true, { s with days := fun j => if j = k then true else s.days j, st := 2 }) := by
  subst h; unfold daySecondL; rw [if_pos hk]
set_option maxRecDepth 100000 in
set_option maxHeartbeats 8000000 in
theorem daySecond_any (R : RW it B b w0 w s vs) (c : Int) :
    Calls Tryz.prog 145 #[P0 b, .int .i32 c] w fun e w' => e = .returned (.bool (daySecondL s c).1) ∧ RW it B b w0 w' (daySecondL s c).2 vs := by
  have n0 : w.cell? ⟨0, 0, none⟩ = some (.string ⟨#[77, 111]⟩) := R.names 0 (by omega)
  have n1 : w.cell? ⟨0, 1, none⟩ = some (.string ⟨#[84, 117]⟩) := R.names 1 (by omega)
  have n2 : w.cell? ⟨0, 2, none⟩ = some (.string ⟨#[87, 101]⟩) := R.names 2 (by omega)
  have n3 : w.cell? ⟨0, 3, none⟩ = some (.string ⟨#[84, 104]⟩) := R.names 3 (by omega)
  have n4 : w.cell? ⟨0, 4, none⟩ = some (.string ⟨#[70, 114]⟩) := R.names 4 (by omega)
  have n5 : w.cell? ⟨0, 5, none⟩ = some (.string ⟨#[83, 97]⟩) := R.names 5 (by omega)
  have n6 : w.cell? ⟨0, 6, none⟩ = some (.string ⟨#[83, 117]⟩) := R.names 6 (by omega)
  go_enter Tryz.func145, Tryz.ntmps145
  go_wp2
  clear n0 n1 n2 n3 n4 n5 n6
  have i0 := ix0
  have i1 := ix1
  have i2 := ix2
  have i3 := ix3
  have i4 := ix4
  have i5 := ix5
  have i6 := ix6
  have u0 := uu0
  have v0 := vv0
  have u1 := uu1
  have v1 := vv1
  have u2 := uu2
  have v2 := vv2
  have u3 := uu3
  have v3 := vv3
  have u4 := uu4
  have v4 := vv4
  have u5 := uu5
  have v5 := vv5
  have u6 := uu6
  have v6 := vv6
  go_loopw [8] (fun i wr => ∃ k : Int, 0 ≤ k ∧ k ≤ 7 ∧ i = .int .i64 k ∧ RW it B b w0 wr s vs ∧ Hid ((1 ≤ k → ¬ (s.letter = 77 ∧ c = 111)) ∧ (2 ≤ k → ¬ (s.letter = 84 ∧ c = 117)) ∧ (3 ≤ k → ¬ (s.letter = 87 ∧ c = 101)) ∧ (4 ≤ k → ¬ (s.letter = 84 ∧ c = 104)) ∧ (5 ≤ k → ¬ (s.letter = 70 ∧ c = 114)) ∧ (6 ≤ k → ¬ (s.letter = 83 ∧ c = 97)) ∧ (7 ≤ k → ¬ (s.letter = 83 ∧ c = 117)))) (fun i _ => 7 - (intOf i).toNat)
  case atStart => exact ⟨0, by omega, by omega, rfl, R, by unfold Hid; omega⟩
  case round =>
    obtain ⟨k, hk0, hk7, rfl, R2, H⟩ := hrel
    have g2 := R2.c2
    have hks : k = 7 ∨ k = 0 ∨ k = 1 ∨ k = 2 ∨ k = 3 ∨ k = 4 ∨ k = 5 ∨ k = 6 := by omega
    rcases hks with rfl | hks
    · have hc : dayOf s.letter c = 7 := by have := H.out; simp only [dayOf]; repeat (rw [if_neg (by omega)])
      have HC := hide hc
      clear hc i0 i1 i2 i3 i4 i5 i6
      go_wp2
      go_ret
      simp only [daySecondL, HC.out]
      exact ⟨rfl, R2⟩
    · have f0 := R2.frz 0
      have g0 := R2.c0
      rcases hks with rfl | rfl | rfl | rfl | rfl | rfl | rfl
      · have fk := R2.frz 3
        have gk := R2.cd 0 (by omega)
        simp only [Nat.reduceAdd] at gk
        by_cases hl : s.letter = 77
        · have e1 : (s.letter == 77) = true := by simp [hl]
          by_cases hc : c = 111
          · have e2 : (c == 111) = true := by simp [hc]
            have HD := hide (daySecond_yes (k := 0) (show dayOf s.letter c = 0 by rw [hl, hc]; rfl) (by omega))
            clear hl hc
            go_wp2
            go_quiet (fail)
            go_wp2
            go_ret
            rw [HD.out]
            exact ⟨rfl, ((R2.drewN _).setDay 0 (by omega) true).setSt 2⟩
          · have e2 : (c == 111) = false := by simp [hc]
            have hc2 := hide hc
            clear hl hc
            go_wp2
            go_quiet (fail)
            go_wp2
            go_roundw
            case rel =>
              have hH := H.out
              have := hc2.out
              refine ⟨1, by omega, by omega, rfl, R2.drewN _, by unfold Hid; omega⟩
            case measure => simp [intOf]
        · have e1 : (s.letter == 77) = false := by simp [hl]
          have hl2 := hide hl
          clear hl
          go_wp2
          go_quiet (fail)
          go_wp2
          go_roundw
          case rel =>
            have hH := H.out
            have := hl2.out
            refine ⟨1, by omega, by omega, rfl, R2.drewN _, by unfold Hid; omega⟩
          case measure => simp [intOf]
      · have fk := R2.frz 4
        have gk := R2.cd 1 (by omega)
        simp only [Nat.reduceAdd] at gk
        by_cases hl : s.letter = 84
        · have e1 : (s.letter == 84) = true := by simp [hl]
          by_cases hc : c = 117
          · have e2 : (c == 117) = true := by simp [hc]
            have HD := hide (daySecond_yes (k := 1) (show dayOf s.letter c = 1 by rw [hl, hc]; rfl) (by omega))
            clear hl hc
            go_wp2
            go_quiet (fail)
            go_wp2
            go_ret
            rw [HD.out]
            exact ⟨rfl, ((R2.drewN _).setDay 1 (by omega) true).setSt 2⟩
          · have e2 : (c == 117) = false := by simp [hc]
            have hc2 := hide hc
            clear hl hc
            go_wp2
            go_quiet (fail)
            go_wp2
            go_roundw
            case rel =>
              have hH := H.out
              have := hc2.out
              refine ⟨2, by omega, by omega, rfl, R2.drewN _, by unfold Hid; omega⟩
            case measure => simp [intOf]
        · have e1 : (s.letter == 84) = false := by simp [hl]
          have hl2 := hide hl
          clear hl
          go_wp2
          go_quiet (fail)
          go_wp2
          go_roundw
          case rel =>
            have hH := H.out
            have := hl2.out
            refine ⟨2, by omega, by omega, rfl, R2.drewN _, by unfold Hid; omega⟩
          case measure => simp [intOf]
      · have fk := R2.frz 5
        have gk := R2.cd 2 (by omega)
        simp only [Nat.reduceAdd] at gk
        by_cases hl : s.letter = 87
        · have e1 : (s.letter == 87) = true := by simp [hl]
          by_cases hc : c = 101
          · have e2 : (c == 101) = true := by simp [hc]
            have HD := hide (daySecond_yes (k := 2) (show dayOf s.letter c = 2 by rw [hl, hc]; rfl) (by omega))
            clear hl hc
            go_wp2
            go_quiet (fail)
            go_wp2
            go_ret
            rw [HD.out]
            exact ⟨rfl, ((R2.drewN _).setDay 2 (by omega) true).setSt 2⟩
          · have e2 : (c == 101) = false := by simp [hc]
            have hc2 := hide hc
            clear hl hc
            go_wp2
            go_quiet (fail)
            go_wp2
            go_roundw
            case rel =>
              have hH := H.out
              have := hc2.out
              refine ⟨3, by omega, by omega, rfl, R2.drewN _, by unfold Hid; omega⟩
            case measure => simp [intOf]
        · have e1 : (s.letter == 87) = false := by simp [hl]
          have hl2 := hide hl
          clear hl
          go_wp2
          go_quiet (fail)
          go_wp2
          go_roundw
          case rel =>
            have hH := H.out
            have := hl2.out
            refine ⟨3, by omega, by omega, rfl, R2.drewN _, by unfold Hid; omega⟩
          case measure => simp [intOf]
      · have fk := R2.frz 6
        have gk := R2.cd 3 (by omega)
        simp only [Nat.reduceAdd] at gk
        by_cases hl : s.letter = 84
        · have e1 : (s.letter == 84) = true := by simp [hl]
          by_cases hc : c = 104
          · have e2 : (c == 104) = true := by simp [hc]
            have HD := hide (daySecond_yes (k := 3) (show dayOf s.letter c = 3 by rw [hl, hc]; rfl) (by omega))
            clear hl hc
            go_wp2
            go_quiet (fail)
            go_wp2
            go_ret
            rw [HD.out]
            exact ⟨rfl, ((R2.drewN _).setDay 3 (by omega) true).setSt 2⟩
          · have e2 : (c == 104) = false := by simp [hc]
            have hc2 := hide hc
            clear hl hc
            go_wp2
            go_quiet (fail)
            go_wp2
            go_roundw
            case rel =>
              have hH := H.out
              have := hc2.out
              refine ⟨4, by omega, by omega, rfl, R2.drewN _, by unfold Hid; omega⟩
            case measure => simp [intOf]
        · have e1 : (s.letter == 84) = false := by simp [hl]
          have hl2 := hide hl
          clear hl
          go_wp2
          go_quiet (fail)
          go_wp2
          go_roundw
          case rel =>
            have hH := H.out
            have := hl2.out
            refine ⟨4, by omega, by omega, rfl, R2.drewN _, by unfold Hid; omega⟩
          case measure => simp [intOf]
      · have fk := R2.frz 7
        have gk := R2.cd 4 (by omega)
        simp only [Nat.reduceAdd] at gk
        by_cases hl : s.letter = 70
        · have e1 : (s.letter == 70) = true := by simp [hl]
          by_cases hc : c = 114
          · have e2 : (c == 114) = true := by simp [hc]
            have HD := hide (daySecond_yes (k := 4) (show dayOf s.letter c = 4 by rw [hl, hc]; rfl) (by omega))
            clear hl hc
            go_wp2
            go_quiet (fail)
            go_wp2
            go_ret
            rw [HD.out]
            exact ⟨rfl, ((R2.drewN _).setDay 4 (by omega) true).setSt 2⟩
          · have e2 : (c == 114) = false := by simp [hc]
            have hc2 := hide hc
            clear hl hc
            go_wp2
            go_quiet (fail)
            go_wp2
            go_roundw
            case rel =>
              have hH := H.out
              have := hc2.out
              refine ⟨5, by omega, by omega, rfl, R2.drewN _, by unfold Hid; omega⟩
            case measure => simp [intOf]
        · have e1 : (s.letter == 70) = false := by simp [hl]
          have hl2 := hide hl
          clear hl
          go_wp2
          go_quiet (fail)
          go_wp2
          go_roundw
          case rel =>
            have hH := H.out
            have := hl2.out
            refine ⟨5, by omega, by omega, rfl, R2.drewN _, by unfold Hid; omega⟩
          case measure => simp [intOf]
      · have fk := R2.frz 8
        have gk := R2.cd 5 (by omega)
        simp only [Nat.reduceAdd] at gk
        by_cases hl : s.letter = 83
        · have e1 : (s.letter == 83) = true := by simp [hl]
          by_cases hc : c = 97
          · have e2 : (c == 97) = true := by simp [hc]
            have HD := hide (daySecond_yes (k := 5) (show dayOf s.letter c = 5 by rw [hl, hc]; rfl) (by omega))
            clear hl hc
            go_wp2
            go_quiet (fail)
            go_wp2
            go_ret
            rw [HD.out]
            exact ⟨rfl, ((R2.drewN _).setDay 5 (by omega) true).setSt 2⟩
          · have e2 : (c == 97) = false := by simp [hc]
            have hc2 := hide hc
            clear hl hc
            go_wp2
            go_quiet (fail)
            go_wp2
            go_roundw
            case rel =>
              have hH := H.out
              have := hc2.out
              refine ⟨6, by omega, by omega, rfl, R2.drewN _, by unfold Hid; omega⟩
            case measure => simp [intOf]
        · have e1 : (s.letter == 83) = false := by simp [hl]
          have hl2 := hide hl
          clear hl
          go_wp2
          go_quiet (fail)
          go_wp2
          go_roundw
          case rel =>
            have hH := H.out
            have := hl2.out
            refine ⟨6, by omega, by omega, rfl, R2.drewN _, by unfold Hid; omega⟩
          case measure => simp [intOf]
      · have fk := R2.frz 9
        have gk := R2.cd 6 (by omega)
        simp only [Nat.reduceAdd] at gk
        by_cases hl : s.letter = 83
        · have e1 : (s.letter == 83) = true := by simp [hl]
          by_cases hc : c = 117
          · have e2 : (c == 117) = true := by simp [hc]
            have HD := hide (daySecond_yes (k := 6) (show dayOf s.letter c = 6 by rw [hl, hc]; rfl) (by omega))
            clear hl hc
            go_wp2
            go_quiet (fail)
            go_wp2
            go_ret
            rw [HD.out]
            exact ⟨rfl, ((R2.drewN _).setDay 6 (by omega) true).setSt 2⟩
          · have e2 : (c == 117) = false := by simp [hc]
            have hc2 := hide hc
            clear hl hc
            go_wp2
            go_quiet (fail)
            go_wp2
            go_roundw
            case rel =>
              have hH := H.out
              have := hc2.out
              refine ⟨7, by omega, by omega, rfl, R2.drewN _, by unfold Hid; omega⟩
            case measure => simp [intOf]
        · have e1 : (s.letter == 83) = false := by simp [hl]
          have hl2 := hide hl
          clear hl
          go_wp2
          go_quiet (fail)
          go_wp2
          go_roundw
          case rel =>
            have hH := H.out
            have := hl2.out
            refine ⟨7, by omega, by omega, rfl, R2.drewN _, by unfold Hid; omega⟩
          case measure => simp [intOf]
end
end Go.Proofs.YtcnmbldikjljeaaGreatDoor
