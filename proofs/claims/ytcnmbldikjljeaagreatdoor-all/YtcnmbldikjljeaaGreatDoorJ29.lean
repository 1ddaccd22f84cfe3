import Derived.Test.YtcnmbldikjljeaaGreatDoorJ09
import Derived.Test.YtcnmbldikjljeaaGreatDoorJ26
import Derived.Test.YtcnmbldikjljeaaGreatDoorJ28
import Derived.Test.YtcnmbldikjljeaaGreatDoorJ08
import Derived.Test.YtcnmbldikjljeaaGreatDoorJ24
import Derived.Test.YtcnmbldikjljeaaGreatDoorJ14
import Derived.Test.YtcnmbldikjljeaaGreatDoorJ03
import Derived.Test.YtcnmbldikjljeaaGreatDoorJ15
import Derived.Test.YtcnmbldikjljeaaGreatDoorJ16
namespace Go.Proofs.YtcnmbldikjljeaaGreatDoor
open Go.RowKit

section
variable {own own' : Nat → Nat} {w w' : World} {T : Nat → Prop} {t g c : Nat} {F : Nat → Bool} {st : List Stg} {sv lv lv' : Value} {vs : Nat → Value × Value} {d d' : Dk}
theorem RC.unro (h : RC (roW own w) c F) : RC w c F := by
  obtain ⟨q, cap, h1, h0, h2, h3⟩ := h.row
  have hl := h.lt
  rw [ro_size] at h2 hl
  exact ⟨hl, q, cap, (ro_cell h1).2, h0, h2, fun j hj => (ro_cell (h3 j hj)).2⟩
theorem SW.unro (h : SW (roW own w) sv st vs) : SW w sv st vs := ⟨ro_row h.row (by decide), fun i hi => ro_row (h.lev i hi) (by decide), fun i hi => ro_row (h.nxt i hi) (by decide)⟩
/-- the document's docket, of owner t -/
structure RT (own : Nat → Nat) (w : World) (t g c : Nat) (F : Nat → Bool) (st : List Stg) (sv : Value) (vs : Nat → Value × Value) (lv : Value) (d : Dk) : Prop where
  blk : w.heap[g]? = some (.cells #[P0 c, sv, .int .i64 d.time, .int .i64 d.made, .int .i64 d.told, lv] 240 (0, 0))
  row : w.ownsRow 0 242 6 lv d.cases.length (cssCells d.cases)
  nl : d.cases = [] → lv = .slice none 0 0
  tg : own g = t
  tl : ∀ k, lv.ownBlock = some k → own k = t
  cal : RC (roW own w) c F
  stg : SW (roW own w) sv st vs
theorem RT.rd (h : RT own w t g c F st sv vs lv d) : RD w g c F st sv vs lv d := ⟨h.blk, h.cal.unro, h.stg.unro, h.row, h.nl⟩
theorem RC.kept (h : RC (roW own w) c F) (k : KeptS own own' T w w') (hs : ¬ T 0) : RC (roW own' w') c F := h.on (by rw [ro_size]; exact k.below hs)
theorem SW.kept (h : SW (roW own w) sv st vs) (k : KeptS own own' T w w') (hs : ¬ T 0) : SW (roW own' w') sv st vs := h.on (by rw [ro_size]; exact k.below hs)
theorem RT.kept (h : RT own w t g c F st sv vs lv d) (k : KeptS own own' T w w') (hs : ¬ T 0) (hst : ¬ T t) : RT own' w' t g c F st sv vs lv d := by
  have hg := k.at h.blk (by rw [h.tg]; exact hst)
  have hm : MRow own t w _ _ _ _ _ := ⟨h.row, h.tl⟩
  have hm' := hm.kept k hst
  exact ⟨hg.1, hm'.1, h.nl, hg.2.trans h.tg, hm'.2, h.cal.kept k hs, h.stg.kept k hs⟩
/-- a call of the docket's own -/
theorem RT.step (h : RT own w t g c F st sv vs lv d) (ht : t ≠ 0) (hl : ∀ k, own k ≠ 0 → k < w.heap.size) (R : RD w' g c F st sv vs lv' d') (f : Fr g lv lv' w w') : ∃ own', RT own' w' t g c F st sv vs lv' d' ∧ Kept own own' t w w' := by
  have hk : Kept own (tagOf own lv'.ownBlock t) t w w' := by
    refine ⟨f.os, f.tape, f.output, f.size, fun k hk hne => f.block k hk (fun e => hne (by rw [e]; exact h.tg)) (fun e => hne (h.tl k e.symm)), fun k hk => ?_, fun k hk h0 => ?_, tagOf_nt⟩
    · unfold tagOf
      split
      · rename_i e
        rcases f.row k e.symm with a | a
        · exact (h.tl k a).symm
        · omega
      · rfl
    · unfold tagOf at h0
      split at h0
      · rename_i e
        exact (R.own.lt k e.symm).2
      · exact absurd (hl k h0) (by omega)
  refine ⟨_, ⟨R.blk, R.own, R.nl, ?_, fun k e => by unfold tagOf; rw [if_pos e.symm], h.cal.kept hk (Ne.symm ht), h.stg.kept hk (Ne.symm ht)⟩, hk⟩
  have hgl := h.rd.lt
  rw [hk.same g hgl]; exact h.tg
/-- one that leaves the row where it lay, and gives a list of its own -/
theorem RT.step1 (h : RT own w t g c F st sv vs lv d) (ht : t ≠ 0) (hl : ∀ k, own k ≠ 0 → k < w.heap.size) (R : RD w' g c F st sv vs lv d') (f : Fr g lv lv w w') : RT own w' t g c F st sv vs lv d' ∧ Kept own own t w w' := by
  have hk : Kept own own t w w' := ⟨f.os, f.tape, f.output, f.size, fun k hk hne => f.block k hk (fun e => hne (by rw [e]; exact h.tg)) (fun e => hne (h.tl k e.symm)), fun _ _ => rfl, fun k hk h0 => absurd (hl k h0) (by omega), fun _ => .inr (.inl rfl)⟩
  exact ⟨⟨R.blk, R.own, R.nl, h.tg, h.tl, h.cal.kept hk (Ne.symm ht), h.stg.kept hk (Ne.symm ht)⟩, hk⟩
end
end Go.Proofs.YtcnmbldikjljeaaGreatDoor
namespace Go.Proofs.YtcnmbldikjljeaaGreatDoor
open Go.RowKit

theorem get_in (s : ByteArray) (p : Nat) (h : p < s.size) : s.get! p = s[p]'h := get_at s p h
theorem okW_eq (s : ByteArray) (p : Nat) (lo hi : Int) : okW s p lo hi = (decide (p < s.size) && (decide (lo ≤ ((s.get! p).toNat : Int)) && decide (((s.get! p).toNat : Int) ≤ hi))) := by
  by_cases h : p < s.size
  · rw [get_in s p h]; simp [okW, h]
  · simp [okW, h]
/-- how wide, by the bytes -/
def ww (b0 : Nat) (i1 : Bool) (b1 : Nat) (i2 : Bool) (b2 : Nat) (i3 : Bool) (b3 : Nat) : Nat :=
  if 194 ≤ b0 ∧ b0 ≤ 223 then (if i1 = true ∧ 128 ≤ b1 ∧ b1 ≤ 191 then 2 else 1)
  else if 224 ≤ b0 ∧ b0 ≤ 239 then (if i1 = true ∧ (if b0 = 224 then 160 else 128) ≤ b1 ∧ b1 ≤ (if b0 = 237 then 159 else 191) ∧ i2 = true ∧ 128 ≤ b2 ∧ b2 ≤ 191 then 3 else 1)
  else if 240 ≤ b0 ∧ b0 ≤ 244 then (if i1 = true ∧ (if b0 = 240 then 144 else 128) ≤ b1 ∧ b1 ≤ (if b0 = 244 then 143 else 191) ∧ i2 = true ∧ 128 ≤ b2 ∧ b2 ≤ 191 ∧ i3 = true ∧ 128 ≤ b3 ∧ b3 ≤ 191 then 4 else 1)
  else 1
theorem okW_iff (s : ByteArray) (p : Nat) (lo hi : Int) : okW s p lo hi = true ↔ (decide (p < s.size) = true ∧ lo ≤ ((s.get! p).toNat : Int) ∧ ((s.get! p).toNat : Int) ≤ hi) := by
  rw [okW_eq]; simp
theorem wl2 (s : ByteArray) (p : Nat) (lo hi : Int) : wl s p 2 4 1 lo hi = if okW s (p + 1) lo hi = true then 2 else 1 := by
  simp [wl]
theorem wl3 (s : ByteArray) (p : Nat) (lo hi : Int) : wl s p 3 4 1 lo hi = if okW s (p + 1) lo hi = true ∧ okW s (p + 2) 128 191 = true then 3 else 1 := by
  cases h1 : okW s (p + 1) lo hi <;> cases h2 : okW s (p + 2) 128 191 <;> simp [wl, h1, h2]
theorem wl4 (s : ByteArray) (p : Nat) (lo hi : Int) : wl s p 4 4 1 lo hi = if okW s (p + 1) lo hi = true ∧ okW s (p + 2) 128 191 = true ∧ okW s (p + 3) 128 191 = true then 4 else 1 := by
  cases h1 : okW s (p + 1) lo hi <;> cases h2 : okW s (p + 2) 128 191 <;> cases h3 : okW s (p + 3) 128 191 <;> simp [wl, h1, h2, h3]
theorem wideF_ww (s : ByteArray) (p : Nat) (b0 : Nat) : wideF s p (b0 : Int) = ww b0 (decide (p + 1 < s.size)) (s.get! (p + 1)).toNat (decide (p + 2 < s.size)) (s.get! (p + 2)).toNat (decide (p + 3 < s.size)) (s.get! (p + 3)).toNat := by
  unfold wideF ww
  by_cases h2 : 194 ≤ b0 ∧ b0 ≤ 223
  · have hn : nOf (b0 : Int) = 2 := by unfold nOf; rw [if_pos (by omega)]
    have hlo : loOf (b0 : Int) = 128 := by unfold loOf; rw [if_neg (by omega), if_neg (by omega)]
    have hhi : hiOf (b0 : Int) = 191 := by unfold hiOf; rw [if_neg (by omega), if_neg (by omega)]
    rw [hn, hlo, hhi, wl2, if_pos h2]
    simp only [okW_iff]
    congr 1
    apply propext
    constructor <;> rintro ⟨a, b, c⟩ <;> exact ⟨a, by omega, by omega⟩
  · rw [if_neg h2]
    by_cases h3 : 224 ≤ b0 ∧ b0 ≤ 239
    · have hn : nOf (b0 : Int) = 3 := by unfold nOf; rw [if_neg (by omega), if_pos (by omega)]
      have hlo : loOf (b0 : Int) = ((if b0 = 224 then 160 else 128 : Nat) : Int) := by unfold loOf; split <;> split <;> (try split) <;> omega
      have hhi : hiOf (b0 : Int) = ((if b0 = 237 then 159 else 191 : Nat) : Int) := by unfold hiOf; split <;> split <;> (try split) <;> omega
      rw [hn, hlo, hhi, wl3, if_pos h3]
      generalize (if b0 = 224 then 160 else 128 : Nat) = lo
      generalize (if b0 = 237 then 159 else 191 : Nat) = hi
      simp only [okW_iff]
      congr 1
      apply propext
      constructor
      · rintro ⟨⟨a, b, c⟩, d, e, f⟩; exact ⟨a, by omega, by omega, d, by omega, by omega⟩
      · rintro ⟨a, b, c, d, e, f⟩; exact ⟨⟨a, by omega, by omega⟩, d, by omega, by omega⟩
    · rw [if_neg h3]
      by_cases h4 : 240 ≤ b0 ∧ b0 ≤ 244
      · have hn : nOf (b0 : Int) = 4 := by unfold nOf; rw [if_neg (by omega), if_neg (by omega), if_pos (by omega)]
        have hlo : loOf (b0 : Int) = ((if b0 = 240 then 144 else 128 : Nat) : Int) := by unfold loOf; split <;> split <;> (try split) <;> omega
        have hhi : hiOf (b0 : Int) = ((if b0 = 244 then 143 else 191 : Nat) : Int) := by unfold hiOf; split <;> split <;> (try split) <;> omega
        rw [hn, hlo, hhi, wl4, if_pos h4]
        generalize (if b0 = 240 then 144 else 128 : Nat) = lo
        generalize (if b0 = 244 then 143 else 191 : Nat) = hi
        simp only [okW_iff]
        congr 1
        apply propext
        constructor
        · rintro ⟨⟨a, b, c⟩, ⟨d, e, f⟩, g, h, i⟩; exact ⟨a, by omega, by omega, d, by omega, by omega, g, by omega, by omega⟩
        · rintro ⟨a, b, c, d, e, f, g, h, i⟩; exact ⟨⟨a, by omega, by omega⟩, ⟨d, by omega, by omega⟩, g, by omega, by omega⟩
      · have hn : nOf (b0 : Int) = 1 := by unfold nOf; rw [if_neg (by omega), if_neg (by omega), if_neg (by omega)]
        rw [hn, if_neg h4]
        simp [wl]
/-- how wide, as range reads it -/
def dw (b0 : Nat) (i1 : Bool) (b1 : Nat) (i2 : Bool) (b2 : Nat) (i3 : Bool) (b3 : Nat) : Nat :=
  if b0 < 0x80 then 1
  else if (b0 / 32 == 6 && (i1 && b1 / 64 == 2)) = true then (if (b0 % 32) * 64 + b1 % 64 ≥ 0x80 then 2 else 1)
  else if (b0 / 16 == 14 && (i1 && b1 / 64 == 2) && (i2 && b2 / 64 == 2)) = true then
    (if (decide ((b0 % 16) * 4096 + (b1 % 64) * 64 + b2 % 64 ≥ 0x800) && Utf8.valid (((b0 % 16) * 4096 + (b1 % 64) * 64 + b2 % 64 : Nat) : Int)) = true then 3 else 1)
  else if (b0 / 8 == 30 && (i1 && b1 / 64 == 2) && (i2 && b2 / 64 == 2) && (i3 && b3 / 64 == 2)) = true then
    (if (decide ((b0 % 8) * 262144 + (b1 % 64) * 4096 + (b2 % 64) * 64 + b3 % 64 ≥ 0x10000) && Utf8.valid (((b0 % 8) * 262144 + (b1 % 64) * 4096 + (b2 % 64) * 64 + b3 % 64 : Nat) : Int)) = true then 4 else 1)
  else 1
theorem decode_dw (s : ByteArray) (p : Nat) : (Utf8.decode s p).2 = dw (s.get! p).toNat (decide (p + 1 < s.size)) (s.get! (p + 1)).toNat (decide (p + 2 < s.size)) (s.get! (p + 2)).toNat (decide (p + 3 < s.size)) (s.get! (p + 3)).toNat := by
  simp only [Utf8.decode, dw, Nat.add_zero]
  repeat' split
  all_goals first | rfl | (exfalso; simp_all)
theorem valid_iff (n : Nat) : Utf8.valid (n : Int) = true ↔ (n < 55296 ∨ (57344 ≤ n ∧ n ≤ 1114111)) := by
  simp [Utf8.valid]; omega
theorem ww_dw (b0 b1 b2 b3 : Nat) (i1 i2 i3 : Bool) (h0 : b0 < 256) (h1 : b1 < 256) (h2 : b2 < 256) (h3 : b3 < 256) : ww b0 i1 b1 i2 b2 i3 b3 = dw b0 i1 b1 i2 b2 i3 b3 := by
  unfold ww dw
  simp only [Bool.and_eq_true, beq_iff_eq, decide_eq_true_eq, valid_iff]
  by_cases a1 : b0 < 128
  · have k1 : ¬ (194 ≤ b0 ∧ b0 ≤ 223) := by omega
    have k2 : ¬ (224 ≤ b0 ∧ b0 ≤ 239) := by omega
    have k3 : ¬ (240 ≤ b0 ∧ b0 ≤ 244) := by omega
    simp only [k1, k2, k3, a1, if_true, if_false]
  · by_cases a2 : b0 < 194
    · have k1 : ¬ (194 ≤ b0 ∧ b0 ≤ 223) := by omega
      have k2 : ¬ (224 ≤ b0 ∧ b0 ≤ 239) := by omega
      have k3 : ¬ (240 ≤ b0 ∧ b0 ≤ 244) := by omega
      have k4 : ¬ b0 / 16 = 14 := by omega
      have k5 : ¬ b0 / 8 = 30 := by omega
      simp only [k1, k2, k3, k4, k5, a1, if_false, false_and]
      split
      · rw [if_neg (by omega)]
      · rfl
    · by_cases a3 : b0 < 224
      · have k1 : 194 ≤ b0 ∧ b0 ≤ 223 := by omega
        have k4 : ¬ b0 / 16 = 14 := by omega
        have k5 : ¬ b0 / 8 = 30 := by omega
        have k6 : b0 / 32 = 6 := by omega
        simp only [k1, k4, k5, k6, a1, if_true, if_false, false_and, true_and, and_self]
        cases i1
        · simp
        · simp only [true_and]
          split <;> split <;> (try split) <;> omega
      · by_cases a5 : b0 < 240
        · have k1 : ¬ (194 ≤ b0 ∧ b0 ≤ 223) := by omega
          have k2 : 224 ≤ b0 ∧ b0 ≤ 239 := by omega
          have k4 : b0 / 16 = 14 := by omega
          have k5 : ¬ b0 / 8 = 30 := by omega
          have k6 : ¬ b0 / 32 = 6 := by omega
          simp only [k1, k2, k4, k5, k6, a1, if_true, if_false, false_and, true_and, and_self]
          cases i1
          · simp
          · cases i2
            · simp
            · simp only [true_and]
              by_cases c1 : b0 = 224
              · subst c1; simp only [if_true, show ¬ (224 : Nat) = 237 by omega, if_false]
                split <;> split <;> (try split) <;> omega
              · by_cases c2 : b0 = 237
                · subst c2; simp only [if_true, show ¬ (237 : Nat) = 224 by omega, if_false]
                  split <;> split <;> (try split) <;> omega
                · simp only [c1, c2, if_false]
                  split <;> split <;> (try split) <;> omega
        · by_cases a6 : b0 ≤ 244
          · have k1 : ¬ (194 ≤ b0 ∧ b0 ≤ 223) := by omega
            have k2 : ¬ (224 ≤ b0 ∧ b0 ≤ 239) := by omega
            have k3 : 240 ≤ b0 ∧ b0 ≤ 244 := by omega
            have k4 : ¬ b0 / 16 = 14 := by omega
            have k5 : b0 / 8 = 30 := by omega
            have k6 : ¬ b0 / 32 = 6 := by omega
            simp only [k1, k2, k3, k4, k5, k6, a1, if_true, if_false, false_and, true_and, and_self]
            cases i1
            · simp
            · cases i2
              · simp
              · cases i3
                · simp
                · simp only [true_and]
                  by_cases c1 : b0 = 240
                  · subst c1; simp only [if_true, show ¬ (240 : Nat) = 244 by omega, if_false]
                    split <;> split <;> (try split) <;> omega
                  · by_cases c2 : b0 = 244
                    · subst c2; simp only [if_true, show ¬ (244 : Nat) = 240 by omega, if_false]
                      split <;> split <;> (try split) <;> omega
                    · simp only [c1, c2, if_false]
                      split <;> split <;> (try split) <;> omega
          · have k1 : ¬ (194 ≤ b0 ∧ b0 ≤ 223) := by omega
            have k2 : ¬ (224 ≤ b0 ∧ b0 ≤ 239) := by omega
            have k3 : ¬ (240 ≤ b0 ∧ b0 ≤ 244) := by omega
            have k4 : ¬ b0 / 16 = 14 := by omega
            have k6 : ¬ b0 / 32 = 6 := by omega
            simp only [k1, k2, k3, k4, k6, a1, if_false, false_and]
            split
            · rw [if_neg (by omega)]
            · rfl
theorem wide_decode (s : ByteArray) (p : Nat) (h : p < s.size) : wideF s p ((s[p]'h).toNat : Int) = (Utf8.decode s p).2 := by
  rw [wideF_ww, decode_dw, ww_dw _ _ _ _ _ _ _ (UInt8.toNat_lt _) (UInt8.toNat_lt _) (UInt8.toNat_lt _) (UInt8.toNat_lt _), get_in s p h]
theorem plain_decode (s : ByteArray) (p : Nat) (h : p < s.size) : plain ((s[p]'h).toNat : Int) = plain ((Utf8.decode s p).1 : Int) := by
  by_cases ha : (s[p]'h).toNat < 128
  · rw [decode_ascii s p h ha]
  · have := (decode_high s p h (by omega)).1
    unfold plain
    rw [if_pos (by omega), if_pos (by omega)]
theorem crun_runes (s : ByteArray) : ∀ f p, crun s f p = (runes s f p).map plain := by
  intro f
  induction f with
  | zero => intro p; rfl
  | succ f ih =>
    intro p
    by_cases h : p < s.size
    · rw [crun_go h, wide_decode s p h, plain_decode s p h, ih]; simp [runes, h]
    · rw [crun_end h, runes_end s _ p h]; rfl
theorem crun_chars (s : ByteArray) : crun s s.size 0 = (chars s).map plain := crun_runes s _ _
end Go.Proofs.YtcnmbldikjljeaaGreatDoor
namespace Go.Proofs.YtcnmbldikjljeaaGreatDoor
open Go.RowKit

/-! ### What is no plain character is told as 0 is -/
theorem first_high {c : Int} (h : c = 0 ∨ 128 ≤ c) : isFirst c = false := by
  simp only [isFirst, Bool.or_eq_false_iff, beq_eq_false_iff_ne]; omega
theorem dayOf_high {a c : Int} (h : c = 0 ∨ 128 ≤ c) : dayOf a c = 7 := by
  unfold dayOf; repeat (rw [if_neg (by omega)])
theorem take_high {s : RS} {c : Int} (h : c = 0 ∨ 128 ≤ c) : (takeL s c).1 = false ∧ takeL s c = takeL s 0 := by
  have hd : ¬ isDig c := by unfold isDig; omega
  have hd0 : ¬ isDig 0 := by unfold isDig; omega
  have hm : ∀ (t : RS) (m n : Int), m ≠ 0 → m < 128 → markL t c m n = (false, t) := fun t m n h1 h2 => by unfold markL; rw [if_neg (by omega)]
  have hm0 : ∀ (t : RS) (m n : Int), m ≠ 0 → m < 128 → markL t 0 m n = (false, t) := fun t m n h1 h2 => by unfold markL; rw [if_neg (by omega)]
  have ht : ∀ (m n k : Int), timeDigitL s c m n k = (false, s) := fun m n k => by unfold timeDigitL; rw [if_neg (fun e => hd e.1)]
  have ht0 : ∀ (m n k : Int), timeDigitL s 0 m n k = (false, s) := fun m n k => by unfold timeDigitL; rw [if_neg (fun e => hd0 e.1)]
  have c44 : ¬ c = 44 := by omega
  have c59 : ¬ c = 59 := by omega
  have c32 : ¬ c = 32 := by omega
  by_cases e0 : s.st = 0
  · rw [take_st0 c e0, take_st0 0 e0]; unfold dayFirstL; rw [first_high h, first_high (.inl rfl)]; simp
  by_cases e1 : s.st = 1
  · rw [take_st1 c e1, take_st1 0 e1]; unfold daySecondL; rw [dayOf_high h, dayOf_high (.inl rfl)]; simp
  by_cases e2 : s.st = 2
  · rw [take_st2 c e2, take_st2 0 e2]; unfold dayEndL; rw [if_neg c44, hm _ _ _ (by omega) (by omega), hm0 _ _ _ (by omega) (by omega)]; simp
  by_cases e3 : s.st = 3
  · rw [take_st3 c e3, take_st3 0 e3]; rw [ht, ht0]; simp
  by_cases e4 : s.st = 4
  · rw [take_st4 c e4, take_st4 0 e4]; rw [ht, ht0]; simp
  by_cases e5 : s.st = 5
  · rw [take_st5 c e5, take_st5 0 e5]; rw [hm _ _ _ (by omega) (by omega), hm0 _ _ _ (by omega) (by omega)]; simp
  by_cases e6 : s.st = 6
  · rw [take_st6 c e6, take_st6 0 e6]; rw [ht, ht0]; simp
  by_cases e7 : s.st = 7
  · rw [take_st7 c e7, take_st7 0 e7]; unfold minOnesL; rw [ht, ht0]; simp
  by_cases e8 : s.st = 8
  · rw [take_st8 c e8, take_st8 0 e8]; rw [hm _ _ _ (by omega) (by omega), hm0 _ _ _ (by omega) (by omega)]; simp
  by_cases e9 : s.st = 9
  · rw [take_st9 c e9, take_st9 0 e9]; unfold spanEndL; rw [if_neg c59, if_neg c32, hm _ _ _ (by omega) (by omega), hm0 _ _ _ (by omega) (by omega)]; simp
  by_cases e10 : s.st = 10
  · rw [take_st10 c e10, take_st10 0 e10]; unfold numFirstL; rw [if_neg hd, if_neg hd0]; simp
  by_cases e11 : s.st = 11
  · rw [take_st11 c e11, take_st11 0 e11]; unfold numSecondL; rw [if_neg hd, if_neg hd0, hm _ _ _ (by omega) (by omega), hm0 _ _ _ (by omega) (by omega)]
    refine ⟨?_, rfl⟩
    by_cases g : (endShortL s).1 = true
    · rw [if_pos g]
    · rw [if_neg g]; simpa using g
  · have he : ∀ x, takeL s x = markL s x 44 10 := fun x => by unfold takeL; rw [if_neg e0, if_neg e1, if_neg e2, if_neg e3, if_neg e4, if_neg e5, if_neg e6, if_neg e7, if_neg e8, if_neg e9, if_neg e10, if_neg e11]
    rw [he, he, hm _ _ _ (by omega) (by omega), hm0 _ _ _ (by omega) (by omega)]; simp
theorem take_zero (s : RS) : (takeL s 0).1 = false := (take_high (.inl rfl)).1
theorem take_plain (s : RS) (c : Int) : takeL s (plain c) = takeL s c := by
  unfold plain
  split
  · exact (take_high (.inr (by assumption))).2.symm
  · rfl
theorem loop_plain (l : List Int) : ∀ s, loopL (l.map plain) s = loopL l s := by
  induction l with
  | nil => intro s; rfl
  | cons c l ih => intro s; simp only [List.map_cons, loopL, take_plain, ih]
theorem parse_crun (s : ByteArray) : parseL s = loopL (crun s s.size 0) rs0 := by rw [crun_chars, loop_plain]; rfl
end Go.Proofs.YtcnmbldikjljeaaGreatDoor
namespace Go.Proofs.YtcnmbldikjljeaaGreatDoor
open Go.RowKit

/-- the program's reader, from a place on -/
def mach (L : List Int) (I : Int) (s : RS) : Bool × RS := loopL (L.drop I.toNat) s
/-- told at a place -/
def Tld (M : Bool × RS) (P : Int) : Prop := M.1 = false ∧ M.2.place = P ∧ 0 ≤ P

section
variable {L : List Int} {I P lo hi : Int} {s : RS}
theorem look_end (h : (L.length : Int) ≤ I) : lookF L (I, -1) = 0 := by unfold lookF; rw [if_pos (.inr h)]
theorem look_drop (h0 : 0 ≤ I) (h : I < L.length) : L.drop I.toNat = lookF L (I, -1) :: L.drop (I + 1).toNat := by
  have hn : I.toNat < L.length := by omega
  rw [show (I + 1).toNat = I.toNat + 1 by omega]
  unfold lookF
  rw [if_neg (by simp; omega), List.drop_eq_getElem_cons hn]
  simp [List.getD, hn]
theorem mach_out (h : (L.length : Int) ≤ I) : mach L I s = finishL s := by
  unfold mach; rw [List.drop_eq_nil_of_le (by omega)]; rfl
theorem mach_yes (h0 : 0 ≤ I) (hy : (takeL s (lookF L (I, -1))).1 = true) : I < L.length ∧ mach L I s = mach L (I + 1) { (takeL s (lookF L (I, -1))).2 with place := (takeL s (lookF L (I, -1))).2.place + 1 } := by
  by_cases h : I < L.length
  · refine ⟨h, ?_⟩
    unfold mach
    rw [look_drop h0 h]
    simp only [loopL, hy, if_true]
  · rw [look_end (by omega), take_zero] at hy; cases hy
theorem mach_no (h0 : 0 ≤ I) (h : I < L.length) (hn : (takeL s (lookF L (I, -1))).1 = false) : mach L I s = takeL s (lookF L (I, -1)) := by
  unfold mach
  rw [look_drop h0 h]
  simp only [loopL, hn]
  rfl
theorem mach_told (h0 : 0 ≤ I) (hp : s.place = I) (hst : s.st ≠ 9 ∧ s.st ≠ 11 ∧ s.st ≠ 12) (hn : (takeL s (lookF L (I, -1))).1 = false) (hpl : (takeL s (lookF L (I, -1))).2.place = s.place) : Tld (mach L I s) I := by
  by_cases h : I < L.length
  · rw [mach_no h0 h hn]; exact ⟨hn, hpl.trans hp, h0⟩
  · rw [mach_out (by omega)]
    unfold finishL
    rw [if_neg hst.2.1]
    exact ⟨by simp [hst.1, hst.2.2], hp, h0⟩
theorem dstep (h0 : 0 ≤ I) (most minutes next : Int) (hk : ∀ c, takeL s c = timeDigitL s c most minutes next) (hp : s.place = I) (hst : s.st ≠ 9 ∧ s.st ≠ 11 ∧ s.st ≠ 12) :
    ((48 ≤ lookF L (I, -1) ∧ lookF L (I, -1) ≤ 57 ∧ lookF L (I, -1) - 48 ≤ most ∧ s.time + (lookF L (I, -1) - 48) * minutes ≤ 1440) ∧ I < L.length ∧ mach L I s = mach L (I + 1) { s with time := s.time + (lookF L (I, -1) - 48) * minutes, st := next, place := I + 1 }) ∨
    (¬ (48 ≤ lookF L (I, -1) ∧ lookF L (I, -1) ≤ 57 ∧ lookF L (I, -1) - 48 ≤ most ∧ s.time + (lookF L (I, -1) - 48) * minutes ≤ 1440) ∧ Tld (mach L I s) I) := by
  by_cases h : 48 ≤ lookF L (I, -1) ∧ lookF L (I, -1) ≤ 57 ∧ lookF L (I, -1) - 48 ≤ most ∧ s.time + (lookF L (I, -1) - 48) * minutes ≤ 1440
  · have e : takeL s (lookF L (I, -1)) = (true, { s with time := s.time + (lookF L (I, -1) - 48) * minutes, st := next }) := by
      rw [hk]; unfold timeDigitL; rw [if_pos ⟨⟨h.1, h.2.1⟩, h.2.2⟩]
    have := mach_yes (L := L) (s := s) h0 (by rw [e])
    rw [e] at this
    refine .inl ⟨h, this.1, ?_⟩
    rw [this.2]; simp [hp]
  · have e : takeL s (lookF L (I, -1)) = (false, s) := by
      rw [hk]; unfold timeDigitL; rw [if_neg (fun g => h ⟨g.1.1, g.1.2, g.2⟩)]
    exact .inr ⟨h, mach_told h0 hp hst (by rw [e]) (by rw [e])⟩
theorem mstep (h0 : 0 ≤ I) (mark next : Int) (hk : ∀ c, takeL s c = markL s c mark next) (hp : s.place = I) (hst : s.st ≠ 9 ∧ s.st ≠ 11 ∧ s.st ≠ 12) :
    (lookF L (I, -1) = mark ∧ I < L.length ∧ mach L I s = mach L (I + 1) { s with st := next, place := I + 1 }) ∨ (¬ lookF L (I, -1) = mark ∧ Tld (mach L I s) I) := by
  by_cases h : lookF L (I, -1) = mark
  · have e : takeL s (lookF L (I, -1)) = (true, { s with st := next }) := by rw [hk]; unfold markL; rw [if_pos h]
    have := mach_yes (L := L) (s := s) h0 (by rw [e])
    rw [e] at this
    refine .inl ⟨h, this.1, ?_⟩
    rw [this.2]; simp [hp]
  · have e : takeL s (lookF L (I, -1)) = (false, s) := by rw [hk]; unfold markL; rw [if_neg h]
    exact .inr ⟨h, mach_told h0 hp hst (by rw [e]) (by rw [e])⟩

/-! ### The document's reader -/
theorem tk_yes (a : lo ≤ lookF L (I, -1)) (b : lookF L (I, -1) ≤ hi) (c : lookF L (I, -1) ≠ 0) : takeF L (I, -1) lo hi = (lookF L (I, -1), (I + 1, -1)) := by
  unfold takeF; rw [if_neg (by omega)]
theorem tk_no (h : ¬ (lo ≤ lookF L (I, -1) ∧ lookF L (I, -1) ≤ hi ∧ lookF L (I, -1) ≠ 0)) : takeF L (I, -1) lo hi = (lo, (I, I)) := by
  unfold takeF; rw [if_pos (by omega)]; rfl
theorem told_look (hP : 0 ≤ P) : lookF L (I, P) = 0 := by unfold lookF; rw [if_pos (.inl hP)]
theorem told_bad (hP : 0 ≤ P) (x : Int) : badF (I, P) x = (I, P) := by unfold badF; rw [if_neg (by simp; omega)]
theorem told_take (hP : 0 ≤ P) : takeF L (I, P) lo hi = (lo, (I, P)) := by
  unfold takeF; rw [told_look hP, if_pos (.inr (.inr rfl)), told_bad hP]
theorem told_time (hP : 0 ≤ P) : (timeF L (I, P)).2 = (I, P) := by simp only [timeF, told_take hP]
theorem told_weekday (hP : 0 ≤ P) : (weekdayF L (I, P)).2 = (I, P) := by
  unfold weekdayF; rw [told_look hP, first_high (.inl rfl)]; simp only [Bool.false_eq_true, if_false]; exact told_bad hP _
theorem told_days (hP : 0 ≤ P) (f : Nat) (l : List Int) : daysF L f (I, P) l = (l, (I, P)) := by
  cases f with
  | zero => rfl
  | succ f => simp only [daysF, told_look hP]; rw [if_neg (by omega)]
theorem told_span (hP : 0 ≤ P) : (spanF L (I, P)).2.2 = (I, P) := by
  unfold spanF
  have e := told_time (L := L) (I := I) hP
  simp only [e, told_take hP, told_bad hP]
  split <;> rfl
theorem told_spans (hP : 0 ≤ P) (l : List Int) (f : Nat) (wk : Nat → Bool) : spansF L l f (I, P) wk = ((I, P), wk) := by
  cases f with
  | zero => rfl
  | succ f => simp only [spansF]; rw [if_neg (by simp; omega)]
theorem told_entry (hP : 0 ≤ P) (wk : Nat → Bool) : (entryF L (I, P) wk).1 = (I, P) := by
  unfold entryF
  simp only [told_weekday hP, told_days hP, told_take hP, told_spans hP]

/-- a time -/
theorem sim_time (h0 : 0 ≤ I) (hst : s.st = 3) (ht : s.time = 0) (hp : s.place = I) :
    (∃ J P, (timeF L (I, -1)).2 = (J, P) ∧ Tld (mach L I s) P) ∨
    (∃ T, 0 ≤ T ∧ timeF L (I, -1) = (T, (I + 5, -1)) ∧ I + 5 ≤ L.length ∧
      mach L I s = if (endTimeL { s with time := T, st := 9, place := I + 4 }).1 then mach L (I + 5) { (endTimeL { s with time := T, st := 9, place := I + 4 }).2 with place := I + 5 } else endTimeL { s with time := T, st := 9, place := I + 4 }) := by
  unfold timeF
  rcases dstep (L := L) h0 9 600 4 (fun c => take_st3 c hst) hp (by omega) with ⟨⟨a1, a2, a3, a4⟩, l1, e1⟩ | ⟨n1, t1⟩
  · rw [ht] at a4 e1
    rw [tk_yes (by omega) (by omega) (by omega)]
    simp only
    rcases dstep (L := L) (I := I + 1) (s := { s with time := 0 + (lookF L (I, -1) - 48) * 600, st := 4, place := I + 1 }) (by omega) 9 60 5 (fun c => take_st4 c rfl) rfl (by simp) with ⟨⟨b1, b2, b3, b4⟩, l2, e2⟩ | ⟨n2, t2⟩
    · simp only at b4 e2
      rw [tk_yes (by omega) (by split <;> omega) (by omega)]
      simp only
      rw [show I + 1 + 1 = I + 2 by omega] at e2 ⊢
      rcases mstep (L := L) (I := I + 2) (s := { s with time := 0 + (lookF L (I, -1) - 48) * 600 + (lookF L (I + 1, -1) - 48) * 60, st := 5, place := I + 2 }) (by omega) 58 6 (fun c => take_st5 c rfl) rfl (by simp) with ⟨c1, l3, e3⟩ | ⟨n3, t3⟩
      · simp only at e3
        rw [tk_yes (by omega) (by omega) (by omega)]
        simp only
        rw [show I + 2 + 1 = I + 3 by omega] at e3 ⊢
        rcases dstep (L := L) (I := I + 3) (s := { s with time := 0 + (lookF L (I, -1) - 48) * 600 + (lookF L (I + 1, -1) - 48) * 60, st := 6, place := I + 3 }) (by omega) 5 10 7 (fun c => take_st6 c rfl) rfl (by simp) with ⟨⟨d1, d2, d3, d4⟩, l4, e4⟩ | ⟨n4, t4⟩
        · simp only at d4 e4
          rw [tk_yes (by omega) (by split <;> omega) (by omega)]
          simp only
          rw [show I + 3 + 1 = I + 4 by omega] at e4 ⊢
          generalize hT : 0 + (lookF L (I, -1) - 48) * 600 + (lookF L (I + 1, -1) - 48) * 60 + (lookF L (I + 3, -1) - 48) * 10 = T3 at *
          obtain ⟨s7, hs7⟩ : ∃ s7, s7 = { s with time := T3, st := 7, place := I + 4 } := ⟨_, rfl⟩
          rw [← hs7] at e4
          have h7 : ∀ c, takeL s7 c = minOnesL s7 c := fun c => take_st7 c (by rw [hs7])
          by_cases hd : 48 ≤ lookF L (I + 4, -1) ∧ lookF L (I + 4, -1) ≤ 57 ∧ T3 + (lookF L (I + 4, -1) - 48) ≤ 1440
          · rw [tk_yes (by omega) (by split <;> omega) (by omega)]
            simp only
            rw [show I + 4 + 1 = I + 5 by omega]
            have e9 : timeDigitL s7 (lookF L (I + 4, -1)) 9 1 9 = (true, { s7 with time := T3 + (lookF L (I + 4, -1) - 48) * 1, st := 9 }) := by
              unfold timeDigitL; rw [if_pos (by rw [hs7]; exact ⟨⟨hd.1, hd.2.1⟩, by omega, by simp only; omega⟩)]; rw [hs7]
            have e10 : takeL s7 (lookF L (I + 4, -1)) = endTimeL { s with time := T3 + (lookF L (I + 4, -1) - 48), st := 9, place := I + 4 } := by
              rw [h7]; unfold minOnesL; rw [e9, if_pos rfl, hs7, Int.mul_one]
            have hT9 : 60 * (10 * (lookF L (I, -1) - 48) + (lookF L (I + 1, -1) - 48)) + 10 * (lookF L (I + 3, -1) - 48) + (lookF L (I + 4, -1) - 48) = T3 + (lookF L (I + 4, -1) - 48) := by omega
            rw [hT9]
            have hlt : I + 4 < L.length := by
              by_cases hl : I + 4 < L.length
              · exact hl
              · rw [look_end (by omega)] at hd; omega
            refine .inr ⟨_, by omega, rfl, by omega, ?_⟩
            rw [e1, e2, e3, e4]
            cases hb : (endTimeL { s with time := T3 + (lookF L (I + 4, -1) - 48), st := 9, place := I + 4 }).1
            · rw [mach_no (by omega) hlt (by rw [e10]; exact hb), e10]; rfl
            · have := (mach_yes (L := L) (s := s7) (I := I + 4) (by omega) (by rw [e10]; exact hb)).2
              rw [this, e10, place_endTime]
              simp only [if_true]
              rw [show I + 4 + 1 = I + 5 by omega]
          · rw [tk_no (fun g => hd ⟨by omega, by have := g.2.1; split at this <;> omega, by have := g.2.1; split at this <;> omega⟩)]
            simp only
            have e9 : timeDigitL s7 (lookF L (I + 4, -1)) 9 1 9 = (false, s7) := by
              unfold timeDigitL; rw [if_neg (fun g => hd (by rw [hs7] at g; simp only at g; have := g.1.1; have := g.1.2; have := g.2.2; omega))]
            have e10 : takeL s7 (lookF L (I + 4, -1)) = (false, s7) := by rw [h7]; unfold minOnesL; rw [e9]; rfl
            refine .inl ⟨_, _, rfl, ?_⟩
            rw [e1, e2, e3, e4]
            exact mach_told (by omega) (by rw [hs7]) (by rw [hs7]; simp) (by rw [e10]) (by rw [e10])
        · simp only at n4
          rw [tk_no (fun g => n4 ⟨by omega, by have := g.2.1; split at this <;> omega, by have := g.2.1; split at this <;> omega, by have := g.2.1; split at this <;> omega⟩)]
          simp only [told_take (show 0 ≤ I + 3 by omega)]
          exact .inl ⟨_, _, rfl, by rw [e1, e2, e3]; exact t4⟩
      · rw [tk_no (fun g => n3 (by omega))]
        simp only [told_take (show 0 ≤ I + 2 by omega)]
        exact .inl ⟨_, _, rfl, by rw [e1, e2]; exact t3⟩
    · simp only at n2
      rw [tk_no (fun g => n2 ⟨by omega, by have := g.2.1; split at this <;> omega, by have := g.2.1; split at this <;> omega, by have := g.2.1; split at this <;> omega⟩)]
      simp only [told_take (show 0 ≤ I + 1 by omega)]
      exact .inl ⟨_, _, rfl, by rw [e1]; exact t2⟩
  · rw [ht] at n1
    rw [tk_no (fun g => n1 (by omega))]
    simp only [told_take h0]
    exact .inl ⟨_, _, rfl, t1⟩
end
end Go.Proofs.YtcnmbldikjljeaaGreatDoor
