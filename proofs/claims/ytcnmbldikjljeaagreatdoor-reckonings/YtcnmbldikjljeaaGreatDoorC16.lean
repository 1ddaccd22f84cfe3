import Derived.Test.YtcnmbldikjljeaaGreatDoorC05
import Derived.Test.YtcnmbldikjljeaaGreatDoorC15
import Derived.Test.YtcnmbldikjljeaaGreatDoorC14
namespace Go.Proofs.YtcnmbldikjljeaaGreatDoor
open Go.RowKit

theorem hit_none {m : Int} {l : List (Int × Int)} (h : hitL m (l.take l.length) = false) : hitL m l = false := by rw [List.take_length] at h; exact h
theorem hit_step {m : Int} {l : List (Int × Int)} {k : Nat} (hk : k < l.length) (h : hitL m (l.take k) = false) (hn : ¬ (l[k].1 ≤ m ∧ m < l[k].2)) : hitL m (l.take (k + 1)) = false := by
  rw [List.take_succ_eq_append_getElem hk]
  simp only [hitL, List.any_append, Bool.or_eq_false_iff] at h ⊢
  refine ⟨h, ?_⟩
  simp only [List.any_cons, List.any_nil, Bool.or_false]
  by_cases a : l[k].1 ≤ m
  · have : ¬ m < l[k].2 := fun e => hn ⟨a, e⟩
    simp [this]
  · simp [a]
theorem hit_yes {m : Int} {l : List (Int × Int)} {k : Nat} (hk : k < l.length) (h1 : l[k].1 ≤ m) (h2 : m < l[k].2) : hitL m l = true := by
  simp only [hitL, List.any_eq_true]
  exact ⟨l[k], List.getElem_mem hk, by simp [h1, h2]⟩

set_option maxRecDepth 100000 in
set_option maxHeartbeats 400000 in
theorem open_bad (g : Nat) (t : Int) (w : World) (h : t < 0 ∨ 100800 ≤ t) :
    Calls Tryz.prog 50 #[.pointer (some ⟨g, 0, none⟩), .int .i64 t] w fun e w' => e = .returned (.tuple #[.bool false, .int .i64 1]) ∧ w' = w := by
  by_cases h0 : t < 0
  · clear h
    go_enter Tryz.func50, Tryz.ntmps50
    go_wp2
    go_ret2
    exact ⟨rfl, rfl⟩
  · have h1 : 100800 ≤ t := by omega
    clear h
    go_enter Tryz.func50, Tryz.ntmps50
    go_wp2
    go_ret2
    exact ⟨rfl, rfl⟩

/-- a calendar inside a block: from cell o on -/
structure CalO (w : World) (g o : Nat) (wk : Nat → List (Int × Int)) (fr : Nat → Bool) : Prop where
  lt : g < w.heap.size
  week : ∀ j, j < 7 → ∃ v, w.cell? ⟨g, o + j, none⟩ = some v ∧ w.ownsRow 0 140 2 v (wk j).length (flat (wk j))
  free : ∀ j, j < 70 → w.cell? ⟨g, o + 7 + j, none⟩ = some (.bool (fr j))
theorem CalM.off {w : World} {g : Nat} {wk : Nat → List (Int × Int)} {fr : Nat → Bool} (h : CalM w g wk fr) : CalO w g 0 wk fr :=
  ⟨h.lt, fun j hj => by rw [Nat.zero_add]; exact h.week j hj, fun j hj => by rw [Nat.zero_add]; exact h.free j hj⟩
theorem CalO.on {w w' : World} {g o : Nat} {wk : Nat → List (Int × Int)} {fr : Nat → Bool} (h : CalO w g o wk fr) (hb : Below w.heap.size w w') : CalO w' g o wk fr := by
  have hg : w.grownBy w' none := ⟨hb.os, hb.tape, hb.output, hb.size, fun k hk _ => hb.block k hk⟩
  refine ⟨Nat.lt_of_lt_of_le h.lt hb.size, fun j hj => ?_, fun j hj => ?_⟩
  · obtain ⟨v, h1, h2⟩ := h.week j hj
    exact ⟨v, (hb.cell (p := ⟨g, o + j, none⟩) h.lt).trans h1, h2.kept hg (by cases v.ownBlock <;> simp)⟩
  · exact (hb.cell (p := ⟨g, o + 7 + j, none⟩) h.lt).trans (h.free j hj)
set_option maxRecDepth 100000 in
set_option maxHeartbeats 1000000 in
/-- the spans of a day -/
theorem spansO_any (g o : Nat) (wk : Nat → List (Int × Int)) (fr : Nat → Bool) (d : Nat) (w0 w : World) (C : CalO w0 g o wk fr) (hb : Below w0.heap.size w0 w) (h1 : d < 70) :
    Calls Tryz.prog 76 #[.pointer (some ⟨g, o, none⟩), .int .i64 d] w fun e w' => w' = w ∧ ∃ v, e = .returned v ∧ w0.ownsRow 0 140 2 v (dayL wk fr d).length (flat (dayL wk fr d)) := by
  have cf := (hb.cell (p := ⟨g, o + 7 + d, none⟩) C.lt).trans (C.free d h1)
  obtain ⟨v, cv0, hown⟩ := C.week (d % 7) (by omega)
  have cv := (hb.cell (p := ⟨g, o + d % 7, none⟩) C.lt).trans cv0
  have d1 : (d : Int) < 70 := by omega
  have m0 : (0 : Int) ≤ (d : Int) % 7 := by omega
  have m1 : (d : Int) % 7 < 7 := by omega
  have m2 : ((d : Int) % 7).toNat = d % 7 := by omega
  cases hf : fr d
  · have hd : dayL wk fr d = wk (d % 7) := by unfold dayL; rw [hf]; rfl
    rw [hd]
    rw [hf] at cf
    have cv2 := cv
    rw [← m2] at cv2
    have m3 : d % 7 < 7 := by omega
    have m4 : ((d % 7 : Nat) : Int) < 7 := by omega
    have HO := hide hown
    clear hf hd hown C m2 cv0 hb
    go_enter Tryz.func76, Tryz.ntmps76
    go_wp2
    go_ret
    exact ⟨rfl, _, rfl, HO.out⟩
  · have hd : dayL wk fr d = [] := by unfold dayL; rw [hf]; rfl
    rw [hd]
    rw [hf] at cf
    clear hf hd hown C m2 cv0 hb
    go_enter Tryz.func76, Tryz.ntmps76
    go_wp2
    go_ret
    exact ⟨rfl, _, rfl, World.ownsRow_nil _ _ _ _⟩

theorem spansOf_any (g : Nat) (wk : Nat → List (Int × Int)) (fr : Nat → Bool) (d : Nat) (w0 w : World) (C : CalM w0 g wk fr) (hb : Below w0.heap.size w0 w) (h1 : d < 70) :
    Calls Tryz.prog 76 #[.pointer (some ⟨g, 0, none⟩), .int .i64 d] w fun e w' => w' = w ∧ ∃ v, e = .returned v ∧ w0.ownsRow 0 140 2 v (dayL wk fr d).length (flat (dayL wk fr d)) := spansO_any g 0 wk fr d w0 w C.off hb h1

set_option maxRecDepth 100000 in
set_option maxHeartbeats 1000000 in
theorem openM_any (g : Nat) (wk : Nat → List (Int × Int)) (fr : Nat → Bool) (t : Int) (w : World) (C : CalM w g wk fr) (h0 : 0 ≤ t) (h1 : t < 100800) (hl : ∀ j, j < 7 → (wk j).length ≤ 1000) :
    Calls Tryz.prog 50 #[.pointer (some ⟨g, 0, none⟩), .int .i64 t] w fun e w' => e = .returned (.tuple #[.bool (openL wk fr t), .int .i64 0]) ∧ Below w.heap.size w w' := by
  obtain ⟨d, hd⟩ : ∃ d : Nat, t / 1440 = d := ⟨(t / 1440).toNat, by omega⟩
  have hd70 : d < 70 := by omega
  have HS := hide (spansOf_any g wk fr d w w C (Below.refl _ _) hd70)
  have ho : openL wk fr t = hitL (t % 1440) (dayL wk fr d) := by
    unfold openL dayL
    rw [hd, show ((d : Int) % 7).toNat = d % 7 by omega, Int.toNat_natCast]
    cases fr d <;> simp [hitL]
  have hn : (dayL wk fr d).length ≤ 1000 := by
    unfold dayL; split
    · simp
    · exact hl _ (by omega)
  have HO := hide ho
  clear ho C hl
  generalize dayL wk fr d = l at *
  go_enter Tryz.func50, Tryz.ntmps50
  go_wp2_with fail
  rw [hd]
  refine HS.out.mono ?_
  rintro e w1 ⟨rfl, v, rfl, hown⟩
  rcases hown.2 with ⟨rfl, hz⟩ | ⟨g2, cap, cur, rfl, _, hg2, _⟩
  · have hz2 : hitL (t % 1440) l = false := by rw [List.length_eq_zero_iff] at hz; subst hz; rfl
    have HZ := hide hz2
    clear hz2
    go_wp2_with fail
    go_loopw [22] (fun i wr => i = .int .i64 0 ∧ wr = w1) (fun _ _ => 0)
    case atStart => exact ⟨rfl, rfl⟩
    case round =>
      obtain ⟨rfl, rfl⟩ := hrel
      go_wp2
      go_ret2
      rw [HO.out, HZ.out]
      exact ⟨rfl, Below.refl _ _⟩
  · have hg2s : g2 < w1.heap.size := (Array.getElem?_eq_some_iff.1 hg2).1
    go_wp2_with fail
    go_loopw [22] (fun i wr => ∃ k : Nat, k ≤ l.length ∧ i = .int .i64 k ∧ Below w1.heap.size w1 wr ∧ Hid (hitL (t % 1440) (l.take k) = false)) (fun i _ => l.length - (intOf i).toNat)
    case atStart => exact ⟨0, Nat.zero_le _, rfl, Below.refl _ _, rfl⟩
    case round =>
      obtain ⟨k, hk, rfl, hb, HH⟩ := hrel
      have hsz := hb.size
      by_cases hlt : k < l.length
      · have hc := flat_at l k hlt
        have e0 : wr.cell? ⟨g2, k * 2, none⟩ = some (.int .i64 l[k].1) := (hb.cell (p := ⟨g2, k * 2, none⟩) hg2s).trans ((hown.cellAt (k * 2) (by omega)).trans hc.1)
        have e1 : wr.cell? ⟨g2, k * 2 + 1, none⟩ = some (.int .i64 l[k].2) := (hb.cell (p := ⟨g2, k * 2 + 1, none⟩) hg2s).trans ((hown.cellAt (k * 2 + 1) (by omega)).trans hc.2)
        have hlt' : (k : Int) < l.length := by omega
        have hg2r : g2 < wr.heap.size := by omega
        clear hc hown
        by_cases a : l[k].1 ≤ t % 1440
        · by_cases a2 : t % 1440 < l[k].2
          · have HY := hide (hit_yes hlt a a2)
            go_wp2
            go_ret2
            rw [HO.out, HY.out]
            exact ⟨rfl, hb.alloc hsz _⟩
          · go_wp2
            go_roundw
            case rel => exact ⟨k + 1, by omega, by go_num, hb.alloc hsz _, hit_step hlt HH.out (fun e => a2 e.2)⟩
            case measure => simp [intOf]; omega
        · have a' : t % 1440 < l[k].1 := by omega
          go_wp2
          go_roundw
          case rel => exact ⟨k + 1, by omega, by go_num, hb.alloc hsz _, hit_step hlt HH.out (fun e => a e.1)⟩
          case measure => simp [intOf]; omega
      · have hke : k = l.length := by omega
        have HK := hide hke
        clear hke
        go_wp2
        go_ret2
        have hH := HH.out
        rw [HK.out] at hH
        rw [HO.out, hit_none hH]
        exact ⟨rfl, hb⟩
theorem open_any (g : Nat) (raw : Nat → List (Int × Int)) (fr : Nat → Bool) (t : Int) (w : World) (C : CalW w g raw fr) (h0 : 0 ≤ t) (h1 : t < 100800) (hl : ∀ j, (raw j).length ≤ 1000) :
    Calls Tryz.prog 50 #[.pointer (some ⟨g, 0, none⟩), .int .i64 t] w fun e w' => e = .returned (.tuple #[.bool (openL raw fr t), .int .i64 0]) ∧ Below w.heap.size w w' := by
  obtain ⟨wk, M, hJ⟩ := C
  rw [← open_join hJ fr t h0]
  exact openM_any g wk fr t w M h0 h1 (fun j hj => Nat.le_trans (hJ j hj).2.2 (hl j))
end Go.Proofs.YtcnmbldikjljeaaGreatDoor
namespace Go.Proofs.YtcnmbldikjljeaaGreatDoor
open Go.RowKit

/-! ### What is no plain character is told as 0 is -/
theorem first_high {c : Int} (h : c = 0 ∨ 128 ≤ c) : isFirst c = false := by
  simp only [isFirst, Bool.or_eq_false_iff, beq_eq_false_iff_ne]; omega
theorem dayOf_high {a c : Int} (h : c = 0 ∨ 128 ≤ c) : dayOf a c = 7 := by
  unfold dayOf; repeat (rw [if_neg (by omega)])
theorem take_high {s : RS} {c : Int} (h : c = 0 ∨ 128 ≤ c) : (takeL s c).1 = false ∧ takeL s c = takeL s 0 := by
  have hd : ¬ isDig c := by unfold isDig; omega
  have hd0 : ¬ isDig 0 := by unfold isDig; omega
  have hm : ∀ (t : RS) (m n : Int), m ≠ 0 → m < 128 → markL t c m n = (false, t) := fun t m n h1 h2 => by unfold markL; rw [if_neg (by omega)]
  have hm0 : ∀ (t : RS) (m n : Int), m ≠ 0 → m < 128 → markL t 0 m n = (false, t) := fun t m n h1 h2 => by unfold markL; rw [if_neg (by omega)]
  have ht : ∀ (m n k : Int), timeDigitL s c m n k = (false, s) := fun m n k => by unfold timeDigitL; rw [if_neg (fun e => hd e.1)]
  have ht0 : ∀ (m n k : Int), timeDigitL s 0 m n k = (false, s) := fun m n k => by unfold timeDigitL; rw [if_neg (fun e => hd0 e.1)]
  have c44 : ¬ c = 44 := by omega
  have c59 : ¬ c = 59 := by omega
  have c32 : ¬ c = 32 := by omega
  by_cases e0 : s.st = 0
  · rw [take_st0 c e0, take_st0 0 e0]; unfold dayFirstL; rw [first_high h, first_high (.inl rfl)]; simp
  by_cases e1 : s.st = 1
  · rw [take_st1 c e1, take_st1 0 e1]; unfold daySecondL; rw [dayOf_high h, dayOf_high (.inl rfl)]; simp
  by_cases e2 : s.st = 2
  · rw [take_st2 c e2, take_st2 0 e2]; unfold dayEndL; rw [if_neg c44, hm _ _ _ (by omega) (by omega), hm0 _ _ _ (by omega) (by omega)]; simp
  by_cases e3 : s.st = 3
  · rw [take_st3 c e3, take_st3 0 e3]; rw [ht, ht0]; simp
  by_cases e4 : s.st = 4
  · rw [take_st4 c e4, take_st4 0 e4]; rw [ht, ht0]; simp
  by_cases e5 : s.st = 5
  · rw [take_st5 c e5, take_st5 0 e5]; rw [hm _ _ _ (by omega) (by omega), hm0 _ _ _ (by omega) (by omega)]; simp
  by_cases e6 : s.st = 6
  · rw [take_st6 c e6, take_st6 0 e6]; rw [ht, ht0]; simp
  by_cases e7 : s.st = 7
  · rw [take_st7 c e7, take_st7 0 e7]; unfold minOnesL; rw [ht, ht0]; simp
  by_cases e8 : s.st = 8
  · rw [take_st8 c e8, take_st8 0 e8]; rw [hm _ _ _ (by omega) (by omega), hm0 _ _ _ (by omega) (by omega)]; simp
  by_cases e9 : s.st = 9
  · rw [take_st9 c e9, take_st9 0 e9]; unfold spanEndL; rw [if_neg c59, if_neg c32, hm _ _ _ (by omega) (by omega), hm0 _ _ _ (by omega) (by omega)]; simp
  by_cases e10 : s.st = 10
  · rw [take_st10 c e10, take_st10 0 e10]; unfold numFirstL; rw [if_neg hd, if_neg hd0]; simp
  by_cases e11 : s.st = 11
  · rw [take_st11 c e11, take_st11 0 e11]; unfold numSecondL; rw [if_neg hd, if_neg hd0, hm _ _ _ (by omega) (by omega), hm0 _ _ _ (by omega) (by omega)]
    refine ⟨?_, rfl⟩
    by_cases g : (endShortL s).1 = true
    · rw [if_pos g]
    · rw [if_neg g]; simpa using g
  · have he : ∀ x, takeL s x = markL s x 44 10 := fun x => by unfold takeL; rw [if_neg e0, if_neg e1, if_neg e2, if_neg e3, if_neg e4, if_neg e5, if_neg e6, if_neg e7, if_neg e8, if_neg e9, if_neg e10, if_neg e11]
    rw [he, he, hm _ _ _ (by omega) (by omega), hm0 _ _ _ (by omega) (by omega)]; simp
theorem take_zero (s : RS) : (takeL s 0).1 = false := (take_high (.inl rfl)).1
theorem take_plain (s : RS) (c : Int) : takeL s (plain c) = takeL s c := by
  unfold plain
  split
  · exact (take_high (.inr (by assumption))).2.symm
  · rfl
theorem loop_plain (l : List Int) : ∀ s, loopL (l.map plain) s = loopL l s := by
  induction l with
  | nil => intro s; rfl
  | cons c l ih => intro s; simp only [List.map_cons, loopL, take_plain, ih]
theorem parse_crun (s : ByteArray) : parseL s = loopL (crun s s.size 0) rs0 := by rw [crun_chars, loop_plain]; rfl
end Go.Proofs.YtcnmbldikjljeaaGreatDoor
namespace Go.Proofs.YtcnmbldikjljeaaGreatDoor
open Go.RowKit

/-- the program's reader, from a place on -/
def mach (L : List Int) (I : Int) (s : RS) : Bool × RS := loopL (L.drop I.toNat) s
/-- told at a place -/
def Tld (M : Bool × RS) (P : Int) : Prop := M.1 = false ∧ M.2.place = P ∧ 0 ≤ P

section
variable {L : List Int} {I P lo hi : Int} {s : RS}
theorem look_end (h : (L.length : Int) ≤ I) : lookF L (I, -1) = 0 := by unfold lookF; rw [if_pos (.inr h)]
theorem look_drop (h0 : 0 ≤ I) (h : I < L.length) : L.drop I.toNat = lookF L (I, -1) :: L.drop (I + 1).toNat := by
  have hn : I.toNat < L.length := by omega
  rw [show (I + 1).toNat = I.toNat + 1 by omega]
  unfold lookF
  rw [if_neg (by simp; omega), List.drop_eq_getElem_cons hn]
  simp [List.getD, hn]
theorem mach_out (h : (L.length : Int) ≤ I) : mach L I s = finishL s := by
  unfold mach; rw [List.drop_eq_nil_of_le (by omega)]; rfl
theorem mach_yes (h0 : 0 ≤ I) (hy : (takeL s (lookF L (I, -1))).1 = true) : I < L.length ∧ mach L I s = mach L (I + 1) { (takeL s (lookF L (I, -1))).2 with place := (takeL s (lookF L (I, -1))).2.place + 1 } := by
  by_cases h : I < L.length
  · refine ⟨h, ?_⟩
    unfold mach
    rw [look_drop h0 h]
    simp only [loopL, hy, if_true]
  · rw [look_end (by omega), take_zero] at hy; cases hy
theorem mach_no (h0 : 0 ≤ I) (h : I < L.length) (hn : (takeL s (lookF L (I, -1))).1 = false) : mach L I s = takeL s (lookF L (I, -1)) := by
  unfold mach
  rw [look_drop h0 h]
  simp only [loopL, hn]
  rfl
theorem mach_told (h0 : 0 ≤ I) (hp : s.place = I) (hst : s.st ≠ 9 ∧ s.st ≠ 11 ∧ s.st ≠ 12) (hn : (takeL s (lookF L (I, -1))).1 = false) (hpl : (takeL s (lookF L (I, -1))).2.place = s.place) : Tld (mach L I s) I := by
  by_cases h : I < L.length
  · rw [mach_no h0 h hn]; exact ⟨hn, hpl.trans hp, h0⟩
  · rw [mach_out (by omega)]
    unfold finishL
    rw [if_neg hst.2.1]
    exact ⟨by simp [hst.1, hst.2.2], hp, h0⟩
theorem dstep (h0 : 0 ≤ I) (most minutes next : Int) (hk : ∀ c, takeL s c = timeDigitL s c most minutes next) (hp : s.place = I) (hst : s.st ≠ 9 ∧ s.st ≠ 11 ∧ s.st ≠ 12) :
    ((48 ≤ lookF L (I, -1) ∧ lookF L (I, -1) ≤ 57 ∧ lookF L (I, -1) - 48 ≤ most ∧ s.time + (lookF L (I, -1) - 48) * minutes ≤ 1440) ∧ I < L.length ∧ mach L I s = mach L (I + 1) { s with time := s.time + (lookF L (I, -1) - 48) * minutes, st := next, place := I + 1 }) ∨
    (¬ (48 ≤ lookF L (I, -1) ∧ lookF L (I, -1) ≤ 57 ∧ lookF L (I, -1) - 48 ≤ most ∧ s.time + (lookF L (I, -1) - 48) * minutes ≤ 1440) ∧ Tld (mach L I s) I) := by
  by_cases h : 48 ≤ lookF L (I, -1) ∧ lookF L (I, -1) ≤ 57 ∧ lookF L (I, -1) - 48 ≤ most ∧ s.time + (lookF L (I, -1) - 48) * minutes ≤ 1440
  · have e : takeL s (lookF L (I, -1)) = (true, { s with time := s.time + (lookF L (I, -1) - 48) * minutes, st := next }) := by
      rw [hk]; unfold timeDigitL; rw [if_pos ⟨⟨h.1, h.2.1⟩, h.2.2⟩]
    have := mach_yes (L := L) (s := s) h0 (by rw [e])
    rw [e] at this
    refine .inl ⟨h, this.1, ?_⟩
    rw [this.2]; simp [hp]
  · have e : takeL s (lookF L (I, -1)) = (false, s) := by
      rw [hk]; unfold timeDigitL; rw [if_neg (fun g => h ⟨g.1.1, g.1.2, g.2⟩)]
    exact .inr ⟨h, mach_told h0 hp hst (by rw [e]) (by rw [e])⟩
theorem mstep (h0 : 0 ≤ I) (mark next : Int) (hk : ∀ c, takeL s c = markL s c mark next) (hp : s.place = I) (hst : s.st ≠ 9 ∧ s.st ≠ 11 ∧ s.st ≠ 12) :
    (lookF L (I, -1) = mark ∧ I < L.length ∧ mach L I s = mach L (I + 1) { s with st := next, place := I + 1 }) ∨ (¬ lookF L (I, -1) = mark ∧ Tld (mach L I s) I) := by
  by_cases h : lookF L (I, -1) = mark
  · have e : takeL s (lookF L (I, -1)) = (true, { s with st := next }) := by rw [hk]; unfold markL; rw [if_pos h]
    have := mach_yes (L := L) (s := s) h0 (by rw [e])
    rw [e] at this
    refine .inl ⟨h, this.1, ?_⟩
    rw [this.2]; simp [hp]
  · have e : takeL s (lookF L (I, -1)) = (false, s) := by rw [hk]; unfold markL; rw [if_neg h]
    exact .inr ⟨h, mach_told h0 hp hst (by rw [e]) (by rw [e])⟩

/-! ### The document's reader -/
theorem tk_yes (a : lo ≤ lookF L (I, -1)) (b : lookF L (I, -1) ≤ hi) (c : lookF L (I, -1) ≠ 0) : takeF L (I, -1) lo hi = (lookF L (I, -1), (I + 1, -1)) := by
  unfold takeF; rw [if_neg (by omega)]
theorem tk_no (h : ¬ (lo ≤ lookF L (I, -1) ∧ lookF L (I, -1) ≤ hi ∧ lookF L (I, -1) ≠ 0)) : takeF L (I, -1) lo hi = (lo, (I, I)) := by
  unfold takeF; rw [if_pos (by omega)]; rfl
theorem told_look (hP : 0 ≤ P) : lookF L (I, P) = 0 := by unfold lookF; rw [if_pos (.inl hP)]
theorem told_bad (hP : 0 ≤ P) (x : Int) : badF (I, P) x = (I, P) := by unfold badF; rw [if_neg (by simp; omega)]
theorem told_take (hP : 0 ≤ P) : takeF L (I, P) lo hi = (lo, (I, P)) := by
  unfold takeF; rw [told_look hP, if_pos (.inr (.inr rfl)), told_bad hP]
theorem told_time (hP : 0 ≤ P) : (timeF L (I, P)).2 = (I, P) := by simp only [timeF, told_take hP]
theorem told_weekday (hP : 0 ≤ P) : (weekdayF L (I, P)).2 = (I, P) := by
  unfold weekdayF; rw [told_look hP, first_high (.inl rfl)]; simp only [Bool.false_eq_true, if_false]; exact told_bad hP _
theorem told_days (hP : 0 ≤ P) (f : Nat) (l : List Int) : daysF L f (I, P) l = (l, (I, P)) := by
  cases f with
  | zero => rfl
  | succ f => simp only [daysF, told_look hP]; rw [if_neg (by omega)]
theorem told_span (hP : 0 ≤ P) : (spanF L (I, P)).2.2 = (I, P) := by
  unfold spanF
  have e := told_time (L := L) (I := I) hP
  simp only [e, told_take hP, told_bad hP]
  split <;> rfl
theorem told_spans (hP : 0 ≤ P) (l : List Int) (f : Nat) (wk : Nat → Bool) : spansF L l f (I, P) wk = ((I, P), wk) := by
  cases f with
  | zero => rfl
  | succ f => simp only [spansF]; rw [if_neg (by simp; omega)]
theorem told_entry (hP : 0 ≤ P) (wk : Nat → Bool) : (entryF L (I, P) wk).1 = (I, P) := by
  unfold entryF
  simp only [told_weekday hP, told_days hP, told_take hP, told_spans hP]

/-- a time -/
theorem sim_time (h0 : 0 ≤ I) (hst : s.st = 3) (ht : s.time = 0) (hp : s.place = I) :
    (∃ J P, (timeF L (I, -1)).2 = (J, P) ∧ Tld (mach L I s) P) ∨
    (∃ T, 0 ≤ T ∧ timeF L (I, -1) = (T, (I + 5, -1)) ∧ I + 5 ≤ L.length ∧
      mach L I s = if (endTimeL { s with time := T, st := 9, place := I + 4 }).1 then mach L (I + 5) { (endTimeL { s with time := T, st := 9, place := I + 4 }).2 with place := I + 5 } else endTimeL { s with time := T, st := 9, place := I + 4 }) := by
  unfold timeF
  rcases dstep (L := L) h0 9 600 4 (fun c => take_st3 c hst) hp (by omega) with ⟨⟨a1, a2, a3, a4⟩, l1, e1⟩ | ⟨n1, t1⟩
  · rw [ht] at a4 e1
    rw [tk_yes (by omega) (by omega) (by omega)]
    simp only
    rcases dstep (L := L) (I := I + 1) (s := { s with time := 0 + (lookF L (I, -1) - 48) * 600, st := 4, place := I + 1 }) (by omega) 9 60 5 (fun c => take_st4 c rfl) rfl (by simp) with ⟨⟨b1, b2, b3, b4⟩, l2, e2⟩ | ⟨n2, t2⟩
    · simp only at b4 e2
      rw [tk_yes (by omega) (by split <;> omega) (by omega)]
      simp only
      rw [show I + 1 + 1 = I + 2 by omega] at e2 ⊢
      rcases mstep (L := L) (I := I + 2) (s := { s with time := 0 + (lookF L (I, -1) - 48) * 600 + (lookF L (I + 1, -1) - 48) * 60, st := 5, place := I + 2 }) (by omega) 58 6 (fun c => take_st5 c rfl) rfl (by simp) with ⟨c1, l3, e3⟩ | ⟨n3, t3⟩
      · simp only at e3
        rw [tk_yes (by omega) (by omega) (by omega)]
        simp only
        rw [show I + 2 + 1 = I + 3 by omega] at e3 ⊢
        rcases dstep (L := L) (I := I + 3) (s := { s with time := 0 + (lookF L (I, -1) - 48) * 600 + (lookF L (I + 1, -1) - 48) * 60, st := 6, place := I + 3 }) (by omega) 5 10 7 (fun c => take_st6 c rfl) rfl (by simp) with ⟨⟨d1, d2, d3, d4⟩, l4, e4⟩ | ⟨n4, t4⟩
        · simp only at d4 e4
          rw [tk_yes (by omega) (by split <;> omega) (by omega)]
          simp only
          rw [show I + 3 + 1 = I + 4 by omega] at e4 ⊢
          generalize hT : 0 + (lookF L (I, -1) - 48) * 600 + (lookF L (I + 1, -1) - 48) * 60 + (lookF L (I + 3, -1) - 48) * 10 = T3 at *
          obtain ⟨s7, hs7⟩ : ∃ s7, s7 = { s with time := T3, st := 7, place := I + 4 } := ⟨_, rfl⟩
          rw [← hs7] at e4
          have h7 : ∀ c, takeL s7 c = minOnesL s7 c := fun c => take_st7 c (by rw [hs7])
          by_cases hd : 48 ≤ lookF L (I + 4, -1) ∧ lookF L (I + 4, -1) ≤ 57 ∧ T3 + (lookF L (I + 4, -1) - 48) ≤ 1440
          · rw [tk_yes (by omega) (by split <;> omega) (by omega)]
            simp only
            rw [show I + 4 + 1 = I + 5 by omega]
            have e9 : timeDigitL s7 (lookF L (I + 4, -1)) 9 1 9 = (true, { s7 with time := T3 + (lookF L (I + 4, -1) - 48) * 1, st := 9 }) := by
              unfold timeDigitL; rw [if_pos (by rw [hs7]; exact ⟨⟨hd.1, hd.2.1⟩, by omega, by simp only; omega⟩)]; rw [hs7]
            have e10 : takeL s7 (lookF L (I + 4, -1)) = endTimeL { s with time := T3 + (lookF L (I + 4, -1) - 48), st := 9, place := I + 4 } := by
              rw [h7]; unfold minOnesL; rw [e9, if_pos rfl, hs7, Int.mul_one]
            have hT9 : 60 * (10 * (lookF L (I, -1) - 48) + (lookF L (I + 1, -1) - 48)) + 10 * (lookF L (I + 3, -1) - 48) + (lookF L (I + 4, -1) - 48) = T3 + (lookF L (I + 4, -1) - 48) := by omega
            rw [hT9]
            have hlt : I + 4 < L.length := by
              by_cases hl : I + 4 < L.length
              · exact hl
              · rw [look_end (by omega)] at hd; omega
            refine .inr ⟨_, by omega, rfl, by omega, ?_⟩
            rw [e1, e2, e3, e4]
            cases hb : (endTimeL { s with time := T3 + (lookF L (I + 4, -1) - 48), st := 9, place := I + 4 }).1
            · rw [mach_no (by omega) hlt (by rw [e10]; exact hb), e10]; rfl
            · have := (mach_yes (L := L) (s := s7) (I := I + 4) (by omega) (by rw [e10]; exact hb)).2
              rw [this, e10, place_endTime]
              simp only [if_true]
              rw [show I + 4 + 1 = I + 5 by omega]
          · rw [tk_no (fun g => hd ⟨by omega, by have := g.2.1; split at this <;> omega, by have := g.2.1; split at this <;> omega⟩)]
            simp only
            have e9 : timeDigitL s7 (lookF L (I + 4, -1)) 9 1 9 = (false, s7) := by
              unfold timeDigitL; rw [if_neg (fun g => hd (by rw [hs7] at g; simp only at g; have := g.1.1; have := g.1.2; have := g.2.2; omega))]
            have e10 : takeL s7 (lookF L (I + 4, -1)) = (false, s7) := by rw [h7]; unfold minOnesL; rw [e9]; rfl
            refine .inl ⟨_, _, rfl, ?_⟩
            rw [e1, e2, e3, e4]
            exact mach_told (by omega) (by rw [hs7]) (by rw [hs7]; simp) (by rw [e10]) (by rw [e10])
        · simp only at n4
          rw [tk_no (fun g => n4 ⟨by omega, by have := g.2.1; split at this <;> omega, by have := g.2.1; split at this <;> omega, by have := g.2.1; split at this <;> omega⟩)]
          simp only [told_take (show 0 ≤ I + 3 by omega)]
          exact .inl ⟨_, _, rfl, by rw [e1, e2, e3]; exact t4⟩
      · rw [tk_no (fun g => n3 (by omega))]
        simp only [told_take (show 0 ≤ I + 2 by omega)]
        exact .inl ⟨_, _, rfl, by rw [e1, e2]; exact t3⟩
    · simp only at n2
      rw [tk_no (fun g => n2 ⟨by omega, by have := g.2.1; split at this <;> omega, by have := g.2.1; split at this <;> omega, by have := g.2.1; split at this <;> omega⟩)]
      simp only [told_take (show 0 ≤ I + 1 by omega)]
      exact .inl ⟨_, _, rfl, by rw [e1]; exact t2⟩
  · rw [ht] at n1
    rw [tk_no (fun g => n1 (by omega))]
    simp only [told_take h0]
    exact .inl ⟨_, _, rfl, t1⟩
end
end Go.Proofs.YtcnmbldikjljeaaGreatDoor
namespace Go.Proofs.YtcnmbldikjljeaaGreatDoor
open Go.RowKit

/-- what a stretch of reading leaves as it was -/
structure Kp (s s' : RS) : Prop where
  beg : s'.beg = s.beg
  time : s'.time = s.time
  ahead : s'.ahead = s.ahead
  week : s'.week = s.week
  free : s'.free = s.free
/-- the days that are named -/
def DayR (l : List Int) (days : Nat → Bool) : Prop := ∀ j, j < 7 → days j = l.contains (j : Int)
/-- the minutes of the week -/
def WkR (wk : Nat → Bool) (week : Nat → List (Int × Int)) : Prop := ∀ d, d < 7 → ∀ m : Nat, m < 1440 → wk (d * 1440 + m) = hitL (m : Int) (week d)

section
variable {L : List Int} {I : Int} {s : RS}
theorem sim_weekday (h0 : 0 ≤ I) (hst : s.st = 0) (hp : s.place = I) :
    (∃ J P, (weekdayF L (I, -1)).2 = (J, P) ∧ Tld (mach L I s) P) ∨
    (∃ (c : Int) (d : Nat), d < 7 ∧ weekdayF L (I, -1) = ((d : Int), (I + 2, -1)) ∧ I + 2 ≤ L.length ∧
      mach L I s = mach L (I + 2) { s with letter := c, days := fun j => if j = d then true else s.days j, st := 2, place := I + 2 }) := by
  unfold weekdayF
  cases hf : isFirst (lookF L (I, -1))
  · have e : takeL s (lookF L (I, -1)) = (false, s) := by rw [take_st0 _ hst]; unfold dayFirstL; rw [hf]; rfl
    refine .inl ⟨I, I, rfl, ?_⟩
    exact mach_told h0 hp (by omega) (by rw [e]) (by rw [e])
  · have e : takeL s (lookF L (I, -1)) = (true, { s with letter := lookF L (I, -1), st := 1 }) := by rw [take_st0 _ hst]; unfold dayFirstL; rw [hf]; rfl
    obtain ⟨l1, e1⟩ := mach_yes (L := L) (s := s) h0 (by rw [e])
    rw [e] at e1
    simp only [hp] at e1
    simp only [if_true]
    obtain ⟨s1, hs1⟩ : ∃ s1, s1 = { s with letter := lookF L (I, -1), st := 1, place := I + 1 } := ⟨_, rfl⟩
    rw [← hs1] at e1
    by_cases hd : dayOf (lookF L (I, -1)) (lookF L (I + 1, -1)) < 7
    · have e2 : takeL s1 (lookF L (I + 1, -1)) = (true, { s1 with days := fun j => if j = dayOf (lookF L (I, -1)) (lookF L (I + 1, -1)) then true else s1.days j, st := 2 }) := by
        rw [take_st1 _ (by rw [hs1])]; unfold daySecondL; rw [show s1.letter = lookF L (I, -1) by rw [hs1], if_pos hd]
      obtain ⟨l2, e3⟩ := mach_yes (L := L) (s := s1) (I := I + 1) (by omega) (by rw [e2])
      rw [e2] at e3
      simp only [hs1] at e3
      rw [if_pos hd]
      refine .inr ⟨lookF L (I, -1), _, hd, ?_, by omega, ?_⟩
      · rw [show I + 1 + 1 = I + 2 by omega]
      · rw [e1, hs1, e3, show I + 1 + 1 = I + 2 by omega]
    · have e2 : takeL s1 (lookF L (I + 1, -1)) = (false, s1) := by
        rw [take_st1 _ (by rw [hs1])]; unfold daySecondL; rw [show s1.letter = lookF L (I, -1) by rw [hs1], if_neg hd]
      rw [if_neg hd]
      refine .inl ⟨I + 1, I + 1, rfl, ?_⟩
      rw [e1]
      exact mach_told (by omega) (by rw [hs1]) (by rw [hs1]; simp) (by rw [e2]) (by rw [e2])
theorem day_snoc {l : List Int} {days : Nat → Bool} (h : DayR l days) (d : Nat) : DayR (l ++ [(d : Int)]) (fun j => if j = d then true else days j) := by
  intro j hj
  have := h j hj
  by_cases e : j = d
  · subst e; simp
  · have : ¬ (j : Int) = (d : Int) := by omega
    simp [e, this, h j hj]
theorem sim_days : ∀ (f : Nat) (I : Int) (s : RS) (l : List Int), 0 ≤ I → I ≤ L.length → s.st = 2 → s.place = I → DayR l s.days → (L.length : Int) < I + f →
    (∃ J P, (takeF L (daysF L f (I, -1) l).2 32 32).2 = (J, P) ∧ Tld (mach L I s) P) ∨
    (∃ J s', (takeF L (daysF L f (I, -1) l).2 32 32).2 = (J, -1) ∧ I < J ∧ J ≤ L.length ∧ mach L I s = mach L J s' ∧ s'.st = 3 ∧ s'.place = J ∧ DayR (daysF L f (I, -1) l).1 s'.days ∧ Kp s s') := by
  intro f
  induction f with
  | zero => intro I s l h0 hl hst hp hd hf; omega
  | succ f ih =>
    intro I s l h0 hl hst hp hd hf
    simp only [daysF]
    by_cases h44 : lookF L (I, -1) = 44
    · rw [if_pos h44]
      have e : takeL s (lookF L (I, -1)) = (true, { s with st := 0 }) := by rw [take_st2 _ hst]; unfold dayEndL; rw [if_pos h44]
      obtain ⟨l1, e1⟩ := mach_yes (L := L) (s := s) h0 (by rw [e])
      rw [e] at e1
      simp only [hp] at e1
      rcases sim_weekday (L := L) (I := I + 1) (s := { s with st := 0, place := I + 1 }) (by omega) rfl rfl with ⟨J, P, h1, h2⟩ | ⟨c, d, hd7, h1, h2, h3⟩
      · rw [h1, told_days h2.2.2, told_take h2.2.2]
        exact .inl ⟨J, P, rfl, by rw [e1]; exact h2⟩
      · rw [h1]
        simp only at h3
        rw [show I + 1 + 2 = I + 3 by omega] at h2 h3 ⊢
        rcases ih (I + 3) { s with letter := c, days := fun j => if j = d then true else s.days j, st := 2, place := I + 3 } (l ++ [(d : Int)]) (by omega) h2 rfl rfl (day_snoc hd d) (by omega) with ⟨J, P, g1, g2⟩ | ⟨J, s', g1, g2, g3, g4, g5, g6, g7, g8⟩
        · exact .inl ⟨J, P, g1, by rw [e1, h3]; exact g2⟩
        · exact .inr ⟨J, s', g1, by omega, g3, by rw [e1, h3, g4], g5, g6, g7, ⟨g8.beg, g8.time, g8.ahead, g8.week, g8.free⟩⟩
    · rw [if_neg h44]
      by_cases h32 : lookF L (I, -1) = 32
      · have e : takeL s (lookF L (I, -1)) = (true, { s with st := 3 }) := by rw [take_st2 _ hst]; unfold dayEndL markL; rw [if_neg h44, if_pos h32]
        obtain ⟨l1, e1⟩ := mach_yes (L := L) (s := s) h0 (by rw [e])
        rw [e] at e1
        simp only [hp] at e1
        rw [tk_yes (by omega) (by omega) (by omega)]
        exact .inr ⟨I + 1, _, rfl, by omega, by omega, e1, rfl, rfl, hd, ⟨rfl, rfl, rfl, rfl, rfl⟩⟩
      · have e : takeL s (lookF L (I, -1)) = (false, s) := by rw [take_st2 _ hst]; unfold dayEndL markL; rw [if_neg h44, if_neg h32]
        rw [tk_no (by omega)]
        exact .inl ⟨I, I, rfl, mach_told h0 hp (by omega) (by rw [e]) (by rw [e])⟩
theorem sim_span (h0 : 0 ≤ I) (hst : s.st = 3) (ht : s.time = 0) (hb : s.beg = -1) (hp : s.place = I) :
    (∃ J P, (spanF L (I, -1)).2.2 = (J, P) ∧ Tld (mach L I s) P) ∨
    (∃ a b, 0 ≤ a ∧ a < b ∧ spanF L (I, -1) = (a, b, (I + 11, -1)) ∧ I + 11 ≤ L.length ∧ mach L I s = mach L (I + 11) { s with time := 0, week := addW s (a, b), beg := -1, st := 9, place := I + 11 }) := by
  unfold spanF
  rcases sim_time (L := L) h0 hst ht hp with ⟨J, P, h1, h2⟩ | ⟨a, ha, h1, h2, h3⟩
  · simp only [h1, told_take h2.2.2, told_time h2.2.2, told_bad h2.2.2]
    exact .inl ⟨J, P, by split <;> rfl, h2⟩
  · have e : endTimeL { s with time := a, st := 9, place := I + 4 } = (true, { s with time := 0, beg := a, st := 8, place := I + 4 }) := by unfold endTimeL; rw [if_pos hb]
    rw [e] at h3
    simp only [if_true] at h3
    simp only [h1]
    rcases mstep (L := L) (I := I + 5) (s := { s with time := 0, beg := a, st := 8, place := I + 5 }) (by omega) 45 3 (fun c => take_st8 c rfl) rfl (by simp) with ⟨c1, l1, e1⟩ | ⟨n1, t1⟩
    · simp only at e1
      rw [tk_yes (by omega) (by omega) (by omega)]
      rw [show I + 5 + 1 = I + 6 by omega] at e1 ⊢
      simp only
      rcases sim_time (L := L) (I := I + 6) (s := { s with time := 0, beg := a, st := 3, place := I + 6 }) (by omega) rfl rfl rfl with ⟨J, P, k1, k2⟩ | ⟨b, hbb, k1, k2, k3⟩
      · simp only [k1, told_bad k2.2.2]
        exact .inl ⟨J, P, by split <;> rfl, by rw [h3, e1]; exact k2⟩
      · simp only [k1]
        simp only at k3
        rw [show I + 6 + 5 = I + 11 by omega, show I + 6 + 4 = I + 10 by omega] at k3
        rw [show I + 6 + 5 = I + 11 by omega] at k1 k2 ⊢
        by_cases hab : b ≤ a
        · have e2 : endTimeL { s with time := b, beg := a, st := 9, place := I + 10 } = (false, { s with time := 0, beg := a, st := 9, place := I + 10 }) := by
            unfold endTimeL; rw [if_neg (by simp only; omega), if_pos hab]
          rw [e2] at k3
          refine .inl ⟨I + 11, I + 10, ?_, ?_⟩
          · rw [if_pos hab]; unfold badF; rw [if_pos (by simp)]; simp; omega
          · rw [h3, e1, k3]; exact ⟨rfl, rfl, by omega⟩
        · have e2 : endTimeL { s with time := b, beg := a, st := 9, place := I + 10 } = (true, { s with time := 0, week := addW s (a, b), beg := -1, st := 9, place := I + 10 }) := by
            unfold endTimeL; rw [if_neg (by simp only; omega), if_neg hab]; rfl
          rw [e2] at k3
          refine .inr ⟨a, b, ha, by omega, ?_, k2, ?_⟩
          · rw [if_neg hab]
          · rw [h3, e1, k3]; rfl
    · rw [tk_no (by omega)]
      simp only [told_time (show 0 ≤ I + 5 by omega), told_bad (show 0 ≤ I + 5 by omega)]
      exact .inl ⟨I + 5, I + 5, by split <;> rfl, by rw [h3]; exact t1⟩
end
end Go.Proofs.YtcnmbldikjljeaaGreatDoor
