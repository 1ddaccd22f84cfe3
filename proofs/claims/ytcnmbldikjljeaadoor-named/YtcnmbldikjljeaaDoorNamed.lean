import Derived.Test.YtcnmbldikjljeaaDoorKeep2
namespace Go.Proofs.YtcnmbldikjljeaaDoor
open Go.RowKit

set_option maxRecDepth 100000 in
set_option maxHeartbeats 2000000 in
theorem named_any (es : List Ent) (fs ms : List Int) (ae af am : Option Addr) (ce cf cm : Nat) (w : World) (h0 : 0 < w.heap.size) (hnm : ∀ j, j < 7 → w.cell? ⟨0, j, none⟩ = some (nmV j)) (K : WK w es fs ae af)
    (hM : ∀ i x, ms[i]? = some x → ∃ b off, am = some ⟨b, off, none⟩ ∧ b < w.heap.size ∧ w.cell? ⟨b, off + i, none⟩ = some (.int .i64 x) ∧ inR x) (lm : ms.length ≤ 9223372036854775807)
    (hok : (parseL (txtB es fs)).1 = true) (hsz : (theTxt es fs).length ≤ 200)
    (hop : ∀ m : Int, 0 ≤ m → m < 100800 → openL (parseL (txtB es fs)).2.week (parseL (txtB es fs)).2.free m = (theWk es (m / 15 % 672).toNat && !theOff fs (m / 1440).toNat)) :
    Calls Tryd.prog 3 #[.agg #[.slice ae es.length ce, .slice af fs.length cf], .slice am ms.length cm] w fun e w' => e = .returned (.bool true) ∧ Below w.heap.size w w' := by
  have HNM := hide hnm
  have HOK := hide hok
  have HOP := hide hop
  have HM := hide hM
  clear hnm hok hop hM
  have hbA : Below w.heap.size w (w.alloc (Obj.cells #[.slice ae es.length ce, .slice af fs.length cf] 25)) := (Below.refl _ _).alloc (Nat.le_refl _) _
  go_enter Tryd.func3, Tryd.ntmps3
  go_wp2_with fail
  refine (read_any es fs ae af ce cf _ (by simp) (nm_on h0 HNM.out hbA) (K.on hbA) HOK.out hsz).mono ?_
  rintro e w1 ⟨g, X, P⟩
  have hP := P.eq
  subst hP
  have hb1 : Below w.heap.size w w1 := hbA.trans (P.below.mono (by simp))
  have hX : w.heap.size ≤ X := by have := P.hX; simp at this; omega
  go_wp2_with fail
  go_loopw [8] (fun i wr => ∃ k : Nat, k ≤ ms.length ∧ i = .int .i64 k ∧ Below w1.heap.size w1 wr) (fun i _ => ms.length - (intOf i).toNat)
  case atStart => exact ⟨0, Nat.zero_le _, rfl, Below.refl _ _⟩
  case round =>
    obtain ⟨k, hk, rfl, hb⟩ := hrel
    by_cases hlt : k < ms.length
    · obtain ⟨b, off, ham, hbl, e0, r0, r0'⟩ := HM.out k ms[k] (by simp [hlt])
      subst ham
      have f0 : wr.cell? ⟨b, off + k, none⟩ = some (.int .i64 ms[k]) := (hb.cell (p := ⟨b, off + k, none⟩) (by have := hb1.size; simp; omega)).trans ((hb1.cell (p := ⟨b, off + k, none⟩) hbl).trans e0)
      generalize ms[k] = x at *
      have hlt' : (k : Int) < ms.length := by omega
      clear e0
      go_wp2_with fail
      refine (pick_any _ _ _ (by omega) (by omega) (by omega) (by omega)).mono ?_
      rintro e' w' ⟨rfl, rfl⟩
      have b1 := pk_lo x 100800 (by omega)
      have b2 := pk_hi x 100800 (by omega)
      generalize pk x 100800 = m at *
      go_wp2_with fail
      refine (open_any g _ _ m _ (P.cal.on hb) b1 b2 (parse_len (txtB es fs) (by show (theTxt es fs).toArray.size ≤ 200; simpa using hsz) HOK.out)).mono ?_
      rw [HOP.out m b1 b2]
      rintro e' w2 ⟨rfl, hb2⟩
      have hb12 : Below w1.heap.size w1 w2 := hb.trans (hb2.mono hb.size)
      have q1 := P.wk (m / 15 % 672).toNat (by omega)
      have q2 := P.off (m / 1440).toNat (by omega)
      have q1' : w2.cell? ⟨X + 1, (m / 15 % 672).toNat, none⟩ = some (.bool (theWk es (m / 15 % 672).toNat)) := (hb12.cell (p := ⟨X + 1, (m / 15 % 672).toNat, none⟩) (by have := P.hX2; simp; omega)).trans q1
      have q2' : w2.cell? ⟨X + 2, (m / 1440).toNat, none⟩ = some (.bool (theOff fs (m / 1440).toNat)) := (hb12.cell (p := ⟨X + 2, (m / 1440).toNat, none⟩) (by have := P.hX2; simp; omega)).trans q2
      clear q1 q2
      have i1 : 0 ≤ m / 15 % 672 := by omega
      have i2 : m / 15 % 672 < 672 := by omega
      have i3 : 0 ≤ m / 1440 := by omega
      have i4 : m / 1440 < 70 := by omega
      generalize theWk es (m / 15 % 672).toNat = A at *
      generalize theOff fs (m / 1440).toNat = C at *
      cases A <;> cases C
      all_goals
        go_wp2_with fail
        go_roundw
        case rel => exact ⟨k + 1, by omega, by go_num, hb12⟩
        case measure => simp [intOf]; omega
    · go_wp2_with fail
      go_ret
      exact ⟨rfl, hb1.trans (hb.mono hb1.size)⟩
end Go.Proofs.YtcnmbldikjljeaaDoor
