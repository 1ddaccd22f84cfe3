import Derived.Test.YtcnmbldikjljeaaDoorReckons
namespace Go.Proofs.YtcnmbldikjljeaaDoor
open Go.RowKit

set_option maxRecDepth 100000 in
set_option maxHeartbeats 4000000 in
theorem summed_any (es : List Ent) (fs : List Int) (ae af : Option Addr) (ce cf : Nat) (x1 x2 x3 : Int) (w : World) (h0 : 0 < w.heap.size) (hnm : ∀ j, j < 7 → w.cell? ⟨0, j, none⟩ = some (nmV j)) (K : WK w es fs ae af) (r1 : inR x1) (r2 : inR x2) (r3 : inR x3)
    (hok : (parseL (txtB es fs)).1 = true) (hsz : (theTxt es fs).length ≤ 200)
    (hop : ∀ m : Int, 0 ≤ m → m < 100800 → openL (parseL (txtB es fs)).2.week (parseL (txtB es fs)).2.free m = (theWk es (m / 15 % 672).toNat && !theOff fs (m / 1440).toNat)) :
    Calls Tryd.prog 5 #[.agg #[.slice ae es.length ce, .slice af fs.length cf], .int .i64 x1, .int .i64 x2, .int .i64 x3] w fun e w' => e = .returned (.bool true) ∧ Below w.heap.size w w' := by
  have HNM := hide hnm
  have HOK := hide hok
  have HOP := hide hop
  have HLN := hide (parse_len (txtB es fs) (by show (theTxt es fs).toArray.size ≤ 200; simpa using hsz) hok)
  have hFF := ff_eq (parseL (txtB es fs)).2.week (parseL (txtB es fs)).2.free
  have HFF := hide hFF
  obtain ⟨r1a, r1b⟩ := r1
  obtain ⟨r2a, r2b⟩ := r2
  obtain ⟨r3a, r3b⟩ := r3
  clear hnm hok hop hFF
  have hbA : Below w.heap.size w (w.alloc (Obj.cells #[.slice ae es.length ce, .slice af fs.length cf] 25)) := (Below.refl _ _).alloc (Nat.le_refl _) _
  go_enter Tryd.func5, Tryd.ntmps5
  go_wp2_with fail
  refine (reckons_any _ (by simp) (nm_on h0 HNM.out hbA)).mono ?_
  rintro e w0 ⟨rfl, hb0⟩
  have c0 : w0.cell? ⟨w.heap.size, 0, none⟩ = some (.slice ae es.length ce) := (hb0.cell (p := ⟨w.heap.size, 0, none⟩) (by simp)).trans (World.cell?_alloc_at _ _ _ _ rfl)
  have c1 : w0.cell? ⟨w.heap.size, 1, none⟩ = some (.slice af fs.length cf) := (hb0.cell (p := ⟨w.heap.size, 1, none⟩) (by simp)).trans (World.cell?_alloc_at _ _ _ _ rfl)
  have hb00 : Below w.heap.size w w0 := hbA.trans (hb0.mono (by simp))
  go_wp2_with fail
  refine (read_any es fs ae af ce cf _ (by have := hb00.size; omega) (nm_on h0 HNM.out hb00) (K.on hb00) HOK.out hsz).mono ?_
  rintro e w1 ⟨g, X, P⟩
  have hP := P.eq
  subst hP
  have hb1 : Below w.heap.size w w1 := hb00.trans (P.below.mono hb00.size)
  have hX : w.heap.size ≤ X := by have := P.hX; have := hb00.size; omega
  clear c0 c1
  go_wp2_with fail
  refine (pick_any _ _ _ (by omega) (by omega) (by omega) (by omega)).mono ?_
  rintro e' wp ⟨rfl, hwp⟩
  rw [hwp]
  clear hwp wp
  have b1 := pk_lo x1 100801 (by omega)
  have b2 := pk_hi x1 100801 (by omega)
  generalize pk x1 100801 = a at *
  go_wp2_with fail
  refine (pick_any _ _ _ (by omega) (by omega) (by omega) (by omega)).mono ?_
  rintro e' wp ⟨rfl, hwp⟩
  rw [hwp]
  clear hwp wp
  have b3 := pk_lo x2 3000 (by omega)
  have b4 := pk_hi x2 3000 (by omega)
  generalize pk x2 3000 = q at *
  go_wp2_with fail
  have b5 : a ≤ min (a + q) 100800 := by omega
  have b6 : min (a + q) 100800 ≤ 100800 := by omega
  generalize min (a + q) 100800 = b at *
  refine (pick_any _ _ _ (by omega) (by omega) (by omega) (by omega)).mono ?_
  rintro e' wp ⟨rfl, hwp⟩
  rw [hwp]
  clear hwp wp
  have b7 := pk_lo x3 50000 (by omega)
  have b8 := pk_hi x3 50000 (by omega)
  generalize pk x3 50000 = q3 at *
  go_wp2_with fail
  have b9 : b ≤ min (b + q3) 100800 := by omega
  have b10 : min (b + q3) 100800 ≤ 100800 := by omega
  generalize min (b + q3) 100800 = d at *
  refine (between_any g _ _ (FF (parseL (txtB es fs)).2.week (parseL (txtB es fs)).2.free) a b _ P.cal HLN.out HFF.out (by omega) (by omega) (by omega)).mono ?_
  rintro e w2 ⟨rfl, hb2⟩
  have hb02 := hb1.trans (hb2.mono hb1.size)
  go_wp2_with fail
  refine (between_any g _ _ (FF (parseL (txtB es fs)).2.week (parseL (txtB es fs)).2.free) b d _ (P.cal.on hb2) HLN.out HFF.out (by omega) (by omega) (by omega)).mono ?_
  rintro e w3 ⟨rfl, hb3⟩
  have hb13 := hb2.trans (hb3.mono hb2.size)
  go_wp2_with fail
  refine (between_any g _ _ (FF (parseL (txtB es fs)).2.week (parseL (txtB es fs)).2.free) a d _ (P.cal.on hb13) HLN.out HFF.out (by omega) (by omega) (by omega)).mono ?_
  rintro e w4 ⟨rfl, hb4⟩
  have hb14 := hb13.trans (hb4.mono hb13.size)
  have m1 := cnt_mono (FF (parseL (txtB es fs)).2.week (parseL (txtB es fs)).2.free) (show a ≤ b by omega) (by omega)
  have m2 := cnt_mono (FF (parseL (txtB es fs)).2.week (parseL (txtB es fs)).2.free) (show b ≤ d by omega) (by omega)
  have HOP2 : Hid (∀ m : Int, 0 ≤ m → m < 100800 → FF (parseL (txtB es fs)).2.week (parseL (txtB es fs)).2.free m.toNat = (theWk es (m / 15 % 672).toNat && !theOff fs (m / 1440).toNat)) := fun m m0 m1 => by rw [← HFF.out m m0 m1, HOP.out m m0 m1]
  generalize FF (parseL (txtB es fs)).2.week (parseL (txtB es fs)).2.free = F at *
  obtain ⟨y0, hy0⟩ : ∃ y, cnt F b.toNat - cnt F a.toNat = y := ⟨_, rfl⟩
  obtain ⟨y1, hy1⟩ : ∃ y, cnt F d.toNat - cnt F b.toNat = y := ⟨_, rfl⟩
  have hy2 : cnt F d.toNat - cnt F a.toNat = y0 + y1 := by omega
  rw [hy0, hy1, hy2]
  have z0 : 0 ≤ y0 := by omega
  have z1 : 0 ≤ y1 := by omega
  have z2 : y0 ≤ 100800 := by omega
  have z3 : y1 ≤ 100800 := by omega
  have HY := hide hy0
  clear hy0 hy1 hy2 m1 m2
  go_wp2_with fail
  go_loopw [22, 23] (fun nv mv wr => ∃ m z : Int, mv = .int .i64 m ∧ nv = .int .i64 z ∧ a ≤ m ∧ m ≤ b ∧ Hid (z = cnt F m.toNat - cnt F a.toNat) ∧ 0 ≤ z ∧ z ≤ m - a ∧ Below w1.heap.size w1 wr) (fun _ mv _ => (b - intOf mv).toNat)
  case atStart => exact ⟨a, 0, rfl, rfl, by omega, by omega, by unfold Hid; omega, by omega, by omega, hb14⟩
  case round =>
    obtain ⟨m, z, rfl, rfl, hm0, hm1, HZ, hz0, hz1, hb⟩ := hrel
    by_cases hlt : m < b
    · have q1 := P.wk (m / 15 % 672).toNat (by omega)
      have q2 := P.off (m / 1440).toNat (by omega)
      have q1' : wr.cell? ⟨X + 1, (m / 15 % 672).toNat, none⟩ = some (.bool (theWk es (m / 15 % 672).toNat)) := (hb.cell (p := ⟨X + 1, (m / 15 % 672).toNat, none⟩) (by have := P.hX2; simp; omega)).trans q1
      have q2' : wr.cell? ⟨X + 2, (m / 1440).toNat, none⟩ = some (.bool (theOff fs (m / 1440).toNat)) := (hb.cell (p := ⟨X + 2, (m / 1440).toNat, none⟩) (by have := P.hX2; simp; omega)).trans q2
      have i1 : 0 ≤ m / 15 % 672 := by omega
      have i2 : m / 15 % 672 < 672 := by omega
      have i3 : 0 ≤ m / 1440 := by omega
      have i4 : m / 1440 < 70 := by omega
      have i5 : 0 ≤ m / 15 := by omega
      have i6 : 0 ≤ m := by omega
      have hop := HOP2.out m (by omega) (by omega)
      have hst : cnt F (m + 1).toNat = cnt F m.toNat + if F m.toNat then 1 else 0 := by rw [show (m + 1).toNat = m.toNat + 1 by omega]; rfl
      rw [hop] at hst
      have HST := hide hst
      clear q1 q2 hop hst
      generalize theWk es (m / 15 % 672).toNat = A at *
      generalize theOff fs (m / 1440).toNat = C at *
      cases A <;> cases C
      all_goals
        go_wp2_with fail
        go_roundw
        case rel =>
          have hst := HST.out
          have hzz := HZ.out
          simp at hst
          first
            | exact ⟨m + 1, z + 1, by go_num, by go_num, by omega, by omega, by unfold Hid; omega, by omega, by omega, hb⟩
            | exact ⟨m + 1, z, by go_num, rfl, by omega, by omega, by unfold Hid; omega, by omega, by omega, hb⟩
        case measure => simp [intOf]; omega
    · have hme : m = b := by omega
      subst hme
      have hzy : z = y0 := by rw [HZ.out]; exact HY.out
      subst hzy
      go_wp2_with fail
      go_ret
      exact ⟨rfl, hb1.trans (hb.mono hb1.size)⟩
end Go.Proofs.YtcnmbldikjljeaaDoor
