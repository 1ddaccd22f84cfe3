import Derived.Test.YtcnmbldikjljeaaDoorReckons
namespace Go.Proofs.YtcnmbldikjljeaaDoor
open Go.RowKit

set_option maxRecDepth 100000 in
set_option maxHeartbeats 4000000 in
theorem added_any (es : List Ent) (fs : List Int) (ae af : Option Addr) (ce cf : Nat) (x1 x2 x3 : Int) (w : World) (h0 : 0 < w.heap.size) (hnm : ∀ j, j < 7 → w.cell? ⟨0, j, none⟩ = some (nmV j)) (K : WK w es fs ae af) (r1 : inR x1) (r2 : inR x2) (r3 : inR x3)
    (hok : (parseL (txtB es fs)).1 = true) (hsz : (theTxt es fs).length ≤ 200) :
    Calls Tryd.prog 6 #[.agg #[.slice ae es.length ce, .slice af fs.length cf], .int .i64 x1, .int .i64 x2, .int .i64 x3] w fun e w' => e = .returned (.bool true) ∧ Below w.heap.size w w' := by
  have HNM := hide hnm
  have HOK := hide hok
  have HLN := hide (parse_len (txtB es fs) (by show (theTxt es fs).toArray.size ≤ 200; simpa using hsz) hok)
  have hFF := ff_eq (parseL (txtB es fs)).2.week (parseL (txtB es fs)).2.free
  have HFF := hide hFF
  obtain ⟨r1a, r1b⟩ := r1
  obtain ⟨r2a, r2b⟩ := r2
  obtain ⟨r3a, r3b⟩ := r3
  clear hnm hok hFF
  have hbA : Below w.heap.size w (w.alloc (Obj.cells #[.slice ae es.length ce, .slice af fs.length cf] 25)) := (Below.refl _ _).alloc (Nat.le_refl _) _
  go_enter Tryd.func6, Tryd.ntmps6
  go_wp2_with fail
  refine (reckons_any _ (by simp) (nm_on h0 HNM.out hbA)).mono ?_
  rintro e w0 ⟨rfl, hb0⟩
  have c0 : w0.cell? ⟨w.heap.size, 0, none⟩ = some (.slice ae es.length ce) := (hb0.cell (p := ⟨w.heap.size, 0, none⟩) (by simp)).trans (World.cell?_alloc_at _ _ _ _ rfl)
  have c1 : w0.cell? ⟨w.heap.size, 1, none⟩ = some (.slice af fs.length cf) := (hb0.cell (p := ⟨w.heap.size, 1, none⟩) (by simp)).trans (World.cell?_alloc_at _ _ _ _ rfl)
  have hb00 : Below w.heap.size w w0 := hbA.trans (hb0.mono (by simp))
  go_wp2_with fail
  refine (read_any es fs ae af ce cf _ (by have := hb00.size; omega) (nm_on h0 HNM.out hb00) (K.on hb00) HOK.out hsz).mono ?_
  rintro e w1 ⟨g, X, P⟩
  have hP := P.eq
  subst hP
  have hb1 : Below w.heap.size w w1 := hb00.trans (P.below.mono hb00.size)
  have hX : w.heap.size ≤ X := by have := P.hX; have := hb00.size; omega
  clear c0 c1
  go_wp2_with fail
  refine (pick_any _ _ _ (by omega) (by omega) (by omega) (by omega)).mono ?_
  rintro e' wp ⟨rfl, hwp⟩
  rw [hwp]
  clear hwp wp
  have b1 := pk_lo x1 100801 (by omega)
  have b2 := pk_hi x1 100801 (by omega)
  generalize pk x1 100801 = a at *
  go_wp2_with fail
  refine (pick_any _ _ _ (by omega) (by omega) (by omega) (by omega)).mono ?_
  rintro e' wp ⟨rfl, hwp⟩
  rw [hwp]
  clear hwp wp
  have b3 := pk_lo x2 3000 (by omega)
  have b4 := pk_hi x2 3000 (by omega)
  generalize pk x2 3000 = n at *
  go_wp2_with fail
  refine (pick_any _ _ _ (by omega) (by omega) (by omega) (by omega)).mono ?_
  rintro e' wp ⟨rfl, hwp⟩
  rw [hwp]
  clear hwp wp
  have b5 := pk_lo x3 3000 (by omega)
  have b6 := pk_hi x3 3000 (by omega)
  generalize pk x3 3000 = k at *
  have HA : Hid (∀ (t m : Int) (u : World), Below w1.heap.size w1 u → 0 ≤ t → t ≤ 100800 → 0 ≤ m → m ≤ 20000 → Calls Tryd.prog 15 #[.pointer (some ⟨g, 0, none⟩), .int .i64 t, .int .i64 m] u fun e w' => AddP (FF (parseL (txtB es fs)).2.week (parseL (txtB es fs)).2.free) t m e ∧ Below u.heap.size u w') := fun t m u hu t0 t1 m0 m1 => add_any g _ _ _ t m u (P.cal.on hu) HLN.out HFF.out t0 t1 m0 m1
  have HB : Hid (∀ (t m : Int) (u : World), Below w1.heap.size w1 u → 0 ≤ t → t ≤ m → m ≤ 100800 → Calls Tryd.prog 14 #[.pointer (some ⟨g, 0, none⟩), .int .i64 t, .int .i64 m] u fun e w' => e = .returned (.tuple #[.int .i64 (cnt (FF (parseL (txtB es fs)).2.week (parseL (txtB es fs)).2.free) m.toNat - cnt (FF (parseL (txtB es fs)).2.week (parseL (txtB es fs)).2.free) t.toNat), .int .i64 0]) ∧ Below u.heap.size u w') := fun t m u hu t0 t1 m1 => between_any g _ _ _ t m u (P.cal.on hu) HLN.out HFF.out t0 t1 m1
  have HO : Hid (∀ (t : Int) (u : World), Below w1.heap.size w1 u → 0 ≤ t → t < 100800 → Calls Tryd.prog 9 #[.pointer (some ⟨g, 0, none⟩), .int .i64 t] u fun e w' => e = .returned (.tuple #[.bool (FF (parseL (txtB es fs)).2.week (parseL (txtB es fs)).2.free t.toNat), .int .i64 0]) ∧ Below u.heap.size u w') := fun t u hu t0 t1 => by
    rw [← HFF.out t t0 t1]; exact open_any g _ _ t u (P.cal.on hu) t0 t1 HLN.out
  clear HFF HLN P
  generalize FF (parseL (txtB es fs)).2.week (parseL (txtB es fs)).2.free = F at *
  go_wp2_with fail
  refine (HA.out a n w1 (Below.refl _ _) (by omega) (by omega) (by omega) (by omega)).mono ?_
  rintro e w2 ⟨⟨t, ht, rfl⟩ | ⟨ht, rfl⟩, hb2⟩
  · have hleft := addN_left ht b1
    have htl := ht.1
    have hth := ht.2.1
    have hmm := cnt_mono F (show a ≤ 100800 by omega) b1
    rw [show (100800 : Int).toNat = 100800 from rfl] at hmm
    go_wp2_with fail
    refine (HB.out a 100800 w2 hb2 (by omega) (by omega) (by omega)).mono ?_
    rw [show (100800 : Int).toNat = 100800 from rfl]
    rintro e w3 ⟨rfl, hb3⟩
    have hb13 := hb2.trans (hb3.mono hb2.size)
    obtain ⟨y, hy⟩ : ∃ y, cnt F 100800 - cnt F a.toNat = y := ⟨_, rfl⟩
    rw [hy] at hleft ⊢
    have y0 : 0 ≤ y := by omega
    have y1 : y ≤ 100800 := by omega
    have HHT := hide ht
    clear ht hmm hy
    go_wp2_with fail
    refine (HB.out a t w3 hb13 (by omega) (by omega) (by omega)).mono ?_
    rw [HHT.out.2.2.1]
    rintro e w4 ⟨rfl, hb4⟩
    have hb14 := hb13.trans (hb4.mono hb13.size)
    by_cases hn : n = 0
    · subst hn
      obtain rfl := addN_zero HHT.out
      go_wp2_with fail
      refine (HA.out t k w4 hb14 (by omega) (by omega) (by omega) (by omega)).mono ?_
      rintro e w5 ⟨⟨u, hu, rfl⟩ | ⟨hu, rfl⟩, hb5⟩
      · have hb15 := hb14.trans (hb5.mono hb14.size)
        have hu2 := hu
        have HU := hide hu2
        clear hu hu2
        go_wp2_with fail
        refine (HA.out t k w5 hb15 (by omega) (by omega) (by omega) (by omega)).mono ?_
        rintro e w6 ⟨⟨v, hv, rfl⟩ | ⟨hv, _⟩, hb6⟩
        · obtain rfl := addN_uniq HU.out hv
          have HZ := hide (hb1.trans ((hb15.trans (hb6.mono hb15.size)).mono hb1.size))
          clear hv
          go_wp2_with fail
          go_ret
          exact ⟨rfl, HZ.out⟩
        · exact (addN_never HU.out hv).elim
      · have hb15 := hb14.trans (hb5.mono hb14.size)
        have hu2 := hu
        have HU := hide hu2
        clear hu hu2
        go_wp2_with fail
        refine (HA.out t k w5 hb15 (by omega) (by omega) (by omega) (by omega)).mono ?_
        rintro e w6 ⟨⟨v, hv, _⟩ | ⟨hv, rfl⟩, hb6⟩
        · exact (addN_never hv HU.out).elim
        · have HZ := hide (hb1.trans ((hb15.trans (hb6.mono hb15.size)).mono hb1.size))
          clear hv
          go_wp2_with fail
          go_ret
          exact ⟨rfl, HZ.out⟩
    · have hn0 : 0 < n := by omega
      have ho := addN_open HHT.out b1 hn0
      have ho1 := ho.1
      have HO2 := hide ho.2
      clear ho
      have hnz : (n == 0) = false := by simp; omega
      go_wp2_with fail
      refine (HO.out (t - 1) w4 hb14 (by omega) (by omega)).mono ?_
      rw [HO2.out]
      rintro e w45 ⟨rfl, hb45⟩
      have hb145 := hb14.trans (hb45.mono hb14.size)
      go_wp2_with fail
      refine (HA.out t k w45 hb145 (by omega) (by omega) (by omega) (by omega)).mono ?_
      rintro e w5 ⟨⟨u, hu, rfl⟩ | ⟨hu, rfl⟩, hb5⟩
      · have hb15 := hb145.trans (hb5.mono hb145.size)
        have hu2 := (addN_add HHT.out b1 b5).1 hu
        have HU := hide hu2
        clear hu hu2
        go_wp2_with fail
        refine (HA.out a (n + k) w5 hb15 (by omega) (by omega) (by omega) (by omega)).mono ?_
        rintro e w6 ⟨⟨v, hv, rfl⟩ | ⟨hv, _⟩, hb6⟩
        · obtain rfl := addN_uniq HU.out hv
          have HZ := hide (hb1.trans ((hb15.trans (hb6.mono hb15.size)).mono hb1.size))
          clear hv
          go_wp2_with fail
          go_ret
          exact ⟨rfl, HZ.out⟩
        · exact (addN_never HU.out hv).elim
      · have hb15 := hb145.trans (hb5.mono hb145.size)
        have hu2 := (never_add HHT.out b1 b5).1 hu
        have HU := hide hu2
        clear hu hu2
        go_wp2_with fail
        refine (HA.out a (n + k) w5 hb15 (by omega) (by omega) (by omega) (by omega)).mono ?_
        rintro e w6 ⟨⟨v, hv, _⟩ | ⟨hv, rfl⟩, hb6⟩
        · exact (addN_never hv HU.out).elim
        · have HZ := hide (hb1.trans ((hb15.trans (hb6.mono hb15.size)).mono hb1.size))
          clear hv
          go_wp2_with fail
          go_ret
          exact ⟨rfl, HZ.out⟩
  · have hleft := never_left ht b1 (by omega) b3
    have hmm := cnt_mono F (show a ≤ 100800 by omega) b1
    rw [show (100800 : Int).toNat = 100800 from rfl] at hmm
    go_wp2_with fail
    refine (HB.out a 100800 w2 hb2 (by omega) (by omega) (by omega)).mono ?_
    rw [show (100800 : Int).toNat = 100800 from rfl]
    rintro e w3 ⟨rfl, hb3⟩
    have hb13 := hb2.trans (hb3.mono hb2.size)
    obtain ⟨y, hy⟩ : ∃ y, cnt F 100800 - cnt F a.toNat = y := ⟨_, rfl⟩
    rw [hy] at hleft ⊢
    have y0 : 0 ≤ y := by omega
    have y1 : y ≤ 100800 := by omega
    have HZ := hide (hb1.trans (hb13.mono hb1.size))
    clear ht hmm hy
    go_wp2_with fail
    go_ret
    exact ⟨rfl, HZ.out⟩
end Go.Proofs.YtcnmbldikjljeaaDoor
