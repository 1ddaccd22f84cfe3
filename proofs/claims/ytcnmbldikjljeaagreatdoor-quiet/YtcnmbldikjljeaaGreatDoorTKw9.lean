import Derived.Test.YtcnmbldikjljeaaGreatDoorT26
import Derived.Deep.AppendLies
import Derived.Laws.AppendOwnNone
import Derived.Deep.Cut
namespace Go.Proofs.YtcnmbldikjljeaaGreatDoor
open Go.RowKit

theorem evsCells_append (a b : List Ev) : evsCells (a ++ b) = evsCells a ++ evsCells b := by simp [evsCells]
theorem evsCells_one (l : List Ev) : ∀ u ∈ evsCells l, u.oneCell' = true := by
  intro u hu
  simp only [evsCells, List.mem_flatMap, evCells] at hu
  obtain ⟨x, _, hu⟩ := hu
  simp only [List.mem_cons, List.not_mem_nil, or_false] at hu
  rcases hu with rfl | rfl | rfl | rfl | rfl | rfl <;> rfl
/-- where the second loop of Pieces stands -/
structure P2 (W wr : World) (own : Nat → Nat) (p q : Nat) (F : Nat → Bool) (st : List Stg) (d e : Dk) (evs : List Ev) (tot : Int) (av : Value) : Prop where
  kw : KW W wr own
  pa : PSi own wr 10 p F st d
  pb : PSi own wr 11 q F st e
  row : MRow own 1 wr 63 6 av evs.length (evsCells evs)
  eq : tickC F st d tot = (e, evs, 0)
  t0 : 0 ≤ tot
  t1 : d.time + tot ≤ 100800
theorem P2.kept {W wr wz : World} {own own' : Nat → Nat} {p q : Nat} {F : Nat → Bool} {st : List Stg} {d e : Dk} {evs : List Ev} {tot : Int} {av : Value} {T : Nat → Prop} (h : P2 W wr own p q F st d e evs tot av) (k : KeptS own own' T wr wz) (h0 : ¬ T 0) (h10 : ¬ T 10) (h11 : ¬ T 11) (h1 : ¬ T 1) : P2 W wz own' p q F st d e evs tot av :=
  ⟨h.kw.kept k h0, prgI.kept h.pa k h0 h10, prgI.kept h.pb k h0 h11, h.row.kept k h1, h.eq, h.t0, h.t1⟩
set_option maxRecDepth 100000 in
set_option maxHeartbeats 16000000 in
theorem pieces_any (es : List Ent) (fs : List Int) (ae af : Option Addr) (ce cf : Nat) (pv mv xv : Value) (ps : List (List (Int × Int))) (lv : Nat → Value) (ms : List Mv) (xs : List Int) (W0 : World) (h0 : 0 < W0.heap.size) (hnm : ∀ j, j < 7 → W0.cell? ⟨0, j, none⟩ = some (nmV j)) (K : WK W0 es fs ae af) (P : PL W0 pv ps lv) (M : MV W0 mv ms) (X : LR W0 1 xv xs.length (intCells xs)) (hX : ∀ x ∈ xs, inR x) :
    Calls Tryz.prog 6 #[.agg #[.slice ae es.length ce, .slice af fs.length cf], .agg #[pv], mv, xv] W0 fun e w' => e = .returned (.bool true) ∧ Below W0.heap.size W0 w' := by
  obtain ⟨pa, pc, hpv⟩ := P.row.any
  subst hpv
  obtain ⟨ma, mc, hmv⟩ := M.row.any
  subst hmv
  obtain ⟨xa, xc, hxv⟩ := X.any
  subst hxv
  have hml : ms.length ≤ 9223372036854775807 := by have := M.row.max; simp only [maxLen] at this; omega
  have hxl : xs.length ≤ 9223372036854775807 := by have := X.max; simp only [maxLen] at this; omega
  have hb0 : Below W0.heap.size W0 ((W0.alloc (Obj.cells #[.slice ae es.length ce, .slice af fs.length cf] 28)).alloc (Obj.cells #[.slice pa ps.length pc] 31)) := ((Below.refl _ _).alloc (Nat.le_refl _) _).alloc (by simp) _
  have x0 : ((W0.alloc (Obj.cells #[.slice ae es.length ce, .slice af fs.length cf] 28)).alloc (Obj.cells #[.slice pa ps.length pc] 31)).heap[W0.heap.size]? = some (.cells #[.slice ae es.length ce, .slice af fs.length cf] 28 (0, 0)) := (Below.heap_alloc _ _ _ (by simp)).trans (heap_alloc_new _ _)
  have x1 : ((W0.alloc (Obj.cells #[.slice ae es.length ce, .slice af fs.length cf] 28)).alloc (Obj.cells #[.slice pa ps.length pc] 31)).heap[W0.heap.size + 1]? = some (.cells #[.slice pa ps.length pc] 31 (0, 0)) := by
    have h9 := heap_alloc_new (W0.alloc (Obj.cells #[.slice ae es.length ce, .slice af fs.length cf] 28)) (Obj.cells #[.slice pa ps.length pc] 31)
    simpa using h9
  have HA := hide (And.intro (K.on hb0) (And.intro (P.on hb0) (And.intro (M.on hb0) (X.on hb0))))
  have HNM := hide (nm_on h0 hnm hb0)
  have HB0 := hide hb0
  have HX := hide hX
  clear K P M X hnm hX hb0
  go_enter Tryz.func6, Tryz.ntmps6
  go_wp2_with fail
  generalize (W0.alloc (Obj.cells #[.slice ae es.length ce, .slice af fs.length cf] 28)).alloc (Obj.cells #[.slice pa ps.length pc] 31) = W at *
  have hWs : W0.heap.size + 1 < W.heap.size := (Array.getElem?_eq_some_iff.1 x1).1
  have hW0 : 0 < W.heap.size := by omega
  have HST := hide (stgP_ok ps)
  have hn := nP_bd (ps := ps)
  refine (begun_any ce cf (own := fun _ => 0) (fun k h => absurd rfl h) 10 (by decide) hW0 HNM.out HA.out.1 HA.out.2.1).mono ?_
  rintro e w1 ⟨p, c, sv, vs, own1, rfl, B1⟩
  have kw1 := (KW.new W).kept B1.kept (by decide)
  obtain ⟨oa, oc, hsv⟩ := row_any B1.stg.row
  rw [stgP_len] at hsv
  subst hsv
  have y0 := (kw1.low.block W0.heap.size (by omega)).trans x0
  have y1 := (kw1.low.block (W0.heap.size + 1) (by omega)).trans x1
  have c0 : w1.cell? ⟨W0.heap.size, 0, none⟩ = some (.slice ae es.length ce) := by simp [World.cell?, y0]
  have c1 : w1.cell? ⟨W0.heap.size, 1, none⟩ = some (.slice af fs.length cf) := by simp [World.cell?, y0]
  have d0 : w1.cell? ⟨W0.heap.size + 1, 0, none⟩ = some (.slice pa ps.length pc) := by simp [World.cell?, y1]
  have HB2 := hide (begun_any ce cf kw1.lt 11 (by decide) (by have := kw1.low.size; omega) (nm_on hW0 HNM.out kw1.low) (HA.out.1.on kw1.low) (HA.out.2.1.on kw1.low))
  have HK1 := hide (And.intro kw1 B1.pk)
  clear kw1 B1 y0 y1 x0 x1
  go_wp2_with fail
  refine HB2.out.mono ?_
  rintro e w2 ⟨q, c2, sv2, vs2, own2, rfl, B2⟩
  have HK2 := hide (And.intro (HK1.out.1.kept B2.kept (by decide)) (And.intro (HK1.out.2.kept B2.kept (by decide) (by decide)) B2.pk))
  obtain ⟨oa2, oc2, hsv2⟩ := row_any B2.stg.row
  subst hsv2
  clear B2 HK1 HB2 c0 c1 d0
  go_wp2_with fail
  go_loopw [15] (fun iv wr => ∃ (i : Nat) (own : Nat → Nat) (d : Dk), iv = .int .i64 i ∧ i ≤ ms.length ∧ i ≤ 60 ∧ KW W wr own ∧ PK own wr 10 p (FP es fs) (stgP ps) d (80 * i) ∧ PK own wr 11 q (FP es fs) (stgP ps) d (80 * i)) (fun iv _ => 60 - (intOf iv).toNat)
  case atStart => exact ⟨0, own2, ⟨0, 0, 0, []⟩, rfl, Nat.zero_le _, by omega, HK2.out.1, HK2.out.2.1, HK2.out.2.2⟩
  case round =>
    clear HK2
    obtain ⟨i, own, d, rfl, hi, hi60, kw, PA, PB⟩ := hrel
    by_cases hlt : i < ms.length ∧ i < 60
    · obtain ⟨hlt, h60⟩ := hlt
      have hlt' : (i : Int) < ms.length := by omega
      have h60' : (i : Int) < 60 := by omega
      obtain ⟨mb, mo, mc2, hmf⟩ := HA.out.2.2.1.row.some (by omega) (by omega)
      simp only [Value.slice.injEq] at hmf
      obtain ⟨rfl, _, rfl⟩ := hmf
      have Mw := HA.out.2.2.1.on kw.low
      obtain ⟨m0, m1, m2⟩ := Mw.at i hlt
      have hr := Mw.rng _ (List.getElem_mem hlt)
      have HM := hide (fun (z : World) (hb : Below W.heap.size W z) => (HA.out.2.2.1.on hb).at i hlt)
      generalize ms[i] = mi at *
      have HAC := hide (acts_any PA.psi (by decide) (PA.pre (by omega) kw.lt HST.out.1 HST.out.2) mi.1 mi.2.1 mi.2.2 (nP ps) hr.1 hr.2.1 hr.2.2 (by omega) (by omega))
      have HOK := hide (acts_ok PA.ok PA.rs HST.out.1 mi.1 mi.2.1 mi.2.2 (nP ps))
      have HPB := hide (And.intro PB kw)
      clear PA PB Mw kw
      go_wp2_with fail
      refine HAC.out.mono ?_
      rintro e u1 ⟨ov1, own1', rfl, A1⟩
      have kw1 := HPB.out.2.kept A1.kept (by decide)
      have PB1 := HPB.out.1.kept A1.kept (by decide) (by decide)
      have PA1 : PK own1' u1 10 p (FP es fs) (stgP ps) (actsC (FP es fs) (stgP ps) d mi.1 mi.2.1 mi.2.2 (nP ps)).1 (80 * i + 80) := ⟨A1.psi, HOK.out.1, HOK.out.2⟩
      obtain ⟨n0, n1, n2⟩ := HM.out u1 kw1.low
      have HAC2 := hide (acts_any PB1.psi (by decide) (PB1.pre (by omega) kw1.lt HST.out.1 HST.out.2) mi.1 mi.2.1 mi.2.2 (nP ps) hr.1 hr.2.1 hr.2.2 (by omega) (by omega))
      have HP1 := hide (And.intro PA1 kw1)
      obtain ⟨va1, vn1, vc1, hv1⟩ := ownsRow_form A1.row
      subst hv1
      clear A1 PA1 PB1 kw1 HAC HPB m0 m1 m2
      go_wp2_with fail
      refine HAC2.out.mono ?_
      rintro e u2 ⟨ov2, own2', rfl, A2⟩
      have HP2 : Hid (KW W u2 own2' ∧ PK own2' u2 10 p (FP es fs) (stgP ps) (actsC (FP es fs) (stgP ps) d mi.1 mi.2.1 mi.2.2 (nP ps)).1 (80 * i + 80) ∧ PK own2' u2 11 q (FP es fs) (stgP ps) (actsC (FP es fs) (stgP ps) d mi.1 mi.2.1 mi.2.2 (nP ps)).1 (80 * i + 80)) := ⟨HP1.out.2.kept A2.kept (by decide), HP1.out.1.kept A2.kept (by decide) (by decide), ⟨A2.psi, HOK.out.1, HOK.out.2⟩⟩
      obtain ⟨va2, vn2, vc2, hv2⟩ := ownsRow_form A2.row
      subst hv2
      clear A2 HP1 HAC2 n0 n1 n2
      go_wp2_with fail
      go_roundw
      case rel => exact ⟨i + 1, own2', _, by go_num, by omega, by omega, HP2.out.1, by rw [show (80 * ((i + 1 : Nat) : Int)) = 80 * i + 80 by omega]; exact HP2.out.2.1, by rw [show (80 * ((i + 1 : Nat) : Int)) = 80 * i + 80 by omega]; exact HP2.out.2.2⟩
      case measure => simp [intOf]; omega
    · have HPN := hide (prgI.now PA.psi (by decide) (PA.pre (by omega) kw.lt HST.out.1 HST.out.2))
      have HPB := hide (And.intro PB (And.intro PA kw))
      have hx : ((i : Int) < ms.length ∧ 60 ≤ (i : Int)) ∨ (ms.length : Int) ≤ i := by omega
      clear hlt PA PB kw
      rcases hx with ⟨g1, g2⟩ | g1
      all_goals
        go_wp2_with fail
        refine HPN.out.mono ?_
        rintro e u1 ⟨rfl, own1', PA1, k1⟩
        have okd := HPB.out.2.1.ok
        have t0 := okd.t0
        have t1 := okd.t1
        have P20 : P2 W u1 own1' p q (FP es fs) (stgP ps) d d [] 0 (.slice none 0 0) := ⟨HPB.out.2.2.kept k1 (by decide), PA1, (HPB.out.1.kept k1 (by decide) (by decide)).psi, MRow.nil _ _ _ _ _, tick_zero PA1.inv t1, Int.le_refl 0, by omega⟩
        have HP2 := hide P20
        have HD := hide (And.intro okd HPB.out.2.1.rs)
        obtain ⟨i0, hi0, hz0, hz1, hz2⟩ := info_parts eventInfo
        have HII := hide hi0
        clear P20 PA1 k1 okd HPB HPN g1 hi0
        go_wp2_with fail
        go_loopw [18, 19, 20] (fun tv av iv wr => ∃ (j : Nat) (own : Nat → Nat) (e : Dk) (evs : List Ev) (tot : Int), tv = .int .i64 tot ∧ iv = .int .i64 j ∧ j ≤ xs.length ∧ j ≤ 40 ∧ P2 W wr own p q (FP es fs) (stgP ps) d e evs tot av) (fun _ _ iv _ => 40 - (intOf iv).toNat)
        case atStart => exact ⟨0, own1', d, [], 0, rfl, rfl, Nat.zero_le _, by omega, HP2.out⟩
        case round =>
          clear HP2
          obtain ⟨j, own, e, evs, tot, rfl, rfl, hj, hj40, R⟩ := hrel
          have tt0 := R.t0
          have tt1 := R.t1
          have het : e.time = d.time + tot := by
            have := tick_time (F := FP es fs) (st := stgP ps) (d := d) tot (by omega)
            rw [R.eq] at this
            exact this
          have hok := tick_ok HD.out.1 HD.out.2 HST.out.1 tot
          rw [R.eq] at hok
          have hevl : evs.length ≤ 80 := hok.2.2
          have HQe : Hid (∀ (own : Nat → Nat) (z : World), (∀ k, own k ≠ 0 → k < z.heap.size) → Pre own z (FP es fs) (stgP ps) e) := fun own z hl => ⟨hl, HST.out.1, HST.out.2, hok.1.mono (by omega), hok.2.1⟩
          have HQd : Hid (∀ (own : Nat → Nat) (z : World), (∀ k, own k ≠ 0 → k < z.heap.size) → Pre own z (FP es fs) (stgP ps) d) := fun own z hl => ⟨hl, HST.out.1, HST.out.2, HD.out.1.mono (by omega), HD.out.2⟩
          have HET := hide het
          have HOKE := hide hok.1
          clear hok het
          by_cases hlt : j < xs.length ∧ j < 40
          · obtain ⟨hlt, h40⟩ := hlt
            have hlt' : (j : Int) < xs.length := by omega
            have h40' : (j : Int) < 40 := by omega
            obtain ⟨xb, xo, xc2, hxf⟩ := HA.out.2.2.2.some (by omega) (by omega)
            simp only [Value.slice.injEq] at hxf
            obtain ⟨rfl, _, rfl⟩ := hxf
            have e0 := (HA.out.2.2.2.on R.kw.low).cell (j * 1) _ (intCells_at xs j hlt)
            rw [Nat.mul_one] at e0
            have hr := HX.out _ (List.getElem_mem hlt)
            have HPK := hide (fun u => pick_any xs[j] 2000 u hr.1 hr.2 (by omega) (by omega))
            have z0 := pk_lo xs[j] 2000 (by omega)
            generalize xs[j] = xj at *
            generalize pk xj 2000 = z at *
            obtain ⟨n, hnd⟩ : ∃ n, n = min z (100800 - d.time - tot) := ⟨_, rfl⟩
            have hn0 : 0 ≤ n := by omega
            have hn1 : n ≤ 100800 - e.time := by rw [HET.out]; omega
            have HTN := hide (tickN_psi R.pb (by decide) (HQe.out own wr R.kw.lt) n)
            have herr : (tickC (FP es fs) (stgP ps) e n).2.2 = 0 := by unfold tickC; rw [if_neg (by omega)]
            rw [herr] at HTN
            have hadd := tick_add (F := FP es fs) (m := n) HST.out.1 HD.out.1 tt0 hn0 (by rw [HET.out] at hn1; omega)
            rw [R.eq] at hadd
            have HADD := hide hadd
            have hfl := (tick_ok HD.out.1 HD.out.2 HST.out.1 (tot + n)).2.2
            rw [hadd] at hfl
            have HFL := hide hfl
            have hN1 : d.time + (tot + n) ≤ 100800 := by rw [HET.out] at hn1; omega
            have HR := hide R
            have HND := hide hnd
            clear R hr herr hadd hfl
            go_wp2_with fail
            refine (HPK.out _).mono ?_
            rintro e9 w' ⟨rfl, rfl⟩
            go_wp2_with fail
            rw [← HND.out]
            clear hnd HND
            refine HTN.out.mono ?_
            rintro e9 u2 ⟨ov, own2', rfl, A, hnl⟩
            have kw2 := HR.out.kw.kept A.kept (by decide)
            have pa2 := prgI.kept HR.out.pa A.kept (by decide) (by decide)
            have row2 := HR.out.row.kept A.kept (by decide)
            have rowe := A.row
            have pb2 := A.psi
            dsimp only at rowe pb2
            generalize (tickC (FP es fs) (stgP ps) e n).1 = e2 at *
            generalize (tickC (FP es fs) (stgP ps) e n).2.1 = gs at *
            have hgl : evs.length + gs.length ≤ 80 := by have := HFL.out; simpa using this
            by_cases hg0 : gs = []
            · have hov := hnl hg0
              subst hov
              have HP3 : Hid (P2 W u2 own2' p q (FP es fs) (stgP ps) d e2 evs (tot + n) u19) := ⟨kw2, pa2, pb2, row2, by rw [HADD.out, hg0, List.append_nil], by omega, hN1⟩
              have HRW := hide row2.1
              clear kw2 pa2 pb2 row2 rowe A hnl HR HTN e0 HPK
              go_upto_region 15 with (first | (at_builtin; go_must (refine wpList_append_own_none rfl _ _ 38 rfl 0 63 i0 6 Tryz.underlying38 HII.out u19 evs.length (evsCells evs) (by rfl) HRW.out (by rfl) ?_)) | fail)
              go_wp2_with fail
              go_roundw
              case rel => exact ⟨j + 1, own2', e2, evs, tot + n, by go_num, by go_num, by omega, by omega, HP3.out⟩
              case measure => simp [intOf]; omega
            · have hgp : 0 < gs.length := List.length_pos_iff.2 hg0
              obtain ⟨g, gc, hov⟩ := row_some rowe hgp
              subst hov
              have HRW := hide (And.intro row2 (And.intro rowe (And.intro kw2 (And.intro pa2 pb2))))
              have HLN := hide rowe.1
              have HCE : Hid (∀ j2 v, (evsCells gs)[j2]? = some v → u2.cell? ((⟨g, 0, none⟩ : Addr).add j2) = some v) := fun j2 v hv => by
                rw [Addr.add_mid, Nat.zero_add, rowe.cellAt j2 (by rw [← rowe.1]; exact (List.getElem?_eq_some_iff.1 hv).1)]
                exact hv
              clear kw2 pa2 pb2 row2 rowe A hnl HR HTN e0 HPK
              go_upto_region 15 with (first | (at_builtin; go_must (refine wpList_append_lies _ rfl _ _ 38 rfl 0 63 i0 _ 6 48 Tryz.underlying38 HII.out hz0 hz1 hz2 rfl (by decide) u19 evs.length (evsCells evs) (by rfl) HRW.out.1.1 ⟨g, 0, none⟩ gs.length gc (evsCells gs) (by rfl) HLN.out HCE.out (evsCells_one _) hgp (by unfold maxLen; omega) (by omega) (Nat.zero_le _) u2.heap.size rfl ?_); intro gg gcap w3 hown3 hgrow3 hat3 hlt3) | fail)
              obtain ⟨k3, row3⟩ := Kept.grown (own := own2') (t := 1) hgrow3 HRW.out.1.2 hown3 (fun k hk => by simp only [Value.ownBlock, Option.some.injEq] at hk; subst hk; exact hat3.imp id (fun h => by omega)) HRW.out.2.2.1.lt
              have HP3 := hide (show P2 W w3 _ p q (FP es fs) (stgP ps) d e2 (evs ++ gs) (tot + n) _ from ⟨HRW.out.2.2.1.kept k3 (by decide), prgI.kept HRW.out.2.2.2.1 k3 (by decide) (by decide), prgI.kept HRW.out.2.2.2.2 k3 (by decide) (by decide), by rw [List.length_append, evsCells_append]; exact row3, HADD.out, by omega, hN1⟩)
              clear k3 row3 hown3 hgrow3 hat3 HRW
              go_wp2_with fail
              go_roundw
              case rel => exact ⟨j + 1, _, e2, evs ++ gs, tot + n, by go_num, by go_num, by omega, by omega, HP3.out⟩
              case measure => simp [intOf]; omega
          · have HTN := hide (tickN_psi R.pa (by decide) (HQd.out own wr R.kw.lt) tot)
            rw [R.eq] at HTN
            have HR := hide R
            have hx : ((j : Int) < xs.length ∧ 40 ≤ (j : Int)) ∨ (xs.length : Int) ≤ j := by omega
            clear hlt R
            rcases hx with ⟨g1, g2⟩ | g1
            all_goals
              go_wp2_with fail
              refine HTN.out.mono ?_
              rintro e9 u2 ⟨ov, own2', rfl, A, _⟩
              have kw2 := HR.out.kw.kept A.kept (by decide)
              have pb2 := prgI.kept HR.out.pb A.kept (by decide) (by decide)
              have row2 := HR.out.row.kept A.kept (by decide)
              have HSE := hide (sameEvents_any A.row row2.1 (by simp only; omega))
              have HP3 := hide (And.intro kw2 (And.intro A.psi pb2))
              obtain ⟨va, vn, vc, hv⟩ := ownsRow_form A.row
              subst hv
              clear A kw2 pb2 row2 HTN HR
              go_wp2_with fail
              refine HSE.out.mono ?_
              rintro e9 u3 ⟨rfl, b3⟩
              have k3 : KeptS own2' own2' (fun _ => False) u2 u3 := .of_below b3 HP3.out.1.lt
              have kw3 := HP3.out.1.kept k3 id
              have HN1 := hide (prgI.now (prgI.kept HP3.out.2.1 k3 id id) (by decide) (HQe.out _ _ kw3.lt))
              have HP4 := hide (And.intro kw3 (prgI.kept HP3.out.2.2 k3 id id))
              clear b3 k3 kw3 HP3 HSE
              go_wp2_with fail
              refine HN1.out.mono ?_
              rintro e9 u4 ⟨rfl, own4, _, k4⟩
              have kw4 := HP4.out.1.kept k4 (by decide)
              have HN2 := hide (prgI.now (prgI.kept HP4.out.2 k4 (by decide) (by decide)) (by decide) (HQe.out _ _ kw4.lt))
              have HP5 := hide kw4
              clear k4 kw4 HP4 HN1
              go_wp2_with fail
              refine HN2.out.mono ?_
              rintro e9 u5 ⟨rfl, own5, _, k5⟩
              have HF := hide ((HP5.out.kept k5 (by decide)).low)
              clear k5 HP5 HN2
              generalize e.time = et at *
              generalize e.told = ek at *
              go_wp2_with fail
              go_ret
              exact ⟨by simp, HB0.out.trans (HF.out.mono HB0.out.size)⟩
end Go.Proofs.YtcnmbldikjljeaaGreatDoor
