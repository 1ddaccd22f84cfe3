import Derived.Test.YtcnmbldikjljeaaGreatDoorJ09
import Derived.Test.YtcnmbldikjljeaaGreatDoorJ23
namespace Go.Proofs.YtcnmbldikjljeaaGreatDoor
open Go.RowKit
section
variable {w W u : World} {g c : Nat} {F : Nat → Bool} {st : List Stg} {sv lv : Value} {vs : Nat → Value × Value} {d d' : Dk} {N : Int}
/-- where Tick's loop stands -/
structure TK (w : World) (g c : Nat) (F : Nat → Bool) (st : List Stg) (sv : Value) (vs : Nat → Value × Value) (lv : Value) (d : Dk) (T : Int) (wr : World) (ov : Value) (l : List Cs) (es : List Ev) : Prop where
  rd : RD wr g c F st sv vs lv ⟨T, d.made, d.told + es.length, l⟩
  own : wr.ownsRow w.heap.size 63 6 ov es.length (evsCells es)
  fr : Fr g lv lv w wr
  ok : ∀ x ∈ l, CsOk st x
  len : l.length = d.cases.length
  left : es.length + leftL st l ≤ 80
  nl : es = [] → ov = .slice none 0 0
  res : es ++ (tickGo F st T (leftL st l) l (d.told + es.length)).1 = (tickGo F st T (leftL st d.cases) d.cases d.told).1 ∧ (tickGo F st T (leftL st l) l (d.told + es.length)).2 = (tickGo F st T (leftL st d.cases) d.cases d.told).2
/-- one event more -/
theorem TK.next {w10 w11 : World} {q cap i : Nat} {T : Int} {ov : Value} {l : List Cs} {es : List Ev} (hs : StOk st) (hok : ∀ x ∈ l, CsOk st x) (hlen : l.length = d.cases.length) (hl20 : l.length ≤ 20) (hleft : es.length + leftL st l ≤ 80)
    (hres : es ++ (tickGo F st T (leftL st l) l (d.told + es.length)).1 = (tickGo F st T (leftL st d.cases) d.cases d.told).1 ∧ (tickGo F st T (leftL st l) l (d.told + es.length)).2 = (tickGo F st T (leftL st d.cases) d.cases d.told).2)
    (hi : nextL l = i) (hil : i < l.length) (h2 : (csAt l i).due ≤ T) (R10 : RD w10 g c F st sv vs (.slice (some ⟨q, 0, none⟩) l.length cap) ⟨T, d.made, d.told + es.length + 1, l⟩)
    (own10 : w10.ownsRow w.heap.size 63 6 ov (es.length + 1) (evsCells es ++ evCells (evOf st (csAt l i) (d.told + es.length + 1)))) (fr10 : Fr g (.slice (some ⟨q, 0, none⟩) l.length cap) (.slice (some ⟨q, 0, none⟩) l.length cap) w w10)
    (hP : Put w10 w11 q (i * 6) (csCells (comesL F st (csAt l i) ((csAt l i).level + 1) (csAt l i).due))) :
    TK w g c F st sv vs (.slice (some ⟨q, 0, none⟩) l.length cap) d T w11 ov (l.set i (comesL F st (csAt l i) ((csAt l i).level + 1) (csAt l i).due)) (es ++ [evOf st (csAt l i) (d.told + es.length + 1)]) := by
  obtain ⟨i', hi', _, hx, hd0, hok', hlt⟩ := tick_step (F := F) (T := T) hs hok (by omega) (by rw [hi]; exact h2)
  obtain rfl : i' = i := by omega
  have hmore := tick_more (F := F) (k := d.told + es.length) hs hok hi h2
  obtain ⟨R11, F11⟩ := RD.put (d := ⟨T, d.made, d.told + es.length + 1, l⟩) R10 (by simp; omega) i' hil hP
  have hA := RD.ca (d := ⟨T, d.made, d.told + es.length + 1, l⟩) R10 i' hil
  have ek : d.told + ((es ++ [evOf st (csAt l i') (d.told + es.length + 1)]).length : Int) = d.told + es.length + 1 := by simp; omega
  obtain ⟨cur, hcur, _⟩ := hA
  refine ⟨by rw [ek]; exact R11, ?_, fr10.trans F11, hok', by simp [hlen], by simp; omega, fun e => by simp at e, ?_⟩
  · rw [evsCells_snoc, List.length_append]
    exact row_left own10 hP.grown hcur (by decide)
  · rw [ek]
    rw [hmore] at hres
    refine ⟨?_, hres.2⟩
    rw [← hres.1]
    simp
set_option maxRecDepth 100000 in
set_option maxHeartbeats 16000000 in
theorem refDTick_any (R : RD w g c F st sv vs lv d) (hs : StOk st) (hn : st.length ≤ 6) (ok : DkOk F st d N) (hN : N ≤ 4611686018427387904) (n : Int) :
    Calls Tryz.prog 92 #[P0 g, .int .i64 n] w fun e w' => ∃ ov, e = .returned (.tuple #[ov, .int .i64 (tickC F st d n).2.2]) ∧ w'.ownsRow w.heap.size 63 6 ov (tickC F st d n).2.1.length (evsCells (tickC F st d n).2.1) ∧ ((tickC F st d n).2.1 = [] → ov = .slice none 0 0) ∧ RD w' g c F st sv vs lv (tickC F st d n).1 ∧ Fr g lv lv w w' := by
  have hlen := ok.len
  have c2 := R.c2
  have t0 := ok.t0
  have t1 := ok.t1
  by_cases hbad : n < 0 ∨ 100800 - d.time < n
  · have hE : tickC F st d n = (d, [], 1) := by unfold tickC; rw [if_pos hbad]
    rw [hE]
    have HR := hide R
    clear R
    by_cases h1 : n < 0
    · clear hbad
      go_enter Tryz.func92, Tryz.ntmps92
      go_wp2_with fail
      go_ret2
      exact ⟨.slice none 0 0, rfl, World.ownsRow_nil _ _ _ _, (by first | exact rfl | exact fun _ => rfl), HR.out, Fr.refl⟩
    · have h2 : 100800 - d.time < n := by omega
      clear hbad
      go_enter Tryz.func92, Tryz.ntmps92
      go_wp2_with fail
      go_ret2
      exact ⟨.slice none 0 0, rfl, World.ownsRow_nil _ _ _ _, (by first | exact rfl | exact fun _ => rfl), HR.out, Fr.refl⟩
  · obtain ⟨T, hT⟩ : ∃ T, T = d.time + n := ⟨_, rfl⟩
    have hE : tickC F st d n = (⟨T, d.made, (tickGo F st T (leftL st d.cases) d.cases d.told).2.2, (tickGo F st T (leftL st d.cases) d.cases d.told).2.1⟩, (tickGo F st T (leftL st d.cases) d.cases d.told).1, 0) := by unfold tickC; rw [if_neg hbad, ← hT]
    have HE := hide hE
    have n0 : 0 ≤ n := by omega
    have n1 : n ≤ 100800 - d.time := by omega
    have f2 := R.frz 2
    obtain ⟨R1, F1⟩ := R.num 2 (d.time + n) ⟨d.time + n, d.made, d.told, d.cases⟩ rfl rfl
    have hl80 : leftL st d.cases ≤ 80 := by have := leftL_le hs d.cases ok.cs; omega
    have TK0 : TK w g c F st sv vs lv d T (w.setCell ⟨g, 2, none⟩ (.int .i64 (d.time + n))) (.slice none 0 0) d.cases [] := ⟨by rw [hT]; simpa using R1, World.ownsRow_nil _ _ _ _, F1, ok.cs, rfl, by simpa using hl80, fun _ => rfl, by simp⟩
    have HTK := hide TK0
    have HR := hide R
    have hT0 : 0 ≤ T := by omega
    have hT1 : T ≤ 100800 := by omega
    have k0 := ok.k0
    have k1 : d.told ≤ 4611686018427387904 := by have := ok.k1; omega
    clear hE R R1 F1 TK0 hbad
    obtain ⟨i0, hi0, hz0, hz1, hz2⟩ := info_parts eventInfo
    have HII := hide hi0
    clear hi0
    go_enter Tryz.func92, Tryz.ntmps92
    go_wp2_with fail
    clear c2 f2
    rw [← hT] at HTK ⊢
    clear hT
    go_loopw [6] (fun ov wr => ∃ l es, TK w g c F st sv vs lv d T wr ov l es) (fun ov _ => 81 - lenV ov)
    case atStart => exact ⟨_, _, HTK.out⟩
    case round =>
      obtain ⟨l, es, K⟩ := hrel
      have hl1 : l.length ≤ 20 := by rw [K.len]; exact hlen
      have HK := hide K
      go_wp2_with fail
      refine (next_any K.rd (by simp; omega)).mono ?_
      rintro e w1 ⟨rfl, hb1⟩
      have R1 := K.rd.on hb1
      have own1 := row_on K.own hb1
      have fr1 := K.fr.trans (Fr.of_below hb1)
      have HN := hide (show (tickC F st d n).2.1 = es → True from fun _ => trivial)
      have hfin : (nextL l < 0 ∨ T < (csAt l (nextL l)).due) → (tickC F st d n).2.1 = es ∧ (tickC F st d n).1 = ⟨T, d.made, d.told + es.length, l⟩ ∧ (tickC F st d n).2.2 = 0 := by
        intro hc
        have hr := HK.out.res
        rw [tick_done hc] at hr
        rw [HE.out]
        simp only [List.append_nil] at hr
        refine ⟨hr.1.symm, ?_, rfl⟩
        rw [← hr.2]
      have HFIN := hide hfin
      have HK1 := hide (And.intro R1 (And.intro own1 fr1))
      clear hfin R1 own1 fr1 HN
      by_cases h1 : nextL l < 0
      · have HFF := hide (HFIN.out (.inl h1))
        have HNL := hide K.nl
        clear K HFIN HK hb1
        generalize nextL l = nx at *
        go_wp2_with fail
        go_quiet (fail)
        go_wp2_with fail
        go_ret2
        rw [HFF.out.1, HFF.out.2.1, HFF.out.2.2]
        have hbq := below_drewN (Below.refl w1.heap.size w1) nq
        exact ⟨_, rfl, row_on HK1.out.2.1 hbq, HNL.out, HK1.out.1.on hbq, HK1.out.2.2.trans (Fr.of_below hbq)⟩
      · obtain ⟨i, hi⟩ : ∃ i : Nat, nextL l = i := ⟨(nextL l).toNat, by omega⟩
        have hbd := nextTo_bd l l.length
        have hil : i < l.length := by unfold nextL at hi; omega
        have hil' : (i : Int) < l.length := by omega
        obtain ⟨q, cap, hlv⟩ := row_some HK1.out.1.own (by simp; omega)
        simp only at hlv
        subst hlv
        have hA1 := RD.ca (d := ⟨T, d.made, d.told + es.length, l⟩) HK1.out.1 i hil
        have c5 := HK1.out.1.c5
        have c2 := HK1.out.1.c2
        have e3 := hA1.cell 3 _ rfl
        simp only at c5 c2 e3
        by_cases h2 : T < (csAt l i).due
        · have HFF := hide (HFIN.out (.inr (by rw [hi]; exact h2)))
          have HNL := hide K.nl
          clear K HFIN HK hb1 hA1 hbd
          rw [hi]
          generalize (csAt l i).due = y at *
          go_wp2_with fail
          go_quiet (fail)
          go_wp2_with fail
          go_ret2
          rw [HFF.out.1, HFF.out.2.1, HFF.out.2.2]
          have hbq := below_drewN (Below.refl w1.heap.size w1) nq
          exact ⟨_, rfl, row_on HK1.out.2.1 hbq, HNL.out, HK1.out.1.on hbq, HK1.out.2.2.trans (Fr.of_below hbq)⟩
        · have h2' : (csAt l i).due ≤ T := by omega
          obtain ⟨i', hi', _, hx, hd0, hok', hlt⟩ := tick_step (F := F) (T := T) hs K.ok (by omega) (by rw [hi]; exact h2')
          obtain rfl : i' = i := by omega
          have hkd : d.told + es.length ≤ 5000000000000000000 := by have := K.left; omega
          have hmore := tick_more (F := F) (k := d.told + es.length) hs K.ok hi h2'
          have HMORE := hide hmore
          have hkl := K.left
          have hknl := hide (K.res)
          have HKlen := hide K.len
          have hgl := HK1.out.1.lt
          clear hmore K HFIN hbd hA1
          rw [hi]
          generalize hdu : (csAt l i').due = y at *
          have HDU := hide hdu
          clear hdu
          go_wp2_with fail
          go_quiet (fail)
          have hbq := below_drewN (Below.refl w1.heap.size w1) nq
          have R2 := HK1.out.1.on hbq
          have own2 := row_on HK1.out.2.1 hbq
          have fr2 := HK1.out.2.2.trans (Fr.of_below hbq)
          clear HK1 hbq c5 c2 e3
          generalize w1.drewN nq = W2 at *
          obtain ⟨R3, F3⟩ := R2.num 4 (d.told + es.length + 1) ⟨T, d.made, d.told + es.length + 1, l⟩ rfl rfl
          have own3 : (W2.setCell ⟨g, 4, none⟩ (.int .i64 (d.told + es.length + 1))).ownsRow w.heap.size 63 6 u6 es.length (evsCells es) := row_left own2 (b := g) ⟨rfl, rfl, rfl, by simp, fun k _ hne => Below.heap_setCell _ _ _ k (fun e => hne (by rw [e]))⟩ R2.blk (by decide)
          have fr3 := fr2.trans F3
          have c5 := R2.c5
          have c4 := R2.c4
          have f4 := R2.frz 4
          simp only at c5 c4
          have HR3 := hide (And.intro R3 (And.intro own3 fr3))
          clear R3 F3 own3 fr3 own2 fr2 R2
          go_wp2_with fail
          clear c5 c4 f4
          generalize W2.setCell ⟨g, 4, none⟩ (.int .i64 (d.told + es.length + 1)) = W3 at *
          obtain ⟨s, hs2⟩ : ∃ s : Nat, (csAt l i').stage = s := ⟨(csAt l i').stage.toNat, by have := hx.s0; omega⟩
          have hsl : s < st.length := by have := hx.s1; omega
          have hsl' : (s : Int) < st.length := by omega
          obtain ⟨lev, hl2⟩ : ∃ lev : Nat, (csAt l i').level = lev := ⟨(csAt l i').level.toNat, by have := hx.l0; omega⟩
          have hdl := hx.dl (by rw [HDU.out]; exact hd0)
          rw [hs2, hl2] at hdl
          have hll : lev < (stAt st s).levels.length := by omega
          have hll' : (lev : Int) < (stAt st s).levels.length := by omega
          have hl4 : lev ≤ 4 := by have := hx.l1; omega
          have hA3 := RD.ca (d := ⟨T, d.made, d.told + es.length + 1, l⟩) HR3.out.1 i' hil
          obtain ⟨sq, scap, hsv⟩ := row_some HR3.out.1.stg.row (by omega)
          subst hsv
          have cs := (HR3.out.1.stg.row.cellAt (s * 2) (by omega)).trans (stCells_at vs st.length s hsl).1
          have hlv := HR3.out.1.stg.lev s hsl
          obtain ⟨lq, lcap, hlq⟩ := row_some hlv (by omega)
          rw [hlq] at cs hlv
          have cw := (hlv.cellAt (lev * 2 + 1) (by omega)).trans (flat_at _ lev hll).2
          have hwho : (stAt st s).levels[lev].2 = (lvAt (stAt st s) lev).2 := by unfold lvAt; simp [hll]
          rw [hwho] at cw
          have e0 := hA3.cell 0 _ rfl
          have e1 := hA3.cell 1 _ rfl
          have e2 := hA3.cell 2 _ rfl
          have e3 := hA3.cell 3 _ rfl
          rw [Nat.add_zero] at e0
          rw [hs2] at e1
          rw [hl2] at e2
          rw [HDU.out] at e3
          have c4 := HR3.out.1.c4
          have c1 := HR3.out.1.c1
          simp only at c4 c1
          have hg3 := HR3.out.1.lt
          have hq3 := hA3.lt
          have hsq3 : sq < W3.heap.size := World.block_lt_of_cell? _ _ cs
          have hlq3 : lq < W3.heap.size := World.block_lt_of_cell? _ _ cw
          have hev : evOf st (csAt l i') (d.told + es.length + 1) = ⟨d.told + es.length + 1, y, (csAt l i').id, s, lev, (lvAt (stAt st s) lev).2⟩ := by unfold evOf; rw [HDU.out, hs2, hl2]
          have HEV := hide hev
          have hwb := HR3.out.2.2.size
          have hrl := fun k (hk : u6.ownBlock = some k) => (HR3.out.2.1.lt k hk).1
          have hgw : g < w.heap.size := HR.out.lt
          have hqw : q < w.heap.size := (HR.out.own.lt q rfl).2
          have hsw : sq < w.heap.size := (HR.out.stg.row.lt sq rfl).2
          have hlw : lq < w.heap.size := ((HR.out.stg.lev s hsl).lt lq (by rw [hlq]; rfl)).2
          have hng : some g ≠ u6.ownBlock := fun e => by have := hrl g e.symm; omega
          have hnq : some q ≠ u6.ownBlock := fun e => by have := hrl q e.symm; omega
          have hns : some sq ≠ u6.ownBlock := fun e => by have := hrl sq e.symm; omega
          have hnl : some lq ≠ u6.ownBlock := fun e => by have := hrl lq e.symm; omega
          generalize hk1 : d.told + es.length + 1 = k1' at *
          generalize (lvAt (stAt st s) lev).2 = who at *
          generalize (csAt l i').id = cid at *
          clear hA3 hev hwho hlv
          have hlenu : lenV u6 = es.length := lenV_own HR3.out.2.1
          go_region_held3 (fun w' => w'.cell? ⟨g, 4, none⟩ = some (.int .i64 k1') ∧ w'.cell? ⟨q, i' * 6 + 3, none⟩ = some (.int .i64 y) ∧ w'.cell? ⟨q, i' * 6, none⟩ = some (.int .i64 cid) ∧ w'.cell? ⟨q, i' * 6 + 1, none⟩ = some (.int .i64 s) ∧ w'.cell? ⟨q, i' * 6 + 2, none⟩ = some (.int .i64 lev) ∧ w'.cell? ⟨g, 1, none⟩ = some (.slice (some ⟨sq, 0, none⟩) st.length scap) ∧ w'.cell? ⟨sq, s * 2, none⟩ = some (.slice (some ⟨lq, 0, none⟩) (stAt st s).levels.length lcap) ∧ w'.cell? ⟨lq, lev * 2 + 1, none⟩ = some (.int .i64 who)) (first | (go_keep; done) | (go_split_ands; refine ⟨?_, ?_, ?_, ?_, ?_, ?_, ?_, ?_⟩; all_goals (first | (rw [hgrow.cell_far _ (by simp; omega) (by assumption)]; go_keep; done) | (rw [hgrow.cell_far _ (by simp; omega) (by assumption)]; assumption))))
            ((refine step_append_lies _ (by rfl) _ _ _ (by rfl) w.heap.size 63 i0 _ 6 48 Tryz.underlying38 HII.out hz0 hz1 hz2 rfl (by omega) u6 es.length (evsCells es) (by rfl) (row_on HR3.out.2.1 (by first | exact ((Below.refl _ _).alloc (Nat.le_refl _) _).drew | exact (Below.refl _ _).alloc (Nat.le_refl _) _))
                ⟨W3.heap.size, 0, none⟩ 1 1 [.int .i64 k1', .int .i64 y, .int .i64 cid, .int .i64 s, .int .i64 lev, .int .i64 who] (by rfl) (by rfl) (World.news_of_block (cs := #[.int .i64 k1', .int .i64 y, .int .i64 cid, .int .i64 s, .int .i64 lev, .int .i64 who]) (t := 63) (fr := (0, 0)) (heap_alloc_new W3 _)) (by simp [Value.oneCell'])
                (by omega) (by unfold maxLen; omega) (by omega) (by simp; omega) (W3.heap.size + 1) (by simp) ?_; intro gg ecap w10 hown10 hgrow hat hlt10))
          have hbA : Below w.heap.size W3 w10 := (((Below.refl _ _).alloc (by omega) _).drew).grown hgrow (by simp; omega) (fun k hk => hrl k hk)
          obtain ⟨R10, F10⟩ := HR.out.keep HR3.out.1 HR3.out.2.2 hbA
          have HO10 := hide hown10
          have HR10 := hide (And.intro R10 F10)
          have hA10 := RD.ca (d := ⟨T, d.made, k1', l⟩) R10 i' hil
          have g2 := hA10.cell 2 _ rfl
          have g3 := hA10.cell 3 _ rfl
          rw [hl2] at g2
          rw [HDU.out] at g3
          have hgq := RD.gq (d := ⟨T, d.made, k1', l⟩) R10 (by simp; omega)
          have HC := hide (fun (z : World) (hb : Below w10.heap.size w10 z) => comes_any ((R10.on hb).dr) (hA10.on hb) (by obtain ⟨yy, hy⟩ := hgq.2.2; exact ⟨yy, (hb.cell (p := ⟨q, 0, none⟩) (World.block_lt_of_cell? _ _ hy)).trans hy⟩) (by omega) hgq.1 hs hx.s0 hx.s1 ((lev : Int) + 1) y (by omega) (by omega) hd0 (by omega))
          have HCA := hide hA10
          have hwr : IntKind.i64.wrap ((lev : Int) + 1) = (lev : Int) + 1 := by simp [IntKind.wrap, IntKind.bits, IntKind.signed]; omega
          clear R10 F10 hA10 hown10 hgrow hat hbA e0 e1 e2 e3 c4 c1 cs cw
          rename_i hHeld
          clear hHeld
          go_wp2_with fail
          have HC2 := hide (HC.out w10.drew (Below.refl _ _).drew)
          have HP2 := hide (HCA.out.put (Below.refl _ _).drew)
          have HRd := hide (HR10.out.1.on (Below.refl _ _).drew)
          have HFd := hide (HR10.out.2.trans (Fr.of_below (Below.refl _ _).drew))
          have HOd := hide (row_on HO10.out (Below.refl _ _).drew)
          clear HC HCA HR10 HO10
          go_region_with (go_at_call 141; refine HC2.out.mono ?_; rintro e w11 ⟨rfl, hP11⟩)
          all_goals
            have HT11 := hide (TK.next (w := w) (w10 := w10.drew) (w11 := w11) (ov := .slice (some ⟨gg, 0, none⟩) (es.length + 1) ecap) hs HK.out.ok HKlen.out hl1 hkl hknl.out hi hil (by rw [HDU.out]; exact h2') (by rw [hk1]; exact HRd.out) (by rw [hk1, HEV.out]; exact HOd.out) HFd.out (by rw [hl2, HDU.out]; exact hP11))
            clear hP11
            try go_wp2_with fail
            go_roundw
            case rel => exact ⟨_, _, HT11.out⟩
            case measure => rw [hlenu]; simp only [lenV]; omega
end
end Go.Proofs.YtcnmbldikjljeaaGreatDoor
