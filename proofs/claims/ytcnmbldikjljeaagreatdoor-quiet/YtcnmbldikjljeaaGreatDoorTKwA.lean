import Derived.Test.YtcnmbldikjljeaaGreatDoorTKw9
namespace Go.Proofs.YtcnmbldikjljeaaGreatDoor
open Go.RowKit

theorem findTo_spec (l : List Cs) (id : Int) : ∀ (k i : Nat), 0 ≤ findTo l id i k → (csAt l (findTo l id i k)).id = id
  | 0, i, h => by simp [findTo] at h
  | k + 1, i, h => by
    simp only [findTo] at h ⊢
    split
    · assumption
    · rename_i hne
      rw [if_neg hne] at h
      exact findTo_spec l id k (i + 1) h
theorem find_no {F : Nat → Bool} {d : Dk} (iv : InvD F d) {id : Int} (h : id < 1 ∨ d.made < id) : findL d.cases id < 0 := by
  rcases findL_bd d.cases id with hn | ⟨i, hi, hil⟩
  · exact hn
  · exfalso
    have hs := findTo_spec d.cases id d.cases.length 0 (by show 0 ≤ findL d.cases id; omega)
    rw [show findTo d.cases id 0 d.cases.length = findL d.cases id from rfl, hi, csAt_nat hil] at hs
    have := iv.top _ (List.getElem_mem hil)
    omega
theorem caseV_form2 (d : Dk) (id : Int) : ∃ (x0 x1 x2 : Int) (x3 : Bool) (x4 : Int), caseV d id = .tuple #[.agg #[.int .i64 x0, .int .i64 x1, .int .i64 x2, .bool x3], .int .i64 x4] := by
  unfold caseV
  split
  · exact ⟨_, _, _, _, _, rfl⟩
  · exact ⟨_, _, _, _, _, rfl⟩
/-- where Quiet's loop stands -/
structure QI (W wr : World) (own : Nat → Nat) (a b o c : Nat) (es : List Ent) (fs : List Int) (ps : List (List (Int × Int))) (d d2 : Dk) (N : Int) : Prop where
  kw : KW W wr own
  pa : PK own wr 10 a (FP es fs) (stgP ps) d N
  pb : PK own wr 11 b (FP es fs) (stgP ps) d N
  po : PK own wr 12 o (FP es fs) (stgP ps) d2 N
  cal : CalW (roW own wr) c (wkP es fs) (frP es fs)
section
variable {W wr w' : World} {own own' : Nat → Nat} {a b o c : Nat} {es : List Ent} {fs : List Int} {ps : List (List (Int × Int))} {d d2 : Dk} {N : Int} {T : Nat → Prop}
theorem CalW.keptR {raw : Nat → List (Int × Int)} {fr : Nat → Bool} (h : CalW (roW own wr) c raw fr) (k : KeptS own own' T wr w') (h0 : ¬ T 0) : CalW (roW own' w') c raw fr := h.on (by rw [ro_size]; exact k.below h0)
theorem QI.kept (h : QI W wr own a b o c es fs ps d d2 N) (k : KeptS own own' T wr w') (h0 : ¬ T 0) (h1 : ¬ T 10) (h2 : ¬ T 11) (h3 : ¬ T 12) : QI W w' own' a b o c es fs ps d d2 N :=
  ⟨h.kw.kept k h0, h.pa.kept k h0 h1, h.pb.kept k h0 h2, h.po.kept k h0 h3, h.cal.keptR k h0⟩
/-- the noisy docket was asked, and stands as it was -/
theorem QI.onB (h : QI W wr own a b o c es fs ps d d2 N) (hp : PSi own' w' 11 b (FP es fs) (stgP ps) d) (k : Kept own own' 11 wr w') : QI W w' own' a b o c es fs ps d d2 N :=
  ⟨h.kw.kept k (by decide), h.pa.kept k (by decide) (by decide), ⟨hp, h.pb.ok, h.pb.rs⟩, h.po.kept k (by decide) (by decide), h.cal.keptR k (by decide)⟩
theorem QI.onA (h : QI W wr own a b o c es fs ps d d2 N) (hp : PSi own' w' 10 a (FP es fs) (stgP ps) d) (k : Kept own own' 10 wr w') : QI W w' own' a b o c es fs ps d d2 N :=
  ⟨h.kw.kept k (by decide), ⟨hp, h.pa.ok, h.pa.rs⟩, h.pb.kept k (by decide) (by decide), h.po.kept k (by decide) (by decide), h.cal.keptR k (by decide)⟩
end
/-- a list of the caller's: its cells are there, and may be written -/
def R8 (w : World) (own : Nat → Nat) (e : TypeId) (size : Nat) (v : Value) (n : Nat) : Prop := ∃ a cap, v = .slice a n cap ∧ (0 < n → ∃ g cur, a = some ⟨g, 0, none⟩ ∧ w.heap[g]? = some (.cells cur e (0, 0)) ∧ n * size ≤ cur.size ∧ own g = 8)
section
variable {w : World} {own : Nat → Nat} {e : TypeId} {size n base : Nat} {v : Value} {xs : List Value}
theorem R8.of_row (h : w.ownsRow base e size v n xs) (ht : ∀ k, v.ownBlock = some k → own k = 8) : R8 w own e size v n := by
  rcases h.2 with ⟨rfl, rfl⟩ | ⟨q, cap, cur, rfl, _, hq, h1, _, h3, _⟩
  · exact ⟨none, 0, rfl, fun h => by omega⟩
  · exact ⟨_, cap, rfl, fun _ => ⟨q, cur, rfl, hq, by rw [h3]; exact Nat.mul_le_mul_right _ h1, ht q rfl⟩⟩
theorem R8.set {g cap j : Nat} {u : Value} (h : R8 w own e size (.slice (some ⟨g, 0, none⟩) n cap) n) (hn : 0 < n) (hl : ∀ k, own k ≠ 0 → k < w.heap.size) : R8 (w.setCell ⟨g, j, none⟩ u) own e size (.slice (some ⟨g, 0, none⟩) n cap) n ∧ KeptS own own (fun x => x = 8) w (w.setCell ⟨g, j, none⟩ u) := by
  obtain ⟨a, cap', h1, h2⟩ := h
  obtain ⟨g', cur, e1, e2, e3, e4⟩ := h2 hn
  simp only [Value.slice.injEq] at h1
  obtain ⟨rfl, _, rfl⟩ := h1
  simp only [Option.some.injEq, Addr.mk.injEq, and_true] at e1
  subst e1
  refine ⟨⟨_, cap, rfl, fun _ => ⟨g, _, rfl, heap_setCell_same _ _ _ _ _ _ e2, by simpa using e3, e4⟩⟩, ⟨rfl, rfl, rfl, by simp, fun k _ hk => Below.heap_setCell _ _ _ k (fun he => hk (by rw [he]; exact e4)), fun _ _ => rfl, fun k hk h0 => absurd (hl k h0) (by omega), fun _ => .inr (.inl rfl)⟩⟩
theorem R8.at {g cap : Nat} (h : R8 w own e size (.slice (some ⟨g, 0, none⟩) n cap) n) (j : Nat) (hj : j < n * size) : (∃ u, w.cell? ⟨g, j, none⟩ = some u) ∧ w.frozen? ⟨g, j, none⟩ = false := by
  obtain ⟨a, cap', h1, h2⟩ := h
  have hn : 0 < n := by
    apply Nat.pos_of_ne_zero
    rintro rfl
    simp at hj
  obtain ⟨g', cur, e1, e2, e3, e4⟩ := h2 hn
  simp only [Value.slice.injEq] at h1
  obtain ⟨rfl, _, rfl⟩ := h1
  simp only [Option.some.injEq, Addr.mk.injEq, and_true] at e1
  subst e1
  exact ⟨⟨cur[j]'(by omega), by simp [World.cell?, e2, show j < cur.size by omega]⟩, by simp [World.frozen?, e2]⟩
theorem R8.kept {own' : Nat → Nat} {w' : World} {T : Nat → Prop} (h : R8 w own e size v n) (k : KeptS own own' T w w') (h8 : ¬ T 8) : R8 w' own' e size v n := by
  obtain ⟨a, cap, rfl, h2⟩ := h
  refine ⟨a, cap, rfl, fun hn => ?_⟩
  obtain ⟨g, cur, e1, e2, e3, e4⟩ := h2 hn
  obtain ⟨f1, f2⟩ := k.at e2 (by rw [e4]; exact h8)
  exact ⟨g, cur, e1, f1, e3, f2.trans e4⟩
theorem R8.some (h : R8 w own e size v n) (hn : 0 < n) : ∃ g cap, v = .slice (some ⟨g, 0, none⟩) n cap := by
  obtain ⟨a, cap, rfl, h2⟩ := h
  obtain ⟨g, cur, rfl, _⟩ := h2 hn
  exact ⟨g, cap, rfl⟩
end
theorem acts_len {F : Nat → Bool} {st : List Stg} {d : Dk} {N : Int} (ok : DkOk F st d N) (hr : DkR st d) (hs : StOk st) (k a b n : Int) : (actsC F st d k a b n).2.length ≤ 80 := by
  unfold actsC
  split
  · simp
  split
  · simp
  split
  · simp
  split
  · simp
  split
  · simp
  · exact (tick_ok ok hr hs _).2.2
theorem agenda_len (l : List Cs) : ∀ out : List (Int × Int), (agendaL l out).length ≤ out.length + l.length := by
  induction l with
  | nil => intro out; simp [agendaL]
  | cons x l ih =>
    intro out
    simp only [agendaL, List.length_cons]
    split
    · have := ih out
      omega
    · have h1 := ih (insL (x.id, x.due) out)
      have h2 := (insL_perm (x.id, x.due) out).length_eq
      simp only [List.length_cons] at h2
      omega
theorem CalW.unroP {own : Nat → Nat} {w : World} {g : Nat} {wk : Nat → List (Int × Int)} {fr : Nat → Bool} (h : CalW (roW own w) g wk fr) : CalW w g wk fr := by
  obtain ⟨jk, h, hj⟩ := h
  have hl := h.lt
  rw [ro_size] at hl
  refine ⟨jk, ⟨hl, fun j hj' => ?_, fun j hj' => (ro_cell (h.free j hj')).2⟩, hj⟩
  obtain ⟨v, h1, h2⟩ := h.week j hj'
  exact ⟨v, (ro_cell h1).2, ro_row h2 (by decide)⟩
/-- what is refused changes nothing -/
structure NZ (F : Nat → Bool) (st : List Stg) (d : Dk) : Prop where
  open_ : openC F st d st.length = (d, 0, 1)
  move : moveC F st d 0 0 = (d, 5)
  close : closeC d (-1) = (d, 5)
  hold : holdC F d 1000000 = (d, 5)
  resume : resumeC F d 0 = (d, 5)
  tickm : tickC F st d (-1) = (d, [], 1)
  tickp : tickC F st d 100801 = (d, [], 1)
theorem nz_any {F : Nat → Bool} {st : List Stg} {d : Dk} {N : Int} (iv : InvD F d) (ok : DkOk F st d N) (hN : N < 1000000) : NZ F st d := by
  have hm := ok.m1
  have t0 := ok.t0
  refine ⟨?_, ?_, ?_, ?_, ?_, ?_, ?_⟩
  · unfold openC; rw [if_pos (by omega)]
  · unfold moveC; rw [if_pos (find_no iv (.inl (by omega)))]
  · unfold closeC; rw [if_pos (find_no iv (.inl (by omega)))]
  · unfold holdC; rw [if_pos (find_no iv (.inr (by omega)))]
  · unfold resumeC; rw [if_pos (find_no iv (.inl (by omega)))]
  · unfold tickC; rw [if_pos (by omega)]
  · unfold tickC; rw [if_pos (by omega)]
set_option maxRecDepth 100000 in
set_option maxHeartbeats 32000000 in
theorem quiet_any (es : List Ent) (fs : List Int) (ae af : Option Addr) (ce cf : Nat) (pv mv : Value) (ps : List (List (Int × Int))) (lv : Nat → Value) (ms : List Mv) (noise : Int) (W0 : World) (h0 : 0 < W0.heap.size) (hnm : ∀ j, j < 7 → W0.cell? ⟨0, j, none⟩ = some (nmV j)) (K : WK W0 es fs ae af) (P : PL W0 pv ps lv) (M : MV W0 mv ms) (hN : inR noise) :
    Calls Tryz.prog 8 #[.agg #[.slice ae es.length ce, .slice af fs.length cf], .agg #[pv], mv, .int .i64 noise] W0 fun e w' => e = .returned (.bool true) ∧ Below W0.heap.size W0 w' := by
  obtain ⟨pa, pc, hpv⟩ := P.row.any
  subst hpv
  obtain ⟨ma, mc, hmv⟩ := M.row.any
  subst hmv
  have hml : ms.length ≤ 9223372036854775807 := by have := M.row.max; simp only [maxLen] at this; omega
  have hb0 : Below W0.heap.size W0 ((W0.alloc (Obj.cells #[.slice ae es.length ce, .slice af fs.length cf] 28)).alloc (Obj.cells #[.slice pa ps.length pc] 31)) := ((Below.refl _ _).alloc (Nat.le_refl _) _).alloc (by simp) _
  have x0 : ((W0.alloc (Obj.cells #[.slice ae es.length ce, .slice af fs.length cf] 28)).alloc (Obj.cells #[.slice pa ps.length pc] 31)).heap[W0.heap.size]? = some (.cells #[.slice ae es.length ce, .slice af fs.length cf] 28 (0, 0)) := (Below.heap_alloc _ _ _ (by simp)).trans (heap_alloc_new _ _)
  have x1 : ((W0.alloc (Obj.cells #[.slice ae es.length ce, .slice af fs.length cf] 28)).alloc (Obj.cells #[.slice pa ps.length pc] 31)).heap[W0.heap.size + 1]? = some (.cells #[.slice pa ps.length pc] 31 (0, 0)) := by
    have h9 := heap_alloc_new (W0.alloc (Obj.cells #[.slice ae es.length ce, .slice af fs.length cf] 28)) (Obj.cells #[.slice pa ps.length pc] 31)
    simpa using h9
  have HA := hide (And.intro (K.on hb0) (And.intro (P.on hb0) (M.on hb0)))
  have HNM := hide (nm_on h0 hnm hb0)
  have HB0 := hide hb0
  clear K P M hnm hb0
  go_enter Tryz.func8, Tryz.ntmps8
  go_wp2_with fail
  generalize (W0.alloc (Obj.cells #[.slice ae es.length ce, .slice af fs.length cf] 28)).alloc (Obj.cells #[.slice pa ps.length pc] 31) = W at *
  have hWs : W0.heap.size + 1 < W.heap.size := (Array.getElem?_eq_some_iff.1 x1).1
  have hW0 : 0 < W.heap.size := by omega
  have HST := hide (stgP_ok ps)
  have hpt := parse_txt es fs (asc_txt es fs)
  have htl := txt_le es fs
  have HFEW := hide (parse_len (txtB es fs) (by show (theTxt es fs).toArray.size ≤ 200; simp; omega) hpt.1)
  clear hpt htl
  have hn := nP_bd (ps := ps)
  have HBX : Hid (∀ z : World, Below W.heap.size W z → z.cell? ⟨W0.heap.size, 0, none⟩ = some (.slice ae es.length ce) ∧ z.cell? ⟨W0.heap.size, 1, none⟩ = some (.slice af fs.length cf) ∧ z.cell? ⟨W0.heap.size + 1, 0, none⟩ = some (.slice pa ps.length pc)) := fun z hz => by
    have y0 := (hz.block W0.heap.size (by omega)).trans x0
    have y1 := (hz.block (W0.heap.size + 1) (by omega)).trans x1
    exact ⟨by simp [World.cell?, y0], by simp [World.cell?, y0], by simp [World.cell?, y1]⟩
  clear x0 x1
  refine (begun_any ce cf (own := fun _ => 0) (fun k h => absurd rfl h) 10 (by decide) hW0 HNM.out HA.out.1 HA.out.2.1).mono ?_
  rintro e w1 ⟨a, c, sv, vs, own1, rfl, B1⟩
  have kw1 := (KW.new W).kept B1.kept (by decide)
  obtain ⟨oa, oc, hsv⟩ := row_any B1.stg.row
  rw [stgP_len] at hsv
  subst hsv
  obtain ⟨c0, c1, d0⟩ := HBX.out w1 kw1.low
  have HB2 := hide (begun_any ce cf kw1.lt 11 (by decide) (by have := kw1.low.size; omega) (nm_on hW0 HNM.out kw1.low) (HA.out.1.on kw1.low) (HA.out.2.1.on kw1.low))
  have HK1 := hide (And.intro kw1 (And.intro B1.pk B1.cal))
  clear kw1 B1
  go_wp2_with fail
  refine HB2.out.mono ?_
  rintro e w2 ⟨b, c2, sv2, vs2, own2, rfl, B2⟩
  have kw2 := HK1.out.1.kept B2.kept (by decide)
  obtain ⟨oa2, oc2, hsv2⟩ := row_any B2.stg.row
  subst hsv2
  have HB3 := hide (begun_any ce cf kw2.lt 12 (by decide) (by have := kw2.low.size; omega) (nm_on hW0 HNM.out kw2.low) (HA.out.1.on kw2.low) (HA.out.2.1.on kw2.low))
  have HK2 := hide (And.intro kw2 (And.intro (HK1.out.2.1.kept B2.kept (by decide) (by decide)) (And.intro B2.pk (HK1.out.2.2.keptR B2.kept (by decide)))))
  clear B2 HK1 HB2 c0 c1 d0
  obtain ⟨c0, c1, d0⟩ := HBX.out w2 kw2.low
  clear kw2
  go_wp2_with fail
  refine HB3.out.mono ?_
  rintro e w3 ⟨o, c3, sv3, vs3, own3, rfl, B3⟩
  have HQ : Hid (QI W w3 own3 a b o c es fs ps ⟨0, 0, 0, []⟩ ⟨0, 0, 0, []⟩ 0) := ⟨HK2.out.1.kept B3.kept (by decide), HK2.out.2.1.kept B3.kept (by decide) (by decide), HK2.out.2.2.1.kept B3.kept (by decide) (by decide), B3.pk, HK2.out.2.2.2.keptR B3.kept (by decide)⟩
  obtain ⟨oa3, oc3, hsv3⟩ := row_any B3.stg.row
  subst hsv3
  clear B3 HK2 HB3 c0 c1 d0
  go_wp2_with fail
  go_loopw [18] (fun iv wr => ∃ (i : Nat) (own : Nat → Nat) (d d2 : Dk), iv = .int .i64 i ∧ i ≤ ms.length ∧ i ≤ 60 ∧ QI W wr own a b o c es fs ps d d2 (160 * i)) (fun iv _ => 60 - (intOf iv).toNat)
  case atStart => exact ⟨0, own3, _, _, rfl, Nat.zero_le _, by omega, HQ.out⟩
  case round =>
    clear HQ
    obtain ⟨i, own, d, d2, rfl, hi, hi60, Q⟩ := hrel
    by_cases hlt : i < ms.length ∧ i < 60
    · obtain ⟨hlt, h60⟩ := hlt
      have hlt' : (i : Int) < ms.length := by omega
      have h60' : (i : Int) < 60 := by omega
      obtain ⟨mb, mo, mc2, hmf⟩ := HA.out.2.2.row.some (by omega) (by omega)
      simp only [Value.slice.injEq] at hmf
      obtain ⟨rfl, _, rfl⟩ := hmf
      have HM := hide (fun (z : World) (hb : Below W.heap.size W z) => (HA.out.2.2.on hb).at i hlt)
      obtain ⟨m0, m1, m2⟩ := HM.out wr Q.kw.low
      have hr := HA.out.2.2.rng _ (List.getElem_mem hlt)
      generalize ms[i] = mi at *
      have HAC := hide (acts_any Q.pa.psi (by decide) (Q.pa.pre (by omega) Q.kw.lt HST.out.1 HST.out.2) mi.1 mi.2.1 mi.2.2 (nP ps) hr.1 hr.2.1 hr.2.2 (by omega) (by omega))
      have HOK := hide (acts_ok Q.pa.ok Q.pa.rs HST.out.1 mi.1 mi.2.1 mi.2.2 (nP ps))
      have HQ := hide Q
      have HQP := hide Q.pa
      clear Q
      go_wp2_with fail
      refine HAC.out.mono ?_
      rintro e u1 ⟨ov1, own1', rfl, A1⟩
      have kw1 := HQ.out.kw.kept A1.kept (by decide)
      have PB1 := HQ.out.pb.kept A1.kept (by decide) (by decide)
      have HQ1 := hide (And.intro kw1 (And.intro A1 (And.intro (HQ.out.po.kept A1.kept (by decide) (by decide)) (HQ.out.cal.keptR A1.kept (by decide)))))
      obtain ⟨n0, n1, n2⟩ := HM.out u1 kw1.low
      have HAC2 := hide (acts_any PB1.psi (by decide) (PB1.pre (by omega) kw1.lt HST.out.1 HST.out.2) mi.1 mi.2.1 mi.2.2 (nP ps) hr.1 hr.2.1 hr.2.2 (by omega) (by omega))
      obtain ⟨va1, vn1, vc1, hv1⟩ := ownsRow_form A1.row
      subst hv1
      clear A1 PB1 kw1 HAC HQ m0 m1 m2
      go_wp2_with fail
      refine HAC2.out.mono ?_
      rintro e u2 ⟨ov2, own2', rfl, A2⟩
      have rowe := (show MRow own1' 8 u1 63 6 _ _ _ from ⟨row_mono HQ1.out.2.1.row (Nat.zero_le _), HQ1.out.2.1.tag⟩).kept A2.kept (by decide)
      have hel := acts_len HQP.out.ok HQP.out.rs HST.out.1 mi.1 mi.2.1 mi.2.2 (nP ps)
      have HSE := hide (sameEvents_any rowe.1 A2.row (by omega))
      have HQ2 : Hid (QI W u2 own2' a b o c es fs ps (actsC (FP es fs) (stgP ps) d mi.1 mi.2.1 mi.2.2 (nP ps)).1 d2 (160 * i + 80)) := ⟨HQ1.out.1.kept A2.kept (by decide), ⟨prgI.kept HQ1.out.2.1.psi A2.kept (by decide) (by decide), HOK.out.1, HOK.out.2⟩, ⟨A2.psi, HOK.out.1, HOK.out.2⟩, (HQ1.out.2.2.1.kept A2.kept (by decide) (by decide)).mono (by omega), HQ1.out.2.2.2.keptR A2.kept (by decide)⟩
      have R2 := R8.of_row A2.row A2.tag
      have HR2 := hide R2
      obtain ⟨va2, vc2, hv2⟩ := row_any A2.row
      subst hv2
      clear A2 rowe HQ1 HAC2 n0 n1 n2 R2
      generalize hdd : (actsC (FP es fs) (stgP ps) d mi.1 mi.2.1 mi.2.2 (nP ps)).1 = dd at *
      generalize (actsC (FP es fs) (stgP ps) d mi.1 mi.2.1 mi.2.2 (nP ps)).2.length = ne at *
      clear hdd HOK HQP
      go_wp2_with fail
      refine HSE.out.mono ?_
      rintro e u3 ⟨rfl, b3⟩
      have k3 : KeptS own2' own2' (fun _ => False) u2 u3 := .of_below b3 HQ2.out.kw.lt
      have HQ3 := hide (HQ2.out.kept k3 id id id id)
      have HR3 := hide (HR2.out.kept k3 id)
      clear b3 k3 HQ2 HR2 HSE
      go_wp2_with fail
      go_loopw [22] (fun kv wz => ∃ k : Nat, kv = .int .i64 k ∧ k ≤ ne ∧ QI W wz own2' a b o c es fs ps dd d2 (160 * i + 80) ∧ R8 wz own2' 63 6 (.slice va2 ne vc2) ne) (fun kv _ => ne - (intOf kv).toNat)
      case atStart => exact ⟨0, rfl, Nat.zero_le _, HQ3.out, HR3.out⟩
      case round =>
        clear HQ3 HR3
        obtain ⟨k, rfl, hk, Q, R⟩ := hrel
        by_cases hkl : k < ne
        · have hkl' : (k : Int) < ne := by omega
          obtain ⟨g, gc, hg⟩ := R.some (by omega)
          simp only [Value.slice.injEq] at hg
          obtain ⟨rfl, _, rfl⟩ := hg
          obtain ⟨⟨uu, hc⟩, hf⟩ := R.at (k * 6 + 2) (by omega)
          obtain ⟨R', k8⟩ := R.set (j := k * 6 + 2) (u := .int .i64 0) (by omega) Q.kw.lt
          have HQ4 := hide (And.intro (Q.kept k8 (by decide) (by decide) (by decide) (by decide)) R')
          clear Q R R' k8
          go_wp2_with fail
          go_roundw
          case rel => exact ⟨k + 1, by go_num, by omega, HQ4.out⟩
          case measure => simp [intOf]; omega
        · have hkl' : ¬ (k : Int) < ne := by omega
          have HAG := hide (prgI.agenda Q.pb.psi (by decide) (Q.pb.pre (by omega) Q.kw.lt HST.out.1 HST.out.2))
          have HQ4 := hide Q
          clear Q R
          go_wp2_with fail
          refine HAG.out.mono ?_
          rintro e v1 ⟨gv, rfl, grow, own4, psi4, k4, tg4⟩
          have HR5 := hide (R8.of_row grow tg4)
          have HQ5 := hide (HQ4.out.onB psi4 k4)
          obtain ⟨ga, gcap, hgv⟩ := row_any grow
          subst hgv
          clear grow psi4 k4 tg4 HQ4 HAG
          have hal : (agendaL dd.cases []).length ≤ 20 := Nat.le_trans (agenda_len dd.cases []) (by have := HQ5.out.pb.ok.len; simpa using this)
          generalize (agendaL dd.cases []).length = na at *
          go_wp2_with fail
          go_loopw [24] (fun kv wz => ∃ k : Nat, kv = .int .i64 k ∧ k ≤ na ∧ QI W wz own4 a b o c es fs ps dd d2 (160 * i + 80) ∧ R8 wz own4 67 2 (.slice ga na gcap) na) (fun kv _ => na - (intOf kv).toNat)
          case atStart => exact ⟨0, rfl, Nat.zero_le _, HQ5.out, HR5.out⟩
          case round =>
            clear HQ5 HR5
            obtain ⟨k2, rfl, hk2, Q, R⟩ := hrel
            by_cases hkl2 : k2 < na
            · have hkl2' : (k2 : Int) < na := by omega
              obtain ⟨g, gc, hg⟩ := R.some (by omega)
              simp only [Value.slice.injEq] at hg
              obtain ⟨rfl, _, rfl⟩ := hg
              obtain ⟨⟨uu, hc⟩, hf⟩ := R.at (k2 * 2 + 1) (by omega)
              obtain ⟨R', k8⟩ := R.set (j := k2 * 2 + 1) (u := .int .i64 0) (by omega) Q.kw.lt
              have HQ6 := hide (And.intro (Q.kept k8 (by decide) (by decide) (by decide) (by decide)) R')
              clear Q R R' k8
              go_wp2_with fail
              go_roundw
              case rel => exact ⟨k2 + 1, by go_num, by omega, HQ6.out⟩
              case measure => simp [intOf]; omega
            · have hkl2' : ¬ (k2 : Int) < na := by omega
              have HNZ := hide (nz_any Q.pb.psi.inv Q.pb.ok (by omega))
              have hno : openC (FP es fs) (stgP ps) dd (nP ps) = (dd, 0, 1) := by rw [← stgP_len (ps := ps)]; exact HNZ.out.open_
              have HQA := hide Q
              have HC1 := hide (prgI.open_ Q.pb.psi (by decide) (Q.pb.pre (by omega) Q.kw.lt HST.out.1 HST.out.2) (nP ps))
              rw [hno] at HC1
              clear Q R hno
              go_wp2_with fail
              refine HC1.out.mono ?_
              rintro e v2 ⟨rfl, own5, psi, kk⟩
              have HQB := hide (HQA.out.onB psi kk)
              clear psi kk HQA HC1
              have HC := hide (prgI.move HQB.out.pb.psi (by decide) (HQB.out.pb.pre (by omega) HQB.out.kw.lt HST.out.1 HST.out.2) 0 0)
              rw [HNZ.out.move] at HC
              go_wp2_with fail
              refine HC.out.mono ?_
              rintro e v3 ⟨rfl, own6, psi, kk⟩
              have HQC := hide (HQB.out.onB psi kk)
              clear psi kk HQB HC
              have HC := hide (prgI.close HQC.out.pb.psi (by decide) (HQC.out.pb.pre (by omega) HQC.out.kw.lt HST.out.1 HST.out.2) (-1))
              rw [HNZ.out.close] at HC
              go_wp2_with fail
              refine HC.out.mono ?_
              rintro e v4 ⟨rfl, own7, psi, kk⟩
              have HQD := hide (HQC.out.onB psi kk)
              clear psi kk HQC HC
              have HC := hide (prgI.hold HQD.out.pb.psi (by decide) (HQD.out.pb.pre (by omega) HQD.out.kw.lt HST.out.1 HST.out.2) 1000000)
              rw [HNZ.out.hold] at HC
              go_wp2_with fail
              refine HC.out.mono ?_
              rintro e v5 ⟨rfl, own8, psi, kk⟩
              have HQE := hide (HQD.out.onB psi kk)
              clear psi kk HQD HC
              have HC := hide (prgI.resume HQE.out.pb.psi (by decide) (HQE.out.pb.pre (by omega) HQE.out.kw.lt HST.out.1 HST.out.2) 0)
              rw [HNZ.out.resume] at HC
              go_wp2_with fail
              refine HC.out.mono ?_
              rintro e v6 ⟨rfl, own9, psi, kk⟩
              have HQF := hide (HQE.out.onB psi kk)
              clear psi kk HQE HC
              have HPN := hide (fun u => pick_any noise 12 u hN.1 hN.2 (by omega) (by omega))
              go_wp2_with fail
              refine (HPN.out _).mono ?_
              rintro e w' ⟨rfl, rfl⟩
              obtain ⟨y0, y1, y2, y3, y4, hcv⟩ := caseV_form2 dd (pk noise 12)
              have HC := hide (prgI.case_ HQF.out.pb.psi (by decide) (HQF.out.pb.pre (by omega) HQF.out.kw.lt HST.out.1 HST.out.2) (pk noise 12))
              rw [hcv] at HC
              clear hcv
              go_wp2_with fail
              refine HC.out.mono ?_
              rintro e v7 ⟨rfl, own10, psi, kk⟩
              have HQG := hide (HQF.out.onB psi kk)
              clear psi kk HQF HC HPN
              have HC := hide (prgI.tick HQG.out.pb.psi (by decide) (HQG.out.pb.pre (by omega) HQG.out.kw.lt HST.out.1 HST.out.2) (-1))
              rw [HNZ.out.tickm] at HC
              go_wp2_with fail
              refine HC.out.mono ?_
              rintro e v8 ⟨ov9, rfl, _, hnl, own11, psi, kk, _⟩
              rw [hnl (by decide)]
              clear hnl
              have HQH := hide (HQG.out.onB psi kk)
              clear psi kk HQG HC
              have HC := hide (prgI.tick HQH.out.pb.psi (by decide) (HQH.out.pb.pre (by omega) HQH.out.kw.lt HST.out.1 HST.out.2) 100801)
              rw [HNZ.out.tickp] at HC
              go_wp2_with fail
              refine HC.out.mono ?_
              rintro e v9 ⟨ov9, rfl, _, hnl, own12, psi, kk, _⟩
              rw [hnl (by decide)]
              clear hnl
              have HQI := hide (HQH.out.onB psi kk)
              clear psi kk HQH HC
              have HPN := hide (fun u => pick_any noise 1000 u hN.1 hN.2 (by omega) (by omega))
              have p0 := pk_lo noise 1000 (by omega)
              have p1 := pk_hi noise 1000 (by omega)
              go_wp2_with fail
              refine (HPN.out _).mono ?_
              rintro e w' ⟨rfl, rfl⟩
              have HC := hide (add_any c _ _ (FP es fs) (pk noise 1000) 5 _ HQI.out.cal.unroP HFEW.out (ff_eq _ _) p0 (by omega) (by omega) (by omega))
              go_wp2_with fail
              refine HC.out.mono ?_
              rintro e v10 ⟨hap, hbv⟩
              have kv : KeptS own12 own12 (fun _ => False) _ v10 := .of_below hbv HQI.out.kw.lt
              have HQJ := hide (HQI.out.kept kv id id id id)
              have hee : ∃ x y : Int, e = .returned (.tuple #[.int .i64 x, .int .i64 y]) := by
                rcases hap with ⟨x, _, h⟩ | ⟨_, h⟩
                · exact ⟨_, _, h⟩
                · exact ⟨_, _, h⟩
              obtain ⟨ex, ey, rfl⟩ := hee
              obtain ⟨m0, m1, m2⟩ := HM.out v10 HQJ.out.kw.low
              have kd : KeptS own12 own12 (fun _ => False) v10 v10.drew := .of_below (Below.refl _ _).drew HQJ.out.kw.lt
              have HQK := hide (HQJ.out.kept kd id id id id)
              have HAC := hide (acts_any HQK.out.po.psi (by decide) (HQK.out.po.pre (by omega) HQK.out.kw.lt HST.out.1 HST.out.2) mi.1 noise mi.2.2 (nP ps) hr.1 hN hr.2.2 (by omega) (by omega))
              have HOK := hide (acts_ok HQK.out.po.ok HQK.out.po.rs HST.out.1 mi.1 noise mi.2.2 (nP ps))
              clear hap hbv kv kd HC HPN HQI p0 p1 HQJ
              generalize hm1 : mi.1 = k1 at *
              generalize hm3 : mi.2.2 = k3 at *
              clear hm1 hm3
              go_wp2_with fail
              go_region_held3 (fun z => z.cell? ⟨mb, mo + i * 3, none⟩ = some (.int .i64 k1) ∧ z.cell? ⟨mb, mo + i * 3 + 2, none⟩ = some (.int .i64 k3)) ((go_keep; done)) (first | (go_at_call 12; refine HAC.out.mono ?_; rintro e w' ⟨ov9, ownZ, rfl, A⟩; obtain ⟨l0, l1, l2⟩ := HM.out w' (HQK.out.kw.kept A.kept (by decide)).low; obtain ⟨za, zn, zc, hz⟩ := ownsRow_form A.row; subst hz))
              have HQZ : Hid (QI W w' ownZ a b o c es fs ps dd (actsC (FP es fs) (stgP ps) d2 k1 noise k3 (nP ps)).1 (160 * i + 80 + 80)) := ⟨HQK.out.kw.kept A.kept (by decide), (HQK.out.pa.kept A.kept (by decide) (by decide)).mono (by omega), (HQK.out.pb.kept A.kept (by decide) (by decide)).mono (by omega), ⟨A.psi, HOK.out.1, HOK.out.2⟩, HQK.out.cal.keptR A.kept (by decide)⟩
              clear A HQK HAC HOK l0 l1 l2 m0 m1 m2
              go_wp2_with fail
              go_roundw
              case rel => exact ⟨i + 1, ownZ, dd, _, by go_num, by omega, by omega, by rw [show (160 * ((i + 1 : Nat) : Int)) = 160 * i + 80 + 80 by omega]; exact HQZ.out⟩
              case measure => simp [intOf]; omega
    · have hx : ((i : Int) < ms.length ∧ 60 ≤ (i : Int)) ∨ (ms.length : Int) ≤ i := by omega
      have HAG := hide (prgI.agenda Q.pa.psi (by decide) (Q.pa.pre (by omega) Q.kw.lt HST.out.1 HST.out.2))
      have HQ := hide Q
      have hal : (agendaL d.cases []).length ≤ 20 := Nat.le_trans (agenda_len d.cases []) (by have := Q.pb.ok.len; simpa using this)
      clear hlt Q
      obtain ⟨L, hL⟩ : ∃ L, L = agendaL d.cases [] := ⟨_, rfl⟩
      rw [← hL] at HAG hal
      have HL := hide hL
      clear hL
      rcases hx with ⟨g1, g2⟩ | g1
      all_goals
        go_wp2_with fail
        refine HAG.out.mono ?_
        rintro e v1 ⟨gv, rfl, grow, own4, psi4, k4, tg4⟩
        have Q4 := HQ.out.onA psi4 k4
        have HAG2 := hide (prgI.agenda Q4.pb.psi (by decide) (Q4.pb.pre (by omega) Q4.kw.lt HST.out.1 HST.out.2))
        rw [← HL.out] at HAG2
        have HQ4 := hide (And.intro Q4 (show MRow own4 8 v1 67 2 gv L.length (flat L) from ⟨row_mono grow (Nat.zero_le _), tg4⟩))
        obtain ⟨ga, gcap, hgv⟩ := row_any grow
        subst hgv
        clear grow psi4 k4 tg4 HQ HAG Q4
        go_wp2_with fail
        refine HAG2.out.mono ?_
        rintro e v2 ⟨hv, rfl, hrow, own5, psi5, k5, tg5⟩
        have HQ5 := hide (And.intro (HQ4.out.1.onB psi5 k5) (And.intro (HQ4.out.2.kept k5 (by decide)) (show MRow own5 8 v2 67 2 hv L.length (flat L) from ⟨row_mono hrow (Nat.zero_le _), tg5⟩)))
        obtain ⟨ha, hcap, hhv⟩ := row_any hrow
        subst hhv
        clear hrow psi5 k5 tg5 HQ4 HAG2
        go_wp2_with fail
        go_loopw [27] (fun kv wz => ∃ (k : Nat) (ownL : Nat → Nat), kv = .int .i64 k ∧ k ≤ L.length ∧ QI W wz ownL a b o c es fs ps d d2 (160 * i) ∧ MRow ownL 8 wz 67 2 (.slice ga L.length gcap) L.length (flat L) ∧ MRow ownL 8 wz 67 2 (.slice ha L.length hcap) L.length (flat L)) (fun kv _ => L.length - (intOf kv).toNat)
        case atStart => exact ⟨0, own5, rfl, Nat.zero_le _, HQ5.out⟩
        case round =>
          clear HQ5
          obtain ⟨k, ownL, rfl, hk, Q, R1, R2⟩ := hrel
          by_cases hkl : k < L.length
          · have hkl' : (k : Int) < L.length := by omega
            obtain ⟨gq, gc, h1⟩ := row_some R1.1 (by omega)
            obtain ⟨hq, hc, h2⟩ := row_some R2.1 (by omega)
            simp only [Value.slice.injEq] at h1 h2
            obtain ⟨rfl, _, rfl⟩ := h1
            obtain ⟨rfl, _, rfl⟩ := h2
            have HCL : Hid (∀ (own' : Nat → Nat) (z : World), MRow own' 8 z 67 2 (.slice (some ⟨gq, 0, none⟩) L.length gcap) L.length (flat L) → z.cell? ⟨gq, k * 2, none⟩ = some (.int .i64 L[k].1) ∧ z.cell? ⟨gq, k * 2 + 1, none⟩ = some (.int .i64 L[k].2)) := fun own' z R => ⟨(R.1.cellAt (k * 2) (by omega)).trans (flat_at L k hkl).1, (R.1.cellAt (k * 2 + 1) (by omega)).trans (flat_at L k hkl).2⟩
            have HCH : Hid (∀ (own' : Nat → Nat) (z : World), MRow own' 8 z 67 2 (.slice (some ⟨hq, 0, none⟩) L.length hcap) L.length (flat L) → z.cell? ⟨hq, k * 2, none⟩ = some (.int .i64 L[k].1) ∧ z.cell? ⟨hq, k * 2 + 1, none⟩ = some (.int .i64 L[k].2)) := fun own' z R => ⟨(R.1.cellAt (k * 2) (by omega)).trans (flat_at L k hkl).1, (R.1.cellAt (k * 2 + 1) (by omega)).trans (flat_at L k hkl).2⟩
            obtain ⟨e0, e1⟩ := HCL.out _ _ R1
            generalize L[k].1 = li at *
            generalize L[k].2 = ld at *
            obtain ⟨y0, y1, y2, y3, y4, hcv⟩ := caseV_form2 d li
            have HC := hide (prgI.case_ Q.pa.psi (by decide) (Q.pa.pre (by omega) Q.kw.lt HST.out.1 HST.out.2) li)
            rw [hcv] at HC
            have HCV := hide hcv
            have HQ := hide (And.intro Q (And.intro R1 R2))
            clear Q R1 R2 hcv
            go_wp2_with fail
            refine HC.out.mono ?_
            rintro e u1 ⟨rfl, own1', psi1, k1⟩
            have Q1 := HQ.out.1.onA psi1 k1
            have R11 := HQ.out.2.1.kept k1 (by decide)
            have R12 := HQ.out.2.2.kept k1 (by decide)
            have kb : KeptS own1' own1' (fun _ => False) u1 (u1.alloc (Obj.cells #[.int .i64 y0, .int .i64 y1, .int .i64 y2, .bool y3] 69)) := .of_below ((Below.refl _ _).alloc (Nat.le_refl _) _) Q1.kw.lt
            have Q2 := Q1.kept kb id id id id
            have R21 := R11.kept kb id
            have R22 := R12.kept kb id
            have hbox : (u1.alloc (Obj.cells #[.int .i64 y0, .int .i64 y1, .int .i64 y2, .bool y3] 69)).heap[u1.heap.size]? = some (.cells #[.int .i64 y0, .int .i64 y1, .int .i64 y2, .bool y3] 69 (0, 0)) := heap_alloc_new _ _
            have hbo : own1' u1.heap.size = 0 := Classical.byContradiction fun h => by have := Q1.kw.lt _ h; omega
            obtain ⟨f0, f1⟩ := HCL.out _ _ R21
            have HC2 := hide (prgI.case_ Q2.pb.psi (by decide) (Q2.pb.pre (by omega) Q2.kw.lt HST.out.1 HST.out.2) li)
            rw [HCV.out] at HC2
            have HQ2 := hide (And.intro Q2 (And.intro R21 (And.intro R22 (And.intro hbox hbo))))
            clear Q1 R11 R12 kb Q2 R21 R22 hbox hbo psi1 k1 HC HQ e0 e1
            go_wp2_with fail
            refine HC2.out.mono ?_
            rintro e u2 ⟨rfl, own2', psi2, k2⟩
            have Q3 := HQ2.out.1.onB psi2 k2
            have R31 := HQ2.out.2.1.kept k2 (by decide)
            have R32 := HQ2.out.2.2.1.kept k2 (by decide)
            obtain ⟨hbx, _⟩ := k2.at HQ2.out.2.2.2.1 (by rw [HQ2.out.2.2.2.2]; decide)
            have hbl : u1.heap.size < u2.heap.size := (Array.getElem?_eq_some_iff.1 hbx).1
            have hbU : Below u2.heap.size u2 (u2.alloc (Obj.cells #[.int .i64 y0, .int .i64 y1, .int .i64 y2, .bool y3] 69)) := (Below.refl _ _).alloc (Nat.le_refl _) _
            have kb : KeptS own2' own2' (fun _ => False) u2 (u2.alloc (Obj.cells #[.int .i64 y0, .int .i64 y1, .int .i64 y2, .bool y3] 69)) := .of_below hbU Q3.kw.lt
            have Q4 := Q3.kept kb id id id id
            have R41 := R31.kept kb id
            have R42 := R32.kept kb id
            have hb1 := (hbU.block _ hbl).trans hbx
            have hb2 : (u2.alloc (Obj.cells #[.int .i64 y0, .int .i64 y1, .int .i64 y2, .bool y3] 69)).heap[u2.heap.size]? = some (.cells #[.int .i64 y0, .int .i64 y1, .int .i64 y2, .bool y3] 69 (0, 0)) := heap_alloc_new _ _
            obtain ⟨g0, g1'⟩ := HCL.out _ _ R41
            obtain ⟨q0, q1⟩ := HCH.out _ _ R42
            have HQ4 := hide (And.intro Q4 (And.intro R41 R42))
            clear Q3 R31 R32 kb Q4 R41 R42 psi2 k2 HC2 HQ2 f0 f1 hbx hbU
            go_wp2_with fail
            generalize u2.alloc (Obj.cells #[.int .i64 y0, .int .i64 y1, .int .i64 y2, .bool y3] 69) = U at *
            have s0 : U.cell? ⟨u1.heap.size, 0, none⟩ = some (.int .i64 y0) := by simp [World.cell?, hb1]
            have s1 : U.cell? ⟨u1.heap.size, 1, none⟩ = some (.int .i64 y1) := by simp [World.cell?, hb1]
            have s2 : U.cell? ⟨u1.heap.size, 2, none⟩ = some (.int .i64 y2) := by simp [World.cell?, hb1]
            have s3 : U.cell? ⟨u1.heap.size, 3, none⟩ = some (.bool y3) := by simp [World.cell?, hb1]
            have r0 : U.cell? ⟨u2.heap.size, 0, none⟩ = some (.int .i64 y0) := by simp [World.cell?, hb2]
            have r1 : U.cell? ⟨u2.heap.size, 1, none⟩ = some (.int .i64 y1) := by simp [World.cell?, hb2]
            have r2 : U.cell? ⟨u2.heap.size, 2, none⟩ = some (.int .i64 y2) := by simp [World.cell?, hb2]
            have r3 : U.cell? ⟨u2.heap.size, 3, none⟩ = some (.bool y3) := by simp [World.cell?, hb2]
            clear hb1 hb2
            go_quiet (fail)
            have kq : KeptS own2' own2' (fun _ => False) U (U.drewN nq) := .of_below (below_drewN (Below.refl _ _) nq) HQ4.out.1.kw.lt
            have HQ5 := hide (And.intro (HQ4.out.1.kept kq id id id id) (And.intro (HQ4.out.2.1.kept kq id) (HQ4.out.2.2.kept kq id)))
            clear kq HQ4 s0 s1 s2 s3 r0 r1 r2 r3 g0 g1' q0 q1
            go_wp2_with fail
            go_roundw
            case rel => exact ⟨k + 1, own2', by go_num, by omega, HQ5.out⟩
            case measure => simp [intOf]; omega
          · have hkl' : ¬ (k : Int) < L.length := by omega
            have HF := hide Q.kw.low
            clear Q R1 R2
            go_wp2_with fail
            go_ret
            exact ⟨rfl, HB0.out.trans (HF.out.mono HB0.out.size)⟩
end Go.Proofs.YtcnmbldikjljeaaGreatDoor
