import Derived.Test.YtcnmbldikjljeaaGreatDoorT24
import Derived.Test.YtcnmbldikjljeaaGreatDoorT03
import Derived.Test.YtcnmbldikjljeaaGreatDoorT04
import Derived.ProofKit
import Derived.LaidMore
import Derived.OpenShut
import Derived.Stop.Joined
import Derived.ChangeOld
import Derived.Deep.Slices
import Derived.Lib.SmallJoins
import Derived.Test.YtcnmbldikjljeaaGreatDoorT23
namespace Go.Proofs.YtcnmbldikjljeaaGreatDoor
open Go.RowKit

abbrev wkP (es : List Ent) (fs : List Int) : Nat → List (Int × Int) := (parseL (txtB es fs)).2.week
abbrev frP (es : List Ent) (fs : List Int) : Nat → Bool := (parseL (txtB es fs)).2.free
abbrev FP (es : List Ent) (fs : List Int) : Nat → Bool := FF (wkP es fs) (frP es fs)
theorem stgP_rm (ps : List (List (Int × Int))) : Rm (stgP ps) := by
  have hn := nP_bd (ps := ps)
  refine ⟨by rw [stgP_len]; omega, fun i hi => ?_, fun i hi => ?_⟩
  · rw [stgP_len] at hi
    rw [stgP_at i hi]
    have := lvsP_len (plAt ps i) 4
    show (lvsP (plAt ps i) 4).length * 16 ≤ _
    omega
  · rw [stgP_len] at hi
    rw [stgP_at i hi]
    show (nxP (nP ps)).length * 8 ≤ _
    rw [nxP_len]
    omega
theorem SG.sw {w w' : World} {ps : List (List (Int × Int))} {out : Value} {vs : Nat → Value × Value} (h : SG w w' ps out (nP ps) vs) : SW w' out (stgP ps) vs := by
  refine ⟨?_, fun i hi => ?_, fun i hi => ?_⟩
  · rw [stgP_len]; exact row_mono h.row (Nat.zero_le _)
  · rw [stgP_len] at hi; rw [stgP_at i hi]; exact row_mono (h.lev i hi) (Nat.zero_le _)
  · rw [stgP_len] at hi; rw [stgP_at i hi]; exact row_mono (h.nxt i hi) (Nat.zero_le _)
theorem SG.ro {own : Nat → Nat} {w w' : World} {ps : List (List (Int × Int))} {out : Value} {vs : Nat → Value × Value} (h : SG w w' ps out (nP ps) vs) (ho : ∀ k, w.heap.size ≤ k → own k = 0) : SW (roW own w') out (stgP ps) vs := by
  have S := h.sw
  refine ⟨row_ro S.row (fun k hk => ho k (h.row.lt k hk).1), fun i hi => row_ro (S.lev i hi) (fun k hk => ?_), fun i hi => row_ro (S.nxt i hi) (fun k hk => ?_)⟩
  · rw [stgP_len] at hi; exact ho k ((h.lev i hi).lt k hk).1
  · rw [stgP_len] at hi; exact ho k ((h.nxt i hi).lt k hk).1
/-- what begun has made -/
structure BG (own own' : Nat → Nat) (w w' : World) (t p c : Nat) (es : List Ent) (fs : List Int) (ps : List (List (Int × Int))) (sv : Value) (vs : Nat → Value × Value) : Prop where
  psi : PSi own' w' t p (FP es fs) (stgP ps) ⟨0, 0, 0, []⟩
  kept : Kept own own' t w w'
  cal : CalW (roW own' w') c (wkP es fs) (frP es fs)
  stg : SW (roW own' w') sv (stgP ps) vs
set_option maxRecDepth 100000 in
set_option maxHeartbeats 4000000 in
theorem begun_any {own : Nat → Nat} {w : World} {es : List Ent} {fs : List Int} {ae af : Option Addr} {pv : Value} {ps : List (List (Int × Int))} {lv : Nat → Value} (ce cf : Nat) (hl : ∀ k, own k ≠ 0 → k < w.heap.size) (t : Nat) (ht : t ≠ 0) (h0 : 0 < w.heap.size) (hnm : ∀ j, j < 7 → w.cell? ⟨0, j, none⟩ = some (nmV j)) (K : WK w es fs ae af) (P : PL w pv ps lv) :
    Calls Tryz.prog 11 #[.agg #[.slice ae es.length ce, .slice af fs.length cf], .agg #[pv]] w fun e w' => ∃ p c sv vs own', e = .returned (.tuple #[P0 p, P0 c, sv]) ∧ BG own own' w w' t p c es fs ps sv vs := by
  have hpt := parse_txt es fs (asc_txt es fs)
  have htl := txt_le es fs
  have HNM := hide hnm
  obtain ⟨pa, pc, hpv⟩ := P.row.any
  subst hpv
  have hb0 : Below w.heap.size w ((w.alloc (Obj.cells #[.slice ae es.length ce, .slice af fs.length cf] 28)).alloc (Obj.cells #[.slice pa ps.length pc] 31)) := ((Below.refl _ _).alloc (Nat.le_refl _) _).alloc (by simp) _
  have x0 : ((w.alloc (Obj.cells #[.slice ae es.length ce, .slice af fs.length cf] 28)).alloc (Obj.cells #[.slice pa ps.length pc] 31)).heap[w.heap.size]? = some (.cells #[.slice ae es.length ce, .slice af fs.length cf] 28 (0, 0)) := (Below.heap_alloc _ _ _ (by simp)).trans (heap_alloc_new _ _)
  have x1 : ((w.alloc (Obj.cells #[.slice ae es.length ce, .slice af fs.length cf] 28)).alloc (Obj.cells #[.slice pa ps.length pc] 31)).heap[w.heap.size + 1]? = some (.cells #[.slice pa ps.length pc] 31 (0, 0)) := by
    have h9 := heap_alloc_new (w.alloc (Obj.cells #[.slice ae es.length ce, .slice af fs.length cf] 28)) (Obj.cells #[.slice pa ps.length pc] 31)
    simpa using h9
  have HKP := hide (And.intro (K.on hb0) (P.on hb0))
  have HB0 := hide hb0
  clear hnm K P hb0
  go_enter Tryz.func11, Tryz.ntmps11
  go_wp2_with fail
  generalize (w.alloc (Obj.cells #[.slice ae es.length ce, .slice af fs.length cf] 28)).alloc (Obj.cells #[.slice pa ps.length pc] 31) = W at *
  have hWs : w.heap.size + 1 < W.heap.size := (Array.getElem?_eq_some_iff.1 x1).1
  have hW0 : 0 < W.heap.size := by omega
  have HNW := hide (nm_on h0 HNM.out HB0.out)
  refine (works_any W hW0 HNW.out).mono ?_
  rintro e w1 ⟨rfl, hb1⟩
  have y0 := (hb1.block w.heap.size (by omega)).trans x0
  have c0 : w1.cell? ⟨w.heap.size, 0, none⟩ = some (.slice ae es.length ce) := by simp [World.cell?, y0]
  have c1 : w1.cell? ⟨w.heap.size, 1, none⟩ = some (.slice af fs.length cf) := by simp [World.cell?, y0]
  have HR := hide (readF_any es fs ae af ce cf w1 (by have := hb1.size; omega) (nm_on hW0 HNW.out hb1) (HKP.out.1.on hb1) hpt.1 (by omega))
  have HB1 := hide hb1
  clear x0 y0 hb1
  go_wp2_with fail
  refine HR.out.mono ?_
  rintro e w2 ⟨g, X, rfl, hb2, hg, C⟩
  have hb12 := HB1.out.trans (hb2.mono HB1.out.size)
  have y1 := (hb12.block (w.heap.size + 1) (by omega)).trans x1
  have d0 : w2.cell? ⟨w.heap.size + 1, 0, none⟩ = some (.slice pa ps.length pc) := by simp [World.cell?, y1]
  have HS := hide (stages_any (HKP.out.2.on hb12))
  have hw2 : w.heap.size ≤ w2.heap.size := by have := hb12.size; omega
  have k2 : KeptS own own (fun x => x = t) w w2 := .of_below (HB0.out.trans (hb12.mono HB0.out.size)) hl
  have C2 := C.ro (own := own) (fun k hk => Classical.byContradiction fun h => by have h1 := hl k h; have h2 := HB1.out.size; omega)
  have HC2 := hide (And.intro k2 C2)
  clear y1 x1 hb2 hb12 C C2 k2 HR c0 c1
  go_wp2_with fail
  refine HS.out.mono ?_
  rintro e w3 ⟨out, vs, rfl, S⟩
  have k3 : KeptS own own (fun x => x = t) w2 w3 := .of_below S.below HC2.out.1.bound
  have C3 : CalW (roW own w3) g (wkP es fs) (frP es fs) := HC2.out.2.on (by rw [ro_size]; exact k3.below (Ne.symm ht))
  have S3 : SW (roW own w3) out (stgP ps) vs := S.ro (fun k hk => Classical.byContradiction fun h => by have := hl k h; omega)
  have HN := hide (prgI.newOk (F := FP es fs) S.sw C3 (parse_len (txtB es fs) (by show (theTxt es fs).toArray.size ≤ 200; simp; omega) hpt.1) (ff_eq _ _) stgP_check (stgP_rm ps) k3.bound t ht)
  have HK3 := hide (And.intro (HC2.out.1.trans k3) (And.intro C3 S3))
  obtain ⟨oa, oc, hout⟩ := row_any S.row
  subst hout
  clear S k3 C3 S3 HS d0
  go_wp2_with fail
  refine HN.out.mono ?_
  rintro e w4 ⟨p, own', rfl, hp, PS, k4⟩
  have HF : Hid (BG own own' w w4 t p g es fs ps (.slice oa (nP ps) oc) vs) := ⟨PS, HK3.out.1.trans k4, HK3.out.2.1.on (by rw [ro_size]; exact k4.below (Ne.symm ht)), HK3.out.2.2.on (by rw [ro_size]; exact k4.below (Ne.symm ht))⟩
  clear PS k4 HN HK3
  go_wp2_with fail
  go_ret3
  exact ⟨p, g, _, vs, own', rfl, HF.out⟩
end Go.Proofs.YtcnmbldikjljeaaGreatDoor
namespace Go.Proofs.YtcnmbldikjljeaaGreatDoor
open Go.RowKit

/-- a move, and the events that it tells -/
def actsC (F : Nat → Bool) (st : List Stg) (d : Dk) (k a b : Int) (n : Int) : Dk × List Ev :=
  if pk k 10 = 0 ∨ pk k 10 = 1 then ((openC F st d (pk a n)).1, [])
  else if pk k 10 = 2 then ((moveC F st d (1 + pk a 12) (pk b n)).1, [])
  else if pk k 10 = 3 then ((closeC d (1 + pk a 12)).1, [])
  else if pk k 10 = 8 then ((holdC F d (1 + pk a 12)).1, [])
  else if pk k 10 = 9 then ((resumeC F d (1 + pk a 12)).1, [])
  else ((tickC F st d (pk b 3000)).1, (tickC F st d (pk b 3000)).2.1)
theorem acts_ok {F : Nat → Bool} {st : List Stg} {d : Dk} {N : Int} (ok : DkOk F st d N) (hr : DkR st d) (hs : StOk st) (k a b n : Int) : DkOk F st (actsC F st d k a b n).1 (N + 80) ∧ DkR st (actsC F st d k a b n).1 := by
  unfold actsC
  split
  · exact ⟨(open_ok ok hs _).mono (by omega), open_rest hr _⟩
  split
  · exact ⟨(move_ok ok hs _ _).mono (by omega), move_rest hr _ _⟩
  split
  · exact ⟨(close_ok ok _).mono (by omega), close_rest hr _⟩
  split
  · exact ⟨(hold_ok ok _).mono (by omega), hold_rest ok hr _⟩
  split
  · exact ⟨(resume_ok ok hr _).1.mono (by omega), (resume_ok ok hr _).2⟩
  · exact ⟨(tick_ok ok hr hs _).1, (tick_ok ok hr hs _).2.1⟩
/-- what a move leaves -/
structure AX (own own' : Nat → Nat) (w w' : World) (t p : Nat) (F : Nat → Bool) (st : List Stg) (x : Dk × List Ev) (ov : Value) : Prop where
  row : w'.ownsRow w.heap.size 63 6 ov x.2.length (evsCells x.2)
  psi : PSi own' w' t p F st x.1
  kept : Kept own own' t w w'
  tag : ∀ k, ov.ownBlock = some k → own' k = 8
section
variable {own : Nat → Nat} {w : World} {t p : Nat} {F : Nat → Bool} {st : List Stg} {d : Dk}
theorem AX.nil {own' : Nat → Nat} {w' : World} {d' : Dk} (h : PSi own' w' t p F st d') (k : Kept own own' t w w') : AX own own' w w' t p F st (d', []) (.slice none 0 0) :=
  ⟨World.ownsRow_nil _ _ _ _, h, k, fun k hk => by simp [Value.ownBlock] at hk⟩
set_option maxRecDepth 100000 in
set_option maxHeartbeats 8000000 in
theorem acts_any (D : PSi own w t p F st d) (ht : t ≠ 0) (Q : Pre own w F st d) (k a b n : Int) (hk : inR k) (ha : inR a) (hb : inR b) (n0 : 1 ≤ n) (n1 : n ≤ 6) :
    Calls Tryz.prog 12 #[P0 p, .agg #[.int .i64 k, .int .i64 a, .int .i64 b], .int .i64 n] w fun e w' => ∃ ov own', e = .returned ov ∧ AX own own' w w' t p F st (actsC F st d k a b n) ov := by
  have hbo : Below w.heap.size w (w.alloc (Obj.cells #[.int .i64 k, .int .i64 a, .int .i64 b] 41)) := (Below.refl _ _).alloc (Nat.le_refl _) _
  have ko : Kept own own t w (w.alloc (Obj.cells #[.int .i64 k, .int .i64 a, .int .i64 b] 41)) := .of_below hbo Q.lt
  have D0 := prgI.kept D (KeptS.of_below (T := fun _ => False) hbo Q.lt) id id
  have Q0 := Q.on hbo.size
  have q0 : (w.alloc (Obj.cells #[.int .i64 k, .int .i64 a, .int .i64 b] 41)).cell? ⟨w.heap.size, 0, none⟩ = some (.int .i64 k) := by rw [World.cell?_alloc_at _ _ _ _ rfl]; rfl
  have q1 : (w.alloc (Obj.cells #[.int .i64 k, .int .i64 a, .int .i64 b] 41)).cell? ⟨w.heap.size, 1, none⟩ = some (.int .i64 a) := by rw [World.cell?_alloc_at _ _ _ _ rfl]; rfl
  have q2 : (w.alloc (Obj.cells #[.int .i64 k, .int .i64 a, .int .i64 b] 41)).cell? ⟨w.heap.size, 2, none⟩ = some (.int .i64 b) := by rw [World.cell?_alloc_at _ _ _ _ rfl]; rfl
  have HP1 := hide (fun u => pick_any a 12 u ha.1 ha.2 (by omega) (by omega))
  have HP2 := hide (fun u => pick_any k 10 u hk.1 hk.2 (by omega) (by omega))
  have HP3 := hide (fun u => pick_any a n u ha.1 ha.2 (by omega) (by omega))
  have HP4 := hide (fun u => pick_any b n u hb.1 hb.2 (by omega) (by omega))
  have HP5 := hide (fun u => pick_any b 3000 u hb.1 hb.2 (by omega) (by omega))
  have z0 := pk_lo k 10 (by omega)
  have z1 := pk_hi k 10 (by omega)
  have a0 := pk_lo a 12 (by omega)
  have a1 := pk_hi a 12 (by omega)
  have HX := hide (And.intro D0 (And.intro Q0 ko))
  have hsw : w.heap.size ≤ (w.alloc (Obj.cells #[.int .i64 k, .int .i64 a, .int .i64 b] 41)).heap.size := hbo.size
  clear D Q hbo ko D0 Q0 hk ha hb
  by_cases h01 : pk k 10 = 0 ∨ pk k 10 = 1
  · have HA := hide (show actsC F st d k a b n = ((openC F st d (pk a n)).1, []) by unfold actsC; rw [if_pos h01])
    rcases h01 with h | h
    all_goals
      rw [h] at HP2
      clear h z0 z1
      go_enter Tryz.func12, Tryz.ntmps12
      go_wp2_with fail
      refine (HP1.out _).mono ?_
      rintro e w' ⟨rfl, rfl⟩
      go_wp2_with fail
      refine (HP2.out _).mono ?_
      rintro e w' ⟨rfl, rfl⟩
      go_wp2_with fail
      refine (HP3.out _).mono ?_
      rintro e w' ⟨rfl, rfl⟩
      go_wp2_with fail
      refine (prgI.open_ HX.out.1 ht HX.out.2.1 _).mono ?_
      rintro e w2 ⟨rfl, own2, PS2, k2⟩
      have HF := hide (AX.nil PS2 (HX.out.2.2.trans k2))
      clear PS2 k2 q0 q1 q2 HX
      go_wp2_with fail
      go_ret
      rw [HA.out]
      exact ⟨_, own2, rfl, HF.out⟩
  by_cases h2 : pk k 10 = 2
  · have HA := hide (show actsC F st d k a b n = ((moveC F st d (1 + pk a 12) (pk b n)).1, []) by unfold actsC; rw [if_neg h01, if_pos h2])
    rw [h2] at HP2
    clear h2 z0 z1 h01
    go_enter Tryz.func12, Tryz.ntmps12
    go_wp2_with fail
    refine (HP1.out _).mono ?_
    rintro e w' ⟨rfl, rfl⟩
    go_wp2_with fail
    refine (HP2.out _).mono ?_
    rintro e w' ⟨rfl, rfl⟩
    go_wp2_with fail
    refine (HP4.out _).mono ?_
    rintro e w' ⟨rfl, rfl⟩
    go_wp2_with fail
    refine (prgI.move HX.out.1 ht HX.out.2.1 _ _).mono ?_
    rintro e w2 ⟨rfl, own2, PS2, k2⟩
    have HF := hide (AX.nil PS2 (HX.out.2.2.trans k2))
    clear PS2 k2 q0 q1 q2 HX
    go_wp2_with fail
    go_ret
    rw [HA.out]
    exact ⟨_, own2, rfl, HF.out⟩
  by_cases h3 : pk k 10 = 3
  · have HA := hide (show actsC F st d k a b n = ((closeC d (1 + pk a 12)).1, []) by unfold actsC; rw [if_neg h01, if_neg h2, if_pos h3])
    rw [h3] at HP2
    clear h3 z0 z1 h01 h2
    go_enter Tryz.func12, Tryz.ntmps12
    go_wp2_with fail
    refine (HP1.out _).mono ?_
    rintro e w' ⟨rfl, rfl⟩
    go_wp2_with fail
    refine (HP2.out _).mono ?_
    rintro e w' ⟨rfl, rfl⟩
    go_wp2_with fail
    refine (prgI.close HX.out.1 ht HX.out.2.1 _).mono ?_
    rintro e w2 ⟨rfl, own2, PS2, k2⟩
    have HF := hide (AX.nil PS2 (HX.out.2.2.trans k2))
    clear PS2 k2 q0 q1 q2 HX
    go_wp2_with fail
    go_ret
    rw [HA.out]
    exact ⟨_, own2, rfl, HF.out⟩
  by_cases h8 : pk k 10 = 8
  · have HA := hide (show actsC F st d k a b n = ((holdC F d (1 + pk a 12)).1, []) by unfold actsC; rw [if_neg h01, if_neg h2, if_neg h3, if_pos h8])
    rw [h8] at HP2
    clear h8 z0 z1 h01 h2 h3
    go_enter Tryz.func12, Tryz.ntmps12
    go_wp2_with fail
    refine (HP1.out _).mono ?_
    rintro e w' ⟨rfl, rfl⟩
    go_wp2_with fail
    refine (HP2.out _).mono ?_
    rintro e w' ⟨rfl, rfl⟩
    go_wp2_with fail
    refine (prgI.hold HX.out.1 ht HX.out.2.1 _).mono ?_
    rintro e w2 ⟨rfl, own2, PS2, k2⟩
    have HF := hide (AX.nil PS2 (HX.out.2.2.trans k2))
    clear PS2 k2 q0 q1 q2 HX
    go_wp2_with fail
    go_ret
    rw [HA.out]
    exact ⟨_, own2, rfl, HF.out⟩
  by_cases h9 : pk k 10 = 9
  · have HA := hide (show actsC F st d k a b n = ((resumeC F d (1 + pk a 12)).1, []) by unfold actsC; rw [if_neg h01, if_neg h2, if_neg h3, if_neg h8, if_pos h9])
    rw [h9] at HP2
    clear h9 z0 z1 h01 h2 h3 h8
    go_enter Tryz.func12, Tryz.ntmps12
    go_wp2_with fail
    refine (HP1.out _).mono ?_
    rintro e w' ⟨rfl, rfl⟩
    go_wp2_with fail
    refine (HP2.out _).mono ?_
    rintro e w' ⟨rfl, rfl⟩
    go_wp2_with fail
    refine (prgI.resume HX.out.1 ht HX.out.2.1 _).mono ?_
    rintro e w2 ⟨rfl, own2, PS2, k2⟩
    have HF := hide (AX.nil PS2 (HX.out.2.2.trans k2))
    clear PS2 k2 q0 q1 q2 HX
    go_wp2_with fail
    go_ret
    rw [HA.out]
    exact ⟨_, own2, rfl, HF.out⟩
  have HA := hide (show actsC F st d k a b n = ((tickC F st d (pk b 3000)).1, (tickC F st d (pk b 3000)).2.1) by unfold actsC; rw [if_neg h01, if_neg h2, if_neg h3, if_neg h8, if_neg h9])
  generalize pk k 10 = kk at *
  have hh : kk = 4 ∨ kk = 5 ∨ kk = 6 ∨ kk = 7 := by omega
  clear h01 h2 h3 h8 h9 z0 z1
  rcases hh with rfl | rfl | rfl | rfl
  all_goals
    go_enter Tryz.func12, Tryz.ntmps12
    go_wp2_with fail
    refine (HP1.out _).mono ?_
    rintro e w' ⟨rfl, rfl⟩
    go_wp2_with fail
    refine (HP2.out _).mono ?_
    rintro e w' ⟨rfl, rfl⟩
    go_wp2_with fail
    refine (HP5.out _).mono ?_
    rintro e w' ⟨rfl, rfl⟩
    go_wp2_with fail
    refine (prgI.tick HX.out.1 ht HX.out.2.1 _).mono ?_
    rintro e w2 ⟨ov, rfl, hrow, _, own2, PS2, k2, htg⟩
    have HF : Hid (AX own own2 w w2 t p F st ((tickC F st d (pk b 3000)).1, (tickC F st d (pk b 3000)).2.1) ov) := ⟨row_mono hrow hsw, PS2, HX.out.2.2.trans k2, htg⟩
    obtain ⟨oa, on, oc, hov⟩ := ownsRow_form hrow
    subst hov
    clear PS2 k2 q0 q1 q2 HX hrow htg
    go_wp2_with fail
    go_ret
    rw [HA.out]
    exact ⟨_, own2, rfl, HF.out⟩
end
end Go.Proofs.YtcnmbldikjljeaaGreatDoor
namespace Go.Proofs.YtcnmbldikjljeaaGreatDoor
open Go.RowKit

set_option maxRecDepth 100000 in
set_option maxHeartbeats 4000000 in
theorem sameEvents_any {w : World} {b1 b2 : Nat} {av bv : Value} {es : List Ev} (ra : w.ownsRow b1 63 6 av es.length (evsCells es)) (rb : w.ownsRow b2 63 6 bv es.length (evsCells es)) (hl : es.length ≤ 1000000) :
    Calls Tryz.prog 16 #[av, bv] w fun e w' => e = .returned (.bool true) ∧ Below w.heap.size w w' := by
  obtain ⟨aa, ac, ha⟩ := row_any ra
  obtain ⟨ba, bc, hb⟩ := row_any rb
  subst ha hb
  have HA := hide ra
  have HB := hide rb
  clear ra rb
  go_enter Tryz.func16, Tryz.ntmps16
  go_wp2_with fail
  go_loopw [5] (fun iv wr => ∃ i : Nat, iv = .int .i64 i ∧ i ≤ es.length ∧ Below w.heap.size w wr) (fun iv _ => es.length - (intOf iv).toNat)
  case atStart => exact ⟨0, rfl, Nat.zero_le _, Below.refl _ _⟩
  case round =>
    obtain ⟨i, rfl, hi, hb⟩ := hrel
    by_cases hlt : i < es.length
    · have hlt' : (i : Int) < es.length := by omega
      obtain ⟨qa, ca, h1⟩ := row_some HA.out (by omega)
      obtain ⟨qb, cb, h2⟩ := row_some HB.out (by omega)
      simp only [Value.slice.injEq] at h1 h2
      obtain ⟨rfl, _, rfl⟩ := h1
      obtain ⟨rfl, _, rfl⟩ := h2
      have RA1 := row_on HA.out hb
      have RB1 := row_on HB.out hb
      have ca : ∀ j (v : Value), j < 6 → (evCells es[i])[j]? = some v → wr.cell? ⟨qa, i * 6 + j, none⟩ = some v := fun j v hj hv => (RA1.cellAt (i * 6 + j) (by omega)).trans ((evsCells_at es i hlt j hj).trans hv)
      have cb : ∀ j (v : Value), j < 6 → (evCells es[i])[j]? = some v → wr.cell? ⟨qb, i * 6 + j, none⟩ = some v := fun j v hj hv => (RB1.cellAt (i * 6 + j) (by omega)).trans ((evsCells_at es i hlt j hj).trans hv)
      have a0 : wr.cell? ⟨qa, i * 6, none⟩ = _ := ca 0 _ (by omega) rfl
      have a1 := ca 1 _ (by omega) rfl
      have a2 := ca 2 _ (by omega) rfl
      have a3 := ca 3 _ (by omega) rfl
      have a4 := ca 4 _ (by omega) rfl
      have a5 := ca 5 _ (by omega) rfl
      have b0 : wr.cell? ⟨qb, i * 6, none⟩ = _ := cb 0 _ (by omega) rfl
      have b1 := cb 1 _ (by omega) rfl
      have b2 := cb 2 _ (by omega) rfl
      have b3 := cb 3 _ (by omega) rfl
      have b4 := cb 4 _ (by omega) rfl
      have b5 := cb 5 _ (by omega) rfl
      have HBB := hide hb
      clear ca cb RA1 RB1 hb
      generalize es[i] = x at *
      go_wp2_with fail
      go_quiet (fail)
      have HB2 := hide (below_drewN HBB.out nq)
      clear HBB a0 a1 a2 a3 a4 a5 b0 b1 b2 b3 b4 b5
      go_wp2_with fail
      go_roundw
      case rel => exact ⟨i + 1, by go_num, by omega, HB2.out⟩
      case measure => simp [intOf]; omega
    · go_wp2_with fail
      go_ret
      exact ⟨rfl, hb⟩
end Go.Proofs.YtcnmbldikjljeaaGreatDoor
namespace Go.Proofs.YtcnmbldikjljeaaGreatDoor
open Go.ChangeShapes Go.WideShapes Go.ChangeAt Go.RowKit

theorem own : ownKnob Tryz.prog.godebug = none := by kernel_rfl
theorem laidOut : laidOutB Tryz.prog = true := by kernel_rfl
/-- the listed variable's name, off the row -/
abbrev dn : String := Rows.calendarsRow.named.headD default
theorem gNames : Tryz.prog.globalNamed dn = some 0 := by kernel_rfl
theorem tNames : (Tryz.prog.globals[0]?).map (·.type) = some 262 := by kernel_rfl
theorem cellsInt : Tryz.prog.cellsOf 3 = 1 := by kernel_rfl
theorem cellsStr : Tryz.prog.cellsOf 9 = 1 := by kernel_rfl
theorem cellsN : Tryz.prog.cellsOf 262 = 7 := by kernel_rfl

abbrev laidList : List (String × DataW Unit) := [(dn, Rows.laid_docket_docket_dayNames)]

theorem door_met (os : Os) (args : Array Value) : laidMetH Tryz.prog laidList ((World.doorLaid Tryz.prog 400 os).forCall (fun _ _ => 0) ⟨#[], args, []⟩).memory :=
  laidMetH_of_parts3 (fuel := 8) (laidMet_of_run' 8 (by kernel_rfl) (by kernel_rfl)) (by kernel_rfl) (by kernel_rfl)

theorem bytes_of_list (s : ByteArray) (l : List UInt8) (h : s.data.toList = l) : s = ⟨l.toArray⟩ := by subst h; cases s; simp

theorem names_of_laid {W : World} (h : laidMetH Tryz.prog laidList W) : ∀ j, j < 7 → W.cell? ⟨0, j, none⟩ = some (nmV j) := by
  rw [MakeChecks.laidMetH_plain _ _ _ (by kernel_rfl)] at h
  obtain ⟨ps, ⟨g0, t0, cs0, f0, p0, q0, hg0, ht0, hv0, hd0, _, _⟩, _, _⟩ := h
  obtain rfl := Option.some.inj (gNames.symm.trans hg0)
  obtain rfl := Option.some.inj (tNames.symm.trans ht0)
  obtain ⟨xs, m, rfl, hx, hlen, hn, hel⟩ := DataW.trod_array Tryz.underlying262 hd0
  simp only [Prod.mk.injEq] at hx
  intro j hj
  have hc := World.var?_cell hg0 hv0 j
  rw [hc]
  have hj2 := hel j hj
  rw [cellsStr] at hj2
  obtain ⟨y, hy⟩ : ∃ y, xs[j]? = some y := ⟨xs[j]'(by omega), by simp⟩
  rw [hy] at hj2
  obtain ⟨s, e1, e2, _⟩ := DataW.trod_string Tryz.underlying9 hj2
  have hcs : cs0[j]? = some (.string s) := by
    have := congrArg (·[0]?) e1
    simpa [List.getElem?_take, List.getElem?_drop] using this
  rw [hcs]
  have hmap : (xs.map (·.1))[j]? = some (.lit (.string s.data.toList)) := by simp [hy, e2]
  have hD := hx.1
  simp only [Rows.laid_docket_docket_dayNames, DataW.agg.injEq] at hD
  rw [← hD] at hmap
  unfold nmV
  have key : ∀ l : List UInt8, s.data.toList = l → Value.string s = .string ⟨l.toArray⟩ := fun l hl => by rw [bytes_of_list s l hl]
  have hj7 : j = 0 ∨ j = 1 ∨ j = 2 ∨ j = 3 ∨ j = 4 ∨ j = 5 ∨ j = 6 := by omega
  rcases hj7 with rfl | rfl | rfl | rfl | rfl | rfl | rfl
  all_goals
    simp only [List.getElem?_cons_zero, List.getElem?_cons_succ, Option.some.injEq, DataW.lit.injEq, Lit.string.injEq] at hmap
    rw [key _ hmap.symm]
    rfl
end Go.Proofs.YtcnmbldikjljeaaGreatDoor
namespace Go.Proofs.YtcnmbldikjljeaaGreatDoor
open Go.ChangeShapes Go.WideShapes Go.ChangeAt Go.RowKit

theorem cellsE : Tryz.prog.cellsOf 201 = 3 := by kernel_rfl
section
variable {H : Type} {enc : TypeId × Value → H} {W : World}
/-- a slice of integers that came in -/
theorem open_list {a : Option Addr} {len cap fuel : Nat} {x : DataW H × List MemPlace} (h : DataW.trod enc Tryz.prog W 0 (fun _ => true) true fuel 24 [.slice a len cap] = some x) :
    ∃ fs : List Int, len = fs.length ∧ fs.length ≤ 9223372036854775807 ∧ ∀ i x, fs[i]? = some x → ∃ b off, a = some ⟨b, off, none⟩ ∧ b < W.heap.size ∧ W.cell? ⟨b, off + i, none⟩ = some (.int .i64 x) ∧ inR x := by
  rcases open_ints Tryz.underlying24 Tryz.underlying3 cellsInt h with ⟨hcs, _⟩ | ⟨x, l, c, zs, hcs, _, hl, hm, hz, _, hcell, hwz⟩
  · simp only [List.cons.injEq, Value.slice.injEq, and_true] at hcs
    obtain ⟨rfl, rfl, rfl⟩ := hcs
    exact ⟨[], rfl, by simp, fun i x hx => by simp at hx⟩
  · simp only [List.cons.injEq, Value.slice.injEq, and_true] at hcs
    obtain ⟨rfl, rfl, rfl⟩ := hcs
    simp only [if_true] at hz
    unfold maxLen at hm
    refine ⟨zs.take len, by simp; omega, by simp; omega, fun i y hy => ?_⟩
    have hi : i < len := by have := (List.getElem?_eq_some_iff.1 hy).1; simp at this; omega
    have hzi : zs[i]? = some y := by rw [List.getElem?_take] at hy; simpa [hi] using hy
    have hg : zs.getD i 0 = y := by simp [List.getD, hzi]
    obtain ⟨b, off, rfl, hc⟩ := ints_at hcell (by omega)
    have hc2 := hc i (by omega)
    rw [hg] at hc2
    exact ⟨b, off, rfl, World.block_lt_of_cell? W _ hc2, hc2, bounds_i64 (hwz y (List.mem_of_getElem? hzi))⟩

/-- a slice of arrays of three integers -/
theorem open_ents {a : Option Addr} {len cap fuel : Nat} {x : DataW H × List MemPlace} (h : DataW.trod enc Tryz.prog W 0 (fun _ => true) true fuel 26 [.slice a len cap] = some x) :
    ∃ es : List Ent, len = es.length ∧ es.length ≤ 9223372036854775807 ∧ ∀ i e, es[i]? = some e → ∃ b off, a = some ⟨b, off, none⟩ ∧ b < W.heap.size ∧ W.cell? ⟨b, off + i * 3, none⟩ = some (.int .i64 e.1) ∧ W.cell? ⟨b, off + i * 3 + 1, none⟩ = some (.int .i64 e.2.1) ∧ W.cell? ⟨b, off + i * 3 + 2, none⟩ = some (.int .i64 e.2.2) ∧ inR e.1 ∧ inR e.2.1 ∧ inR e.2.2 := by
  rcases Deep.open_slice Tryz.underlying26 h with ⟨hcs, _⟩ | ⟨x, l, c, m, n, D, Pl, hcs, _, hl, hm, hmm, _, hel⟩
  · simp only [List.cons.injEq, Value.slice.injEq, and_true] at hcs
    obtain ⟨rfl, rfl, rfl⟩ := hcs
    exact ⟨[], rfl, by simp, fun i x hx => by simp at hx⟩
  · simp only [List.cons.injEq, Value.slice.injEq, and_true] at hcs
    obtain ⟨rfl, rfl, rfl⟩ := hcs
    simp only [if_true] at hmm
    subst hmm
    unfold maxLen at hm
    rw [cellsE] at hel
    have hE : ∀ i, i < len → ∃ e : Ent, W.cell? (x.add (i * 3)) = some (.int .i64 e.1) ∧ W.cell? ((x.add (i * 3)).add 1) = some (.int .i64 e.2.1) ∧ W.cell? ((x.add (i * 3)).add 2) = some (.int .i64 e.2.2) ∧ inR e.1 ∧ inR e.2.1 ∧ inR e.2.2 := by
      intro i hi
      obtain ⟨cs', h1, h2⟩ := hel i (by omega)
      obtain ⟨_, hlen, hcell⟩ := World.cells?_some h1
      obtain ⟨ys, k, _, _, _, hn, hy⟩ := DataW.trod_array Tryz.underlying201 h2
      rw [cellsInt] at hy
      have y0 := hy 0 (by omega)
      have y1 := hy 1 (by omega)
      have y2 := hy 2 (by omega)
      match cs', hlen, ys, hn with
      | [u0, u1, u2], _, [z0, z1, z2], _ =>
        simp at y0 y1 y2
        obtain ⟨k0, e0, _, w0⟩ := DataW.trod_int Tryz.underlying3 y0
        obtain ⟨k1, e1, _, w1⟩ := DataW.trod_int Tryz.underlying3 y1
        obtain ⟨k2, e2, _, w2⟩ := DataW.trod_int Tryz.underlying3 y2
        simp at e0 e1 e2
        subst e0 e1 e2
        refine ⟨(k0, k1, k2), ?_, hcell 1 (by omega), hcell 2 (by omega), bounds_i64 w0, bounds_i64 w1, bounds_i64 w2⟩
        have := hcell 0 (by omega)
        simpa [Addr.add] using this
    obtain ⟨en, hen⟩ := Deep.choose_lt (α := Ent) hE
    refine ⟨(List.range len).map en, by simp, by simp; omega, fun i e he => ?_⟩
    have hi : i < len := by have := (List.getElem?_eq_some_iff.1 he).1; simpa using this
    have hee : en i = e := by simpa [hi] using he
    subst hee
    obtain ⟨g0, g1, g2, r0, r1, r2⟩ := hen i hi
    obtain ⟨b, off, spot⟩ := x
    have hspot : spot = none := by
      have := World.cell?_spot (hen 0 (by omega)).1
      simpa [Addr.add] using this
    subst hspot
    rw [add_plain] at g0 g1 g2
    rw [add_plain] at g1 g2
    exact ⟨b, off, rfl, World.block_lt_of_cell? W _ g0, g0, g1, g2, r0, r1, r2⟩

set_option maxRecDepth 100000 in
/-- a Week that came in -/
theorem open_week {v : Value} {d : DataW H} {p : List MemPlace} {r : Reach} {b0 : Nat} (hv : Value.okWide Tryz.prog W r b0 28 v) (h : DataW.Trod enc Tryz.prog W 0 (fun _ => true) true 28 v d p) :
    ∃ (es : List Ent) (fs : List Int) (ae af : Option Addr) (ce cf : Nat), v = .agg #[.slice ae es.length ce, .slice af fs.length cf] ∧ WK W es fs ae af := by
  obtain ⟨v0, v1, y0, y1, n, rfl, _, _, h0, h1⟩ := Joins.open_agg2 Tryz.underlying28 (by kernel_rfl) (by kernel_rfl) hv h
  obtain ⟨ae, le, ce, e0⟩ := Joins.slice_form (show Tryz.prog.underlying 26 = some (.slice 201) from Tryz.underlying26) h0
  obtain ⟨af, lf, cf, e1⟩ := Joins.slice_form (show Tryz.prog.underlying 24 = some (.slice 3) from Tryz.underlying24) h1
  simp at e0 e1
  subst e0 e1
  obtain ⟨es, rfl, b1, hE⟩ := open_ents h0
  obtain ⟨fs, rfl, b2, hF⟩ := open_list h1
  exact ⟨es, fs, ae, af, ce, cf, rfl, ⟨hE, hF, b1, b2⟩⟩
end
end Go.Proofs.YtcnmbldikjljeaaGreatDoor
namespace Go.Proofs.YtcnmbldikjljeaaGreatDoor
open Go.RowKit

theorem tickN_psi {own : Nat → Nat} {w : World} {t p : Nat} {F : Nat → Bool} {st : List Stg} {d : Dk} (D : PSi own w t p F st d) (ht : t ≠ 0) (Q : Pre own w F st d) (n : Int) :
    Calls Tryz.prog 15 #[P0 p, .int .i64 n] w fun e w' => ∃ ov own', e = .returned (.tuple #[ov, .int .i64 (tickC F st d n).2.2]) ∧ AX own own' w w' t p F st ((tickC F st d n).1, (tickC F st d n).2.1) ov ∧ ((tickC F st d n).2.1 = [] → ov = .slice none 0 0) := by
  obtain ⟨K, lv, h⟩ := D
  refine (tickN_any h.pd Q.ok Q.rest h.inv Q.stok n).mono ?_
  rintro e w' ⟨ov, rfl, ho, _, hn, R, f⟩
  obtain ⟨own', h1, h2, h3⟩ := h.step8 ht Q.lt R f (tick_inv h.inv Q.ok Q.stok n) ho
  exact ⟨ov, own', rfl, ⟨ho, h1, h2, h3⟩, hn⟩
theorem PSi.inv {own : Nat → Nat} {w : World} {t p : Nat} {F : Nat → Bool} {st : List Stg} {d : Dk} (D : PSi own w t p F st d) : InvD F d := by
  obtain ⟨K, lv, h⟩ := D
  exact h.inv
/-! moves, as they came in -/
abbrev Mv := Int × Int × Int
def mvCells (ms : List Mv) : List Value := ms.flatMap fun m => [.int .i64 m.1, .int .i64 m.2.1, .int .i64 m.2.2]
theorem mvCells_at (ms : List Mv) (i : Nat) (h : i < ms.length) (j : Nat) (hj : j < 3) : (mvCells ms)[i * 3 + j]? = ([.int .i64 ms[i].1, .int .i64 ms[i].2.1, .int .i64 ms[i].2.2] : List Value)[j]? := by
  unfold mvCells
  induction ms generalizing i with
  | nil => simp at h
  | cons x l ih =>
    rw [List.flatMap_cons]
    cases i with
    | zero => rw [List.getElem?_append_left (by simp; omega)]; simp
    | succ i =>
      rw [List.getElem?_append_right (by simp; omega), show (i + 1) * 3 + j - ([.int .i64 x.1, .int .i64 x.2.1, .int .i64 x.2.2] : List Value).length = i * 3 + j by simp; omega, ih i (by simpa using h)]
      rfl
structure MV (w : World) (v : Value) (ms : List Mv) : Prop where
  row : LR w 3 v ms.length (mvCells ms)
  rng : ∀ m ∈ ms, inR m.1 ∧ inR m.2.1 ∧ inR m.2.2
theorem MV.on {w u : World} {v : Value} {ms : List Mv} (h : MV w v ms) (hb : Below w.heap.size w u) : MV u v ms := ⟨h.row.on hb, h.rng⟩
theorem MV.at {w : World} {b off cap : Nat} {ms : List Mv} (h : MV w (.slice (some ⟨b, off, none⟩) ms.length cap) ms) (i : Nat) (hi : i < ms.length) : w.cell? ⟨b, off + i * 3, none⟩ = some (.int .i64 ms[i].1) ∧ w.cell? ⟨b, off + i * 3 + 1, none⟩ = some (.int .i64 ms[i].2.1) ∧ w.cell? ⟨b, off + i * 3 + 2, none⟩ = some (.int .i64 ms[i].2.2) := by
  have h0 := h.row.cell (i * 3) (.int .i64 ms[i].1) (mvCells_at ms i hi 0 (by omega))
  have h1 := h.row.cell (i * 3 + 1) (.int .i64 ms[i].2.1) (mvCells_at ms i hi 1 (by omega))
  have h2 := h.row.cell (i * 3 + 2) (.int .i64 ms[i].2.2) (mvCells_at ms i hi 2 (by omega))
  rw [← Nat.add_assoc] at h1 h2
  exact ⟨h0, h1, h2⟩
/-- memory beneath W stands; the owners' numbers lie above -/
structure KW (W w : World) (own : Nat → Nat) : Prop where
  low : Below W.heap.size W w
  lz : ∀ k, k < W.heap.size → own k = 0
  lt : ∀ k, own k ≠ 0 → k < w.heap.size
theorem KW.kept {W w w' : World} {own own' : Nat → Nat} {T : Nat → Prop} (h : KW W w own) (k : KeptS own own' T w w') (h0 : ¬ T 0) : KW W w' own' := by
  obtain ⟨a, b⟩ := k.low h0 h.low.size h.lz
  exact ⟨h.low.trans a, b, k.bound⟩
theorem KW.new (W : World) : KW W W (fun _ => 0) := ⟨Below.refl _ _, fun _ _ => rfl, fun _ h => absurd rfl h⟩
/-- a docket with its bounds -/
structure PK (own : Nat → Nat) (w : World) (t p : Nat) (F : Nat → Bool) (st : List Stg) (d : Dk) (N : Int) : Prop where
  psi : PSi own w t p F st d
  ok : DkOk F st d N
  rs : DkR st d
section
variable {own own' : Nat → Nat} {w w' : World} {t p : Nat} {F : Nat → Bool} {st : List Stg} {d : Dk} {N M : Int} {T : Nat → Prop}
theorem PK.kept (h : PK own w t p F st d N) (k : KeptS own own' T w w') (h0 : ¬ T 0) (h1 : ¬ T t) : PK own' w' t p F st d N := ⟨prgI.kept h.psi k h0 h1, h.ok, h.rs⟩
theorem PK.pre (h : PK own w t p F st d N) (hN : N ≤ 4611686018427387000) (hl : ∀ k, own k ≠ 0 → k < w.heap.size) (hs : StOk st) (h6 : st.length ≤ 6) : Pre own w F st d := ⟨hl, hs, h6, h.ok.mono hN, h.rs⟩
theorem PK.mono (h : PK own w t p F st d N) (hm : N ≤ M) : PK own w t p F st d M := ⟨h.psi, h.ok.mono hm, h.rs⟩
end
theorem stgP_ok (ps : List (List (Int × Int))) : StOk (stgP ps) ∧ (stgP ps).length ≤ 6 := by
  have h := check_stok (stgP_check (ps := ps)) (fun i hi => by have := (stgP_rm ps).nxt i hi; omega)
  exact ⟨h.1, h.2.2⟩
theorem BG.pk {own own' : Nat → Nat} {w w' : World} {t p c : Nat} {es : List Ent} {fs : List Int} {ps : List (List (Int × Int))} {sv : Value} {vs : Nat → Value × Value} (h : BG own own' w w' t p c es fs ps sv vs) : PK own' w' t p (FP es fs) (stgP ps) ⟨0, 0, 0, []⟩ 0 :=
  ⟨h.psi, (empty_ok (F := FP es fs) (st := stgP ps)).1, (empty_ok (F := FP es fs) (st := stgP ps)).2⟩
end Go.Proofs.YtcnmbldikjljeaaGreatDoor
