import Derived.Test.YtcnmbldikjljeaaGreatDoorT24
import Derived.Test.YtcnmbldikjljeaaGreatDoorT13
import Derived.Test.YtcnmbldikjljeaaGreatDoorT17
namespace Go.Proofs.YtcnmbldikjljeaaGreatDoor
open Go.RowKit

theorem asc_dg (n : Int) (h0 : 0 ≤ n) (h1 : n ≤ 99) : ∀ c ∈ dg n, c.toNat < 128 := by
  have e1 := byte_val (48 + n / 10) (by omega) (by omega)
  have e2 := byte_val (48 + n % 10) (by omega) (by omega)
  intro c hc
  simp only [dg, List.mem_cons, List.not_mem_nil, or_false] at hc
  rcases hc with rfl | rfl <;> omega
theorem asc_ck (q : Int) (h0 : 0 ≤ q) (h1 : q ≤ 96) : ∀ c ∈ ck q, c.toNat < 128 := by
  intro c hc
  simp only [ck, List.mem_append, List.mem_singleton] at hc
  rcases hc with (hc | rfl) | hc
  · exact asc_dg _ (by omega) (by omega) c hc
  · decide
  · exact asc_dg _ (by omega) (by omega) c hc
theorem asc_nm (k : Nat) : ∀ c ∈ nm k, c.toNat < 128 := by
  intro c hc
  have : c ∈ nmB := List.mem_of_mem_drop (List.mem_of_mem_take hc)
  have h : ∀ c ∈ nmB, c.toNat < 128 := by decide
  exact h c this
theorem asc_days (D : Int) (k : Nat) : ∀ c ∈ daysTo D k, c.toNat < 128 := by
  induction k with
  | zero => intro c hc; simp [daysTo] at hc
  | succ k ih =>
    intro c hc
    simp only [daysTo, List.mem_append] at hc
    rcases hc with hc | hc
    · exact ih c hc
    · split at hc
      · rw [List.mem_append] at hc
        rcases hc with hc | hc
        · unfold comma at hc; split at hc
          · simp at hc; subst hc; decide
          · simp at hc
        · exact asc_nm k c hc
      · simp at hc
theorem asc_ent (e : Ent) : ∀ c ∈ entTxt e, c.toNat < 128 := by
  intro c hc
  have q0 := eFrom_lo e
  have q1 := eFrom_hi e
  have q2 := eTo_lo e
  have q3 := eTo_hi e
  simp only [entTxt, List.mem_append, List.mem_singleton] at hc
  rcases hc with (((hc | rfl) | hc) | rfl) | hc
  · exact asc_days _ _ c hc
  · decide
  · exact asc_ck _ (by omega) (by omega) c hc
  · decide
  · exact asc_ck _ (by omega) (by omega) c hc
theorem asc_txtTo (es : List Ent) (k : Nat) : ∀ c ∈ txtTo es k, c.toNat < 128 := by
  induction k with
  | zero => intro c hc; simp [txtTo] at hc
  | succ k ih =>
    intro c hc
    simp only [txtTo, List.mem_append] at hc
    rcases hc with (hc | hc) | hc
    · exact ih c hc
    · split at hc
      · simp at hc
      · simp at hc; subst hc; decide
    · exact asc_ent _ c hc
theorem asc_num (n : Int) (h0 : 0 ≤ n) (h1 : n < 70) : ∀ c ∈ numTxt n, c.toNat < 128 := by
  intro c hc
  unfold numTxt at hc
  split at hc
  · exact asc_dg n h0 (by omega) c hc
  · exact asc_dg n h0 (by omega) c (List.mem_of_mem_drop hc)
theorem inc_mem (ns : List Int) : ∀ l : Int, Inc l ns → ∀ n ∈ ns, 0 ≤ n ∧ n < 70 := by
  induction ns with
  | nil => intro l _ n hn; simp at hn
  | cons m ms ih =>
    intro l hI n hn
    obtain ⟨i1, i2, i3, i4⟩ := hI
    rcases List.mem_cons.1 hn with rfl | hn
    · exact ⟨i2, i3⟩
    · exact ih m i4 n hn
theorem asc_fr (ns : List Int) (h : ∀ n ∈ ns, 0 ≤ n ∧ n < 70) : ∀ c ∈ frTxt ns, c.toNat < 128 := by
  intro c hc
  cases ns with
  | nil => simp [frTxt] at hc
  | cons n ns =>
    simp only [frTxt, List.mem_append, List.mem_singleton, List.mem_flatten, List.mem_map] at hc
    rcases hc with (rfl | hc) | ⟨l, ⟨m, hm, rfl⟩, hc⟩
    · decide
    · exact asc_num n (h n (by simp)).1 (h n (by simp)).2 c hc
    · simp only [List.mem_append, List.mem_singleton] at hc
      rcases hc with rfl | hc
      · decide
      · exact asc_num m (h m (by simp [hm])).1 (h m (by simp [hm])).2 c hc
theorem asc_txt (es : List Ent) (fs : List Int) : ∀ c ∈ theTxt es fs, c.toNat < 128 := by
  intro c hc
  unfold theTxt at hc
  rcases List.mem_append.1 hc with hc | hc
  · exact asc_txtTo _ _ c hc
  · exact asc_fr _ (inc_mem _ (-1) (frNums_inc _ (-1) (by omega))) c hc
theorem frNums_le (xs : List Int) : ∀ l : Int, (frNums l xs).length ≤ xs.length := by
  induction xs with
  | nil => intro l; simp [frNums]
  | cons x xs ih => intro l; simp only [frNums]; split <;> simp [ih]
theorem txt_le (es : List Ent) (fs : List Int) : (theTxt es fs).length ≤ 170 := by
  have h1 := txtTo_le es (nEnt es)
  have h2 := frTxt_le (frNums (-1) (fs.take 20))
  have h3 := frNums_le (fs.take 20) (-1)
  have h4 : (fs.take 20).length ≤ 20 := by simp; omega
  have h5 : nEnt es ≤ 3 := by unfold nEnt; omega
  unfold theTxt; rw [List.length_append]; omega

theorem hit_spans (es : List Ent) (m : Int) (_h0 : 0 ≤ m) (_h1 : m < 1440) (d : Nat) (hd : d < 7) (k : Nat) :
    hitL m (spansTo es k d) = wkTo es k (96 * d + (m / 15).toNat) := by
  induction k with
  | zero => rfl
  | succ k ih =>
    have e1 : (96 * d + (m / 15).toNat) / 96 = d := by omega
    have e2 : (((96 * d + (m / 15).toNat) % 96 : Nat) : Int) = m / 15 := by omega
    simp only [spansTo, addE, wkTo, markTo, e1, e2]
    rw [← ih]
    cases hds : dset (eDays (ent es k)) d
    · simp [hd]
    · simp only [hd, decide_true, Bool.and_self, if_true, Bool.true_and]
      simp only [hitL, List.any_append, List.any_cons, List.any_nil, Bool.or_false]
      congr 1
      have a1 : (15 * eFrom (ent es k) ≤ m) ↔ (eFrom (ent es k) ≤ m / 15) := by omega
      have a2 : (m < 15 * eTo (ent es k)) ↔ (m / 15 < eTo (ent es k)) := by omega
      rw [decide_eq_decide.2 a1, decide_eq_decide.2 a2]

theorem open_txt (es : List Ent) (fs : List Int) (m : Int) (_h0 : 0 ≤ m) (_h1 : m < 100800) :
    openL (parseL ⟨(theTxt es fs).toArray⟩).2.week (parseL ⟨(theTxt es fs).toArray⟩).2.free m = (theWk es (m / 15 % 672).toNat && !theOff fs (m / 1440).toNat) := by
  obtain ⟨_, e2, e3⟩ := parse_txt es fs (asc_txt es fs)
  unfold openL theWk
  rw [e2, e3, hit_spans es (m % 1440) (by omega) (by omega) (m / 1440 % 7).toNat (by omega)]
  rw [Bool.and_comm]
  congr 2
  omega
end Go.Proofs.YtcnmbldikjljeaaGreatDoor
namespace Go.Proofs.YtcnmbldikjljeaaGreatDoor
open Go.RowKit

theorem KeptS.low {own own' : Nat → Nat} {T : Nat → Prop} {w w' : World} {B : Nat} (k : KeptS own own' T w w') (h0 : ¬ T 0) (hB : B ≤ w.heap.size) (hz : ∀ j, j < B → own j = 0) : Below B w w' ∧ ∀ j, j < B → own' j = 0 :=
  ⟨⟨k.os, k.tape, k.output, k.size, fun j hj => k.block j (by omega) (by rw [hz j hj]; exact h0)⟩, fun j hj => (k.same j (by omega)).trans (hz j hj)⟩
theorem st0_ok : StOk st0 := (check_stok st0_check (fun i hi => by
    have : i = 0 := by simp [st0] at hi; omega
    subst this; decide)).1
theorem evs_one (e : Ev) : evsCells [e] = [.int .i64 e.number, .int .i64 e.time, .int .i64 e.case, .int .i64 e.stage, .int .i64 e.level, .int .i64 e.who] := rfl
set_option maxRecDepth 100000 in
set_option maxHeartbeats 4000000 in
theorem works_any (w : World) (h0 : 0 < w.heap.size) (hnm : ∀ j, j < 7 → w.cell? ⟨0, j, none⟩ = some (nmV j)) :
    Calls Tryz.prog 32 #[] w fun e w' => e = .returned (.bool true) ∧ Below w.heap.size w w' := by
  have HNM := hide hnm
  clear hnm
  go_enter Tryz.func32, Tryz.ntmps32
  go_wp2_with fail
  refine (reckons_any w h0 HNM.out).mono ?_
  rintro e w0 ⟨rfl, hb0⟩
  go_wp2_with fail
  refine (parseF_any moB w0 (by have := hb0.size; omega) (nm_on h0 HNM.out hb0) (by decide)).mono ?_
  rintro e w1 ⟨hb1, ⟨_, g, hg, rfl, C⟩ | ⟨hno, _⟩⟩
  · have hb01 := hb0.trans (hb1.mono hb0.size)
    have HB01 := hide hb01
    have HC := hide C
    clear C hb1 hb0 hb01
    go_wp2_with fail
    obtain ⟨W2, hW2⟩ : ∃ W2, (w1.alloc (Obj.cells #[.int .i64 30, .int .i64 7] 127)).alloc (Obj.cells #[.slice (some ⟨w1.heap.size, 0, none⟩) 1 1, .slice none 0 0] 125) = W2 := ⟨_, rfl⟩
    have hbW : Below w1.heap.size w1 W2 := by rw [← hW2]; exact ((Below.refl _ _).alloc (Nat.le_refl _) _).alloc (by simp) _
    have s1 : W2.heap[w1.heap.size]? = some (.cells #[.int .i64 30, .int .i64 7] 127 (0, 0)) := by
      rw [← hW2, Below.heap_alloc _ _ _ (by simp)]; exact heap_alloc_new _ _
    have s2 : W2.heap[w1.heap.size + 1]? = some (.cells #[.slice (some ⟨w1.heap.size, 0, none⟩) 1 1, .slice none 0 0] 125 (0, 0)) := by
      rw [← hW2]
      have h9 := heap_alloc_new (w1.alloc (Obj.cells #[.int .i64 30, .int .i64 7] 127)) (Obj.cells #[.slice (some ⟨w1.heap.size, 0, none⟩) 1 1, .slice none 0 0] 125)
      simpa using h9
    rw [hW2]
    clear hW2
    have S : SW W2 (.slice (some ⟨w1.heap.size + 1, 0, none⟩) 1 1) st0 (fun _ => (.slice (some ⟨w1.heap.size, 0, none⟩) 1 1, .slice none 0 0)) := by
      refine ⟨⟨rfl, .inr ⟨_, 1, _, rfl, Nat.zero_le _, s2, Nat.le_refl _, by decide, rfl, rfl⟩⟩, fun i hi => ?_, fun i hi => ?_⟩
      · have : i = 0 := by simp [st0] at hi; omega
        subst this
        exact ⟨rfl, .inr ⟨_, 1, _, rfl, Nat.zero_le _, s1, Nat.le_refl _, by decide, rfl, rfl⟩⟩
      · have : i = 0 := by simp [st0] at hi; omega
        subst this
        exact World.ownsRow_nil _ _ _ _
    have kW : KeptS (fun _ => 0) (fun _ => 0) (fun _ => False) w1 W2 := .of_below hbW (fun k h => absurd rfl h)
    have CW : CalW (roW (fun _ => 0) W2) g (parseL moB).2.week (parseL moB).2.free := (HC.out.ro (own := fun _ => 0) (fun _ _ => rfl)).on (by rw [ro_size]; exact kW.below id)
    have HNW := hide (prgI.newOk (F := F0) S CW (parse_len moB (by decide) mo_ok) (ff_eq _ _) st0_check st0_rm (fun k h => absurd rfl h) 10 (by decide))
    have HBW := hide (HB01.out.trans (hbW.mono HB01.out.size))
    have hws : w.heap.size ≤ W2.heap.size := HBW.out.size
    clear S CW kW hbW s1 s2 HC
    refine HNW.out.mono ?_
    rintro e w2 ⟨p, own2, rfl, hp, PS2, k2⟩
    obtain ⟨lb2, lz2⟩ := k2.low (B := w.heap.size) (by decide) hws (fun _ _ => rfl)
    have Q2 : Pre own2 w2 F0 st0 ⟨0, 0, 0, []⟩ := ⟨k2.bound, st0_ok, by decide, (empty_ok (F := F0) (st := st0)).1.mono (by decide), (empty_ok (F := F0) (st := st0)).2⟩
    have HO := hide (prgI.open_ PS2 (by decide) Q2 0)
    rw [open0] at HO
    have hs2 := k2.size
    have HZ := hide (And.intro (HBW.out.trans lb2) lz2)
    clear PS2 k2 Q2 lb2 lz2 HNW
    go_wp2_with fail
    refine HO.out.mono ?_
    rintro e w3 ⟨rfl, own3, PS3, k3⟩
    obtain ⟨lb3, lz3⟩ := k3.low (B := w.heap.size) (by decide) (by omega) HZ.out.2
    have ok1 : DkOk F0 st0 d1 4611686018427387000 := by
      have := open_ok (F := F0) (empty_ok (F := F0) (st := st0)).1 st0_ok 0
      rw [open0] at this
      exact this.mono (by decide)
    have rs1 : DkR st0 d1 := by
      have := open_rest (F := F0) (empty_ok (F := F0) (st := st0)).2 0
      rw [open0] at this
      exact this
    have HT := hide (prgI.tick PS3 (by decide) ⟨k3.bound, st0_ok, by decide, ok1, rs1⟩ 1000)
    rw [tick0] at HT
    have HZ3 := hide (And.intro (HZ.out.1.trans lb3) lz3)
    have hs3 := k3.size
    clear PS3 k3 ok1 rs1 lb3 lz3 HO
    go_wp2_with fail
    refine HT.out.mono ?_
    rintro e w4 ⟨ov, rfl, hrow, _, own4, _, k4, _⟩
    obtain ⟨lb4, lz4⟩ := k4.low (B := w.heap.size) (by decide) (by omega) HZ3.out.2
    have HF := hide (HZ3.out.1.trans lb4)
    obtain ⟨q, cap, hov⟩ := row_some hrow (by decide)
    subst hov
    simp only [evs_one, List.length_singleton] at hrow
    have e0 := (hrow.cellAt 0 (by decide)).trans rfl
    have e1 := (hrow.cellAt 1 (by decide)).trans rfl
    have e2 := (hrow.cellAt 2 (by decide)).trans rfl
    have e3 := (hrow.cellAt 3 (by decide)).trans rfl
    have e4 := (hrow.cellAt 4 (by decide)).trans rfl
    have e5 := (hrow.cellAt 5 (by decide)).trans rfl
    clear hrow k4 lb4 lz4 HT
    go_wp2_with fail
    go_ret
    exact ⟨rfl, HF.out⟩
  · rw [mo_ok] at hno; cases hno
end Go.Proofs.YtcnmbldikjljeaaGreatDoor
namespace Go.Proofs.YtcnmbldikjljeaaGreatDoor
open Go.RowKit

abbrev wkP (es : List Ent) (fs : List Int) : Nat → List (Int × Int) := (parseL (txtB es fs)).2.week
abbrev frP (es : List Ent) (fs : List Int) : Nat → Bool := (parseL (txtB es fs)).2.free
abbrev FP (es : List Ent) (fs : List Int) : Nat → Bool := FF (wkP es fs) (frP es fs)
theorem stgP_rm (ps : List (List (Int × Int))) : Rm (stgP ps) := by
  have hn := nP_bd (ps := ps)
  refine ⟨by rw [stgP_len]; omega, fun i hi => ?_, fun i hi => ?_⟩
  · rw [stgP_len] at hi
    rw [stgP_at i hi]
    have := lvsP_len (plAt ps i) 4
    show (lvsP (plAt ps i) 4).length * 16 ≤ _
    omega
  · rw [stgP_len] at hi
    rw [stgP_at i hi]
    show (nxP (nP ps)).length * 8 ≤ _
    rw [nxP_len]
    omega
theorem SG.sw {w w' : World} {ps : List (List (Int × Int))} {out : Value} {vs : Nat → Value × Value} (h : SG w w' ps out (nP ps) vs) : SW w' out (stgP ps) vs := by
  refine ⟨?_, fun i hi => ?_, fun i hi => ?_⟩
  · rw [stgP_len]; exact row_mono h.row (Nat.zero_le _)
  · rw [stgP_len] at hi; rw [stgP_at i hi]; exact row_mono (h.lev i hi) (Nat.zero_le _)
  · rw [stgP_len] at hi; rw [stgP_at i hi]; exact row_mono (h.nxt i hi) (Nat.zero_le _)
theorem SG.ro {own : Nat → Nat} {w w' : World} {ps : List (List (Int × Int))} {out : Value} {vs : Nat → Value × Value} (h : SG w w' ps out (nP ps) vs) (ho : ∀ k, w.heap.size ≤ k → own k = 0) : SW (roW own w') out (stgP ps) vs := by
  have S := h.sw
  refine ⟨row_ro S.row (fun k hk => ho k (h.row.lt k hk).1), fun i hi => row_ro (S.lev i hi) (fun k hk => ?_), fun i hi => row_ro (S.nxt i hi) (fun k hk => ?_)⟩
  · rw [stgP_len] at hi; exact ho k ((h.lev i hi).lt k hk).1
  · rw [stgP_len] at hi; exact ho k ((h.nxt i hi).lt k hk).1
/-- what begun has made -/
structure BG (own own' : Nat → Nat) (w w' : World) (t p c : Nat) (es : List Ent) (fs : List Int) (ps : List (List (Int × Int))) (sv : Value) (vs : Nat → Value × Value) : Prop where
  psi : PSi own' w' t p (FP es fs) (stgP ps) ⟨0, 0, 0, []⟩
  kept : Kept own own' t w w'
  cal : CalW (roW own' w') c (wkP es fs) (frP es fs)
  stg : SW (roW own' w') sv (stgP ps) vs
set_option maxRecDepth 100000 in
set_option maxHeartbeats 4000000 in
theorem begun_any {own : Nat → Nat} {w : World} {es : List Ent} {fs : List Int} {ae af : Option Addr} {pv : Value} {ps : List (List (Int × Int))} {lv : Nat → Value} (ce cf : Nat) (hl : ∀ k, own k ≠ 0 → k < w.heap.size) (t : Nat) (ht : t ≠ 0) (h0 : 0 < w.heap.size) (hnm : ∀ j, j < 7 → w.cell? ⟨0, j, none⟩ = some (nmV j)) (K : WK w es fs ae af) (P : PL w pv ps lv) :
    Calls Tryz.prog 11 #[.agg #[.slice ae es.length ce, .slice af fs.length cf], .agg #[pv]] w fun e w' => ∃ p c sv vs own', e = .returned (.tuple #[P0 p, P0 c, sv]) ∧ BG own own' w w' t p c es fs ps sv vs := by
  have hpt := parse_txt es fs (asc_txt es fs)
  have htl := txt_le es fs
  have HNM := hide hnm
  obtain ⟨pa, pc, hpv⟩ := P.row.any
  subst hpv
  have hb0 : Below w.heap.size w ((w.alloc (Obj.cells #[.slice ae es.length ce, .slice af fs.length cf] 28)).alloc (Obj.cells #[.slice pa ps.length pc] 31)) := ((Below.refl _ _).alloc (Nat.le_refl _) _).alloc (by simp) _
  have x0 : ((w.alloc (Obj.cells #[.slice ae es.length ce, .slice af fs.length cf] 28)).alloc (Obj.cells #[.slice pa ps.length pc] 31)).heap[w.heap.size]? = some (.cells #[.slice ae es.length ce, .slice af fs.length cf] 28 (0, 0)) := (Below.heap_alloc _ _ _ (by simp)).trans (heap_alloc_new _ _)
  have x1 : ((w.alloc (Obj.cells #[.slice ae es.length ce, .slice af fs.length cf] 28)).alloc (Obj.cells #[.slice pa ps.length pc] 31)).heap[w.heap.size + 1]? = some (.cells #[.slice pa ps.length pc] 31 (0, 0)) := by
    have h9 := heap_alloc_new (w.alloc (Obj.cells #[.slice ae es.length ce, .slice af fs.length cf] 28)) (Obj.cells #[.slice pa ps.length pc] 31)
    simpa using h9
  have HKP := hide (And.intro (K.on hb0) (P.on hb0))
  have HB0 := hide hb0
  clear hnm K P hb0
  go_enter Tryz.func11, Tryz.ntmps11
  go_wp2_with fail
  generalize (w.alloc (Obj.cells #[.slice ae es.length ce, .slice af fs.length cf] 28)).alloc (Obj.cells #[.slice pa ps.length pc] 31) = W at *
  have hWs : w.heap.size + 1 < W.heap.size := (Array.getElem?_eq_some_iff.1 x1).1
  have hW0 : 0 < W.heap.size := by omega
  have HNW := hide (nm_on h0 HNM.out HB0.out)
  refine (works_any W hW0 HNW.out).mono ?_
  rintro e w1 ⟨rfl, hb1⟩
  have y0 := (hb1.block w.heap.size (by omega)).trans x0
  have c0 : w1.cell? ⟨w.heap.size, 0, none⟩ = some (.slice ae es.length ce) := by simp [World.cell?, y0]
  have c1 : w1.cell? ⟨w.heap.size, 1, none⟩ = some (.slice af fs.length cf) := by simp [World.cell?, y0]
  have HR := hide (readF_any es fs ae af ce cf w1 (by have := hb1.size; omega) (nm_on hW0 HNW.out hb1) (HKP.out.1.on hb1) hpt.1 (by omega))
  have HB1 := hide hb1
  clear x0 y0 hb1
  go_wp2_with fail
  refine HR.out.mono ?_
  rintro e w2 ⟨g, X, rfl, hb2, hg, C⟩
  have hb12 := HB1.out.trans (hb2.mono HB1.out.size)
  have y1 := (hb12.block (w.heap.size + 1) (by omega)).trans x1
  have d0 : w2.cell? ⟨w.heap.size + 1, 0, none⟩ = some (.slice pa ps.length pc) := by simp [World.cell?, y1]
  have HS := hide (stages_any (HKP.out.2.on hb12))
  have hw2 : w.heap.size ≤ w2.heap.size := by have := hb12.size; omega
  have k2 : KeptS own own (fun x => x = t) w w2 := .of_below (HB0.out.trans (hb12.mono HB0.out.size)) hl
  have C2 := C.ro (own := own) (fun k hk => Classical.byContradiction fun h => by have h1 := hl k h; have h2 := HB1.out.size; omega)
  have HC2 := hide (And.intro k2 C2)
  clear y1 x1 hb2 hb12 C C2 k2 HR c0 c1
  go_wp2_with fail
  refine HS.out.mono ?_
  rintro e w3 ⟨out, vs, rfl, S⟩
  have k3 : KeptS own own (fun x => x = t) w2 w3 := .of_below S.below HC2.out.1.bound
  have C3 : CalW (roW own w3) g (wkP es fs) (frP es fs) := HC2.out.2.on (by rw [ro_size]; exact k3.below (Ne.symm ht))
  have S3 : SW (roW own w3) out (stgP ps) vs := S.ro (fun k hk => Classical.byContradiction fun h => by have := hl k h; omega)
  have HN := hide (prgI.newOk (F := FP es fs) S.sw C3 (parse_len (txtB es fs) (by show (theTxt es fs).toArray.size ≤ 200; simp; omega) hpt.1) (ff_eq _ _) stgP_check (stgP_rm ps) k3.bound t ht)
  have HK3 := hide (And.intro (HC2.out.1.trans k3) (And.intro C3 S3))
  obtain ⟨oa, oc, hout⟩ := row_any S.row
  subst hout
  clear S k3 C3 S3 HS d0
  go_wp2_with fail
  refine HN.out.mono ?_
  rintro e w4 ⟨p, own', rfl, hp, PS, k4⟩
  have HF : Hid (BG own own' w w4 t p g es fs ps (.slice oa (nP ps) oc) vs) := ⟨PS, HK3.out.1.trans k4, HK3.out.2.1.on (by rw [ro_size]; exact k4.below (Ne.symm ht)), HK3.out.2.2.on (by rw [ro_size]; exact k4.below (Ne.symm ht))⟩
  clear PS k4 HN HK3
  go_wp2_with fail
  go_ret3
  exact ⟨p, g, _, vs, own', rfl, HF.out⟩
end Go.Proofs.YtcnmbldikjljeaaGreatDoor
namespace Go.Proofs.YtcnmbldikjljeaaGreatDoor
open Go.RowKit

/-- a move, and the events that it tells -/
def actsC (F : Nat → Bool) (st : List Stg) (d : Dk) (k a b : Int) (n : Int) : Dk × List Ev :=
  if pk k 10 = 0 ∨ pk k 10 = 1 then ((openC F st d (pk a n)).1, [])
  else if pk k 10 = 2 then ((moveC F st d (1 + pk a 12) (pk b n)).1, [])
  else if pk k 10 = 3 then ((closeC d (1 + pk a 12)).1, [])
  else if pk k 10 = 8 then ((holdC F d (1 + pk a 12)).1, [])
  else if pk k 10 = 9 then ((resumeC F d (1 + pk a 12)).1, [])
  else ((tickC F st d (pk b 3000)).1, (tickC F st d (pk b 3000)).2.1)
theorem acts_ok {F : Nat → Bool} {st : List Stg} {d : Dk} {N : Int} (ok : DkOk F st d N) (hr : DkR st d) (hs : StOk st) (k a b n : Int) : DkOk F st (actsC F st d k a b n).1 (N + 80) ∧ DkR st (actsC F st d k a b n).1 := by
  unfold actsC
  split
  · exact ⟨(open_ok ok hs _).mono (by omega), open_rest hr _⟩
  split
  · exact ⟨(move_ok ok hs _ _).mono (by omega), move_rest hr _ _⟩
  split
  · exact ⟨(close_ok ok _).mono (by omega), close_rest hr _⟩
  split
  · exact ⟨(hold_ok ok _).mono (by omega), hold_rest ok hr _⟩
  split
  · exact ⟨(resume_ok ok hr _).1.mono (by omega), (resume_ok ok hr _).2⟩
  · exact ⟨(tick_ok ok hr hs _).1, (tick_ok ok hr hs _).2.1⟩
/-- what a move leaves -/
structure AX (own own' : Nat → Nat) (w w' : World) (t p : Nat) (F : Nat → Bool) (st : List Stg) (x : Dk × List Ev) (ov : Value) : Prop where
  row : w'.ownsRow w.heap.size 63 6 ov x.2.length (evsCells x.2)
  psi : PSi own' w' t p F st x.1
  kept : Kept own own' t w w'
  tag : ∀ k, ov.ownBlock = some k → own' k = 8
section
variable {own : Nat → Nat} {w : World} {t p : Nat} {F : Nat → Bool} {st : List Stg} {d : Dk}
theorem AX.nil {own' : Nat → Nat} {w' : World} {d' : Dk} (h : PSi own' w' t p F st d') (k : Kept own own' t w w') : AX own own' w w' t p F st (d', []) (.slice none 0 0) :=
  ⟨World.ownsRow_nil _ _ _ _, h, k, fun k hk => by simp [Value.ownBlock] at hk⟩
set_option maxRecDepth 100000 in
set_option maxHeartbeats 8000000 in
theorem acts_any (D : PSi own w t p F st d) (ht : t ≠ 0) (Q : Pre own w F st d) (k a b n : Int) (hk : inR k) (ha : inR a) (hb : inR b) (n0 : 1 ≤ n) (n1 : n ≤ 6) :
    Calls Tryz.prog 12 #[P0 p, .agg #[.int .i64 k, .int .i64 a, .int .i64 b], .int .i64 n] w fun e w' => ∃ ov own', e = .returned ov ∧ AX own own' w w' t p F st (actsC F st d k a b n) ov := by
  have hbo : Below w.heap.size w (w.alloc (Obj.cells #[.int .i64 k, .int .i64 a, .int .i64 b] 41)) := (Below.refl _ _).alloc (Nat.le_refl _) _
  have ko : Kept own own t w (w.alloc (Obj.cells #[.int .i64 k, .int .i64 a, .int .i64 b] 41)) := .of_below hbo Q.lt
  have D0 := prgI.kept D (KeptS.of_below (T := fun _ => False) hbo Q.lt) id id
  have Q0 := Q.on hbo.size
  have q0 : (w.alloc (Obj.cells #[.int .i64 k, .int .i64 a, .int .i64 b] 41)).cell? ⟨w.heap.size, 0, none⟩ = some (.int .i64 k) := by rw [World.cell?_alloc_at _ _ _ _ rfl]; rfl
  have q1 : (w.alloc (Obj.cells #[.int .i64 k, .int .i64 a, .int .i64 b] 41)).cell? ⟨w.heap.size, 1, none⟩ = some (.int .i64 a) := by rw [World.cell?_alloc_at _ _ _ _ rfl]; rfl
  have q2 : (w.alloc (Obj.cells #[.int .i64 k, .int .i64 a, .int .i64 b] 41)).cell? ⟨w.heap.size, 2, none⟩ = some (.int .i64 b) := by rw [World.cell?_alloc_at _ _ _ _ rfl]; rfl
  have HP1 := hide (fun u => pick_any a 12 u ha.1 ha.2 (by omega) (by omega))
  have HP2 := hide (fun u => pick_any k 10 u hk.1 hk.2 (by omega) (by omega))
  have HP3 := hide (fun u => pick_any a n u ha.1 ha.2 (by omega) (by omega))
  have HP4 := hide (fun u => pick_any b n u hb.1 hb.2 (by omega) (by omega))
  have HP5 := hide (fun u => pick_any b 3000 u hb.1 hb.2 (by omega) (by omega))
  have z0 := pk_lo k 10 (by omega)
  have z1 := pk_hi k 10 (by omega)
  have a0 := pk_lo a 12 (by omega)
  have a1 := pk_hi a 12 (by omega)
  have HX := hide (And.intro D0 (And.intro Q0 ko))
  have hsw : w.heap.size ≤ (w.alloc (Obj.cells #[.int .i64 k, .int .i64 a, .int .i64 b] 41)).heap.size := hbo.size
  clear D Q hbo ko D0 Q0 hk ha hb
  by_cases h01 : pk k 10 = 0 ∨ pk k 10 = 1
  · have HA := hide (show actsC F st d k a b n = ((openC F st d (pk a n)).1, []) by unfold actsC; rw [if_pos h01])
    rcases h01 with h | h
    all_goals
      rw [h] at HP2
      clear h z0 z1
      go_enter Tryz.func12, Tryz.ntmps12
      go_wp2_with fail
      refine (HP1.out _).mono ?_
      rintro e w' ⟨rfl, rfl⟩
      go_wp2_with fail
      refine (HP2.out _).mono ?_
      rintro e w' ⟨rfl, rfl⟩
      go_wp2_with fail
      refine (HP3.out _).mono ?_
      rintro e w' ⟨rfl, rfl⟩
      go_wp2_with fail
      refine (prgI.open_ HX.out.1 ht HX.out.2.1 _).mono ?_
      rintro e w2 ⟨rfl, own2, PS2, k2⟩
      have HF := hide (AX.nil PS2 (HX.out.2.2.trans k2))
      clear PS2 k2 q0 q1 q2 HX
      go_wp2_with fail
      go_ret
      rw [HA.out]
      exact ⟨_, own2, rfl, HF.out⟩
  by_cases h2 : pk k 10 = 2
  · have HA := hide (show actsC F st d k a b n = ((moveC F st d (1 + pk a 12) (pk b n)).1, []) by unfold actsC; rw [if_neg h01, if_pos h2])
    rw [h2] at HP2
    clear h2 z0 z1 h01
    go_enter Tryz.func12, Tryz.ntmps12
    go_wp2_with fail
    refine (HP1.out _).mono ?_
    rintro e w' ⟨rfl, rfl⟩
    go_wp2_with fail
    refine (HP2.out _).mono ?_
    rintro e w' ⟨rfl, rfl⟩
    go_wp2_with fail
    refine (HP4.out _).mono ?_
    rintro e w' ⟨rfl, rfl⟩
    go_wp2_with fail
    refine (prgI.move HX.out.1 ht HX.out.2.1 _ _).mono ?_
    rintro e w2 ⟨rfl, own2, PS2, k2⟩
    have HF := hide (AX.nil PS2 (HX.out.2.2.trans k2))
    clear PS2 k2 q0 q1 q2 HX
    go_wp2_with fail
    go_ret
    rw [HA.out]
    exact ⟨_, own2, rfl, HF.out⟩
  by_cases h3 : pk k 10 = 3
  · have HA := hide (show actsC F st d k a b n = ((closeC d (1 + pk a 12)).1, []) by unfold actsC; rw [if_neg h01, if_neg h2, if_pos h3])
    rw [h3] at HP2
    clear h3 z0 z1 h01 h2
    go_enter Tryz.func12, Tryz.ntmps12
    go_wp2_with fail
    refine (HP1.out _).mono ?_
    rintro e w' ⟨rfl, rfl⟩
    go_wp2_with fail
    refine (HP2.out _).mono ?_
    rintro e w' ⟨rfl, rfl⟩
    go_wp2_with fail
    refine (prgI.close HX.out.1 ht HX.out.2.1 _).mono ?_
    rintro e w2 ⟨rfl, own2, PS2, k2⟩
    have HF := hide (AX.nil PS2 (HX.out.2.2.trans k2))
    clear PS2 k2 q0 q1 q2 HX
    go_wp2_with fail
    go_ret
    rw [HA.out]
    exact ⟨_, own2, rfl, HF.out⟩
  by_cases h8 : pk k 10 = 8
  · have HA := hide (show actsC F st d k a b n = ((holdC F d (1 + pk a 12)).1, []) by unfold actsC; rw [if_neg h01, if_neg h2, if_neg h3, if_pos h8])
    rw [h8] at HP2
    clear h8 z0 z1 h01 h2 h3
    go_enter Tryz.func12, Tryz.ntmps12
    go_wp2_with fail
    refine (HP1.out _).mono ?_
    rintro e w' ⟨rfl, rfl⟩
    go_wp2_with fail
    refine (HP2.out _).mono ?_
    rintro e w' ⟨rfl, rfl⟩
    go_wp2_with fail
    refine (prgI.hold HX.out.1 ht HX.out.2.1 _).mono ?_
    rintro e w2 ⟨rfl, own2, PS2, k2⟩
    have HF := hide (AX.nil PS2 (HX.out.2.2.trans k2))
    clear PS2 k2 q0 q1 q2 HX
    go_wp2_with fail
    go_ret
    rw [HA.out]
    exact ⟨_, own2, rfl, HF.out⟩
  by_cases h9 : pk k 10 = 9
  · have HA := hide (show actsC F st d k a b n = ((resumeC F d (1 + pk a 12)).1, []) by unfold actsC; rw [if_neg h01, if_neg h2, if_neg h3, if_neg h8, if_pos h9])
    rw [h9] at HP2
    clear h9 z0 z1 h01 h2 h3 h8
    go_enter Tryz.func12, Tryz.ntmps12
    go_wp2_with fail
    refine (HP1.out _).mono ?_
    rintro e w' ⟨rfl, rfl⟩
    go_wp2_with fail
    refine (HP2.out _).mono ?_
    rintro e w' ⟨rfl, rfl⟩
    go_wp2_with fail
    refine (prgI.resume HX.out.1 ht HX.out.2.1 _).mono ?_
    rintro e w2 ⟨rfl, own2, PS2, k2⟩
    have HF := hide (AX.nil PS2 (HX.out.2.2.trans k2))
    clear PS2 k2 q0 q1 q2 HX
    go_wp2_with fail
    go_ret
    rw [HA.out]
    exact ⟨_, own2, rfl, HF.out⟩
  have HA := hide (show actsC F st d k a b n = ((tickC F st d (pk b 3000)).1, (tickC F st d (pk b 3000)).2.1) by unfold actsC; rw [if_neg h01, if_neg h2, if_neg h3, if_neg h8, if_neg h9])
  generalize pk k 10 = kk at *
  have hh : kk = 4 ∨ kk = 5 ∨ kk = 6 ∨ kk = 7 := by omega
  clear h01 h2 h3 h8 h9 z0 z1
  rcases hh with rfl | rfl | rfl | rfl
  all_goals
    go_enter Tryz.func12, Tryz.ntmps12
    go_wp2_with fail
    refine (HP1.out _).mono ?_
    rintro e w' ⟨rfl, rfl⟩
    go_wp2_with fail
    refine (HP2.out _).mono ?_
    rintro e w' ⟨rfl, rfl⟩
    go_wp2_with fail
    refine (HP5.out _).mono ?_
    rintro e w' ⟨rfl, rfl⟩
    go_wp2_with fail
    refine (prgI.tick HX.out.1 ht HX.out.2.1 _).mono ?_
    rintro e w2 ⟨ov, rfl, hrow, _, own2, PS2, k2, htg⟩
    have HF : Hid (AX own own2 w w2 t p F st ((tickC F st d (pk b 3000)).1, (tickC F st d (pk b 3000)).2.1) ov) := ⟨row_mono hrow hsw, PS2, HX.out.2.2.trans k2, htg⟩
    obtain ⟨oa, on, oc, hov⟩ := ownsRow_form hrow
    subst hov
    clear PS2 k2 q0 q1 q2 HX hrow htg
    go_wp2_with fail
    go_ret
    rw [HA.out]
    exact ⟨_, own2, rfl, HF.out⟩
end
end Go.Proofs.YtcnmbldikjljeaaGreatDoor
namespace Go.Proofs.YtcnmbldikjljeaaGreatDoor

section
variable {F : Nat → Bool} {st : List Stg} {d : Dk} {N : Int}
/-- time in two pieces -/
theorem tick_split (hs : StOk st) {T1 T2 : Int} (h : T1 ≤ T2) : ∀ (m : Nat) (l : List Cs) (k : Int), (∀ x ∈ l, CsOk st x) → leftL st l ≤ m →
    tickGo F st T2 (leftL st l) l k = ((tickGo F st T1 (leftL st l) l k).1 ++ (tickGo F st T2 (leftL st (tickGo F st T1 (leftL st l) l k).2.1) (tickGo F st T1 (leftL st l) l k).2.1 (tickGo F st T1 (leftL st l) l k).2.2).1, (tickGo F st T2 (leftL st (tickGo F st T1 (leftL st l) l k).2.1) (tickGo F st T1 (leftL st l) l k).2.1 (tickGo F st T1 (leftL st l) l k).2.2).2) := by
  intro m
  induction m with
  | zero =>
    intro l k hok hm
    by_cases hc : nextL l < 0 ∨ T1 < (csAt l (nextL l)).due
    · rw [tick_done (T := T1) hc]; simp
    · obtain ⟨i, e, hi, _, _, hok', hlt⟩ := tick_step (F := F) (T := T1) hs hok (by omega) (by omega)
      omega
  | succ m ih =>
    intro l k hok hm
    by_cases hc : nextL l < 0 ∨ T1 < (csAt l (nextL l)).due
    · rw [tick_done (T := T1) hc]; simp
    · obtain ⟨i, e, hi, _, _, hok', hlt⟩ := tick_step (F := F) (T := T1) hs hok (by omega) (by omega)
      have h1 : (csAt l i).due ≤ T1 := by rw [e] at hc; omega
      have m1 := tick_more (F := F) (k := k) hs hok e h1
      have m2 := tick_more (F := F) (k := k) hs hok e (show (csAt l i).due ≤ T2 by omega)
      rw [m1, m2]
      have ih' := ih (l.set i (comesL F st (csAt l i) ((csAt l i).level + 1) (csAt l i).due)) (k + 1) hok' (by omega)
      rw [ih']
      simp
theorem tick_add (hs : StOk st) (ok : DkOk F st d N) {n m : Int} (n0 : 0 ≤ n) (m0 : 0 ≤ m) (h : d.time + n + m ≤ 100800) :
    tickC F st d (n + m) = ((tickC F st (tickC F st d n).1 m).1, (tickC F st d n).2.1 ++ (tickC F st (tickC F st d n).1 m).2.1, 0) := by
  have e1 : tickC F st d n = (⟨d.time + n, d.made, (tickGo F st (d.time + n) (leftL st d.cases) d.cases d.told).2.2, (tickGo F st (d.time + n) (leftL st d.cases) d.cases d.told).2.1⟩, (tickGo F st (d.time + n) (leftL st d.cases) d.cases d.told).1, 0) := by
    unfold tickC; rw [if_neg (by omega)]
  have e2 : tickC F st d (n + m) = (⟨d.time + n + m, d.made, (tickGo F st (d.time + n + m) (leftL st d.cases) d.cases d.told).2.2, (tickGo F st (d.time + n + m) (leftL st d.cases) d.cases d.told).2.1⟩, (tickGo F st (d.time + n + m) (leftL st d.cases) d.cases d.told).1, 0) := by
    unfold tickC; rw [if_neg (by omega), ← Int.add_assoc]
  have hsp := tick_split (F := F) hs (T1 := d.time + n) (T2 := d.time + n + m) (by omega) (leftL st d.cases) d.cases d.told ok.cs (Nat.le_refl _)
  rw [e2, e1]
  dsimp only
  have e3 : ∀ d1 : Dk, d1.time = d.time + n → tickC F st d1 m = (⟨d.time + n + m, d1.made, (tickGo F st (d.time + n + m) (leftL st d1.cases) d1.cases d1.told).2.2, (tickGo F st (d.time + n + m) (leftL st d1.cases) d1.cases d1.told).2.1⟩, (tickGo F st (d.time + n + m) (leftL st d1.cases) d1.cases d1.told).1, 0) := fun d1 hd => by
    unfold tickC; rw [if_neg (by omega), hd]
  rw [e3 _ rfl, hsp]
/-- no time: nothing -/
theorem tick_zero (iv : InvD F d) (t1 : d.time ≤ 100800) : tickC F st d 0 = (d, [], 0) := by
  have hc : nextL d.cases < 0 ∨ d.time + 0 < (csAt d.cases (nextL d.cases)).due := by
    by_cases h : nextL d.cases < 0
    · exact .inl h
    · right
      have hb := nextTo_bd d.cases d.cases.length
      have hi : (nextL d.cases).toNat < d.cases.length := by unfold nextL at *; omega
      have e : nextL d.cases = ((nextL d.cases).toNat : Nat) := by omega
      have hd : 0 ≤ (csAt d.cases (nextL d.cases)).due := hb.2.2 (by unfold nextL at *; omega)
      rw [e] at hd ⊢
      have hm : csAt d.cases ((nextL d.cases).toNat : Nat) ∈ d.cases := by rw [csAt_nat hi]; exact List.getElem_mem hi
      have := (iv.due _ hm hd).1
      omega
  unfold tickC
  rw [if_neg (by omega), tick_done hc, Int.add_zero]
/-- what a docket's call leaves of the time -/
theorem tick_time (n : Int) (h : 0 ≤ n ∧ n ≤ 100800 - d.time) : (tickC F st d n).1.time = d.time + n := by
  unfold tickC; rw [if_neg (by omega)]
end
end Go.Proofs.YtcnmbldikjljeaaGreatDoor
