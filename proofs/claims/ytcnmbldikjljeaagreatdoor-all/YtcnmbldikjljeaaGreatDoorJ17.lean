import Derived.Test.YtcnmbldikjljeaaGreatDoorJ16
import Derived.Deep.AppendLies
import Derived.Deep.RegionLaw
namespace Go.Proofs.YtcnmbldikjljeaaGreatDoor
open Go.RowKit

/-- what a docket's call leaves as it lay: all but its own block and its row of cases; where the row of cases lies then -/
structure Fr (g : Nat) (lv lv' : Value) (w w' : World) : Prop where
  os : w'.os = w.os
  tape : w'.tape = w.tape
  output : w'.output = w.output
  size : w.heap.size ≤ w'.heap.size
  block : ∀ k, k < w.heap.size → k ≠ g → some k ≠ lv.ownBlock → w'.heap[k]? = w.heap[k]?
  row : ∀ k, lv'.ownBlock = some k → lv.ownBlock = some k ∨ w.heap.size ≤ k
section
variable {g : Nat} {lv lv' lv2 : Value} {w u z : World}
theorem Fr.of_below (hb : Below w.heap.size w u) : Fr g lv lv w u := ⟨hb.os, hb.tape, hb.output, hb.size, fun k hk _ _ => hb.block k hk, fun _ h => .inl h⟩
theorem Fr.refl : Fr g lv lv w w := Fr.of_below (Below.refl _ _)
theorem Fr.trans (h : Fr g lv lv' w u) (k : Fr g lv' lv2 u z) : Fr g lv lv2 w z := by
  refine ⟨k.os.trans h.os, k.tape.trans h.tape, k.output.trans h.output, Nat.le_trans h.size k.size, fun j hj h1 h2 => ?_, fun j hj => ?_⟩
  · refine (k.block j (Nat.lt_of_lt_of_le hj h.size) h1 (fun e => ?_)).trans (h.block j hj h1 h2)
    rcases h.row j e.symm with a | a
    · exact h2 a.symm
    · omega
  · rcases k.row j hj with a | a
    · exact h.row j a
    · exact .inr (Nat.le_trans h.size a)
end
section
variable {w u : World} {g c : Nat} {F : Nat → Bool} {st : List Stg} {sv lv : Value} {vs : Nat → Value × Value} {d : Dk}
theorem RD.cg (R : RD w g c F st sv vs lv d) : c ≠ g := by
  rintro rfl
  obtain ⟨q, cap, h1, _⟩ := R.cal.row
  rw [R.c0] at h1
  simp at h1
theorem cssCells_set (l : List Cs) (i : Nat) (hi : i < l.length) (x : Cs) (cur : Array Value) (cur' : Array Value) (ht : cur.toList.take (l.length * 6) = cssCells l)
    (hj : ∀ j, cur'[j]? = if i * 6 ≤ j ∧ j < i * 6 + (csCells x).length then (csCells x)[j - i * 6]? else cur[j]?) : cur'.toList.take (l.length * 6) = cssCells (l.set i x) := by
  apply List.ext_getElem?
  intro j
  by_cases hjl : j < l.length * 6
  · rw [List.getElem?_take_of_lt hjl, Array.getElem?_toList, hj j]
    have hl : (csCells x).length = 6 := rfl
    have ej : j = j / 6 * 6 + j % 6 := by omega
    have hk : j / 6 < l.length := by omega
    have e2 := cssCells_at (l.set i x) (j / 6) (by simpa using hk) (j % 6) (by omega)
    rw [← ej] at e2
    rw [e2]
    by_cases h : i * 6 ≤ j ∧ j < i * 6 + (csCells x).length
    · rw [if_pos h]
      have : j / 6 = i := by omega
      rw [this, show j - i * 6 = j % 6 by omega]
      congr 1
      simp [csAt, hi]
    · rw [if_neg h]
      have hne : j / 6 ≠ i := by omega
      have e3 := cssCells_at l (j / 6) hk (j % 6) (by omega)
      rw [← ej, ← ht, List.getElem?_take_of_lt hjl, Array.getElem?_toList] at e3
      rw [e3]
      congr 2
      unfold csAt
      rw [Int.toNat_natCast, List.getD_eq_getElem?_getD, List.getD_eq_getElem?_getD, List.getElem?_set_ne (Ne.symm hne)]
  · rw [List.getElem?_take_eq_none (by omega), List.getElem?_eq_none (by rw [cssCells_len]; simp; omega)]
/-- a case of the row was written -/
theorem RD.put {q cap : Nat} {x : Cs} (R : RD w g c F st sv vs (.slice (some ⟨q, 0, none⟩) d.cases.length cap) d) (hl : d.cases.length ≤ 1000) (i : Nat) (hi : i < d.cases.length) (P : Put w u q (i * 6) (csCells x)) :
    RD u g c F st sv vs (.slice (some ⟨q, 0, none⟩) d.cases.length cap) { d with cases := d.cases.set i x } ∧ Fr g (.slice (some ⟨q, 0, none⟩) d.cases.length cap) (.slice (some ⟨q, 0, none⟩) d.cases.length cap) w u := by
  have hG := P.grown
  have h0 := R.at 0 (by omega) 0 _ rfl
  rw [Nat.zero_mul] at h0
  have A := R.ca i hi
  rcases R.own.2 with ⟨h', _⟩ | ⟨q', cap', cur, h', hbq, hh, hc1, hc2, hc3, ht⟩
  · cases h'
  simp only [Value.slice.injEq, Option.some.injEq, Addr.mk.injEq, and_true, true_and] at h'
  obtain ⟨rfl, rfl⟩ := h'
  obtain ⟨cur0, cur', p1, p2, p3, p4⟩ := P.blk
  rw [hh] at p1
  cases p1
  have hgq : g ≠ q := by
    rintro rfl
    have := R.blk
    rw [hh] at this
    simp at this
  have hD := R.dr.put A ⟨_, h0⟩ (by omega) hgq P
  refine ⟨⟨(P.other g R.lt hgq).trans R.blk, hD.cal, hD.stg, ⟨by rw [cssCells_len], .inr ⟨q, cap, cur', by simp, hbq, p2, by simpa using hc1, hc2, by rw [p3, hc3], ?_⟩⟩, fun e => (by have h9 := congrArg List.length e; simp at h9; rw [h9] at hi; simp at hi)⟩, ?_⟩
  · have := cssCells_set d.cases i hi x cur cur' ht p4
    simpa using this
  · refine ⟨P.os, P.tape, P.output, P.size, fun k hk _ h2 => P.other k hk (fun e => h2 (by rw [e]; rfl)), fun _ h => .inl h⟩
/-- a number of the docket's own was written -/
theorem RD.num (R : RD w g c F st sv vs lv d) (j : Nat) (x : Int) (d' : Dk) (hc : d'.cases = d.cases)
    (hd : (#[P0 c, sv, .int .i64 d.time, .int .i64 d.made, .int .i64 d.told, lv] : Array Value).setIfInBounds j (.int .i64 x) = #[P0 c, sv, .int .i64 d'.time, .int .i64 d'.made, .int .i64 d'.told, lv]) :
    RD (w.setCell ⟨g, j, none⟩ (.int .i64 x)) g c F st sv vs lv d' ∧ Fr g lv lv w (w.setCell ⟨g, j, none⟩ (.int .i64 x)) := by
  have hG : w.grownBy (w.setCell ⟨g, j, none⟩ (.int .i64 x)) (some g) := ⟨rfl, rfl, rfl, by simp, fun k _ hne => Below.heap_setCell _ _ _ k (fun e => hne (by rw [e]))⟩
  refine ⟨⟨?_, R.cal.left hG R.cg (j := 0) (by omega) R.c0 (fun x => by simp), R.stg.left hG R.blk (by decide) (by decide) (by decide), ?_, fun e => R.nl (by rw [← hc]; exact e)⟩, ?_⟩
  · rw [heap_setCell_same _ _ _ _ _ _ R.blk, hd]
  · rw [hc]; exact row_left R.own hG R.blk (by decide)
  · exact ⟨rfl, rfl, rfl, by simp, fun k _ h1 _ => Below.heap_setCell _ _ _ k h1, fun _ h => .inl h⟩
/-- another row of cases was laid, and stored -/
theorem RD.row {lv' : Value} {l : List Cs} (R : RD w g c F st sv vs lv d) (hg : w.grownBy u lv.ownBlock) (hown : u.ownsRow 0 242 6 lv' l.length (cssCells l)) (hat : ∀ k, lv'.ownBlock = some k → lv.ownBlock = some k ∨ w.heap.size ≤ k) (hnl : l = [] → lv' = .slice none 0 0) :
    u.cell? ⟨g, 5, none⟩ = some lv ∧ u.frozen? ⟨g, 5, none⟩ = false ∧ RD (u.setCell ⟨g, 5, none⟩ lv') g c F st sv vs lv' { d with cases := l } ∧ Fr g lv lv' w (u.setCell ⟨g, 5, none⟩ lv') := by
  have hgq : some g ≠ lv.ownBlock := by
    intro e
    rcases R.own.2 with ⟨rfl, _⟩ | ⟨q, cap, cur, rfl, _, hh, _⟩
    · simp [Value.ownBlock] at e
    · simp [Value.ownBlock] at e
      subst e
      have := R.blk
      rw [hh] at this
      simp at this
  have hblk := (hg.block g R.lt hgq).trans R.blk
  have hcal : RC u c F ∧ SW u sv st vs := by
    rcases R.own.2 with ⟨rfl, _⟩ | ⟨q, cap, cur, rfl, _, hh, _, _, hsz, ht⟩
    · have hb : Below w.heap.size w u := ⟨hg.os, hg.tape, hg.output, hg.size, fun k hk => hg.block k hk (by simp [Value.ownBlock])⟩
      exact ⟨R.cal.on hb, R.stg.on hb⟩
    · have hg2 : w.grownBy u (some q) := hg
      refine ⟨?_, R.stg.left hg2 hh (by decide) (by decide) (by decide)⟩
      by_cases hz : d.cases.length = 0
      · have := R.nl (List.length_eq_zero_iff.1 hz)
        cases this
      · have h0 := R.at 0 (by omega) 0 _ rfl
        rw [Nat.zero_mul] at h0
        have h4 := R.at 0 (by omega) 4 _ rfl
        have hcq : c ≠ q := by
          rintro rfl
          obtain ⟨q2, cap2, h1, _⟩ := R.cal.row
          rw [h0] at h1
          simp at h1
        exact R.cal.left hg2 hcq (by omega) h4 (fun x => by simp)
  have hG : u.grownBy (u.setCell ⟨g, 5, none⟩ lv') (some g) := ⟨rfl, rfl, rfl, by simp, fun k _ hne => Below.heap_setCell _ _ _ k (fun e => hne (by rw [e]))⟩
  have hc0 : u.cell? ⟨g, 0, none⟩ = some (P0 c) := by simp [World.cell?, hblk]
  refine ⟨by simp [World.cell?, hblk], by simp [World.frozen?, hblk], ⟨?_, hcal.1.left hG R.cg (j := 0) (by omega) hc0 (fun x => by simp), hcal.2.left hG hblk (by decide) (by decide) (by decide), row_left hown hG hblk (by decide), hnl⟩, ?_⟩
  · rw [heap_setCell_same _ _ _ _ _ _ hblk]; rfl
  · exact ⟨hg.os, hg.tape, hg.output, by have := hg.size; simpa using this, fun k hk h1 h2 => (Below.heap_setCell _ _ _ k h1).trans (hg.block k hk h2), hat⟩
end
end Go.Proofs.YtcnmbldikjljeaaGreatDoor
namespace Go.Proofs.YtcnmbldikjljeaaGreatDoor
open Go.RowKit

theorem caseInfo : (Tryz.prog.info? 242).map (fun i => (i.zero, i.size, i.bytes)) = some (some (.agg #[.int .i64 0, .int .i64 0, .int .i64 0, .int .i64 0, .bool false, .int .i64 0]), 6, 48) := by kernel_rfl
set_option maxHeartbeats 1000000 in
theorem in_any (n lo hi : Int) (w : World) : Calls Tryz.prog 139 #[.int .i64 n, .int .i64 lo, .int .i64 hi] w fun e w' => e = .returned (.bool (decide (lo ≤ n ∧ n ≤ hi))) ∧ w' = w := by
  go_enter Tryz.func139, Tryz.ntmps139
  go_wp2
  all_goals
    go_ret
    exact ⟨by simp <;> omega, rfl⟩
theorem Put.below {w0 w u : World} {b off : Nat} {vs : List Value} (h : Put w u b off vs) (hb : Below w0.heap.size w0 w) (hlt : w0.heap.size ≤ b) : Below w0.heap.size w0 u :=
  hb.trans ⟨h.os, h.tape, h.output, h.size, fun k hk => h.other k (Nat.lt_of_lt_of_le hk hb.size) (by omega)⟩
section
variable {w : World} {g c : Nat} {F : Nat → Bool} {st : List Stg} {sv lv : Value} {vs : Nat → Value × Value} {d : Dk} {N : Int}
set_option maxRecDepth 100000 in
set_option maxHeartbeats 4000000 in
theorem refDOpen_any (R : RD w g c F st sv vs lv d) (hs : StOk st) (hn : st.length ≤ 6) (ok : DkOk F st d N) (hN : N ≤ 4611686018427387904) (stage : Int) :
    Calls Tryz.prog 94 #[P0 g, .int .i64 stage] w fun e w' => e = .returned (.tuple #[.int .i64 (openC F st d stage).2.1, .int .i64 (openC F st d stage).2.2]) ∧ ∃ lv', RD w' g c F st sv vs lv' (openC F st d stage).1 ∧ Fr g lv lv' w w' := by
  have c1 := R.c1
  have hlen := ok.len
  obtain ⟨sa, scap, hsv⟩ := row_any R.stg.row
  by_cases h1 : 0 ≤ stage ∧ stage < st.length
  · by_cases h2 : 20 ≤ d.cases.length
    · have hE : openC F st d stage = (d, 0, 8) := by unfold openC; rw [if_neg (by omega), if_pos h2]
      rw [hE]
      have HR := hide R
      have hin : decide (0 ≤ stage ∧ stage ≤ (st.length : Int) - 1) = true := by simp; omega
      have HI := hide hin
      obtain ⟨la, lcap, hlv⟩ := row_any R.own
      have c5 := R.c5
      have h2' : 20 ≤ (d.cases.length : Int) := by omega
      clear R hin
      subst hsv hlv
      go_enter Tryz.func94, Tryz.ntmps94
      go_wp2_with fail
      refine (in_any _ _ _ _).mono ?_
      rw [HI.out]
      rintro e u ⟨rfl, rfl⟩
      go_wp2_with fail
      go_ret2
      exact ⟨rfl, _, HR.out, Fr.refl⟩
    · have hE : openC F st d stage = ({ d with made := d.made + 1, cases := d.cases ++ [comesL F st ⟨d.made + 1, stage, 0, 0, false, 0⟩ 0 d.time] }, d.made + 1, 0) := by unfold openC; rw [if_neg (by omega), if_neg h2]
      rw [hE]
      have hin : decide (0 ≤ stage ∧ stage ≤ (st.length : Int) - 1) = true := by simp; omega
      have HI := hide hin
      obtain ⟨la, lcap, hlv⟩ := row_any R.own
      have c5 := R.c5
      have c2 := R.c2
      have c3 := R.c3
      have f3 := R.frz 3
      have h2' : (d.cases.length : Int) < 20 := by omega
      have m0 := ok.m0
      have m1 : d.made ≤ 4611686018427387904 := by have := ok.m1; omega
      obtain ⟨R1, Fr1⟩ := R.num 3 (d.made + 1) { d with made := d.made + 1 } rfl rfl
      have HR1 := hide (And.intro R1 Fr1)
      have hgs := R.lt
      clear R hin R1 Fr1
      subst hsv hlv
      obtain ⟨i0, hi, hz0, hz1, hz2⟩ := info_parts caseInfo
      have HII := hide hi
      clear hi
      go_enter Tryz.func94, Tryz.ntmps94
      go_wp2_with fail
      refine (in_any _ _ _ _).mono ?_
      rw [HI.out]
      rintro e u ⟨rfl, rfl⟩
      go_wp2_with fail
      have hA2 : CA ((u.setCell ⟨g, 3, none⟩ (.int .i64 (d.made + 1))).alloc (Obj.cells #[.int .i64 (d.made + 1), .int .i64 stage, .int .i64 0, .int .i64 0, .bool false, .int .i64 0] 242)) (u.setCell ⟨g, 3, none⟩ (.int .i64 (d.made + 1))).heap.size 0 ⟨d.made + 1, stage, 0, 0, false, 0⟩ := ⟨_, heap_alloc_new _ _, fun j v hv => by rw [Nat.zero_add]; simpa [csCells] using hv⟩
      have hb2 : Below (u.setCell ⟨g, 3, none⟩ (.int .i64 (d.made + 1))).heap.size (u.setCell ⟨g, 3, none⟩ (.int .i64 (d.made + 1))) ((u.setCell ⟨g, 3, none⟩ (.int .i64 (d.made + 1))).alloc (Obj.cells #[.int .i64 (d.made + 1), .int .i64 stage, .int .i64 0, .int .i64 0, .bool false, .int .i64 0] 242)) := (Below.refl _ _).alloc (Nat.le_refl _) _
      have hsz1 : (u.setCell ⟨g, 3, none⟩ (.int .i64 (d.made + 1))).heap.size = u.heap.size := by simp
      generalize (u.setCell ⟨g, 3, none⟩ (.int .i64 (d.made + 1))).alloc (Obj.cells #[.int .i64 (d.made + 1), .int .i64 stage, .int .i64 0, .int .i64 0, .bool false, .int .i64 0] 242) = w2 at *
      generalize u.setCell ⟨g, 3, none⟩ (.int .i64 (d.made + 1)) = w1 at *
      have R2 := HR1.out.1.on hb2
      rw [hsz1] at hA2
      have hne : g ≠ u.heap.size := by omega
      refine (comes_any R2.dr hA2 ⟨_, hA2.cell 0 _ rfl⟩ (by omega) hne hs h1.1 h1.2 0 d.time (by omega) (by omega) ok.t0 ok.t1).mono ?_
      rintro e w3 ⟨rfl, hP⟩
      have hb3 := hP.below hb2 (by omega)
      have R3 := HR1.out.1.on hb3
      have A3 := hP.ca
      have y0 := A3.cell 0 _ rfl
      have y1 := A3.cell 1 _ rfl
      have y2 := A3.cell 2 _ rfl
      have y3 := A3.cell 3 _ rfl
      have y4 := A3.cell 4 _ rfl
      have y5 := A3.cell 5 _ rfl
      simp only [Nat.zero_add] at y0 y1 y2 y3 y4 y5
      have c5' := R3.c5
      have c3' := R3.c3
      have hs3 := hb3.size
      have HR3 := hide R3
      have HF3 := hide (HR1.out.2.trans (Fr.of_below hb3))
      have hxs := A3.lt
      have hg3 : g < w3.heap.size := R3.lt
      clear HR1 R2 hA2 hb2 hb3 R3 A3 hP c1 c2 c3 c5 f3 HI
      generalize hy : comesL F st ⟨d.made + 1, stage, 0, 0, false, 0⟩ 0 d.time = y at *
      have HY := hide hy
      clear hy
      go_wp2_with fail
      go_region_law
        ((refine step_append_lies _ (by rfl) _ _ _ (by rfl) 0 242 i0 _ 6 48 Tryz.underlying238 HII.out hz0 hz1 hz2 rfl (by omega) (.slice la d.cases.length lcap) d.cases.length (cssCells d.cases) (by rfl) (HR3.out.on (((Below.refl _ _).alloc (Nat.le_refl _) _).drew)).own
            ⟨w3.heap.size, 0, none⟩ 1 1 (csCells y) (by rfl) (by rfl) (World.news_of_block (cs := (csCells y).toArray) (t := 242) (fr := (0, 0)) (heap_alloc_new w3 _)) (by simp [Value.oneCell', csCells])
            (by omega) (by unfold maxLen; omega) (by omega) (by simp) (w3.heap.size + 1) (by simp) ?_; intro gg cap w10 hown10 hgrow hat hlt10; obtain ⟨hc10, hf10, R10, F10⟩ := RD.row (l := d.cases ++ [y]) (HR3.out.on (((Below.refl _ _).alloc (Nat.le_refl _) _).drew)) hgrow (lv' := .slice (some ⟨gg, 0, none⟩) (d.cases.length + 1) cap) (by rw [show cssCells (d.cases ++ [y]) = cssCells d.cases ++ csCells y by simp [cssCells], List.length_append]; exact hown10) (fun k hk => by simp [Value.ownBlock] at hk; subst hk; rcases hat with e | e; exact .inl e; exact .inr (by simp; omega)) (by simp)))
      all_goals
        have HR10 := hide (And.intro R10 (HF3.out.trans ((Fr.of_below (((Below.refl _ _).alloc (Nat.le_refl _) _).drew)).trans F10)))
        have c3'' := R10.c3
        clear R10 F10 hown10 hgrow hat hc10 hf10
        go_wp2_with fail
        go_ret2
        refine ⟨rfl, _, ?_, HR10.out.2⟩
        rw [HY.out]; exact HR10.out.1
  · have hE : openC F st d stage = (d, 0, 1) := by unfold openC; rw [if_pos (by omega)]
    rw [hE]
    have HR := hide R
    have hin : decide (0 ≤ stage ∧ stage ≤ (st.length : Int) - 1) = false := by simp; omega
    have HI := hide hin
    clear R hin
    subst hsv
    go_enter Tryz.func94, Tryz.ntmps94
    go_wp2_with fail
    refine (in_any _ _ _ _).mono ?_
    rw [HI.out]
    rintro e u ⟨rfl, rfl⟩
    go_wp2_with fail
    go_ret2
    exact ⟨rfl, _, HR.out, Fr.refl⟩
end
end Go.Proofs.YtcnmbldikjljeaaGreatDoor
