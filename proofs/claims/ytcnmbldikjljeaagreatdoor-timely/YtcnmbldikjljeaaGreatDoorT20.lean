import Derived.Test.YtcnmbldikjljeaaGreatDoorT18
import Derived.Test.YtcnmbldikjljeaaGreatDoorT19
import Derived.Deep.AppendLies
import Derived.StillTailTactics
import Derived.Test.YtcnmbldikjljeaaGreatDoorT09
namespace Go.Proofs.YtcnmbldikjljeaaGreatDoor
open Go.Shelf Go.RowKit Go.Lib Go.Sort Go.MuLone

section
variable {w : World} {p : Nat} {K : Kf} {F : Nat → Bool} {st : List Stg} {lv : Value} {d : Dk} {N : Int}
set_option maxRecDepth 100000 in
set_option maxHeartbeats 1000000 in
theorem close_any (R : PD w p K F st 0 lv d) (ok : DkOk F st d N) (id : Int) :
    Calls Tryz.prog 20 #[P0 p, .int .i64 id] w fun e w' => e = .returned (.int .i64 (closeC d id).2) ∧ ∃ lv', PD w' p K F st 0 lv' (closeC d id).1 ∧ Frm p lv lv' w w' := by
  have hlen := ok.len
  have c0 := R.pr.c0
  have f0 := R.pr.frz 0
  obtain ⟨R1, F1⟩ := R.lock 1
  have H1 := hide (And.intro R1 F1)
  have HI := hide (index_any R1 (by omega) id)
  rcases findL_bd d.cases id with hneg | ⟨i, hi, hil⟩
  · have HV := hide (show closeC d id = (d, 5) by unfold closeC; rw [if_pos hneg])
    clear R R1 F1
    generalize findL d.cases id = f at *
    go_enter_defers Tryz.func20, Tryz.ntmps20
    go_wp2_with (go_at_call 36; refine (lock_free muLib ⟨p, 0, none⟩ _ c0 f0).mono ?_; rintro e w' ⟨rfl, rfl⟩)
    refine HI.out.mono ?_
    rintro e u ⟨rfl, hb⟩
    have H2 := hide (And.intro (H1.out.1.on hb) (H1.out.2.trans (.of_below hb)))
    clear hb H1 c0 f0
    go_wp2_with fail
    refine leaves_cons (f := 37) (args := #[.pointer (some ⟨p, 0, none⟩)]) (by simp) (by simp [go_sem]) ?_
    refine (unlock_deferred muLib ⟨p, 0, none⟩ .returning _ H2.out.1.pr.c0 (H2.out.1.pr.frz 0)).mono ?_
    rintro e u' w'' ⟨rfl, rfl, rfl⟩
    rw [HV.out]
    exact ⟨_, results_tmp rfl _ _ _, rfl, _, H2.out.1.free H2.out.2⟩
  obtain ⟨q, cap, hlv⟩ := row_some R.own (by omega)
  subst hlv
  have hnn : ¬ findL d.cases id < 0 := by omega
  rw [hi] at HI
  have HV := hide (show closeC d id = ({ d with cases := d.cases.eraseIdx i }, 0) by unfold closeC; rw [if_neg hnn, hi, Int.toNat_natCast])
  clear R R1 F1 hnn hi
  go_enter_defers Tryz.func20, Tryz.ntmps20
  go_wp2_with (go_at_call 36; refine (lock_free muLib ⟨p, 0, none⟩ _ c0 f0).mono ?_; rintro e w' ⟨rfl, rfl⟩)
  refine HI.out.mono ?_
  rintro e u ⟨rfl, hb⟩
  have R2 := H1.out.1.on hb
  have c82 := R2.pr.c82
  have H2 := hide (And.intro R2 (H1.out.2.trans (.of_below hb)))
  have hpl := R2.pr.lt
  clear hb H1 c0 f0 R2
  have HDL := hide (delete_any H2.out.1.own hil (by omega))
  go_wp2_with fail
  refine HDL.out.mono ?_
  rintro e u1 ⟨rfl, hg, hown⟩
  have hl2 : (d.cases.eraseIdx i).length = d.cases.length - 1 := List.length_eraseIdx_of_lt hil
  obtain ⟨r1, r2, r3, r4⟩ := H2.out.1.row (l := d.cases.eraseIdx i) (lv' := .slice (some ⟨q, 0, none⟩) (d.cases.length - 1) cap) hg (by rw [hl2]; exact hown) (fun k hk => .inl hk)
  have H3 := hide (And.intro r3 (H2.out.2.trans r4))
  clear r3 r4 hg hown H2 hpl c82
  go_wp2_with fail
  refine leaves_cons (f := 37) (args := #[.pointer (some ⟨p, 0, none⟩)]) (by simp) (by simp [go_sem]) ?_
  refine (unlock_deferred muLib ⟨p, 0, none⟩ .returning _ H3.out.1.pr.c0 (H3.out.1.pr.frz 0)).mono ?_
  rintro e u' w'' ⟨rfl, rfl, rfl⟩
  rw [HV.out]
  exact ⟨_, results_tmp rfl _ _ _, rfl, _, H3.out.1.free H3.out.2⟩
end
end Go.Proofs.YtcnmbldikjljeaaGreatDoor
namespace Go.Proofs.YtcnmbldikjljeaaGreatDoor
open Go.Shelf Go.RowKit Go.Lib Go.Sort Go.MuLone

theorem comes_any_due (F : Nat → Bool) (st : List Stg) (a id stage level t : Int) (held : Bool) : comesL F st ⟨id, stage, 0, a, held, 0⟩ level t = comesL F st ⟨id, stage, 0, 0, held, 0⟩ level t := by
  unfold comesL
  dsimp only
  split
  · rfl
  · unfold armsL; split <;> rfl
section
variable {w : World} {p : Nat} {K : Kf} {F : Nat → Bool} {st : List Stg} {lv : Value} {d : Dk} {N : Int}
theorem PutR.below {w w2 w3 : World} {b off n : Nat} {vs : List Value} (h : PutR w2 w3 b off vs) (hb : Below n w w2) (hn : n ≤ b) (hs : n ≤ w2.heap.size) : Below n w w3 :=
  ⟨h.os.trans hb.os, h.tape.trans hb.tape, h.output.trans hb.output, Nat.le_trans hb.size h.size, fun k hk => (h.other k (Nat.lt_of_lt_of_le hk hs) (by omega)).trans (hb.block k hk)⟩
set_option maxRecDepth 100000 in
set_option maxHeartbeats 2000000 in
theorem open_no (R : PD w p K F st 0 lv d) (stage : Int) (h : ¬ (0 ≤ stage ∧ stage < st.length)) :
    Calls Tryz.prog 17 #[P0 p, .int .i64 stage] w fun e w' => e = .returned (.tuple #[.int .i64 0, .int .i64 1]) ∧ PD w' p K F st 0 lv d ∧ Frm p lv lv w w' := by
  have c0 := R.pr.c0
  have f0 := R.pr.frz 0
  obtain ⟨R1, F1⟩ := R.lock 1
  have H1 := hide (And.intro R1 F1)
  have HIS := hide (fun u => isStage_any stage st.length u)
  rw [show decide (0 ≤ stage ∧ stage < (st.length : Int)) = false by simpa using h] at HIS
  have c79 := R1.pr.c79
  obtain ⟨sa, scap, hsv⟩ := row_any R1.pr.stg.row
  rw [hsv] at c79
  clear R R1 F1 h
  go_enter_defers Tryz.func17, Tryz.ntmps17
  go_wp2_with (go_at_call 36; refine (lock_free muLib ⟨p, 0, none⟩ _ c0 f0).mono ?_; rintro e w' ⟨rfl, rfl⟩)
  refine (HIS.out _).mono ?_
  rintro e u ⟨rfl, rfl⟩
  go_wp2_with fail
  refine leaves_cons (f := 37) (args := #[.pointer (some ⟨p, 0, none⟩)]) (by simp) (by simp [go_sem]) ?_
  refine (unlock_deferred muLib ⟨p, 0, none⟩ .returning _ H1.out.1.pr.c0 (H1.out.1.pr.frz 0)).mono ?_
  rintro e u' w'' ⟨rfl, rfl, rfl⟩
  exact ⟨_, results_tmp2 rfl _ _ _, rfl, H1.out.1.free H1.out.2⟩
set_option maxRecDepth 100000 in
set_option maxHeartbeats 2000000 in
theorem open_full (R : PD w p K F st 0 lv d) (stage : Int) (h : 0 ≤ stage ∧ stage < st.length) (hf : 20 ≤ d.cases.length) :
    Calls Tryz.prog 17 #[P0 p, .int .i64 stage] w fun e w' => e = .returned (.tuple #[.int .i64 0, .int .i64 8]) ∧ PD w' p K F st 0 lv d ∧ Frm p lv lv w w' := by
  have c0 := R.pr.c0
  have f0 := R.pr.frz 0
  obtain ⟨R1, F1⟩ := R.lock 1
  have H1 := hide (And.intro R1 F1)
  have HIS := hide (fun u => isStage_any stage st.length u)
  rw [show decide (0 ≤ stage ∧ stage < (st.length : Int)) = true by simpa using h] at HIS
  have c79 := R1.pr.c79
  have c82 := R1.pr.c82
  obtain ⟨sa, scap, hsv⟩ := row_any R1.pr.stg.row
  obtain ⟨la, lcap, hlv⟩ := row_any R1.own
  subst hlv
  rw [hsv] at c79
  have hf' : (20 : Int) ≤ d.cases.length := by omega
  clear R R1 F1 h
  go_enter_defers Tryz.func17, Tryz.ntmps17
  go_wp2_with (go_at_call 36; refine (lock_free muLib ⟨p, 0, none⟩ _ c0 f0).mono ?_; rintro e w' ⟨rfl, rfl⟩)
  refine (HIS.out _).mono ?_
  rintro e u ⟨rfl, rfl⟩
  go_wp2_with fail
  refine leaves_cons (f := 37) (args := #[.pointer (some ⟨p, 0, none⟩)]) (by simp) (by simp [go_sem]) ?_
  refine (unlock_deferred muLib ⟨p, 0, none⟩ .returning _ H1.out.1.pr.c0 (H1.out.1.pr.frz 0)).mono ?_
  rintro e u' w'' ⟨rfl, rfl, rfl⟩
  exact ⟨_, results_tmp2 rfl _ _ _, rfl, H1.out.1.free H1.out.2⟩
end
end Go.Proofs.YtcnmbldikjljeaaGreatDoor
namespace Go.Proofs.YtcnmbldikjljeaaGreatDoor
open Go.Shelf Go.RowKit Go.Lib Go.Sort Go.MuLone

section
variable {w : World} {p : Nat} {K : Kf} {F : Nat → Bool} {st : List Stg} {lv : Value} {d : Dk} {N : Int}
set_option maxRecDepth 100000 in
set_option maxHeartbeats 2000000 in
theorem open_yes (R : PD w p K F st 0 lv d) (ok : DkOk F st d 4611686018427387000) (hs : StOk st) (stage : Int) (h : 0 ≤ stage ∧ stage < st.length) (hf : d.cases.length < 20) :
    Calls Tryz.prog 17 #[P0 p, .int .i64 stage] w fun e w' => e = .returned (.tuple #[.int .i64 (d.made + 1), .int .i64 0]) ∧ ∃ lv', PD w' p K F st 0 lv' { d with made := d.made + 1, cases := d.cases ++ [comesL F st ⟨d.made + 1, stage, 0, 0, false, 0⟩ 0 d.time] } ∧ Frm p lv lv' w w' := by
  have c0 := R.pr.c0
  have f0 := R.pr.frz 0
  obtain ⟨R1, F1⟩ := R.lock 1
  obtain ⟨R2, F2⟩ := R1.made (d.made + 1)
  have H2 := hide (And.intro R2 (F1.trans F2))
  have HIS := hide (fun u => isStage_any stage st.length u)
  rw [show decide (0 ≤ stage ∧ stage < (st.length : Int)) = true by simpa using h] at HIS
  have c79 := R1.pr.c79
  have c81 := R1.pr.c81
  have c82 := R1.pr.c82
  have f81 := R1.pr.frz 81
  obtain ⟨sa, scap, hsv⟩ := row_any R1.pr.stg.row
  obtain ⟨la, lcap, hlv⟩ := row_any R1.own
  subst hlv
  rw [hsv] at c79
  have hf' : (d.cases.length : Int) < 20 := by omega
  have m0 := ok.m0
  have m1 : d.made ≤ 4611686018427387904 := by have := ok.m1; omega
  have hpl := R.pr.lt
  have HPL := hide hpl
  have HNB : Hid (∀ k, (Value.slice la d.cases.length lcap).ownBlock = some k → k = w.heap.size → False) := fun k hk e => by have := (R.own.lt k hk).2; omega
  obtain ⟨i0, hi, hz0, hz1, hz2⟩ := info_parts recInfo
  have HII := hide hi
  clear R R1 F1 R2 F2 hi hpl
  go_enter_defers Tryz.func17, Tryz.ntmps17
  go_wp2_with (go_at_call 36; refine (lock_free muLib ⟨p, 0, none⟩ _ c0 f0).mono ?_; rintro e w' ⟨rfl, rfl⟩)
  refine (HIS.out _).mono ?_
  rintro e u ⟨rfl, rfl⟩
  clear HIS c0 f0
  go_wp2_with fail
  obtain ⟨W1, hW1⟩ : ∃ W1, (w.setCell ⟨p, 0, none⟩ (.int .i32 1)).setCell ⟨p, 81, none⟩ (.int .i64 (d.made + 1)) = W1 := ⟨_, rfl⟩
  have hsz : W1.heap.size = w.heap.size := by rw [← hW1]; simp
  rw [hW1] at H2 ⊢
  clear hW1 c79 c81 c82 f81
  have hb2 : Below W1.heap.size W1 (W1.alloc (Obj.cells #[.int .i64 (d.made + 1), .int .i64 0, .int .i64 0, .int .i64 0, .int .i64 0, .int .i64 0, .bool false] 119)) := (Below.refl _ _).alloc (Nat.le_refl _) _
  have hA2 : RA (W1.alloc (Obj.cells #[.int .i64 (d.made + 1), .int .i64 0, .int .i64 0, .int .i64 0, .int .i64 0, .int .i64 0, .bool false] 119)) W1.heap.size 0 (rcCells ⟨d.made + 1, 0, 0, -1, false, 0⟩) := ⟨_, heap_alloc_new _ _, fun j v hv => by rw [Nat.zero_add]; simpa [rcCells, crs, dueC] using hv⟩
  rw [hsz] at hA2
  generalize W1.alloc (Obj.cells #[.int .i64 (d.made + 1), .int .i64 0, .int .i64 0, .int .i64 0, .int .i64 0, .int .i64 0, .bool false] 119) = w2 at *
  have R2 := H2.out.1.on hb2
  refine (enter_any R2.pr hA2 hs stage h.1 h.2 ok.t0 ok.t1).mono ?_
  rintro e w3 ⟨rfl, hP⟩
  have hb3 : Below W1.heap.size W1 w3 := hP.below hb2 (by omega) hb2.size
  have R3 := H2.out.1.on hb3
  have A3 := hP.ra
  dsimp only at A3
  rw [comes_any_due] at A3
  generalize hy : comesL F st ⟨d.made + 1, stage, 0, 0, false, 0⟩ 0 d.time = y at *
  have y0 := A3.cell 0 _ rfl
  have y1 := A3.cell 1 _ rfl
  have y2 := A3.cell 2 _ rfl
  have y3 := A3.cell 3 _ rfl
  have y4 := A3.cell 4 _ rfl
  have y5 := A3.cell 5 _ rfl
  have y6 := A3.cell 6 _ rfl
  simp only [Nat.zero_add] at y0 y1 y2 y3 y4 y5 y6
  have hyid : y.id = d.made + 1 := by rw [← hy]; exact (comes_stage (F := F) (st := st) (x := ⟨d.made + 1, stage, 0, 0, false, 0⟩) (level := 0) (t := d.time)).2.2.2
  have HYID := hide hyid
  have c82' := R3.pr.c82
  have hs3 := hb3.size
  have HR3 := hide R3
  have HF3 := hide (H2.out.2.trans (Frm.of_below hb3))
  have hxs := A3.lt
  have hg3 : p < w3.heap.size := R3.pr.lt
  have HY := hide hy
  have HA3 := hide A3
  clear H2 R2 hA2 hb2 hb3 R3 A3 hP hy hyid
  go_wp2_with fail
  refine wp_region_noPanic ?_
  go_region_law
    ((refine step_append_lies _ (by rfl) _ _ _ (by rfl) 0 119 i0 _ 7 56 Tryz.underlying107 HII.out hz0 hz1 hz2 rfl (by omega) (.slice la d.cases.length lcap) d.cases.length (rcsCells d.cases) (by rfl) (HR3.out.on (((Below.refl _ _).alloc (Nat.le_refl _) _).drew)).own
        ⟨w3.heap.size, 0, none⟩ 1 1 (rcCells y) (by rfl) (by rfl) (World.news_of_block (cs := (rcCells y).toArray) (t := 119) (fr := (0, 0)) (heap_alloc_new w3 _)) (by simp [Value.oneCell', rcCells])
        (by omega) (by unfold maxLen; omega) (by omega) (by simp) (w3.heap.size + 1) (by simp) ?_; intro gg cap w10 hown10 hgrow hat hlt10; obtain ⟨hc10, hf10, R10, F10⟩ := PD.row (l := d.cases ++ [y]) (HR3.out.on (((Below.refl _ _).alloc (Nat.le_refl _) _).drew)) hgrow (lv' := .slice (some ⟨gg, 0, none⟩) (d.cases.length + 1) cap) (by rw [show rcsCells (d.cases ++ [y]) = rcsCells d.cases ++ rcCells y by simp [rcsCells], List.length_append]; exact hown10) (fun k hk => by simp [Value.ownBlock] at hk; subst hk; rcases hat with e | e; exact .inl e; exact .inr (by simp; omega))))
  all_goals
    refine NoPanic.normal ?_
    have HR10 := hide (And.intro R10 (HF3.out.trans ((Frm.of_below (((Below.refl _ _).alloc (Nat.le_refl _) _).drew)).trans F10)))
    have y0' : (w10.setCell ⟨p, 82, none⟩ (.slice (some ⟨gg, 0, none⟩) (d.cases.length + 1) cap)).cell? ⟨w.heap.size, 0, none⟩ = some (.int .i64 y.id) := by
      have hpw := HPL.out
      rw [World.cell?_setCell_other _ _ _ _ (fun e => by have := congrArg Addr.block e; simp only at this; omega)]
      have hne : some w.heap.size ≠ (Value.slice la d.cases.length lcap).ownBlock := fun e => HNB.out w.heap.size e.symm rfl
      have hk := hgrow.block w.heap.size (Nat.lt_of_lt_of_le hxs (by simp)) hne
      rw [World.cell?_of_block (a := ⟨w.heap.size, 0, none⟩) hk]
      exact (((Below.refl w3.heap.size w3).alloc (Nat.le_refl _) _).drew.cell (p := ⟨w.heap.size, 0, none⟩) hxs).trans y0
    rw [HYID.out] at y0'
    clear R10 F10 hown10 hgrow hat hc10 hf10
    go_wp2_with fail
    refine leaves_cons (f := 37) (args := #[.pointer (some ⟨p, 0, none⟩)]) (by simp) (by simp [go_sem]) ?_
    refine (unlock_deferred muLib ⟨p, 0, none⟩ .returning _ HR10.out.1.pr.c0 (HR10.out.1.pr.frz 0)).mono ?_
    rintro e u' w'' ⟨rfl, rfl, rfl⟩
    have hfr := HR10.out.1.free HR10.out.2
    rw [← HY.out] at hfr
    exact ⟨_, results_tmp2 rfl _ _ _, rfl, _, hfr⟩
end
end Go.Proofs.YtcnmbldikjljeaaGreatDoor
namespace Go.Proofs.YtcnmbldikjljeaaGreatDoor
open Go.Shelf Go.RowKit Go.Lib Go.Sort

section
variable {w : World} {p b off : Nat} {K : Kf} {F : Nat → Bool} {st : List Stg} {lk t m : Int} {lv : Value} {k : Int} {x : Cs}
theorem PutR.then {w u z : World} {b off : Nat} {vs : List Value} (h : PutR w u b off vs) (hb : Below w.heap.size u z) : PutR w z b off vs := by
  obtain ⟨cur, cur', h1, h2, h3, h4⟩ := h.blk
  have hbl : b < w.heap.size := (Array.getElem?_eq_some_iff.1 h1).1
  exact ⟨hb.os.trans h.os, hb.tape.trans h.tape, hb.output.trans h.output, Nat.le_trans h.size hb.size, fun k hk hne => (hb.block k hk).trans (h.other k hk hne), cur, cur', h1, (hb.block b hbl).trans h2, h3, h4⟩
set_option maxRecDepth 100000 in
set_option maxHeartbeats 16000000 in
theorem tell_any (R : PR w p K F st lk t m lv k) (A : RA w b off (rcCells x)) (hs : StOk st) (hx : CsOk st x) (hd : 0 ≤ x.due) (hr : x.rest = 0) (k0 : 0 ≤ k) (k1 : k ≤ 4611686018427387904) :
    Calls Tryz.prog 40 #[P0 p, .pointer (some ⟨b, off, none⟩)] w fun e w' => e = .returned (evV (evOf st x (k + 1))) ∧ PR w' p K F st lk t m lv (k + 1) ∧ PutR (w.setCell ⟨p, 83, none⟩ (.int .i64 (k + 1))) w' b off (rcCells (comesL F st x (x.level + 1) x.due)) := by
  obtain ⟨i, hi⟩ : ∃ i : Nat, x.stage = i := ⟨x.stage.toNat, by have := hx.s0; omega⟩
  have hil : i < st.length := by have := hx.s1; omega
  have hil' : (i : Int) < st.length := by omega
  obtain ⟨j, hj⟩ : ∃ j : Nat, x.level = j := ⟨x.level.toNat, by have := hx.l0; omega⟩
  have hjl : j < (stAt st i).levels.length := by have := hx.dl hd; rw [hi] at this; omega
  have hjl' : (j : Int) < (stAt st i).levels.length := by omega
  have hrow := R.stg.row
  obtain ⟨sq, scap, hsv⟩ := row_someP hrow (by omega)
  have hlev := R.stg.lev i hil (by omega)
  obtain ⟨lq, lcap, hls⟩ := row_someP hlev (by omega)
  have hW : (lvAt (stAt st x.stage) x.level).2 = (stAt st i).levels[j].2 := by
    rw [hi, hj]; unfold lvAt; simp [hjl]
  obtain ⟨wo, hwo⟩ : ∃ wo, w.alloc (Obj.cells #[.int .i64 0, .int .i64 0, .int .i64 0, .int .i64 0, .int .i64 0, .int .i64 0] 63) = wo := ⟨_, rfl⟩
  have hb0 : Below w.heap.size w wo := by rw [← hwo]; exact (Below.refl _ _).alloc (Nat.le_refl _) _
  have R1 := R.on hb0
  have A1 := A.on hb0
  have c79 := R1.c79
  rw [hsv] at c79 hrow
  have c83 := R1.c83
  have f83 := R1.frz 83
  have d0 : wo.cell? ⟨b, off, none⟩ = some (.int .i64 x.id) := A1.cell 0 _ rfl
  have d1 := A1.cell 1 _ rfl
  have d3 := A1.cell 3 _ rfl
  have d4 := A1.cell 4 _ rfl
  rw [hi] at d1
  rw [hj] at d3
  rw [show dueC x = x.due by unfold dueC; rw [if_pos hd]] at d4
  have cs0 := (hrow.cellAt (i * 7) (by omega)).trans (sgCells_lev K.ls st i hil)
  rw [hls] at cs0 hlev
  have cl0 := (hlev.cellAt (j * 2 + 1) (by omega)).trans (flat_at _ j hjl).2
  have cs := (hb0.cell (p := ⟨sq, i * 7, none⟩) (World.block_lt_of_cell? _ _ cs0)).trans cs0
  have cl := (hb0.cell (p := ⟨lq, j * 2 + 1, none⟩) (World.block_lt_of_cell? _ _ cl0)).trans cl0
  have hne := R.ne A
  have hpl := R1.lt
  have hbl := A1.lt
  have hsz : wo.heap.size = w.heap.size + 1 := by rw [← hwo]; simp
  have n1 := R.ne_row hrow (by decide)
  have n2 := R.ne_row hlev (by decide)
  have n3 : w.heap.size + 1 ≠ sq := by have := World.block_lt_of_cell? _ _ cs0; simp only at this; omega
  have n4 : w.heap.size + 1 ≠ lq := by have := World.block_lt_of_cell? _ _ cl0; simp only at this; omega
  have fa : ∀ o : Obj, (wo.alloc o).frozen? ⟨p, 83, none⟩ = false := fun o => ((Below.refl wo.heap.size wo).alloc (Nat.le_refl _) o |>.frozen (p := ⟨p, 83, none⟩) hpl).trans f83
  have hWo := hide hwo
  have HR := hide (And.intro R A)
  have HX := hide (And.intro hx hi)
  have HJ := hide hj
  have HW := hide hW
  generalize (stAt st i).levels[j].2 = who at *
  generalize (stAt st i).levels.length = nl at *
  clear R A R1 A1 hrow hlev cs0 cl0 hx hi
  have hadd := hide (fun (u : World) (h1 : u.cell? ⟨p, 83, none⟩ = some (.int .i64 k)) (h2 : u.frozen? ⟨p, 83, none⟩ = false) => aAdd_any h1 h2 k0 k1)
  go_enter Tryz.func40, Tryz.ntmps40
  go_wp2_with fail
  clear hwo
  go_region_held3 (fun w' => w'.cell? ⟨p, 79, none⟩ = some (.slice (some ⟨sq, 0, none⟩) st.length scap) ∧ w'.cell? ⟨b, off, none⟩ = some (.int .i64 x.id) ∧ w'.cell? ⟨b, off + 1, none⟩ = some (.int .i64 i) ∧ w'.cell? ⟨b, off + 3, none⟩ = some (.int .i64 j) ∧ w'.cell? ⟨b, off + 4, none⟩ = some (.int .i64 x.due) ∧ w'.cell? ⟨sq, i * 7, none⟩ = some (.slice (some ⟨lq, 0, none⟩) nl lcap) ∧ w'.cell? ⟨lq, j * 2 + 1, none⟩ = some (.int .i64 who)) ((simp [*, World.cell?_alloc_some, World.cell?_setCell_far, World.cell?_setCell_other]; done))
    (first | (go_at_call 71; refine (hadd.out _ (by go_keep) (by go_keep)).mono ?_; rintro e w' ⟨rfl, rfl⟩))
  · generalize hW2 : World.drew _ = W2
    have HE := hide (tell_w1 (w := w) (wo := wo) (W2 := W2) (p := p) (k := k) (due := x.due) (id := x.id) (i := i) (j := j) (who := who) (cur := dArr lk K t m lv k) (e := 113) hWo.out HR.out.1.blk hW2)
    clear hW2
    have R2 := (HR.out.1.told (k + 1)).on (by simpa using HE.out.1)
    have A2 := (HR.out.2.set_other (j := 83) (v := .int .i64 (k + 1)) hne).on (by simpa using HE.out.1)
    have z3 := A2.cell 3 _ rfl
    have z4 := A2.cell 4 _ rfl
    rw [show dueC x = x.due by unfold dueC; rw [if_pos hd]] at z4
    have hl0 := HX.out.1.l0
    have hl1 := HX.out.1.l1
    have hwr : IntKind.i64.wrap (x.level + 1) = x.level + 1 := IntWalk.i64_in _ (by omega)
    have HAW := hide (await_any (R2.on (below_drewN (Below.refl _ _) 1)) (A2.on (below_drewN (Below.refl _ _) 1)) hs HX.out.1.s0 HX.out.1.s1 (x.level + 1) x.due (by omega) (by omega) hd HX.out.1.d1)
    have HA2 := hide A2
    clear R2 A2 c79 c83 f83 d0 d1 d3 d4 cs cl fa hadd hj hjl' hjl
    go_wp2_with fail
    go_still_tail 11, (by kernel_rfl)
    go_wp2_with fail
    refine HAW.out.mono ?_
    rintro e u ⟨rfl, hp⟩
    have hP1 := (HA2.out.put (below_drewN (Below.refl _ _) 1)).trans hp rfl
    have hsz2 : w.heap.size + 1 < W2.heap.size := (Array.getElem?_eq_some_iff.1 HE.out.2.2).1
    have hbw := HR.out.2.lt
    have x0 := (hP1.other w.heap.size (by omega) (by omega)).trans HE.out.2.1
    have x1 := (hP1.other (w.heap.size + 1) (by omega) (by omega)).trans HE.out.2.2
    have hPW : PutR (w.setCell ⟨p, 83, none⟩ (.int .i64 (k + 1))) u b off (rcCells (comesL F st { x with rest := 0 } (x.level + 1) x.due)) := ((HR.out.2.set_other (j := 83) (v := .int .i64 (k + 1)) hne).put (by simpa using HE.out.1)).trans hP1 rfl
    rw [show ({ x with rest := 0 } : Cs) = x by rw [← hr]] at hPW
    have HPW := hide hPW
    have t0 : u.cell? ⟨w.heap.size + 1, 0, none⟩ = some (.int .i64 (k + 1)) := by simp [World.cell?, x1]
    have t1 : u.cell? ⟨w.heap.size + 1, 1, none⟩ = some (.int .i64 x.due) := by simp [World.cell?, x1]
    have t2 : u.cell? ⟨w.heap.size + 1, 2, none⟩ = some (.int .i64 x.id) := by simp [World.cell?, x1]
    have t3 : u.cell? ⟨w.heap.size + 1, 3, none⟩ = some (.int .i64 i) := by simp [World.cell?, x1]
    have t4 : u.cell? ⟨w.heap.size + 1, 4, none⟩ = some (.int .i64 j) := by simp [World.cell?, x1]
    have t5 : u.cell? ⟨w.heap.size + 1, 5, none⟩ = some (.int .i64 who) := by simp [World.cell?, x1]
    have s0 : u.cell? ⟨w.heap.size, 0, none⟩ = some (.int .i64 0) := by simp [World.cell?, x0]
    have s1 : u.cell? ⟨w.heap.size, 1, none⟩ = some (.int .i64 0) := by simp [World.cell?, x0]
    have s2 : u.cell? ⟨w.heap.size, 2, none⟩ = some (.int .i64 0) := by simp [World.cell?, x0]
    have s3 : u.cell? ⟨w.heap.size, 3, none⟩ = some (.int .i64 0) := by simp [World.cell?, x0]
    have s4 : u.cell? ⟨w.heap.size, 4, none⟩ = some (.int .i64 0) := by simp [World.cell?, x0]
    have s5 : u.cell? ⟨w.heap.size, 5, none⟩ = some (.int .i64 0) := by simp [World.cell?, x0]
    have sf : ∀ j, u.frozen? ⟨w.heap.size, j, none⟩ = false := fun j => by simp [World.frozen?, x0]
    have HZ : Hid (Below w.heap.size u (six u w.heap.size (.int .i64 (k + 1)) (.int .i64 x.due) (.int .i64 x.id) (.int .i64 i) (.int .i64 j) (.int .i64 who))) := six_below _ _ _ _ _ _ (Below.refl _ _) (Nat.le_refl _)
    have HEV : Hid (evV (evOf st x (k + 1)) = .agg #[.int .i64 (k + 1), .int .i64 x.due, .int .i64 x.id, .int .i64 i, .int .i64 j, .int .i64 who]) := by
      unfold Hid evV evOf
      dsimp only
      rw [HW.out, HX.out.2, HJ.out]
    clear hp hP1 x0 x1 hPW z3 z4 HE HAW HA2
    go_wp2_with fail
    refine bodyPost_ret (v := .agg #[.int .i64 (k + 1), .int .i64 x.due, .int .i64 x.id, .int .i64 i, .int .i64 j, .int .i64 who]) (by simp [results, Tryz.f40, go_sem, s0, s1, s2, s3, s4, s5]) rfl ?_
    rw [HEV.out]
    have HP3 := HPW.out.then (by simpa using HZ.out)
    unfold six at HP3
    exact ⟨rfl, (HR.out.1.told (k + 1)).put HP3, HP3⟩
  · generalize hW2 : World.drew _ = W2
    have HE := hide (tell_w (w := w) (wo := wo) (W2 := W2) (p := p) (k := k) (due := x.due) (id := x.id) (i := i) (j := j) (who := who) (cur := dArr lk K t m lv k) (e := 113) hWo.out HR.out.1.blk (by unfold six; exact hW2))
    clear hW2
    have R2 := (HR.out.1.told (k + 1)).on (by simpa using HE.out.1)
    have A2 := (HR.out.2.set_other (j := 83) (v := .int .i64 (k + 1)) hne).on (by simpa using HE.out.1)
    have z3 := A2.cell 3 _ rfl
    have z4 := A2.cell 4 _ rfl
    rw [show dueC x = x.due by unfold dueC; rw [if_pos hd]] at z4
    have hl0 := HX.out.1.l0
    have hl1 := HX.out.1.l1
    have hwr : IntKind.i64.wrap (x.level + 1) = x.level + 1 := IntWalk.i64_in _ (by omega)
    have HAW := hide (await_any (R2.on (below_drewN (Below.refl _ _) 1)) (A2.on (below_drewN (Below.refl _ _) 1)) hs HX.out.1.s0 HX.out.1.s1 (x.level + 1) x.due (by omega) (by omega) hd HX.out.1.d1)
    have HA2 := hide A2
    clear R2 A2 c79 c83 f83 d0 d1 d3 d4 cs cl fa hadd hj hjl' hjl
    go_wp2_with fail
    go_still_tail 11, (by kernel_rfl)
    go_wp2_with fail
    refine HAW.out.mono ?_
    rintro e u ⟨rfl, hp⟩
    have hP1 := (HA2.out.put (below_drewN (Below.refl _ _) 1)).trans hp rfl
    have hsz2 : w.heap.size + 1 < W2.heap.size := (Array.getElem?_eq_some_iff.1 HE.out.2.2).1
    have hbw := HR.out.2.lt
    have x0 := (hP1.other w.heap.size (by omega) (by omega)).trans HE.out.2.1
    have x1 := (hP1.other (w.heap.size + 1) (by omega) (by omega)).trans HE.out.2.2
    have hPW : PutR (w.setCell ⟨p, 83, none⟩ (.int .i64 (k + 1))) u b off (rcCells (comesL F st { x with rest := 0 } (x.level + 1) x.due)) := ((HR.out.2.set_other (j := 83) (v := .int .i64 (k + 1)) hne).put (by simpa using HE.out.1)).trans hP1 rfl
    rw [show ({ x with rest := 0 } : Cs) = x by rw [← hr]] at hPW
    have HPW := hide hPW
    have t0 : u.cell? ⟨w.heap.size + 1, 0, none⟩ = some (.int .i64 (k + 1)) := by simp [World.cell?, x1]
    have t1 : u.cell? ⟨w.heap.size + 1, 1, none⟩ = some (.int .i64 x.due) := by simp [World.cell?, x1]
    have t2 : u.cell? ⟨w.heap.size + 1, 2, none⟩ = some (.int .i64 x.id) := by simp [World.cell?, x1]
    have t3 : u.cell? ⟨w.heap.size + 1, 3, none⟩ = some (.int .i64 i) := by simp [World.cell?, x1]
    have t4 : u.cell? ⟨w.heap.size + 1, 4, none⟩ = some (.int .i64 j) := by simp [World.cell?, x1]
    have t5 : u.cell? ⟨w.heap.size + 1, 5, none⟩ = some (.int .i64 who) := by simp [World.cell?, x1]
    have s0 : u.cell? ⟨w.heap.size, 0, none⟩ = some (.int .i64 0) := by simp [World.cell?, x0]
    have s1 : u.cell? ⟨w.heap.size, 1, none⟩ = some (.int .i64 0) := by simp [World.cell?, x0]
    have s2 : u.cell? ⟨w.heap.size, 2, none⟩ = some (.int .i64 0) := by simp [World.cell?, x0]
    have s3 : u.cell? ⟨w.heap.size, 3, none⟩ = some (.int .i64 0) := by simp [World.cell?, x0]
    have s4 : u.cell? ⟨w.heap.size, 4, none⟩ = some (.int .i64 0) := by simp [World.cell?, x0]
    have s5 : u.cell? ⟨w.heap.size, 5, none⟩ = some (.int .i64 0) := by simp [World.cell?, x0]
    have sf : ∀ j, u.frozen? ⟨w.heap.size, j, none⟩ = false := fun j => by simp [World.frozen?, x0]
    have HZ : Hid (Below w.heap.size u (six u w.heap.size (.int .i64 (k + 1)) (.int .i64 x.due) (.int .i64 x.id) (.int .i64 i) (.int .i64 j) (.int .i64 who))) := six_below _ _ _ _ _ _ (Below.refl _ _) (Nat.le_refl _)
    have HEV : Hid (evV (evOf st x (k + 1)) = .agg #[.int .i64 (k + 1), .int .i64 x.due, .int .i64 x.id, .int .i64 i, .int .i64 j, .int .i64 who]) := by
      unfold Hid evV evOf
      dsimp only
      rw [HW.out, HX.out.2, HJ.out]
    clear hp hP1 x0 x1 hPW z3 z4 HE HAW HA2
    go_wp2_with fail
    refine bodyPost_ret (v := .agg #[.int .i64 (k + 1), .int .i64 x.due, .int .i64 x.id, .int .i64 i, .int .i64 j, .int .i64 who]) (by simp [results, Tryz.f40, go_sem, s0, s1, s2, s3, s4, s5]) rfl ?_
    rw [HEV.out]
    have HP3 := HPW.out.then (by simpa using HZ.out)
    unfold six at HP3
    exact ⟨rfl, (HR.out.1.told (k + 1)).put HP3, HP3⟩
end
end Go.Proofs.YtcnmbldikjljeaaGreatDoor
namespace Go.Proofs.YtcnmbldikjljeaaGreatDoor
open Go.Shelf Go.RowKit Go.Lib Go.Sort Go.MuLone

def qOf (lv : Value) : Nat := lv.ownBlock.getD 0
section
variable {w wr u : World} {p : Nat} {K : Kf} {F : Nat → Bool} {st : List Stg} {lv : Value} {d : Dk} {N : Int} {lk : Int}
theorem firstP_any (R : PD w p K F st lk lv d) (hl : d.cases.length ≤ 1000) (hids : (d.cases.map Cs.id).Pairwise (· < ·)) :
    Calls Tryz.prog 39 #[P0 p] w fun e w' => e = .returned (ptrAt (qOf lv) (nextL d.cases)) ∧ Below w.heap.size w w' := by
  rcases R.own.2 with ⟨rfl, hz⟩ | ⟨q, cap, cur, rfl, _⟩
  · refine (first_nil R).mono ?_
    rintro e w' ⟨rfl, hn, hb⟩
    rw [hn]
    exact ⟨rfl, hb⟩
  · exact first_some R hl hids
/-- a row of the call's own was written, or moved -/
theorem PD.grown {base size n : Nat} {e : TypeId} {v : Value} {xs : List Value} (R : PD w p K F st lk lv d) (hv : w.ownsRow base e size v n xs) (he : e ≠ 113 ∧ e ≠ 140 ∧ e ≠ 131 ∧ e ≠ 127 ∧ e ≠ 119) (hg : w.grownBy u v.ownBlock) : PD u p K F st lk lv d := by
  rcases hv.2 with ⟨rfl, _⟩ | ⟨q, cap, cur, rfl, _, hq, _⟩
  · exact R.on ⟨hg.os, hg.tape, hg.output, hg.size, fun k hk => hg.block k hk (by simp [Value.ownBlock])⟩
  · exact ⟨R.pr.left (b := q) hg hq he.1 he.2.1 he.2.2.1 he.2.2.2.1, row_leftP R.own (b := q) hg hq he.2.2.2.2⟩
theorem Frm.grown {size n : Nat} {e : TypeId} {v : Value} {xs : List Value} (f : Frm p lv lv w wr) (hv : wr.ownsRow w.heap.size e size v n xs) (hg : wr.grownBy u v.ownBlock) : Frm p lv lv w u :=
  ⟨hg.os.trans f.os, hg.tape.trans f.tape, hg.output.trans f.output, Nat.le_trans f.size hg.size, fun k hk h1 h2 => (hg.block k (Nat.lt_of_lt_of_le hk f.size) (fun e => by have := (hv.lt k e.symm).1; omega)).trans (f.block k hk h1 h2), fun _ h => .inl h⟩
/-- where Tick's loop stands -/
structure TP (w : World) (p : Nat) (K : Kf) (F : Nat → Bool) (st : List Stg) (lv : Value) (d : Dk) (T : Int) (wr : World) (ov : Value) (l : List Cs) (es : List Ev) : Prop where
  pd : PD wr p K F st 1 lv ⟨T, d.made, d.told + es.length, l⟩
  own : wr.ownsRow w.heap.size 63 6 ov es.length (evsCells es)
  fr : Frm p lv lv w wr
  ok : ∀ x ∈ l, CsOk st x
  rs : ∀ x ∈ l, RestOk st x
  ids : (l.map Cs.id).Pairwise (· < ·)
  len : l.length = d.cases.length
  left : es.length + leftL st l ≤ 80
  nl : es = [] → ov = .slice none 0 0
  res : es ++ (tickGo F st T (leftL st l) l (d.told + es.length)).1 = (tickGo F st T (leftL st d.cases) d.cases d.told).1 ∧ (tickGo F st T (leftL st l) l (d.told + es.length)).2 = (tickGo F st T (leftL st d.cases) d.cases d.told).2
theorem TP.on {T : Int} {ov : Value} {l : List Cs} {es : List Ev} (h : TP w p K F st lv d T wr ov l es) (hb : Below wr.heap.size wr u) : TP w p K F st lv d T u ov l es :=
  ⟨h.pd.on hb, row_on h.own hb, h.fr.trans (.of_below hb), h.ok, h.rs, h.ids, h.len, h.left, h.nl, h.res⟩
/-- one event more -/
theorem TP.next {w10 w11 : World} {q cap i : Nat} {T : Int} {ov ov' : Value} {l : List Cs} {es : List Ev} (hs : StOk st) (h : TP w p K F st (.slice (some ⟨q, 0, none⟩) l.length cap) d T wr ov l es)
    (hi : nextL l = i) (hil : i < l.length) (h2 : (csAt l i).due ≤ T)
    (hP : PutR (wr.setCell ⟨p, 83, none⟩ (.int .i64 (d.told + es.length + 1))) w10 q (i * 7) (rcCells (comesL F st (csAt l i) ((csAt l i).level + 1) (csAt l i).due)))
    (hA : Below w10.heap.size w10 w11) (hg : w11.grownBy u ov.ownBlock) (hown : u.ownsRow w.heap.size 63 6 ov' (es.length + 1) (evsCells es ++ evCells (evOf st (csAt l i) (d.told + es.length + 1)))) :
    TP w p K F st (.slice (some ⟨q, 0, none⟩) l.length cap) d T u ov' (l.set i (comesL F st (csAt l i) ((csAt l i).level + 1) (csAt l i).due)) (es ++ [evOf st (csAt l i) (d.told + es.length + 1)]) := by
  obtain ⟨i', hi', _, hx, hd0, hok', hlt⟩ := tick_step (F := F) (T := T) hs h.ok (by omega) (by rw [hi]; exact h2)
  obtain rfl : i' = i := by omega
  have hmore := tick_more (F := F) (k := d.told + es.length) hs h.ok hi h2
  have ek : d.told + ((es ++ [evOf st (csAt l i') (d.told + es.length + 1)]).length : Int) = d.told + es.length + 1 := by simp; omega
  obtain ⟨R1, F1⟩ := h.pd.told (d.told + es.length + 1)
  obtain ⟨R2, F2⟩ := PD.put (d := ⟨T, d.made, d.told + es.length + 1, l⟩) R1 i' hil hP
  have hG : wr.grownBy (wr.setCell ⟨p, 83, none⟩ (.int .i64 (d.told + es.length + 1))) (some p) := ⟨rfl, rfl, rfl, by simp, fun k _ hne => Below.heap_setCell _ _ _ k (fun e => hne (by rw [e]))⟩
  have o1 := row_leftP h.own hG h.pd.pr.blk (by decide)
  obtain ⟨cur, cur', p1, _⟩ := hP.blk
  have o2 := row_leftP o1 hP.grown p1 (by decide)
  have o3 := row_on o2 hA
  have R3 := (R2.on hA).grown o3 (by decide) hg
  have F3 := ((h.fr.trans F1).trans (F2.trans (.of_below hA))).grown o3 hg
  have hm : csAt l i' ∈ l := by rw [csAt_nat hil]; exact List.getElem_mem hil
  refine ⟨by rw [ek]; exact R3, by rw [evsCells_snoc, List.length_append]; exact hown, F3, hok', fun z hz => ?_, ?_, by simp [h.len], ?_, fun e => by simp at e, ?_⟩
  · rcases set_mem hz with rfl | a
    · exact comes_rest _ _ _ (fun hp => by have := (h.rs _ hm hp).2.1; omega)
    · exact h.rs z a
  · rw [set_ids hil (comes_stage (F := F) (st := st) (x := csAt l i') (level := (csAt l i').level + 1) (t := (csAt l i').due)).2.2.2]; exact h.ids
  · have := h.left
    simp; omega
  · rw [ek]
    have hres := h.res
    rw [hmore] at hres
    refine ⟨?_, hres.2⟩
    rw [← hres.1]
    simp
set_option maxRecDepth 100000 in
set_option maxHeartbeats 1000000 in
theorem tick_bad (R : PD w p K F st 0 lv d) (n : Int) (t0 : 0 ≤ d.time) (t1 : d.time ≤ 100800) (h : n < 0 ∨ 100800 - d.time < n) :
    Calls Tryz.prog 15 #[P0 p, .int .i64 n] w fun e w' => e = .returned (.tuple #[.slice none 0 0, .int .i64 1]) ∧ PD w' p K F st 0 lv d ∧ Frm p lv lv w w' := by
  have c0 := R.pr.c0
  have f0 := R.pr.frz 0
  obtain ⟨R1, F1⟩ := R.lock 1
  have H1 := hide (And.intro R1 F1)
  have c80 := R1.pr.c80
  clear R R1 F1
  by_cases h1 : n < 0
  · clear h
    go_enter_defers Tryz.func15, Tryz.ntmps15
    go_wp2_with (go_at_call 36; refine (lock_free muLib ⟨p, 0, none⟩ _ c0 f0).mono ?_; rintro e w' ⟨rfl, rfl⟩)
    refine leaves_cons (f := 37) (args := #[.pointer (some ⟨p, 0, none⟩)]) (by simp) (by simp [go_sem]) ?_
    refine (unlock_deferred muLib ⟨p, 0, none⟩ .returning _ H1.out.1.pr.c0 (H1.out.1.pr.frz 0)).mono ?_
    rintro e u' w'' ⟨rfl, rfl, rfl⟩
    exact ⟨_, results_tmp2 rfl _ _ _, rfl, H1.out.1.free H1.out.2⟩
  · have h2 : 100800 - d.time < n := by omega
    clear h
    go_enter_defers Tryz.func15, Tryz.ntmps15
    go_wp2_with (go_at_call 36; refine (lock_free muLib ⟨p, 0, none⟩ _ c0 f0).mono ?_; rintro e w' ⟨rfl, rfl⟩)
    refine leaves_cons (f := 37) (args := #[.pointer (some ⟨p, 0, none⟩)]) (by simp) (by simp [go_sem]) ?_
    refine (unlock_deferred muLib ⟨p, 0, none⟩ .returning _ H1.out.1.pr.c0 (H1.out.1.pr.frz 0)).mono ?_
    rintro e u' w'' ⟨rfl, rfl, rfl⟩
    exact ⟨_, results_tmp2 rfl _ _ _, rfl, H1.out.1.free H1.out.2⟩
end
end Go.Proofs.YtcnmbldikjljeaaGreatDoor
