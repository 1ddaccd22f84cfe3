import Derived.Test.YtcnmbldikjljeaaGreatDoorT09
import Derived.Test.YtcnmbldikjljeaaGreatDoorT18
import Derived.StillTailTactics
import Derived.Test.YtcnmbldikjljeaaGreatDoorT16
import Derived.Deep.RegionLaw
import Derived.Lib.SliceRun
namespace Go.Proofs.YtcnmbldikjljeaaGreatDoor
open Go.RowKit

/-- the program's docket, of owner t -/
structure PSo (own : Nat → Nat) (w : World) (t p : Nat) (K : Kf) (F : Nat → Bool) (st : List Stg) (lv : Value) (d : Dk) : Prop where
  ok : KfOk K F
  blk : w.heap[p]? = some (.cells (dArr 0 K d.time d.made lv d.told) 113 (0, 0))
  row : w.ownsRow 0 119 7 lv d.cases.length (rcsCells d.cases)
  tg : own p = t
  tl : ∀ k, lv.ownBlock = some k → own k = t
  cal : ∀ j, j < 7 → (roW own w).ownsRow 0 140 2 (K.vs j) (K.wk j).length (flat (K.wk j))
  stg : PW (roW own w) K.sv st K.ls
  inv : InvD F d
def PSi : PSt := fun own w t p F st d => ∃ K lv, PSo own w t p K F st lv d
section
variable {own own' : Nat → Nat} {w w' : World} {T : Nat → Prop} {t p : Nat} {K : Kf} {F : Nat → Bool} {st : List Stg} {lv lv' : Value} {d d' : Dk}
theorem PW.unro (h : PW (roW own w) K.sv st K.ls) : PW w K.sv st K.ls := ⟨ro_row h.row (by decide), fun i hi h0 => ro_row (h.lev i hi h0) (by decide), h.len⟩
theorem PSo.pd (h : PSo own w t p K F st lv d) : PD w p K F st 0 lv d := ⟨⟨h.ok, h.blk, fun j hj => ro_row (h.cal j hj) (by decide), h.stg.unro⟩, h.row⟩
theorem calRow_kept {v : Value} {n : Nat} {xs : List Value} (h : (roW own w).ownsRow 0 140 2 v n xs) (k : KeptS own own' T w w') (hs : ¬ T 0) : (roW own' w').ownsRow 0 140 2 v n xs := by
  have hb : Below (roW own w).heap.size (roW own w) (roW own' w') := by rw [ro_size]; exact k.below hs
  exact h.kept (row := none) ⟨hb.os, hb.tape, hb.output, hb.size, fun k hk _ => hb.block k hk⟩ (by cases v.ownBlock <;> simp)
theorem PW.keptR (h : PW (roW own w) K.sv st K.ls) (k : KeptS own own' T w w') (hs : ¬ T 0) : PW (roW own' w') K.sv st K.ls := h.on (by rw [ro_size]; exact k.below hs)
theorem PSo.kept (h : PSo own w t p K F st lv d) (k : KeptS own own' T w w') (hs : ¬ T 0) (hst : ¬ T t) : PSo own' w' t p K F st lv d := by
  have hg := k.at h.blk (by rw [h.tg]; exact hst)
  have hm : MRow own t w _ _ _ _ _ := ⟨h.row, h.tl⟩
  have hm' := hm.kept k hst
  exact ⟨h.ok, hg.1, hm'.1, hg.2.trans h.tg, hm'.2, fun j hj => calRow_kept (h.cal j hj) k hs, h.stg.keptR k hs, h.inv⟩
theorem PSo.step (h : PSo own w t p K F st lv d) (ht : t ≠ 0) (hl : ∀ k, own k ≠ 0 → k < w.heap.size) (R : PD w' p K F st 0 lv' d') (f : Frm p lv lv' w w') (iv : InvD F d') : ∃ own', PSi own' w' t p F st d' ∧ Kept own own' t w w' := by
  have hk : Kept own (tagOf own lv'.ownBlock t) t w w' := by
    refine ⟨f.os, f.tape, f.output, f.size, fun k hk hne => f.block k hk (fun e => hne (by rw [e]; exact h.tg)) (fun e => hne (h.tl k e.symm)), fun k hk => ?_, fun k hk h0 => ?_, tagOf_nt⟩
    · unfold tagOf
      split
      · rename_i e
        rcases f.row k e.symm with a | a
        · exact (h.tl k a).symm
        · omega
      · rfl
    · unfold tagOf at h0
      split at h0
      · rename_i e
        exact (R.own.lt k e.symm).2
      · exact absurd (hl k h0) (by omega)
  refine ⟨_, ⟨K, lv', h.ok, R.pr.blk, R.own, ?_, fun k e => by unfold tagOf; rw [if_pos e.symm], fun j hj => calRow_kept (h.cal j hj) hk (Ne.symm ht), h.stg.keptR hk (Ne.symm ht), iv⟩, hk⟩
  have hgl := h.pd.pr.lt
  rw [hk.same p hgl]; exact h.tg
/-- a call that gives a list of its own -/
theorem PSo.step8 (h : PSo own w t p K F st lv d) (ht : t ≠ 0) (hl : ∀ k, own k ≠ 0 → k < w.heap.size) (R : PD w' p K F st 0 lv d') (f : Frm p lv lv w w') (iv : InvD F d') {ov : Value} {e : TypeId} {size n : Nat} {xs : List Value} (ho : w'.ownsRow w.heap.size e size ov n xs) : ∃ own', PSi own' w' t p F st d' ∧ Kept own own' t w w' ∧ ∀ k, ov.ownBlock = some k → own' k = 8 := by
  have hk : Kept own (tagOf own ov.ownBlock 8) t w w' := by
    refine ⟨f.os, f.tape, f.output, f.size, fun k hk hne => f.block k hk (fun e => hne (by rw [e]; exact h.tg)) (fun e => hne (h.tl k e.symm)), fun k hk => ?_, fun k hk h0 => ?_, fun k => ?_⟩
    · unfold tagOf
      split
      · rename_i e
        have := (ho.lt k e.symm).1
        omega
      · rfl
    · unfold tagOf at h0
      split at h0
      · rename_i e
        exact (ho.lt k e.symm).2
      · exact absurd (hl k h0) (by omega)
    · unfold tagOf
      split
      · exact .inl (by omega)
      · exact .inr (.inl rfl)
  refine ⟨_, ⟨K, lv, h.ok, R.pr.blk, R.own, ?_, fun k e => ?_, fun j hj => calRow_kept (h.cal j hj) hk (Ne.symm ht), h.stg.keptR hk (Ne.symm ht), iv⟩, hk, fun k e => by unfold tagOf; rw [if_pos e.symm]⟩
  · have hgl := h.pd.pr.lt
    rw [hk.same p hgl]; exact h.tg
  · have := (h.row.lt k e).2
    rw [hk.same k this]; exact h.tl k e
end
end Go.Proofs.YtcnmbldikjljeaaGreatDoor
namespace Go.Proofs.YtcnmbldikjljeaaGreatDoor
open Go.Shelf Go.RowKit Go.Lib Go.Sort Go.MuLone

section
variable {w : World} {p b off : Nat} {K : Kf} {F : Nat → Bool} {st : List Stg} {lk t m : Int} {lv : Value} {k : Int} {x : Cs}
def heldL (F : Nat → Bool) (t : Int) (x : Cs) : Cs := if 0 ≤ x.due then { x with held := true, rest := cnt F x.due.toNat - cnt F t.toNat, due := -1 } else { x with held := true }
def wentL (F : Nat → Bool) (t : Int) (x : Cs) : Cs := if 0 < x.rest then { armsL F { x with held := false } t x.rest with rest := 0 } else { x with held := false }
set_option maxRecDepth 100000 in
set_option maxHeartbeats 1000000 in
theorem holdR_any (R : PR w p K F st lk t m lv k) (A : RA w b off (rcCells x)) (t0 : 0 ≤ t) (hd : 0 ≤ x.due → t ≤ x.due ∧ x.due ≤ 100800 ∧ 0 < cnt F x.due.toNat - cnt F t.toNat) :
    Calls Tryz.prog 46 #[P0 p, .pointer (some ⟨b, off, none⟩)] w fun e w' => e = .returned (.tuple #[]) ∧ PutR w w' b off (rcCells (heldL F t x)) := by
  have d6 := A.cell 6 _ rfl
  have f6 := A.frozen (off + 6)
  have P1 : PutR w (w.setCell ⟨b, off + 6, none⟩ (.bool true)) b off ((rcCells x).set 6 (.bool true)) := (A.put (Below.refl _ _)).set 6 (by simp [rcCells]) (.bool true)
  have A1 := P1.ra
  have R1 := R.put P1
  have HP := hide P1
  by_cases h0 : 0 ≤ x.due
  · obtain ⟨h1, h2, h3⟩ := hd h0
    have HH := hide (show heldL F t x = { x with held := true, rest := cnt F x.due.toNat - cnt F t.toNat, due := -1 } by unfold heldL; rw [if_pos h0])
    have d2 : (w.setCell ⟨b, off + 6, none⟩ (.bool true)).cell? ⟨b, off + 2, none⟩ = some (.int .i64 1) := by
      have := A1.cell 2 (.int .i64 (crs x)) rfl
      rwa [show crs x = 1 by unfold crs; rw [if_pos h0]] at this
    have d4 : (w.setCell ⟨b, off + 6, none⟩ (.bool true)).cell? ⟨b, off + 4, none⟩ = some (.int .i64 x.due) := by
      have := A1.cell 4 (.int .i64 (dueC x)) rfl
      rwa [show dueC x = x.due by unfold dueC; rw [if_pos h0]] at this
    have c80 := R1.c80
    have HB := hide (R1.on ((Below.refl _ _).drew) |>.between t x.due t0 h1 h2)
    have HC : Hid (((((rcCells x).set 6 (.bool true)).set 2 (.int .i64 2)).set 4 (.int .i64 0)).set 5 (.int .i64 (cnt F x.due.toNat - cnt F t.toNat)) = rcCells { x with held := true, rest := cnt F x.due.toNat - cnt F t.toNat, due := -1 }) := by
      have h3' : cnt F t.toNat < cnt F x.due.toNat := by omega
      unfold Hid rcCells crs dueC
      simp [h3']
    have hbl := A.lt
    have hpl := R.lt
    have hne := R.ne A
    clear R A R1 A1 P1 hd
    generalize cnt F x.due.toNat - cnt F t.toNat = rr at *
    go_enter Tryz.func46, Tryz.ntmps46
    go_wp2_with fail
    have hb1 : b < (w.setCell ⟨b, off + 6, none⟩ (.bool true)).heap.size := by simpa using hbl
    have hp1 : p < (w.setCell ⟨b, off + 6, none⟩ (.bool true)).heap.size := by simpa using hpl
    generalize w.setCell ⟨b, off + 6, none⟩ (.bool true) = w1 at *
    clear d6 f6 hbl hpl
    go_region_held3 (fun w' => w'.cell? ⟨p, 80, none⟩ = some (.int .i64 t) ∧ w'.cell? ⟨b, off + 4, none⟩ = some (.int .i64 x.due)) ((go_keep; done))
      (first | (go_at_call 22; refine HB.out.mono ?_; rintro e w' ⟨rfl, bl⟩; have z0 := (bl.cell (p := ⟨p, 80, none⟩) hp1).trans c80; have z1 := (bl.cell (p := ⟨b, off + 4, none⟩) hb1).trans d4))
    have hbw : Below w1.heap.size w1 w' := ((Below.refl w1.heap.size w1).drew).trans bl
    have P2 := HP.out.trans (HP.out.ra.put hbw) rfl
    have A2 := P2.ra
    have g2 := A2.cell 2 _ rfl
    have g4 := A2.cell 4 _ rfl
    have g5 := A2.cell 5 _ rfl
    have q2 := A2.frozen (off + 2)
    have q4 := A2.frozen (off + 4)
    have q5 := A2.frozen (off + 5)
    have HP2 := hide (((P2.set 2 (by simp [rcCells]) (.int .i64 2)).set 4 (by simp [rcCells]) (.int .i64 0)).set 5 (by simp [rcCells]) (.int .i64 rr))
    clear hbw P2 A2 bl z0 z1 d2 d4 c80 HB HP
    go_wp2_with fail
    go_end0
    refine ⟨rfl, ?_⟩
    rw [HH.out, ← HC.out]; exact HP2.out
  · have HH := hide (show heldL F t x = { x with held := true } by unfold heldL; rw [if_neg h0])
    have hcb : (crs x != 1) = true := by unfold crs; rw [if_neg h0]; split <;> rfl
    have d2 : (w.setCell ⟨b, off + 6, none⟩ (.bool true)).cell? ⟨b, off + 2, none⟩ = some (.int .i64 (crs x)) := A1.cell 2 (.int .i64 (crs x)) rfl
    clear R A R1 A1 P1 hd
    have HC : Hid ((rcCells x).set 6 (.bool true) = rcCells { x with held := true }) := rfl
    generalize crs x = cc at *
    go_enter Tryz.func46, Tryz.ntmps46
    go_wp2_with fail
    refine bodyPost_ret (results_none rfl _ _ _) rfl ?_
    refine ⟨rfl, ?_⟩
    rw [HH.out, ← HC.out]; exact HP.out
theorem arms_rest0 (F : Nat → Bool) (x : Cs) (t n : Int) : { armsL F x t n with rest := 0 } = armsL F { x with rest := 0 } t n := by
  unfold armsL; split <;> rfl
set_option maxRecDepth 100000 in
set_option maxHeartbeats 1000000 in
theorem resumeR_any (R : PR w p K F st lk t m lv k) (A : RA w b off (rcCells x)) (t0 : 0 ≤ t) (t1 : t ≤ 100800) (hr : 0 < x.rest → x.due = -1) (r1 : x.rest ≤ 20000) :
    Calls Tryz.prog 49 #[P0 p, .pointer (some ⟨b, off, none⟩)] w fun e w' => e = .returned (.tuple #[]) ∧ PutR w w' b off (rcCells (wentL F t x)) := by
  have d6 := A.cell 6 _ rfl
  have f6 := A.frozen (off + 6)
  have P1 : PutR w (w.setCell ⟨b, off + 6, none⟩ (.bool false)) b off (rcCells { x with held := false }) := (A.put (Below.refl _ _)).set 6 (by simp [rcCells]) (.bool false)
  have A1 := P1.ra
  have R1 := R.put P1
  have HP := hide P1
  have d2 := A1.cell 2 _ rfl
  by_cases h0 : 0 < x.rest
  · have HH := hide (show wentL F t x = armsL F { x with held := false, rest := 0 } t x.rest by unfold wentL; rw [if_pos h0, arms_rest0])
    have hc2 : crs { x with held := false } = 2 := by unfold crs; rw [if_neg (by have := hr h0; simp only; omega), if_pos h0]
    rw [hc2] at d2
    have d3 := A1.cell 3 _ rfl
    have d5 := A1.cell 5 _ rfl
    have c80 := R1.c80
    have HR := hide (fun n => run_any (R1.on (below_drewN (Below.refl _ _) n)) (A1.on (below_drewN (Below.refl _ _) n)) x.level t x.rest t0 t1 (by omega) r1)
    have hbl := A.lt
    have hpl := R.lt
    have hne := R.ne A
    clear R A R1 A1 P1 hr hc2
    go_enter Tryz.func49, Tryz.ntmps49
    go_wp2_with fail
    have hb1 : b < (w.setCell ⟨b, off + 6, none⟩ (.bool false)).heap.size := by simpa using hbl
    have hp1 : p < (w.setCell ⟨b, off + 6, none⟩ (.bool false)).heap.size := by simpa using hpl
    generalize w.setCell ⟨b, off + 6, none⟩ (.bool false) = w1 at *
    clear d6 f6 hbl hpl
    have HR1 := hide (HR.out 1)
    clear HR
    go_still_tail 14, (by kernel_rfl)
    go_wp2_with fail
    refine HR1.out.mono ?_
    rintro e w' ⟨rfl, hp⟩
    have HPP := hide ((HP.out.trans (HP.out.ra.put (below_drewN (Below.refl _ _) 1)) rfl).trans hp rfl)
    clear hp
    go_wp2_with fail
    go_end0
    refine ⟨rfl, ?_⟩
    rw [HH.out]; exact HPP.out
  · have HH := hide (show wentL F t x = { x with held := false } by unfold wentL; rw [if_neg h0])
    have hcb : (crs { x with held := false } == 2) = false := by
      unfold crs; dsimp only
      rw [if_neg h0]
      split <;> rfl
    clear R A R1 A1 P1 hr
    generalize crs { x with held := false } = cc at *
    go_enter Tryz.func49, Tryz.ntmps49
    go_wp2_with fail
    go_end0
    refine ⟨rfl, ?_⟩
    rw [HH.out]; exact HP.out
end
end Go.Proofs.YtcnmbldikjljeaaGreatDoor
namespace Go.Proofs.YtcnmbldikjljeaaGreatDoor
open Go.Shelf Go.RowKit Go.Lib Go.Sort Go.MuLone

section
variable {w : World} {p : Nat} {K : Kf} {F : Nat → Bool} {st : List Stg} {lv : Value} {d : Dk} {N : Int}
set_option maxRecDepth 100000 in
set_option maxHeartbeats 1000000 in
theorem hold_any (R : PD w p K F st 0 lv d) (ok : DkOk F st d N) (iv : InvD F d) (id : Int) :
    Calls Tryz.prog 21 #[P0 p, .int .i64 id] w fun e w' => e = .returned (.int .i64 (holdC F d id).2) ∧ PD w' p K F st 0 lv (holdC F d id).1 ∧ Frm p lv lv w w' := by
  have hlen := ok.len
  have c0 := R.pr.c0
  have f0 := R.pr.frz 0
  obtain ⟨R1, F1⟩ := R.lock 1
  have H1 := hide (And.intro R1 F1)
  rcases findL_bd d.cases id with hneg | ⟨i, hi, hil⟩
  · have HV := hide (show holdC F d id = (d, 5) by unfold holdC; rw [if_pos hneg])
    have HF := hide (findP_none R1 (by omega) id hneg)
    clear R R1 F1
    go_enter_defers Tryz.func21, Tryz.ntmps21
    go_wp2_with (go_at_call 36; refine (lock_free muLib ⟨p, 0, none⟩ _ c0 f0).mono ?_; rintro e w' ⟨rfl, rfl⟩)
    refine HF.out.mono ?_
    rintro e u ⟨rfl, hb⟩
    have H2 := hide (And.intro (H1.out.1.on hb) (H1.out.2.trans (.of_below hb)))
    clear hb H1 c0 f0
    go_wp2_with fail
    refine leaves_cons (f := 37) (args := #[.pointer (some ⟨p, 0, none⟩)]) (by simp) (by simp [go_sem]) ?_
    refine (unlock_deferred muLib ⟨p, 0, none⟩ .returning _ H2.out.1.pr.c0 (H2.out.1.pr.frz 0)).mono ?_
    rintro e u' w'' ⟨rfl, rfl, rfl⟩
    rw [HV.out]
    exact ⟨_, results_tmp rfl _ _ _, rfl, H2.out.1.free H2.out.2⟩
  obtain ⟨q, cap, hlv⟩ := row_some R.own (by omega)
  subst hlv
  have hnn : ¬ findL d.cases id < 0 := by omega
  have hxm := csMem hil
  have hx := ok.cs _ hxm
  have HF := hide (findP_some R1 (by omega) id hi hil)
  by_cases hh : (csAt d.cases i).held = true
  · have HV := hide (show holdC F d id = (d, 6) by unfold holdC; rw [if_neg hnn, hi, if_pos hh])
    clear R R1 F1
    go_enter_defers Tryz.func21, Tryz.ntmps21
    go_wp2_with (go_at_call 36; refine (lock_free muLib ⟨p, 0, none⟩ _ c0 f0).mono ?_; rintro e w' ⟨rfl, rfl⟩)
    refine HF.out.mono ?_
    rintro e u ⟨rfl, hb⟩
    have R2 := H1.out.1.on hb
    have e6 := (R2.ra i hil).cell 6 _ rfl
    rw [hh] at e6
    have H2 := hide (And.intro R2 (H1.out.2.trans (.of_below hb)))
    clear hb H1 c0 f0 R2
    go_wp2_with fail
    refine leaves_cons (f := 37) (args := #[.pointer (some ⟨p, 0, none⟩)]) (by simp) (by simp [go_sem]) ?_
    refine (unlock_deferred muLib ⟨p, 0, none⟩ .returning _ H2.out.1.pr.c0 (H2.out.1.pr.frz 0)).mono ?_
    rintro e u' w'' ⟨rfl, rfl, rfl⟩
    rw [HV.out]
    exact ⟨_, results_tmp rfl _ _ _, rfl, H2.out.1.free H2.out.2⟩
  have hh' : (csAt d.cases i).held = false := by simpa using hh
  have HV := hide (show holdC F d id = ({ d with cases := d.cases.set i (heldL F d.time (csAt d.cases i)) }, 0) by
    unfold holdC; rw [if_neg hnn, hi, if_neg hh]; unfold setC; rw [Int.toNat_natCast]; rfl)
  have hd : 0 ≤ (csAt d.cases i).due → d.time ≤ (csAt d.cases i).due ∧ (csAt d.cases i).due ≤ 100800 ∧ 0 < cnt F (csAt d.cases i).due.toNat - cnt F d.time.toNat := fun h => ⟨(ok.du _ hxm h).1, hx.d1, iv.left ok hxm h⟩
  have HD := hide hd
  clear R R1 F1 hd
  go_enter_defers Tryz.func21, Tryz.ntmps21
  go_wp2_with (go_at_call 36; refine (lock_free muLib ⟨p, 0, none⟩ _ c0 f0).mono ?_; rintro e w' ⟨rfl, rfl⟩)
  refine HF.out.mono ?_
  rintro e u ⟨rfl, hb⟩
  have R2 := H1.out.1.on hb
  have e6 := (R2.ra i hil).cell 6 _ rfl
  rw [hh'] at e6
  have H2 := hide (And.intro R2 (H1.out.2.trans (.of_below hb)))
  have HE := hide (holdR_any R2.pr (R2.ra i hil) ok.t0 HD.out)
  clear hb H1 c0 f0 R2
  go_wp2_with fail
  refine HE.out.mono ?_
  rintro e u2 ⟨rfl, hp⟩
  obtain ⟨R4, F4⟩ := H2.out.1.put i hil hp
  have H4 := hide (And.intro R4 (H2.out.2.trans F4))
  clear hp R4 F4
  go_wp2_with fail
  refine leaves_cons (f := 37) (args := #[.pointer (some ⟨p, 0, none⟩)]) (by simp) (by simp [go_sem]) ?_
  refine (unlock_deferred muLib ⟨p, 0, none⟩ .returning _ H4.out.1.pr.c0 (H4.out.1.pr.frz 0)).mono ?_
  rintro e u' w'' ⟨rfl, rfl, rfl⟩
  rw [HV.out]
  exact ⟨_, results_tmp rfl _ _ _, rfl, H4.out.1.free H4.out.2⟩
set_option maxRecDepth 100000 in
set_option maxHeartbeats 1000000 in
theorem resume_any (R : PD w p K F st 0 lv d) (ok : DkOk F st d N) (hr : DkR st d) (id : Int) :
    Calls Tryz.prog 23 #[P0 p, .int .i64 id] w fun e w' => e = .returned (.int .i64 (resumeC F d id).2) ∧ PD w' p K F st 0 lv (resumeC F d id).1 ∧ Frm p lv lv w w' := by
  have hlen := ok.len
  have c0 := R.pr.c0
  have f0 := R.pr.frz 0
  obtain ⟨R1, F1⟩ := R.lock 1
  have H1 := hide (And.intro R1 F1)
  rcases findL_bd d.cases id with hneg | ⟨i, hi, hil⟩
  · have HV := hide (show resumeC F d id = (d, 5) by unfold resumeC; rw [if_pos hneg])
    have HF := hide (findP_none R1 (by omega) id hneg)
    clear R R1 F1
    go_enter_defers Tryz.func23, Tryz.ntmps23
    go_wp2_with (go_at_call 36; refine (lock_free muLib ⟨p, 0, none⟩ _ c0 f0).mono ?_; rintro e w' ⟨rfl, rfl⟩)
    refine HF.out.mono ?_
    rintro e u ⟨rfl, hb⟩
    have H2 := hide (And.intro (H1.out.1.on hb) (H1.out.2.trans (.of_below hb)))
    clear hb H1 c0 f0
    go_wp2_with fail
    refine leaves_cons (f := 37) (args := #[.pointer (some ⟨p, 0, none⟩)]) (by simp) (by simp [go_sem]) ?_
    refine (unlock_deferred muLib ⟨p, 0, none⟩ .returning _ H2.out.1.pr.c0 (H2.out.1.pr.frz 0)).mono ?_
    rintro e u' w'' ⟨rfl, rfl, rfl⟩
    rw [HV.out]
    exact ⟨_, results_tmp rfl _ _ _, rfl, H2.out.1.free H2.out.2⟩
  obtain ⟨q, cap, hlv⟩ := row_some R.own (by omega)
  subst hlv
  have hnn : ¬ findL d.cases id < 0 := by omega
  have hxm := csMem hil
  have hx := ok.cs _ hxm
  have HF := hide (findP_some R1 (by omega) id hi hil)
  by_cases hh : (csAt d.cases i).held = false
  · have HV := hide (show resumeC F d id = (d, 6) by unfold resumeC; rw [if_neg hnn, hi, if_pos hh])
    clear R R1 F1
    go_enter_defers Tryz.func23, Tryz.ntmps23
    go_wp2_with (go_at_call 36; refine (lock_free muLib ⟨p, 0, none⟩ _ c0 f0).mono ?_; rintro e w' ⟨rfl, rfl⟩)
    refine HF.out.mono ?_
    rintro e u ⟨rfl, hb⟩
    have R2 := H1.out.1.on hb
    have e6 := (R2.ra i hil).cell 6 _ rfl
    rw [hh] at e6
    have H2 := hide (And.intro R2 (H1.out.2.trans (.of_below hb)))
    clear hb H1 c0 f0 R2
    go_wp2_with fail
    refine leaves_cons (f := 37) (args := #[.pointer (some ⟨p, 0, none⟩)]) (by simp) (by simp [go_sem]) ?_
    refine (unlock_deferred muLib ⟨p, 0, none⟩ .returning _ H2.out.1.pr.c0 (H2.out.1.pr.frz 0)).mono ?_
    rintro e u' w'' ⟨rfl, rfl, rfl⟩
    rw [HV.out]
    exact ⟨_, results_tmp rfl _ _ _, rfl, H2.out.1.free H2.out.2⟩
  have hh' : (csAt d.cases i).held = true := by simpa using hh
  have HV := hide (show resumeC F d id = ({ d with cases := d.cases.set i (wentL F d.time (csAt d.cases i)) }, 0) by
    unfold resumeC; rw [if_neg hnn, hi, if_neg hh]; unfold setC; rw [Int.toNat_natCast]; rfl)
  have hd : 0 < (csAt d.cases i).rest → (csAt d.cases i).due = -1 := fun h => (hr _ hxm h).2.1
  have HD := hide hd
  clear R R1 F1 hd
  go_enter_defers Tryz.func23, Tryz.ntmps23
  go_wp2_with (go_at_call 36; refine (lock_free muLib ⟨p, 0, none⟩ _ c0 f0).mono ?_; rintro e w' ⟨rfl, rfl⟩)
  refine HF.out.mono ?_
  rintro e u ⟨rfl, hb⟩
  have R2 := H1.out.1.on hb
  have e6 := (R2.ra i hil).cell 6 _ rfl
  rw [hh'] at e6
  have H2 := hide (And.intro R2 (H1.out.2.trans (.of_below hb)))
  have HE := hide (resumeR_any R2.pr (R2.ra i hil) ok.t0 ok.t1 HD.out hx.r1)
  clear hb H1 c0 f0 R2
  go_wp2_with fail
  refine HE.out.mono ?_
  rintro e u2 ⟨rfl, hp⟩
  obtain ⟨R4, F4⟩ := H2.out.1.put i hil hp
  have H4 := hide (And.intro R4 (H2.out.2.trans F4))
  clear hp R4 F4
  go_wp2_with fail
  refine leaves_cons (f := 37) (args := #[.pointer (some ⟨p, 0, none⟩)]) (by simp) (by simp [go_sem]) ?_
  refine (unlock_deferred muLib ⟨p, 0, none⟩ .returning _ H4.out.1.pr.c0 (H4.out.1.pr.frz 0)).mono ?_
  rintro e u' w'' ⟨rfl, rfl, rfl⟩
  rw [HV.out]
  exact ⟨_, results_tmp rfl _ _ _, rfl, H4.out.1.free H4.out.2⟩
end
end Go.Proofs.YtcnmbldikjljeaaGreatDoor
namespace Go.Proofs.YtcnmbldikjljeaaGreatDoor
open Go.RowKit

/-- 'append(s[:n], news...)' where s's block is known and has room -/
theorem step_append_in {P : Program} {ops : Array Oper} {o : Oper} {a : Act} {w : World} {K : Act → World → Prop} {Q : Exit → Act → World → Prop} {E : Prop}
    (hg0 : o.guard = none) (s x : Operand) (t : TypeId) (hop : o.op = Op.call { callee := Callee.builtin Builtin.append, args := #[s, x], argTypes := #[t, t] })
    (e : TypeId) (i : TypeInfo) (size : Nat) (h1 : P.underlying t = some (.slice e)) (h2 : P.info? e = some i) (h4 : i.size = size)
    (g n cap : Nat) (cur : Array Value) (hg : w.heap[g]? = some (.cells cur e (0, 0))) (hs : a.eval s = .slice (some ⟨g, 0, none⟩) n cap)
    (ad : Addr) (m c : Nat) (news : List Value) (hx : a.eval x = .slice (some ad) m c) (hn : news.length = m * size) (hc : ∀ j u, news[j]? = some u → w.cell? (ad.add j) = some u) (h1c : ∀ u ∈ news, u.oneCell' = true)
    (hroom : n + m ≤ cap) (hfit : n * size + news.length ≤ cur.size)
    (hK : K (a.put o.dst (.slice (some ⟨g, 0, none⟩) (n + m) cap)) (w.setRow g (cur.toList.take (n * size) ++ news ++ cur.toList.drop (n * size + news.length)).toArray)) :
    if Region.wanted o (yielded ops a.tmps) = true then Oper.wp P o a w K Q else E := by
  have hw : Region.wanted o (yielded ops a.tmps) = true := by simp [Region.wanted, hg0]
  rw [if_pos hw]
  subst h4
  have hrun := run_append_room (P := P) w t o.type e i h1 h2 g n cap cur hg ad m c news hn hc h1c hroom hfit
  unfold Oper.wp
  rw [List.append_assoc] at hK hrun
  simp [execOp, hop, resolve, invoke, builtin, hs, hx, hrun, Result.andThen]
  exact hK
/-- 'clear' of one element, of whatever size -/
theorem run_clear_one {P : Program} (w : World) (t e ty : TypeId) (z : Value) (zs : List Value) (ht : P.underlying t = some (.slice e)) (hv : ∀ w, (zeroValue e).run P w = .ok z w) (hz : z.cells = zs.toArray) (h1 : ∀ v ∈ zs, v.oneCell' = true) (g o c : Nat) (cur : Array Value)
    (hg : w.heap[g]? = some (.cells cur e (0, 0))) (hfit : o + zs.length ≤ cur.size) :
    (Builtin.clear_ #[t] ty #[.slice (some ⟨g, o, none⟩) 1 c]).run P w = .ok (.tuple #[]) (w.setRow g (cur.toList.take o ++ zs ++ cur.toList.drop (o + zs.length)).toArray) := by
  have hzc : (Builtin.zeroCells z.cells 1).toList = zs := by
    rw [hz]
    apply List.ext_getElem
    · simp [Builtin.zeroCells]
    · intro i h1 h2
      simp only [Builtin.zeroCells] at h1 ⊢
      simp at h1 ⊢
      rw [Nat.mod_eq_of_lt h2]
      simp [h2]
  have hst := run_storeCells_at P g o e zs 0 cur w hg (by simpa using hfit) h1
  simp only [Nat.add_zero] at hst
  simp [Builtin.clear_, run_underlying ht, hv, hzc, hst]
end Go.Proofs.YtcnmbldikjljeaaGreatDoor
namespace Go.Proofs.YtcnmbldikjljeaaGreatDoor
open Go.RowKit

theorem recInfo : (Tryz.prog.info? 119).map (fun i => (i.zero, i.size, i.bytes)) = some (some (.agg #[.int .i64 0, .int .i64 0, .int .i64 0, .int .i64 0, .int .i64 0, .int .i64 0, .bool false]), 7, 56) := by kernel_rfl
theorem heap_setRow_same (w : World) {g : Nat} {cur : Array Value} {e : TypeId} {fz : Nat × Nat} (cs : Array Value) (h : w.heap[g]? = some (.cells cur e fz)) : (w.setRow g cs).heap[g]? = some (.cells cs e fz) := by
  unfold World.setRow
  simp [Array.getElem?_modify, h]
theorem heap_setRow_other (w : World) {g k : Nat} (cs : Array Value) (h : k ≠ g) : (w.setRow g cs).heap[k]? = w.heap[k]? := by
  unfold World.setRow
  simp [Array.getElem?_modify, Ne.symm h]
def recZ : List Value := [.int .i64 0, .int .i64 0, .int .i64 0, .int .i64 0, .int .i64 0, .int .i64 0, .bool false]
theorem rcsOne (l : List Cs) : ∀ u ∈ rcsCells l, u.oneCell' = true := by
  intro u hu
  simp only [rcsCells, List.mem_flatMap, rcCells] at hu
  obtain ⟨x, _, hu⟩ := hu
  simp only [List.mem_cons, List.not_mem_nil, or_false] at hu
  rcases hu with rfl | rfl | rfl | rfl | rfl | rfl | rfl <;> rfl
set_option maxRecDepth 100000 in
set_option maxHeartbeats 1000000 in
theorem delete_any {w : World} {q cap i : Nat} {l : List Cs} (hown : w.ownsRow 0 119 7 (.slice (some ⟨q, 0, none⟩) l.length cap) l.length (rcsCells l)) (hi : i < l.length) (hl : l.length ≤ 1000) :
    Calls Tryz.prog 45 #[.slice (some ⟨q, 0, none⟩) l.length cap, .int .i64 i, .int .i64 (i + 1)] w fun e w' => e = .returned (.slice (some ⟨q, 0, none⟩) (l.length - 1) cap) ∧ w.grownBy w' (some q) ∧ w'.ownsRow 0 119 7 (.slice (some ⟨q, 0, none⟩) (l.length - 1) cap) (l.length - 1) (rcsCells (l.eraseIdx i)) := by
  rcases hown.2 with ⟨h', _⟩ | ⟨q', cap', cur, h', hbq, hh, hc1, hc2, hc3, ht⟩
  · cases h'
  simp only [Value.slice.injEq, Option.some.injEq, Addr.mk.injEq, and_true, true_and] at h'
  obtain ⟨rfl, rfl⟩ := h'
  obtain ⟨i0, hinf, hq0, hq1, hq2⟩ := info_parts recInfo
  have hlc : l.length ≤ cap := hc1
  unfold maxLen at hc2
  obtain ⟨m, hm⟩ : ∃ m, l.length = m + 1 := ⟨l.length - 1, by omega⟩
  obtain ⟨news, hnews⟩ : ∃ news, news = rcsCells (l.drop (i + 1)) := ⟨_, rfl⟩
  have s1 : Hid (news.length = (m - i) * 7) := by unfold Hid; rw [hnews, rcsCells_len, List.length_drop, hm]; congr 1; omega
  have s2 : Hid (∀ u ∈ news, u.oneCell' = true) := by unfold Hid; rw [hnews]; exact rcsOne _
  have s3 : Hid (i * 7 + news.length ≤ cur.size) := by unfold Hid; rw [s1.out, hc3]; omega
  have hdr : rcsCells l = rcsCells (l.take (i + 1)) ++ news := by
    rw [hnews]; unfold rcsCells; rw [← List.flatMap_append, List.take_append_drop]
  have hsrc : Hid (∀ j u, news[j]? = some u → w.drew.cell? ⟨q, (i + 1) * 7 + j, none⟩ = some u) := by
    intro j u hu
    have hj : j < (m - i) * 7 := by rw [← s1.out]; exact (List.getElem?_eq_some_iff.1 hu).1
    have h1 := hown.cellAt ((i + 1) * 7 + j) (by omega)
    rw [hdr, List.getElem?_append_right (by rw [rcsCells_len]; simp; omega), rcsCells_len, show (i + 1) * 7 + j - (l.take (i + 1)).length * 7 = j by simp; omega, hu] at h1
    exact h1
  have hhd : w.drew.heap[q]? = some (.cells cur 119 (0, 0)) := hh
  have HH := hide hhd
  have hi' : (i : Int) ≤ m := by omega
  have hi3 : (i : Int) + 1 ≤ cap := by omega
  have hn1 : i ≤ cap := by omega
  have hn2 : i + 1 ≤ cap := by omega
  have hn3 : i ≤ m := by omega
  have hn4 : ((i : Int) + 1).toNat = i + 1 := by omega
  have hn5 : (0 : Int) ≤ (i : Int) + 1 := by omega
  clear hdr hown hbq hq0 hhd
  have HFIN : Hid (w.grownBy ((w.drew.setRow q (cur.toList.take (i * 7) ++ (news ++ cur.toList.drop (i * 7 + news.length))).toArray).setRow q ((cur.toList.take (i * 7) ++ (news ++ cur.toList.drop (i * 7 + news.length))).take (m * 7) ++ recZ ++ (cur.toList.take (i * 7) ++ (news ++ cur.toList.drop (i * 7 + news.length))).drop (m * 7 + recZ.length)).toArray) (some q) ∧ ((w.drew.setRow q (cur.toList.take (i * 7) ++ (news ++ cur.toList.drop (i * 7 + news.length))).toArray).setRow q ((cur.toList.take (i * 7) ++ (news ++ cur.toList.drop (i * 7 + news.length))).take (m * 7) ++ recZ ++ (cur.toList.take (i * 7) ++ (news ++ cur.toList.drop (i * 7 + news.length))).drop (m * 7 + recZ.length)).toArray).ownsRow 0 119 7 (.slice (some ⟨q, 0, none⟩) m cap) m (rcsCells (l.eraseIdx i))) := by
    have hX : (cur.toList.take (i * 7) ++ (news ++ cur.toList.drop (i * 7 + news.length))).length = cap * 7 := by
      have := s3.out
      simp; omega
    have htk : (cur.toList.take (i * 7) ++ (news ++ cur.toList.drop (i * 7 + news.length))).take (m * 7) = rcsCells (l.eraseIdx i) := by
      have e1 : cur.toList.take (i * 7) = rcsCells (l.take i) := by
        have e2 : rcsCells l = rcsCells (l.take i) ++ rcsCells (l.drop i) := by unfold rcsCells; rw [← List.flatMap_append, List.take_append_drop]
        have e3 : (rcsCells (l.take i)).length = i * 7 := by rw [rcsCells_len]; simp; omega
        have e4 : cur.toList.take (i * 7) = (cur.toList.take (l.length * 7)).take (i * 7) := by rw [List.take_take]; congr 1; omega
        rw [e4, ht, e2, ← e3, List.take_left']
        rfl
      rw [List.eraseIdx_eq_take_drop_succ, show rcsCells (l.take i ++ l.drop (i + 1)) = rcsCells (l.take i) ++ rcsCells (l.drop (i + 1)) by unfold rcsCells; rw [List.flatMap_append], ← e1, ← hnews, ← List.append_assoc]
      refine List.take_left' ?_
      have := s1.out
      rw [List.length_append, e1, rcsCells_len, this]
      simp; omega
    refine ⟨⟨rfl, rfl, rfl, by simp [World.setRow], fun k hk hne => ?_⟩, ⟨by rw [rcsCells_len, List.length_eraseIdx_of_lt hi, hm]; rfl, .inr ⟨q, cap, _, rfl, Nat.zero_le _, heap_setRow_same _ _ (heap_setRow_same _ _ hh), by omega, by unfold maxLen; exact hc2, ?_, ?_⟩⟩⟩
    · have hkq : k ≠ q := fun e => hne (by rw [e])
      rw [heap_setRow_other _ _ hkq, heap_setRow_other _ _ hkq]; rfl
    · simp only [List.size_toArray, List.length_append, List.length_take, List.length_drop] at hX ⊢
      simp only [recZ, List.length_cons, List.length_nil]
      omega
    · rw [← htk, List.append_assoc]
      refine List.take_left' ?_
      rw [List.length_take, hX]; omega
  by_cases hcap : cap = i + 1
  · clear hnews
    have hmi : m = i := by omega
    subst hmi
    subst hcap
    have hq9 : (m : Int) ≤ (m : Int) + 1 := by omega
    have hq8 : m ≤ m + 1 := by omega
    have hnl : news.length = 0 := by have := s1.out; rw [Nat.sub_self] at this; omega
    have hne0 : ∀ j u, news[j]? = some u → w.drew.cell? ((⟨q, 0, none⟩ : Addr).add j) = some u := fun j u hu => by rw [List.length_eq_zero_iff.1 hnl] at hu; simp at hu
    have HNE := hide hne0
    have HNL := hide hnl
    clear hne0 hnl
    go_enter Tryz.func45, Tryz.ntmps45
    go_wp2_with fail
    go_region_law (refine step_append_in rfl (.tmp 22) (.tmp 25) 107 rfl 119 i0 7 Tryz.underlying107 hinf hq1 q m (m + 1) cur HH.out (by simp [Act.eval, Act.put]) ⟨q, 0, none⟩ 0 0 news (by simp [Act.eval, Act.put]) (by rw [HNL.out]) HNE.out s2.out (by omega) s3.out ?_)
    generalize hW1 : w.drew.setRow q _ = W1
    have hg1 : W1.heap[q]? = some (.cells (cur.toList.take (m * 7) ++ (news ++ cur.toList.drop (m * 7 + news.length))).toArray 119 (0, 0)) := by
      rw [← hW1]; exact heap_setRow_same _ _ HH.out
    have hcl := fun ty => run_clear_one (P := Tryz.prog) W1 107 119 ty _ recZ Tryz.underlying107 Tryz.zeroValue119 rfl (by decide) q (m * 7) 1 _ hg1 (by simp [recZ, s1.out, hc3]; omega)
    have HW1 := hide (And.intro hW1 hg1)
    clear hW1 hg1
    generalize hW2 : W1.setRow q _ = W2 at hcl
    have HW2 := hide hW2
    clear hW2
    have hml : m ≤ (m + 1) := by omega
    have hml2 : m + 1 ≤ (m + 1) := by omega
    have hml3 : (m : Int) ≤ (m : Int) + 1 := by omega
    have hml4 : (m : Int) + 1 ≤ (m : Int) + 1 := by omega
    have hml5 : m + 1 ≠ m := by omega
    go_wp2_with fail
    go_ret
    refine ⟨rfl, ?_⟩
    rw [← HW2.out, ← HW1.out.1]
    exact HFIN.out
  · clear hnews
    have hcap' : i + 1 < cap := by omega
    have hcap2 : (i : Int) + 1 < cap := by omega
    go_enter Tryz.func45, Tryz.ntmps45
    go_wp2_with fail
    go_region_law (refine step_append_in rfl (.tmp 22) (.tmp 25) 107 rfl 119 i0 7 Tryz.underlying107 hinf hq1 q i cap cur HH.out (by simp [Act.eval, Act.put]) ⟨q, (i + 1) * 7, none⟩ (m - i) (cap - (i + 1)) news (by simp [Act.eval, Act.put]) s1.out (by simpa [Addr.add_lit] using hsrc.out) s2.out (by omega) s3.out ?_)
    generalize hW1 : w.drew.setRow q _ = W1
    have hg1 : W1.heap[q]? = some (.cells (cur.toList.take (i * 7) ++ (news ++ cur.toList.drop (i * 7 + news.length))).toArray 119 (0, 0)) := by
      rw [← hW1]; exact heap_setRow_same _ _ HH.out
    have hcl := fun ty => run_clear_one (P := Tryz.prog) W1 107 119 ty _ recZ Tryz.underlying107 Tryz.zeroValue119 rfl (by decide) q (m * 7) (cap - m) _ hg1 (by simp [recZ, s1.out, hc3]; omega)
    have HW1 := hide (And.intro hW1 hg1)
    clear hW1 hg1
    generalize hW2 : W1.setRow q _ = W2 at hcl
    have HW2 := hide hW2
    clear hW2
    have hml : m ≤ cap := by omega
    have hml2 : m + 1 ≤ cap := by omega
    have hml3 : (m : Int) ≤ cap := by omega
    have hml4 : (m : Int) + 1 ≤ cap := by omega
    have hml5 : cap ≠ m := by omega
    go_wp2_with fail
    go_ret
    refine ⟨rfl, ?_⟩
    rw [← HW2.out, ← HW1.out.1]
    exact HFIN.out
end Go.Proofs.YtcnmbldikjljeaaGreatDoor
