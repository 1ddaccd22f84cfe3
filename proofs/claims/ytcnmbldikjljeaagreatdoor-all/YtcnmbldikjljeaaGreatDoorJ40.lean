import Derived.Test.YtcnmbldikjljeaaGreatDoorJ08
import Derived.Test.YtcnmbldikjljeaaGreatDoorJ39
import Derived.BigQuiet
namespace Go.Proofs.YtcnmbldikjljeaaGreatDoor

/-- the cases stand in the order of their numbers; what is due is due later than now, behind a business minute -/
structure InvD (F : Nat → Bool) (d : Dk) : Prop where
  ids : (d.cases.map Cs.id).Pairwise (· < ·)
  top : ∀ x ∈ d.cases, 1 ≤ x.id ∧ x.id ≤ d.made
  due : ∀ x ∈ d.cases, 0 ≤ x.due → d.time < x.due ∧ F (x.due - 1).toNat = true
section
variable {F : Nat → Bool} {st : List Stg} {d : Dk} {N : Int} {x : Cs}
theorem set_ids {l : List Cs} {i : Nat} {y : Cs} (hi : i < l.length) (h : y.id = (csAt l i).id) : (l.set i y).map Cs.id = l.map Cs.id := by
  apply List.ext_getElem
  · simp
  · intro j h1 h2
    simp only [List.length_map, List.length_set] at h1
    rw [List.getElem_map, List.getElem_map, List.getElem_set]
    split
    · rename_i e
      subst e
      rw [h, csAt_nat hi]
    · rfl
theorem InvD.empty : InvD F ⟨0, 0, 0, []⟩ := ⟨.nil, fun x hx => by simp at hx, fun x hx => by simp at hx⟩
theorem InvD.set (h : InvD F d) (i : Nat) (hi : i < d.cases.length) (y : Cs) (hid : y.id = (csAt d.cases i).id) (hd : 0 ≤ y.due → d.time < y.due ∧ F (y.due - 1).toNat = true) : InvD F { d with cases := d.cases.set i y } := by
  refine ⟨by rw [set_ids hi hid]; exact h.ids, fun z hz => ?_, fun z hz => ?_⟩
  · rcases set_mem hz with rfl | a
    · rw [hid, csAt_nat hi]; exact h.top _ (List.getElem_mem hi)
    · exact h.top z a
  · rcases set_mem hz with rfl | a
    · exact hd
    · exact h.due z a
theorem comes_inv (hs : StOk st) (s0 : 0 ≤ x.stage) (s1 : x.stage < st.length) {level t : Int} (l0 : 0 ≤ level) (h0 : 0 ≤ t) (h1 : t ≤ 100800) : 0 ≤ (comesL F st x level t).due → t < (comesL F st x level t).due ∧ F ((comesL F st x level t).due - 1).toNat = true := by
  intro hd
  rcases comes_due (F := F) hs s0 s1 l0 h1 with ⟨a1, _⟩ | ⟨m, m0, _, a1, _⟩
  · omega
  · have := addN_open a1 h0 (by omega)
    exact ⟨by omega, this.2⟩
theorem open_inv (h : InvD F d) (ok : DkOk F st d N) (hs : StOk st) (stage : Int) : InvD F (openC F st d stage).1 := by
  unfold openC
  split
  · exact h
  · rename_i hr
    split
    · exact h
    · have hr : 0 ≤ stage ∧ stage < st.length := by omega
      have hid := (comes_stage (F := F) (st := st) (x := ⟨d.made + 1, stage, 0, 0, false, 0⟩) (level := 0) (t := d.time)).2.2.2
      have hdu := comes_inv (F := F) (x := ⟨d.made + 1, stage, 0, 0, false, 0⟩) hs hr.1 hr.2 (Int.le_refl 0) ok.t0 ok.t1
      have m0 := ok.m0
      dsimp only at hid
      generalize comesL F st ⟨d.made + 1, stage, 0, 0, false, 0⟩ 0 d.time = y at *
      refine ⟨?_, fun z hz => ?_, fun z hz => ?_⟩
      · rw [List.map_append, List.pairwise_append]
        refine ⟨h.ids, by simp, fun a ha b hb => ?_⟩
        simp only [List.map_cons, List.map_nil, List.mem_singleton] at hb
        obtain ⟨z, hz, rfl⟩ := List.mem_map.1 ha
        have := h.top z hz
        omega
      · rcases List.mem_append.1 hz with a | a
        · have := h.top z a
          simp only; omega
        · simp only [List.mem_singleton] at a
          subst a
          simp only; omega
      · rcases List.mem_append.1 hz with a | a
        · exact h.due z a
        · simp only [List.mem_singleton] at a
          subst a
          exact hdu
theorem find_nat (l : List Cs) (id : Int) (h : ¬ findL l id < 0) : ∃ i : Nat, findL l id = i ∧ i < l.length := by
  rcases findL_bd l id with a | a
  · exact absurd a h
  · exact a
theorem move_inv (h : InvD F d) (ok : DkOk F st d N) (hs : StOk st) (id stage : Int) : InvD F (moveC F st d id stage).1 := by
  unfold moveC
  split
  · exact h
  · rename_i h1
    split
    · exact h
    · split
      · exact h
      · rename_i h3
        obtain ⟨i, e, hi⟩ := find_nat _ _ h1
        have hm : csAt d.cases i ∈ d.cases := by rw [csAt_nat hi]; exact List.getElem_mem hi
        have hx := ok.cs _ hm
        have hn : stage ∈ (stAt st (csAt d.cases (findL d.cases id)).stage).next := by
          rw [← hasI_iff]; simpa using h3
        rw [e] at hn ⊢
        have hs2 := (hs (csAt d.cases i).stage.toNat (by have := hx.s0; have := hx.s1; omega)).2.2.2
        rw [show (((csAt d.cases i).stage.toNat : Nat) : Int) = (csAt d.cases i).stage by have := hx.s0; omega] at hs2
        have hst := hs2 stage hn
        unfold setC
        rw [Int.toNat_natCast]
        refine h.set i hi _ ?_ (comes_inv (F := F) (x := { csAt d.cases i with stage := stage }) hs hst.1 hst.2 (Int.le_refl 0) ok.t0 ok.t1)
        exact (comes_stage (F := F) (st := st) (x := { csAt d.cases i with stage := stage }) (level := 0) (t := d.time)).2.2.2
theorem close_inv (h : InvD F d) (id : Int) : InvD F (closeC d id).1 := by
  unfold closeC
  split
  · exact h
  · refine ⟨?_, fun x hx => h.top x (List.mem_of_mem_eraseIdx hx), fun x hx => h.due x (List.mem_of_mem_eraseIdx hx)⟩
    exact h.ids.sublist ((List.eraseIdx_sublist _ _).map _)
theorem hold_inv (h : InvD F d) (id : Int) : InvD F (holdC F d id).1 := by
  unfold holdC
  split
  · exact h
  · rename_i h1
    split
    · exact h
    · obtain ⟨i, e, hi⟩ := find_nat _ _ h1
      rw [e]
      unfold setC
      rw [Int.toNat_natCast]
      split
      · exact h.set i hi _ rfl (fun hd => by simp at hd)
      · rename_i hd
        exact h.set i hi _ rfl (fun hd' => absurd hd' hd)
theorem resume_inv (h : InvD F d) (ok : DkOk F st d N) (id : Int) : InvD F (resumeC F d id).1 := by
  unfold resumeC
  split
  · exact h
  · rename_i h1
    split
    · exact h
    · obtain ⟨i, e, hi⟩ := find_nat _ _ h1
      rw [e]
      unfold setC
      rw [Int.toNat_natCast]
      split
      · rename_i hr
        refine h.set i hi _ (arms_stage (F := F) (x := { csAt d.cases i with held := false }) (t := d.time) (n := (csAt d.cases i).rest)).2.2.2 (fun hd => ?_)
        have ha := arms_due (F := F) (x := { csAt d.cases i with held := false }) (n := (csAt d.cases i).rest) ok.t1
        dsimp only at ha hd ⊢
        generalize armsL F _ d.time (csAt d.cases i).rest = y at *
        rcases ha with a | a
        · omega
        · have := addN_open a.1 ok.t0 hr
          exact ⟨by omega, this.2⟩
      · rename_i hd
        exact h.set i hi _ rfl (fun hd' => h.due (csAt d.cases i) (by rw [csAt_nat hi]; exact List.getElem_mem hi) hd')
theorem tickGo_inv (hs : StOk st) {T : Int} : ∀ (f : Nat) (l : List Cs) (k : Int), (∀ x ∈ l, CsOk st x) → (∀ x ∈ l, 0 ≤ x.due → F (x.due - 1).toNat = true) → leftL st l ≤ f →
    (tickGo F st T f l k).2.1.map Cs.id = l.map Cs.id ∧ ∀ x ∈ (tickGo F st T f l k).2.1, 0 ≤ x.due → T < x.due ∧ F (x.due - 1).toNat = true := by
  have stop : ∀ (f : Nat) (l : List Cs) (k : Int), (∀ x ∈ l, 0 ≤ x.due → F (x.due - 1).toNat = true) → (nextL l < 0 ∨ T < (csAt l (nextL l)).due) →
      (tickGo F st T f l k).2.1.map Cs.id = l.map Cs.id ∧ ∀ x ∈ (tickGo F st T f l k).2.1, 0 ≤ x.due → T < x.due ∧ F (x.due - 1).toNat = true := by
    intro f l k hok hc
    rw [tick_done hc]
    exact ⟨rfl, fun x hx hd => ⟨tick_late hc x hx hd, hok x hx hd⟩⟩
  intro f
  induction f with
  | zero =>
    intro l k hok hF hf
    by_cases hc : nextL l < 0 ∨ T < (csAt l (nextL l)).due
    · exact stop 0 l k hF hc
    · obtain ⟨i, e, hi, _, _, hok', hlt⟩ := tick_step (F := F) (T := T) hs hok (by omega) (by omega)
      omega
  | succ f ih =>
    intro l k hok hF hf
    by_cases hc : nextL l < 0 ∨ T < (csAt l (nextL l)).due
    · exact stop _ l k hF hc
    · obtain ⟨i, e, hi, hx, hd, hok', hlt⟩ := tick_step (F := F) (T := T) hs hok (by omega) (by omega)
      simp only [tickGo]
      rw [if_neg hc, e]
      unfold setC
      rw [Int.toNat_natCast]
      have hci := comes_inv (F := F) hs hx.s0 hx.s1 (level := (csAt l i).level + 1) (by have := hx.l0; omega) hd hx.d1
      obtain ⟨a1, a2⟩ := ih (l.set i (comesL F st (csAt l i) ((csAt l i).level + 1) (csAt l i).due)) (k + 1) hok' (fun z hz h0 => by
        rcases set_mem hz with rfl | a
        · exact (hci h0).2
        · exact hF z a h0) (by omega)
      refine ⟨?_, a2⟩
      rw [a1]
      exact set_ids hi (comes_stage (F := F) (st := st) (x := csAt l i) (level := (csAt l i).level + 1) (t := (csAt l i).due)).2.2.2
theorem tick_inv (h : InvD F d) (ok : DkOk F st d N) (hs : StOk st) (n : Int) : InvD F (tickC F st d n).1 := by
  unfold tickC
  split
  · exact h
  · obtain ⟨a1, a2⟩ := tickGo_inv (F := F) hs (T := d.time + n) (leftL st d.cases) d.cases d.told ok.cs (fun x hx h0 => (h.due x hx h0).2) (Nat.le_refl _)
    refine ⟨by rw [a1]; exact h.ids, fun x hx => ?_, a2⟩
    have hm : x.id ∈ d.cases.map Cs.id := by rw [← a1]; exact List.mem_map_of_mem hx
    obtain ⟨z, hz, e⟩ := List.mem_map.1 hm
    rw [← e]; exact h.top z hz
/-- a case that runs has something to go -/
theorem InvD.left (h : InvD F d) (ok : DkOk F st d N) (hx : x ∈ d.cases) (hd : 0 ≤ x.due) : 0 < cnt F x.due.toNat - cnt F d.time.toNat := by
  obtain ⟨h1, h2⟩ := h.due x hx hd
  have t0 := ok.t0
  have hm := (cnt_mono F (show d.time ≤ x.due - 1 by omega) t0).1
  have hc := cnt_run F (x.due - 1) x.due true (by omega) (by omega) (fun m m0 m1 => by rw [show m = x.due - 1 by omega]; exact h2)
  rw [if_pos rfl] at hc
  omega
end
end Go.Proofs.YtcnmbldikjljeaaGreatDoor
namespace Go.Proofs.YtcnmbldikjljeaaGreatDoor
open Go.RowKit

section
variable {w : World} {p b off : Nat} {K : Kf} {F : Nat → Bool} {st : List Stg} {lk : Int} {lv : Value} {d : Dk}
set_option maxRecDepth 100000 in
set_option maxHeartbeats 1000000 in
/-- the question that index hands over: is it this case? -/
theorem isCase_any (x : Cs) (g : Nat) (id : Int) (w : World) (hc : w.cell? ⟨g, 0, none⟩ = some (.int .i64 id)) (hg : g < w.heap.size) :
    Calls Tryz.prog 74 #[.agg (rcCells x).toArray, .pointer (some ⟨g, 0, none⟩)] w fun e w' => e = .returned (.bool (x.id == id)) ∧ Below w.heap.size w w' := by
  have hne : g ≠ w.heap.size := by omega
  unfold rcCells
  go_enter Tryz.func74, Tryz.ntmps74
  go_wp2_with fail
  go_ret
  exact ⟨rfl, (Below.refl _ _).alloc (Nat.le_refl _) _⟩
set_option maxRecDepth 100000 in
set_option maxHeartbeats 1000000 in
theorem indexFunc_any (R : PD w p K F st lk lv d) (hl : d.cases.length ≤ 1000) (g : Nat) (id : Int) (hc : w.cell? ⟨g, 0, none⟩ = some (.int .i64 id)) :
    Calls Tryz.prog 73 #[lv, .func (.func 74) #[] #[.pointer (some ⟨g, 0, none⟩)]] w fun e w' => e = .returned (.int .i64 (findL d.cases id)) ∧ Below w.heap.size w w' := by
  have hgl := World.block_lt_of_cell? _ _ hc
  rcases R.own.2 with ⟨rfl, hz⟩ | ⟨q, cap, cur, rfl, _, hq, _⟩
  · have hF : findL d.cases id = -1 := by unfold findL; rw [hz]; rfl
    rw [hF]
    clear R hF
    go_enter Tryz.func73, Tryz.ntmps73
    go_wp2_with fail
    go_loopw [8] (fun i wr => i = .int .i64 0 ∧ wr = w) (fun _ _ => 0)
    case atStart => exact ⟨rfl, rfl⟩
    case round =>
      obtain ⟨rfl, rfl⟩ := hrel
      go_wp2_with fail
      go_ret
      exact ⟨rfl, Below.refl _ _⟩
  · have hql : q < w.heap.size := (Array.getElem?_eq_some_iff.1 hq).1
    have HR := hide R
    clear R hq
    generalize hn : d.cases.length = n at *
    have HN := hide hn
    go_enter Tryz.func73, Tryz.ntmps73
    go_wp2_with fail
    go_loopw [8] (fun iv wr => ∃ i : Nat, i ≤ n ∧ iv = .int .i64 i ∧ Below w.heap.size w wr ∧ Hid (findL d.cases id = findTo d.cases id i (n - i))) (fun iv _ => n - (intOf iv).toNat)
    case atStart => exact ⟨0, Nat.zero_le _, rfl, Below.refl _ _, by unfold Hid findL; rw [hn]; rfl⟩
    case round =>
      obtain ⟨i, hi, rfl, hb, HI⟩ := hrel
      by_cases hlt : i < n
      · have hlt' : (i : Int) < n := by omega
        have A : RA wr q (i * 7) (rcCells (csAt d.cases i)) := PD.ra (d := d) (cap := cap) (by rw [HN.out]; exact HR.out.on hb) i (by rw [HN.out]; exact hlt)
        have e0 : wr.cell? ⟨q, i * 7, none⟩ = _ := A.cell 0 _ rfl
        have e1 := A.cell 1 _ rfl
        have e2 := A.cell 2 _ rfl
        have e3 := A.cell 3 _ rfl
        have e4 := A.cell 4 _ rfl
        have e5 := A.cell 5 _ rfl
        have e6 := A.cell 6 _ rfl
        have hcw := (hb.cell (p := ⟨g, 0, none⟩) hgl).trans hc
        have HC := hide (isCase_any (csAt d.cases i) g id wr hcw (Nat.lt_of_lt_of_le hgl hb.size))
        unfold rcCells at HC
        have hsz := hb.size
        have HB := hide hb
        clear A hb hcw
        by_cases hid : (csAt d.cases i).id = id
        · have HF := hide (show findL d.cases id = i by rw [HI.out, show n - i = n - i - 1 + 1 by omega]; simp only [findTo]; rw [if_pos hid])
          have hbb : ((csAt d.cases i).id == id) = true := by simpa using hid
          rw [hbb] at HC
          generalize csAt d.cases i = x at *
          clear hid hbb
          go_wp2_with fail
          refine HC.out.mono ?_
          rintro e w1 ⟨rfl, hb1⟩
          have HB1 := hide (HB.out.trans (hb1.mono hsz))
          clear hb1
          go_wp2_with fail
          go_ret
          rw [HF.out]
          exact ⟨rfl, HB1.out⟩
        · have HF := hide (show findL d.cases id = findTo d.cases id (i + 1) (n - (i + 1)) by rw [HI.out, show n - i = n - (i + 1) + 1 by omega]; simp only [findTo]; rw [if_neg hid])
          have hbb : ((csAt d.cases i).id == id) = false := by simpa using hid
          rw [hbb] at HC
          generalize csAt d.cases i = x at *
          clear hid hbb
          go_wp2_with fail
          refine HC.out.mono ?_
          rintro e w1 ⟨rfl, hb1⟩
          have HB1 := hide (HB.out.trans (hb1.mono hsz))
          clear hb1
          go_wp2_with fail
          go_roundw
          case rel => exact ⟨i + 1, by omega, by go_num, HB1.out, HF⟩
          case measure => simp [intOf]; omega
      · have HF := hide (show findL d.cases id = -1 by rw [HI.out, show n - i = 0 by omega]; rfl)
        go_wp2_with fail
        go_ret
        rw [HF.out]
        exact ⟨rfl, hb⟩
set_option maxRecDepth 100000 in
set_option maxHeartbeats 1000000 in
theorem index_any (R : PD w p K F st lk lv d) (hl : d.cases.length ≤ 1000) (id : Int) :
    Calls Tryz.prog 44 #[P0 p, .int .i64 id] w fun e w' => e = .returned (.int .i64 (findL d.cases id)) ∧ Below w.heap.size w w' := by
  have hb0 : Below w.heap.size w (w.alloc (Obj.cells #[.int .i64 id] 3)) := (Below.refl _ _).alloc (Nat.le_refl _) _
  have R0 := R.on hb0
  have c82 := R0.pr.c82
  have HX := hide (fun h => indexFunc_any R0 hl w.heap.size id h)
  have hpl := R0.pr.lt
  have HB := hide hb0
  clear R R0
  go_enter Tryz.func44, Tryz.ntmps44
  go_wp2_with fail
  refine (HX.out (by simp)).mono ?_
  rintro e u ⟨rfl, hb⟩
  have HB2 := hide (HB.out.trans (hb.mono (by simp)))
  clear hb hb0
  go_wp2_with fail
  go_ret
  exact ⟨rfl, HB2.out⟩
set_option maxRecDepth 100000 in
set_option maxHeartbeats 1000000 in
theorem findP_none (R : PD w p K F st lk lv d) (hl : d.cases.length ≤ 1000) (id : Int) (hneg : findL d.cases id < 0) :
    Calls Tryz.prog 43 #[P0 p, .int .i64 id] w fun e w' => e = .returned (.pointer none) ∧ Below w.heap.size w w' := by
  have HX := hide (index_any R hl id)
  clear R
  generalize findL d.cases id = f at *
  go_enter Tryz.func43, Tryz.ntmps43
  go_wp2_with fail
  refine HX.out.mono ?_
  rintro e u ⟨rfl, hb⟩
  have HB2 := hide hb
  clear hb
  go_wp2_with fail
  go_ret
  exact ⟨rfl, HB2.out⟩
set_option maxRecDepth 100000 in
set_option maxHeartbeats 1000000 in
theorem findP_some {q cap i : Nat} (R : PD w p K F st lk (.slice (some ⟨q, 0, none⟩) d.cases.length cap) d) (hl : d.cases.length ≤ 1000) (id : Int) (hi : findL d.cases id = i) (hil : i < d.cases.length) :
    Calls Tryz.prog 43 #[P0 p, .int .i64 id] w fun e w' => e = .returned (.pointer (some ⟨q, i * 7, none⟩)) ∧ Below w.heap.size w w' := by
  have HX := hide (index_any R hl id)
  rw [hi] at HX
  have c82 := R.pr.c82
  have hpl := R.pr.lt
  have A := (R.ra i hil).lt
  have hil' : (i : Int) < d.cases.length := by omega
  clear R hi
  go_enter Tryz.func43, Tryz.ntmps43
  go_wp2_with fail
  refine HX.out.mono ?_
  rintro e u ⟨rfl, hb⟩
  have HB2 := hide hb
  have c := (hb.cell (p := ⟨p, 82, none⟩) hpl).trans c82
  have hsz := hb.size
  clear hb c82
  go_wp2_with fail
  go_ret
  exact ⟨rfl, HB2.out⟩
end
end Go.Proofs.YtcnmbldikjljeaaGreatDoor
namespace Go.Proofs.YtcnmbldikjljeaaGreatDoor
open Go.RowKit

/-- a case of which nothing comes -/
def stopL (x : Cs) : Cs := { x with level := 0, due := -1, rest := 0 }
section
variable {w : World} {p b off : Nat} {K : Kf} {F : Nat → Bool} {st : List Stg} {lk t m : Int} {lv : Value} {k : Int} {x : Cs}
theorem stop_cells (x : Cs) : ((((rcCells x).set 2 (.int .i64 0)).set 3 (.int .i64 0)).set 4 (.int .i64 0)).set 5 (.int .i64 0) = rcCells (stopL x) := rfl
set_option maxRecDepth 100000 in
set_option maxHeartbeats 1000000 in
theorem stop_any (A : RA w b off (rcCells x)) :
    Calls Tryz.prog 118 #[.pointer (some ⟨b, off, none⟩)] w fun e w' => e = .returned (.tuple #[]) ∧ PutR w w' b off (rcCells (stopL x)) := by
  have d2 := A.cell 2 _ rfl
  have d3 := A.cell 3 _ rfl
  have d4 := A.cell 4 _ rfl
  have d5 := A.cell 5 _ rfl
  have f2 := A.frozen (off + 2)
  have f3 := A.frozen (off + 3)
  have f4 := A.frozen (off + 4)
  have f5 := A.frozen (off + 5)
  have HA := hide A
  clear A
  go_enter Tryz.func118, Tryz.ntmps118
  go_wp2
  go_end0
  refine ⟨rfl, ?_⟩
  rw [← stop_cells]
  exact ((((HA.out.put (Below.refl _ _)).set 2 (by simp [rcCells]) _).set 3 (by simp [rcCells]) _).set 4 (by simp [rcCells]) _).set 5 (by simp [rcCells]) _
theorem run_cells (x : Cs) (y level : Int) (h : 0 ≤ y) : (((rcCells (stopL x)).set 2 (.int .i64 1)).set 3 (.int .i64 level)).set 4 (.int .i64 y) = rcCells { x with level := level, rest := 0, due := y } := by
  simp [rcCells, stopL, crs, dueC, h]
set_option maxRecDepth 100000 in
set_option maxHeartbeats 1000000 in
theorem run_any (R : PR w p K F st lk t m lv k) (A : RA w b off (rcCells x)) (level a n : Int) (h0 : 0 ≤ a) (h1 : a ≤ 100800) (h2 : 0 ≤ n) (h3 : n ≤ 20000) :
    Calls Tryz.prog 77 #[P0 p, .pointer (some ⟨b, off, none⟩), .int .i64 level, .int .i64 a, .int .i64 n] w fun e w' => e = .returned (.tuple #[]) ∧ PutR w w' b off (rcCells (armsL F { x with level := level, rest := 0 } a n)) := by
  have HS := hide (stop_any A)
  have HR := hide R
  clear R A
  go_enter Tryz.func77, Tryz.ntmps77
  go_wp2_with fail
  refine HS.out.mono ?_
  rintro e u ⟨rfl, hp⟩
  have HP := hide hp
  have HA := hide ((HR.out.put hp).add a n h0 h1 h2 h3)
  clear hp
  go_wp2_with fail
  refine HA.out.mono ?_
  rintro e u2 ⟨⟨y, hy, rfl⟩ | ⟨hy, rfl⟩, hb⟩
  · have P1 := HP.out.trans (HP.out.ra.put hb) rfl
    have A1 := P1.ra
    have d2 := A1.cell 2 _ rfl
    have d3 := A1.cell 3 _ rfl
    have d4 := A1.cell 4 _ rfl
    have f2 := A1.frozen (off + 2)
    have f3 := A1.frozen (off + 3)
    have f4 := A1.frozen (off + 4)
    have hEq : armsL F { x with level := level, rest := 0 } a n = { x with level := level, rest := 0, due := y } := by unfold armsL; rw [addO_of h1 hy]
    have hy0 : 0 ≤ y := by have := hy.1; omega
    have HE := hide (And.intro hEq hy0)
    have HP1 := hide P1
    clear P1 A1 hEq hy hy0 hb
    go_wp2_with fail
    go_end0
    refine ⟨rfl, ?_⟩
    rw [HE.out.1, ← run_cells x y level HE.out.2]
    exact ((HP1.out.set 2 (by simp [rcCells]) _).set 3 (by simp [rcCells]) _).set 4 (by simp [rcCells]) _
  · have P1 := HP.out.trans (HP.out.ra.put hb) rfl
    have hEq : armsL F { x with level := level, rest := 0 } a n = stopL x := by unfold armsL; rw [addO_never h1 hy]; rfl
    have HE := hide hEq
    have HP1 := hide P1
    clear P1 hEq hy hb
    go_wp2_with fail
    go_end0
    refine ⟨rfl, ?_⟩
    rw [HE.out]; exact HP1.out
end
end Go.Proofs.YtcnmbldikjljeaaGreatDoor
namespace Go.Proofs.YtcnmbldikjljeaaGreatDoor
open Go.RowKit

section
variable {w : World} {p b off : Nat} {K : Kf} {F : Nat → Bool} {st : List Stg} {lk t m : Int} {lv : Value} {k : Int} {x : Cs}
theorem row_someP {w : World} {base n size : Nat} {t : TypeId} {v : Value} {xs : List Value} (h : w.ownsRow base t size v n xs) (hn : 0 < n) : ∃ q cap, v = .slice (some ⟨q, 0, none⟩) n cap := by
  rcases h.2 with ⟨_, hz⟩ | ⟨q, cap, cur, hv, _⟩
  · omega
  · exact ⟨q, cap, hv⟩
set_option maxRecDepth 100000 in
set_option maxHeartbeats 1000000 in
theorem await_any (R : PR w p K F st lk t m lv k) (A : RA w b off (rcCells x)) (hs : StOk st) (s0 : 0 ≤ x.stage) (s1 : x.stage < st.length) (level a : Int) (l0 : 0 ≤ level) (l1 : level ≤ 100) (h0 : 0 ≤ a) (h1 : a ≤ 100800) :
    Calls Tryz.prog 72 #[P0 p, .pointer (some ⟨b, off, none⟩), .int .i64 level, .int .i64 a] w fun e w' => e = .returned (.tuple #[]) ∧ PutR w w' b off (rcCells (comesL F st { x with rest := 0 } level a)) := by
  obtain ⟨i, hi⟩ : ∃ i : Nat, x.stage = i := ⟨x.stage.toNat, by omega⟩
  have hil : i < st.length := by omega
  have hil' : (i : Int) < st.length := by omega
  have hrow := R.stg.row
  obtain ⟨sq, scap, hsv⟩ := row_someP hrow (by omega)
  have c79 := R.c79
  rw [hsv] at c79 hrow
  have cs := (hrow.cellAt (i * 7) (by omega)).trans (sgCells_lev K.ls st i hil)
  obtain ⟨la, lcap, hls⟩ := R.stg.len i hil
  have hlev := R.stg.lev i hil
  have e1 := A.cell 1 _ rfl
  simp only [hi] at e1
  have hst := hs i hil
  have hEq : comesL F st { x with rest := 0 } level a = if ((stAt st i).levels.length : Int) ≤ level then stopL x else armsL F { x with level := level, rest := 0 } a (lvAt (stAt st i) level).1 := by
    unfold comesL stopL; simp only [hi]
  have HE := hide hEq
  have HA := hide A
  have HR := hide R
  have hbl := A.lt
  have hpl := R.lt
  have hsq := World.block_lt_of_cell? _ _ cs
  clear hEq A R hrow
  rw [hls] at cs hlev
  generalize hlv : (stAt st i).levels = L at *
  have HLV := hide hlv
  by_cases hle : (L.length : Int) ≤ level
  · have HS := hide (fun n => stop_any (HA.out.on (below_drewN (Below.refl _ _) n)))
    clear hlev hlv hst
    go_enter Tryz.func72, Tryz.ntmps72
    go_wp2_with fail
    go_quiet (fail)
    go_wp2_with fail
    refine (HS.out _).mono ?_
    rintro e u ⟨rfl, hp⟩
    have HP := hide ((HA.out.put (below_drewN (Below.refl _ _) _)).trans hp rfl)
    clear hp
    go_wp2_with fail
    refine bodyPost_ret (results_none rfl _ _ _) rfl ?_
    refine ⟨rfl, ?_⟩
    rw [HE.out, if_pos hle]; exact HP.out
  · obtain ⟨j, hj⟩ : ∃ j : Nat, level = j := ⟨level.toNat, by omega⟩
    subst hj
    have hkl : j < L.length := by omega
    have hkl' : (j : Int) < L.length := by omega
    have hlev := hlev (by omega)
    obtain ⟨lq, lc2, hla⟩ := row_someP hlev (by omega)
    rw [hla] at hlev cs
    have cl := (hlev.cellAt (j * 2) (by omega)).trans (flat_at L j hkl).1
    have hlt : lq < w.heap.size := World.block_lt_of_cell? _ _ cl
    have hde := hst.2.1 j (by omega)
    have hlk : (lvAt (stAt st i) j).1 = L[j].1 := by unfold lvAt; rw [HLV.out]; simp [hkl]
    rw [hlk] at hde
    have HR2 := hide (fun n => run_any (HR.out.on (below_drewN (Below.refl _ _) n)) (HA.out.on (below_drewN (Below.refl _ _) n)) j a L[j].1 h0 h1 (by omega) (by omega))
    have HLK := hide hlk
    generalize L[j].1 = dl at *
    clear hlev hlv hst hlk
    go_enter Tryz.func72, Tryz.ntmps72
    go_wp2_with fail
    go_quiet (fail)
    go_wp2_with fail
    refine (HR2.out _).mono ?_
    rintro e u ⟨rfl, hp⟩
    have HPD := hide ((HA.out.put (below_drewN (Below.refl _ _) _)).trans hp rfl)
    clear cs c79 e1 cl hp
    go_wp2_with fail
    go_end0
    refine ⟨rfl, ?_⟩
    rw [HE.out, if_neg (by omega), HLK.out]; exact HPD.out
set_option maxRecDepth 100000 in
set_option maxHeartbeats 1000000 in
theorem enter_any (R : PR w p K F st lk t m lv k) (A : RA w b off (rcCells x)) (hs : StOk st) (stage : Int) (s0 : 0 ≤ stage) (s1 : stage < st.length) (h0 : 0 ≤ t) (h1 : t ≤ 100800) :
    Calls Tryz.prog 42 #[P0 p, .pointer (some ⟨b, off, none⟩), .int .i64 stage] w fun e w' => e = .returned (.tuple #[]) ∧ PutR w w' b off (rcCells (comesL F st { x with stage := stage, rest := 0 } 0 t)) := by
  have d1 := A.cell 1 _ rfl
  have f1 := A.frozen (off + 1)
  have P1 : PutR w (w.setCell ⟨b, off + 1, none⟩ (.int .i64 stage)) b off (rcCells { x with stage := stage }) := (A.put (Below.refl _ _)).set 1 (by simp [rcCells]) (.int .i64 stage)
  have R1 := R.put P1
  have c80 := R1.c80
  have HW := hide (await_any R1 P1.ra hs s0 s1 0 t (by omega) (by omega) h0 h1)
  have HP := hide P1
  have hbl := A.lt
  have hpl := R.lt
  have hne := R.ne A
  clear P1 R1 R A
  go_enter Tryz.func42, Tryz.ntmps42
  go_wp2_with fail
  refine HW.out.mono ?_
  rintro e u ⟨rfl, hp⟩
  have HPD := hide (HP.out.trans hp rfl)
  clear hp
  go_wp2_with fail
  go_end0
  exact ⟨rfl, HPD.out⟩
end
end Go.Proofs.YtcnmbldikjljeaaGreatDoor
namespace Go.Proofs.YtcnmbldikjljeaaGreatDoor

/-- the order in which cases are told: entries are (case, due) -/
def TL (a b : Int × Int) : Prop := a.2 < b.2 ∨ (a.2 = b.2 ∧ a.1 < b.1)
theorem TL.trans {a b c : Int × Int} (h : TL a b) (k : TL b c) : TL a c := by unfold TL at *; omega
theorem TL.asymm {a b : Int × Int} (h : TL a b) : ¬ TL b a := by unfold TL at *; omega
theorem sorted_uniq : ∀ {l1 l2 : List (Int × Int)}, l1.Pairwise TL → l2.Pairwise TL → l1.Perm l2 → l1 = l2 := by
  intro l1
  induction l1 with
  | nil => intro l2 _ _ hp; exact (List.nil_perm.1 hp).symm
  | cons a l1 ih =>
    intro l2 h1 h2 hp
    cases l2 with
    | nil => exact absurd (List.perm_nil.1 hp) (by simp)
    | cons b l2 =>
      rw [List.pairwise_cons] at h1 h2
      have ha : a ∈ b :: l2 := hp.mem_iff.1 (by simp)
      have hb : b ∈ a :: l1 := hp.mem_iff.2 (by simp)
      have e : a = b := by
        rcases List.mem_cons.1 ha with e | e
        · exact e
        · rcases List.mem_cons.1 hb with e' | e'
          · exact e'.symm
          · exact absurd (h2.1 a e) (h1.1 b e').asymm
      subst e
      rw [ih h1.2 h2.2 (List.Perm.cons_inv hp)]
def entsL (l : List Cs) : List (Int × Int) := (l.filter fun x => decide (0 ≤ x.due)).map fun x => (x.id, x.due)
theorem insL_perm (e : Int × Int) (l : List (Int × Int)) : (insL e l).Perm (e :: l) := by
  unfold insL
  have := List.takeWhile_append_dropWhile (p := fun p : Int × Int => decide (p.2 ≤ e.2)) (l := l)
  refine List.perm_middle.trans ?_
  rw [this]
theorem insL_sorted {e : Int × Int} {l : List (Int × Int)} (h : l.Pairwise TL) (hid : ∀ p ∈ l, p.1 < e.1) : (insL e l).Pairwise TL := by
  unfold insL
  have ht : ∀ p ∈ l.takeWhile (fun p => decide (p.2 ≤ e.2)), p.2 ≤ e.2 ∧ p ∈ l := fun p hp => by
    refine ⟨?_, (List.takeWhile_sublist _).subset hp⟩
    have := List.all_takeWhile (p := fun p : Int × Int => decide (p.2 ≤ e.2)) (l := l)
    rw [List.all_eq_true] at this
    simpa using this p hp
  have hd : ∀ p ∈ l.dropWhile (fun p => decide (p.2 ≤ e.2)), e.2 < p.2 := by
    clear ht
    induction l with
    | nil => intro p hp; simp at hp
    | cons a l ih =>
      intro p hp
      rw [List.dropWhile_cons] at hp
      split at hp
      · exact ih (List.pairwise_cons.1 h).2 (fun q hq => hid q (List.mem_cons_of_mem _ hq)) p hp
      · rename_i hn
        have hn : e.2 < a.2 := by simpa using hn
        rcases List.mem_cons.1 hp with rfl | hp
        · exact hn
        · have := (List.pairwise_cons.1 h).1 p hp
          unfold TL at this
          omega
  rw [List.pairwise_append, List.pairwise_cons]
  refine ⟨h.sublist (List.takeWhile_sublist _), ⟨fun p hp => .inl (hd p hp), h.sublist (List.dropWhile_sublist _)⟩, fun p hp q hq => ?_⟩
  have h1 := ht p hp
  have h2 := hid p h1.2
  rcases List.mem_cons.1 hq with rfl | hq
  · unfold TL; omega
  · have := hd q hq
    unfold TL; omega
theorem agenda_sorted : ∀ (l : List Cs) (out : List (Int × Int)), (l.map Cs.id).Pairwise (· < ·) → out.Pairwise TL → (∀ p ∈ out, ∀ x ∈ l, p.1 < x.id) →
    (agendaL l out).Pairwise TL ∧ (agendaL l out).Perm (out ++ entsL l) := by
  intro l
  induction l with
  | nil => intro out _ h2 _; exact ⟨h2, by simp [agendaL, entsL]⟩
  | cons x l ih =>
    intro out h1 h2 h3
    rw [List.map_cons, List.pairwise_cons] at h1
    simp only [agendaL]
    split
    · rename_i hd
      obtain ⟨a1, a2⟩ := ih out h1.2 h2 (fun p hp y hy => h3 p hp y (List.mem_cons_of_mem _ hy))
      refine ⟨a1, ?_⟩
      rw [show entsL (x :: l) = entsL l by unfold entsL; rw [List.filter_cons, if_neg (by simp; omega)]]
      exact a2
    · rename_i hd
      obtain ⟨a1, a2⟩ := ih (insL (x.id, x.due) out) h1.2 (insL_sorted h2 (fun p hp => h3 p hp x (by simp))) (fun p hp y hy => by
        rcases List.mem_cons.1 ((insL_perm _ _).mem_iff.1 hp) with rfl | hp
        · exact h1.1 _ (List.mem_map_of_mem hy)
        · exact h3 p hp y (List.mem_cons_of_mem _ hy))
      refine ⟨a1, a2.trans ?_⟩
      rw [show entsL (x :: l) = (x.id, x.due) :: entsL l by unfold entsL; rw [List.filter_cons, if_pos (by simp; omega)]; rfl]
      exact ((insL_perm _ _).append_right _).trans List.perm_middle.symm
/-- whatever list of all entries stands in order is the agenda -/
theorem agenda_is {l : List Cs} {ts : List (Int × Int)} (h : (l.map Cs.id).Pairwise (· < ·)) (hp : (entsL l).Perm ts) (hs : ts.Pairwise fun a b => ¬ TL b a) : ts = agendaL l [] := by
  obtain ⟨a1, a2⟩ := agenda_sorted l [] h .nil (fun p hp => by simp at hp)
  rw [List.nil_append] at a2
  refine sorted_uniq ?_ a1 (hp.symm.trans a2.symm)
  have hd : (ts.map (·.1)).Nodup := by
    refine (List.Perm.nodup_iff (hp.map _)).1 ?_
    unfold entsL
    rw [List.map_map]
    have h1 : ((l.filter fun x => decide (0 ≤ x.due)).map Cs.id).Pairwise (· < ·) := h.sublist (List.filter_sublist.map _)
    exact h1.imp (fun hab e => by omega)
  rw [List.nodup_iff_pairwise_ne, List.pairwise_map] at hd
  exact (hd.and hs).imp (fun ⟨e1, e2⟩ => by unfold TL at *; omega)
theorem entsL_take (l : List Cs) (k : Nat) (hk : k < l.length) : entsL (l.take (k + 1)) = if 0 ≤ (csAt l k).due then entsL (l.take k) ++ [((csAt l k).id, (csAt l k).due)] else entsL (l.take k) := by
  unfold entsL
  rw [List.take_succ_eq_append_getElem hk, List.filter_append, List.map_append, csAt_nat hk]
  by_cases h : 0 ≤ l[k].due
  · rw [if_pos h]; simp [h]
  · rw [if_neg h]; simp [h]
end Go.Proofs.YtcnmbldikjljeaaGreatDoor
