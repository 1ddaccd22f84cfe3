import Derived.Test.YtcnmbldikjljeaaGreatDoorT19
import Derived.Test.YtcnmbldikjljeaaGreatDoorT16
import Derived.Deep.RegionLaw
import Derived.Lib.SliceRun
import Derived.StillTailTactics
import Derived.Deep.AppendLies
namespace Go.Proofs.YtcnmbldikjljeaaGreatDoor
open Go.Shelf Go.RowKit Go.Lib Go.Sort Go.MuLone

section
variable {w : World} {p : Nat} {K : Kf} {F : Nat → Bool} {st : List Stg} {lv : Value} {d : Dk} {N : Int}
set_option maxRecDepth 100000 in
set_option maxHeartbeats 1000000 in
theorem hold_any (R : PD w p K F st 0 lv d) (ok : DkOk F st d N) (iv : InvD F d) (id : Int) :
    Calls Tryz.prog 21 #[P0 p, .int .i64 id] w fun e w' => e = .returned (.int .i64 (holdC F d id).2) ∧ PD w' p K F st 0 lv (holdC F d id).1 ∧ Frm p lv lv w w' := by
  have hlen := ok.len
  have c0 := R.pr.c0
  have f0 := R.pr.frz 0
  obtain ⟨R1, F1⟩ := R.lock 1
  have H1 := hide (And.intro R1 F1)
  rcases findL_bd d.cases id with hneg | ⟨i, hi, hil⟩
  · have HV := hide (show holdC F d id = (d, 5) by unfold holdC; rw [if_pos hneg])
    have HF := hide (findP_none R1 (by omega) id hneg)
    clear R R1 F1
    go_enter_defers Tryz.func21, Tryz.ntmps21
    go_wp2_with (go_at_call 36; refine (lock_free muLib ⟨p, 0, none⟩ _ c0 f0).mono ?_; rintro e w' ⟨rfl, rfl⟩)
    refine HF.out.mono ?_
    rintro e u ⟨rfl, hb⟩
    have H2 := hide (And.intro (H1.out.1.on hb) (H1.out.2.trans (.of_below hb)))
    clear hb H1 c0 f0
    go_wp2_with fail
    refine leaves_cons (f := 37) (args := #[.pointer (some ⟨p, 0, none⟩)]) (by simp) (by simp [go_sem]) ?_
    refine (unlock_deferred muLib ⟨p, 0, none⟩ .returning _ H2.out.1.pr.c0 (H2.out.1.pr.frz 0)).mono ?_
    rintro e u' w'' ⟨rfl, rfl, rfl⟩
    rw [HV.out]
    exact ⟨_, results_tmp rfl _ _ _, rfl, H2.out.1.free H2.out.2⟩
  obtain ⟨q, cap, hlv⟩ := row_some R.own (by omega)
  subst hlv
  have hnn : ¬ findL d.cases id < 0 := by omega
  have hxm := csMem hil
  have hx := ok.cs _ hxm
  have HF := hide (findP_some R1 (by omega) id hi hil)
  by_cases hh : (csAt d.cases i).held = true
  · have HV := hide (show holdC F d id = (d, 6) by unfold holdC; rw [if_neg hnn, hi, if_pos hh])
    clear R R1 F1
    go_enter_defers Tryz.func21, Tryz.ntmps21
    go_wp2_with (go_at_call 36; refine (lock_free muLib ⟨p, 0, none⟩ _ c0 f0).mono ?_; rintro e w' ⟨rfl, rfl⟩)
    refine HF.out.mono ?_
    rintro e u ⟨rfl, hb⟩
    have R2 := H1.out.1.on hb
    have e6 := (R2.ra i hil).cell 6 _ rfl
    rw [hh] at e6
    have H2 := hide (And.intro R2 (H1.out.2.trans (.of_below hb)))
    clear hb H1 c0 f0 R2
    go_wp2_with fail
    refine leaves_cons (f := 37) (args := #[.pointer (some ⟨p, 0, none⟩)]) (by simp) (by simp [go_sem]) ?_
    refine (unlock_deferred muLib ⟨p, 0, none⟩ .returning _ H2.out.1.pr.c0 (H2.out.1.pr.frz 0)).mono ?_
    rintro e u' w'' ⟨rfl, rfl, rfl⟩
    rw [HV.out]
    exact ⟨_, results_tmp rfl _ _ _, rfl, H2.out.1.free H2.out.2⟩
  have hh' : (csAt d.cases i).held = false := by simpa using hh
  have HV := hide (show holdC F d id = ({ d with cases := d.cases.set i (heldL F d.time (csAt d.cases i)) }, 0) by
    unfold holdC; rw [if_neg hnn, hi, if_neg hh]; unfold setC; rw [Int.toNat_natCast]; rfl)
  have hd : 0 ≤ (csAt d.cases i).due → d.time ≤ (csAt d.cases i).due ∧ (csAt d.cases i).due ≤ 100800 ∧ 0 < cnt F (csAt d.cases i).due.toNat - cnt F d.time.toNat := fun h => ⟨(ok.du _ hxm h).1, hx.d1, iv.left ok hxm h⟩
  have HD := hide hd
  clear R R1 F1 hd
  go_enter_defers Tryz.func21, Tryz.ntmps21
  go_wp2_with (go_at_call 36; refine (lock_free muLib ⟨p, 0, none⟩ _ c0 f0).mono ?_; rintro e w' ⟨rfl, rfl⟩)
  refine HF.out.mono ?_
  rintro e u ⟨rfl, hb⟩
  have R2 := H1.out.1.on hb
  have e6 := (R2.ra i hil).cell 6 _ rfl
  rw [hh'] at e6
  have H2 := hide (And.intro R2 (H1.out.2.trans (.of_below hb)))
  have HE := hide (holdR_any R2.pr (R2.ra i hil) ok.t0 HD.out)
  clear hb H1 c0 f0 R2
  go_wp2_with fail
  refine HE.out.mono ?_
  rintro e u2 ⟨rfl, hp⟩
  obtain ⟨R4, F4⟩ := H2.out.1.put i hil hp
  have H4 := hide (And.intro R4 (H2.out.2.trans F4))
  clear hp R4 F4
  go_wp2_with fail
  refine leaves_cons (f := 37) (args := #[.pointer (some ⟨p, 0, none⟩)]) (by simp) (by simp [go_sem]) ?_
  refine (unlock_deferred muLib ⟨p, 0, none⟩ .returning _ H4.out.1.pr.c0 (H4.out.1.pr.frz 0)).mono ?_
  rintro e u' w'' ⟨rfl, rfl, rfl⟩
  rw [HV.out]
  exact ⟨_, results_tmp rfl _ _ _, rfl, H4.out.1.free H4.out.2⟩
set_option maxRecDepth 100000 in
set_option maxHeartbeats 1000000 in
theorem resume_any (R : PD w p K F st 0 lv d) (ok : DkOk F st d N) (hr : DkR st d) (id : Int) :
    Calls Tryz.prog 23 #[P0 p, .int .i64 id] w fun e w' => e = .returned (.int .i64 (resumeC F d id).2) ∧ PD w' p K F st 0 lv (resumeC F d id).1 ∧ Frm p lv lv w w' := by
  have hlen := ok.len
  have c0 := R.pr.c0
  have f0 := R.pr.frz 0
  obtain ⟨R1, F1⟩ := R.lock 1
  have H1 := hide (And.intro R1 F1)
  rcases findL_bd d.cases id with hneg | ⟨i, hi, hil⟩
  · have HV := hide (show resumeC F d id = (d, 5) by unfold resumeC; rw [if_pos hneg])
    have HF := hide (findP_none R1 (by omega) id hneg)
    clear R R1 F1
    go_enter_defers Tryz.func23, Tryz.ntmps23
    go_wp2_with (go_at_call 36; refine (lock_free muLib ⟨p, 0, none⟩ _ c0 f0).mono ?_; rintro e w' ⟨rfl, rfl⟩)
    refine HF.out.mono ?_
    rintro e u ⟨rfl, hb⟩
    have H2 := hide (And.intro (H1.out.1.on hb) (H1.out.2.trans (.of_below hb)))
    clear hb H1 c0 f0
    go_wp2_with fail
    refine leaves_cons (f := 37) (args := #[.pointer (some ⟨p, 0, none⟩)]) (by simp) (by simp [go_sem]) ?_
    refine (unlock_deferred muLib ⟨p, 0, none⟩ .returning _ H2.out.1.pr.c0 (H2.out.1.pr.frz 0)).mono ?_
    rintro e u' w'' ⟨rfl, rfl, rfl⟩
    rw [HV.out]
    exact ⟨_, results_tmp rfl _ _ _, rfl, H2.out.1.free H2.out.2⟩
  obtain ⟨q, cap, hlv⟩ := row_some R.own (by omega)
  subst hlv
  have hnn : ¬ findL d.cases id < 0 := by omega
  have hxm := csMem hil
  have hx := ok.cs _ hxm
  have HF := hide (findP_some R1 (by omega) id hi hil)
  by_cases hh : (csAt d.cases i).held = false
  · have HV := hide (show resumeC F d id = (d, 6) by unfold resumeC; rw [if_neg hnn, hi, if_pos hh])
    clear R R1 F1
    go_enter_defers Tryz.func23, Tryz.ntmps23
    go_wp2_with (go_at_call 36; refine (lock_free muLib ⟨p, 0, none⟩ _ c0 f0).mono ?_; rintro e w' ⟨rfl, rfl⟩)
    refine HF.out.mono ?_
    rintro e u ⟨rfl, hb⟩
    have R2 := H1.out.1.on hb
    have e6 := (R2.ra i hil).cell 6 _ rfl
    rw [hh] at e6
    have H2 := hide (And.intro R2 (H1.out.2.trans (.of_below hb)))
    clear hb H1 c0 f0 R2
    go_wp2_with fail
    refine leaves_cons (f := 37) (args := #[.pointer (some ⟨p, 0, none⟩)]) (by simp) (by simp [go_sem]) ?_
    refine (unlock_deferred muLib ⟨p, 0, none⟩ .returning _ H2.out.1.pr.c0 (H2.out.1.pr.frz 0)).mono ?_
    rintro e u' w'' ⟨rfl, rfl, rfl⟩
    rw [HV.out]
    exact ⟨_, results_tmp rfl _ _ _, rfl, H2.out.1.free H2.out.2⟩
  have hh' : (csAt d.cases i).held = true := by simpa using hh
  have HV := hide (show resumeC F d id = ({ d with cases := d.cases.set i (wentL F d.time (csAt d.cases i)) }, 0) by
    unfold resumeC; rw [if_neg hnn, hi, if_neg hh]; unfold setC; rw [Int.toNat_natCast]; rfl)
  have hd : 0 < (csAt d.cases i).rest → (csAt d.cases i).due = -1 := fun h => (hr _ hxm h).2.1
  have HD := hide hd
  clear R R1 F1 hd
  go_enter_defers Tryz.func23, Tryz.ntmps23
  go_wp2_with (go_at_call 36; refine (lock_free muLib ⟨p, 0, none⟩ _ c0 f0).mono ?_; rintro e w' ⟨rfl, rfl⟩)
  refine HF.out.mono ?_
  rintro e u ⟨rfl, hb⟩
  have R2 := H1.out.1.on hb
  have e6 := (R2.ra i hil).cell 6 _ rfl
  rw [hh'] at e6
  have H2 := hide (And.intro R2 (H1.out.2.trans (.of_below hb)))
  have HE := hide (resumeR_any R2.pr (R2.ra i hil) ok.t0 ok.t1 HD.out hx.r1)
  clear hb H1 c0 f0 R2
  go_wp2_with fail
  refine HE.out.mono ?_
  rintro e u2 ⟨rfl, hp⟩
  obtain ⟨R4, F4⟩ := H2.out.1.put i hil hp
  have H4 := hide (And.intro R4 (H2.out.2.trans F4))
  clear hp R4 F4
  go_wp2_with fail
  refine leaves_cons (f := 37) (args := #[.pointer (some ⟨p, 0, none⟩)]) (by simp) (by simp [go_sem]) ?_
  refine (unlock_deferred muLib ⟨p, 0, none⟩ .returning _ H4.out.1.pr.c0 (H4.out.1.pr.frz 0)).mono ?_
  rintro e u' w'' ⟨rfl, rfl, rfl⟩
  rw [HV.out]
  exact ⟨_, results_tmp rfl _ _ _, rfl, H4.out.1.free H4.out.2⟩
end
end Go.Proofs.YtcnmbldikjljeaaGreatDoor
namespace Go.Proofs.YtcnmbldikjljeaaGreatDoor
open Go.RowKit

/-- 'append(s[:n], news...)' where s's block is known and has room -/
theorem step_append_in {P : Program} {ops : Array Oper} {o : Oper} {a : Act} {w : World} {K : Act → World → Prop} {Q : Exit → Act → World → Prop} {E : Prop}
    (hg0 : o.guard = none) (s x : Operand) (t : TypeId) (hop : o.op = Op.call { callee := Callee.builtin Builtin.append, args := #[s, x], argTypes := #[t, t] })
    (e : TypeId) (i : TypeInfo) (size : Nat) (h1 : P.underlying t = some (.slice e)) (h2 : P.info? e = some i) (h4 : i.size = size)
    (g n cap : Nat) (cur : Array Value) (hg : w.heap[g]? = some (.cells cur e (0, 0))) (hs : a.eval s = .slice (some ⟨g, 0, none⟩) n cap)
    (ad : Addr) (m c : Nat) (news : List Value) (hx : a.eval x = .slice (some ad) m c) (hn : news.length = m * size) (hc : ∀ j u, news[j]? = some u → w.cell? (ad.add j) = some u) (h1c : ∀ u ∈ news, u.oneCell' = true)
    (hroom : n + m ≤ cap) (hfit : n * size + news.length ≤ cur.size)
    (hK : K (a.put o.dst (.slice (some ⟨g, 0, none⟩) (n + m) cap)) (w.setRow g (cur.toList.take (n * size) ++ news ++ cur.toList.drop (n * size + news.length)).toArray)) :
    if Region.wanted o (yielded ops a.tmps) = true then Oper.wp P o a w K Q else E := by
  have hw : Region.wanted o (yielded ops a.tmps) = true := by simp [Region.wanted, hg0]
  rw [if_pos hw]
  subst h4
  have hrun := run_append_room (P := P) w t o.type e i h1 h2 g n cap cur hg ad m c news hn hc h1c hroom hfit
  unfold Oper.wp
  rw [List.append_assoc] at hK hrun
  simp [execOp, hop, resolve, invoke, builtin, hs, hx, hrun, Result.andThen]
  exact hK
/-- 'clear' of one element, of whatever size -/
theorem run_clear_one {P : Program} (w : World) (t e ty : TypeId) (z : Value) (zs : List Value) (ht : P.underlying t = some (.slice e)) (hv : ∀ w, (zeroValue e).run P w = .ok z w) (hz : z.cells = zs.toArray) (h1 : ∀ v ∈ zs, v.oneCell' = true) (g o c : Nat) (cur : Array Value)
    (hg : w.heap[g]? = some (.cells cur e (0, 0))) (hfit : o + zs.length ≤ cur.size) :
    (Builtin.clear_ #[t] ty #[.slice (some ⟨g, o, none⟩) 1 c]).run P w = .ok (.tuple #[]) (w.setRow g (cur.toList.take o ++ zs ++ cur.toList.drop (o + zs.length)).toArray) := by
  have hzc : (Builtin.zeroCells z.cells 1).toList = zs := by
    rw [hz]
    apply List.ext_getElem
    · simp [Builtin.zeroCells]
    · intro i h1 h2
      simp only [Builtin.zeroCells] at h1 ⊢
      simp at h1 ⊢
      rw [Nat.mod_eq_of_lt h2]
      simp [h2]
  have hst := run_storeCells_at P g o e zs 0 cur w hg (by simpa using hfit) h1
  simp only [Nat.add_zero] at hst
  simp [Builtin.clear_, run_underlying ht, hv, hzc, hst]
end Go.Proofs.YtcnmbldikjljeaaGreatDoor
namespace Go.Proofs.YtcnmbldikjljeaaGreatDoor
open Go.RowKit

theorem recInfo : (Tryz.prog.info? 119).map (fun i => (i.zero, i.size, i.bytes)) = some (some (.agg #[.int .i64 0, .int .i64 0, .int .i64 0, .int .i64 0, .int .i64 0, .int .i64 0, .bool false]), 7, 56) := by kernel_rfl
theorem heap_setRow_same (w : World) {g : Nat} {cur : Array Value} {e : TypeId} {fz : Nat × Nat} (cs : Array Value) (h : w.heap[g]? = some (.cells cur e fz)) : (w.setRow g cs).heap[g]? = some (.cells cs e fz) := by
  unfold World.setRow
  simp [Array.getElem?_modify, h]
theorem heap_setRow_other (w : World) {g k : Nat} (cs : Array Value) (h : k ≠ g) : (w.setRow g cs).heap[k]? = w.heap[k]? := by
  unfold World.setRow
  simp [Array.getElem?_modify, Ne.symm h]
def recZ : List Value := [.int .i64 0, .int .i64 0, .int .i64 0, .int .i64 0, .int .i64 0, .int .i64 0, .bool false]
theorem rcsOne (l : List Cs) : ∀ u ∈ rcsCells l, u.oneCell' = true := by
  intro u hu
  simp only [rcsCells, List.mem_flatMap, rcCells] at hu
  obtain ⟨x, _, hu⟩ := hu
  simp only [List.mem_cons, List.not_mem_nil, or_false] at hu
  rcases hu with rfl | rfl | rfl | rfl | rfl | rfl | rfl <;> rfl
set_option maxRecDepth 100000 in
set_option maxHeartbeats 1000000 in
theorem delete_any {w : World} {q cap i : Nat} {l : List Cs} (hown : w.ownsRow 0 119 7 (.slice (some ⟨q, 0, none⟩) l.length cap) l.length (rcsCells l)) (hi : i < l.length) (hl : l.length ≤ 1000) :
    Calls Tryz.prog 45 #[.slice (some ⟨q, 0, none⟩) l.length cap, .int .i64 i, .int .i64 (i + 1)] w fun e w' => e = .returned (.slice (some ⟨q, 0, none⟩) (l.length - 1) cap) ∧ w.grownBy w' (some q) ∧ w'.ownsRow 0 119 7 (.slice (some ⟨q, 0, none⟩) (l.length - 1) cap) (l.length - 1) (rcsCells (l.eraseIdx i)) := by
  rcases hown.2 with ⟨h', _⟩ | ⟨q', cap', cur, h', hbq, hh, hc1, hc2, hc3, ht⟩
  · cases h'
  simp only [Value.slice.injEq, Option.some.injEq, Addr.mk.injEq, and_true, true_and] at h'
  obtain ⟨rfl, rfl⟩ := h'
  obtain ⟨i0, hinf, hq0, hq1, hq2⟩ := info_parts recInfo
  have hlc : l.length ≤ cap := hc1
  unfold maxLen at hc2
  obtain ⟨m, hm⟩ : ∃ m, l.length = m + 1 := ⟨l.length - 1, by omega⟩
  obtain ⟨news, hnews⟩ : ∃ news, news = rcsCells (l.drop (i + 1)) := ⟨_, rfl⟩
  have s1 : Hid (news.length = (m - i) * 7) := by unfold Hid; rw [hnews, rcsCells_len, List.length_drop, hm]; congr 1; omega
  have s2 : Hid (∀ u ∈ news, u.oneCell' = true) := by unfold Hid; rw [hnews]; exact rcsOne _
  have s3 : Hid (i * 7 + news.length ≤ cur.size) := by unfold Hid; rw [s1.out, hc3]; omega
  have hdr : rcsCells l = rcsCells (l.take (i + 1)) ++ news := by
    rw [hnews]; unfold rcsCells; rw [← List.flatMap_append, List.take_append_drop]
  have hsrc : Hid (∀ j u, news[j]? = some u → w.drew.cell? ⟨q, (i + 1) * 7 + j, none⟩ = some u) := by
    intro j u hu
    have hj : j < (m - i) * 7 := by rw [← s1.out]; exact (List.getElem?_eq_some_iff.1 hu).1
    have h1 := hown.cellAt ((i + 1) * 7 + j) (by omega)
    rw [hdr, List.getElem?_append_right (by rw [rcsCells_len]; simp; omega), rcsCells_len, show (i + 1) * 7 + j - (l.take (i + 1)).length * 7 = j by simp; omega, hu] at h1
    exact h1
  have hhd : w.drew.heap[q]? = some (.cells cur 119 (0, 0)) := hh
  have HH := hide hhd
  have hi' : (i : Int) ≤ m := by omega
  have hi3 : (i : Int) + 1 ≤ cap := by omega
  have hn1 : i ≤ cap := by omega
  have hn2 : i + 1 ≤ cap := by omega
  have hn3 : i ≤ m := by omega
  have hn4 : ((i : Int) + 1).toNat = i + 1 := by omega
  have hn5 : (0 : Int) ≤ (i : Int) + 1 := by omega
  clear hdr hown hbq hq0 hhd
  have HFIN : Hid (w.grownBy ((w.drew.setRow q (cur.toList.take (i * 7) ++ (news ++ cur.toList.drop (i * 7 + news.length))).toArray).setRow q ((cur.toList.take (i * 7) ++ (news ++ cur.toList.drop (i * 7 + news.length))).take (m * 7) ++ recZ ++ (cur.toList.take (i * 7) ++ (news ++ cur.toList.drop (i * 7 + news.length))).drop (m * 7 + recZ.length)).toArray) (some q) ∧ ((w.drew.setRow q (cur.toList.take (i * 7) ++ (news ++ cur.toList.drop (i * 7 + news.length))).toArray).setRow q ((cur.toList.take (i * 7) ++ (news ++ cur.toList.drop (i * 7 + news.length))).take (m * 7) ++ recZ ++ (cur.toList.take (i * 7) ++ (news ++ cur.toList.drop (i * 7 + news.length))).drop (m * 7 + recZ.length)).toArray).ownsRow 0 119 7 (.slice (some ⟨q, 0, none⟩) m cap) m (rcsCells (l.eraseIdx i))) := by
    have hX : (cur.toList.take (i * 7) ++ (news ++ cur.toList.drop (i * 7 + news.length))).length = cap * 7 := by
      have := s3.out
      simp; omega
    have htk : (cur.toList.take (i * 7) ++ (news ++ cur.toList.drop (i * 7 + news.length))).take (m * 7) = rcsCells (l.eraseIdx i) := by
      have e1 : cur.toList.take (i * 7) = rcsCells (l.take i) := by
        have e2 : rcsCells l = rcsCells (l.take i) ++ rcsCells (l.drop i) := by unfold rcsCells; rw [← List.flatMap_append, List.take_append_drop]
        have e3 : (rcsCells (l.take i)).length = i * 7 := by rw [rcsCells_len]; simp; omega
        have e4 : cur.toList.take (i * 7) = (cur.toList.take (l.length * 7)).take (i * 7) := by rw [List.take_take]; congr 1; omega
        rw [e4, ht, e2, ← e3, List.take_left']
        rfl
      rw [List.eraseIdx_eq_take_drop_succ, show rcsCells (l.take i ++ l.drop (i + 1)) = rcsCells (l.take i) ++ rcsCells (l.drop (i + 1)) by unfold rcsCells; rw [List.flatMap_append], ← e1, ← hnews, ← List.append_assoc]
      refine List.take_left' ?_
      have := s1.out
      rw [List.length_append, e1, rcsCells_len, this]
      simp; omega
    refine ⟨⟨rfl, rfl, rfl, by simp [World.setRow], fun k hk hne => ?_⟩, ⟨by rw [rcsCells_len, List.length_eraseIdx_of_lt hi, hm]; rfl, .inr ⟨q, cap, _, rfl, Nat.zero_le _, heap_setRow_same _ _ (heap_setRow_same _ _ hh), by omega, by unfold maxLen; exact hc2, ?_, ?_⟩⟩⟩
    · have hkq : k ≠ q := fun e => hne (by rw [e])
      rw [heap_setRow_other _ _ hkq, heap_setRow_other _ _ hkq]; rfl
    · simp only [List.size_toArray, List.length_append, List.length_take, List.length_drop] at hX ⊢
      simp only [recZ, List.length_cons, List.length_nil]
      omega
    · rw [← htk, List.append_assoc]
      refine List.take_left' ?_
      rw [List.length_take, hX]; omega
  by_cases hcap : cap = i + 1
  · clear hnews
    have hmi : m = i := by omega
    subst hmi
    subst hcap
    have hq9 : (m : Int) ≤ (m : Int) + 1 := by omega
    have hq8 : m ≤ m + 1 := by omega
    have hnl : news.length = 0 := by have := s1.out; rw [Nat.sub_self] at this; omega
    have hne0 : ∀ j u, news[j]? = some u → w.drew.cell? ((⟨q, 0, none⟩ : Addr).add j) = some u := fun j u hu => by rw [List.length_eq_zero_iff.1 hnl] at hu; simp at hu
    have HNE := hide hne0
    have HNL := hide hnl
    clear hne0 hnl
    go_enter Tryz.func45, Tryz.ntmps45
    go_wp2_with fail
    go_region_law (refine step_append_in rfl (.tmp 22) (.tmp 25) 107 rfl 119 i0 7 Tryz.underlying107 hinf hq1 q m (m + 1) cur HH.out (by simp [Act.eval, Act.put]) ⟨q, 0, none⟩ 0 0 news (by simp [Act.eval, Act.put]) (by rw [HNL.out]) HNE.out s2.out (by omega) s3.out ?_)
    generalize hW1 : w.drew.setRow q _ = W1
    have hg1 : W1.heap[q]? = some (.cells (cur.toList.take (m * 7) ++ (news ++ cur.toList.drop (m * 7 + news.length))).toArray 119 (0, 0)) := by
      rw [← hW1]; exact heap_setRow_same _ _ HH.out
    have hcl := fun ty => run_clear_one (P := Tryz.prog) W1 107 119 ty _ recZ Tryz.underlying107 Tryz.zeroValue119 rfl (by decide) q (m * 7) 1 _ hg1 (by simp [recZ, s1.out, hc3]; omega)
    have HW1 := hide (And.intro hW1 hg1)
    clear hW1 hg1
    generalize hW2 : W1.setRow q _ = W2 at hcl
    have HW2 := hide hW2
    clear hW2
    have hml : m ≤ (m + 1) := by omega
    have hml2 : m + 1 ≤ (m + 1) := by omega
    have hml3 : (m : Int) ≤ (m : Int) + 1 := by omega
    have hml4 : (m : Int) + 1 ≤ (m : Int) + 1 := by omega
    have hml5 : m + 1 ≠ m := by omega
    go_wp2_with fail
    go_ret
    refine ⟨rfl, ?_⟩
    rw [← HW2.out, ← HW1.out.1]
    exact HFIN.out
  · clear hnews
    have hcap' : i + 1 < cap := by omega
    have hcap2 : (i : Int) + 1 < cap := by omega
    go_enter Tryz.func45, Tryz.ntmps45
    go_wp2_with fail
    go_region_law (refine step_append_in rfl (.tmp 22) (.tmp 25) 107 rfl 119 i0 7 Tryz.underlying107 hinf hq1 q i cap cur HH.out (by simp [Act.eval, Act.put]) ⟨q, (i + 1) * 7, none⟩ (m - i) (cap - (i + 1)) news (by simp [Act.eval, Act.put]) s1.out (by simpa [Addr.add_lit] using hsrc.out) s2.out (by omega) s3.out ?_)
    generalize hW1 : w.drew.setRow q _ = W1
    have hg1 : W1.heap[q]? = some (.cells (cur.toList.take (i * 7) ++ (news ++ cur.toList.drop (i * 7 + news.length))).toArray 119 (0, 0)) := by
      rw [← hW1]; exact heap_setRow_same _ _ HH.out
    have hcl := fun ty => run_clear_one (P := Tryz.prog) W1 107 119 ty _ recZ Tryz.underlying107 Tryz.zeroValue119 rfl (by decide) q (m * 7) (cap - m) _ hg1 (by simp [recZ, s1.out, hc3]; omega)
    have HW1 := hide (And.intro hW1 hg1)
    clear hW1 hg1
    generalize hW2 : W1.setRow q _ = W2 at hcl
    have HW2 := hide hW2
    clear hW2
    have hml : m ≤ cap := by omega
    have hml2 : m + 1 ≤ cap := by omega
    have hml3 : (m : Int) ≤ cap := by omega
    have hml4 : (m : Int) + 1 ≤ cap := by omega
    have hml5 : cap ≠ m := by omega
    go_wp2_with fail
    go_ret
    refine ⟨rfl, ?_⟩
    rw [← HW2.out, ← HW1.out.1]
    exact HFIN.out
end Go.Proofs.YtcnmbldikjljeaaGreatDoor
namespace Go.Proofs.YtcnmbldikjljeaaGreatDoor
open Go.Shelf Go.RowKit Go.Lib Go.Sort Go.MuLone

section
variable {w : World} {p : Nat} {K : Kf} {F : Nat → Bool} {st : List Stg} {lv : Value} {d : Dk} {N : Int}
set_option maxRecDepth 100000 in
set_option maxHeartbeats 1000000 in
theorem close_any (R : PD w p K F st 0 lv d) (ok : DkOk F st d N) (id : Int) :
    Calls Tryz.prog 20 #[P0 p, .int .i64 id] w fun e w' => e = .returned (.int .i64 (closeC d id).2) ∧ ∃ lv', PD w' p K F st 0 lv' (closeC d id).1 ∧ Frm p lv lv' w w' := by
  have hlen := ok.len
  have c0 := R.pr.c0
  have f0 := R.pr.frz 0
  obtain ⟨R1, F1⟩ := R.lock 1
  have H1 := hide (And.intro R1 F1)
  have HI := hide (index_any R1 (by omega) id)
  rcases findL_bd d.cases id with hneg | ⟨i, hi, hil⟩
  · have HV := hide (show closeC d id = (d, 5) by unfold closeC; rw [if_pos hneg])
    clear R R1 F1
    generalize findL d.cases id = f at *
    go_enter_defers Tryz.func20, Tryz.ntmps20
    go_wp2_with (go_at_call 36; refine (lock_free muLib ⟨p, 0, none⟩ _ c0 f0).mono ?_; rintro e w' ⟨rfl, rfl⟩)
    refine HI.out.mono ?_
    rintro e u ⟨rfl, hb⟩
    have H2 := hide (And.intro (H1.out.1.on hb) (H1.out.2.trans (.of_below hb)))
    clear hb H1 c0 f0
    go_wp2_with fail
    refine leaves_cons (f := 37) (args := #[.pointer (some ⟨p, 0, none⟩)]) (by simp) (by simp [go_sem]) ?_
    refine (unlock_deferred muLib ⟨p, 0, none⟩ .returning _ H2.out.1.pr.c0 (H2.out.1.pr.frz 0)).mono ?_
    rintro e u' w'' ⟨rfl, rfl, rfl⟩
    rw [HV.out]
    exact ⟨_, results_tmp rfl _ _ _, rfl, _, H2.out.1.free H2.out.2⟩
  obtain ⟨q, cap, hlv⟩ := row_some R.own (by omega)
  subst hlv
  have hnn : ¬ findL d.cases id < 0 := by omega
  rw [hi] at HI
  have HV := hide (show closeC d id = ({ d with cases := d.cases.eraseIdx i }, 0) by unfold closeC; rw [if_neg hnn, hi, Int.toNat_natCast])
  clear R R1 F1 hnn hi
  go_enter_defers Tryz.func20, Tryz.ntmps20
  go_wp2_with (go_at_call 36; refine (lock_free muLib ⟨p, 0, none⟩ _ c0 f0).mono ?_; rintro e w' ⟨rfl, rfl⟩)
  refine HI.out.mono ?_
  rintro e u ⟨rfl, hb⟩
  have R2 := H1.out.1.on hb
  have c82 := R2.pr.c82
  have H2 := hide (And.intro R2 (H1.out.2.trans (.of_below hb)))
  have hpl := R2.pr.lt
  clear hb H1 c0 f0 R2
  have HDL := hide (delete_any H2.out.1.own hil (by omega))
  go_wp2_with fail
  refine HDL.out.mono ?_
  rintro e u1 ⟨rfl, hg, hown⟩
  have hl2 : (d.cases.eraseIdx i).length = d.cases.length - 1 := List.length_eraseIdx_of_lt hil
  obtain ⟨r1, r2, r3, r4⟩ := H2.out.1.row (l := d.cases.eraseIdx i) (lv' := .slice (some ⟨q, 0, none⟩) (d.cases.length - 1) cap) hg (by rw [hl2]; exact hown) (fun k hk => .inl hk)
  have H3 := hide (And.intro r3 (H2.out.2.trans r4))
  clear r3 r4 hg hown H2 hpl c82
  go_wp2_with fail
  refine leaves_cons (f := 37) (args := #[.pointer (some ⟨p, 0, none⟩)]) (by simp) (by simp [go_sem]) ?_
  refine (unlock_deferred muLib ⟨p, 0, none⟩ .returning _ H3.out.1.pr.c0 (H3.out.1.pr.frz 0)).mono ?_
  rintro e u' w'' ⟨rfl, rfl, rfl⟩
  rw [HV.out]
  exact ⟨_, results_tmp rfl _ _ _, rfl, _, H3.out.1.free H3.out.2⟩
end
end Go.Proofs.YtcnmbldikjljeaaGreatDoor
namespace Go.Proofs.YtcnmbldikjljeaaGreatDoor
open Go.Shelf Go.RowKit Go.Lib Go.Sort Go.MuLone

theorem comes_any_due (F : Nat → Bool) (st : List Stg) (a id stage level t : Int) (held : Bool) : comesL F st ⟨id, stage, 0, a, held, 0⟩ level t = comesL F st ⟨id, stage, 0, 0, held, 0⟩ level t := by
  unfold comesL
  dsimp only
  split
  · rfl
  · unfold armsL; split <;> rfl
section
variable {w : World} {p : Nat} {K : Kf} {F : Nat → Bool} {st : List Stg} {lv : Value} {d : Dk} {N : Int}
theorem PutR.below {w w2 w3 : World} {b off n : Nat} {vs : List Value} (h : PutR w2 w3 b off vs) (hb : Below n w w2) (hn : n ≤ b) (hs : n ≤ w2.heap.size) : Below n w w3 :=
  ⟨h.os.trans hb.os, h.tape.trans hb.tape, h.output.trans hb.output, Nat.le_trans hb.size h.size, fun k hk => (h.other k (Nat.lt_of_lt_of_le hk hs) (by omega)).trans (hb.block k hk)⟩
set_option maxRecDepth 100000 in
set_option maxHeartbeats 2000000 in
theorem open_no (R : PD w p K F st 0 lv d) (stage : Int) (h : ¬ (0 ≤ stage ∧ stage < st.length)) :
    Calls Tryz.prog 17 #[P0 p, .int .i64 stage] w fun e w' => e = .returned (.tuple #[.int .i64 0, .int .i64 1]) ∧ PD w' p K F st 0 lv d ∧ Frm p lv lv w w' := by
  have c0 := R.pr.c0
  have f0 := R.pr.frz 0
  obtain ⟨R1, F1⟩ := R.lock 1
  have H1 := hide (And.intro R1 F1)
  have HIS := hide (fun u => isStage_any stage st.length u)
  rw [show decide (0 ≤ stage ∧ stage < (st.length : Int)) = false by simpa using h] at HIS
  have c79 := R1.pr.c79
  obtain ⟨sa, scap, hsv⟩ := row_any R1.pr.stg.row
  rw [hsv] at c79
  clear R R1 F1 h
  go_enter_defers Tryz.func17, Tryz.ntmps17
  go_wp2_with (go_at_call 36; refine (lock_free muLib ⟨p, 0, none⟩ _ c0 f0).mono ?_; rintro e w' ⟨rfl, rfl⟩)
  refine (HIS.out _).mono ?_
  rintro e u ⟨rfl, rfl⟩
  go_wp2_with fail
  refine leaves_cons (f := 37) (args := #[.pointer (some ⟨p, 0, none⟩)]) (by simp) (by simp [go_sem]) ?_
  refine (unlock_deferred muLib ⟨p, 0, none⟩ .returning _ H1.out.1.pr.c0 (H1.out.1.pr.frz 0)).mono ?_
  rintro e u' w'' ⟨rfl, rfl, rfl⟩
  exact ⟨_, results_tmp2 rfl _ _ _, rfl, H1.out.1.free H1.out.2⟩
set_option maxRecDepth 100000 in
set_option maxHeartbeats 2000000 in
theorem open_full (R : PD w p K F st 0 lv d) (stage : Int) (h : 0 ≤ stage ∧ stage < st.length) (hf : 20 ≤ d.cases.length) :
    Calls Tryz.prog 17 #[P0 p, .int .i64 stage] w fun e w' => e = .returned (.tuple #[.int .i64 0, .int .i64 8]) ∧ PD w' p K F st 0 lv d ∧ Frm p lv lv w w' := by
  have c0 := R.pr.c0
  have f0 := R.pr.frz 0
  obtain ⟨R1, F1⟩ := R.lock 1
  have H1 := hide (And.intro R1 F1)
  have HIS := hide (fun u => isStage_any stage st.length u)
  rw [show decide (0 ≤ stage ∧ stage < (st.length : Int)) = true by simpa using h] at HIS
  have c79 := R1.pr.c79
  have c82 := R1.pr.c82
  obtain ⟨sa, scap, hsv⟩ := row_any R1.pr.stg.row
  obtain ⟨la, lcap, hlv⟩ := row_any R1.own
  subst hlv
  rw [hsv] at c79
  have hf' : (20 : Int) ≤ d.cases.length := by omega
  clear R R1 F1 h
  go_enter_defers Tryz.func17, Tryz.ntmps17
  go_wp2_with (go_at_call 36; refine (lock_free muLib ⟨p, 0, none⟩ _ c0 f0).mono ?_; rintro e w' ⟨rfl, rfl⟩)
  refine (HIS.out _).mono ?_
  rintro e u ⟨rfl, rfl⟩
  go_wp2_with fail
  refine leaves_cons (f := 37) (args := #[.pointer (some ⟨p, 0, none⟩)]) (by simp) (by simp [go_sem]) ?_
  refine (unlock_deferred muLib ⟨p, 0, none⟩ .returning _ H1.out.1.pr.c0 (H1.out.1.pr.frz 0)).mono ?_
  rintro e u' w'' ⟨rfl, rfl, rfl⟩
  exact ⟨_, results_tmp2 rfl _ _ _, rfl, H1.out.1.free H1.out.2⟩
end
end Go.Proofs.YtcnmbldikjljeaaGreatDoor
namespace Go.Proofs.YtcnmbldikjljeaaGreatDoor
open Go.Shelf Go.RowKit Go.Lib Go.Sort Go.MuLone

section
variable {w : World} {p : Nat} {K : Kf} {F : Nat → Bool} {st : List Stg} {lv : Value} {d : Dk} {N : Int}
set_option maxRecDepth 100000 in
set_option maxHeartbeats 2000000 in
theorem open_yes (R : PD w p K F st 0 lv d) (ok : DkOk F st d 4611686018427387000) (hs : StOk st) (stage : Int) (h : 0 ≤ stage ∧ stage < st.length) (hf : d.cases.length < 20) :
    Calls Tryz.prog 17 #[P0 p, .int .i64 stage] w fun e w' => e = .returned (.tuple #[.int .i64 (d.made + 1), .int .i64 0]) ∧ ∃ lv', PD w' p K F st 0 lv' { d with made := d.made + 1, cases := d.cases ++ [comesL F st ⟨d.made + 1, stage, 0, 0, false, 0⟩ 0 d.time] } ∧ Frm p lv lv' w w' := by
  have c0 := R.pr.c0
  have f0 := R.pr.frz 0
  obtain ⟨R1, F1⟩ := R.lock 1
  obtain ⟨R2, F2⟩ := R1.made (d.made + 1)
  have H2 := hide (And.intro R2 (F1.trans F2))
  have HIS := hide (fun u => isStage_any stage st.length u)
  rw [show decide (0 ≤ stage ∧ stage < (st.length : Int)) = true by simpa using h] at HIS
  have c79 := R1.pr.c79
  have c81 := R1.pr.c81
  have c82 := R1.pr.c82
  have f81 := R1.pr.frz 81
  obtain ⟨sa, scap, hsv⟩ := row_any R1.pr.stg.row
  obtain ⟨la, lcap, hlv⟩ := row_any R1.own
  subst hlv
  rw [hsv] at c79
  have hf' : (d.cases.length : Int) < 20 := by omega
  have m0 := ok.m0
  have m1 : d.made ≤ 4611686018427387904 := by have := ok.m1; omega
  have hpl := R.pr.lt
  have HPL := hide hpl
  have HNB : Hid (∀ k, (Value.slice la d.cases.length lcap).ownBlock = some k → k = w.heap.size → False) := fun k hk e => by have := (R.own.lt k hk).2; omega
  obtain ⟨i0, hi, hz0, hz1, hz2⟩ := info_parts recInfo
  have HII := hide hi
  clear R R1 F1 R2 F2 hi hpl
  go_enter_defers Tryz.func17, Tryz.ntmps17
  go_wp2_with (go_at_call 36; refine (lock_free muLib ⟨p, 0, none⟩ _ c0 f0).mono ?_; rintro e w' ⟨rfl, rfl⟩)
  refine (HIS.out _).mono ?_
  rintro e u ⟨rfl, rfl⟩
  clear HIS c0 f0
  go_wp2_with fail
  obtain ⟨W1, hW1⟩ : ∃ W1, (w.setCell ⟨p, 0, none⟩ (.int .i32 1)).setCell ⟨p, 81, none⟩ (.int .i64 (d.made + 1)) = W1 := ⟨_, rfl⟩
  have hsz : W1.heap.size = w.heap.size := by rw [← hW1]; simp
  rw [hW1] at H2 ⊢
  clear hW1 c79 c81 c82 f81
  have hb2 : Below W1.heap.size W1 (W1.alloc (Obj.cells #[.int .i64 (d.made + 1), .int .i64 0, .int .i64 0, .int .i64 0, .int .i64 0, .int .i64 0, .bool false] 119)) := (Below.refl _ _).alloc (Nat.le_refl _) _
  have hA2 : RA (W1.alloc (Obj.cells #[.int .i64 (d.made + 1), .int .i64 0, .int .i64 0, .int .i64 0, .int .i64 0, .int .i64 0, .bool false] 119)) W1.heap.size 0 (rcCells ⟨d.made + 1, 0, 0, -1, false, 0⟩) := ⟨_, heap_alloc_new _ _, fun j v hv => by rw [Nat.zero_add]; simpa [rcCells, crs, dueC] using hv⟩
  rw [hsz] at hA2
  generalize W1.alloc (Obj.cells #[.int .i64 (d.made + 1), .int .i64 0, .int .i64 0, .int .i64 0, .int .i64 0, .int .i64 0, .bool false] 119) = w2 at *
  have R2 := H2.out.1.on hb2
  refine (enter_any R2.pr hA2 hs stage h.1 h.2 ok.t0 ok.t1).mono ?_
  rintro e w3 ⟨rfl, hP⟩
  have hb3 : Below W1.heap.size W1 w3 := hP.below hb2 (by omega) hb2.size
  have R3 := H2.out.1.on hb3
  have A3 := hP.ra
  dsimp only at A3
  rw [comes_any_due] at A3
  generalize hy : comesL F st ⟨d.made + 1, stage, 0, 0, false, 0⟩ 0 d.time = y at *
  have y0 := A3.cell 0 _ rfl
  have y1 := A3.cell 1 _ rfl
  have y2 := A3.cell 2 _ rfl
  have y3 := A3.cell 3 _ rfl
  have y4 := A3.cell 4 _ rfl
  have y5 := A3.cell 5 _ rfl
  have y6 := A3.cell 6 _ rfl
  simp only [Nat.zero_add] at y0 y1 y2 y3 y4 y5 y6
  have hyid : y.id = d.made + 1 := by rw [← hy]; exact (comes_stage (F := F) (st := st) (x := ⟨d.made + 1, stage, 0, 0, false, 0⟩) (level := 0) (t := d.time)).2.2.2
  have HYID := hide hyid
  have c82' := R3.pr.c82
  have hs3 := hb3.size
  have HR3 := hide R3
  have HF3 := hide (H2.out.2.trans (Frm.of_below hb3))
  have hxs := A3.lt
  have hg3 : p < w3.heap.size := R3.pr.lt
  have HY := hide hy
  have HA3 := hide A3
  clear H2 R2 hA2 hb2 hb3 R3 A3 hP hy hyid
  go_wp2_with fail
  refine wp_region_noPanic ?_
  go_region_law
    ((refine step_append_lies _ (by rfl) _ _ _ (by rfl) 0 119 i0 _ 7 56 Tryz.underlying107 HII.out hz0 hz1 hz2 rfl (by omega) (.slice la d.cases.length lcap) d.cases.length (rcsCells d.cases) (by rfl) (HR3.out.on (((Below.refl _ _).alloc (Nat.le_refl _) _).drew)).own
        ⟨w3.heap.size, 0, none⟩ 1 1 (rcCells y) (by rfl) (by rfl) (World.news_of_block (cs := (rcCells y).toArray) (t := 119) (fr := (0, 0)) (heap_alloc_new w3 _)) (by simp [Value.oneCell', rcCells])
        (by omega) (by unfold maxLen; omega) (by omega) (by simp) (w3.heap.size + 1) (by simp) ?_; intro gg cap w10 hown10 hgrow hat hlt10; obtain ⟨hc10, hf10, R10, F10⟩ := PD.row (l := d.cases ++ [y]) (HR3.out.on (((Below.refl _ _).alloc (Nat.le_refl _) _).drew)) hgrow (lv' := .slice (some ⟨gg, 0, none⟩) (d.cases.length + 1) cap) (by rw [show rcsCells (d.cases ++ [y]) = rcsCells d.cases ++ rcCells y by simp [rcsCells], List.length_append]; exact hown10) (fun k hk => by simp [Value.ownBlock] at hk; subst hk; rcases hat with e | e; exact .inl e; exact .inr (by simp; omega))))
  all_goals
    refine NoPanic.normal ?_
    have HR10 := hide (And.intro R10 (HF3.out.trans ((Frm.of_below (((Below.refl _ _).alloc (Nat.le_refl _) _).drew)).trans F10)))
    have y0' : (w10.setCell ⟨p, 82, none⟩ (.slice (some ⟨gg, 0, none⟩) (d.cases.length + 1) cap)).cell? ⟨w.heap.size, 0, none⟩ = some (.int .i64 y.id) := by
      have hpw := HPL.out
      rw [World.cell?_setCell_other _ _ _ _ (fun e => by have := congrArg Addr.block e; simp only at this; omega)]
      have hne : some w.heap.size ≠ (Value.slice la d.cases.length lcap).ownBlock := fun e => HNB.out w.heap.size e.symm rfl
      have hk := hgrow.block w.heap.size (Nat.lt_of_lt_of_le hxs (by simp)) hne
      rw [World.cell?_of_block (a := ⟨w.heap.size, 0, none⟩) hk]
      exact (((Below.refl w3.heap.size w3).alloc (Nat.le_refl _) _).drew.cell (p := ⟨w.heap.size, 0, none⟩) hxs).trans y0
    rw [HYID.out] at y0'
    clear R10 F10 hown10 hgrow hat hc10 hf10
    go_wp2_with fail
    refine leaves_cons (f := 37) (args := #[.pointer (some ⟨p, 0, none⟩)]) (by simp) (by simp [go_sem]) ?_
    refine (unlock_deferred muLib ⟨p, 0, none⟩ .returning _ HR10.out.1.pr.c0 (HR10.out.1.pr.frz 0)).mono ?_
    rintro e u' w'' ⟨rfl, rfl, rfl⟩
    have hfr := HR10.out.1.free HR10.out.2
    rw [← HY.out] at hfr
    exact ⟨_, results_tmp2 rfl _ _ _, rfl, _, hfr⟩
end
end Go.Proofs.YtcnmbldikjljeaaGreatDoor
