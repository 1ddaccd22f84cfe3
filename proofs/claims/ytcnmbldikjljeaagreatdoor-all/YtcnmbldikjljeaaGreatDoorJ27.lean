import Derived.Test.YtcnmbldikjljeaaGreatDoorJ14
import Derived.Test.YtcnmbldikjljeaaGreatDoorJ24
import Derived.Test.YtcnmbldikjljeaaGreatDoorJ26
import Derived.Test.YtcnmbldikjljeaaGreatDoorJ22
import Derived.Test.YtcnmbldikjljeaaGreatDoorJ06
import Derived.Test.YtcnmbldikjljeaaGreatDoorJ08
namespace Go.Proofs.YtcnmbldikjljeaaGreatDoor

section
variable {F : Nat → Bool} {st : List Stg} {d : Dk} {N : Int}
theorem find_mem (d : Dk) (id : Int) (h : ¬ findL d.cases id < 0) : csAt d.cases (findL d.cases id) ∈ d.cases := by
  rcases findL_bd d.cases id with a | ⟨i, e, hi⟩
  · omega
  · rw [e, csAt_nat hi]; exact List.getElem_mem hi
theorem DkOk.set (h : DkOk F st d N) (i : Nat) (y : Cs) (hy : CsOk st y) (hd : 0 ≤ y.due → d.time ≤ y.due ∧ cnt F y.due.toNat - cnt F d.time.toNat ≤ 20000) : DkOk F st { d with cases := d.cases.set i y } N :=
  { h with
    len := by simpa using h.len
    cs := fun x hx => by
      rcases List.mem_or_eq_of_mem_set hx with a | a
      · exact h.cs x a
      · rw [a]; exact hy
    du := fun x hx => by
      rcases List.mem_or_eq_of_mem_set hx with a | a
      · exact h.du x a
      · rw [a]; exact hd }
theorem close_ok (h : DkOk F st d N) (id : Int) : DkOk F st (closeC d id).1 N := by
  unfold closeC
  split
  · exact h
  · exact { h with len := Nat.le_trans (List.length_eraseIdx_le _ _) h.len, cs := fun x hx => h.cs x (List.mem_of_mem_eraseIdx hx), du := fun x hx => h.du x (List.mem_of_mem_eraseIdx hx) }
theorem move_ok (h : DkOk F st d N) (hs : StOk st) (id stage : Int) : DkOk F st (moveC F st d id stage).1 N := by
  unfold moveC
  split
  · exact h
  rename_i hf
  split
  · exact h
  split
  · exact h
  rename_i hn
  have hx := h.cs _ (find_mem d id hf)
  generalize csAt d.cases (findL d.cases id) = x at *
  have hst := hs x.stage.toNat (by have := hx.s0; have := hx.s1; omega)
  rw [show ((x.stage.toNat : Nat) : Int) = x.stage by have := hx.s0; omega] at hst
  have hm := hst.2.2.2 stage ((hasI_iff _ _).1 (by simpa using hn))
  have ok := comes_ok (F := F) (x := { x with stage := stage }) hs hm.1 hm.2 hx.r0 hx.r1 (level := 0) (by omega) h.t0 h.t1
  exact h.set _ _ ok.1 (fun hd => ⟨Int.le_of_lt (ok.2 hd).1, (ok.2 hd).2⟩)
theorem hold_ok (h : DkOk F st d N) (id : Int) : DkOk F st (holdC F d id).1 N := by
  unfold holdC
  split
  · exact h
  rename_i hf
  split
  · exact h
  have hm := find_mem d id hf
  have hx := h.cs _ hm
  have hdu := h.du _ hm
  generalize csAt d.cases (findL d.cases id) = x at *
  split
  · rename_i hd
    have hc := (hdu hd).2
    have hmono : cnt F d.time.toNat ≤ cnt F x.due.toNat := (cnt_mono F (hdu hd).1 h.t0).1
    exact h.set _ _ ⟨hx.s0, hx.s1, hx.l0, hx.l1, by simp, by simp, fun h => by simp at h, by simp; omega, by simp; omega⟩ (fun h => by simp at h)
  · exact h.set _ _ ⟨hx.s0, hx.s1, hx.l0, hx.l1, hx.d0, hx.d1, hx.dl, hx.r0, hx.r1⟩ hdu
/-- what arms leaves -/
theorem arms_ok {x : Cs} {t n : Int} (s0 : 0 ≤ x.stage) (s1 : x.stage < st.length) (l0 : 0 ≤ x.level) (l4 : x.level ≤ 4) (hl : x.level < (stAt st x.stage).levels.length) (n0 : 1 ≤ n) (n1 : n ≤ 20000) (h0 : 0 ≤ t) (h1 : t ≤ 100800) :
    CsOk st { armsL F x t n with rest := 0 } ∧ (0 ≤ (armsL F x t n).due → t ≤ (armsL F x t n).due ∧ cnt F (armsL F x t n).due.toNat - cnt F t.toNat ≤ 20000) := by
  unfold armsL
  split
  · rename_i y hy
    obtain ⟨b1, b2, b3, _⟩ := addO_some h1 hy
    exact ⟨⟨s0, s1, l0, l4, by simp only; omega, b2, fun _ => hl, by simp, by simp⟩, fun _ => ⟨b1, by simp only; omega⟩⟩
  · exact ⟨⟨s0, s1, by simp, by simp, by simp, by simp, fun h => by simp at h, by simp, by simp⟩, fun h => by simp at h⟩
/-- a case with a rest is held, nothing of it is due, and its level is one of its stage's -/
def RestOk (st : List Stg) (x : Cs) : Prop := 0 < x.rest → x.held = true ∧ x.due = -1 ∧ x.level < (stAt st x.stage).levels.length
def DkR (st : List Stg) (d : Dk) : Prop := ∀ x ∈ d.cases, RestOk st x
theorem DkR.set (h : DkR st d) (i : Nat) (y : Cs) (hy : RestOk st y) : DkR st { d with cases := d.cases.set i y } := fun x hx => by
  rcases List.mem_or_eq_of_mem_set hx with a | a
  · exact h x a
  · rw [a]; exact hy
theorem resume_ok (h : DkOk F st d N) (hr : DkR st d) (id : Int) : DkOk F st (resumeC F d id).1 N ∧ DkR st (resumeC F d id).1 := by
  unfold resumeC
  split
  · exact ⟨h, hr⟩
  rename_i hf
  split
  · exact ⟨h, hr⟩
  have hm := find_mem d id hf
  have hx := h.cs _ hm
  have hdu := h.du _ hm
  have hrx := hr _ hm
  generalize csAt d.cases (findL d.cases id) = x at *
  split
  · rename_i hp
    obtain ⟨_, _, hl⟩ := hrx hp
    have ok := arms_ok (F := F) (st := st) (x := { x with held := false }) (t := d.time) (n := x.rest) hx.s0 hx.s1 hx.l0 hx.l1 hl (by omega) hx.r1 h.t0 h.t1
    exact ⟨h.set _ _ ok.1 ok.2, hr.set _ _ (fun h => by simp at h)⟩
  · rename_i hp
    exact ⟨h.set _ _ ⟨hx.s0, hx.s1, hx.l0, hx.l1, hx.d0, hx.d1, hx.dl, hx.r0, hx.r1⟩ hdu, hr.set _ _ (fun h => absurd h hp)⟩
theorem hold_rest (h : DkOk F st d N) (hr : DkR st d) (id : Int) : DkR st (holdC F d id).1 := by
  unfold holdC
  split
  · exact hr
  rename_i hf
  split
  · exact hr
  rename_i hh
  have hm := find_mem d id hf
  have hx := h.cs _ hm
  have hrx := hr _ hm
  generalize csAt d.cases (findL d.cases id) = x at *
  split
  · rename_i hd
    exact hr.set _ _ (fun _ => ⟨rfl, rfl, hx.dl hd⟩)
  · exact hr.set _ _ (fun hp => absurd (hrx hp).1 hh)
theorem comes_rest (x : Cs) (level t : Int) (hx : ¬ 0 < x.rest) : RestOk st (comesL F st x level t) := fun h => by
  obtain ⟨_, e2, _, _⟩ := comes_stage (F := F) (st := st) (x := x) (level := level) (t := t)
  rw [e2] at h
  exact absurd h hx
theorem open_rest (hr : DkR st d) (stage : Int) : DkR st (openC F st d stage).1 := by
  unfold openC
  split
  · exact hr
  split
  · exact hr
  · intro x hx
    rcases List.mem_append.1 hx with a | a
    · exact hr x a
    · rw [List.mem_singleton] at a; subst a
      exact comes_rest _ _ _ (by simp)
theorem move_rest (hr : DkR st d) (id stage : Int) : DkR st (moveC F st d id stage).1 := by
  unfold moveC
  split
  · exact hr
  rename_i hf
  split
  · exact hr
  rename_i hh
  split
  · exact hr
  have hrx := hr _ (find_mem d id hf)
  generalize csAt d.cases (findL d.cases id) = x at *
  exact hr.set _ _ (comes_rest _ _ _ (fun hp => hh (hrx hp).1))
theorem close_rest (hr : DkR st d) (id : Int) : DkR st (closeC d id).1 := by
  unfold closeC
  split
  · exact hr
  · exact fun x hx => hr x (List.mem_of_mem_eraseIdx hx)
/-- where Tick's loop ends, all that is due is due later -/
theorem tick_late {l : List Cs} {T : Int} (hc : nextL l < 0 ∨ T < (csAt l (nextL l)).due) : ∀ x ∈ l, 0 ≤ x.due → T < x.due := by
  intro x hx hd
  obtain ⟨i, hi, rfl⟩ := List.getElem_of_mem hx
  have e := csAt_nat hi
  obtain ⟨a, b, _⟩ := nextTo_least l l.length i hi (by rw [e]; exact hd)
  rw [e] at b
  unfold nextL at hc
  omega
/-- what stands of a case while Tick goes on -/
def TkOk (F : Nat → Bool) (st : List Stg) (T : Int) (x : Cs) : Prop := CsOk st x ∧ RestOk st x ∧ (0 ≤ x.due → x.due ≤ T ∨ cnt F x.due.toNat - cnt F T.toNat ≤ 20000)
theorem tickGo_ok (hs : StOk st) {T : Int} : ∀ (f : Nat) (l : List Cs) (k : Int), (∀ x ∈ l, TkOk F st T x) → leftL st l ≤ f →
    (∀ x ∈ (tickGo F st T f l k).2.1, CsOk st x ∧ RestOk st x ∧ (0 ≤ x.due → T ≤ x.due ∧ cnt F x.due.toNat - cnt F T.toNat ≤ 20000)) ∧ (tickGo F st T f l k).2.1.length = l.length ∧ k ≤ (tickGo F st T f l k).2.2 ∧ (tickGo F st T f l k).2.2 ≤ k + leftL st l ∧ (tickGo F st T f l k).1.length ≤ leftL st l := by
  have stop : ∀ (f : Nat) (l : List Cs) (k : Int), (∀ x ∈ l, TkOk F st T x) → (nextL l < 0 ∨ T < (csAt l (nextL l)).due) →
      (∀ x ∈ (tickGo F st T f l k).2.1, CsOk st x ∧ RestOk st x ∧ (0 ≤ x.due → T ≤ x.due ∧ cnt F x.due.toNat - cnt F T.toNat ≤ 20000)) ∧ (tickGo F st T f l k).2.1.length = l.length ∧ k ≤ (tickGo F st T f l k).2.2 ∧ (tickGo F st T f l k).2.2 ≤ k + leftL st l ∧ (tickGo F st T f l k).1.length ≤ leftL st l := by
    intro f l k hok hc
    rw [tick_done hc]
    refine ⟨fun x hx => ⟨(hok x hx).1, (hok x hx).2.1, fun hd => ?_⟩, rfl, Int.le_refl _, by simp only; omega, by simp⟩
    have h1 := tick_late hc x hx hd
    have h2 := (hok x hx).2.2 hd
    omega
  intro f
  induction f with
  | zero =>
    intro l k hok hf
    by_cases hc : nextL l < 0 ∨ T < (csAt l (nextL l)).due
    · exact stop 0 l k hok hc
    · obtain ⟨i, e, hi, _, _, hok', hlt⟩ := tick_step (F := F) (T := T) hs (fun x hx => (hok x hx).1) (by omega) (by omega)
      omega
  | succ f ih =>
    intro l k hok hf
    by_cases hc : nextL l < 0 ∨ T < (csAt l (nextL l)).due
    · exact stop _ l k hok hc
    · obtain ⟨i, e, hi, hx, hd, hok', hlt⟩ := tick_step (F := F) (T := T) hs (fun x hx => (hok x hx).1) (by omega) (by omega)
      have hT : (csAt l i).due ≤ T := by rw [e] at hc; omega
      have hm : csAt l i ∈ l := by rw [csAt_nat hi]; exact List.getElem_mem hi
      have hrx := (hok _ hm).2.1
      simp only [tickGo]
      rw [if_neg hc, e]
      unfold setC
      rw [Int.toNat_natCast]
      generalize csAt l i = x at *
      have ok := comes_ok (F := F) hs hx.s0 hx.s1 hx.r0 hx.r1 (level := x.level + 1) (by have := hx.l0; omega) hd hx.d1
      have hr2 : RestOk st (comesL F st x (x.level + 1) x.due) := comes_rest _ _ _ (fun hp => by have := (hrx hp).2.1; omega)
      have hmono := (cnt_mono F hT hd).1
      have hall : ∀ z ∈ l.set i (comesL F st x (x.level + 1) x.due), TkOk F st T z := fun z hz => by
        rcases set_mem hz with rfl | a
        · exact ⟨ok.1, hr2, fun h => by right; have := (ok.2 h).2; omega⟩
        · exact hok z a
      obtain ⟨a1, a2, a3, a4, a5⟩ := ih (l.set i (comesL F st x (x.level + 1) x.due)) (k + 1) hall (by omega)
      refine ⟨a1, by rw [a2, List.length_set], by simp only; omega, by simp only; omega, by rw [List.length_cons]; omega⟩
theorem tick_ok (h : DkOk F st d N) (hr : DkR st d) (hs : StOk st) (n : Int) : DkOk F st (tickC F st d n).1 (N + 80) ∧ DkR st (tickC F st d n).1 ∧ (tickC F st d n).2.1.length ≤ 80 := by
  have hN : DkOk F st d (N + 80) := { h with m1 := by have := h.m1; omega, k1 := by have := h.k1; omega }
  unfold tickC
  split
  · exact ⟨hN, hr, by simp⟩
  rename_i hn
  have t0 := h.t0
  have hall : ∀ x ∈ d.cases, TkOk F st (d.time + n) x := fun x hx => ⟨h.cs x hx, hr x hx, fun hd => by
    right
    have := (h.du x hx hd).2
    have := (cnt_mono F (show d.time ≤ d.time + n by omega) t0).1
    omega⟩
  have hl := leftL_le hs d.cases h.cs
  have hlen := h.len
  obtain ⟨a1, a2, a3, a4, a5⟩ := tickGo_ok (F := F) hs (leftL st d.cases) d.cases d.told hall (Nat.le_refl _)
  exact ⟨{ hN with t0 := by simp only; omega, t1 := by simp only; omega, k0 := by have := h.k0; simp only; omega, k1 := by have := h.k1; simp only; omega, len := by simp only; omega, cs := fun x hx => (a1 x hx).1, du := fun x hx => (a1 x hx).2.2 }, fun x hx => (a1 x hx).2.1, by simp only; omega⟩
/-- stages that Check takes keep the bounds, if no list of nexts is too long -/
theorem check_stok (h : checkL st = true) (hn : ∀ i : Nat, i < st.length → (stAt st i).next.length ≤ 140737488351232) : StOk st ∧ 1 ≤ st.length ∧ st.length ≤ 6 := by
  simp only [checkL, Bool.and_eq_true, decide_eq_true_eq, List.all_eq_true] at h
  refine ⟨fun i hi => ?_, h.1.1, h.1.2⟩
  have hs := h.2 (stAt st i) (by simp [stAt, hi])
  have hni := hn i hi
  generalize stAt st i = s at *
  simp only [stgOk, Bool.and_eq_true, decide_eq_true_eq, List.all_eq_true] at hs
  refine ⟨hs.1.1, fun k hk => ?_, hni, fun y hy => hs.2 y hy⟩
  have := hs.1.2 s.levels[k] (List.getElem_mem hk)
  simp only [lvAt, Int.toNat_natCast, List.getD_eq_getElem?_getD, List.getElem?_eq_getElem hk, Option.getD_some]
  exact this.1
theorem empty_ok : DkOk F st ⟨0, 0, 0, []⟩ 0 ∧ DkR st ⟨0, 0, 0, []⟩ :=
  ⟨⟨by simp, by simp, by simp, by simp, by simp, by simp, by simp, fun x hx => by simp at hx, fun x hx => by simp at hx⟩, fun x hx => by simp at hx⟩
end
end Go.Proofs.YtcnmbldikjljeaaGreatDoor
namespace Go.Proofs.YtcnmbldikjljeaaGreatDoor
open Go.RowKit

section
variable {own own' : Nat → Nat} {w w' : World} {T : Nat → Prop} {t g c : Nat} {F : Nat → Bool} {st : List Stg} {sv lv lv' : Value} {vs : Nat → Value × Value} {d d' : Dk}
theorem RC.unro (h : RC (roW own w) c F) : RC w c F := by
  obtain ⟨q, cap, h1, h0, h2, h3⟩ := h.row
  have hl := h.lt
  rw [ro_size] at h2 hl
  exact ⟨hl, q, cap, (ro_cell h1).2, h0, h2, fun j hj => (ro_cell (h3 j hj)).2⟩
theorem SW.unro (h : SW (roW own w) sv st vs) : SW w sv st vs := ⟨ro_row h.row (by decide), fun i hi => ro_row (h.lev i hi) (by decide), fun i hi => ro_row (h.nxt i hi) (by decide)⟩
/-- the document's docket, of owner t -/
structure RT (own : Nat → Nat) (w : World) (t g c : Nat) (F : Nat → Bool) (st : List Stg) (sv : Value) (vs : Nat → Value × Value) (lv : Value) (d : Dk) : Prop where
  blk : w.heap[g]? = some (.cells #[P0 c, sv, .int .i64 d.time, .int .i64 d.made, .int .i64 d.told, lv] 240 (0, 0))
  row : w.ownsRow 0 242 6 lv d.cases.length (cssCells d.cases)
  nl : d.cases = [] → lv = .slice none 0 0
  tg : own g = t
  tl : ∀ k, lv.ownBlock = some k → own k = t
  cal : RC (roW own w) c F
  stg : SW (roW own w) sv st vs
theorem RT.rd (h : RT own w t g c F st sv vs lv d) : RD w g c F st sv vs lv d := ⟨h.blk, h.cal.unro, h.stg.unro, h.row, h.nl⟩
theorem RC.kept (h : RC (roW own w) c F) (k : KeptS own own' T w w') (hs : ¬ T 0) : RC (roW own' w') c F := h.on (by rw [ro_size]; exact k.below hs)
theorem SW.kept (h : SW (roW own w) sv st vs) (k : KeptS own own' T w w') (hs : ¬ T 0) : SW (roW own' w') sv st vs := h.on (by rw [ro_size]; exact k.below hs)
theorem RT.kept (h : RT own w t g c F st sv vs lv d) (k : KeptS own own' T w w') (hs : ¬ T 0) (hst : ¬ T t) : RT own' w' t g c F st sv vs lv d := by
  have hg := k.at h.blk (by rw [h.tg]; exact hst)
  have hm : MRow own t w _ _ _ _ _ := ⟨h.row, h.tl⟩
  have hm' := hm.kept k hst
  exact ⟨hg.1, hm'.1, h.nl, hg.2.trans h.tg, hm'.2, h.cal.kept k hs, h.stg.kept k hs⟩
/-- a call of the docket's own -/
theorem RT.step (h : RT own w t g c F st sv vs lv d) (ht : t ≠ 0) (hl : ∀ k, own k ≠ 0 → k < w.heap.size) (R : RD w' g c F st sv vs lv' d') (f : Fr g lv lv' w w') : ∃ own', RT own' w' t g c F st sv vs lv' d' ∧ Kept own own' t w w' := by
  have hk : Kept own (tagOf own lv'.ownBlock t) t w w' := by
    refine ⟨f.os, f.tape, f.output, f.size, fun k hk hne => f.block k hk (fun e => hne (by rw [e]; exact h.tg)) (fun e => hne (h.tl k e.symm)), fun k hk => ?_, fun k hk h0 => ?_, tagOf_nt⟩
    · unfold tagOf
      split
      · rename_i e
        rcases f.row k e.symm with a | a
        · exact (h.tl k a).symm
        · omega
      · rfl
    · unfold tagOf at h0
      split at h0
      · rename_i e
        exact (R.own.lt k e.symm).2
      · exact absurd (hl k h0) (by omega)
  refine ⟨_, ⟨R.blk, R.own, R.nl, ?_, fun k e => by unfold tagOf; rw [if_pos e.symm], h.cal.kept hk (Ne.symm ht), h.stg.kept hk (Ne.symm ht)⟩, hk⟩
  have hgl := h.rd.lt
  rw [hk.same g hgl]; exact h.tg
/-- one that leaves the row where it lay, and gives a list of its own -/
theorem RT.step1 (h : RT own w t g c F st sv vs lv d) (ht : t ≠ 0) (hl : ∀ k, own k ≠ 0 → k < w.heap.size) (R : RD w' g c F st sv vs lv d') (f : Fr g lv lv w w') : RT own w' t g c F st sv vs lv d' ∧ Kept own own t w w' := by
  have hk : Kept own own t w w' := ⟨f.os, f.tape, f.output, f.size, fun k hk hne => f.block k hk (fun e => hne (by rw [e]; exact h.tg)) (fun e => hne (h.tl k e.symm)), fun _ _ => rfl, fun k hk h0 => absurd (hl k h0) (by omega), fun _ => .inr (.inl rfl)⟩
  exact ⟨⟨R.blk, R.own, R.nl, h.tg, h.tl, h.cal.kept hk (Ne.symm ht), h.stg.kept hk (Ne.symm ht)⟩, hk⟩
end
/-- what is asked of the program's dockets: a docket in memory (owner, its owner's number, memory, its block; calendar, stages, what it holds), and its calls -/
abbrev PSt := (Nat → Nat) → World → Nat → Nat → (Nat → Bool) → List Stg → Dk → Prop
/-- memory is bounded, and so are the numbers -/
structure Pre (own : Nat → Nat) (w : World) (F : Nat → Bool) (st : List Stg) (d : Dk) : Prop where
  lt : ∀ k, own k ≠ 0 → k < w.heap.size
  stok : StOk st
  n6 : st.length ≤ 6
  ok : DkOk F st d 4611686018427387000
  rest : DkR st d
structure Prg (PS : PSt) : Prop where
  kept : ∀ {own own' w w' T t p F st d}, PS own w t p F st d → KeptS own own' T w w' → ¬ T 0 → ¬ T t → PS own' w' t p F st d
  tag : ∀ {own w t p F st d}, PS own w t p F st d → own p = t ∧ p < w.heap.size
  open_ : ∀ {own w t p F st d}, PS own w t p F st d → t ≠ 0 → Pre own w F st d → ∀ stage : Int, Calls Tryz.prog 17 #[P0 p, .int .i64 stage] w fun e w' => e = .returned (.tuple #[.int .i64 (openC F st d stage).2.1, .int .i64 (openC F st d stage).2.2]) ∧ ∃ own', PS own' w' t p F st (openC F st d stage).1 ∧ Kept own own' t w w'
  move : ∀ {own w t p F st d}, PS own w t p F st d → t ≠ 0 → Pre own w F st d → ∀ id stage : Int, Calls Tryz.prog 19 #[P0 p, .int .i64 id, .int .i64 stage] w fun e w' => e = .returned (.int .i64 (moveC F st d id stage).2) ∧ ∃ own', PS own' w' t p F st (moveC F st d id stage).1 ∧ Kept own own' t w w'
  close : ∀ {own w t p F st d}, PS own w t p F st d → t ≠ 0 → Pre own w F st d → ∀ id : Int, Calls Tryz.prog 20 #[P0 p, .int .i64 id] w fun e w' => e = .returned (.int .i64 (closeC d id).2) ∧ ∃ own', PS own' w' t p F st (closeC d id).1 ∧ Kept own own' t w w'
  hold : ∀ {own w t p F st d}, PS own w t p F st d → t ≠ 0 → Pre own w F st d → ∀ id : Int, Calls Tryz.prog 21 #[P0 p, .int .i64 id] w fun e w' => e = .returned (.int .i64 (holdC F d id).2) ∧ ∃ own', PS own' w' t p F st (holdC F d id).1 ∧ Kept own own' t w w'
  resume : ∀ {own w t p F st d}, PS own w t p F st d → t ≠ 0 → Pre own w F st d → ∀ id : Int, Calls Tryz.prog 23 #[P0 p, .int .i64 id] w fun e w' => e = .returned (.int .i64 (resumeC F d id).2) ∧ ∃ own', PS own' w' t p F st (resumeC F d id).1 ∧ Kept own own' t w w'
  case_ : ∀ {own w t p F st d}, PS own w t p F st d → t ≠ 0 → Pre own w F st d → ∀ id : Int, Calls Tryz.prog 26 #[P0 p, .int .i64 id] w fun e w' => e = .returned (caseV d id) ∧ ∃ own', PS own' w' t p F st d ∧ Kept own own' t w w'
  now : ∀ {own w t p F st d}, PS own w t p F st d → t ≠ 0 → Pre own w F st d → Calls Tryz.prog 13 #[P0 p] w fun e w' => e = .returned (.tuple #[.int .i64 d.time, .int .i64 d.told]) ∧ ∃ own', PS own' w' t p F st d ∧ Kept own own' t w w'
  tick : ∀ {own w t p F st d}, PS own w t p F st d → t ≠ 0 → Pre own w F st d → ∀ n : Int, Calls Tryz.prog 15 #[P0 p, .int .i64 n] w fun e w' => ∃ ov, e = .returned (.tuple #[ov, .int .i64 (tickC F st d n).2.2]) ∧ w'.ownsRow w.heap.size 63 6 ov (tickC F st d n).2.1.length (evsCells (tickC F st d n).2.1) ∧ ((tickC F st d n).2.2 ≠ 0 → ov = .slice none 0 0) ∧ ∃ own', PS own' w' t p F st (tickC F st d n).1 ∧ Kept own own' t w w' ∧ ∀ k, ov.ownBlock = some k → own' k = 8
  agenda : ∀ {own w t p F st d}, PS own w t p F st d → t ≠ 0 → Pre own w F st d → Calls Tryz.prog 25 #[P0 p] w fun e w' => ∃ ov, e = .returned ov ∧ w'.ownsRow w.heap.size 67 2 ov (agendaL d.cases []).length (flat (agendaL d.cases [])) ∧ ∃ own', PS own' w' t p F st d ∧ Kept own own' t w w' ∧ ∀ k, ov.ownBlock = some k → own' k = 8
  check : ∀ {w : World} {sv : Value} {st : List Stg} {vs : Nat → Value × Value}, SW w sv st vs → Calls Tryz.prog 66 #[sv] w fun e w' => e = .returned (.int .i64 (if checkL st = true then 0 else 4)) ∧ Below w.heap.size w w'
  newNil : ∀ {w : World} {sv : Value} {st : List Stg} {vs : Nat → Value × Value}, SW w sv st vs → Calls Tryz.prog 35 #[.pointer none, sv] w fun e w' => e = .returned (.tuple #[.pointer none, .int .i64 1]) ∧ Below w.heap.size w w'
  newNo : ∀ {w : World} {sv : Value} {st : List Stg} {vs : Nat → Value × Value} (c : Nat), SW w sv st vs → checkL st = false → Calls Tryz.prog 35 #[P0 c, sv] w fun e w' => e = .returned (.tuple #[.pointer none, .int .i64 4]) ∧ Below w.heap.size w w'
  newOk : ∀ {own : Nat → Nat} {w : World} {sv : Value} {st : List Stg} {vs : Nat → Value × Value} {c : Nat} {wk : Nat → List (Int × Int)} {fr : Nat → Bool} {F : Nat → Bool}, SW w sv st vs → CalW (roW own w) c wk fr → (∀ j, (wk j).length ≤ 1000) → (∀ x : Int, 0 ≤ x → x < 100800 → openL wk fr x = F x.toNat) → checkL st = true → Rm st → (∀ k, own k ≠ 0 → k < w.heap.size) → ∀ t, t ≠ 0 →
    Calls Tryz.prog 35 #[P0 c, sv] w fun e w' => ∃ p own', e = .returned (.tuple #[P0 p, .int .i64 0]) ∧ w.heap.size ≤ p ∧ PS own' w' t p F st ⟨0, 0, 0, []⟩ ∧ Kept own own' t w w'
end Go.Proofs.YtcnmbldikjljeaaGreatDoor
namespace Go.Proofs.YtcnmbldikjljeaaGreatDoor
open Go.RowKit

theorem get_in (s : ByteArray) (p : Nat) (h : p < s.size) : s.get! p = s[p]'h := get_at s p h
theorem okW_eq (s : ByteArray) (p : Nat) (lo hi : Int) : okW s p lo hi = (decide (p < s.size) && (decide (lo ≤ ((s.get! p).toNat : Int)) && decide (((s.get! p).toNat : Int) ≤ hi))) := by
  by_cases h : p < s.size
  · rw [get_in s p h]; simp [okW, h]
  · simp [okW, h]
/-- how wide, by the bytes -/
def ww (b0 : Nat) (i1 : Bool) (b1 : Nat) (i2 : Bool) (b2 : Nat) (i3 : Bool) (b3 : Nat) : Nat :=
  if 194 ≤ b0 ∧ b0 ≤ 223 then (if i1 = true ∧ 128 ≤ b1 ∧ b1 ≤ 191 then 2 else 1)
  else if 224 ≤ b0 ∧ b0 ≤ 239 then (if i1 = true ∧ (if b0 = 224 then 160 else 128) ≤ b1 ∧ b1 ≤ (if b0 = 237 then 159 else 191) ∧ i2 = true ∧ 128 ≤ b2 ∧ b2 ≤ 191 then 3 else 1)
  else if 240 ≤ b0 ∧ b0 ≤ 244 then (if i1 = true ∧ (if b0 = 240 then 144 else 128) ≤ b1 ∧ b1 ≤ (if b0 = 244 then 143 else 191) ∧ i2 = true ∧ 128 ≤ b2 ∧ b2 ≤ 191 ∧ i3 = true ∧ 128 ≤ b3 ∧ b3 ≤ 191 then 4 else 1)
  else 1
theorem okW_iff (s : ByteArray) (p : Nat) (lo hi : Int) : okW s p lo hi = true ↔ (decide (p < s.size) = true ∧ lo ≤ ((s.get! p).toNat : Int) ∧ ((s.get! p).toNat : Int) ≤ hi) := by
  rw [okW_eq]; simp
theorem wl2 (s : ByteArray) (p : Nat) (lo hi : Int) : wl s p 2 4 1 lo hi = if okW s (p + 1) lo hi = true then 2 else 1 := by
  simp [wl]
theorem wl3 (s : ByteArray) (p : Nat) (lo hi : Int) : wl s p 3 4 1 lo hi = if okW s (p + 1) lo hi = true ∧ okW s (p + 2) 128 191 = true then 3 else 1 := by
  cases h1 : okW s (p + 1) lo hi <;> cases h2 : okW s (p + 2) 128 191 <;> simp [wl, h1, h2]
theorem wl4 (s : ByteArray) (p : Nat) (lo hi : Int) : wl s p 4 4 1 lo hi = if okW s (p + 1) lo hi = true ∧ okW s (p + 2) 128 191 = true ∧ okW s (p + 3) 128 191 = true then 4 else 1 := by
  cases h1 : okW s (p + 1) lo hi <;> cases h2 : okW s (p + 2) 128 191 <;> cases h3 : okW s (p + 3) 128 191 <;> simp [wl, h1, h2, h3]
theorem wideF_ww (s : ByteArray) (p : Nat) (b0 : Nat) : wideF s p (b0 : Int) = ww b0 (decide (p + 1 < s.size)) (s.get! (p + 1)).toNat (decide (p + 2 < s.size)) (s.get! (p + 2)).toNat (decide (p + 3 < s.size)) (s.get! (p + 3)).toNat := by
  unfold wideF ww
  by_cases h2 : 194 ≤ b0 ∧ b0 ≤ 223
  · have hn : nOf (b0 : Int) = 2 := by unfold nOf; rw [if_pos (by omega)]
    have hlo : loOf (b0 : Int) = 128 := by unfold loOf; rw [if_neg (by omega), if_neg (by omega)]
    have hhi : hiOf (b0 : Int) = 191 := by unfold hiOf; rw [if_neg (by omega), if_neg (by omega)]
    rw [hn, hlo, hhi, wl2, if_pos h2]
    simp only [okW_iff]
    congr 1
    apply propext
    constructor <;> rintro ⟨a, b, c⟩ <;> exact ⟨a, by omega, by omega⟩
  · rw [if_neg h2]
    by_cases h3 : 224 ≤ b0 ∧ b0 ≤ 239
    · have hn : nOf (b0 : Int) = 3 := by unfold nOf; rw [if_neg (by omega), if_pos (by omega)]
      have hlo : loOf (b0 : Int) = ((if b0 = 224 then 160 else 128 : Nat) : Int) := by unfold loOf; split <;> split <;> (try split) <;> omega
      have hhi : hiOf (b0 : Int) = ((if b0 = 237 then 159 else 191 : Nat) : Int) := by unfold hiOf; split <;> split <;> (try split) <;> omega
      rw [hn, hlo, hhi, wl3, if_pos h3]
      generalize (if b0 = 224 then 160 else 128 : Nat) = lo
      generalize (if b0 = 237 then 159 else 191 : Nat) = hi
      simp only [okW_iff]
      congr 1
      apply propext
      constructor
      · rintro ⟨⟨a, b, c⟩, d, e, f⟩; exact ⟨a, by omega, by omega, d, by omega, by omega⟩
      · rintro ⟨a, b, c, d, e, f⟩; exact ⟨⟨a, by omega, by omega⟩, d, by omega, by omega⟩
    · rw [if_neg h3]
      by_cases h4 : 240 ≤ b0 ∧ b0 ≤ 244
      · have hn : nOf (b0 : Int) = 4 := by unfold nOf; rw [if_neg (by omega), if_neg (by omega), if_pos (by omega)]
        have hlo : loOf (b0 : Int) = ((if b0 = 240 then 144 else 128 : Nat) : Int) := by unfold loOf; split <;> split <;> (try split) <;> omega
        have hhi : hiOf (b0 : Int) = ((if b0 = 244 then 143 else 191 : Nat) : Int) := by unfold hiOf; split <;> split <;> (try split) <;> omega
        rw [hn, hlo, hhi, wl4, if_pos h4]
        generalize (if b0 = 240 then 144 else 128 : Nat) = lo
        generalize (if b0 = 244 then 143 else 191 : Nat) = hi
        simp only [okW_iff]
        congr 1
        apply propext
        constructor
        · rintro ⟨⟨a, b, c⟩, ⟨d, e, f⟩, g, h, i⟩; exact ⟨a, by omega, by omega, d, by omega, by omega, g, by omega, by omega⟩
        · rintro ⟨a, b, c, d, e, f, g, h, i⟩; exact ⟨⟨a, by omega, by omega⟩, ⟨d, by omega, by omega⟩, g, by omega, by omega⟩
      · have hn : nOf (b0 : Int) = 1 := by unfold nOf; rw [if_neg (by omega), if_neg (by omega), if_neg (by omega)]
        rw [hn, if_neg h4]
        simp [wl]
/-- how wide, as range reads it -/
def dw (b0 : Nat) (i1 : Bool) (b1 : Nat) (i2 : Bool) (b2 : Nat) (i3 : Bool) (b3 : Nat) : Nat :=
  if b0 < 0x80 then 1
  else if (b0 / 32 == 6 && (i1 && b1 / 64 == 2)) = true then (if (b0 % 32) * 64 + b1 % 64 ≥ 0x80 then 2 else 1)
  else if (b0 / 16 == 14 && (i1 && b1 / 64 == 2) && (i2 && b2 / 64 == 2)) = true then
    (if (decide ((b0 % 16) * 4096 + (b1 % 64) * 64 + b2 % 64 ≥ 0x800) && Utf8.valid (((b0 % 16) * 4096 + (b1 % 64) * 64 + b2 % 64 : Nat) : Int)) = true then 3 else 1)
  else if (b0 / 8 == 30 && (i1 && b1 / 64 == 2) && (i2 && b2 / 64 == 2) && (i3 && b3 / 64 == 2)) = true then
    (if (decide ((b0 % 8) * 262144 + (b1 % 64) * 4096 + (b2 % 64) * 64 + b3 % 64 ≥ 0x10000) && Utf8.valid (((b0 % 8) * 262144 + (b1 % 64) * 4096 + (b2 % 64) * 64 + b3 % 64 : Nat) : Int)) = true then 4 else 1)
  else 1
theorem decode_dw (s : ByteArray) (p : Nat) : (Utf8.decode s p).2 = dw (s.get! p).toNat (decide (p + 1 < s.size)) (s.get! (p + 1)).toNat (decide (p + 2 < s.size)) (s.get! (p + 2)).toNat (decide (p + 3 < s.size)) (s.get! (p + 3)).toNat := by
  simp only [Utf8.decode, dw, Nat.add_zero]
  repeat' split
  all_goals first | rfl | (exfalso; simp_all)
theorem valid_iff (n : Nat) : Utf8.valid (n : Int) = true ↔ (n < 55296 ∨ (57344 ≤ n ∧ n ≤ 1114111)) := by
  simp [Utf8.valid]; omega
theorem ww_dw (b0 b1 b2 b3 : Nat) (i1 i2 i3 : Bool) (h0 : b0 < 256) (h1 : b1 < 256) (h2 : b2 < 256) (h3 : b3 < 256) : ww b0 i1 b1 i2 b2 i3 b3 = dw b0 i1 b1 i2 b2 i3 b3 := by
  unfold ww dw
  simp only [Bool.and_eq_true, beq_iff_eq, decide_eq_true_eq, valid_iff]
  by_cases a1 : b0 < 128
  · have k1 : ¬ (194 ≤ b0 ∧ b0 ≤ 223) := by omega
    have k2 : ¬ (224 ≤ b0 ∧ b0 ≤ 239) := by omega
    have k3 : ¬ (240 ≤ b0 ∧ b0 ≤ 244) := by omega
    simp only [k1, k2, k3, a1, if_true, if_false]
  · by_cases a2 : b0 < 194
    · have k1 : ¬ (194 ≤ b0 ∧ b0 ≤ 223) := by omega
      have k2 : ¬ (224 ≤ b0 ∧ b0 ≤ 239) := by omega
      have k3 : ¬ (240 ≤ b0 ∧ b0 ≤ 244) := by omega
      have k4 : ¬ b0 / 16 = 14 := by omega
      have k5 : ¬ b0 / 8 = 30 := by omega
      simp only [k1, k2, k3, k4, k5, a1, if_false, false_and]
      split
      · rw [if_neg (by omega)]
      · rfl
    · by_cases a3 : b0 < 224
      · have k1 : 194 ≤ b0 ∧ b0 ≤ 223 := by omega
        have k4 : ¬ b0 / 16 = 14 := by omega
        have k5 : ¬ b0 / 8 = 30 := by omega
        have k6 : b0 / 32 = 6 := by omega
        simp only [k1, k4, k5, k6, a1, if_true, if_false, false_and, true_and, and_self]
        cases i1
        · simp
        · simp only [true_and]
          split <;> split <;> (try split) <;> omega
      · by_cases a5 : b0 < 240
        · have k1 : ¬ (194 ≤ b0 ∧ b0 ≤ 223) := by omega
          have k2 : 224 ≤ b0 ∧ b0 ≤ 239 := by omega
          have k4 : b0 / 16 = 14 := by omega
          have k5 : ¬ b0 / 8 = 30 := by omega
          have k6 : ¬ b0 / 32 = 6 := by omega
          simp only [k1, k2, k4, k5, k6, a1, if_true, if_false, false_and, true_and, and_self]
          cases i1
          · simp
          · cases i2
            · simp
            · simp only [true_and]
              by_cases c1 : b0 = 224
              · subst c1; simp only [if_true, show ¬ (224 : Nat) = 237 by omega, if_false]
                split <;> split <;> (try split) <;> omega
              · by_cases c2 : b0 = 237
                · subst c2; simp only [if_true, show ¬ (237 : Nat) = 224 by omega, if_false]
                  split <;> split <;> (try split) <;> omega
                · simp only [c1, c2, if_false]
                  split <;> split <;> (try split) <;> omega
        · by_cases a6 : b0 ≤ 244
          · have k1 : ¬ (194 ≤ b0 ∧ b0 ≤ 223) := by omega
            have k2 : ¬ (224 ≤ b0 ∧ b0 ≤ 239) := by omega
            have k3 : 240 ≤ b0 ∧ b0 ≤ 244 := by omega
            have k4 : ¬ b0 / 16 = 14 := by omega
            have k5 : b0 / 8 = 30 := by omega
            have k6 : ¬ b0 / 32 = 6 := by omega
            simp only [k1, k2, k3, k4, k5, k6, a1, if_true, if_false, false_and, true_and, and_self]
            cases i1
            · simp
            · cases i2
              · simp
              · cases i3
                · simp
                · simp only [true_and]
                  by_cases c1 : b0 = 240
                  · subst c1; simp only [if_true, show ¬ (240 : Nat) = 244 by omega, if_false]
                    split <;> split <;> (try split) <;> omega
                  · by_cases c2 : b0 = 244
                    · subst c2; simp only [if_true, show ¬ (244 : Nat) = 240 by omega, if_false]
                      split <;> split <;> (try split) <;> omega
                    · simp only [c1, c2, if_false]
                      split <;> split <;> (try split) <;> omega
          · have k1 : ¬ (194 ≤ b0 ∧ b0 ≤ 223) := by omega
            have k2 : ¬ (224 ≤ b0 ∧ b0 ≤ 239) := by omega
            have k3 : ¬ (240 ≤ b0 ∧ b0 ≤ 244) := by omega
            have k4 : ¬ b0 / 16 = 14 := by omega
            have k6 : ¬ b0 / 32 = 6 := by omega
            simp only [k1, k2, k3, k4, k6, a1, if_false, false_and]
            split
            · rw [if_neg (by omega)]
            · rfl
theorem wide_decode (s : ByteArray) (p : Nat) (h : p < s.size) : wideF s p ((s[p]'h).toNat : Int) = (Utf8.decode s p).2 := by
  rw [wideF_ww, decode_dw, ww_dw _ _ _ _ _ _ _ (UInt8.toNat_lt _) (UInt8.toNat_lt _) (UInt8.toNat_lt _) (UInt8.toNat_lt _), get_in s p h]
theorem plain_decode (s : ByteArray) (p : Nat) (h : p < s.size) : plain ((s[p]'h).toNat : Int) = plain ((Utf8.decode s p).1 : Int) := by
  by_cases ha : (s[p]'h).toNat < 128
  · rw [decode_ascii s p h ha]
  · have := (decode_high s p h (by omega)).1
    unfold plain
    rw [if_pos (by omega), if_pos (by omega)]
theorem crun_runes (s : ByteArray) : ∀ f p, crun s f p = (runes s f p).map plain := by
  intro f
  induction f with
  | zero => intro p; rfl
  | succ f ih =>
    intro p
    by_cases h : p < s.size
    · rw [crun_go h, wide_decode s p h, plain_decode s p h, ih]; simp [runes, h]
    · rw [crun_end h, runes_end s _ p h]; rfl
theorem crun_chars (s : ByteArray) : crun s s.size 0 = (chars s).map plain := crun_runes s _ _
end Go.Proofs.YtcnmbldikjljeaaGreatDoor
