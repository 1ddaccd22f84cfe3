import Derived.Test.YtcnmbldikjljeaaGreatDoorJ07
import Derived.Below
import Derived.Laws.AppendOwn
namespace Go.Proofs.YtcnmbldikjljeaaGreatDoor

section
variable {F : Nat → Bool} {st : List Stg} {d : Dk} {N : Int}
theorem find_mem (d : Dk) (id : Int) (h : ¬ findL d.cases id < 0) : csAt d.cases (findL d.cases id) ∈ d.cases := by
  rcases findL_bd d.cases id with a | ⟨i, e, hi⟩
  · omega
  · rw [e, csAt_nat hi]; exact List.getElem_mem hi
theorem DkOk.set (h : DkOk F st d N) (i : Nat) (y : Cs) (hy : CsOk st y) (hd : 0 ≤ y.due → d.time ≤ y.due ∧ cnt F y.due.toNat - cnt F d.time.toNat ≤ 20000) : DkOk F st { d with cases := d.cases.set i y } N :=
  { h with
    len := by simpa using h.len
    cs := fun x hx => by
      rcases List.mem_or_eq_of_mem_set hx with a | a
      · exact h.cs x a
      · rw [a]; exact hy
    du := fun x hx => by
      rcases List.mem_or_eq_of_mem_set hx with a | a
      · exact h.du x a
      · rw [a]; exact hd }
theorem close_ok (h : DkOk F st d N) (id : Int) : DkOk F st (closeC d id).1 N := by
  unfold closeC
  split
  · exact h
  · exact { h with len := Nat.le_trans (List.length_eraseIdx_le _ _) h.len, cs := fun x hx => h.cs x (List.mem_of_mem_eraseIdx hx), du := fun x hx => h.du x (List.mem_of_mem_eraseIdx hx) }
theorem move_ok (h : DkOk F st d N) (hs : StOk st) (id stage : Int) : DkOk F st (moveC F st d id stage).1 N := by
  unfold moveC
  split
  · exact h
  rename_i hf
  split
  · exact h
  split
  · exact h
  rename_i hn
  have hx := h.cs _ (find_mem d id hf)
  generalize csAt d.cases (findL d.cases id) = x at *
  have hst := hs x.stage.toNat (by have := hx.s0; have := hx.s1; omega)
  rw [show ((x.stage.toNat : Nat) : Int) = x.stage by have := hx.s0; omega] at hst
  have hm := hst.2.2.2 stage ((hasI_iff _ _).1 (by simpa using hn))
  have ok := comes_ok (F := F) (x := { x with stage := stage }) hs hm.1 hm.2 hx.r0 hx.r1 (level := 0) (by omega) h.t0 h.t1
  exact h.set _ _ ok.1 (fun hd => ⟨Int.le_of_lt (ok.2 hd).1, (ok.2 hd).2⟩)
theorem hold_ok (h : DkOk F st d N) (id : Int) : DkOk F st (holdC F d id).1 N := by
  unfold holdC
  split
  · exact h
  rename_i hf
  split
  · exact h
  have hm := find_mem d id hf
  have hx := h.cs _ hm
  have hdu := h.du _ hm
  generalize csAt d.cases (findL d.cases id) = x at *
  split
  · rename_i hd
    have hc := (hdu hd).2
    have hmono : cnt F d.time.toNat ≤ cnt F x.due.toNat := (cnt_mono F (hdu hd).1 h.t0).1
    exact h.set _ _ ⟨hx.s0, hx.s1, hx.l0, hx.l1, by simp, by simp, fun h => by simp at h, by simp; omega, by simp; omega⟩ (fun h => by simp at h)
  · exact h.set _ _ ⟨hx.s0, hx.s1, hx.l0, hx.l1, hx.d0, hx.d1, hx.dl, hx.r0, hx.r1⟩ hdu
/-- what arms leaves -/
theorem arms_ok {x : Cs} {t n : Int} (s0 : 0 ≤ x.stage) (s1 : x.stage < st.length) (l0 : 0 ≤ x.level) (l4 : x.level ≤ 4) (hl : x.level < (stAt st x.stage).levels.length) (n0 : 1 ≤ n) (n1 : n ≤ 20000) (h0 : 0 ≤ t) (h1 : t ≤ 100800) :
    CsOk st { armsL F x t n with rest := 0 } ∧ (0 ≤ (armsL F x t n).due → t ≤ (armsL F x t n).due ∧ cnt F (armsL F x t n).due.toNat - cnt F t.toNat ≤ 20000) := by
  unfold armsL
  split
  · rename_i y hy
    obtain ⟨b1, b2, b3, _⟩ := addO_some h1 hy
    exact ⟨⟨s0, s1, l0, l4, by simp only; omega, b2, fun _ => hl, by simp, by simp⟩, fun _ => ⟨b1, by simp only; omega⟩⟩
  · exact ⟨⟨s0, s1, by simp, by simp, by simp, by simp, fun h => by simp at h, by simp, by simp⟩, fun h => by simp at h⟩
/-- a case with a rest is held, nothing of it is due, and its level is one of its stage's -/
def RestOk (st : List Stg) (x : Cs) : Prop := 0 < x.rest → x.held = true ∧ x.due = -1 ∧ x.level < (stAt st x.stage).levels.length
def DkR (st : List Stg) (d : Dk) : Prop := ∀ x ∈ d.cases, RestOk st x
theorem DkR.set (h : DkR st d) (i : Nat) (y : Cs) (hy : RestOk st y) : DkR st { d with cases := d.cases.set i y } := fun x hx => by
  rcases List.mem_or_eq_of_mem_set hx with a | a
  · exact h x a
  · rw [a]; exact hy
theorem resume_ok (h : DkOk F st d N) (hr : DkR st d) (id : Int) : DkOk F st (resumeC F d id).1 N ∧ DkR st (resumeC F d id).1 := by
  unfold resumeC
  split
  · exact ⟨h, hr⟩
  rename_i hf
  split
  · exact ⟨h, hr⟩
  have hm := find_mem d id hf
  have hx := h.cs _ hm
  have hdu := h.du _ hm
  have hrx := hr _ hm
  generalize csAt d.cases (findL d.cases id) = x at *
  split
  · rename_i hp
    obtain ⟨_, _, hl⟩ := hrx hp
    have ok := arms_ok (F := F) (st := st) (x := { x with held := false }) (t := d.time) (n := x.rest) hx.s0 hx.s1 hx.l0 hx.l1 hl (by omega) hx.r1 h.t0 h.t1
    exact ⟨h.set _ _ ok.1 ok.2, hr.set _ _ (fun h => by simp at h)⟩
  · rename_i hp
    exact ⟨h.set _ _ ⟨hx.s0, hx.s1, hx.l0, hx.l1, hx.d0, hx.d1, hx.dl, hx.r0, hx.r1⟩ hdu, hr.set _ _ (fun h => absurd h hp)⟩
theorem hold_rest (h : DkOk F st d N) (hr : DkR st d) (id : Int) : DkR st (holdC F d id).1 := by
  unfold holdC
  split
  · exact hr
  rename_i hf
  split
  · exact hr
  rename_i hh
  have hm := find_mem d id hf
  have hx := h.cs _ hm
  have hrx := hr _ hm
  generalize csAt d.cases (findL d.cases id) = x at *
  split
  · rename_i hd
    exact hr.set _ _ (fun _ => ⟨rfl, rfl, hx.dl hd⟩)
  · exact hr.set _ _ (fun hp => absurd (hrx hp).1 hh)
theorem comes_rest (x : Cs) (level t : Int) (hx : ¬ 0 < x.rest) : RestOk st (comesL F st x level t) := fun h => by
  obtain ⟨_, e2, _, _⟩ := comes_stage (F := F) (st := st) (x := x) (level := level) (t := t)
  rw [e2] at h
  exact absurd h hx
theorem open_rest (hr : DkR st d) (stage : Int) : DkR st (openC F st d stage).1 := by
  unfold openC
  split
  · exact hr
  split
  · exact hr
  · intro x hx
    rcases List.mem_append.1 hx with a | a
    · exact hr x a
    · rw [List.mem_singleton] at a; subst a
      exact comes_rest _ _ _ (by simp)
theorem move_rest (hr : DkR st d) (id stage : Int) : DkR st (moveC F st d id stage).1 := by
  unfold moveC
  split
  · exact hr
  rename_i hf
  split
  · exact hr
  rename_i hh
  split
  · exact hr
  have hrx := hr _ (find_mem d id hf)
  generalize csAt d.cases (findL d.cases id) = x at *
  exact hr.set _ _ (comes_rest _ _ _ (fun hp => hh (hrx hp).1))
theorem close_rest (hr : DkR st d) (id : Int) : DkR st (closeC d id).1 := by
  unfold closeC
  split
  · exact hr
  · exact fun x hx => hr x (List.mem_of_mem_eraseIdx hx)
/-- where Tick's loop ends, all that is due is due later -/
theorem tick_late {l : List Cs} {T : Int} (hc : nextL l < 0 ∨ T < (csAt l (nextL l)).due) : ∀ x ∈ l, 0 ≤ x.due → T < x.due := by
  intro x hx hd
  obtain ⟨i, hi, rfl⟩ := List.getElem_of_mem hx
  have e := csAt_nat hi
  obtain ⟨a, b, _⟩ := nextTo_least l l.length i hi (by rw [e]; exact hd)
  rw [e] at b
  unfold nextL at hc
  omega
/-- what stands of a case while Tick goes on -/
def TkOk (F : Nat → Bool) (st : List Stg) (T : Int) (x : Cs) : Prop := CsOk st x ∧ RestOk st x ∧ (0 ≤ x.due → x.due ≤ T ∨ cnt F x.due.toNat - cnt F T.toNat ≤ 20000)
theorem tickGo_ok (hs : StOk st) {T : Int} : ∀ (f : Nat) (l : List Cs) (k : Int), (∀ x ∈ l, TkOk F st T x) → leftL st l ≤ f →
    (∀ x ∈ (tickGo F st T f l k).2.1, CsOk st x ∧ RestOk st x ∧ (0 ≤ x.due → T ≤ x.due ∧ cnt F x.due.toNat - cnt F T.toNat ≤ 20000)) ∧ (tickGo F st T f l k).2.1.length = l.length ∧ k ≤ (tickGo F st T f l k).2.2 ∧ (tickGo F st T f l k).2.2 ≤ k + leftL st l ∧ (tickGo F st T f l k).1.length ≤ leftL st l := by
  have stop : ∀ (f : Nat) (l : List Cs) (k : Int), (∀ x ∈ l, TkOk F st T x) → (nextL l < 0 ∨ T < (csAt l (nextL l)).due) →
      (∀ x ∈ (tickGo F st T f l k).2.1, CsOk st x ∧ RestOk st x ∧ (0 ≤ x.due → T ≤ x.due ∧ cnt F x.due.toNat - cnt F T.toNat ≤ 20000)) ∧ (tickGo F st T f l k).2.1.length = l.length ∧ k ≤ (tickGo F st T f l k).2.2 ∧ (tickGo F st T f l k).2.2 ≤ k + leftL st l ∧ (tickGo F st T f l k).1.length ≤ leftL st l := by
    intro f l k hok hc
    rw [tick_done hc]
    refine ⟨fun x hx => ⟨(hok x hx).1, (hok x hx).2.1, fun hd => ?_⟩, rfl, Int.le_refl _, by simp only; omega, by simp⟩
    have h1 := tick_late hc x hx hd
    have h2 := (hok x hx).2.2 hd
    omega
  intro f
  induction f with
  | zero =>
    intro l k hok hf
    by_cases hc : nextL l < 0 ∨ T < (csAt l (nextL l)).due
    · exact stop 0 l k hok hc
    · obtain ⟨i, e, hi, _, _, hok', hlt⟩ := tick_step (F := F) (T := T) hs (fun x hx => (hok x hx).1) (by omega) (by omega)
      omega
  | succ f ih =>
    intro l k hok hf
    by_cases hc : nextL l < 0 ∨ T < (csAt l (nextL l)).due
    · exact stop _ l k hok hc
    · obtain ⟨i, e, hi, hx, hd, hok', hlt⟩ := tick_step (F := F) (T := T) hs (fun x hx => (hok x hx).1) (by omega) (by omega)
      have hT : (csAt l i).due ≤ T := by rw [e] at hc; omega
      have hm : csAt l i ∈ l := by rw [csAt_nat hi]; exact List.getElem_mem hi
      have hrx := (hok _ hm).2.1
      simp only [tickGo]
      rw [if_neg hc, e]
      unfold setC
      rw [Int.toNat_natCast]
      generalize csAt l i = x at *
      have ok := comes_ok (F := F) hs hx.s0 hx.s1 hx.r0 hx.r1 (level := x.level + 1) (by have := hx.l0; omega) hd hx.d1
      have hr2 : RestOk st (comesL F st x (x.level + 1) x.due) := comes_rest _ _ _ (fun hp => by have := (hrx hp).2.1; omega)
      have hmono := (cnt_mono F hT hd).1
      have hall : ∀ z ∈ l.set i (comesL F st x (x.level + 1) x.due), TkOk F st T z := fun z hz => by
        rcases set_mem hz with rfl | a
        · exact ⟨ok.1, hr2, fun h => by right; have := (ok.2 h).2; omega⟩
        · exact hok z a
      obtain ⟨a1, a2, a3, a4, a5⟩ := ih (l.set i (comesL F st x (x.level + 1) x.due)) (k + 1) hall (by omega)
      refine ⟨a1, by rw [a2, List.length_set], by simp only; omega, by simp only; omega, by rw [List.length_cons]; omega⟩
theorem tick_ok (h : DkOk F st d N) (hr : DkR st d) (hs : StOk st) (n : Int) : DkOk F st (tickC F st d n).1 (N + 80) ∧ DkR st (tickC F st d n).1 ∧ (tickC F st d n).2.1.length ≤ 80 := by
  have hN : DkOk F st d (N + 80) := { h with m1 := by have := h.m1; omega, k1 := by have := h.k1; omega }
  unfold tickC
  split
  · exact ⟨hN, hr, by simp⟩
  rename_i hn
  have t0 := h.t0
  have hall : ∀ x ∈ d.cases, TkOk F st (d.time + n) x := fun x hx => ⟨h.cs x hx, hr x hx, fun hd => by
    right
    have := (h.du x hx hd).2
    have := (cnt_mono F (show d.time ≤ d.time + n by omega) t0).1
    omega⟩
  have hl := leftL_le hs d.cases h.cs
  have hlen := h.len
  obtain ⟨a1, a2, a3, a4, a5⟩ := tickGo_ok (F := F) hs (leftL st d.cases) d.cases d.told hall (Nat.le_refl _)
  exact ⟨{ hN with t0 := by simp only; omega, t1 := by simp only; omega, k0 := by have := h.k0; simp only; omega, k1 := by have := h.k1; simp only; omega, len := by simp only; omega, cs := fun x hx => (a1 x hx).1, du := fun x hx => (a1 x hx).2.2 }, fun x hx => (a1 x hx).2.1, by simp only; omega⟩
/-- stages that Check takes keep the bounds, if no list of nexts is too long -/
theorem check_stok (h : checkL st = true) (hn : ∀ i : Nat, i < st.length → (stAt st i).next.length ≤ 140737488351232) : StOk st ∧ 1 ≤ st.length ∧ st.length ≤ 6 := by
  simp only [checkL, Bool.and_eq_true, decide_eq_true_eq, List.all_eq_true] at h
  refine ⟨fun i hi => ?_, h.1.1, h.1.2⟩
  have hs := h.2 (stAt st i) (by simp [stAt, hi])
  have hni := hn i hi
  generalize stAt st i = s at *
  simp only [stgOk, Bool.and_eq_true, decide_eq_true_eq, List.all_eq_true] at hs
  refine ⟨hs.1.1, fun k hk => ?_, hni, fun y hy => hs.2 y hy⟩
  have := hs.1.2 s.levels[k] (List.getElem_mem hk)
  simp only [lvAt, Int.toNat_natCast, List.getD_eq_getElem?_getD, List.getElem?_eq_getElem hk, Option.getD_some]
  exact this.1
theorem empty_ok : DkOk F st ⟨0, 0, 0, []⟩ 0 ∧ DkR st ⟨0, 0, 0, []⟩ :=
  ⟨⟨by simp, by simp, by simp, by simp, by simp, by simp, by simp, fun x hx => by simp at hx, fun x hx => by simp at hx⟩, fun x hx => by simp at hx⟩
end
end Go.Proofs.YtcnmbldikjljeaaGreatDoor
namespace Go.Proofs.YtcnmbldikjljeaaGreatDoor
open Go.RowKit

/-! who may still write a block: 0: nobody -/
def junk : Obj := .cells #[] 1000000 (0, 0)
/-- memory, without what somebody may still write -/
def roW (own : Nat → Nat) (w : World) : World := { w with heap := w.heap.mapIdx fun k o => if own k = 0 then o else junk }
section
variable {own own' own2 : Nat → Nat} {w w' u : World} {t s : Nat}
theorem ro_size (own : Nat → Nat) (w : World) : (roW own w).heap.size = w.heap.size := by simp [roW]
theorem ro_get (own : Nat → Nat) (w : World) (k : Nat) : (roW own w).heap[k]? = (w.heap[k]?).map fun o => if own k = 0 then o else junk := by simp [roW]
theorem ro_free {k : Nat} (h : own k = 0) : (roW own w).heap[k]? = w.heap[k]? := by
  rw [ro_get]
  cases w.heap[k]? <;> simp [h]
theorem ro_cells {k : Nat} {cur : Array Value} {e : TypeId} {fz : Nat × Nat} (h : (roW own w).heap[k]? = some (.cells cur e fz)) (he : e ≠ 1000000) : own k = 0 ∧ w.heap[k]? = some (.cells cur e fz) := by
  by_cases h0 : own k = 0
  · exact ⟨h0, (ro_free h0).symm.trans h⟩
  · rw [ro_get] at h
    cases hk : w.heap[k]? with
    | none => rw [hk] at h; cases h
    | some o =>
      rw [hk] at h
      simp only [Option.map_some, if_neg h0, junk, Option.some.injEq, Obj.cells.injEq] at h
      exact absurd h.2.1.symm he
theorem ro_cell {p : Addr} {v : Value} (h : (roW own w).cell? p = some v) : own p.block = 0 ∧ w.cell? p = some v := by
  by_cases h0 : own p.block = 0
  · exact ⟨h0, (World.cell?_of_block (ro_free h0)).symm.trans h⟩
  · exfalso
    have hg := ro_get own w p.block
    cases hk : w.heap[p.block]? with
    | none => rw [hk] at hg; simp [World.cell?, hg] at h
    | some o => rw [hk] at hg; simp [World.cell?, hg, h0, junk] at h
theorem ro_row {base size n : Nat} {e : TypeId} {v : Value} {xs : List Value} (h : (roW own w).ownsRow base e size v n xs) (he : e ≠ 1000000) : w.ownsRow base e size v n xs := by
  refine ⟨h.1, h.2.imp id fun ⟨g, cap, cur, a, b, c, r⟩ => ⟨g, cap, cur, a, b, (ro_cells c he).2, r⟩⟩
theorem row_ro {base size n : Nat} {e : TypeId} {v : Value} {xs : List Value} (h : w.ownsRow base e size v n xs) (ho : ∀ k, v.ownBlock = some k → own k = 0) : (roW own w).ownsRow base e size v n xs := by
  refine ⟨h.1, h.2.imp id fun ⟨g, cap, cur, a, b, c, r⟩ => ⟨g, cap, cur, a, b, (ro_free (ho g (by rw [a]; rfl))).trans c, r⟩⟩
/-- what a call leaves that may write the blocks of owners in T alone -/
structure KeptS (own own' : Nat → Nat) (T : Nat → Prop) (w w' : World) : Prop where
  os : w'.os = w.os
  tape : w'.tape = w.tape
  output : w'.output = w.output
  size : w.heap.size ≤ w'.heap.size
  block : ∀ k, k < w.heap.size → ¬ T (own k) → w'.heap[k]? = w.heap[k]?
  same : ∀ k, k < w.heap.size → own' k = own k
  lt : ∀ k, w.heap.size ≤ k → own' k ≠ 0 → k < w'.heap.size
  nt : ∀ k, own' k < 10 ∨ own' k = own k ∨ T (own' k)
/-- .. of one owner -/
abbrev Kept (own own' : Nat → Nat) (t : Nat) (w w' : World) : Prop := KeptS own own' (fun x => x = t) w w'
variable {T : Nat → Prop}
theorem KeptS.below (h : KeptS own own' T w w') (ht : ¬ T 0) : Below w.heap.size (roW own w) (roW own' w') := by
  refine ⟨h.os, h.tape, h.output, by rw [ro_size, ro_size]; exact h.size, fun k hk => ?_⟩
  rw [ro_get, ro_get, h.same k hk]
  by_cases h0 : own k = 0
  · rw [h.block k hk (by rw [h0]; exact ht)]
  · have a : k < w'.heap.size := Nat.lt_of_lt_of_le hk h.size
    simp [h0, hk, a]
theorem KeptS.of_below (h : Below w.heap.size w w') (hl : ∀ k, own k ≠ 0 → k < w.heap.size) : KeptS own own T w w' :=
  ⟨h.os, h.tape, h.output, h.size, fun k hk _ => h.block k hk, fun _ _ => rfl, fun k hk h0 => absurd (hl k h0) (by omega), fun _ => .inr (.inl rfl)⟩
theorem KeptS.trans (h : KeptS own own' T w w') (k : KeptS own' own2 T w' u) : KeptS own own2 T w u :=
  ⟨k.os.trans h.os, k.tape.trans h.tape, k.output.trans h.output, Nat.le_trans h.size k.size,
    fun i hi ht => (k.block i (Nat.lt_of_lt_of_le hi h.size) (by rw [h.same i hi]; exact ht)).trans (h.block i hi ht),
    fun i hi => (k.same i (Nat.lt_of_lt_of_le hi h.size)).trans (h.same i hi),
    fun i hi h0 => by
      by_cases hw : i < w'.heap.size
      · exact Nat.lt_of_lt_of_le hw k.size
      · exact k.lt i (by omega) h0,
    fun i => by
      rcases k.nt i with a | a | a
      · exact .inl a
      · rcases h.nt i with b | b | b
        · exact .inl (by omega)
        · exact .inr (.inl (a.trans b))
        · exact .inr (.inr (by rw [a]; exact b))
      · exact .inr (.inr a)⟩
theorem KeptS.mono {S : Nat → Prop} (h : KeptS own own' T w w') (hs : ∀ x, T x → S x) : KeptS own own' S w w' := ⟨h.os, h.tape, h.output, h.size, fun k hk ht => h.block k hk (fun a => ht (hs _ a)), h.same, h.lt, fun k => (h.nt k).imp id (fun x => x.imp id (hs _))⟩
/-- own's bound goes on -/
theorem KeptS.bound (h : KeptS own own' T w w') : ∀ k, own' k ≠ 0 → k < w'.heap.size := fun k h0 => by
  by_cases hk : k < w.heap.size
  · exact Nat.lt_of_lt_of_le hk h.size
  · exact h.lt k (by omega) h0
/-- a block of somebody's -/
theorem KeptS.at (h : KeptS own own' T w w') {k : Nat} {o : Obj} (hk : w.heap[k]? = some o) (ht : ¬ T (own k)) : w'.heap[k]? = some o ∧ own' k = own k := by
  have hlt : k < w.heap.size := (Array.getElem?_eq_some_iff.1 hk).1
  exact ⟨(h.block k hlt ht).trans hk, h.same k hlt⟩
/-- a row of somebody's -/
def MRow (own : Nat → Nat) (t : Nat) (w : World) (e : TypeId) (size : Nat) (v : Value) (n : Nat) (xs : List Value) : Prop := w.ownsRow 0 e size v n xs ∧ ∀ k, v.ownBlock = some k → own k = t
theorem MRow.kept {e : TypeId} {size n : Nat} {v : Value} {xs : List Value} (R : MRow own s w e size v n xs) (h : KeptS own own' T w w') (hne : ¬ T s) : MRow own' s w' e size v n xs := by
  refine ⟨⟨R.1.1, R.1.2.imp id fun ⟨g, cap, cur, a, b, c, r⟩ => ⟨g, cap, cur, a, b, (h.at c (by rw [R.2 g (by rw [a]; rfl)]; exact hne)).1, r⟩⟩, fun k hk => ?_⟩
  rw [h.same k (R.1.lt k hk).2]; exact R.2 k hk
theorem MRow.nil (own : Nat → Nat) (t : Nat) (w : World) (e : TypeId) (size : Nat) : MRow own t w e size (.slice none 0 0) 0 [] := ⟨World.ownsRow_nil _ _ _ _, fun k hk => by simp [Value.ownBlock] at hk⟩
/-- a new block is somebody's -/
def tagOf (own : Nat → Nat) (b : Option Nat) (t : Nat) : Nat → Nat := fun k => if some k = b then t else own k
theorem tagOf_nt {b : Option Nat} : ∀ k, tagOf own b t k < 10 ∨ tagOf own b t k = own k ∨ tagOf own b t k = t := fun k => by
  unfold tagOf
  split
  · exact .inr (.inr rfl)
  · exact .inr (.inl rfl)
/-- a row's append: the row's block is owner t's, the new one too -/
theorem Kept.grown {v v' : Value} {e : TypeId} {size n : Nat} {xs : List Value} (hg : w.grownBy w' v.ownBlock) (hv : ∀ k, v.ownBlock = some k → own k = t) (hown : w'.ownsRow 0 e size v' n xs)
    (hat : ∀ k, v'.ownBlock = some k → v.ownBlock = some k ∨ w.heap.size ≤ k) (hl : ∀ k, own k ≠ 0 → k < w.heap.size) : Kept own (tagOf own v'.ownBlock t) t w w' ∧ MRow (tagOf own v'.ownBlock t) t w' e size v' n xs := by
  refine ⟨⟨hg.os, hg.tape, hg.output, hg.size, fun k hk ht => hg.block k hk (fun e' => ht (hv k e'.symm)), fun k hk => ?_, fun k hk h0 => ?_, tagOf_nt⟩, hown, fun k hk => ?_⟩
  · unfold tagOf
    split
    · rename_i e'
      rcases hat k e'.symm with a | a
      · exact (hv k a).symm
      · omega
    · rfl
  · unfold tagOf at h0
    split at h0
    · rename_i e'
      exact (hown.lt k e'.symm).2
    · exact absurd (hl k h0) (by omega)
  · unfold tagOf; rw [if_pos hk.symm]
end
end Go.Proofs.YtcnmbldikjljeaaGreatDoor
