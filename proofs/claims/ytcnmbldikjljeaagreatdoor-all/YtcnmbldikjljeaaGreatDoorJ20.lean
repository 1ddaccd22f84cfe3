import Derived.Test.YtcnmbldikjljeaaGreatDoorJ19
import Derived.Deep.AppendLies
import Derived.Deep.RegionLaw
import Derived.Test.YtcnmbldikjljeaaGreatDoorJ09
import Derived.Test.YtcnmbldikjljeaaGreatDoorJ10
namespace Go.Proofs.YtcnmbldikjljeaaGreatDoor
open Go.RowKit

theorem caseInfo : (Tryz.prog.info? 242).map (fun i => (i.zero, i.size, i.bytes)) = some (some (.agg #[.int .i64 0, .int .i64 0, .int .i64 0, .int .i64 0, .bool false, .int .i64 0]), 6, 48) := by kernel_rfl
set_option maxHeartbeats 1000000 in
theorem in_any (n lo hi : Int) (w : World) : Calls Tryz.prog 139 #[.int .i64 n, .int .i64 lo, .int .i64 hi] w fun e w' => e = .returned (.bool (decide (lo ≤ n ∧ n ≤ hi))) ∧ w' = w := by
  go_enter Tryz.func139, Tryz.ntmps139
  go_wp2
  all_goals
    go_ret
    exact ⟨by simp <;> omega, rfl⟩
theorem Put.below {w0 w u : World} {b off : Nat} {vs : List Value} (h : Put w u b off vs) (hb : Below w0.heap.size w0 w) (hlt : w0.heap.size ≤ b) : Below w0.heap.size w0 u :=
  hb.trans ⟨h.os, h.tape, h.output, h.size, fun k hk => h.other k (Nat.lt_of_lt_of_le hk hb.size) (by omega)⟩
section
variable {w : World} {g c : Nat} {F : Nat → Bool} {st : List Stg} {sv lv : Value} {vs : Nat → Value × Value} {d : Dk} {N : Int}
set_option maxRecDepth 100000 in
set_option maxHeartbeats 4000000 in
theorem refDOpen_any (R : RD w g c F st sv vs lv d) (hs : StOk st) (hn : st.length ≤ 6) (ok : DkOk F st d N) (hN : N ≤ 4611686018427387904) (stage : Int) :
    Calls Tryz.prog 94 #[P0 g, .int .i64 stage] w fun e w' => e = .returned (.tuple #[.int .i64 (openC F st d stage).2.1, .int .i64 (openC F st d stage).2.2]) ∧ ∃ lv', RD w' g c F st sv vs lv' (openC F st d stage).1 ∧ Fr g lv lv' w w' := by
  have c1 := R.c1
  have hlen := ok.len
  obtain ⟨sa, scap, hsv⟩ := row_any R.stg.row
  by_cases h1 : 0 ≤ stage ∧ stage < st.length
  · by_cases h2 : 20 ≤ d.cases.length
    · have hE : openC F st d stage = (d, 0, 8) := by unfold openC; rw [if_neg (by omega), if_pos h2]
      rw [hE]
      have HR := hide R
      have hin : decide (0 ≤ stage ∧ stage ≤ (st.length : Int) - 1) = true := by simp; omega
      have HI := hide hin
      obtain ⟨la, lcap, hlv⟩ := row_any R.own
      have c5 := R.c5
      have h2' : 20 ≤ (d.cases.length : Int) := by omega
      clear R hin
      subst hsv hlv
      go_enter Tryz.func94, Tryz.ntmps94
      go_wp2_with fail
      refine (in_any _ _ _ _).mono ?_
      rw [HI.out]
      rintro e u ⟨rfl, rfl⟩
      go_wp2_with fail
      go_ret2
      exact ⟨rfl, _, HR.out, Fr.refl⟩
    · have hE : openC F st d stage = ({ d with made := d.made + 1, cases := d.cases ++ [comesL F st ⟨d.made + 1, stage, 0, 0, false, 0⟩ 0 d.time] }, d.made + 1, 0) := by unfold openC; rw [if_neg (by omega), if_neg h2]
      rw [hE]
      have hin : decide (0 ≤ stage ∧ stage ≤ (st.length : Int) - 1) = true := by simp; omega
      have HI := hide hin
      obtain ⟨la, lcap, hlv⟩ := row_any R.own
      have c5 := R.c5
      have c2 := R.c2
      have c3 := R.c3
      have f3 := R.frz 3
      have h2' : (d.cases.length : Int) < 20 := by omega
      have m0 := ok.m0
      have m1 : d.made ≤ 4611686018427387904 := by have := ok.m1; omega
      obtain ⟨R1, Fr1⟩ := R.num 3 (d.made + 1) { d with made := d.made + 1 } rfl rfl
      have HR1 := hide (And.intro R1 Fr1)
      have hgs := R.lt
      clear R hin R1 Fr1
      subst hsv hlv
      obtain ⟨i0, hi, hz0, hz1, hz2⟩ := info_parts caseInfo
      have HII := hide hi
      clear hi
      go_enter Tryz.func94, Tryz.ntmps94
      go_wp2_with fail
      refine (in_any _ _ _ _).mono ?_
      rw [HI.out]
      rintro e u ⟨rfl, rfl⟩
      go_wp2_with fail
      have hA2 : CA ((u.setCell ⟨g, 3, none⟩ (.int .i64 (d.made + 1))).alloc (Obj.cells #[.int .i64 (d.made + 1), .int .i64 stage, .int .i64 0, .int .i64 0, .bool false, .int .i64 0] 242)) (u.setCell ⟨g, 3, none⟩ (.int .i64 (d.made + 1))).heap.size 0 ⟨d.made + 1, stage, 0, 0, false, 0⟩ := ⟨_, heap_alloc_new _ _, fun j v hv => by rw [Nat.zero_add]; simpa [csCells] using hv⟩
      have hb2 : Below (u.setCell ⟨g, 3, none⟩ (.int .i64 (d.made + 1))).heap.size (u.setCell ⟨g, 3, none⟩ (.int .i64 (d.made + 1))) ((u.setCell ⟨g, 3, none⟩ (.int .i64 (d.made + 1))).alloc (Obj.cells #[.int .i64 (d.made + 1), .int .i64 stage, .int .i64 0, .int .i64 0, .bool false, .int .i64 0] 242)) := (Below.refl _ _).alloc (Nat.le_refl _) _
      have hsz1 : (u.setCell ⟨g, 3, none⟩ (.int .i64 (d.made + 1))).heap.size = u.heap.size := by simp
      generalize (u.setCell ⟨g, 3, none⟩ (.int .i64 (d.made + 1))).alloc (Obj.cells #[.int .i64 (d.made + 1), .int .i64 stage, .int .i64 0, .int .i64 0, .bool false, .int .i64 0] 242) = w2 at *
      generalize u.setCell ⟨g, 3, none⟩ (.int .i64 (d.made + 1)) = w1 at *
      have R2 := HR1.out.1.on hb2
      rw [hsz1] at hA2
      have hne : g ≠ u.heap.size := by omega
      refine (comes_any R2.dr hA2 ⟨_, hA2.cell 0 _ rfl⟩ (by omega) hne hs h1.1 h1.2 0 d.time (by omega) (by omega) ok.t0 ok.t1).mono ?_
      rintro e w3 ⟨rfl, hP⟩
      have hb3 := hP.below hb2 (by omega)
      have R3 := HR1.out.1.on hb3
      have A3 := hP.ca
      have y0 := A3.cell 0 _ rfl
      have y1 := A3.cell 1 _ rfl
      have y2 := A3.cell 2 _ rfl
      have y3 := A3.cell 3 _ rfl
      have y4 := A3.cell 4 _ rfl
      have y5 := A3.cell 5 _ rfl
      simp only [Nat.zero_add] at y0 y1 y2 y3 y4 y5
      have c5' := R3.c5
      have c3' := R3.c3
      have hs3 := hb3.size
      have HR3 := hide R3
      have HF3 := hide (HR1.out.2.trans (Fr.of_below hb3))
      have hxs := A3.lt
      have hg3 : g < w3.heap.size := R3.lt
      clear HR1 R2 hA2 hb2 hb3 R3 A3 hP c1 c2 c3 c5 f3 HI
      generalize hy : comesL F st ⟨d.made + 1, stage, 0, 0, false, 0⟩ 0 d.time = y at *
      have HY := hide hy
      clear hy
      go_wp2_with fail
      go_region_law
        ((refine step_append_lies _ (by rfl) _ _ _ (by rfl) 0 242 i0 _ 6 48 Tryz.underlying238 HII.out hz0 hz1 hz2 rfl (by omega) (.slice la d.cases.length lcap) d.cases.length (cssCells d.cases) (by rfl) (HR3.out.on (((Below.refl _ _).alloc (Nat.le_refl _) _).drew)).own
            ⟨w3.heap.size, 0, none⟩ 1 1 (csCells y) (by rfl) (by rfl) (World.news_of_block (cs := (csCells y).toArray) (t := 242) (fr := (0, 0)) (heap_alloc_new w3 _)) (by simp [Value.oneCell', csCells])
            (by omega) (by unfold maxLen; omega) (by omega) (by simp) (w3.heap.size + 1) (by simp) ?_; intro gg cap w10 hown10 hgrow hat hlt10; obtain ⟨hc10, hf10, R10, F10⟩ := RD.row (l := d.cases ++ [y]) (HR3.out.on (((Below.refl _ _).alloc (Nat.le_refl _) _).drew)) hgrow (lv' := .slice (some ⟨gg, 0, none⟩) (d.cases.length + 1) cap) (by rw [show cssCells (d.cases ++ [y]) = cssCells d.cases ++ csCells y by simp [cssCells], List.length_append]; exact hown10) (fun k hk => by simp [Value.ownBlock] at hk; subst hk; rcases hat with e | e; exact .inl e; exact .inr (by simp; omega)) (by simp)))
      all_goals
        have HR10 := hide (And.intro R10 (HF3.out.trans ((Fr.of_below (((Below.refl _ _).alloc (Nat.le_refl _) _).drew)).trans F10)))
        have c3'' := R10.c3
        clear R10 F10 hown10 hgrow hat hc10 hf10
        go_wp2_with fail
        go_ret2
        refine ⟨rfl, _, ?_, HR10.out.2⟩
        rw [HY.out]; exact HR10.out.1
  · have hE : openC F st d stage = (d, 0, 1) := by unfold openC; rw [if_pos (by omega)]
    rw [hE]
    have HR := hide R
    have hin : decide (0 ≤ stage ∧ stage ≤ (st.length : Int) - 1) = false := by simp; omega
    have HI := hide hin
    clear R hin
    subst hsv
    go_enter Tryz.func94, Tryz.ntmps94
    go_wp2_with fail
    refine (in_any _ _ _ _).mono ?_
    rw [HI.out]
    rintro e u ⟨rfl, rfl⟩
    go_wp2_with fail
    go_ret2
    exact ⟨rfl, _, HR.out, Fr.refl⟩
end
end Go.Proofs.YtcnmbldikjljeaaGreatDoor
namespace Go.Proofs.YtcnmbldikjljeaaGreatDoor
open Go.RowKit

/-- nothing has turned but blocks of one type -/
structure Of (t : TypeId) (w u : World) : Prop where
  os : u.os = w.os
  tape : u.tape = w.tape
  output : u.output = w.output
  size : w.heap.size ≤ u.heap.size
  block : ∀ (k : Nat) (cur : Array Value) (e : TypeId) (fz : Nat × Nat), w.heap[k]? = some (Obj.cells cur e fz) → e ≠ t → u.heap[k]? = w.heap[k]?
section
variable {w u z : World} {t : TypeId}
theorem Of.of_below (h : Below w.heap.size w u) : Of t w u := ⟨h.os, h.tape, h.output, h.size, fun k _ _ _ hk _ => h.block k (Array.getElem?_eq_some_iff.1 hk).1⟩
theorem Of.trans (h : Of t w u) (k : Of t u z) : Of t w z := ⟨k.os.trans h.os, k.tape.trans h.tape, k.output.trans h.output, Nat.le_trans h.size k.size, fun i cur e fz hi he => by
  have h1 := h.block i cur e fz hi he
  exact (k.block i cur e fz (h1.trans hi) he).trans h1⟩
theorem Of.grown {base size n : Nat} {v : Value} {xs : List Value} (hg : w.grownBy u v.ownBlock) (hr : w.ownsRow base t size v n xs) : Of t w u := by
  refine ⟨hg.os, hg.tape, hg.output, hg.size, fun k cur e fz hk he => hg.block k (Array.getElem?_eq_some_iff.1 hk).1 (fun e' => ?_)⟩
  rcases hr.2 with ⟨rfl, _⟩ | ⟨g, cap, cur', rfl, _, hh, _⟩
  · simp [Value.ownBlock] at e'
  · obtain rfl : k = g := by simpa [Value.ownBlock] using e'
    rw [hk] at hh
    cases hh
    exact he rfl
theorem Of.set {g j : Nat} {cur : Array Value} {fz : Nat × Nat} (h : w.heap[g]? = some (.cells cur t fz)) (v : Value) : Of t w (w.setCell ⟨g, j, none⟩ v) :=
  ⟨rfl, rfl, rfl, by simp, fun k cur' e fz' hk he => Below.heap_setCell _ _ _ k (fun e' => by subst e'; rw [h] at hk; cases hk; exact he rfl)⟩
theorem Of.bk {g N : Nat} {e : TypeId} {f : Nat → Value} (h : Of t w u) (K : BK w g e N f) (he : e ≠ t) : BK u g e N f := by
  obtain ⟨cur, h1, h2⟩ := K
  exact ⟨cur, (h.block g cur e _ h1 he).trans h1, h2⟩
theorem Of.row {base size n : Nat} {e : TypeId} {v : Value} {xs : List Value} (h : Of t w u) (R : w.ownsRow base e size v n xs) (he : e ≠ t) : u.ownsRow base e size v n xs :=
  ⟨R.1, R.2.imp id fun ⟨g, cap, cur, a, b, c, r⟩ => ⟨g, cap, cur, a, b, (h.block g cur e _ c he).trans c, r⟩⟩
theorem Of.lnt {B size n : Nat} {e : TypeId} {v r : Value} {f : Nat → Value} (h : Of t w u) (L : Lnt w B e size v r n f) (he : e ≠ t) : Lnt u B e size v r n f :=
  L.imp id fun ⟨h0, g, h1, h2, h3⟩ => ⟨h0, g, h1, h2, h.bk h3 he⟩
theorem Lnt.base {B B' size n : Nat} {e : TypeId} {v r : Value} {f : Nat → Value} (L : Lnt w B e size v r n f) (h : B' ≤ B) : Lnt w B' e size v r n f :=
  L.imp id fun ⟨h0, g, h1, h2, h3⟩ => ⟨h0, g, Nat.le_trans h h1, h2, h3⟩
theorem Lnt.lt {B size n : Nat} {e : TypeId} {v r : Value} {f : Nat → Value} (L : Lnt w B e size v r n f) : ∀ b, r.ownBlock = some b → B ≤ b ∧ b < w.heap.size := by
  intro b hb
  rcases L with ⟨_, rfl⟩ | ⟨_, g, h1, rfl, h3⟩
  · simp [Value.ownBlock] at hb
  · obtain rfl : g = b := by simpa [Value.ownBlock] using hb
    exact ⟨h1, h3.lt⟩
theorem Lnt.of {B size n : Nat} {e : TypeId} {v r : Value} {f : Nat → Value} (L : Lnt w B e size v r n f) (hg : w.grownBy u r.ownBlock) : Of e w u := by
  refine ⟨hg.os, hg.tape, hg.output, hg.size, fun k cur e' fz hk he => hg.block k (Array.getElem?_eq_some_iff.1 hk).1 (fun h => ?_)⟩
  rcases L with ⟨_, rfl⟩ | ⟨_, g, _, rfl, cur', h3, _⟩
  · simp [Value.ownBlock] at h
  · obtain rfl : k = g := by simpa [Value.ownBlock] using h
    rw [hk] at h3
    cases h3
    exact he rfl
theorem Lnt.ne {B size n : Nat} {e : TypeId} {v r r' : Value} {f : Nat → Value} (L : Lnt w B e size v r n f) (hg : w.grownBy u r'.ownBlock) (hne : ∀ b, r.ownBlock = some b → r'.ownBlock ≠ some b) : Lnt u B e size v r n f := by
  rcases L with h | ⟨h0, g, h1, rfl, cur, h3, h4⟩
  · exact .inl h
  · exact .inr ⟨h0, g, h1, rfl, cur, (hg.block g (Array.getElem?_eq_some_iff.1 h3).1 (fun h => hne g rfl h.symm)).trans h3, h4⟩
theorem Lnt.form {B size n : Nat} {e : TypeId} {v r : Value} {f : Nat → Value} (L : Lnt w B e size v r n f) (hv : v = .slice none 0 0 → n = 0) : ∃ a cap, r = .slice a n cap := by
  rcases L with ⟨h1, h2⟩ | ⟨_, g, _, h2, _⟩
  · exact ⟨none, 0, by rw [h2, hv h1]⟩
  · exact ⟨_, _, h2⟩
end
/-- the cells of a row of stages -/
def stc (rs : Nat → Value × Value) (j : Nat) : Value := if j % 2 = 0 then (rs (j / 2)).1 else (rs (j / 2)).2
def rs1 (rs : Nat → Value × Value) (i : Nat) : List Value := (List.range i).map fun k => (rs k).1
def rs2 (rs : Nat → Value × Value) (i : Nat) : List Value := (List.range i).map fun k => (rs k).2
theorem rs1_succ (rs : Nat → Value × Value) (i : Nat) : rs1 rs (i + 1) = rs1 rs i ++ [(rs i).1] := by simp [rs1, List.range_succ]
theorem rs2_succ (rs : Nat → Value × Value) (i : Nat) : rs2 rs (i + 1) = rs2 rs i ++ [(rs i).2] := by simp [rs2, List.range_succ]
theorem rs1_congr {f g : Nat → Value × Value} {n : Nat} (h : ∀ j, j < n → f j = g j) : rs1 f n = rs1 g n := List.map_congr_left fun j hj => by rw [h j (List.mem_range.1 hj)]
theorem rs2_congr {f g : Nat → Value × Value} {n : Nat} (h : ∀ j, j < n → f j = g j) : rs2 f n = rs2 g n := List.map_congr_left fun j hj => by rw [h j (List.mem_range.1 hj)]
/-- what was lent of each stage, up to i -/
structure LS (wr : World) (B : Nat) (st : List Stg) (vs rs : Nat → Value × Value) (i : Nat) (lv nv : Value) : Prop where
  lrow : wr.ownsRow B 123 1 lv i (rs1 rs i)
  nrow : wr.ownsRow B 24 1 nv i (rs2 rs i)
  lev : ∀ k, k < i → Lnt wr B 127 2 (vs k).1 (rs k).1 (stAt st k).levels.length (lentF (flat (stAt st k).levels) sp2)
  nxt : ∀ k, k < i → Lnt wr B 3 1 (vs k).2 (rs k).2 (stAt st k).next.length (lentF (intCells (stAt st k).next) sp1)
  inj1 : ∀ k k' b, k < i → k' < i → (rs k).1.ownBlock = some b → (rs k').1.ownBlock = some b → k = k'
  inj2 : ∀ k k' b, k < i → k' < i → (rs k).2.ownBlock = some b → (rs k').2.ownBlock = some b → k = k'
theorem Of.ls {wr u : World} {B : Nat} {st : List Stg} {vs rs : Nat → Value × Value} {i : Nat} {lv nv : Value} {t : TypeId} (h : Of t wr u) (L : LS wr B st vs rs i lv nv) (h1 : 123 ≠ t) (h2 : 24 ≠ t) (h3 : 127 ≠ t) (h4 : 3 ≠ t) : LS u B st vs rs i lv nv :=
  ⟨h.row L.lrow h1, h.row L.nrow h2, fun k hk => h.lnt (L.lev k hk) h3, fun k hk => h.lnt (L.nxt k hk) h4, L.inj1, L.inj2⟩
theorem LS.on {wr u : World} {B : Nat} {st : List Stg} {vs rs : Nat → Value × Value} {i : Nat} {lv nv : Value} (L : LS wr B st vs rs i lv nv) (h : Below wr.heap.size wr u) : LS u B st vs rs i lv nv := (Of.of_below (t := 1000000) h).ls L (by decide) (by decide) (by decide) (by decide)
/-- stages that were lent -/
structure LK (w w' : World) (st : List Stg) (vs : Nat → Value × Value) (A : Nat) (lv nv : Value) (rs : Nat → Value × Value) : Prop where
  lo : w.heap.size ≤ A
  all : BK w' A 125 ((st.length + 8) * 2) (fun j => if j < st.length * 2 then stc rs j else .slice none 0 0)
  ls : LS w' w.heap.size st vs rs st.length lv nv
/-- what lent gives -/
def LentOk (w w' : World) (v : Value) (st : List Stg) (vs : Nat → Value × Value) (xv : Value) : Prop :=
  (v = .slice none 0 0 ∧ xv = .agg #[.slice none 0 0, .slice none 0 0, .slice none 0 0]) ∨
  (v ≠ .slice none 0 0 ∧ ∃ A lv nv rs, xv = .agg #[.slice (some ⟨A, 0, none⟩) st.length (st.length + 8), lv, nv] ∧ LK w w' st vs A lv nv rs)
/-- where a round of lent's loop stands -/
structure LM (w wr : World) (st : List Stg) (vs rs : Nat → Value × Value) (i : Nat) (lv nv : Value) (n1 n2 : Nat) (x1 x2 : List Value) (f : Nat → Value) : Prop where
  below : Below w.heap.size w wr
  res : wr.heap[w.heap.size]? = some (.cells #[.slice none 0 0, .slice none 0 0, .slice none 0 0] 186 (0, 0))
  x : wr.heap[w.heap.size + 1]? = some (.cells #[.slice (some ⟨w.heap.size + 2, 0, none⟩) (st.length + 8) (st.length + 8), lv, nv] 186 (0, 0))
  all : BK wr (w.heap.size + 2) 125 ((st.length + 8) * 2) f
  lrow : wr.ownsRow w.heap.size 123 1 lv n1 x1
  nrow : wr.ownsRow w.heap.size 24 1 nv n2 x2
  lev : ∀ k, k < i → Lnt wr w.heap.size 127 2 (vs k).1 (rs k).1 (stAt st k).levels.length (lentF (flat (stAt st k).levels) sp2)
  nxt : ∀ k, k < i → Lnt wr w.heap.size 3 1 (vs k).2 (rs k).2 (stAt st k).next.length (lentF (intCells (stAt st k).next) sp1)
  inj1 : ∀ k k' b, k < i → k' < i → (rs k).1.ownBlock = some b → (rs k').1.ownBlock = some b → k = k'
  inj2 : ∀ k k' b, k < i → k' < i → (rs k).2.ownBlock = some b → (rs k').2.ownBlock = some b → k = k'
section
variable {w wr u : World} {st : List Stg} {vs rs rs' : Nat → Value × Value} {i : Nat} {lv nv lv' nv' : Value} {n1 n2 m : Nat} {x1 x2 y : List Value} {f f' : Nat → Value}
theorem LM.c0 (L : LM w wr st vs rs i lv nv n1 n2 x1 x2 f) : wr.cell? ⟨w.heap.size + 1, 0, none⟩ = some (.slice (some ⟨w.heap.size + 2, 0, none⟩) (st.length + 8) (st.length + 8)) := by simp [World.cell?, L.x]
theorem LM.c1 (L : LM w wr st vs rs i lv nv n1 n2 x1 x2 f) : wr.cell? ⟨w.heap.size + 1, 1, none⟩ = some lv := by simp [World.cell?, L.x]
theorem LM.c2 (L : LM w wr st vs rs i lv nv n1 n2 x1 x2 f) : wr.cell? ⟨w.heap.size + 1, 2, none⟩ = some nv := by simp [World.cell?, L.x]
theorem LM.fx (L : LM w wr st vs rs i lv nv n1 n2 x1 x2 f) (j : Nat) : wr.frozen? ⟨w.heap.size + 1, j, none⟩ = false := by simp [World.frozen?, L.x]
theorem LM.rc (L : LM w wr st vs rs i lv nv n1 n2 x1 x2 f) (j : Nat) (hj : j < 3) : wr.cell? ⟨w.heap.size, j, none⟩ = some (.slice none 0 0) := by
  have : j = 0 ∨ j = 1 ∨ j = 2 := by omega
  rcases this with rfl | rfl | rfl <;> simp [World.cell?, L.res]
theorem LM.fr (L : LM w wr st vs rs i lv nv n1 n2 x1 x2 f) (j : Nat) : wr.frozen? ⟨w.heap.size, j, none⟩ = false := by simp [World.frozen?, L.res]
/-- lent's end: the result's box was written -/
theorem LM.fin (L : LM w wr st vs rs i lv nv n1 n2 x1 x2 f) (v0 v1 v2 v3 : Value) : Of 186 wr ((((wr.setCell ⟨w.heap.size + 1, 0, none⟩ v0).setCell ⟨w.heap.size, 0, none⟩ v1).setCell ⟨w.heap.size, 1, none⟩ v2).setCell ⟨w.heap.size, 2, none⟩ v3) ∧ Below w.heap.size w ((((wr.setCell ⟨w.heap.size + 1, 0, none⟩ v0).setCell ⟨w.heap.size, 0, none⟩ v1).setCell ⟨w.heap.size, 1, none⟩ v2).setCell ⟨w.heap.size, 2, none⟩ v3) := by
  have o1 : Of 186 wr (wr.setCell ⟨w.heap.size + 1, 0, none⟩ v0) := .set L.x _
  have r1 : (wr.setCell ⟨w.heap.size + 1, 0, none⟩ v0).heap[w.heap.size]? = _ := (Below.heap_setCell _ _ _ _ (by simp)).trans L.res
  have o2 : Of 186 _ ((wr.setCell ⟨w.heap.size + 1, 0, none⟩ v0).setCell ⟨w.heap.size, 0, none⟩ v1) := .set r1 _
  have r2 := heap_setCell_same _ _ 0 _ _ v1 r1
  have o3 : Of 186 _ (((wr.setCell ⟨w.heap.size + 1, 0, none⟩ v0).setCell ⟨w.heap.size, 0, none⟩ v1).setCell ⟨w.heap.size, 1, none⟩ v2) := .set r2 _
  have r3 := heap_setCell_same _ _ 1 _ _ v2 r2
  have o4 : Of 186 _ ((((wr.setCell ⟨w.heap.size + 1, 0, none⟩ v0).setCell ⟨w.heap.size, 0, none⟩ v1).setCell ⟨w.heap.size, 1, none⟩ v2).setCell ⟨w.heap.size, 2, none⟩ v3) := .set r3 _
  exact ⟨((o1.trans o2).trans o3).trans o4, (((L.below.setCell (by simp) _).setCell (by simp) _).setCell (by simp) _).setCell (by simp) _⟩
theorem LM.on (L : LM w wr st vs rs i lv nv n1 n2 x1 x2 f) (h : Below wr.heap.size wr u) : LM w u st vs rs i lv nv n1 n2 x1 x2 f := by
  have o : Of 1000000 wr u := .of_below h
  exact ⟨L.below.trans (h.mono L.below.size), (h.block _ (Array.getElem?_eq_some_iff.1 L.res).1).trans L.res, (h.block _ (Array.getElem?_eq_some_iff.1 L.x).1).trans L.x, o.bk L.all (by decide), o.row L.lrow (by decide), o.row L.nrow (by decide), fun k hk => o.lnt (L.lev k hk) (by decide), fun k hk => o.lnt (L.nxt k hk) (by decide), L.inj1, L.inj2⟩
theorem LM.app1 (L : LM w wr st vs rs i lv nv n1 n2 x1 x2 f) (hg : wr.grownBy u lv.ownBlock) (hr : u.ownsRow w.heap.size 123 1 lv' m y) :
    u.cell? ⟨w.heap.size + 1, 1, none⟩ = some lv ∧ u.frozen? ⟨w.heap.size + 1, 1, none⟩ = false ∧ LM w (u.setCell ⟨w.heap.size + 1, 1, none⟩ lv') st vs rs i lv' nv m n2 y x2 f := by
  have o : Of 123 wr u := .grown hg L.lrow
  have hx := (o.block _ _ _ _ L.x (by decide)).trans L.x
  have hres := (o.block _ _ _ _ L.res (by decide)).trans L.res
  have o2 : Of 186 u (u.setCell ⟨w.heap.size + 1, 1, none⟩ lv') := .set hx _
  have hb : Below w.heap.size w u := L.below.grown hg L.below.size (fun k hk => (L.lrow.lt k hk).1)
  refine ⟨by simp [World.cell?, hx], by simp [World.frozen?, hx], hb.setCell (by simp) _, ?_, ?_, o2.bk (o.bk L.all (by decide)) (by decide), o2.row hr (by decide), o2.row (o.row L.nrow (by decide)) (by decide), fun k hk => o2.lnt (o.lnt (L.lev k hk) (by decide)) (by decide), fun k hk => o2.lnt (o.lnt (L.nxt k hk) (by decide)) (by decide), L.inj1, L.inj2⟩
  · rw [Below.heap_setCell _ _ _ _ (by simp)]; exact hres
  · have := heap_setCell_same _ _ 1 _ _ lv' hx
    simpa using this
theorem LM.app2 (L : LM w wr st vs rs i lv nv n1 n2 x1 x2 f) (hg : wr.grownBy u nv.ownBlock) (hr : u.ownsRow w.heap.size 24 1 nv' m y) :
    u.cell? ⟨w.heap.size + 1, 2, none⟩ = some nv ∧ u.frozen? ⟨w.heap.size + 1, 2, none⟩ = false ∧ LM w (u.setCell ⟨w.heap.size + 1, 2, none⟩ nv') st vs rs i lv nv' n1 m x1 y f := by
  have o : Of 24 wr u := .grown hg L.nrow
  have hx := (o.block _ _ _ _ L.x (by decide)).trans L.x
  have hres := (o.block _ _ _ _ L.res (by decide)).trans L.res
  have o2 : Of 186 u (u.setCell ⟨w.heap.size + 1, 2, none⟩ nv') := .set hx _
  have hb : Below w.heap.size w u := L.below.grown hg L.below.size (fun k hk => (L.nrow.lt k hk).1)
  refine ⟨by simp [World.cell?, hx], by simp [World.frozen?, hx], hb.setCell (by simp) _, ?_, ?_, o2.bk (o.bk L.all (by decide)) (by decide), o2.row (o.row L.lrow (by decide)) (by decide), o2.row hr (by decide), fun k hk => o2.lnt (o.lnt (L.lev k hk) (by decide)) (by decide), fun k hk => o2.lnt (o.lnt (L.nxt k hk) (by decide)) (by decide), L.inj1, L.inj2⟩
  · rw [Below.heap_setCell _ _ _ _ (by simp)]; exact hres
  · have := heap_setCell_same _ _ 2 _ _ nv' hx
    simpa using this
theorem LM.set (L : LM w wr st vs rs i lv nv n1 n2 x1 x2 f) (j : Nat) (v : Value) : LM w (wr.setCell ⟨w.heap.size + 2, j, none⟩ v) st vs rs i lv nv n1 n2 x1 x2 (fun k => if k = j then v else f k) := by
  obtain ⟨cur, hc, _⟩ := L.all
  have o : Of 125 wr (wr.setCell ⟨w.heap.size + 2, j, none⟩ v) := .set hc _
  exact ⟨L.below.setCell (by simp) _, (o.block _ _ _ _ L.res (by decide)).trans L.res, (o.block _ _ _ _ L.x (by decide)).trans L.x, L.all.set j v, o.row L.lrow (by decide), o.row L.nrow (by decide), fun k hk => o.lnt (L.lev k hk) (by decide), fun k hk => o.lnt (L.nxt k hk) (by decide), L.inj1, L.inj2⟩
/-- one stage more was lent -/
theorem LM.more (L : LM w wr st vs rs i lv nv n1 n2 x1 x2 f)
    (t1 : Lnt wr w.heap.size 127 2 (vs i).1 lv' (stAt st i).levels.length (lentF (flat (stAt st i).levels) sp2)) (t2 : Lnt wr w.heap.size 3 1 (vs i).2 nv' (stAt st i).next.length (lentF (intCells (stAt st i).next) sp1))
    (B : Nat) (o1 : ∀ k b, k < i → (rs k).1.ownBlock = some b → b < B) (o2 : ∀ k b, k < i → (rs k).2.ownBlock = some b → b < B) (f1 : ∀ b, lv'.ownBlock = some b → B ≤ b) (f2 : ∀ b, nv'.ownBlock = some b → B ≤ b) :
    LM w wr st vs (fun k => if k = i then (lv', nv') else rs k) (i + 1) lv nv n1 n2 x1 x2 f := by
  refine ⟨L.below, L.res, L.x, L.all, L.lrow, L.nrow, fun k hk => ?_, fun k hk => ?_, fun k k' b hk hk' h h' => ?_, fun k k' b hk hk' h h' => ?_⟩
  · by_cases e : k = i
    · subst e; simp only [if_pos]; exact t1
    · simp only [if_neg e]; exact L.lev k (by omega)
  · by_cases e : k = i
    · subst e; simp only [if_pos]; exact t2
    · simp only [if_neg e]; exact L.nxt k (by omega)
  · by_cases e : k = i
    · by_cases e' : k' = i
      · omega
      · simp only [if_pos e] at h
        simp only [if_neg e'] at h'
        have := o1 k' b (by omega) h'
        have := f1 b h
        omega
    · by_cases e' : k' = i
      · simp only [if_neg e] at h
        simp only [if_pos e'] at h'
        have := o1 k b (by omega) h
        have := f1 b h'
        omega
      · simp only [if_neg e] at h
        simp only [if_neg e'] at h'
        exact L.inj1 k k' b (by omega) (by omega) h h'
  · by_cases e : k = i
    · by_cases e' : k' = i
      · omega
      · simp only [if_pos e] at h
        simp only [if_neg e'] at h'
        have := o2 k' b (by omega) h'
        have := f2 b h
        omega
    · by_cases e' : k' = i
      · simp only [if_neg e] at h
        simp only [if_pos e'] at h'
        have := o2 k b (by omega) h
        have := f2 b h'
        omega
      · simp only [if_neg e] at h
        simp only [if_neg e'] at h'
        exact L.inj2 k k' b (by omega) (by omega) h h'
/-- a round's end -/
theorem LM.next {la na : Value} (L : LM w wr st vs (fun k => if k = i then (la, na) else rs k) (i + 1) lv nv (i + 1) (i + 1) (rs1 rs i ++ [la]) (rs2 rs i ++ [na]) f)
    (hf : ∀ j, f j = if j < (i + 1) * 2 then stc (fun k => if k = i then (la, na) else rs k) j else .slice none 0 0) :
    LM w wr st vs (fun k => if k = i then (la, na) else rs k) (i + 1) lv nv (i + 1) (i + 1) (rs1 (fun k => if k = i then (la, na) else rs k) (i + 1)) (rs2 (fun k => if k = i then (la, na) else rs k) (i + 1)) (fun j => if j < (i + 1) * 2 then stc (fun k => if k = i then (la, na) else rs k) j else .slice none 0 0) := by
  have e1 : rs1 (fun k => if k = i then (la, na) else rs k) (i + 1) = rs1 rs i ++ [la] := by rw [rs1_succ, rs1_congr (g := rs) (fun j hj => if_neg (by omega))]; simp
  have e2 : rs2 (fun k => if k = i then (la, na) else rs k) (i + 1) = rs2 rs i ++ [na] := by rw [rs2_succ, rs2_congr (g := rs) (fun j hj => if_neg (by omega))]; simp
  exact ⟨L.below, L.res, L.x, L.all.congr (fun j _ => hf j), by rw [e1]; exact L.lrow, by rw [e2]; exact L.nrow, L.lev, L.nxt, L.inj1, L.inj2⟩
/-- the row of stages, one stage more -/
theorem stc_next (rs : Nat → Value × Value) (la na : Value) (i j : Nat) : (if j = i * 2 + 1 then na else if j = i * 2 then la else if j < i * 2 then stc rs j else .slice none 0 0) = if j < (i + 1) * 2 then stc (fun k => if k = i then (la, na) else rs k) j else .slice none 0 0 := by
  by_cases e1 : j = i * 2 + 1
  · subst e1
    rw [if_pos rfl, if_pos (by omega)]
    unfold stc
    rw [if_neg (by omega), show (i * 2 + 1) / 2 = i by omega]; simp
  · rw [if_neg e1]
    by_cases e2 : j = i * 2
    · subst e2
      rw [if_pos rfl, if_pos (by omega)]
      unfold stc
      rw [if_pos (by omega), show i * 2 / 2 = i by omega]; simp
    · rw [if_neg e2]
      by_cases h : j < i * 2
      · rw [if_pos h, if_pos (by omega)]
        unfold stc
        simp [show ¬ j / 2 = i by omega]
      · rw [if_neg h, if_neg (by omega)]
end
end Go.Proofs.YtcnmbldikjljeaaGreatDoor
