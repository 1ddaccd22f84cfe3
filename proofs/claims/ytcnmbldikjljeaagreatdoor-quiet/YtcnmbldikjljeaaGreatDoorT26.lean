import Derived.Test.YtcnmbldikjljeaaGreatDoorT25
import Derived.Test.YtcnmbldikjljeaaGreatDoorT01
import Derived.ProofKit
import Derived.LaidMore
import Derived.OpenShut
import Derived.Stop.Joined
import Derived.ChangeOld
import Derived.Deep.Slices
import Derived.Lib.SmallJoins
import Derived.Test.YtcnmbldikjljeaaGreatDoorT23
import Derived.Test.YtcnmbldikjljeaaGreatDoorT09
import Derived.SizedLaws
namespace Go.Proofs.YtcnmbldikjljeaaGreatDoor
open Go.RowKit

set_option maxRecDepth 100000 in
set_option maxHeartbeats 4000000 in
theorem sameEvents_any {w : World} {b1 b2 : Nat} {av bv : Value} {es : List Ev} (ra : w.ownsRow b1 63 6 av es.length (evsCells es)) (rb : w.ownsRow b2 63 6 bv es.length (evsCells es)) (hl : es.length ≤ 1000000) :
    Calls Tryz.prog 16 #[av, bv] w fun e w' => e = .returned (.bool true) ∧ Below w.heap.size w w' := by
  obtain ⟨aa, ac, ha⟩ := row_any ra
  obtain ⟨ba, bc, hb⟩ := row_any rb
  subst ha hb
  have HA := hide ra
  have HB := hide rb
  clear ra rb
  go_enter Tryz.func16, Tryz.ntmps16
  go_wp2_with fail
  go_loopw [5] (fun iv wr => ∃ i : Nat, iv = .int .i64 i ∧ i ≤ es.length ∧ Below w.heap.size w wr) (fun iv _ => es.length - (intOf iv).toNat)
  case atStart => exact ⟨0, rfl, Nat.zero_le _, Below.refl _ _⟩
  case round =>
    obtain ⟨i, rfl, hi, hb⟩ := hrel
    by_cases hlt : i < es.length
    · have hlt' : (i : Int) < es.length := by omega
      obtain ⟨qa, ca, h1⟩ := row_some HA.out (by omega)
      obtain ⟨qb, cb, h2⟩ := row_some HB.out (by omega)
      simp only [Value.slice.injEq] at h1 h2
      obtain ⟨rfl, _, rfl⟩ := h1
      obtain ⟨rfl, _, rfl⟩ := h2
      have RA1 := row_on HA.out hb
      have RB1 := row_on HB.out hb
      have ca : ∀ j (v : Value), j < 6 → (evCells es[i])[j]? = some v → wr.cell? ⟨qa, i * 6 + j, none⟩ = some v := fun j v hj hv => (RA1.cellAt (i * 6 + j) (by omega)).trans ((evsCells_at es i hlt j hj).trans hv)
      have cb : ∀ j (v : Value), j < 6 → (evCells es[i])[j]? = some v → wr.cell? ⟨qb, i * 6 + j, none⟩ = some v := fun j v hj hv => (RB1.cellAt (i * 6 + j) (by omega)).trans ((evsCells_at es i hlt j hj).trans hv)
      have a0 : wr.cell? ⟨qa, i * 6, none⟩ = _ := ca 0 _ (by omega) rfl
      have a1 := ca 1 _ (by omega) rfl
      have a2 := ca 2 _ (by omega) rfl
      have a3 := ca 3 _ (by omega) rfl
      have a4 := ca 4 _ (by omega) rfl
      have a5 := ca 5 _ (by omega) rfl
      have b0 : wr.cell? ⟨qb, i * 6, none⟩ = _ := cb 0 _ (by omega) rfl
      have b1 := cb 1 _ (by omega) rfl
      have b2 := cb 2 _ (by omega) rfl
      have b3 := cb 3 _ (by omega) rfl
      have b4 := cb 4 _ (by omega) rfl
      have b5 := cb 5 _ (by omega) rfl
      have HBB := hide hb
      clear ca cb RA1 RB1 hb
      generalize es[i] = x at *
      go_wp2_with fail
      go_quiet (fail)
      have HB2 := hide (below_drewN HBB.out nq)
      clear HBB a0 a1 a2 a3 a4 a5 b0 b1 b2 b3 b4 b5
      go_wp2_with fail
      go_roundw
      case rel => exact ⟨i + 1, by go_num, by omega, HB2.out⟩
      case measure => simp [intOf]; omega
    · go_wp2_with fail
      go_ret
      exact ⟨rfl, hb⟩
end Go.Proofs.YtcnmbldikjljeaaGreatDoor
namespace Go.Proofs.YtcnmbldikjljeaaGreatDoor
open Go.ChangeShapes Go.WideShapes Go.ChangeAt Go.RowKit

theorem own : ownKnob Tryz.prog.godebug = none := by kernel_rfl
theorem laidOut : laidOutB Tryz.prog = true := by kernel_rfl
/-- the listed variable's name, off the row -/
abbrev dn : String := Rows.calendarsRow.named.headD default
theorem gNames : Tryz.prog.globalNamed dn = some 0 := by kernel_rfl
theorem tNames : (Tryz.prog.globals[0]?).map (·.type) = some 262 := by kernel_rfl
theorem cellsInt : Tryz.prog.cellsOf 3 = 1 := by kernel_rfl
theorem cellsStr : Tryz.prog.cellsOf 9 = 1 := by kernel_rfl
theorem cellsN : Tryz.prog.cellsOf 262 = 7 := by kernel_rfl

abbrev laidList : List (String × DataW Unit) := [(dn, Rows.laid_docket_docket_dayNames)]

theorem door_met (os : Os) (args : Array Value) : laidMetH Tryz.prog laidList ((World.doorLaid Tryz.prog 400 os).forCall (fun _ _ => 0) ⟨#[], args, []⟩).memory :=
  laidMetH_of_parts3 (fuel := 8) (laidMet_of_run' 8 (by kernel_rfl) (by kernel_rfl)) (by kernel_rfl) (by kernel_rfl)

theorem bytes_of_list (s : ByteArray) (l : List UInt8) (h : s.data.toList = l) : s = ⟨l.toArray⟩ := by subst h; cases s; simp

theorem names_of_laid {W : World} (h : laidMetH Tryz.prog laidList W) : ∀ j, j < 7 → W.cell? ⟨0, j, none⟩ = some (nmV j) := by
  rw [MakeChecks.laidMetH_plain _ _ _ (by kernel_rfl)] at h
  obtain ⟨ps, ⟨g0, t0, cs0, f0, p0, q0, hg0, ht0, hv0, hd0, _, _⟩, _, _⟩ := h
  obtain rfl := Option.some.inj (gNames.symm.trans hg0)
  obtain rfl := Option.some.inj (tNames.symm.trans ht0)
  obtain ⟨xs, m, rfl, hx, hlen, hn, hel⟩ := DataW.trod_array Tryz.underlying262 hd0
  simp only [Prod.mk.injEq] at hx
  intro j hj
  have hc := World.var?_cell hg0 hv0 j
  rw [hc]
  have hj2 := hel j hj
  rw [cellsStr] at hj2
  obtain ⟨y, hy⟩ : ∃ y, xs[j]? = some y := ⟨xs[j]'(by omega), by simp⟩
  rw [hy] at hj2
  obtain ⟨s, e1, e2, _⟩ := DataW.trod_string Tryz.underlying9 hj2
  have hcs : cs0[j]? = some (.string s) := by
    have := congrArg (·[0]?) e1
    simpa [List.getElem?_take, List.getElem?_drop] using this
  rw [hcs]
  have hmap : (xs.map (·.1))[j]? = some (.lit (.string s.data.toList)) := by simp [hy, e2]
  have hD := hx.1
  simp only [Rows.laid_docket_docket_dayNames, DataW.agg.injEq] at hD
  rw [← hD] at hmap
  unfold nmV
  have key : ∀ l : List UInt8, s.data.toList = l → Value.string s = .string ⟨l.toArray⟩ := fun l hl => by rw [bytes_of_list s l hl]
  have hj7 : j = 0 ∨ j = 1 ∨ j = 2 ∨ j = 3 ∨ j = 4 ∨ j = 5 ∨ j = 6 := by omega
  rcases hj7 with rfl | rfl | rfl | rfl | rfl | rfl | rfl
  all_goals
    simp only [List.getElem?_cons_zero, List.getElem?_cons_succ, Option.some.injEq, DataW.lit.injEq, Lit.string.injEq] at hmap
    rw [key _ hmap.symm]
    rfl
end Go.Proofs.YtcnmbldikjljeaaGreatDoor
namespace Go.Proofs.YtcnmbldikjljeaaGreatDoor
open Go.ChangeShapes Go.WideShapes Go.ChangeAt Go.RowKit

theorem cellsE : Tryz.prog.cellsOf 201 = 3 := by kernel_rfl
section
variable {H : Type} {enc : TypeId × Value → H} {W : World}
/-- a slice of integers that came in -/
theorem open_list {a : Option Addr} {len cap fuel : Nat} {x : DataW H × List MemPlace} (h : DataW.trod enc Tryz.prog W 0 (fun _ => true) true fuel 24 [.slice a len cap] = some x) :
    ∃ fs : List Int, len = fs.length ∧ fs.length ≤ 9223372036854775807 ∧ ∀ i x, fs[i]? = some x → ∃ b off, a = some ⟨b, off, none⟩ ∧ b < W.heap.size ∧ W.cell? ⟨b, off + i, none⟩ = some (.int .i64 x) ∧ inR x := by
  rcases open_ints Tryz.underlying24 Tryz.underlying3 cellsInt h with ⟨hcs, _⟩ | ⟨x, l, c, zs, hcs, _, hl, hm, hz, _, hcell, hwz⟩
  · simp only [List.cons.injEq, Value.slice.injEq, and_true] at hcs
    obtain ⟨rfl, rfl, rfl⟩ := hcs
    exact ⟨[], rfl, by simp, fun i x hx => by simp at hx⟩
  · simp only [List.cons.injEq, Value.slice.injEq, and_true] at hcs
    obtain ⟨rfl, rfl, rfl⟩ := hcs
    simp only [if_true] at hz
    unfold maxLen at hm
    refine ⟨zs.take len, by simp; omega, by simp; omega, fun i y hy => ?_⟩
    have hi : i < len := by have := (List.getElem?_eq_some_iff.1 hy).1; simp at this; omega
    have hzi : zs[i]? = some y := by rw [List.getElem?_take] at hy; simpa [hi] using hy
    have hg : zs.getD i 0 = y := by simp [List.getD, hzi]
    obtain ⟨b, off, rfl, hc⟩ := ints_at hcell (by omega)
    have hc2 := hc i (by omega)
    rw [hg] at hc2
    exact ⟨b, off, rfl, World.block_lt_of_cell? W _ hc2, hc2, bounds_i64 (hwz y (List.mem_of_getElem? hzi))⟩

/-- a slice of arrays of three integers -/
theorem open_ents {a : Option Addr} {len cap fuel : Nat} {x : DataW H × List MemPlace} (h : DataW.trod enc Tryz.prog W 0 (fun _ => true) true fuel 26 [.slice a len cap] = some x) :
    ∃ es : List Ent, len = es.length ∧ es.length ≤ 9223372036854775807 ∧ ∀ i e, es[i]? = some e → ∃ b off, a = some ⟨b, off, none⟩ ∧ b < W.heap.size ∧ W.cell? ⟨b, off + i * 3, none⟩ = some (.int .i64 e.1) ∧ W.cell? ⟨b, off + i * 3 + 1, none⟩ = some (.int .i64 e.2.1) ∧ W.cell? ⟨b, off + i * 3 + 2, none⟩ = some (.int .i64 e.2.2) ∧ inR e.1 ∧ inR e.2.1 ∧ inR e.2.2 := by
  rcases Deep.open_slice Tryz.underlying26 h with ⟨hcs, _⟩ | ⟨x, l, c, m, n, D, Pl, hcs, _, hl, hm, hmm, _, hel⟩
  · simp only [List.cons.injEq, Value.slice.injEq, and_true] at hcs
    obtain ⟨rfl, rfl, rfl⟩ := hcs
    exact ⟨[], rfl, by simp, fun i x hx => by simp at hx⟩
  · simp only [List.cons.injEq, Value.slice.injEq, and_true] at hcs
    obtain ⟨rfl, rfl, rfl⟩ := hcs
    simp only [if_true] at hmm
    subst hmm
    unfold maxLen at hm
    rw [cellsE] at hel
    have hE : ∀ i, i < len → ∃ e : Ent, W.cell? (x.add (i * 3)) = some (.int .i64 e.1) ∧ W.cell? ((x.add (i * 3)).add 1) = some (.int .i64 e.2.1) ∧ W.cell? ((x.add (i * 3)).add 2) = some (.int .i64 e.2.2) ∧ inR e.1 ∧ inR e.2.1 ∧ inR e.2.2 := by
      intro i hi
      obtain ⟨cs', h1, h2⟩ := hel i (by omega)
      obtain ⟨_, hlen, hcell⟩ := World.cells?_some h1
      obtain ⟨ys, k, _, _, _, hn, hy⟩ := DataW.trod_array Tryz.underlying201 h2
      rw [cellsInt] at hy
      have y0 := hy 0 (by omega)
      have y1 := hy 1 (by omega)
      have y2 := hy 2 (by omega)
      match cs', hlen, ys, hn with
      | [u0, u1, u2], _, [z0, z1, z2], _ =>
        simp at y0 y1 y2
        obtain ⟨k0, e0, _, w0⟩ := DataW.trod_int Tryz.underlying3 y0
        obtain ⟨k1, e1, _, w1⟩ := DataW.trod_int Tryz.underlying3 y1
        obtain ⟨k2, e2, _, w2⟩ := DataW.trod_int Tryz.underlying3 y2
        simp at e0 e1 e2
        subst e0 e1 e2
        refine ⟨(k0, k1, k2), ?_, hcell 1 (by omega), hcell 2 (by omega), bounds_i64 w0, bounds_i64 w1, bounds_i64 w2⟩
        have := hcell 0 (by omega)
        simpa [Addr.add] using this
    obtain ⟨en, hen⟩ := Deep.choose_lt (α := Ent) hE
    refine ⟨(List.range len).map en, by simp, by simp; omega, fun i e he => ?_⟩
    have hi : i < len := by have := (List.getElem?_eq_some_iff.1 he).1; simpa using this
    have hee : en i = e := by simpa [hi] using he
    subst hee
    obtain ⟨g0, g1, g2, r0, r1, r2⟩ := hen i hi
    obtain ⟨b, off, spot⟩ := x
    have hspot : spot = none := by
      have := World.cell?_spot (hen 0 (by omega)).1
      simpa [Addr.add] using this
    subst hspot
    rw [add_plain] at g0 g1 g2
    rw [add_plain] at g1 g2
    exact ⟨b, off, rfl, World.block_lt_of_cell? W _ g0, g0, g1, g2, r0, r1, r2⟩

set_option maxRecDepth 100000 in
/-- a Week that came in -/
theorem open_week {v : Value} {d : DataW H} {p : List MemPlace} {r : Reach} {b0 : Nat} (hv : Value.okWide Tryz.prog W r b0 28 v) (h : DataW.Trod enc Tryz.prog W 0 (fun _ => true) true 28 v d p) :
    ∃ (es : List Ent) (fs : List Int) (ae af : Option Addr) (ce cf : Nat), v = .agg #[.slice ae es.length ce, .slice af fs.length cf] ∧ WK W es fs ae af := by
  obtain ⟨v0, v1, y0, y1, n, rfl, _, _, h0, h1⟩ := Joins.open_agg2 Tryz.underlying28 (by kernel_rfl) (by kernel_rfl) hv h
  obtain ⟨ae, le, ce, e0⟩ := Joins.slice_form (show Tryz.prog.underlying 26 = some (.slice 201) from Tryz.underlying26) h0
  obtain ⟨af, lf, cf, e1⟩ := Joins.slice_form (show Tryz.prog.underlying 24 = some (.slice 3) from Tryz.underlying24) h1
  simp at e0 e1
  subst e0 e1
  obtain ⟨es, rfl, b1, hE⟩ := open_ents h0
  obtain ⟨fs, rfl, b2, hF⟩ := open_list h1
  exact ⟨es, fs, ae, af, ce, cf, rfl, ⟨hE, hF, b1, b2⟩⟩
end
end Go.Proofs.YtcnmbldikjljeaaGreatDoor
namespace Go.Proofs.YtcnmbldikjljeaaGreatDoor
open Go.RowKit

theorem tickN_psi {own : Nat → Nat} {w : World} {t p : Nat} {F : Nat → Bool} {st : List Stg} {d : Dk} (D : PSi own w t p F st d) (ht : t ≠ 0) (Q : Pre own w F st d) (n : Int) :
    Calls Tryz.prog 15 #[P0 p, .int .i64 n] w fun e w' => ∃ ov own', e = .returned (.tuple #[ov, .int .i64 (tickC F st d n).2.2]) ∧ AX own own' w w' t p F st ((tickC F st d n).1, (tickC F st d n).2.1) ov ∧ ((tickC F st d n).2.1 = [] → ov = .slice none 0 0) := by
  obtain ⟨K, lv, h⟩ := D
  refine (tickN_any h.pd Q.ok Q.rest h.inv Q.stok n).mono ?_
  rintro e w' ⟨ov, rfl, ho, _, hn, R, f⟩
  obtain ⟨own', h1, h2, h3⟩ := h.step8 ht Q.lt R f (tick_inv h.inv Q.ok Q.stok n) ho
  exact ⟨ov, own', rfl, ⟨ho, h1, h2, h3⟩, hn⟩
theorem PSi.inv {own : Nat → Nat} {w : World} {t p : Nat} {F : Nat → Bool} {st : List Stg} {d : Dk} (D : PSi own w t p F st d) : InvD F d := by
  obtain ⟨K, lv, h⟩ := D
  exact h.inv
/-! moves, as they came in -/
abbrev Mv := Int × Int × Int
def mvCells (ms : List Mv) : List Value := ms.flatMap fun m => [.int .i64 m.1, .int .i64 m.2.1, .int .i64 m.2.2]
theorem mvCells_at (ms : List Mv) (i : Nat) (h : i < ms.length) (j : Nat) (hj : j < 3) : (mvCells ms)[i * 3 + j]? = ([.int .i64 ms[i].1, .int .i64 ms[i].2.1, .int .i64 ms[i].2.2] : List Value)[j]? := by
  unfold mvCells
  induction ms generalizing i with
  | nil => simp at h
  | cons x l ih =>
    rw [List.flatMap_cons]
    cases i with
    | zero => rw [List.getElem?_append_left (by simp; omega)]; simp
    | succ i =>
      rw [List.getElem?_append_right (by simp; omega), show (i + 1) * 3 + j - ([.int .i64 x.1, .int .i64 x.2.1, .int .i64 x.2.2] : List Value).length = i * 3 + j by simp; omega, ih i (by simpa using h)]
      rfl
structure MV (w : World) (v : Value) (ms : List Mv) : Prop where
  row : LR w 3 v ms.length (mvCells ms)
  rng : ∀ m ∈ ms, inR m.1 ∧ inR m.2.1 ∧ inR m.2.2
theorem MV.on {w u : World} {v : Value} {ms : List Mv} (h : MV w v ms) (hb : Below w.heap.size w u) : MV u v ms := ⟨h.row.on hb, h.rng⟩
theorem MV.at {w : World} {b off cap : Nat} {ms : List Mv} (h : MV w (.slice (some ⟨b, off, none⟩) ms.length cap) ms) (i : Nat) (hi : i < ms.length) : w.cell? ⟨b, off + i * 3, none⟩ = some (.int .i64 ms[i].1) ∧ w.cell? ⟨b, off + i * 3 + 1, none⟩ = some (.int .i64 ms[i].2.1) ∧ w.cell? ⟨b, off + i * 3 + 2, none⟩ = some (.int .i64 ms[i].2.2) := by
  have h0 := h.row.cell (i * 3) (.int .i64 ms[i].1) (mvCells_at ms i hi 0 (by omega))
  have h1 := h.row.cell (i * 3 + 1) (.int .i64 ms[i].2.1) (mvCells_at ms i hi 1 (by omega))
  have h2 := h.row.cell (i * 3 + 2) (.int .i64 ms[i].2.2) (mvCells_at ms i hi 2 (by omega))
  rw [← Nat.add_assoc] at h1 h2
  exact ⟨h0, h1, h2⟩
/-- memory beneath W stands; the owners' numbers lie above -/
structure KW (W w : World) (own : Nat → Nat) : Prop where
  low : Below W.heap.size W w
  lz : ∀ k, k < W.heap.size → own k = 0
  lt : ∀ k, own k ≠ 0 → k < w.heap.size
theorem KW.kept {W w w' : World} {own own' : Nat → Nat} {T : Nat → Prop} (h : KW W w own) (k : KeptS own own' T w w') (h0 : ¬ T 0) : KW W w' own' := by
  obtain ⟨a, b⟩ := k.low h0 h.low.size h.lz
  exact ⟨h.low.trans a, b, k.bound⟩
theorem KW.new (W : World) : KW W W (fun _ => 0) := ⟨Below.refl _ _, fun _ _ => rfl, fun _ h => absurd rfl h⟩
/-- a docket with its bounds -/
structure PK (own : Nat → Nat) (w : World) (t p : Nat) (F : Nat → Bool) (st : List Stg) (d : Dk) (N : Int) : Prop where
  psi : PSi own w t p F st d
  ok : DkOk F st d N
  rs : DkR st d
section
variable {own own' : Nat → Nat} {w w' : World} {t p : Nat} {F : Nat → Bool} {st : List Stg} {d : Dk} {N M : Int} {T : Nat → Prop}
theorem PK.kept (h : PK own w t p F st d N) (k : KeptS own own' T w w') (h0 : ¬ T 0) (h1 : ¬ T t) : PK own' w' t p F st d N := ⟨prgI.kept h.psi k h0 h1, h.ok, h.rs⟩
theorem PK.pre (h : PK own w t p F st d N) (hN : N ≤ 4611686018427387000) (hl : ∀ k, own k ≠ 0 → k < w.heap.size) (hs : StOk st) (h6 : st.length ≤ 6) : Pre own w F st d := ⟨hl, hs, h6, h.ok.mono hN, h.rs⟩
theorem PK.mono (h : PK own w t p F st d N) (hm : N ≤ M) : PK own w t p F st d M := ⟨h.psi, h.ok.mono hm, h.rs⟩
end
theorem stgP_ok (ps : List (List (Int × Int))) : StOk (stgP ps) ∧ (stgP ps).length ≤ 6 := by
  have h := check_stok (stgP_check (ps := ps)) (fun i hi => by have := (stgP_rm ps).nxt i hi; omega)
  exact ⟨h.1, h.2.2⟩
theorem BG.pk {own own' : Nat → Nat} {w w' : World} {t p c : Nat} {es : List Ent} {fs : List Int} {ps : List (List (Int × Int))} {sv : Value} {vs : Nat → Value × Value} (h : BG own own' w w' t p c es fs ps sv vs) : PK own' w' t p (FP es fs) (stgP ps) ⟨0, 0, 0, []⟩ 0 :=
  ⟨h.psi, (empty_ok (F := FP es fs) (st := stgP ps)).1, (empty_ok (F := FP es fs) (st := stgP ps)).2⟩
end Go.Proofs.YtcnmbldikjljeaaGreatDoor
namespace Go.Proofs.YtcnmbldikjljeaaGreatDoor
open Go.ChangeShapes Go.WideShapes Go.ChangeAt Go.RowKit

theorem flatMap_len {α : Type} (cells : α → List Value) (k : Nat) (hk : ∀ x, (cells x).length = k) (l : List α) : (l.flatMap cells).length = l.length * k := by
  induction l with
  | nil => simp
  | cons x l ih => rw [List.flatMap_cons, List.length_append, ih, hk, List.length_cons, Nat.add_one_mul]; omega
theorem flatMap_at {α : Type} (cells : α → List Value) (k : Nat) (hk : ∀ x, (cells x).length = k) (l : List α) (i : Nat) (h : i < l.length) (j : Nat) (hj : j < k) : (l.flatMap cells)[i * k + j]? = (cells l[i])[j]? := by
  induction l generalizing i with
  | nil => simp at h
  | cons x l ih =>
    rw [List.flatMap_cons]
    cases i with
    | zero => rw [List.getElem?_append_left (by rw [hk]; omega)]; simp
    | succ i =>
      rw [List.getElem?_append_right (by rw [hk, Nat.add_one_mul]; omega), hk, show (i + 1) * k + j - k = i * k + j by rw [Nat.add_one_mul]; omega, ih i (by simpa using h)]
      rfl
theorem weights_all {H : Type} {P : Program} {e : TypeId} {l : List (DataW H)} {d : DataW H} (h : d ∈ l) : ∀ n ∈ d.weights P e, n ∈ DataW.weightsAll P e l := by
  induction l with
  | nil => simp at h
  | cons x l ih =>
    intro n hn
    rw [DataW.weightsAll, List.mem_append]
    rcases List.mem_cons.1 h with rfl | h
    · exact .inl hn
    · exact .inr (ih h n hn)
section
variable {H : Type} {enc : TypeId × Value → H} {W : World}
/-- a list that came in, of whatever elements -/
theorem open_lst {α : Type} [Inhabited α] {t e : TypeId} {k : Nat} (Q : α → Prop) (cells : α → List Value) (hlen : ∀ x, (cells x).length = k) (h0 : 0 < k) (ht : Tryz.prog.underlying t = some (.slice e)) (hc : Tryz.prog.cellsOf e = k)
    (each : ∀ (cs : List Value) (fuel : Nat) (y : DataW H × List MemPlace), cs.length = k → DataW.trod enc Tryz.prog W 0 (fun _ => true) true fuel e cs = some y → (∀ n ∈ y.1.weights Tryz.prog e, n ≤ reachBytes) → ∃ x, cs = cells x ∧ Q x)
    {v : Value} {fuel : Nat} {x : DataW H × List MemPlace} (h : DataW.trod enc Tryz.prog W 0 (fun _ => true) true fuel t [v] = some x) (hw : ∀ n ∈ x.1.weights Tryz.prog t, n ≤ reachBytes) :
    ∃ l : List α, LR W k v l.length (l.flatMap cells) ∧ (∀ x ∈ l, Q x) ∧ l.length * Tryz.prog.bytesOf e ≤ reachBytes := by
  rcases Deep.open_slice ht h with ⟨hcs, _⟩ | ⟨x0, len, cap, m, n, D, Pl, hcs, _, hl, hm, hmm, hx, hel⟩
  · simp only [List.cons.injEq, and_true] at hcs
    subst hcs
    exact ⟨[], ⟨by simp, Nat.zero_le _, none, 0, rfl, fun _ => ⟨rfl, rfl⟩, fun j u hj => by simp at hj⟩, fun x hx => by simp at hx, by simp⟩
  · simp only [List.cons.injEq, and_true] at hcs
    subst hcs
    simp only [if_true] at hmm
    subst hmm
    rw [hx] at hw
    have hroom := hw ((((List.range len).map D).length + ((List.range (m - len)).map fun j => D (len + j)).length) * Tryz.prog.bytesOf e) (by simp [DataW.weights, ht])
    simp only [List.length_map, List.length_range] at hroom
    rw [hc] at hel
    have hE : ∀ i, i < len → ∃ o : α, Q o ∧ ∀ j, j < k → W.cell? ((x0.add (i * k)).add j) = (cells o)[j]? := by
      intro i hi
      obtain ⟨cs', h1, h2⟩ := hel i (by omega)
      obtain ⟨_, hle, hcell⟩ := World.cells?_some h1
      obtain ⟨o, rfl, ho⟩ := each _ _ _ hle h2 (fun q hq => hw q (by
        simp only [DataW.weights, ht, List.mem_cons, List.mem_append]
        exact .inr (.inl (weights_all (List.mem_map.2 ⟨i, List.mem_range.2 hi, rfl⟩) q hq))))
      exact ⟨o, ho, hcell⟩
    obtain ⟨en, hen⟩ := Deep.choose_lt (α := α) hE
    refine ⟨(List.range len).map en, ⟨by rw [flatMap_len cells k hlen], by simp; omega, some x0, m, by simp, fun e => (by cases e), fun j u hu => ?_⟩, fun o ho => ?_, ?_⟩
    · have hlt : j < ((List.range len).map en).length * k := by rw [← flatMap_len cells k hlen]; exact (List.getElem?_eq_some_iff.1 hu).1
      simp only [List.length_map, List.length_range] at hlt
      have hi : j / k < len := Nat.div_lt_of_lt_mul (by rw [Nat.mul_comm]; exact hlt)
      have hjk : j % k < k := Nat.mod_lt _ h0
      have hj : j = j / k * k + j % k := by have := Nat.div_add_mod j k; rw [Nat.mul_comm] at this; omega
      have hat := flatMap_at cells k hlen ((List.range len).map en) (j / k) (by simpa using hi) (j % k) hjk
      rw [← hj, hu] at hat
      simp only [List.getElem_map, List.getElem_range] at hat
      have hc' := (hen (j / k) hi).2 (j % k) hjk
      rw [← hat] at hc'
      obtain ⟨b, off, spot⟩ := x0
      have hspot : spot = none := by
        have h00 := (hen 0 (Nat.lt_of_le_of_lt (Nat.zero_le _) hi)).2 0 h0
        have hz : 0 < (cells (en 0)).length := by rw [hlen]; exact h0
        rw [List.getElem?_eq_getElem hz] at h00
        have := World.cell?_spot h00
        simpa [Addr.add] using this
      subst hspot
      rw [add_plain, add_plain] at hc'
      have e : off + j = off + j / k * k + j % k := by omega
      rw [← e] at hc'
      exact ⟨b, off, rfl, hc'⟩
    · simp only [List.mem_map, List.mem_range] at ho
      obtain ⟨i, hi, rfl⟩ := ho
      exact (hen i hi).1
    · simp only [List.length_map, List.length_range]
      exact Nat.le_trans (Nat.mul_le_mul_right _ (by omega)) hroom
theorem intCells_flat (l : List Int) : intCells l = l.flatMap fun x => [.int .i64 x] := by
  induction l with
  | nil => rfl
  | cons a l ih => rw [List.flatMap_cons, ← ih]; rfl
theorem list2 {α : Type} {l : List α} (h : l.length = 2) : ∃ a b, l = [a, b] := by
  match l, h with
  | [a, b], _ => exact ⟨a, b, rfl⟩
end
end Go.Proofs.YtcnmbldikjljeaaGreatDoor
namespace Go.Proofs.YtcnmbldikjljeaaGreatDoor
open Go.ChangeShapes Go.WideShapes Go.ChangeAt Go.RowKit

theorem cells2 : Tryz.prog.cellsOf 163 = 2 := by kernel_rfl
theorem cellsLL : Tryz.prog.cellsOf 162 = 1 := by kernel_rfl
theorem cellsPlan : Tryz.prog.cellsOf 31 = 1 := by kernel_rfl
theorem cellsLLL : Tryz.prog.cellsOf 29 = 1 := by kernel_rfl
theorem cellsMove : Tryz.prog.cellsOf 41 = 3 := by kernel_rfl
theorem list3 {α : Type} {l : List α} (h : l.length = 3) : ∃ a b c, l = [a, b, c] := by
  match l, h with
  | [a, b, c], _ => exact ⟨a, b, c, rfl⟩
section
variable {H : Type} {enc : TypeId × Value → H} {W : World}
/-- numbers that came in -/
theorem open_nums {v : Value} {fuel : Nat} {x : DataW H × List MemPlace} (h : DataW.trod enc Tryz.prog W 0 (fun _ => true) true fuel 24 [v] = some x) (hw : ∀ n ∈ x.1.weights Tryz.prog 24, n ≤ reachBytes) :
    ∃ l : List Int, LR W 1 v l.length (intCells l) ∧ ∀ x ∈ l, inR x := by
  obtain ⟨l, h1, hq, _⟩ := open_lst (α := Int) (fun x => inR x) (fun x => [.int .i64 x]) (fun _ => rfl) (by decide) Tryz.underlying24 cellsInt (fun cs fuel y hl hy _ => by
    match cs, hl with
    | [u], _ =>
      obtain ⟨k0, e0, _, w0⟩ := DataW.trod_int Tryz.underlying3 hy
      exact ⟨k0, e0, bounds_i64 w0⟩) h hw
  refine ⟨l, ?_, hq⟩
  rw [intCells_flat]; exact h1
theorem open_pairs {v : Value} {fuel : Nat} {x : DataW H × List MemPlace} (h : DataW.trod enc Tryz.prog W 0 (fun _ => true) true fuel 162 [v] = some x) (hw : ∀ n ∈ x.1.weights Tryz.prog 162, n ≤ reachBytes) :
    ∃ l : List (Int × Int), LR W 2 v l.length (flat l) ∧ ∀ x ∈ l, inR x.1 ∧ inR x.2 := by
  obtain ⟨l, h1, hq, _⟩ := open_lst (α := Int × Int) (fun x => inR x.1 ∧ inR x.2) (fun p => [.int .i64 p.1, .int .i64 p.2]) (fun _ => rfl) (by decide) Tryz.underlying162 cells2 (fun cs fuel y hl hy _ => by
    obtain ⟨u0, u1, rfl⟩ := list2 hl
    obtain ⟨ys, k, _, _, _, hn, hz⟩ := DataW.trod_array Tryz.underlying163 hy
    obtain ⟨z0, z1, rfl⟩ := list2 hn
    rw [cellsInt] at hz
    have y0 := hz 0 (by omega)
    have y1 := hz 1 (by omega)
    simp at y0 y1
    obtain ⟨k0, e0, _, w0⟩ := DataW.trod_int Tryz.underlying3 y0
    obtain ⟨k1, e1, _, w1⟩ := DataW.trod_int Tryz.underlying3 y1
    simp only [List.cons.injEq, and_true] at e0 e1
    subst e0 e1
    exact ⟨(k0, k1), rfl, bounds_i64 w0, bounds_i64 w1⟩) h hw
  exact ⟨l, h1, hq⟩
/-- moves that came in -/
theorem open_moves {v : Value} {fuel : Nat} {x : DataW H × List MemPlace} (h : DataW.trod enc Tryz.prog W 0 (fun _ => true) true fuel 32 [v] = some x) (hw : ∀ n ∈ x.1.weights Tryz.prog 32, n ≤ reachBytes) :
    ∃ ms : List Mv, MV W v ms := by
  obtain ⟨l, h1, hq, _⟩ := open_lst (α := Mv) (fun m => inR m.1 ∧ inR m.2.1 ∧ inR m.2.2) (fun m => [.int .i64 m.1, .int .i64 m.2.1, .int .i64 m.2.2]) (fun _ => rfl) (by decide) Tryz.underlying32 cellsMove (fun cs fuel y hl hy _ => by
    obtain ⟨u0, u1, u2, rfl⟩ := list3 hl
    obtain ⟨ys, k, _, _, _, hn, hz⟩ := DataW.trod_struct Tryz.underlying41 hy
    obtain ⟨z0, z1, z2, rfl⟩ := list3 hn
    have y0 : DataW.trod enc Tryz.prog W 0 (fun _ => true) true k 3 (([u0, u1, u2].drop 0).take (Tryz.prog.cellsOf 3)) = some z0 := hz 0 _ rfl
    have y1 : DataW.trod enc Tryz.prog W 0 (fun _ => true) true k 3 (([u0, u1, u2].drop 1).take (Tryz.prog.cellsOf 3)) = some z1 := hz 1 _ rfl
    have y2 : DataW.trod enc Tryz.prog W 0 (fun _ => true) true k 3 (([u0, u1, u2].drop 2).take (Tryz.prog.cellsOf 3)) = some z2 := hz 2 _ rfl
    rw [cellsInt] at y0 y1 y2
    obtain ⟨k0, e0, _, w0⟩ := DataW.trod_int Tryz.underlying3 y0
    obtain ⟨k1, e1, _, w1⟩ := DataW.trod_int Tryz.underlying3 y1
    obtain ⟨k2, e2, _, w2⟩ := DataW.trod_int Tryz.underlying3 y2
    simp only [List.drop_zero, List.drop_succ_cons, List.take_succ_cons, List.take_zero, List.cons.injEq, and_true] at e0 e1 e2
    subst e0 e1 e2
    exact ⟨(k0, k1, k2), rfl, bounds_i64 w0, bounds_i64 w1, bounds_i64 w2⟩) h hw
  exact ⟨l, h1, hq⟩
theorem flatMap_single (l : List (Value × List (Int × Int))) (d : Value × List (Int × Int)) : (l.flatMap fun x => [x.1]) = (List.range l.length).map fun i => (l.getD i d).1 := by
  apply List.ext_getElem?
  intro j
  by_cases hj : j < l.length
  · have := flatMap_at (fun x : Value × List (Int × Int) => [x.1]) 1 (fun _ => rfl) l j hj 0 (by omega)
    rw [Nat.mul_one, Nat.add_zero] at this
    rw [this]
    simp [hj]
  · rw [List.getElem?_eq_none (by rw [flatMap_len _ 1 (fun _ => rfl)]; omega), List.getElem?_eq_none (by simp; omega)]
theorem open_plan1 {v : Value} {fuel : Nat} {x : DataW H × List MemPlace} (h : DataW.trod enc Tryz.prog W 0 (fun _ => true) true fuel 29 [v] = some x) (hw : ∀ n ∈ x.1.weights Tryz.prog 29, n ≤ reachBytes) :
    ∃ ps lv, PL W v ps lv := by
  have _ : Inhabited (Value × List (Int × Int)) := ⟨(.slice none 0 0, [])⟩
  obtain ⟨l, h1, hq, _⟩ := open_lst (α := Value × List (Int × Int)) (fun x => LR W 2 x.1 x.2.length (flat x.2) ∧ ∀ y ∈ x.2, inR y.1 ∧ inR y.2) (fun x => [x.1]) (fun _ => rfl) (by decide) Tryz.underlying29 cellsLL (fun cs fuel y hl hy hyw => by
    match cs, hl with
    | [u], _ =>
      obtain ⟨L, l1, l2⟩ := open_pairs hy hyw
      exact ⟨(u, L), rfl, l1, l2⟩) h hw
  have hpl : ∀ i, i < l.length → plAt (l.map (·.2)) i = (l.getD i default).2 := fun i hi => by unfold plAt; simp [hi]
  have hmem : ∀ i, i < l.length → l.getD i default ∈ l := fun i hi => by simp [hi]
  refine ⟨l.map (·.2), fun i => (l.getD i default).1, ⟨?_, fun i hi => ?_, fun i hi => ?_⟩⟩
  · rw [List.length_map, ← flatMap_single]; exact h1
  · rw [List.length_map] at hi
    rw [hpl i hi]; exact (hq _ (hmem i hi)).1
  · rw [List.length_map] at hi
    rw [hpl i hi]; exact (hq _ (hmem i hi)).2
set_option maxRecDepth 100000 in
/-- a Plan that came in -/
theorem open_plan {v : Value} {d : DataW H} {p : List MemPlace} {r : Reach} {b0 : Nat} (hv : Value.okWide Tryz.prog W r b0 31 v) (h : DataW.Trod enc Tryz.prog W 0 (fun _ => true) true 31 v d p) (hw : ∀ n ∈ d.weights Tryz.prog 31, n ≤ reachBytes) :
    ∃ pv ps lv, v = .agg #[pv] ∧ PL W pv ps lv := by
  obtain ⟨cs, rfl, hsz⟩ := okWide_struct Tryz.underlying31 hv
  obtain ⟨c0, rfl⟩ : ∃ c0, cs = #[c0] := by
    have h1 : cs.size = 1 := hsz.trans cellsPlan
    obtain ⟨l⟩ := cs
    match l, h1 with
    | [c0], _ => exact ⟨c0, rfl⟩
  obtain ⟨fuel, hf⟩ := h
  obtain ⟨ys, k, _, hy1, _, hn, hz⟩ := DataW.trod_struct Tryz.underlying31 hf
  obtain ⟨z0, rfl⟩ : ∃ z0, ys = [z0] := by
    match ys, hn with
    | [z0], _ => exact ⟨z0, rfl⟩
  have y0 : DataW.trod enc Tryz.prog W 0 (fun _ => true) true k 29 (([c0].drop 0).take (Tryz.prog.cellsOf 29)) = some z0 := hz 0 _ rfl
  rw [cellsLLL] at y0
  simp only [Prod.mk.injEq] at hy1
  rw [hy1.1] at hw
  obtain ⟨ps, lv, hP⟩ := open_plan1 (show DataW.trod enc Tryz.prog W 0 (fun _ => true) true k 29 [c0] = some z0 from y0) (fun n hn => hw n (by
    simp only [DataW.weights, Tryz.underlying31]
    exact DataW.weights_mem_each (j := 0) (t := 29) (d := z0.1) rfl rfl n hn))
  exact ⟨c0, ps, lv, rfl, hP⟩
end
end Go.Proofs.YtcnmbldikjljeaaGreatDoor
