import Derived.Test.YtcnmbldikjljeaaGreatDoorJ13
import Derived.Test.YtcnmbldikjljeaaGreatDoorJ14
import Derived.Test.YtcnmbldikjljeaaGreatDoorJ09
import Derived.Deep.RegionLaw
import Derived.Deep.Cut
namespace Go.Proofs.YtcnmbldikjljeaaGreatDoor
open Go.RowKit

theorem plain_bd (c : Int) (h0 : 0 ≤ c) (_h1 : c ≤ 255) : 0 ≤ plain c ∧ plain c ≤ 127 := by unfold plain; split <;> omega
theorem crun_vals (s : ByteArray) : ∀ (f pos : Nat), ∀ x ∈ crun s f pos, 0 ≤ x ∧ x ≤ 127 := by
  intro f
  induction f with
  | zero => intro pos x hx; simp [crun] at hx
  | succ f ih =>
    intro pos x hx
    simp only [crun] at hx
    split at hx
    · rename_i h
      rcases List.mem_cons.1 hx with rfl | hx
      · exact plain_bd _ (by omega) (by have := (s[pos]'h).toNat_lt; omega)
      · exact ih _ x hx
    · simp at hx
theorem crun_len (s : ByteArray) : ∀ (f pos : Nat), (crun s f pos).length ≤ f := by
  intro f
  induction f with
  | zero => intro pos; simp [crun]
  | succ f ih => intro pos; simp only [crun]; split <;> simp [ih]
theorem row_of_own {w : World} {B b : Nat} {v : Value} {L : List Int} (h : w.ownsRow B 5 1 v L.length (u8s L)) (hb : b < B ∨ w.heap.size ≤ b) (hl : L.length ≤ 1000) (hv : ∀ x ∈ L, 0 ≤ x ∧ x ≤ 127) : Row w b v L := by
  refine ⟨hl, hv, ?_⟩
  rcases h.2 with ⟨e, h0⟩ | ⟨g, cap, cur, rfl, hB, hg, _⟩
  · exact .inl ⟨e, List.eq_nil_of_length_eq_zero h0⟩
  · have hg2 : g < w.heap.size := (Array.getElem?_eq_some_iff.1 hg).1
    refine .inr ⟨g, cap, rfl, by omega, hg2, fun i x hx => ?_⟩
    have hi : i < L.length := (List.getElem?_eq_some_iff.1 hx).1
    rw [h.cellAt i (by omega)]
    simp [u8s, hx]
theorem But2.below {b g B : Nat} {w w' : World} (h : But2 b g w w') (hb : B ≤ b) (hg : B ≤ g) (hB : B ≤ w.heap.size) : Below B w w' :=
  ⟨h.os, h.tape, h.output, h.size, fun k hk => h.block k (by omega) (by omega) (by omega)⟩
theorem But.below {b B : Nat} {w w' : World} (h : But b w w') (hb : B ≤ b) (hB : B ≤ w.heap.size) : Below B w w' :=
  ⟨h.os, h.tape, h.output, h.size, fun k hk => h.block k (by omega) (by simp; omega)⟩
theorem Row.on2 {b g : Nat} {w w' : World} {vL : Value} {L : List Int} (h : Row w b vL L) (hb : But2 b g w w') (hn : ∀ k, vL.ownBlock = some k → k ≠ g) : Row w' b vL L := by
  refine ⟨h.len, h.vals, ?_⟩
  rcases h.row with a | ⟨q, cap, h1, h2, h3, h4⟩
  · exact .inl a
  · have hg := hn q (by rw [h1]; rfl)
    exact .inr ⟨q, cap, h1, h2, Nat.lt_of_lt_of_le h3 hb.size, fun i x hx => (World.cell?_of_block (hb.block q h3 h2 hg)).trans (h4 i x hx)⟩

def entriesF (L : List Int) : Nat → Sg × (Nat → Bool) → Sg × (Nat → Bool)
  | 0, x => x
  | f + 1, x => if lookF L x.1 = 59 then entriesF L f (entryF L (x.1.1 + 1, x.1.2) x.2) else x
def setO (off : Nat → Bool) (n : Int) : Nat → Bool := fun j => off j || decide (j = n.toNat)
def numbersF (L : List Int) : Nat → Sg → Int → (Nat → Bool) → Sg × (Nat → Bool)
  | 0, s, _, off => (s, off)
  | f + 1, s, last, off =>
    let r := numberF L (s.1 + 1, s.2) last
    let off' := if r.2.2 < 0 then setO off r.1 else off
    if lookF L r.2 = 44 then numbersF L f r.2 r.1 off' else (r.2, off')
/-- the document's reading: where it ends, where it is told, the week, the days off -/
def refF (L : List Int) : Sg × (Nat → Bool) × (Nat → Bool) :=
  let e := entriesF L (L.length + 1) (entryF L (0, -1) (fun _ => false))
  let n := if lookF L e.1 = 33 then numbersF L (L.length + 1) e.1 (-1) (fun _ => false) else (e.1, fun _ => false)
  (if n.1.1 < L.length then badF n.1 n.1.1 else n.1, e.2, n.2)
theorem spansF_I (L : List Int) (l : List Int) : ∀ (f : Nat) (s : Sg) (wk : Nat → Bool), 0 ≤ s.1 → s.1 ≤ L.length → s.1 ≤ (spansF L l f s wk).1.1 ∧ (spansF L l f s wk).1.1 ≤ L.length := by
  intro f
  induction f with
  | zero => intro s wk _ h; simp only [spansF]; omega
  | succ f ih =>
    intro s wk h0 h
    simp only [spansF]
    split
    · have hs : s.1 ≤ (spanF L s).2.2.1 ∧ (spanF L s).2.2.1 ≤ L.length := by
        unfold spanF; simp only
        have a1 := timeF_le L s h
        have a2 := timeF_ge L s
        generalize timeF L s = a at *
        have b1 := takeF_le L a.2 45 45 a1
        have b2 := takeF_I L a.2 45 45
        generalize takeF L a.2 45 45 = d at *
        have c1 := timeF_le L d.2 b1
        have c2 := timeF_ge L d.2
        generalize timeF L d.2 = e at *
        split
        · rw [badF_I]; omega
        · omega
      split
      · rename_i h32
        have := (lookF_in (L := L) (s := (spanF L s).2.2) (by omega)).2
        have := ih ((spanF L s).2.2.1 + 1, (spanF L s).2.2.2) (markF wk l (spanF L s).1 (spanF L s).2.1) (by simp; omega) (by simp; omega)
        simp only at this
        omega
      · exact hs
    · simp; exact h
theorem daysF_I (L : List Int) : ∀ (f : Nat) (s : Sg) (l : List Int), 0 ≤ s.1 → s.1 ≤ L.length → s.1 ≤ (daysF L f s l).2.1 ∧ (daysF L f s l).2.1 ≤ L.length := by
  intro f
  induction f with
  | zero => intro s l _ h; simp only [daysF]; omega
  | succ f ih =>
    intro s l h0 h
    simp only [daysF]
    split
    · rename_i h44
      have h1 := (lookF_in (L := L) (s := s) (by omega)).2
      have h2 := weekdayF_I L (s.1 + 1, s.2) (by simp; omega)
      simp only at h2
      have := ih (weekdayF L (s.1 + 1, s.2)).2 (l ++ [(weekdayF L (s.1 + 1, s.2)).1]) (by omega) (by omega)
      omega
    · simp; exact h
theorem entryF_I (L : List Int) (s : Sg) (wk : Nat → Bool) (h0 : 0 ≤ s.1) (h : s.1 ≤ L.length) : s.1 ≤ (entryF L s wk).1.1 ∧ (entryF L s wk).1.1 ≤ L.length := by
  unfold entryF; simp only
  have a := weekdayF_I L s h
  generalize weekdayF L s = d at *
  have b := daysF_I L (L.length + 1) d.2 [d.1] (by omega) (by omega)
  generalize daysF L (L.length + 1) d.2 [d.1] = e at *
  have c1 := takeF_I L e.2 32 32
  have c2 := takeF_le L e.2 32 32 (by omega)
  generalize takeF L e.2 32 32 = t at *
  have := spansF_I L e.1 (L.length + 1) t.2 wk (by omega) (by omega)
  omega
theorem numberF_I (L : List Int) (s : Sg) (last : Int) (h : s.1 ≤ L.length) : s.1 ≤ (numberF L s last).2.1 ∧ (numberF L s last).2.1 ≤ L.length := by
  unfold numberF; simp only
  have a1 := takeF_I L s 48 57
  have a2 := takeF_le L s 48 57 h
  generalize takeF L s 48 57 = a at *
  cases hb : isTwo (lookF L a.2)
  · simp only [Bool.false_eq_true, if_false]
    split
    · rw [badF_I]; omega
    · simp only; omega
  · have h2 : lookF L a.2 ≠ 0 := by
      intro e; rw [e] at hb; simp [isTwo] at hb
    have := (lookF_in h2).2
    simp only [if_true]
    split
    · rw [badF_I]; simp only; omega
    · simp only; omega
/-- the rest of the reading, behind the entries -/
def fin (L : List Int) (e : Sg × (Nat → Bool)) : Sg × (Nat → Bool) × (Nat → Bool) :=
  let n := if lookF L e.1 = 33 then numbersF L (L.length + 1) e.1 (-1) (fun _ => false) else (e.1, fun _ => false)
  (if n.1.1 < L.length then badF n.1 n.1.1 else n.1, e.2, n.2)
theorem refF_fin (L : List Int) : refF L = fin L (entriesF L (L.length + 1) (entryF L (0, -1) (fun _ => false))) := rfl
def fin2 (L : List Int) (wk : Nat → Bool) (n : Sg × (Nat → Bool)) : Sg × (Nat → Bool) × (Nat → Bool) := (if n.1.1 < L.length then badF n.1 n.1.1 else n.1, wk, n.2)
theorem fin_no {L : List Int} {I P : Int} {wk : Nat → Bool} (h : ¬ lookF L (I, P) = 33) : fin L ((I, P), wk) = fin2 L wk ((I, P), fun _ => false) := by
  unfold fin fin2; simp only; rw [if_neg h]
theorem fin_yes {L : List Int} {I P : Int} {wk : Nat → Bool} (h : lookF L (I, P) = 33) : fin L ((I, P), wk) = fin2 L wk (numbersF L (L.length + 1) (I, P) (-1) (fun _ => false)) := by
  unfold fin fin2; simp only; rw [if_pos h]
theorem badF_lt {s : Sg} {p : Int} (hp : 0 ≤ p) : ¬ (badF s p).2 < 0 := by unfold badF; split <;> simp <;> omega
theorem badF_told {s : Sg} {p : Int} (h : ¬ s.2 < 0) : badF s p = s := by unfold badF; rw [if_neg h]
theorem numberF_ok (L : List Int) (s : Sg) (last : Int) (h0 : 0 ≤ s.1) (h : (numberF L s last).2.2 < 0) : 0 ≤ (numberF L s last).1 ∧ (numberF L s last).1 < 70 := by
  unfold numberF at h ⊢; simp only at h ⊢
  have a0 := takeF_lo L s 48 57
  have a1 := takeF_I L s 48 57
  generalize hta : takeF L s 48 57 = a at *
  cases hb : isTwo (lookF L a.2)
  · rw [hb] at h
    simp only [Bool.false_eq_true, if_false] at h ⊢
    cases hn : numBad (a.1 - 48) last a.1 false
    · simp only [Bool.false_eq_true, if_false]
      simp [numBad] at hn; omega
    · rw [hn] at h
      simp only [if_true] at h
      exfalso
      by_cases hp : 0 ≤ a.2.1 - 1
      · exact badF_lt hp h
      · -- nothing was taken: told already
        have e : a = (48, badF s s.1) := by
          rw [← hta]; unfold takeF; split
          · rfl
          · rename_i g; rw [← hta] at hp; unfold takeF at hp; rw [if_neg g] at hp; simp at hp; omega
        rw [e] at h
        have h2 : ¬ (badF s s.1).2 < 0 := badF_lt h0
        simp only at h
        rw [badF_told h2] at h
        exact h2 h
  · rw [hb] at h
    simp only [if_true] at h ⊢
    have hb2 : 48 ≤ lookF L a.2 := by simp [isTwo] at hb; omega
    cases hn : numBad (10 * (a.1 - 48) + (lookF L a.2 - 48)) last a.1 true
    · simp only [Bool.false_eq_true, if_false]
      simp [numBad] at hn; omega
    · rw [hn] at h
      simp only [if_true] at h
      exfalso
      exact badF_lt (s := (a.2.1 + 1, a.2.2)) (p := a.2.1) (by omega) h
theorem numberF_bd (L : List Int) (s : Sg) (last : Int) : 0 ≤ (numberF L s last).1 ∧ (numberF L s last).1 ≤ 99 := by
  unfold numberF; simp only
  have a0 := takeF_lo L s 48 57
  have a1 := takeF_hi L s 48 57 (by omega)
  generalize takeF L s 48 57 = a at *
  cases hb : isTwo (lookF L a.2)
  · simp only [Bool.false_eq_true, if_false]
    split <;> simp only <;> omega
  · have hb2 : 48 ≤ lookF L a.2 ∧ lookF L a.2 ≤ 57 := by simp [isTwo] at hb; omega
    simp only [if_true]
    split <;> simp only <;> omega
/-- the numbers' loop, with the word that there are more -/
def numsF (L : List Int) (f : Nat) (s : Sg) (last : Int) (off : Nat → Bool) (more : Bool) : Sg × (Nat → Bool) := if more then numbersF L f s last off else (s, off)
theorem nums_go (L : List Int) (f : Nat) (s : Sg) (last : Int) (off : Nat → Bool) : numbersF L (f + 1) s last off =
    numsF L f (numberF L (s.1 + 1, s.2) last).2 (numberF L (s.1 + 1, s.2) last).1 (if (numberF L (s.1 + 1, s.2) last).2.2 < 0 then setO off (numberF L (s.1 + 1, s.2) last).1 else off) (lookF L (numberF L (s.1 + 1, s.2) last).2 == 44) := by
  simp only [numbersF, numsF]
  by_cases h : lookF L (numberF L (s.1 + 1, s.2) last).2 = 44
  · simp [h]
  · simp [h]

def isOpen (wk off : Nat → Bool) (j : Nat) : Bool := wk (j % 10080) && !off (j / 1440)
def cnts (F : Nat → Bool) (k : Nat) : List Value := (List.range k).map fun j => .int .i64 (cnt F j)
theorem cnts_succ (F : Nat → Bool) (k : Nat) : cnts F (k + 1) = cnts F k ++ [.int .i64 (cnt F k)] := by simp [cnts, List.range_succ]
/-- the document's calendar in memory -/
structure RC (w : World) (cb : Nat) (F : Nat → Bool) : Prop where
  lt : cb < w.heap.size
  row : ∃ h cap, w.cell? ⟨cb, 0, none⟩ = some (.slice (some ⟨h, 0, none⟩) 100801 cap) ∧ cb < h ∧ h < w.heap.size ∧ ∀ j, j < 100801 → w.cell? ⟨h, j, none⟩ = some (.int .i64 (cnt F j))
theorem RC.on {w w' : World} {cb : Nat} {F : Nat → Bool} (h : RC w cb F) (hb : Below w.heap.size w w') : RC w' cb F := by
  obtain ⟨q, cap, h1, h0, h2, h3⟩ := h.row
  exact ⟨Nat.lt_of_lt_of_le h.lt hb.size, q, cap, (hb.cell (p := ⟨cb, 0, none⟩) h.lt).trans h1, h0, Nat.lt_of_lt_of_le h2 hb.size, fun j hj => (hb.cell (p := ⟨q, j, none⟩) h2).trans (h3 j hj)⟩
/-- what the document's Parse answers, and leaves -/
def RPost (L : List Int) (w : World) (e : Ending) (w' : World) : Prop :=
  Below w.heap.size w w' ∧
  ((0 ≤ (refF L).1.2 ∧ e = .returned (.tuple #[.pointer none, .int .i64 (refF L).1.2])) ∨
   (¬ 0 ≤ (refF L).1.2 ∧ ∃ cb, w.heap.size ≤ cb ∧ e = .returned (.tuple #[.pointer (some ⟨cb, 0, none⟩), .int .i64 0]) ∧ RC w' cb (isOpen (refF L).2.1 (refF L).2.2)))
end Go.Proofs.YtcnmbldikjljeaaGreatDoor
namespace Go.Proofs.YtcnmbldikjljeaaGreatDoor
open Go.RowKit
def lastLoop : Code → Option Code
  | .loop c => some c
  | .seq a b => match lastLoop b with
    | some c => some c
    | none => lastLoop a
  | .block _ c => lastLoop c
  | .scope c => lastLoop c
  | .cond _ a b => match lastLoop b with
    | some c => some c
    | none => lastLoop a
  | _ => none
/-- a great number, behind a name -/
def big : Nat := 100800
/-- memory, while the list of counts grows -/
structure AW (w : World) (cb : Nat) (wz : World) (wk off : Nat → Bool) (g o k : Nat) (v : Value) : Prop where
  cv : wz.cell? ⟨cb, 0, none⟩ = some v
  fv : wz.frozen? ⟨cb, 0, none⟩ = false
  zv : cb < wz.heap.size
  own : wz.ownsRow (cb + 1) 3 1 v k (cnts (isOpen wk off) k)
  K : BC wz g 10080 wk
  O : BC wz o 70 off
  below : Below w.heap.size w wz
theorem wk_at {x : Int} {wz : World} {g : Nat} {wk : Nat → Bool} (K : BC wz g 10080 wk) (k : Nat) (hk : x = (k : Int)) (y : Bool) (hx : wk (k % 10080) = y) : wz.cell? ⟨g, (x % 10080).toNat, none⟩ = some (.bool y) := by
  have e : (x % 10080).toNat = k % 10080 := by omega
  rw [e, K.cell _ (by omega), hx]
theorem off_at {x : Int} {wz : World} {g : Nat} {off : Nat → Bool} (K : BC wz g 70 off) (k : Nat) (hk : x = (k : Int)) (hk2 : x < 100800) (y : Bool) (hx : off (k / 1440) = y) : wz.cell? ⟨g, (x / 1440).toNat, none⟩ = some (.bool y) := by
  have e : (x / 1440).toNat = k / 1440 := by omega
  rw [e, K.cell _ (by omega), hx]
/-- the append through the pointer, and the store behind it -/
theorem AW.go {w wr w10 : World} {cb g o k gg cap : Nat} {wk off : Nat → Bool} {v : Value} (A : AW w cb wr wk off g o k v) (hg : g < cb) (ho : o < cb) (hw : w.heap.size ≤ cb) (x : Value) (hx : x = .int .i64 (cnt (isOpen wk off) k))
    (hown : w10.ownsRow (cb + 1) 3 1 (.slice (some ⟨gg, 0, none⟩) (k + 1) cap) (k + 1) (cnts (isOpen wk off) k ++ [x])) (hgrow : (wr.alloc (.cells #[x] 3)).grownBy w10 v.ownBlock) :
    w10.cell? ⟨cb, 0, none⟩ = some v ∧ w10.frozen? ⟨cb, 0, none⟩ = false ∧ AW w cb (w10.setCell ⟨cb, 0, none⟩ (.slice (some ⟨gg, 0, none⟩) (k + 1) cap)) wk off g o (k + 1) (.slice (some ⟨gg, 0, none⟩) (k + 1) cap) := by
  have hne : ∀ q, q ≤ cb → some q ≠ v.ownBlock := fun q hq e => by have := (A.own.lt q e.symm).1; omega
  have hzv := A.zv
  have hc10 := (hgrow.cell_far ⟨cb, 0, none⟩ (by simp; omega) (hne cb (Nat.le_refl _))).trans ((World.cell?_alloc_past _ _ _ A.zv).trans A.cv)
  have hf10 := (hgrow.frozen_far ⟨cb, 0, none⟩ (by simp; omega) (hne cb (Nat.le_refl _))).trans ((World.frozen?_alloc_past _ _ _ A.zv).trans A.fv)
  have hgA := World.grownBy_alloc wr (Obj.cells #[x] 3) v.ownBlock
  have K10 := (A.K.grown hgA (hne g (by omega))).grown hgrow (hne g (by omega))
  have O10 := (A.O.grown hgA (hne o (by omega))).grown hgrow (hne o (by omega))
  have bW9 := A.below
  have bW10 : Below w.heap.size w w10 := (bW9.alloc bW9.size _).grown hgrow (by have := bW9.size; simp; omega) (fun q hq => by have := (A.own.lt q hq).1; omega)
  have bs : But cb w10 (w10.setCell ⟨cb, 0, none⟩ (.slice (some ⟨gg, 0, none⟩) (k + 1) cap)) := But.set _ _ _ _
  refine ⟨hc10, hf10, sc_eq hc10, by rw [World.frozen?_setCell]; exact hf10, ?_, ?_, K10.on bs (by omega), O10.on bs (by omega), bW10.setCell (p := ⟨cb, 0, none⟩) hw _⟩
  · have := hgrow.size; simp at this ⊢; omega
  · rw [cnts_succ, ← hx]; exact ownsRow_setCell_below hown (a := ⟨cb, 0, none⟩) (by simp) _
theorem cnts_at (F : Nat → Bool) (k j : Nat) (h : j < k) : (cnts F k)[j]? = some (.int .i64 (cnt F j)) := by simp [cnts, h]
theorem AW.rc {w wz : World} {cb g o k gg cap : Nat} {wk off : Nat → Bool} (A : AW w cb wz wk off g o k (.slice (some ⟨gg, 0, none⟩) k cap)) (hk : k = 100801) : RC wz cb (isOpen wk off) := by
  have hlt := (A.own.lt gg rfl).2
  refine ⟨A.zv, gg, cap, by rw [← hk]; exact A.cv, (A.own.lt gg rfl).1, hlt, fun j hj => ?_⟩
  have := A.own.cellAt j (by omega)
  rw [this]
  have := cnts_at (isOpen wk off) k j (by omega)
  simpa using this
set_option maxRecDepth 1000000 in
set_option maxHeartbeats 4000000 in
theorem ahead_loop (w w0 : World) (cb g o : Nat) (wk off : Nat → Bool) (hg : g < cb) (ho : o < cb) (hw : w.heap.size ≤ cb) (v0 : Value) (A0 : AW w cb w0 wk off g o 0 v0) (Q0 : Exit → Act → World → Prop)
    {c0 c1 c2 c3 c4 c7 c8 c12 c13 c14 c15 c16 c17 c18 c19 c20 c21 c22 c23 c24 c25 c26 c27 c28 c29 c30 c31 c32 c33 c34 c35 c36 c37 c38 c39 c40 c41 c42 c43 c44 c45 c46 c47 c48 c49 c50 c51 c52 c53 c54 c55 c56 c57 c58 c59 c60 c61 c62 c63 c64 c65 c66 c67 c68 c69 c70 c71 c72 c73 c74 c75 c76 c77 c78 c79 c80 c81 c82 c83 c84 c85 c86 c87 c88 c89 c90 c91 c92 c93 c94 c95 c96 c97 c98 c99 c100 c101 c102 c103 c104 c105 c106 c107 c108 c109 c110 c111 c112 c113 c114 c115 c116 c117 c118 c119 c120 c121 c122 c123 c124 c125 c126 c127 c128 c129 c130 c131 c132 c133 c134 c135 : Value}
    (hexit : ∀ (u11 u96 u97 u98 u99 u100 u101 u102 u103 u104 u105 u106 u107 u108 u109 u110 u111 u112 u113 u114 u115 u116 u117 u118 u119 u120 u121 u122 u123 u124 v : Value) (w' : World), AW w cb w' wk off g o big v → Q0 (.exit 4) ⟨List.toArray (c0 :: c1 :: c2 :: c3 :: c4 :: .slice (some ⟨g, 0, none⟩) 10080 10080 :: .slice (some ⟨o, 0, none⟩) 70 70 :: c7 :: c8 :: .pointer (some ⟨cb, 0, none⟩) :: .int .i64 (cnt (isOpen wk off) big) :: u11 :: c12 :: c13 :: c14 :: c15 :: c16 :: c17 :: c18 :: c19 :: c20 :: c21 :: c22 :: c23 :: c24 :: c25 :: c26 :: c27 :: c28 :: c29 :: c30 :: c31 :: c32 :: c33 :: c34 :: c35 :: c36 :: c37 :: c38 :: c39 :: c40 :: c41 :: c42 :: c43 :: c44 :: c45 :: c46 :: c47 :: c48 :: c49 :: c50 :: c51 :: c52 :: c53 :: c54 :: c55 :: c56 :: c57 :: c58 :: c59 :: c60 :: c61 :: c62 :: c63 :: c64 :: c65 :: c66 :: c67 :: c68 :: c69 :: c70 :: c71 :: c72 :: c73 :: c74 :: c75 :: c76 :: c77 :: c78 :: c79 :: c80 :: c81 :: c82 :: c83 :: c84 :: c85 :: c86 :: c87 :: c88 :: c89 :: c90 :: c91 :: c92 :: c93 :: c94 :: c95 :: u96 :: u97 :: u98 :: u99 :: u100 :: u101 :: u102 :: u103 :: u104 :: u105 :: u106 :: u107 :: u108 :: u109 :: u110 :: u111 :: u112 :: u113 :: u114 :: u115 :: u116 :: u117 :: u118 :: u119 :: u120 :: u121 :: u122 :: u123 :: u124 :: c125 :: c126 :: c127 :: c128 :: c129 :: c130 :: c131 :: c132 :: c133 :: c134 :: c135 :: []), []⟩ w') :
    Code.wp Tryz.prog (Code.loop ((Tryz.f82.body.bind lastLoop).getD .skip)) Q0 ⟨List.toArray (c0 :: c1 :: c2 :: c3 :: c4 :: .slice (some ⟨g, 0, none⟩) 10080 10080 :: .slice (some ⟨o, 0, none⟩) 70 70 :: c7 :: c8 :: .pointer (some ⟨cb, 0, none⟩) :: .int .i64 0 :: .int .i64 0 :: c12 :: c13 :: c14 :: c15 :: c16 :: c17 :: c18 :: c19 :: c20 :: c21 :: c22 :: c23 :: c24 :: c25 :: c26 :: c27 :: c28 :: c29 :: c30 :: c31 :: c32 :: c33 :: c34 :: c35 :: c36 :: c37 :: c38 :: c39 :: c40 :: c41 :: c42 :: c43 :: c44 :: c45 :: c46 :: c47 :: c48 :: c49 :: c50 :: c51 :: c52 :: c53 :: c54 :: c55 :: c56 :: c57 :: c58 :: c59 :: c60 :: c61 :: c62 :: c63 :: c64 :: c65 :: c66 :: c67 :: c68 :: c69 :: c70 :: c71 :: c72 :: c73 :: c74 :: c75 :: c76 :: c77 :: c78 :: c79 :: c80 :: c81 :: c82 :: c83 :: c84 :: c85 :: c86 :: c87 :: c88 :: c89 :: c90 :: c91 :: c92 :: c93 :: c94 :: c95 :: c96 :: c97 :: c98 :: c99 :: c100 :: c101 :: c102 :: c103 :: c104 :: c105 :: c106 :: c107 :: c108 :: c109 :: c110 :: c111 :: c112 :: c113 :: c114 :: c115 :: c116 :: c117 :: c118 :: c119 :: c120 :: c121 :: c122 :: c123 :: c124 :: c125 :: c126 :: c127 :: c128 :: c129 :: c130 :: c131 :: c132 :: c133 :: c134 :: c135 :: []), []⟩ w0 := by
  conv => arg 2; arg 1; whnf
  obtain ⟨i0, hi, hq0, hq1, hq2⟩ := info_parts intInfo
  have HI := hide hi
  clear hi
  have HX := hide hexit
  clear hexit
  go_loopw [10, 11] (fun n m wz => ∃ (k : Nat) (x : Int) (v : Value), x ≤ 100800 ∧ n = .int .i64 (cnt (isOpen wk off) k) ∧ m = .int .i64 x ∧ x = (k : Int) ∧ AW w cb wz wk off g o k v) (fun _ m _ => big - (intOf m).toNat)
  case atStart => exact ⟨0, 0, v0, by omega, rfl, rfl, rfl, A0⟩
  case round =>
    clear A0
    obtain ⟨k, x, v, hk, rfl, rfl, hx, A⟩ := hrel
    have hkb : (k : Int) < 200000 := by omega
    have hx0 : 0 ≤ x := by omega
    have HX2 := hide hx
    clear hx
    have hcb := cnt_bd (isOpen wk off) k
    have hcv := A.cv
    have hown := A.own
    have hzv := A.zv
    by_cases hk2 : x < 100800
    · have dk1 : 0 ≤ x % 10080 := by omega
      have dk2 : x % 10080 < 10080 := by omega
      have dk3 : 0 ≤ x / 1440 := by omega
      have dk4 : x / 1440 < 70 := by omega
      go_upto_region 29 with (first | (at_builtin; refine wpList_append_lies _ rfl _ _ 24 rfl (cb + 1) 3 i0 (.int .i64 0) 1 8 Tryz.underlying24 HI.out hq0 hq1 hq2 rfl (by decide) _ k (cnts (isOpen wk off) k) (by rfl) (hown.alloc _) ⟨wr.heap.size, 0, none⟩ 1 1 [.int .i64 (cnt (isOpen wk off) k)] (by rfl) (by rfl) (cell_one_new _ _ _) (by simp [Value.oneCell']) (by omega) (by unfold maxLen; omega) (by omega) (by simp; omega) (wr.heap.size + 1) (by simp) ?_; intro gg cap w10 hown10 hgrow hat hlt; obtain ⟨hc10, hf10, A2⟩ := A.go hg ho hw _ rfl hown10 hgrow; clear hown10 hgrow hat) | fail)
      generalize hv2 : Value.slice (some (Addr.mk gg 0 none)) (k + 1) cap = v2 at *
      generalize w10.setCell ⟨cb, 0, none⟩ v2 = w11 at *
      clear hc10 hf10 hcv hown hzv A hlt
      clear hcb hk hv2
      have hcn := cnt_bd (isOpen wk off) k
      have hcn1 : cnt (isOpen wk off) k ≤ 200000 := by omega
      have hcn0 := hcn.1
      clear hcn hkb
      have HA2 := hide A2
      cases hwk : wk (k % 10080)
      · have hF : cnt (isOpen wk off) (k + 1) = cnt (isOpen wk off) k := by simp [cnt, isOpen, hwk]
        have HF := hide hF
        have q1 := wk_at A2.K k HX2.out _ hwk
        clear hwk hF A2
        go_wp2_with fail
        go_roundw
        case rel => exact ⟨k + 1, x + 1, v2, by omega, by rw [HF.out], rfl, by rw [HX2.out]; simp, HA2.out⟩
        case measure => simp [intOf, big]; omega
      · have q1 := wk_at A2.K k HX2.out _ hwk
        cases hof : off (k / 1440)
        · have hF : cnt (isOpen wk off) (k + 1) = cnt (isOpen wk off) k + 1 := by simp [cnt, isOpen, hwk, hof]
          have HF := hide hF
          have q2 := off_at A2.O k HX2.out hk2 _ hof
          clear hwk hF A2 hof
          go_wp2_with fail
          go_roundw
          case rel => exact ⟨k + 1, x + 1, v2, by omega, by rw [HF.out], rfl, by rw [HX2.out]; simp, HA2.out⟩
          case measure => simp [intOf, big]; omega
        · have hF : cnt (isOpen wk off) (k + 1) = cnt (isOpen wk off) k := by simp [cnt, isOpen, hwk, hof]
          have HF := hide hF
          have q2 := off_at A2.O k HX2.out hk2 _ hof
          clear hwk hF A2 hof
          go_wp2_with fail
          go_roundw
          case rel => exact ⟨k + 1, x + 1, v2, by omega, by rw [HF.out], rfl, by rw [HX2.out]; simp, HA2.out⟩
          case measure => simp [intOf, big]; omega
    · have hke : k = big := by have := HX2.out; unfold big; omega
      have HK := hide hke
      have HAA := hide A
      clear hke A hcv hown
      go_wp2_with fail
      rw [HK.out]
      refine HX.out _ _ _ _ _ _ _ _ _ _ _ _ _ _ _ _ _ _ _ _ _ _ _ _ _ _ _ _ _ _ v wr ?_
      have := HAA.out
      rw [HK.out] at this
      exact this
end Go.Proofs.YtcnmbldikjljeaaGreatDoor
