import Derived.Test.YtbffidohmdgoaaaGreatDoorRef5
import Derived.Test.YtbffidohmdgoaaaGreatDoorRef7
import Derived.Test.YtbffidohmdgoaaaGreatDoorTxtMk
import Derived.Deep.RegionLaw
namespace Go.Proofs.YtbffidohmdgoaaaGreatDoor
open Go.RowKit

theorem plain_bd (c : Int) (h0 : 0 ≤ c) (_h1 : c ≤ 255) : 0 ≤ plain c ∧ plain c ≤ 127 := by unfold plain; split <;> omega
theorem crun_vals (s : ByteArray) : ∀ (f pos : Nat), ∀ x ∈ crun s f pos, 0 ≤ x ∧ x ≤ 127 := by
  intro f
  induction f with
  | zero => intro pos x hx; simp [crun] at hx
  | succ f ih =>
    intro pos x hx
    simp only [crun] at hx
    split at hx
    · rename_i h
      rcases List.mem_cons.1 hx with rfl | hx
      · exact plain_bd _ (by omega) (by have := (s[pos]'h).toNat_lt; omega)
      · exact ih _ x hx
    · simp at hx
theorem crun_len (s : ByteArray) : ∀ (f pos : Nat), (crun s f pos).length ≤ f := by
  intro f
  induction f with
  | zero => intro pos; simp [crun]
  | succ f ih => intro pos; simp only [crun]; split <;> simp [ih]
theorem row_of_own {w : World} {B b : Nat} {v : Value} {L : List Int} (h : w.ownsRow B 5 1 v L.length (u8s L)) (hb : b < B ∨ w.heap.size ≤ b) (hl : L.length ≤ 1000) (hv : ∀ x ∈ L, 0 ≤ x ∧ x ≤ 127) : Row w b v L := by
  refine ⟨hl, hv, ?_⟩
  rcases h.2 with ⟨e, h0⟩ | ⟨g, cap, cur, rfl, hB, hg, _⟩
  · exact .inl ⟨e, List.eq_nil_of_length_eq_zero h0⟩
  · have hg2 : g < w.heap.size := (Array.getElem?_eq_some_iff.1 hg).1
    refine .inr ⟨g, cap, rfl, by omega, hg2, fun i x hx => ?_⟩
    have hi : i < L.length := (List.getElem?_eq_some_iff.1 hx).1
    rw [h.cellAt i (by omega)]
    simp [u8s, hx]
theorem But2.below {b g B : Nat} {w w' : World} (h : But2 b g w w') (hb : B ≤ b) (hg : B ≤ g) (hB : B ≤ w.heap.size) : Below B w w' :=
  ⟨h.os, h.tape, h.output, h.size, fun k hk => h.block k (by omega) (by omega) (by omega)⟩
theorem But.below {b B : Nat} {w w' : World} (h : But b w w') (hb : B ≤ b) (hB : B ≤ w.heap.size) : Below B w w' :=
  ⟨h.os, h.tape, h.output, h.size, fun k hk => h.block k (by omega) (by simp; omega)⟩
theorem Row.on2 {b g : Nat} {w w' : World} {vL : Value} {L : List Int} (h : Row w b vL L) (hb : But2 b g w w') (hn : ∀ k, vL.ownBlock = some k → k ≠ g) : Row w' b vL L := by
  refine ⟨h.len, h.vals, ?_⟩
  rcases h.row with a | ⟨q, cap, h1, h2, h3, h4⟩
  · exact .inl a
  · have hg := hn q (by rw [h1]; rfl)
    exact .inr ⟨q, cap, h1, h2, Nat.lt_of_lt_of_le h3 hb.size, fun i x hx => (World.cell?_of_block (hb.block q h3 h2 hg)).trans (h4 i x hx)⟩

def entriesF (L : List Int) : Nat → Sg × (Nat → Bool) → Sg × (Nat → Bool)
  | 0, x => x
  | f + 1, x => if lookF L x.1 = 59 then entriesF L f (entryF L (x.1.1 + 1, x.1.2) x.2) else x
def setO (off : Nat → Bool) (n : Int) : Nat → Bool := fun j => off j || decide (j = n.toNat)
def numbersF (L : List Int) : Nat → Sg → Int → (Nat → Bool) → Sg × (Nat → Bool)
  | 0, s, _, off => (s, off)
  | f + 1, s, last, off =>
    let r := numberF L (s.1 + 1, s.2) last
    let off' := if r.2.2 < 0 then setO off r.1 else off
    if lookF L r.2 = 44 then numbersF L f r.2 r.1 off' else (r.2, off')
/-- the document's reading: where it ends, where it is told, the week, the days off -/
def refF (L : List Int) : Sg × (Nat → Bool) × (Nat → Bool) :=
  let e := entriesF L (L.length + 1) (entryF L (0, -1) (fun _ => false))
  let n := if lookF L e.1 = 33 then numbersF L (L.length + 1) e.1 (-1) (fun _ => false) else (e.1, fun _ => false)
  (if n.1.1 < L.length then badF n.1 n.1.1 else n.1, e.2, n.2)
theorem spansF_I (L : List Int) (l : List Int) : ∀ (f : Nat) (s : Sg) (wk : Nat → Bool), 0 ≤ s.1 → s.1 ≤ L.length → s.1 ≤ (spansF L l f s wk).1.1 ∧ (spansF L l f s wk).1.1 ≤ L.length := by
  intro f
  induction f with
  | zero => intro s wk _ h; simp only [spansF]; omega
  | succ f ih =>
    intro s wk h0 h
    simp only [spansF]
    split
    · have hs : s.1 ≤ (spanF L s).2.2.1 ∧ (spanF L s).2.2.1 ≤ L.length := by
        unfold spanF; simp only
        have a1 := timeF_le L s h
        have a2 := timeF_ge L s
        generalize timeF L s = a at *
        have b1 := takeF_le L a.2 45 45 a1
        have b2 := takeF_I L a.2 45 45
        generalize takeF L a.2 45 45 = d at *
        have c1 := timeF_le L d.2 b1
        have c2 := timeF_ge L d.2
        generalize timeF L d.2 = e at *
        split
        · rw [badF_I]; omega
        · omega
      split
      · rename_i h32
        have := (lookF_in (L := L) (s := (spanF L s).2.2) (by omega)).2
        have := ih ((spanF L s).2.2.1 + 1, (spanF L s).2.2.2) (markF wk l (spanF L s).1 (spanF L s).2.1) (by simp; omega) (by simp; omega)
        simp only at this
        omega
      · exact hs
    · simp; exact h
theorem daysF_I (L : List Int) : ∀ (f : Nat) (s : Sg) (l : List Int), 0 ≤ s.1 → s.1 ≤ L.length → s.1 ≤ (daysF L f s l).2.1 ∧ (daysF L f s l).2.1 ≤ L.length := by
  intro f
  induction f with
  | zero => intro s l _ h; simp only [daysF]; omega
  | succ f ih =>
    intro s l h0 h
    simp only [daysF]
    split
    · rename_i h44
      have h1 := (lookF_in (L := L) (s := s) (by omega)).2
      have h2 := weekdayF_I L (s.1 + 1, s.2) (by simp; omega)
      simp only at h2
      have := ih (weekdayF L (s.1 + 1, s.2)).2 (l ++ [(weekdayF L (s.1 + 1, s.2)).1]) (by omega) (by omega)
      omega
    · simp; exact h
theorem entryF_I (L : List Int) (s : Sg) (wk : Nat → Bool) (h0 : 0 ≤ s.1) (h : s.1 ≤ L.length) : s.1 ≤ (entryF L s wk).1.1 ∧ (entryF L s wk).1.1 ≤ L.length := by
  unfold entryF; simp only
  have a := weekdayF_I L s h
  generalize weekdayF L s = d at *
  have b := daysF_I L (L.length + 1) d.2 [d.1] (by omega) (by omega)
  generalize daysF L (L.length + 1) d.2 [d.1] = e at *
  have c1 := takeF_I L e.2 32 32
  have c2 := takeF_le L e.2 32 32 (by omega)
  generalize takeF L e.2 32 32 = t at *
  have := spansF_I L e.1 (L.length + 1) t.2 wk (by omega) (by omega)
  omega
theorem numberF_I (L : List Int) (s : Sg) (last : Int) (h : s.1 ≤ L.length) : s.1 ≤ (numberF L s last).2.1 ∧ (numberF L s last).2.1 ≤ L.length := by
  unfold numberF; simp only
  have a1 := takeF_I L s 48 57
  have a2 := takeF_le L s 48 57 h
  generalize takeF L s 48 57 = a at *
  cases hb : isTwo (lookF L a.2)
  · simp only [Bool.false_eq_true, if_false]
    split
    · rw [badF_I]; omega
    · simp only; omega
  · have h2 : lookF L a.2 ≠ 0 := by
      intro e; rw [e] at hb; simp [isTwo] at hb
    have := (lookF_in h2).2
    simp only [if_true]
    split
    · rw [badF_I]; simp only; omega
    · simp only; omega
/-- the rest of the reading, behind the entries -/
def fin (L : List Int) (e : Sg × (Nat → Bool)) : Sg × (Nat → Bool) × (Nat → Bool) :=
  let n := if lookF L e.1 = 33 then numbersF L (L.length + 1) e.1 (-1) (fun _ => false) else (e.1, fun _ => false)
  (if n.1.1 < L.length then badF n.1 n.1.1 else n.1, e.2, n.2)
theorem refF_fin (L : List Int) : refF L = fin L (entriesF L (L.length + 1) (entryF L (0, -1) (fun _ => false))) := rfl
def fin2 (L : List Int) (wk : Nat → Bool) (n : Sg × (Nat → Bool)) : Sg × (Nat → Bool) × (Nat → Bool) := (if n.1.1 < L.length then badF n.1 n.1.1 else n.1, wk, n.2)
theorem fin_no {L : List Int} {I P : Int} {wk : Nat → Bool} (h : ¬ lookF L (I, P) = 33) : fin L ((I, P), wk) = fin2 L wk ((I, P), fun _ => false) := by
  unfold fin fin2; simp only; rw [if_neg h]
theorem fin_yes {L : List Int} {I P : Int} {wk : Nat → Bool} (h : lookF L (I, P) = 33) : fin L ((I, P), wk) = fin2 L wk (numbersF L (L.length + 1) (I, P) (-1) (fun _ => false)) := by
  unfold fin fin2; simp only; rw [if_pos h]
theorem badF_lt {s : Sg} {p : Int} (hp : 0 ≤ p) : ¬ (badF s p).2 < 0 := by unfold badF; split <;> simp <;> omega
theorem badF_told {s : Sg} {p : Int} (h : ¬ s.2 < 0) : badF s p = s := by unfold badF; rw [if_neg h]
theorem numberF_ok (L : List Int) (s : Sg) (last : Int) (h0 : 0 ≤ s.1) (h : (numberF L s last).2.2 < 0) : 0 ≤ (numberF L s last).1 ∧ (numberF L s last).1 < 70 := by
  unfold numberF at h ⊢; simp only at h ⊢
  have a0 := takeF_lo L s 48 57
  have a1 := takeF_I L s 48 57
  generalize hta : takeF L s 48 57 = a at *
  cases hb : isTwo (lookF L a.2)
  · rw [hb] at h
    simp only [Bool.false_eq_true, if_false] at h ⊢
    cases hn : numBad (a.1 - 48) last a.1 false
    · simp only [Bool.false_eq_true, if_false]
      simp [numBad] at hn; omega
    · rw [hn] at h
      simp only [if_true] at h
      exfalso
      by_cases hp : 0 ≤ a.2.1 - 1
      · exact badF_lt hp h
      · -- nothing was taken: told already
        have e : a = (48, badF s s.1) := by
          rw [← hta]; unfold takeF; split
          · rfl
          · rename_i g; rw [← hta] at hp; unfold takeF at hp; rw [if_neg g] at hp; simp at hp; omega
        rw [e] at h
        have h2 : ¬ (badF s s.1).2 < 0 := badF_lt h0
        simp only at h
        rw [badF_told h2] at h
        exact h2 h
  · rw [hb] at h
    simp only [if_true] at h ⊢
    have hb2 : 48 ≤ lookF L a.2 := by simp [isTwo] at hb; omega
    cases hn : numBad (10 * (a.1 - 48) + (lookF L a.2 - 48)) last a.1 true
    · simp only [Bool.false_eq_true, if_false]
      simp [numBad] at hn; omega
    · rw [hn] at h
      simp only [if_true] at h
      exfalso
      exact badF_lt (s := (a.2.1 + 1, a.2.2)) (p := a.2.1) (by omega) h
theorem numberF_bd (L : List Int) (s : Sg) (last : Int) : 0 ≤ (numberF L s last).1 ∧ (numberF L s last).1 ≤ 99 := by
  unfold numberF; simp only
  have a0 := takeF_lo L s 48 57
  have a1 := takeF_hi L s 48 57 (by omega)
  generalize takeF L s 48 57 = a at *
  cases hb : isTwo (lookF L a.2)
  · simp only [Bool.false_eq_true, if_false]
    split <;> simp only <;> omega
  · have hb2 : 48 ≤ lookF L a.2 ∧ lookF L a.2 ≤ 57 := by simp [isTwo] at hb; omega
    simp only [if_true]
    split <;> simp only <;> omega
/-- the numbers' loop, with the word that there are more -/
def numsF (L : List Int) (f : Nat) (s : Sg) (last : Int) (off : Nat → Bool) (more : Bool) : Sg × (Nat → Bool) := if more then numbersF L f s last off else (s, off)
theorem nums_go (L : List Int) (f : Nat) (s : Sg) (last : Int) (off : Nat → Bool) : numbersF L (f + 1) s last off =
    numsF L f (numberF L (s.1 + 1, s.2) last).2 (numberF L (s.1 + 1, s.2) last).1 (if (numberF L (s.1 + 1, s.2) last).2.2 < 0 then setO off (numberF L (s.1 + 1, s.2) last).1 else off) (lookF L (numberF L (s.1 + 1, s.2) last).2 == 44) := by
  simp only [numbersF, numsF]
  by_cases h : lookF L (numberF L (s.1 + 1, s.2) last).2 = 44
  · simp [h]
  · simp [h]

def isOpen (wk off : Nat → Bool) (j : Nat) : Bool := wk (j % 10080) && !off (j / 1440)
def cnts (F : Nat → Bool) (k : Nat) : List Value := (List.range k).map fun j => .int .i64 (cnt F j)
theorem cnts_succ (F : Nat → Bool) (k : Nat) : cnts F (k + 1) = cnts F k ++ [.int .i64 (cnt F k)] := by simp [cnts, List.range_succ]
/-- the document's calendar in memory -/
structure RC (w : World) (cb : Nat) (F : Nat → Bool) : Prop where
  lt : cb < w.heap.size
  row : ∃ h cap, w.cell? ⟨cb, 0, none⟩ = some (.slice (some ⟨h, 0, none⟩) 100801 cap) ∧ cb < h ∧ h < w.heap.size ∧ ∀ j, j < 100801 → w.cell? ⟨h, j, none⟩ = some (.int .i64 (cnt F j))
theorem RC.on {w w' : World} {cb : Nat} {F : Nat → Bool} (h : RC w cb F) (hb : Below w.heap.size w w') : RC w' cb F := by
  obtain ⟨q, cap, h1, h0, h2, h3⟩ := h.row
  exact ⟨Nat.lt_of_lt_of_le h.lt hb.size, q, cap, (hb.cell (p := ⟨cb, 0, none⟩) h.lt).trans h1, h0, Nat.lt_of_lt_of_le h2 hb.size, fun j hj => (hb.cell (p := ⟨q, j, none⟩) h2).trans (h3 j hj)⟩
/-- what the document's Parse answers, and leaves -/
def RPost (L : List Int) (w : World) (e : Ending) (w' : World) : Prop :=
  Below w.heap.size w w' ∧
  ((0 ≤ (refF L).1.2 ∧ e = .returned (.tuple #[.pointer none, .int .i64 (refF L).1.2])) ∨
   (¬ 0 ≤ (refF L).1.2 ∧ ∃ cb, w.heap.size ≤ cb ∧ e = .returned (.tuple #[.pointer (some ⟨cb, 0, none⟩), .int .i64 0]) ∧ RC w' cb (isOpen (refF L).2.1 (refF L).2.2)))
end Go.Proofs.YtbffidohmdgoaaaGreatDoor
