import Derived.Test.YtbffidohmdgoaaaGreatDoorRef3
import Derived.Deep.AppendLies
namespace Go.Proofs.YtbffidohmdgoaaaGreatDoor
open Go.RowKit

theorem lookF_in {L : List Int} {s : Sg} (h : lookF L s ≠ 0) : s.2 < 0 ∧ s.1 < L.length := by
  unfold lookF at h; split at h
  · exact absurd rfl h
  · omega
theorem takeF_le (L : List Int) (s : Sg) (lo hi : Int) (h : s.1 ≤ L.length) : (takeF L s lo hi).2.1 ≤ L.length := by
  unfold takeF; split
  · simp [badF_I]; exact h
  · rename_i g; have := (lookF_in (L := L) (s := s) (by omega)).2; simp; omega
theorem timeF_le (L : List Int) (s : Sg) (h : s.1 ≤ L.length) : (timeF L s).2.1 ≤ L.length :=
  takeF_le _ _ _ _ (takeF_le _ _ _ _ (takeF_le _ _ _ _ (takeF_le _ _ _ _ (takeF_le _ _ _ _ h))))
theorem timeF_ge (L : List Int) (s : Sg) : s.1 ≤ (timeF L s).2.1 := by
  unfold timeF; simp only
  have h1 := takeF_I L s 48 50
  generalize takeF L s 48 50 = a at *
  have h2 := takeF_I L a.2 48 (if a.1 = 50 then 52 else 57)
  generalize takeF L a.2 48 (if a.1 = 50 then 52 else 57) = b at *
  have h3 := takeF_I L b.2 58 58
  generalize takeF L b.2 58 58 = c at *
  have h4 := takeF_I L c.2 48 (if 10 * (a.1 - 48) + (b.1 - 48) = 24 then 48 else 53)
  generalize takeF L c.2 48 (if 10 * (a.1 - 48) + (b.1 - 48) = 24 then 48 else 53) = d at *
  have h5 := takeF_I L d.2 48 (if 10 * (a.1 - 48) + (b.1 - 48) = 24 then 48 else 57)
  omega
theorem timeF_bd (L : List Int) (s : Sg) : 0 ≤ (timeF L s).1 ∧ (timeF L s).1 ≤ 3000 := by
  unfold timeF; simp only
  have l1 := takeF_lo L s 48 50
  have u1 := takeF_hi L s 48 50 (by omega)
  generalize takeF L s 48 50 = a at *
  have l2 := takeF_lo L a.2 48 (if a.1 = 50 then 52 else 57)
  have u2 := takeF_hi L a.2 48 (if a.1 = 50 then 52 else 57) (by split <;> omega)
  generalize takeF L a.2 48 (if a.1 = 50 then 52 else 57) = b at *
  generalize takeF L b.2 58 58 = c at *
  have l4 := takeF_lo L c.2 48 (if 10 * (a.1 - 48) + (b.1 - 48) = 24 then 48 else 53)
  have u4 := takeF_hi L c.2 48 (if 10 * (a.1 - 48) + (b.1 - 48) = 24 then 48 else 53) (by split <;> omega)
  generalize takeF L c.2 48 (if 10 * (a.1 - 48) + (b.1 - 48) = 24 then 48 else 53) = d at *
  have l5 := takeF_lo L d.2 48 (if 10 * (a.1 - 48) + (b.1 - 48) = 24 then 48 else 57)
  have u5 := takeF_hi L d.2 48 (if 10 * (a.1 - 48) + (b.1 - 48) = 24 then 48 else 57) (by split <;> omega)
  generalize takeF L d.2 48 (if 10 * (a.1 - 48) + (b.1 - 48) = 24 then 48 else 57) = e at *
  split at u2 <;> split at u4 <;> split at u5 <;> omega
theorem dayOf_le (a b : Int) : dayOf a b ≤ 7 := by unfold dayOf; repeat (first | (split; · omega) | omega)
theorem weekdayF_bd (L : List Int) (s : Sg) : 0 ≤ (weekdayF L s).1 ∧ (weekdayF L s).1 ≤ 6 := by
  unfold weekdayF; split
  · split
    · simp; omega
    · simp
  · simp
theorem weekdayF_I (L : List Int) (s : Sg) (h : s.1 ≤ L.length) : s.1 ≤ (weekdayF L s).2.1 ∧ (weekdayF L s).2.1 ≤ L.length := by
  unfold weekdayF; split
  · rename_i g
    have h1 := (lookF_in (L := L) (s := s) (by intro e; rw [e] at g; simp [isFirst] at g)).2
    split
    · rename_i g2
      have h2 := (lookF_in (L := L) (s := (s.1 + 1, s.2)) (by intro e; rw [e] at g2; simp [dayOf] at g2)).2
      simp at h2 ⊢; omega
    · simp [badF_I]; omega
  · simp [badF_I]; exact h

def daysF (L : List Int) : Nat → Sg → List Int → List Int × Sg
  | 0, s, l => (l, s)
  | f + 1, s, l => if lookF L s = 44 then daysF L f (weekdayF L (s.1 + 1, s.2)).2 (l ++ [(weekdayF L (s.1 + 1, s.2)).1]) else (l, s)
/-- what one span marks -/
def markF (wk : Nat → Bool) (l : List Int) (a b : Int) (j : Nat) : Bool := wk j || (l.contains ((j / 1440 : Nat) : Int) && decide (a ≤ ((j % 1440 : Nat) : Int)) && decide (((j % 1440 : Nat) : Int) < b))
def spanF (L : List Int) (s : Sg) : Int × Int × Sg :=
  let a := timeF L s
  let d := takeF L a.2 45 45
  let b := timeF L d.2
  (a.1, b.1, if b.1 ≤ a.1 then badF b.2 (b.2.1 - 1) else b.2)
def spansF (L : List Int) (l : List Int) : Nat → Sg → (Nat → Bool) → Sg × (Nat → Bool)
  | 0, s, wk => (s, wk)
  | f + 1, s, wk =>
    if s.2 < 0 then
      (if lookF L (spanF L s).2.2 = 32 then spansF L l f ((spanF L s).2.2.1 + 1, (spanF L s).2.2.2) (markF wk l (spanF L s).1 (spanF L s).2.1)
       else ((spanF L s).2.2, markF wk l (spanF L s).1 (spanF L s).2.1))
    else (s, wk)
def entryF (L : List Int) (s : Sg) (wk : Nat → Bool) : Sg × (Nat → Bool) :=
  let d := weekdayF L s
  let ds := daysF L (L.length + 1) d.2 [d.1]
  spansF L ds.1 (L.length + 1) (takeF L ds.2 32 32).2 wk

def mk4 (wk : Nat → Bool) (l : List Int) (a b d m : Int) (j : Nat) : Bool := markF wk l a b j || (decide (((j / 1440 : Nat) : Int) = d) && decide (a ≤ ((j % 1440 : Nat) : Int)) && decide (((j % 1440 : Nat) : Int) < m))
theorem mk4_start (wk : Nat → Bool) (l : List Int) (a b d : Int) (j : Nat) : markF wk l a b j = mk4 wk l a b d a j := by
  unfold mk4
  by_cases h : a ≤ ((j % 1440 : Nat) : Int)
  · rw [decide_eq_false (show ¬ ((j % 1440 : Nat) : Int) < a by omega)]; simp
  · rw [decide_eq_false h]; simp
theorem mk4_step (wk : Nat → Bool) (l : List Int) (a b d m : Int) (hd : 0 ≤ d) (hm : 0 ≤ m) (hm2 : m < 1440) (ha : a ≤ m) (j : Nat) : (mk4 wk l a b d m j || decide (j = (d * 1440 + m).toNat)) = mk4 wk l a b d (m + 1) j := by
  unfold mk4
  rw [Bool.or_assoc]
  congr 1
  rw [Bool.eq_iff_iff]
  simp only [Bool.or_eq_true, Bool.and_eq_true, decide_eq_true_eq]
  omega
theorem mk4_end (wk : Nat → Bool) (l : List Int) (k : Nat) (hk : k < l.length) (a b m : Int) (_h1 : a ≤ m) (h2 : m ≤ b ∨ m = a) (h3 : ¬ (m < b ∧ m < 1440)) (j : Nat) : mk4 wk (l.take k) a b l[k] m j = markF wk (l.take (k + 1)) a b j := by
  unfold mk4 markF
  rw [List.take_succ_eq_append_getElem hk, Bool.or_assoc]
  congr 1
  rw [Bool.eq_iff_iff]
  simp only [Bool.or_eq_true, Bool.and_eq_true, decide_eq_true_eq, List.contains_iff_mem, List.mem_append, List.mem_singleton]
  have hx : j % 1440 < 1440 := Nat.mod_lt _ (by omega)
  constructor
  · rintro (⟨⟨p, q⟩, r⟩ | ⟨⟨p, q⟩, r⟩)
    · exact ⟨⟨.inl p, q⟩, r⟩
    · exact ⟨⟨.inr p, q⟩, by omega⟩
  · rintro ⟨⟨p | p, q⟩, r⟩
    · exact .inl ⟨⟨p, q⟩, r⟩
    · exact .inr ⟨⟨p, q⟩, by omega⟩
theorem markF_none (wk : Nat → Bool) (a b : Int) (j : Nat) : wk j = markF wk [] a b j := by simp [markF]

/-- a list of bools in memory -/
structure BC (w : World) (g n : Nat) (f : Nat → Bool) : Prop where
  lt : g < w.heap.size
  cell : ∀ j, j < n → w.cell? ⟨g, j, none⟩ = some (.bool (f j))
  frz : ∀ j, w.frozen? ⟨g, j, none⟩ = false
theorem BC.on {w w' : World} {g n b : Nat} {f : Nat → Bool} (h : BC w g n f) (hb : But b w w') (hn : g ≠ b) : BC w' g n f :=
  ⟨Nat.lt_of_lt_of_le h.lt hb.size, fun j hj => (hb.cell h.lt hn).trans (h.cell j hj), fun j => (hb.frozen h.lt hn).trans (h.frz j)⟩
theorem BC.set {w : World} {g n : Nat} {f : Nat → Bool} (h : BC w g n f) (k : Nat) : BC (w.setCell ⟨g, k, none⟩ (.bool true)) g n (fun j => f j || decide (j = k)) := by
  refine ⟨by simpa using h.lt, fun j hj => ?_, fun j => by rw [World.frozen?_setCell]; exact h.frz j⟩
  by_cases e : j = k
  · subst e; rw [sc_eq (h.cell j hj)]; simp
  · rw [sc_ne (by omega), h.cell j hj]; simp [e]
theorem BC.congr {w : World} {g n : Nat} {f f' : Nat → Bool} (h : BC w g n f) (e : ∀ j, j < n → f j = f' j) : BC w g n f' :=
  ⟨h.lt, fun j hj => by rw [← e j hj]; exact h.cell j hj, h.frz⟩
theorem BC.grown {w w' : World} {g n : Nat} {f : Nat → Bool} {row : Option Nat} (h : BC w g n f) (hb : w.grownBy w' row) (hn : some g ≠ row) : BC w' g n f :=
  ⟨Nat.lt_of_lt_of_le h.lt hb.size, fun j hj => (World.cell?_of_block (hb.block g h.lt hn)).trans (h.cell j hj), fun j => (World.frozen?_of_block (hb.block g h.lt hn)).trans (h.frz j)⟩
theorem FC.grown {w w' : World} {b : Nat} {vL : Value} {I P : Int} {row : Option Nat} (h : FC w b vL I P) (hb : w.grownBy w' row) (hn : some b ≠ row) : FC w' b vL I P := by
  have hc : ∀ j, w'.cell? ⟨b, j, none⟩ = w.cell? ⟨b, j, none⟩ := fun j => World.cell?_of_block (hb.block b h.hb hn)
  have hf : ∀ j, w'.frozen? ⟨b, j, none⟩ = w.frozen? ⟨b, j, none⟩ := fun j => World.frozen?_of_block (hb.block b h.hb hn)
  exact ⟨Nat.lt_of_lt_of_le h.hb hb.size, (hc 0).trans h.c0, (hc 1).trans h.c1, (hc 2).trans h.c2, (hf 1).trans h.f1, (hf 2).trans h.f2⟩
theorem Row.grown {b : Nat} {w w' : World} {vL : Value} {L : List Int} {row : Option Nat} (h : Row w b vL L) (hb : w.grownBy w' row) (hn : ∀ g, vL.ownBlock = some g → some g ≠ row) : Row w' b vL L := by
  refine ⟨h.len, h.vals, ?_⟩
  rcases h.row with a | ⟨g, cap, h1, h2, h3, h4⟩
  · exact .inl a
  · have hg : some g ≠ row := hn g (by rw [h1]; rfl)
    exact .inr ⟨g, cap, h1, h2, Nat.lt_of_lt_of_le h3 hb.size, fun i x hx => (World.cell?_of_block (hb.block g h3 hg)).trans (h4 i x hx)⟩
end Go.Proofs.YtbffidohmdgoaaaGreatDoor
