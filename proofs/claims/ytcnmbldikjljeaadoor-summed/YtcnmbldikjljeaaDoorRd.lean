import Derived.Test.YtcnmbldikjljeaaDoorTxt
import Derived.WalkKit
import Derived.WalkSpells
import Derived.WalkLawsBesides
namespace Go.Proofs.YtcnmbldikjljeaaDoor
open Go.RowKit

/-- the reader, as it stands -/
structure RS where
  st : Int
  place : Int
  letter : Int
  days : Nat → Bool
  beg : Int
  time : Int
  num : Int
  ahead : Int
  week : Nat → List (Int × Int)
  free : Nat → Bool

def enc (s : RS) (vs : Nat → Value) (j : Nat) : Value :=
  if j = 0 then .int .i64 s.st else if j = 1 then .int .i64 s.place else if j = 2 then .int .i32 s.letter else if j < 10 then .bool (s.days (j - 3))
  else if j = 10 then .int .i64 s.beg else if j = 11 then .int .i64 s.time else if j = 12 then .int .i64 s.num else if j = 13 then .int .i64 s.ahead
  else if j < 21 then vs (j - 14) else .bool (s.free (j - 21))
def flat (l : List (Int × Int)) : List Value := l.flatMap fun p => [.int .i64 p.1, .int .i64 p.2]
def nmV (j : Nat) : Value := .string ⟨(nm j).toArray⟩

structure RW (it : Obj) (B b : Nat) (w0 w : World) (s : RS) (vs : Nat → Value) : Prop where
  below : Below B w0 w
  hB : B ≤ b
  hb : b < w.heap.size
  cell : ∀ j, j < 91 → w.cell? ⟨b, j, none⟩ = some (enc s vs j)
  frz : ∀ j, w.frozen? ⟨b, j, none⟩ = false
  own : ∀ j, j < 7 → w.ownsRow (b + 2) 48 2 (vs j) (s.week j).length (flat (s.week j))
  apart : ∀ i j, i < 7 → j < 7 → i ≠ j → (vs i).ownBlock = none ∨ (vs i).ownBlock ≠ (vs j).ownBlock
  names : ∀ j, j < 7 → w.cell? ⟨0, j, none⟩ = some (nmV j)
  n0 : 0 < B
  iter : w.heap[b + 1]? = some it

section
variable {it : Obj} {B b : Nat} {w0 w : World} {s : RS} {vs : Nat → Value}

theorem RW.set (h : RW it B b w0 w s vs) (k : Nat) (v : Value) (s' : RS) (hk : k < 91) (hw : s'.week = s.week) (he : ∀ j, j < 91 → enc s' vs j = if j = k then v else enc s vs j) :
    RW it B b w0 (w.setCell ⟨b, k, none⟩ v) s' vs := by
  refine ⟨h.below.setCell h.hB v, h.hB, by simpa using h.hb, ?_, ?_, ?_, h.apart, ?_, h.n0, (Below.heap_setCell _ _ _ _ (by simp)).trans h.iter⟩
  · intro j hj
    rw [he j hj]
    by_cases e : j = k
    · subst e; rw [if_pos rfl]; exact sc_eq (h.cell j hj)
    · rw [if_neg e, sc_ne (by omega)]; exact h.cell j hj
  · intro j; rw [World.frozen?_setCell]; exact h.frz j
  · intro j hj; rw [hw]; exact ownsRow_setCell_below (h.own j hj) (by simp) v
  · intro j hj
    have := h.hB
    have := h.n0
    rw [sc_ne (by omega)]; exact h.names j hj

theorem RW.on (h : RW it B b w0 w s vs) {w' : World} (hb : Below w.heap.size w w') : RW it B b w0 w' s vs := by
  have hB := h.hB
  have hbb := h.hb
  have hn := h.n0
  have hit : b + 1 < w.heap.size := (Array.getElem?_eq_some_iff.1 h.iter).1
  have hg : w.grownBy w' none := ⟨hb.os, hb.tape, hb.output, hb.size, fun k hk _ => hb.block k hk⟩
  refine ⟨h.below.trans (hb.mono (by omega)), h.hB, by have := hb.size; omega, ?_, ?_, ?_, h.apart, ?_, h.n0, (hb.block _ hit).trans h.iter⟩
  · intro j hj; rw [hb.cell (p := ⟨b, j, none⟩) h.hb]; exact h.cell j hj
  · intro j; rw [hb.frozen (p := ⟨b, j, none⟩) h.hb]; exact h.frz j
  · intro j hj; exact (h.own j hj).kept hg (by cases (vs j).ownBlock <;> simp)
  · intro j hj; rw [hb.cell (p := ⟨0, j, none⟩) (by simp; omega)]; exact h.names j hj
theorem RW.drew (h : RW it B b w0 w s vs) : RW it B b w0 w.drew s vs := h.on (Below.refl _ _).drew
theorem RW.drewN (h : RW it B b w0 w s vs) (n : Nat) : RW it B b w0 (w.drewN n) s vs := h.on (below_drewN (Below.refl _ _) n)
theorem RW.alloc (h : RW it B b w0 w s vs) (o : Obj) : RW it B b w0 (w.alloc o) s vs := h.on ((Below.refl _ _).alloc (Nat.le_refl _) o)

theorem RW.c0 (h : RW it B b w0 w s vs) : w.cell? ⟨b, 0, none⟩ = some (.int .i64 s.st) := h.cell 0 (by omega)
theorem RW.c1 (h : RW it B b w0 w s vs) : w.cell? ⟨b, 1, none⟩ = some (.int .i64 s.place) := h.cell 1 (by omega)
theorem RW.c2 (h : RW it B b w0 w s vs) : w.cell? ⟨b, 2, none⟩ = some (.int .i32 s.letter) := h.cell 2 (by omega)
theorem RW.cd (h : RW it B b w0 w s vs) (j : Nat) (hj : j < 7) : w.cell? ⟨b, 3 + j, none⟩ = some (.bool (s.days j)) := by
  rw [h.cell (3 + j) (by omega)]
  simp only [enc]
  rw [if_neg (by omega), if_neg (by omega), if_neg (by omega), if_pos (by omega)]
  congr 3; omega
theorem RW.c10 (h : RW it B b w0 w s vs) : w.cell? ⟨b, 10, none⟩ = some (.int .i64 s.beg) := h.cell 10 (by omega)
theorem RW.c11 (h : RW it B b w0 w s vs) : w.cell? ⟨b, 11, none⟩ = some (.int .i64 s.time) := h.cell 11 (by omega)
theorem RW.c12 (h : RW it B b w0 w s vs) : w.cell? ⟨b, 12, none⟩ = some (.int .i64 s.num) := h.cell 12 (by omega)
theorem RW.c13 (h : RW it B b w0 w s vs) : w.cell? ⟨b, 13, none⟩ = some (.int .i64 s.ahead) := h.cell 13 (by omega)
theorem RW.cw (h : RW it B b w0 w s vs) (j : Nat) (hj : j < 7) : w.cell? ⟨b, 14 + j, none⟩ = some (vs j) := by
  rw [h.cell (14 + j) (by omega)]
  simp only [enc]
  rw [if_neg (by omega), if_neg (by omega), if_neg (by omega), if_neg (by omega), if_neg (by omega), if_neg (by omega), if_neg (by omega), if_neg (by omega), if_pos (by omega)]
  congr 2; omega
theorem RW.cf (h : RW it B b w0 w s vs) (j : Nat) (hj : j < 70) : w.cell? ⟨b, 21 + j, none⟩ = some (.bool (s.free j)) := by
  rw [h.cell (21 + j) (by omega)]
  simp only [enc]
  rw [if_neg (by omega), if_neg (by omega), if_neg (by omega), if_neg (by omega), if_neg (by omega), if_neg (by omega), if_neg (by omega), if_neg (by omega), if_neg (by omega)]
  congr 3; omega

theorem RW.setSt (h : RW it B b w0 w s vs) (x : Int) : RW it B b w0 (w.setCell ⟨b, 0, none⟩ (.int .i64 x)) { s with st := x } vs :=
  h.set 0 _ _ (by omega) rfl (fun j _ => by simp only [enc]; split <;> simp_all)
theorem RW.setPlace (h : RW it B b w0 w s vs) (x : Int) : RW it B b w0 (w.setCell ⟨b, 1, none⟩ (.int .i64 x)) { s with place := x } vs :=
  h.set 1 _ _ (by omega) rfl (fun j _ => by simp only [enc]; split <;> simp_all)
theorem RW.setLetter (h : RW it B b w0 w s vs) (x : Int) : RW it B b w0 (w.setCell ⟨b, 2, none⟩ (.int .i32 x)) { s with letter := x } vs :=
  h.set 2 _ _ (by omega) rfl (fun j _ => by simp only [enc]; by_cases e : j = 2 <;> simp [e])
theorem RW.setBeg (h : RW it B b w0 w s vs) (x : Int) : RW it B b w0 (w.setCell ⟨b, 10, none⟩ (.int .i64 x)) { s with beg := x } vs :=
  h.set 10 _ _ (by omega) rfl (fun j _ => by simp only [enc]; by_cases e : j = 10 <;> simp [e])
theorem RW.setTime (h : RW it B b w0 w s vs) (x : Int) : RW it B b w0 (w.setCell ⟨b, 11, none⟩ (.int .i64 x)) { s with time := x } vs :=
  h.set 11 _ _ (by omega) rfl (fun j _ => by simp only [enc]; by_cases e : j = 11 <;> simp [e])
theorem RW.setNum (h : RW it B b w0 w s vs) (x : Int) : RW it B b w0 (w.setCell ⟨b, 12, none⟩ (.int .i64 x)) { s with num := x } vs :=
  h.set 12 _ _ (by omega) rfl (fun j _ => by simp only [enc]; by_cases e : j = 12 <;> simp [e])
theorem RW.setAhead (h : RW it B b w0 w s vs) (x : Int) : RW it B b w0 (w.setCell ⟨b, 13, none⟩ (.int .i64 x)) { s with ahead := x } vs :=
  h.set 13 _ _ (by omega) rfl (fun j _ => by simp only [enc]; by_cases e : j = 13 <;> simp [e])
theorem RW.setDay (h : RW it B b w0 w s vs) (k : Nat) (hk : k < 7) (x : Bool) : RW it B b w0 (w.setCell ⟨b, 3 + k, none⟩ (.bool x)) { s with days := fun j => if j = k then x else s.days j } vs :=
  h.set (3 + k) _ _ (by omega) rfl (fun j _ => by
    simp only [enc]
    by_cases e : j = 3 + k
    · subst e; rw [if_neg (by omega), if_neg (by omega), if_neg (by omega), if_pos (by omega), if_pos rfl, if_pos (by omega)]
    · rw [if_neg e]
      by_cases g : 3 ≤ j ∧ j < 10
      · rw [if_neg (by omega), if_neg (by omega), if_neg (by omega), if_pos (by omega), if_neg (by omega)]
        rw [if_neg (by omega), if_neg (by omega), if_neg (by omega), if_pos (by omega)]
      · by_cases g0 : j = 0
        · rw [if_pos g0, if_pos g0]
        · by_cases g1 : j = 1
          · rw [if_neg g0, if_pos g1, if_neg g0, if_pos g1]
          · by_cases g2 : j = 2
            · rw [if_neg g0, if_neg g1, if_pos g2, if_neg g0, if_neg g1, if_pos g2]
            · have g3 : ¬ j < 10 := by omega
              simp only [if_neg g0, if_neg g1, if_neg g2, if_neg g3])
theorem RW.setFree (h : RW it B b w0 w s vs) (k : Nat) (hk : k < 70) (x : Bool) : RW it B b w0 (w.setCell ⟨b, 21 + k, none⟩ (.bool x)) { s with free := fun j => if j = k then x else s.free j } vs :=
  h.set (21 + k) _ _ (by omega) rfl (fun j _ => by
    simp only [enc]
    by_cases e : j = 21 + k
    · subst e
      rw [if_neg (by omega), if_neg (by omega), if_neg (by omega), if_neg (by omega), if_neg (by omega), if_neg (by omega), if_neg (by omega), if_neg (by omega), if_neg (by omega), if_pos (by omega), if_pos rfl]
    · rw [if_neg e]
      by_cases g : j < 21
      · repeat (first | rfl | (split; · rfl))
      · rw [if_neg (by omega : ¬ j - 21 = k)])
theorem RW.daysC (h : RW it B b w0 w s vs) (d : Nat → Bool) (hd : ∀ j, j < 7 → s.days j = d j) : RW it B b w0 w { s with days := d } vs := by
  refine ⟨h.below, h.hB, h.hb, ?_, h.frz, h.own, h.apart, h.names, h.n0, h.iter⟩
  intro j hj
  rw [h.cell j hj]
  simp only [enc]
  by_cases g0 : j = 0
  · simp [g0]
  · by_cases g1 : j = 1
    · simp [g1]
    · by_cases g2 : j = 2
      · simp [g2]
      · by_cases g3 : j < 10
        · simp only [if_neg g0, if_neg g1, if_neg g2, if_pos g3]; rw [hd (j - 3) (by omega)]
        · simp only [if_neg g0, if_neg g1, if_neg g2, if_neg g3]
theorem RW.eqv (h : RW it B b w0 w s vs) {s' : RS} (e : s = s') : RW it B b w0 w s' vs := e ▸ h
end
end Go.Proofs.YtcnmbldikjljeaaDoor
