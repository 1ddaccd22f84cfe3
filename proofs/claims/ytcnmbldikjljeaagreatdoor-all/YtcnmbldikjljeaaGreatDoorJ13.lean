import Derived.Test.YtcnmbldikjljeaaGreatDoorJ12
import Derived.Deep.AppendLies
import Derived.Test.YtcnmbldikjljeaaGreatDoorJ09
namespace Go.Proofs.YtcnmbldikjljeaaGreatDoor
open Go.RowKit

theorem lookF_in {L : List Int} {s : Sg} (h : lookF L s ≠ 0) : s.2 < 0 ∧ s.1 < L.length := by
  unfold lookF at h; split at h
  · exact absurd rfl h
  · omega
theorem takeF_le (L : List Int) (s : Sg) (lo hi : Int) (h : s.1 ≤ L.length) : (takeF L s lo hi).2.1 ≤ L.length := by
  unfold takeF; split
  · simp [badF_I]; exact h
  · rename_i g; have := (lookF_in (L := L) (s := s) (by omega)).2; simp; omega
theorem timeF_le (L : List Int) (s : Sg) (h : s.1 ≤ L.length) : (timeF L s).2.1 ≤ L.length :=
  takeF_le _ _ _ _ (takeF_le _ _ _ _ (takeF_le _ _ _ _ (takeF_le _ _ _ _ (takeF_le _ _ _ _ h))))
theorem timeF_ge (L : List Int) (s : Sg) : s.1 ≤ (timeF L s).2.1 := by
  unfold timeF; simp only
  have h1 := takeF_I L s 48 50
  generalize takeF L s 48 50 = a at *
  have h2 := takeF_I L a.2 48 (if a.1 = 50 then 52 else 57)
  generalize takeF L a.2 48 (if a.1 = 50 then 52 else 57) = b at *
  have h3 := takeF_I L b.2 58 58
  generalize takeF L b.2 58 58 = c at *
  have h4 := takeF_I L c.2 48 (if 10 * (a.1 - 48) + (b.1 - 48) = 24 then 48 else 53)
  generalize takeF L c.2 48 (if 10 * (a.1 - 48) + (b.1 - 48) = 24 then 48 else 53) = d at *
  have h5 := takeF_I L d.2 48 (if 10 * (a.1 - 48) + (b.1 - 48) = 24 then 48 else 57)
  omega
theorem timeF_bd (L : List Int) (s : Sg) : 0 ≤ (timeF L s).1 ∧ (timeF L s).1 ≤ 3000 := by
  unfold timeF; simp only
  have l1 := takeF_lo L s 48 50
  have u1 := takeF_hi L s 48 50 (by omega)
  generalize takeF L s 48 50 = a at *
  have l2 := takeF_lo L a.2 48 (if a.1 = 50 then 52 else 57)
  have u2 := takeF_hi L a.2 48 (if a.1 = 50 then 52 else 57) (by split <;> omega)
  generalize takeF L a.2 48 (if a.1 = 50 then 52 else 57) = b at *
  generalize takeF L b.2 58 58 = c at *
  have l4 := takeF_lo L c.2 48 (if 10 * (a.1 - 48) + (b.1 - 48) = 24 then 48 else 53)
  have u4 := takeF_hi L c.2 48 (if 10 * (a.1 - 48) + (b.1 - 48) = 24 then 48 else 53) (by split <;> omega)
  generalize takeF L c.2 48 (if 10 * (a.1 - 48) + (b.1 - 48) = 24 then 48 else 53) = d at *
  have l5 := takeF_lo L d.2 48 (if 10 * (a.1 - 48) + (b.1 - 48) = 24 then 48 else 57)
  have u5 := takeF_hi L d.2 48 (if 10 * (a.1 - 48) + (b.1 - 48) = 24 then 48 else 57) (by split <;> omega)
  generalize takeF L d.2 48 (if 10 * (a.1 - 48) + (b.1 - 48) = 24 then 48 else 57) = e at *
  split at u2 <;> split at u4 <;> split at u5 <;> omega
theorem dayOf_le (a b : Int) : dayOf a b ≤ 7 := by unfold dayOf; repeat (first | (split; · omega) | omega)
theorem weekdayF_bd (L : List Int) (s : Sg) : 0 ≤ (weekdayF L s).1 ∧ (weekdayF L s).1 ≤ 6 := by
  unfold weekdayF; split
  · split
    · simp; omega
    · simp
  · simp
theorem weekdayF_I (L : List Int) (s : Sg) (h : s.1 ≤ L.length) : s.1 ≤ (weekdayF L s).2.1 ∧ (weekdayF L s).2.1 ≤ L.length := by
  unfold weekdayF; split
  · rename_i g
    have h1 := (lookF_in (L := L) (s := s) (by intro e; rw [e] at g; simp [isFirst] at g)).2
    split
    · rename_i g2
      have h2 := (lookF_in (L := L) (s := (s.1 + 1, s.2)) (by intro e; rw [e] at g2; simp [dayOf] at g2)).2
      simp at h2 ⊢; omega
    · simp [badF_I]; omega
  · simp [badF_I]; exact h

def daysF (L : List Int) : Nat → Sg → List Int → List Int × Sg
  | 0, s, l => (l, s)
  | f + 1, s, l => if lookF L s = 44 then daysF L f (weekdayF L (s.1 + 1, s.2)).2 (l ++ [(weekdayF L (s.1 + 1, s.2)).1]) else (l, s)
/-- what one span marks -/
def markF (wk : Nat → Bool) (l : List Int) (a b : Int) (j : Nat) : Bool := wk j || (l.contains ((j / 1440 : Nat) : Int) && decide (a ≤ ((j % 1440 : Nat) : Int)) && decide (((j % 1440 : Nat) : Int) < b))
def spanF (L : List Int) (s : Sg) : Int × Int × Sg :=
  let a := timeF L s
  let d := takeF L a.2 45 45
  let b := timeF L d.2
  (a.1, b.1, if b.1 ≤ a.1 then badF b.2 (b.2.1 - 1) else b.2)
def spansF (L : List Int) (l : List Int) : Nat → Sg → (Nat → Bool) → Sg × (Nat → Bool)
  | 0, s, wk => (s, wk)
  | f + 1, s, wk =>
    if s.2 < 0 then
      (if lookF L (spanF L s).2.2 = 32 then spansF L l f ((spanF L s).2.2.1 + 1, (spanF L s).2.2.2) (markF wk l (spanF L s).1 (spanF L s).2.1)
       else ((spanF L s).2.2, markF wk l (spanF L s).1 (spanF L s).2.1))
    else (s, wk)
def entryF (L : List Int) (s : Sg) (wk : Nat → Bool) : Sg × (Nat → Bool) :=
  let d := weekdayF L s
  let ds := daysF L (L.length + 1) d.2 [d.1]
  spansF L ds.1 (L.length + 1) (takeF L ds.2 32 32).2 wk

def mk4 (wk : Nat → Bool) (l : List Int) (a b d m : Int) (j : Nat) : Bool := markF wk l a b j || (decide (((j / 1440 : Nat) : Int) = d) && decide (a ≤ ((j % 1440 : Nat) : Int)) && decide (((j % 1440 : Nat) : Int) < m))
theorem mk4_start (wk : Nat → Bool) (l : List Int) (a b d : Int) (j : Nat) : markF wk l a b j = mk4 wk l a b d a j := by
  unfold mk4
  by_cases h : a ≤ ((j % 1440 : Nat) : Int)
  · rw [decide_eq_false (show ¬ ((j % 1440 : Nat) : Int) < a by omega)]; simp
  · rw [decide_eq_false h]; simp
theorem mk4_step (wk : Nat → Bool) (l : List Int) (a b d m : Int) (hd : 0 ≤ d) (hm : 0 ≤ m) (hm2 : m < 1440) (ha : a ≤ m) (j : Nat) : (mk4 wk l a b d m j || decide (j = (d * 1440 + m).toNat)) = mk4 wk l a b d (m + 1) j := by
  unfold mk4
  rw [Bool.or_assoc]
  congr 1
  rw [Bool.eq_iff_iff]
  simp only [Bool.or_eq_true, Bool.and_eq_true, decide_eq_true_eq]
  omega
theorem mk4_end (wk : Nat → Bool) (l : List Int) (k : Nat) (hk : k < l.length) (a b m : Int) (_h1 : a ≤ m) (h2 : m ≤ b ∨ m = a) (h3 : ¬ (m < b ∧ m < 1440)) (j : Nat) : mk4 wk (l.take k) a b l[k] m j = markF wk (l.take (k + 1)) a b j := by
  unfold mk4 markF
  rw [List.take_succ_eq_append_getElem hk, Bool.or_assoc]
  congr 1
  rw [Bool.eq_iff_iff]
  simp only [Bool.or_eq_true, Bool.and_eq_true, decide_eq_true_eq, List.contains_iff_mem, List.mem_append, List.mem_singleton]
  have hx : j % 1440 < 1440 := Nat.mod_lt _ (by omega)
  constructor
  · rintro (⟨⟨p, q⟩, r⟩ | ⟨⟨p, q⟩, r⟩)
    · exact ⟨⟨.inl p, q⟩, r⟩
    · exact ⟨⟨.inr p, q⟩, by omega⟩
  · rintro ⟨⟨p | p, q⟩, r⟩
    · exact .inl ⟨⟨p, q⟩, r⟩
    · exact .inr ⟨⟨p, q⟩, by omega⟩
theorem markF_none (wk : Nat → Bool) (a b : Int) (j : Nat) : wk j = markF wk [] a b j := by simp [markF]

/-- a list of bools in memory -/
structure BC (w : World) (g n : Nat) (f : Nat → Bool) : Prop where
  lt : g < w.heap.size
  cell : ∀ j, j < n → w.cell? ⟨g, j, none⟩ = some (.bool (f j))
  frz : ∀ j, w.frozen? ⟨g, j, none⟩ = false
theorem BC.on {w w' : World} {g n b : Nat} {f : Nat → Bool} (h : BC w g n f) (hb : But b w w') (hn : g ≠ b) : BC w' g n f :=
  ⟨Nat.lt_of_lt_of_le h.lt hb.size, fun j hj => (hb.cell h.lt hn).trans (h.cell j hj), fun j => (hb.frozen h.lt hn).trans (h.frz j)⟩
theorem BC.set {w : World} {g n : Nat} {f : Nat → Bool} (h : BC w g n f) (k : Nat) : BC (w.setCell ⟨g, k, none⟩ (.bool true)) g n (fun j => f j || decide (j = k)) := by
  refine ⟨by simpa using h.lt, fun j hj => ?_, fun j => by rw [World.frozen?_setCell]; exact h.frz j⟩
  by_cases e : j = k
  · subst e; rw [sc_eq (h.cell j hj)]; simp
  · rw [sc_ne (by omega), h.cell j hj]; simp [e]
theorem BC.congr {w : World} {g n : Nat} {f f' : Nat → Bool} (h : BC w g n f) (e : ∀ j, j < n → f j = f' j) : BC w g n f' :=
  ⟨h.lt, fun j hj => by rw [← e j hj]; exact h.cell j hj, h.frz⟩
theorem BC.grown {w w' : World} {g n : Nat} {f : Nat → Bool} {row : Option Nat} (h : BC w g n f) (hb : w.grownBy w' row) (hn : some g ≠ row) : BC w' g n f :=
  ⟨Nat.lt_of_lt_of_le h.lt hb.size, fun j hj => (World.cell?_of_block (hb.block g h.lt hn)).trans (h.cell j hj), fun j => (World.frozen?_of_block (hb.block g h.lt hn)).trans (h.frz j)⟩
theorem FC.grown {w w' : World} {b : Nat} {vL : Value} {I P : Int} {row : Option Nat} (h : FC w b vL I P) (hb : w.grownBy w' row) (hn : some b ≠ row) : FC w' b vL I P := by
  have hc : ∀ j, w'.cell? ⟨b, j, none⟩ = w.cell? ⟨b, j, none⟩ := fun j => World.cell?_of_block (hb.block b h.hb hn)
  have hf : ∀ j, w'.frozen? ⟨b, j, none⟩ = w.frozen? ⟨b, j, none⟩ := fun j => World.frozen?_of_block (hb.block b h.hb hn)
  exact ⟨Nat.lt_of_lt_of_le h.hb hb.size, (hc 0).trans h.c0, (hc 1).trans h.c1, (hc 2).trans h.c2, (hf 1).trans h.f1, (hf 2).trans h.f2⟩
theorem Row.grown {b : Nat} {w w' : World} {vL : Value} {L : List Int} {row : Option Nat} (h : Row w b vL L) (hb : w.grownBy w' row) (hn : ∀ g, vL.ownBlock = some g → some g ≠ row) : Row w' b vL L := by
  refine ⟨h.len, h.vals, ?_⟩
  rcases h.row with a | ⟨g, cap, h1, h2, h3, h4⟩
  · exact .inl a
  · have hg : some g ≠ row := hn g (by rw [h1]; rfl)
    exact .inr ⟨g, cap, h1, h2, Nat.lt_of_lt_of_le h3 hb.size, fun i x hx => (World.cell?_of_block (hb.block g h3 hg)).trans (h4 i x hx)⟩
end Go.Proofs.YtcnmbldikjljeaaGreatDoor
namespace Go.Proofs.YtcnmbldikjljeaaGreatDoor
open Go.RowKit

/-- w' is w but for blocks b and g, and new blocks -/
structure But2 (b g : Nat) (w w' : World) : Prop where
  os : w'.os = w.os
  tape : w'.tape = w.tape
  output : w'.output = w.output
  size : w.heap.size ≤ w'.heap.size
  block : ∀ k, k < w.heap.size → k ≠ b → k ≠ g → w'.heap[k]? = w.heap[k]?
theorem But2.refl (b g : Nat) (w : World) : But2 b g w w := ⟨rfl, rfl, rfl, Nat.le_refl _, fun _ _ _ _ => rfl⟩
theorem But2.trans {b g : Nat} {x y z : World} (h : But2 b g x y) (k : But2 b g y z) : But2 b g x z :=
  ⟨k.os.trans h.os, k.tape.trans h.tape, k.output.trans h.output, Nat.le_trans h.size k.size, fun i hi h1 h2 => (k.block i (Nat.lt_of_lt_of_le hi h.size) h1 h2).trans (h.block i hi h1 h2)⟩
theorem But2.of {b g : Nat} {w w' : World} (h : But b w w') : But2 b g w w' := ⟨h.os, h.tape, h.output, h.size, fun k hk h1 _ => h.block k hk (by simpa using h1)⟩
theorem But2.set (b g : Nat) (w : World) (j : Nat) (v : Value) : But2 b g w (w.setCell ⟨g, j, none⟩ v) :=
  ⟨rfl, rfl, rfl, by simp [World.setCell], fun i _ _ h2 => Below.heap_setCell _ _ _ _ h2⟩
theorem But2.grownNew {b g : Nat} {w x y : World} {row : Option Nat} (h : But2 b g w x) (k : x.grownBy y row) (hr : ∀ r, row = some r → w.heap.size ≤ r) : But2 b g w y :=
  ⟨k.os.trans h.os, k.tape.trans h.tape, k.output.trans h.output, Nat.le_trans h.size k.size, fun i hi h1 h2 => (k.block i (Nat.lt_of_lt_of_le hi h.size) (fun e => by have := hr i e.symm; omega)).trans (h.block i hi h1 h2)⟩

def ints (l : List Int) : List Value := l.map (Value.int .i64)

theorem daysF_go (L : List Int) (s : Sg) (l : List Int) (f : Nat) (h : lookF L s = 44) : daysF L (f + 1) s l = daysF L f (weekdayF L (s.1 + 1, s.2)).2 (l ++ [(weekdayF L (s.1 + 1, s.2)).1]) := by
  simp only [daysF]; rw [if_pos h]
theorem daysF_end (L : List Int) (s : Sg) (l : List Int) (f : Nat) (h : ¬ lookF L s = 44) : daysF L f s l = (l, s) := by
  cases f with
  | zero => rfl
  | succ f => simp only [daysF]; rw [if_neg h]

/-- where the reader stands, off the world -/
def Iof (b : Nat) (w : World) : Nat := match w.cell? ⟨b, 1, none⟩ with | some (.int _ n) => n.toNat | _ => 0
theorem Iof_of {w : World} {b : Nat} {vL : Value} {I P : Int} (h : FC w b vL I P) : Iof b w = I.toNat := by unfold Iof; rw [h.c1]
theorem own_kept {x y : World} {B b : Nat} {t : TypeId} {v : Value} {n : Nat} {xs : List Value} (h : x.ownsRow B t 1 v n xs) (hb : But b x y) (hB : b < B) : y.ownsRow B t 1 v n xs :=
  h.kept hb (by
    cases hv : v.ownBlock with
    | none => exact .inl rfl
    | some k => right; have := (h.lt k hv).1; simp; omega)
theorem ints_snoc (l : List Int) (x : Int) : ints (l ++ [x]) = ints l ++ [.int .i64 x] := by simp [ints]

section
variable {w : World} {b g : Nat} {vL : Value} {L : List Int} {I P : Int} {wk : Nat → Bool}
set_option maxRecDepth 100000 in
set_option maxHeartbeats 4000000 in
theorem entryF_any (C : FC w b vL I P) (R : Row w b vL L) (hI : 0 ≤ I) (hI2 : I ≤ L.length) (K : BC w g 10080 wk) (hgb : g ≠ b) (hrow : ∀ k, vL.ownBlock = some k → k ≠ g) :
    Calls Tryz.prog 131 #[.pointer (some ⟨b, 0, none⟩), .slice (some ⟨g, 0, none⟩) 10080 10080] w fun e w' => e = .returned (.tuple #[]) ∧ FC w' b vL (entryF L (I, P) wk).1.1 (entryF L (I, P) wk).1.2 ∧ BC w' g 10080 (entryF L (I, P) wk).2 ∧ But2 b g w w' := by
  obtain ⟨r, hr⟩ : ∃ r, entryF L (I, P) wk = r := ⟨_, rfl⟩
  rw [hr]
  unfold entryF at hr
  simp only at hr
  have HR := hide hr
  clear hr
  have hlen := R.len
  have wbd := weekdayF_bd L (I, P)
  have wI := weekdayF_I L (I, P) hI2
  have hbw := C.hb
  have hgw := K.lt
  have hvL : ∀ k, vL.ownBlock = some k → k < w.heap.size := by
    intro k hk
    rcases R.row with ⟨e, _⟩ | ⟨q, cap, e, _, h3, _⟩
    · rw [e] at hk; cases hk
    · rw [e] at hk; simp [Value.ownBlock] at hk; omega
  have HvL := hide hvL
  have Hrow := hide hrow
  clear hvL hrow
  obtain ⟨i0, hi, hz0, hz1, hz2⟩ := info_parts intInfo
  have HI := hide hi
  clear hi
  go_enter Tryz.func131, Tryz.ntmps131
  go_wp2_with fail
  refine (weekdayF_any C R hI (by omega)).mono ?_
  rintro e w1 ⟨rfl, C1, b1⟩
  have R1 := R.on b1
  have K1 := K.on b1 hgb
  have hs1 := b1.size
  generalize weekdayF L (I, P) = t1 at *
  obtain ⟨d, I1, P1⟩ := t1
  simp only at wbd wI C1 HR ⊢
  go_wp2_with fail
  have hown1 : (w1.alloc (Obj.cells #[.int .i64 d] 3)).ownsRow w.heap.size 3 1 (.slice (some ⟨w1.heap.size, 0, none⟩) 1 1) 1 (ints [d]) :=
    World.ownsRow_lit w1 #[.int .i64 d] 1 hs1 (by unfold maxLen; omega) rfl
  go_loopw [4] (fun v wr => ∃ (fuel : Nat) (l : List Int) (I2 P2 : Int), FC wr b vL I2 P2 ∧ Row wr b vL L ∧ BC wr g 10080 wk ∧ But2 b g w wr ∧ wr.ownsRow w.heap.size 3 1 v l.length (ints l) ∧ 0 ≤ I2 ∧ I2 ≤ L.length ∧ (l.length : Int) ≤ I2 + 1 ∧ 0 < l.length ∧ Hid (∀ x ∈ l, 0 ≤ x ∧ x ≤ 6) ∧ Hid (daysF L fuel (I2, P2) l = daysF L (L.length + 1) (I1, P1) [d]) ∧ (L.length : Int) < I2 + fuel) (fun _ wr => L.length - Iof b wr)
  case atStart =>
    have hg := World.grownBy_alloc w1 (Obj.cells #[.int .i64 d] 3) none
    exact ⟨L.length + 1, [d], I1, P1, C1.grown hg (by simp), R1.grown hg (by simp), K1.grown hg (by simp), (But2.of b1).grownNew hg (by simp), hown1, by omega, by omega, by simp; omega, by simp, by unfold Hid; intro x hx; simp at hx; omega, rfl, by omega⟩
  case round =>
    obtain ⟨fuel, l, I2, P2, C2, R2, K2, b2, hown, hI0, hIl, hll, hl0, Hl, HD, hf⟩ := hrel
    have hm := Iof_of C2
    by_cases h44 : lookF L (I2, P2) = 44
    · have e1 : (lookF L (I2, P2) == 44) = true := by simp [h44]
      have hin := (lookF_in (L := L) (s := (I2, P2)) (by omega)).2
      simp only at hin
      obtain ⟨fuel, rfl⟩ : ∃ f', fuel = f' + 1 := ⟨fuel - 1, by omega⟩
      have HD2 := hide (daysF_go L (I2, P2) l fuel h44)
      clear h44
      have wbd2 := weekdayF_bd L (I2 + 1, P2)
      have wI2 := weekdayF_I L (I2 + 1, P2) (by simp; omega)
      go_wp2_with fail
      refine (look_any C2 R2 hI0).mono ?_
      rintro e w2 ⟨rfl, n2, rfl⟩
      have C3 := C2.drewN n2
      have c3 := C3.c1
      have f3 := C3.f1
      have b3 : But b wr (wr.drewN n2) := But.drewN _ _ _
      generalize wr.drewN n2 = w3 at *
      go_wp2_with fail
      have b4 := b3.trans (But.set b w3 1 (.int .i64 (I2 + 1)))
      refine (weekdayF_any (C3.setI (I2 + 1)) (R2.on b4) (by omega) (by omega)).mono ?_
      rintro e w5 ⟨rfl, C5, b5⟩
      have b6 := b4.trans b5
      have R6 := R2.on b6
      have K6 := K2.on b6 hgb
      have hown6 := own_kept hown b6 hbw
      have b7 : But2 b g w w5 := b2.trans (But2.of b6)
      have hs5 := b7.size
      generalize weekdayF L (I2 + 1, P2) = t2 at *
      obtain ⟨d2, I5, P5⟩ := t2
      simp only at wbd2 wI2 C5 HD2 ⊢
      clear b3 b4 b5 b6 C3 c3 f3 hown
      go_wp2_with (at_builtin; refine wpList_append_lies _ rfl _ _ 24 rfl w.heap.size 3 i0 (.int .i64 0) 1 8 Tryz.underlying24 HI.out hz0 hz1 hz2 rfl (by decide) _ l.length (ints l) (by rfl) (hown6.alloc _) ⟨w5.heap.size, 0, none⟩ 1 1 [.int .i64 d2] (by rfl) (by rfl) (cell_one_new _ _ _) (by simp [Value.oneCell']) (by omega) (by unfold maxLen; omega) (by omega) (by simp; omega) (w5.heap.size + 1) (by simp) ?_; intro gg cap w6 hown7 hgrow hat hlt)
      have hnew : ∀ r, u4.ownBlock = some r → w.heap.size ≤ r := fun r hr => (hown6.lt r hr).1
      have hgA := World.grownBy_alloc w5 (Obj.cells #[.int .i64 d2] 3) u4.ownBlock
      have C8 := (C5.grown hgA (fun e => by have := hnew b e.symm; omega)).grown hgrow (fun e => by have := hnew b e.symm; omega)
      have K8 := (K6.grown hgA (fun e => by have := hnew g e.symm; omega)).grown hgrow (fun e => by have := hnew g e.symm; omega)
      have hR : ∀ k, vL.ownBlock = some k → some k ≠ u4.ownBlock := fun k hk e => by have h1 := HvL.out k hk; have h2 := hnew k e.symm; omega
      have R8 := (R6.grown hgA hR).grown hgrow hR
      have b8 : But2 b g w w6 := (b7.grownNew hgA hnew).grownNew hgrow hnew
      clear hgrow hgA hown6
      go_roundw
      case rel =>
        refine ⟨fuel, l ++ [d2], I5, P5, C8, R8, K8, b8, by rw [ints_snoc, List.length_append]; exact hown7, by omega, by omega, by simp; omega, by simp, ?_, ?_, by omega⟩
        · unfold Hid; intro x hx
          rcases List.mem_append.1 hx with hx | hx
          · exact Hl.out x hx
          · simp at hx; omega
        · unfold Hid; rw [← HD2.out]; exact HD.out
      case measure => rw [Iof_of C8, hm]; omega
    · have e1 : (lookF L (I2, P2) == 44) = false := by simp [h44]
      have HE := hide ((daysF_end L (I2, P2) l fuel h44).symm.trans HD.out)
      rw [← HE.out] at HR
      simp only at HR
      clear h44 HD HE
      obtain ⟨gl, capl, hv, hgl, _⟩ := hown.form hl0
      subst hv
      have i3 := takeF_I L (I2, P2) 32 32
      have l3 := takeF_le L (I2, P2) 32 32 hIl
      go_wp2_with fail
      refine (look_any C2 R2 hI0).mono ?_
      rintro e w2 ⟨rfl, n2, rfl⟩
      have C3 := C2.drewN n2
      have b3 : But b wr (wr.drewN n2) := But.drewN _ _ _
      generalize wr.drewN n2 = w3 at *
      go_wp2_with fail
      refine (takeF_any C3 (R2.on b3) hI0 (by omega) _ _).mono ?_
      rintro e w4 ⟨rfl, C4, b4⟩
      have b5 := b3.trans b4
      have R4 := R2.on b5
      have K4 := K2.on b5 hgb
      have hown4 := own_kept hown b5 hbw
      have b6 : But2 b g w w4 := b2.trans (But2.of b5)
      generalize takeF L (I2, P2) 32 32 = t3 at *
      obtain ⟨x3, I3, P3⟩ := t3
      simp only at i3 l3 C4 HR ⊢
      clear b3 b4 b5 C3 hown C2 R2 K2 b2 hm
      go_wp2_with fail
      go_loopw [7] (fun _ wq => ∃ (fuel : Nat) (I4 P4 : Int) (wk4 : Nat → Bool), FC wq b vL I4 P4 ∧ Row wq b vL L ∧ BC wq g 10080 wk4 ∧ But2 b g w wq ∧ wq.ownsRow w.heap.size 3 1 (.slice (some ⟨gl, 0, none⟩) l.length capl) l.length (ints l) ∧ 0 ≤ I4 ∧ I4 ≤ L.length ∧ Hid (spansF L l fuel (I4, P4) wk4 = r) ∧ (L.length : Int) < I4 + fuel) (fun _ wq => L.length - Iof b wq)
      case atStart => exact ⟨L.length + 1, I3, P3, wk, C4, R4, K4, b6, hown4, by omega, by omega, HR, by omega⟩
      case round =>
        clear C4 R4 K4 b6 hown4 HR wI wbd C1 R1 K1 b1 hown1
        obtain ⟨fuel, I4, P4, wk4, C4, R4, K4, b4, hown, hI40, hI4l, HR, hf⟩ := hrel
        have c2 := C4.c2
        have hm := Iof_of C4
        obtain ⟨fuel, rfl⟩ : ∃ f', fuel = f' + 1 := ⟨fuel - 1, by omega⟩
        by_cases hP : P4 < 0
        · have HS := HR.out
          simp only [spansF] at HS
          rw [if_pos hP] at HS
          have HR2 := hide HS
          clear HS
          unfold spanF at HR2
          simp only at HR2
          have t1a := timeF_bd L (I4, P4)
          have t1b := timeF_le L (I4, P4) hI4l
          have t1c := timeF_ge L (I4, P4)
          go_wp2_with fail
          refine (timeF_any C4 R4 hI40 (by omega)).mono ?_
          rintro e w5 ⟨rfl, C5, b5⟩
          have R5 := R4.on b5
          generalize timeF L (I4, P4) = t1 at *
          obtain ⟨a, I5, P5⟩ := t1
          simp only at t1a t1b t1c C5 HR2 ⊢
          have i6 := takeF_I L (I5, P5) 45 45
          have l6 := takeF_le L (I5, P5) 45 45 t1b
          go_wp2_with fail
          refine (takeF_any C5 R5 (by omega) (by omega) _ _).mono ?_
          rintro e w6 ⟨rfl, C6, b6⟩
          have R6 := R5.on b6
          generalize takeF L (I5, P5) 45 45 = t2 at *
          obtain ⟨x6, I6, P6⟩ := t2
          simp only at i6 l6 C6 HR2 ⊢
          have t3a := timeF_bd L (I6, P6)
          have t3b := timeF_le L (I6, P6) l6
          have t3c := timeF_ge L (I6, P6)
          go_wp2_with fail
          refine (timeF_any C6 R6 (by omega) (by omega)).mono ?_
          rintro e w7 ⟨rfl, C7, b7⟩
          have b8 := b5.trans (b6.trans b7)
          generalize timeF L (I6, P6) = t3 at *
          obtain ⟨bt, I7, P7⟩ := t3
          simp only at t3a t3b t3c C7 HR2 ⊢
          clear b5 b6 b7 C5 C6 R5 R6
          have c7 := C7.c1
          by_cases hab : bt ≤ a
          · simp only [if_pos hab] at HR2
            go_wp2_with fail
            refine (bad_any C7 _).mono ?_
            rintro e w8 ⟨rfl, C8, b9⟩
            have b10 := b8.trans b9
            have R8 := R4.on b10
            have K8 := K4.on b10 hgb
            have hown8 := own_kept hown b10 hbw
            have b11 : But2 b g w w8 := b4.trans (But2.of b10)
            have hI8 := badF_I (I7, P7) (I7 - 1)
            generalize badF (I7, P7) (I7 - 1) = s8 at *
            obtain ⟨I8, P8⟩ := s8
            simp only at hI8 C8 HR2
            subst hI8
            clear b8 b9 b10 C7 c7 R4 K4 hown b4 C4 c2
            go_wp2_with fail
            go_loopw [7, 8] (fun i _ wq => ∃ k : Nat, k ≤ l.length ∧ i = .int .i64 k ∧ FC wq b vL I8 P8 ∧ Row wq b vL L ∧ BC wq g 10080 (markF wk4 (l.take k) a bt) ∧ But2 b g w wq ∧ wq.ownsRow w.heap.size 3 1 (.slice (some ⟨gl, 0, none⟩) l.length capl) l.length (ints l)) (fun i _ _ => l.length - (intOf i).toNat)
            case atStart => exact ⟨0, Nat.zero_le _, rfl, C8, R8, K8.congr (fun j _ => by rw [List.take_zero]; exact markF_none _ _ _ _), b11, hown8⟩
            case round =>
              clear C8 R8 K8 b11 hown8
              obtain ⟨k, hk, rfl, C9, R9, K9, b9, own9⟩ := hrel
              by_cases hkl : k < l.length
              · have dbd := Hl.out l[k] (List.getElem_mem hkl)
                have hkl' : (k : Int) < l.length := by omega
                go_wp2_with fail
                go_loopw [8] (fun m wz => ∃ mm : Int, m = .int .i64 mm ∧ a ≤ mm ∧ (mm ≤ bt ∨ mm = a) ∧ FC wz b vL I8 P8 ∧ Row wz b vL L ∧ BC wz g 10080 (mk4 wk4 (l.take k) a bt l[k] mm) ∧ But2 b g w wz ∧ wz.ownsRow w.heap.size 3 1 (.slice (some ⟨gl, 0, none⟩) l.length capl) l.length (ints l)) (fun m _ => 3001 - (intOf m).toNat)
                case atStart => exact ⟨a, rfl, Int.le_refl _, .inr rfl, C9, R9, K9.congr (fun j _ => mk4_start _ _ _ _ _ _), b9, own9⟩
                case round =>
                  clear C9 R9 K9 b9 own9
                  obtain ⟨mm, rfl, hm1, hm2, C10, R10, K10, b10, own10⟩ := hrel
                  have hin : ¬ (mm < bt ∧ mm < 1440) := by omega
                  have h1 : ¬ mm < bt := by omega
                  have HE := hide (fun j => mk4_end wk4 l k hkl a bt mm hm1 hm2 hin j)
                  clear hin
                  go_wp2_with fail
                  go_roundw
                  case rel => exact ⟨k + 1, by omega, by go_num, C10, R10, K10.congr (fun j _ => HE.out j), b10, own10⟩
                  case measure => simp [intOf]; omega
              · have hke : k = l.length := by omega
                have K11 : BC wr g 10080 (markF wk4 l a bt) := K9.congr (fun j _ => by rw [hke, List.take_length])
                clear K9 hke
                by_cases h32 : lookF L (I8, P8) = 32
                · have e1 : (lookF L (I8, P8) != 32) = false := by simp [h32]
                  have hin := (lookF_in (L := L) (s := (I8, P8)) (by omega)).2
                  simp only at hin
                  rw [if_pos h32] at HR2
                  clear h32
                  go_wp2_with fail
                  refine (look_any C9 R9 (by omega)).mono ?_
                  rintro e w9 ⟨rfl, n9, rfl⟩
                  have C12 := C9.drewN n9
                  have c12 := C12.c1
                  have f12 := C12.f1
                  have bz : But b wr (wr.drewN n9) := But.drewN _ _ _
                  generalize wr.drewN n9 = w9 at *
                  have bz2 := bz.trans (But.set b w9 1 (.int .i64 (I8 + 1)))
                  have C13 := C12.setI (I8 + 1)
                  go_wp2_with fail
                  go_roundw
                  case rel => exact ⟨fuel, I8 + 1, P8, markF wk4 l a bt, C13, R9.on bz2, K11.on bz2 hgb, b9.trans (But2.of bz2), own_kept own9 bz2 hbw, by omega, by omega, HR2, by omega⟩
                  case measure => rw [Iof_of C13, hm]; omega
                · have e1 : (lookF L (I8, P8) != 32) = true := by simp [h32]
                  rw [if_neg h32] at HR2
                  clear h32
                  go_wp2_with fail
                  refine (look_any C9 R9 (by omega)).mono ?_
                  rintro e w9 ⟨rfl, n9, rfl⟩
                  go_wp2_with fail
                  refine bodyPost_ret (v := .tuple #[]) (results_none (by rfl) _ _ _) rfl ?_
                  rw [← HR2.out]
                  exact ⟨rfl, C9.drewN _, K11.on (But.drewN b wr n9) hgb, b9.trans (But2.of (But.drewN b wr n9))⟩
          · simp only [if_neg hab] at HR2
            have R8 := R4.on b8
            have K8 := K4.on b8 hgb
            have hown8 := own_kept hown b8 hbw
            have b11 : But2 b g w w7 := b4.trans (But2.of b8)
            clear b8 R4 K4 hown b4 C4 c2
            go_wp2_with fail
            go_loopw [7, 8] (fun i _ wq => ∃ k : Nat, k ≤ l.length ∧ i = .int .i64 k ∧ FC wq b vL I7 P7 ∧ Row wq b vL L ∧ BC wq g 10080 (markF wk4 (l.take k) a bt) ∧ But2 b g w wq ∧ wq.ownsRow w.heap.size 3 1 (.slice (some ⟨gl, 0, none⟩) l.length capl) l.length (ints l)) (fun i _ _ => l.length - (intOf i).toNat)
            case atStart => exact ⟨0, Nat.zero_le _, rfl, C7, R8, K8.congr (fun j _ => by rw [List.take_zero]; exact markF_none _ _ _ _), b11, hown8⟩
            case round =>
              clear C7 R8 K8 b11 hown8
              obtain ⟨k, hk, rfl, C9, R9, K9, b9, own9⟩ := hrel
              by_cases hkl : k < l.length
              · have dbd := Hl.out l[k] (List.getElem_mem hkl)
                have hkl' : (k : Int) < l.length := by omega
                go_wp2_with fail
                go_loopw [8] (fun m wz => ∃ mm : Int, m = .int .i64 mm ∧ a ≤ mm ∧ (mm ≤ bt ∨ mm = a) ∧ FC wz b vL I7 P7 ∧ Row wz b vL L ∧ BC wz g 10080 (mk4 wk4 (l.take k) a bt l[k] mm) ∧ But2 b g w wz ∧ wz.ownsRow w.heap.size 3 1 (.slice (some ⟨gl, 0, none⟩) l.length capl) l.length (ints l)) (fun m _ => 3001 - (intOf m).toNat)
                case atStart => exact ⟨a, rfl, Int.le_refl _, .inr rfl, C9, R9, K9.congr (fun j _ => mk4_start _ _ _ _ _ _), b9, own9⟩
                case round =>
                  clear C9 R9 K9 b9 own9
                  obtain ⟨mm, rfl, hm1, hm2, C10, R10, K10, b10, own10⟩ := hrel
                  by_cases hin : mm < bt ∧ mm < 1440
                  · obtain ⟨hin1, hin2⟩ := hin
                    have e0 := own10.cellAt k (by omega)
                    have e0' : (ints l)[k]? = some (.int .i64 l[k]) := by simp [ints, hkl]
                    rw [e0'] at e0
                    have e2 := K10.cell (l[k] * 1440 + mm).toNat (by omega)
                    have e3 := K10.frz (l[k] * 1440 + mm).toNat
                    clear e0'
                    generalize l[k] = dk at *
                    have bs : But g wr (wr.setCell ⟨g, (dk * 1440 + mm).toNat, none⟩ (.bool true)) := But.set _ _ _ _
                    go_wp2_with fail
                    go_roundw
                    case rel => exact ⟨mm + 1, rfl, by omega, by omega, C10.grown bs (by simp; omega), R10.grown bs (fun q hq => by have := Hrow.out q hq; simpa using this), (K10.set _).congr (fun j _ => mk4_step _ _ _ _ _ _ (by omega) (by omega) (by omega) (by omega) _), b10.trans (But2.set _ _ _ _ _), own_kept own10 bs hgw⟩
                    case measure => simp [intOf]; omega
                  · have hex : (¬ mm < bt) ∨ (mm < bt ∧ ¬ mm < 1440) := by omega
                    have HE := hide (fun j => mk4_end wk4 l k hkl a bt mm hm1 hm2 hin j)
                    clear hin
                    rcases hex with h1 | ⟨h1, h2⟩
                    all_goals
                      go_wp2_with fail
                      go_roundw
                      case rel => exact ⟨k + 1, by omega, by go_num, C10, R10, K10.congr (fun j _ => HE.out j), b10, own10⟩
                      case measure => simp [intOf]; omega
              · have hke : k = l.length := by omega
                have K11 : BC wr g 10080 (markF wk4 l a bt) := K9.congr (fun j _ => by rw [hke, List.take_length])
                clear K9 hke
                by_cases h32 : lookF L (I7, P7) = 32
                · have e1 : (lookF L (I7, P7) != 32) = false := by simp [h32]
                  have hin := (lookF_in (L := L) (s := (I7, P7)) (by omega)).2
                  simp only at hin
                  rw [if_pos h32] at HR2
                  clear h32
                  go_wp2_with fail
                  refine (look_any C9 R9 (by omega)).mono ?_
                  rintro e w9 ⟨rfl, n9, rfl⟩
                  have C12 := C9.drewN n9
                  have c12 := C12.c1
                  have f12 := C12.f1
                  have bz : But b wr (wr.drewN n9) := But.drewN _ _ _
                  generalize wr.drewN n9 = w9 at *
                  have bz2 := bz.trans (But.set b w9 1 (.int .i64 (I7 + 1)))
                  have C13 := C12.setI (I7 + 1)
                  go_wp2_with fail
                  go_roundw
                  case rel => exact ⟨fuel, I7 + 1, P7, markF wk4 l a bt, C13, R9.on bz2, K11.on bz2 hgb, b9.trans (But2.of bz2), own_kept own9 bz2 hbw, by omega, by omega, HR2, by omega⟩
                  case measure => rw [Iof_of C13, hm]; omega
                · have e1 : (lookF L (I7, P7) != 32) = true := by simp [h32]
                  rw [if_neg h32] at HR2
                  clear h32
                  go_wp2_with fail
                  refine (look_any C9 R9 (by omega)).mono ?_
                  rintro e w9 ⟨rfl, n9, rfl⟩
                  go_wp2_with fail
                  refine bodyPost_ret (v := .tuple #[]) (results_none (by rfl) _ _ _) rfl ?_
                  rw [← HR2.out]
                  exact ⟨rfl, C9.drewN _, K11.on (But.drewN b wr n9) hgb, b9.trans (But2.of (But.drewN b wr n9))⟩
        · have HS := HR.out
          simp only [spansF] at HS
          rw [if_neg hP] at HS
          have HR2 := hide HS
          clear HS
          go_wp2_with fail
          go_end0
          rw [← HR2.out]
          exact ⟨rfl, C4, K4, b4⟩
end
end Go.Proofs.YtcnmbldikjljeaaGreatDoor
