import Derived.Test.YtcnmbldikjljeaaGreatDoorJ18
import Derived.Test.YtcnmbldikjljeaaGreatDoorJ08
import Derived.Lib.OthersKept
namespace Go.Proofs.YtcnmbldikjljeaaGreatDoor
open Go.RowKit

/-! a case of the program's, in memory -/
/-- what becomes of its next level: 1: it is due; 2: it rests; 0: nothing comes -/
def crs (x : Cs) : Int := if 0 ≤ x.due then 1 else if 0 < x.rest then 2 else 0
def dueC (x : Cs) : Int := if 0 ≤ x.due then x.due else 0
def rcCells (x : Cs) : List Value := [.int .i64 x.id, .int .i64 x.stage, .int .i64 (crs x), .int .i64 x.level, .int .i64 (dueC x), .int .i64 x.rest, .bool x.held]
def rcsCells (l : List Cs) : List Value := l.flatMap rcCells
/-- the cells from off on, in a block of records -/
def RA (w : World) (b off : Nat) (vs : List Value) : Prop := ∃ cur, w.heap[b]? = some (.cells cur 119 (0, 0)) ∧ ∀ j v, vs[j]? = some v → cur[off + j]? = some v
/-- nothing that lay has turned, but the cells from off on in block b, which hold vs -/
structure PutR (w w' : World) (b off : Nat) (vs : List Value) : Prop where
  os : w'.os = w.os
  tape : w'.tape = w.tape
  output : w'.output = w.output
  size : w.heap.size ≤ w'.heap.size
  other : ∀ k, k < w.heap.size → k ≠ b → w'.heap[k]? = w.heap[k]?
  blk : ∃ cur cur', w.heap[b]? = some (.cells cur 119 (0, 0)) ∧ w'.heap[b]? = some (.cells cur' 119 (0, 0)) ∧ cur'.size = cur.size ∧ ∀ j, cur'[j]? = if off ≤ j ∧ j < off + vs.length then vs[j - off]? else cur[j]?
section
variable {w u z : World} {b off : Nat} {vs us : List Value}
theorem RA.cell (h : RA w b off vs) (j : Nat) (v : Value) (hj : vs[j]? = some v) : w.cell? ⟨b, off + j, none⟩ = some v := by
  obtain ⟨cur, h1, h2⟩ := h
  simp [World.cell?, h1, h2 j v hj]
theorem RA.frozen (h : RA w b off vs) (j : Nat) : w.frozen? ⟨b, j, none⟩ = false := by
  obtain ⟨cur, h1, _⟩ := h
  simp [World.frozen?, h1]
theorem RA.lt (h : RA w b off vs) : b < w.heap.size := by
  obtain ⟨cur, h1, _⟩ := h
  exact (Array.getElem?_eq_some_iff.1 h1).1
theorem RA.on (h : RA w b off vs) (hb : Below w.heap.size w u) : RA u b off vs := by
  obtain ⟨cur, h1, h2⟩ := h
  exact ⟨cur, (hb.block b (Array.getElem?_eq_some_iff.1 h1).1).trans h1, h2⟩
theorem RA.put (h : RA w b off vs) (hb : Below w.heap.size w u) : PutR w u b off vs := by
  have hlt := h.lt
  obtain ⟨cur, h1, h2⟩ := h
  refine ⟨hb.os, hb.tape, hb.output, hb.size, fun k hk _ => hb.block k hk, cur, cur, h1, (hb.block b hlt).trans h1, rfl, fun j => ?_⟩
  split
  · rename_i g
    obtain ⟨v, hv⟩ : ∃ v, vs[j - off]? = some v := ⟨vs[j - off]'(by omega), by simp⟩
    rw [hv]
    have := h2 (j - off) v hv
    rwa [show off + (j - off) = j by omega] at this
  · rfl
theorem PutR.set (h : PutR w u b off vs) (j : Nat) (hj : j < vs.length) (v : Value) : PutR w (u.setCell ⟨b, off + j, none⟩ v) b off (vs.set j v) := by
  obtain ⟨cur, cur', h1, h2, h3, h4⟩ := h.blk
  refine ⟨h.os, h.tape, h.output, by simpa using h.size, fun k hk hne => (Below.heap_setCell _ _ _ k hne).trans (h.other k hk hne), cur, cur'.setIfInBounds (off + j) v, h1, heap_setCell_same _ _ _ _ _ _ h2, by simp [h3], fun i => ?_⟩
  have hi := h4 i
  rw [List.length_set, Array.getElem?_setIfInBounds]
  by_cases e : off + j = i
  · subst e
    have hlt : off + j < cur'.size := by
      have h5 := h4 (off + j)
      rw [if_pos (by omega)] at h5
      apply Nat.lt_of_not_le
      intro hge
      rw [Array.getElem?_eq_none hge] at h5
      rw [show off + j - off = j by omega, List.getElem?_eq_getElem hj] at h5
      cases h5
    rw [if_pos rfl, if_pos hlt, if_pos (by omega), show off + j - off = j by omega, List.getElem?_set_self hj]
  · rw [if_neg e, hi]
    split
    · rw [List.getElem?_set_ne (by omega)]
    · rfl
theorem PutR.set0 (h : PutR w u b off vs) (hj : 0 < vs.length) (v : Value) : PutR w (u.setCell ⟨b, off, none⟩ v) b off (vs.set 0 v) := h.set 0 hj v
theorem PutR.trans (h : PutR w u b off vs) (k : PutR u z b off us) (hl : vs.length = us.length) : PutR w z b off us := by
  obtain ⟨cur, cur', h1, h2, h3, h4⟩ := h.blk
  obtain ⟨cur2, cur3, k1, k2, k3, k4⟩ := k.blk
  rw [h2] at k1
  cases k1
  refine ⟨k.os.trans h.os, k.tape.trans h.tape, k.output.trans h.output, Nat.le_trans h.size k.size, fun i hi hne => (k.other i (Nat.lt_of_lt_of_le hi h.size) hne).trans (h.other i hi hne), cur, cur3, h1, k2, k3.trans h3, fun j => ?_⟩
  rw [k4 j]
  split
  · rfl
  · rw [h4 j, if_neg (by omega)]
theorem PutR.ra (h : PutR w u b off vs) : RA u b off vs := by
  obtain ⟨cur, cur', h1, h2, h3, h4⟩ := h.blk
  refine ⟨cur', h2, fun j v hv => ?_⟩
  have hj := (List.getElem?_eq_some_iff.1 hv).1
  rw [h4 (off + j), if_pos (by omega), show off + j - off = j by omega, hv]
theorem PutR.grown (h : PutR w u b off vs) : w.grownBy u (some b) := ⟨h.os, h.tape, h.output, h.size, fun k hk hne => h.other k hk (fun e => hne (by rw [e]))⟩
theorem PutR.drew (h : PutR w u b off vs) (n : Nat) : PutR w (u.drewN n) b off vs := h.trans (h.ra.put (below_drewN (Below.refl _ _) n)) rfl
end
/-! what a change of one block leaves -/
/-- a row of another type than the block's -/
theorem row_leftP {w u : World} {b base size n : Nat} {t e : TypeId} {v : Value} {xs : List Value} {cur : Array Value} (h : w.ownsRow base e size v n xs) (hg : w.grownBy u (some b)) (hb : w.heap[b]? = some (.cells cur t (0, 0))) (hte : t ≠ e) : u.ownsRow base e size v n xs := by
  refine h.kept hg ?_
  rcases h.2 with ⟨rfl, _⟩ | ⟨q, cap, c2, rfl, _, hq, _⟩
  · exact .inl rfl
  · refine .inr fun e' => ?_
    obtain rfl : q = b := by simpa [Value.ownBlock] using e'
    rw [hb] at hq
    cases hq
    exact hte rfl
/-- the program's stages in memory -/
def bits (s : Stg) : List Value := (List.range 6).map fun (k : Nat) => .bool (hasI s.next (k : Int))
def sgCells (ls : Nat → Value) (st : List Stg) : List Value := (List.range st.length).flatMap fun i => ls i :: bits (stAt st i)
structure PW (w : World) (sv : Value) (st : List Stg) (ls : Nat → Value) : Prop where
  row : w.ownsRow 0 131 7 sv st.length (sgCells ls st)
  lev : ∀ i, i < st.length → 0 < (stAt st i).levels.length → w.ownsRow 0 127 2 (ls i) (stAt st i).levels.length (flat (stAt st i).levels)
  len : ∀ i, i < st.length → ∃ a cap, ls i = .slice a (stAt st i).levels.length cap
section
variable {w u : World} {sv : Value} {st : List Stg} {ls : Nat → Value}
theorem PW.on (h : PW w sv st ls) (hb : Below w.heap.size w u) : PW u sv st ls := by
  have hg : w.grownBy u none := ⟨hb.os, hb.tape, hb.output, hb.size, fun k hk _ => hb.block k hk⟩
  exact ⟨h.row.kept hg (by cases sv.ownBlock <;> simp), fun i hi h0 => (h.lev i hi h0).kept hg (by cases (ls i).ownBlock <;> simp), h.len⟩
theorem PW.left {b : Nat} {t : TypeId} {cur : Array Value} (h : PW w sv st ls) (hg : w.grownBy u (some b)) (hb : w.heap[b]? = some (.cells cur t (0, 0))) (h1 : t ≠ 131) (h2 : t ≠ 127) : PW u sv st ls :=
  ⟨row_leftP h.row hg hb h1, fun i hi h0 => row_leftP (h.lev i hi h0) hg hb h2, h.len⟩
theorem sgCells_len (ls : Nat → Value) (l : List Stg) (n : Nat) : ((List.range n).flatMap fun i => ls i :: bits (stAt l i)).length = n * 7 := by
  induction n with
  | zero => rfl
  | succ n ih => rw [List.range_succ, List.flatMap_append, List.length_append, ih]; simp [bits]; omega
theorem sgCells_at (ls : Nat → Value) (st : List Stg) (i : Nat) (hi : i < st.length) (j : Nat) (hj : j < 7) : (sgCells ls st)[i * 7 + j]? = (ls i :: bits (stAt st i))[j]? := by
  unfold sgCells
  have key : ∀ n, i < n → ((List.range n).flatMap fun i => ls i :: bits (stAt st i))[i * 7 + j]? = (ls i :: bits (stAt st i))[j]? := by
    intro n
    induction n with
    | zero => intro h; omega
    | succ n ih =>
      intro h
      rw [List.range_succ, List.flatMap_append]
      by_cases e : i < n
      · rw [List.getElem?_append_left (by rw [sgCells_len]; omega)]; exact ih e
      · obtain rfl : i = n := by omega
        rw [List.getElem?_append_right (by rw [sgCells_len]; omega), sgCells_len, show i * 7 + j - i * 7 = j by omega]
        simp
  exact key _ hi
theorem sgCells_lev (ls : Nat → Value) (st : List Stg) (i : Nat) (hi : i < st.length) : (sgCells ls st)[i * 7]? = some (ls i) := sgCells_at ls st i hi 0 (by omega)
theorem sgCells_bit (ls : Nat → Value) (st : List Stg) (i : Nat) (hi : i < st.length) (k : Nat) (hk : k < 6) : (sgCells ls st)[i * 7 + 1 + k]? = some (.bool (hasI (stAt st i).next k)) := by
  have := sgCells_at ls st i hi (1 + k) (by omega)
  rw [← Nat.add_assoc] at this
  rw [this, Nat.add_comm 1 k, List.getElem?_cons_succ]
  simp [bits, hk]
end
/-! the program's docket in memory -/
/-- what never turns in a docket's block: the lock's second word, the calendar; the stages' row -/
structure Kf where
  C : List Value
  vs : Nat → Value
  wk : Nat → List (Int × Int)
  raw : Nat → List (Int × Int)
  fr : Nat → Bool
  sv : Value
  ls : Nat → Value
structure KfOk (K : Kf) (F : Nat → Bool) : Prop where
  len : K.C.length = 78
  week : ∀ j, j < 7 → K.C[1 + j]? = some (K.vs j)
  free : ∀ j, j < 70 → K.C[8 + j]? = some (.bool (K.fr j))
  join : ∀ j, j < 7 → JoinOf (K.raw j) (K.wk j)
  few : ∀ j, (K.raw j).length ≤ 1000
  is : ∀ t : Int, 0 ≤ t → t < 100800 → openL K.raw K.fr t = F t.toNat
def dArr (lk : Int) (K : Kf) (t m : Int) (lv : Value) (k : Int) : Array Value := (.int .i32 lk :: (K.C ++ [K.sv, .int .i64 t, .int .i64 m, lv, .int .i64 k])).toArray
section
variable {lk t m k : Int} {K : Kf} {lv : Value} {F : Nat → Bool}
theorem dArr_at (h : K.C.length = 78) (i : Nat) : (dArr lk K t m lv k)[79 + i]? = ([K.sv, .int .i64 t, .int .i64 m, lv, .int .i64 k] : List Value)[i]? := by
  unfold dArr
  rw [List.getElem?_toArray, show 79 + i = (78 + i) + 1 by omega, List.getElem?_cons_succ, List.getElem?_append_right (by omega), h, show 78 + i - 78 = i by omega]
theorem dArr_in (h : K.C.length = 78) (i : Nat) (hi : i < 78) : (dArr lk K t m lv k)[1 + i]? = K.C[i]? := by
  unfold dArr
  rw [List.getElem?_toArray, Nat.add_comm 1 i, List.getElem?_cons_succ, List.getElem?_append_left (by omega)]
theorem dArr_lock (lk' : Int) : (dArr lk K t m lv k).setIfInBounds 0 (.int .i32 lk') = dArr lk' K t m lv k := by
  unfold dArr
  rw [List.setIfInBounds_toArray]
  rfl
theorem dArr_set (h : K.C.length = 78) (i : Nat) (v : Value) : (dArr lk K t m lv k).setIfInBounds (79 + i) v = (.int .i32 lk :: (K.C ++ ([K.sv, .int .i64 t, .int .i64 m, lv, .int .i64 k] : List Value).set i v)).toArray := by
  unfold dArr
  rw [List.setIfInBounds_toArray, show 79 + i = (78 + i) + 1 by omega, List.set_cons_succ, List.set_append_right _ _ (by omega), h, show 78 + i - 78 = i by omega]
end
/-- a docket's block, its calendar, its stages -/
structure PR (w : World) (p : Nat) (K : Kf) (F : Nat → Bool) (st : List Stg) (lk t m : Int) (lv : Value) (k : Int) : Prop where
  ok : KfOk K F
  blk : w.heap[p]? = some (.cells (dArr lk K t m lv k) 113 (0, 0))
  cal : ∀ j, j < 7 → w.ownsRow 0 140 2 (K.vs j) (K.wk j).length (flat (K.wk j))
  stg : PW w K.sv st K.ls
section
variable {w u : World} {p : Nat} {K : Kf} {F : Nat → Bool} {st : List Stg} {lk t m : Int} {lv : Value} {k : Int}
theorem PR.lt (h : PR w p K F st lk t m lv k) : p < w.heap.size := (Array.getElem?_eq_some_iff.1 h.blk).1
theorem PR.at (h : PR w p K F st lk t m lv k) (i : Nat) : w.cell? ⟨p, 79 + i, none⟩ = ([K.sv, .int .i64 t, .int .i64 m, lv, .int .i64 k] : List Value)[i]? := by
  rw [← dArr_at (lk := lk) h.ok.len i]; simp [World.cell?, h.blk]
theorem PR.c0 (h : PR w p K F st lk t m lv k) : w.cell? ⟨p, 0, none⟩ = some (.int .i32 lk) := by simp [World.cell?, h.blk, dArr]
theorem PR.c79 (h : PR w p K F st lk t m lv k) : w.cell? ⟨p, 79, none⟩ = some K.sv := h.at 0
theorem PR.c80 (h : PR w p K F st lk t m lv k) : w.cell? ⟨p, 80, none⟩ = some (.int .i64 t) := h.at 1
theorem PR.c81 (h : PR w p K F st lk t m lv k) : w.cell? ⟨p, 81, none⟩ = some (.int .i64 m) := h.at 2
theorem PR.c82 (h : PR w p K F st lk t m lv k) : w.cell? ⟨p, 82, none⟩ = some lv := h.at 3
theorem PR.c83 (h : PR w p K F st lk t m lv k) : w.cell? ⟨p, 83, none⟩ = some (.int .i64 k) := h.at 4
theorem PR.frz (h : PR w p K F st lk t m lv k) (j : Nat) : w.frozen? ⟨p, j, none⟩ = false := by simp [World.frozen?, h.blk]
theorem PR.calO (h : PR w p K F st lk t m lv k) : CalO w p 2 K.wk K.fr := by
  have hl := h.ok.len
  refine ⟨h.lt, fun j hj => ⟨K.vs j, ?_, h.cal j hj⟩, fun j hj => ?_⟩
  · rw [← h.ok.week j hj, ← dArr_in (lk := lk) (t := t) (m := m) (lv := lv) (k := k) hl (1 + j) (by omega), show 2 + j = 1 + (1 + j) by omega]; simp [World.cell?, h.blk]
  · rw [← h.ok.free j hj, ← dArr_in (lk := lk) (t := t) (m := m) (lv := lv) (k := k) hl (8 + j) (by omega), show 2 + 7 + j = 1 + (8 + j) by omega]; simp [World.cell?, h.blk]
theorem PR.on (h : PR w p K F st lk t m lv k) (hb : Below w.heap.size w u) : PR u p K F st lk t m lv k := by
  have hg : w.grownBy u none := ⟨hb.os, hb.tape, hb.output, hb.size, fun k hk _ => hb.block k hk⟩
  exact ⟨h.ok, (hb.block p h.lt).trans h.blk, fun j hj => (h.cal j hj).kept hg (by cases (K.vs j).ownBlock <;> simp), h.stg.on hb⟩
/-- a block of another type was written -/
theorem PR.left {b : Nat} {e : TypeId} {cur : Array Value} (h : PR w p K F st lk t m lv k) (hg : w.grownBy u (some b)) (hb : w.heap[b]? = some (.cells cur e (0, 0))) (h0 : e ≠ 113) (h1 : e ≠ 140) (h2 : e ≠ 131) (h3 : e ≠ 127) : PR u p K F st lk t m lv k := by
  have hpb : p ≠ b := by
    rintro rfl
    have := h.blk
    rw [hb] at this
    cases this
    exact h0 rfl
  exact ⟨h.ok, (hg.block p h.lt (fun e => hpb (by cases e; rfl))).trans h.blk, fun j hj => row_leftP (h.cal j hj) hg hb h1, h.stg.left hg hb h2 h3⟩
theorem PR.put {b off : Nat} {us : List Value} (h : PR w p K F st lk t m lv k) (P : PutR w u b off us) : PR u p K F st lk t m lv k := by
  obtain ⟨cur, cur', h1, _⟩ := P.blk
  exact h.left P.grown h1 (by decide) (by decide) (by decide) (by decide)
theorem PR.ne {b off : Nat} {us : List Value} (h : PR w p K F st lk t m lv k) (A : RA w b off us) : p ≠ b := by
  rintro rfl
  obtain ⟨cur, h1, _⟩ := A
  have := h.blk
  rw [h1] at this
  simp at this
/-- a word of the docket's own was written -/
theorem PR.set {lk' t' m' k' : Int} {lv' : Value} (h : PR w p K F st lk t m lv k) (j : Nat) (v : Value) (hd : (dArr lk K t m lv k).setIfInBounds j v = dArr lk' K t' m' lv' k') : PR (w.setCell ⟨p, j, none⟩ v) p K F st lk' t' m' lv' k' := by
  have hg : w.grownBy (w.setCell ⟨p, j, none⟩ v) (some p) := ⟨rfl, rfl, rfl, by simp, fun q _ hne => Below.heap_setCell _ _ _ q (fun e => hne (by rw [e]))⟩
  exact ⟨h.ok, by rw [heap_setCell_same _ _ _ _ _ _ h.blk, hd], fun i hi => row_leftP (h.cal i hi) hg h.blk (by decide), h.stg.left hg h.blk (by decide) (by decide)⟩
theorem PR.lock (h : PR w p K F st lk t m lv k) (lk' : Int) : PR (w.setCell ⟨p, 0, none⟩ (.int .i32 lk')) p K F st lk' t m lv k := h.set 0 _ (dArr_lock lk')
theorem PR.time (h : PR w p K F st lk t m lv k) (t' : Int) : PR (w.setCell ⟨p, 80, none⟩ (.int .i64 t')) p K F st lk t' m lv k := h.set 80 _ (dArr_set h.ok.len 1 _)
theorem PR.made (h : PR w p K F st lk t m lv k) (m' : Int) : PR (w.setCell ⟨p, 81, none⟩ (.int .i64 m')) p K F st lk t m' lv k := h.set 81 _ (dArr_set h.ok.len 2 _)
theorem PR.rows (h : PR w p K F st lk t m lv k) (lv' : Value) : PR (w.setCell ⟨p, 82, none⟩ lv') p K F st lk t m lv' k := h.set 82 _ (dArr_set h.ok.len 3 _)
theorem PR.told (h : PR w p K F st lk t m lv k) (k' : Int) : PR (w.setCell ⟨p, 83, none⟩ (.int .i64 k')) p K F st lk t m lv k' := h.set 83 _ (dArr_set h.ok.len 4 _)
theorem PR.add (h : PR w p K F st lk t m lv k) (a n : Int) (h0 : 0 ≤ a) (h1 : a ≤ 100800) (h2 : 0 ≤ n) (h3 : n ≤ 20000) :
    Calls Tryz.prog 27 #[.pointer (some ⟨p, 2, none⟩), .int .i64 a, .int .i64 n] w fun e w' => AddP F a n e ∧ Below w.heap.size w w' :=
  addO_any p 2 K.raw K.fr F a n w ⟨K.wk, h.calO, h.ok.join⟩ h.ok.few h.ok.is h0 h1 h2 h3
theorem PR.between (h : PR w p K F st lk t m lv k) (a b : Int) (h0 : 0 ≤ a) (h1 : a ≤ b) (h2 : b ≤ 100800) :
    Calls Tryz.prog 22 #[.pointer (some ⟨p, 2, none⟩), .int .i64 a, .int .i64 b] w fun e w' => e = .returned (.tuple #[.int .i64 (cnt F b.toNat - cnt F a.toNat), .int .i64 0]) ∧ Below w.heap.size w w' :=
  betweenO_any p 2 K.raw K.fr F a b w ⟨K.wk, h.calO, h.ok.join⟩ h.ok.few h.ok.is h0 h1 h2
end
end Go.Proofs.YtcnmbldikjljeaaGreatDoor
namespace Go.Proofs.YtcnmbldikjljeaaGreatDoor
open Go.RowKit

theorem rcsCells_len (l : List Cs) : (rcsCells l).length = l.length * 7 := by
  induction l with
  | nil => rfl
  | cons x l ih => rw [show rcsCells (x :: l) = rcCells x ++ rcsCells l by simp [rcsCells], List.length_append, ih]; simp [rcCells]; omega
theorem rcsCells_at (l : List Cs) (i : Nat) (h : i < l.length) (j : Nat) (hj : j < 7) : (rcsCells l)[i * 7 + j]? = (rcCells (csAt l i))[j]? := by
  induction l generalizing i with
  | nil => simp at h
  | cons x l ih =>
    rw [show rcsCells (x :: l) = rcCells x ++ rcsCells l by simp [rcsCells]]
    have hl : (rcCells x).length = 7 := rfl
    cases i with
    | zero => rw [List.getElem?_append_left (by omega)]; simp [csAt]
    | succ i =>
      rw [List.getElem?_append_right (by omega), show (i + 1) * 7 + j - (rcCells x).length = i * 7 + j by omega, ih i (by simpa using h)]
      rfl
/-- what a docket's call leaves as it lay: all but its own block and its row of cases; where the row of cases lies then -/
structure Frm (g : Nat) (lv lv' : Value) (w w' : World) : Prop where
  os : w'.os = w.os
  tape : w'.tape = w.tape
  output : w'.output = w.output
  size : w.heap.size ≤ w'.heap.size
  block : ∀ k, k < w.heap.size → k ≠ g → some k ≠ lv.ownBlock → w'.heap[k]? = w.heap[k]?
  row : ∀ k, lv'.ownBlock = some k → lv.ownBlock = some k ∨ w.heap.size ≤ k
section
variable {g : Nat} {lv lv' lv2 : Value} {w u z : World}
theorem Frm.of_below (hb : Below w.heap.size w u) : Frm g lv lv w u := ⟨hb.os, hb.tape, hb.output, hb.size, fun k hk _ _ => hb.block k hk, fun _ h => .inl h⟩
theorem Frm.refl : Frm g lv lv w w := Frm.of_below (Below.refl _ _)
theorem Frm.trans (h : Frm g lv lv' w u) (k : Frm g lv' lv2 u z) : Frm g lv lv2 w z := by
  refine ⟨k.os.trans h.os, k.tape.trans h.tape, k.output.trans h.output, Nat.le_trans h.size k.size, fun j hj h1 h2 => ?_, fun j hj => ?_⟩
  · refine (k.block j (Nat.lt_of_lt_of_le hj h.size) h1 (fun e => ?_)).trans (h.block j hj h1 h2)
    rcases h.row j e.symm with a | a
    · exact h2 a.symm
    · omega
  · rcases k.row j hj with a | a
    · exact h.row j a
    · exact .inr (Nat.le_trans h.size a)
theorem Frm.set (w : World) (j : Nat) (v : Value) : Frm g lv lv w (w.setCell ⟨g, j, none⟩ v) := ⟨rfl, rfl, rfl, by simp, fun k _ h1 _ => Below.heap_setCell _ _ _ k h1, fun _ h => .inl h⟩
end
/-- the program's docket in memory -/
structure PD (w : World) (p : Nat) (K : Kf) (F : Nat → Bool) (st : List Stg) (lk : Int) (lv : Value) (d : Dk) : Prop where
  pr : PR w p K F st lk d.time d.made lv d.told
  own : w.ownsRow 0 119 7 lv d.cases.length (rcsCells d.cases)
theorem rcsCells_set (l : List Cs) (i : Nat) (hi : i < l.length) (x : Cs) (cur : Array Value) (cur' : Array Value) (ht : cur.toList.take (l.length * 7) = rcsCells l)
    (hj : ∀ j, cur'[j]? = if i * 7 ≤ j ∧ j < i * 7 + (rcCells x).length then (rcCells x)[j - i * 7]? else cur[j]?) : cur'.toList.take (l.length * 7) = rcsCells (l.set i x) := by
  apply List.ext_getElem?
  intro j
  by_cases hjl : j < l.length * 7
  · rw [List.getElem?_take_of_lt hjl, Array.getElem?_toList, hj j]
    have hl : (rcCells x).length = 7 := rfl
    have ej : j = j / 7 * 7 + j % 7 := by omega
    have hk : j / 7 < l.length := by omega
    have e2 := rcsCells_at (l.set i x) (j / 7) (by simpa using hk) (j % 7) (by omega)
    rw [← ej] at e2
    rw [e2]
    by_cases h : i * 7 ≤ j ∧ j < i * 7 + (rcCells x).length
    · rw [if_pos h]
      have : j / 7 = i := by omega
      rw [this, show j - i * 7 = j % 7 by omega]
      congr 1
      simp [csAt, hi]
    · rw [if_neg h]
      have hne : j / 7 ≠ i := by omega
      have e3 := rcsCells_at l (j / 7) hk (j % 7) (by omega)
      rw [← ej, ← ht, List.getElem?_take_of_lt hjl, Array.getElem?_toList] at e3
      rw [e3]
      congr 2
      unfold csAt
      rw [Int.toNat_natCast, List.getD_eq_getElem?_getD, List.getD_eq_getElem?_getD, List.getElem?_set_ne (Ne.symm hne)]
  · rw [List.getElem?_take_eq_none (by omega), List.getElem?_eq_none (by rw [rcsCells_len]; simp; omega)]
section
variable {w u : World} {p : Nat} {K : Kf} {F : Nat → Bool} {st : List Stg} {lk : Int} {lv lv' : Value} {d : Dk}
theorem PD.on (R : PD w p K F st lk lv d) (hb : Below w.heap.size w u) : PD u p K F st lk lv d := by
  have hg : w.grownBy u none := ⟨hb.os, hb.tape, hb.output, hb.size, fun k hk _ => hb.block k hk⟩
  exact ⟨R.pr.on hb, R.own.kept hg (by cases lv.ownBlock <;> simp)⟩
theorem PD.lock (R : PD w p K F st lk lv d) (lk' : Int) : PD (w.setCell ⟨p, 0, none⟩ (.int .i32 lk')) p K F st lk' lv d ∧ Frm p lv lv w (w.setCell ⟨p, 0, none⟩ (.int .i32 lk')) := by
  have hG : w.grownBy (w.setCell ⟨p, 0, none⟩ (.int .i32 lk')) (some p) := ⟨rfl, rfl, rfl, by simp, fun k _ hne => Below.heap_setCell _ _ _ k (fun e => hne (by rw [e]))⟩
  exact ⟨⟨R.pr.lock lk', row_leftP R.own hG R.pr.blk (by decide)⟩, .set _ _ _⟩
theorem PD.time (R : PD w p K F st lk lv d) (x : Int) : PD (w.setCell ⟨p, 80, none⟩ (.int .i64 x)) p K F st lk lv { d with time := x } ∧ Frm p lv lv w (w.setCell ⟨p, 80, none⟩ (.int .i64 x)) := by
  have hG : w.grownBy (w.setCell ⟨p, 80, none⟩ (.int .i64 x)) (some p) := ⟨rfl, rfl, rfl, by simp, fun k _ hne => Below.heap_setCell _ _ _ k (fun e => hne (by rw [e]))⟩
  exact ⟨⟨R.pr.time x, row_leftP R.own hG R.pr.blk (by decide)⟩, .set _ _ _⟩
theorem PD.made (R : PD w p K F st lk lv d) (x : Int) : PD (w.setCell ⟨p, 81, none⟩ (.int .i64 x)) p K F st lk lv { d with made := x } ∧ Frm p lv lv w (w.setCell ⟨p, 81, none⟩ (.int .i64 x)) := by
  have hG : w.grownBy (w.setCell ⟨p, 81, none⟩ (.int .i64 x)) (some p) := ⟨rfl, rfl, rfl, by simp, fun k _ hne => Below.heap_setCell _ _ _ k (fun e => hne (by rw [e]))⟩
  exact ⟨⟨R.pr.made x, row_leftP R.own hG R.pr.blk (by decide)⟩, .set _ _ _⟩
theorem PD.told (R : PD w p K F st lk lv d) (x : Int) : PD (w.setCell ⟨p, 83, none⟩ (.int .i64 x)) p K F st lk lv { d with told := x } ∧ Frm p lv lv w (w.setCell ⟨p, 83, none⟩ (.int .i64 x)) := by
  have hG : w.grownBy (w.setCell ⟨p, 83, none⟩ (.int .i64 x)) (some p) := ⟨rfl, rfl, rfl, by simp, fun k _ hne => Below.heap_setCell _ _ _ k (fun e => hne (by rw [e]))⟩
  exact ⟨⟨R.pr.told x, row_leftP R.own hG R.pr.blk (by decide)⟩, .set _ _ _⟩
theorem PD.ra {q cap : Nat} (R : PD w p K F st lk (.slice (some ⟨q, 0, none⟩) d.cases.length cap) d) (i : Nat) (hi : i < d.cases.length) : RA w q (i * 7) (rcCells (csAt d.cases i)) := by
  rcases R.own.2 with ⟨h', _⟩ | ⟨q', cap', cur, h', _, hh, _, _, _, ht⟩
  · cases h'
  simp only [Value.slice.injEq, Option.some.injEq, Addr.mk.injEq, and_true, true_and] at h'
  obtain ⟨rfl, rfl⟩ := h'
  refine ⟨cur, hh, fun j v hv => ?_⟩
  have hj : j < 7 := (List.getElem?_eq_some_iff.1 hv).1
  have e := rcsCells_at d.cases i hi j hj
  rw [← ht, List.getElem?_take_of_lt (by omega), hv, Array.getElem?_toList] at e
  exact e
theorem PD.at {q cap : Nat} (R : PD w p K F st lk (.slice (some ⟨q, 0, none⟩) d.cases.length cap) d) (i : Nat) (hi : i < d.cases.length) (j : Nat) (v : Value) (hj : (rcCells (csAt d.cases i))[j]? = some v) : w.cell? ⟨q, i * 7 + j, none⟩ = some v := (R.ra i hi).cell j v hj
/-- a case of the row was written -/
theorem PD.put {q cap : Nat} {x : Cs} (R : PD w p K F st lk (.slice (some ⟨q, 0, none⟩) d.cases.length cap) d) (i : Nat) (hi : i < d.cases.length) (P : PutR w u q (i * 7) (rcCells x)) :
    PD u p K F st lk (.slice (some ⟨q, 0, none⟩) d.cases.length cap) { d with cases := d.cases.set i x } ∧ Frm p (.slice (some ⟨q, 0, none⟩) d.cases.length cap) (.slice (some ⟨q, 0, none⟩) d.cases.length cap) w u := by
  have hP := R.pr.put P
  rcases R.own.2 with ⟨h', _⟩ | ⟨q', cap', cur, h', hbq, hh, hc1, hc2, hc3, ht⟩
  · cases h'
  simp only [Value.slice.injEq, Option.some.injEq, Addr.mk.injEq, and_true, true_and] at h'
  obtain ⟨rfl, rfl⟩ := h'
  obtain ⟨cur0, cur', p1, p2, p3, p4⟩ := P.blk
  rw [hh] at p1
  cases p1
  refine ⟨⟨hP, ⟨by rw [rcsCells_len], .inr ⟨q, cap, cur', by simp, hbq, p2, by simpa using hc1, hc2, by rw [p3, hc3], ?_⟩⟩⟩, ?_⟩
  · have := rcsCells_set d.cases i hi x cur cur' ht p4
    simpa using this
  · exact ⟨P.os, P.tape, P.output, P.size, fun k hk _ h2 => P.other k hk (fun e => h2 (by rw [e]; rfl)), fun _ h => .inl h⟩
theorem PD.apart (R : PD w p K F st lk lv d) : some p ≠ lv.ownBlock := by
  intro e
  rcases R.own.2 with ⟨rfl, _⟩ | ⟨q, cap, cur, rfl, _, hh, _⟩
  · simp [Value.ownBlock] at e
  · simp [Value.ownBlock] at e
    subst e
    have := R.pr.blk
    rw [hh] at this
    simp at this
/-- another row of cases was laid, and stored -/
theorem PD.row {l : List Cs} (R : PD w p K F st lk lv d) (hg : w.grownBy u lv.ownBlock) (hown : u.ownsRow 0 119 7 lv' l.length (rcsCells l)) (hat : ∀ k, lv'.ownBlock = some k → lv.ownBlock = some k ∨ w.heap.size ≤ k) :
    u.cell? ⟨p, 82, none⟩ = some lv ∧ u.frozen? ⟨p, 82, none⟩ = false ∧ PD (u.setCell ⟨p, 82, none⟩ lv') p K F st lk lv' { d with cases := l } ∧ Frm p lv lv' w (u.setCell ⟨p, 82, none⟩ lv') := by
  have hP : PR u p K F st lk d.time d.made lv d.told := by
    rcases R.own.2 with ⟨rfl, _⟩ | ⟨q, cap, cur, rfl, _, hh, _⟩
    · exact R.pr.on ⟨hg.os, hg.tape, hg.output, hg.size, fun k hk => hg.block k hk (by simp [Value.ownBlock])⟩
    · exact R.pr.left (b := q) hg hh (by decide) (by decide) (by decide) (by decide)
  have hG : u.grownBy (u.setCell ⟨p, 82, none⟩ lv') (some p) := ⟨rfl, rfl, rfl, by simp, fun k _ hne => Below.heap_setCell _ _ _ k (fun e => hne (by rw [e]))⟩
  refine ⟨hP.c82, hP.frz 82, ⟨hP.rows lv', row_leftP hown hG hP.blk (by decide)⟩, ?_⟩
  exact ⟨hg.os, hg.tape, hg.output, by have := hg.size; simpa using this, fun k hk h1 h2 => (Below.heap_setCell _ _ _ k h1).trans (hg.block k hk h2), hat⟩
end
end Go.Proofs.YtcnmbldikjljeaaGreatDoor
