import Derived.Test.YtcnmbldikjljeaaGreatDoorJ20
import Derived.Test.YtcnmbldikjljeaaGreatDoorJ08
import Derived.Deep.DeepAppendWide
import Derived.Deep.AppendLies
namespace Go.Proofs.YtcnmbldikjljeaaGreatDoor
open Go.RowKit

/-- the cells of a list of marks -/
def mcell (size : Nat) (num : Int) (j : Nat) : Value := if j % size = 0 then .int .i64 num else .int .i64 0
/-- a list that reads as the caller has written it: marks -/
def Mk (w : World) (e : TypeId) (size : Nat) (num : Int) (s : Value) : Prop :=
  ∃ a n cap, s = .slice a n cap ∧ (0 < n → ∃ b cur, a = some ⟨b, 0, none⟩ ∧ w.heap[b]? = some (.cells cur e (0, 0)) ∧ ∀ j, j < n * size → cur[j]? = some (mcell size num j))
section
variable {w u : World} {e t : TypeId} {size : Nat} {num : Int} {s v : Value} {n m : Nat} {xs news : List Value}
theorem Mk.at (h : Mk w e size num s) (hb : ∀ b cur, s.ownBlock = some b → w.heap[b]? = some (.cells cur e (0, 0)) → u.heap[b]? = w.heap[b]?) : Mk u e size num s := by
  obtain ⟨a, n, cap, rfl, h2⟩ := h
  refine ⟨a, n, cap, rfl, fun hn => ?_⟩
  obtain ⟨b, cur, rfl, h3, h4⟩ := h2 hn
  exact ⟨b, cur, rfl, (hb b cur rfl h3).trans h3, h4⟩
theorem Mk.on (h : Mk w e size num s) (hb : Below w.heap.size w u) : Mk u e size num s := h.at fun b _ _ hc => hb.block b (Array.getElem?_eq_some_iff.1 hc).1
theorem Mk.of (h : Mk w e size num s) (ho : Of t w u) (he : e ≠ t) : Mk u e size num s := h.at fun b cur _ hc => ho.block b cur e _ hc he
theorem mcell_one (size : Nat) (num : Int) (j : Nat) : (mcell size num j).oneCell' = true := by unfold mcell; split <;> rfl
theorem mod_off (n size j : Nat) : (n * size + j) % size = j % size := by rw [Nat.add_comm, Nat.add_mul_mod_self_right]
theorem mcell_off (n size j : Nat) (num : Int) : mcell size num (n * size + j) = mcell size num j := by unfold mcell; rw [mod_off]
/-- append of marks to a list of marks: all that read as marks do so still -/
theorem wpList_append_marks {P : Program} {ops : Array Oper} {rest : List Oper} {o : Oper} {a : Act} {Q : Exit → Act → World → Prop} (hgd : o.guard = none) (s' x : Operand)
    (ho : o.op = .call { callee := .builtin .append, args := #[s', x], argTypes := #[t, t] })
    (base : Nat) (i : TypeInfo) (z : Value) (bytes : Nat) (ht : P.underlying t = some (.slice e)) (hi : P.info? e = some i) (hz : i.zero = some z)
    (hsize : i.size = size) (hby : i.bytes = bytes) (hzs : z.cells.size = size) (hsz : 0 < size)
    (hs : a.eval s' = v) (hown : w.ownsRow base e size v n xs) (hM : Mk w e size num v)
    (ad : Addr) (m : Nat) (hm : 0 < m) (c : Nat) (news : List Value) (hx : a.eval x = .slice (some ad) m c) (hl : news.length = m * size) (hnews : ∀ j u, news[j]? = some u → w.cell? (ad.add j) = some u) (hnm : ∀ j, j < m * size → news[j]? = some (mcell size num j))
    (h63 : n + m ≤ maxLen) (hbytes : (n + m) * bytes ≤ 140737488355328)
    (h : ∀ v' w', (∃ a' cap', v' = .slice a' (n + m) cap') → Mk w' e size num v' → (∀ s, Mk w e size num s → Mk w' e size num s) → w'.ownsRow base e size v n xs → w.grownBy w' v.ownBlock → (∀ k, v'.ownBlock = some k → v.ownBlock = some k ∨ w.heap.size ≤ k) → wpList P ops Q rest (a.put o.dst v') w') : wpList P ops Q (o :: rest) a w := by
  subst hsize
  subst hby
  have h1 : ∀ u ∈ news, u.oneCell' = true := by
    intro u hu
    obtain ⟨j, hj, rfl⟩ := List.getElem_of_mem hu
    have := hnm j (by omega)
    rw [List.getElem?_eq_getElem hj] at this
    rw [Option.some.inj this]
    exact mcell_one _ _ _
  refine wpList_plain hgd fun K hK => ?_
  rcases hown.2 with ⟨rfl, rfl⟩ | ⟨g, cap, cur, rfl, hbg, hg, hnc, hcm, hcs, htake⟩
  · have hr := run_append_nil (P := P) w t o.type e i z ht hi hz ad m c news hl hnews hm (by simp only [maxLen] at h63; omega) (by have hb := hbytes; simp only [Nat.zero_add] at hb; omega)
    have hge := grownCap_ge w m 0 e
    have key := h (.slice (some ⟨w.heap.size, 0, none⟩) m (grownCap w m 0 e)) (w.drew.alloc (.cells (news.toArray ++ Builtin.zeroCells z.cells (grownCap w m 0 e - m)) e)) ⟨_, _, by rw [Nat.zero_add]⟩
      ⟨_, _, _, rfl, fun _ => ⟨w.heap.size, _, rfl, heap_alloc_new w.drew _, fun j hj => by rw [Array.getElem?_append_left (by simp; omega)]; simpa using hnm j hj⟩⟩
      (fun s hs => hs.on ((Below.refl _ _).drew.alloc (Nat.le_refl _) _)) (by
        have hx0 : xs = [] := List.eq_nil_of_length_eq_zero (by simpa using hown.1)
        subst hx0
        exact World.ownsRow_nil _ _ _ _) ⟨rfl, rfl, rfl, by simp, fun k hk _ => Below.heap_alloc w.drew _ k hk⟩ (fun k hk => .inr (by simp [Value.ownBlock] at hk; omega))
    unfold Oper.wp execOp
    simp only [ho, resolve, invoke, builtin, Sem.run_bind, Sem.run_pure, Result.andThen_ok, List.map_toArray, List.map_cons, List.map_nil, hs, hx, hr]
    exact hK _ _ key
  · by_cases hroom : n + m ≤ cap
    · have hfit : n * i.size + news.length ≤ cur.size := by rw [hl, hcs, ← Nat.add_mul]; exact Nat.mul_le_mul_right _ hroom
      have hr := run_append_room (P := P) w t o.type e i ht hi g n cap cur hg ad m c news hl hnews h1 hroom hfit
      have hcell : ∀ j, (cur.toList.take (n * i.size) ++ news ++ cur.toList.drop (n * i.size + news.length)).toArray[j]? = if n * i.size ≤ j ∧ j < (n + m) * i.size then some (mcell i.size num j) else cur[j]? := by
        intro j
        have hmul : (n + m) * i.size = n * i.size + m * i.size := Nat.add_mul _ _ _
        rw [List.getElem?_toArray]
        by_cases c1 : j < n * i.size
        · rw [if_neg (by omega), List.append_assoc, List.getElem?_append_left (by simp; omega), List.getElem?_take_of_lt c1, Array.getElem?_toList]
        · by_cases c2 : j < (n + m) * i.size
          · rw [if_pos (by omega), List.getElem?_append_left (by simp; omega), List.getElem?_append_right (by simp; omega), List.length_take, Array.length_toList, Nat.min_eq_left (by omega), hnm _ (by omega)]
            congr 1
            have := mcell_off n i.size (j - n * i.size) num
            rw [show n * i.size + (j - n * i.size) = j by omega] at this
            exact this.symm
          · rw [if_neg (by omega), List.getElem?_append_right (by simp; omega), List.getElem?_drop, Array.getElem?_toList]
            congr 1
            simp
            omega
      have hh := setRow_heap w g cur (cur.toList.take (n * i.size) ++ news ++ cur.toList.drop (n * i.size + news.length)).toArray e (0, 0) hg
      have key := h (.slice (some ⟨g, 0, none⟩) (n + m) cap) (w.setRow g (cur.toList.take (n * i.size) ++ news ++ cur.toList.drop (n * i.size + news.length)).toArray) ⟨_, _, rfl⟩
        ⟨_, _, _, rfl, fun _ => ⟨g, _, rfl, hh, fun j hj => by
          rw [hcell j]
          by_cases c1 : n * i.size ≤ j
          · rw [if_pos ⟨c1, hj⟩]
          · rw [if_neg (by omega)]
            obtain ⟨a', n', cap', e1, e2⟩ := hM
            simp only [Value.slice.injEq] at e1
            obtain ⟨rfl, rfl, rfl⟩ := e1
            have hn0 : 0 < n := Nat.pos_of_ne_zero (by rintro rfl; simp at c1)
            obtain ⟨b, cur2, e3, e4, e5⟩ := e2 hn0
            simp only [Option.some.injEq, Addr.mk.injEq, and_true] at e3
            subst e3
            rw [hg] at e4
            cases e4
            exact e5 j (by omega)⟩⟩
        (fun s hs => by
          obtain ⟨a', n', cap', rfl, h2⟩ := hs
          refine ⟨a', n', cap', rfl, fun hn => ?_⟩
          obtain ⟨b, cur2, rfl, e4, e5⟩ := h2 hn
          by_cases hbg' : b = g
          · subst hbg'
            rw [hg] at e4
            cases e4
            refine ⟨b, _, rfl, hh, fun j hj => ?_⟩
            rw [hcell j]
            split
            · rfl
            · exact e5 j hj
          · exact ⟨b, cur2, rfl, (setRow_other w g b _ hbg').trans e4, e5⟩)
        ⟨hown.1, .inr ⟨g, cap, _, rfl, hbg, hh, hnc, hcm, by simp only [List.size_toArray, List.length_append, List.length_take, List.length_drop, Array.length_toList]; omega, by
          rw [← htake]
          have : n * i.size ≤ cur.toList.length := by simp; omega
          simp only [List.append_assoc]
          rw [List.take_append_of_le_length (by simp; omega), List.take_take, Nat.min_self]⟩⟩
        ⟨rfl, rfl, rfl, by simp, fun k _ hk => setRow_other w g k _ (fun e => hk (by simp [Value.ownBlock, e]))⟩ (fun k hk => .inl (by simpa [Value.ownBlock] using hk))
      unfold Oper.wp execOp
      simp only [ho, resolve, invoke, builtin, Sem.run_bind, Sem.run_pure, Result.andThen_ok, List.map_toArray, List.map_cons, List.map_nil, hs, hx, hr]
      exact hK _ _ key
    · have holds : ∀ j u, xs[j]? = some u → w.cell? ((⟨g, 0, none⟩ : Addr).add j) = some u := hown.cells (g := g) rfl
      have hr := run_append_grow (P := P) w t o.type e i z ht hi hz ⟨g, 0, none⟩ n cap xs hown.1 holds ad m c news hl hnews (by omega) (by simp only [maxLen] at h63; omega) (growslice_fits (by omega) hbytes)
      have hmul : (n + m) * i.size = n * i.size + m * i.size := Nat.add_mul _ _ _
      have hxm : ∀ j, j < n * i.size → xs[j]? = some (mcell i.size num j) := by
        intro j hj
        have hn0 : 0 < n := Nat.pos_of_ne_zero (by rintro rfl; simp at hj)
        obtain ⟨a', n', cap', e1, e2⟩ := hM
        simp only [Value.slice.injEq] at e1
        obtain ⟨rfl, rfl, rfl⟩ := e1
        obtain ⟨b, cur2, e3, e4, e5⟩ := e2 hn0
        simp only [Option.some.injEq, Addr.mk.injEq, and_true] at e3
        subst e3
        rw [hg] at e4
        cases e4
        rw [← htake, List.getElem?_take_of_lt hj, Array.getElem?_toList]
        exact e5 j hj
      have key := h (.slice (some ⟨w.heap.size, 0, none⟩) (n + m) (grownCap w (n + m) cap e)) (w.drew.alloc (.cells (xs.toArray ++ news.toArray ++ Builtin.zeroCells z.cells (grownCap w (n + m) cap e - (n + m))) e)) ⟨_, _, rfl⟩
        ⟨_, _, _, rfl, fun _ => ⟨w.heap.size, _, rfl, heap_alloc_new w.drew _, fun j hj => by
          rw [Array.getElem?_append_left (by simp [hown.1]; omega)]
          by_cases c1 : j < n * i.size
          · rw [Array.getElem?_append_left (by simp [hown.1]; omega), List.getElem?_toArray]; exact hxm j c1
          · rw [Array.getElem?_append_right (by simp [hown.1]; omega), List.getElem?_toArray, List.size_toArray, hown.1, hnm _ (by omega)]
            congr 1
            have := mcell_off n i.size (j - n * i.size) num
            rw [show n * i.size + (j - n * i.size) = j by omega] at this
            exact this.symm⟩⟩
        (fun s hs => hs.on ((Below.refl _ _).drew.alloc (Nat.le_refl _) _))
        (hown.kept (row := none) ⟨rfl, rfl, rfl, by simp, fun k hk _ => Below.heap_alloc w.drew _ k hk⟩ (.inr (by simp [Value.ownBlock])))
        ⟨rfl, rfl, rfl, by simp, fun k hk _ => Below.heap_alloc w.drew _ k hk⟩ (fun k hk => .inr (by simp [Value.ownBlock] at hk; omega))
      unfold Oper.wp execOp
      simp only [ho, resolve, invoke, builtin, Sem.run_bind, Sem.run_pure, Result.andThen_ok, List.map_toArray, List.map_cons, List.map_nil, hs, hx, hr]
      exact hK _ _ key
end
end Go.Proofs.YtcnmbldikjljeaaGreatDoor
namespace Go.Proofs.YtcnmbldikjljeaaGreatDoor
open Go.RowKit

/-- lists, none much longer than n -/
def Fm (n : Nat) (ss : List Value) : Prop := ∀ s ∈ ss, ∃ a m cap, s = .slice a m cap ∧ m ≤ n + 3
theorem Fm.four {n : Nat} {a0 a1 a2 a3 : Option Addr} {c0 c1 c2 c3 : Nat} : Fm n [.slice a0 n c0, .slice a1 (n + 1) c1, .slice a2 (n + 2) c2, .slice a3 (n + 3) c3] := by
  intro s hs
  simp only [List.mem_cons, List.not_mem_nil, or_false] at hs
  rcases hs with rfl | rfl | rfl | rfl
  · exact ⟨_, _, _, rfl, by omega⟩
  · exact ⟨_, _, _, rfl, by omega⟩
  · exact ⟨_, _, _, rfl, by omega⟩
  · exact ⟨_, _, _, rfl, by omega⟩
def marks (size : Nat) (num : Int) (n : Nat) : List Value := (List.range (n * size)).map (mcell size num)
theorem marks_len (size : Nat) (num : Int) (n : Nat) : (marks size num n).length = n * size := by simp [marks]
theorem marks_at (size : Nat) (num : Int) (n j : Nat) (h : j < n * size) : (marks size num n)[j]? = some (mcell size num j) := by simp [marks, h]
/-- the book while a list is put into it -/
structure KB (E SE TW : TypeId) (size c : Nat) (w wr : World) (wb : Nat) (cells : Value → Array Value) (b0 bv lv : Value) (m : Nat) (es : List Value) (n : Nat) (num : Int) (ss : List Value) : Prop where
  os : wr.os = w.os
  tape : wr.tape = w.tape
  output : wr.output = w.output
  sz : w.heap.size ≤ wr.heap.size
  block : ∀ k, k < w.heap.size → k ≠ wb → some k ≠ b0.ownBlock → some k ≠ lv.ownBlock → wr.heap[k]? = w.heap[k]?
  wbc : wr.heap[wb]? = some (.cells (cells bv) TW (0, 0))
  row : wr.ownsRow 0 SE 1 bv m es
  own : wr.ownsRow 0 E size lv n (marks size num n)
  mks : ∀ s ∈ ss, Mk wr E size num s
  at_ : ∀ s ∈ ss, ∀ k, s.ownBlock = some k → lv.ownBlock = some k ∨ w.heap.size ≤ k
  bat : ∀ k, bv.ownBlock = some k → b0.ownBlock = some k ∨ w.heap.size ≤ k
section
variable {E SE TW : TypeId} {size c : Nat} {w wr u : World} {wb : Nat} {cells : Value → Array Value} {b0 bv b' lv s : Value} {m : Nat} {es : List Value} {n : Nat} {num : Int} {ss : List Value}
theorem KB.on (K : KB E SE TW size c w wr wb cells b0 bv lv m es n num ss) (h : Below wr.heap.size wr u) : KB E SE TW size c w u wb cells b0 bv lv m es n num ss := by
  have hg : wr.grownBy u none := ⟨h.os, h.tape, h.output, h.size, fun k hk _ => h.block k hk⟩
  exact ⟨h.os.trans K.os, h.tape.trans K.tape, h.output.trans K.output, Nat.le_trans K.sz h.size, fun k hk h1 h2 h3 => (h.block k (Nat.lt_of_lt_of_le hk K.sz)).trans (K.block k hk h1 h2 h3), (h.block wb (Array.getElem?_eq_some_iff.1 K.wbc).1).trans K.wbc, K.row.kept hg (by cases bv.ownBlock <;> simp), K.own.kept hg (by cases lv.ownBlock <;> simp), fun s hs => (K.mks s hs).on h, K.at_, K.bat⟩
/-- one list more of marks -/
theorem KB.app (K : KB E SE TW size c w wr wb cells b0 bv lv m es n num ss) (hES : E ≠ SE) (hET : E ≠ TW) (hm : Mk u E size num s) (hk : ∀ s, Mk wr E size num s → Mk u E size num s) (ho : u.ownsRow 0 E size lv n (marks size num n)) (hg : wr.grownBy u lv.ownBlock) (hat : ∀ k, s.ownBlock = some k → lv.ownBlock = some k ∨ wr.heap.size ≤ k) :
    KB E SE TW size c w u wb cells b0 bv lv m es n num (ss ++ [s]) := by
  have o : Of E wr u := .grown hg K.own
  refine ⟨hg.os.trans K.os, hg.tape.trans K.tape, hg.output.trans K.output, Nat.le_trans K.sz hg.size, fun k hk h1 h2 h3 => (hg.block k (Nat.lt_of_lt_of_le hk K.sz) h3).trans (K.block k hk h1 h2 h3), (o.block _ _ _ _ K.wbc (Ne.symm hET)).trans K.wbc, o.row K.row (Ne.symm hES), ho, fun s' hs => ?_, fun s' hs k hk' => ?_, K.bat⟩
  · rcases List.mem_append.1 hs with h | h
    · exact hk s' (K.mks s' h)
    · rw [List.mem_singleton] at h; subst h; exact hm
  · rcases List.mem_append.1 hs with h | h
    · exact K.at_ s' h k hk'
    · rw [List.mem_singleton] at h
      subst h
      exact (hat k hk').imp id (Nat.le_trans K.sz)
/-- a list is put into the book's row -/
theorem KB.put (K : KB E SE TW size c w wr wb cells b0 bv lv m es n num ss) (hES : E ≠ SE) (hET : E ≠ TW) (hST : SE ≠ TW) (hc : ∀ b, (cells b)[c]? = some b) (hs : ∀ b b', (cells b).setIfInBounds c b' = cells b')
    (hg : wr.grownBy u bv.ownBlock) (hr : u.ownsRow 0 SE 1 b' (m + 1) (es ++ [s])) (hat : ∀ k, b'.ownBlock = some k → bv.ownBlock = some k ∨ wr.heap.size ≤ k) :
    u.cell? ⟨wb, c, none⟩ = some bv ∧ u.frozen? ⟨wb, c, none⟩ = false ∧ KB E SE TW size c w (u.setCell ⟨wb, c, none⟩ b') wb cells b0 b' lv (m + 1) (es ++ [s]) n num ss := by
  have o : Of SE wr u := .grown hg K.row
  have hw := (o.block _ _ _ _ K.wbc (Ne.symm hST)).trans K.wbc
  have o2 : Of TW u (u.setCell ⟨wb, c, none⟩ b') := .set hw _
  refine ⟨by simp [World.cell?, hw, hc], by simp [World.frozen?, hw], hg.os.trans K.os, hg.tape.trans K.tape, hg.output.trans K.output, by simpa using Nat.le_trans K.sz hg.size, fun k hk h1 h2 h3 => ?_, ?_, o2.row hr hST, o2.row (o.row K.own hES) hET, fun s' hs' => ((K.mks s' hs').of o hES).of o2 hET, K.at_, fun k hk => ?_⟩
  · refine (Below.heap_setCell _ _ _ k h1).trans ((hg.block k (Nat.lt_of_lt_of_le hk K.sz) (fun e => ?_)).trans (K.block k hk h1 h2 h3))
    rcases K.bat k e.symm with a | a
    · exact h2 a.symm
    · omega
  · rw [heap_setCell_same _ _ _ _ _ _ hw, hs]
  · rcases hat k hk with a | a
    · exact K.bat k a
    · exact .inr (Nat.le_trans K.sz a)
end
/-- seen from a world ahead -/
theorem KB.base {E SE TW : TypeId} {size c : Nat} {w0 w wr : World} {wb : Nat} {cells : Value → Array Value} {b0 bv lv : Value} {m : Nat} {es : List Value} {n : Nat} {num : Int} {ss : List Value} (K : KB E SE TW size c w wr wb cells b0 bv lv m es n num ss) (h : Below w0.heap.size w0 w) : KB E SE TW size c w0 wr wb cells b0 bv lv m es n num ss :=
  ⟨K.os.trans h.os, K.tape.trans h.tape, K.output.trans h.output, Nat.le_trans h.size K.sz, fun k hk h1 h2 h3 => (K.block k (Nat.lt_of_lt_of_le hk h.size) h1 h2 h3).trans (h.block k hk), K.wbc, K.row, K.own, K.mks, fun s hs k hk => (K.at_ s hs k hk).imp id (Nat.le_trans h.size), fun k hk => (K.bat k hk).imp id (Nat.le_trans h.size)⟩
/-- one block has turned -/
structure Bo (g : Nat) (w u : World) : Prop where
  os : u.os = w.os
  tape : u.tape = w.tape
  output : u.output = w.output
  sz : u.heap.size = w.heap.size
  other : ∀ k, k ≠ g → u.heap[k]? = w.heap[k]?
theorem Bo.refl (g : Nat) (w : World) : Bo g w w := ⟨rfl, rfl, rfl, rfl, fun _ _ => rfl⟩
theorem Bo.set {g : Nat} {w u : World} (h : Bo g w u) (j : Nat) (v : Value) : Bo g w (u.setCell ⟨g, j, none⟩ v) := ⟨h.os, h.tape, h.output, by simpa using h.sz, fun k hk => (Below.heap_setCell _ _ _ k hk).trans (h.other k hk)⟩
/-- the marks are written into the list, up to i -/
structure MI (E : TypeId) (size : Nat) (w wr : World) (lv : Value) (n i : Nat) (num : Int) : Prop where
  os : wr.os = w.os
  tape : wr.tape = w.tape
  output : wr.output = w.output
  sz : w.heap.size ≤ wr.heap.size
  block : ∀ k, k < w.heap.size → some k ≠ lv.ownBlock → wr.heap[k]? = w.heap[k]?
  bk : ∀ g cap, lv = .slice (some ⟨g, 0, none⟩) n cap → ∃ f, BK wr g E (cap * size) f ∧ ∀ j, j < i * size → f j = mcell size num j
section
variable {E : TypeId} {size : Nat} {w wr u : World} {lv : Value} {n i : Nat} {num : Int} {xs : List Value}
theorem MI.start (L : w.ownsRow 0 E size lv n xs) : MI E size w w lv n 0 num := by
  refine ⟨rfl, rfl, rfl, Nat.le_refl _, fun _ _ _ => rfl, fun g cap e => ?_⟩
  rcases L.2 with ⟨rfl, _⟩ | ⟨g', cap', cur, rfl, _, hg, _, _, hs, _⟩
  · cases e
  · simp only [Value.slice.injEq, Option.some.injEq, Addr.mk.injEq, and_true, true_and] at e
    obtain ⟨rfl, rfl⟩ := e
    exact ⟨fun j => cur.getD j (.int .i64 0), ⟨cur, hg, hs, fun j hj => by simp [Array.getD, hs ▸ hj]⟩, fun j hj => by omega⟩
theorem MI.on (M : MI E size w wr lv n i num) (h : Below wr.heap.size wr u) : MI E size w u lv n i num :=
  ⟨h.os.trans M.os, h.tape.trans M.tape, h.output.trans M.output, Nat.le_trans M.sz h.size, fun k hk h1 => (h.block k (Nat.lt_of_lt_of_le hk M.sz)).trans (M.block k hk h1), fun g cap e => by obtain ⟨f, h1, h2⟩ := M.bk g cap e; exact ⟨f, h1.on h, h2⟩⟩
theorem MI.next {g cap : Nat} {f' : Nat → Value} (M : MI E size w wr (.slice (some ⟨g, 0, none⟩) n cap) n i num) (hb : BK u g E (cap * size) f') (hf : ∀ j, j < (i + 1) * size → f' j = mcell size num j) (o : Bo g wr u) : MI E size w u (.slice (some ⟨g, 0, none⟩) n cap) n (i + 1) num := by
  refine ⟨o.os.trans M.os, o.tape.trans M.tape, o.output.trans M.output, by rw [o.sz]; exact M.sz, fun k hk1 h1 => (o.other k (fun e => h1 (by rw [e]; rfl))).trans (M.block k hk1 h1), fun g' cap' e => ?_⟩
  simp only [Value.slice.injEq, Option.some.injEq, Addr.mk.injEq, and_true, true_and] at e
  obtain ⟨rfl, rfl⟩ := e
  exact ⟨f', hb, hf⟩
/-- all are written: the book can begin -/
theorem MI.kb {SE TW : TypeId} {c wb : Nat} {cells : Value → Array Value} {bv : Value} {m : Nat} {es : List Value} (M : MI E size w wr lv n n num) (L : w.ownsRow 0 E size lv n xs) (hES : E ≠ SE) (hET : E ≠ TW) (hw : w.heap[wb]? = some (.cells (cells bv) TW (0, 0))) (B : w.ownsRow 0 SE 1 bv m es) : KB E SE TW size c w wr wb cells bv bv lv m es n num [lv] := by
  have hg : w.grownBy wr lv.ownBlock := ⟨M.os, M.tape, M.output, M.sz, M.block⟩
  have o : Of E w wr := .grown hg L
  have hown : wr.ownsRow 0 E size lv n (marks size num n) ∧ Mk wr E size num lv := by
    rcases L.2 with ⟨rfl, rfl⟩ | ⟨g, cap, cur, rfl, _, _, h1, h2, _⟩
    · exact ⟨⟨by rw [marks_len], .inl ⟨rfl, rfl⟩⟩, none, 0, 0, rfl, fun h => by omega⟩
    · obtain ⟨f, hb, hf⟩ := M.bk g cap rfl
      refine ⟨hb.row rfl h1 h2 (Nat.zero_le _) (marks_len _ _ _) (fun j v hv => ?_), _, _, _, rfl, fun _ => ?_⟩
      · have hj := (List.getElem?_eq_some_iff.1 hv).1
        rw [marks_len] at hj
        rw [marks_at _ _ _ _ hj] at hv
        cases hv
        exact hf j hj
      · obtain ⟨cur', e1, e2, e3⟩ := hb
        exact ⟨g, cur', rfl, e1, fun j hj => by rw [e3 j (Nat.lt_of_lt_of_le hj (Nat.mul_le_mul_right _ h1)), hf j hj]⟩
  exact ⟨M.os, M.tape, M.output, M.sz, fun k hk _ _ h3 => M.block k hk h3, (o.block _ _ _ _ hw (Ne.symm hET)).trans hw, o.row B (Ne.symm hES), hown.1, fun s hs => by rw [List.mem_singleton] at hs; subst hs; exact hown.2, fun s hs k hk => by rw [List.mem_singleton] at hs; subst hs; exact .inl hk, fun k hk => .inl hk⟩
end
end Go.Proofs.YtcnmbldikjljeaaGreatDoor
namespace Go.Proofs.YtcnmbldikjljeaaGreatDoor

/-- append, and where the new row lies, up to Go's own bound -/
theorem wpList_append_lies_wide {P : Program} {w : World} {ops : Array Oper} {rest : List Oper} {o : Oper} {a : Act} {Q : Exit → Act → World → Prop} (hgd : o.guard = none) (s x : Operand) (t : TypeId)
    (ho : o.op = .call { callee := .builtin .append, args := #[s, x], argTypes := #[t, t] })
    (base : Nat) (e : TypeId) (i : TypeInfo) (z : Value) (size bytes : Nat) (ht : P.underlying t = some (.slice e)) (hi : P.info? e = some i) (hz : i.zero = some z)
    (hsize : i.size = size) (hby : i.bytes = bytes) (hzs : z.cells.size = size) (hsz : 0 < size)
    (v : Value) (n : Nat) (xs : List Value) (hs : a.eval s = v) (hown : w.ownsRow base e size v n xs)
    (ad : Addr) (m c : Nat) (news : List Value) (hx : a.eval x = .slice (some ad) m c) (hl : news.length = m * size) (hnews : ∀ j u, news[j]? = some u → w.cell? (ad.add j) = some u) (h1 : ∀ u ∈ news, u.oneCell' = true)
    (hm : 0 < m) (h63 : n + m ≤ maxLen) (hbytes : ((n + m) + (n + m) / 4 + 192) * bytes ≤ 281474976710656) (hbase : base ≤ w.heap.size) (H : Nat) (hH : w.heap.size = H)
    (h : ∀ g cap w', w'.ownsRow base e size (.slice (some ⟨g, 0, none⟩) (n + m) cap) (n + m) (xs ++ news) → w.grownBy w' v.ownBlock → (v.ownBlock = some g ∨ g = H) → g < w'.heap.size → wpList P ops Q rest (a.put o.dst (.slice (some ⟨g, 0, none⟩) (n + m) cap)) w') : wpList P ops Q (o :: rest) a w := by
  refine wpList_plain hgd fun K hK => ?_
  obtain ⟨v', w', hr, h2, h3, _⟩ := run_append_own_wide (P := P) w base t o.type e i z size bytes ht hi hz hsize hby hzs hsz v n xs hown ad m c news hl hnews h1 h63 hbytes hbase
  obtain ⟨g, cap, rfl, _, hlt⟩ := h2.form (by omega)
  have hsm : n + m ≤ 9223372036854775807 := by have h9 := h63; simp only [maxLen] at h9; omega
  have hloc : v.ownBlock = some g ∨ g = H := by
    subst hsize
    subst hby
    rcases hown.2 with ⟨rfl, rfl⟩ | ⟨g0, cap0, cur, rfl, _, hg, hnc, hcm, hcs, htake⟩
    · have hb : m * i.bytes ≤ 281474976710656 := Nat.le_trans (Nat.mul_le_mul_right _ (by omega)) hbytes
      rw [run_append_nil (P := P) w t o.type e i z ht hi hz ad m c news hl hnews hm (by omega) hb] at hr
      simp only [Result.ok.injEq, Value.slice.injEq, Option.some.injEq, Addr.mk.injEq] at hr
      exact .inr (by omega)
    · by_cases hroom : n + m ≤ cap0
      · have hfit : n * i.size + news.length ≤ cur.size := by rw [hl, hcs, ← Nat.add_mul]; exact Nat.mul_le_mul_right _ hroom
        rw [run_append_room (P := P) w t o.type e i ht hi g0 n cap0 cur hg ad m c news hl hnews h1 hroom hfit] at hr
        simp only [Result.ok.injEq, Value.slice.injEq, Option.some.injEq, Addr.mk.injEq] at hr
        exact .inl (by rw [← hr.1.1.1]; rfl)
      · have holds : ∀ j u, xs[j]? = some u → w.cell? ((⟨g0, 0, none⟩ : Addr).add j) = some u := hown.cells (g := g0) rfl
        rw [run_append_grow (P := P) w t o.type e i z ht hi hz ⟨g0, 0, none⟩ n cap0 xs hown.1 holds ad m c news hl hnews (by omega) (by omega) (growslice_fits_wide (by omega) hbytes)] at hr
        simp only [Result.ok.injEq, Value.slice.injEq, Option.some.injEq, Addr.mk.injEq] at hr
        exact .inr (by omega)
  have key := h g cap w' h2 h3 hloc hlt
  unfold Oper.wp execOp
  simp only [ho, resolve, invoke, builtin, Sem.run_bind, Sem.run_pure, Result.andThen_ok, List.map_toArray, List.map_cons, List.map_nil, hs, hx, hr]
  exact hK _ _ key
end Go.Proofs.YtcnmbldikjljeaaGreatDoor
