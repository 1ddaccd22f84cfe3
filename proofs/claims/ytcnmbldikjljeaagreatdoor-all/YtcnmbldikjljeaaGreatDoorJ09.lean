import Derived.Test.YtcnmbldikjljeaaGreatDoorJ06
import Derived.Test.YtcnmbldikjljeaaGreatDoorJ08
import Derived.Laws.AppendOwnNone
import Derived.Lib.OthersKept
import Derived.Laws.CopyOwn
import Derived.Test.YtcnmbldikjljeaaGreatDoorJ01
import Derived.WalkKit
import Derived.WalkSpells
import Derived.WalkLawsBesides
namespace Go.Proofs.YtcnmbldikjljeaaGreatDoor
open Go.RowKit

/-- a row of another type than the block's -/
theorem row_left {w u : World} {b base size n : Nat} {t e : TypeId} {v : Value} {xs : List Value} {cur : Array Value} (h : w.ownsRow base e size v n xs) (hg : w.grownBy u (some b)) (hb : w.heap[b]? = some (.cells cur t (0, 0))) (hte : t ≠ e) : u.ownsRow base e size v n xs := by
  refine h.kept hg ?_
  rcases h.2 with ⟨rfl, _⟩ | ⟨q, cap, c2, rfl, _, hq, _⟩
  · exact .inl rfl
  · refine .inr fun e' => ?_
    obtain rfl : q = b := by simpa [Value.ownBlock] using e'
    rw [hb] at hq
    cases hq
    exact hte rfl
/-- the stages in memory -/
def stCells (vs : Nat → Value × Value) (n : Nat) : List Value := (List.range n).flatMap fun i => [(vs i).1, (vs i).2]
def intCells (l : List Int) : List Value := l.map fun x => .int .i64 x
structure SW (w : World) (sv : Value) (st : List Stg) (vs : Nat → Value × Value) : Prop where
  row : w.ownsRow 0 125 2 sv st.length (stCells vs st.length)
  lev : ∀ i, i < st.length → w.ownsRow 0 127 2 (vs i).1 (stAt st i).levels.length (flat (stAt st i).levels)
  nxt : ∀ i, i < st.length → w.ownsRow 0 3 1 (vs i).2 (stAt st i).next.length (intCells (stAt st i).next)
theorem SW.on {w u : World} {sv : Value} {st : List Stg} {vs : Nat → Value × Value} (h : SW w sv st vs) (hb : Below w.heap.size w u) : SW u sv st vs := by
  have hg : w.grownBy u none := ⟨hb.os, hb.tape, hb.output, hb.size, fun k hk _ => hb.block k hk⟩
  exact ⟨h.row.kept hg (by cases sv.ownBlock <;> simp), fun i hi => (h.lev i hi).kept hg (by cases (vs i).1.ownBlock <;> simp), fun i hi => (h.nxt i hi).kept hg (by cases (vs i).2.ownBlock <;> simp)⟩
theorem SW.left {w u : World} {b : Nat} {t : TypeId} {cur : Array Value} {sv : Value} {st : List Stg} {vs : Nat → Value × Value} (h : SW w sv st vs) (hg : w.grownBy u (some b)) (hb : w.heap[b]? = some (.cells cur t (0, 0))) (h1 : t ≠ 125) (h2 : t ≠ 127) (h3 : t ≠ 3) : SW u sv st vs :=
  ⟨row_left h.row hg hb h1, fun i hi => row_left (h.lev i hi) hg hb h2, fun i hi => row_left (h.nxt i hi) hg hb h3⟩
theorem stCells_at (vs : Nat → Value × Value) (n i : Nat) (hi : i < n) : (stCells vs n)[i * 2]? = some (vs i).1 ∧ (stCells vs n)[i * 2 + 1]? = some (vs i).2 := by
  induction n with
  | zero => omega
  | succ n ih =>
    have e : stCells vs (n + 1) = stCells vs n ++ [(vs n).1, (vs n).2] := by simp [stCells, List.range_succ]
    have hl : ∀ m, (stCells vs m).length = m * 2 := by
      intro m
      induction m with
      | zero => rfl
      | succ m ihm => rw [show stCells vs (m + 1) = stCells vs m ++ [(vs m).1, (vs m).2] by simp [stCells, List.range_succ], List.length_append, ihm]; simp; omega
    rw [e]
    by_cases h : i < n
    · have := ih h
      rw [List.getElem?_append_left (by rw [hl]; omega), List.getElem?_append_left (by rw [hl]; omega)]
      exact this
    · obtain rfl : i = n := by omega
      rw [List.getElem?_append_right (by rw [hl]; omega), List.getElem?_append_right (by rw [hl]; omega), hl, show i * 2 - i * 2 = 0 by omega, show i * 2 + 1 - i * 2 = 1 by omega]
      exact ⟨rfl, rfl⟩
theorem row_some {w : World} {base n size : Nat} {t : TypeId} {v : Value} {xs : List Value} (h : w.ownsRow base t size v n xs) (hn : 0 < n) : ∃ q cap, v = .slice (some ⟨q, 0, none⟩) n cap := by
  rcases h.2 with ⟨_, hz⟩ | ⟨q, cap, cur, hv, _⟩
  · omega
  · exact ⟨q, cap, hv⟩
theorem row_any {w : World} {base n size : Nat} {t : TypeId} {v : Value} {xs : List Value} (h : w.ownsRow base t size v n xs) : ∃ a cap, v = .slice a n cap := by
  rcases h.2 with ⟨rfl, rfl⟩ | ⟨q, cap, cur, rfl, _⟩
  · exact ⟨_, _, rfl⟩
  · exact ⟨_, _, rfl⟩
/-- what Case answers -/
def caseV (d : Dk) (id : Int) : Value :=
  if findL d.cases id < 0 then .tuple #[.agg #[.int .i64 0, .int .i64 0, .int .i64 0, .bool false], .int .i64 5]
  else .tuple #[.agg #[.int .i64 (csAt d.cases (findL d.cases id)).stage, .int .i64 (csAt d.cases (findL d.cases id)).level, .int .i64 (csAt d.cases (findL d.cases id)).due, .bool (csAt d.cases (findL d.cases id)).held], .int .i64 0]
def evCells (e : Ev) : List Value := [.int .i64 e.number, .int .i64 e.time, .int .i64 e.case, .int .i64 e.stage, .int .i64 e.level, .int .i64 e.who]
def evsCells (l : List Ev) : List Value := l.flatMap evCells
theorem evsCells_snoc (l : List Ev) (e : Ev) : evsCells (l ++ [e]) = evsCells l ++ evCells e := by simp [evsCells]
theorem eventInfo : (Tryz.prog.info? 63).map (fun i => (i.zero, i.size, i.bytes)) = some (some (.agg #[.int .i64 0, .int .i64 0, .int .i64 0, .int .i64 0, .int .i64 0, .int .i64 0]), 6, 48) := by kernel_rfl
def lenV : Value → Nat
  | .slice _ n _ => n
  | _ => 0
theorem row_on {w u : World} {base size n : Nat} {e : TypeId} {v : Value} {xs : List Value} (h : w.ownsRow base e size v n xs) (hb : Below w.heap.size w u) : u.ownsRow base e size v n xs :=
  h.kept (row := none) ⟨hb.os, hb.tape, hb.output, hb.size, fun k hk _ => hb.block k hk⟩ (by cases v.ownBlock <;> simp)
theorem lenV_own {w : World} {base size n : Nat} {e : TypeId} {v : Value} {xs : List Value} (h : w.ownsRow base e size v n xs) : lenV v = n := by
  rcases h.2 with ⟨rfl, rfl⟩ | ⟨q, cap, cur, rfl, _⟩ <;> rfl
theorem entryInfo : (Tryz.prog.info? 67).map (fun i => (i.zero, i.size, i.bytes)) = some (some (.agg #[.int .i64 0, .int .i64 0]), 2, 16) := by kernel_rfl
theorem flat_one (l : List (Int × Int)) : ∀ u ∈ flat l, u.oneCell' = true := by
  intro u hu
  simp only [flat, List.mem_flatMap] at hu
  obtain ⟨x, _, hu⟩ := hu
  simp only [List.mem_cons, List.not_mem_nil, or_false] at hu
  rcases hu with rfl | rfl <;> rfl
theorem flat_append (a b : List (Int × Int)) : flat (a ++ b) = flat a ++ flat b := by simp [flat]
theorem row_mono {w : World} {base base' size n : Nat} {t : TypeId} {v : Value} {xs : List Value} (h : w.ownsRow base t size v n xs) (hb : base' ≤ base) : w.ownsRow base' t size v n xs :=
  ⟨h.1, h.2.imp id fun ⟨q, cap, cur, a, b, r⟩ => ⟨q, cap, cur, a, Nat.le_trans hb b, r⟩⟩
theorem check_no {st : List Stg} (i : Nat) (hi : i < st.length) (h : stgOk st.length (stAt st i) = false) : checkL st = false := by
  unfold checkL
  have hs : st.all (stgOk st.length) = false := by
    rw [List.all_eq_false]
    refine ⟨stAt st i, ?_, by simp [h]⟩
    simp [stAt, hi]
  rw [hs, Bool.and_false]
theorem check_yes {st : List Stg} (h1 : 1 ≤ st.length ∧ st.length ≤ 6) (h : ∀ i : Nat, i < st.length → stgOk st.length (stAt st i) = true) : checkL st = true := by
  unfold checkL
  rw [decide_eq_true h1, Bool.true_and, List.all_eq_true]
  intro s hs
  obtain ⟨i, hi, rfl⟩ := List.getElem_of_mem hs
  have := h i hi
  simpa [stAt, hi] using this
def lvOk (p : Int × Int) : Bool := decide (1 ≤ p.1 ∧ p.1 ≤ 20000) && decide (0 ≤ p.2 ∧ p.2 ≤ 99)
def nxOk (n : Nat) (k : Int) : Bool := decide (0 ≤ k ∧ k < n)
theorem stgOk_eq (n : Nat) (s : Stg) : stgOk n s = (decide (s.levels.length ≤ 4) && s.levels.all lvOk && s.next.all (nxOk n)) := rfl
theorem intCells_at (l : List Int) (k : Nat) (h : k < l.length) : (intCells l)[k * 1]? = some (.int .i64 l[k]) := by
  simp [intCells, h]
theorem below_of_grown {w u : World} (h : w.grownBy u none) : Below w.heap.size w u := ⟨h.os, h.tape, h.output, h.size, fun k hk => h.block k hk (by simp)⟩
theorem stCells_succ (f : Nat → Value × Value) (n : Nat) : stCells f (n + 1) = stCells f n ++ [(f n).1, (f n).2] := by simp [stCells, List.range_succ]
theorem stCells_congr (f g : Nat → Value × Value) (n : Nat) (h : ∀ j, j < n → f j = g j) : stCells f n = stCells g n := by
  induction n with
  | zero => rfl
  | succ n ih => rw [stCells_succ, stCells_succ, ih (fun j hj => h j (by omega)), h n (by omega)]
theorem intInfo : (Tryz.prog.info? 3).map (fun i => (i.zero, i.size, i.bytes)) = some (some (.int .i64 0), 1, 8) := by kernel_rfl
/-- 'append(buf, xs...)', xs nil or not -/
theorem wpList_append_opt {P : Program} {w : World} {ops : Array Oper} {rest : List Oper} {o : Oper} {a : Act} {Q : Exit → Act → World → Prop} (hgd : o.guard = none) (s x : Operand) (t : TypeId)
    (ho : o.op = .call { callee := .builtin .append, args := #[s, x], argTypes := #[t, t] })
    (base : Nat) (e : TypeId) (i : TypeInfo) (z : Value) (size bytes : Nat) (ht : P.underlying t = some (.slice e)) (hi : P.info? e = some i) (hz : i.zero = some z)
    (hsize : i.size = size) (hby : i.bytes = bytes) (hzs : z.cells.size = size) (hsz : 0 < size)
    (v : Value) (n : Nat) (xs : List Value) (hs : a.eval s = v) (hown : w.ownsRow base e size v n xs)
    (ad : Option Addr) (m c : Nat) (news : List Value) (hx : a.eval x = .slice ad m c) (hnone : ad = none → m = 0 ∧ c = 0) (hl : news.length = m * size) (hnews : ∀ j u, news[j]? = some u → ∃ b off, ad = some ⟨b, off, none⟩ ∧ w.cell? ⟨b, off + j, none⟩ = some u) (h1 : ∀ u ∈ news, u.oneCell' = true)
    (h63 : n + m ≤ maxLen) (hbytes : (n + m) * bytes ≤ 140737488355328) (hbase : base ≤ w.heap.size)
    (h : ∀ v' w', w'.ownsRow base e size v' (n + m) (xs ++ news) → w.grownBy w' v.ownBlock → wpList P ops Q rest (a.put o.dst v') w') : wpList P ops Q (o :: rest) a w := by
  cases ad with
  | none =>
    obtain ⟨rfl, rfl⟩ := hnone rfl
    have hnil : news = [] := by rw [← List.length_eq_zero_iff, hl]; omega
    subst hnil
    refine wpList_append_own_none hgd s x t ho base e i size ht hi v n xs hs hown hx ?_
    exact h v w (by simpa using hown) ⟨rfl, rfl, rfl, Nat.le_refl _, fun _ _ _ => rfl⟩
  | some ad =>
    refine wpList_append_own w hgd s x t ho base e i z size bytes ht hi hz hsize hby hzs hsz v n xs hs hown ad m c news hx hl ?_ h1 h63 hbytes hbase (fun v' w' h2 h3 _ => h v' w' h2 h3)
    intro j u hj
    obtain ⟨b, off, e1, e2⟩ := hnews j u hj
    cases e1
    rw [show (Addr.mk b off none).add j = ⟨b, off + j, none⟩ by simp [Addr.add]]
    exact e2
/-- a block, cell by cell -/
def BK (w : World) (g : Nat) (e : TypeId) (N : Nat) (f : Nat → Value) : Prop := ∃ cur, w.heap[g]? = some (.cells cur e (0, 0)) ∧ cur.size = N ∧ ∀ j, j < N → cur[j]? = some (f j)
section
variable {w u : World} {g N : Nat} {e : TypeId} {f f' : Nat → Value}
theorem BK.lt (h : BK w g e N f) : g < w.heap.size := by
  obtain ⟨cur, h1, _⟩ := h
  exact (Array.getElem?_eq_some_iff.1 h1).1
theorem BK.cell (h : BK w g e N f) (j : Nat) (hj : j < N) : w.cell? ⟨g, j, none⟩ = some (f j) := by
  obtain ⟨cur, h1, _, h3⟩ := h
  simp [World.cell?, h1, h3 j hj]
theorem BK.frz (h : BK w g e N f) (j : Nat) : w.frozen? ⟨g, j, none⟩ = false := by
  obtain ⟨cur, h1, _⟩ := h
  simp [World.frozen?, h1]
theorem BK.at (h : BK w g e N f) (hb : u.heap[g]? = w.heap[g]?) : BK u g e N f := by
  obtain ⟨cur, h1, h2⟩ := h
  exact ⟨cur, hb.trans h1, h2⟩
theorem BK.on (h : BK w g e N f) (hb : Below w.heap.size w u) : BK u g e N f := h.at (hb.block g h.lt)
theorem BK.congr (h : BK w g e N f) (hf : ∀ j, j < N → f j = f' j) : BK w g e N f' := by
  obtain ⟨cur, h1, h2, h3⟩ := h
  exact ⟨cur, h1, h2, fun j hj => by rw [h3 j hj, hf j hj]⟩
theorem BK.set (h : BK w g e N f) (j : Nat) (v : Value) : BK (w.setCell ⟨g, j, none⟩ v) g e N (fun k => if k = j then v else f k) := by
  obtain ⟨cur, h1, h2, h3⟩ := h
  refine ⟨cur.setIfInBounds j v, heap_setCell_same _ _ _ _ _ _ h1, by simp [h2], fun k hk => ?_⟩
  rw [Array.getElem?_setIfInBounds]
  by_cases e : j = k
  · subst e; rw [if_pos rfl, if_pos (by omega)]; simp
  · rw [if_neg e, h3 k hk]; simp [Ne.symm e]
theorem BK.row {base size n cap : Nat} {xs : List Value} (h : BK w g e N f) (hN : N = cap * size) (hn : n ≤ cap) (hm : cap ≤ maxLen) (hb : base ≤ g) (hl : xs.length = n * size) (hx : ∀ j v, xs[j]? = some v → f j = v) : w.ownsRow base e size (.slice (some ⟨g, 0, none⟩) n cap) n xs := by
  obtain ⟨cur, h1, h2, h3⟩ := h
  refine ⟨hl, .inr ⟨g, cap, cur, rfl, hb, h1, hn, hm, by rw [h2, hN], ?_⟩⟩
  apply List.ext_getElem?
  intro j
  by_cases hj : j < n * size
  · have hjN : j < N := by rw [hN]; exact Nat.lt_of_lt_of_le hj (Nat.mul_le_mul_right _ hn)
    have hv : xs[j]? = some (xs[j]'(by omega)) := List.getElem?_eq_getElem (by omega)
    rw [List.getElem?_take_of_lt hj, Array.getElem?_toList, h3 j hjN, hv, hx j _ hv]
  · rw [List.getElem?_take_eq_none (by omega), List.getElem?_eq_none (by omega)]
end
/-- the sizes that a list may have -/
structure Rm (st : List Stg) : Prop where
  all : st.length * 48 ≤ 140737488351232
  lev : ∀ i : Nat, i < st.length → (stAt st i).levels.length * 16 ≤ 140737488351232
  nxt : ∀ i : Nat, i < st.length → (stAt st i).next.length * 8 ≤ 140737488351232
/-- what is asked of the program's dockets: a docket in memory (owner, its owner's number, memory, its block; calendar, stages, what it holds), and its calls -/
abbrev PSt := (Nat → Nat) → World → Nat → Nat → (Nat → Bool) → List Stg → Dk → Prop
/-- memory is bounded, and so are the numbers -/
structure Pre (own : Nat → Nat) (w : World) (F : Nat → Bool) (st : List Stg) (d : Dk) : Prop where
  lt : ∀ k, own k ≠ 0 → k < w.heap.size
  stok : StOk st
  n6 : st.length ≤ 6
  ok : DkOk F st d 4611686018427387000
  rest : DkR st d
structure Prg (PS : PSt) : Prop where
  kept : ∀ {own own' w w' T t p F st d}, PS own w t p F st d → KeptS own own' T w w' → ¬ T 0 → ¬ T t → PS own' w' t p F st d
  tag : ∀ {own w t p F st d}, PS own w t p F st d → own p = t ∧ p < w.heap.size
  open_ : ∀ {own w t p F st d}, PS own w t p F st d → t ≠ 0 → Pre own w F st d → ∀ stage : Int, Calls Tryz.prog 17 #[P0 p, .int .i64 stage] w fun e w' => e = .returned (.tuple #[.int .i64 (openC F st d stage).2.1, .int .i64 (openC F st d stage).2.2]) ∧ ∃ own', PS own' w' t p F st (openC F st d stage).1 ∧ Kept own own' t w w'
  move : ∀ {own w t p F st d}, PS own w t p F st d → t ≠ 0 → Pre own w F st d → ∀ id stage : Int, Calls Tryz.prog 19 #[P0 p, .int .i64 id, .int .i64 stage] w fun e w' => e = .returned (.int .i64 (moveC F st d id stage).2) ∧ ∃ own', PS own' w' t p F st (moveC F st d id stage).1 ∧ Kept own own' t w w'
  close : ∀ {own w t p F st d}, PS own w t p F st d → t ≠ 0 → Pre own w F st d → ∀ id : Int, Calls Tryz.prog 20 #[P0 p, .int .i64 id] w fun e w' => e = .returned (.int .i64 (closeC d id).2) ∧ ∃ own', PS own' w' t p F st (closeC d id).1 ∧ Kept own own' t w w'
  hold : ∀ {own w t p F st d}, PS own w t p F st d → t ≠ 0 → Pre own w F st d → ∀ id : Int, Calls Tryz.prog 21 #[P0 p, .int .i64 id] w fun e w' => e = .returned (.int .i64 (holdC F d id).2) ∧ ∃ own', PS own' w' t p F st (holdC F d id).1 ∧ Kept own own' t w w'
  resume : ∀ {own w t p F st d}, PS own w t p F st d → t ≠ 0 → Pre own w F st d → ∀ id : Int, Calls Tryz.prog 23 #[P0 p, .int .i64 id] w fun e w' => e = .returned (.int .i64 (resumeC F d id).2) ∧ ∃ own', PS own' w' t p F st (resumeC F d id).1 ∧ Kept own own' t w w'
  case_ : ∀ {own w t p F st d}, PS own w t p F st d → t ≠ 0 → Pre own w F st d → ∀ id : Int, Calls Tryz.prog 26 #[P0 p, .int .i64 id] w fun e w' => e = .returned (caseV d id) ∧ ∃ own', PS own' w' t p F st d ∧ Kept own own' t w w'
  now : ∀ {own w t p F st d}, PS own w t p F st d → t ≠ 0 → Pre own w F st d → Calls Tryz.prog 13 #[P0 p] w fun e w' => e = .returned (.tuple #[.int .i64 d.time, .int .i64 d.told]) ∧ ∃ own', PS own' w' t p F st d ∧ Kept own own' t w w'
  tick : ∀ {own w t p F st d}, PS own w t p F st d → t ≠ 0 → Pre own w F st d → ∀ n : Int, Calls Tryz.prog 15 #[P0 p, .int .i64 n] w fun e w' => ∃ ov, e = .returned (.tuple #[ov, .int .i64 (tickC F st d n).2.2]) ∧ w'.ownsRow w.heap.size 63 6 ov (tickC F st d n).2.1.length (evsCells (tickC F st d n).2.1) ∧ ((tickC F st d n).2.2 ≠ 0 → ov = .slice none 0 0) ∧ ∃ own', PS own' w' t p F st (tickC F st d n).1 ∧ Kept own own' t w w' ∧ ∀ k, ov.ownBlock = some k → own' k = 8
  agenda : ∀ {own w t p F st d}, PS own w t p F st d → t ≠ 0 → Pre own w F st d → Calls Tryz.prog 25 #[P0 p] w fun e w' => ∃ ov, e = .returned ov ∧ w'.ownsRow w.heap.size 67 2 ov (agendaL d.cases []).length (flat (agendaL d.cases [])) ∧ ∃ own', PS own' w' t p F st d ∧ Kept own own' t w w' ∧ ∀ k, ov.ownBlock = some k → own' k = 8
  check : ∀ {w : World} {sv : Value} {st : List Stg} {vs : Nat → Value × Value}, SW w sv st vs → Calls Tryz.prog 66 #[sv] w fun e w' => e = .returned (.int .i64 (if checkL st = true then 0 else 4)) ∧ Below w.heap.size w w'
  newNil : ∀ {w : World} {sv : Value} {st : List Stg} {vs : Nat → Value × Value}, SW w sv st vs → Calls Tryz.prog 35 #[.pointer none, sv] w fun e w' => e = .returned (.tuple #[.pointer none, .int .i64 1]) ∧ Below w.heap.size w w'
  newNo : ∀ {w : World} {sv : Value} {st : List Stg} {vs : Nat → Value × Value} (c : Nat), SW w sv st vs → checkL st = false → Calls Tryz.prog 35 #[P0 c, sv] w fun e w' => e = .returned (.tuple #[.pointer none, .int .i64 4]) ∧ Below w.heap.size w w'
  newOk : ∀ {own : Nat → Nat} {w : World} {sv : Value} {st : List Stg} {vs : Nat → Value × Value} {c : Nat} {wk : Nat → List (Int × Int)} {fr : Nat → Bool} {F : Nat → Bool}, SW w sv st vs → CalW (roW own w) c wk fr → (∀ j, (wk j).length ≤ 1000) → (∀ x : Int, 0 ≤ x → x < 100800 → openL wk fr x = F x.toNat) → checkL st = true → Rm st → (∀ k, own k ≠ 0 → k < w.heap.size) → ∀ t, t ≠ 0 →
    Calls Tryz.prog 35 #[P0 c, sv] w fun e w' => ∃ p own', e = .returned (.tuple #[P0 p, .int .i64 0]) ∧ w.heap.size ≤ p ∧ PS own' w' t p F st ⟨0, 0, 0, []⟩ ∧ Kept own own' t w w'
theorem Pre.on {own : Nat → Nat} {w w' : World} {F : Nat → Bool} {st : List Stg} {d : Dk} (h : Pre own w F st d) (hb : w.heap.size ≤ w'.heap.size) : Pre own w' F st d := ⟨fun k hk => Nat.lt_of_lt_of_le (h.lt k hk) hb, h.stok, h.n6, h.ok, h.rest⟩
theorem evsCells_len (l : List Ev) : (evsCells l).length = l.length * 6 := by
  induction l with
  | nil => rfl
  | cons x l ih => rw [show evsCells (x :: l) = evCells x ++ evsCells l by simp [evsCells], List.length_append, ih]; simp [evCells]; omega
theorem evsCells_at (l : List Ev) (i : Nat) (h : i < l.length) (j : Nat) (hj : j < 6) : (evsCells l)[i * 6 + j]? = (evCells l[i])[j]? := by
  induction l generalizing i with
  | nil => simp at h
  | cons x l ih =>
    rw [show evsCells (x :: l) = evCells x ++ evsCells l by simp [evsCells]]
    have hl : (evCells x).length = 6 := rfl
    cases i with
    | zero => rw [List.getElem?_append_left (by omega)]; simp
    | succ i =>
      rw [List.getElem?_append_right (by omega), show (i + 1) * 6 + j - (evCells x).length = i * 6 + j by omega, ih i (by simpa using h)]
      simp
theorem DkOk.mono {F : Nat → Bool} {st : List Stg} {d : Dk} {N M : Int} (h : DkOk F st d N) (hm : N ≤ M) : DkOk F st d M := ⟨h.t0, h.t1, h.m0, Int.le_trans h.m1 hm, h.k0, Int.le_trans h.k1 hm, h.len, h.cs, h.du⟩
/-- a calendar that was made now, seen without what is somebody's -/
theorem CalF.ro {own : Nat → Nat} {w : World} {g : Nat} {raw : Nat → List (Int × Int)} {fr : Nat → Bool} (h : CalF w g raw fr) (ho : ∀ k, g ≤ k → own k = 0) : CalW (roW own w) g raw fr := by
  obtain ⟨wk, C, hj, hk⟩ := h
  have hg : (roW own w).heap[g]? = w.heap[g]? := ro_free (ho g (Nat.le_refl _))
  refine ⟨wk, ⟨by rw [ro_size]; exact C.lt, fun j hj' => ?_, fun j hj' => (World.cell?_of_block (a := ⟨g, 7 + j, none⟩) hg).trans (C.free j hj')⟩, hj⟩
  obtain ⟨v, c1, c2⟩ := C.week j hj'
  exact ⟨v, (World.cell?_of_block (a := ⟨g, j, none⟩) hg).trans c1, row_ro c2 (fun k e => ho k (Nat.le_of_lt (hk j hj' v c1 k e)))⟩
end Go.Proofs.YtcnmbldikjljeaaGreatDoor
namespace Go.Proofs.YtcnmbldikjljeaaGreatDoor
open Go.RowKit

theorem stageInfo : (Tryz.prog.info? 125).map (fun i => (i.zero, i.size, i.bytes)) = some (some (.agg #[.slice none 0 0, .slice none 0 0]), 2, 48) := by kernel_rfl
theorem levelInfo : (Tryz.prog.info? 127).map (fun i => (i.zero, i.size, i.bytes)) = some (some (.agg #[.int .i64 0, .int .i64 0]), 2, 16) := by kernel_rfl
theorem flatOne (l : List (Int × Int)) : ∀ u ∈ flat l, u.oneCell' = true := by
  intro u hu
  simp only [flat, List.mem_flatMap] at hu
  obtain ⟨x, _, hu⟩ := hu
  simp only [List.mem_cons, List.not_mem_nil, or_false] at hu
  rcases hu with rfl | rfl <;> rfl
theorem intCells_one (l : List Int) : ∀ u ∈ intCells l, u.oneCell' = true := by
  intro u hu
  simp only [intCells, List.mem_map] at hu
  obtain ⟨x, _, rfl⟩ := hu
  rfl
theorem row_le {w : World} {base n size : Nat} {t : TypeId} {v : Value} {xs : List Value} (h : w.ownsRow base t size v n xs) : n ≤ maxLen := by
  rcases h.2 with ⟨_, hz⟩ | ⟨q, cap, cur, _, _, _, h1, h2, _⟩
  · omega
  · omega
/-- a list that can be read, wherever it lies -/
structure LR (w : World) (size : Nat) (v : Value) (n : Nat) (xs : List Value) : Prop where
  len : xs.length = n * size
  max : n ≤ maxLen
  form : ∃ a cap, v = .slice a n cap ∧ (a = none → n = 0 ∧ cap = 0) ∧ ∀ j u, xs[j]? = some u → ∃ b off, a = some ⟨b, off, none⟩ ∧ w.cell? ⟨b, off + j, none⟩ = some u
section
variable {w u : World} {size n : Nat} {v : Value} {xs : List Value}
theorem LR.on (h : LR w size v n xs) (hb : Below w.heap.size w u) : LR u size v n xs := by
  obtain ⟨a, cap, h1, h2, h3⟩ := h.form
  refine ⟨h.len, h.max, a, cap, h1, h2, fun j x hj => ?_⟩
  obtain ⟨b, off, e1, e2⟩ := h3 j x hj
  exact ⟨b, off, e1, (hb.cell (p := ⟨b, off + j, none⟩) (World.block_lt_of_cell? _ _ e2)).trans e2⟩
theorem LR.on' {B : Nat} (h : LR w size v n xs) (hB : w.heap.size ≤ B) (hb : Below B w u) : LR u size v n xs := h.on (hb.mono hB)
theorem LR.any (h : LR w size v n xs) : ∃ a cap, v = .slice a n cap := by
  obtain ⟨a, cap, h1, _⟩ := h.form
  exact ⟨a, cap, h1⟩
theorem LR.cell {b off cap : Nat} (h : LR w size (.slice (some ⟨b, off, none⟩) n cap) n xs) (j : Nat) (x : Value) (hj : xs[j]? = some x) : w.cell? ⟨b, off + j, none⟩ = some x := by
  obtain ⟨a, cap', h1, _, h3⟩ := h.form
  obtain ⟨b', off', e1, e2⟩ := h3 j x hj
  simp only [Value.slice.injEq] at h1
  rw [← h1.1] at e1
  simp only [Option.some.injEq, Addr.mk.injEq, and_true] at e1
  rw [e1.1, e1.2]; exact e2
theorem LR.some (h : LR w size v n xs) (hn : 0 < n) (hs : 0 < size) : ∃ b off cap, v = .slice (some ⟨b, off, none⟩) n cap := by
  obtain ⟨a, cap, h1, _, h3⟩ := h.form
  have hl := h.len
  have hpos : 0 < xs.length := by rw [hl]; exact Nat.mul_pos hn hs
  obtain ⟨b, off, e1, _⟩ := h3 0 _ (List.getElem?_eq_getElem hpos)
  exact ⟨b, off, cap, by rw [h1, e1]⟩
theorem LR.of_row {base : Nat} {e : TypeId} (h : w.ownsRow base e size v n xs) : LR w size v n xs := by
  refine ⟨h.1, row_le h, ?_⟩
  rcases h.2 with ⟨rfl, rfl⟩ | ⟨q, cap, cur, rfl, _⟩
  · refine ⟨none, 0, rfl, fun _ => ⟨rfl, rfl⟩, fun j u hj => ?_⟩
    have := (List.getElem?_eq_some_iff.1 hj).1
    rw [h.1] at this
    omega
  · refine ⟨_, cap, rfl, (fun e => by cases e), fun j u hj => ⟨q, 0, rfl, ?_⟩⟩
    rw [Nat.zero_add, h.cellAt j (by rw [← h.1]; exact (List.getElem?_eq_some_iff.1 hj).1)]
    exact hj
end
/-- stages that can be read -/
structure SL (w : World) (sv : Value) (st : List Stg) (vs : Nat → Value × Value) : Prop where
  row : LR w 2 sv st.length (stCells vs st.length)
  lev : ∀ i, i < st.length → LR w 2 (vs i).1 (stAt st i).levels.length (flat (stAt st i).levels)
  nxt : ∀ i, i < st.length → LR w 1 (vs i).2 (stAt st i).next.length (intCells (stAt st i).next)
theorem SL.on {w u : World} {sv : Value} {st : List Stg} {vs : Nat → Value × Value} (h : SL w sv st vs) (hb : Below w.heap.size w u) : SL u sv st vs := ⟨h.row.on hb, fun i hi => (h.lev i hi).on hb, fun i hi => (h.nxt i hi).on hb⟩
theorem SW.sl {w : World} {sv : Value} {st : List Stg} {vs : Nat → Value × Value} (h : SW w sv st vs) : SL w sv st vs := ⟨.of_row h.row, fun i hi => .of_row (h.lev i hi), fun i hi => .of_row (h.nxt i hi)⟩
end Go.Proofs.YtcnmbldikjljeaaGreatDoor
namespace Go.Proofs.YtcnmbldikjljeaaGreatDoor
open Go.RowKit

/-- 'copy(dst, src)' of elements of any size, src nil or not, into a block from its beginning -/
theorem run_copy_K {P : Program} (w : World) (dT sT ty elem : TypeId) (size : Nat) (g dLen dCap n sCap : Nat) (ad : Option Addr) (cur : Array Value) (t : TypeId) (cs : List Value)
    (hu : P.underlying dT = some (.slice elem)) (hs : (P.info? elem).map (·.size) = some size)
    (hg : w.heap[g]? = some (.cells cur t (0, 0))) (hn : n ≤ dLen) (hl : cs.length = n * size) (hnone : ad = none → n = 0 ∧ sCap = 0)
    (hsrc : ∀ j v, cs[j]? = some v → ∃ b off, ad = some ⟨b, off, none⟩ ∧ w.cell? ⟨b, off + j, none⟩ = some v) (hfit : cs.length ≤ cur.size) (h1 : ∀ v ∈ cs, v.oneCell' = true) :
    (Builtin.copy_ #[dT, sT] ty #[.slice (some ⟨g, 0, none⟩) dLen dCap, .slice ad n sCap]).run P w =
      .ok (goInt n) (w.setRow g (cs ++ cur.toList.drop cs.length).toArray) := by
  cases ad with
  | none =>
    obtain ⟨rfl, rfl⟩ := hnone rfl
    obtain rfl : cs = [] := List.eq_nil_of_length_eq_zero (by rw [hl]; omega)
    rw [run_copy_nil (P := P) w dT sT ty elem ⟨g, 0, none⟩ dLen dCap hu (by rw [hs]; rfl)]
    simp only [List.nil_append, List.length_nil, List.drop_zero, Array.toArray_toList]
    rw [setRow_self w g cur t (0, 0) hg]
    rfl
  | some a =>
    have hsrc' : ∀ j v, cs[j]? = some v → w.cell? (a.add j) = some v := by
      intro j v hj
      obtain ⟨b, off, e1, e2⟩ := hsrc j v hj
      cases e1
      rw [show (Addr.mk b off none).add j = ⟨b, off + j, none⟩ by unfold Addr.add; split <;> simp_all]
      exact e2
    have hl' := run_loadCells_list (P := P) w a cs hsrc'
    have hst := run_storeCells_at P g 0 t cs 0 cur w hg (by simpa using hfit) h1
    have hm : Nat.min n dLen = n := Nat.min_eq_left hn
    cases hq : P.info? elem with
    | none => simp [hq] at hs
    | some i =>
      have hi : i.size = size := by simpa [hq] using hs
      simp [Builtin.copy_, run_underlying hu, Builtin.lenOf, Builtin.firstCells, sizeOf, typeInfo, hq, hi, hm, ← hl, hl', hst]
theorem wpList_copy_K {P : Program} {w : World} {ops : Array Oper} {rest : List Oper} {o : Oper} {a : Act} {Q : Exit → Act → World → Prop} (hgd : o.guard = none) (d s : Operand) (dT sT : TypeId)
    (ho : o.op = .call { callee := .builtin .copy, args := #[d, s], argTypes := #[dT, sT] }) (elem : TypeId) (size : Nat) (hu : P.underlying dT = some (.slice elem)) (hsz : (P.info? elem).map (·.size) = some size)
    (g dLen dCap n sCap : Nat) (ad : Option Addr) (hd : a.eval d = .slice (some ⟨g, 0, none⟩) dLen dCap) (hs : a.eval s = .slice ad n sCap)
    (cur : Array Value) (t : TypeId) (hg : w.heap[g]? = some (.cells cur t (0, 0))) (cs : List Value) (hn : n ≤ dLen) (hl : cs.length = n * size) (hnone : ad = none → n = 0 ∧ sCap = 0)
    (hsrc : ∀ j v, cs[j]? = some v → ∃ b off, ad = some ⟨b, off, none⟩ ∧ w.cell? ⟨b, off + j, none⟩ = some v) (hfit : cs.length ≤ cur.size) (h1 : ∀ v ∈ cs, v.oneCell' = true)
    (h : wpList P ops Q rest (a.put o.dst (goInt n)) (w.setRow g (cs ++ cur.toList.drop cs.length).toArray)) : wpList P ops Q (o :: rest) a w := by
  refine wpList_plain hgd fun K hK => ?_
  have hrun := run_copy_K (P := P) w dT sT o.type elem size g dLen dCap n sCap ad cur t cs hu hsz hg hn hl hnone hsrc hfit h1
  unfold Oper.wp
  simp [execOp, ho, resolve, invoke, builtin, hd, hs, hrun, Result.andThen]
  exact hK _ _ h
end Go.Proofs.YtcnmbldikjljeaaGreatDoor
namespace Go.Proofs.YtcnmbldikjljeaaGreatDoor
open Go.RowKit

def falses (n : Nat) : Array Value := madeCells #[.bool false] n
theorem boolInfo : (Tryz.prog.info? 4).map (fun i => (i.zero, i.size, i.bytes)) = some (some (.bool false), 1, 1) := by kernel_rfl
theorem mkN (n : Nat) (hn : n ≤ 1000) (w : World) : (Instr.makeSlice 88 (.int .i64 n) (.int .i64 n)).run Tryz.prog w = .ok (.slice (some ⟨w.heap.size, 0, none⟩) n n) (w.alloc (.cells (falses n) 4)) := by
  obtain ⟨i0, hi, hz0, hz1, hz2⟩ := info_parts boolInfo
  have h := run_make w 88 4 i0 (.bool false) Tryz.underlying88 hi hz0 .i64 .i64 n n (by omega) (by omega) (by rw [hz2]; omega) (by omega)
  rw [h, hz1]; simp [falses, Value.cells]
theorem mk672 (w : World) : (Instr.makeSlice 88 (.int .i64 672) (.int .i64 672)).run Tryz.prog w = .ok (.slice (some ⟨w.heap.size, 0, none⟩) 672 672) (w.alloc (.cells (falses 672) 4)) := mkN 672 (by omega) w
theorem mk70 (w : World) : (Instr.makeSlice 88 (.int .i64 70) (.int .i64 70)).run Tryz.prog w = .ok (.slice (some ⟨w.heap.size, 0, none⟩) 70 70) (w.alloc (.cells (falses 70) 4)) := mkN 70 (by omega) w

theorem cell_falses (w : World) (n j b : Nat) (t : TypeId) (hb : b = w.heap.size) (h : j < n) : (w.alloc (.cells (falses n) t)).cell? ⟨b, j, none⟩ = some (.bool false) := by
  rw [World.cell?_alloc_at _ _ _ _ hb]; simp [falses, madeCells, h, Nat.mod_one]
theorem TW.start (w : World) (ve vf : Value) (t t' : TypeId) (b : Nat) (hb : b = w.heap.size) :
    TW b w (((w.alloc (.cells #[ve, vf] t)).alloc (.cells (falses 672) t')).alloc (.cells (falses 70) t')) ve vf (fun _ => false) (fun _ => false) := by
  subst hb
  refine ⟨(((Below.refl _ _).alloc (Nat.le_refl _) _).alloc (by simp) _).alloc (by simp; omega) _, by simp, ?_, ?_, ?_, ?_, ?_, ?_⟩
  · rw [World.cell?_alloc_lt (h := by simp; omega), World.cell?_alloc_lt (h := by simp), World.cell?_alloc_at _ _ _ _ rfl]; rfl
  · rw [World.cell?_alloc_lt (h := by simp; omega), World.cell?_alloc_lt (h := by simp), World.cell?_alloc_at _ _ _ _ rfl]; rfl
  · intro j hj
    rw [World.cell?_alloc_lt (h := by simp)]
    exact cell_falses _ _ _ _ _ (by simp) hj
  · intro j
    rw [World.frozen?_alloc_old (h := by simp)]
    exact World.frozen?_alloc_at _ _ _ _ (by simp)
  · intro j hj
    exact cell_falses _ _ _ _ _ (by simp) hj
  · intro j
    exact World.frozen?_alloc_at _ _ _ _ (by simp)
end Go.Proofs.YtcnmbldikjljeaaGreatDoor
