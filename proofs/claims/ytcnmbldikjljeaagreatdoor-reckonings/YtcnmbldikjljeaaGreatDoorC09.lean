import Derived.Test.YtcnmbldikjljeaaGreatDoorC06
import Derived.Test.YtcnmbldikjljeaaGreatDoorC08
import Derived.Laws.AppendOwnNone
import Derived.Lib.OthersKept
namespace Go.Proofs.YtcnmbldikjljeaaGreatDoor
open Go.RowKit

/-- a row of another type than the block's -/
theorem row_left {w u : World} {b base size n : Nat} {t e : TypeId} {v : Value} {xs : List Value} {cur : Array Value} (h : w.ownsRow base e size v n xs) (hg : w.grownBy u (some b)) (hb : w.heap[b]? = some (.cells cur t (0, 0))) (hte : t ≠ e) : u.ownsRow base e size v n xs := by
  refine h.kept hg ?_
  rcases h.2 with ⟨rfl, _⟩ | ⟨q, cap, c2, rfl, _, hq, _⟩
  · exact .inl rfl
  · refine .inr fun e' => ?_
    obtain rfl : q = b := by simpa [Value.ownBlock] using e'
    rw [hb] at hq
    cases hq
    exact hte rfl
/-- the stages in memory -/
def stCells (vs : Nat → Value × Value) (n : Nat) : List Value := (List.range n).flatMap fun i => [(vs i).1, (vs i).2]
def intCells (l : List Int) : List Value := l.map fun x => .int .i64 x
structure SW (w : World) (sv : Value) (st : List Stg) (vs : Nat → Value × Value) : Prop where
  row : w.ownsRow 0 125 2 sv st.length (stCells vs st.length)
  lev : ∀ i, i < st.length → w.ownsRow 0 127 2 (vs i).1 (stAt st i).levels.length (flat (stAt st i).levels)
  nxt : ∀ i, i < st.length → w.ownsRow 0 3 1 (vs i).2 (stAt st i).next.length (intCells (stAt st i).next)
theorem SW.on {w u : World} {sv : Value} {st : List Stg} {vs : Nat → Value × Value} (h : SW w sv st vs) (hb : Below w.heap.size w u) : SW u sv st vs := by
  have hg : w.grownBy u none := ⟨hb.os, hb.tape, hb.output, hb.size, fun k hk _ => hb.block k hk⟩
  exact ⟨h.row.kept hg (by cases sv.ownBlock <;> simp), fun i hi => (h.lev i hi).kept hg (by cases (vs i).1.ownBlock <;> simp), fun i hi => (h.nxt i hi).kept hg (by cases (vs i).2.ownBlock <;> simp)⟩
theorem SW.left {w u : World} {b : Nat} {t : TypeId} {cur : Array Value} {sv : Value} {st : List Stg} {vs : Nat → Value × Value} (h : SW w sv st vs) (hg : w.grownBy u (some b)) (hb : w.heap[b]? = some (.cells cur t (0, 0))) (h1 : t ≠ 125) (h2 : t ≠ 127) (h3 : t ≠ 3) : SW u sv st vs :=
  ⟨row_left h.row hg hb h1, fun i hi => row_left (h.lev i hi) hg hb h2, fun i hi => row_left (h.nxt i hi) hg hb h3⟩
theorem stCells_at (vs : Nat → Value × Value) (n i : Nat) (hi : i < n) : (stCells vs n)[i * 2]? = some (vs i).1 ∧ (stCells vs n)[i * 2 + 1]? = some (vs i).2 := by
  induction n with
  | zero => omega
  | succ n ih =>
    have e : stCells vs (n + 1) = stCells vs n ++ [(vs n).1, (vs n).2] := by simp [stCells, List.range_succ]
    have hl : ∀ m, (stCells vs m).length = m * 2 := by
      intro m
      induction m with
      | zero => rfl
      | succ m ihm => rw [show stCells vs (m + 1) = stCells vs m ++ [(vs m).1, (vs m).2] by simp [stCells, List.range_succ], List.length_append, ihm]; simp; omega
    rw [e]
    by_cases h : i < n
    · have := ih h
      rw [List.getElem?_append_left (by rw [hl]; omega), List.getElem?_append_left (by rw [hl]; omega)]
      exact this
    · obtain rfl : i = n := by omega
      rw [List.getElem?_append_right (by rw [hl]; omega), List.getElem?_append_right (by rw [hl]; omega), hl, show i * 2 - i * 2 = 0 by omega, show i * 2 + 1 - i * 2 = 1 by omega]
      exact ⟨rfl, rfl⟩
theorem row_some {w : World} {base n size : Nat} {t : TypeId} {v : Value} {xs : List Value} (h : w.ownsRow base t size v n xs) (hn : 0 < n) : ∃ q cap, v = .slice (some ⟨q, 0, none⟩) n cap := by
  rcases h.2 with ⟨_, hz⟩ | ⟨q, cap, cur, hv, _⟩
  · omega
  · exact ⟨q, cap, hv⟩
theorem row_any {w : World} {base n size : Nat} {t : TypeId} {v : Value} {xs : List Value} (h : w.ownsRow base t size v n xs) : ∃ a cap, v = .slice a n cap := by
  rcases h.2 with ⟨rfl, rfl⟩ | ⟨q, cap, cur, rfl, _⟩
  · exact ⟨_, _, rfl⟩
  · exact ⟨_, _, rfl⟩
/-- what Case answers -/
def caseV (d : Dk) (id : Int) : Value :=
  if findL d.cases id < 0 then .tuple #[.agg #[.int .i64 0, .int .i64 0, .int .i64 0, .bool false], .int .i64 5]
  else .tuple #[.agg #[.int .i64 (csAt d.cases (findL d.cases id)).stage, .int .i64 (csAt d.cases (findL d.cases id)).level, .int .i64 (csAt d.cases (findL d.cases id)).due, .bool (csAt d.cases (findL d.cases id)).held], .int .i64 0]
def evCells (e : Ev) : List Value := [.int .i64 e.number, .int .i64 e.time, .int .i64 e.case, .int .i64 e.stage, .int .i64 e.level, .int .i64 e.who]
def evsCells (l : List Ev) : List Value := l.flatMap evCells
theorem evsCells_snoc (l : List Ev) (e : Ev) : evsCells (l ++ [e]) = evsCells l ++ evCells e := by simp [evsCells]
theorem eventInfo : (Tryz.prog.info? 63).map (fun i => (i.zero, i.size, i.bytes)) = some (some (.agg #[.int .i64 0, .int .i64 0, .int .i64 0, .int .i64 0, .int .i64 0, .int .i64 0]), 6, 48) := by kernel_rfl
def lenV : Value → Nat
  | .slice _ n _ => n
  | _ => 0
theorem row_on {w u : World} {base size n : Nat} {e : TypeId} {v : Value} {xs : List Value} (h : w.ownsRow base e size v n xs) (hb : Below w.heap.size w u) : u.ownsRow base e size v n xs :=
  h.kept (row := none) ⟨hb.os, hb.tape, hb.output, hb.size, fun k hk _ => hb.block k hk⟩ (by cases v.ownBlock <;> simp)
theorem lenV_own {w : World} {base size n : Nat} {e : TypeId} {v : Value} {xs : List Value} (h : w.ownsRow base e size v n xs) : lenV v = n := by
  rcases h.2 with ⟨rfl, rfl⟩ | ⟨q, cap, cur, rfl, _⟩ <;> rfl
theorem entryInfo : (Tryz.prog.info? 67).map (fun i => (i.zero, i.size, i.bytes)) = some (some (.agg #[.int .i64 0, .int .i64 0]), 2, 16) := by kernel_rfl
theorem flat_one (l : List (Int × Int)) : ∀ u ∈ flat l, u.oneCell' = true := by
  intro u hu
  simp only [flat, List.mem_flatMap] at hu
  obtain ⟨x, _, hu⟩ := hu
  simp only [List.mem_cons, List.not_mem_nil, or_false] at hu
  rcases hu with rfl | rfl <;> rfl
theorem flat_append (a b : List (Int × Int)) : flat (a ++ b) = flat a ++ flat b := by simp [flat]
theorem row_mono {w : World} {base base' size n : Nat} {t : TypeId} {v : Value} {xs : List Value} (h : w.ownsRow base t size v n xs) (hb : base' ≤ base) : w.ownsRow base' t size v n xs :=
  ⟨h.1, h.2.imp id fun ⟨q, cap, cur, a, b, r⟩ => ⟨q, cap, cur, a, Nat.le_trans hb b, r⟩⟩
theorem check_no {st : List Stg} (i : Nat) (hi : i < st.length) (h : stgOk st.length (stAt st i) = false) : checkL st = false := by
  unfold checkL
  have hs : st.all (stgOk st.length) = false := by
    rw [List.all_eq_false]
    refine ⟨stAt st i, ?_, by simp [h]⟩
    simp [stAt, hi]
  rw [hs, Bool.and_false]
theorem check_yes {st : List Stg} (h1 : 1 ≤ st.length ∧ st.length ≤ 6) (h : ∀ i : Nat, i < st.length → stgOk st.length (stAt st i) = true) : checkL st = true := by
  unfold checkL
  rw [decide_eq_true h1, Bool.true_and, List.all_eq_true]
  intro s hs
  obtain ⟨i, hi, rfl⟩ := List.getElem_of_mem hs
  have := h i hi
  simpa [stAt, hi] using this
def lvOk (p : Int × Int) : Bool := decide (1 ≤ p.1 ∧ p.1 ≤ 20000) && decide (0 ≤ p.2 ∧ p.2 ≤ 99)
def nxOk (n : Nat) (k : Int) : Bool := decide (0 ≤ k ∧ k < n)
theorem stgOk_eq (n : Nat) (s : Stg) : stgOk n s = (decide (s.levels.length ≤ 4) && s.levels.all lvOk && s.next.all (nxOk n)) := rfl
theorem intCells_at (l : List Int) (k : Nat) (h : k < l.length) : (intCells l)[k * 1]? = some (.int .i64 l[k]) := by
  simp [intCells, h]
theorem below_of_grown {w u : World} (h : w.grownBy u none) : Below w.heap.size w u := ⟨h.os, h.tape, h.output, h.size, fun k hk => h.block k hk (by simp)⟩
theorem stCells_succ (f : Nat → Value × Value) (n : Nat) : stCells f (n + 1) = stCells f n ++ [(f n).1, (f n).2] := by simp [stCells, List.range_succ]
theorem stCells_congr (f g : Nat → Value × Value) (n : Nat) (h : ∀ j, j < n → f j = g j) : stCells f n = stCells g n := by
  induction n with
  | zero => rfl
  | succ n ih => rw [stCells_succ, stCells_succ, ih (fun j hj => h j (by omega)), h n (by omega)]
theorem intInfo : (Tryz.prog.info? 3).map (fun i => (i.zero, i.size, i.bytes)) = some (some (.int .i64 0), 1, 8) := by kernel_rfl
/-- 'append(buf, xs...)', xs nil or not -/
theorem wpList_append_opt {P : Program} {w : World} {ops : Array Oper} {rest : List Oper} {o : Oper} {a : Act} {Q : Exit → Act → World → Prop} (hgd : o.guard = none) (s x : Operand) (t : TypeId)
    (ho : o.op = .call { callee := .builtin .append, args := #[s, x], argTypes := #[t, t] })
    (base : Nat) (e : TypeId) (i : TypeInfo) (z : Value) (size bytes : Nat) (ht : P.underlying t = some (.slice e)) (hi : P.info? e = some i) (hz : i.zero = some z)
    (hsize : i.size = size) (hby : i.bytes = bytes) (hzs : z.cells.size = size) (hsz : 0 < size)
    (v : Value) (n : Nat) (xs : List Value) (hs : a.eval s = v) (hown : w.ownsRow base e size v n xs)
    (ad : Option Addr) (m c : Nat) (news : List Value) (hx : a.eval x = .slice ad m c) (hnone : ad = none → m = 0 ∧ c = 0) (hl : news.length = m * size) (hnews : ∀ j u, news[j]? = some u → ∃ b off, ad = some ⟨b, off, none⟩ ∧ w.cell? ⟨b, off + j, none⟩ = some u) (h1 : ∀ u ∈ news, u.oneCell' = true)
    (h63 : n + m ≤ maxLen) (hbytes : (n + m) * bytes ≤ 140737488355328) (hbase : base ≤ w.heap.size)
    (h : ∀ v' w', w'.ownsRow base e size v' (n + m) (xs ++ news) → w.grownBy w' v.ownBlock → wpList P ops Q rest (a.put o.dst v') w') : wpList P ops Q (o :: rest) a w := by
  cases ad with
  | none =>
    obtain ⟨rfl, rfl⟩ := hnone rfl
    have hnil : news = [] := by rw [← List.length_eq_zero_iff, hl]; omega
    subst hnil
    refine wpList_append_own_none hgd s x t ho base e i size ht hi v n xs hs hown hx ?_
    exact h v w (by simpa using hown) ⟨rfl, rfl, rfl, Nat.le_refl _, fun _ _ _ => rfl⟩
  | some ad =>
    refine wpList_append_own w hgd s x t ho base e i z size bytes ht hi hz hsize hby hzs hsz v n xs hs hown ad m c news hx hl ?_ h1 h63 hbytes hbase (fun v' w' h2 h3 _ => h v' w' h2 h3)
    intro j u hj
    obtain ⟨b, off, e1, e2⟩ := hnews j u hj
    cases e1
    rw [show (Addr.mk b off none).add j = ⟨b, off + j, none⟩ by simp [Addr.add]]
    exact e2
/-- a block, cell by cell -/
def BK (w : World) (g : Nat) (e : TypeId) (N : Nat) (f : Nat → Value) : Prop := ∃ cur, w.heap[g]? = some (.cells cur e (0, 0)) ∧ cur.size = N ∧ ∀ j, j < N → cur[j]? = some (f j)
section
variable {w u : World} {g N : Nat} {e : TypeId} {f f' : Nat → Value}
theorem BK.lt (h : BK w g e N f) : g < w.heap.size := by
  obtain ⟨cur, h1, _⟩ := h
  exact (Array.getElem?_eq_some_iff.1 h1).1
theorem BK.cell (h : BK w g e N f) (j : Nat) (hj : j < N) : w.cell? ⟨g, j, none⟩ = some (f j) := by
  obtain ⟨cur, h1, _, h3⟩ := h
  simp [World.cell?, h1, h3 j hj]
theorem BK.frz (h : BK w g e N f) (j : Nat) : w.frozen? ⟨g, j, none⟩ = false := by
  obtain ⟨cur, h1, _⟩ := h
  simp [World.frozen?, h1]
theorem BK.at (h : BK w g e N f) (hb : u.heap[g]? = w.heap[g]?) : BK u g e N f := by
  obtain ⟨cur, h1, h2⟩ := h
  exact ⟨cur, hb.trans h1, h2⟩
theorem BK.on (h : BK w g e N f) (hb : Below w.heap.size w u) : BK u g e N f := h.at (hb.block g h.lt)
theorem BK.congr (h : BK w g e N f) (hf : ∀ j, j < N → f j = f' j) : BK w g e N f' := by
  obtain ⟨cur, h1, h2, h3⟩ := h
  exact ⟨cur, h1, h2, fun j hj => by rw [h3 j hj, hf j hj]⟩
theorem BK.set (h : BK w g e N f) (j : Nat) (v : Value) : BK (w.setCell ⟨g, j, none⟩ v) g e N (fun k => if k = j then v else f k) := by
  obtain ⟨cur, h1, h2, h3⟩ := h
  refine ⟨cur.setIfInBounds j v, heap_setCell_same _ _ _ _ _ _ h1, by simp [h2], fun k hk => ?_⟩
  rw [Array.getElem?_setIfInBounds]
  by_cases e : j = k
  · subst e; rw [if_pos rfl, if_pos (by omega)]; simp
  · rw [if_neg e, h3 k hk]; simp [Ne.symm e]
theorem BK.row {base size n cap : Nat} {xs : List Value} (h : BK w g e N f) (hN : N = cap * size) (hn : n ≤ cap) (hm : cap ≤ maxLen) (hb : base ≤ g) (hl : xs.length = n * size) (hx : ∀ j v, xs[j]? = some v → f j = v) : w.ownsRow base e size (.slice (some ⟨g, 0, none⟩) n cap) n xs := by
  obtain ⟨cur, h1, h2, h3⟩ := h
  refine ⟨hl, .inr ⟨g, cap, cur, rfl, hb, h1, hn, hm, by rw [h2, hN], ?_⟩⟩
  apply List.ext_getElem?
  intro j
  by_cases hj : j < n * size
  · have hjN : j < N := by rw [hN]; exact Nat.lt_of_lt_of_le hj (Nat.mul_le_mul_right _ hn)
    have hv : xs[j]? = some (xs[j]'(by omega)) := List.getElem?_eq_getElem (by omega)
    rw [List.getElem?_take_of_lt hj, Array.getElem?_toList, h3 j hjN, hv, hx j _ hv]
  · rw [List.getElem?_take_eq_none (by omega), List.getElem?_eq_none (by omega)]
end
/-- the sizes that a list may have -/
structure Rm (st : List Stg) : Prop where
  all : st.length * 48 ≤ 140737488351232
  lev : ∀ i : Nat, i < st.length → (stAt st i).levels.length * 16 ≤ 140737488351232
  nxt : ∀ i : Nat, i < st.length → (stAt st i).next.length * 8 ≤ 140737488351232
/-- what is asked of the program's dockets: a docket in memory (owner, its owner's number, memory, its block; calendar, stages, what it holds), and its calls -/
abbrev PSt := (Nat → Nat) → World → Nat → Nat → (Nat → Bool) → List Stg → Dk → Prop
/-- memory is bounded, and so are the numbers -/
structure Pre (own : Nat → Nat) (w : World) (F : Nat → Bool) (st : List Stg) (d : Dk) : Prop where
  lt : ∀ k, own k ≠ 0 → k < w.heap.size
  stok : StOk st
  n6 : st.length ≤ 6
  ok : DkOk F st d 4611686018427387000
  rest : DkR st d
structure Prg (PS : PSt) : Prop where
  kept : ∀ {own own' w w' T t p F st d}, PS own w t p F st d → KeptS own own' T w w' → ¬ T 0 → ¬ T t → PS own' w' t p F st d
  tag : ∀ {own w t p F st d}, PS own w t p F st d → own p = t ∧ p < w.heap.size
  open_ : ∀ {own w t p F st d}, PS own w t p F st d → t ≠ 0 → Pre own w F st d → ∀ stage : Int, Calls Tryz.prog 17 #[P0 p, .int .i64 stage] w fun e w' => e = .returned (.tuple #[.int .i64 (openC F st d stage).2.1, .int .i64 (openC F st d stage).2.2]) ∧ ∃ own', PS own' w' t p F st (openC F st d stage).1 ∧ Kept own own' t w w'
  move : ∀ {own w t p F st d}, PS own w t p F st d → t ≠ 0 → Pre own w F st d → ∀ id stage : Int, Calls Tryz.prog 19 #[P0 p, .int .i64 id, .int .i64 stage] w fun e w' => e = .returned (.int .i64 (moveC F st d id stage).2) ∧ ∃ own', PS own' w' t p F st (moveC F st d id stage).1 ∧ Kept own own' t w w'
  close : ∀ {own w t p F st d}, PS own w t p F st d → t ≠ 0 → Pre own w F st d → ∀ id : Int, Calls Tryz.prog 20 #[P0 p, .int .i64 id] w fun e w' => e = .returned (.int .i64 (closeC d id).2) ∧ ∃ own', PS own' w' t p F st (closeC d id).1 ∧ Kept own own' t w w'
  hold : ∀ {own w t p F st d}, PS own w t p F st d → t ≠ 0 → Pre own w F st d → ∀ id : Int, Calls Tryz.prog 21 #[P0 p, .int .i64 id] w fun e w' => e = .returned (.int .i64 (holdC F d id).2) ∧ ∃ own', PS own' w' t p F st (holdC F d id).1 ∧ Kept own own' t w w'
  resume : ∀ {own w t p F st d}, PS own w t p F st d → t ≠ 0 → Pre own w F st d → ∀ id : Int, Calls Tryz.prog 23 #[P0 p, .int .i64 id] w fun e w' => e = .returned (.int .i64 (resumeC F d id).2) ∧ ∃ own', PS own' w' t p F st (resumeC F d id).1 ∧ Kept own own' t w w'
  case_ : ∀ {own w t p F st d}, PS own w t p F st d → t ≠ 0 → Pre own w F st d → ∀ id : Int, Calls Tryz.prog 26 #[P0 p, .int .i64 id] w fun e w' => e = .returned (caseV d id) ∧ ∃ own', PS own' w' t p F st d ∧ Kept own own' t w w'
  now : ∀ {own w t p F st d}, PS own w t p F st d → t ≠ 0 → Pre own w F st d → Calls Tryz.prog 13 #[P0 p] w fun e w' => e = .returned (.tuple #[.int .i64 d.time, .int .i64 d.told]) ∧ ∃ own', PS own' w' t p F st d ∧ Kept own own' t w w'
  tick : ∀ {own w t p F st d}, PS own w t p F st d → t ≠ 0 → Pre own w F st d → ∀ n : Int, Calls Tryz.prog 15 #[P0 p, .int .i64 n] w fun e w' => ∃ ov, e = .returned (.tuple #[ov, .int .i64 (tickC F st d n).2.2]) ∧ w'.ownsRow w.heap.size 63 6 ov (tickC F st d n).2.1.length (evsCells (tickC F st d n).2.1) ∧ ((tickC F st d n).2.2 ≠ 0 → ov = .slice none 0 0) ∧ ∃ own', PS own' w' t p F st (tickC F st d n).1 ∧ Kept own own' t w w' ∧ ∀ k, ov.ownBlock = some k → own' k = 8
  agenda : ∀ {own w t p F st d}, PS own w t p F st d → t ≠ 0 → Pre own w F st d → Calls Tryz.prog 25 #[P0 p] w fun e w' => ∃ ov, e = .returned ov ∧ w'.ownsRow w.heap.size 67 2 ov (agendaL d.cases []).length (flat (agendaL d.cases [])) ∧ ∃ own', PS own' w' t p F st d ∧ Kept own own' t w w' ∧ ∀ k, ov.ownBlock = some k → own' k = 8
  check : ∀ {w : World} {sv : Value} {st : List Stg} {vs : Nat → Value × Value}, SW w sv st vs → Calls Tryz.prog 66 #[sv] w fun e w' => e = .returned (.int .i64 (if checkL st = true then 0 else 4)) ∧ Below w.heap.size w w'
  newNil : ∀ {w : World} {sv : Value} {st : List Stg} {vs : Nat → Value × Value}, SW w sv st vs → Calls Tryz.prog 35 #[.pointer none, sv] w fun e w' => e = .returned (.tuple #[.pointer none, .int .i64 1]) ∧ Below w.heap.size w w'
  newNo : ∀ {w : World} {sv : Value} {st : List Stg} {vs : Nat → Value × Value} (c : Nat), SW w sv st vs → checkL st = false → Calls Tryz.prog 35 #[P0 c, sv] w fun e w' => e = .returned (.tuple #[.pointer none, .int .i64 4]) ∧ Below w.heap.size w w'
  newOk : ∀ {own : Nat → Nat} {w : World} {sv : Value} {st : List Stg} {vs : Nat → Value × Value} {c : Nat} {wk : Nat → List (Int × Int)} {fr : Nat → Bool} {F : Nat → Bool}, SW w sv st vs → CalW (roW own w) c wk fr → (∀ j, (wk j).length ≤ 1000) → (∀ x : Int, 0 ≤ x → x < 100800 → openL wk fr x = F x.toNat) → checkL st = true → Rm st → (∀ k, own k ≠ 0 → k < w.heap.size) → ∀ t, t ≠ 0 →
    Calls Tryz.prog 35 #[P0 c, sv] w fun e w' => ∃ p own', e = .returned (.tuple #[P0 p, .int .i64 0]) ∧ w.heap.size ≤ p ∧ PS own' w' t p F st ⟨0, 0, 0, []⟩ ∧ Kept own own' t w w'
theorem Pre.on {own : Nat → Nat} {w w' : World} {F : Nat → Bool} {st : List Stg} {d : Dk} (h : Pre own w F st d) (hb : w.heap.size ≤ w'.heap.size) : Pre own w' F st d := ⟨fun k hk => Nat.lt_of_lt_of_le (h.lt k hk) hb, h.stok, h.n6, h.ok, h.rest⟩
theorem evsCells_len (l : List Ev) : (evsCells l).length = l.length * 6 := by
  induction l with
  | nil => rfl
  | cons x l ih => rw [show evsCells (x :: l) = evCells x ++ evsCells l by simp [evsCells], List.length_append, ih]; simp [evCells]; omega
theorem evsCells_at (l : List Ev) (i : Nat) (h : i < l.length) (j : Nat) (hj : j < 6) : (evsCells l)[i * 6 + j]? = (evCells l[i])[j]? := by
  induction l generalizing i with
  | nil => simp at h
  | cons x l ih =>
    rw [show evsCells (x :: l) = evCells x ++ evsCells l by simp [evsCells]]
    have hl : (evCells x).length = 6 := rfl
    cases i with
    | zero => rw [List.getElem?_append_left (by omega)]; simp
    | succ i =>
      rw [List.getElem?_append_right (by omega), show (i + 1) * 6 + j - (evCells x).length = i * 6 + j by omega, ih i (by simpa using h)]
      simp
theorem DkOk.mono {F : Nat → Bool} {st : List Stg} {d : Dk} {N M : Int} (h : DkOk F st d N) (hm : N ≤ M) : DkOk F st d M := ⟨h.t0, h.t1, h.m0, Int.le_trans h.m1 hm, h.k0, Int.le_trans h.k1 hm, h.len, h.cs, h.du⟩
/-- a calendar that was made now, seen without what is somebody's -/
theorem CalF.ro {own : Nat → Nat} {w : World} {g : Nat} {raw : Nat → List (Int × Int)} {fr : Nat → Bool} (h : CalF w g raw fr) (ho : ∀ k, g ≤ k → own k = 0) : CalW (roW own w) g raw fr := by
  obtain ⟨wk, C, hj, hk⟩ := h
  have hg : (roW own w).heap[g]? = w.heap[g]? := ro_free (ho g (Nat.le_refl _))
  refine ⟨wk, ⟨by rw [ro_size]; exact C.lt, fun j hj' => ?_, fun j hj' => (World.cell?_of_block (a := ⟨g, 7 + j, none⟩) hg).trans (C.free j hj')⟩, hj⟩
  obtain ⟨v, c1, c2⟩ := C.week j hj'
  exact ⟨v, (World.cell?_of_block (a := ⟨g, j, none⟩) hg).trans c1, row_ro c2 (fun k e => ho k (Nat.le_of_lt (hk j hj' v c1 k e)))⟩
end Go.Proofs.YtcnmbldikjljeaaGreatDoor
