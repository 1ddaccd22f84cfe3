import Derived.Test.YtcnmbldikjljeaaGreatDoorJ14
import Derived.Laws.CopyOwn
import Derived.Test.YtcnmbldikjljeaaGreatDoorJ06
import Derived.Deep.OwnRows
import Derived.Lib.BufferMore
namespace Go.Proofs.YtcnmbldikjljeaaGreatDoor
open Go.RowKit

theorem stageInfo : (Tryz.prog.info? 125).map (fun i => (i.zero, i.size, i.bytes)) = some (some (.agg #[.slice none 0 0, .slice none 0 0]), 2, 48) := by kernel_rfl
theorem levelInfo : (Tryz.prog.info? 127).map (fun i => (i.zero, i.size, i.bytes)) = some (some (.agg #[.int .i64 0, .int .i64 0]), 2, 16) := by kernel_rfl
theorem flatOne (l : List (Int × Int)) : ∀ u ∈ flat l, u.oneCell' = true := by
  intro u hu
  simp only [flat, List.mem_flatMap] at hu
  obtain ⟨x, _, hu⟩ := hu
  simp only [List.mem_cons, List.not_mem_nil, or_false] at hu
  rcases hu with rfl | rfl <;> rfl
theorem intCells_one (l : List Int) : ∀ u ∈ intCells l, u.oneCell' = true := by
  intro u hu
  simp only [intCells, List.mem_map] at hu
  obtain ⟨x, _, rfl⟩ := hu
  rfl
theorem row_le {w : World} {base n size : Nat} {t : TypeId} {v : Value} {xs : List Value} (h : w.ownsRow base t size v n xs) : n ≤ maxLen := by
  rcases h.2 with ⟨_, hz⟩ | ⟨q, cap, cur, _, _, _, h1, h2, _⟩
  · omega
  · omega
/-- a list that can be read, wherever it lies -/
structure LR (w : World) (size : Nat) (v : Value) (n : Nat) (xs : List Value) : Prop where
  len : xs.length = n * size
  max : n ≤ maxLen
  form : ∃ a cap, v = .slice a n cap ∧ (a = none → n = 0 ∧ cap = 0) ∧ ∀ j u, xs[j]? = some u → ∃ b off, a = some ⟨b, off, none⟩ ∧ w.cell? ⟨b, off + j, none⟩ = some u
section
variable {w u : World} {size n : Nat} {v : Value} {xs : List Value}
theorem LR.on (h : LR w size v n xs) (hb : Below w.heap.size w u) : LR u size v n xs := by
  obtain ⟨a, cap, h1, h2, h3⟩ := h.form
  refine ⟨h.len, h.max, a, cap, h1, h2, fun j x hj => ?_⟩
  obtain ⟨b, off, e1, e2⟩ := h3 j x hj
  exact ⟨b, off, e1, (hb.cell (p := ⟨b, off + j, none⟩) (World.block_lt_of_cell? _ _ e2)).trans e2⟩
theorem LR.on' {B : Nat} (h : LR w size v n xs) (hB : w.heap.size ≤ B) (hb : Below B w u) : LR u size v n xs := h.on (hb.mono hB)
theorem LR.any (h : LR w size v n xs) : ∃ a cap, v = .slice a n cap := by
  obtain ⟨a, cap, h1, _⟩ := h.form
  exact ⟨a, cap, h1⟩
theorem LR.cell {b off cap : Nat} (h : LR w size (.slice (some ⟨b, off, none⟩) n cap) n xs) (j : Nat) (x : Value) (hj : xs[j]? = some x) : w.cell? ⟨b, off + j, none⟩ = some x := by
  obtain ⟨a, cap', h1, _, h3⟩ := h.form
  obtain ⟨b', off', e1, e2⟩ := h3 j x hj
  simp only [Value.slice.injEq] at h1
  rw [← h1.1] at e1
  simp only [Option.some.injEq, Addr.mk.injEq, and_true] at e1
  rw [e1.1, e1.2]; exact e2
theorem LR.some (h : LR w size v n xs) (hn : 0 < n) (hs : 0 < size) : ∃ b off cap, v = .slice (some ⟨b, off, none⟩) n cap := by
  obtain ⟨a, cap, h1, _, h3⟩ := h.form
  have hl := h.len
  have hpos : 0 < xs.length := by rw [hl]; exact Nat.mul_pos hn hs
  obtain ⟨b, off, e1, _⟩ := h3 0 _ (List.getElem?_eq_getElem hpos)
  exact ⟨b, off, cap, by rw [h1, e1]⟩
theorem LR.of_row {base : Nat} {e : TypeId} (h : w.ownsRow base e size v n xs) : LR w size v n xs := by
  refine ⟨h.1, row_le h, ?_⟩
  rcases h.2 with ⟨rfl, rfl⟩ | ⟨q, cap, cur, rfl, _⟩
  · refine ⟨none, 0, rfl, fun _ => ⟨rfl, rfl⟩, fun j u hj => ?_⟩
    have := (List.getElem?_eq_some_iff.1 hj).1
    rw [h.1] at this
    omega
  · refine ⟨_, cap, rfl, (fun e => by cases e), fun j u hj => ⟨q, 0, rfl, ?_⟩⟩
    rw [Nat.zero_add, h.cellAt j (by rw [← h.1]; exact (List.getElem?_eq_some_iff.1 hj).1)]
    exact hj
end
/-- stages that can be read -/
structure SL (w : World) (sv : Value) (st : List Stg) (vs : Nat → Value × Value) : Prop where
  row : LR w 2 sv st.length (stCells vs st.length)
  lev : ∀ i, i < st.length → LR w 2 (vs i).1 (stAt st i).levels.length (flat (stAt st i).levels)
  nxt : ∀ i, i < st.length → LR w 1 (vs i).2 (stAt st i).next.length (intCells (stAt st i).next)
theorem SL.on {w u : World} {sv : Value} {st : List Stg} {vs : Nat → Value × Value} (h : SL w sv st vs) (hb : Below w.heap.size w u) : SL u sv st vs := ⟨h.row.on hb, fun i hi => (h.lev i hi).on hb, fun i hi => (h.nxt i hi).on hb⟩
theorem SW.sl {w : World} {sv : Value} {st : List Stg} {vs : Nat → Value × Value} (h : SW w sv st vs) : SL w sv st vs := ⟨.of_row h.row, fun i hi => .of_row (h.lev i hi), fun i hi => .of_row (h.nxt i hi)⟩
end Go.Proofs.YtcnmbldikjljeaaGreatDoor
namespace Go.Proofs.YtcnmbldikjljeaaGreatDoor
open Go.RowKit

/-- 'copy(dst, src)' of elements of any size, src nil or not, into a block from its beginning -/
theorem run_copy_K {P : Program} (w : World) (dT sT ty elem : TypeId) (size : Nat) (g dLen dCap n sCap : Nat) (ad : Option Addr) (cur : Array Value) (t : TypeId) (cs : List Value)
    (hu : P.underlying dT = some (.slice elem)) (hs : (P.info? elem).map (·.size) = some size)
    (hg : w.heap[g]? = some (.cells cur t (0, 0))) (hn : n ≤ dLen) (hl : cs.length = n * size) (hnone : ad = none → n = 0 ∧ sCap = 0)
    (hsrc : ∀ j v, cs[j]? = some v → ∃ b off, ad = some ⟨b, off, none⟩ ∧ w.cell? ⟨b, off + j, none⟩ = some v) (hfit : cs.length ≤ cur.size) (h1 : ∀ v ∈ cs, v.oneCell' = true) :
    (Builtin.copy_ #[dT, sT] ty #[.slice (some ⟨g, 0, none⟩) dLen dCap, .slice ad n sCap]).run P w =
      .ok (goInt n) (w.setRow g (cs ++ cur.toList.drop cs.length).toArray) := by
  cases ad with
  | none =>
    obtain ⟨rfl, rfl⟩ := hnone rfl
    obtain rfl : cs = [] := List.eq_nil_of_length_eq_zero (by rw [hl]; omega)
    rw [run_copy_nil (P := P) w dT sT ty elem ⟨g, 0, none⟩ dLen dCap hu (by rw [hs]; rfl)]
    simp only [List.nil_append, List.length_nil, List.drop_zero, Array.toArray_toList]
    rw [setRow_self w g cur t (0, 0) hg]
    rfl
  | some a =>
    have hsrc' : ∀ j v, cs[j]? = some v → w.cell? (a.add j) = some v := by
      intro j v hj
      obtain ⟨b, off, e1, e2⟩ := hsrc j v hj
      cases e1
      rw [show (Addr.mk b off none).add j = ⟨b, off + j, none⟩ by unfold Addr.add; split <;> simp_all]
      exact e2
    have hl' := run_loadCells_list (P := P) w a cs hsrc'
    have hst := run_storeCells_at P g 0 t cs 0 cur w hg (by simpa using hfit) h1
    have hm : Nat.min n dLen = n := Nat.min_eq_left hn
    cases hq : P.info? elem with
    | none => simp [hq] at hs
    | some i =>
      have hi : i.size = size := by simpa [hq] using hs
      simp [Builtin.copy_, run_underlying hu, Builtin.lenOf, Builtin.firstCells, sizeOf, typeInfo, hq, hi, hm, ← hl, hl', hst]
theorem wpList_copy_K {P : Program} {w : World} {ops : Array Oper} {rest : List Oper} {o : Oper} {a : Act} {Q : Exit → Act → World → Prop} (hgd : o.guard = none) (d s : Operand) (dT sT : TypeId)
    (ho : o.op = .call { callee := .builtin .copy, args := #[d, s], argTypes := #[dT, sT] }) (elem : TypeId) (size : Nat) (hu : P.underlying dT = some (.slice elem)) (hsz : (P.info? elem).map (·.size) = some size)
    (g dLen dCap n sCap : Nat) (ad : Option Addr) (hd : a.eval d = .slice (some ⟨g, 0, none⟩) dLen dCap) (hs : a.eval s = .slice ad n sCap)
    (cur : Array Value) (t : TypeId) (hg : w.heap[g]? = some (.cells cur t (0, 0))) (cs : List Value) (hn : n ≤ dLen) (hl : cs.length = n * size) (hnone : ad = none → n = 0 ∧ sCap = 0)
    (hsrc : ∀ j v, cs[j]? = some v → ∃ b off, ad = some ⟨b, off, none⟩ ∧ w.cell? ⟨b, off + j, none⟩ = some v) (hfit : cs.length ≤ cur.size) (h1 : ∀ v ∈ cs, v.oneCell' = true)
    (h : wpList P ops Q rest (a.put o.dst (goInt n)) (w.setRow g (cs ++ cur.toList.drop cs.length).toArray)) : wpList P ops Q (o :: rest) a w := by
  refine wpList_plain hgd fun K hK => ?_
  have hrun := run_copy_K (P := P) w dT sT o.type elem size g dLen dCap n sCap ad cur t cs hu hsz hg hn hl hnone hsrc hfit h1
  unfold Oper.wp
  simp [execOp, ho, resolve, invoke, builtin, hd, hs, hrun, Result.andThen]
  exact hK _ _ h
end Go.Proofs.YtcnmbldikjljeaaGreatDoor
namespace Go.Proofs.YtcnmbldikjljeaaGreatDoor
open Go.RowKit

/-- a block, cell by cell -/
def BK (w : World) (g : Nat) (e : TypeId) (N : Nat) (f : Nat → Value) : Prop := ∃ cur, w.heap[g]? = some (.cells cur e (0, 0)) ∧ cur.size = N ∧ ∀ j, j < N → cur[j]? = some (f j)
section
variable {w u : World} {g N : Nat} {e : TypeId} {f f' : Nat → Value}
theorem BK.lt (h : BK w g e N f) : g < w.heap.size := by
  obtain ⟨cur, h1, _⟩ := h
  exact (Array.getElem?_eq_some_iff.1 h1).1
theorem BK.cell (h : BK w g e N f) (j : Nat) (hj : j < N) : w.cell? ⟨g, j, none⟩ = some (f j) := by
  obtain ⟨cur, h1, _, h3⟩ := h
  simp [World.cell?, h1, h3 j hj]
theorem BK.frz (h : BK w g e N f) (j : Nat) : w.frozen? ⟨g, j, none⟩ = false := by
  obtain ⟨cur, h1, _⟩ := h
  simp [World.frozen?, h1]
theorem BK.at (h : BK w g e N f) (hb : u.heap[g]? = w.heap[g]?) : BK u g e N f := by
  obtain ⟨cur, h1, h2⟩ := h
  exact ⟨cur, hb.trans h1, h2⟩
theorem BK.on (h : BK w g e N f) (hb : Below w.heap.size w u) : BK u g e N f := h.at (hb.block g h.lt)
theorem BK.congr (h : BK w g e N f) (hf : ∀ j, j < N → f j = f' j) : BK w g e N f' := by
  obtain ⟨cur, h1, h2, h3⟩ := h
  exact ⟨cur, h1, h2, fun j hj => by rw [h3 j hj, hf j hj]⟩
theorem BK.set (h : BK w g e N f) (j : Nat) (v : Value) : BK (w.setCell ⟨g, j, none⟩ v) g e N (fun k => if k = j then v else f k) := by
  obtain ⟨cur, h1, h2, h3⟩ := h
  refine ⟨cur.setIfInBounds j v, heap_setCell_same _ _ _ _ _ _ h1, by simp [h2], fun k hk => ?_⟩
  rw [Array.getElem?_setIfInBounds]
  by_cases e : j = k
  · subst e; rw [if_pos rfl, if_pos (by omega)]; simp
  · rw [if_neg e, h3 k hk]; simp [Ne.symm e]
theorem BK.row {base size n cap : Nat} {xs : List Value} (h : BK w g e N f) (hN : N = cap * size) (hn : n ≤ cap) (hm : cap ≤ maxLen) (hb : base ≤ g) (hl : xs.length = n * size) (hx : ∀ j v, xs[j]? = some v → f j = v) : w.ownsRow base e size (.slice (some ⟨g, 0, none⟩) n cap) n xs := by
  obtain ⟨cur, h1, h2, h3⟩ := h
  refine ⟨hl, .inr ⟨g, cap, cur, rfl, hb, h1, hn, hm, by rw [h2, hN], ?_⟩⟩
  apply List.ext_getElem?
  intro j
  by_cases hj : j < n * size
  · have hjN : j < N := by rw [hN]; exact Nat.lt_of_lt_of_le hj (Nat.mul_le_mul_right _ hn)
    have hv : xs[j]? = some (xs[j]'(by omega)) := List.getElem?_eq_getElem (by omega)
    rw [List.getElem?_take_of_lt hj, Array.getElem?_toList, h3 j hjN, hv, hx j _ hv]
  · rw [List.getElem?_take_eq_none (by omega), List.getElem?_eq_none (by omega)]
theorem BK.made (w : World) (e : TypeId) (z : Value) (N : Nat) : BK (w.alloc (.cells (madeCells #[z] N) e)) w.heap.size e N (fun _ => z) :=
  ⟨_, heap_alloc_new _ _, by simp [madeCells], fun j hj => by simp [madeCells, hj, Nat.mod_one]⟩
/-- a list was copied into its beginning -/
theorem BK.copy {cur : Array Value} {cs : List Value} (h1 : w.heap[g]? = some (.cells cur e (0, 0))) (h2 : cur.size = N) (h3 : ∀ j, j < N → cur[j]? = some (f j)) (hl : cs.length ≤ N) : BK (w.setRow g (cs ++ cur.toList.drop cs.length).toArray) g e N (fun j => (cs[j]?).getD (f j)) := by
  refine ⟨_, setRow_heap w g cur _ e _ h1, by simp; omega, fun j hj => ?_⟩
  rw [List.getElem?_toArray]
  by_cases hjl : j < cs.length
  · rw [List.getElem?_append_left hjl]; simp [hjl]
  · rw [List.getElem?_append_right (by omega), List.getElem?_drop, Array.getElem?_toList, show cs.length + (j - cs.length) = j by omega, h3 j hj]
    simp [List.getElem?_eq_none (l := cs) (i := j) (by omega)]
end
/-- what is lent: the list, with something of the caller's behind it -/
def lentF (cs : List Value) (sp : Nat → Value) (j : Nat) : Value := (cs[j]?).getD (sp j)
def sp1 : Nat → Value := fun _ => .int .i64 77
def sp2 : Nat → Value := fun j => if j % 2 = 0 then .int .i64 77 else .int .i64 0
/-- a list that was lent: nil for nil -/
def Lnt (w : World) (B : Nat) (e : TypeId) (size : Nat) (v r : Value) (n : Nat) (f : Nat → Value) : Prop :=
  (v = .slice none 0 0 ∧ r = .slice none 0 0) ∨ (v ≠ .slice none 0 0 ∧ ∃ g, B ≤ g ∧ r = .slice (some ⟨g, 0, none⟩) n (n + 8) ∧ BK w g e ((n + 8) * size) f)
theorem run_mk (T E : TypeId) (z : Value) (size bytes : Nat) (hT : Tryz.prog.underlying T = some (.slice E)) (hinfo : (Tryz.prog.info? E).map (fun i => (i.zero, i.size, i.bytes)) = some (some z, size, bytes)) (n : Nat) (hb : bytes * (n + 8) ≤ 281474976710656) (h63 : n + 8 ≤ 9223372036854775807) (w : World) :
    (Instr.makeSlice T (.int .i64 ((n : Int) + 8)) (.int .i64 ((n : Int) + 8))).run Tryz.prog w = .ok (.slice (some ⟨w.heap.size, 0, none⟩) (n + 8) (n + 8)) (w.alloc (.cells (madeCells z.cells ((n + 8) * size)) E)) := by
  obtain ⟨i, hi, hzz⟩ := Option.map_eq_some_iff.1 hinfo
  simp only [Prod.mk.injEq] at hzz
  obtain ⟨hz, hs, hby⟩ := hzz
  have hb' : (i.bytes : Int) * ((n : Int) + 8) ≤ 281474976710656 := by
    have h : ((bytes * (n + 8) : Nat) : Int) ≤ 281474976710656 := by omega
    rw [Int.natCast_mul] at h
    rw [hby]; simpa using h
  have hr := run_make (P := Tryz.prog) w T E i z hT hi hz .i64 .i64 ((n : Int) + 8) ((n : Int) + 8) (by omega) (Int.le_refl _) hb' (by omega)
  rw [hr, hs, show ((n : Int) + 8).toNat = n + 8 by omega]
section
variable {w : World} {v : Value} {l : List Int}
set_option maxRecDepth 100000 in
set_option maxHeartbeats 4000000 in
theorem lentInts_any (L : LR w 1 v l.length (intCells l)) (hm : l.length * 8 ≤ 140737488351232) :
    Calls Tryz.prog 136 #[v] w fun e w' => ∃ r, e = .returned r ∧ Lnt w' w.heap.size 3 1 v r l.length (lentF (intCells l) sp1) ∧ Below w.heap.size w w' := by
  obtain ⟨a, cap, rfl, hnone, hcell⟩ := L.form
  have hlen := L.len
  cases a with
  | none =>
    obtain ⟨h0, rfl⟩ := hnone rfl
    rw [h0]
    have hnil : ∀ W, (binOp .eql 24 (.slice none 0 0) (.slice none 0 0)).run Tryz.prog W = .ok (.bool true) W := fun W => Lib.run_eql_slice_nil_nil W _ _ Tryz.underlying24
    clear L hcell hnone hlen
    go_enter Tryz.func136, Tryz.ntmps136
    go_wp2_with fail
    go_ret
    exact ⟨_, rfl, .inl ⟨rfl, rfl⟩, Below.refl _ _⟩
  | some a =>
    have hmk := fun w => run_mk 24 3 (.int .i64 0) 1 8 Tryz.underlying24 intInfo l.length (by omega) (by omega) w
    simp only [Value.cells, Nat.mul_one] at hmk
    have hnil : ∀ W, (binOp .eql 24 (.slice (some a) l.length cap) (.slice none 0 0)).run Tryz.prog W = .ok (.bool false) W := fun W => Lib.run_eql_slice_some_nil W _ _ _ Tryz.underlying24
    have HC := hide hcell
    have HL := hide hlen
    have hsz : (Tryz.prog.info? 3).map (·.size) = some 1 := by
      obtain ⟨i, hi, hq0, hq1, hq2⟩ := info_parts intInfo
      rw [hi]; simp [hq1]
    have HSZ := hide hsz
    have hcp := fun (hc : ∀ j u, (intCells l)[j]? = some u → ∃ b off, some a = some ⟨b, off, none⟩ ∧ (w.alloc (.cells (madeCells #[.int .i64 0] (l.length + 8)) 3)).cell? ⟨b, off + j, none⟩ = some u) => run_copy_K (P := Tryz.prog) (w.alloc (.cells (madeCells #[.int .i64 0] (l.length + 8)) 3)) 24 24 3 3 1 w.heap.size (l.length + 8) (l.length + 8) l.length cap (some a) (madeCells #[.int .i64 0] (l.length + 8)) 3 (intCells l) Tryz.underlying24 hsz (heap_alloc_new _ _) (by omega) hlen (fun e => by cases e) hc (by rw [hlen, size_madeCells]; omega) (intCells_one l)
    replace hcp := hcp (fun j u hj => by obtain ⟨b, off, e1, e2⟩ := hcell j u hj; exact ⟨b, off, e1, (World.cell?_alloc_lt _ _ _ (World.block_lt_of_cell? _ _ e2)).trans e2⟩)
    have hB := BK.copy (cs := intCells l) (heap_alloc_new w (.cells (madeCells #[.int .i64 0] (l.length + 8)) 3)) (by simp [madeCells]) (f := fun _ => .int .i64 0) (N := l.length + 8) (fun j hj => by simp [madeCells, hj, Nat.mod_one]) (by rw [hlen]; omega)
    have hBl := below_setRow (((Below.refl w.heap.size w).alloc (Nat.le_refl _) (.cells (madeCells #[.int .i64 0] (l.length + 8)) 3))) (Nat.le_refl _) (intCells l ++ (madeCells #[.int .i64 0] (l.length + 8)).toList.drop (intCells l).length).toArray
    generalize (w.alloc (.cells (madeCells #[.int .i64 0] (l.length + 8)) 3)).setRow w.heap.size (intCells l ++ (madeCells #[.int .i64 0] (l.length + 8)).toList.drop (intCells l).length).toArray = W1 at *
    have HB := hide hB
    have HBL := hide hBl
    clear hcell hlen hnone L hsz hB hBl
    generalize hn : l.length = n at *
    have HN := hide hn
    clear hn
    go_enter Tryz.func136, Tryz.ntmps136
    go_wp2_with fail
    clear hcp hmk hnil HC HSZ
    have HL0 := hide (show ∀ j, n ≤ j → (intCells l)[j]? = none from fun j hj => List.getElem?_eq_none (by rw [HL.out]; omega))
    obtain ⟨G, hG⟩ : ∃ G, G = w.heap.size := ⟨_, rfl⟩
    have hGl : G < W1.heap.size := by rw [hG]; exact HB.out.lt
    rw [← hG] at HB HBL ⊢
    have HGG := hide hG
    clear hG
    go_loopw [5] (fun iv wr => ∃ i : Nat, iv = .int .i64 i ∧ n ≤ i ∧ i ≤ n + 8 ∧ BK wr G 3 (n + 8) (fun j => ((intCells l)[j]?).getD (if j < i then .int .i64 77 else .int .i64 0)) ∧ Below G w wr) (fun iv _ => n + 8 - (intOf iv).toNat)
    case atStart => exact ⟨n, rfl, Nat.le_refl _, by omega, HB.out.congr (fun j _ => by
      by_cases hj : n ≤ j
      · rw [HL0.out j hj, if_neg (by omega)]
      · rw [List.getElem?_eq_getElem (by rw [HL.out]; omega)]; rfl), HBL.out⟩
    case round =>
      obtain ⟨i, rfl, hi0, hi1, hK, hb⟩ := hrel
      by_cases hlt : i < n + 8
      · have hlt' : (i : Int) < (n : Int) + 8 := by omega
        have ci := hK.cell i hlt
        have fi := hK.frz i
        have HK := hide (hK.set i (.int .i64 77))
        have HBB := hide (hb.setCell (p := ⟨G, i, none⟩) (Nat.le_refl _) (.int .i64 77))
        rw [HL0.out i hi0] at ci
        clear hK hb
        go_wp2_with fail
        go_roundw
        case rel => exact ⟨i + 1, by go_num, by omega, by omega, HK.out.congr (fun j _ => by
          by_cases e : j = i
          · subst e; rw [if_pos rfl, HL0.out j hi0, if_pos (by omega)]; rfl
          · rw [if_neg e]
            by_cases h2 : j < i
            · rw [if_pos h2, if_pos (by omega)]
            · rw [if_neg h2, if_neg (by omega)]), HBB.out⟩
        case measure => simp [intOf]; omega
      · obtain rfl : i = n + 8 := by omega
        have HK := hide hK
        have HBB := hide hb
        clear hK hb
        go_wp2_with fail
        go_ret
        exact ⟨_, rfl, .inr ⟨by simp, G, Nat.le_of_eq HGG.out.symm, rfl, by rw [Nat.mul_one]; exact HK.out.congr (fun j hj => by unfold lentF sp1; rw [if_pos hj])⟩, by rw [← HGG.out]; exact HBB.out⟩
set_option maxRecDepth 100000 in
set_option maxHeartbeats 4000000 in
/-- .. looked at again, and written over -/
theorem wholeInts_any {w0 : World} {r : Value} (L : LR w0 1 v l.length (intCells l)) (hm : l.length * 8 ≤ 140737488351232) (hb : Below w0.heap.size w0 w) (T : Lnt w w0.heap.size 3 1 v r l.length (lentF (intCells l) sp1)) :
    Calls Tryz.prog 138 #[r, v] w fun e w' => e = .returned (.bool true) ∧ Lnt w' w0.heap.size 3 1 v r l.length (fun _ => .int .i64 0) ∧ w.grownBy w' r.ownBlock := by
  obtain ⟨a, cap, rfl, hnone, hcell⟩ := L.form
  have hlen := L.len
  rcases T with ⟨h1, rfl⟩ | ⟨h1, g, hg, rfl, K⟩
  · simp only [Value.slice.injEq] at h1
    obtain ⟨rfl, h0, rfl⟩ := h1
    rw [h0]
    have hnil : ∀ W, (binOp .eql 24 (.slice none 0 0) (.slice none 0 0)).run Tryz.prog W = .ok (.bool true) W := fun W => Lib.run_eql_slice_nil_nil W _ _ Tryz.underlying24
    clear L hcell hnone hlen hb
    go_enter Tryz.func138, Tryz.ntmps138
    go_wp2_with fail
    go_ret
    exact ⟨rfl, .inl ⟨rfl, rfl⟩, ⟨rfl, rfl, rfl, Nat.le_refl _, fun _ _ _ => rfl⟩⟩
  · cases a with
    | none =>
      obtain ⟨h0, rfl⟩ := hnone rfl
      rw [h0] at h1
      exact absurd rfl h1
    | some a =>
      have hnil : ∀ W, (binOp .eql 24 (.slice (some a) l.length cap) (.slice none 0 0)).run Tryz.prog W = .ok (.bool false) W := fun W => Lib.run_eql_slice_some_nil W _ _ _ Tryz.underlying24
      have HC := hide hcell
      have HL := hide hlen
      have HB0 := hide hb
      rw [Nat.mul_one] at K
      have HK0 := hide K
      have hgl := K.lt
      clear hcell hlen hnone L hb K h1
      generalize hn : l.length = n at *
      have HN := hide hn
      clear hn
      have HL0 := hide (show ∀ j, n ≤ j → (intCells l)[j]? = none from fun j hj => List.getElem?_eq_none (by rw [HL.out]; omega))
      go_enter Tryz.func138, Tryz.ntmps138
      go_wp2_with fail
      go_loopw [7, 8] (fun kv iv wr => ∃ i : Nat, kv = .bool true ∧ iv = .int .i64 i ∧ i ≤ n + 8 ∧ BK wr g 3 (n + 8) (fun j => if j < i then .int .i64 0 else lentF (intCells l) sp1 j) ∧ w.grownBy wr (some g)) (fun _ iv _ => n + 8 - (intOf iv).toNat)
      case atStart => exact ⟨0, rfl, rfl, by omega, HK0.out.congr (fun j _ => by rw [if_neg (by omega)]), ⟨rfl, rfl, rfl, Nat.le_refl _, fun _ _ _ => rfl⟩⟩
      case round =>
        obtain ⟨i, rfl, rfl, hi, hK, hgw⟩ := hrel
        by_cases hlt : i < n + 8
        · have hlt' : (i : Int) < (n : Int) + 8 := by omega
          have ci := hK.cell i hlt
          rw [if_neg (by omega)] at ci
          have fi := hK.frz i
          have HK := hide (hK.set i (.int .i64 0))
          have HG := hide (show w.grownBy (wr.setCell ⟨g, i, none⟩ (.int .i64 0)) (some g) from ⟨hgw.os, hgw.tape, hgw.output, by simpa using hgw.size, fun k hk hne => (Below.heap_setCell _ _ _ k (fun e => hne (by rw [e]))).trans (hgw.block k hk hne)⟩)
          have HREL := hide (show BK (wr.setCell ⟨g, i, none⟩ (.int .i64 0)) g 3 (n + 8) (fun j => if j < i + 1 then .int .i64 0 else lentF (intCells l) sp1 j) from HK.out.congr (fun j _ => by
            by_cases e : j = i
            · subst e; rw [if_pos rfl, if_pos (by omega)]
            · rw [if_neg e]
              by_cases h2 : j < i
              · rw [if_pos h2, if_pos (by omega)]
              · rw [if_neg h2, if_neg (by omega)]))
          by_cases hin : i < n
          · have hin' : (i : Int) < n := by omega
            have hil : i < (intCells l).length := by rw [HL.out]; omega
            obtain ⟨b, off, e1, e2⟩ := HC.out i _ (List.getElem?_eq_getElem hil)
            simp only [Option.some.injEq] at e1
            subst e1
            have hbl : b < w0.heap.size := World.block_lt_of_cell? _ _ e2
            have hbg : b ≠ g := by omega
            have hbw : b < w.heap.size := Nat.lt_of_lt_of_le hbl HB0.out.size
            have e3 := (World.cell?_of_block (a := ⟨b, off + i, none⟩) (hgw.block b hbw (fun e => hbg (by cases e; rfl)))).trans ((HB0.out.cell (p := ⟨b, off + i, none⟩) hbl).trans e2)
            have hil2 : i < l.length := by rw [HN.out]; exact hin
            have hv : (intCells l)[i] = .int .i64 l[i] := by simp [intCells]
            have hv2 : lentF (intCells l) sp1 i = .int .i64 l[i] := by unfold lentF; rw [List.getElem?_eq_getElem hil, hv]; rfl
            rw [hv] at e3
            rw [hv2] at ci
            generalize l[i] = y at *
            clear hK hgw hv hv2 e2 HK HC
            go_wp2_with fail
            go_roundw
            case rel => exact ⟨i + 1, by simp, by go_num, by omega, HREL.out, HG.out⟩
            case measure => simp [intOf]; omega
          · have hin' : ¬ (i : Int) < n := by omega
            have hv2 : lentF (intCells l) sp1 i = .int .i64 77 := by unfold lentF; rw [HL0.out i (by omega)]; rfl
            rw [hv2] at ci
            clear hK hgw hv2 HK HC
            go_wp2_with fail
            go_roundw
            case rel => exact ⟨i + 1, by simp, by go_num, by omega, HREL.out, HG.out⟩
            case measure => simp [intOf]; omega
        · obtain rfl : i = n + 8 := by omega
          have HK := hide hK
          have HG := hide hgw
          clear hK hgw
          go_wp2_with fail
          go_ret
          exact ⟨rfl, .inr ⟨by simp, g, hg, rfl, by rw [Nat.mul_one]; exact HK.out.congr (fun j hj => by rw [if_pos hj])⟩, HG.out⟩
end
end Go.Proofs.YtcnmbldikjljeaaGreatDoor
