import Derived.Test.YtcnmbldikjljeaaGreatDoorJ09
import Derived.Test.YtcnmbldikjljeaaGreatDoorJ46
import Derived.SizedLaws
import Derived.Test.YtcnmbldikjljeaaGreatDoorJ32
import Derived.Test.YtcnmbldikjljeaaGreatDoorJ38
namespace Go.Proofs.YtcnmbldikjljeaaGreatDoor
open Go.ChangeShapes Go.WideShapes Go.ChangeAt Go.RowKit

theorem flatMap_len {α : Type} (cells : α → List Value) (k : Nat) (hk : ∀ x, (cells x).length = k) (l : List α) : (l.flatMap cells).length = l.length * k := by
  induction l with
  | nil => simp
  | cons x l ih => rw [List.flatMap_cons, List.length_append, ih, hk, List.length_cons, Nat.add_one_mul]; omega
theorem flatMap_at {α : Type} (cells : α → List Value) (k : Nat) (hk : ∀ x, (cells x).length = k) (l : List α) (i : Nat) (h : i < l.length) (j : Nat) (hj : j < k) : (l.flatMap cells)[i * k + j]? = (cells l[i])[j]? := by
  induction l generalizing i with
  | nil => simp at h
  | cons x l ih =>
    rw [List.flatMap_cons]
    cases i with
    | zero => rw [List.getElem?_append_left (by rw [hk]; omega)]; simp
    | succ i =>
      rw [List.getElem?_append_right (by rw [hk, Nat.add_one_mul]; omega), hk, show (i + 1) * k + j - k = i * k + j by rw [Nat.add_one_mul]; omega, ih i (by simpa using h)]
      rfl
theorem weights_all {H : Type} {P : Program} {e : TypeId} {l : List (DataW H)} {d : DataW H} (h : d ∈ l) : ∀ n ∈ d.weights P e, n ∈ DataW.weightsAll P e l := by
  induction l with
  | nil => simp at h
  | cons x l ih =>
    intro n hn
    rw [DataW.weightsAll, List.mem_append]
    rcases List.mem_cons.1 h with rfl | h
    · exact .inl hn
    · exact .inr (ih h n hn)
section
variable {H : Type} {enc : TypeId × Value → H} {W : World}
/-- a list that came in, of whatever elements -/
theorem open_lst {α : Type} [Inhabited α] {t e : TypeId} {k : Nat} (Q : α → Prop) (cells : α → List Value) (hlen : ∀ x, (cells x).length = k) (h0 : 0 < k) (ht : Tryz.prog.underlying t = some (.slice e)) (hc : Tryz.prog.cellsOf e = k)
    (each : ∀ (cs : List Value) (fuel : Nat) (y : DataW H × List MemPlace), cs.length = k → DataW.trod enc Tryz.prog W 0 (fun _ => true) true fuel e cs = some y → (∀ n ∈ y.1.weights Tryz.prog e, n ≤ reachBytes) → ∃ x, cs = cells x ∧ Q x)
    {v : Value} {fuel : Nat} {x : DataW H × List MemPlace} (h : DataW.trod enc Tryz.prog W 0 (fun _ => true) true fuel t [v] = some x) (hw : ∀ n ∈ x.1.weights Tryz.prog t, n ≤ reachBytes) :
    ∃ l : List α, LR W k v l.length (l.flatMap cells) ∧ (∀ x ∈ l, Q x) ∧ l.length * Tryz.prog.bytesOf e ≤ reachBytes := by
  rcases Deep.open_slice ht h with ⟨hcs, _⟩ | ⟨x0, len, cap, m, n, D, Pl, hcs, _, hl, hm, hmm, hx, hel⟩
  · simp only [List.cons.injEq, and_true] at hcs
    subst hcs
    exact ⟨[], ⟨by simp, Nat.zero_le _, none, 0, rfl, fun _ => ⟨rfl, rfl⟩, fun j u hj => by simp at hj⟩, fun x hx => by simp at hx, by simp⟩
  · simp only [List.cons.injEq, and_true] at hcs
    subst hcs
    simp only [if_true] at hmm
    subst hmm
    rw [hx] at hw
    have hroom := hw ((((List.range len).map D).length + ((List.range (m - len)).map fun j => D (len + j)).length) * Tryz.prog.bytesOf e) (by simp [DataW.weights, ht])
    simp only [List.length_map, List.length_range] at hroom
    rw [hc] at hel
    have hE : ∀ i, i < len → ∃ o : α, Q o ∧ ∀ j, j < k → W.cell? ((x0.add (i * k)).add j) = (cells o)[j]? := by
      intro i hi
      obtain ⟨cs', h1, h2⟩ := hel i (by omega)
      obtain ⟨_, hle, hcell⟩ := World.cells?_some h1
      obtain ⟨o, rfl, ho⟩ := each _ _ _ hle h2 (fun q hq => hw q (by
        simp only [DataW.weights, ht, List.mem_cons, List.mem_append]
        exact .inr (.inl (weights_all (List.mem_map.2 ⟨i, List.mem_range.2 hi, rfl⟩) q hq))))
      exact ⟨o, ho, hcell⟩
    obtain ⟨en, hen⟩ := Deep.choose_lt (α := α) hE
    refine ⟨(List.range len).map en, ⟨by rw [flatMap_len cells k hlen], by simp; omega, some x0, m, by simp, fun e => (by cases e), fun j u hu => ?_⟩, fun o ho => ?_, ?_⟩
    · have hlt : j < ((List.range len).map en).length * k := by rw [← flatMap_len cells k hlen]; exact (List.getElem?_eq_some_iff.1 hu).1
      simp only [List.length_map, List.length_range] at hlt
      have hi : j / k < len := Nat.div_lt_of_lt_mul (by rw [Nat.mul_comm]; exact hlt)
      have hjk : j % k < k := Nat.mod_lt _ h0
      have hj : j = j / k * k + j % k := by have := Nat.div_add_mod j k; rw [Nat.mul_comm] at this; omega
      have hat := flatMap_at cells k hlen ((List.range len).map en) (j / k) (by simpa using hi) (j % k) hjk
      rw [← hj, hu] at hat
      simp only [List.getElem_map, List.getElem_range] at hat
      have hc' := (hen (j / k) hi).2 (j % k) hjk
      rw [← hat] at hc'
      obtain ⟨b, off, spot⟩ := x0
      have hspot : spot = none := by
        have h00 := (hen 0 (Nat.lt_of_le_of_lt (Nat.zero_le _) hi)).2 0 h0
        have hz : 0 < (cells (en 0)).length := by rw [hlen]; exact h0
        rw [List.getElem?_eq_getElem hz] at h00
        have := World.cell?_spot h00
        simpa [Addr.add] using this
      subst hspot
      rw [add_plain, add_plain] at hc'
      have e : off + j = off + j / k * k + j % k := by omega
      rw [← e] at hc'
      exact ⟨b, off, rfl, hc'⟩
    · simp only [List.mem_map, List.mem_range] at ho
      obtain ⟨i, hi, rfl⟩ := ho
      exact (hen i hi).1
    · simp only [List.length_map, List.length_range]
      exact Nat.le_trans (Nat.mul_le_mul_right _ (by omega)) hroom
theorem intCells_flat (l : List Int) : intCells l = l.flatMap fun x => [.int .i64 x] := by
  induction l with
  | nil => rfl
  | cons a l ih => rw [List.flatMap_cons, ← ih]; rfl
theorem list2 {α : Type} {l : List α} (h : l.length = 2) : ∃ a b, l = [a, b] := by
  match l, h with
  | [a, b], _ => exact ⟨a, b, rfl⟩
end
end Go.Proofs.YtcnmbldikjljeaaGreatDoor
namespace Go.Proofs.YtcnmbldikjljeaaGreatDoor
open Go.ChangeShapes Go.WideShapes Go.ChangeAt Go.RowKit

theorem list6 {α : Type} {l : List α} (h : l.length = 6) : ∃ a b c d e f, l = [a, b, c, d, e, f] := by
  match l, h with
  | [a, b, c, d, e, f], _ => exact ⟨a, b, c, d, e, f, rfl⟩
theorem cellsOp : Tryz.prog.cellsOf 84 = 6 := by kernel_rfl
theorem bytesOp : Tryz.prog.bytesOf 84 = 72 := by kernel_rfl
theorem cellsStages : Tryz.prog.cellsOf 35 = 1 := by kernel_rfl
section
variable {H : Type} {enc : TypeId × Value → H} {W : World}
/-- a step that came in -/
theorem open_op {cs : List Value} {fuel : Nat} {y : DataW H × List MemPlace} (hlen : cs.length = 6) (h : DataW.trod enc Tryz.prog W 0 (fun _ => true) true fuel 84 cs = some y) : ∃ o : OpD, cs = o.cells ∧ OpOk o := by
  obtain ⟨u0, u1, u2, u3, u4, u5, rfl⟩ := list6 hlen
  obtain ⟨ys, k, _, _, _, hn, hy⟩ := DataW.trod_struct Tryz.underlying84 h
  obtain ⟨z0, z1, z2, z3, z4, z5, rfl⟩ := list6 hn
  have y0 : DataW.trod enc Tryz.prog W 0 (fun _ => true) true k 3 (([u0, u1, u2, u3, u4, u5].drop 0).take (Tryz.prog.cellsOf 3)) = some z0 := hy 0 _ rfl
  rw [cellsInt] at y0
  have y1 : DataW.trod enc Tryz.prog W 0 (fun _ => true) true k 3 (([u0, u1, u2, u3, u4, u5].drop 1).take (Tryz.prog.cellsOf 3)) = some z1 := hy 1 _ rfl
  rw [cellsInt] at y1
  have y2 : DataW.trod enc Tryz.prog W 0 (fun _ => true) true k 3 (([u0, u1, u2, u3, u4, u5].drop 2).take (Tryz.prog.cellsOf 3)) = some z2 := hy 2 _ rfl
  rw [cellsInt] at y2
  have y3 : DataW.trod enc Tryz.prog W 0 (fun _ => true) true k 3 (([u0, u1, u2, u3, u4, u5].drop 3).take (Tryz.prog.cellsOf 3)) = some z3 := hy 3 _ rfl
  rw [cellsInt] at y3
  have y4 : DataW.trod enc Tryz.prog W 0 (fun _ => true) true k 9 (([u0, u1, u2, u3, u4, u5].drop 4).take (Tryz.prog.cellsOf 9)) = some z4 := hy 4 _ rfl
  rw [cellsStr] at y4
  have y5 : DataW.trod enc Tryz.prog W 0 (fun _ => true) true k 35 (([u0, u1, u2, u3, u4, u5].drop 5).take (Tryz.prog.cellsOf 35)) = some z5 := hy 5 _ rfl
  rw [cellsStages] at y5
  obtain ⟨k0, e0, _, w0⟩ := DataW.trod_int Tryz.underlying3 y0
  obtain ⟨k1, e1, _, w1⟩ := DataW.trod_int Tryz.underlying3 y1
  obtain ⟨k2, e2, _, w2⟩ := DataW.trod_int Tryz.underlying3 y2
  obtain ⟨k3, e3, _, w3⟩ := DataW.trod_int Tryz.underlying3 y3
  obtain ⟨s, e4, _, w4⟩ := DataW.trod_string Tryz.underlying9 y4
  obtain ⟨la, ll, lc, e5⟩ := Joins.slice_form (show Tryz.prog.underlying 35 = some (.slice 125) from Tryz.underlying35) y5
  simp only [List.drop_zero, List.drop_succ_cons, List.take_succ_cons, List.take_zero, List.cons.injEq, and_true] at e0 e1 e2 e3 e4 e5
  subst e0 e1 e2 e3 e4 e5
  have b1 := bounds_i64 w1
  have b2 := bounds_i64 w2
  have b3 := bounds_i64 w3
  unfold maxLen at w4
  exact ⟨⟨k0, k1, k2, k3, s, .slice la ll lc⟩, rfl, ⟨b1.1, b1.2, b2.1, b2.2, b3.1, b3.2, w4, ⟨la, ll, lc, rfl⟩⟩⟩
/-- a script that came in -/
theorem open_script {a : Option Addr} {len cap fuel : Nat} {x : DataW H × List MemPlace} (h : DataW.trod enc Tryz.prog W 0 (fun _ => true) true fuel 22 [.slice a len cap] = some x)
    (hr : ∀ elems spare, x.1 = .slice elems spare → (elems.length + spare.length) * 72 ≤ 140737488351232) : ∃ os : List OpD, len = os.length ∧ Scr W a os cap := by
  rcases Deep.open_slice Tryz.underlying22 h with ⟨hcs, _⟩ | ⟨x0, l, c, m, n, D, Pl, hcs, _, hl, hm, hmm, hx, hel⟩
  · simp only [List.cons.injEq, Value.slice.injEq, and_true] at hcs
    obtain ⟨rfl, rfl, rfl⟩ := hcs
    exact ⟨[], rfl, ⟨fun _ => ⟨rfl, rfl⟩, fun j u hu => by simp [opsCells] at hu, fun o ho => by simp at ho, by simp⟩⟩
  · simp only [List.cons.injEq, Value.slice.injEq, and_true] at hcs
    obtain ⟨rfl, rfl, rfl⟩ := hcs
    simp only [if_true] at hmm
    subst hmm
    have hroom := hr _ _ (by rw [hx])
    simp only [List.length_map, List.length_range] at hroom
    rw [cellsOp] at hel
    have hE : ∀ i, i < len → ∃ o : OpD, OpOk o ∧ ∀ j, j < 6 → W.cell? ((x0.add (i * 6)).add j) = (o.cells)[j]? := by
      intro i hi
      obtain ⟨cs', h1, h2⟩ := hel i (by omega)
      obtain ⟨_, hlen, hcell⟩ := World.cells?_some h1
      obtain ⟨o, rfl, ho⟩ := open_op hlen h2
      exact ⟨o, ho, hcell⟩
    have _ : Inhabited OpD := ⟨⟨0, 0, 0, 0, ⟨#[]⟩, .slice none 0 0⟩⟩
    obtain ⟨en, hen⟩ := Deep.choose_lt (α := OpD) hE
    refine ⟨(List.range len).map en, by simp, ⟨fun e => (by cases e), fun j u hu => ?_, fun o ho => ?_, by simp; omega⟩⟩
    · have hlt : j < ((List.range len).map en).length * 6 := by rw [← opsCells_len]; exact (List.getElem?_eq_some_iff.1 hu).1
      simp only [List.length_map, List.length_range] at hlt
      have hi : j / 6 < len := by omega
      have hj : j = j / 6 * 6 + j % 6 := by omega
      have hat := opsCells_at ((List.range len).map en) (j / 6) (by simpa using hi) (j % 6) (by omega)
      rw [← hj, hu] at hat
      simp only [List.getElem_map, List.getElem_range] at hat
      have hc := (hen (j / 6) hi).2 (j % 6) (by omega)
      rw [← hat] at hc
      obtain ⟨b, off, spot⟩ := x0
      have hspot : spot = none := by
        have h00 : W.cell? (((Addr.mk b off spot).add (0 * 6)).add 0) = some (.int .i64 (en 0).k) := (hen 0 (by omega)).2 0 (by omega)
        have := World.cell?_spot h00
        simpa [Addr.add] using this
      subst hspot
      rw [add_plain, add_plain] at hc
      have e : off + j = off + j / 6 * 6 + j % 6 := by omega
      rw [← e] at hc
      exact ⟨b, off, rfl, World.block_lt_of_cell? W _ hc, hc⟩
    · simp only [List.mem_map, List.mem_range] at ho
      obtain ⟨i, hi, rfl⟩ := ho
      exact (hen i hi).1
end
end Go.Proofs.YtcnmbldikjljeaaGreatDoor
namespace Go.Proofs.YtcnmbldikjljeaaGreatDoor
open Go.ChangeShapes Go.WideShapes Go.ChangeAt Go.RowKit

section
variable {H : Type} {enc : TypeId × Value → H} {W : World}
theorem cellsStage : Tryz.prog.cellsOf 125 = 2 := by kernel_rfl
theorem cellsLevel : Tryz.prog.cellsOf 127 = 2 := by kernel_rfl
theorem cellsLevels : Tryz.prog.cellsOf 123 = 1 := by kernel_rfl
theorem cellsInts : Tryz.prog.cellsOf 24 = 1 := by kernel_rfl
theorem bytesStage : Tryz.prog.bytesOf 125 = 48 := by kernel_rfl
theorem bytesLevel : Tryz.prog.bytesOf 127 = 16 := by kernel_rfl
theorem bytesInt : Tryz.prog.bytesOf 3 = 8 := by kernel_rfl
theorem open_ints {v : Value} {fuel : Nat} {x : DataW H × List MemPlace} (h : DataW.trod enc Tryz.prog W 0 (fun _ => true) true fuel 24 [v] = some x) (hw : ∀ n ∈ x.1.weights Tryz.prog 24, n ≤ reachBytes) :
    ∃ l : List Int, LR W 1 v l.length (intCells l) ∧ l.length * 8 ≤ reachBytes := by
  obtain ⟨l, h1, _, h2⟩ := open_lst (α := Int) (fun _ => True) (fun x => [.int .i64 x]) (fun _ => rfl) (by decide) Tryz.underlying24 cellsInt (fun cs fuel y hl hy _ => by
    match cs, hl with
    | [u], _ =>
      obtain ⟨k0, e0, _, _⟩ := DataW.trod_int Tryz.underlying3 hy
      exact ⟨k0, e0, trivial⟩) h hw
  rw [bytesInt] at h2
  refine ⟨l, ?_, h2⟩
  rw [intCells_flat]; exact h1
theorem open_levels {v : Value} {fuel : Nat} {x : DataW H × List MemPlace} (h : DataW.trod enc Tryz.prog W 0 (fun _ => true) true fuel 123 [v] = some x) (hw : ∀ n ∈ x.1.weights Tryz.prog 123, n ≤ reachBytes) :
    ∃ l : List (Int × Int), LR W 2 v l.length (flat l) ∧ l.length * 16 ≤ reachBytes := by
  obtain ⟨l, h1, _, h2⟩ := open_lst (α := Int × Int) (fun _ => True) (fun p => [.int .i64 p.1, .int .i64 p.2]) (fun _ => rfl) (by decide) Tryz.underlying123 cellsLevel (fun cs fuel y hl hy _ => by
    obtain ⟨u0, u1, rfl⟩ := list2 hl
    obtain ⟨ys, k, _, _, _, hn, hz⟩ := DataW.trod_struct Tryz.underlying127 hy
    obtain ⟨z0, z1, rfl⟩ := list2 hn
    have y0 : DataW.trod enc Tryz.prog W 0 (fun _ => true) true k 3 (([u0, u1].drop 0).take (Tryz.prog.cellsOf 3)) = some z0 := hz 0 _ rfl
    rw [cellsInt] at y0
    have y1 : DataW.trod enc Tryz.prog W 0 (fun _ => true) true k 3 (([u0, u1].drop 1).take (Tryz.prog.cellsOf 3)) = some z1 := hz 1 _ rfl
    rw [cellsInt] at y1
    obtain ⟨k0, e0, _, _⟩ := DataW.trod_int Tryz.underlying3 y0
    obtain ⟨k1, e1, _, _⟩ := DataW.trod_int Tryz.underlying3 y1
    simp only [List.drop_zero, List.drop_succ_cons, List.take_succ_cons, List.take_zero, List.cons.injEq, and_true] at e0 e1
    subst e0 e1
    exact ⟨(k0, k1), rfl, trivial⟩) h hw
  rw [bytesLevel] at h2
  exact ⟨l, h1, h2⟩
theorem stCells_map (l : List ((Value × Value) × Stg)) (d : (Value × Value) × Stg) : stCells (fun i => (l.getD i d).1) l.length = l.flatMap fun x => [x.1.1, x.1.2] := by
  apply List.ext_getElem?
  intro j
  by_cases hj : j < l.length * 2
  · have h1 : j / 2 < l.length := by omega
    have h2 := stCells_at (fun i => (l.getD i d).1) l.length (j / 2) h1
    have h3 := flatMap_at (fun x : (Value × Value) × Stg => [x.1.1, x.1.2]) 2 (fun _ => rfl) l (j / 2) h1 (j % 2) (by omega)
    have e : j = j / 2 * 2 + j % 2 := by omega
    rw [← e] at h3
    rw [h3]
    rcases (show j % 2 = 0 ∨ j % 2 = 1 by omega) with e0 | e0
    · have ej : j / 2 * 2 = j := by omega
      rw [ej] at h2
      rw [e0, h2.1]; simp [h1]
    · have ej : j / 2 * 2 + 1 = j := by omega
      rw [ej] at h2
      rw [e0, h2.2]; simp [h1]
  · have hl : ∀ m, (stCells (fun i => (l.getD i d).1) m).length = m * 2 := by
      intro m
      induction m with
      | zero => rfl
      | succ m ihm => rw [show stCells (fun i => (l.getD i d).1) (m + 1) = stCells (fun i => (l.getD i d).1) m ++ [((l.getD m d).1).1, ((l.getD m d).1).2] by simp [stCells, List.range_succ], List.length_append, ihm]; simp; omega
    rw [List.getElem?_eq_none (by rw [hl]; omega), List.getElem?_eq_none (by rw [flatMap_len _ 2 (fun _ => rfl)]; omega)]
theorem open_stages {v : Value} {fuel : Nat} {x : DataW H × List MemPlace} (h : DataW.trod enc Tryz.prog W 0 (fun _ => true) true fuel 35 [v] = some x) (hw : ∀ n ∈ x.1.weights Tryz.prog 35, n ≤ reachBytes) : Lst0 W v := by
  have _ : Inhabited ((Value × Value) × Stg) := ⟨((.slice none 0 0, .slice none 0 0), ⟨[], []⟩)⟩
  obtain ⟨l, h1, hq, h2⟩ := open_lst (α := (Value × Value) × Stg) (fun x => (LR W 2 x.1.1 x.2.levels.length (flat x.2.levels) ∧ x.2.levels.length * 16 ≤ reachBytes) ∧ (LR W 1 x.1.2 x.2.next.length (intCells x.2.next) ∧ x.2.next.length * 8 ≤ reachBytes)) (fun x => [x.1.1, x.1.2]) (fun _ => rfl) (by decide) Tryz.underlying35 cellsStage (fun cs fuel y hl hy hyw => by
    obtain ⟨u0, u1, rfl⟩ := list2 hl
    obtain ⟨ys, k, _, hy1, _, hn, hz⟩ := DataW.trod_struct Tryz.underlying125 hy
    obtain ⟨z0, z1, rfl⟩ := list2 hn
    rw [hy1] at hyw
    have y0 : DataW.trod enc Tryz.prog W 0 (fun _ => true) true k 123 (([u0, u1].drop 0).take (Tryz.prog.cellsOf 123)) = some z0 := hz 0 _ rfl
    rw [cellsLevels] at y0
    have y1 : DataW.trod enc Tryz.prog W 0 (fun _ => true) true k 24 (([u0, u1].drop 1).take (Tryz.prog.cellsOf 24)) = some z1 := hz 1 _ rfl
    rw [cellsInts] at y1
    simp only [List.drop_zero, List.drop_succ_cons, List.take_succ_cons, List.take_zero] at y0 y1
    have hwt : (DataW.agg (List.map (fun x => x.1) [z0, z1])).weights Tryz.prog 125 = z0.1.weights Tryz.prog 123 ++ (z1.1.weights Tryz.prog 24 ++ []) := by
      simp only [DataW.weights, Tryz.underlying125]; rfl
    rw [hwt] at hyw
    obtain ⟨L, l1, l2⟩ := open_levels y0 (fun n hn => hyw n (by simp [hn]))
    obtain ⟨N, n1, n2⟩ := open_ints y1 (fun n hn => hyw n (by simp [hn]))
    exact ⟨((u0, u1), ⟨L, N⟩), rfl, ⟨l1, l2⟩, n1, n2⟩) h hw
  rw [bytesStage] at h2
  have hlen : (l.map (·.2)).length = l.length := by simp
  have hst : ∀ i : Nat, i < l.length → stAt (l.map (·.2)) i = (l.getD i default).2 := by
    intro i hi
    unfold stAt
    simp [hi]
  have hmem : ∀ i : Nat, i < l.length → l.getD i default ∈ l := by
    intro i hi
    simp [hi]
  refine ⟨l.map (·.2), fun i => (l.getD i default).1, ⟨?_, fun i hi => ?_, fun i hi => ?_⟩, ⟨?_, fun i hi => ?_, fun i hi => ?_⟩⟩
  · rw [hlen, stCells_map]; exact h1
  · rw [hlen] at hi
    rw [hst i hi]; exact (hq _ (hmem i hi)).1.1
  · rw [hlen] at hi
    rw [hst i hi]; exact (hq _ (hmem i hi)).2.1
  · rw [hlen]; simpa [reachBytes] using h2
  · rw [hlen] at hi
    rw [hst i hi]; have := (hq _ (hmem i hi)).1.2; simpa [reachBytes] using this
  · rw [hlen] at hi
    rw [hst i hi]; have := (hq _ (hmem i hi)).2.2; simpa [reachBytes] using this
/-- a step that came in: its list can be read -/
theorem open_op2 {cs : List Value} {fuel : Nat} {y : DataW H × List MemPlace} (hlen : cs.length = 6) (h : DataW.trod enc Tryz.prog W 0 (fun _ => true) true fuel 84 cs = some y) (hw : ∀ n ∈ y.1.weights Tryz.prog 84, n ≤ reachBytes) : ∃ o : OpD, cs = o.cells ∧ OpOk o ∧ Lst0 W o.l := by
  obtain ⟨o, rfl, ho⟩ := open_op hlen h
  refine ⟨o, rfl, ho, ?_⟩
  obtain ⟨ys, k, _, hy1, _, hn, hy⟩ := DataW.trod_struct Tryz.underlying84 h
  obtain ⟨z0, z1, z2, z3, z4, z5, rfl⟩ := list6 hn
  have y5 : DataW.trod enc Tryz.prog W 0 (fun _ => true) true k 35 ((o.cells.drop 5).take (Tryz.prog.cellsOf 35)) = some z5 := hy 5 _ rfl
  rw [cellsStages] at y5
  refine open_stages (show DataW.trod enc Tryz.prog W 0 (fun _ => true) true k 35 [o.l] = some z5 from y5) (fun n hn => hw n ?_)
  rw [hy1]
  simp only [DataW.weights, Tryz.underlying84]
  exact DataW.weights_mem_each (j := 5) (t := 35) (d := z5.1) rfl rfl n hn
/-- a script that came in: all its lists can be read -/
theorem open_script2 {a : Option Addr} {len cap fuel : Nat} {x : DataW H × List MemPlace} (h : DataW.trod enc Tryz.prog W 0 (fun _ => true) true fuel 22 [.slice a len cap] = some x)
    (hw : ∀ n ∈ x.1.weights Tryz.prog 22, n ≤ reachBytes) : ∃ os : List OpD, len = os.length ∧ Scr W a os cap ∧ ∀ o ∈ os, Lst0 W o.l := by
  have _ : Inhabited OpD := ⟨⟨0, 0, 0, 0, ⟨#[]⟩, .slice none 0 0⟩⟩
  obtain ⟨l, h1, hq, h2⟩ := open_lst (α := OpD) (fun o => OpOk o ∧ Lst0 W o.l) OpD.cells (fun _ => rfl) (by decide) Tryz.underlying22 cellsOp (fun cs fuel y hl hy hyw => by
    obtain ⟨o, e, ho⟩ := open_op2 hl hy hyw
    exact ⟨o, e, ho⟩) h hw
  rw [bytesOp] at h2
  obtain ⟨a', cap', e1, e2, e3⟩ := h1.form
  simp only [Value.slice.injEq] at e1
  obtain ⟨rfl, rfl, rfl⟩ := e1
  refine ⟨l, rfl, ⟨e2, fun j u hu => ?_, fun o ho => (hq o ho).1, ?_⟩, fun o ho => (hq o ho).2⟩
  · obtain ⟨b, off, f1, f2⟩ := e3 j u hu
    exact ⟨b, off, f1, World.block_lt_of_cell? _ _ f2, f2⟩
  · simp only [reachBytes] at h2; omega
end
end Go.Proofs.YtcnmbldikjljeaaGreatDoor
