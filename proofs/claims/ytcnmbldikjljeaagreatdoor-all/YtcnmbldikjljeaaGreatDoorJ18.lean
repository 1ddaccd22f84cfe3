import Derived.Test.YtcnmbldikjljeaaGreatDoorJ17
import Derived.Test.YtcnmbldikjljeaaGreatDoorJ16
import Derived.Test.YtcnmbldikjljeaaGreatDoorJ09
import Derived.Test.YtcnmbldikjljeaaGreatDoorJ07
namespace Go.Proofs.YtcnmbldikjljeaaGreatDoor
open Go.RowKit Go.Shelf

attribute [local go_sem] Oper.semAt_some

def lensI (X : List (Int × Int)) (pre : List Nat) : Int := (pre.map fun k => (spAt X k).2 - (spAt X k).1).sum
theorem lensI_snoc (X : List (Int × Int)) (pre : List Nat) (x : Nat) : lensI X (pre ++ [x]) = lensI X pre + ((spAt X x).2 - (spAt X x).1) := by simp [lensI]
theorem lensI_range (X : List (Int × Int)) (k : Nat) (hk : k ≤ X.length) : lensI X (List.range k) = lens (X.take k) := by
  unfold lensI lens
  rw [← range_get X k hk, List.map_map]
  rfl
/-- what Add answers, however the loop ended -/
def AddR (X : List (Int × Int)) (n : Int) (e : Ending) : Prop :=
  (∃ pre p rest, X = pre ++ p :: rest ∧ 0 < n - lens pre ∧ n - lens pre ≤ p.2 - p.1 ∧ e = .returned (.tuple #[.int .i64 (p.1 + (n - lens pre)), .int .i64 0])) ∨
  (0 < n - lens X ∧ e = .returned (.tuple #[.int .i64 0, .int .i64 3]))
/-- between two rounds of Add -/
structure IA (w : World) (n : Int) (X : List (Int × Int)) (pre : List Nat) (W : World) : Prop where
  bN : Boxed W w.heap.size 3 (.int .i64 (n - lensI X pre))
  bR : Boxed W (w.heap.size + 1) 3 (.int .i64 0)
  bE : Boxed W (w.heap.size + 2) 45 (.int .i64 0)
  lo : 0 < n - lensI X pre
  hi : n - lensI X pre ≤ 20000
  below : Below w.heap.size w W
  big : w.heap.size + 5 ≤ W.heap.size
/-- a round that left -/
structure IAx (w : World) (n : Int) (X : List (Int × Int)) (c : Code) (pre : List Nat) (W : World) : Prop where
  hc : c = .ret
  at_ : ∃ pre' x, pre = pre' ++ [x] ∧ 0 < n - lensI X pre' ∧ n - lensI X pre' ≤ (spAt X x).2 - (spAt X x).1 ∧ Boxed W (w.heap.size + 1) 3 (.int .i64 ((spAt X x).1 + (n - lensI X pre')))
  bE : Boxed W (w.heap.size + 2) 45 (.int .i64 0)
  below : Below w.heap.size w W
theorem IA.own (w : World) (n : Int) (X : List (Int × Int)) (B : Nat) (hB : w.heap.size ≤ B) : OwnFrom B (IA w n X) := fun _ _ _ _ hs hg hr =>
  ⟨boxed_kept hs.bN hg hr, boxed_kept hs.bR hg hr, boxed_kept hs.bE hg hr, hs.lo, hs.hi, hs.below.grown hg hs.below.size (fun k e => Nat.le_trans hB (hr k e).1), Nat.le_trans hs.big hg.size⟩
theorem IAx.own (w : World) (n : Int) (X : List (Int × Int)) (c : Code) (B : Nat) (hB : w.heap.size ≤ B) : OwnFrom B (IAx w n X c) := fun _ _ _ _ hs hg hr =>
  ⟨hs.hc, (by obtain ⟨p, x, e1, e2, e3, e4⟩ := hs.at_; exact ⟨p, x, e1, e2, e3, boxed_kept e4 hg hr⟩), boxed_kept hs.bE hg hr, hs.below.grown hg hs.below.size (fun k e => Nat.le_trans hB (hr k e).1)⟩

set_option maxRecDepth 100000 in
set_option maxHeartbeats 1000000 in
theorem add_bad (g : Nat) (t n : Int) (w : World) (h : t < 0 ∨ 100800 < t ∨ n < 0 ∨ 20000 < n) :
    Calls Tryz.prog 27 #[.pointer (some ⟨g, 0, none⟩), .int .i64 t, .int .i64 n] w fun e w' => e = .returned (.tuple #[.int .i64 0, .int .i64 1]) ∧ Below w.heap.size w w' := by
  have HI := hide isTime_any
  have hb3 : ∀ a b c : Obj, Below w.heap.size w (((w.alloc a).alloc b).alloc c) := fun a b c => (((Below.refl _ w).alloc (Nat.le_refl _) _).alloc (by simp) _).alloc (by simp; omega) _
  by_cases h1 : 0 ≤ t ∧ t ≤ 100800
  · have e1 : (decide (0 ≤ t) && decide (t ≤ 100800)) = true := by simp; exact h1
    have HE := hide e1
    clear e1
    by_cases h2 : n < 0
    · clear h
      go_enter Tryz.func27, Tryz.ntmps27
      go_wp2_with fail
      refine (HI.out _ _).mono ?_
      rw [HE.out]
      rintro e w1 ⟨rfl, rfl⟩
      go_wp2_with fail
      refine bodyPost_ret (v := .tuple #[.int .i64 0, .int .i64 1]) (by simp [results, Tryz.f27, go_sem]) rfl ?_
      exact ⟨rfl, hb3 _ _ _⟩
    · have h3 : 20000 < n := by omega
      clear h
      go_enter Tryz.func27, Tryz.ntmps27
      go_wp2_with fail
      refine (HI.out _ _).mono ?_
      rw [HE.out]
      rintro e w1 ⟨rfl, rfl⟩
      go_wp2_with fail
      refine bodyPost_ret (v := .tuple #[.int .i64 0, .int .i64 1]) (by simp [results, Tryz.f27, go_sem]) rfl ?_
      exact ⟨rfl, hb3 _ _ _⟩
  · have e1 : (decide (0 ≤ t) && decide (t ≤ 100800)) = false := by simp; omega
    have HE := hide e1
    clear h e1
    go_enter Tryz.func27, Tryz.ntmps27
    go_wp2_with fail
    refine (HI.out _ _).mono ?_
    rw [HE.out]
    rintro e w1 ⟨rfl, rfl⟩
    go_wp2_with fail
    refine bodyPost_ret (v := .tuple #[.int .i64 0, .int .i64 1]) (by simp [results, Tryz.f27, go_sem]) rfl ?_
    exact ⟨rfl, hb3 _ _ _⟩

set_option maxRecDepth 100000 in
set_option maxHeartbeats 4000000 in
theorem addM_in (N : Nat) (hN : 3 ≤ N) (g o : Nat) (wk : Nat → List (Int × Int)) (fr : Nat → Bool) (t n : Int) (w : World) (C : CalO w g o wk fr) (hA : ∀ j, j < 7 → Apart (wk j)) (hlen : ∀ j, j < 7 → (wk j).length ≤ 1000) (h0 : 0 ≤ t) (h1 : t ≤ 100800) (h2 : 0 < n) (h3 : n ≤ 20000) :
    CallsIn Fence.wide N Tryz.prog 27 #[.pointer (some ⟨g, o, none⟩), .int .i64 t, .int .i64 n] w fun e w' => AddR (spansL wk fr t) n e ∧ Below w.heap.size w w' := by
  have hn1 : 1 ≤ N := by omega
  have HI := hide isTime_any
  have e1 : (decide (0 ≤ t) && decide (t ≤ 100800)) = true := by simp; omega
  have HE := hide e1
  have hne : (n == 0) = false := by simp; omega
  have hn0 : 0 ≤ n := by omega
  clear e1
  refine callsIn_of_wp_marks Tryz.func27 rfl trivial ?_ rfl
  simp only [Tryz.ntmps27, List.size_toArray, List.length_cons, List.length_nil, Nat.reduceAdd, Nat.reduceSub, Array.replicate_succ, Array.replicate_zero, List.push_toArray, List.append_toArray, List.nil_append, List.cons_append]
  gi_wp2_with (first | (refine ⟨trivial, ?_⟩; gi_at_call 47; refine (callsIn_wide.2 (HI.out _ _)).mono ?_; rw [HE.out]; rintro e w1 ⟨rfl, rfl⟩) | (refine ⟨trivial, ?_⟩; gi_at_call 48; refine (callsIn_wide.2 (spansFrom_any _ _ _ _)).mono ?_; rintro e w1 ⟨rfl, rfl⟩))
  obtain ⟨W0, hW0⟩ : ∃ W0, (((((w.alloc (Obj.cells #[.int .i64 n] 3)).alloc (Obj.cells #[.int .i64 0] 3)).alloc (Obj.cells #[.int .i64 0] 45)).alloc (Obj.cells #[.pointer (some ⟨g, o, none⟩)] 34)).alloc (Obj.cells #[.int .i64 t] 3)) = W0 := ⟨_, rfl⟩
  have bN := ((((Boxed.new w 3 (.int .i64 n)).alloc (Obj.cells #[.int .i64 0] 3)).alloc (Obj.cells #[.int .i64 0] 45)).alloc (Obj.cells #[.pointer (some ⟨g, o, none⟩)] 34)).alloc (Obj.cells #[.int .i64 t] 3)
  have bR := (((Boxed.new (w.alloc (Obj.cells #[.int .i64 n] 3)) 3 (.int .i64 0)).alloc (Obj.cells #[.int .i64 0] 45)).alloc (Obj.cells #[.pointer (some ⟨g, o, none⟩)] 34)).alloc (Obj.cells #[.int .i64 t] 3)
  have bE := ((Boxed.new ((w.alloc (Obj.cells #[.int .i64 n] 3)).alloc (Obj.cells #[.int .i64 0] 3)) 45 (.int .i64 0)).alloc (Obj.cells #[.pointer (some ⟨g, o, none⟩)] 34)).alloc (Obj.cells #[.int .i64 t] 3)
  have bC := (Boxed.new (((w.alloc (Obj.cells #[.int .i64 n] 3)).alloc (Obj.cells #[.int .i64 0] 3)).alloc (Obj.cells #[.int .i64 0] 45)) 34 (.pointer (some ⟨g, o, none⟩))).alloc (Obj.cells #[.int .i64 t] 3)
  have bT := Boxed.new ((((w.alloc (Obj.cells #[.int .i64 n] 3)).alloc (Obj.cells #[.int .i64 0] 3)).alloc (Obj.cells #[.int .i64 0] 45)).alloc (Obj.cells #[.pointer (some ⟨g, o, none⟩)] 34)) 3 (.int .i64 t)
  have hB0 : Below w.heap.size w (((((w.alloc (Obj.cells #[.int .i64 n] 3)).alloc (Obj.cells #[.int .i64 0] 3)).alloc (Obj.cells #[.int .i64 0] 45)).alloc (Obj.cells #[.pointer (some ⟨g, o, none⟩)] 34)).alloc (Obj.cells #[.int .i64 t] 3)) := (((((Below.refl _ w).alloc (Nat.le_refl _) _).alloc (by simp) _).alloc (by simp; omega) _).alloc (by simp; omega) _).alloc (by simp; omega) _
  have hsz : (((((w.alloc (Obj.cells #[.int .i64 n] 3)).alloc (Obj.cells #[.int .i64 0] 3)).alloc (Obj.cells #[.int .i64 0] 45)).alloc (Obj.cells #[.pointer (some ⟨g, o, none⟩)] 34)).alloc (Obj.cells #[.int .i64 t] 3)).heap.size = w.heap.size + 5 := by simp
  simp only [World.size_alloc] at bR bE bC bT
  rw [hW0] at bN bR bE bC bT hB0 hsz ⊢
  clear hW0
  have hX := spans_ord hA (fr := fr) t
  have hbd := bd_of_ord hX h0
  have HT := hide (iter_stops (N - 1) (by omega) (w.heap.size + 1 + 1 + 1 + 1) (w.heap.size + 1 + 1 + 1) g o wk fr t w W0 C hA hlen h0 (by omega) ⟨hB0, bT, bC⟩)
  clear hA hlen C hX
  generalize hXe : spansL wk fr t = X at *
  have HXE := hide hXe
  clear hXe
  refine wpIn_rangeFunc_ownH rfl hn1 (gf := 75) (lb := #[.pointer (some ⟨w.heap.size + 1 + 1 + 1 + 1, 0, none⟩), .pointer (some ⟨w.heap.size + 1 + 1 + 1, 0, none⟩)]) rfl trivial (enters_of Tryz.func75 (by kernel_rfl) rfl)
    HT.out KQ.t (KQ.b (by omega) (by omega) (by omega)) (Below.refl _ _) (fun _ => rfl)
    (IA w n X) (IAx w n X) (IA.own w n X _ (by omega)) (fun c => IAx.own w n X c _ (by omega)) ⟨by simpa [lensI] using bN, bR, bE, by simp [lensI]; omega, by simp [lensI]; omega, hB0, by omega⟩
    (fun x a' W => ∃ Bx, w.heap.size + 5 ≤ Bx ∧ Box2 W Bx (spAt X x).1 (spAt X x).2 ∧ a' = { tmps := #[.pointer (some ⟨g, o, none⟩), .int .i64 t, .int .i64 n, undef, undef, .pointer (some ⟨w.heap.size, 0, none⟩), .pointer (some ⟨w.heap.size + 1, 0, none⟩), .pointer (some ⟨w.heap.size + 1 + 1, 0, none⟩), .pointer (some ⟨Bx, 0, none⟩), .int .i64 t, .bool true, .bool false, .bool false, .int .i64 n, .bool (decide (n < 0)), .bool (decide (n < 0)), .bool (decide (n < 0)), .int .i64 n, .bool (decide (20000 < n)), .bool (decide (n < 0) || decide (20000 < n)), .int .i64 n, .bool false, undef, .pointer (some ⟨g, o, none⟩), .int .i64 t, .func (.func 75) #[] #[.pointer (some ⟨w.heap.size + 1 + 1 + 1 + 1, 0, none⟩), .pointer (some ⟨w.heap.size + 1 + 1 + 1, 0, none⟩)], .agg #[.int .i64 (spAt X x).1, .int .i64 (spAt X x).2], undef, undef, undef, undef, undef, undef, undef, undef, undef, undef, undef, undef, undef, undef, undef, undef, undef, undef], defers := [] })
    (fun _ _ _ _ _ _ hs hg hr => by obtain ⟨Bx, e1, e2, e3⟩ := hs; exact ⟨Bx, e1, box2_kept e2 hg hr, e3⟩) ?assign ?body ?done ?stop
  case assign =>
    rintro l pre x W K hi hK
    unfold encX
    have hsW := hi.below.size
    generalize spAt X x = p at *
    obtain ⟨x1, x2⟩ := p
    gi_wp2
    have hbg := hi.big
    exact hK _ _ ((KeepsOthers.alloc _ _).from _) ⟨(Below.refl _ W).alloc hsW _, Below.heap_alloc _ _ _ (by omega), Below.heap_alloc _ _ _ (by omega)⟩ ⟨hi.bN.alloc _, hi.bR.alloc _, hi.bE.alloc _, hi.lo, hi.hi, hi.below.alloc hsW _, by simp; omega⟩ ⟨W.heap.size, by omega, World.alloc_heap_new W _, rfl⟩
  case body =>
    rintro l pre x a' W hl ⟨r, hr⟩ hi ⟨Bx, hBx, bX, rfl⟩ hlt
    have hb := hbd x
    have HSN := hide (lensI_snoc X pre x)
    have hlo := hi.lo
    have hhi := hi.hi
    have c0 := bX.c0
    have c1 := bX.c1
    have cN := hi.bN.cell
    have fN := hi.bN.frozen
    have cR := hi.bR.cell
    have fR := hi.bR.frozen
    have cE := hi.bE.cell
    have fE := hi.bE.frozen
    have HH := hide hi
    clear hi bX bN bR bE bC bT hbd
    generalize hz : n - lensI X pre = z at *
    have HZ := hide hz
    obtain ⟨x1, x2, hxx⟩ : ∃ x1 x2, spAt X x = (x1, x2) := ⟨_, _, rfl⟩
    rw [hxx] at c0 c1 hb
    have HXX := hide hxx
    obtain ⟨y0, y1, y2⟩ := hb
    simp only at y0 y1 y2 c0 c1
    clear hz hxx
    have hne1 : Bx ≠ w.heap.size := by omega
    have hne2 : Bx ≠ w.heap.size + 1 := by omega
    rw [HXX.out]
    by_cases hbx : z ≤ x2 - x1
    · gi_wp2
      refine ⟨((KeepsOthers.setCell _ _ _).trans (KeepsOthers.setCell _ _ _)).from _, rfl, ⟨pre, x, rfl, by rw [HZ.out]; exact hlo, by rw [HZ.out, HXX.out]; exact hbx, ?_⟩, ?_, (HH.out.below.setCell (p := ⟨w.heap.size + 1, 0, none⟩) (by simp) _).setCell (p := ⟨w.heap.size + 1 + 1, 0, none⟩) (by simp only; omega) _⟩
      · rw [HZ.out, HXX.out]; exact (HH.out.bR.set _).other (by omega) _
      · exact (HH.out.bE.other (by omega) _).set _
    · have hbx' : x2 - x1 < z := by omega
      have hpt : n - lensI X (pre ++ [x]) = z - (x2 - x1) := by rw [HSN.out, HXX.out, ← HZ.out]; simp only; omega
      have HPT := hide hpt
      clear hpt
      gi_wp2
      exact ⟨(KeepsOthers.setCell _ _ _).from _, ⟨(Below.refl _ W).setCell (p := ⟨w.heap.size, 0, none⟩) (by simp) _, Below.heap_setCell _ _ _ _ (by simp only; omega), Below.heap_setCell _ _ _ _ (by simp only; omega)⟩, by rw [HPT.out]; exact HH.out.bN.set _, HH.out.bR.other (by omega) _, HH.out.bE.other (by omega) _, by rw [HPT.out]; omega, by rw [HPT.out]; omega, HH.out.below.setCell (p := ⟨w.heap.size, 0, none⟩) (by simp) _, by have := HH.out.big; simp; omega⟩
  case done =>
    rintro D ys W hD rfl hi hK
    have cR := hi.bR.cell
    have fR := hi.bR.frozen
    have cE := hi.bE.cell
    have fE := hi.bE.frozen
    have HLO := hide hi.lo
    gi_wp2
    obtain ⟨W2, hW2⟩ : ∃ W2, (W.setCell ⟨w.heap.size + 1, 0, none⟩ (.int .i64 0)).setCell ⟨w.heap.size + 1 + 1, 0, none⟩ (.int .i64 3) = W2 := ⟨_, rfl⟩
    have bR2 := (hi.bR.set (.int .i64 0)).other (B' := w.heap.size + 1 + 1) (by omega) (.int .i64 3)
    have bE2 := (hi.bE.other (B' := w.heap.size + 1) (by omega) (.int .i64 0)).set (.int .i64 3)
    have hK2 := ((KeepsOthers.setCell W ⟨w.heap.size + 1, 0, none⟩ (.int .i64 0)).trans (KeepsOthers.setCell _ ⟨w.heap.size + 1 + 1, 0, none⟩ (.int .i64 3))).same D _ hK rfl
    have hB2 := (hi.below.setCell (p := ⟨w.heap.size + 1, 0, none⟩) (by simp) (.int .i64 0)).setCell (p := ⟨w.heap.size + 1 + 1, 0, none⟩) (by simp only; omega) (.int .i64 3)
    rw [hW2] at bR2 bE2 hK2 hB2 ⊢
    refine ⟨by simp, .inl ⟨_, _, rfl, run_takeDeferred hK2, ?_⟩⟩
    have c5 := cell_kept bR2.cell (grownBy_putObj' _ D (.deferred none)) (fun r e => by cases e; exact ⟨_, hK2, rfl⟩)
    have c6 := cell_kept bE2.cell (grownBy_putObj' _ D (.deferred none)) (fun r e => by cases e; exact ⟨_, hK2, rfl⟩)
    refine ⟨.tuple #[.int .i64 0, .int .i64 3], by simp [results, Tryz.f27, go_sem, c5, c6], .inr ⟨?_, rfl⟩, hB2.trans (belowK_b (w := w) (Nat.le_refl _) W2 D _ _ (by omega) hK2 rfl rfl)⟩
    have := HLO.out
    rw [lensI_range X _ (Nat.le_refl _), List.take_length] at this
    rw [HXE.out]; exact this
  case stop =>
    rintro D c pre W hD ⟨k, hk, rfl⟩ hi hK
    obtain ⟨rfl, ⟨pre', x, e1, e2, e3, bR2⟩, bE2, hB2⟩ := hi
    obtain ⟨k', rfl⟩ : ∃ k', k = k' + 1 := ⟨k - 1, by
      have := congrArg List.length e1
      simp at this; omega⟩
    rw [List.range_succ] at e1
    obtain ⟨rfl, e4⟩ := List.append_inj' e1 rfl
    injection e4 with e4 _
    subst e4
    have hkx : k' < X.length := by omega
    have hsp : spAt X k' = X[k'] := by unfold spAt; rw [List.getD_eq_getElem?_getD, List.getElem?_eq_getElem hkx]; rfl
    rw [hsp, lensI_range X k' (by omega)] at e3 bR2
    rw [lensI_range X k' (by omega)] at e2
    have HF := hide (show AddR (spansL wk fr t) n (.returned (.tuple #[.int .i64 (X[k'].1 + (n - lens (X.take k'))), .int .i64 0])) from .inl ⟨X.take k', X[k'], X.drop (k' + 1), by rw [HXE.out, ← List.drop_eq_getElem_cons hkx, List.take_append_drop], e2, e3, rfl⟩)
    clear e1 e2 e3 hsp
    generalize X[k'].1 + (n - lens (X.take k')) = y at *
    gi_wp2
    refine ⟨by simp, .inl ⟨_, _, rfl, run_takeDeferred hK, ?_⟩⟩
    have c5 := cell_kept bR2.cell (grownBy_putObj' _ D (.deferred none)) (fun r e => by cases e; exact ⟨_, hK, rfl⟩)
    have c6 := cell_kept bE2.cell (grownBy_putObj' _ D (.deferred none)) (fun r e => by cases e; exact ⟨_, hK, rfl⟩)
    exact ⟨.tuple #[.int .i64 y, .int .i64 0], by simp [results, Tryz.f27, go_sem, c5, c6], HF.out, hB2.trans (belowK_b (w := w) (Nat.le_refl _) W D _ _ (by omega) hK rfl rfl)⟩
set_option maxRecDepth 100000 in
set_option maxHeartbeats 1000000 in
theorem add_zero (g o : Nat) (t : Int) (w : World) (h0 : 0 ≤ t) (h1 : t ≤ 100800) :
    Calls Tryz.prog 27 #[.pointer (some ⟨g, o, none⟩), .int .i64 t, .int .i64 0] w fun e w' => e = .returned (.tuple #[.int .i64 t, .int .i64 0]) ∧ Below w.heap.size w w' := by
  have HI := hide isTime_any
  have hb3 : ∀ a b c : Obj, Below w.heap.size w (((w.alloc a).alloc b).alloc c) := fun a b c => (((Below.refl _ w).alloc (Nat.le_refl _) _).alloc (by simp) _).alloc (by simp; omega) _
  have e1 : (decide (0 ≤ t) && decide (t ≤ 100800)) = true := by simp; exact ⟨h0, h1⟩
  have HE := hide e1
  clear e1
  go_enter Tryz.func27, Tryz.ntmps27
  go_wp2_with fail
  refine (HI.out _ _).mono ?_
  rw [HE.out]
  rintro e w1 ⟨rfl, rfl⟩
  go_wp2_with fail
  refine bodyPost_ret (v := .tuple #[.int .i64 t, .int .i64 0]) (by simp [results, Tryz.f27, go_sem]) rfl ?_
  exact ⟨rfl, hb3 _ _ _⟩
/-- what Add answers of a calendar -/
def AddP (F : Nat → Bool) (t n : Int) (e : Ending) : Prop :=
  (∃ x : Int, AddN F t n x ∧ e = .returned (.tuple #[.int .i64 x, .int .i64 0])) ∨ (Never F t n ∧ e = .returned (.tuple #[.int .i64 0, .int .i64 3]))
theorem addO_any (g o : Nat) (raw : Nat → List (Int × Int)) (fr F : Nat → Bool) (t n : Int) (w : World) (C : ∃ wk, CalO w g o wk fr ∧ ∀ j, j < 7 → JoinOf (raw j) (wk j)) (hl : ∀ j, (raw j).length ≤ 1000) (hF : ∀ t : Int, 0 ≤ t → t < 100800 → openL raw fr t = F t.toNat) (h0 : 0 ≤ t) (h1 : t ≤ 100800) (h2 : 0 ≤ n) (h3 : n ≤ 20000) :
    Calls Tryz.prog 27 #[.pointer (some ⟨g, o, none⟩), .int .i64 t, .int .i64 n] w fun e w' => AddP F t n e ∧ Below w.heap.size w w' := by
  by_cases hz : n = 0
  · subst hz
    refine (add_zero g o t w h0 h1).mono ?_
    rintro e w' ⟨rfl, hb⟩
    exact ⟨.inl ⟨t, ⟨Int.le_refl _, h1, by omega, fun y a b => by omega⟩, rfl⟩, hb⟩
  obtain ⟨wk, M, hJ⟩ := C
  have hA : ∀ j, j < 7 → Apart (wk j) := fun j hj => (hJ j hj).1
  refine (callsIn_wide.1 (addM_in 3 (by omega) g o wk fr t n w M hA (fun j hj => Nat.le_trans (hJ j hj).2.2 (hl j)) h0 h1 (by omega) h3)).mono ?_
  have ho := spans_ord hA (fr := fr) t
  have hh : ∀ m : Int, t ≤ m → m < 100800 → F m.toNat = hitL m (spansL wk fr t) := fun m m0 m1 => by rw [spans_hit hA t m h0 m0 m1, open_join hJ fr m (by omega), hF m (by omega) m1]
  rintro e w' ⟨⟨pre, p, rest, e1, e2, e3, rfl⟩ | ⟨e2, rfl⟩, hb⟩
  · exact ⟨.inl ⟨_, add_found h0 ho hh e1 e2 e3, rfl⟩, hb⟩
  · exact ⟨.inr ⟨add_never h0 ho hh e2, rfl⟩, hb⟩
theorem add_any (g : Nat) (raw : Nat → List (Int × Int)) (fr F : Nat → Bool) (t n : Int) (w : World) (C : CalW w g raw fr) (hl : ∀ j, (raw j).length ≤ 1000) (hF : ∀ t : Int, 0 ≤ t → t < 100800 → openL raw fr t = F t.toNat) (h0 : 0 ≤ t) (h1 : t ≤ 100800) (h2 : 0 ≤ n) (h3 : n ≤ 20000) :
    Calls Tryz.prog 27 #[.pointer (some ⟨g, 0, none⟩), .int .i64 t, .int .i64 n] w fun e w' => AddP F t n e ∧ Below w.heap.size w w' :=
  addO_any g 0 raw fr F t n w ⟨C.choose, C.choose_spec.1.off, C.choose_spec.2⟩ hl hF h0 h1 h2 h3
end Go.Proofs.YtcnmbldikjljeaaGreatDoor
namespace Go.Proofs.YtcnmbldikjljeaaGreatDoor
open Go.RowKit

set_option maxRecDepth 100000 in
set_option maxHeartbeats 1000000 in
theorem refBetween_bad (g : Nat) (a b : Int) (w : World) (h : a < 0 ∨ 100800 < b ∨ b < a) :
    Calls Tryz.prog 88 #[.pointer (some ⟨g, 0, none⟩), .int .i64 a, .int .i64 b] w fun e w' => e = .returned (.tuple #[.int .i64 0, .int .i64 1]) ∧ w' = w := by
  by_cases h0 : a < 0
  · clear h
    go_enter Tryz.func88, Tryz.ntmps88
    go_wp2
    go_ret2
    exact ⟨rfl, rfl⟩
  · have n0 : ¬ a < 0 := h0
    by_cases h1 : 100800 < b
    · clear h
      go_enter Tryz.func88, Tryz.ntmps88
      go_wp2
      go_ret2
      exact ⟨rfl, rfl⟩
    · have h2 : b < a := by omega
      clear h
      go_enter Tryz.func88, Tryz.ntmps88
      go_wp2
      go_ret2
      exact ⟨rfl, rfl⟩
set_option maxRecDepth 100000 in
set_option maxHeartbeats 1000000 in
theorem refBetween_any (g : Nat) (F : Nat → Bool) (a b : Int) (w : World) (C : RC w g F) (h0 : 0 ≤ a) (h1 : a ≤ b) (h2 : b ≤ 100800) :
    Calls Tryz.prog 88 #[.pointer (some ⟨g, 0, none⟩), .int .i64 a, .int .i64 b] w fun e w' => e = .returned (.tuple #[.int .i64 (cnt F b.toNat - cnt F a.toNat), .int .i64 0]) ∧ Below w.heap.size w w' := by
  obtain ⟨q, cap, hc, _, hq, hall⟩ := C.row
  have z0 := hall a.toNat (by omega)
  have z1 := hall b.toNat (by omega)
  have k0 := cnt_bd F a.toNat
  have k1 := cnt_bd F b.toNat
  have n0 : ¬ a < 0 := by omega
  have n1 : ¬ 100800 < b := by omega
  have n2 : ¬ b < a := by omega
  have j0 : a < 100801 := by omega
  have j1 : b < 100801 := by omega
  have j2 : 0 ≤ b := by omega
  have l0 : (a.toNat : Int) = a := by omega
  have l1 : (b.toNat : Int) = b := by omega
  have HL := hide (And.intro l0 l1)
  have x0 : cnt F a.toNat ≤ 200000 := by omega
  have x1 : cnt F b.toNat ≤ 200000 := by omega
  have y0 := k0.1
  have y1 := k1.1
  clear hall C k0 k1 l0 l1
  go_enter Tryz.func88, Tryz.ntmps88
  generalize cnt F a.toNat = x at *
  generalize cnt F b.toNat = y at *
  go_wp2
  go_quiet (fail)
  go_wp2
  go_ret2
  exact ⟨rfl, below_drewN (Below.refl _ _) _⟩
set_option maxRecDepth 100000 in
set_option maxHeartbeats 1000000 in
theorem refAdd_bad (g : Nat) (t n : Int) (w : World) (h : t < 0 ∨ 100800 < t ∨ n < 0 ∨ 20000 < n) :
    Calls Tryz.prog 89 #[.pointer (some ⟨g, 0, none⟩), .int .i64 t, .int .i64 n] w fun e w' => e = .returned (.tuple #[.int .i64 0, .int .i64 1]) ∧ w' = w := by
  by_cases h0 : t < 0
  · clear h
    go_enter Tryz.func89, Tryz.ntmps89
    go_wp2
    go_ret2
    exact ⟨rfl, rfl⟩
  · by_cases h1 : 100800 < t
    · clear h
      go_enter Tryz.func89, Tryz.ntmps89
      go_wp2
      go_ret2
      exact ⟨rfl, rfl⟩
    · by_cases h2 : n < 0
      · clear h
        go_enter Tryz.func89, Tryz.ntmps89
        go_wp2
        go_ret2
        exact ⟨rfl, rfl⟩
      · have h3 : 20000 < n := by omega
        clear h
        go_enter Tryz.func89, Tryz.ntmps89
        go_wp2
        go_ret2
        exact ⟨rfl, rfl⟩
set_option maxRecDepth 100000 in
set_option maxHeartbeats 1000000 in
theorem refAdd_any (g : Nat) (F : Nat → Bool) (t n : Int) (w : World) (C : RC w g F) (h0 : 0 ≤ t) (h1 : t ≤ 100800) (h2 : 0 ≤ n) (h3 : n ≤ 20000) :
    Calls Tryz.prog 89 #[.pointer (some ⟨g, 0, none⟩), .int .i64 t, .int .i64 n] w fun e w' => AddP F t n e ∧ Below w.heap.size w w' := by
  obtain ⟨q, cap, hc, _, hq, hall⟩ := C.row
  have HALL := hide hall
  have z0 := hall t.toNat (by omega)
  have k0 := cnt_bd F t.toNat
  have n0 : ¬ t < 0 := by omega
  have n1 : ¬ 100800 < t := by omega
  have n2 : ¬ n < 0 := by omega
  have n3 : ¬ 20000 < n := by omega
  have x0 : cnt F t.toNat ≤ 200000 := by omega
  have y0 := k0.1
  have j0 : t < 100801 := by omega
  have hl : (t.toNat : Int) = t := by omega
  have HL := hide hl
  clear hall C k0 hl
  go_enter Tryz.func89, Tryz.ntmps89
  go_wp2_with fail
  go_loopw [8] (fun i wr => ∃ x : Int, t ≤ x ∧ x ≤ 100801 ∧ i = .int .i64 x ∧ Below w.heap.size w wr ∧ Hid (∀ y : Int, t ≤ y → y < x → cnt F y.toNat - cnt F t.toNat ≠ n)) (fun i _ => 100801 - (intOf i).toNat)
  case atStart => exact ⟨t, by omega, by omega, rfl, Below.refl _ _, fun y a b => by omega⟩
  case round =>
    obtain ⟨x, hx0, hx1, rfl, hb, HH⟩ := hrel
    by_cases hlt : x ≤ 100800
    · have r0 := (hb.cell (p := ⟨g, 0, none⟩) (by simp; omega)).trans hc
      have r1 := (hb.cell (p := ⟨q, t.toNat, none⟩) hq).trans z0
      have r2 := (hb.cell (p := ⟨q, x.toNat, none⟩) hq).trans (HALL.out x.toNat (by omega))
      have k1 := cnt_bd F x.toNat
      have x1 : cnt F x.toNat ≤ 200000 := by omega
      have y1 := k1.1
      have p0 : 0 ≤ x := by omega
      have p1 : x < 100801 := by omega
      have HBB := hide hb
      clear k1 hb hc z0
      by_cases he : cnt F x.toNat - cnt F t.toNat = n
      · have HE := hide he
        have hd : (cnt F x.toNat - cnt F t.toNat == n) = true := by simpa using he
        generalize hu : cnt F x.toNat = u at *
        generalize hv : cnt F t.toNat = v at *
        have HU := hide (And.intro hu hv)
        clear hu hv he
        go_wp2
        go_quiet (fail)
        go_wp2
        go_ret2
        refine ⟨.inl ⟨x, ⟨hx0, hlt, by rw [HU.out.1, HU.out.2]; exact HE.out, by rw [HU.out.2]; exact HH.out⟩, rfl⟩, below_drewN HBB.out _⟩
      · have HE := hide he
        have hd : (cnt F x.toNat - cnt F t.toNat == n) = false := by simpa using he
        generalize hu : cnt F x.toNat = u at *
        generalize hv : cnt F t.toNat = v at *
        have HU := hide (And.intro hu hv)
        clear hu hv he
        go_wp2
        go_quiet (fail)
        go_wp2
        go_roundw
        case rel =>
          refine ⟨x + 1, by omega, by omega, by go_num, below_drewN HBB.out _, fun y a b => ?_⟩
          by_cases hy : y < x
          · exact HH.out y a hy
          · have e : y = x := by omega
            rw [e, HU.out.1]; exact HE.out
        case measure => simp [intOf]; omega
    · have hN : ¬ x ≤ 100800 := hlt
      go_wp2
      go_ret2
      exact ⟨.inr ⟨fun y a b => HH.out y a (by omega), rfl⟩, hb⟩
end Go.Proofs.YtcnmbldikjljeaaGreatDoor
namespace Go.Proofs.YtcnmbldikjljeaaGreatDoor
open Go.RowKit

/-! a case in memory -/
def csCells (x : Cs) : List Value := [.int .i64 x.id, .int .i64 x.stage, .int .i64 x.level, .int .i64 x.due, .bool x.held, .int .i64 x.rest]
def cssCells (l : List Cs) : List Value := l.flatMap csCells
/-- the cells of a case, in a block of cases -/
def CA (w : World) (b off : Nat) (x : Cs) : Prop := ∃ cur, w.heap[b]? = some (.cells cur 242 (0, 0)) ∧ ∀ j v, (csCells x)[j]? = some v → cur[off + j]? = some v
/-- nothing that lay has turned, but the cells from off on in block b, which hold vs -/
structure Put (w w' : World) (b off : Nat) (vs : List Value) : Prop where
  os : w'.os = w.os
  tape : w'.tape = w.tape
  output : w'.output = w.output
  size : w.heap.size ≤ w'.heap.size
  other : ∀ k, k < w.heap.size → k ≠ b → w'.heap[k]? = w.heap[k]?
  blk : ∃ cur cur', w.heap[b]? = some (.cells cur 242 (0, 0)) ∧ w'.heap[b]? = some (.cells cur' 242 (0, 0)) ∧ cur'.size = cur.size ∧ ∀ j, cur'[j]? = if off ≤ j ∧ j < off + vs.length then vs[j - off]? else cur[j]?
section
variable {w u z : World} {b off : Nat} {x : Cs} {vs us : List Value}
theorem CA.cell (h : CA w b off x) (j : Nat) (v : Value) (hj : (csCells x)[j]? = some v) : w.cell? ⟨b, off + j, none⟩ = some v := by
  obtain ⟨cur, h1, h2⟩ := h
  simp [World.cell?, h1, h2 j v hj]
theorem CA.frozen (h : CA w b off x) (j : Nat) : w.frozen? ⟨b, j, none⟩ = false := by
  obtain ⟨cur, h1, _⟩ := h
  simp [World.frozen?, h1]
theorem CA.lt (h : CA w b off x) : b < w.heap.size := by
  obtain ⟨cur, h1, _⟩ := h
  exact (Array.getElem?_eq_some_iff.1 h1).1
theorem CA.on (h : CA w b off x) (hb : Below w.heap.size w u) : CA u b off x := by
  obtain ⟨cur, h1, h2⟩ := h
  exact ⟨cur, (hb.block b (Array.getElem?_eq_some_iff.1 h1).1).trans h1, h2⟩
theorem CA.put (h : CA w b off x) (hb : Below w.heap.size w u) : Put w u b off (csCells x) := by
  have hlt := h.lt
  obtain ⟨cur, h1, h2⟩ := h
  refine ⟨hb.os, hb.tape, hb.output, hb.size, fun k hk _ => hb.block k hk, cur, cur, h1, (hb.block b hlt).trans h1, rfl, fun j => ?_⟩
  split
  · rename_i g
    obtain ⟨v, hv⟩ : ∃ v, (csCells x)[j - off]? = some v := ⟨(csCells x)[j - off]'(by omega), by simp⟩
    rw [hv]
    have := h2 (j - off) v hv
    rwa [show off + (j - off) = j by omega] at this
  · rfl
theorem Put.set (h : Put w u b off vs) (j : Nat) (hj : j < vs.length) (v : Value) : Put w (u.setCell ⟨b, off + j, none⟩ v) b off (vs.set j v) := by
  obtain ⟨cur, cur', h1, h2, h3, h4⟩ := h.blk
  refine ⟨h.os, h.tape, h.output, by simpa using h.size, fun k hk hne => (Below.heap_setCell _ _ _ k hne).trans (h.other k hk hne), cur, cur'.setIfInBounds (off + j) v, h1, heap_setCell_same _ _ _ _ _ _ h2, by simp [h3], fun i => ?_⟩
  have hi := h4 i
  rw [List.length_set, Array.getElem?_setIfInBounds]
  by_cases e : off + j = i
  · subst e
    have hlt : off + j < cur'.size := by
      have h5 := h4 (off + j)
      rw [if_pos (by omega)] at h5
      apply Nat.lt_of_not_le
      intro hge
      rw [Array.getElem?_eq_none hge] at h5
      rw [show off + j - off = j by omega, List.getElem?_eq_getElem hj] at h5
      cases h5
    rw [if_pos rfl, if_pos hlt, if_pos (by omega), show off + j - off = j by omega, List.getElem?_set_self hj]
  · rw [if_neg e, hi]
    split
    · rw [List.getElem?_set_ne (by omega)]
    · rfl
theorem Put.trans (h : Put w u b off vs) (k : Put u z b off us) (hl : vs.length = us.length) : Put w z b off us := by
  obtain ⟨cur, cur', h1, h2, h3, h4⟩ := h.blk
  obtain ⟨cur2, cur3, k1, k2, k3, k4⟩ := k.blk
  rw [h2] at k1
  cases k1
  refine ⟨k.os.trans h.os, k.tape.trans h.tape, k.output.trans h.output, Nat.le_trans h.size k.size, fun i hi hne => (k.other i (Nat.lt_of_lt_of_le hi h.size) hne).trans (h.other i hi hne), cur, cur3, h1, k2, k3.trans h3, fun j => ?_⟩
  rw [k4 j]
  split
  · rfl
  · rw [h4 j, if_neg (by omega)]
theorem Put.ca (h : Put w u b off (csCells x)) : CA u b off x := by
  obtain ⟨cur, cur', h1, h2, h3, h4⟩ := h.blk
  refine ⟨cur', h2, fun j v hv => ?_⟩
  have hj := (List.getElem?_eq_some_iff.1 hv).1
  rw [h4 (off + j), if_pos (by omega), show off + j - off = j by omega, hv]
theorem Put.grown (h : Put w u b off vs) : w.grownBy u (some b) := ⟨h.os, h.tape, h.output, h.size, fun k hk hne => h.other k hk (fun e => hne (by rw [e]))⟩
end
/-! what a change of one block leaves -/
/-- the document's calendar: none of its blocks is one that holds something else than a number in a place below the last -/
theorem RC.left {w u : World} {c b j : Nat} {F : Nat → Bool} {v : Value} (h : RC w c F) (hg : w.grownBy u (some b)) (hc : c ≠ b) (hj : j < 100801) (hv : w.cell? ⟨b, j, none⟩ = some v) (hn : ∀ x, v ≠ .int .i64 x) : RC u c F := by
  obtain ⟨q, cap, h1, h0, h2, h3⟩ := h.row
  have hq : q ≠ b := by
    rintro rfl
    rw [h3 j hj] at hv
    exact hn _ (Option.some.inj hv).symm
  refine ⟨Nat.lt_of_lt_of_le h.lt hg.size, q, cap, ?_, h0, Nat.lt_of_lt_of_le h2 hg.size, fun i hi => ?_⟩
  · rw [World.cell?_of_block (a := ⟨c, 0, none⟩) (hg.block c h.lt (fun e => hc (by cases e; rfl)))]; exact h1
  · rw [World.cell?_of_block (a := ⟨q, i, none⟩) (hg.block q h2 (fun e => hq (by cases e; rfl)))]; exact h3 i hi
/-- what a docket's calls read alone: its calendar, its stages -/
structure DR (w : World) (g c : Nat) (F : Nat → Bool) (st : List Stg) (sv : Value) (vs : Nat → Value × Value) : Prop where
  c0 : w.cell? ⟨g, 0, none⟩ = some (P0 c)
  c1 : w.cell? ⟨g, 1, none⟩ = some sv
  cal : RC w c F
  stg : SW w sv st vs
theorem DR.on {w u : World} {g c : Nat} {F : Nat → Bool} {st : List Stg} {sv : Value} {vs : Nat → Value × Value} (h : DR w g c F st sv vs) (hb : Below w.heap.size w u) : DR u g c F st sv vs := by
  have hlt := World.block_lt_of_cell? w _ h.c0
  exact ⟨(hb.cell (p := ⟨g, 0, none⟩) hlt).trans h.c0, (hb.cell (p := ⟨g, 1, none⟩) hlt).trans h.c1, h.cal.on hb, h.stg.on hb⟩
/-- .. and a case's change -/
theorem DR.put {w u : World} {g c b off : Nat} {F : Nat → Bool} {st : List Stg} {sv : Value} {vs : Nat → Value × Value} {x : Cs} {us : List Value} (h : DR w g c F st sv vs) (A : CA w b off x) (h0 : ∃ y : Int, w.cell? ⟨b, 0, none⟩ = some (.int .i64 y)) (ho : off < 100000) (hgb : g ≠ b) (P : Put w u b off us) : DR u g c F st sv vs := by
  have hlt := World.block_lt_of_cell? w _ h.c0
  have hG := P.grown
  obtain ⟨cur, hb, _⟩ := A
  have hcb : c ≠ b := by
    rintro rfl
    obtain ⟨q, cap, h1, _⟩ := h.cal.row
    obtain ⟨y, hy⟩ := h0
    rw [h1] at hy
    simp at hy
  refine ⟨?_, ?_, ?_, h.stg.left hG hb (by decide) (by decide) (by decide)⟩
  · rw [World.cell?_of_block (a := ⟨g, 0, none⟩) (P.other g hlt hgb)]; exact h.c0
  · rw [World.cell?_of_block (a := ⟨g, 1, none⟩) (P.other g hlt hgb)]; exact h.c1
  · exact h.cal.left hG hcb (j := off + 4) (by omega) (CA.cell ⟨cur, hb, by assumption⟩ 4 _ rfl) (fun x => by simp)
end Go.Proofs.YtcnmbldikjljeaaGreatDoor
