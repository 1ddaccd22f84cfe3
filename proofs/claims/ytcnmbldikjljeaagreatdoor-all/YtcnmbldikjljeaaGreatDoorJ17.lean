import Derived.RangeFuncNested
import Derived.RangeFuncBound
import Derived.RangeFuncCalls
import Derived.RangeFuncLeaves
import Derived.Shelf.Abstract
import Derived.Shelf.RegionOpen
import Derived.WalkKit
import Derived.OwnWalkIn
import Derived.TacticsInMore
import Derived.LoopNIn
import Derived.LoopIn
import Derived.Test.YtcnmbldikjljeaaGreatDoorJ16
namespace Go.Proofs.YtcnmbldikjljeaaGreatDoor
open Go.RowKit Go.Shelf

/-- what the iterator reads, and a round keeps: the calendar, and the two boxes -/
structure KI (w0 : World) (Bt Bc g o : Nat) (t : Int) (w : World) : Prop where
  below : Below w0.heap.size w0 w
  bt : w.heap[Bt]? = some (.cells #[.int .i64 t] 3 (0, 0))
  bc : w.heap[Bc]? = some (.cells #[.pointer (some ⟨g, o, none⟩)] 34 (0, 0))
def KQ (n₀ Bt Bc : Nat) (W W' : World) : Prop := Below n₀ W W' ∧ W'.heap[Bt]? = W.heap[Bt]? ∧ W'.heap[Bc]? = W.heap[Bc]?
theorem KQ.t {n₀ Bt Bc : Nat} {A B C : World} (h : KQ n₀ Bt Bc A B) (k : KQ n₀ Bt Bc B C) : KQ n₀ Bt Bc A C := ⟨h.1.trans k.1, k.2.1.trans h.2.1, k.2.2.trans h.2.2⟩
theorem KQ.b {n₀ Bt Bc : Nat} {w : World} (hn : n₀ ≤ w.heap.size) (h1 : Bt < w.heap.size) (h2 : Bc < w.heap.size) (W : World) (l : Nat) (o o' : Obj) (hl : w.heap.size ≤ l) (h : W.heap[l]? = some o) (hc : o.isCells = false) (hw : o.isWalk = false) : KQ n₀ Bt Bc W (W.putObj l o') :=
  ⟨belowK_b hn W l o o' hl h hc hw, World.putObj_heap_other (by omega), World.putObj_heap_other (by omega)⟩
section
variable {w0 w w' : World} {Bt Bc g o : Nat} {t : Int}
theorem KI.kq (h : KI w0 Bt Bc g o t w) (k : KQ w0.heap.size Bt Bc w w') : KI w0 Bt Bc g o t w' := ⟨h.below.trans k.1, k.2.1.trans h.bt, k.2.2.trans h.bc⟩
theorem KI.lt (h : KI w0 Bt Bc g o t w) : Bt < w.heap.size ∧ Bc < w.heap.size := ⟨(Array.getElem?_eq_some_iff.1 h.bt).1, (Array.getElem?_eq_some_iff.1 h.bc).1⟩
theorem KI.on (h : KI w0 Bt Bc g o t w) (hb : Below w.heap.size w w') : KI w0 Bt Bc g o t w' :=
  ⟨h.below.trans (hb.mono h.below.size), (hb.block _ h.lt.1).trans h.bt, (hb.block _ h.lt.2).trans h.bc⟩
theorem KI.ct (h : KI w0 Bt Bc g o t w) : w.cell? ⟨Bt, 0, none⟩ = some (.int .i64 t) := by simp [World.cell?, h.bt]
theorem KI.cc (h : KI w0 Bt Bc g o t w) : w.cell? ⟨Bc, 0, none⟩ = some (.pointer (some ⟨g, o, none⟩)) := by simp [World.cell?, h.bc]
end
def spAt (X : List (Int × Int)) (k : Nat) : Int × Int := X.getD k (0, 0)
/-- a span as it is handed to the round -/
def encX (X : List (Int × Int)) (k : Nat) : Array Value := #[.agg #[.int .i64 (spAt X k).1, .int .i64 (spAt X k).2]]
theorem clip_cons (t d : Int) (p : Int × Int) (l : List (Int × Int)) : clip t d (p :: l) = if max (d * 1440 + p.1) t < d * 1440 + p.2 then (max (d * 1440 + p.1) t, d * 1440 + p.2) :: clip t d l else clip t d l := by
  unfold clip
  rw [List.map_cons, List.filter_cons]
  by_cases h : max (d * 1440 + p.1) t < d * 1440 + p.2
  · rw [if_pos h, if_pos (by simpa using h)]
  · rw [if_neg h, if_neg (by simpa using h)]
theorem drop_cons {X l : List (Int × Int)} {k : Nat} {x : Int × Int} (h : X.drop k = x :: l) : k < X.length ∧ spAt X k = x ∧ X.drop (k + 1) = l := by
  have hk : k < X.length := by
    have := congrArg List.length h
    simp at this; omega
  rw [List.drop_eq_getElem_cons hk] at h
  injection h with h1 h2
  refine ⟨hk, ?_, h2⟩
  unfold spAt
  rw [List.getD_eq_getElem?_getD, List.getElem?_eq_getElem hk]; exact h1

theorem from_step (wk : Nat → List (Int × Int)) (fr : Nat → Bool) (t : Int) {d : Nat} (h : d < 70) : fromL wk fr t d (70 - d) = clip t d (dayL wk fr d) ++ fromL wk fr t (d + 1) (70 - (d + 1)) := by
  rw [show 70 - d = 70 - (d + 1) + 1 by omega]; rfl
set_option maxRecDepth 100000 in
set_option maxHeartbeats 4000000 in
/-- the iterator: every span from t on, in its order, for every round that keeps what it reads -/
theorem iter_in (n : Nat) (hn : 1 ≤ n) (l Bt Bc g o : Nat) (wk : Nat → List (Int × Int)) (fr : Nat → Bool) (t : Int) (w0 : World) (C : CalO w0 g o wk fr) (hA : ∀ j, j < 7 → Apart (wk j)) (hlen : ∀ j, j < 7 → (wk j).length ≤ 1000) (h0 : 0 ≤ t) (h1 : t ≤ 100800)
    (J Jx : List Nat → World → Prop) (W : World) (K0 : KI w0 Bt Bc g o t W) (hJ : AbidesFrom W.heap.size J)
    (hY : ∀ pre x W1, J pre W1 → pre.length < (spansL wk fr t).length → YieldAt Fence.wide (n - 1) Tryz.prog l (encX (spansL wk fr t) x) W1 fun e W' =>
      (e = .returned (.bool true) ∧ J (pre ++ [x]) W' ∧ KQ w0.heap.size Bt Bc W1 W') ∨ (e = .returned (.bool false) ∧ Jx (pre ++ [x]) W'))
    (hJ0 : J [] W) :
    CallsIn Fence.wide n Tryz.prog 75 #[.func (.yield l) #[] #[], .pointer (some ⟨Bt, 0, none⟩), .pointer (some ⟨Bc, 0, none⟩)] W fun e W' => (∃ v, e = .returned v) ∧
      ((∃ ys, ys = List.range (spansL wk fr t).length ∧ J ys W') ∨ (∃ pre, (∃ k, k ≤ (spansL wk fr t).length ∧ pre = List.range k) ∧ Jx pre W')) := by
  obtain ⟨X, hX⟩ : ∃ X, X = spansL wk fr t := ⟨_, rfl⟩
  rw [← hX] at hY ⊢
  have ct := K0.ct
  have HX := hide hX
  have HC := hide (And.intro C (And.intro hA hlen))
  have HJ := hide hJ
  have HY := hide hY
  clear hX C hA hlen hJ hY
  refine callsIn_of_wp Tryz.func75 rfl trivial ?_ rfl
  simp only [Tryz.ntmps75, List.size_toArray, List.length_cons, List.length_nil, Nat.reduceAdd, Nat.reduceSub, Array.replicate_succ, Array.replicate_zero, List.push_toArray, List.append_toArray, List.nil_append, List.cons_append]
  gi_wp2
  clear ct
  gi_loopw [4] (fun dv wr => ∃ d k : Nat, dv = .int .i64 d ∧ d ≤ 70 ∧ k ≤ X.length ∧ Hid (X.drop k = fromL wk fr t d (70 - d)) ∧ KI w0 Bt Bc g o t wr ∧ J (List.range k) wr) (fun dv _ => 70 - (intOf dv).toNat)
  case atStart =>
    exact ⟨(t / 1440).toNat, 0, by congr 1; omega, by omega, Nat.zero_le _, HX.out, K0, hJ0⟩
  case round =>
    obtain ⟨d, k, rfl, hd, hk, HD, K, hJk⟩ := hrel
    by_cases hlt : d < 70
    · have hlt' : (d : Int) < 70 := by omega
      have cc := K.cc
      have HS := hide (spansO_any g o wk fr d w0 wr HC.out.1 K.below hlt)
      have hm1 : (0 : Int) ≤ (d : Int) * 1440 := by omega
      have hm2 : (d : Int) * 1440 ≤ 100800 := by omega
      gi_wp2_with (first | (refine ⟨trivial, ?_⟩; gi_at_call 76; refine (callsIn_wide.2 HS.out).mono ?_; rintro e w1 ⟨rfl, v, rfl, hown⟩; rcases hown.2 with ⟨rfl, hz⟩ | ⟨g2, cap, cur, rfl, _, hg2, _⟩))
      · have hL : dayL wk fr d = [] := List.length_eq_zero_iff.1 hz
        have HN := hide (show X.drop k = fromL wk fr t (d + 1) (70 - (d + 1)) by rw [HD.out, from_step wk fr t hlt, hL]; rfl)
        clear hL hz hown cc HS
        gi_loopw [20] (fun iv wz => iv = .int .i64 0 ∧ wz = w1) (fun _ _ => 0)
        case atStart => exact ⟨rfl, rfl⟩
        case round =>
          obtain ⟨rfl, rfl⟩ := hrel
          gi_wp2
          go_roundw
          case rel => exact ⟨d + 1, k, by go_num, by omega, hk, HN, K, hJk⟩
          case measure => simp [intOf]; omega
      · have hg2s : g2 < w0.heap.size := (Array.getElem?_eq_some_iff.1 hg2).1
        have HN := hide (show X.drop k = clip t d ((dayL wk fr d).drop 0) ++ fromL wk fr t (d + 1) (70 - (d + 1)) by rw [HD.out, from_step wk fr t hlt]; rfl)
        have hgood := (day_apart HC.out.2.1 (fr := fr) d).good
        have hnl : (dayL wk fr d).length ≤ 1000 := by
          unfold dayL; split
          · simp
          · exact HC.out.2.2 _ (by omega)
        have HO := hide hown
        have HG := hide hgood
        clear hown hg2 hgood HS cc HD
        obtain ⟨L, hL⟩ : ∃ L, L = dayL wk fr d := ⟨_, rfl⟩
        rw [← hL] at HO HN HG hnl ⊢
        clear hL
        gi_loopw [20] (fun iv wz => ∃ i k : Nat, iv = .int .i64 i ∧ i ≤ L.length ∧ k ≤ X.length ∧ Hid (X.drop k = clip t d (L.drop i) ++ fromL wk fr t (d + 1) (70 - (d + 1))) ∧ KI w0 Bt Bc g o t wz ∧ J (List.range k) wz) (fun iv _ => L.length - (intOf iv).toNat)
        case atStart => exact ⟨0, k, rfl, Nat.zero_le _, hk, HN, K, hJk⟩
        case round =>
          clear HN K hJk hk
          obtain ⟨i, k, rfl, hi, hk, HN, K, hJk⟩ := hrel
          by_cases hil : i < L.length
          · have hil' : (i : Int) < L.length := by omega
            have hc := flat_at L i hil
            have e0 : wr.cell? ⟨g2, i * 2, none⟩ = some (.int .i64 L[i].1) := (K.below.cell (p := ⟨g2, i * 2, none⟩) hg2s).trans ((HO.out.cellAt (i * 2) (by omega)).trans hc.1)
            have e1 : wr.cell? ⟨g2, i * 2 + 1, none⟩ = some (.int .i64 L[i].2) := (K.below.cell (p := ⟨g2, i * 2 + 1, none⟩) hg2s).trans ((HO.out.cellAt (i * 2 + 1) (by omega)).trans hc.2)
            have hgd : Good (L[i].1, L[i].2) := HG.out _ (List.getElem_mem hil)
            have hdr : L.drop i = (L[i].1, L[i].2) :: L.drop (i + 1) := List.drop_eq_getElem_cons hil
            have HDR := hide hdr
            have ct := K.ct
            have hlt2 := K.lt.1
            generalize L[i].1 = p1 at *
            generalize L[i].2 = p2 at *
            obtain ⟨q0, q1, q2⟩ := hgd
            simp only at q0 q1 q2
            clear hc hdr
            have hK2 := K.on ((Below.refl _ _).alloc (Nat.le_refl _) (Obj.cells #[.int .i64 (max ((d : Int) * 1440 + p1) t), .int .i64 ((d : Int) * 1440 + p2)] 140))
            have hJ2 := HJ.out _ _ _ none hJk (World.grownBy_alloc wr (Obj.cells #[.int .i64 (max ((d : Int) * 1440 + p1) t), .int .i64 ((d : Int) * 1440 + p2)] 140) none) (fun r e => by cases e)
            have HK2 := hide (And.intro hK2 hJ2)
            clear hK2 hJ2
            by_cases hbe : max ((d : Int) * 1440 + p1) t < (d : Int) * 1440 + p2
            · obtain ⟨a1, a2, a3⟩ := drop_cons (show X.drop k = (max ((d : Int) * 1440 + p1) t, (d : Int) * 1440 + p2) :: (clip t d (L.drop (i + 1)) ++ fromL wk fr t (d + 1) (70 - (d + 1))) by rw [HN.out, HDR.out, clip_cons, if_pos hbe]; rfl)
              obtain ⟨fn, tmps, assign, body, hy, hR⟩ := HY.out (List.range k) k _ HK2.out.2 (by simpa using a1)
              unfold encX at hy
              rw [a2] at hy
              dsimp only at hy
              have HR := hide hR
              have HA3 := hide a3
              clear hR a3 a2
              gi_wp2
              refine HR.out.mono ?_
              rw [← List.range_succ]
              rintro e W3 (⟨rfl, hJ3, hk3⟩ | ⟨rfl, hJx3⟩)
              · have hK3 := HK2.out.1.kq hk3
                gi_wp2
                go_roundw
                case rel => exact ⟨i + 1, k + 1, by go_num, by omega, by omega, HA3, hK3, hJ3⟩
                case measure => simp [intOf]; omega
              · gi_wp2
                refine bodyPost_ret (results_none rfl _ _ _) rfl ?_
                exact ⟨⟨_, rfl⟩, .inr ⟨_, ⟨k + 1, by omega, rfl⟩, hJx3⟩⟩
            · have hbe' : (d : Int) * 1440 + p2 ≤ max ((d : Int) * 1440 + p1) t := by omega
              have HN2 := hide (show X.drop k = clip t d (L.drop (i + 1)) ++ fromL wk fr t (d + 1) (70 - (d + 1)) by rw [HN.out, HDR.out, clip_cons, if_neg hbe])
              gi_wp2
              refine ⟨fun _ h => (by cases h), ?_⟩
              gi_wp2
              go_roundw
              case rel => exact ⟨i + 1, k, by go_num, by omega, hk, HN2, HK2.out.1, HK2.out.2⟩
              case measure => simp [intOf]; omega
          · have hie : L.drop i = [] := List.drop_eq_nil_of_le (by omega)
            have HN2 := hide (show X.drop k = fromL wk fr t (d + 1) (70 - (d + 1)) by rw [HN.out, hie]; rfl)
            clear hie
            gi_wp2
            go_roundw
            case rel => exact ⟨d + 1, k, by go_num, by omega, hk, HN2, K, hJk⟩
            case measure => simp [intOf]; omega
    · have hde : d = 70 := by omega
      subst hde
      have hke : k = X.length := by
        have := HD.out
        have h2 := congrArg List.length this
        simp [fromL] at h2; omega
      have HK := hide hke
      clear hke
      gi_wp2
      go_end0
      exact ⟨⟨_, rfl⟩, .inl ⟨_, by rw [HK.out], hJk⟩⟩
/-- the iterator's contract -/
theorem iter_stops (n : Nat) (hn : 1 ≤ n) (Bt Bc g o : Nat) (wk : Nat → List (Int × Int)) (fr : Nat → Bool) (t : Int) (w0 w : World) (C : CalO w0 g o wk fr) (hA : ∀ j, j < 7 → Apart (wk j)) (hlen : ∀ j, j < 7 → (wk j).length ≤ 1000) (h0 : 0 ≤ t) (h1 : t ≤ 100800) (K0 : KI w0 Bt Bc g o t w) :
    SeqStopsK Fence.wide n Tryz.prog 75 #[.pointer (some ⟨Bt, 0, none⟩), .pointer (some ⟨Bc, 0, none⟩)] (encX (spansL wk fr t)) (KQ w0.heap.size Bt Bc) (fun xs => xs = List.range (spansL wk fr t).length) (fun pre => ∃ k, k ≤ (spansL wk fr t).length ∧ pre = List.range k) (spansL wk fr t).length w :=
  fun l J Jx W hW hJ _ hY hJ0 => iter_in n hn l Bt Bc g o wk fr t w0 C hA hlen h0 h1 J Jx W (K0.on hW) hJ hY hJ0
set_option maxRecDepth 100000 in
set_option maxHeartbeats 1000000 in
/-- spansFrom hands the iterator over -/
theorem spansFrom_any (g o : Nat) (t : Int) (w : World) : Calls Tryz.prog 48 #[.pointer (some ⟨g, o, none⟩), .int .i64 t] w fun e w' =>
    e = .returned (.func (.func 75) #[] #[.pointer (some ⟨w.heap.size + 1, 0, none⟩), .pointer (some ⟨w.heap.size, 0, none⟩)]) ∧ w' = (w.alloc (.cells #[.pointer (some ⟨g, o, none⟩)] 34)).alloc (.cells #[.int .i64 t] 3) := by
  go_enter Tryz.func48, Tryz.ntmps48
  go_wp2
  go_ret
  exact ⟨by simp, rfl⟩
set_option maxHeartbeats 1000000 in
theorem isTime_any (t : Int) (w : World) : Calls Tryz.prog 47 #[.int .i64 t] w fun e w' => e = .returned (.bool (decide (0 ≤ t) && decide (t ≤ 100800))) ∧ w' = w := by
  go_enter Tryz.func47, Tryz.ntmps47
  go_wp2
  all_goals
    go_ret
    exact ⟨by simp <;> omega, rfl⟩
end Go.Proofs.YtcnmbldikjljeaaGreatDoor
namespace Go.Proofs.YtcnmbldikjljeaaGreatDoor
open Go.RowKit Go.Shelf

attribute [local go_sem] Oper.semAt_some

/-- what a part of the spans adds up to -/
def sumI (b : Int) (X : List (Int × Int)) (pre : List Nat) : Int := (pre.map fun k => part b (spAt X k)).sum
theorem sumI_snoc (b : Int) (X : List (Int × Int)) (pre : List Nat) (x : Nat) : sumI b X (pre ++ [x]) = sumI b X pre + part b (spAt X x) := by simp [sumI]
theorem range_get (X : List (Int × Int)) (k : Nat) (hk : k ≤ X.length) : (List.range k).map (fun i => spAt X i) = X.take k := by
  apply List.ext_getElem
  · simp [hk]
  · intro i h1 h2
    simp at h1
    simp [spAt, List.getD_eq_getElem?_getD, List.getElem?_eq_getElem (show i < X.length by omega)]
theorem sumI_range (b : Int) (X : List (Int × Int)) (k : Nat) (hk : k ≤ X.length) : sumI b X (List.range k) = sumB b (X.take k) := by
  unfold sumI sumB
  rw [← range_get X k hk, List.map_map]
  rfl
/-- the spans keep to their bounds -/
def Bd (X : List (Int × Int)) : Prop := ∀ k, 0 ≤ (spAt X k).1 ∧ (spAt X k).1 ≤ (spAt X k).2 ∧ (spAt X k).2 ≤ 100800
theorem bd_of_ord {X : List (Int × Int)} {t : Int} (h : Ord t 100800 X) (h0 : 0 ≤ t) : Bd X := by
  intro k
  unfold spAt
  by_cases hk : k < X.length
  · rw [List.getD_eq_getElem?_getD, List.getElem?_eq_getElem hk]
    have := h.mem _ (List.getElem_mem hk)
    simp only [Option.getD_some]; omega
  · rw [List.getD_eq_getElem?_getD, List.getElem?_eq_none (by omega)]
    simp

set_option maxRecDepth 100000 in
set_option maxHeartbeats 1000000 in
theorem between_bad (g : Nat) (a b : Int) (w : World) (h : a < 0 ∨ 100800 < b ∨ b < a) :
    Calls Tryz.prog 22 #[.pointer (some ⟨g, 0, none⟩), .int .i64 a, .int .i64 b] w fun e w' => e = .returned (.tuple #[.int .i64 0, .int .i64 1]) ∧ Below w.heap.size w w' := by
  have HI := hide isTime_any
  have hb1 : Below w.heap.size w (w.alloc (.cells #[.int .i64 b] 3)) := (Below.refl _ _).alloc (Nat.le_refl _) _
  have HB := hide hb1
  clear hb1
  by_cases h1 : 0 ≤ a ∧ a ≤ 100800
  · by_cases h2 : 0 ≤ b ∧ b ≤ 100800
    · have h3 : b < a := by omega
      clear h
      have e1 : (decide (0 ≤ a) && decide (a ≤ 100800)) = true := by simp; exact h1
      have e2 : (decide (0 ≤ b) && decide (b ≤ 100800)) = true := by simp; exact h2
      have HE := hide (And.intro e1 e2)
      clear e1 e2
      go_enter Tryz.func22, Tryz.ntmps22
      go_wp2_with fail
      refine (HI.out _ _).mono ?_
      rw [HE.out.1]
      rintro e w1 ⟨rfl, rfl⟩
      go_wp2_with fail
      refine (HI.out _ _).mono ?_
      rw [HE.out.2]
      rintro e w1 ⟨rfl, rfl⟩
      go_wp2_with fail
      go_ret2
      exact ⟨rfl, HB.out⟩
    · have e1 : (decide (0 ≤ a) && decide (a ≤ 100800)) = true := by simp; exact h1
      have e2 : (decide (0 ≤ b) && decide (b ≤ 100800)) = false := by simp; omega
      have HE := hide (And.intro e1 e2)
      clear e1 e2 h
      go_enter Tryz.func22, Tryz.ntmps22
      go_wp2_with fail
      refine (HI.out _ _).mono ?_
      rw [HE.out.1]
      rintro e w1 ⟨rfl, rfl⟩
      go_wp2_with fail
      refine (HI.out _ _).mono ?_
      rw [HE.out.2]
      rintro e w1 ⟨rfl, rfl⟩
      go_wp2_with fail
      go_ret2
      exact ⟨rfl, HB.out⟩
  · have e1 : (decide (0 ≤ a) && decide (a ≤ 100800)) = false := by simp; omega
    have HE := hide e1
    clear e1 h
    go_enter Tryz.func22, Tryz.ntmps22
    go_wp2_with fail
    refine (HI.out _ _).mono ?_
    rw [HE.out]
    rintro e w1 ⟨rfl, rfl⟩
    go_wp2_with fail
    go_ret2
    exact ⟨rfl, HB.out⟩

/-- a box of a span -/
def Box2 (W : World) (B : Nat) (x y : Int) : Prop := W.heap[B]? = some (.cells #[.int .i64 x, .int .i64 y] 140 (0, 0))
section
variable {W W' : World} {row : Option Nat} {B B0 : Nat}
theorem boxed_kept {t : TypeId} {v : Value} (h : Boxed W B t v) (hg : W.grownBy W' row) (hr : ∀ r, row = some r → B0 ≤ r ∧ ∃ o : Obj, W.heap[r]? = some o ∧ o.isCells = false) : Boxed W' B t v :=
  h.kept hg (fun e => by
    obtain ⟨_, o, ho, hc⟩ := hr B e.symm
    rw [show W.heap[B]? = _ from h] at ho
    cases ho; cases hc)
theorem box2_kept {x y : Int} (h : Box2 W B x y) (hg : W.grownBy W' row) (hr : ∀ r, row = some r → B0 ≤ r ∧ ∃ o : Obj, W.heap[r]? = some o ∧ o.isCells = false) : Box2 W' B x y := by
  refine (hg.block B (Array.getElem?_eq_some_iff.1 h).1 (fun e => ?_)).trans h
  obtain ⟨_, o, ho, hc⟩ := hr B e.symm
  rw [show W.heap[B]? = _ from h] at ho
  cases ho; cases hc
theorem Box2.lt {x y : Int} (h : Box2 W B x y) : B < W.heap.size := (Array.getElem?_eq_some_iff.1 h).1
theorem Box2.c0 {x y : Int} (h : Box2 W B x y) : W.cell? ⟨B, 0, none⟩ = some (.int .i64 x) := by simp [World.cell?, show W.heap[B]? = _ from h]
theorem Box2.c1 {x y : Int} (h : Box2 W B x y) : W.cell? ⟨B, 1, none⟩ = some (.int .i64 y) := by simp [World.cell?, show W.heap[B]? = _ from h]
end
/-- between two rounds of Between -/
structure IB (w : World) (b : Int) (X : List (Int × Int)) (pre : List Nat) (W : World) : Prop where
  bN : Boxed W (w.heap.size + 1) 3 (.int .i64 (sumI b X pre))
  bB : Boxed W w.heap.size 3 (.int .i64 b)
  lo : 0 ≤ sumI b X pre
  hi : sumI b X pre ≤ 100800 * pre.length
  below : Below w.heap.size w W
  big : w.heap.size + 4 ≤ W.heap.size
/-- a round that left -/
structure IBx (w : World) (b : Int) (X : List (Int × Int)) (c : Code) (pre : List Nat) (W : World) : Prop where
  hc : c = .exit 0
  at_ : ∃ pre' x, pre = pre' ++ [x] ∧ b ≤ (spAt X x).1 ∧ Boxed W (w.heap.size + 1) 3 (.int .i64 (sumI b X pre'))
  below : Below w.heap.size w W
theorem IB.own (w : World) (b : Int) (X : List (Int × Int)) (B : Nat) (hB : w.heap.size ≤ B) : OwnFrom B (IB w b X) := fun _ _ _ _ hs hg hr =>
  ⟨boxed_kept hs.bN hg hr, boxed_kept hs.bB hg hr, hs.lo, hs.hi, hs.below.grown hg hs.below.size (fun k e => Nat.le_trans hB (hr k e).1), Nat.le_trans hs.big hg.size⟩
theorem IBx.own (w : World) (b : Int) (X : List (Int × Int)) (c : Code) (B : Nat) (hB : w.heap.size ≤ B) : OwnFrom B (IBx w b X c) := fun _ _ _ _ hs hg hr =>
  ⟨hs.hc, (by obtain ⟨p, x, e1, e2, e3⟩ := hs.at_; exact ⟨p, x, e1, e2, boxed_kept e3 hg hr⟩), hs.below.grown hg hs.below.size (fun k e => Nat.le_trans hB (hr k e).1)⟩
/-- the count, however the loop ended -/
def BtwP (X : List (Int × Int)) (b x : Int) : Prop := x = sumB b X ∨ ∃ pre p rest, X = pre ++ p :: rest ∧ b ≤ p.1 ∧ x = sumB b pre
set_option maxRecDepth 100000 in
set_option maxHeartbeats 4000000 in
theorem betweenM_in (n : Nat) (hn : 3 ≤ n) (g o : Nat) (wk : Nat → List (Int × Int)) (fr : Nat → Bool) (a b : Int) (w : World) (C : CalO w g o wk fr) (hA : ∀ j, j < 7 → Apart (wk j)) (hlen : ∀ j, j < 7 → (wk j).length ≤ 1000) (h0 : 0 ≤ a) (h1 : a ≤ b) (h2 : b ≤ 100800) :
    CallsIn Fence.wide n Tryz.prog 22 #[.pointer (some ⟨g, o, none⟩), .int .i64 a, .int .i64 b] w fun e w' => (∃ x : Int, e = .returned (.tuple #[.int .i64 x, .int .i64 0]) ∧ BtwP (spansL wk fr a) b x) ∧ Below w.heap.size w w' := by
  have hn1 : 1 ≤ n := by omega
  have HI := hide isTime_any
  have e1 : (decide (0 ≤ a) && decide (a ≤ 100800)) = true := by simp; omega
  have e2 : (decide (0 ≤ b) && decide (b ≤ 100800)) = true := by simp; omega
  have HE := hide (And.intro e1 e2)
  have hba : ¬ b < a := by omega
  clear e1 e2
  refine callsIn_of_wp_marks Tryz.func22 rfl trivial ?_ rfl
  simp only [Tryz.ntmps22, List.size_toArray, List.length_cons, List.length_nil, Nat.reduceAdd, Nat.reduceSub, Array.replicate_succ, Array.replicate_zero, List.push_toArray, List.append_toArray, List.nil_append, List.cons_append]
  gi_wp2_with (first | (refine ⟨trivial, ?_⟩; gi_at_call 47; refine (callsIn_wide.2 (HI.out _ _)).mono ?_; first | rw [HE.out.1] | rw [HE.out.2]; rintro e w1 ⟨rfl, rfl⟩) | (refine ⟨trivial, ?_⟩; gi_at_call 48; refine (callsIn_wide.2 (spansFrom_any _ _ _ _)).mono ?_; rintro e w1 ⟨rfl, rfl⟩))
  obtain ⟨W0, hW0⟩ : ∃ W0, (((w.alloc (Obj.cells #[.int .i64 b] 3)).alloc (Obj.cells #[.int .i64 0] 3)).alloc (Obj.cells #[.pointer (some ⟨g, o, none⟩)] 34)).alloc (Obj.cells #[.int .i64 a] 3) = W0 := ⟨_, rfl⟩
  have bB := (((Boxed.new w 3 (.int .i64 b)).alloc (Obj.cells #[.int .i64 0] 3)).alloc (Obj.cells #[.pointer (some ⟨g, o, none⟩)] 34)).alloc (Obj.cells #[.int .i64 a] 3)
  have bN := ((Boxed.new (w.alloc (Obj.cells #[.int .i64 b] 3)) 3 (.int .i64 0)).alloc (Obj.cells #[.pointer (some ⟨g, o, none⟩)] 34)).alloc (Obj.cells #[.int .i64 a] 3)
  have bC := (Boxed.new ((w.alloc (Obj.cells #[.int .i64 b] 3)).alloc (Obj.cells #[.int .i64 0] 3)) 34 (.pointer (some ⟨g, o, none⟩))).alloc (Obj.cells #[.int .i64 a] 3)
  have bT := Boxed.new (((w.alloc (Obj.cells #[.int .i64 b] 3)).alloc (Obj.cells #[.int .i64 0] 3)).alloc (Obj.cells #[.pointer (some ⟨g, o, none⟩)] 34)) 3 (.int .i64 a)
  have hB0 : Below w.heap.size w ((((w.alloc (Obj.cells #[.int .i64 b] 3)).alloc (Obj.cells #[.int .i64 0] 3)).alloc (Obj.cells #[.pointer (some ⟨g, o, none⟩)] 34)).alloc (Obj.cells #[.int .i64 a] 3)) := ((((Below.refl _ w).alloc (Nat.le_refl _) _).alloc (by simp) _).alloc (by simp; omega) _).alloc (by simp; omega) _
  have hsz : ((((w.alloc (Obj.cells #[.int .i64 b] 3)).alloc (Obj.cells #[.int .i64 0] 3)).alloc (Obj.cells #[.pointer (some ⟨g, o, none⟩)] 34)).alloc (Obj.cells #[.int .i64 a] 3)).heap.size = w.heap.size + 4 := by simp
  simp only [World.size_alloc] at bN bC bT
  rw [hW0] at bB bN bC bT hB0 hsz ⊢
  clear hW0
  have hX := spans_ord hA (fr := fr) a
  have hbd := bd_of_ord hX h0
  have hXl : (spansL wk fr a).length ≤ 70000 := Nat.le_trans (from_len wk fr a 1000 hlen _ _) (by omega)
  have HT := hide (iter_stops (n - 1) (by omega) (w.heap.size + 1 + 1 + 1) (w.heap.size + 1 + 1) g o wk fr a w W0 C hA hlen h0 (by omega) ⟨hB0, bT, bC⟩)
  clear hA hlen C hX
  generalize hXe : spansL wk fr a = X at *
  have HXE := hide hXe
  clear hXe
  refine wpIn_rangeFunc_ownH rfl hn1 (gf := 75) (lb := #[.pointer (some ⟨w.heap.size + 1 + 1 + 1, 0, none⟩), .pointer (some ⟨w.heap.size + 1 + 1, 0, none⟩)]) rfl trivial (enters_of Tryz.func75 (by kernel_rfl) rfl)
    HT.out KQ.t (KQ.b (by omega) (by omega) (by omega)) (Below.refl _ _) (fun _ => rfl)
    (IB w b X) (IBx w b X) (IB.own w b X _ (by omega)) (fun c => IBx.own w b X c _ (by omega)) ⟨bN, bB, by simp [sumI], by simp [sumI], hB0, by omega⟩
    (fun x a' W => ∃ Bx, w.heap.size + 4 ≤ Bx ∧ Box2 W Bx (spAt X x).1 (spAt X x).2 ∧ a' = { tmps := #[.pointer (some ⟨g, o, none⟩), .int .i64 a, .int .i64 b, undef, undef, .pointer (some ⟨w.heap.size, 0, none⟩), .int .i64 0, .int .i64 0, .pointer (some ⟨w.heap.size + 1, 0, none⟩), .pointer (some ⟨Bx, 0, none⟩), .int .i64 a, .bool true, .bool false, .bool false, .int .i64 b, .bool true, .bool false, .bool false, .bool false, .int .i64 a, .int .i64 b, .bool (decide (b < a)), .bool (decide (b < a)), .pointer (some ⟨g, o, none⟩), .int .i64 a, .func (.func 75) #[] #[.pointer (some ⟨w.heap.size + 1 + 1 + 1, 0, none⟩), .pointer (some ⟨w.heap.size + 1 + 1, 0, none⟩)], .agg #[.int .i64 (spAt X x).1, .int .i64 (spAt X x).2], undef, undef, undef, undef, undef, undef, undef, undef, undef, undef, undef, undef, undef, undef], defers := [] })
    (fun _ _ _ _ _ _ hs hg hr => by obtain ⟨Bx, e1, e2, e3⟩ := hs; exact ⟨Bx, e1, box2_kept e2 hg hr, e3⟩) ?assign ?body ?done ?stop
  case assign =>
    rintro l pre x W K hi hK
    unfold encX
    have hsW := hi.below.size
    have hlW := hi.bN.lt
    generalize spAt X x = p at *
    obtain ⟨x1, x2⟩ := p
    gi_wp2
    have hbg := hi.big
    exact hK _ _ ((KeepsOthers.alloc _ _).from _) ⟨(Below.refl _ W).alloc hsW _, Below.heap_alloc _ _ _ (by omega), Below.heap_alloc _ _ _ (by omega)⟩ ⟨hi.bN.alloc _, hi.bB.alloc _, hi.lo, hi.hi, hi.below.alloc hsW _, by simp; omega⟩ ⟨W.heap.size, by omega, World.alloc_heap_new W _, rfl⟩
  case body =>
    rintro l pre x a' W hl ⟨r, hr⟩ hi ⟨Bx, hBx, bX, rfl⟩ hlt
    have hb := hbd x
    have hsn := sumI_snoc b X pre x
    have hlo := hi.lo
    have hhi : sumI b X pre ≤ 7056000000 := by have := hi.hi; omega
    have c0 := bX.c0
    have c1 := bX.c1
    have cN := hi.bN.cell
    have fN := hi.bN.frozen
    have cB := hi.bB.cell
    have HSN := hide hsn
    have HH := hide hi
    clear hsn hi bX bB bN bC bT hbd
    generalize hz : sumI b X pre = z at *
    have HZ := hide hz
    obtain ⟨x1, x2, hxx⟩ : ∃ x1 x2, spAt X x = (x1, x2) := ⟨_, _, rfl⟩
    rw [hxx] at c0 c1 hb
    have HXX := hide hxx
    obtain ⟨y0, y1, y2⟩ := hb
    simp only at y0 y1 y2 c0 c1
    clear hz hxx
    have hne : Bx ≠ w.heap.size + 1 := by omega
    by_cases hbx : b ≤ x1
    · rw [HXX.out]
      gi_wp2
      exact ⟨KeepsFrom.refl _ _, rfl, ⟨pre, x, rfl, by rw [HXX.out]; exact hbx, HH.out.bN⟩, HH.out.below⟩
    · have hbx' : x1 < b := by omega
      rw [HXX.out]
      have hpt : sumI b X (pre ++ [x]) = z + (min x2 b - x1) := by rw [HSN.out, HXX.out]; unfold part; rw [if_pos hbx']
      have HPT := hide hpt
      clear hpt
      gi_wp2
      exact ⟨(KeepsOthers.setCell _ _ _).from _, ⟨(Below.refl _ W).setCell (p := ⟨w.heap.size + 1, 0, none⟩) (by simp) _, Below.heap_setCell _ _ _ _ (by simp only; omega), Below.heap_setCell _ _ _ _ (by simp only; omega)⟩, by rw [HPT.out]; exact HH.out.bN.set _, HH.out.bB.other (by omega) _, by rw [HPT.out]; omega, by rw [HPT.out]; have h9 := HH.out.hi; rw [HZ.out] at h9; simp; omega, HH.out.below.setCell (p := ⟨w.heap.size + 1, 0, none⟩) (by simp) _, by have := HH.out.big; simp; omega⟩
  case done =>
    rintro D ys W hD rfl hi hK
    have cN := hi.bN.cell
    gi_wp2
    refine ⟨by simp, .inl ⟨_, _, rfl, run_takeDeferred hK, ?_⟩⟩
    exact ⟨_, results_tmp2 rfl _ _ _, ⟨_, rfl, .inl (by rw [HXE.out, sumI_range b X _ (Nat.le_refl _), List.take_length])⟩, hi.below.trans (belowK_b (w := w) (Nat.le_refl _) W D _ _ (by omega) hK rfl rfl)⟩
  case stop =>
    rintro D c pre W hD ⟨k, hk, rfl⟩ hi hK
    obtain ⟨rfl, ⟨pre', x, e1, e2, bN2⟩, hB2⟩ := hi
    have cN := bN2.cell
    obtain ⟨k', rfl⟩ : ∃ k', k = k' + 1 := ⟨k - 1, by
      have := congrArg List.length e1
      simp at this; omega⟩
    rw [List.range_succ] at e1
    obtain ⟨rfl, e3⟩ := List.append_inj' e1 rfl
    injection e3 with e3 _
    subst e3
    have hkx : k' < X.length := by omega
    have hsp : spAt X k' = X[k'] := by unfold spAt; rw [List.getD_eq_getElem?_getD, List.getElem?_eq_getElem hkx]; rfl
    rw [hsp] at e2
    have HF := hide (show BtwP (spansL wk fr a) b (sumI b X (List.range k')) from .inr ⟨X.take k', X[k'], X.drop (k' + 1), by rw [HXE.out, ← List.drop_eq_getElem_cons hkx, List.take_append_drop], e2, sumI_range b X k' (by omega)⟩)
    clear e1 e2 hsp
    gi_wp2
    refine ⟨by simp, .inl ⟨_, _, rfl, run_takeDeferred hK, ?_⟩⟩
    exact ⟨_, results_tmp2 rfl _ _ _, ⟨_, rfl, HF.out⟩, hB2.trans (belowK_b (w := w) (Nat.le_refl _) W D _ _ (by omega) hK rfl rfl)⟩
theorem betweenO_any (g o : Nat) (raw : Nat → List (Int × Int)) (fr F : Nat → Bool) (a b : Int) (w : World) (C : ∃ wk, CalO w g o wk fr ∧ ∀ j, j < 7 → JoinOf (raw j) (wk j)) (hl : ∀ j, (raw j).length ≤ 1000) (hF : ∀ t : Int, 0 ≤ t → t < 100800 → openL raw fr t = F t.toNat) (h0 : 0 ≤ a) (h1 : a ≤ b) (h2 : b ≤ 100800) :
    Calls Tryz.prog 22 #[.pointer (some ⟨g, o, none⟩), .int .i64 a, .int .i64 b] w fun e w' => e = .returned (.tuple #[.int .i64 (cnt F b.toNat - cnt F a.toNat), .int .i64 0]) ∧ Below w.heap.size w w' := by
  obtain ⟨wk, M, hJ⟩ := C
  have hA : ∀ j, j < 7 → Apart (wk j) := fun j hj => (hJ j hj).1
  refine (callsIn_wide.1 (betweenM_in 3 (by omega) g o wk fr a b w M hA (fun j hj => Nat.le_trans (hJ j hj).2.2 (hl j)) h0 h1 h2)).mono ?_
  rintro e w' ⟨⟨x, rfl, hx⟩, hb⟩
  have ho := spans_ord hA (fr := fr) a
  have hh : ∀ m : Int, a ≤ m → m < 100800 → F m.toNat = hitL m (spansL wk fr a) := fun m m0 m1 => by rw [spans_hit hA a m h0 m0 m1, open_join hJ fr m (by omega), hF m (by omega) m1]
  refine ⟨?_, hb⟩
  rcases hx with rfl | ⟨pre, p, rest, e1, e2, rfl⟩
  · rw [sum_cnt F 100800 _ a h0 ho hh b h1 h2]
  · rw [sum_stop h0 ho hh e1 e2 h1 h2]
theorem between_any (g : Nat) (raw : Nat → List (Int × Int)) (fr F : Nat → Bool) (a b : Int) (w : World) (C : CalW w g raw fr) (hl : ∀ j, (raw j).length ≤ 1000) (hF : ∀ t : Int, 0 ≤ t → t < 100800 → openL raw fr t = F t.toNat) (h0 : 0 ≤ a) (h1 : a ≤ b) (h2 : b ≤ 100800) :
    Calls Tryz.prog 22 #[.pointer (some ⟨g, 0, none⟩), .int .i64 a, .int .i64 b] w fun e w' => e = .returned (.tuple #[.int .i64 (cnt F b.toNat - cnt F a.toNat), .int .i64 0]) ∧ Below w.heap.size w w' :=
  betweenO_any g 0 raw fr F a b w ⟨C.choose, C.choose_spec.1.off, C.choose_spec.2⟩ hl hF h0 h1 h2
end Go.Proofs.YtcnmbldikjljeaaGreatDoor
