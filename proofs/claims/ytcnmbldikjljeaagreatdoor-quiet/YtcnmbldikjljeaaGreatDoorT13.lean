import Derived.Test.YtcnmbldikjljeaaGreatDoorT05
import Derived.RangeFuncNested
import Derived.RangeFuncBound
import Derived.RangeFuncCalls
import Derived.RangeFuncLeaves
import Derived.Shelf.Abstract
import Derived.Shelf.RegionOpen
import Derived.WalkKit
import Derived.OwnWalkIn
import Derived.TacticsInMore
import Derived.LoopNIn
import Derived.LoopIn
namespace Go.Proofs.YtcnmbldikjljeaaGreatDoor
open Go.RowKit

theorem hit_none {m : Int} {l : List (Int × Int)} (h : hitL m (l.take l.length) = false) : hitL m l = false := by rw [List.take_length] at h; exact h
theorem hit_step {m : Int} {l : List (Int × Int)} {k : Nat} (hk : k < l.length) (h : hitL m (l.take k) = false) (hn : ¬ (l[k].1 ≤ m ∧ m < l[k].2)) : hitL m (l.take (k + 1)) = false := by
  rw [List.take_succ_eq_append_getElem hk]
  simp only [hitL, List.any_append, Bool.or_eq_false_iff] at h ⊢
  refine ⟨h, ?_⟩
  simp only [List.any_cons, List.any_nil, Bool.or_false]
  by_cases a : l[k].1 ≤ m
  · have : ¬ m < l[k].2 := fun e => hn ⟨a, e⟩
    simp [this]
  · simp [a]
theorem hit_yes {m : Int} {l : List (Int × Int)} {k : Nat} (hk : k < l.length) (h1 : l[k].1 ≤ m) (h2 : m < l[k].2) : hitL m l = true := by
  simp only [hitL, List.any_eq_true]
  exact ⟨l[k], List.getElem_mem hk, by simp [h1, h2]⟩

set_option maxRecDepth 100000 in
set_option maxHeartbeats 400000 in
theorem open_bad (g : Nat) (t : Int) (w : World) (h : t < 0 ∨ 100800 ≤ t) :
    Calls Tryz.prog 50 #[.pointer (some ⟨g, 0, none⟩), .int .i64 t] w fun e w' => e = .returned (.tuple #[.bool false, .int .i64 1]) ∧ w' = w := by
  by_cases h0 : t < 0
  · clear h
    go_enter Tryz.func50, Tryz.ntmps50
    go_wp2
    go_ret2
    exact ⟨rfl, rfl⟩
  · have h1 : 100800 ≤ t := by omega
    clear h
    go_enter Tryz.func50, Tryz.ntmps50
    go_wp2
    go_ret2
    exact ⟨rfl, rfl⟩

/-- a calendar inside a block: from cell o on -/
structure CalO (w : World) (g o : Nat) (wk : Nat → List (Int × Int)) (fr : Nat → Bool) : Prop where
  lt : g < w.heap.size
  week : ∀ j, j < 7 → ∃ v, w.cell? ⟨g, o + j, none⟩ = some v ∧ w.ownsRow 0 140 2 v (wk j).length (flat (wk j))
  free : ∀ j, j < 70 → w.cell? ⟨g, o + 7 + j, none⟩ = some (.bool (fr j))
theorem CalM.off {w : World} {g : Nat} {wk : Nat → List (Int × Int)} {fr : Nat → Bool} (h : CalM w g wk fr) : CalO w g 0 wk fr :=
  ⟨h.lt, fun j hj => by rw [Nat.zero_add]; exact h.week j hj, fun j hj => by rw [Nat.zero_add]; exact h.free j hj⟩
theorem CalO.on {w w' : World} {g o : Nat} {wk : Nat → List (Int × Int)} {fr : Nat → Bool} (h : CalO w g o wk fr) (hb : Below w.heap.size w w') : CalO w' g o wk fr := by
  have hg : w.grownBy w' none := ⟨hb.os, hb.tape, hb.output, hb.size, fun k hk _ => hb.block k hk⟩
  refine ⟨Nat.lt_of_lt_of_le h.lt hb.size, fun j hj => ?_, fun j hj => ?_⟩
  · obtain ⟨v, h1, h2⟩ := h.week j hj
    exact ⟨v, (hb.cell (p := ⟨g, o + j, none⟩) h.lt).trans h1, h2.kept hg (by cases v.ownBlock <;> simp)⟩
  · exact (hb.cell (p := ⟨g, o + 7 + j, none⟩) h.lt).trans (h.free j hj)
set_option maxRecDepth 100000 in
set_option maxHeartbeats 1000000 in
/-- the spans of a day -/
theorem spansO_any (g o : Nat) (wk : Nat → List (Int × Int)) (fr : Nat → Bool) (d : Nat) (w0 w : World) (C : CalO w0 g o wk fr) (hb : Below w0.heap.size w0 w) (h1 : d < 70) :
    Calls Tryz.prog 76 #[.pointer (some ⟨g, o, none⟩), .int .i64 d] w fun e w' => w' = w ∧ ∃ v, e = .returned v ∧ w0.ownsRow 0 140 2 v (dayL wk fr d).length (flat (dayL wk fr d)) := by
  have cf := (hb.cell (p := ⟨g, o + 7 + d, none⟩) C.lt).trans (C.free d h1)
  obtain ⟨v, cv0, hown⟩ := C.week (d % 7) (by omega)
  have cv := (hb.cell (p := ⟨g, o + d % 7, none⟩) C.lt).trans cv0
  have d1 : (d : Int) < 70 := by omega
  have m0 : (0 : Int) ≤ (d : Int) % 7 := by omega
  have m1 : (d : Int) % 7 < 7 := by omega
  have m2 : ((d : Int) % 7).toNat = d % 7 := by omega
  cases hf : fr d
  · have hd : dayL wk fr d = wk (d % 7) := by unfold dayL; rw [hf]; rfl
    rw [hd]
    rw [hf] at cf
    have cv2 := cv
    rw [← m2] at cv2
    have m3 : d % 7 < 7 := by omega
    have m4 : ((d % 7 : Nat) : Int) < 7 := by omega
    have HO := hide hown
    clear hf hd hown C m2 cv0 hb
    go_enter Tryz.func76, Tryz.ntmps76
    go_wp2
    go_ret
    exact ⟨rfl, _, rfl, HO.out⟩
  · have hd : dayL wk fr d = [] := by unfold dayL; rw [hf]; rfl
    rw [hd]
    rw [hf] at cf
    clear hf hd hown C m2 cv0 hb
    go_enter Tryz.func76, Tryz.ntmps76
    go_wp2
    go_ret
    exact ⟨rfl, _, rfl, World.ownsRow_nil _ _ _ _⟩

theorem spansOf_any (g : Nat) (wk : Nat → List (Int × Int)) (fr : Nat → Bool) (d : Nat) (w0 w : World) (C : CalM w0 g wk fr) (hb : Below w0.heap.size w0 w) (h1 : d < 70) :
    Calls Tryz.prog 76 #[.pointer (some ⟨g, 0, none⟩), .int .i64 d] w fun e w' => w' = w ∧ ∃ v, e = .returned v ∧ w0.ownsRow 0 140 2 v (dayL wk fr d).length (flat (dayL wk fr d)) := spansO_any g 0 wk fr d w0 w C.off hb h1

set_option maxRecDepth 100000 in
set_option maxHeartbeats 1000000 in
theorem openM_any (g : Nat) (wk : Nat → List (Int × Int)) (fr : Nat → Bool) (t : Int) (w : World) (C : CalM w g wk fr) (h0 : 0 ≤ t) (h1 : t < 100800) (hl : ∀ j, j < 7 → (wk j).length ≤ 1000) :
    Calls Tryz.prog 50 #[.pointer (some ⟨g, 0, none⟩), .int .i64 t] w fun e w' => e = .returned (.tuple #[.bool (openL wk fr t), .int .i64 0]) ∧ Below w.heap.size w w' := by
  obtain ⟨d, hd⟩ : ∃ d : Nat, t / 1440 = d := ⟨(t / 1440).toNat, by omega⟩
  have hd70 : d < 70 := by omega
  have HS := hide (spansOf_any g wk fr d w w C (Below.refl _ _) hd70)
  have ho : openL wk fr t = hitL (t % 1440) (dayL wk fr d) := by
    unfold openL dayL
    rw [hd, show ((d : Int) % 7).toNat = d % 7 by omega, Int.toNat_natCast]
    cases fr d <;> simp [hitL]
  have hn : (dayL wk fr d).length ≤ 1000 := by
    unfold dayL; split
    · simp
    · exact hl _ (by omega)
  have HO := hide ho
  clear ho C hl
  generalize dayL wk fr d = l at *
  go_enter Tryz.func50, Tryz.ntmps50
  go_wp2_with fail
  rw [hd]
  refine HS.out.mono ?_
  rintro e w1 ⟨rfl, v, rfl, hown⟩
  rcases hown.2 with ⟨rfl, hz⟩ | ⟨g2, cap, cur, rfl, _, hg2, _⟩
  · have hz2 : hitL (t % 1440) l = false := by rw [List.length_eq_zero_iff] at hz; subst hz; rfl
    have HZ := hide hz2
    clear hz2
    go_wp2_with fail
    go_loopw [22] (fun i wr => i = .int .i64 0 ∧ wr = w1) (fun _ _ => 0)
    case atStart => exact ⟨rfl, rfl⟩
    case round =>
      obtain ⟨rfl, rfl⟩ := hrel
      go_wp2
      go_ret2
      rw [HO.out, HZ.out]
      exact ⟨rfl, Below.refl _ _⟩
  · have hg2s : g2 < w1.heap.size := (Array.getElem?_eq_some_iff.1 hg2).1
    go_wp2_with fail
    go_loopw [22] (fun i wr => ∃ k : Nat, k ≤ l.length ∧ i = .int .i64 k ∧ Below w1.heap.size w1 wr ∧ Hid (hitL (t % 1440) (l.take k) = false)) (fun i _ => l.length - (intOf i).toNat)
    case atStart => exact ⟨0, Nat.zero_le _, rfl, Below.refl _ _, rfl⟩
    case round =>
      obtain ⟨k, hk, rfl, hb, HH⟩ := hrel
      have hsz := hb.size
      by_cases hlt : k < l.length
      · have hc := flat_at l k hlt
        have e0 : wr.cell? ⟨g2, k * 2, none⟩ = some (.int .i64 l[k].1) := (hb.cell (p := ⟨g2, k * 2, none⟩) hg2s).trans ((hown.cellAt (k * 2) (by omega)).trans hc.1)
        have e1 : wr.cell? ⟨g2, k * 2 + 1, none⟩ = some (.int .i64 l[k].2) := (hb.cell (p := ⟨g2, k * 2 + 1, none⟩) hg2s).trans ((hown.cellAt (k * 2 + 1) (by omega)).trans hc.2)
        have hlt' : (k : Int) < l.length := by omega
        have hg2r : g2 < wr.heap.size := by omega
        clear hc hown
        by_cases a : l[k].1 ≤ t % 1440
        · by_cases a2 : t % 1440 < l[k].2
          · have HY := hide (hit_yes hlt a a2)
            go_wp2
            go_ret2
            rw [HO.out, HY.out]
            exact ⟨rfl, hb.alloc hsz _⟩
          · go_wp2
            go_roundw
            case rel => exact ⟨k + 1, by omega, by go_num, hb.alloc hsz _, hit_step hlt HH.out (fun e => a2 e.2)⟩
            case measure => simp [intOf]; omega
        · have a' : t % 1440 < l[k].1 := by omega
          go_wp2
          go_roundw
          case rel => exact ⟨k + 1, by omega, by go_num, hb.alloc hsz _, hit_step hlt HH.out (fun e => a e.1)⟩
          case measure => simp [intOf]; omega
      · have hke : k = l.length := by omega
        have HK := hide hke
        clear hke
        go_wp2
        go_ret2
        have hH := HH.out
        rw [HK.out] at hH
        rw [HO.out, hit_none hH]
        exact ⟨rfl, hb⟩
theorem open_any (g : Nat) (raw : Nat → List (Int × Int)) (fr : Nat → Bool) (t : Int) (w : World) (C : CalW w g raw fr) (h0 : 0 ≤ t) (h1 : t < 100800) (hl : ∀ j, (raw j).length ≤ 1000) :
    Calls Tryz.prog 50 #[.pointer (some ⟨g, 0, none⟩), .int .i64 t] w fun e w' => e = .returned (.tuple #[.bool (openL raw fr t), .int .i64 0]) ∧ Below w.heap.size w w' := by
  obtain ⟨wk, M, hJ⟩ := C
  rw [← open_join hJ fr t h0]
  exact openM_any g wk fr t w M h0 h1 (fun j hj => Nat.le_trans (hJ j hj).2.2 (hl j))
end Go.Proofs.YtcnmbldikjljeaaGreatDoor
namespace Go.Proofs.YtcnmbldikjljeaaGreatDoor
open Go.RowKit Go.Shelf

/-- what the iterator reads, and a round keeps: the calendar, and the two boxes -/
structure KI (w0 : World) (Bt Bc g o : Nat) (t : Int) (w : World) : Prop where
  below : Below w0.heap.size w0 w
  bt : w.heap[Bt]? = some (.cells #[.int .i64 t] 3 (0, 0))
  bc : w.heap[Bc]? = some (.cells #[.pointer (some ⟨g, o, none⟩)] 34 (0, 0))
def KQ (n₀ Bt Bc : Nat) (W W' : World) : Prop := Below n₀ W W' ∧ W'.heap[Bt]? = W.heap[Bt]? ∧ W'.heap[Bc]? = W.heap[Bc]?
theorem KQ.t {n₀ Bt Bc : Nat} {A B C : World} (h : KQ n₀ Bt Bc A B) (k : KQ n₀ Bt Bc B C) : KQ n₀ Bt Bc A C := ⟨h.1.trans k.1, k.2.1.trans h.2.1, k.2.2.trans h.2.2⟩
theorem KQ.b {n₀ Bt Bc : Nat} {w : World} (hn : n₀ ≤ w.heap.size) (h1 : Bt < w.heap.size) (h2 : Bc < w.heap.size) (W : World) (l : Nat) (o o' : Obj) (hl : w.heap.size ≤ l) (h : W.heap[l]? = some o) (hc : o.isCells = false) (hw : o.isWalk = false) : KQ n₀ Bt Bc W (W.putObj l o') :=
  ⟨belowK_b hn W l o o' hl h hc hw, World.putObj_heap_other (by omega), World.putObj_heap_other (by omega)⟩
section
variable {w0 w w' : World} {Bt Bc g o : Nat} {t : Int}
theorem KI.kq (h : KI w0 Bt Bc g o t w) (k : KQ w0.heap.size Bt Bc w w') : KI w0 Bt Bc g o t w' := ⟨h.below.trans k.1, k.2.1.trans h.bt, k.2.2.trans h.bc⟩
theorem KI.lt (h : KI w0 Bt Bc g o t w) : Bt < w.heap.size ∧ Bc < w.heap.size := ⟨(Array.getElem?_eq_some_iff.1 h.bt).1, (Array.getElem?_eq_some_iff.1 h.bc).1⟩
theorem KI.on (h : KI w0 Bt Bc g o t w) (hb : Below w.heap.size w w') : KI w0 Bt Bc g o t w' :=
  ⟨h.below.trans (hb.mono h.below.size), (hb.block _ h.lt.1).trans h.bt, (hb.block _ h.lt.2).trans h.bc⟩
theorem KI.ct (h : KI w0 Bt Bc g o t w) : w.cell? ⟨Bt, 0, none⟩ = some (.int .i64 t) := by simp [World.cell?, h.bt]
theorem KI.cc (h : KI w0 Bt Bc g o t w) : w.cell? ⟨Bc, 0, none⟩ = some (.pointer (some ⟨g, o, none⟩)) := by simp [World.cell?, h.bc]
end
def spAt (X : List (Int × Int)) (k : Nat) : Int × Int := X.getD k (0, 0)
/-- a span as it is handed to the round -/
def encX (X : List (Int × Int)) (k : Nat) : Array Value := #[.agg #[.int .i64 (spAt X k).1, .int .i64 (spAt X k).2]]
theorem clip_cons (t d : Int) (p : Int × Int) (l : List (Int × Int)) : clip t d (p :: l) = if max (d * 1440 + p.1) t < d * 1440 + p.2 then (max (d * 1440 + p.1) t, d * 1440 + p.2) :: clip t d l else clip t d l := by
  unfold clip
  rw [List.map_cons, List.filter_cons]
  by_cases h : max (d * 1440 + p.1) t < d * 1440 + p.2
  · rw [if_pos h, if_pos (by simpa using h)]
  · rw [if_neg h, if_neg (by simpa using h)]
theorem drop_cons {X l : List (Int × Int)} {k : Nat} {x : Int × Int} (h : X.drop k = x :: l) : k < X.length ∧ spAt X k = x ∧ X.drop (k + 1) = l := by
  have hk : k < X.length := by
    have := congrArg List.length h
    simp at this; omega
  rw [List.drop_eq_getElem_cons hk] at h
  injection h with h1 h2
  refine ⟨hk, ?_, h2⟩
  unfold spAt
  rw [List.getD_eq_getElem?_getD, List.getElem?_eq_getElem hk]; exact h1

theorem from_step (wk : Nat → List (Int × Int)) (fr : Nat → Bool) (t : Int) {d : Nat} (h : d < 70) : fromL wk fr t d (70 - d) = clip t d (dayL wk fr d) ++ fromL wk fr t (d + 1) (70 - (d + 1)) := by
  rw [show 70 - d = 70 - (d + 1) + 1 by omega]; rfl
set_option maxRecDepth 100000 in
set_option maxHeartbeats 4000000 in
/-- the iterator: every span from t on, in its order, for every round that keeps what it reads -/
theorem iter_in (n : Nat) (hn : 1 ≤ n) (l Bt Bc g o : Nat) (wk : Nat → List (Int × Int)) (fr : Nat → Bool) (t : Int) (w0 : World) (C : CalO w0 g o wk fr) (hA : ∀ j, j < 7 → Apart (wk j)) (hlen : ∀ j, j < 7 → (wk j).length ≤ 1000) (h0 : 0 ≤ t) (h1 : t ≤ 100800)
    (J Jx : List Nat → World → Prop) (W : World) (K0 : KI w0 Bt Bc g o t W) (hJ : AbidesFrom W.heap.size J)
    (hY : ∀ pre x W1, J pre W1 → pre.length < (spansL wk fr t).length → YieldAt Fence.wide (n - 1) Tryz.prog l (encX (spansL wk fr t) x) W1 fun e W' =>
      (e = .returned (.bool true) ∧ J (pre ++ [x]) W' ∧ KQ w0.heap.size Bt Bc W1 W') ∨ (e = .returned (.bool false) ∧ Jx (pre ++ [x]) W'))
    (hJ0 : J [] W) :
    CallsIn Fence.wide n Tryz.prog 75 #[.func (.yield l) #[] #[], .pointer (some ⟨Bt, 0, none⟩), .pointer (some ⟨Bc, 0, none⟩)] W fun e W' => (∃ v, e = .returned v) ∧
      ((∃ ys, ys = List.range (spansL wk fr t).length ∧ J ys W') ∨ (∃ pre, (∃ k, k ≤ (spansL wk fr t).length ∧ pre = List.range k) ∧ Jx pre W')) := by
  obtain ⟨X, hX⟩ : ∃ X, X = spansL wk fr t := ⟨_, rfl⟩
  rw [← hX] at hY ⊢
  have ct := K0.ct
  have HX := hide hX
  have HC := hide (And.intro C (And.intro hA hlen))
  have HJ := hide hJ
  have HY := hide hY
  clear hX C hA hlen hJ hY
  refine callsIn_of_wp Tryz.func75 rfl trivial ?_ rfl
  simp only [Tryz.ntmps75, List.size_toArray, List.length_cons, List.length_nil, Nat.reduceAdd, Nat.reduceSub, Array.replicate_succ, Array.replicate_zero, List.push_toArray, List.append_toArray, List.nil_append, List.cons_append]
  gi_wp2
  clear ct
  gi_loopw [4] (fun dv wr => ∃ d k : Nat, dv = .int .i64 d ∧ d ≤ 70 ∧ k ≤ X.length ∧ Hid (X.drop k = fromL wk fr t d (70 - d)) ∧ KI w0 Bt Bc g o t wr ∧ J (List.range k) wr) (fun dv _ => 70 - (intOf dv).toNat)
  case atStart =>
    exact ⟨(t / 1440).toNat, 0, by congr 1; omega, by omega, Nat.zero_le _, HX.out, K0, hJ0⟩
  case round =>
    obtain ⟨d, k, rfl, hd, hk, HD, K, hJk⟩ := hrel
    by_cases hlt : d < 70
    · have hlt' : (d : Int) < 70 := by omega
      have cc := K.cc
      have HS := hide (spansO_any g o wk fr d w0 wr HC.out.1 K.below hlt)
      have hm1 : (0 : Int) ≤ (d : Int) * 1440 := by omega
      have hm2 : (d : Int) * 1440 ≤ 100800 := by omega
      gi_wp2_with (first | (refine ⟨trivial, ?_⟩; gi_at_call 76; refine (callsIn_wide.2 HS.out).mono ?_; rintro e w1 ⟨rfl, v, rfl, hown⟩; rcases hown.2 with ⟨rfl, hz⟩ | ⟨g2, cap, cur, rfl, _, hg2, _⟩))
      · have hL : dayL wk fr d = [] := List.length_eq_zero_iff.1 hz
        have HN := hide (show X.drop k = fromL wk fr t (d + 1) (70 - (d + 1)) by rw [HD.out, from_step wk fr t hlt, hL]; rfl)
        clear hL hz hown cc HS
        gi_loopw [20] (fun iv wz => iv = .int .i64 0 ∧ wz = w1) (fun _ _ => 0)
        case atStart => exact ⟨rfl, rfl⟩
        case round =>
          obtain ⟨rfl, rfl⟩ := hrel
          gi_wp2
          go_roundw
          case rel => exact ⟨d + 1, k, by go_num, by omega, hk, HN, K, hJk⟩
          case measure => simp [intOf]; omega
      · have hg2s : g2 < w0.heap.size := (Array.getElem?_eq_some_iff.1 hg2).1
        have HN := hide (show X.drop k = clip t d ((dayL wk fr d).drop 0) ++ fromL wk fr t (d + 1) (70 - (d + 1)) by rw [HD.out, from_step wk fr t hlt]; rfl)
        have hgood := (day_apart HC.out.2.1 (fr := fr) d).good
        have hnl : (dayL wk fr d).length ≤ 1000 := by
          unfold dayL; split
          · simp
          · exact HC.out.2.2 _ (by omega)
        have HO := hide hown
        have HG := hide hgood
        clear hown hg2 hgood HS cc HD
        obtain ⟨L, hL⟩ : ∃ L, L = dayL wk fr d := ⟨_, rfl⟩
        rw [← hL] at HO HN HG hnl ⊢
        clear hL
        gi_loopw [20] (fun iv wz => ∃ i k : Nat, iv = .int .i64 i ∧ i ≤ L.length ∧ k ≤ X.length ∧ Hid (X.drop k = clip t d (L.drop i) ++ fromL wk fr t (d + 1) (70 - (d + 1))) ∧ KI w0 Bt Bc g o t wz ∧ J (List.range k) wz) (fun iv _ => L.length - (intOf iv).toNat)
        case atStart => exact ⟨0, k, rfl, Nat.zero_le _, hk, HN, K, hJk⟩
        case round =>
          clear HN K hJk hk
          obtain ⟨i, k, rfl, hi, hk, HN, K, hJk⟩ := hrel
          by_cases hil : i < L.length
          · have hil' : (i : Int) < L.length := by omega
            have hc := flat_at L i hil
            have e0 : wr.cell? ⟨g2, i * 2, none⟩ = some (.int .i64 L[i].1) := (K.below.cell (p := ⟨g2, i * 2, none⟩) hg2s).trans ((HO.out.cellAt (i * 2) (by omega)).trans hc.1)
            have e1 : wr.cell? ⟨g2, i * 2 + 1, none⟩ = some (.int .i64 L[i].2) := (K.below.cell (p := ⟨g2, i * 2 + 1, none⟩) hg2s).trans ((HO.out.cellAt (i * 2 + 1) (by omega)).trans hc.2)
            have hgd : Good (L[i].1, L[i].2) := HG.out _ (List.getElem_mem hil)
            have hdr : L.drop i = (L[i].1, L[i].2) :: L.drop (i + 1) := List.drop_eq_getElem_cons hil
            have HDR := hide hdr
            have ct := K.ct
            have hlt2 := K.lt.1
            generalize L[i].1 = p1 at *
            generalize L[i].2 = p2 at *
            obtain ⟨q0, q1, q2⟩ := hgd
            simp only at q0 q1 q2
            clear hc hdr
            have hK2 := K.on ((Below.refl _ _).alloc (Nat.le_refl _) (Obj.cells #[.int .i64 (max ((d : Int) * 1440 + p1) t), .int .i64 ((d : Int) * 1440 + p2)] 140))
            have hJ2 := HJ.out _ _ _ none hJk (World.grownBy_alloc wr (Obj.cells #[.int .i64 (max ((d : Int) * 1440 + p1) t), .int .i64 ((d : Int) * 1440 + p2)] 140) none) (fun r e => by cases e)
            have HK2 := hide (And.intro hK2 hJ2)
            clear hK2 hJ2
            by_cases hbe : max ((d : Int) * 1440 + p1) t < (d : Int) * 1440 + p2
            · obtain ⟨a1, a2, a3⟩ := drop_cons (show X.drop k = (max ((d : Int) * 1440 + p1) t, (d : Int) * 1440 + p2) :: (clip t d (L.drop (i + 1)) ++ fromL wk fr t (d + 1) (70 - (d + 1))) by rw [HN.out, HDR.out, clip_cons, if_pos hbe]; rfl)
              obtain ⟨fn, tmps, assign, body, hy, hR⟩ := HY.out (List.range k) k _ HK2.out.2 (by simpa using a1)
              unfold encX at hy
              rw [a2] at hy
              dsimp only at hy
              have HR := hide hR
              have HA3 := hide a3
              clear hR a3 a2
              gi_wp2
              refine HR.out.mono ?_
              rw [← List.range_succ]
              rintro e W3 (⟨rfl, hJ3, hk3⟩ | ⟨rfl, hJx3⟩)
              · have hK3 := HK2.out.1.kq hk3
                gi_wp2
                go_roundw
                case rel => exact ⟨i + 1, k + 1, by go_num, by omega, by omega, HA3, hK3, hJ3⟩
                case measure => simp [intOf]; omega
              · gi_wp2
                refine bodyPost_ret (results_none rfl _ _ _) rfl ?_
                exact ⟨⟨_, rfl⟩, .inr ⟨_, ⟨k + 1, by omega, rfl⟩, hJx3⟩⟩
            · have hbe' : (d : Int) * 1440 + p2 ≤ max ((d : Int) * 1440 + p1) t := by omega
              have HN2 := hide (show X.drop k = clip t d (L.drop (i + 1)) ++ fromL wk fr t (d + 1) (70 - (d + 1)) by rw [HN.out, HDR.out, clip_cons, if_neg hbe])
              gi_wp2
              refine ⟨fun _ h => (by cases h), ?_⟩
              gi_wp2
              go_roundw
              case rel => exact ⟨i + 1, k, by go_num, by omega, hk, HN2, HK2.out.1, HK2.out.2⟩
              case measure => simp [intOf]; omega
          · have hie : L.drop i = [] := List.drop_eq_nil_of_le (by omega)
            have HN2 := hide (show X.drop k = fromL wk fr t (d + 1) (70 - (d + 1)) by rw [HN.out, hie]; rfl)
            clear hie
            gi_wp2
            go_roundw
            case rel => exact ⟨d + 1, k, by go_num, by omega, hk, HN2, K, hJk⟩
            case measure => simp [intOf]; omega
    · have hde : d = 70 := by omega
      subst hde
      have hke : k = X.length := by
        have := HD.out
        have h2 := congrArg List.length this
        simp [fromL] at h2; omega
      have HK := hide hke
      clear hke
      gi_wp2
      go_end0
      exact ⟨⟨_, rfl⟩, .inl ⟨_, by rw [HK.out], hJk⟩⟩
/-- the iterator's contract -/
theorem iter_stops (n : Nat) (hn : 1 ≤ n) (Bt Bc g o : Nat) (wk : Nat → List (Int × Int)) (fr : Nat → Bool) (t : Int) (w0 w : World) (C : CalO w0 g o wk fr) (hA : ∀ j, j < 7 → Apart (wk j)) (hlen : ∀ j, j < 7 → (wk j).length ≤ 1000) (h0 : 0 ≤ t) (h1 : t ≤ 100800) (K0 : KI w0 Bt Bc g o t w) :
    SeqStopsK Fence.wide n Tryz.prog 75 #[.pointer (some ⟨Bt, 0, none⟩), .pointer (some ⟨Bc, 0, none⟩)] (encX (spansL wk fr t)) (KQ w0.heap.size Bt Bc) (fun xs => xs = List.range (spansL wk fr t).length) (fun pre => ∃ k, k ≤ (spansL wk fr t).length ∧ pre = List.range k) (spansL wk fr t).length w :=
  fun l J Jx W hW hJ _ hY hJ0 => iter_in n hn l Bt Bc g o wk fr t w0 C hA hlen h0 h1 J Jx W (K0.on hW) hJ hY hJ0
set_option maxRecDepth 100000 in
set_option maxHeartbeats 1000000 in
/-- spansFrom hands the iterator over -/
theorem spansFrom_any (g o : Nat) (t : Int) (w : World) : Calls Tryz.prog 48 #[.pointer (some ⟨g, o, none⟩), .int .i64 t] w fun e w' =>
    e = .returned (.func (.func 75) #[] #[.pointer (some ⟨w.heap.size + 1, 0, none⟩), .pointer (some ⟨w.heap.size, 0, none⟩)]) ∧ w' = (w.alloc (.cells #[.pointer (some ⟨g, o, none⟩)] 34)).alloc (.cells #[.int .i64 t] 3) := by
  go_enter Tryz.func48, Tryz.ntmps48
  go_wp2
  go_ret
  exact ⟨by simp, rfl⟩
set_option maxHeartbeats 1000000 in
theorem isTime_any (t : Int) (w : World) : Calls Tryz.prog 47 #[.int .i64 t] w fun e w' => e = .returned (.bool (decide (0 ≤ t) && decide (t ≤ 100800))) ∧ w' = w := by
  go_enter Tryz.func47, Tryz.ntmps47
  go_wp2
  all_goals
    go_ret
    exact ⟨by simp <;> omega, rfl⟩
end Go.Proofs.YtcnmbldikjljeaaGreatDoor
