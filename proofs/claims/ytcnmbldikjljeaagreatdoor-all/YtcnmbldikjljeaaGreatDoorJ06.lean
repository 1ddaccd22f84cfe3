import Derived.Test.YtcnmbldikjljeaaGreatDoorJ05
import Derived.Test.YtcnmbldikjljeaaGreatDoorJ04
import Derived.Deep.AppendLies
import Derived.Deep.RegionHeld3
import Derived.Deep.RegionLaw
import Derived.BigQuiet
import Derived.Deep.Cut
import Derived.Laws.AppendOwnNone
import Derived.Shelf.SlSortCmp.NoneTotal
import Derived.Lib.Small
namespace Go.Proofs.YtcnmbldikjljeaaGreatDoor
open Go.RowKit

/-- what the sort of a day's spans does -/
def SortsTo (base : Nat) (v : Value) (l : List (Int × Int)) (w : World) : Prop :=
  Calls Tryz.prog 154 #[v, .func (.func 155) #[] #[]] w fun e w' => e = .returned (.tuple #[]) ∧ ∃ l', l'.Perm l ∧ l'.Pairwise (fun p q => p.1 ≤ q.1) ∧ w.grownBy w' v.ownBlock ∧ w'.ownsRow base 140 2 v l.length (flat l')

/-- the last span's end is written -/
theorem own_last {w : World} {base g m cap : Nat} {t : TypeId} {B : List (Int × Int)} {q : Int × Int} (hm : B.length = m) (h : w.ownsRow base t 2 (.slice (some ⟨g, 0, none⟩) (m + 1) cap) (m + 1) (flat (B ++ [q]))) (x : Int) :
    (w.setCell ⟨g, m * 2 + 1, none⟩ (.int .i64 x)).ownsRow base t 2 (.slice (some ⟨g, 0, none⟩) (m + 1) cap) (m + 1) (flat (B ++ [(q.1, x)])) := by
  refine ⟨by rw [flat_length]; simp [hm], ?_⟩
  rcases h.2 with ⟨h', _⟩ | ⟨g', cap', cur, h', hg, hh, h1, h2, h3, h4⟩
  · cases h'
  simp only [Value.slice.injEq, Option.some.injEq, Addr.mk.injEq, and_true, true_and] at h'
  obtain ⟨rfl, rfl⟩ := h'
  refine .inr ⟨g, cap, cur.setIfInBounds (m * 2 + 1) (.int .i64 x), rfl, hg, ?_, h1, h2, by simp [h3], ?_⟩
  · rw [heap_setCell_same _ _ _ _ _ _ hh]
  · rw [Array.toList_setIfInBounds, List.take_set, h4, flat_snoc, flat_snoc, List.set_append_right _ _ (by rw [flat_length]; omega), flat_length, hm]
    rw [show m * 2 + 1 - m * 2 = 1 by omega]
    rfl
theorem own_frozen {w : World} {base g n cap : Nat} {t : TypeId} {xs : List Value} (h : w.ownsRow base t 2 (.slice (some ⟨g, 0, none⟩) n cap) n xs) (j : Nat) : w.frozen? ⟨g, j, none⟩ = false := by
  rcases h.2 with ⟨h', _⟩ | ⟨g', cap', cur, h', _, hh, _⟩
  · cases h'
  simp only [Value.slice.injEq, Option.some.injEq, Addr.mk.injEq, and_true, true_and] at h'
  obtain ⟨rfl, rfl⟩ := h'
  simp [World.frozen?, hh]
theorem nil_or_snoc (A : List (Int × Int)) : A = [] ∨ ∃ B q1 q2, A = B ++ [(q1, q2)] := by
  rcases List.eq_nil_or_concat A with h | ⟨B, q, h⟩
  · exact .inl h
  · exact .inr ⟨B, q.1, q.2, by rw [h, List.concat_eq_append]⟩
/-- where a loop over the sorted spans stands -/
structure JS (w1 : World) (L : List (Int × Int)) (k : Nat) (A : List (Int × Int)) (v : Value) (w : World) : Prop where
  below : Below w1.heap.size w1 w
  own : w.ownsRow w1.heap.size 140 2 v A.length (flat A)
  ji : JI A (L.take k) (L.drop k)
  nl : A = [] → v = .slice none 0 0
section
variable {w1 w : World} {L A : List (Int × Int)} {k : Nat} {v : Value}
theorem JS.on {w' : World} (h : JS w1 L k A v w) (hb : Below w.heap.size w w') : JS w1 L k A v w' :=
  ⟨h.below.trans (hb.mono h.below.size), h.own.kept (row := none) ⟨hb.os, hb.tape, hb.output, hb.size, fun k hk _ => hb.block k hk⟩ (by cases v.ownBlock <;> simp), h.ji, h.nl⟩
theorem get_cons {L : List (Int × Int)} {k : Nat} {p : Int × Int} (hp : L[k]? = some p) : L.drop k = p :: L.drop (k + 1) ∧ L.take (k + 1) = L.take k ++ [p] := by
  obtain ⟨hk, rfl⟩ := List.getElem?_eq_some_iff.1 hp
  exact ⟨List.drop_eq_getElem_cons hk, List.take_succ_eq_append_getElem hk⟩
theorem JI.last' {B pre : List (Int × Int)} {q1 q2 p1 p2 : Int} (h : JI (B ++ [(q1, q2)]) pre (L.drop k)) (hp : L[k]? = some (p1, p2)) (hf : q2 < p1) : ∀ p ∈ B ++ [(q1, q2)], p.2 < p1 := by
  rw [(get_cons hp).1] at h
  exact h.last hf
theorem JS.app {w10 : World} {gg cap : Nat} {p1 p2 : Int} (h : JS w1 L k A v w) (hp : L[k]? = some (p1, p2)) (hg : Good (p1, p2)) (hs : L.Pairwise fun p q => p.1 ≤ q.1) (hl : ∀ p ∈ A, p.2 < p1)
    (hown : w10.ownsRow w1.heap.size 140 2 (.slice (some ⟨gg, 0, none⟩) (A.length + 1) cap) (A.length + 1) (flat A ++ [.int .i64 p1, .int .i64 p2])) (hgr : w.grownBy w10 v.ownBlock) :
    JS w1 L (k + 1) (A ++ [(p1, p2)]) (.slice (some ⟨gg, 0, none⟩) (A.length + 1) cap) w10 := by
  refine ⟨h.below.grown hgr h.below.size (fun q hq => (h.own.lt q hq).1), by rw [flat_snoc, List.length_append]; exact hown, ?_, fun e => by simp at e⟩
  obtain ⟨e1, e2⟩ := get_cons hp
  have hj := h.ji
  rw [e1] at hj
  rw [e2]
  refine hj.app hg (fun q hq => ?_) hl
  have := hs.sublist (List.drop_sublist k L)
  rw [e1, List.pairwise_cons] at this
  exact this.1 q hq
theorem JS.fuse {B : List (Int × Int)} {q1 q2 p1 p2 : Int} {g m cap : Nat} (h : JS w1 L k (B ++ [(q1, q2)]) (.slice (some ⟨g, 0, none⟩) (m + 1) cap) w) (hm : B.length = m) (hp : L[k]? = some (p1, p2)) (hg : Good (p1, p2)) (hf : p1 ≤ q2) :
    JS w1 L (k + 1) (B ++ [(q1, max q2 p2)]) (.slice (some ⟨g, 0, none⟩) (m + 1) cap) (w.setCell ⟨g, m * 2 + 1, none⟩ (.int .i64 (max q2 p2))) := by
  have hlo := (h.own.lt g rfl).1
  have ho := h.own
  rw [show (B ++ [(q1, q2)]).length = m + 1 by simp [hm]] at ho
  refine ⟨h.below.setCell (p := ⟨g, m * 2 + 1, none⟩) hlo _, ?_, ?_, fun e => by simp at e⟩
  · rw [show (B ++ [(q1, max q2 p2)]).length = m + 1 by simp [hm]]
    exact own_last (q := (q1, q2)) hm ho _
  · obtain ⟨e1, e2⟩ := get_cons hp
    have hj := h.ji
    rw [e1] at hj
    rw [e2]
    exact hj.fuse hg hf
end
set_option maxRecDepth 100000 in
set_option maxHeartbeats 4000000 in
theorem join_any (base : Nat) (v : Value) (l : List (Int × Int)) (w : World) (hs : SortsTo base v l w) (hg : ∀ p ∈ l, Good p) (hl : l.length ≤ 1000) :
    Calls Tryz.prog 104 #[v] w fun e w' => ∃ v' A, e = .returned v' ∧ w.grownBy w' v.ownBlock ∧ w'.ownsRow w.heap.size 140 2 v' A.length (flat A) ∧ JoinOf l A := by
  unfold SortsTo at hs
  have HS := hide hs
  clear hs
  go_enter Tryz.func104, Tryz.ntmps104
  go_wp2_with fail
  refine HS.out.mono ?_
  rintro e w1 ⟨rfl, L, hp, hso, hgr, hown⟩
  have hlen := hp.length_eq
  obtain ⟨i0, hi, hz0, hz1, hz2⟩ := info_parts spanInfo
  have HI := hide hi
  clear hi
  rcases hown.2 with ⟨rfl, hz⟩ | ⟨g2, cap, cur, rfl, _, hg2, _⟩
  · have hz2 : l = [] := List.length_eq_zero_iff.1 hz
    subst hz2
    clear HS hso hp hlen
    have HG := hide hgr
    have HO := hide hown
    clear hgr hown
    go_wp2
    go_loopw [3, 11] (fun a i wr => a = .slice none 0 0 ∧ i = .int .i64 0 ∧ wr = w1) (fun _ _ _ => 0)
    case atStart => exact ⟨rfl, rfl, rfl⟩
    case round =>
      obtain ⟨rfl, rfl, rfl⟩ := hrel
      go_wp2
      go_ret
      exact ⟨_, [], rfl, HG.out, World.ownsRow_nil _ _ _ _, joinOf_nil⟩
  · have hg2s : g2 < w1.heap.size := (Array.getElem?_eq_some_iff.1 hg2).1
    have HG := hide (And.intro hgr hp)
    have HO := hide hown
    have HSO := hide hso
    have hgood : ∀ k (hk : k < L.length), Good L[k] := fun k hk => hg _ (hp.mem_iff.1 (List.getElem_mem hk))
    have HGD := hide hgood
    clear HS hgr hg2 hown hso hgood hg hp
    generalize l.length = n at *
    go_wp2_with fail
    go_loopw [3, 11] (fun va i wr => ∃ (k : Nat) (A : List (Int × Int)), k ≤ n ∧ i = .int .i64 k ∧ JS w1 L k A va wr) (fun _ i _ => n - (intOf i).toNat)
    case atStart => exact ⟨0, [], Nat.zero_le _, rfl, ⟨Below.refl _ _, World.ownsRow_nil _ _ _ _, by rw [List.take_zero, List.drop_zero]; exact JI.nil _, fun _ => rfl⟩⟩
    case round =>
      obtain ⟨k, A, hk, rfl, S⟩ := hrel
      by_cases hlt : k < n
      · have hkL : k < L.length := by omega
        have hc := flat_at L k hkL
        have hbl := S.below
        have hAn : A.length ≤ 1000 := Nat.le_trans S.ji.len (by simp; omega)
        have e0 : wr.cell? ⟨g2, k * 2, none⟩ = some (.int .i64 L[k].1) := (hbl.cell (p := ⟨g2, k * 2, none⟩) hg2s).trans ((HO.out.cellAt (k * 2) (by omega)).trans hc.1)
        have e1 : wr.cell? ⟨g2, k * 2 + 1, none⟩ = some (.int .i64 L[k].2) := (hbl.cell (p := ⟨g2, k * 2 + 1, none⟩) hg2s).trans ((HO.out.cellAt (k * 2 + 1) (by omega)).trans hc.2)
        have hsz := hbl.size
        have hg2r : g2 < wr.heap.size := by omega
        have hGk := HGD.out k hkL
        have hpk : L[k]? = some (L[k].1, L[k].2) := by rw [List.getElem?_eq_getElem hkL]
        have hGp : Good (L[k].1, L[k].2) := hGk
        have HP := hide (And.intro hpk hGp)
        clear hGk hpk hGp
        have HS := hide S
        have S2 := S.on ((Below.refl _ _).alloc (Nat.le_refl _) (Obj.cells #[.int .i64 L[k].1, .int .i64 L[k].2] 140))
        have HS2 := hide S2
        have hlt' : (k : Int) < n := by omega
        clear hc hbl S2
        generalize L[k].1 = p1 at *
        generalize L[k].2 = p2 at *
        rcases nil_or_snoc A with rfl | ⟨B, q1, q2, rfl⟩
        · obtain rfl := S.nl rfl
          clear S
          go_wp2_with fail
          go_quiet (fail)
          have HS3 := hide (HS2.out.on (below_drewN (Below.refl _ _) nq))
          have g4 : ((wr.alloc (Obj.cells #[.int .i64 p1, .int .i64 p2] 140)).drewN nq).cell? ⟨wr.heap.size, 0, none⟩ = some (.int .i64 p1) := by rw [World.cell?_drewN, World.cell?_alloc_at _ _ _ _ rfl]; rfl
          have g5 : ((wr.alloc (Obj.cells #[.int .i64 p1, .int .i64 p2] 140)).drewN nq).cell? ⟨wr.heap.size, 1, none⟩ = some (.int .i64 p2) := by rw [World.cell?_drewN, World.cell?_alloc_at _ _ _ _ rfl]; rfl
          have g6 : wr.heap.size < ((wr.alloc (Obj.cells #[.int .i64 p1, .int .i64 p2] 140)).drewN nq).heap.size := by simp
          generalize (wr.alloc (Obj.cells #[.int .i64 p1, .int .i64 p2] 140)).drewN nq = W2 at *
          go_upto_region 99 with (first | (at_builtin; refine wpList_append_lies _ rfl _ _ 101 rfl w1.heap.size 140 i0 _ 2 16 Tryz.underlying101 HI.out hz0 hz1 hz2 rfl (by decide) _ 0 [] (by rfl) (HS3.out.own.alloc _) ⟨W2.heap.size, 0, none⟩ 1 1 [.int .i64 p1, .int .i64 p2] (by rfl) (by rfl) (World.news_of_block (cs := #[.int .i64 p1, .int .i64 p2]) (t := 140) (fr := (0, 0)) (heap_alloc_new W2 _)) (by simp [Value.oneCell']) (by omega) (by unfold maxLen; omega) (by omega) (by have := HS3.out.below.size; simp; omega) (W2.heap.size + 1) (by simp) ?_; intro gg cap3 w10 hown10 hgrow hat hlt10; have HA := hide (And.intro hown10 hgrow); clear hown10 hgrow hat) | fail)
          go_roundw
          case rel => exact ⟨k + 1, _, by omega, by go_num, (HS3.out.on ((Below.refl _ _).alloc (Nat.le_refl _) _)).app HP.out.1 HP.out.2 HSO.out (fun p hp => by cases hp) HA.out.1 HA.out.2⟩
          case measure => simp [intOf]; omega
        · obtain ⟨m, hm⟩ : ∃ m, B.length = m := ⟨_, rfl⟩
          have hAl : (B ++ [(q1, q2)]).length = m + 1 := by simp [hm]
          have ho := S.own
          rw [hAl] at ho
          rcases ho.2 with ⟨_, h0⟩ | ⟨gA, capA, curA, rfl, hgA, _⟩
          · omega
          have hq2 : wr.cell? ⟨gA, m * 2 + 1, none⟩ = some (.int .i64 q2) := by
            rw [ho.cellAt (m * 2 + 1) (by omega)]
            have := (flat_at (B ++ [(q1, q2)]) m (by omega)).2
            rw [this]; simp [← hm]
          have hfA : wr.frozen? ⟨gA, m * 2 + 1, none⟩ = false := own_frozen ho _
          have hgAl : gA < wr.heap.size := (ho.lt gA rfl).2
          have hml : m ≤ 1000 := by omega
          have HM := hide (And.intro hm hAl)
          clear S ho hm
          by_cases hf : p1 ≤ q2
          · have HF := hide hf
            go_wp2_with fail
            go_quiet (fail)
            have HS3 := hide (HS2.out.on (below_drewN (Below.refl _ _) nq))
            have g4 : ((wr.alloc (Obj.cells #[.int .i64 p1, .int .i64 p2] 140)).drewN nq).cell? ⟨wr.heap.size, 0, none⟩ = some (.int .i64 p1) := by rw [World.cell?_drewN, World.cell?_alloc_at _ _ _ _ rfl]; rfl
            have g5 : ((wr.alloc (Obj.cells #[.int .i64 p1, .int .i64 p2] 140)).drewN nq).cell? ⟨wr.heap.size, 1, none⟩ = some (.int .i64 p2) := by rw [World.cell?_drewN, World.cell?_alloc_at _ _ _ _ rfl]; rfl
            have g6 : wr.heap.size < ((wr.alloc (Obj.cells #[.int .i64 p1, .int .i64 p2] 140)).drewN nq).heap.size := by simp
            have g7 : ((wr.alloc (Obj.cells #[.int .i64 p1, .int .i64 p2] 140)).drewN nq).cell? ⟨gA, m * 2 + 1, none⟩ = some (.int .i64 q2) := by rw [World.cell?_drewN, World.cell?_alloc_past _ _ _ hgAl]; exact hq2
            have g8 : ((wr.alloc (Obj.cells #[.int .i64 p1, .int .i64 p2] 140)).drewN nq).frozen? ⟨gA, m * 2 + 1, none⟩ = false := own_frozen (by have := HS3.out.own; rw [HM.out.2] at this; exact this) _
            generalize (wr.alloc (Obj.cells #[.int .i64 p1, .int .i64 p2] 140)).drewN nq = W2 at *
            clear hq2 hfA e0 e1
            go_wp2_with fail
            have b0 : (0 : Int) ≤ (m : Int) := by omega
            have b1 : (m : Int) < (m : Int) + 1 := by omega
            go_region
            go_wp2_with fail
            go_roundw
            case rel => exact ⟨k + 1, _, by omega, by go_num, (HS3.out.fuse HM.out.1 HP.out.1 HP.out.2 HF.out).on (Below.refl _ _).drew⟩
            case measure => simp [intOf]; omega
          · have hf' : q2 < p1 := by omega
            go_wp2_with fail
            go_quiet (fail)
            have HS3 := hide (HS2.out.on (below_drewN (Below.refl _ _) nq))
            have g4 : ((wr.alloc (Obj.cells #[.int .i64 p1, .int .i64 p2] 140)).drewN nq).cell? ⟨wr.heap.size, 0, none⟩ = some (.int .i64 p1) := by rw [World.cell?_drewN, World.cell?_alloc_at _ _ _ _ rfl]; rfl
            have g5 : ((wr.alloc (Obj.cells #[.int .i64 p1, .int .i64 p2] 140)).drewN nq).cell? ⟨wr.heap.size, 1, none⟩ = some (.int .i64 p2) := by rw [World.cell?_drewN, World.cell?_alloc_at _ _ _ _ rfl]; rfl
            have g6 : wr.heap.size < ((wr.alloc (Obj.cells #[.int .i64 p1, .int .i64 p2] 140)).drewN nq).heap.size := by simp
            have g7 : ((wr.alloc (Obj.cells #[.int .i64 p1, .int .i64 p2] 140)).drewN nq).cell? ⟨gA, m * 2 + 1, none⟩ = some (.int .i64 q2) := by rw [World.cell?_drewN, World.cell?_alloc_past _ _ _ hgAl]; exact hq2
            have g8 : ((wr.alloc (Obj.cells #[.int .i64 p1, .int .i64 p2] 140)).drewN nq).frozen? ⟨gA, m * 2 + 1, none⟩ = false := own_frozen (by have := HS3.out.own; rw [HM.out.2] at this; exact this) _
            generalize (wr.alloc (Obj.cells #[.int .i64 p1, .int .i64 p2] 140)).drewN nq = W2 at *
            have ho3 := HS3.out.own
            rw [HM.out.2] at ho3
            go_upto_region 99 with (first | (at_builtin; refine wpList_append_lies _ rfl _ _ 101 rfl w1.heap.size 140 i0 _ 2 16 Tryz.underlying101 HI.out hz0 hz1 hz2 rfl (by decide) _ (m + 1) (flat (B ++ [(q1, q2)])) (by rfl) (ho3.alloc _) ⟨W2.heap.size, 0, none⟩ 1 1 [.int .i64 p1, .int .i64 p2] (by rfl) (by rfl) (World.news_of_block (cs := #[.int .i64 p1, .int .i64 p2]) (t := 140) (fr := (0, 0)) (heap_alloc_new W2 _)) (by simp [Value.oneCell']) (by omega) (by unfold maxLen; omega) (by omega) (by have := HS3.out.below.size; simp; omega) (W2.heap.size + 1) (by simp) ?_; intro gg cap3 w10 hown10 hgrow hat hlt10; have HA := hide (And.intro hown10 hgrow); clear hown10 hgrow hat) | fail)
            go_roundw
            case rel => exact ⟨k + 1, _, by omega, by go_num, by
              have := (HS3.out.on ((Below.refl _ _).alloc (Nat.le_refl _) (Obj.cells #[.int .i64 p1, .int .i64 p2] 140))).app (gg := gg) (cap := cap3) HP.out.1 HP.out.2 HSO.out (HS3.out.ji.last' HP.out.1 hf') (by rw [HM.out.2]; exact HA.out.1) HA.out.2
              rw [HM.out.2] at this
              exact this⟩
            case measure => simp [intOf]; omega
      · have hke : L.take k = L ∧ L.drop k = [] := ⟨List.take_of_length_le (by omega), List.drop_eq_nil_of_le (by omega)⟩
        have HK := hide hke
        clear hke
        go_wp2
        go_ret
        have hj := S.ji
        rw [HK.out.1, HK.out.2] at hj
        have hbl := S.below
        exact ⟨_, A, rfl, HG.out.1.andThen (row' := none) ⟨hbl.os, hbl.tape, hbl.output, hbl.size, fun j hj _ => hbl.block j hj⟩ (fun j e => by cases e), ownsRow_base S.own HG.out.1.size, hj.done HG.out.2⟩
end Go.Proofs.YtcnmbldikjljeaaGreatDoor
namespace Go.Proofs.YtcnmbldikjljeaaGreatDoor
open Go.Shelf Go.RowKit Go.Lib Go.Sort

set_option maxHeartbeats 1000000 in
theorem isNaN_any (x : Int) (w : World) : Calls Tryz.prog 129 #[.int .i64 x] w fun e w' => e = .returned (.bool false) ∧ w' = w := by
  go_enter Tryz.func129, Tryz.ntmps129
  go_wp2
  go_ret
  exact ⟨by simp, rfl⟩
set_option maxHeartbeats 1000000 in
theorem compare_any (x y : Int) (w : World) : Calls Tryz.prog 81 #[.int .i64 x, .int .i64 y] w fun e w' => e = .returned (.int .i64 (Lib.compareInt x y)) ∧ w' = w := by
  by_cases h1 : x < y
  · have HR : Hid (Lib.compareInt x y = -1) := by unfold Lib.compareInt; exact if_pos h1
    go_enter Tryz.func81, Tryz.ntmps81
    go_wp2_with fail
    refine (isNaN_any _ _).mono ?_
    rintro e w' ⟨rfl, rfl⟩
    go_wp2_with fail
    refine (isNaN_any _ _).mono ?_
    rintro e w2 ⟨rfl, rfl⟩
    go_wp2_with fail
    go_ret
    exact ⟨by rw [HR.out]; rfl, rfl⟩
  · by_cases h2 : y < x
    · have HR : Hid (Lib.compareInt x y = 1) := by unfold Lib.compareInt; exact (if_neg h1).trans (if_pos h2)
      go_enter Tryz.func81, Tryz.ntmps81
      go_wp2_with fail
      refine (isNaN_any _ _).mono ?_
      rintro e w' ⟨rfl, rfl⟩
      go_wp2_with fail
      refine (isNaN_any _ _).mono ?_
      rintro e w2 ⟨rfl, rfl⟩
      go_wp2_with fail
      go_ret
      exact ⟨by rw [HR.out]; rfl, rfl⟩
    · have HR : Hid (Lib.compareInt x y = 0) := by unfold Lib.compareInt; exact (if_neg h1).trans (if_neg h2)
      go_enter Tryz.func81, Tryz.ntmps81
      go_wp2_with fail
      refine (isNaN_any _ _).mono ?_
      rintro e w' ⟨rfl, rfl⟩
      go_wp2_with fail
      refine (isNaN_any _ _).mono ?_
      rintro e w2 ⟨rfl, rfl⟩
      go_wp2_with fail
      go_ret
      exact ⟨by rw [HR.out]; rfl, rfl⟩
def cfP (x y : Int × Int) : Int := Lib.compareInt x.1 y.1
theorem ltP (x y : Int × Int) : ltOf cfP x y = decide (x.1 < y.1) := by
  unfold ltOf cfP Lib.compareInt
  by_cases h1 : x.1 < y.1
  · simp [h1]
  · by_cases h2 : y.1 < x.1 <;> simp [h1, h2]
theorem swoP : SWO (ltOf cfP) where
  irrefl x := by rw [ltP]; simp
  trans x y z h1 h2 := by rw [ltP] at *; simp at *; omega
  ntrans x y z h1 h2 := by rw [ltP] at *; simp at *; omega
set_option maxHeartbeats 1000000 in
/-- the comparison that join hands over -/
theorem closure_any (x y : Int × Int) (W : World) : Calls Tryz.prog 155 #[.agg #[.int .i64 x.1, .int .i64 x.2], .agg #[.int .i64 y.1, .int .i64 y.2]] W fun e w' => e = .returned (.int .i64 (cfP x y)) ∧ ∃ q os', w' = grow (W.drewN q) os' := by
  have hcon := fun W' => compare_any x.1 y.1 W'
  unfold cfP
  generalize Lib.compareInt x.1 y.1 = r at hcon ⊢
  go_enter Tryz.func155, Tryz.ntmps155
  go_wp2_with (go_at_call 81; refine (hcon _).mono ?_; rintro e w' ⟨rfl, rfl⟩)
  go_ret
  exact ⟨rfl, 0, _, by rw [alloc_eq_grow, alloc_eq_grow, grow_grow]; rfl⟩
theorem cmpLays (blk off size : Nat) (w : World) : CmpLays Tryz.prog 155 #[] encP 2 cfP blk off size w := fun _ _ _ _ x y => closure_any x y _
theorem sorted_list {d : Array (Int × Int)} {n : Nat} (hn : d.size = n) (h : SortedIn (ltOf cfP) 0 n d) : d.toList.Pairwise fun p q => p.1 ≤ q.1 := by
  rw [List.pairwise_iff_getElem]
  intro i j hi hj hij
  have hi' : i < d.size := by simpa using hi
  have hj' : j < d.size := by simpa using hj
  have := h i j (Nat.zero_le _) hij (by omega)
  rw [ltP, getElem!_pos d i hi', getElem!_pos d j hj'] at this
  simp at this ⊢
  exact this
set_option maxHeartbeats 1000000 in
theorem sort_any {base : Nat} {v : Value} {l : List (Int × Int)} {w : World} (hown : w.ownsRow base 140 2 v l.length (flat l)) (hl : l.length ≤ 1000) : SortsTo base v l w := by
  unfold SortsTo
  rcases hown.2 with ⟨rfl, hz⟩ | ⟨g, cap, cur, rfl, hg, hb, h1, h2, h3, h4⟩
  · have hz2 : l = [] := List.length_eq_zero_iff.1 hz
    subst hz2
    have hS := AnyF.slices_SortFunc_none (P := Tryz.prog) (ρ := sortSpan_ren) sortSpan none 0 (.func (.func 155) #[] #[]) w
    refine Calls.mono (show Calls Tryz.prog 154 _ _ _ from hS) ?_
    rintro e w' ⟨rfl, rfl⟩
    exact ⟨rfl, [], .refl _, .nil, ⟨rfl, rfl, rfl, Nat.le_refl _, fun _ _ _ => rfl⟩, hown⟩
  · have eg : ∀ args w, (callFunc 155 args).run Tryz.prog w = .ok (.enter 155 args) w := enters_of Tryz.func155 (by kernel_rfl) rfl
    have hblk : g < w.heap.size := (Array.getElem?_eq_some_iff.1 hb).1
    have hS := AnyQ.slices_SortFunc sortSpan 2 Tryz.isAgg140 Tryz.sizeOf140 encP (fun _ => rfl) (fun x v hv => by simp [encP] at hv; rcases hv with rfl | rfl <;> rfl) cfP swoP 155 #[] g 0 cap l.toArray w eg (cmpLays g 0 l.toArray.size w) (holds_flat hb h4) hblk (by simp; omega)
    refine Calls.mono (show Calls Tryz.prog 154 #[.slice (some ⟨g, 0, none⟩) l.length cap, _] _ _ from hS) ?_
    rintro e w' ⟨rfl, d, n, os, hp, hs, rfl⟩
    have hsz : d.size = l.length := by rw [hp.1]; simp
    refine ⟨rfl, d.toList, perm_list hp, sorted_list (by rw [hp.1]) hs, ?_, ?_⟩
    · exact grownBy_sortK d
    · have := ownsRow_sortK (os := os) (n := n) (ts := d.toList) (ss := l) (by simp [hsz]) hg hb h1 h2 h3
      simpa using this
end Go.Proofs.YtcnmbldikjljeaaGreatDoor
namespace Go.Proofs.YtcnmbldikjljeaaGreatDoor
open Go.RowKit

/-- a calendar whose rows lie behind its block -/
def CalF (w : World) (g : Nat) (raw : Nat → List (Int × Int)) (fr : Nat → Bool) : Prop := ∃ wk, CalM w g wk fr ∧ (∀ j, j < 7 → JoinOf (raw j) (wk j)) ∧ ∀ j, j < 7 → ∀ v, w.cell? ⟨g, j, none⟩ = some v → ∀ k, v.ownBlock = some k → g < k
theorem CalF.calW {w : World} {g : Nat} {raw : Nat → List (Int × Int)} {fr : Nat → Bool} (h : CalF w g raw fr) : CalW w g raw fr := by
  obtain ⟨wk, h1, h2, _⟩ := h
  exact ⟨wk, h1, h2⟩
theorem PJ.calF {B b g : Nat} {w0 w : World} {s : RS} {vs us : Nat → Value} {A : Nat → List (Int × Int)} (h : PJ B b g w0 w s vs us A 7) : CalF w g s.week s.free := by
  obtain ⟨wk, h1, h2⟩ := h.cal
  refine ⟨wk, h1, h2, fun j hj v hv k hk => ?_⟩
  rw [h.week j hj, if_pos hj] at hv
  cases hv
  have := ((h.new j hj).1.lt k hk).1
  omega
def PPostF (s : ByteArray) (w : World) (e : Ending) (w' : World) : Prop :=
  Below w.heap.size w w' ∧
  (((parseL s).1 = true ∧ ∃ g, w.heap.size ≤ g ∧ e = .returned (.tuple #[P0 g, .int .i64 0, .int .i64 0]) ∧ CalF w' g (parseL s).2.week (parseL s).2.free) ∨
   ((parseL s).1 = false ∧ e = .returned (.tuple #[.pointer none, .int .i64 2, .int .i64 (parseL s).2.place])))
/-- what Parse answers, and leaves -/
def PPost (s : ByteArray) (w : World) (e : Ending) (w' : World) : Prop :=
  Below w.heap.size w w' ∧
  (((parseL s).1 = true ∧ ∃ g, w.heap.size ≤ g ∧ e = .returned (.tuple #[P0 g, .int .i64 0, .int .i64 0]) ∧ CalW w' g (parseL s).2.week (parseL s).2.free) ∨
   ((parseL s).1 = false ∧ e = .returned (.tuple #[.pointer none, .int .i64 2, .int .i64 (parseL s).2.place])))

theorem frees_len (f : Nat → Bool) : (frees f).length = 70 := by simp [frees]
theorem freeInfo : (Tryz.prog.info? 103).map (·.size) = some 70 := by kernel_rfl

def calCells (f : Nat → Bool) : List Value := (List.range 77).map fun j => if j < 7 then .slice none 0 0 else .bool (f (j - 7))
theorem cal_fold (f : Nat → Bool) : List.foldl (fun cs x => cs.setIfInBounds (7 + x.2) x.1) Tryz.zeroCells105 (frees f).zipIdx = (calCells f).toArray := by kernel_rfl
theorem wx0 (a b c d e f g : Value) (w : World) : (Instr.index 102 (.agg #[a, b, c, d, e, f, g]) (.int .i64 0)).run Tryz.prog w = .ok a w := by kernel_rfl
theorem wx1 (a b c d e f g : Value) (w : World) : (Instr.index 102 (.agg #[a, b, c, d, e, f, g]) (.int .i64 1)).run Tryz.prog w = .ok b w := by kernel_rfl
theorem wx2 (a b c d e f g : Value) (w : World) : (Instr.index 102 (.agg #[a, b, c, d, e, f, g]) (.int .i64 2)).run Tryz.prog w = .ok c w := by kernel_rfl
theorem wx3 (a b c d e f g : Value) (w : World) : (Instr.index 102 (.agg #[a, b, c, d, e, f, g]) (.int .i64 3)).run Tryz.prog w = .ok d w := by kernel_rfl
theorem wx4 (a b c d e f g : Value) (w : World) : (Instr.index 102 (.agg #[a, b, c, d, e, f, g]) (.int .i64 4)).run Tryz.prog w = .ok e w := by kernel_rfl
theorem wx5 (a b c d e f g : Value) (w : World) : (Instr.index 102 (.agg #[a, b, c, d, e, f, g]) (.int .i64 5)).run Tryz.prog w = .ok f w := by kernel_rfl
theorem wx6 (a b c d e f g : Value) (w : World) : (Instr.index 102 (.agg #[a, b, c, d, e, f, g]) (.int .i64 6)).run Tryz.prog w = .ok g w := by kernel_rfl
theorem wx (v : Nat → Value) (k : Nat) (hk : k < 7) (w : World) : (Instr.index 102 (.agg #[v 0, v 1, v 2, v 3, v 4, v 5, v 6]) (.int .i64 k)).run Tryz.prog w = .ok (v k) w := by
  match k, hk with
  | 0, _ => exact wx0 _ _ _ _ _ _ _ w
  | 1, _ => exact wx1 _ _ _ _ _ _ _ w
  | 2, _ => exact wx2 _ _ _ _ _ _ _ w
  | 3, _ => exact wx3 _ _ _ _ _ _ _ w
  | 4, _ => exact wx4 _ _ _ _ _ _ _ w
  | 5, _ => exact wx5 _ _ _ _ _ _ _ w
  | 6, _ => exact wx6 _ _ _ _ _ _ _ w
theorem calCells_at (f : Nat → Bool) (j : Nat) (hj : j < 77) : (calCells f).toArray[j]? = some (if j < 7 then .slice none 0 0 else .bool (f (j - 7))) := by
  simp [calCells, hj]
set_option maxRecDepth 100000 in
set_option maxHeartbeats 4000000 in
theorem parseF_any (s : ByteArray) (w : World) (h0 : 0 < w.heap.size) (hnm : ∀ j, j < 7 → w.cell? ⟨0, j, none⟩ = some (nmV j)) (hs : s.size ≤ 200) :
    Calls Tryz.prog 63 #[.string s] w fun e w' => PPostF s w e w' := by
  have HNM := hide hnm
  clear hnm
  go_enter Tryz.func63, Tryz.ntmps63
  go_wp2_with fail
  refine (newReader_any _).mono ?_
  rintro e w1 ⟨rfl, cs, rfl, hcs⟩
  have RS0 := RW.start w s cs h0 HNM.out hcs
  clear hcs
  go_wp2_with fail
  obtain ⟨b, hb⟩ : ∃ b, b = w.heap.size := ⟨_, rfl⟩
  have Hb := hide hb
  rw [← hb] at RS0 ⊢
  clear hb
  go_loopw [7] (fun _ wr => ∃ (pos fuel n : Nat) (st : RS) (vk : Nat → Value), RW (.stringIter s pos) b b w wr st vk ∧ Inv n st ∧ n ≤ pos ∧ n ≤ s.size ∧ 0 ≤ st.place ∧ st.place ≤ n ∧ Hid (loopL (runes s fuel pos) st = parseL s) ∧ s.size ≤ pos + fuel) (fun _ wr => s.size - wr.iterPos (b + 1))
  case atStart => exact ⟨0, s.size, 0, rs0, nilVs, RS0, inv0, by omega, by omega, by simp [rs0], by simp [rs0], rfl, by omega⟩
  case round =>
    obtain ⟨pos, fuel, n, st, vk, R, hI, hn, hns, hp0, hp1, HS, hf⟩ := hrel
    have hpos0 := iterPos_of R.iter
    by_cases hp : pos < s.size
    · have hnx : ∀ ty, (Instr.next (.pointer (some ⟨b + 1, 0, none⟩)) true ty).run Tryz.prog wr = _ := fun ty => Lib.run_next_any_at wr (b + 1) s pos ty R.iter hp
      have hwd := width_pos s pos hp
      obtain ⟨fuel, rfl⟩ : ∃ f', fuel = f' + 1 := ⟨fuel - 1, by omega⟩
      have R2 := R.iterAt (pos + (Utf8.decode s pos).2)
      obtain ⟨W1, hW1⟩ : ∃ W1, W1 = wr.iterAt (b + 1) s (pos + (Utf8.decode s pos).2) := ⟨_, rfl⟩
      rw [← hW1] at hnx R2
      clear hW1
      cases hr : (takeL st ((Utf8.decode s pos).1 : Int)).1
      · have HN := hide (loop_no hp HS.out hr)
        have HR := hide hr
        clear hr
        go_wp2_with fail
        refine (take_any R2 hI (by omega) _ hp0 (by omega)).mono ?_
        rw [HR.out]
        rintro e w' ⟨rfl, vk', R3⟩
        have g1 := R3.c1
        go_wp2_with fail
        go_quiet (fail)
        go_wp2
        go_ret3
        refine ⟨?_, .inr ⟨by rw [← HN.out]; exact HR.out, ?_⟩⟩
        · rw [← Hb.out]; exact (R3.drewN _).below
        · rw [← HN.out]; rfl
      · have HN := hide (loop_yes hp HS.out hr)
        have hI2 := inv_take hI _ hr
        have hpl := hide (place_take hI _ hr)
        have HR := hide hr
        clear hr
        go_wp2_with fail
        refine (take_any R2 hI (by omega) _ hp0 (by omega)).mono ?_
        rw [HR.out]
        rintro e w' ⟨rfl, vk', R3⟩
        generalize takeL st ((Utf8.decode s pos).1 : Int) = q at *
        have hq0 : 0 ≤ q.2.place := by rw [hpl.out]; omega
        have hq1 : q.2.place ≤ n := by rw [hpl.out]; omega
        have g1 := R3.c1
        have f1 := R3.frz 1
        go_wp2_with fail
        go_roundw
        case rel => exact ⟨_, fuel, n + 1, _, vk', R3.setPlace _, inv_place hI2 _, by omega, by omega, by simp; omega, by simp; omega, HN, by omega⟩
        case measure =>
          rw [iterPos_of (R3.setPlace _).iter, hpos0]; omega
    · have hnx : ∀ ty, (Instr.next (.pointer (some ⟨b + 1, 0, none⟩)) true ty).run Tryz.prog wr = _ := fun ty => Lib.run_next_end_at wr (b + 1) s pos ty R.iter hp
      have HN := hide (loop_end hp HS.out)
      cases hr : (finishL st).1
      · have HR := hide hr
        clear hr
        go_wp2_with fail
        refine (finish_any R hI hp0 (by omega)).mono ?_
        rw [HR.out]
        rintro e w' ⟨rfl, R3⟩
        have g1 := R3.c1
        go_wp2_with fail
        go_quiet (fail)
        go_wp2
        go_ret3
        refine ⟨?_, .inr ⟨by rw [← HN.out]; exact HR.out, ?_⟩⟩
        · rw [← Hb.out]; exact (R3.drewN _).below
        · rw [← HN.out]; rfl
      · have HR := hide hr
        clear hr
        go_wp2_with fail
        refine (finish_any R hI hp0 (by omega)).mono ?_
        rw [HR.out]
        rintro e w' ⟨rfl, R3⟩
        have hIq := inv_finish hI
        generalize finishL st = q at *
        have d0 := R3.cw 0 (by omega)
        have d1 := R3.cw 1 (by omega)
        have d2 := R3.cw 2 (by omega)
        have d3 := R3.cw 3 (by omega)
        have d4 := R3.cw 4 (by omega)
        have d5 := R3.cw 5 (by omega)
        have d6 := R3.cw 6 (by omega)
        simp only [Nat.reduceAdd] at d0 d1 d2 d3 d4 d5 d6
        have hfr : w'.rangeAt b 21 (frees q.2.free) := by
          intro j v hv
          have hj : j < 70 := by
            have := (List.getElem?_eq_some_iff.1 hv).1; rw [frees_len] at this; exact this
          have hv2 : v = .bool (q.2.free j) := by
            simp [frees, hj] at hv; exact hv.symm
          rw [hv2]; exact R3.cf j hj
        have hu := Tryz.underlying103
        have hi : (Tryz.prog.info? 103).map (·.size) = some (frees q.2.free).length := by rw [frees_len]; exact freeInfo
        have hl := frees_len q.2.free
        have h1 : ∀ v ∈ frees q.2.free, v.oneCell' = true := by intro v hv; simp [frees] at hv; obtain ⟨_, _, rfl⟩ := hv; rfl
        have M := R3.made (calCells q.2.free).toArray (calCells_at q.2.free)
        have R5 := R3.alloc (.cells (calCells q.2.free).toArray 105)
        have HM := hide (And.intro M R5)
        have hszw : w'.heap.size < (w'.alloc (.cells (calCells q.2.free).toArray 105)).heap.size := by simp
        clear M R5
        generalize hF : frees q.2.free = F at *
        have HF := hide hF
        clear hF
        go_upto_region 13 with (first | (refine wpList_load_mid rfl 103 _ rfl b 21 rfl F _ hfr hu rfl hi ?_) | fail)
        clear hu hi hl h1 hfr d0 d1 d2 d3 d4 d5 d6
        rw [← HF.out, cal_fold]
        generalize (w'.alloc (.cells (calCells q.2.free).toArray 105)) = W2 at *
        have d0 := HM.out.2.cw 0 (by omega)
        have d1 := HM.out.2.cw 1 (by omega)
        have d2 := HM.out.2.cw 2 (by omega)
        have d3 := HM.out.2.cw 3 (by omega)
        have d4 := HM.out.2.cw 4 (by omega)
        have d5 := HM.out.2.cw 5 (by omega)
        have d6 := HM.out.2.cw 6 (by omega)
        simp only [Nat.reduceAdd] at d0 d1 d2 d3 d4 d5 d6
        have HGD := hide (fun j => And.intro (show (q.2.week j).length ≤ 1000 by have := hIq.wk j; omega) (hIq.sp j))
        have HM0 := hide HM.out.1
        clear hIq
        go_wp2_with fail
        clear d0 d1 d2 d3 d4 d5 d6 HM
        go_loopw [52] (fun i wz => ∃ (k : Nat) (us : Nat → Value) (A : Nat → List (Int × Int)), k ≤ 7 ∧ i = .int .i64 k ∧ PJ b b w'.heap.size w wz q.2 vk us A k) (fun i _ => 7 - (intOf i).toNat)
        case atStart => exact ⟨0, _, _, by omega, rfl, HM0.out⟩
        case round =>
          obtain ⟨k, us, A, hk, rfl, M⟩ := hrel
          by_cases hk7 : k < 7
          · have hix := wx vk k hk7
            have hk' : (k : Int) < 7 := by omega
            have HJ := hide (fun (wz : World) (M : PJ b b w'.heap.size w wz q.2 vk us A k) => join_any (b + 2) (vk k) (q.2.week k) wz (sort_any (M.own k (Nat.le_refl _) hk7) (HGD.out k).1) (HGD.out k).2 (HGD.out k).1)
            go_wp2_with fail
            go_region_with (go_at_call 104; refine (HJ.out _ (by first | exact M | exact M.on (Below.refl _ _).drew | exact M.on (below_drewN (Below.refl _ _) _))).mono ?_; rintro e w1 ⟨v', l, rfl, hgr, hown, hJ⟩; obtain ⟨sa, sl, sc, rfl⟩ := ownsRow_form hown; obtain ⟨hc1, hf1⟩ := PJ.room (w1 := w1) (by first | exact M | exact M.on (Below.refl _ _).drew | exact M.on (below_drewN (Below.refl _ _) _)) hk7 hgr)
            all_goals
              have HM2 := hide (PJ.step (by first | exact M | exact M.on (Below.refl _ _).drew | exact M.on (below_drewN (Below.refl _ _) _)) hk7 hgr hown hJ)
              clear hgr hown hJ hc1 hf1
              go_wp2
              go_roundw
              case rel => exact ⟨k + 1, _, _, by omega, by go_num, HM2.out⟩
              case measure => simp [intOf]; omega
          · have hke : k = 7 := by omega
            subst hke
            go_wp2
            go_ret3
            refine ⟨?_, .inl ⟨by rw [← HN.out]; exact HR.out, w'.heap.size, ?_, rfl, ?_⟩⟩
            · rw [← Hb.out]; exact M.below
            · have := R3.hb; rw [← Hb.out]; omega
            · rw [← HN.out]; exact M.calF

set_option maxRecDepth 100000 in
set_option maxHeartbeats 400000 in
theorem parse_long (s : ByteArray) (w : World) (hs : 200 < s.size) (hm : s.size ≤ 9223372036854775807) :
    Calls Tryz.prog 63 #[.string s] w fun e w' => e = .returned (.tuple #[.pointer none, .int .i64 2, .int .i64 0]) ∧ w' = w := by
  go_enter Tryz.func63, Tryz.ntmps63
  go_wp2
  go_ret3
  exact ⟨rfl, rfl⟩
theorem parse_any (s : ByteArray) (w : World) (h0 : 0 < w.heap.size) (hnm : ∀ j, j < 7 → w.cell? ⟨0, j, none⟩ = some (nmV j)) (hs : s.size ≤ 200) :
    Calls Tryz.prog 63 #[.string s] w fun e w' => PPost s w e w' := by
  refine (parseF_any s w h0 hnm hs).mono ?_
  rintro e w' ⟨hb, ⟨h1, g, h2, h3, C⟩ | h⟩
  · exact ⟨hb, .inl ⟨h1, g, h2, h3, C.calW⟩⟩
  · exact ⟨hb, .inr h⟩
end Go.Proofs.YtcnmbldikjljeaaGreatDoor
