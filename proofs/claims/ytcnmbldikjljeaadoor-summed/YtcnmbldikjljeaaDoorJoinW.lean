import Derived.Test.YtcnmbldikjljeaaDoorParse
import Derived.Test.YtcnmbldikjljeaaDoorRdW5
import Derived.Deep.AppendLies
import Derived.Deep.RegionHeld3
import Derived.Deep.RegionLaw
import Derived.BigQuiet
import Derived.Deep.Cut
import Derived.Laws.AppendOwnNone
namespace Go.Proofs.YtcnmbldikjljeaaDoor
open Go.RowKit

/-- what the sort of a day's spans does -/
def SortsTo (base : Nat) (v : Value) (l : List (Int × Int)) (w : World) : Prop :=
  Calls Tryd.prog 36 #[v, .func (.func 37) #[] #[]] w fun e w' => e = .returned (.tuple #[]) ∧ ∃ l', l'.Perm l ∧ l'.Pairwise (fun p q => p.1 ≤ q.1) ∧ w.grownBy w' v.ownBlock ∧ w'.ownsRow base 48 2 v l.length (flat l')

/-- the last span's end is written -/
theorem own_last {w : World} {base g m cap : Nat} {t : TypeId} {B : List (Int × Int)} {q : Int × Int} (hm : B.length = m) (h : w.ownsRow base t 2 (.slice (some ⟨g, 0, none⟩) (m + 1) cap) (m + 1) (flat (B ++ [q]))) (x : Int) :
    (w.setCell ⟨g, m * 2 + 1, none⟩ (.int .i64 x)).ownsRow base t 2 (.slice (some ⟨g, 0, none⟩) (m + 1) cap) (m + 1) (flat (B ++ [(q.1, x)])) := by
  refine ⟨by rw [flat_length]; simp [hm], ?_⟩
  rcases h.2 with ⟨h', _⟩ | ⟨g', cap', cur, h', hg, hh, h1, h2, h3, h4⟩
  · cases h'
  simp only [Value.slice.injEq, Option.some.injEq, Addr.mk.injEq, and_true, true_and] at h'
  obtain ⟨rfl, rfl⟩ := h'
  refine .inr ⟨g, cap, cur.setIfInBounds (m * 2 + 1) (.int .i64 x), rfl, hg, ?_, h1, h2, by simp [h3], ?_⟩
  · rw [heap_setCell_same _ _ _ _ _ _ hh]
  · rw [Array.toList_setIfInBounds, List.take_set, h4, flat_snoc, flat_snoc, List.set_append_right _ _ (by rw [flat_length]; omega), flat_length, hm]
    rw [show m * 2 + 1 - m * 2 = 1 by omega]
    rfl
theorem own_frozen {w : World} {base g n cap : Nat} {t : TypeId} {xs : List Value} (h : w.ownsRow base t 2 (.slice (some ⟨g, 0, none⟩) n cap) n xs) (j : Nat) : w.frozen? ⟨g, j, none⟩ = false := by
  rcases h.2 with ⟨h', _⟩ | ⟨g', cap', cur, h', _, hh, _⟩
  · cases h'
  simp only [Value.slice.injEq, Option.some.injEq, Addr.mk.injEq, and_true, true_and] at h'
  obtain ⟨rfl, rfl⟩ := h'
  simp [World.frozen?, hh]
theorem nil_or_snoc (A : List (Int × Int)) : A = [] ∨ ∃ B q1 q2, A = B ++ [(q1, q2)] := by
  rcases List.eq_nil_or_concat A with h | ⟨B, q, h⟩
  · exact .inl h
  · exact .inr ⟨B, q.1, q.2, by rw [h, List.concat_eq_append]⟩
/-- where a loop over the sorted spans stands -/
structure JS (w1 : World) (L : List (Int × Int)) (k : Nat) (A : List (Int × Int)) (v : Value) (w : World) : Prop where
  below : Below w1.heap.size w1 w
  own : w.ownsRow w1.heap.size 48 2 v A.length (flat A)
  ji : JI A (L.take k) (L.drop k)
  nl : A = [] → v = .slice none 0 0
section
variable {w1 w : World} {L A : List (Int × Int)} {k : Nat} {v : Value}
theorem JS.on {w' : World} (h : JS w1 L k A v w) (hb : Below w.heap.size w w') : JS w1 L k A v w' :=
  ⟨h.below.trans (hb.mono h.below.size), h.own.kept (row := none) ⟨hb.os, hb.tape, hb.output, hb.size, fun k hk _ => hb.block k hk⟩ (by cases v.ownBlock <;> simp), h.ji, h.nl⟩
theorem get_cons {L : List (Int × Int)} {k : Nat} {p : Int × Int} (hp : L[k]? = some p) : L.drop k = p :: L.drop (k + 1) ∧ L.take (k + 1) = L.take k ++ [p] := by
  obtain ⟨hk, rfl⟩ := List.getElem?_eq_some_iff.1 hp
  exact ⟨List.drop_eq_getElem_cons hk, List.take_succ_eq_append_getElem hk⟩
theorem JI.last' {B pre : List (Int × Int)} {q1 q2 p1 p2 : Int} (h : JI (B ++ [(q1, q2)]) pre (L.drop k)) (hp : L[k]? = some (p1, p2)) (hf : q2 < p1) : ∀ p ∈ B ++ [(q1, q2)], p.2 < p1 := by
  rw [(get_cons hp).1] at h
  exact h.last hf
theorem JS.app {w10 : World} {gg cap : Nat} {p1 p2 : Int} (h : JS w1 L k A v w) (hp : L[k]? = some (p1, p2)) (hg : Good (p1, p2)) (hs : L.Pairwise fun p q => p.1 ≤ q.1) (hl : ∀ p ∈ A, p.2 < p1)
    (hown : w10.ownsRow w1.heap.size 48 2 (.slice (some ⟨gg, 0, none⟩) (A.length + 1) cap) (A.length + 1) (flat A ++ [.int .i64 p1, .int .i64 p2])) (hgr : w.grownBy w10 v.ownBlock) :
    JS w1 L (k + 1) (A ++ [(p1, p2)]) (.slice (some ⟨gg, 0, none⟩) (A.length + 1) cap) w10 := by
  refine ⟨h.below.grown hgr h.below.size (fun q hq => (h.own.lt q hq).1), by rw [flat_snoc, List.length_append]; exact hown, ?_, fun e => by simp at e⟩
  obtain ⟨e1, e2⟩ := get_cons hp
  have hj := h.ji
  rw [e1] at hj
  rw [e2]
  refine hj.app hg (fun q hq => ?_) hl
  have := hs.sublist (List.drop_sublist k L)
  rw [e1, List.pairwise_cons] at this
  exact this.1 q hq
theorem JS.fuse {B : List (Int × Int)} {q1 q2 p1 p2 : Int} {g m cap : Nat} (h : JS w1 L k (B ++ [(q1, q2)]) (.slice (some ⟨g, 0, none⟩) (m + 1) cap) w) (hm : B.length = m) (hp : L[k]? = some (p1, p2)) (hg : Good (p1, p2)) (hf : p1 ≤ q2) :
    JS w1 L (k + 1) (B ++ [(q1, max q2 p2)]) (.slice (some ⟨g, 0, none⟩) (m + 1) cap) (w.setCell ⟨g, m * 2 + 1, none⟩ (.int .i64 (max q2 p2))) := by
  have hlo := (h.own.lt g rfl).1
  have ho := h.own
  rw [show (B ++ [(q1, q2)]).length = m + 1 by simp [hm]] at ho
  refine ⟨h.below.setCell (p := ⟨g, m * 2 + 1, none⟩) hlo _, ?_, ?_, fun e => by simp at e⟩
  · rw [show (B ++ [(q1, max q2 p2)]).length = m + 1 by simp [hm]]
    exact own_last (q := (q1, q2)) hm ho _
  · obtain ⟨e1, e2⟩ := get_cons hp
    have hj := h.ji
    rw [e1] at hj
    rw [e2]
    exact hj.fuse hg hf
end
set_option maxRecDepth 100000 in
set_option maxHeartbeats 4000000 in
theorem join_any (base : Nat) (v : Value) (l : List (Int × Int)) (w : World) (hs : SortsTo base v l w) (hg : ∀ p ∈ l, Good p) (hl : l.length ≤ 1000) :
    Calls Tryd.prog 23 #[v] w fun e w' => ∃ v' A, e = .returned v' ∧ w.grownBy w' v.ownBlock ∧ w'.ownsRow w.heap.size 48 2 v' A.length (flat A) ∧ JoinOf l A := by
  unfold SortsTo at hs
  have HS := hide hs
  clear hs
  go_enter Tryd.func23, Tryd.ntmps23
  go_wp2_with fail
  refine HS.out.mono ?_
  rintro e w1 ⟨rfl, L, hp, hso, hgr, hown⟩
  have hlen := hp.length_eq
  obtain ⟨i0, hi, hz0, hz1, hz2⟩ := info_parts spanInfo
  have HI := hide hi
  clear hi
  rcases hown.2 with ⟨rfl, hz⟩ | ⟨g2, cap, cur, rfl, _, hg2, _⟩
  · have hz2 : l = [] := List.length_eq_zero_iff.1 hz
    subst hz2
    clear HS hso hp hlen
    have HG := hide hgr
    have HO := hide hown
    clear hgr hown
    go_wp2
    go_loopw [3, 11] (fun a i wr => a = .slice none 0 0 ∧ i = .int .i64 0 ∧ wr = w1) (fun _ _ _ => 0)
    case atStart => exact ⟨rfl, rfl, rfl⟩
    case round =>
      obtain ⟨rfl, rfl, rfl⟩ := hrel
      go_wp2
      go_ret
      exact ⟨_, [], rfl, HG.out, World.ownsRow_nil _ _ _ _, joinOf_nil⟩
  · have hg2s : g2 < w1.heap.size := (Array.getElem?_eq_some_iff.1 hg2).1
    have HG := hide (And.intro hgr hp)
    have HO := hide hown
    have HSO := hide hso
    have hgood : ∀ k (hk : k < L.length), Good L[k] := fun k hk => hg _ (hp.mem_iff.1 (List.getElem_mem hk))
    have HGD := hide hgood
    clear HS hgr hg2 hown hso hgood hg hp
    generalize l.length = n at *
    go_wp2_with fail
    go_loopw [3, 11] (fun va i wr => ∃ (k : Nat) (A : List (Int × Int)), k ≤ n ∧ i = .int .i64 k ∧ JS w1 L k A va wr) (fun _ i _ => n - (intOf i).toNat)
    case atStart => exact ⟨0, [], Nat.zero_le _, rfl, ⟨Below.refl _ _, World.ownsRow_nil _ _ _ _, by rw [List.take_zero, List.drop_zero]; exact JI.nil _, fun _ => rfl⟩⟩
    case round =>
      obtain ⟨k, A, hk, rfl, S⟩ := hrel
      by_cases hlt : k < n
      · have hkL : k < L.length := by omega
        have hc := flat_at L k hkL
        have hbl := S.below
        have hAn : A.length ≤ 1000 := Nat.le_trans S.ji.len (by simp; omega)
        have e0 : wr.cell? ⟨g2, k * 2, none⟩ = some (.int .i64 L[k].1) := (hbl.cell (p := ⟨g2, k * 2, none⟩) hg2s).trans ((HO.out.cellAt (k * 2) (by omega)).trans hc.1)
        have e1 : wr.cell? ⟨g2, k * 2 + 1, none⟩ = some (.int .i64 L[k].2) := (hbl.cell (p := ⟨g2, k * 2 + 1, none⟩) hg2s).trans ((HO.out.cellAt (k * 2 + 1) (by omega)).trans hc.2)
        have hsz := hbl.size
        have hg2r : g2 < wr.heap.size := by omega
        have hGk := HGD.out k hkL
        have hpk : L[k]? = some (L[k].1, L[k].2) := by rw [List.getElem?_eq_getElem hkL]
        have hGp : Good (L[k].1, L[k].2) := hGk
        have HP := hide (And.intro hpk hGp)
        clear hGk hpk hGp
        have HS := hide S
        have S2 := S.on ((Below.refl _ _).alloc (Nat.le_refl _) (Obj.cells #[.int .i64 L[k].1, .int .i64 L[k].2] 48))
        have HS2 := hide S2
        have hlt' : (k : Int) < n := by omega
        clear hc hbl S2
        generalize L[k].1 = p1 at *
        generalize L[k].2 = p2 at *
        rcases nil_or_snoc A with rfl | ⟨B, q1, q2, rfl⟩
        · obtain rfl := S.nl rfl
          clear S
          go_wp2_with fail
          go_quiet (fail)
          have HS3 := hide (HS2.out.on (below_drewN (Below.refl _ _) nq))
          have g4 : ((wr.alloc (Obj.cells #[.int .i64 p1, .int .i64 p2] 48)).drewN nq).cell? ⟨wr.heap.size, 0, none⟩ = some (.int .i64 p1) := by rw [World.cell?_drewN, World.cell?_alloc_at _ _ _ _ rfl]; rfl
          have g5 : ((wr.alloc (Obj.cells #[.int .i64 p1, .int .i64 p2] 48)).drewN nq).cell? ⟨wr.heap.size, 1, none⟩ = some (.int .i64 p2) := by rw [World.cell?_drewN, World.cell?_alloc_at _ _ _ _ rfl]; rfl
          have g6 : wr.heap.size < ((wr.alloc (Obj.cells #[.int .i64 p1, .int .i64 p2] 48)).drewN nq).heap.size := by simp
          generalize (wr.alloc (Obj.cells #[.int .i64 p1, .int .i64 p2] 48)).drewN nq = W2 at *
          go_upto_region 99 with (first | (at_builtin; refine wpList_append_lies _ rfl _ _ 45 rfl w1.heap.size 48 i0 _ 2 16 Tryd.underlying45 HI.out hz0 hz1 hz2 rfl (by decide) _ 0 [] (by rfl) (HS3.out.own.alloc _) ⟨W2.heap.size, 0, none⟩ 1 1 [.int .i64 p1, .int .i64 p2] (by rfl) (by rfl) (World.news_of_block (cs := #[.int .i64 p1, .int .i64 p2]) (t := 48) (fr := (0, 0)) (heap_alloc_new W2 _)) (by simp [Value.oneCell']) (by omega) (by unfold maxLen; omega) (by omega) (by have := HS3.out.below.size; simp; omega) (W2.heap.size + 1) (by simp) ?_; intro gg cap3 w10 hown10 hgrow hat hlt10; have HA := hide (And.intro hown10 hgrow); clear hown10 hgrow hat) | fail)
          go_roundw
          case rel => exact ⟨k + 1, _, by omega, by go_num, (HS3.out.on ((Below.refl _ _).alloc (Nat.le_refl _) _)).app HP.out.1 HP.out.2 HSO.out (fun p hp => by cases hp) HA.out.1 HA.out.2⟩
          case measure => simp [intOf]; omega
        · obtain ⟨m, hm⟩ : ∃ m, B.length = m := ⟨_, rfl⟩
          have hAl : (B ++ [(q1, q2)]).length = m + 1 := by simp [hm]
          have ho := S.own
          rw [hAl] at ho
          rcases ho.2 with ⟨_, h0⟩ | ⟨gA, capA, curA, rfl, hgA, _⟩
          · omega
          have hq2 : wr.cell? ⟨gA, m * 2 + 1, none⟩ = some (.int .i64 q2) := by
            rw [ho.cellAt (m * 2 + 1) (by omega)]
            have := (flat_at (B ++ [(q1, q2)]) m (by omega)).2
            rw [this]; simp [← hm]
          have hfA : wr.frozen? ⟨gA, m * 2 + 1, none⟩ = false := own_frozen ho _
          have hgAl : gA < wr.heap.size := (ho.lt gA rfl).2
          have hml : m ≤ 1000 := by omega
          have HM := hide (And.intro hm hAl)
          clear S ho hm
          by_cases hf : p1 ≤ q2
          · have HF := hide hf
            go_wp2_with fail
            go_quiet (fail)
            have HS3 := hide (HS2.out.on (below_drewN (Below.refl _ _) nq))
            have g4 : ((wr.alloc (Obj.cells #[.int .i64 p1, .int .i64 p2] 48)).drewN nq).cell? ⟨wr.heap.size, 0, none⟩ = some (.int .i64 p1) := by rw [World.cell?_drewN, World.cell?_alloc_at _ _ _ _ rfl]; rfl
            have g5 : ((wr.alloc (Obj.cells #[.int .i64 p1, .int .i64 p2] 48)).drewN nq).cell? ⟨wr.heap.size, 1, none⟩ = some (.int .i64 p2) := by rw [World.cell?_drewN, World.cell?_alloc_at _ _ _ _ rfl]; rfl
            have g6 : wr.heap.size < ((wr.alloc (Obj.cells #[.int .i64 p1, .int .i64 p2] 48)).drewN nq).heap.size := by simp
            have g7 : ((wr.alloc (Obj.cells #[.int .i64 p1, .int .i64 p2] 48)).drewN nq).cell? ⟨gA, m * 2 + 1, none⟩ = some (.int .i64 q2) := by rw [World.cell?_drewN, World.cell?_alloc_past _ _ _ hgAl]; exact hq2
            have g8 : ((wr.alloc (Obj.cells #[.int .i64 p1, .int .i64 p2] 48)).drewN nq).frozen? ⟨gA, m * 2 + 1, none⟩ = false := own_frozen (by have := HS3.out.own; rw [HM.out.2] at this; exact this) _
            generalize (wr.alloc (Obj.cells #[.int .i64 p1, .int .i64 p2] 48)).drewN nq = W2 at *
            clear hq2 hfA e0 e1
            go_wp2_with fail
            have b0 : (0 : Int) ≤ (m : Int) := by omega
            have b1 : (m : Int) < (m : Int) + 1 := by omega
            go_region
            go_wp2_with fail
            go_roundw
            case rel => exact ⟨k + 1, _, by omega, by go_num, (HS3.out.fuse HM.out.1 HP.out.1 HP.out.2 HF.out).on (Below.refl _ _).drew⟩
            case measure => simp [intOf]; omega
          · have hf' : q2 < p1 := by omega
            go_wp2_with fail
            go_quiet (fail)
            have HS3 := hide (HS2.out.on (below_drewN (Below.refl _ _) nq))
            have g4 : ((wr.alloc (Obj.cells #[.int .i64 p1, .int .i64 p2] 48)).drewN nq).cell? ⟨wr.heap.size, 0, none⟩ = some (.int .i64 p1) := by rw [World.cell?_drewN, World.cell?_alloc_at _ _ _ _ rfl]; rfl
            have g5 : ((wr.alloc (Obj.cells #[.int .i64 p1, .int .i64 p2] 48)).drewN nq).cell? ⟨wr.heap.size, 1, none⟩ = some (.int .i64 p2) := by rw [World.cell?_drewN, World.cell?_alloc_at _ _ _ _ rfl]; rfl
            have g6 : wr.heap.size < ((wr.alloc (Obj.cells #[.int .i64 p1, .int .i64 p2] 48)).drewN nq).heap.size := by simp
            have g7 : ((wr.alloc (Obj.cells #[.int .i64 p1, .int .i64 p2] 48)).drewN nq).cell? ⟨gA, m * 2 + 1, none⟩ = some (.int .i64 q2) := by rw [World.cell?_drewN, World.cell?_alloc_past _ _ _ hgAl]; exact hq2
            have g8 : ((wr.alloc (Obj.cells #[.int .i64 p1, .int .i64 p2] 48)).drewN nq).frozen? ⟨gA, m * 2 + 1, none⟩ = false := own_frozen (by have := HS3.out.own; rw [HM.out.2] at this; exact this) _
            generalize (wr.alloc (Obj.cells #[.int .i64 p1, .int .i64 p2] 48)).drewN nq = W2 at *
            have ho3 := HS3.out.own
            rw [HM.out.2] at ho3
            go_upto_region 99 with (first | (at_builtin; refine wpList_append_lies _ rfl _ _ 45 rfl w1.heap.size 48 i0 _ 2 16 Tryd.underlying45 HI.out hz0 hz1 hz2 rfl (by decide) _ (m + 1) (flat (B ++ [(q1, q2)])) (by rfl) (ho3.alloc _) ⟨W2.heap.size, 0, none⟩ 1 1 [.int .i64 p1, .int .i64 p2] (by rfl) (by rfl) (World.news_of_block (cs := #[.int .i64 p1, .int .i64 p2]) (t := 48) (fr := (0, 0)) (heap_alloc_new W2 _)) (by simp [Value.oneCell']) (by omega) (by unfold maxLen; omega) (by omega) (by have := HS3.out.below.size; simp; omega) (W2.heap.size + 1) (by simp) ?_; intro gg cap3 w10 hown10 hgrow hat hlt10; have HA := hide (And.intro hown10 hgrow); clear hown10 hgrow hat) | fail)
            go_roundw
            case rel => exact ⟨k + 1, _, by omega, by go_num, by
              have := (HS3.out.on ((Below.refl _ _).alloc (Nat.le_refl _) (Obj.cells #[.int .i64 p1, .int .i64 p2] 48))).app (gg := gg) (cap := cap3) HP.out.1 HP.out.2 HSO.out (HS3.out.ji.last' HP.out.1 hf') (by rw [HM.out.2]; exact HA.out.1) HA.out.2
              rw [HM.out.2] at this
              exact this⟩
            case measure => simp [intOf]; omega
      · have hke : L.take k = L ∧ L.drop k = [] := ⟨List.take_of_length_le (by omega), List.drop_eq_nil_of_le (by omega)⟩
        have HK := hide hke
        clear hke
        go_wp2
        go_ret
        have hj := S.ji
        rw [HK.out.1, HK.out.2] at hj
        have hbl := S.below
        exact ⟨_, A, rfl, HG.out.1.andThen (row' := none) ⟨hbl.os, hbl.tape, hbl.output, hbl.size, fun j hj _ => hbl.block j hj⟩ (fun j e => by cases e), ownsRow_base S.own HG.out.1.size, hj.done HG.out.2⟩
end Go.Proofs.YtcnmbldikjljeaaDoor
