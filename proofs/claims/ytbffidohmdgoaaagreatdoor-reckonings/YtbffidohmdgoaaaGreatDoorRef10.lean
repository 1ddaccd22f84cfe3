import Derived.Test.YtbffidohmdgoaaaGreatDoorRef8
import Derived.Deep.Cut
namespace Go.Proofs.YtbffidohmdgoaaaGreatDoor
open Go.RowKit
def lastLoop : Code → Option Code
  | .loop c => some c
  | .seq a b => match lastLoop b with
    | some c => some c
    | none => lastLoop a
  | .block _ c => lastLoop c
  | .scope c => lastLoop c
  | .cond _ a b => match lastLoop b with
    | some c => some c
    | none => lastLoop a
  | _ => none
noncomputable def aheadBody : Code := ((Tryz.f73.body.bind lastLoop).getD .skip)
/-- a great number, behind a name -/
def big : Nat := 100800
/-- memory, while the list of counts grows -/
structure AW (w : World) (cb : Nat) (wz : World) (wk off : Nat → Bool) (g o k : Nat) (v : Value) : Prop where
  cv : wz.cell? ⟨cb, 0, none⟩ = some v
  fv : wz.frozen? ⟨cb, 0, none⟩ = false
  zv : cb < wz.heap.size
  own : wz.ownsRow (cb + 1) 3 1 v k (cnts (isOpen wk off) k)
  K : BC wz g 10080 wk
  O : BC wz o 70 off
  below : Below w.heap.size w wz
theorem wk_at {x : Int} {wz : World} {g : Nat} {wk : Nat → Bool} (K : BC wz g 10080 wk) (k : Nat) (hk : x = (k : Int)) (y : Bool) (hx : wk (k % 10080) = y) : wz.cell? ⟨g, (x % 10080).toNat, none⟩ = some (.bool y) := by
  have e : (x % 10080).toNat = k % 10080 := by omega
  rw [e, K.cell _ (by omega), hx]
theorem off_at {x : Int} {wz : World} {g : Nat} {off : Nat → Bool} (K : BC wz g 70 off) (k : Nat) (hk : x = (k : Int)) (hk2 : x < 100800) (y : Bool) (hx : off (k / 1440) = y) : wz.cell? ⟨g, (x / 1440).toNat, none⟩ = some (.bool y) := by
  have e : (x / 1440).toNat = k / 1440 := by omega
  rw [e, K.cell _ (by omega), hx]
/-- the append through the pointer, and the store behind it -/
theorem AW.go {w wr w10 : World} {cb g o k gg cap : Nat} {wk off : Nat → Bool} {v : Value} (A : AW w cb wr wk off g o k v) (hg : g < cb) (ho : o < cb) (hw : w.heap.size ≤ cb) (x : Value) (hx : x = .int .i64 (cnt (isOpen wk off) k))
    (hown : w10.ownsRow (cb + 1) 3 1 (.slice (some ⟨gg, 0, none⟩) (k + 1) cap) (k + 1) (cnts (isOpen wk off) k ++ [x])) (hgrow : (wr.alloc (.cells #[x] 3)).grownBy w10 v.ownBlock) :
    w10.cell? ⟨cb, 0, none⟩ = some v ∧ w10.frozen? ⟨cb, 0, none⟩ = false ∧ AW w cb (w10.setCell ⟨cb, 0, none⟩ (.slice (some ⟨gg, 0, none⟩) (k + 1) cap)) wk off g o (k + 1) (.slice (some ⟨gg, 0, none⟩) (k + 1) cap) := by
  have hne : ∀ q, q ≤ cb → some q ≠ v.ownBlock := fun q hq e => by have := (A.own.lt q e.symm).1; omega
  have hzv := A.zv
  have hc10 := (hgrow.cell_far ⟨cb, 0, none⟩ (by simp; omega) (hne cb (Nat.le_refl _))).trans ((World.cell?_alloc_past _ _ _ A.zv).trans A.cv)
  have hf10 := (hgrow.frozen_far ⟨cb, 0, none⟩ (by simp; omega) (hne cb (Nat.le_refl _))).trans ((World.frozen?_alloc_past _ _ _ A.zv).trans A.fv)
  have hgA := World.grownBy_alloc wr (Obj.cells #[x] 3) v.ownBlock
  have K10 := (A.K.grown hgA (hne g (by omega))).grown hgrow (hne g (by omega))
  have O10 := (A.O.grown hgA (hne o (by omega))).grown hgrow (hne o (by omega))
  have bW9 := A.below
  have bW10 : Below w.heap.size w w10 := (bW9.alloc bW9.size _).grown hgrow (by have := bW9.size; simp; omega) (fun q hq => by have := (A.own.lt q hq).1; omega)
  have bs : But cb w10 (w10.setCell ⟨cb, 0, none⟩ (.slice (some ⟨gg, 0, none⟩) (k + 1) cap)) := But.set _ _ _ _
  refine ⟨hc10, hf10, sc_eq hc10, by rw [World.frozen?_setCell]; exact hf10, ?_, ?_, K10.on bs (by omega), O10.on bs (by omega), bW10.setCell (p := ⟨cb, 0, none⟩) hw _⟩
  · have := hgrow.size; simp at this ⊢; omega
  · rw [cnts_succ, ← hx]; exact ownsRow_setCell_below hown (a := ⟨cb, 0, none⟩) (by simp) _
theorem cnts_at (F : Nat → Bool) (k j : Nat) (h : j < k) : (cnts F k)[j]? = some (.int .i64 (cnt F j)) := by simp [cnts, h]
theorem AW.rc {w wz : World} {cb g o k gg cap : Nat} {wk off : Nat → Bool} (A : AW w cb wz wk off g o k (.slice (some ⟨gg, 0, none⟩) k cap)) (hk : k = 100801) : RC wz cb (isOpen wk off) := by
  have hlt := (A.own.lt gg rfl).2
  refine ⟨A.zv, gg, cap, by rw [← hk]; exact A.cv, (A.own.lt gg rfl).1, hlt, fun j hj => ?_⟩
  have := A.own.cellAt j (by omega)
  rw [this]
  have := cnts_at (isOpen wk off) k j (by omega)
  simpa using this
set_option maxRecDepth 1000000 in
set_option maxHeartbeats 4000000 in
theorem ahead_loop (w w0 : World) (cb g o : Nat) (wk off : Nat → Bool) (hg : g < cb) (ho : o < cb) (hw : w.heap.size ≤ cb) (v0 : Value) (A0 : AW w cb w0 wk off g o 0 v0) (Q0 : Exit → Act → World → Prop)
    {c0 c1 c2 c3 c4 c7 c8 c12 c13 c14 c15 c16 c17 c18 c19 c20 c21 c22 c23 c24 c25 c26 c27 c28 c29 c30 c31 c32 c33 c34 c35 c36 c37 c38 c39 c40 c41 c42 c43 c44 c45 c46 c47 c48 c49 c50 c51 c52 c53 c54 c55 c56 c57 c58 c59 c60 c61 c62 c63 c64 c65 c66 c67 c68 c69 c70 c71 c72 c73 c74 c75 c76 c77 c78 c79 c80 c81 c82 c83 c84 c85 c86 c87 c88 c89 c90 c91 c92 c93 c94 c95 c96 c97 c98 c99 c100 c101 c102 c103 c104 c105 c106 c107 c108 c109 c110 c111 c112 c113 c114 c115 c116 c117 c118 c119 c120 c121 c122 c123 c124 c125 c126 c127 c128 c129 c130 c131 c132 c133 c134 c135 : Value}
    (hexit : ∀ (u11 u96 u97 u98 u99 u100 u101 u102 u103 u104 u105 u106 u107 u108 u109 u110 u111 u112 u113 u114 u115 u116 u117 u118 u119 u120 u121 u122 u123 u124 v : Value) (w' : World), AW w cb w' wk off g o big v → Q0 (.exit 4) ⟨List.toArray (c0 :: c1 :: c2 :: c3 :: c4 :: .slice (some ⟨g, 0, none⟩) 10080 10080 :: .slice (some ⟨o, 0, none⟩) 70 70 :: c7 :: c8 :: .pointer (some ⟨cb, 0, none⟩) :: .int .i64 (cnt (isOpen wk off) big) :: u11 :: c12 :: c13 :: c14 :: c15 :: c16 :: c17 :: c18 :: c19 :: c20 :: c21 :: c22 :: c23 :: c24 :: c25 :: c26 :: c27 :: c28 :: c29 :: c30 :: c31 :: c32 :: c33 :: c34 :: c35 :: c36 :: c37 :: c38 :: c39 :: c40 :: c41 :: c42 :: c43 :: c44 :: c45 :: c46 :: c47 :: c48 :: c49 :: c50 :: c51 :: c52 :: c53 :: c54 :: c55 :: c56 :: c57 :: c58 :: c59 :: c60 :: c61 :: c62 :: c63 :: c64 :: c65 :: c66 :: c67 :: c68 :: c69 :: c70 :: c71 :: c72 :: c73 :: c74 :: c75 :: c76 :: c77 :: c78 :: c79 :: c80 :: c81 :: c82 :: c83 :: c84 :: c85 :: c86 :: c87 :: c88 :: c89 :: c90 :: c91 :: c92 :: c93 :: c94 :: c95 :: u96 :: u97 :: u98 :: u99 :: u100 :: u101 :: u102 :: u103 :: u104 :: u105 :: u106 :: u107 :: u108 :: u109 :: u110 :: u111 :: u112 :: u113 :: u114 :: u115 :: u116 :: u117 :: u118 :: u119 :: u120 :: u121 :: u122 :: u123 :: u124 :: c125 :: c126 :: c127 :: c128 :: c129 :: c130 :: c131 :: c132 :: c133 :: c134 :: c135 :: []), []⟩ w') :
    Code.wp Tryz.prog (Code.loop aheadBody) Q0 ⟨List.toArray (c0 :: c1 :: c2 :: c3 :: c4 :: .slice (some ⟨g, 0, none⟩) 10080 10080 :: .slice (some ⟨o, 0, none⟩) 70 70 :: c7 :: c8 :: .pointer (some ⟨cb, 0, none⟩) :: .int .i64 0 :: .int .i64 0 :: c12 :: c13 :: c14 :: c15 :: c16 :: c17 :: c18 :: c19 :: c20 :: c21 :: c22 :: c23 :: c24 :: c25 :: c26 :: c27 :: c28 :: c29 :: c30 :: c31 :: c32 :: c33 :: c34 :: c35 :: c36 :: c37 :: c38 :: c39 :: c40 :: c41 :: c42 :: c43 :: c44 :: c45 :: c46 :: c47 :: c48 :: c49 :: c50 :: c51 :: c52 :: c53 :: c54 :: c55 :: c56 :: c57 :: c58 :: c59 :: c60 :: c61 :: c62 :: c63 :: c64 :: c65 :: c66 :: c67 :: c68 :: c69 :: c70 :: c71 :: c72 :: c73 :: c74 :: c75 :: c76 :: c77 :: c78 :: c79 :: c80 :: c81 :: c82 :: c83 :: c84 :: c85 :: c86 :: c87 :: c88 :: c89 :: c90 :: c91 :: c92 :: c93 :: c94 :: c95 :: c96 :: c97 :: c98 :: c99 :: c100 :: c101 :: c102 :: c103 :: c104 :: c105 :: c106 :: c107 :: c108 :: c109 :: c110 :: c111 :: c112 :: c113 :: c114 :: c115 :: c116 :: c117 :: c118 :: c119 :: c120 :: c121 :: c122 :: c123 :: c124 :: c125 :: c126 :: c127 :: c128 :: c129 :: c130 :: c131 :: c132 :: c133 :: c134 :: c135 :: []), []⟩ w0 := by
  conv => arg 2; arg 1; whnf
  obtain ⟨i0, hi, hq0, hq1, hq2⟩ := info_parts intInfo
  have HI := hide hi
  clear hi
  have HX := hide hexit
  clear hexit
  go_loopw [10, 11] (fun n m wz => ∃ (k : Nat) (x : Int) (v : Value), x ≤ 100800 ∧ n = .int .i64 (cnt (isOpen wk off) k) ∧ m = .int .i64 x ∧ x = (k : Int) ∧ AW w cb wz wk off g o k v) (fun _ m _ => big - (intOf m).toNat)
  case atStart => exact ⟨0, 0, v0, by omega, rfl, rfl, rfl, A0⟩
  case round =>
    clear A0
    obtain ⟨k, x, v, hk, rfl, rfl, hx, A⟩ := hrel
    have hkb : (k : Int) < 200000 := by omega
    have hx0 : 0 ≤ x := by omega
    have HX2 := hide hx
    clear hx
    have hcb := cnt_bd (isOpen wk off) k
    have hcv := A.cv
    have hown := A.own
    have hzv := A.zv
    by_cases hk2 : x < 100800
    · have dk1 : 0 ≤ x % 10080 := by omega
      have dk2 : x % 10080 < 10080 := by omega
      have dk3 : 0 ≤ x / 1440 := by omega
      have dk4 : x / 1440 < 70 := by omega
      go_upto_region 29 with (first | (at_builtin; refine wpList_append_lies _ rfl _ _ 24 rfl (cb + 1) 3 i0 (.int .i64 0) 1 8 Tryz.underlying24 HI.out hq0 hq1 hq2 rfl (by decide) _ k (cnts (isOpen wk off) k) (by rfl) (hown.alloc _) ⟨wr.heap.size, 0, none⟩ 1 1 [.int .i64 (cnt (isOpen wk off) k)] (by rfl) (by rfl) (cell_one_new _ _ _) (by simp [Value.oneCell']) (by omega) (by unfold maxLen; omega) (by omega) (by simp; omega) (wr.heap.size + 1) (by simp) ?_; intro gg cap w10 hown10 hgrow hat hlt; obtain ⟨hc10, hf10, A2⟩ := A.go hg ho hw _ rfl hown10 hgrow; clear hown10 hgrow hat) | fail)
      generalize hv2 : Value.slice (some (Addr.mk gg 0 none)) (k + 1) cap = v2 at *
      generalize w10.setCell ⟨cb, 0, none⟩ v2 = w11 at *
      clear hc10 hf10 hcv hown hzv A hlt
      clear hcb hk hv2
      have hcn := cnt_bd (isOpen wk off) k
      have hcn1 : cnt (isOpen wk off) k ≤ 200000 := by omega
      have hcn0 := hcn.1
      clear hcn hkb
      have HA2 := hide A2
      cases hwk : wk (k % 10080)
      · have hF : cnt (isOpen wk off) (k + 1) = cnt (isOpen wk off) k := by simp [cnt, isOpen, hwk]
        have HF := hide hF
        have q1 := wk_at A2.K k HX2.out _ hwk
        clear hwk hF A2
        go_wp2_with fail
        go_roundw
        case rel => exact ⟨k + 1, x + 1, v2, by omega, by rw [HF.out], rfl, by rw [HX2.out]; simp, HA2.out⟩
        case measure => simp [intOf, big]; omega
      · have q1 := wk_at A2.K k HX2.out _ hwk
        cases hof : off (k / 1440)
        · have hF : cnt (isOpen wk off) (k + 1) = cnt (isOpen wk off) k + 1 := by simp [cnt, isOpen, hwk, hof]
          have HF := hide hF
          have q2 := off_at A2.O k HX2.out hk2 _ hof
          clear hwk hF A2 hof
          go_wp2_with fail
          go_roundw
          case rel => exact ⟨k + 1, x + 1, v2, by omega, by rw [HF.out], rfl, by rw [HX2.out]; simp, HA2.out⟩
          case measure => simp [intOf, big]; omega
        · have hF : cnt (isOpen wk off) (k + 1) = cnt (isOpen wk off) k := by simp [cnt, isOpen, hwk, hof]
          have HF := hide hF
          have q2 := off_at A2.O k HX2.out hk2 _ hof
          clear hwk hF A2 hof
          go_wp2_with fail
          go_roundw
          case rel => exact ⟨k + 1, x + 1, v2, by omega, by rw [HF.out], rfl, by rw [HX2.out]; simp, HA2.out⟩
          case measure => simp [intOf, big]; omega
    · have hke : k = big := by have := HX2.out; unfold big; omega
      have HK := hide hke
      have HAA := hide A
      clear hke A hcv hown
      go_wp2_with fail
      rw [HK.out]
      refine HX.out _ _ _ _ _ _ _ _ _ _ _ _ _ _ _ _ _ _ _ _ _ _ _ _ _ _ _ _ _ _ v wr ?_
      have := HAA.out
      rw [HK.out] at this
      exact this
end Go.Proofs.YtbffidohmdgoaaaGreatDoor
