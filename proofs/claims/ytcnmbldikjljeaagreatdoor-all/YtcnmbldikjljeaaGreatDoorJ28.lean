import Derived.Test.YtcnmbldikjljeaaGreatDoorJ20
import Derived.Test.YtcnmbldikjljeaaGreatDoorJ27
namespace Go.Proofs.YtcnmbldikjljeaaGreatDoor
open Go.RowKit

theorem slvInfo : (Tryz.prog.info? 123).map (fun i => (i.zero, i.size, i.bytes)) = some (some (.slice none 0 0), 1, 24) := by kernel_rfl
theorem sinInfo : (Tryz.prog.info? 24).map (fun i => (i.zero, i.size, i.bytes)) = some (some (.slice none 0 0), 1, 24) := by kernel_rfl
theorem made2s (N j : Nat) (hj : j < N) : (madeCells #[.slice none 0 0, .slice none 0 0] N)[j]? = some (.slice none 0 0) := by
  have : j % 2 = 0 ∨ j % 2 = 1 := by omega
  simp only [madeCells, Array.getElem?_map, Array.getElem?_range, hj, if_true, Option.map_some]
  rcases this with e | e <;> simp [e]
section
variable {w : World} {v : Value} {st : List Stg} {vs : Nat → Value × Value}
set_option maxRecDepth 100000 in
set_option maxHeartbeats 4000000 in
theorem lent_any (S : SL w v st vs) (R : Rm st) :
    Calls Tryz.prog 83 #[v] w fun e w' => ∃ xv, e = .returned xv ∧ LentOk w w' v st vs xv ∧ Below w.heap.size w w' := by
  obtain ⟨a, cap, rfl, hnone, _⟩ := S.row.form
  have HS := hide S
  have HR := hide R
  have hall := R.all
  cases a with
  | none =>
    obtain ⟨h0, rfl⟩ := hnone rfl
    rw [h0]
    have hnil : ∀ W, (binOp .eql 35 (.slice none 0 0) (.slice none 0 0)).run Tryz.prog W = .ok (.bool true) W := fun W => Lib.run_eql_slice_nil_nil W _ _ Tryz.underlying35
    clear S hnone R
    go_enter Tryz.func83, Tryz.ntmps83
    go_wp2_with fail
    refine bodyPost_ret (v := .agg #[.slice none 0 0, .slice none 0 0, .slice none 0 0]) (by simp [results, Tryz.f83, go_sem]) rfl ?_
    exact ⟨_, rfl, .inl ⟨rfl, rfl⟩, ((Below.refl _ _).alloc (Nat.le_refl _) _).alloc (by simp) _⟩
  | some a =>
    have hmk := fun w => run_mk 35 125 (.agg #[.slice none 0 0, .slice none 0 0]) 2 48 Tryz.underlying35 stageInfo st.length (by omega) (by omega) w
    have hnil : ∀ W, (binOp .eql 35 (.slice (some a) st.length cap) (.slice none 0 0)).run Tryz.prog W = .ok (.bool false) W := fun W => Lib.run_eql_slice_some_nil W _ _ _ Tryz.underlying35
    obtain ⟨M, hM⟩ : ∃ M, M = madeCells (Value.agg #[.slice none 0 0, .slice none 0 0]).cells ((st.length + 8) * 2) := ⟨_, rfl⟩
    rw [← hM] at hmk
    have HM := hide hM
    clear S hnone R hM
    go_enter Tryz.func83, Tryz.ntmps83
    go_wp2_with fail
    have L0 : LM w (((w.alloc (Obj.cells #[.slice none 0 0, .slice none 0 0, .slice none 0 0] 186)).alloc (Obj.cells #[.slice (some ⟨w.heap.size + 1 + 1, 0, none⟩) (st.length + 8) (st.length + 8), .slice none 0 0, .slice none 0 0] 186)).alloc (Obj.cells M 125)) st vs (fun _ => (.slice none 0 0, .slice none 0 0)) 0 (.slice none 0 0) (.slice none 0 0) 0 0 [] [] (fun _ => .slice none 0 0) := by
      refine ⟨(((Below.refl _ _).alloc (Nat.le_refl _) _).alloc (by simp) _).alloc (by simp; omega) _, ?_, ?_, ?_, World.ownsRow_nil _ _ _ _, World.ownsRow_nil _ _ _ _, fun k hk => by omega, fun k hk => by omega, fun k k' b hk => by omega, fun k k' b hk => by omega⟩
      · rw [Below.heap_alloc _ _ _ (by simp; omega), Below.heap_alloc _ _ _ (by simp)]; exact heap_alloc_new _ _
      · rw [Below.heap_alloc _ _ _ (by simp)]
        have := heap_alloc_new (w.alloc (Obj.cells #[.slice none 0 0, .slice none 0 0, .slice none 0 0] 186)) (Obj.cells #[.slice (some ⟨w.heap.size + 1 + 1, 0, none⟩) (st.length + 8) (st.length + 8), .slice none 0 0, .slice none 0 0] 186)
        simpa using this
      · refine ⟨M, ?_, by rw [HM.out, size_madeCells], fun j hj => by rw [HM.out]; exact made2s _ j hj⟩
        have := heap_alloc_new ((w.alloc (Obj.cells #[.slice none 0 0, .slice none 0 0, .slice none 0 0] 186)).alloc (Obj.cells #[.slice (some ⟨w.heap.size + 1 + 1, 0, none⟩) (st.length + 8) (st.length + 8), .slice none 0 0, .slice none 0 0] 186)) (Obj.cells M 125)
        simpa using this
    have HL0 := hide L0
    clear L0 hmk hnil HM
    obtain ⟨i1, hi1, hza, hzb, hzc⟩ := info_parts slvInfo
    obtain ⟨i2, hi2, hya, hyb, hyc⟩ := info_parts sinInfo
    have HII := hide (And.intro hi1 hi2)
    clear hi1 hi2
    go_loopw [5] (fun iv wr => ∃ (i : Nat) (lv nv : Value) (rs : Nat → Value × Value), iv = .int .i64 i ∧ i ≤ st.length ∧ LM w wr st vs rs i lv nv i i (rs1 rs i) (rs2 rs i) (fun j => if j < i * 2 then stc rs j else .slice none 0 0)) (fun iv _ => st.length - (intOf iv).toNat)
    case atStart => exact ⟨0, _, _, _, rfl, Nat.zero_le _, HL0.out⟩
    case round =>
      clear HL0
      obtain ⟨i, lv, nv, rs, rfl, hi, L⟩ := hrel
      by_cases hlt : i < st.length
      · have hlt' : (i : Int) < st.length := by omega
        have S' := HS.out.on L.below
        obtain ⟨q, qo, qc, hq⟩ := S'.row.some (by omega) (by omega)
        simp only [Value.slice.injEq, Option.some.injEq] at hq
        obtain ⟨rfl, _, rfl⟩ := hq
        have l0 := S'.row.cell (i * 2) _ (stCells_at vs st.length i hlt).1
        have l1 := S'.row.cell (i * 2 + 1) _ (stCells_at vs st.length i hlt).2
        rw [← Nat.add_assoc] at l1
        have hqs : q < wr.heap.size := World.block_lt_of_cell? _ _ l0
        have HT1 := hide (lentLevels_any (S'.lev i hlt) (HR.out.lev i hlt))
        have HSN := hide (fun (u : World) (hb : Below wr.heap.size wr u) => lentInts_any ((S'.nxt i hlt).on hb) (HR.out.nxt i hlt))
        have hva := (S'.lev i hlt).any
        have hvb := (S'.nxt i hlt).any
        have HLM := hide L
        clear S' L
        go_wp2_with fail
        refine HT1.out.mono ?_
        rintro e w1 ⟨ra, rfl, T1, b1⟩
        have l1' := (b1.cell (p := ⟨q, qo + i * 2 + 1, none⟩) hqs).trans l1
        have HB1 := hide b1
        obtain ⟨ra1, rac, hra⟩ := T1.form (fun e => by obtain ⟨x, y, h⟩ := hva; rw [h] at e; simp only [Value.slice.injEq] at e; exact e.2.1)
        have HT1' := hide T1
        clear HT1 T1 b1 l0 l1
        go_wp2_with fail
        refine (HSN.out _ HB1.out).mono ?_
        rintro e w2 ⟨rb, rfl, T2, b2⟩
        obtain ⟨rb1, rbc, hrb⟩ := T2.form (fun e => by obtain ⟨x, y, h⟩ := hvb; rw [h] at e; simp only [Value.slice.injEq] at e; exact e.2.1)
        have hb12 := HB1.out.trans (b2.mono HB1.out.size)
        have L2 := (HLM.out.on hb12).more (((Of.of_below (t := 1000000) b2).lnt HT1'.out (by decide)).base HLM.out.below.size) (T2.base (Nat.le_trans HLM.out.below.size HB1.out.size)) wr.heap.size (fun k b hk h => ((HLM.out.lev k hk).lt b h).2) (fun k b hk h => ((HLM.out.nxt k hk).lt b h).2) (fun b h => (HT1'.out.lt b h).1) (fun b h => Nat.le_trans HB1.out.size (T2.lt b h).1)
        have HL2 := hide L2
        have hws := L2.below.size
        have x1 := L2.c1
        have hxl : w.heap.size + 1 < w2.heap.size := World.block_lt_of_cell? _ _ x1
        clear T2 b2 HB1 hb12 L2 HT1' HLM HSN l1'
        subst hra hrb
        have HA := hide (HL2.out.on ((Below.refl _ _).alloc (Nat.le_refl _) (Obj.cells #[.slice ra1 (stAt st i).levels.length rac] 123)))
        have hn2 : w.heap.size ≤ (w2.alloc (Obj.cells #[.slice ra1 (stAt st i).levels.length rac] 123)).heap.size := by simp; omega
        go_wp2_with (first
          | (at_builtin; have HB := hide (HL3.out.on ((Below.refl _ _).alloc (Nat.le_refl _) (Obj.cells #[.slice rb1 (stAt st i).next.length rbc] 24))); go_must (refine wpList_append_own _ rfl _ _ 184 rfl w.heap.size 24 i2 _ 1 24 Tryz.underlying184 HII.out.2 hya hyb hyc rfl (by omega) nv i (rs2 rs i) (by rfl) HB.out.nrow ⟨w3.heap.size, 0, none⟩ 1 1 [.slice rb1 (stAt st i).next.length rbc] (by rfl) (by rfl) (World.news_of_block (cs := #[.slice rb1 (stAt st i).next.length rbc]) (t := 24) (fr := (0, 0)) (by have h9 := heap_alloc_new (w3.setCell ⟨w.heap.size + 1, 1, none⟩ (.slice va vn vc)) (Obj.cells #[.slice rb1 (stAt st i).next.length rbc] 24); simpa using h9)) (by simp [Value.oneCell']) (by unfold maxLen; omega) (by omega) (Nat.le_trans hw3 (by simp)) ?_); intro v4 w4 hown4 hgrow4 _; obtain ⟨ua, un, uc, rfl⟩ := ownsRow_form hown4; obtain ⟨hc4, hf4, L4⟩ := HB.out.app2 hgrow4 hown4; have HL4 := hide L4; have x0 := L4.c0; have hA1 := L4.all.cell (i * 2) (by omega); have hA2 := L4.all.cell (i * 2 + 1) (by omega); have fA1 := L4.all.frz (i * 2); have fA2 := L4.all.frz (i * 2 + 1); clear L4 hown4 hgrow4)
          | (at_builtin; go_must (refine wpList_append_own _ rfl _ _ 183 rfl w.heap.size 123 i1 _ 1 24 Tryz.underlying183 HII.out.1 hza hzb hzc rfl (by omega) lv i (rs1 rs i) (by rfl) HA.out.lrow ⟨w2.heap.size, 0, none⟩ 1 1 [.slice ra1 (stAt st i).levels.length rac] (by rfl) (by rfl) (World.news_of_block (cs := #[.slice ra1 (stAt st i).levels.length rac]) (t := 123) (fr := (0, 0)) (heap_alloc_new w2 _)) (by simp [Value.oneCell']) (by unfold maxLen; omega) (by omega) hn2 ?_); intro v3 w3 hown3 hgrow3 _; obtain ⟨va, vn, vc, rfl⟩ := ownsRow_form hown3; obtain ⟨hc3, hf3, L3⟩ := HA.out.app1 hgrow3 hown3; have HL3 := hide L3; have x2 := L3.c2; have hw3 := L3.below.size; clear L3 hown3 hgrow3)
          | fail)
        go_roundw
        case rel =>
          refine ⟨i + 1, _, _, _, by go_num, by omega, LM.next ((HL4.out.set _ _).set _ _) (fun j => ?_)⟩
          exact stc_next rs _ _ i j
        case measure => simp [intOf]; omega
      · obtain rfl : i = st.length := by omega
        have HLM := hide L
        have x0 := L.c0
        have x1 := L.c1
        have x2 := L.c2
        have fx := L.fx 0
        have r0 := L.rc 0 (by omega)
        have r1 := L.rc 1 (by omega)
        have r2 := L.rc 2 (by omega)
        have f0 := L.fr 0
        have f1 := L.fr 1
        have f2 := L.fr 2
        obtain ⟨la, ln, lc, rfl⟩ := ownsRow_form L.lrow
        obtain ⟨na, nn, nc, rfl⟩ := ownsRow_form L.nrow
        have hnl : ¬ ((st.length : Int) < st.length) := by omega
        clear L
        go_wp2_with fail
        refine bodyPost_ret (v := .agg #[.slice (some ⟨w.heap.size + 2, 0, none⟩) st.length (st.length + 8), .slice la ln lc, .slice na nn nc]) (by simp [results, Tryz.f83, go_sem, r0, r1, r2]) rfl ?_
        obtain ⟨o, hb⟩ := HLM.out.fin (.slice (some ⟨w.heap.size + 2, 0, none⟩) st.length (st.length + 8)) (.slice (some ⟨w.heap.size + 2, 0, none⟩) st.length (st.length + 8)) (.slice la ln lc) (.slice na nn nc)
        exact ⟨_, rfl, .inr ⟨by simp, w.heap.size + 2, _, _, rs, rfl, by omega, o.bk HLM.out.all (by decide), ⟨o.row HLM.out.lrow (by decide), o.row HLM.out.nrow (by decide), fun k hk => o.lnt (HLM.out.lev k hk) (by decide), fun k hk => o.lnt (HLM.out.nxt k hk) (by decide), HLM.out.inj1, HLM.out.inj2⟩⟩, hb⟩
end
end Go.Proofs.YtcnmbldikjljeaaGreatDoor
namespace Go.Proofs.YtcnmbldikjljeaaGreatDoor
open Go.RowKit

/-- nothing has turned but blocks from a to b -/
structure Iv (a b : Nat) (w u : World) : Prop where
  os : u.os = w.os
  tape : u.tape = w.tape
  output : u.output = w.output
  size : w.heap.size ≤ u.heap.size
  block : ∀ k, k < w.heap.size → (k < a ∨ b ≤ k) → u.heap[k]? = w.heap[k]?
section
variable {w u z : World} {a b : Nat}
theorem Iv.refl (a b : Nat) (w : World) : Iv a b w w := ⟨rfl, rfl, rfl, Nat.le_refl _, fun _ _ _ => rfl⟩
theorem Iv.trans (h : Iv a b w u) (k : Iv a b u z) : Iv a b w z := ⟨k.os.trans h.os, k.tape.trans h.tape, k.output.trans h.output, Nat.le_trans h.size k.size, fun i hi ha => (k.block i (Nat.lt_of_lt_of_le hi h.size) ha).trans (h.block i hi ha)⟩
theorem Iv.of_below (h : Below w.heap.size w u) : Iv a b w u := ⟨h.os, h.tape, h.output, h.size, fun k hk _ => h.block k hk⟩
theorem Iv.grown {r : Option Nat} (h : w.grownBy u r) (hr : ∀ k, r = some k → a ≤ k ∧ k < b) : Iv a b w u := ⟨h.os, h.tape, h.output, h.size, fun k hk ha => h.block k hk (fun e => by have := hr k e.symm; omega)⟩
theorem Iv.set {g : Nat} (j : Nat) (v : Value) (h1 : a ≤ g) (h2 : g < b) : Iv a b w (w.setCell ⟨g, j, none⟩ v) := ⟨rfl, rfl, rfl, by simp, fun k _ ha => Below.heap_setCell _ _ _ k (by simp; omega)⟩
end
/-- where whole's loop stands -/
structure WN (w0 w1 w wr : World) (st : List Stg) (vs rs : Nat → Value × Value) (A : Nat) (lv nv : Value) (i : Nat) (f : Nat → Value) : Prop where
  iv : Iv w0.heap.size w1.heap.size w wr
  x : wr.heap[w.heap.size]? = some (.cells #[.slice (some ⟨A, 0, none⟩) st.length (st.length + 8), lv, nv] 186 (0, 0))
  all : BK wr A 125 ((st.length + 8) * 2) f
  lrow : wr.ownsRow w0.heap.size 123 1 lv st.length (rs1 rs st.length)
  nrow : wr.ownsRow w0.heap.size 24 1 nv st.length (rs2 rs st.length)
  lev : ∀ k, i ≤ k → k < st.length → Lnt wr w0.heap.size 127 2 (vs k).1 (rs k).1 (stAt st k).levels.length (lentF (flat (stAt st k).levels) sp2)
  nxt : ∀ k, i ≤ k → k < st.length → Lnt wr w0.heap.size 3 1 (vs k).2 (rs k).2 (stAt st k).next.length (lentF (intCells (stAt st k).next) sp1)
section
variable {w0 w1 w wr u : World} {st : List Stg} {vs rs : Nat → Value × Value} {A : Nat} {lv nv : Value} {i : Nat} {f : Nat → Value}
theorem WN.c1 (L : WN w0 w1 w wr st vs rs A lv nv i f) : wr.cell? ⟨w.heap.size, 1, none⟩ = some lv := by simp [World.cell?, L.x]
theorem WN.c2 (L : WN w0 w1 w wr st vs rs A lv nv i f) : wr.cell? ⟨w.heap.size, 2, none⟩ = some nv := by simp [World.cell?, L.x]
theorem WN.on (L : WN w0 w1 w wr st vs rs A lv nv i f) (h : Below wr.heap.size wr u) : WN w0 w1 w u st vs rs A lv nv i f := by
  have o : Of 1000000 wr u := .of_below h
  exact ⟨L.iv.trans (.of_below h), (h.block _ (Array.getElem?_eq_some_iff.1 L.x).1).trans L.x, o.bk L.all (by decide), o.row L.lrow (by decide), o.row L.nrow (by decide), fun k h1 h2 => o.lnt (L.lev k h1 h2) (by decide), fun k h1 h2 => o.lnt (L.nxt k h1 h2) (by decide)⟩
/-- the levels of stage i were written over -/
theorem WN.one (L : WN w0 w1 w wr st vs rs A lv nv i f) (K : LK w0 w1 st vs A lv nv rs) (hi : i < st.length) (hg : wr.grownBy u (rs i).1.ownBlock) :
    Iv w0.heap.size w1.heap.size w u ∧ u.heap[w.heap.size]? = some (.cells #[.slice (some ⟨A, 0, none⟩) st.length (st.length + 8), lv, nv] 186 (0, 0)) ∧ BK u A 125 ((st.length + 8) * 2) f ∧ u.ownsRow w0.heap.size 123 1 lv st.length (rs1 rs st.length) ∧ u.ownsRow w0.heap.size 24 1 nv st.length (rs2 rs st.length) ∧
      (∀ k, i + 1 ≤ k → k < st.length → Lnt u w0.heap.size 127 2 (vs k).1 (rs k).1 (stAt st k).levels.length (lentF (flat (stAt st k).levels) sp2)) ∧ (∀ k, i ≤ k → k < st.length → Lnt u w0.heap.size 3 1 (vs k).2 (rs k).2 (stAt st k).next.length (lentF (intCells (stAt st k).next) sp1)) := by
  have o : Of 127 wr u := (L.lev i (Nat.le_refl _) hi).of hg
  refine ⟨L.iv.trans (.grown hg (fun k hk => (K.ls.lev i hi).lt k hk)), (o.block _ _ _ _ L.x (by decide)).trans L.x, o.bk L.all (by decide), o.row L.lrow (by decide), o.row L.nrow (by decide), fun k h1 h2 => (L.lev k (by omega) h2).ne hg (fun b hb hb' => ?_), fun k h1 h2 => o.lnt (L.nxt k h1 h2) (by decide)⟩
  have := K.ls.inj1 k i b h2 hi hb hb'
  omega
theorem WN.two {u2 : World} (L : WN w0 w1 w wr st vs rs A lv nv i f) (K : LK w0 w1 st vs A lv nv rs) (hi : i < st.length) (hg : wr.grownBy u (rs i).1.ownBlock) (hg2 : u.grownBy u2 (rs i).2.ownBlock) : WN w0 w1 w u2 st vs rs A lv nv (i + 1) f := by
  obtain ⟨a1, a2, a3, a4, a5, a6, a7⟩ := L.one K hi hg
  have o : Of 3 u u2 := (a7 i (Nat.le_refl _) hi).of hg2
  refine ⟨a1.trans (.grown hg2 (fun k hk => (K.ls.nxt i hi).lt k hk)), (o.block _ _ _ _ a2 (by decide)).trans a2, o.bk a3 (by decide), o.row a4 (by decide), o.row a5 (by decide), fun k h1 h2 => o.lnt (a6 k h1 h2) (by decide), fun k h1 h2 => (a7 k (by omega) h2).ne hg2 (fun b hb hb' => ?_)⟩
  have := K.ls.inj2 k i b h2 hi hb hb'
  omega
theorem WN.set (L : WN w0 w1 w wr st vs rs A lv nv i f) (K : LK w0 w1 st vs A lv nv rs) (j : Nat) (v : Value) : WN w0 w1 w (wr.setCell ⟨A, j, none⟩ v) st vs rs A lv nv i (fun k => if k = j then v else f k) := by
  obtain ⟨cur, hc, _⟩ := L.all
  have o : Of 125 wr (wr.setCell ⟨A, j, none⟩ v) := .set hc _
  exact ⟨L.iv.trans (.set j v K.lo K.all.lt), (o.block _ _ _ _ L.x (by decide)).trans L.x, L.all.set j v, o.row L.lrow (by decide), o.row L.nrow (by decide), fun k h1 h2 => o.lnt (L.lev k h1 h2) (by decide), fun k h1 h2 => o.lnt (L.nxt k h1 h2) (by decide)⟩
theorem WN.skip (L : WN w0 w1 w wr st vs rs A lv nv i f) : WN w0 w1 w wr st vs rs A lv nv (i + 1) f := ⟨L.iv, L.x, L.all, L.lrow, L.nrow, fun k h1 h2 => L.lev k (by omega) h2, fun k h1 h2 => L.nxt k (by omega) h2⟩
end
end Go.Proofs.YtcnmbldikjljeaaGreatDoor
namespace Go.Proofs.YtcnmbldikjljeaaGreatDoor
open Go.RowKit

section
variable {w0 w1 w : World} {v xv : Value} {st : List Stg} {vs : Nat → Value × Value}
set_option maxRecDepth 100000 in
set_option maxHeartbeats 8000000 in
theorem whole_any (S : SL w0 v st vs) (R : Rm st) (hb0 : Below w0.heap.size w0 w1) (L : LentOk w0 w1 v st vs xv) (hb1 : Below w1.heap.size w1 w) :
    Calls Tryz.prog 84 #[xv, v] w fun e w' => e = .returned (.bool true) ∧ Iv w0.heap.size w1.heap.size w w' := by
  obtain ⟨a, cap, rfl, hnone, _⟩ := S.row.form
  have hall := R.all
  rcases L with ⟨h1, rfl⟩ | ⟨h1, A, lv, nv, rs, rfl, K⟩
  · simp only [Value.slice.injEq] at h1
    obtain ⟨rfl, h0, rfl⟩ := h1
    rw [h0]
    have hnil : ∀ W, (binOp .eql 35 (.slice none 0 0) (.slice none 0 0)).run Tryz.prog W = .ok (.bool true) W := fun W => Lib.run_eql_slice_nil_nil W _ _ Tryz.underlying35
    clear S hnone R hb0 hb1
    go_enter Tryz.func84, Tryz.ntmps84
    go_wp2_with fail
    go_ret
    exact ⟨rfl, .of_below ((Below.refl _ _).alloc (Nat.le_refl _) _)⟩
  · cases a with
    | none =>
      obtain ⟨h0, rfl⟩ := hnone rfl
      rw [h0] at h1
      exact absurd rfl h1
    | some a =>
      have hnil : ∀ W, (binOp .eql 35 (.slice (some a) st.length cap) (.slice none 0 0)).run Tryz.prog W = .ok (.bool false) W := fun W => Lib.run_eql_slice_some_nil W _ _ _ Tryz.underlying35
      have hnil1 : ∀ W, (binOp .eql 123 (.slice none 0 0) (.slice none 0 0)).run Tryz.prog W = .ok (.bool true) W := fun W => Lib.run_eql_slice_nil_nil W _ _ Tryz.underlying123
      have hnil2 : ∀ W, (binOp .eql 24 (.slice none 0 0) (.slice none 0 0)).run Tryz.prog W = .ok (.bool true) W := fun W => Lib.run_eql_slice_nil_nil W _ _ Tryz.underlying24
      have HS := hide S
      have HR := hide R
      have HK := hide K
      obtain ⟨la, ln, lc, hlv⟩ := ownsRow_form K.ls.lrow
      obtain ⟨na, nn, nc, hnv⟩ := ownsRow_form K.ls.nrow
      subst hlv hnv
      have hw01 := hb0.size
      have hw1 := hb1.size
      have HB := hide (And.intro hb0 hb1)
      have W0 : WN w0 w1 w (w.alloc (Obj.cells #[.slice (some ⟨A, 0, none⟩) st.length (st.length + 8), .slice la ln lc, .slice na nn nc] 186)) st vs rs A (.slice la ln lc) (.slice na nn nc) 0 (fun j => if j < st.length * 2 then stc rs j else .slice none 0 0) := by
        have b2 : Below w1.heap.size w1 (w.alloc (Obj.cells #[.slice (some ⟨A, 0, none⟩) st.length (st.length + 8), .slice la ln lc, .slice na nn nc] 186)) := hb1.alloc hw1 _
        have o : Of 1000000 w1 (w.alloc (Obj.cells #[.slice (some ⟨A, 0, none⟩) st.length (st.length + 8), .slice la ln lc, .slice na nn nc] 186)) := .of_below b2
        exact ⟨.of_below ((Below.refl _ _).alloc (Nat.le_refl _) _), heap_alloc_new _ _, o.bk K.all (by decide), o.row K.ls.lrow (by decide), o.row K.ls.nrow (by decide), fun k _ h2 => o.lnt (K.ls.lev k h2) (by decide), fun k _ h2 => o.lnt (K.ls.nxt k h2) (by decide)⟩
      have HW0 := hide W0
      clear S R K hnone hb0 hb1 W0 h1
      go_enter Tryz.func84, Tryz.ntmps84
      go_wp2_with fail
      go_loopw [7, 8] (fun kv iv wr => ∃ (i : Nat) (f : Nat → Value), kv = .bool true ∧ iv = .int .i64 i ∧ i ≤ st.length + 8 ∧ WN w0 w1 w wr st vs rs A (.slice la ln lc) (.slice na nn nc) i f ∧ Hid (∀ j, i * 2 ≤ j → f j = if j < st.length * 2 then stc rs j else .slice none 0 0)) (fun _ iv _ => st.length + 8 - (intOf iv).toNat)
      case atStart => exact ⟨0, _, rfl, rfl, by omega, HW0.out, fun j _ => rfl⟩
      case round =>
        clear HW0
        obtain ⟨i, f, rfl, rfl, hi, hW, HF⟩ := hrel
        have hAA := hW.all.lt
        by_cases hlt : i < st.length
        · have hlt8 : (i : Int) < (st.length : Int) + 8 := by omega
          have hltn : ¬ (st.length : Int) ≤ i := by omega
          have hlt' : (i : Int) < st.length := by omega
          have hbel : Below w0.heap.size w0 wr := (HB.out.1.trans (HB.out.2.mono hw01)).trans ⟨hW.iv.os, hW.iv.tape, hW.iv.output, hW.iv.size, fun k hk => hW.iv.block k (by omega) (.inl hk)⟩
          have S' := HS.out.on hbel
          obtain ⟨q, qo, qc, hq⟩ := S'.row.some (by omega) (by omega)
          simp only [Value.slice.injEq, Option.some.injEq] at hq
          obtain ⟨rfl, _, rfl⟩ := hq
          have l0 := HS.out.row.cell (i * 2) _ (stCells_at vs st.length i hlt).1
          have l1 := HS.out.row.cell (i * 2 + 1) _ (stCells_at vs st.length i hlt).2
          rw [← Nat.add_assoc] at l1
          have hq0 : q < w0.heap.size := World.block_lt_of_cell? _ _ l0
          have l0w := (hbel.cell (p := ⟨q, qo + i * 2, none⟩) hq0).trans l0
          obtain ⟨lb, lcc, hlq⟩ := row_some hW.lrow (by omega)
          simp only [Value.slice.injEq] at hlq
          obtain ⟨rfl, rfl, rfl⟩ := hlq
          obtain ⟨nb, ncc, hnq⟩ := row_some hW.nrow (by omega)
          simp only [Value.slice.injEq] at hnq
          obtain ⟨rfl, rfl, rfl⟩ := hnq
          have hWd := hW.on ((Below.refl _ _).drew)
          have hbd : Below w0.heap.size w0 wr.drew := hbel.trans ((Below.refl _ _).drew)
          have c1 : wr.drew.cell? ⟨w.heap.size, 1, none⟩ = some (.slice (some ⟨lb, 0, none⟩) st.length lc) := hWd.c1
          have li : wr.drew.cell? ⟨lb, i, none⟩ = some (rs i).1 := (hWd.lrow.cellAt i (by omega)).trans (by simp [rs1, hlt])
          have l0w : wr.drew.cell? ⟨q, qo + i * 2, none⟩ = some (vs i).1 := (hbd.cell (p := ⟨q, qo + i * 2, none⟩) hq0).trans l0
          have HWL := hide (wholeLevels_any (HS.out.lev i hlt) (HR.out.lev i hlt) hbd (hWd.lev i (Nat.le_refl _) hlt))
          have HWW := hide hWd
          have HBE := hide hbd
          have HLI : Hid (∀ u : World, u.ownsRow w0.heap.size 123 1 (.slice (some ⟨lb, 0, none⟩) st.length lc) st.length (rs1 rs st.length) → u.cell? ⟨lb, i, none⟩ = some (rs i).1) := fun u h => (h.cellAt i (by omega)).trans (by simp [rs1, hlt])
          have HNI : Hid (∀ u : World, u.ownsRow w0.heap.size 24 1 (.slice (some ⟨nb, 0, none⟩) st.length nc) st.length (rs2 rs st.length) → u.cell? ⟨nb, i, none⟩ = some (rs i).2) := fun u h => (h.cellAt i (by omega)).trans (by simp [rs2, hlt])
          have HBG : Hid (∀ u : World, wr.drew.grownBy u (rs i).1.ownBlock → Below w0.heap.size w0 u) := fun u g1 => HBE.out.trans ⟨g1.os, g1.tape, g1.output, g1.size, fun k hk => g1.block k (Nat.lt_of_lt_of_le hk HBE.out.size) (fun e => by have := ((HK.out.ls.lev i hlt).lt k e.symm).1; omega)⟩
          clear hW hbel S' hWd hbd
          go_wp2_with fail
          go_region_held3 (fun w' => w'.cell? ⟨w.heap.size, 1, none⟩ = some (.slice (some ⟨lb, 0, none⟩) st.length lc) ∧ w'.cell? ⟨lb, i, none⟩ = some (rs i).1 ∧ w'.cell? ⟨q, qo + i * 2, none⟩ = some (vs i).1) ((go_keep; done))
            (first | (go_at_call 137; refine HWL.out.mono ?_; rintro e u1 ⟨rfl, T1, g1⟩; obtain ⟨o1, o2, o3, o4, o5, o6, o7⟩ := HWW.out.one HK.out hlt g1; have hbel1 := HBG.out _ g1; have z0 : u1.cell? ⟨w.heap.size, 1, none⟩ = some (.slice (some ⟨lb, 0, none⟩) st.length lc) := (by simp [World.cell?, o2]); have z1 := HLI.out _ o4; have z2 := (hbel1.cell (p := ⟨q, qo + i * 2, none⟩) hq0).trans l0))
          have hd1 : Below u1.heap.size u1 u1.drew := (Below.refl _ _).drew
          have hbd1 : Below w0.heap.size w0 u1.drew := hbel1.trans ((Below.refl _ _).drew)
          have c2 : u1.drew.cell? ⟨w.heap.size, 2, none⟩ = some (.slice (some ⟨nb, 0, none⟩) st.length nc) := by
            have h9 : u1.drew.heap[w.heap.size]? = _ := o2
            simp [World.cell?, h9]
          have ni := HNI.out u1.drew o5
          have l1w : u1.drew.cell? ⟨q, qo + i * 2 + 1, none⟩ = some (vs i).2 := (hbd1.cell (p := ⟨q, qo + i * 2 + 1, none⟩) hq0).trans l1
          have HO7 := hide ((Of.of_below (t := 1000000) hd1).lnt (o7 i (Nat.le_refl _) hlt) (by decide))
          have HWI := hide (wholeInts_any (HS.out.nxt i hlt) (HR.out.nxt i hlt) hbd1 HO7.out)
          have hg1d : wr.drew.grownBy u1.drew (rs i).1.ownBlock := ⟨g1.os, g1.tape, g1.output, g1.size, g1.block⟩
          have HG1 := hide hg1d
          have HT1 := hide ((Of.of_below (t := 1000000) hd1).lnt T1 (by decide))
          have HB1 := hide hbd1
          have HBG2 : Hid (∀ u : World, u1.drew.grownBy u (rs i).2.ownBlock → Below w0.heap.size w0 u) := fun u g2 => HB1.out.trans ⟨g2.os, g2.tape, g2.output, g2.size, fun k hk => g2.block k (Nat.lt_of_lt_of_le hk HB1.out.size) (fun e => by have := ((HK.out.ls.nxt i hlt).lt k e.symm).1; omega)⟩
          clear HWL T1 g1 o1 o2 o3 o4 o5 o6 o7 hbel1 l0w c1 li HBE z0 z1 z2 hd1 hbd1 hg1d HLI HBG
          rename_i hHeld
          clear hHeld
          go_wp2_with fail
          go_region_held3 (fun w' => w'.cell? ⟨w.heap.size, 2, none⟩ = some (.slice (some ⟨nb, 0, none⟩) st.length nc) ∧ w'.cell? ⟨nb, i, none⟩ = some (rs i).2 ∧ w'.cell? ⟨q, qo + i * 2 + 1, none⟩ = some (vs i).2) ((go_keep; done))
            (first | (go_at_call 138; refine HWI.out.mono ?_; rintro e u2 ⟨rfl, T2, g2⟩; have W2 := HWW.out.two HK.out hlt HG1.out g2; have hbel2 := HBG2.out _ g2; have z0 : u2.cell? ⟨w.heap.size, 2, none⟩ = some (.slice (some ⟨nb, 0, none⟩) st.length nc) := W2.c2; have z1 := HNI.out _ W2.nrow; have z2 := (hbel2.cell (p := ⟨q, qo + i * 2 + 1, none⟩) hq0).trans l1))
          rename_i hHeld
          clear hHeld
          have T1 := (HO7.out.of g2).lnt HT1.out (by decide)
          have hc0 := W2.all.cell (i * 2) (by omega)
          have hc1 := W2.all.cell (i * 2 + 1) (by omega)
          rw [HF.out _ (Nat.le_refl _), if_pos (by omega), show stc rs (i * 2) = (rs i).1 by unfold stc; rw [if_pos (by omega), show i * 2 / 2 = i by omega]] at hc0
          rw [HF.out _ (by omega), if_pos (by omega), show stc rs (i * 2 + 1) = (rs i).2 by unfold stc; rw [if_neg (by omega), show (i * 2 + 1) / 2 = i by omega]] at hc1
          have y0 := (hbel2.cell (p := ⟨q, qo + i * 2, none⟩) hq0).trans l0
          have y1 := (hbel2.cell (p := ⟨q, qo + i * 2 + 1, none⟩) hq0).trans l1
          obtain ⟨va1, vc1, hv1⟩ := (HS.out.lev i hlt).any
          obtain ⟨va2, vc2, hv2⟩ := (HS.out.nxt i hlt).any
          obtain ⟨ra1, rc1, hr1⟩ := T1.form (fun e => by rw [hv1] at e; simp only [Value.slice.injEq] at e; exact e.2.1)
          obtain ⟨ra2, rc2, hr2⟩ := T2.form (fun e => by rw [hv2] at e; simp only [Value.slice.injEq] at e; exact e.2.1)
          have k1 : 0 < (stAt st i).levels.length → ∃ g, ra1 = some ⟨g, 0, none⟩ ∧ u2.cell? ⟨g, 0, none⟩ = some (.int .i64 1) ∧ u2.cell? ⟨g, 1, none⟩ = some (.int .i64 1) := by
            intro hp
            rcases T1 with ⟨h1, _⟩ | ⟨_, g, _, h2, K⟩
            · rw [hv1] at h1; simp only [Value.slice.injEq] at h1; omega
            · rw [hr1] at h2
              simp only [Value.slice.injEq] at h2
              exact ⟨g, h2.1, K.cell 0 (by omega), K.cell 1 (by omega)⟩
          have k2 : 0 < (stAt st i).next.length → ∃ g, ra2 = some ⟨g, 0, none⟩ ∧ u2.cell? ⟨g, 0, none⟩ = some (.int .i64 0) := by
            intro hp
            rcases T2 with ⟨h1, _⟩ | ⟨_, g, _, h2, K⟩
            · rw [hv2] at h1; simp only [Value.slice.injEq] at h1; omega
            · rw [hr2] at h2
              simp only [Value.slice.injEq] at h2
              exact ⟨g, h2.1, K.cell 0 (by omega)⟩
          rw [hr1] at hc0
          rw [hr2] at hc1
          rw [hv1] at y0
          rw [hv2] at y1
          have fA0 := W2.all.frz (i * 2)
          have fA1 := W2.all.frz (i * 2 + 1)
          have HW2 := hide W2
          have HREL : Hid (∀ u : World, Below u2.heap.size u2 u → WN w0 w1 w ((u.setCell ⟨A, i * 2, none⟩ (.slice none 0 0)).setCell ⟨A, i * 2 + 1, none⟩ (.slice none 0 0)) st vs rs A (.slice (some ⟨lb, 0, none⟩) st.length lc) (.slice (some ⟨nb, 0, none⟩) st.length nc) (i + 1) (fun k => if k = i * 2 + 1 then .slice none 0 0 else if k = i * 2 then .slice none 0 0 else f k)) := fun u hu => ((HW2.out.on hu).set HK.out (i * 2) (.slice none 0 0)).set HK.out (i * 2 + 1) (.slice none 0 0)
          have HFN : Hid (∀ j, (i + 1) * 2 ≤ j → (if j = i * 2 + 1 then .slice none 0 0 else if j = i * 2 then .slice none 0 0 else f j) = if j < st.length * 2 then stc rs j else .slice none 0 0) := fun j hj => by
            rw [if_neg (by omega), if_neg (by omega)]; exact HF.out j (by omega)
          generalize (stAt st i).levels.length = m1 at *
          generalize (stAt st i).next.length = m2 at *
          clear HO7 T1 T2 W2 HT1 HWI HWW HG1 HB1 HBG2 HNI g2 hbel2 z0 z1 z2 hr1 hr2 hv1 hv2 l0 l1 c2 ni l1w
          by_cases h1 : m1 = 0
          · subst h1
            by_cases h2 : m2 = 0
            · subst h2
              clear k1 k2
              go_wp2_with fail
              go_quiet (fail)
              go_wp2_with fail
              go_roundw
              case rel => exact ⟨i + 1, _, by simp, by go_num, by omega, HREL.out _ (below_drewN (Below.refl _ _) _), HFN.out⟩
              case measure => simp [intOf]; omega
            · obtain ⟨g2, rfl, b0⟩ := k2 (by omega)
              have e2 : ((m2 : Int) == 0) = false := by simp; omega
              have p2 : (0 : Int) < m2 := by omega
              have p2' : 0 < m2 := by omega
              clear k1 k2
              go_wp2_with fail
              go_quiet (fail)
              go_wp2_with fail
              go_roundw
              case rel => exact ⟨i + 1, _, by simp, by go_num, by omega, HREL.out _ (below_drewN (Below.refl _ _) _), HFN.out⟩
              case measure => simp [intOf]; omega
          · obtain ⟨g1, rfl, a0, a1⟩ := k1 (by omega)
            have e1 : ((m1 : Int) == 0) = false := by simp; omega
            have p1 : (0 : Int) < m1 := by omega
            have p1' : 0 < m1 := by omega
            by_cases h2 : m2 = 0
            · subst h2
              clear k1 k2
              go_wp2_with fail
              go_quiet (fail)
              go_wp2_with fail
              go_roundw
              case rel => exact ⟨i + 1, _, by simp, by go_num, by omega, HREL.out _ (below_drewN (Below.refl _ _) _), HFN.out⟩
              case measure => simp [intOf]; omega
            · obtain ⟨g2, rfl, b0⟩ := k2 (by omega)
              have e2 : ((m2 : Int) == 0) = false := by simp; omega
              have p2 : (0 : Int) < m2 := by omega
              have p2' : 0 < m2 := by omega
              clear k1 k2
              go_wp2_with fail
              go_quiet (fail)
              go_wp2_with fail
              go_roundw
              case rel => exact ⟨i + 1, _, by simp, by go_num, by omega, HREL.out _ (below_drewN (Below.refl _ _) _), HFN.out⟩
              case measure => simp [intOf]; omega
        · by_cases hlt8 : i < st.length + 8
          · have hlt8' : (i : Int) < (st.length : Int) + 8 := by omega
            have hge : (st.length : Int) ≤ i := by omega
            have hc0 := hW.all.cell (i * 2) (by omega)
            have hc1 := hW.all.cell (i * 2 + 1) (by omega)
            rw [HF.out _ (Nat.le_refl _), if_neg (by omega)] at hc0
            rw [HF.out _ (by omega), if_neg (by omega)] at hc1
            have fA0 := hW.all.frz (i * 2)
            have fA1 := hW.all.frz (i * 2 + 1)
            have HW2 := hide hW
            have HREL : Hid (∀ (u : World) (x y : Value), Below wr.heap.size wr u → WN w0 w1 w ((u.setCell ⟨A, i * 2, none⟩ x).setCell ⟨A, i * 2 + 1, none⟩ y) st vs rs A (.slice la ln lc) (.slice na nn nc) (i + 1) (fun k => if k = i * 2 + 1 then y else if k = i * 2 then x else f k)) := fun u x y hu => (((HW2.out.on hu).set HK.out (i * 2) x).set HK.out (i * 2 + 1) y).skip
            have HFN : Hid (∀ (x y : Value) (j : Nat), (i + 1) * 2 ≤ j → (if j = i * 2 + 1 then y else if j = i * 2 then x else f j) = if j < st.length * 2 then stc rs j else .slice none 0 0) := fun x y j hj => by
              rw [if_neg (by omega), if_neg (by omega)]; exact HF.out j (by omega)
            clear hW
            go_wp2_with fail
            go_roundw
            case rel => exact ⟨i + 1, _, by simp, by go_num, by omega, (HREL.out wr _ _ (Below.refl _ _)).on ((Below.refl _ _).alloc (Nat.le_refl _) _), HFN.out _ _⟩
            case measure => simp [intOf]; omega
          · obtain rfl : i = st.length + 8 := by omega
            have hnl : ¬ (((st.length + 8 : Nat) : Int) < (st.length : Int) + 8) := by omega
            have HW2 := hide hW
            clear hW
            go_wp2_with fail
            go_ret
            exact ⟨rfl, HW2.out.iv⟩
end
end Go.Proofs.YtcnmbldikjljeaaGreatDoor
