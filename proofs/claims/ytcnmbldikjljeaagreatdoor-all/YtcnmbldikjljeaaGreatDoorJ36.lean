import Derived.Test.YtcnmbldikjljeaaGreatDoorJ35
import Derived.Deep.RegionLaw
import Derived.Deep.AppendLies
import Derived.Test.YtcnmbldikjljeaaGreatDoorJ09
namespace Go.Proofs.YtcnmbldikjljeaaGreatDoor
open Go.RowKit

theorem deskInfo : (Tryz.prog.info? 155).map (fun i => (i.zero, i.size, i.bytes)) = some (some (.agg #[.pointer none, .pointer none]), 2, 16) := by kernel_rfl
/-- a pair of dockets is put into the row -/
theorem desk_put {own : Nat → Nat} {w u : World} {wb : Nat} {v0 v1 v2 v3 : Value} {ds : List (Nat × Nat)} {p g gg cap : Nat} (hl : ∀ k, own k ≠ 0 → k < w.heap.size) (hw : w.heap[wb]? = some (.cells #[v0, v1, v2, v3] 82 (0, 0))) (hwt : own wb = 1) (D : MRow own 3 w 155 2 v1 ds.length (yrCells ds))
    (hown : u.ownsRow 0 155 2 (.slice (some ⟨gg, 0, none⟩) (ds.length + 1) cap) (ds.length + 1) (yrCells ds ++ [P0 p, P0 g])) (hg : (w.alloc (.cells #[P0 p, P0 g] 155)).grownBy u v1.ownBlock) (hat : v1.ownBlock = some gg ∨ gg = w.heap.size + 1) :
    u.cell? ⟨wb, 1, none⟩ = some v1 ∧ u.frozen? ⟨wb, 1, none⟩ = false ∧ KeptS own (tagOf own (some gg) 3) (fun x => x = 1 ∨ x = 3) w (u.setCell ⟨wb, 1, none⟩ (.slice (some ⟨gg, 0, none⟩) (ds.length + 1) cap)) ∧ (u.setCell ⟨wb, 1, none⟩ (.slice (some ⟨gg, 0, none⟩) (ds.length + 1) cap)).heap[wb]? = some (.cells #[v0, .slice (some ⟨gg, 0, none⟩) (ds.length + 1) cap, v2, v3] 82 (0, 0)) ∧
      MRow (tagOf own (some gg) 3) 3 (u.setCell ⟨wb, 1, none⟩ (.slice (some ⟨gg, 0, none⟩) (ds.length + 1) cap)) 155 2 (.slice (some ⟨gg, 0, none⟩) (ds.length + 1) cap) (ds.length + 1) (yrCells (ds ++ [(p, g)])) := by
  have hwl : wb < w.heap.size := (Array.getElem?_eq_some_iff.1 hw).1
  have hne : some wb ≠ v1.ownBlock := fun e => by have := D.2 wb e.symm; omega
  have hwu : u.heap[wb]? = some (.cells #[v0, v1, v2, v3] 82 (0, 0)) := (hg.block wb (by simp; omega) hne).trans ((Below.heap_alloc w _ wb hwl).trans hw)
  have hsz := hg.size
  simp at hsz
  have o2 : Of 82 u (u.setCell ⟨wb, 1, none⟩ (.slice (some ⟨gg, 0, none⟩) (ds.length + 1) cap)) := .set hwu _
  refine ⟨by simp [World.cell?, hwu], by simp [World.frozen?, hwu], ?_, ?_, ?_, ?_⟩
  · refine ⟨hg.os, hg.tape, hg.output, by simpa using (by omega : w.heap.size ≤ u.heap.size), fun k hk hT => ?_, fun k hk => ?_, fun k hk h0 => ?_, fun k => ?_⟩
    · rw [Below.heap_setCell _ _ _ k (fun e => hT (.inl (by simp at e; rw [e]; exact hwt))), hg.block k (by simp; omega) (fun e => hT (.inr (D.2 k e.symm))), Below.heap_alloc w _ k hk]
    · unfold tagOf
      split
      · rename_i e
        obtain rfl : k = gg := by simpa using e
        rcases hat with a | a
        · exact (D.2 k a).symm
        · omega
      · rfl
    · unfold tagOf at h0
      split at h0
      · rename_i e
        obtain rfl : k = gg := by simpa using e
        have := (hown.lt k rfl).2
        simpa using this
      · exact absurd (hl k h0) (by omega)
    · rcases tagOf_nt (own := own) (t := 3) (b := some gg) k with a | a | a
      · exact .inl a
      · exact .inr (.inl a)
      · exact .inl (by omega)
  · have := heap_setCell_same _ _ 1 _ _ (.slice (some ⟨gg, 0, none⟩) (ds.length + 1) cap) hwu
    simpa using this
  · rw [yrCells_append]
    exact o2.row hown (by decide)
  · intro k hk
    unfold tagOf
    rw [if_pos (by simpa [Value.ownBlock] using hk.symm)]
section
variable {PS : PSt} {w : World} {sv : Value} {st : List Stg} {vs : Nat → Value × Value} {wb : Nat}
set_option maxRecDepth 100000 in
set_option maxHeartbeats 8000000 in
/-- New of stages that go together: one pair of dockets more -/
theorem begun_newOk (P : Prg PS) (S : SL w sv st vs) (R : Rm st) (hyes : checkL st = true) {own : Nat → Nat} (hl : ∀ k, own k ≠ 0 → k < w.heap.size) {q n cap : Nat} {v1 v2 v3 : Value} (hw : w.heap[wb]? = some (.cells #[.slice (some ⟨q, 0, none⟩) n cap, v1, v2, v3] 82 (0, 0))) (hwt : own wb = 1) {ds : List (Nat × Nat)} (D : MRow own 3 w 155 2 v1 ds.length (yrCells ds)) (hds : ds.length ≤ 2000000000000) {t1 t2 : Nat} (h1 : 10 ≤ t1) (h2 : 10 ≤ t2) (h12 : t1 ≠ t2) (htt : ∀ k, own k ≠ t1) (hn : 0 < n) (hn2 : (n : Int) ≤ 9223372036854775807) (i : Nat) (hi : i < n) {c r : Nat} {wk : Nat → List (Int × Int)} {fr F : Nat → Bool} (Y : YM own w (c, r) wk fr F) (hc : w.cell? ⟨q, i * 2, none⟩ = some (P0 c)) (hr : w.cell? ⟨q, i * 2 + 1, none⟩ = some (P0 r))
    (a b dd : Int) (ha0 : -9223372036854775808 ≤ a) (ha1 : a ≤ 9223372036854775807) (hpk : pk a n = i) (hb : ¬ b = 1) (s : ByteArray) :
    Calls Tryz.prog 57 #[P0 wb, .agg #[.int .i64 10, .int .i64 a, .int .i64 b, .int .i64 dd, .string s, sv]] w fun e w' => e = .returned (.bool true) ∧ ∃ own' v1' p g, KeptS own own' (fun x => x = 1 ∨ x = 3 ∨ x = t1 ∨ x = t2) w w' ∧ w'.heap[wb]? = some (.cells #[.slice (some ⟨q, 0, none⟩) n cap, v1', v2, v3] 82 (0, 0)) ∧ MRow own' 3 w' 155 2 v1' (ds.length + 1) (yrCells (ds ++ [(p, g)])) ∧ DS PS own' w' t1 t2 p g F st ⟨0, 0, 0, []⟩ := by
  have hv0 : w.cell? ⟨wb, 0, none⟩ = some (.slice (some ⟨q, 0, none⟩) n cap) := by simp [World.cell?, hw]
  have HPRE := hide (And.intro hl (And.intro hw (And.intro hwt (And.intro D (And.intro htt Y)))))
  obtain ⟨va, vc, hv1⟩ := row_any D.1
  subst hv1
  obtain ⟨i0, hi0, hq0, hq1, hq2⟩ := info_parts deskInfo
  have HI := hide hi0
  clear hl hw hwt D htt Y hi0
  have HB := hide (box_facts w (.int .i64 10) (.int .i64 a) (.int .i64 b) (.int .i64 dd) (.string s) sv 84)
  obtain ⟨sa, sc, hsv⟩ := S.row.any
  have hwb : wb < w.heap.size := World.block_lt_of_cell? _ _ hv0
  have hql : q < w.heap.size := World.block_lt_of_cell? _ _ hc
  have hn' : (0 : Int) < n := by omega
  have HL := hide (fun u : World => lpick_any a n u ha0 ha1 hn' hn2)
  rw [hpk] at HL
  have hi' : (i : Int) < n := by omega
  have HSR := hide (And.intro S R)
  clear S R hpk
  subst hsv
  go_enter Tryz.func57, Tryz.ntmps57
  go_wp2_with fail
  obtain ⟨bo, hsz, q0, q1, q2, q3, q4, q5⟩ := HB.out
  have hd : ∀ (u : World) (p : Addr), u.drew.cell? p = u.cell? p := fun _ _ => rfl
  rw [hd] at q0 q1 q2 q3 q4 q5
  generalize w.alloc (Obj.cells #[.int .i64 10, .int .i64 a, .int .i64 b, .int .i64 dd, .string s, .slice sa st.length sc] 84) = wo at *
  have So := HSR.out.1.on bo
  refine (lent_any So HSR.out.2).mono ?_
  rintro e w1 ⟨xv, rfl, L, b1⟩
  obtain ⟨al, lv, nv, rs, rfl, SW1, ⟨a1, n1, c1, rfl⟩, ⟨a2, n2, c2, rfl⟩, ⟨a3, n3, c3, rfl⟩⟩ := L.sw So HSR.out.2
  have hs1 := b1.size
  have hws : w.heap.size < w1.heap.size := by omega
  have hBB : ∀ o o2 : Obj, Below w1.heap.size w1 ((w1.alloc o).alloc o2) := fun o o2 => ((Below.refl w1.heap.size w1).alloc (Nat.le_refl _) o).alloc (by simp) o2
  have f0 : ∀ o : Obj, (w1.alloc o).cell? ⟨w.heap.size, 0, none⟩ = some (.int .i64 10) := fun o => (((Below.refl w1.heap.size w1).alloc (Nat.le_refl _) o).cell (by simpa using hws)).trans ((b1.cell (p := ⟨w.heap.size, 0, none⟩) hsz).trans q0)
  have hwo : ∀ (p : Addr) v, p.block < w.heap.size → w.cell? p = some v → ∀ o o2 : Obj, ((w1.alloc o).alloc o2).cell? p = some v := fun p v hp h o o2 => ((hBB o o2).cell (by have := bo.size; omega)).trans ((b1.cell (by have := bo.size; omega)).trans ((bo.cell hp).trans h))
  have f1 : ∀ o o2 : Obj, ((w1.alloc o).alloc o2).cell? ⟨w.heap.size, 1, none⟩ = some (.int .i64 a) := fun o o2 => ((hBB o o2).cell (by simpa using hws)).trans ((b1.cell (p := ⟨w.heap.size, 1, none⟩) hsz).trans q1)
  have f2 : ∀ o o2 : Obj, ((w1.alloc o).alloc o2).cell? ⟨w.heap.size, 2, none⟩ = some (.int .i64 b) := fun o o2 => ((hBB o o2).cell (by simpa using hws)).trans ((b1.cell (p := ⟨w.heap.size, 2, none⟩) hsz).trans q2)
  have g0 := hwo ⟨wb, 0, none⟩ _ hwb hv0
  have gc := hwo ⟨q, i * 2, none⟩ _ hql hc
  have gr := hwo ⟨q, i * 2 + 1, none⟩ _ hql hr
  have HALL := hide (And.intro bo (And.intro So (And.intro b1 (And.intro L (And.intro hBB SW1)))))
  have HQ5 := hide q5
  clear bo So b1 L SW1 q0 q1 q2 q3 q4 q5 HB hd hwo hBB
  go_wp2_with fail
  have d0 := g0 (Obj.cells #[.slice a1 n1 c1, .slice a2 n2 c2, .slice a3 n3 c3] 186) (Obj.cells #[.pointer none, .pointer none] 152)
  have dc := gc (Obj.cells #[.slice a1 n1 c1, .slice a2 n2 c2, .slice a3 n3 c3] 186) (Obj.cells #[.pointer none, .pointer none] 152)
  have dr := gr (Obj.cells #[.slice a1 n1 c1, .slice a2 n2 c2, .slice a3 n3 c3] 186) (Obj.cells #[.pointer none, .pointer none] 152)
  have da := f1 (Obj.cells #[.slice a1 n1 c1, .slice a2 n2 c2, .slice a3 n3 c3] 186) (Obj.cells #[.pointer none, .pointer none] 152)
  have hY : ((w1.alloc (Obj.cells #[.slice a1 n1 c1, .slice a2 n2 c2, .slice a3 n3 c3] 186)).alloc (Obj.cells #[.pointer none, .pointer none] 152)).heap[w1.heap.size + 1]? = some (.cells #[.pointer none, .pointer none] 152 (0, 0)) := by
    have h9 := heap_alloc_new (w1.alloc (Obj.cells #[.slice a1 n1 c1, .slice a2 n2 c2, .slice a3 n3 c3] 186)) (Obj.cells #[.pointer none, .pointer none] 152)
    simpa using h9
  have hX : ((w1.alloc (Obj.cells #[.slice a1 n1 c1, .slice a2 n2 c2, .slice a3 n3 c3] 186)).alloc (Obj.cells #[.pointer none, .pointer none] 152)).heap[w1.heap.size]? = some (.cells #[.slice a1 n1 c1, .slice a2 n2 c2, .slice a3 n3 c3] 186 (0, 0)) := (Below.heap_alloc _ _ _ (by simp)).trans (heap_alloc_new w1 _)
  have hB3 := HALL.out.2.2.2.2.1 (Obj.cells #[.slice a1 n1 c1, .slice a2 n2 c2, .slice a3 n3 c3] 186) (Obj.cells #[.pointer none, .pointer none] 152)
  generalize (w1.alloc (Obj.cells #[.slice a1 n1 c1, .slice a2 n2 c2, .slice a3 n3 c3] 186)).alloc (Obj.cells #[.pointer none, .pointer none] 152) = W3 at *
  have e0 : W3.drew.cell? ⟨wb, 0, none⟩ = _ := d0
  have ec : W3.drew.cell? ⟨q, i * 2, none⟩ = _ := dc
  have er : W3.drew.cell? ⟨q, i * 2 + 1, none⟩ = _ := dr
  have ea : W3.drew.cell? ⟨w.heap.size, 1, none⟩ = _ := da
  have hYd : W3.drew.heap[w1.heap.size + 1]? = some (.cells #[.pointer none, .pointer none] 152 (0, 0)) := hY
  have y0 : W3.drew.cell? ⟨w1.heap.size + 1, 0, none⟩ = some (.pointer none) := by simp [World.cell?, hYd]
  have y1 : W3.drew.cell? ⟨w1.heap.size + 1, 1, none⟩ = some (.pointer none) := by simp [World.cell?, hYd]
  have fy0 : W3.drew.frozen? ⟨w1.heap.size + 1, 0, none⟩ = false := by simp [World.frozen?, hYd]
  have fy1 : W3.drew.frozen? ⟨w1.heap.size + 1, 1, none⟩ = false := by simp [World.frozen?, hYd]
  have y0' : W3.cell? ⟨w1.heap.size + 1, 0, none⟩ = some (.pointer none) := y0
  have y1' : W3.cell? ⟨w1.heap.size + 1, 1, none⟩ = some (.pointer none) := y1
  have fy0' : W3.frozen? ⟨w1.heap.size + 1, 0, none⟩ = false := fy0
  have fy1' : W3.frozen? ⟨w1.heap.size + 1, 1, none⟩ = false := fy1
  have nw : wb ≠ w1.heap.size + 1 := by omega
  have nq : q ≠ w1.heap.size + 1 := by omega
  have no : w.heap.size ≠ w1.heap.size + 1 := by omega
  have HXY := hide (And.intro hX (And.intro hY hB3))
  clear d0 dc dr da hX hY hYd hB3 g0 gc gr f0 f1 f2
  have ec' : W3.drew.cell? ⟨q, i * 2, none⟩ = some (.pointer (some ⟨c, 0, none⟩)) := ec
  have er' : W3.drew.cell? ⟨q, i * 2 + 1, none⟩ = some (.pointer (some ⟨r, 0, none⟩)) := er
  clear ec er
  go_region_with (first | (go_at_call 59; refine (HL.out _).mono ?_; rintro e w' ⟨rfl, rfl⟩))
  all_goals
    obtain ⟨W4, hW4⟩ : ∃ W4, ((W3.setCell ⟨w1.heap.size + 1, 0, none⟩ (.pointer (some ⟨c, 0, none⟩))).setCell ⟨w1.heap.size + 1, 1, none⟩ (.pointer (some ⟨r, 0, none⟩))).drew = W4 := ⟨_, rfl⟩
    have hB4 : Below w1.heap.size w1 W4 := by rw [← hW4]; exact ((HXY.out.2.2.setCell (p := ⟨w1.heap.size + 1, 0, none⟩) (by simp) _).setCell (p := ⟨w1.heap.size + 1, 1, none⟩) (by simp) _).drew
    have hX4 : W4.heap[w1.heap.size]? = some (.cells #[.slice a1 n1 c1, .slice a2 n2 c2, .slice a3 n3 c3] 186 (0, 0)) := by
      rw [← hW4]
      show ((W3.setCell ⟨w1.heap.size + 1, 0, none⟩ (.pointer (some ⟨c, 0, none⟩))).setCell ⟨w1.heap.size + 1, 1, none⟩ (.pointer (some ⟨r, 0, none⟩))).heap[w1.heap.size]? = _
      rw [Below.heap_setCell _ _ _ _ (by simp), Below.heap_setCell _ _ _ _ (by simp)]; exact HXY.out.1
    have hY4 : W4.heap[w1.heap.size + 1]? = some (.cells #[P0 c, P0 r] 152 (0, 0)) := by
      rw [← hW4]
      have e1 := heap_setCell_same _ _ 0 _ _ (.pointer (some ⟨c, 0, none⟩)) HXY.out.2.1
      have e2 := heap_setCell_same _ _ 1 _ _ (.pointer (some ⟨r, 0, none⟩)) e1
      show ((W3.setCell ⟨w1.heap.size + 1, 0, none⟩ (.pointer (some ⟨c, 0, none⟩))).setCell ⟨w1.heap.size + 1, 1, none⟩ (.pointer (some ⟨r, 0, none⟩))).heap[w1.heap.size + 1]? = _
      simpa using e2
    rw [hW4]
    clear hW4
    have x0 : W4.cell? ⟨w1.heap.size, 0, none⟩ = some (.slice a1 n1 c1) := by simp [World.cell?, hX4]
    have y0c : W4.cell? ⟨w1.heap.size + 1, 0, none⟩ = some (P0 c) := by simp [World.cell?, hY4]
    have hlY : w1.heap.size + 1 < W4.heap.size := (Array.getElem?_eq_some_iff.1 hY4).1
    -- the owners so far: what is lent is nobody's to keep
    obtain ⟨own1, hown1⟩ : ∃ own1, own1 = lentT own wo.heap.size w1.heap.size := ⟨_, rfl⟩
    have kwo : KeptS own own (fun _ => False) w wo := .of_below HALL.out.1 HPRE.out.1
    have kL : KeptS own own1 (fun _ => False) w w1 := kwo.trans (by rw [hown1]; exact lentT_kept HALL.out.2.2.1 kwo.bound)
    have k4 : KeptS own own1 (fun _ => False) w W4 := kL.trans (.of_below hB4 kL.bound)
    have Y4 := HPRE.out.2.2.2.2.2.kept k4 id
    have HNW := hide (P.newOk (HALL.out.2.2.2.2.2.on hB4) Y4.cal Y4.len Y4.same hyes HSR.out.2 k4.bound t1 (by omega))
    have h1t : ∀ k, own1 k ≠ t1 := fun k => by
      rw [hown1]
      unfold lentT
      split
      · omega
      · exact HPRE.out.2.2.2.2.1 k
    have h9t : ∀ k, wo.heap.size ≤ k → k < w1.heap.size → own1 k = 9 := fun k ha hb => by
      rw [hown1]
      unfold lentT
      rw [if_pos ⟨ha, hb⟩]
    have HXY4 := hide (And.intro hX4 (And.intro hY4 (And.intro hB4 (And.intro k4 (And.intro Y4 (And.intro h1t h9t))))))
    clear hX4 hY4 hB4 HXY e0 ea y0 y1 fy0 fy1 y0' y1' fy0' fy1' ec' er' nw nq no HL kwo kL k4 Y4 h1t h9t hown1
    go_wp2_with fail
    refine HNW.out.mono ?_
    rintro e w2 ⟨p, own2, rfl, hp, PS2, k2⟩
    have hX := (k2.block w1.heap.size (by omega) (HXY4.out.2.2.2.2.2.1 _)).trans HXY4.out.1
    have hY := (k2.block (w1.heap.size + 1) hlY (HXY4.out.2.2.2.2.2.1 _)).trans HXY4.out.2.1
    have x0 : w2.cell? ⟨w1.heap.size, 0, none⟩ = some (.slice a1 n1 c1) := by simp [World.cell?, hX]
    have x1 : w2.cell? ⟨w1.heap.size, 1, none⟩ = some (.slice a2 n2 c2) := by simp [World.cell?, hX]
    have x2 : w2.cell? ⟨w1.heap.size, 2, none⟩ = some (.slice a3 n3 c3) := by simp [World.cell?, hX]
    have hs4 := HXY4.out.2.2.1.size
    have hs42 := k2.size
    have hb12 : Below w1.heap.size w1 w2 := HXY4.out.2.2.1.trans ⟨k2.os, k2.tape, k2.output, k2.size, fun k hk => k2.block k (by omega) (HXY4.out.2.2.2.2.2.1 _)⟩
    have z5 := (hb12.cell (p := ⟨w.heap.size, 5, none⟩) hws).trans ((HALL.out.2.2.1.cell (p := ⟨w.heap.size, 5, none⟩) hsz).trans HQ5.out)
    have HWH := hide (whole_any HALL.out.2.1 HSR.out.2 HALL.out.2.2.1 HALL.out.2.2.2.1 hb12)
    have HB2 := hide hb12
    have HY := hide hY
    have HK2 := hide (And.intro PS2 k2)
    have hs2 := hb12.size
    have hs2' : w1.heap.size + 1 < w2.heap.size := (Array.getElem?_eq_some_iff.1 hY).1
    clear hX hY hb12 HNW y0c PS2 k2
    go_wp2_with fail
    refine HWH.out.mono ?_
    rintro e w3 ⟨rfl, iv⟩
    have hb3 : Below wo.heap.size wo w3 := (HALL.out.2.2.1.trans (HB2.out.mono hs1)).trans ⟨iv.os, iv.tape, iv.output, iv.size, fun k hk => iv.block k (by omega) (.inl hk)⟩
    have hY3 := (iv.block (w1.heap.size + 1) hs2' (.inr (by omega))).trans HY.out
    have y1 : w3.cell? ⟨w1.heap.size + 1, 1, none⟩ = some (P0 r) := by simp [World.cell?, hY3]
    have y5 := (hb3.cell (p := ⟨w.heap.size, 5, none⟩) hsz).trans HQ5.out
    have kI : KeptS own2 own2 (fun x => x = 9) w2 w3 := iv.kept (fun k ha hb => by rw [HK2.out.2.same k (by omega)]; exact HXY4.out.2.2.2.2.2.2 k ha hb) HK2.out.2.bound
    have R3 := (HXY4.out.2.2.2.2.1.ref.kept HK2.out.2 (by omega)).kept kI (by omega)
    have HRN := hide (refNewOk_any (HALL.out.2.1.on hb3) R3.unro hyes (fun i hi => by have := HSR.out.2.nxt i hi; omega))
    have k3 : KeptS own own2 (fun x => x = 1 ∨ x = 3 ∨ x = t1 ∨ x = t2) w w3 := by
      refine ⟨kI.os.trans (HK2.out.2.os.trans HXY4.out.2.2.2.1.os), kI.tape.trans (HK2.out.2.tape.trans HXY4.out.2.2.2.1.tape), kI.output.trans (HK2.out.2.output.trans HXY4.out.2.2.2.1.output), by have := HXY4.out.2.2.2.1.size; have := HK2.out.2.size; have := kI.size; omega, fun k hk _ => ?_, fun k hk => ?_, fun k _ h0 => kI.bound k h0, fun k => ?_⟩
      · exact (hb3.block k (by have := HALL.out.1.size; omega)).trans (HALL.out.1.block k hk)
      · have := HXY4.out.2.2.2.1.size
        exact (HK2.out.2.same k (by omega)).trans (HXY4.out.2.2.2.1.same k hk)
      · rcases HK2.out.2.nt k with a | a | a
        · exact .inl a
        · rcases HXY4.out.2.2.2.1.nt k with b | b | b
          · exact .inl (by omega)
          · exact .inr (.inl (a.trans b))
          · exact b.elim
        · exact .inr (.inr (.inr (.inr (.inl a))))
    have HK3 := hide (And.intro k3 (And.intro (P.kept HK2.out.1 kI (by omega) (by omega)) (And.intro R3 (And.intro kI.bound (HALL.out.1.trans (hb3.mono (by have := HALL.out.1.size; omega)))))))
    clear iv hb3 z5 x0 x1 x2 HWH HB2 HALL hY3 HY kI R3 k3 HK2 HXY4
    go_wp2_with fail
    refine HRN.out.mono ?_
    rintro e w4 ⟨g, sv', vs', rfl, hgl, R4, b4, N4⟩
    obtain ⟨RT4, k5⟩ := RT.new (t := t2) (by omega) HK3.out.2.2.2.1 HK3.out.2.2.1 hgl R4 b4 N4
    have k35 : KeptS own (tagOf own2 (some g) t2) (fun x => x = 1 ∨ x = 3 ∨ x = t1 ∨ x = t2) w w4 := HK3.out.1.trans (k5.mono (fun x hx => .inr (.inr (.inr hx))))
    have DS4 : DS PS (tagOf own2 (some g) t2) w4 t1 t2 p g F st ⟨0, 0, 0, []⟩ := ⟨P.kept HK3.out.2.1 k5 (by omega) h12, _, _, _, _, RT4⟩
    have hbw4 : Below w.heap.size w w4 := HK3.out.2.2.2.2.trans (b4.mono HK3.out.2.2.2.2.size)
    have hw4 := (hbw4.block wb hwb).trans HPRE.out.2.1
    have hwt4 : tagOf own2 (some g) t2 wb = 1 := (k35.same wb hwb).trans HPRE.out.2.2.1
    have D4 : MRow (tagOf own2 (some g) t2) 3 w4 155 2 (.slice va ds.length vc) ds.length (yrCells ds) := ⟨row_on HPRE.out.2.2.2.1.1 hbw4, fun k hk => (k35.same k (HPRE.out.2.2.2.1.1.lt k hk).2).trans (HPRE.out.2.2.2.1.2 k hk)⟩
    have cv1 : w4.cell? ⟨wb, 1, none⟩ = some (.slice va ds.length vc) := by simp [World.cell?, hw4]
    have hwb4 : wb < w4.heap.size := World.block_lt_of_cell? _ _ cv1
    have HF := hide (And.intro k35 (And.intro DS4 (And.intro hw4 (And.intro hwt4 D4))))
    clear RT4 k5 k35 DS4 hbw4 hw4 hwt4 D4 R4 b4 N4 HRN HK3 HPRE HSR HQ5 y1 y5 hgl hp
    go_upto_region 99 with (first | (at_builtin; refine wpList_append_lies _ rfl _ _ 76 rfl 0 155 i0 (.agg #[.pointer none, .pointer none]) 2 16 Tryz.underlying76 HI.out hq0 hq1 hq2 rfl (by decide) (.slice va ds.length vc) ds.length (yrCells ds) (by rfl) (HF.out.2.2.2.2.1.alloc _) ⟨w4.heap.size, 0, none⟩ 1 1 [P0 p, P0 g] (by rfl) (by rfl) (cell_two_new _ _ _ _) (by simp [Value.oneCell']) (by omega) (by unfold maxLen; omega) (by omega) (Nat.zero_le _) (w4.heap.size + 1) (by simp) ?_; intro gg gc w10 hown10 hgrow hat hlt; obtain ⟨hc10, hf10, KK, WW, MM⟩ := desk_put HF.out.1.bound HF.out.2.2.1 HF.out.2.2.2.1 HF.out.2.2.2.2 hown10 hgrow hat; clear hown10 hgrow hat) | fail)
    have HFIN := hide (And.intro KK (And.intro WW MM))
    clear KK WW MM hc10 hf10 hlt
    go_ret
    exact ⟨rfl, _, _, p, g, HF.out.1.trans (HFIN.out.1.mono (fun x hx => hx.elim .inl (fun h => .inr (.inl h)))), HFIN.out.2.1, HFIN.out.2.2, HF.out.2.1.kept P HFIN.out.1 (by omega) (by omega) (by omega)⟩
end
end Go.Proofs.YtcnmbldikjljeaaGreatDoor
namespace Go.Proofs.YtcnmbldikjljeaaGreatDoor
open Go.RowKit

/-- a pair of dockets of the script's, with its bounds -/
def Dsk (PS : PSt) (own : Nat → Nat) (w : World) (i : Nat) (x : Nat × Nat) (N : Int) : Prop :=
  ∃ F st d, DS PS own w (10 + 2 * i) (11 + 2 * i) x.1 x.2 F st d ∧ StOk st ∧ st.length ≤ 6 ∧ DkOk F st d N ∧ DkR st d
theorem Dsk.kept {PS : PSt} {own own' : Nat → Nat} {w w' : World} {i : Nat} {x : Nat × Nat} {N M : Int} {T : Nat → Prop} (P : Prg PS) (h : Dsk PS own w i x N) (k : KeptS own own' T w w') (h0 : ¬ T 0) (h1 : ¬ T (10 + 2 * i)) (h2 : ¬ T (11 + 2 * i)) (hm : N ≤ M) : Dsk PS own' w' i x M := by
  obtain ⟨F, st, d, D, a, b, c, e⟩ := h
  exact ⟨F, st, d, D.kept P k h0 h1 h2, a, b, c.mono hm, e⟩
/-- all that a script has made -/
structure DD (PS : PSt) (W w : World) (own : Nat → Nat) (wb : Nat) (v0 v1 v2 v3 : Value) (ys ds : List (Nat × Nat)) (es ns : List Value) (N : Int) : Prop where
  below : Below W.heap.size W w
  hW : ∀ k, own k ≠ 0 → W.heap.size ≤ k
  lt : ∀ k, own k ≠ 0 → k < w.heap.size
  tags : ∀ k, own k < 10 + 2 * ds.length
  wbc : w.heap[wb]? = some (.cells #[v0, v1, v2, v3] 82 (0, 0))
  wbt : own wb = 1
  yr : MRow own 2 w 152 2 v0 ys.length (yrCells ys)
  dr : MRow own 3 w 155 2 v1 ds.length (yrCells ds)
  er : MRow own 4 w 38 1 v2 es.length es
  nr : MRow own 5 w 64 1 v3 ns.length ns
  yrs : ∀ y ∈ ys, ∃ wk fr F, YM own w y wk fr F
  dks : ∀ (i : Nat) (h : i < ds.length), Dsk PS own w i ds[i] N
  oute : ∀ (i : Nat) (s : Value), es[i]? = some s → Out own w 63 6 (-1000 - (i : Int) / 4) 0 s
  outn : ∀ (i : Nat) (s : Value), ns[i]? = some s → Out own w 67 2 (-1000 - (i : Int) / 4) 0 s
  e4 : es.length % 4 = 0
  n4 : ns.length % 4 = 0
section
variable {PS : PSt} {W w w' : World} {own own' : Nat → Nat} {wb : Nat} {v0 v1 v2 v3 : Value} {ys ds : List (Nat × Nat)} {es ns : List Value} {N M : Int} {T : Nat → Prop}
/-- below W nothing turns -/
theorem DD.low (D : DD PS W w own wb v0 v1 v2 v3 ys ds es ns N) (k : KeptS own own' T w w') (h0 : ¬ T 0) : Below W.heap.size W w' ∧ (∀ k, own' k ≠ 0 → W.heap.size ≤ k) := by
  have hs := D.below.size
  have hz : ∀ j, j < W.heap.size → own j = 0 := fun j hj => Classical.byContradiction fun e => by have := D.hW j e; omega
  refine ⟨D.below.trans ⟨k.os, k.tape, k.output, k.size, fun j hj => k.block j (by omega) (by rw [hz j hj]; exact h0)⟩, fun j hj => ?_⟩
  by_cases h : j < w.heap.size
  · exact D.hW j (by rw [← k.same j h]; exact hj)
  · omega
theorem DD.tag (D : DD PS W w own wb v0 v1 v2 v3 ys ds es ns N) (k : KeptS own own' T w w') {B : Nat} (hB : 10 + 2 * ds.length ≤ B) (hT : ∀ x, T x → x < B) : ∀ j, own' j < B := fun j => by
  have := D.tags j
  rcases k.nt j with a | a | a
  · omega
  · omega
  · exact hT _ a
/-- nothing of World's own has turned: some dockets alone -/
theorem DD.frame (D : DD PS W w own wb v0 v1 v2 v3 ys ds es ns N) (k : KeptS own own' T w w') (h10 : ∀ x, x < 10 → ¬ T x) (hT : ∀ x, T x → x < 10 + 2 * ds.length) (hd : ∀ (i : Nat) (h : i < ds.length), Dsk PS own' w' i ds[i] M) : DD PS W w' own' wb v0 v1 v2 v3 ys ds es ns M := by
  have h0 := h10 0 (by omega)
  have h8 := h10 8 (by omega)
  have hl := D.low k h0
  have hw := k.at D.wbc (by rw [D.wbt]; exact h10 1 (by omega))
  exact ⟨hl.1, hl.2, k.bound, D.tag k (Nat.le_refl _) hT, hw.1, hw.2.trans D.wbt, D.yr.kept k (h10 2 (by omega)), D.dr.kept k (h10 3 (by omega)), D.er.kept k (h10 4 (by omega)), D.nr.kept k (h10 5 (by omega)), fun y hy => by obtain ⟨wk, fr, F, Y⟩ := D.yrs y hy; exact ⟨wk, fr, F, Y.kept k h0⟩, hd, fun i s hs => (D.oute i s hs).kept k h0 h8, fun i s hs => (D.outn i s hs).kept k h0 h8, D.e4, D.n4⟩
theorem DD.on (P : Prg PS) (D : DD PS W w own wb v0 v1 v2 v3 ys ds es ns N) (hb : Below w.heap.size w w') (hm : N ≤ M) : DD PS W w' own wb v0 v1 v2 v3 ys ds es ns M :=
  D.frame (T := fun _ => False) (.of_below hb D.lt) (fun _ _ => id) (fun _ h => h.elim) (fun i h => (D.dks i h).kept P (.of_below (T := fun _ => False) hb D.lt) id id id hm)
/-- a pair of dockets has acted -/
theorem DD.act (P : Prg PS) (D : DD PS W w own wb v0 v1 v2 v3 ys ds es ns N) (i : Nat) (hi : i < ds.length) (k : Two own own' (10 + 2 * i) (11 + 2 * i) w w') (hd : Dsk PS own' w' i ds[i] M) (hm : N ≤ M) : DD PS W w' own' wb v0 v1 v2 v3 ys ds es ns M := by
  obtain ⟨own1, w1, k1, k2⟩ := k.mid
  have kk : KeptS own own' (fun x => x = 10 + 2 * i ∨ x = 11 + 2 * i) w w' := (k1.mono (fun x hx => .inl hx)).trans (k2.mono (fun x hx => .inr hx))
  refine D.frame kk (fun x hx => by omega) (fun x hx => by omega) (fun j hj => ?_)
  by_cases e : j = i
  · subst e; exact hd
  · exact (D.dks j hj).kept P kk (by omega) (by omega) (by omega) hm
/-- a list of events came out, and was kept -/
theorem DD.lists (P : Prg PS) (D : DD PS W w own wb v0 v1 v2 v3 ys ds es ns N) (i : Nat) (hi : i < ds.length) {v2' s0 s1 s2 s3 : Value} (k : KeptS own own' (fun x => x = 10 + 2 * i ∨ x = 11 + 2 * i ∨ x = 1 ∨ x = 4) w w') (hd : Dsk PS own' w' i ds[i] M) (hm : N ≤ M)
    (hw : w'.heap[wb]? = some (.cells #[v0, v1, v2', v3] 82 (0, 0))) (he : MRow own' 4 w' 38 1 v2' (es.length + 1 + 1 + 1 + 1) (es ++ [s0, s1, s2, s3])) (ho : ∀ s ∈ [s0, s1, s2, s3], Out own' w' 63 6 (-1000 - (es.length : Int) / 4) w.heap.size s) :
    DD PS W w' own' wb v0 v1 v2' v3 ys ds (es ++ [s0, s1, s2, s3]) ns M := by
  have h0 : ¬ (fun x => x = 10 + 2 * i ∨ x = 11 + 2 * i ∨ x = 1 ∨ x = 4) 0 := by simp; omega
  have hl := D.low k h0
  have hwt : own' wb = 1 := (k.same wb (Array.getElem?_eq_some_iff.1 D.wbc).1).trans D.wbt
  have e4 := D.e4
  refine ⟨hl.1, hl.2, k.bound, D.tag k (Nat.le_refl _) (fun x hx => by omega), hw, hwt, D.yr.kept k (by omega), D.dr.kept k (by omega), by simpa using he, D.nr.kept k (by omega), fun y hy => by obtain ⟨wk, fr, F, Y⟩ := D.yrs y hy; exact ⟨wk, fr, F, Y.kept k h0⟩, fun j hj => ?_, fun j s hs => ?_, fun j s hs => (D.outn j s hs).kept k h0 (by omega), by simp; omega, D.n4⟩
  · by_cases e : j = i
    · subst e; exact hd
    · exact (D.dks j hj).kept P k (by omega) (by omega) (by omega) hm
  · by_cases hj : j < es.length
    · rw [List.getElem?_append_left hj] at hs
      exact (D.oute j s hs).kept k h0 (by omega)
    · rw [List.getElem?_append_right (by omega)] at hs
      have hjl := (List.getElem?_eq_some_iff.1 hs).1
      simp only [List.length_cons, List.length_nil] at hjl
      have ho' := ho s (List.mem_of_getElem? hs)
      have hq : (j : Int) / 4 = (es.length : Int) / 4 := by omega
      rw [hq]
      exact ⟨ho'.mks, ho'.form, fun b n cap hb hn => ⟨Nat.zero_le _, (ho'.tag b n cap hb hn).2⟩⟩
/-- a list of entries came out, and was kept -/
theorem DD.listn (P : Prg PS) (D : DD PS W w own wb v0 v1 v2 v3 ys ds es ns N) (i : Nat) (hi : i < ds.length) {v3' s0 s1 s2 s3 : Value} (k : KeptS own own' (fun x => x = 10 + 2 * i ∨ x = 11 + 2 * i ∨ x = 1 ∨ x = 5) w w') (hd : Dsk PS own' w' i ds[i] M) (hm : N ≤ M)
    (hw : w'.heap[wb]? = some (.cells #[v0, v1, v2, v3'] 82 (0, 0))) (he : MRow own' 5 w' 64 1 v3' (ns.length + 1 + 1 + 1 + 1) (ns ++ [s0, s1, s2, s3])) (ho : ∀ s ∈ [s0, s1, s2, s3], Out own' w' 67 2 (-1000 - (ns.length : Int) / 4) w.heap.size s) :
    DD PS W w' own' wb v0 v1 v2 v3' ys ds es (ns ++ [s0, s1, s2, s3]) M := by
  have h0 : ¬ (fun x => x = 10 + 2 * i ∨ x = 11 + 2 * i ∨ x = 1 ∨ x = 5) 0 := by simp; omega
  have hl := D.low k h0
  have hwt : own' wb = 1 := (k.same wb (Array.getElem?_eq_some_iff.1 D.wbc).1).trans D.wbt
  have n4 := D.n4
  refine ⟨hl.1, hl.2, k.bound, D.tag k (Nat.le_refl _) (fun x hx => by omega), hw, hwt, D.yr.kept k (by omega), D.dr.kept k (by omega), D.er.kept k (by omega), by simpa using he, fun y hy => by obtain ⟨wk, fr, F, Y⟩ := D.yrs y hy; exact ⟨wk, fr, F, Y.kept k h0⟩, fun j hj => ?_, fun j s hs => (D.oute j s hs).kept k h0 (by omega), fun j s hs => ?_, D.e4, by simp; omega⟩
  · by_cases e : j = i
    · subst e; exact hd
    · exact (D.dks j hj).kept P k (by omega) (by omega) (by omega) hm
  · by_cases hj : j < ns.length
    · rw [List.getElem?_append_left hj] at hs
      exact (D.outn j s hs).kept k h0 (by omega)
    · rw [List.getElem?_append_right (by omega)] at hs
      have hjl := (List.getElem?_eq_some_iff.1 hs).1
      simp only [List.length_cons, List.length_nil] at hjl
      have ho' := ho s (List.mem_of_getElem? hs)
      have hq : (j : Int) / 4 = (ns.length : Int) / 4 := by omega
      rw [hq]
      exact ⟨ho'.mks, ho'.form, fun b n cap hb hn => ⟨Nat.zero_le _, (ho'.tag b n cap hb hn).2⟩⟩
/-- one pair of dockets more -/
theorem DD.desk (P : Prg PS) (D : DD PS W w own wb v0 v1 v2 v3 ys ds es ns N) {v1' : Value} {p g : Nat} (k : KeptS own own' (fun x => x = 1 ∨ x = 3 ∨ x = 10 + 2 * ds.length ∨ x = 11 + 2 * ds.length) w w') (hw : w'.heap[wb]? = some (.cells #[v0, v1', v2, v3] 82 (0, 0))) (hr : MRow own' 3 w' 155 2 v1' (ds.length + 1) (yrCells (ds ++ [(p, g)]))) (hd : Dsk PS own' w' ds.length (p, g) M) (hm : N ≤ M) :
    DD PS W w' own' wb v0 v1' v2 v3 ys (ds ++ [(p, g)]) es ns M := by
  have h0 : ¬ (fun x => x = 1 ∨ x = 3 ∨ x = 10 + 2 * ds.length ∨ x = 11 + 2 * ds.length) 0 := by simp; omega
  have hl := D.low k h0
  have hwt : own' wb = 1 := (k.same wb (Array.getElem?_eq_some_iff.1 D.wbc).1).trans D.wbt
  refine ⟨hl.1, hl.2, k.bound, D.tag k (by simp; omega) (fun x hx => by simp; omega), hw, hwt, D.yr.kept k (by omega), by simpa using hr, D.er.kept k (by omega), D.nr.kept k (by omega), fun y hy => by obtain ⟨wk, fr, F, Y⟩ := D.yrs y hy; exact ⟨wk, fr, F, Y.kept k h0⟩, fun j hj => ?_, fun j s hs => (D.oute j s hs).kept k h0 (by omega), fun j s hs => (D.outn j s hs).kept k h0 (by omega), D.e4, D.n4⟩
  by_cases e : j < ds.length
  · rw [List.getElem_append_left e]
    exact (D.dks j e).kept P k (by omega) (by omega) (by omega) hm
  · have : j = ds.length := by simp at hj; omega
    subst this
    simpa using hd
end
end Go.Proofs.YtcnmbldikjljeaaGreatDoor
