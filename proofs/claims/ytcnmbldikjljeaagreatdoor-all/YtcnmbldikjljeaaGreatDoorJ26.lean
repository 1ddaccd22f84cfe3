import Derived.Test.YtcnmbldikjljeaaGreatDoorJ23
import Derived.Test.YtcnmbldikjljeaaGreatDoorJ25
namespace Go.Proofs.YtcnmbldikjljeaaGreatDoor
open Go.RowKit

theorem snInfo : (Tryz.prog.info? 64).map (fun i => (i.zero, i.size, i.bytes)) = some (some (.slice none 0 0), 1, 24) := by kernel_rfl
theorem mark2 (i : Nat) (num : Int) (f : Nat → Value) (hf : ∀ j, j < i * 2 → f j = mcell 2 num j) (j : Nat) (hj : j < (i + 1) * 2) :
    (if j = i * 2 + 1 then Value.int .i64 0 else if j = i * 2 then .int .i64 num else f j) = mcell 2 num j := by
  by_cases h : j < i * 2
  · rw [if_neg (by omega), if_neg (by omega)]; exact hf j h
  · unfold mcell
    by_cases h0 : j = i * 2
    · rw [if_neg (by omega), if_pos h0, if_pos (by omega)]
    · rw [if_pos (by omega), if_neg (by omega : ¬ j % 2 = 0)]
/-- a mark is written -/
theorem MI.two {E : TypeId} {w wr : World} {g cap n i : Nat} {num : Int} {f : Nat → Value} (M : MI E 2 w wr (.slice (some ⟨g, 0, none⟩) n cap) n i num) (K : BK wr g E (cap * 2) f) (hf : ∀ j, j < i * 2 → f j = mcell 2 num j) :
    MI E 2 w ((wr.setCell ⟨g, i * 2, none⟩ (.int .i64 num)).setCell ⟨g, i * 2 + 1, none⟩ (.int .i64 0)) (.slice (some ⟨g, 0, none⟩) n cap) n (i + 1) num := by
  have o := ((Bo.refl g wr).set (i * 2) (.int .i64 num)).set (i * 2 + 1) (.int .i64 0)
  have k := (K.set (i * 2) (.int .i64 num)).set (i * 2 + 1) (.int .i64 0)
  generalize (wr.setCell ⟨g, i * 2, none⟩ (.int .i64 num)).setCell ⟨g, i * 2 + 1, none⟩ (.int .i64 0) = u at *
  exact M.next k (fun j hj => mark2 i num f hf j hj) o
section
variable {w : World} {wb n : Nat} {v0 v1 v2 v3 lv : Value} {es xs : List Value}
set_option maxRecDepth 100000 in
set_option maxHeartbeats 8000000 in
theorem keepsEntries_any (hw : w.heap[wb]? = some (.cells #[v0, v1, v2, v3] 82 (0, 0))) (B : w.ownsRow 0 64 1 v3 es.length es) (hes : es.length ≤ 8000000000000) (num : Int) (hnum : num = -1000 - (es.length : Int) / 4)
    (L : w.ownsRow 0 67 2 lv n xs) (hn : n ≤ 1000) :
    Calls Tryz.prog 91 #[.pointer (some ⟨wb, 2, none⟩), lv] w fun e w' => e = .returned (.tuple #[]) ∧ ∃ v2' s1 s2 s3, KB 67 64 82 2 3 w w' wb (fun b => #[v0, v1, v2, b]) v3 v2' lv (es.length + 1 + 1 + 1 + 1) (es ++ [lv, s1, s2, s3]) n num [lv, s1, s2, s3] ∧ Fm n [lv, s1, s2, s3] := by
  have c2 : w.cell? ⟨wb, 3, none⟩ = some v3 := by simp [World.cell?, hw]
  have hwl : wb < w.heap.size := World.block_lt_of_cell? _ _ c2
  have HBN := hide (Bnd.of hes)
  clear hes
  have hel := HBN.out.n0
  obtain ⟨ba, bc, hbv⟩ := row_any B
  subst hbv
  obtain ⟨i1, hi1, hza, hzb, hzc⟩ := info_parts entryInfo
  obtain ⟨i2, hi2, hya, hyb, hyc⟩ := info_parts snInfo
  have HII := hide (And.intro hi1 hi2)
  have HW := hide hw
  have HB := hide B
  have HN := hide hnum
  obtain ⟨la, lc, hlv⟩ := row_any L
  have M0 : MI 67 2 w w lv n 0 num := .start L
  have HM0 := hide M0
  have HL := hide L
  have hlvb : lv.ownBlock ≠ some wb := by
    intro h
    rcases L.2 with ⟨rfl, _⟩ | ⟨g, cap, cur, rfl, _, hg, _⟩
    · simp [Value.ownBlock] at h
    · obtain rfl : g = wb := by simpa [Value.ownBlock] using h
      rw [hw] at hg
      simp at hg
  subst hlv
  have HLB := hide hlvb
  clear hw B L hi1 hi2 hnum M0 hlvb
  go_enter Tryz.func91, Tryz.ntmps91
  go_wp2_with fail
  obtain ⟨W0, hW0⟩ : ∃ W0, w.alloc (Obj.cells #[.int .i64 (-1000 - (es.length : Int) / 4), .int .i64 0] 67) = W0 := ⟨_, rfl⟩
  have hb0 : Below w.heap.size w W0 := by rw [← hW0]; exact (Below.refl _ _).alloc (Nat.le_refl _) _
  have hbx : W0.heap[w.heap.size]? = some (.cells #[.int .i64 num, .int .i64 0] 67 (0, 0)) := by rw [← hW0, HN.out]; exact heap_alloc_new _ _
  have hs0 : w.heap.size < W0.heap.size := (Array.getElem?_eq_some_iff.1 hbx).1
  rw [hW0, ← HN.out]
  clear hW0
  have HLlt := hide (show ∀ k, (Value.slice la n lc).ownBlock = some k → k < w.heap.size from fun k hk => (HL.out.lt k hk).2)
  have HM1 := hide (MI.start (num := num) (row_on HL.out hb0))
  have HBX := hide hbx
  have HB0 := hide hb0
  have HWW := hide ((hb0.block wb hwl).trans HW.out)
  have HBB := hide (row_on HB.out hb0)
  have HLL := hide (row_on HL.out hb0)
  have HBB0 := HB
  clear hbx hb0 HM0 HN HB HW c2
  go_loopw [5] (fun iv wr => ∃ i : Nat, iv = .int .i64 i ∧ i ≤ n ∧ MI 67 2 W0 wr (.slice la n lc) n i num) (fun iv _ => n - (intOf iv).toNat)
  case atStart => exact ⟨0, rfl, Nat.zero_le _, HM1.out⟩
  case round =>
    clear HM1
    obtain ⟨i, rfl, hi, M⟩ := hrel
    have hbw : wr.heap[w.heap.size]? = _ := (M.block w.heap.size hs0 (fun e => by have := HLlt.out _ e.symm; omega)).trans HBX.out
    have m0 : wr.cell? ⟨w.heap.size, 0, none⟩ = some (.int .i64 num) := by simp [World.cell?, hbw]
    have m1 : wr.cell? ⟨w.heap.size, 1, none⟩ = some (.int .i64 0) := by simp [World.cell?, hbw]
    by_cases hlt : i < n
    · have hlt' : (i : Int) < n := by omega
      obtain ⟨g, cap, hq⟩ := row_some HL.out (by omega)
      simp only [Value.slice.injEq] at hq
      obtain ⟨rfl, _, rfl⟩ := hq
      obtain ⟨f, K, hf⟩ := M.bk g lc rfl
      have hnc : n ≤ lc := by
        rcases HL.out.2 with ⟨h, _⟩ | ⟨_, _, _, h, _, _, h1, _⟩
        · cases h
        · simp only [Value.slice.injEq] at h; omega
      have a0 := K.cell (i * 2) (by omega)
      have a1 := K.cell (i * 2 + 1) (by omega)
      have f0 := K.frz (i * 2)
      have f1 := K.frz (i * 2 + 1)
      have hgl := HLlt.out g rfl
      have HN1 := hide (MI.two M K hf)
      clear M K hf hbw
      go_wp2_with fail
      go_roundw
      case rel => exact ⟨i + 1, by go_num, by omega, HN1.out⟩
      case measure => simp [intOf]; omega
    · obtain rfl : i = n := by omega
      have HK := hide (MI.kb (c := 3) (cells := fun b => #[v0, v1, v2, b]) M HLL.out (by decide) (by decide) HWW.out HBB.out)
      have hnl : ¬ ((i : Int) < i) := by omega
      have c2 : wr.cell? ⟨wb, 3, none⟩ = some (.slice ba es.length bc) := by simp [World.cell?, HK.out.wbc]
      clear M hbw
      have HK0 := HK
      have HBK : Hid (∀ (u : World) (bv : Value) (m : Nat) (es' ss : List Value), KB 67 64 82 2 3 W0 u wb (fun b => #[v0, v1, v2, b]) (.slice ba es.length bc) bv (.slice la i lc) m es' i num ss → u.heap[w.heap.size]? = some (.cells #[.int .i64 num, .int .i64 0] 67 (0, 0))) := fun u bv m es' ss K => (K.block w.heap.size hs0 (by omega) (fun e => by have := (HBB0.out.lt _ e.symm).2; omega) (fun e => by have := HLlt.out _ e.symm; omega)).trans HBX.out
      clear HK
      go_wp2_with (first
        | (at_builtin; have KA := HK6.out.on ((Below.refl _ _).alloc (Nat.le_refl _) (Obj.cells #[.slice a3 (i + 3) q3] 64)); refine wpList_append_lies_wide rfl _ _ 78 rfl 0 64 i2 _ 1 24 Tryz.underlying78 HII.out.2 hya hyb hyc rfl (by decide) (.slice (some ⟨g6, 0, none⟩) (es.length + 1 + 1 + 1) p6) (es.length + 1 + 1 + 1) (es ++ [.slice la i lc] ++ [.slice a1 (i + 1) q1] ++ [.slice a2 (i + 2) q2]) (by rfl) KA.row ⟨w6.heap.size, 0, none⟩ 1 1 [.slice a3 (i + 3) q3] (by rfl) (by rfl) (World.news_of_block (cs := #[.slice a3 (i + 3) q3]) (t := 64) (fr := (0, 0)) (by have h9 := heap_alloc_new (w6.setCell ⟨wb, 3, none⟩ (.slice (some ⟨g6, 0, none⟩) (es.length + 1 + 1 + 1) p6)) (Obj.cells #[.slice a3 (i + 3) q3] 64); simpa using h9)) (by simp [Value.oneCell']) (by decide) HBN.out.m3 HBN.out.e3 (Nat.zero_le _) (w6.heap.size + 1) (by simp) ?_; intro g7 p7 w7 hown hgrow hat _; clear c2 hc6 hf6; obtain ⟨hc7, hf7, KP⟩ := KA.put (by decide) (by decide) (by decide) (fun b => rfl) (fun b b' => rfl) hgrow hown (fun k hk => (by simp [Value.ownBlock] at hk; subst hk; rcases hat with e | e; exact .inl e; exact .inr (by simp; omega))); have HK7 := hide KP; have c2 : (w7.setCell ⟨wb, 3, none⟩ (.slice (some ⟨g7, 0, none⟩) (es.length + 1 + 1 + 1 + 1) p7)).cell? ⟨wb, 3, none⟩ = some (.slice (some ⟨g7, 0, none⟩) (es.length + 1 + 1 + 1 + 1) p7) := (by simp [World.cell?, KP.wbc]); clear KA KP hown hgrow hat HK6)
        | (at_builtin; have KA := HK5.out.on ((Below.refl _ _).alloc (Nat.le_refl _) (Obj.cells #[.slice a2 (i + 2) q2] 64)); refine wpList_append_lies_wide rfl _ _ 78 rfl 0 64 i2 _ 1 24 Tryz.underlying78 HII.out.2 hya hyb hyc rfl (by decide) (.slice (some ⟨g5, 0, none⟩) (es.length + 1 + 1) p5) (es.length + 1 + 1) (es ++ [.slice la i lc] ++ [.slice a1 (i + 1) q1]) (by rfl) KA.row ⟨w5.heap.size, 0, none⟩ 1 1 [.slice a2 (i + 2) q2] (by rfl) (by rfl) (World.news_of_block (cs := #[.slice a2 (i + 2) q2]) (t := 64) (fr := (0, 0)) (by have h9 := heap_alloc_new (w5.setCell ⟨wb, 3, none⟩ (.slice (some ⟨g5, 0, none⟩) (es.length + 1 + 1) p5)) (Obj.cells #[.slice a2 (i + 2) q2] 64); simpa using h9)) (by simp [Value.oneCell']) (by decide) HBN.out.m2 HBN.out.e2 (Nat.zero_le _) (w5.heap.size + 1) (by simp) ?_; intro g6 p6 w6 hown hgrow hat _; clear c2 hc5 hf5; obtain ⟨hc6, hf6, KP⟩ := KA.put (by decide) (by decide) (by decide) (fun b => rfl) (fun b b' => rfl) hgrow hown (fun k hk => (by simp [Value.ownBlock] at hk; subst hk; rcases hat with e | e; exact .inl e; exact .inr (by simp; omega))); have HK6 := hide KP; have c2 : (w6.setCell ⟨wb, 3, none⟩ (.slice (some ⟨g6, 0, none⟩) (es.length + 1 + 1 + 1) p6)).cell? ⟨wb, 3, none⟩ = some (.slice (some ⟨g6, 0, none⟩) (es.length + 1 + 1 + 1) p6) := (by simp [World.cell?, KP.wbc]); clear KA KP hown hgrow hat HK5)
        | (at_builtin; have KA := HK4.out.on ((Below.refl _ _).alloc (Nat.le_refl _) (Obj.cells #[.slice a1 (i + 1) q1] 64)); refine wpList_append_lies_wide rfl _ _ 78 rfl 0 64 i2 _ 1 24 Tryz.underlying78 HII.out.2 hya hyb hyc rfl (by decide) (.slice (some ⟨g4, 0, none⟩) (es.length + 1) p4) (es.length + 1) (es ++ [.slice la i lc]) (by rfl) KA.row ⟨w4.heap.size, 0, none⟩ 1 1 [.slice a1 (i + 1) q1] (by rfl) (by rfl) (World.news_of_block (cs := #[.slice a1 (i + 1) q1]) (t := 64) (fr := (0, 0)) (by have h9 := heap_alloc_new (w4.setCell ⟨wb, 3, none⟩ (.slice (some ⟨g4, 0, none⟩) (es.length + 1) p4)) (Obj.cells #[.slice a1 (i + 1) q1] 64); simpa using h9)) (by simp [Value.oneCell']) (by decide) HBN.out.m1 HBN.out.e1 (Nat.zero_le _) (w4.heap.size + 1) (by simp) ?_; intro g5 p5 w5 hown hgrow hat _; clear c2 hc4 hf4; obtain ⟨hc5, hf5, KP⟩ := KA.put (by decide) (by decide) (by decide) (fun b => rfl) (fun b b' => rfl) hgrow hown (fun k hk => (by simp [Value.ownBlock] at hk; subst hk; rcases hat with e | e; exact .inl e; exact .inr (by simp; omega))); have HK5 := hide KP; have c2 : (w5.setCell ⟨wb, 3, none⟩ (.slice (some ⟨g5, 0, none⟩) (es.length + 1 + 1) p5)).cell? ⟨wb, 3, none⟩ = some (.slice (some ⟨g5, 0, none⟩) (es.length + 1 + 1) p5) := (by simp [World.cell?, KP.wbc]); clear KA KP hown hgrow hat HK4)
        | (at_builtin; have KA := HK3.out.on ((Below.refl _ _).alloc (Nat.le_refl _) (Obj.cells #[.slice la i lc] 64)); go_must (refine wpList_append_lies_wide rfl _ _ 78 rfl 0 64 i2 _ 1 24 Tryz.underlying78 HII.out.2 hya hyb hyc rfl (by decide) (.slice ba es.length bc) es.length es (by rfl) KA.row ⟨w3.heap.size, 0, none⟩ 1 1 [.slice la i lc] (by rfl) (by rfl) (World.news_of_block (cs := #[.slice la i lc]) (t := 64) (fr := (0, 0)) (heap_alloc_new _ _)) (by simp [Value.oneCell']) (by decide) HBN.out.m0 HBN.out.e0 (Nat.zero_le _) (w3.heap.size + 1) (by simp) ?_); intro g4 p4 w4 hown hgrow hat _; clear m0 m1 c2; obtain ⟨hc4, hf4, KP⟩ := KA.put (by decide) (by decide) (by decide) (fun b => rfl) (fun b b' => rfl) hgrow hown (fun k hk => (by simp [Value.ownBlock] at hk; subst hk; rcases hat with e | e; exact .inl e; exact .inr (by simp; omega))); have HK4 := hide KP; have c2 : (w4.setCell ⟨wb, 3, none⟩ (.slice (some ⟨g4, 0, none⟩) (es.length + 1) p4)).cell? ⟨wb, 3, none⟩ = some (.slice (some ⟨g4, 0, none⟩) (es.length + 1) p4) := (by simp [World.cell?, KP.wbc]); clear KA KP hown hgrow hat HK3)
        | (at_builtin; have KA := HK2.out.on ((Below.refl _ _).alloc (Nat.le_refl _) (Obj.cells #[.int .i64 num, .int .i64 0, .int .i64 num, .int .i64 0, .int .i64 num, .int .i64 0] 67)); refine wpList_append_marks (num := num) rfl _ _ rfl 0 i1 _ 16 Tryz.underlying64 HII.out.1 hza hzb hzc rfl (by decide) (by rfl) KA.own (KA.mks _ (by simp)) ⟨w2.heap.size, 0, none⟩ 3 (by decide) 3 [.int .i64 num, .int .i64 0, .int .i64 num, .int .i64 0, .int .i64 num, .int .i64 0] (by rfl) (by rfl) (World.news_of_block (cs := #[.int .i64 num, .int .i64 0, .int .i64 num, .int .i64 0, .int .i64 num, .int .i64 0]) (t := 67) (fr := (0, 0)) (heap_alloc_new _ _)) (fun j hj => (by rw [show ([.int .i64 num, .int .i64 0, .int .i64 num, .int .i64 0, .int .i64 num, .int .i64 0] : List Value) = marks 2 num 3 from rfl]; exact marks_at 2 num 3 j hj)) (by unfold maxLen; omega) (by omega) ?_; rintro v3 w3 ⟨a3, q3, rfl⟩ hm hk ho hg hat; clear m0 m1 c2; have HK3 := hide (KA.app (by decide) (by decide) hm hk ho hg hat); have hbw3 := HBK.out _ _ _ _ _ HK3.out; have m0 : w3.cell? ⟨w.heap.size, 0, none⟩ = some (.int .i64 num) := (by simp [World.cell?, hbw3]); have m1 : w3.cell? ⟨w.heap.size, 1, none⟩ = some (.int .i64 0) := (by simp [World.cell?, hbw3]); have c2 : w3.cell? ⟨wb, 3, none⟩ = some (.slice ba es.length bc) := (by simp [World.cell?, HK3.out.wbc]); clear KA hm hk ho hg hat hbw3 HK2)
        | (at_builtin; have KA := HK1.out.on ((Below.refl _ _).alloc (Nat.le_refl _) (Obj.cells #[.int .i64 num, .int .i64 0, .int .i64 num, .int .i64 0] 67)); refine wpList_append_marks (num := num) rfl _ _ rfl 0 i1 _ 16 Tryz.underlying64 HII.out.1 hza hzb hzc rfl (by decide) (by rfl) KA.own (KA.mks _ (by simp)) ⟨w1.heap.size, 0, none⟩ 2 (by decide) 2 [.int .i64 num, .int .i64 0, .int .i64 num, .int .i64 0] (by rfl) (by rfl) (World.news_of_block (cs := #[.int .i64 num, .int .i64 0, .int .i64 num, .int .i64 0]) (t := 67) (fr := (0, 0)) (heap_alloc_new _ _)) (fun j hj => (by rw [show ([.int .i64 num, .int .i64 0, .int .i64 num, .int .i64 0] : List Value) = marks 2 num 2 from rfl]; exact marks_at 2 num 2 j hj)) (by unfold maxLen; omega) (by omega) ?_; rintro v2 w2 ⟨a2, q2, rfl⟩ hm hk ho hg hat; clear m0 m1 c2; have HK2 := hide (KA.app (by decide) (by decide) hm hk ho hg hat); have hbw2 := HBK.out _ _ _ _ _ HK2.out; have m0 : w2.cell? ⟨w.heap.size, 0, none⟩ = some (.int .i64 num) := (by simp [World.cell?, hbw2]); have m1 : w2.cell? ⟨w.heap.size, 1, none⟩ = some (.int .i64 0) := (by simp [World.cell?, hbw2]); have c2 : w2.cell? ⟨wb, 3, none⟩ = some (.slice ba es.length bc) := (by simp [World.cell?, HK2.out.wbc]); clear KA hm hk ho hg hat hbw2 HK1)
        | (at_builtin; have KA := HK0.out.on ((Below.refl _ _).alloc (Nat.le_refl _) (Obj.cells #[.int .i64 num, .int .i64 0] 67)); refine wpList_append_marks (num := num) rfl _ _ rfl 0 i1 _ 16 Tryz.underlying64 HII.out.1 hza hzb hzc rfl (by decide) (by rfl) KA.own (KA.mks _ (by simp)) ⟨wr.heap.size, 0, none⟩ 1 (by decide) 1 [.int .i64 num, .int .i64 0] (by rfl) (by rfl) (World.news_of_block (cs := #[.int .i64 num, .int .i64 0]) (t := 67) (fr := (0, 0)) (heap_alloc_new _ _)) (fun j hj => (by rw [show ([.int .i64 num, .int .i64 0] : List Value) = marks 2 num 1 from rfl]; exact marks_at 2 num 1 j hj)) (by unfold maxLen; omega) (by omega) ?_; rintro v1 w1 ⟨a1, q1, rfl⟩ hm hk ho hg hat; clear m0 m1 c2; have HK1 := hide (KA.app (by decide) (by decide) hm hk ho hg hat); have hbw1 := HBK.out _ _ _ _ _ HK1.out; have m0 : w1.cell? ⟨w.heap.size, 0, none⟩ = some (.int .i64 num) := (by simp [World.cell?, hbw1]); have m1 : w1.cell? ⟨w.heap.size, 1, none⟩ = some (.int .i64 0) := (by simp [World.cell?, hbw1]); have c2 : w1.cell? ⟨wb, 3, none⟩ = some (.slice ba es.length bc) := (by simp [World.cell?, HK1.out.wbc]); clear KA hm hk ho hg hat hbw1 HK0)
        | fail)
      go_end0
      have h9 := HK7.out.base HB0.out
      simp only [List.append_assoc, List.cons_append, List.nil_append] at h9
      exact ⟨rfl, _, _, _, _, h9, Fm.four⟩
end
end Go.Proofs.YtcnmbldikjljeaaGreatDoor
namespace Go.Proofs.YtcnmbldikjljeaaGreatDoor
open Go.RowKit

/-- all lists of the book read as they were written -/
def Bk (w : World) (e : TypeId) (size : Nat) (es : List Value) : Prop := ∀ (i : Nat) (s : Value), es[i]? = some s → Mk w e size (-1000 - (i : Int) / 4) s
theorem Bk.on {w u : World} {e : TypeId} {size : Nat} {es : List Value} (h : Bk w e size es) (hb : Below w.heap.size w u) : Bk u e size es := fun i s hs => (h i s hs).on hb
theorem Mk.len {w : World} {e : TypeId} {size : Nat} {num : Int} {a : Option Addr} {n cap : Nat} (h : Mk w e size num (.slice a n cap)) (hn : 0 < n) : ∃ b, a = some ⟨b, 0, none⟩ ∧ b < w.heap.size ∧ ∀ j, j < n * size → w.cell? ⟨b, j, none⟩ = some (mcell size num j) := by
  obtain ⟨a', n', cap', h1, h2⟩ := h
  simp only [Value.slice.injEq] at h1
  obtain ⟨rfl, rfl, rfl⟩ := h1
  obtain ⟨b, cur, h3, h4, h5⟩ := h2 hn
  exact ⟨b, h3, (Array.getElem?_eq_some_iff.1 h4).1, fun j hj => by simp [World.cell?, h4, h5 j hj]⟩
theorem mcell6 (num : Int) (j : Nat) : mcell 6 num (j * 6) = .int .i64 num ∧ mcell 6 num (j * 6 + 1) = .int .i64 0 ∧ mcell 6 num (j * 6 + 2) = .int .i64 0 ∧ mcell 6 num (j * 6 + 3) = .int .i64 0 ∧ mcell 6 num (j * 6 + 4) = .int .i64 0 ∧ mcell 6 num (j * 6 + 5) = .int .i64 0 := by
  unfold mcell
  refine ⟨if_pos (by omega), if_neg (by omega), if_neg (by omega), if_neg (by omega), if_neg (by omega), if_neg (by omega)⟩
theorem mcell2 (num : Int) (j : Nat) : mcell 2 num (j * 2) = .int .i64 num ∧ mcell 2 num (j * 2 + 1) = .int .i64 0 := by
  unfold mcell
  exact ⟨if_pos (by omega), if_neg (by omega)⟩
section
variable {w : World} {wb : Nat} {v0 v1 v2 v3 : Value} {es ns : List Value}
set_option maxRecDepth 100000 in
set_option maxHeartbeats 8000000 in
theorem looks_any (hw : w.heap[wb]? = some (.cells #[v0, v1, v2, v3] 82 (0, 0))) (B : w.ownsRow 0 38 1 v2 es.length es) (C : w.ownsRow 0 64 1 v3 ns.length ns) (hE : Bk w 63 6 es) (hN : Bk w 67 2 ns) (h1 : es.length ≤ 140737488355328) (h2 : ns.length ≤ 140737488355328)
    (hes : ∀ s ∈ es, ∃ a n cap, s = .slice a n cap ∧ n ≤ 1000000) (hns : ∀ s ∈ ns, ∃ a n cap, s = .slice a n cap ∧ n ≤ 1000000) :
    Calls Tryz.prog 31 #[.pointer (some ⟨wb, 2, none⟩)] w fun e w' => e = .returned (.bool true) ∧ Below w.heap.size w w' := by
  have c2 : w.cell? ⟨wb, 2, none⟩ = some v2 := by simp [World.cell?, hw]
  have c3 : w.cell? ⟨wb, 3, none⟩ = some v3 := by simp [World.cell?, hw]
  have hwl : wb < w.heap.size := World.block_lt_of_cell? _ _ c2
  obtain ⟨ba, bc, rfl⟩ := row_any B
  obtain ⟨ca, cc, rfl⟩ := row_any C
  have HB := hide B
  have HC := hide C
  have HE := hide hE
  have HN := hide hN
  have HES := hide hes
  have HNS := hide hns
  clear B C hE hN hw hes hns
  go_enter Tryz.func31, Tryz.ntmps31
  go_wp2_with fail
  go_loopw [3] (fun iv wr => ∃ i : Nat, iv = .int .i64 i ∧ i ≤ es.length ∧ Below w.heap.size w wr) (fun iv _ => es.length - (intOf iv).toNat)
  case atStart => exact ⟨0, rfl, Nat.zero_le _, Below.refl _ _⟩
  case round =>
    obtain ⟨i, rfl, hi, hb⟩ := hrel
    have k2 := (hb.cell (p := ⟨wb, 2, none⟩) hwl).trans c2
    have hs := hb.size
    by_cases hlt : i < es.length
    · have hlt' : (i : Int) < es.length := by omega
      obtain ⟨q, cap, hq⟩ := row_some HB.out (by omega)
      simp only [Value.slice.injEq] at hq
      obtain ⟨rfl, _, rfl⟩ := hq
      have hqi := (HB.out.cellAt i (by omega)).trans (List.getElem?_eq_getElem hlt)
      have hql : q < w.heap.size := World.block_lt_of_cell? _ _ hqi
      obtain ⟨a, n, ac, hsl, hn⟩ := HES.out es[i] (List.getElem_mem hlt)
      have hM := HE.out i es[i] (List.getElem?_eq_getElem hlt)
      rw [hsl] at hqi hM
      have HM := hide hM
      have HHB := hide hb
      generalize hnum : -1000 - (i : Int) / 4 = num at *
      have HNUM := hide hnum
      have hi4 : (i : Int) / 4 ≤ 140737488355328 := by omega
      have hi5 : 0 ≤ (i : Int) / 4 := by omega
      clear hM hsl hb
      obtain ⟨wo, rfl⟩ : ∃ wo, wo = wr := ⟨_, rfl⟩
      go_wp2_with fail
      obtain ⟨W1, hW1⟩ : ∃ W1, wo.alloc (Obj.cells #[.int .i64 num, .int .i64 0, .int .i64 0, .int .i64 0, .int .i64 0, .int .i64 0] 63) = W1 := ⟨_, rfl⟩
      have hb1 : Below wo.heap.size wo W1 := by rw [← hW1]; exact (Below.refl _ _).alloc (Nat.le_refl _) _
      have hbx : W1.heap[wo.heap.size]? = some (.cells #[.int .i64 num, .int .i64 0, .int .i64 0, .int .i64 0, .int .i64 0, .int .i64 0] 63 (0, 0)) := by rw [← hW1]; exact heap_alloc_new _ _
      have hl1 : wo.heap.size < W1.heap.size := (Array.getElem?_eq_some_iff.1 hbx).1
      rw [hW1]
      clear hW1
      have HB1 := hide hb1
      have HBX := hide hbx
      clear hb1 hbx k2
      go_loopw [5] (fun jv wr => ∃ j : Nat, jv = .int .i64 j ∧ j ≤ n ∧ Below W1.heap.size W1 wr) (fun jv _ => n - (intOf jv).toNat)
      case atStart => exact ⟨0, rfl, Nat.zero_le _, Below.refl _ _⟩
      case round =>
        obtain ⟨j, rfl, hj, hz⟩ := hrel
        have hz0 : Below w.heap.size w wr := (HHB.out.trans (HB1.out.mono hs)).trans (hz.mono (by omega))
        have hbz : wr.heap[wo.heap.size]? = _ := (hz.block _ hl1).trans HBX.out
        have m0 : wr.cell? ⟨wo.heap.size, 0, none⟩ = some (.int .i64 num) := by simp [World.cell?, hbz]
        have m1 : wr.cell? ⟨wo.heap.size, 1, none⟩ = some (.int .i64 0) := by simp [World.cell?, hbz]
        have m2 : wr.cell? ⟨wo.heap.size, 2, none⟩ = some (.int .i64 0) := by simp [World.cell?, hbz]
        have m3 : wr.cell? ⟨wo.heap.size, 3, none⟩ = some (.int .i64 0) := by simp [World.cell?, hbz]
        have m4 : wr.cell? ⟨wo.heap.size, 4, none⟩ = some (.int .i64 0) := by simp [World.cell?, hbz]
        have m5 : wr.cell? ⟨wo.heap.size, 5, none⟩ = some (.int .i64 0) := by simp [World.cell?, hbz]
        have k2 := (hz0.cell (p := ⟨wb, 2, none⟩) hwl).trans c2
        have ki := (hz0.cell (p := ⟨q, i, none⟩) hql).trans hqi
        have HZ0 := hide hz
        by_cases hjn : j < n
        · have hjn' : (j : Int) < n := by omega
          obtain ⟨b, rfl, hbl, hcell⟩ := HM.out.len (by omega)
          obtain ⟨y0, y1, y2, y3, y4, y5⟩ := mcell6 num j
          have e0 := (hz0.cell (p := ⟨b, j * 6, none⟩) hbl).trans (hcell (j * 6) (by omega))
          rw [y0] at e0
          have e1 := (hz0.cell (p := ⟨b, j * 6 + 1, none⟩) hbl).trans (hcell (j * 6 + 1) (by omega))
          rw [y1] at e1
          have e2 := (hz0.cell (p := ⟨b, j * 6 + 2, none⟩) hbl).trans (hcell (j * 6 + 2) (by omega))
          rw [y2] at e2
          have e3 := (hz0.cell (p := ⟨b, j * 6 + 3, none⟩) hbl).trans (hcell (j * 6 + 3) (by omega))
          rw [y3] at e3
          have e4 := (hz0.cell (p := ⟨b, j * 6 + 4, none⟩) hbl).trans (hcell (j * 6 + 4) (by omega))
          rw [y4] at e4
          have e5 := (hz0.cell (p := ⟨b, j * 6 + 5, none⟩) hbl).trans (hcell (j * 6 + 5) (by omega))
          rw [y5] at e5
          clear hcell hz0 hz hbz y0 y1 y2 y3 y4 y5
          go_wp2_with fail
          go_quiet (fail)
          go_wp2_with fail
          go_roundw
          case rel => exact ⟨j + 1, by go_num, by omega, below_drewN HZ0.out _⟩
          case measure => simp [intOf]; omega
        · obtain rfl : j = n := by omega
          have hnl : ¬ ((j : Int) < j) := by omega
          clear hz0 hz hbz
          go_wp2_with fail
          go_roundw
          case rel => exact ⟨i + 1, by go_num, by omega, (HHB.out.trans (HB1.out.mono hs)).trans (HZ0.out.mono (by omega))⟩
          case measure => simp [intOf]; omega
    · have hnl : ¬ ((i : Int) < es.length) := by omega
      obtain ⟨w0, rfl⟩ : ∃ w0, w0 = wr := ⟨_, rfl⟩
      obtain ⟨i0, rfl⟩ : ∃ i0, i0 = i := ⟨_, rfl⟩
      have HH0 := hide hb
      clear hb hlt
      go_wp2_with fail
      go_loopw [6] (fun iv wr => ∃ i : Nat, iv = .int .i64 i ∧ i ≤ ns.length ∧ Below w.heap.size w wr) (fun iv _ => ns.length - (intOf iv).toNat)
      case atStart => exact ⟨0, rfl, Nat.zero_le _, HH0.out⟩
      case round =>
        obtain ⟨i, rfl, hi, hb⟩ := hrel
        have k3 := (hb.cell (p := ⟨wb, 3, none⟩) hwl).trans c3
        have hs := hb.size
        by_cases hlt : i < ns.length
        · have hlt' : (i : Int) < ns.length := by omega
          obtain ⟨q, cap, hq⟩ := row_some HC.out (by omega)
          simp only [Value.slice.injEq] at hq
          obtain ⟨rfl, _, rfl⟩ := hq
          have hqi := (HC.out.cellAt i (by omega)).trans (List.getElem?_eq_getElem hlt)
          have hql : q < w.heap.size := World.block_lt_of_cell? _ _ hqi
          obtain ⟨a, n, ac, hsl, hn⟩ := HNS.out ns[i] (List.getElem_mem hlt)
          have hM := HN.out i ns[i] (List.getElem?_eq_getElem hlt)
          rw [hsl] at hqi hM
          have HM := hide hM
          have HHB := hide hb
          generalize hnum : -1000 - (i : Int) / 4 = num at *
          have HNUM := hide hnum
          have hi4 : (i : Int) / 4 ≤ 140737488355328 := by omega
          have hi5 : 0 ≤ (i : Int) / 4 := by omega
          clear hM hsl hb
          obtain ⟨wo, rfl⟩ : ∃ wo, wo = wr := ⟨_, rfl⟩
          go_wp2_with fail
          obtain ⟨W1, hW1⟩ : ∃ W1, wo.alloc (Obj.cells #[.int .i64 num, .int .i64 0] 67) = W1 := ⟨_, rfl⟩
          have hb1 : Below wo.heap.size wo W1 := by rw [← hW1]; exact (Below.refl _ _).alloc (Nat.le_refl _) _
          have hbx : W1.heap[wo.heap.size]? = some (.cells #[.int .i64 num, .int .i64 0] 67 (0, 0)) := by rw [← hW1]; exact heap_alloc_new _ _
          have hl1 : wo.heap.size < W1.heap.size := (Array.getElem?_eq_some_iff.1 hbx).1
          rw [hW1]
          clear hW1
          have HB1 := hide hb1
          have HBX := hide hbx
          clear hb1 hbx k3
          go_loopw [8] (fun jv wr => ∃ j : Nat, jv = .int .i64 j ∧ j ≤ n ∧ Below W1.heap.size W1 wr) (fun jv _ => n - (intOf jv).toNat)
          case atStart => exact ⟨0, rfl, Nat.zero_le _, Below.refl _ _⟩
          case round =>
            obtain ⟨j, rfl, hj, hz⟩ := hrel
            have hz0 : Below w.heap.size w wr := (HHB.out.trans (HB1.out.mono hs)).trans (hz.mono (by omega))
            have hbz : wr.heap[wo.heap.size]? = _ := (hz.block _ hl1).trans HBX.out
            have m0 : wr.cell? ⟨wo.heap.size, 0, none⟩ = some (.int .i64 num) := by simp [World.cell?, hbz]
            have m1 : wr.cell? ⟨wo.heap.size, 1, none⟩ = some (.int .i64 0) := by simp [World.cell?, hbz]
            have k3 := (hz0.cell (p := ⟨wb, 3, none⟩) hwl).trans c3
            have ki := (hz0.cell (p := ⟨q, i, none⟩) hql).trans hqi
            have HZ0 := hide hz
            by_cases hjn : j < n
            · have hjn' : (j : Int) < n := by omega
              obtain ⟨b, rfl, hbl, hcell⟩ := HM.out.len (by omega)
              obtain ⟨y0, y1⟩ := mcell2 num j
              have e0 := (hz0.cell (p := ⟨b, j * 2, none⟩) hbl).trans (hcell (j * 2) (by omega))
              rw [y0] at e0
              have e1 := (hz0.cell (p := ⟨b, j * 2 + 1, none⟩) hbl).trans (hcell (j * 2 + 1) (by omega))
              rw [y1] at e1
              clear hcell hz0 hz hbz y0 y1
              go_wp2_with fail
              go_quiet (fail)
              go_wp2_with fail
              go_roundw
              case rel => exact ⟨j + 1, by go_num, by omega, below_drewN HZ0.out _⟩
              case measure => simp [intOf]; omega
            · obtain rfl : j = n := by omega
              have hnl : ¬ ((j : Int) < j) := by omega
              clear hz0 hz hbz
              go_wp2_with fail
              go_roundw
              case rel => exact ⟨i + 1, by go_num, by omega, (HHB.out.trans (HB1.out.mono hs)).trans (HZ0.out.mono (by omega))⟩
              case measure => simp [intOf]; omega
        · obtain rfl : i = ns.length := by omega
          have hnl : ¬ (((ns.length : Nat) : Int) < ns.length) := by omega
          have HHB := hide hb
          clear hb
          go_wp2_with fail
          go_ret
          exact ⟨rfl, HHB.out⟩
end
end Go.Proofs.YtcnmbldikjljeaaGreatDoor
