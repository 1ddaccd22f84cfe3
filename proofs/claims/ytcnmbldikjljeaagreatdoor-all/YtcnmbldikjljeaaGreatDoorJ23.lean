import Derived.Test.YtcnmbldikjljeaaGreatDoorJ09
import Derived.Test.YtcnmbldikjljeaaGreatDoorJ22
import Derived.Test.YtcnmbldikjljeaaGreatDoorJ21
namespace Go.Proofs.YtcnmbldikjljeaaGreatDoor
open Go.RowKit

section
variable {w W u : World} {g c : Nat} {F : Nat → Bool} {st : List Stg} {sv lv : Value} {vs : Nat → Value × Value} {d d' : Dk} {N : Int}
/-- the calendar and the stages, wherever nothing but the docket's own blocks has turned -/
theorem RD.ro (R : RD w g c F st sv vs lv d) (hs : w.heap.size ≤ u.heap.size) (hb : ∀ k, k < w.heap.size → k ≠ g → some k ≠ lv.ownBlock → u.heap[k]? = w.heap[k]?) : RC u c F ∧ SW u sv st vs := by
  have hne : ∀ {base size n : Nat} {e : TypeId} {v : Value} {xs : List Value}, w.ownsRow base e size v n xs → e ≠ 240 → e ≠ 242 → u.ownsRow base e size v n xs := by
    intro base size n e v xs h h1 h2
    refine ⟨h.1, ?_⟩
    rcases h.2 with a | ⟨k, cap, cur, hv, hk, hh, r⟩
    · exact .inl a
    · refine .inr ⟨k, cap, cur, hv, hk, ?_, r⟩
      rw [hb k (Array.getElem?_eq_some_iff.1 hh).1 ?_ ?_]
      · exact hh
      · rintro rfl
        rw [R.blk] at hh
        cases hh
        exact h1 rfl
      · intro e'
        rcases R.own.2 with ⟨rfl, _⟩ | ⟨q, cap2, cur2, rfl, _, hq, _⟩
        · simp [Value.ownBlock] at e'
        · simp [Value.ownBlock] at e'
          subst e'
          rw [hq] at hh
          cases hh
          exact h2 rfl
  refine ⟨?_, ⟨hne R.stg.row (by decide) (by decide), fun i hi => hne (R.stg.lev i hi) (by decide) (by decide), fun i hi => hne (R.stg.nxt i hi) (by decide) (by decide)⟩⟩
  obtain ⟨h, cap, h1, h0, h2, h3⟩ := R.cal.row
  have hcq : some c ≠ lv.ownBlock ∧ some h ≠ lv.ownBlock := by
    rcases R.own.2 with ⟨rfl, _⟩ | ⟨q, cap2, cur2, rfl, _⟩
    · simp [Value.ownBlock]
    · have hpos : 0 < d.cases.length := by
        apply Nat.pos_of_ne_zero
        intro hz
        have := R.nl (List.length_eq_zero_iff.1 hz)
        cases this
      refine ⟨fun e => ?_, fun e => ?_⟩
      · exact (R.gq hpos).2.1 (by simpa [Value.ownBlock] using e)
      · obtain rfl : h = q := by simpa [Value.ownBlock] using e
        have h8 := R.at 0 hpos 4 _ rfl
        rw [h3 _ (by omega)] at h8
        simp at h8
  have hhg : h ≠ g := by
    rintro rfl
    have := h3 0 (by omega)
    rw [R.c0] at this
    simp at this
  refine ⟨Nat.lt_of_lt_of_le R.cal.lt hs, h, cap, ?_, h0, Nat.lt_of_lt_of_le h2 hs, fun i hi => ?_⟩
  · rw [World.cell?_of_block (a := ⟨c, 0, none⟩) (hb c R.cal.lt R.cg hcq.1)]; exact h1
  · rw [World.cell?_of_block (a := ⟨h, i, none⟩) (hb h h2 hhg hcq.2)]; exact h3 i hi
/-- .. and the docket, where nothing below has turned -/
theorem RD.keep (R0 : RD w g c F st sv vs lv d) (R : RD W g c F st sv vs lv d') (f : Fr g lv lv w W) (hb : Below w.heap.size W u) : RD u g c F st sv vs lv d' ∧ Fr g lv lv w u := by
  have hro := R0.ro (u := u) (Nat.le_trans f.size hb.size) (fun k hk h1 h2 => (hb.block k hk).trans (f.block k hk h1 h2))
  refine ⟨⟨(hb.block g R0.lt).trans R.blk, hro.1, hro.2, ⟨R.own.1, ?_⟩, R.nl⟩, ⟨hb.os.trans f.os, hb.tape.trans f.tape, hb.output.trans f.output, Nat.le_trans f.size hb.size, fun k hk h1 h2 => (hb.block k hk).trans (f.block k hk h1 h2), fun _ h => .inl h⟩⟩
  rcases R.own.2 with a | ⟨q, cap, cur, hv, hq, hh, r⟩
  · exact .inl a
  · refine .inr ⟨q, cap, cur, hv, hq, ?_, r⟩
    have hql : q < w.heap.size := (R0.own.lt q (by rw [hv]; rfl)).2
    rw [hb.block q hql]; exact hh
end
end Go.Proofs.YtcnmbldikjljeaaGreatDoor
namespace Go.Proofs.YtcnmbldikjljeaaGreatDoor
open Go.RowKit

theorem seInfo : (Tryz.prog.info? 38).map (fun i => (i.zero, i.size, i.bytes)) = some (some (.slice none 0 0), 1, 24) := by kernel_rfl
theorem mark6 (i : Nat) (num : Int) (f : Nat → Value) (hf : ∀ j, j < i * 6 → f j = mcell 6 num j) (j : Nat) (hj : j < (i + 1) * 6) :
    (if j = i * 6 + 5 then Value.int .i64 0 else if j = i * 6 + 4 then .int .i64 0 else if j = i * 6 + 3 then .int .i64 0 else if j = i * 6 + 2 then .int .i64 0 else if j = i * 6 + 1 then .int .i64 0 else if j = i * 6 then .int .i64 num else f j) = mcell 6 num j := by
  by_cases h : j < i * 6
  · rw [if_neg (by omega), if_neg (by omega), if_neg (by omega), if_neg (by omega), if_neg (by omega), if_neg (by omega)]; exact hf j h
  · unfold mcell
    by_cases h0 : j = i * 6
    · rw [if_neg (by omega), if_neg (by omega), if_neg (by omega), if_neg (by omega), if_neg (by omega), if_pos h0, if_pos (by omega)]
    · rw [if_neg (by omega : ¬ j % 6 = 0)]
      split
      · rfl
      · split
        · rfl
        · split
          · rfl
          · split
            · rfl
            · rw [if_pos (by omega)]
/-- bounds -/
structure Bnd (n : Nat) : Prop where
  m0 : n + 1 ≤ maxLen
  m1 : n + 1 + 1 ≤ maxLen
  m2 : n + 1 + 1 + 1 ≤ maxLen
  m3 : n + 1 + 1 + 1 + 1 ≤ maxLen
  e0 : (n + 1 + (n + 1) / 4 + 192) * 24 ≤ 281474976710656
  e1 : (n + 1 + 1 + (n + 1 + 1) / 4 + 192) * 24 ≤ 281474976710656
  e2 : (n + 1 + 1 + 1 + (n + 1 + 1 + 1) / 4 + 192) * 24 ≤ 281474976710656
  e3 : (n + 1 + 1 + 1 + 1 + (n + 1 + 1 + 1 + 1) / 4 + 192) * 24 ≤ 281474976710656
  n0 : n ≤ 140737488355328
theorem Bnd.of {n : Nat} (h : n ≤ 8000000000000) : Bnd n := ⟨by unfold maxLen; omega, by unfold maxLen; omega, by unfold maxLen; omega, by unfold maxLen; omega, Nat.le_trans (Nat.mul_le_mul_right 24 (show _ ≤ 11000000000000 by omega)) (by decide), Nat.le_trans (Nat.mul_le_mul_right 24 (show _ ≤ 11000000000000 by omega)) (by decide), Nat.le_trans (Nat.mul_le_mul_right 24 (show _ ≤ 11000000000000 by omega)) (by decide), Nat.le_trans (Nat.mul_le_mul_right 24 (show _ ≤ 11000000000000 by omega)) (by decide), by omega⟩
/-- a mark is written -/
theorem MI.six {E : TypeId} {w wr : World} {g cap n i : Nat} {num : Int} {f : Nat → Value} (M : MI E 6 w wr (.slice (some ⟨g, 0, none⟩) n cap) n i num) (K : BK wr g E (cap * 6) f) (hf : ∀ j, j < i * 6 → f j = mcell 6 num j) :
    MI E 6 w ((((((wr.setCell ⟨g, i * 6, none⟩ (.int .i64 num)).setCell ⟨g, i * 6 + 1, none⟩ (.int .i64 0)).setCell ⟨g, i * 6 + 2, none⟩ (.int .i64 0)).setCell ⟨g, i * 6 + 3, none⟩ (.int .i64 0)).setCell ⟨g, i * 6 + 4, none⟩ (.int .i64 0)).setCell ⟨g, i * 6 + 5, none⟩ (.int .i64 0)) (.slice (some ⟨g, 0, none⟩) n cap) n (i + 1) num := by
  have o := ((((((Bo.refl g wr).set (i * 6) (.int .i64 num)).set (i * 6 + 1) (.int .i64 0)).set (i * 6 + 2) (.int .i64 0)).set (i * 6 + 3) (.int .i64 0)).set (i * 6 + 4) (.int .i64 0)).set (i * 6 + 5) (.int .i64 0)
  have k := (((((K.set (i * 6) (.int .i64 num)).set (i * 6 + 1) (.int .i64 0)).set (i * 6 + 2) (.int .i64 0)).set (i * 6 + 3) (.int .i64 0)).set (i * 6 + 4) (.int .i64 0)).set (i * 6 + 5) (.int .i64 0)
  generalize (((((wr.setCell ⟨g, i * 6, none⟩ (.int .i64 num)).setCell ⟨g, i * 6 + 1, none⟩ (.int .i64 0)).setCell ⟨g, i * 6 + 2, none⟩ (.int .i64 0)).setCell ⟨g, i * 6 + 3, none⟩ (.int .i64 0)).setCell ⟨g, i * 6 + 4, none⟩ (.int .i64 0)).setCell ⟨g, i * 6 + 5, none⟩ (.int .i64 0) = u at *
  exact M.next k (fun j hj => mark6 i num f hf j hj) o
section
variable {w : World} {wb n : Nat} {v0 v1 v2 v3 lv : Value} {es xs : List Value}
set_option maxRecDepth 100000 in
set_option maxHeartbeats 8000000 in
theorem keepsEvents_any (hw : w.heap[wb]? = some (.cells #[v0, v1, v2, v3] 82 (0, 0))) (B : w.ownsRow 0 38 1 v2 es.length es) (hes : es.length ≤ 8000000000000) (num : Int) (hnum : num = -1000 - (es.length : Int) / 4)
    (L : w.ownsRow 0 63 6 lv n xs) (hn : n ≤ 1000) :
    Calls Tryz.prog 93 #[.pointer (some ⟨wb, 2, none⟩), lv] w fun e w' => e = .returned (.tuple #[]) ∧ ∃ v2' s1 s2 s3, KB 63 38 82 6 2 w w' wb (fun b => #[v0, v1, b, v3]) v2 v2' lv (es.length + 1 + 1 + 1 + 1) (es ++ [lv, s1, s2, s3]) n num [lv, s1, s2, s3] ∧ Fm n [lv, s1, s2, s3] := by
  have c2 : w.cell? ⟨wb, 2, none⟩ = some v2 := by simp [World.cell?, hw]
  have hwl : wb < w.heap.size := World.block_lt_of_cell? _ _ c2
  have HBN := hide (Bnd.of hes)
  clear hes
  have hel := HBN.out.n0
  obtain ⟨ba, bc, hbv⟩ := row_any B
  subst hbv
  obtain ⟨i1, hi1, hza, hzb, hzc⟩ := info_parts eventInfo
  obtain ⟨i2, hi2, hya, hyb, hyc⟩ := info_parts seInfo
  have HII := hide (And.intro hi1 hi2)
  have HW := hide hw
  have HB := hide B
  have HN := hide hnum
  obtain ⟨la, lc, hlv⟩ := row_any L
  have M0 : MI 63 6 w w lv n 0 num := .start L
  have HM0 := hide M0
  have HL := hide L
  have hlvb : lv.ownBlock ≠ some wb := by
    intro h
    rcases L.2 with ⟨rfl, _⟩ | ⟨g, cap, cur, rfl, _, hg, _⟩
    · simp [Value.ownBlock] at h
    · obtain rfl : g = wb := by simpa [Value.ownBlock] using h
      rw [hw] at hg
      simp at hg
  subst hlv
  have HLB := hide hlvb
  clear hw B L hi1 hi2 hnum M0 hlvb
  go_enter Tryz.func93, Tryz.ntmps93
  go_wp2_with fail
  obtain ⟨W0, hW0⟩ : ∃ W0, w.alloc (Obj.cells #[.int .i64 (-1000 - (es.length : Int) / 4), .int .i64 0, .int .i64 0, .int .i64 0, .int .i64 0, .int .i64 0] 63) = W0 := ⟨_, rfl⟩
  have hb0 : Below w.heap.size w W0 := by rw [← hW0]; exact (Below.refl _ _).alloc (Nat.le_refl _) _
  have hbx : W0.heap[w.heap.size]? = some (.cells #[.int .i64 num, .int .i64 0, .int .i64 0, .int .i64 0, .int .i64 0, .int .i64 0] 63 (0, 0)) := by rw [← hW0, HN.out]; exact heap_alloc_new _ _
  have hs0 : w.heap.size < W0.heap.size := (Array.getElem?_eq_some_iff.1 hbx).1
  rw [hW0, ← HN.out]
  clear hW0
  have HLlt := hide (show ∀ k, (Value.slice la n lc).ownBlock = some k → k < w.heap.size from fun k hk => (HL.out.lt k hk).2)
  have HM1 := hide (MI.start (num := num) (row_on HL.out hb0))
  have HBX := hide hbx
  have HB0 := hide hb0
  have HWW := hide ((hb0.block wb hwl).trans HW.out)
  have HBB := hide (row_on HB.out hb0)
  have HLL := hide (row_on HL.out hb0)
  have HBB0 := HB
  clear hbx hb0 HM0 HN HB HW c2
  go_loopw [5] (fun iv wr => ∃ i : Nat, iv = .int .i64 i ∧ i ≤ n ∧ MI 63 6 W0 wr (.slice la n lc) n i num) (fun iv _ => n - (intOf iv).toNat)
  case atStart => exact ⟨0, rfl, Nat.zero_le _, HM1.out⟩
  case round =>
    clear HM1
    obtain ⟨i, rfl, hi, M⟩ := hrel
    have hbw : wr.heap[w.heap.size]? = _ := (M.block w.heap.size hs0 (fun e => by have := HLlt.out _ e.symm; omega)).trans HBX.out
    have m0 : wr.cell? ⟨w.heap.size, 0, none⟩ = some (.int .i64 num) := by simp [World.cell?, hbw]
    have m1 : wr.cell? ⟨w.heap.size, 1, none⟩ = some (.int .i64 0) := by simp [World.cell?, hbw]
    have m2 : wr.cell? ⟨w.heap.size, 2, none⟩ = some (.int .i64 0) := by simp [World.cell?, hbw]
    have m3 : wr.cell? ⟨w.heap.size, 3, none⟩ = some (.int .i64 0) := by simp [World.cell?, hbw]
    have m4 : wr.cell? ⟨w.heap.size, 4, none⟩ = some (.int .i64 0) := by simp [World.cell?, hbw]
    have m5 : wr.cell? ⟨w.heap.size, 5, none⟩ = some (.int .i64 0) := by simp [World.cell?, hbw]
    by_cases hlt : i < n
    · have hlt' : (i : Int) < n := by omega
      obtain ⟨g, cap, hq⟩ := row_some HL.out (by omega)
      simp only [Value.slice.injEq] at hq
      obtain ⟨rfl, _, rfl⟩ := hq
      obtain ⟨f, K, hf⟩ := M.bk g lc rfl
      have hnc : n ≤ lc := by
        rcases HL.out.2 with ⟨h, _⟩ | ⟨_, _, _, h, _, _, h1, _⟩
        · cases h
        · simp only [Value.slice.injEq] at h; omega
      have a0 := K.cell (i * 6) (by omega)
      have a1 := K.cell (i * 6 + 1) (by omega)
      have a2 := K.cell (i * 6 + 2) (by omega)
      have a3 := K.cell (i * 6 + 3) (by omega)
      have a4 := K.cell (i * 6 + 4) (by omega)
      have a5 := K.cell (i * 6 + 5) (by omega)
      have f0 := K.frz (i * 6)
      have f1 := K.frz (i * 6 + 1)
      have f2 := K.frz (i * 6 + 2)
      have f3 := K.frz (i * 6 + 3)
      have f4 := K.frz (i * 6 + 4)
      have f5 := K.frz (i * 6 + 5)
      have hgl := HLlt.out g rfl
      have HN1 := hide (MI.six M K hf)
      clear M K hf hbw
      go_wp2_with fail
      go_roundw
      case rel => exact ⟨i + 1, by go_num, by omega, HN1.out⟩
      case measure => simp [intOf]; omega
    · obtain rfl : i = n := by omega
      have HK := hide (MI.kb (c := 2) (cells := fun b => #[v0, v1, b, v3]) M HLL.out (by decide) (by decide) HWW.out HBB.out)
      have hnl : ¬ ((i : Int) < i) := by omega
      have c2 : wr.cell? ⟨wb, 2, none⟩ = some (.slice ba es.length bc) := by simp [World.cell?, HK.out.wbc]
      clear M hbw
      have HK0 := HK
      have HBK : Hid (∀ (u : World) (bv : Value) (m : Nat) (es' ss : List Value), KB 63 38 82 6 2 W0 u wb (fun b => #[v0, v1, b, v3]) (.slice ba es.length bc) bv (.slice la i lc) m es' i num ss → u.heap[w.heap.size]? = some (.cells #[.int .i64 num, .int .i64 0, .int .i64 0, .int .i64 0, .int .i64 0, .int .i64 0] 63 (0, 0))) := fun u bv m es' ss K => (K.block w.heap.size hs0 (by omega) (fun e => by have := (HBB0.out.lt _ e.symm).2; omega) (fun e => by have := HLlt.out _ e.symm; omega)).trans HBX.out
      clear HK
      go_wp2_with (first
        | (at_builtin; have KA := HK6.out.on ((Below.refl _ _).alloc (Nat.le_refl _) (Obj.cells #[.slice a3 (i + 3) q3] 38)); refine wpList_append_lies_wide rfl _ _ 77 rfl 0 38 i2 _ 1 24 Tryz.underlying77 HII.out.2 hya hyb hyc rfl (by decide) (.slice (some ⟨g6, 0, none⟩) (es.length + 1 + 1 + 1) p6) (es.length + 1 + 1 + 1) (es ++ [.slice la i lc] ++ [.slice a1 (i + 1) q1] ++ [.slice a2 (i + 2) q2]) (by rfl) KA.row ⟨w6.heap.size, 0, none⟩ 1 1 [.slice a3 (i + 3) q3] (by rfl) (by rfl) (World.news_of_block (cs := #[.slice a3 (i + 3) q3]) (t := 38) (fr := (0, 0)) (by have h9 := heap_alloc_new (w6.setCell ⟨wb, 2, none⟩ (.slice (some ⟨g6, 0, none⟩) (es.length + 1 + 1 + 1) p6)) (Obj.cells #[.slice a3 (i + 3) q3] 38); simpa using h9)) (by simp [Value.oneCell']) (by decide) HBN.out.m3 HBN.out.e3 (Nat.zero_le _) (w6.heap.size + 1) (by simp) ?_; intro g7 p7 w7 hown hgrow hat _; clear c2 hc6 hf6; obtain ⟨hc7, hf7, KP⟩ := KA.put (by decide) (by decide) (by decide) (fun b => rfl) (fun b b' => rfl) hgrow hown (fun k hk => (by simp [Value.ownBlock] at hk; subst hk; rcases hat with e | e; exact .inl e; exact .inr (by simp; omega))); have HK7 := hide KP; have c2 : (w7.setCell ⟨wb, 2, none⟩ (.slice (some ⟨g7, 0, none⟩) (es.length + 1 + 1 + 1 + 1) p7)).cell? ⟨wb, 2, none⟩ = some (.slice (some ⟨g7, 0, none⟩) (es.length + 1 + 1 + 1 + 1) p7) := (by simp [World.cell?, KP.wbc]); clear KA KP hown hgrow hat HK6)
        | (at_builtin; have KA := HK5.out.on ((Below.refl _ _).alloc (Nat.le_refl _) (Obj.cells #[.slice a2 (i + 2) q2] 38)); refine wpList_append_lies_wide rfl _ _ 77 rfl 0 38 i2 _ 1 24 Tryz.underlying77 HII.out.2 hya hyb hyc rfl (by decide) (.slice (some ⟨g5, 0, none⟩) (es.length + 1 + 1) p5) (es.length + 1 + 1) (es ++ [.slice la i lc] ++ [.slice a1 (i + 1) q1]) (by rfl) KA.row ⟨w5.heap.size, 0, none⟩ 1 1 [.slice a2 (i + 2) q2] (by rfl) (by rfl) (World.news_of_block (cs := #[.slice a2 (i + 2) q2]) (t := 38) (fr := (0, 0)) (by have h9 := heap_alloc_new (w5.setCell ⟨wb, 2, none⟩ (.slice (some ⟨g5, 0, none⟩) (es.length + 1 + 1) p5)) (Obj.cells #[.slice a2 (i + 2) q2] 38); simpa using h9)) (by simp [Value.oneCell']) (by decide) HBN.out.m2 HBN.out.e2 (Nat.zero_le _) (w5.heap.size + 1) (by simp) ?_; intro g6 p6 w6 hown hgrow hat _; clear c2 hc5 hf5; obtain ⟨hc6, hf6, KP⟩ := KA.put (by decide) (by decide) (by decide) (fun b => rfl) (fun b b' => rfl) hgrow hown (fun k hk => (by simp [Value.ownBlock] at hk; subst hk; rcases hat with e | e; exact .inl e; exact .inr (by simp; omega))); have HK6 := hide KP; have c2 : (w6.setCell ⟨wb, 2, none⟩ (.slice (some ⟨g6, 0, none⟩) (es.length + 1 + 1 + 1) p6)).cell? ⟨wb, 2, none⟩ = some (.slice (some ⟨g6, 0, none⟩) (es.length + 1 + 1 + 1) p6) := (by simp [World.cell?, KP.wbc]); clear KA KP hown hgrow hat HK5)
        | (at_builtin; have KA := HK4.out.on ((Below.refl _ _).alloc (Nat.le_refl _) (Obj.cells #[.slice a1 (i + 1) q1] 38)); refine wpList_append_lies_wide rfl _ _ 77 rfl 0 38 i2 _ 1 24 Tryz.underlying77 HII.out.2 hya hyb hyc rfl (by decide) (.slice (some ⟨g4, 0, none⟩) (es.length + 1) p4) (es.length + 1) (es ++ [.slice la i lc]) (by rfl) KA.row ⟨w4.heap.size, 0, none⟩ 1 1 [.slice a1 (i + 1) q1] (by rfl) (by rfl) (World.news_of_block (cs := #[.slice a1 (i + 1) q1]) (t := 38) (fr := (0, 0)) (by have h9 := heap_alloc_new (w4.setCell ⟨wb, 2, none⟩ (.slice (some ⟨g4, 0, none⟩) (es.length + 1) p4)) (Obj.cells #[.slice a1 (i + 1) q1] 38); simpa using h9)) (by simp [Value.oneCell']) (by decide) HBN.out.m1 HBN.out.e1 (Nat.zero_le _) (w4.heap.size + 1) (by simp) ?_; intro g5 p5 w5 hown hgrow hat _; clear c2 hc4 hf4; obtain ⟨hc5, hf5, KP⟩ := KA.put (by decide) (by decide) (by decide) (fun b => rfl) (fun b b' => rfl) hgrow hown (fun k hk => (by simp [Value.ownBlock] at hk; subst hk; rcases hat with e | e; exact .inl e; exact .inr (by simp; omega))); have HK5 := hide KP; have c2 : (w5.setCell ⟨wb, 2, none⟩ (.slice (some ⟨g5, 0, none⟩) (es.length + 1 + 1) p5)).cell? ⟨wb, 2, none⟩ = some (.slice (some ⟨g5, 0, none⟩) (es.length + 1 + 1) p5) := (by simp [World.cell?, KP.wbc]); clear KA KP hown hgrow hat HK4)
        | (at_builtin; have KA := HK3.out.on ((Below.refl _ _).alloc (Nat.le_refl _) (Obj.cells #[.slice la i lc] 38)); go_must (refine wpList_append_lies_wide rfl _ _ 77 rfl 0 38 i2 _ 1 24 Tryz.underlying77 HII.out.2 hya hyb hyc rfl (by decide) (.slice ba es.length bc) es.length es (by rfl) KA.row ⟨w3.heap.size, 0, none⟩ 1 1 [.slice la i lc] (by rfl) (by rfl) (World.news_of_block (cs := #[.slice la i lc]) (t := 38) (fr := (0, 0)) (heap_alloc_new _ _)) (by simp [Value.oneCell']) (by decide) HBN.out.m0 HBN.out.e0 (Nat.zero_le _) (w3.heap.size + 1) (by simp) ?_); intro g4 p4 w4 hown hgrow hat _; clear m0 m1 m2 m3 m4 m5 c2; obtain ⟨hc4, hf4, KP⟩ := KA.put (by decide) (by decide) (by decide) (fun b => rfl) (fun b b' => rfl) hgrow hown (fun k hk => (by simp [Value.ownBlock] at hk; subst hk; rcases hat with e | e; exact .inl e; exact .inr (by simp; omega))); have HK4 := hide KP; have c2 : (w4.setCell ⟨wb, 2, none⟩ (.slice (some ⟨g4, 0, none⟩) (es.length + 1) p4)).cell? ⟨wb, 2, none⟩ = some (.slice (some ⟨g4, 0, none⟩) (es.length + 1) p4) := (by simp [World.cell?, KP.wbc]); clear KA KP hown hgrow hat HK3)
        | (at_builtin; have KA := HK2.out.on ((Below.refl _ _).alloc (Nat.le_refl _) (Obj.cells #[.int .i64 num, .int .i64 0, .int .i64 0, .int .i64 0, .int .i64 0, .int .i64 0, .int .i64 num, .int .i64 0, .int .i64 0, .int .i64 0, .int .i64 0, .int .i64 0, .int .i64 num, .int .i64 0, .int .i64 0, .int .i64 0, .int .i64 0, .int .i64 0] 63)); refine wpList_append_marks (num := num) rfl _ _ rfl 0 i1 _ 48 Tryz.underlying38 HII.out.1 hza hzb hzc rfl (by decide) (by rfl) KA.own (KA.mks _ (by simp)) ⟨w2.heap.size, 0, none⟩ 3 (by decide) 3 [.int .i64 num, .int .i64 0, .int .i64 0, .int .i64 0, .int .i64 0, .int .i64 0, .int .i64 num, .int .i64 0, .int .i64 0, .int .i64 0, .int .i64 0, .int .i64 0, .int .i64 num, .int .i64 0, .int .i64 0, .int .i64 0, .int .i64 0, .int .i64 0] (by rfl) (by rfl) (World.news_of_block (cs := #[.int .i64 num, .int .i64 0, .int .i64 0, .int .i64 0, .int .i64 0, .int .i64 0, .int .i64 num, .int .i64 0, .int .i64 0, .int .i64 0, .int .i64 0, .int .i64 0, .int .i64 num, .int .i64 0, .int .i64 0, .int .i64 0, .int .i64 0, .int .i64 0]) (t := 63) (fr := (0, 0)) (heap_alloc_new _ _)) (fun j hj => (by rw [show ([.int .i64 num, .int .i64 0, .int .i64 0, .int .i64 0, .int .i64 0, .int .i64 0, .int .i64 num, .int .i64 0, .int .i64 0, .int .i64 0, .int .i64 0, .int .i64 0, .int .i64 num, .int .i64 0, .int .i64 0, .int .i64 0, .int .i64 0, .int .i64 0] : List Value) = marks 6 num 3 from rfl]; exact marks_at 6 num 3 j hj)) (by unfold maxLen; omega) (by omega) ?_; rintro v3 w3 ⟨a3, q3, rfl⟩ hm hk ho hg hat; clear m0 m1 m2 m3 m4 m5 c2; have HK3 := hide (KA.app (by decide) (by decide) hm hk ho hg hat); have hbw3 := HBK.out _ _ _ _ _ HK3.out; have m0 : w3.cell? ⟨w.heap.size, 0, none⟩ = some (.int .i64 num) := (by simp [World.cell?, hbw3]); have m1 : w3.cell? ⟨w.heap.size, 1, none⟩ = some (.int .i64 0) := (by simp [World.cell?, hbw3]); have m2 : w3.cell? ⟨w.heap.size, 2, none⟩ = some (.int .i64 0) := (by simp [World.cell?, hbw3]); have m3 : w3.cell? ⟨w.heap.size, 3, none⟩ = some (.int .i64 0) := (by simp [World.cell?, hbw3]); have m4 : w3.cell? ⟨w.heap.size, 4, none⟩ = some (.int .i64 0) := (by simp [World.cell?, hbw3]); have m5 : w3.cell? ⟨w.heap.size, 5, none⟩ = some (.int .i64 0) := (by simp [World.cell?, hbw3]); have c2 : w3.cell? ⟨wb, 2, none⟩ = some (.slice ba es.length bc) := (by simp [World.cell?, HK3.out.wbc]); clear KA hm hk ho hg hat hbw3 HK2)
        | (at_builtin; have KA := HK1.out.on ((Below.refl _ _).alloc (Nat.le_refl _) (Obj.cells #[.int .i64 num, .int .i64 0, .int .i64 0, .int .i64 0, .int .i64 0, .int .i64 0, .int .i64 num, .int .i64 0, .int .i64 0, .int .i64 0, .int .i64 0, .int .i64 0] 63)); refine wpList_append_marks (num := num) rfl _ _ rfl 0 i1 _ 48 Tryz.underlying38 HII.out.1 hza hzb hzc rfl (by decide) (by rfl) KA.own (KA.mks _ (by simp)) ⟨w1.heap.size, 0, none⟩ 2 (by decide) 2 [.int .i64 num, .int .i64 0, .int .i64 0, .int .i64 0, .int .i64 0, .int .i64 0, .int .i64 num, .int .i64 0, .int .i64 0, .int .i64 0, .int .i64 0, .int .i64 0] (by rfl) (by rfl) (World.news_of_block (cs := #[.int .i64 num, .int .i64 0, .int .i64 0, .int .i64 0, .int .i64 0, .int .i64 0, .int .i64 num, .int .i64 0, .int .i64 0, .int .i64 0, .int .i64 0, .int .i64 0]) (t := 63) (fr := (0, 0)) (heap_alloc_new _ _)) (fun j hj => (by rw [show ([.int .i64 num, .int .i64 0, .int .i64 0, .int .i64 0, .int .i64 0, .int .i64 0, .int .i64 num, .int .i64 0, .int .i64 0, .int .i64 0, .int .i64 0, .int .i64 0] : List Value) = marks 6 num 2 from rfl]; exact marks_at 6 num 2 j hj)) (by unfold maxLen; omega) (by omega) ?_; rintro v2 w2 ⟨a2, q2, rfl⟩ hm hk ho hg hat; clear m0 m1 m2 m3 m4 m5 c2; have HK2 := hide (KA.app (by decide) (by decide) hm hk ho hg hat); have hbw2 := HBK.out _ _ _ _ _ HK2.out; have m0 : w2.cell? ⟨w.heap.size, 0, none⟩ = some (.int .i64 num) := (by simp [World.cell?, hbw2]); have m1 : w2.cell? ⟨w.heap.size, 1, none⟩ = some (.int .i64 0) := (by simp [World.cell?, hbw2]); have m2 : w2.cell? ⟨w.heap.size, 2, none⟩ = some (.int .i64 0) := (by simp [World.cell?, hbw2]); have m3 : w2.cell? ⟨w.heap.size, 3, none⟩ = some (.int .i64 0) := (by simp [World.cell?, hbw2]); have m4 : w2.cell? ⟨w.heap.size, 4, none⟩ = some (.int .i64 0) := (by simp [World.cell?, hbw2]); have m5 : w2.cell? ⟨w.heap.size, 5, none⟩ = some (.int .i64 0) := (by simp [World.cell?, hbw2]); have c2 : w2.cell? ⟨wb, 2, none⟩ = some (.slice ba es.length bc) := (by simp [World.cell?, HK2.out.wbc]); clear KA hm hk ho hg hat hbw2 HK1)
        | (at_builtin; have KA := HK0.out.on ((Below.refl _ _).alloc (Nat.le_refl _) (Obj.cells #[.int .i64 num, .int .i64 0, .int .i64 0, .int .i64 0, .int .i64 0, .int .i64 0] 63)); refine wpList_append_marks (num := num) rfl _ _ rfl 0 i1 _ 48 Tryz.underlying38 HII.out.1 hza hzb hzc rfl (by decide) (by rfl) KA.own (KA.mks _ (by simp)) ⟨wr.heap.size, 0, none⟩ 1 (by decide) 1 [.int .i64 num, .int .i64 0, .int .i64 0, .int .i64 0, .int .i64 0, .int .i64 0] (by rfl) (by rfl) (World.news_of_block (cs := #[.int .i64 num, .int .i64 0, .int .i64 0, .int .i64 0, .int .i64 0, .int .i64 0]) (t := 63) (fr := (0, 0)) (heap_alloc_new _ _)) (fun j hj => (by rw [show ([.int .i64 num, .int .i64 0, .int .i64 0, .int .i64 0, .int .i64 0, .int .i64 0] : List Value) = marks 6 num 1 from rfl]; exact marks_at 6 num 1 j hj)) (by unfold maxLen; omega) (by omega) ?_; rintro v1 w1 ⟨a1, q1, rfl⟩ hm hk ho hg hat; clear m0 m1 m2 m3 m4 m5 c2; have HK1 := hide (KA.app (by decide) (by decide) hm hk ho hg hat); have hbw1 := HBK.out _ _ _ _ _ HK1.out; have m0 : w1.cell? ⟨w.heap.size, 0, none⟩ = some (.int .i64 num) := (by simp [World.cell?, hbw1]); have m1 : w1.cell? ⟨w.heap.size, 1, none⟩ = some (.int .i64 0) := (by simp [World.cell?, hbw1]); have m2 : w1.cell? ⟨w.heap.size, 2, none⟩ = some (.int .i64 0) := (by simp [World.cell?, hbw1]); have m3 : w1.cell? ⟨w.heap.size, 3, none⟩ = some (.int .i64 0) := (by simp [World.cell?, hbw1]); have m4 : w1.cell? ⟨w.heap.size, 4, none⟩ = some (.int .i64 0) := (by simp [World.cell?, hbw1]); have m5 : w1.cell? ⟨w.heap.size, 5, none⟩ = some (.int .i64 0) := (by simp [World.cell?, hbw1]); have c2 : w1.cell? ⟨wb, 2, none⟩ = some (.slice ba es.length bc) := (by simp [World.cell?, HK1.out.wbc]); clear KA hm hk ho hg hat hbw1 HK0)
        | fail)
      go_end0
      have h9 := HK7.out.base HB0.out
      simp only [List.append_assoc, List.cons_append, List.nil_append] at h9
      exact ⟨rfl, _, _, _, _, h9, Fm.four⟩
end
end Go.Proofs.YtcnmbldikjljeaaGreatDoor
