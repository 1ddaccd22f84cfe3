import Derived.Test.YtcnmbldikjljeaaGreatDoorJ09
import Derived.Test.YtcnmbldikjljeaaGreatDoorJ25
namespace Go.Proofs.YtcnmbldikjljeaaGreatDoor
open Go.RowKit

section
variable {w : World} {st : List Stg} {sv : Value} {vs : Nat → Value × Value}
set_option maxRecDepth 100000 in
set_option maxHeartbeats 4000000 in
theorem refCheck_any (S : SL w sv st vs) :
    Calls Tryz.prog 85 #[sv] w fun e w' => e = .returned (.int .i64 (if checkL st = true then 0 else 4)) ∧ Below w.heap.size w w' := by
  obtain ⟨sa, scap, hsv⟩ := S.row.any
  subst hsv
  generalize hr : (if checkL st = true then (0 : Int) else 4) = r
  have HT := hide (show checkL st = true → r = 0 from fun h => by rw [← hr, if_pos h])
  have HF := hide (show checkL st = false → r = 4 from fun h => by rw [← hr, h]; rfl)
  clear hr
  by_cases h1 : 1 ≤ st.length ∧ st.length ≤ 6
  · have hin : decide ((1 : Int) ≤ st.length ∧ (st.length : Int) ≤ 6) = true := by simp; omega
    obtain ⟨q, qo, cap, hq⟩ := S.row.some (by omega) (by omega)
    simp only [Value.slice.injEq] at hq
    obtain ⟨rfl, _, rfl⟩ := hq
    have HS := hide S
    have HI := hide hin
    clear hin S
    have HN := hide (rfl : st.length = st.length)
    go_enter Tryz.func85, Tryz.ntmps85
    go_wp2_with fail
    refine (in_any _ _ _ _).mono ?_
    rw [HI.out]
    rintro e u ⟨rfl, rfl⟩
    go_wp2_with fail
    go_loopw [3, 4] (fun okv iv wr => ∃ i : Nat, okv = .bool true ∧ iv = .int .i64 i ∧ i ≤ st.length ∧ Below u.heap.size u wr ∧ Hid (∀ j : Nat, j < i → stgOk st.length (stAt st j) = true)) (fun _ iv _ => st.length - (intOf iv).toNat)
    case atStart => exact ⟨0, rfl, rfl, Nat.zero_le _, Below.refl _ _, fun j hj => by omega⟩
    case round =>
      obtain ⟨i, rfl, rfl, hi, hb, HJ⟩ := hrel
      by_cases hlt : i < st.length
      · have hlt' : (i : Int) < st.length := by omega
        have S' := HS.out.on hb
        have l0 := S'.row.cell (i * 2) _ (stCells_at vs st.length i hlt).1
        have l1 := S'.row.cell (i * 2 + 1) _ (stCells_at vs st.length i hlt).2
        rw [← Nat.add_assoc] at l1
        have hlv := S'.lev i hlt
        have hnx := S'.nxt i hlt
        obtain ⟨la, lcap, hla⟩ := hlv.any
        obtain ⟨na, ncap, hna⟩ := hnx.any
        rw [hla] at l0 hlv
        rw [hna] at l1 hnx
        have hnm : (stAt st i).next.length ≤ 9223372036854775807 := by have := hnx.max; simp only [maxLen] at this; omega
        clear S' hla hna
        have HNO := hide (fun h => HF.out (check_no i hlt h))
        generalize hst : stAt st i = s at *
        have HST := hide hst
        clear hst
        have HLV := hide hlv
        have HNX := hide hnx
        clear hlv hnx
        by_cases h4 : s.levels.length ≤ 4
        · have h4' : (s.levels.length : Int) ≤ 4 := by omega
          have hblt : q < wr.heap.size := World.block_lt_of_cell? _ _ l0
          have HB := hide hb
          clear hb
          obtain ⟨W, rfl⟩ : ∃ W, W = wr := ⟨_, rfl⟩
          go_wp2_with fail
          go_loopw [5] (fun kv wz => ∃ k : Nat, kv = .int .i64 k ∧ k ≤ s.levels.length ∧ Below W.heap.size W wz ∧ Hid (∀ p ∈ s.levels.take k, lvOk p = true)) (fun kv _ => s.levels.length - (intOf kv).toNat)
          case atStart => exact ⟨0, rfl, Nat.zero_le _, Below.refl _ _, fun p hp => by simp at hp⟩
          case round =>
            obtain ⟨k, rfl, hk, hbz, HP⟩ := hrel
            have l0' := (hbz.cell (p := ⟨q, qo + i * 2, none⟩) hblt).trans l0
            by_cases hkl : k < s.levels.length
            · have hkl' : (k : Int) < s.levels.length := by omega
              obtain ⟨lq, lo, lc, hlq⟩ := HLV.out.some (by omega) (by omega)
              simp only [Value.slice.injEq] at hlq
              obtain ⟨rfl, _, rfl⟩ := hlq
              have hrow := HLV.out.on hbz
              have e0 := hrow.cell (k * 2) _ (flat_at s.levels k hkl).1
              have e1 := hrow.cell (k * 2 + 1) _ (flat_at s.levels k hkl).2
              rw [← Nat.add_assoc] at e1
              have HPS := hide (show lvOk s.levels[k] = true → ∀ p ∈ s.levels.take (k + 1), lvOk p = true from fun h p hp => by
                rw [List.take_succ_eq_append_getElem hkl] at hp
                rcases List.mem_append.1 hp with a | a
                · exact HP.out p a
                · rw [List.mem_singleton] at a; subst a; exact h)
              have HNS := hide (show lvOk s.levels[k] = false → r = 4 from fun h => HNO.out (by
                rw [stgOk_eq, List.all_eq_false.2 ⟨_, List.getElem_mem hkl, by rw [h]; simp⟩, Bool.and_false, Bool.false_and]))
              clear hrow HP
              have HV := hide (show lvOk s.levels[k] = (decide (1 ≤ s.levels[k].1 ∧ s.levels[k].1 ≤ 20000) && decide (0 ≤ s.levels[k].2 ∧ s.levels[k].2 ≤ 99)) from rfl)
              generalize lvOk s.levels[k] = ok at *
              generalize s.levels[k].1 = x at *
              generalize s.levels[k].2 = y at *
              have HBZ := hide hbz
              clear hbz
              go_wp2_with fail
              refine (in_any _ _ _ _).mono ?_
              generalize decide ((1 : Int) ≤ x ∧ x ≤ 20000) = ab at *
              rintro e u2 ⟨rfl, rfl⟩
              go_wp2_with fail
              refine (in_any _ _ _ _).mono ?_
              generalize decide ((0 : Int) ≤ y ∧ y ≤ 99) = bb at *
              rintro e u3 ⟨rfl, rfl⟩
              cases ab
              · have HE := hide (HNS.out HV.out)
                go_wp2_with fail
                go_ret
                rw [HE.out]
                exact ⟨rfl, HB.out.trans (HBZ.out.mono HB.out.size)⟩
              · cases bb
                · have HE := hide (HNS.out HV.out)
                  go_wp2_with fail
                  go_ret
                  rw [HE.out]
                  exact ⟨rfl, HB.out.trans (HBZ.out.mono HB.out.size)⟩
                · have HQ := hide (HPS.out HV.out)
                  go_wp2_with fail
                  go_roundw
                  case rel => exact ⟨k + 1, by go_num, by omega, HBZ.out, HQ⟩
                  case measure => simp [intOf]; omega
            · have hkl' : ¬ (k : Int) < s.levels.length := by omega
              have HLO := hide (show s.levels.all lvOk = true from List.all_eq_true.2 fun p hp => HP.out p (by rw [List.take_of_length_le (by omega)]; exact hp))
              have l1' := (hbz.cell (p := ⟨q, qo + i * 2 + 1, none⟩) hblt).trans l1
              have hblt' : q < wr.heap.size := Nat.lt_of_lt_of_le hblt hbz.size
              have HB2 := hide (HB.out.trans (hbz.mono HB.out.size))
              have HNX2 := hide (HNX.out.on hbz)
              clear hbz HB HNX l0 l1 hblt
              obtain ⟨V, rfl⟩ : ∃ V, V = wr := ⟨_, rfl⟩
              go_wp2_with fail
              go_loopw [3, 8] (fun okv kv wz => ∃ k : Nat, okv = .bool true ∧ kv = .int .i64 k ∧ k ≤ s.next.length ∧ Below V.heap.size V wz ∧ Hid (∀ p ∈ s.next.take k, nxOk st.length p = true)) (fun _ kv _ => s.next.length - (intOf kv).toNat)
              case atStart => exact ⟨0, rfl, rfl, Nat.zero_le _, Below.refl _ _, fun p hp => by simp at hp⟩
              case round =>
                obtain ⟨m, rfl, rfl, hm, hbz, HP2⟩ := hrel
                have l1'' := (hbz.cell (p := ⟨q, qo + i * 2 + 1, none⟩) hblt').trans l1'
                by_cases hml : m < s.next.length
                · have hml' : (m : Int) < s.next.length := by omega
                  obtain ⟨lq, lo, lc, hlq⟩ := HNX2.out.some (by omega) (by omega)
                  simp only [Value.slice.injEq] at hlq
                  obtain ⟨rfl, _, rfl⟩ := hlq
                  have hrow := HNX2.out.on hbz
                  have e0 := hrow.cell (m * 1) _ (intCells_at s.next m hml)
                  rw [Nat.mul_one] at e0
                  have HPS := hide (show nxOk st.length s.next[m] = true → ∀ p ∈ s.next.take (m + 1), nxOk st.length p = true from fun h p hp => by
                    rw [List.take_succ_eq_append_getElem hml] at hp
                    rcases List.mem_append.1 hp with a | a
                    · exact HP2.out p a
                    · rw [List.mem_singleton] at a; subst a; exact h)
                  have HNS := hide (show nxOk st.length s.next[m] = false → r = 4 from fun h => HNO.out (by
                    rw [stgOk_eq, List.all_eq_false.2 ⟨_, List.getElem_mem hml, by rw [h]; simp⟩, Bool.and_false]))
                  clear hrow HP2
                  have HV := hide (show nxOk st.length s.next[m] = decide (0 ≤ s.next[m] ∧ s.next[m] ≤ (st.length : Int) - 1) from decide_eq_decide.2 (by omega))
                  generalize nxOk st.length s.next[m] = ok at *
                  generalize s.next[m] = x at *
                  have HBZ := hide hbz
                  clear hbz
                  go_wp2_with fail
                  refine (in_any _ _ _ _).mono ?_
                  generalize decide (0 ≤ x ∧ x ≤ (st.length : Int) - 1) = ab at *
                  rintro e u2 ⟨rfl, rfl⟩
                  cases ab
                  · have HE := hide (HNS.out HV.out)
                    go_wp2_with fail
                    go_ret
                    rw [HE.out]
                    exact ⟨rfl, HB2.out.trans (HBZ.out.mono HB2.out.size)⟩
                  · have HQ := hide (HPS.out HV.out)
                    go_wp2_with fail
                    go_roundw
                    case rel => exact ⟨m + 1, by trivial, by go_num, by omega, HBZ.out, HQ⟩
                    case measure => simp [intOf]; omega
                · have hml' : ¬ (m : Int) < s.next.length := by omega
                  have HSO := hide (show stgOk st.length (stAt st i) = true by
                    rw [HST.out, stgOk_eq, decide_eq_true h4, HLO.out, Bool.true_and, Bool.true_and]
                    exact List.all_eq_true.2 fun p hp => HP2.out p (by rw [List.take_of_length_le (by omega)]; exact hp))
                  have HBZ := hide hbz
                  clear hbz
                  go_wp2_with fail
                  go_roundw
                  case rel => exact ⟨i + 1, by trivial, by go_num, by omega, HB2.out.trans (HBZ.out.mono HB2.out.size), fun j hj => by
                    by_cases e : j = i
                    · subst e; exact HSO.out
                    · exact HJ.out j (by omega)⟩
                  case measure => simp [intOf]; omega
        · have h4' : 4 < (s.levels.length : Int) := by omega
          have HE := hide (HNO.out (by unfold stgOk; rw [decide_eq_false h4]; rfl))
          have HB := hide hb
          clear hb
          go_wp2_with fail
          go_ret
          rw [HE.out]
          exact ⟨rfl, HB.out⟩
      · have HE := hide (HT.out <| check_yes h1 (fun j hj => HJ.out j (by omega)))
        have HB := hide hb
        clear hb
        go_wp2_with fail
        go_ret
        rw [HE.out]
        exact ⟨rfl, HB.out⟩
  · have hin : decide ((1 : Int) ≤ st.length ∧ (st.length : Int) ≤ 6) = false := by simp; omega
    have HE := hide (HF.out (show checkL st = false by unfold checkL; rw [decide_eq_false h1]; rfl))
    have HI := hide hin
    clear hin S
    go_enter Tryz.func85, Tryz.ntmps85
    go_wp2_with fail
    refine (in_any _ _ _ _).mono ?_
    rw [HI.out]
    rintro e u ⟨rfl, rfl⟩
    go_wp2_with fail
    go_ret
    rw [HE.out]
    exact ⟨rfl, Below.refl _ _⟩
end
end Go.Proofs.YtcnmbldikjljeaaGreatDoor
namespace Go.Proofs.YtcnmbldikjljeaaGreatDoor
open Go.RowKit

/-- append of a row that lies, nil or not, to a row of one's own: a step of a region -/
theorem step_append_row {P : Program} {w : World} {ops : Array Oper} {o : Oper} {a : Act} {K : Act → World → Prop} {Q : Exit → Act → World → Prop} {E : Prop} (hgd : o.guard = none) (s x : Operand) (t : TypeId)
    (ho : o.op = .call { callee := .builtin .append, args := #[s, x], argTypes := #[t, t] })
    (base : Nat) (e : TypeId) (i : TypeInfo) (z : Value) (size bytes : Nat) (ht : P.underlying t = some (.slice e)) (hi : P.info? e = some i) (hz : i.zero = some z)
    (hsize : i.size = size) (hby : i.bytes = bytes) (hzs : z.cells.size = size) (hsz : 0 < size)
    (v : Value) (n : Nat) (xs : List Value) (hs : a.eval s = v) (hown : w.ownsRow base e size v n xs)
    (xv : Value) (m : Nat) (news : List Value) (hx : a.eval x = xv) (hrow : LR w size xv m news) (h1 : ∀ u ∈ news, u.oneCell' = true)
    (h63 : n + m ≤ maxLen) (hbytes : (n + m) * bytes ≤ 140737488355328) (hbase : base ≤ w.heap.size)
    (h : ∀ v' w', w'.ownsRow base e size v' (n + m) (xs ++ news) → w.grownBy w' v.ownBlock → K (a.put o.dst v') w') :
    if Region.wanted o (yielded ops a.tmps) = true then Oper.wp P o a w K Q else E := by
  have hw : Region.wanted o (yielded ops a.tmps) = true := by simp [Region.wanted, hgd]
  rw [if_pos hw]
  obtain ⟨ad, cap, rfl, hnone, hcell⟩ := hrow.form
  cases ad with
  | none =>
    obtain ⟨rfl, rfl⟩ := hnone rfl
    have hn : news = [] := List.eq_nil_of_length_eq_zero (by rw [hrow.len]; simp)
    subst hn
    have hrun := run_append_owned_none (P := P) (w := w) base t o.type e i size ht hi v n xs hown
    unfold Oper.wp
    simp [execOp, ho, resolve, invoke, builtin, hs, hx, hrun, Result.andThen]
    exact h v w (by rw [Nat.add_zero, List.append_nil]; exact hown) ⟨rfl, rfl, rfl, Nat.le_refl _, fun _ _ _ => rfl⟩
  | some ad =>
    exact wp_append_own w s x t ho base e i z size bytes ht hi hz hsize hby hzs hsz v n xs hs hown ad m cap news hx hrow.len
      (fun j u hj => by
        obtain ⟨b, off, e1, e2⟩ := hcell j u hj
        cases e1
        rw [addr_add]; exact e2) h1 h63 hbytes hbase (fun v' w' a b _ => h v' w' a b)
theorem below_frz {b : Nat} {w u : World} {q j : Nat} (hb : Below b w u) (hq : q < b) : u.frozen? ⟨q, j, none⟩ = w.frozen? ⟨q, j, none⟩ := by simp [World.frozen?, hb.block q hq]
section
variable {w : World} {st : List Stg} {sv : Value} {vs : Nat → Value × Value}
set_option maxRecDepth 100000 in
set_option maxHeartbeats 4000000 in
theorem refNewNil_any : Calls Tryz.prog 86 #[.pointer none, sv] w fun e w' => e = .returned (.tuple #[.pointer none, .int .i64 1]) ∧ w' = w := by
  go_enter Tryz.func86, Tryz.ntmps86
  go_wp2_with fail
  go_ret2
  exact ⟨rfl, rfl⟩
set_option maxRecDepth 100000 in
set_option maxHeartbeats 4000000 in
theorem refNewNo_any {c : Nat} (S : SL w sv st vs) (hno : checkL st = false) : Calls Tryz.prog 86 #[P0 c, sv] w fun e w' => e = .returned (.tuple #[.pointer none, .int .i64 4]) ∧ Below w.heap.size w w' := by
  have HC := hide (refCheck_any S)
  rw [hno] at HC
  clear S
  go_enter Tryz.func86, Tryz.ntmps86
  go_wp2_with fail
  refine HC.out.mono ?_
  rintro e u ⟨rfl, hb⟩
  have HB := hide hb
  clear hb HC
  go_wp2_with fail
  go_ret2
  exact ⟨rfl, HB.out⟩
/-- stages that lie in new blocks -/
structure NewAt (lo : Nat) (st : List Stg) (sv : Value) (vs : Nat → Value × Value) : Prop where
  row : ∀ k, sv.ownBlock = some k → lo ≤ k
  lev : ∀ i, i < st.length → ∀ k, (vs i).1.ownBlock = some k → lo ≤ k
  nxt : ∀ i, i < st.length → ∀ k, (vs i).2.ownBlock = some k → lo ≤ k
/-- where New's loop stands: the docket's block, the stages so far -/
structure NW (u : World) (c : Nat) (st : List Stg) (wr : World) (i : Nat) (dv : Value) (vs : Nat → Value × Value) : Prop where
  below : Below u.heap.size u wr
  blk : wr.heap[u.heap.size]? = some (.cells #[P0 c, dv, .int .i64 0, .int .i64 0, .int .i64 0, .slice none 0 0] 240 (0, 0))
  row : wr.ownsRow u.heap.size 125 2 dv i (stCells vs i)
  lev : ∀ j, j < i → wr.ownsRow u.heap.size 127 2 (vs j).1 (stAt st j).levels.length (flat (stAt st j).levels)
  nxt : ∀ j, j < i → wr.ownsRow u.heap.size 3 1 (vs j).2 (stAt st j).next.length (intCells (stAt st j).next)
theorem NW.step {u wr W3 X w5 : World} {c i b1 b2 n1 n2 : Nat} {st : List Stg} {dv v1 v2 v5 : Value} {vz : Nat → Value × Value} {x1 x2 : List Value} (N : NW u c st wr i dv vz) (hb1 : u.heap.size ≤ b1) (hb2 : u.heap.size ≤ b2) (hb5 : Below wr.heap.size wr W3) (hbx : Below W3.heap.size W3 X)
    (h1 : W3.ownsRow b1 127 2 v1 n1 x1) (e1 : n1 = (stAt st i).levels.length) (y1 : x1 = flat (stAt st i).levels) (h2 : W3.ownsRow b2 3 1 v2 n2 x2) (e2 : n2 = (stAt st i).next.length) (y2 : x2 = intCells (stAt st i).next)
    (hg : X.grownBy w5 dv.ownBlock) (h5 : w5.ownsRow u.heap.size 125 2 v5 (i + 1) (stCells vz i ++ [v1, v2])) :
    w5.cell? ⟨u.heap.size, 1, none⟩ = some dv ∧ w5.frozen? ⟨u.heap.size, 1, none⟩ = false ∧ NW u c st (w5.setCell ⟨u.heap.size, 1, none⟩ v5) (i + 1) v5 (fun j => if j = i then (v1, v2) else vz j) := by
  subst e1 y1 e2 y2
  have hul : u.heap.size < wr.heap.size := (Array.getElem?_eq_some_iff.1 N.blk).1
  have hbX : Below wr.heap.size wr X := hb5.trans (hbx.mono hb5.size)
  have hX := (hbX.block _ hul).trans N.blk
  have hrow := row_on N.row hbX
  have hne : dv.ownBlock ≠ some u.heap.size := by
    intro h
    rcases hrow.2 with ⟨rfl, _⟩ | ⟨q, cap, cur, rfl, _, hq, _⟩
    · simp [Value.ownBlock] at h
    · obtain rfl : q = u.heap.size := by simpa [Value.ownBlock] using h
      rw [hX] at hq
      cases hq
  have hK : ∀ {e : TypeId} {b s n : Nat} {v : Value} {xs : List Value}, e ≠ 125 → X.ownsRow b e s v n xs → w5.ownsRow b e s v n xs := by
    intro e b s n v xs he h
    rcases hrow.2 with ⟨hz, _⟩ | ⟨q, cap, cur, hz, _, hq, _⟩
    · subst hz; exact row_on h (below_of_grown hg)
    · subst hz; exact row_left h hg hq (fun h => he h.symm)
  have hlt : u.heap.size < X.heap.size := (Array.getElem?_eq_some_iff.1 hX).1
  have h5b := (hg.block _ hlt (fun h => hne (by first | exact h.symm | exact h))).trans hX
  have hs : w5.grownBy (w5.setCell ⟨u.heap.size, 1, none⟩ v5) (some u.heap.size) := ⟨rfl, rfl, rfl, by simp [World.setCell], fun k _ hk => Below.heap_setCell _ _ _ k (fun h => hk (by simp at h; simp [h]))⟩
  have hT : ∀ {e : TypeId} {b s n : Nat} {v : Value} {xs : List Value}, e ≠ 240 → w5.ownsRow b e s v n xs → (w5.setCell ⟨u.heap.size, 1, none⟩ v5).ownsRow b e s v n xs := fun he h => row_left h hs h5b (fun h => he h.symm)
  refine ⟨by simp [World.cell?, h5b], by simp [World.frozen?, h5b], ?_, ?_, ?_, ?_, ?_⟩
  · exact ((N.below.trans (hbX.mono N.below.size)).grown hg (Nat.le_of_lt hlt) (fun k hk => (hrow.lt k hk).1)).setCell (Nat.le_refl _) _
  · have := heap_setCell_same _ _ 1 _ _ v5 h5b
    simpa using this
  · rw [stCells_succ, stCells_congr _ vz i (fun j hj => if_neg (by omega)), if_pos rfl]
    exact hT (by decide) h5
  · intro j hj
    by_cases e : j = i
    · subst e
      rw [if_pos rfl]
      exact row_mono (hT (by decide) (hK (by decide) (row_on h1 hbx))) hb1
    · rw [if_neg e]
      exact hT (by decide) (hK (by decide) (row_on (N.lev j (by omega)) hbX))
  · intro j hj
    by_cases e : j = i
    · subst e
      rw [if_pos rfl]
      exact row_mono (hT (by decide) (hK (by decide) (row_on h2 hbx))) hb2
    · rw [if_neg e]
      exact hT (by decide) (hK (by decide) (row_on (N.nxt j (by omega)) hbX))
set_option maxRecDepth 100000 in
set_option maxHeartbeats 4000000 in
theorem refNewOk_any {c : Nat} {F : Nat → Bool} (S : SL w sv st vs) (C : RC w c F) (hyes : checkL st = true) (hnx : ∀ i : Nat, i < st.length → (stAt st i).next.length * 8 ≤ 140737488355328) : Calls Tryz.prog 86 #[P0 c, sv] w fun e w' => ∃ g sv' vs', e = .returned (.tuple #[P0 g, .int .i64 0]) ∧ w.heap.size ≤ g ∧ RD w' g c F st sv' vs' (.slice none 0 0) ⟨0, 0, 0, []⟩ ∧ Below w.heap.size w w' ∧ NewAt w.heap.size st sv' vs' := by
  have HC := hide (refCheck_any S)
  rw [hyes] at HC
  obtain ⟨sa, scap, hsv⟩ := S.row.any
  subst hsv
  have HS := hide S
  have hn6 : st.length ≤ 6 := by have := hyes; simp only [checkL, Bool.and_eq_true, decide_eq_true_eq] at this; exact this.1.2
  have HL4 := hide (show ∀ i : Nat, i < st.length → (stAt st i).levels.length ≤ 4 from fun i hi => by
    have h2 : stgOk st.length (stAt st i) = true := by
      cases e : stgOk st.length (stAt st i)
      · have := check_no i hi e; rw [hyes] at this; cases this
      · rfl
    simp only [stgOk, Bool.and_eq_true, decide_eq_true_eq] at h2
    exact h2.1.1)
  have HNXX := hide hnx
  have HCC := hide C
  obtain ⟨i1, hi1, hza, hzb, hzc⟩ := info_parts levelInfo
  obtain ⟨i2, hi2, hya, hyb, hyc⟩ := info_parts intInfo
  obtain ⟨i3, hi3, hxa, hxb, hxc⟩ := info_parts stageInfo
  have HII := hide (And.intro hi1 (And.intro hi2 hi3))
  clear S C hnx hyes hi1 hi2 hi3
  go_enter Tryz.func86, Tryz.ntmps86
  go_wp2_with fail
  refine HC.out.mono ?_
  rintro e u ⟨rfl, hb⟩
  have HB := hide hb
  have HSU := hide (HS.out.on hb)
  clear hb HC HS
  go_wp2_with fail
  have N0 : NW u c st (u.alloc (Obj.cells #[P0 c, .slice none 0 0, .int .i64 0, .int .i64 0, .int .i64 0, .slice none 0 0] 240)) 0 (.slice none 0 0) (fun _ => (.slice none 0 0, .slice none 0 0)) :=
    ⟨(Below.refl _ _).alloc (Nat.le_refl _) _, heap_alloc_new _ _, World.ownsRow_nil _ _ _ _, fun j hj => by omega, fun j hj => by omega⟩
  have HN0 := hide N0
  clear N0
  go_loopw [8] (fun iv wr => ∃ (i : Nat) (dv : Value) (vz : Nat → Value × Value), iv = .int .i64 i ∧ i ≤ st.length ∧ NW u c st wr i dv vz) (fun iv _ => st.length - (intOf iv).toNat)
  case atStart => exact ⟨0, _, _, rfl, Nat.zero_le _, HN0.out⟩
  case round =>
    obtain ⟨i, dv, vz, rfl, hi, NN⟩ := hrel
    by_cases hlt : i < st.length
    · have hlt' : (i : Int) < st.length := by omega
      obtain ⟨q, qo, cap, hq⟩ := HSU.out.row.some (by omega) (by omega)
      simp only [Value.slice.injEq] at hq
      obtain ⟨rfl, _, rfl⟩ := hq
      have SZ := HSU.out.on NN.below
      have l0 := SZ.row.cell (i * 2) _ (stCells_at vs st.length i hlt).1
      have l1 := SZ.row.cell (i * 2 + 1) _ (stCells_at vs st.length i hlt).2
      rw [← Nat.add_assoc] at l1
      have HLV := hide (SZ.lev i hlt)
      have HNX := hide (SZ.nxt i hlt)
      have hl4 := HL4.out i hlt
      have hnm := HNXX.out i hlt
      have hblt : q < wr.heap.size := World.block_lt_of_cell? _ _ l0
      have HNW := hide NN
      have l0a : (wr.alloc (Obj.cells #[.slice none 0 0, .slice none 0 0] 125)).cell? ⟨q, qo + i * 2, none⟩ = some (vs i).1 := (((Below.refl _ _).alloc (Nat.le_refl _) _).cell hblt).trans l0
      have l1a : (wr.alloc (Obj.cells #[.slice none 0 0, .slice none 0 0] 125)).cell? ⟨q, qo + i * 2 + 1, none⟩ = some (vs i).2 := (((Below.refl _ _).alloc (Nat.le_refl _) _).cell hblt).trans l1
      clear SZ NN l0
      go_wp2_with fail
      have hb1 : Below wr.heap.size wr (wr.alloc (Obj.cells #[.slice none 0 0, .slice none 0 0] 125)) := (Below.refl _ _).alloc (Nat.le_refl _) _
      have hS1 : (wr.alloc (Obj.cells #[.slice none 0 0, .slice none 0 0] 125)).heap[wr.heap.size]? = some (.cells #[.slice none 0 0, .slice none 0 0] 125 (0, 0)) := heap_alloc_new _ _
      have HLV1 := hide (HLV.out.on hb1)
      generalize wr.alloc (Obj.cells #[.slice none 0 0, .slice none 0 0] 125) = W1 at *
      have s0 : W1.cell? ⟨wr.heap.size, 0, none⟩ = some (.slice none 0 0) := by simp [World.cell?, hS1]
      have f0 : W1.frozen? ⟨wr.heap.size, 0, none⟩ = false := by simp [World.frozen?, hS1]
      have hw1 : wr.heap.size < W1.heap.size := World.block_lt_of_cell? _ _ s0
      have HB1 := hide hb1
      have HS1 := hide hS1
      clear hb1 hS1 HLV HN0
      go_region_law
        ((refine step_append_row (by rfl) _ _ _ (by rfl) W1.heap.size 127 i1 _ 2 16 Tryz.underlying123 HII.out.1 hza hzb hzc rfl (by omega) (.slice none 0 0) 0 [] (by rfl) (World.ownsRow_nil _ _ _ _) (vs i).1 (stAt st i).levels.length (flat (stAt st i).levels) (by rfl) (HLV1.out.on (Below.refl _ _).drew) (flat_one _) (by unfold maxLen; omega) (by omega) (Nat.le_refl _) ?_; intro v1 w1 hown1 hgrow1; obtain ⟨va, vn, vc, rfl⟩ := ownsRow_form hown1; have hb2 := (Below.refl W1.heap.size W1).drew.trans (below_of_grown hgrow1); have s0' := (hb2.cell (p := ⟨wr.heap.size, 0, none⟩) hw1).trans s0; have f0' := (below_frz (j := 0) hb2 hw1).trans f0))
      all_goals
        have hb3 : Below wr.heap.size wr (w1.setCell ⟨wr.heap.size, 0, none⟩ (.slice va vn vc)) := (HB1.out.trans (hb2.mono (Nat.le_of_lt hw1))).setCell (Nat.le_refl _) _
        have hS2 : (w1.setCell ⟨wr.heap.size, 0, none⟩ (.slice va vn vc)).heap[wr.heap.size]? = some (.cells #[.slice va vn vc, .slice none 0 0] 125 (0, 0)) := by
          have := heap_setCell_same _ _ 0 _ _ (.slice va vn vc) ((hb2.block _ hw1).trans HS1.out)
          simpa using this
        have HV1 := hide (ownsRow_setCell_below hown1 (a := ⟨wr.heap.size, 0, none⟩) hw1 (.slice va vn vc))
        have hw2 : W1.heap.size ≤ (w1.setCell ⟨wr.heap.size, 0, none⟩ (.slice va vn vc)).heap.size := by simpa using hb2.size
        clear hown1 hgrow1 hb2 s0 s0' f0 f0' l0a l1a HS1
        generalize w1.setCell ⟨wr.heap.size, 0, none⟩ (.slice va vn vc) = W2 at *
        have s1 : W2.cell? ⟨wr.heap.size, 1, none⟩ = some (.slice none 0 0) := by simp [World.cell?, hS2]
        have f1 : W2.frozen? ⟨wr.heap.size, 1, none⟩ = false := by simp [World.frozen?, hS2]
        have hw3 : wr.heap.size < W2.heap.size := World.block_lt_of_cell? _ _ s1
        have l1b := (hb3.cell (p := ⟨q, qo + i * 2 + 1, none⟩) hblt).trans l1
        have HNX2 := hide (HNX.out.on hb3)
        have HB3 := hide hb3
        have HS2 := hide hS2
        clear hb3 hS2
        go_wp2_with fail
        go_region_law
          ((refine step_append_row (by rfl) _ _ _ (by rfl) W2.heap.size 3 i2 _ 1 8 Tryz.underlying24 HII.out.2.1 hya hyb hyc rfl (by omega) (.slice none 0 0) 0 [] (by rfl) (World.ownsRow_nil _ _ _ _) (vs i).2 (stAt st i).next.length (intCells (stAt st i).next) (by rfl) (HNX2.out.on (Below.refl _ _).drew) (intCells_one _) (by unfold maxLen; omega) (by omega) (Nat.le_refl _) ?_; intro v2 w2 hown2 hgrow2; obtain ⟨ua, un, uc, rfl⟩ := ownsRow_form hown2; have hb4 := (Below.refl W2.heap.size W2).drew.trans (below_of_grown hgrow2); have s1' := (hb4.cell (p := ⟨wr.heap.size, 1, none⟩) hw3).trans s1; have f1' := (below_frz (j := 1) hb4 hw3).trans f1))
        all_goals
          have hb5 : Below wr.heap.size wr (w2.setCell ⟨wr.heap.size, 1, none⟩ (.slice ua un uc)) := (HB3.out.trans (hb4.mono (Nat.le_of_lt hw3))).setCell (Nat.le_refl _) _
          have hS3 : (w2.setCell ⟨wr.heap.size, 1, none⟩ (.slice ua un uc)).heap[wr.heap.size]? = some (.cells #[.slice va vn vc, .slice ua un uc] 125 (0, 0)) := by
            have := heap_setCell_same _ _ 1 _ _ (.slice ua un uc) ((hb4.block _ hw3).trans HS2.out)
            simpa using this
          have HV2 := hide (ownsRow_setCell_below hown2 (a := ⟨wr.heap.size, 1, none⟩) hw3 (.slice ua un uc))
          have HV1b := hide (ownsRow_setCell_below (row_on HV1.out hb4) (a := ⟨wr.heap.size, 1, none⟩) hw1 (.slice ua un uc))
          clear hown2 hgrow2 hb4 s1 s1' f1 f1' l1b HS2 HV1 HNX2 HB3
          generalize w2.setCell ⟨wr.heap.size, 1, none⟩ (.slice ua un uc) = W3 at *
          have HB5 := hide hb5
          have HS3 := hide hS3
          have c0 : W3.cell? ⟨wr.heap.size, 0, none⟩ = some (.slice va vn vc) := by simp [World.cell?, hS3]
          have c1 : W3.cell? ⟨wr.heap.size, 1, none⟩ = some (.slice ua un uc) := by simp [World.cell?, hS3]
          have hgl : u.heap.size < wr.heap.size := (Array.getElem?_eq_some_iff.1 HNW.out.blk).1
          have d1 : W3.cell? ⟨u.heap.size, 1, none⟩ = some dv := by simp [World.cell?, (hb5.block _ hgl).trans HNW.out.blk]
          have hw4 : wr.heap.size < W3.heap.size := World.block_lt_of_cell? _ _ c0
          clear hb5 hS3
          go_wp2_with fail
          have HR3 := hide (row_on HNW.out.row HB5.out)
          have hul3 : u.heap.size < W3.heap.size := by omega
          have d1a : (W3.alloc (Obj.cells #[.slice va vn vc, .slice ua un uc] 125)).cell? ⟨u.heap.size, 1, none⟩ = some dv := (((Below.refl _ _).alloc (Nat.le_refl _) _).cell hul3).trans d1
          go_region_law
            ((refine step_append_lies _ (by rfl) _ _ _ (by rfl) u.heap.size 125 i3 _ 2 48 Tryz.underlying35 HII.out.2.2 hxa hxb hxc rfl (by omega) dv i (stCells vz i) (by rfl) (row_on HR3.out (((Below.refl _ _).alloc (Nat.le_refl _) _).drew)) ⟨W3.heap.size, 0, none⟩ 1 1 [.slice va vn vc, .slice ua un uc] (by rfl) (by rfl) (World.news_of_block (cs := #[.slice va vn vc, .slice ua un uc]) (t := 125) (fr := (0, 0)) (heap_alloc_new W3 _)) (by simp [Value.oneCell']) (by omega) (by unfold maxLen; omega) (by omega) (by simp; omega) (W3.heap.size + 1) (by simp) ?_; intro gg gcap w5 hown5 hgrow5 hat5 hlt5; obtain ⟨hc5, hf5, hN5⟩ := NW.step HNW.out (by omega) (by omega) HB5.out (((Below.refl _ _).alloc (Nat.le_refl _) _).drew) HV1b.out (Nat.zero_add _) (List.nil_append _) HV2.out (Nat.zero_add _) (List.nil_append _) hgrow5 hown5))
          all_goals
            have HN5 := hide hN5
            clear hN5 hown5 hgrow5 hat5 hc5 hf5 HV1b HV2 HR3
            go_wp2_with fail
            go_roundw
            case rel => exact ⟨i + 1, _, _, by go_num, by omega, HN5.out⟩
            case measure => simp [intOf]; omega
    · clear HN0
      obtain rfl : i = st.length := by omega
      have HNW := hide NN
      clear NN
      go_wp2_with fail
      go_ret2
      refine ⟨_, dv, vz, rfl, HB.out.size, ⟨HNW.out.blk, (HCC.out.on HB.out).on HNW.out.below, ⟨row_mono HNW.out.row (Nat.zero_le _), fun j hj => row_mono (HNW.out.lev j hj) (Nat.zero_le _), fun j hj => row_mono (HNW.out.nxt j hj) (Nat.zero_le _)⟩, World.ownsRow_nil _ _ _ _, fun _ => rfl⟩, HB.out.trans (HNW.out.below.mono HB.out.size), ⟨fun k hk => Nat.le_trans HB.out.size (HNW.out.row.lt k hk).1, fun j hj k hk => Nat.le_trans HB.out.size ((HNW.out.lev j hj).lt k hk).1, fun j hj k hk => Nat.le_trans HB.out.size ((HNW.out.nxt j hj).lt k hk).1⟩⟩
end
end Go.Proofs.YtcnmbldikjljeaaGreatDoor
