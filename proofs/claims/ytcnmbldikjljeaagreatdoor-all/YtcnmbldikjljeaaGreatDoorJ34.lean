import Derived.Test.YtcnmbldikjljeaaGreatDoorJ09
import Derived.Test.YtcnmbldikjljeaaGreatDoorJ33
namespace Go.Proofs.YtcnmbldikjljeaaGreatDoor
open Go.RowKit

/-- a list that came out: marks, in blocks that nobody writes any more -/
structure Out (own : Nat → Nat) (w : World) (e : TypeId) (size : Nat) (num : Int) (lo : Nat) (s : Value) : Prop where
  mks : Mk w e size num s
  form : ∃ a n cap, s = .slice a n cap ∧ n ≤ 1000000
  tag : ∀ b n cap, s = .slice (some ⟨b, 0, none⟩) n cap → 0 < n → lo ≤ b ∧ (own b = 0 ∨ own b = 8)
theorem Out.kept {own own' : Nat → Nat} {w w' : World} {e : TypeId} {size : Nat} {num : Int} {lo : Nat} {s : Value} {T : Nat → Prop} (h : Out own w e size num lo s) (k : KeptS own own' T w w') (h0 : ¬ T 0) (h8 : ¬ T 8) : Out own' w' e size num lo s := by
  obtain ⟨a, n, cap, rfl, hn⟩ := h.form
  have key : 0 < n → ∃ b cur, a = some ⟨b, 0, none⟩ ∧ w.heap[b]? = some (.cells cur e (0, 0)) ∧ (∀ j, j < n * size → cur[j]? = some (mcell size num j)) ∧ ¬ T (own b) := by
    intro hp
    obtain ⟨a', n', cap', e1, e2⟩ := h.mks
    simp only [Value.slice.injEq] at e1
    obtain ⟨rfl, rfl, rfl⟩ := e1
    obtain ⟨b, cur, rfl, e4, e5⟩ := e2 hp
    refine ⟨b, cur, rfl, e4, e5, ?_⟩
    rcases (h.tag b n cap rfl hp).2 with e | e
    · rw [e]; exact h0
    · rw [e]; exact h8
  refine ⟨⟨a, n, cap, rfl, fun hp => ?_⟩, ⟨a, n, cap, rfl, hn⟩, fun b n' cap' he hp => ?_⟩
  · obtain ⟨b, cur, rfl, e4, e5, e6⟩ := key hp
    exact ⟨b, cur, rfl, (k.at e4 e6).1, e5⟩
  · have ht := h.tag b n' cap' he hp
    simp only [Value.slice.injEq] at he
    obtain ⟨rfl, rfl, rfl⟩ := he
    obtain ⟨b', cur, hb', e4, _, e6⟩ := key hp
    simp only [Option.some.injEq, Addr.mk.injEq, and_true] at hb'
    subst hb'
    rw [(k.at e4 e6).2]; exact ht
/-- behind the book's keeping -/
theorem listed_fin {PS : PSt} {own own1 : Nat → Nat} {w w2 w3 w4 : World} {t1 t2 p r τ : Nat} {F : Nat → Bool} {st : List Stg} {d' : Dk} {E SE TW : TypeId} {size c wb m n : Nat} {cells : Value → Array Value} {bv bv' lv : Value} {es ss : List Value} {num : Int} (P : Prg PS) (hES : E ≠ SE) (hτ : τ = 4 ∨ τ = 5) (h1 : 10 ≤ t1) (h2 : 10 ≤ t2)
    (kA : KeptS own own1 (fun x => x = t1 ∨ x = t2) w w2) (D2 : DS PS own1 w2 t1 t2 p r F st d') (hb : Below w2.heap.size w2 w3) (K : KB E SE TW size c w3 w4 wb cells bv bv' lv m es n num ss)
    (hwt : own wb = 1) (hwl : wb < w.heap.size) (hbt : ∀ k, bv.ownBlock = some k → own k = τ ∧ k < w.heap.size) (hlt : ∀ k, lv.ownBlock = some k → own1 k = 8 ∧ w.heap.size ≤ k) (hform : ∀ s ∈ ss, ∃ a m cap, s = .slice a m cap ∧ m ≤ 1000000) :
    ∃ own', DS PS own' w4 t1 t2 p r F st d' ∧ KeptS own own' (fun x => x = t1 ∨ x = t2 ∨ x = 1 ∨ x = τ) w w4 ∧ (∀ k, bv'.ownBlock = some k → own' k = τ) ∧ ∀ s ∈ ss, Out own' w4 E size num w.heap.size s := by
  have hsA := kA.size
  have hsB := hb.size
  have hsK := K.sz
  have k34 : KeptS own1 (tagOf own1 bv'.ownBlock τ) (fun x => x = 1 ∨ x = τ ∨ x = 8) w2 w4 := by
    refine ⟨K.os.trans hb.os, K.tape.trans hb.tape, K.output.trans hb.output, by omega, fun k hk hT => ?_, fun k hk => ?_, fun k hk h0 => ?_, fun k => ?_⟩
    · refine (K.block k (by omega) (fun e => hT (.inl ?_)) (fun e => hT (.inr (.inl ?_))) (fun e => hT (.inr (.inr (hlt k e.symm).1)))).trans (hb.block k hk)
      · subst e; rw [kA.same k hwl]; exact hwt
      · have := hbt k e.symm
        rw [kA.same k this.2]; exact this.1
    · unfold tagOf
      split
      · rename_i e
        rcases K.bat k e.symm with a | a
        · have := hbt k a
          rw [kA.same k this.2]; exact this.1.symm
        · omega
      · rfl
    · unfold tagOf at h0
      split at h0
      · rename_i e
        exact (K.row.lt k e.symm).2
      · exact absurd (kA.bound k h0) (by omega)
    · rcases tagOf_nt (own := own1) (t := τ) (b := bv'.ownBlock) k with a | a | a
      · exact .inl a
      · exact .inr (.inl a)
      · exact .inl (by omega)
  refine ⟨_, D2.kept P k34 (by omega) (by omega) (by omega), ?_, fun k hk => by unfold tagOf; rw [if_pos hk.symm], fun s hs => ⟨K.mks s hs, hform s hs, fun b n' cap' he hp => ?_⟩⟩
  · refine ⟨k34.os.trans kA.os, k34.tape.trans kA.tape, k34.output.trans kA.output, by omega, fun k hk hT => ?_, fun k hk => (k34.same k (by omega)).trans (kA.same k hk), fun k hk h0 => k34.bound k h0, fun k => ?_⟩
    · refine (K.block k (by omega) (fun e => hT (.inr (.inr (.inl (by rw [e]; exact hwt))))) (fun e => hT (.inr (.inr (.inr (hbt k e.symm).1)))) (fun e => by have := (hlt k e.symm).2; omega)).trans ((hb.block k (by omega)).trans (kA.block k hk (fun e => hT (e.elim .inl (fun e => .inr (.inl e))))))
    · rcases k34.nt k with a | a | a
      · exact .inl a
      · rcases kA.nt k with b | b | b
        · exact .inl (by omega)
        · exact .inr (.inl (a.trans b))
        · exact .inr (.inr (by rw [a]; exact b.elim .inl (fun e => .inr (.inl e))))
      · exact .inl (by omega)
  · have hno : bv'.ownBlock ≠ some b := by
      intro h
      obtain ⟨a', n2, cap2, e1, e2⟩ := K.mks s hs
      rw [he] at e1
      simp only [Value.slice.injEq] at e1
      obtain ⟨rfl, rfl, rfl⟩ := e1
      obtain ⟨b', cur, e3, e4, _⟩ := e2 hp
      simp only [Option.some.injEq, Addr.mk.injEq, and_true] at e3
      subst e3
      rcases K.row.2 with ⟨h', _⟩ | ⟨g, cap3, cur3, h', _, hg, _⟩
      · rw [h'] at h; simp [Value.ownBlock] at h
      · rw [h'] at h
        obtain rfl : g = b := by simpa [Value.ownBlock] using h
        rw [hg] at e4
        cases e4
        exact hES rfl
    have htag : tagOf own1 bv'.ownBlock τ b = own1 b := by unfold tagOf; rw [if_neg (fun e => hno e.symm)]
    rw [htag]
    rcases K.at_ s hs b (by rw [he]; rfl) with e | e
    · exact ⟨(hlt b e).2, .inr (hlt b e).1⟩
    · refine ⟨by omega, .inl (Classical.byContradiction fun h => ?_)⟩
      have := kA.bound b h
      omega
section
variable {PS : PSt} {own : Nat → Nat} {w : World} {t1 t2 p r : Nat} {F : Nat → Bool} {st : List Stg} {d : Dk} {wb : Nat} {v0 v1 v2 v3 : Value} {es : List Value}
set_option maxRecDepth 100000 in
set_option maxHeartbeats 8000000 in
theorem listed_tick (P : Prg PS) (D : DS PS own w t1 t2 p r F st d) (h1 : 10 ≤ t1) (h2 : 10 ≤ t2) (h12 : t1 ≠ t2) (Q : Pre own w F st d) (hw : w.heap[wb]? = some (.cells #[v0, v1, v2, v3] 82 (0, 0))) (hwt : own wb = 1)
    (B : MRow own 4 w 38 1 v2 es.length es) (hes : es.length ≤ 8000000000000) (num : Int) (hnum : num = -1000 - (es.length : Int) / 4) (a b dd : Int) (s : ByteArray) (l : Value) :
    Calls Tryz.prog 60 #[P0 wb, .agg #[P0 p, P0 r], .agg #[.int .i64 14, .int .i64 a, .int .i64 b, .int .i64 dd, .string s, l]] w fun e w' => e = .returned (.bool true) ∧ ∃ own' v2' s0 s1 s2 s3, DS PS own' w' t1 t2 p r F st (tickC F st d b).1 ∧ KeptS own own' (fun x => x = t1 ∨ x = t2 ∨ x = 1 ∨ x = 4) w w' ∧
      w'.heap[wb]? = some (.cells #[v0, v1, v2', v3] 82 (0, 0)) ∧ MRow own' 4 w' 38 1 v2' (es.length + 1 + 1 + 1 + 1) (es ++ [s0, s1, s2, s3]) ∧ ∀ s ∈ [s0, s1, s2, s3], Out own' w' 63 6 num w.heap.size s := by
  have HB := hide (boxes w (P0 p) (P0 r) (.int .i64 14) (.int .i64 a) (.int .i64 b) (.int .i64 dd) (.string s) l 155 84 rfl)
  have hn80 := (tick_ok Q.ok Q.rest Q.stok b).2.2
  have HD := hide (And.intro D (And.intro Q (And.intro hw (And.intro hwt (And.intro B (And.intro hes hnum))))))
  have hown : ∀ k, w.heap.size ≤ k → own k = 0 := fun k hk => Classical.byContradiction fun e => by
    have := Q.lt k e
    omega
  have HO := hide hown
  have hwl : wb < w.heap.size := (Array.getElem?_eq_some_iff.1 hw).1
  clear D Q hown hw hwt B hes hnum
  go_enter Tryz.func60, Tryz.ntmps60
  go_wp2_with fail
  generalize (w.alloc (Obj.cells #[P0 p, P0 r] 155)).alloc (Obj.cells #[.int .i64 14, .int .i64 a, .int .i64 b, .int .i64 dd, .string s, l] 84) = wo at *
  obtain ⟨bo, hsz, ⟨_, q1⟩, q2, q3⟩ := HB.out
  have k0 : Kept own own t1 w wo := .of_below bo HD.out.2.1.lt
  have Q0 := HD.out.2.1.on bo.size
  have D0 : DS PS own wo t1 t2 p r F st d := HD.out.1.kept P (.of_below (T := fun _ => False) bo HD.out.2.1.lt) id id id
  have h10 : t1 ≠ 0 := by omega
  have h20 : t2 ≠ 0 := by omega
  refine (P.tick D0.ps h10 Q0 b).mono ?_
  rintro e w1 ⟨lv, rfl, L1, hnl, own1, PS1, k1, htl⟩
  have q1' := (World.cell?_of_block (a := ⟨w.heap.size, 1, none⟩) (k1.block _ (by simp; omega) (by rw [HO.out _ (by simp)]; omega))).trans q1
  have q2' := (World.cell?_of_block (a := ⟨w.heap.size + 1, 2, none⟩) (k1.block _ (by simp; omega) (by rw [HO.out _ (by simp)]; omega))).trans q2
  obtain ⟨c, sv, vs, rv, R⟩ := D0.rt
  have R1 := R.kept k1 (Ne.symm h10) (Ne.symm h12)
  have HR := hide (refDTick_any R1.rd Q0.stok Q0.n6 Q0.ok (by omega) b)
  have HR1 := hide (And.intro R1 (And.intro k1.bound (And.intro PS1 (And.intro (k0.trans k1) (And.intro htl (And.intro (row_mono L1 bo.size) hnl))))))
  have hs1 := k1.size
  obtain ⟨la, lc, hlv⟩ := row_any L1
  clear R R1 q1 q2 q3 k0 k1 PS1 D0 Q0 bo HB L1 hnl htl
  subst hlv
  generalize hd' : (tickC F st d b).1 = d' at *
  generalize hevs : (tickC F st d b).2.1 = evs at *
  generalize herr : (tickC F st d b).2.2 = err at *
  have HDD := hide hd'
  clear hd' hevs herr
  go_wp2_with fail
  refine HR.out.mono ?_
  rintro e w2 ⟨mv, rfl, M2, _, R2, f2⟩
  obtain ⟨RT2, k2⟩ := HR1.out.1.step1 h20 HR1.out.2.1 R2 f2
  have L1 : MRow own1 8 w1 63 6 (.slice la evs.length lc) evs.length (evsCells evs) := ⟨row_mono HR1.out.2.2.2.2.2.1 (Nat.zero_le _), HR1.out.2.2.2.2.1⟩
  have L2 := L1.kept k2 (by omega)
  have hlo : ∀ k, (Value.slice la evs.length lc).ownBlock = some k → w.heap.size ≤ k := fun k hk => (HR1.out.2.2.2.2.2.1.lt k hk).1
  obtain ⟨ma, mc, hmv⟩ := row_any M2
  subst hmv
  have hnilc : ∀ W, (binOp .eql 38 (.slice la evs.length lc) (.slice none 0 0)).run Tryz.prog W = .ok (.bool la.isNone) W := fun W => by
    cases la with
    | none => exact Lib.run_eql_slice_nil_nil W _ _ Tryz.underlying38
    | some x => exact Lib.run_eql_slice_some_nil W _ _ _ Tryz.underlying38
  have hcase : la.isNone = true ∨ (la.isNone = false ∧ err = 0) := by
    cases la with
    | none => exact .inl rfl
    | some x =>
      refine .inr ⟨rfl, Classical.byContradiction fun e => ?_⟩
      have := HR1.out.2.2.2.2.2.2 e
      cases this
  -- what stands behind the two Ticks, and what the book leaves
  have kA : KeptS own own1 (fun x => x = t1 ∨ x = t2) w w2 := (HR1.out.2.2.2.1.mono (fun x hx => .inl hx)).trans (k2.mono (fun x hx => .inr hx))
  have D2 : DS PS own1 w2 t1 t2 p r F st d' := ⟨P.kept HR1.out.2.2.1 k2 (Ne.symm h20) h12, _, _, _, _, RT2⟩
  have hw2 := (kA.at HD.out.2.2.1 (by rw [HD.out.2.2.2.1]; omega)).1
  have B2 := HD.out.2.2.2.2.1.kept kA (by omega)
  have hlt : ∀ k, (Value.slice la evs.length lc).ownBlock = some k → own1 k = 8 ∧ w.heap.size ≤ k := fun k hk => ⟨L1.2 k hk, hlo k hk⟩
  have hbt : ∀ k, v2.ownBlock = some k → own k = 4 ∧ k < w.heap.size := fun k hk => ⟨HD.out.2.2.2.2.1.2 k hk, (HD.out.2.2.2.2.1.1.lt k hk).2⟩
  -- the book's keeping, wherever nothing below has turned
  have HKE : Hid (∀ w3, Below w2.heap.size w2 w3 → Calls Tryz.prog 93 #[.pointer (some ⟨wb, 2, none⟩), .slice la evs.length lc] w3 fun e w' => e = .returned (.tuple #[]) ∧ ∃ own' v2' s0 s1 s2 s3, DS PS own' w' t1 t2 p r F st d' ∧ KeptS own own' (fun x => x = t1 ∨ x = t2 ∨ x = 1 ∨ x = 4) w w' ∧ w'.heap[wb]? = some (.cells #[v0, v1, v2', v3] 82 (0, 0)) ∧ MRow own' 4 w' 38 1 v2' (es.length + 1 + 1 + 1 + 1) (es ++ [s0, s1, s2, s3]) ∧ ∀ s ∈ [s0, s1, s2, s3], Out own' w' 63 6 num w.heap.size s) := fun w3 hb3 => by
    have hwl2 : wb < w2.heap.size := (Array.getElem?_eq_some_iff.1 hw2).1
    refine (keepsEvents_any ((hb3.block wb hwl2).trans hw2) (row_on B2.1 hb3) HD.out.2.2.2.2.2.1 num HD.out.2.2.2.2.2.2 (row_on L2.1 hb3) (by omega)).mono ?_
    rintro e w4 ⟨rfl, v2', s1, s2, s3, K, hf⟩
    obtain ⟨own', e1, e2, e3, e4⟩ := listed_fin P (by decide) (.inl rfl) h1 h2 kA D2 hb3 K HD.out.2.2.2.1 hwl hbt hlt (fun s hs => by obtain ⟨x, y, z, g1, g2⟩ := hf s hs; exact ⟨x, y, z, g1, by omega⟩)
    exact ⟨rfl, own', v2', _, s1, s2, s3, e1, e2, K.wbc, ⟨K.row, e3⟩, e4⟩
  have HL2 := hide L2.1
  have HM2 := hide M2
  clear RT2 k2 L1 L2 hlo kA D2 hw2 B2 hlt hbt M2 R2 f2 HR HR1 HD HO q1' q2' hs1 hsz
  have step : ∀ (i : Nat) (hi : i < evs.length), ∃ lq mq, la = some ⟨lq, 0, none⟩ ∧ ma = some ⟨mq, 0, none⟩ ∧ ∀ j v, (evCells evs[i])[j]? = some v → w2.cell? ⟨lq, i * 6 + j, none⟩ = some v ∧ w2.cell? ⟨mq, i * 6 + j, none⟩ = some v := by
    intro i hi
    obtain ⟨lq, _, e1⟩ := row_some HL2.out (by omega)
    obtain ⟨mq, _, e2⟩ := row_some HM2.out (by omega)
    simp only [Value.slice.injEq] at e1 e2
    obtain ⟨rfl, _, rfl⟩ := e1
    obtain ⟨rfl, _, rfl⟩ := e2
    refine ⟨lq, mq, rfl, rfl, fun j v hv => ?_⟩
    have hj : j < 6 := (List.getElem?_eq_some_iff.1 hv).1
    have e := evsCells_at evs i hi j hj
    rw [hv] at e
    exact ⟨(HL2.out.cellAt (i * 6 + j) (by omega)).trans e, (HM2.out.cellAt (i * 6 + j) (by omega)).trans e⟩
  have HST := hide step
  clear step HL2 HM2
  rcases hcase with hc | ⟨hc, rfl⟩
  · rw [hc] at hnilc
    go_wp2_with fail
    go_loopw [15, 16] (fun kv iv wr => ∃ i : Nat, kv = .bool true ∧ iv = .int .i64 i ∧ i ≤ evs.length ∧ Below w2.heap.size w2 wr) (fun _ iv _ => evs.length - (intOf iv).toNat)
    case atStart => exact ⟨0, rfl, rfl, Nat.zero_le _, Below.refl _ _⟩
    case round =>
      obtain ⟨i, rfl, rfl, hi, hb⟩ := hrel
      by_cases hlt : i < evs.length
      · have hlt' : (i : Int) < evs.length := by omega
        obtain ⟨lq, mq, rfl, rfl, hcell⟩ := HST.out i hlt
        generalize evs[i] = ev at *
        obtain ⟨x0, x1, x2, x3, x4, x5⟩ := ev
        have on : ∀ q j v, w2.cell? ⟨q, j, none⟩ = some v → wr.cell? ⟨q, j, none⟩ = some v := fun q j v h => (hb.cell (p := ⟨q, j, none⟩) (World.block_lt_of_cell? _ _ h)).trans h
        have l0 := on _ _ _ (hcell 0 _ rfl).1
        have l1 := on _ _ _ (hcell 1 _ rfl).1
        have l2 := on _ _ _ (hcell 2 _ rfl).1
        have l3 := on _ _ _ (hcell 3 _ rfl).1
        have l4 := on _ _ _ (hcell 4 _ rfl).1
        have l5 := on _ _ _ (hcell 5 _ rfl).1
        have m0 := on _ _ _ (hcell 0 _ rfl).2
        have m1 := on _ _ _ (hcell 1 _ rfl).2
        have m2 := on _ _ _ (hcell 2 _ rfl).2
        have m3 := on _ _ _ (hcell 3 _ rfl).2
        have m4 := on _ _ _ (hcell 4 _ rfl).2
        have m5 := on _ _ _ (hcell 5 _ rfl).2
        simp only [Nat.add_zero] at l0 m0
        have HBB := hide hb
        clear hcell on hb
        go_wp2_with fail
        go_quiet (fail)
        go_wp2_with fail
        go_roundw
        case rel => exact ⟨i + 1, by simp, by go_num, by omega, below_drewN HBB.out _⟩
        case measure => simp [intOf]; omega
      · obtain rfl : i = evs.length := by omega
        have hnl : ¬ (((evs.length : Nat) : Int) < evs.length) := by omega
        have HBB := hide hb
        clear hb
        go_wp2_with fail
        refine (HKE.out _ HBB.out).mono ?_
        rintro e w4 ⟨rfl, hfin⟩
        have HFIN := hide hfin
        clear hfin HKE
        go_wp2_with fail
        go_ret
        rw [HDD.out]
        exact ⟨rfl, HFIN.out⟩
  · rw [hc] at hnilc
    go_wp2_with fail
    go_loopw [15, 16] (fun kv iv wr => ∃ i : Nat, kv = .bool true ∧ iv = .int .i64 i ∧ i ≤ evs.length ∧ Below w2.heap.size w2 wr) (fun _ iv _ => evs.length - (intOf iv).toNat)
    case atStart => exact ⟨0, rfl, rfl, Nat.zero_le _, Below.refl _ _⟩
    case round =>
      obtain ⟨i, rfl, rfl, hi, hb⟩ := hrel
      by_cases hlt : i < evs.length
      · have hlt' : (i : Int) < evs.length := by omega
        obtain ⟨lq, mq, rfl, rfl, hcell⟩ := HST.out i hlt
        generalize evs[i] = ev at *
        obtain ⟨x0, x1, x2, x3, x4, x5⟩ := ev
        have on : ∀ q j v, w2.cell? ⟨q, j, none⟩ = some v → wr.cell? ⟨q, j, none⟩ = some v := fun q j v h => (hb.cell (p := ⟨q, j, none⟩) (World.block_lt_of_cell? _ _ h)).trans h
        have l0 := on _ _ _ (hcell 0 _ rfl).1
        have l1 := on _ _ _ (hcell 1 _ rfl).1
        have l2 := on _ _ _ (hcell 2 _ rfl).1
        have l3 := on _ _ _ (hcell 3 _ rfl).1
        have l4 := on _ _ _ (hcell 4 _ rfl).1
        have l5 := on _ _ _ (hcell 5 _ rfl).1
        have m0 := on _ _ _ (hcell 0 _ rfl).2
        have m1 := on _ _ _ (hcell 1 _ rfl).2
        have m2 := on _ _ _ (hcell 2 _ rfl).2
        have m3 := on _ _ _ (hcell 3 _ rfl).2
        have m4 := on _ _ _ (hcell 4 _ rfl).2
        have m5 := on _ _ _ (hcell 5 _ rfl).2
        simp only [Nat.add_zero] at l0 m0
        have HBB := hide hb
        clear hcell on hb
        go_wp2_with fail
        go_quiet (fail)
        go_wp2_with fail
        go_roundw
        case rel => exact ⟨i + 1, by simp, by go_num, by omega, below_drewN HBB.out _⟩
        case measure => simp [intOf]; omega
      · obtain rfl : i = evs.length := by omega
        have hnl : ¬ (((evs.length : Nat) : Int) < evs.length) := by omega
        have HBB := hide hb
        clear hb
        go_wp2_with fail
        refine (HKE.out _ HBB.out).mono ?_
        rintro e w4 ⟨rfl, hfin⟩
        have HFIN := hide hfin
        clear hfin HKE
        go_wp2_with fail
        go_ret
        rw [HDD.out]
        exact ⟨rfl, HFIN.out⟩
end
end Go.Proofs.YtcnmbldikjljeaaGreatDoor
namespace Go.Proofs.YtcnmbldikjljeaaGreatDoor
open Go.RowKit

theorem agenda_grows (l : List Cs) : ∀ (acc : List (Int × Int)), (agendaL l acc).length ≤ acc.length + l.length := by
  induction l with
  | nil => intro acc; simp [agendaL]
  | cons x l ih =>
    intro acc
    have h := ih (if x.due < 0 then acc else insL (x.id, x.due) acc)
    simp only [agendaL, List.length_cons]
    have hi := insL_len (x.id, x.due) acc
    split at h
    · rename_i hx
      rw [if_pos hx]; omega
    · rename_i hx
      rw [if_neg hx]; omega
theorem agenda_len {l : List Cs} (h : l.length ≤ 20) : (agendaL l []).length ≤ 20 := by
  have h2 := agenda_grows l []
  simp only [List.length_nil] at h2
  omega
section
variable {PS : PSt} {own : Nat → Nat} {w : World} {t1 t2 p r : Nat} {F : Nat → Bool} {st : List Stg} {d : Dk} {wb : Nat} {v0 v1 v2 v3 : Value} {es : List Value}
set_option maxRecDepth 100000 in
set_option maxHeartbeats 8000000 in
theorem listed_agenda (P : Prg PS) (D : DS PS own w t1 t2 p r F st d) (h1 : 10 ≤ t1) (h2 : 10 ≤ t2) (h12 : t1 ≠ t2) (Q : Pre own w F st d) (hw : w.heap[wb]? = some (.cells #[v0, v1, v2, v3] 82 (0, 0))) (hwt : own wb = 1)
    (B : MRow own 5 w 64 1 v3 es.length es) (hes : es.length ≤ 8000000000000) (num : Int) (hnum : num = -1000 - (es.length : Int) / 4) (a b dd : Int) (s : ByteArray) (l : Value) :
    Calls Tryz.prog 60 #[P0 wb, .agg #[P0 p, P0 r], .agg #[.int .i64 18, .int .i64 a, .int .i64 b, .int .i64 dd, .string s, l]] w fun e w' => e = .returned (.bool true) ∧ ∃ own' v2' s0 s1 s2 s3, DS PS own' w' t1 t2 p r F st d ∧ KeptS own own' (fun x => x = t1 ∨ x = t2 ∨ x = 1 ∨ x = 5) w w' ∧
      w'.heap[wb]? = some (.cells #[v0, v1, v2, v2'] 82 (0, 0)) ∧ MRow own' 5 w' 64 1 v2' (es.length + 1 + 1 + 1 + 1) (es ++ [s0, s1, s2, s3]) ∧ ∀ s ∈ [s0, s1, s2, s3], Out own' w' 67 2 num w.heap.size s := by
  have HB := hide (boxes w (P0 p) (P0 r) (.int .i64 18) (.int .i64 a) (.int .i64 b) (.int .i64 dd) (.string s) l 155 84 rfl)
  have hn80 : (agendaL d.cases []).length ≤ 20 := agenda_len Q.ok.len
  have HD := hide (And.intro D (And.intro Q (And.intro hw (And.intro hwt (And.intro B (And.intro hes hnum))))))
  have hown : ∀ k, w.heap.size ≤ k → own k = 0 := fun k hk => Classical.byContradiction fun e => by
    have := Q.lt k e
    omega
  have HO := hide hown
  have hwl : wb < w.heap.size := (Array.getElem?_eq_some_iff.1 hw).1
  clear D Q hown hw hwt B hes hnum
  go_enter Tryz.func60, Tryz.ntmps60
  go_wp2_with fail
  generalize (w.alloc (Obj.cells #[P0 p, P0 r] 155)).alloc (Obj.cells #[.int .i64 18, .int .i64 a, .int .i64 b, .int .i64 dd, .string s, l] 84) = wo at *
  obtain ⟨bo, hsz, ⟨_, q1⟩, q2, q3⟩ := HB.out
  have k0 : Kept own own t1 w wo := .of_below bo HD.out.2.1.lt
  have Q0 := HD.out.2.1.on bo.size
  have D0 : DS PS own wo t1 t2 p r F st d := HD.out.1.kept P (.of_below (T := fun _ => False) bo HD.out.2.1.lt) id id id
  have h10 : t1 ≠ 0 := by omega
  have h20 : t2 ≠ 0 := by omega
  refine (P.agenda D0.ps h10 Q0).mono ?_
  rintro e w1 ⟨lv, rfl, L1, own1, PS1, k1, htl⟩
  have q1' := (World.cell?_of_block (a := ⟨w.heap.size, 1, none⟩) (k1.block _ (by simp; omega) (by rw [HO.out _ (by simp)]; omega))).trans q1
  have q2' := (World.cell?_of_block (a := ⟨w.heap.size + 1, 2, none⟩) (k1.block _ (by simp; omega) (by rw [HO.out _ (by simp)]; omega))).trans q2
  obtain ⟨c, sv, vs, rv, R⟩ := D0.rt
  have R1 := R.kept k1 (Ne.symm h10) (Ne.symm h12)
  have HR := hide (refDAgenda_any R1.rd Q0.ok.len)
  have HR1 := hide (And.intro R1 (And.intro k1.bound (And.intro PS1 (And.intro (k0.trans k1) (And.intro htl (row_mono L1 bo.size))))))
  have hs1 := k1.size
  obtain ⟨la, lc, hlv⟩ := row_any L1
  clear R R1 q1 q2 q3 k0 k1 PS1 D0 Q0 bo HB L1 htl
  subst hlv
  generalize hevs : agendaL d.cases [] = evs at *
  clear hevs
  go_wp2_with fail
  refine HR.out.mono ?_
  rintro e w2 ⟨mv, rfl, M2, _, R2, f2⟩
  obtain ⟨RT2, k2⟩ := HR1.out.1.step1 h20 HR1.out.2.1 R2 f2
  have L1 : MRow own1 8 w1 67 2 (.slice la evs.length lc) evs.length (flat evs) := ⟨row_mono HR1.out.2.2.2.2.2 (Nat.zero_le _), HR1.out.2.2.2.2.1⟩
  have L2 := L1.kept k2 (by omega)
  have hlo : ∀ k, (Value.slice la evs.length lc).ownBlock = some k → w.heap.size ≤ k := fun k hk => (HR1.out.2.2.2.2.2.lt k hk).1
  obtain ⟨ma, mc, hmv⟩ := row_any M2
  subst hmv
  -- what stands behind the two Ticks, and what the book leaves
  have kA : KeptS own own1 (fun x => x = t1 ∨ x = t2) w w2 := (HR1.out.2.2.2.1.mono (fun x hx => .inl hx)).trans (k2.mono (fun x hx => .inr hx))
  have D2 : DS PS own1 w2 t1 t2 p r F st d := ⟨P.kept HR1.out.2.2.1 k2 (Ne.symm h20) h12, _, _, _, _, RT2⟩
  have hw2 := (kA.at HD.out.2.2.1 (by rw [HD.out.2.2.2.1]; omega)).1
  have B2 := HD.out.2.2.2.2.1.kept kA (by omega)
  have hlt : ∀ k, (Value.slice la evs.length lc).ownBlock = some k → own1 k = 8 ∧ w.heap.size ≤ k := fun k hk => ⟨L1.2 k hk, hlo k hk⟩
  have hbt : ∀ k, v3.ownBlock = some k → own k = 5 ∧ k < w.heap.size := fun k hk => ⟨HD.out.2.2.2.2.1.2 k hk, (HD.out.2.2.2.2.1.1.lt k hk).2⟩
  -- the book's keeping, wherever nothing below has turned
  have HKE : Hid (∀ w3, Below w2.heap.size w2 w3 → Calls Tryz.prog 91 #[.pointer (some ⟨wb, 2, none⟩), .slice la evs.length lc] w3 fun e w' => e = .returned (.tuple #[]) ∧ ∃ own' v2' s0 s1 s2 s3, DS PS own' w' t1 t2 p r F st d ∧ KeptS own own' (fun x => x = t1 ∨ x = t2 ∨ x = 1 ∨ x = 5) w w' ∧ w'.heap[wb]? = some (.cells #[v0, v1, v2, v2'] 82 (0, 0)) ∧ MRow own' 5 w' 64 1 v2' (es.length + 1 + 1 + 1 + 1) (es ++ [s0, s1, s2, s3]) ∧ ∀ s ∈ [s0, s1, s2, s3], Out own' w' 67 2 num w.heap.size s) := fun w3 hb3 => by
    have hwl2 : wb < w2.heap.size := (Array.getElem?_eq_some_iff.1 hw2).1
    refine (keepsEntries_any ((hb3.block wb hwl2).trans hw2) (row_on B2.1 hb3) HD.out.2.2.2.2.2.1 num HD.out.2.2.2.2.2.2 (row_on L2.1 hb3) (by omega)).mono ?_
    rintro e w4 ⟨rfl, v2', s1, s2, s3, K, hf⟩
    obtain ⟨own', e1, e2, e3, e4⟩ := listed_fin P (by decide) (.inr rfl) h1 h2 kA D2 hb3 K HD.out.2.2.2.1 hwl hbt hlt (fun s hs => by obtain ⟨x, y, z, g1, g2⟩ := hf s hs; exact ⟨x, y, z, g1, by omega⟩)
    exact ⟨rfl, own', v2', _, s1, s2, s3, e1, e2, K.wbc, ⟨K.row, e3⟩, e4⟩
  have HL2 := hide L2.1
  have HM2 := hide M2
  clear RT2 k2 L1 L2 hlo kA D2 hw2 B2 hlt hbt M2 R2 f2 HR HR1 HD HO q1' q2' hs1 hsz
  have step : ∀ (i : Nat) (hi : i < evs.length), ∃ lq mq, la = some ⟨lq, 0, none⟩ ∧ ma = some ⟨mq, 0, none⟩ ∧ (w2.cell? ⟨lq, i * 2, none⟩ = some (.int .i64 evs[i].1) ∧ w2.cell? ⟨lq, i * 2 + 1, none⟩ = some (.int .i64 evs[i].2)) ∧ w2.cell? ⟨mq, i * 2, none⟩ = some (.int .i64 evs[i].1) ∧ w2.cell? ⟨mq, i * 2 + 1, none⟩ = some (.int .i64 evs[i].2) := by
    intro i hi
    obtain ⟨lq, _, e1⟩ := row_some HL2.out (by omega)
    obtain ⟨mq, _, e2⟩ := row_some HM2.out (by omega)
    simp only [Value.slice.injEq] at e1 e2
    obtain ⟨rfl, _, rfl⟩ := e1
    obtain ⟨rfl, _, rfl⟩ := e2
    have e := flat_at evs i hi
    exact ⟨lq, mq, rfl, rfl, ⟨(HL2.out.cellAt (i * 2) (by omega)).trans e.1, (HL2.out.cellAt (i * 2 + 1) (by omega)).trans e.2⟩, (HM2.out.cellAt (i * 2) (by omega)).trans e.1, (HM2.out.cellAt (i * 2 + 1) (by omega)).trans e.2⟩
  have HST := hide step
  clear step HL2 HM2
  go_wp2_with fail
  go_loopw [9, 10] (fun kv iv wr => ∃ i : Nat, kv = .bool true ∧ iv = .int .i64 i ∧ i ≤ evs.length ∧ Below w2.heap.size w2 wr) (fun _ iv _ => evs.length - (intOf iv).toNat)
  case atStart => exact ⟨0, rfl, rfl, Nat.zero_le _, Below.refl _ _⟩
  case round =>
    obtain ⟨i, rfl, rfl, hi, hb⟩ := hrel
    by_cases hlt : i < evs.length
    · have hlt' : (i : Int) < evs.length := by omega
      obtain ⟨lq, mq, rfl, rfl, ⟨c0, c1⟩, c2, c3⟩ := HST.out i hlt
      generalize evs[i].1 = x0 at *
      generalize evs[i].2 = x1 at *
      have on : ∀ q j v, w2.cell? ⟨q, j, none⟩ = some v → wr.cell? ⟨q, j, none⟩ = some v := fun q j v h => (hb.cell (p := ⟨q, j, none⟩) (World.block_lt_of_cell? _ _ h)).trans h
      have l0 := on _ _ _ c0
      have l1 := on _ _ _ c1
      have m0 := on _ _ _ c2
      have m1 := on _ _ _ c3
      have HBB := hide hb
      clear c0 c1 c2 c3 on hb
      go_wp2_with fail
      go_quiet (fail)
      go_wp2_with fail
      go_roundw
      case rel => exact ⟨i + 1, by simp, by go_num, by omega, below_drewN HBB.out _⟩
      case measure => simp [intOf]; omega
    · obtain rfl : i = evs.length := by omega
      have hnl : ¬ (((evs.length : Nat) : Int) < evs.length) := by omega
      have HBB := hide hb
      clear hb
      go_wp2_with fail
      refine (HKE.out _ HBB.out).mono ?_
      rintro e w4 ⟨rfl, hfin⟩
      have HFIN := hide hfin
      clear hfin HKE
      go_wp2_with fail
      go_ret
      exact ⟨rfl, HFIN.out⟩
end
end Go.Proofs.YtcnmbldikjljeaaGreatDoor
namespace Go.Proofs.YtcnmbldikjljeaaGreatDoor
open Go.RowKit

theorem lentF_at {cs : List Value} {sp : Nat → Value} {j : Nat} {v : Value} (h : cs[j]? = some v) : lentF cs sp j = v := by unfold lentF; rw [h]; rfl
theorem Lnt.row {w : World} {B : Nat} {e : TypeId} {size n : Nat} {v r : Value} {cs : List Value} {sp : Nat → Value} (L : Lnt w B e size v r n (lentF cs sp)) (hv : v = .slice none 0 0 → n = 0) (hl : cs.length = n * size) (hm : n + 8 ≤ maxLen) : w.ownsRow 0 e size r n cs := by
  rcases L with ⟨h1, rfl⟩ | ⟨_, g, _, rfl, K⟩
  · have := hv h1
    subst this
    have hc : cs = [] := List.eq_nil_of_length_eq_zero (by rw [hl]; omega)
    subst hc
    exact World.ownsRow_nil _ _ _ _
  · exact K.row rfl (by omega) hm (Nat.zero_le _) hl (fun j v hv => lentF_at hv)
theorem stCells_len (f : Nat → Value × Value) (n : Nat) : (stCells f n).length = n * 2 := by
  induction n with
  | zero => rfl
  | succ n ih => rw [stCells_succ, List.length_append, ih]; simp; omega
theorem stCells_stc (f : Nat → Value × Value) (n j : Nat) (hj : j < n * 2) : (stCells f n)[j]? = some (stc f j) := by
  have h := stCells_at f n (j / 2) (by omega)
  unfold stc
  split
  · rw [show j / 2 * 2 = j by omega] at h; exact h.1
  · rw [show j / 2 * 2 + 1 = j by omega] at h; exact h.2
theorem LR.nil_len {w : World} {size n : Nat} {v : Value} {xs : List Value} (h : LR w size v n xs) (e : v = .slice none 0 0) : n = 0 := by
  obtain ⟨a, cap, hv⟩ := h.any
  rw [hv] at e
  simp only [Value.slice.injEq] at e
  exact e.2.1
/-- stages that were lent are stages of the program's own kind -/
theorem LentOk.sw {w w1 : World} {v xv : Value} {st : List Stg} {vs : Nat → Value × Value} (S : SL w v st vs) (R : Rm st) (L : LentOk w w1 v st vs xv) : ∃ al lv nv rs, xv = .agg #[al, lv, nv] ∧ SW w1 al st rs ∧ (∃ a n c, al = .slice a n c) ∧ (∃ a n c, lv = .slice a n c) ∧ (∃ a n c, nv = .slice a n c) := by
  have h48 := R.all
  rcases L with ⟨h1, rfl⟩ | ⟨_, A, lv, nv, rs, rfl, K⟩
  · have h0 := S.row.nil_len h1
    have hs : st = [] := List.length_eq_zero_iff.1 h0
    subst hs
    exact ⟨_, _, _, fun _ => (.slice none 0 0, .slice none 0 0), rfl, ⟨World.ownsRow_nil _ _ _ _, fun i hi => by simp at hi, fun i hi => by simp at hi⟩, ⟨_, _, _, rfl⟩, ⟨_, _, _, rfl⟩, ⟨_, _, _, rfl⟩⟩
  · refine ⟨_, lv, nv, rs, rfl, ⟨?_, fun i hi => ?_, fun i hi => ?_⟩, ⟨_, _, _, rfl⟩, ownsRow_form K.ls.lrow, ownsRow_form K.ls.nrow⟩
    · refine K.all.row rfl (by omega) (by unfold maxLen; omega) (Nat.zero_le _) (stCells_len _ _) (fun j v hv => ?_)
      have hj := (List.getElem?_eq_some_iff.1 hv).1
      rw [stCells_len] at hj
      rw [stCells_stc _ _ _ hj] at hv
      rw [if_pos hj]
      exact Option.some.inj hv
    · exact (K.ls.lev i hi).row (fun e => (S.lev i hi).nil_len e) (flat_len _) (by have := R.lev i hi; unfold maxLen; omega)
    · exact (K.ls.nxt i hi).row (fun e => (S.nxt i hi).nil_len e) (by simp [intCells]) (by have := R.nxt i hi; unfold maxLen; omega)
theorem SW.all {w w' : World} {sv : Value} {st : List Stg} {vs : Nat → Value × Value} (h : SW w sv st vs) (hb : Below w.heap.size w w') : SW w' sv st vs := h.on hb
section
variable {PS : PSt} {w : World} {sv : Value} {st : List Stg} {vs : Nat → Value × Value} {wb : Nat}
set_option maxRecDepth 100000 in
set_option maxHeartbeats 8000000 in
theorem begun_check (P : Prg PS) (S : SL w sv st vs) (R : Rm st) (a b dd : Int) (s : ByteArray) :
    Calls Tryz.prog 57 #[P0 wb, .agg #[.int .i64 5, .int .i64 a, .int .i64 b, .int .i64 dd, .string s, sv]] w fun e w' => e = .returned (.bool true) ∧ Below w.heap.size w w' := by
  have HB := hide (box_facts w (.int .i64 5) (.int .i64 a) (.int .i64 b) (.int .i64 dd) (.string s) sv 84)
  obtain ⟨sa, sc, hsv⟩ := S.row.any
  have HSR := hide (And.intro S R)
  clear S R
  subst hsv
  go_enter Tryz.func57, Tryz.ntmps57
  go_wp2_with fail
  obtain ⟨bo, hsz, q0, q1, q2, q3, q4, q5⟩ := HB.out
  have hd : ∀ (u : World) (p : Addr), u.drew.cell? p = u.cell? p := fun _ _ => rfl
  rw [hd] at q0 q1 q2 q3 q4 q5
  generalize w.alloc (Obj.cells #[.int .i64 5, .int .i64 a, .int .i64 b, .int .i64 dd, .string s, .slice sa st.length sc] 84) = wo at *
  have So := HSR.out.1.on bo
  refine (lent_any So HSR.out.2).mono ?_
  rintro e w1 ⟨xv, rfl, L, b1⟩
  obtain ⟨al, lv, nv, rs, rfl, SW1, ⟨a1, n1, c1, rfl⟩, ⟨a2, n2, c2, rfl⟩, ⟨a3, n3, c3, rfl⟩⟩ := L.sw So HSR.out.2
  have hs1 := b1.size
  have q0' := (b1.cell (p := ⟨w.heap.size, 0, none⟩) hsz).trans q0
  have hws : w.heap.size < w1.heap.size := by omega
  have HBA := hide (fun o : Obj => (Below.refl w1.heap.size w1).alloc (Nat.le_refl _) o)
  have HCK := hide (fun o : Obj => P.check (SW1.on (HBA.out o)))
  have HALL := hide (And.intro bo (And.intro So (And.intro b1 L)))
  have q5o := q5
  generalize hck : (if checkL st = true then (0 : Int) else 4) = ck at *
  have HQ5 := hide q5
  have HRK := hide (fun (u : World) (S : SL u (.slice sa st.length sc) st vs) => refCheck_any S)
  rw [hck] at HRK
  clear bo So b1 L SW1 q0 q1 q2 q3 q4 q5 q5o HB hd hck
  have q0a : ∀ o : Obj, (w1.alloc o).cell? ⟨w.heap.size, 0, none⟩ = some (.int .i64 5) := fun o => ((HBA.out o).cell (by simpa using hws)).trans q0'
  go_wp2_with fail
  refine (HCK.out _).mono ?_
  rintro e w2 ⟨rfl, b2⟩
  have bX : (w1.alloc (Obj.cells #[.slice a1 n1 c1, .slice a2 n2 c2, .slice a3 n3 c3] 186)).heap[w1.heap.size]? = _ := heap_alloc_new _ _
  have hX := (b2.block w1.heap.size (by simp)).trans bX
  have x0 : w2.cell? ⟨w1.heap.size, 0, none⟩ = some (.slice a1 n1 c1) := by simp [World.cell?, hX]
  have x1 : w2.cell? ⟨w1.heap.size, 1, none⟩ = some (.slice a2 n2 c2) := by simp [World.cell?, hX]
  have x2 : w2.cell? ⟨w1.heap.size, 2, none⟩ = some (.slice a3 n3 c3) := by simp [World.cell?, hX]
  have hb12 : Below w1.heap.size w1 w2 := (HBA.out _).trans (b2.mono (by simp))
  have z5 := (hb12.cell (p := ⟨w.heap.size, 5, none⟩) hws).trans ((HALL.out.2.2.1.cell (p := ⟨w.heap.size, 5, none⟩) hsz).trans HQ5.out)
  have HWH := hide (whole_any HALL.out.2.1 HSR.out.2 HALL.out.2.2.1 HALL.out.2.2.2 hb12)
  have HB2 := hide hb12
  have hs2 := hb12.size
  clear b2 bX hX hb12 q0a q0' HCK HBA
  go_wp2_with fail
  refine HWH.out.mono ?_
  rintro e w3 ⟨rfl, iv⟩
  have hb3 : Below wo.heap.size wo w3 := (HALL.out.2.2.1.trans (HB2.out.mono hs1)).trans ⟨iv.os, iv.tape, iv.output, iv.size, fun k hk => iv.block k (by omega) (.inl hk)⟩
  have y5 := (hb3.cell (p := ⟨w.heap.size, 5, none⟩) hsz).trans HQ5.out
  have HR3 := hide (HRK.out w3 (HALL.out.2.1.on hb3))
  have HB3 := hide (HALL.out.1.trans (hb3.mono (by have := HALL.out.1.size; omega)))
  clear iv hb3 z5 x0 x1 x2 HWH HB2 HRK HALL
  go_wp2_with fail
  refine HR3.out.mono ?_
  rintro e w4 ⟨rfl, b4⟩
  have HB4 := hide (HB3.out.trans (b4.mono HB3.out.size))
  clear b4 HB3 HR3 y5
  go_wp2_with fail
  go_ret
  exact ⟨rfl, HB4.out⟩
end
end Go.Proofs.YtcnmbldikjljeaaGreatDoor
