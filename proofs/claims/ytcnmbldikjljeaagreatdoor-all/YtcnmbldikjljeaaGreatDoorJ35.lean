import Derived.Test.YtcnmbldikjljeaaGreatDoorJ34
namespace Go.Proofs.YtcnmbldikjljeaaGreatDoor
open Go.RowKit

/-- a pair of calendars that nobody writes any more -/
structure YM (own : Nat → Nat) (w : World) (y : Nat × Nat) (wk : Nat → List (Int × Int)) (fr : Nat → Bool) (F : Nat → Bool) : Prop where
  cal : CalW (roW own w) y.1 wk fr
  len : ∀ j, (wk j).length ≤ 1000
  same : ∀ x : Int, 0 ≤ x → x < 100800 → openL wk fr x = F x.toNat
  ref : RC (roW own w) y.2 F
theorem YM.kept {own own' : Nat → Nat} {w w' : World} {y : Nat × Nat} {wk : Nat → List (Int × Int)} {fr F : Nat → Bool} {T : Nat → Prop} (h : YM own w y wk fr F) (k : KeptS own own' T w w') (h0 : ¬ T 0) : YM own' w' y wk fr F :=
  ⟨h.cal.on (by rw [ro_size]; exact k.below h0), h.len, h.same, h.ref.kept k h0⟩
/-- the tags of what was lent -/
def lentT (own : Nat → Nat) (a b : Nat) : Nat → Nat := fun k => if a ≤ k ∧ k < b then 9 else own k
theorem lentT_kept {own : Nat → Nat} {w w1 : World} (hb : Below w.heap.size w w1) (hl : ∀ k, own k ≠ 0 → k < w.heap.size) {T : Nat → Prop} : KeptS own (lentT own w.heap.size w1.heap.size) T w w1 := by
  refine ⟨hb.os, hb.tape, hb.output, hb.size, fun k hk _ => hb.block k hk, fun k hk => ?_, fun k hk h0 => ?_, fun k => ?_⟩
  · unfold lentT; rw [if_neg (by omega)]
  · unfold lentT at h0
    split at h0
    · omega
    · exact absurd (hl k h0) (by omega)
  · unfold lentT
    split
    · exact .inl (by omega)
    · exact .inr (.inl rfl)
/-- what was lent was written over -/
theorem Iv.kept {own : Nat → Nat} {w u : World} {a b : Nat} (h : Iv a b w u) (ht : ∀ k, a ≤ k → k < b → own k = 9) (hl : ∀ k, own k ≠ 0 → k < w.heap.size) : KeptS own own (fun x => x = 9) w u :=
  ⟨h.os, h.tape, h.output, h.size, fun k hk hT => h.block k hk (Classical.byContradiction fun e => hT (ht k (by omega) (by omega))), fun _ _ => rfl, fun k hk h0 => absurd (hl k h0) (by omega), fun _ => .inr (.inl rfl)⟩
/-- the document's new docket -/
theorem RT.new {own : Nat → Nat} {w w' : World} {g c : Nat} {F : Nat → Bool} {st : List Stg} {sv : Value} {vs : Nat → Value × Value} {t : Nat} (ht : t ≠ 0) (hl : ∀ k, own k ≠ 0 → k < w.heap.size) (C : RC (roW own w) c F) (hg : w.heap.size ≤ g) (R : RD w' g c F st sv vs (.slice none 0 0) ⟨0, 0, 0, []⟩) (hb : Below w.heap.size w w') (N : NewAt w.heap.size st sv vs) :
    RT (tagOf own (some g) t) w' t g c F st sv vs (.slice none 0 0) ⟨0, 0, 0, []⟩ ∧ Kept own (tagOf own (some g) t) t w w' := by
  have hk : Kept own (tagOf own (some g) t) t w w' := by
    refine ⟨hb.os, hb.tape, hb.output, hb.size, fun k hk _ => hb.block k hk, fun k hk => ?_, fun k hk h0 => ?_, tagOf_nt⟩
    · unfold tagOf; rw [if_neg (by simp; omega)]
    · unfold tagOf at h0
      split at h0
      · rename_i e
        obtain rfl : k = g := by simpa using e
        exact R.lt
      · exact absurd (hl k h0) (by omega)
  have hz : ∀ {e : TypeId} {base size n : Nat} {v : Value} {xs : List Value}, e ≠ 240 → (∀ k, v.ownBlock = some k → w.heap.size ≤ k) → w'.ownsRow base e size v n xs → ∀ k, v.ownBlock = some k → tagOf own (some g) t k = 0 := by
    intro e base size n v xs he hlo hr k hkk
    have h1 := hlo k hkk
    unfold tagOf
    rw [if_neg]
    · exact Classical.byContradiction fun h => by have := hl k h; omega
    · intro e'
      obtain rfl : k = g := by simpa using e'
      rcases hr.2 with ⟨hv, _⟩ | ⟨q, cap, cur, hv, _, hq, _⟩
      · rw [hv] at hkk; simp [Value.ownBlock] at hkk
      · rw [hv] at hkk
        obtain rfl : q = k := by simpa [Value.ownBlock] using hkk
        rw [R.blk] at hq
        cases hq
        exact he rfl
  refine ⟨⟨R.blk, R.own, R.nl, by unfold tagOf; rw [if_pos rfl], fun k hk' => by simp [Value.ownBlock] at hk', C.kept hk (Ne.symm ht), ⟨row_ro R.stg.row (hz (by decide) N.row R.stg.row), fun i hi => row_ro (R.stg.lev i hi) (hz (by decide) (N.lev i hi) (R.stg.lev i hi)), fun i hi => row_ro (R.stg.nxt i hi) (hz (by decide) (N.nxt i hi) (R.stg.nxt i hi))⟩⟩, hk⟩
end Go.Proofs.YtcnmbldikjljeaaGreatDoor
namespace Go.Proofs.YtcnmbldikjljeaaGreatDoor
open Go.RowKit

section
variable {PS : PSt} {w : World} {sv : Value} {st : List Stg} {vs : Nat → Value × Value} {wb : Nat}
set_option maxRecDepth 100000 in
set_option maxHeartbeats 8000000 in
/-- New of no calendar -/
theorem begun_newNil (P : Prg PS) (S : SL w sv st vs) (R : Rm st) {v0 : Value} (hv0 : w.cell? ⟨wb, 0, none⟩ = some v0) (hcs : ∃ x n c, v0 = .slice x n c ∧ (n : Int) ≤ 9223372036854775807) (a b dd : Int) (hz : b = 1 ∨ ∃ x c, v0 = .slice x 0 c) (s : ByteArray) :
    Calls Tryz.prog 57 #[P0 wb, .agg #[.int .i64 10, .int .i64 a, .int .i64 b, .int .i64 dd, .string s, sv]] w fun e w' => e = .returned (.bool true) ∧ Below w.heap.size w w' := by
  have HB := hide (box_facts w (.int .i64 10) (.int .i64 a) (.int .i64 b) (.int .i64 dd) (.string s) sv 84)
  obtain ⟨sa, sc, hsv⟩ := S.row.any
  obtain ⟨cx, cn, cc, rfl, hcn⟩ := hcs
  have hwb : wb < w.heap.size := World.block_lt_of_cell? _ _ hv0
  have hz' : b = 1 ∨ (¬ b = 1 ∧ cn = 0) := by
    rcases hz with h | ⟨x, c, h⟩
    · exact .inl h
    · simp only [Value.slice.injEq] at h
      by_cases hb : b = 1
      · exact .inl hb
      · exact .inr ⟨hb, h.2.1⟩
  clear hz
  have HSR := hide (And.intro S R)
  clear S R
  subst hsv
  go_enter Tryz.func57, Tryz.ntmps57
  go_wp2_with fail
  obtain ⟨bo, hsz, q0, q1, q2, q3, q4, q5⟩ := HB.out
  have hd : ∀ (u : World) (p : Addr), u.drew.cell? p = u.cell? p := fun _ _ => rfl
  rw [hd] at q0 q1 q2 q3 q4 q5
  generalize w.alloc (Obj.cells #[.int .i64 10, .int .i64 a, .int .i64 b, .int .i64 dd, .string s, .slice sa st.length sc] 84) = wo at *
  have So := HSR.out.1.on bo
  refine (lent_any So HSR.out.2).mono ?_
  rintro e w1 ⟨xv, rfl, L, b1⟩
  obtain ⟨al, lv, nv, rs, rfl, SW1, ⟨a1, n1, c1, rfl⟩, ⟨a2, n2, c2, rfl⟩, ⟨a3, n3, c3, rfl⟩⟩ := L.sw So HSR.out.2
  have hs1 := b1.size
  have hws : w.heap.size < w1.heap.size := by omega
  -- the two boxes behind it
  have hBB : ∀ o o2 : Obj, Below w1.heap.size w1 ((w1.alloc o).alloc o2) := fun o o2 => ((Below.refl w1.heap.size w1).alloc (Nat.le_refl _) o).alloc (by simp) o2
  have f0 : ∀ o : Obj, (w1.alloc o).cell? ⟨w.heap.size, 0, none⟩ = some (.int .i64 10) := fun o => (((Below.refl w1.heap.size w1).alloc (Nat.le_refl _) o).cell (by simpa using hws)).trans ((b1.cell (p := ⟨w.heap.size, 0, none⟩) hsz).trans q0)
  have f2 : ∀ o o2 : Obj, ((w1.alloc o).alloc o2).cell? ⟨w.heap.size, 2, none⟩ = some (.int .i64 b) := fun o o2 => ((hBB o o2).cell (by simpa using hws)).trans ((b1.cell (p := ⟨w.heap.size, 2, none⟩) hsz).trans q2)
  have g0 : ∀ o o2 : Obj, ((w1.alloc o).alloc o2).cell? ⟨wb, 0, none⟩ = some (.slice cx cn cc) := fun o o2 => ((hBB o o2).cell (by simp; omega)).trans ((b1.cell (p := ⟨wb, 0, none⟩) (by simp; omega)).trans ((bo.cell (p := ⟨wb, 0, none⟩) hwb).trans hv0))
  have HNW := hide (fun o o2 : Obj => P.newNil (SW1.on (hBB o o2)))
  have HALL := hide (And.intro bo (And.intro So (And.intro b1 (And.intro L hBB))))
  have HQ5 := hide q5
  clear bo So b1 L SW1 q0 q1 q2 q3 q4 q5 HB hd hBB
  rcases hz' with rfl | ⟨hb, rfl⟩
  · go_wp2_with fail
    refine (HNW.out _ _).mono ?_
    rintro e w2 ⟨rfl, b2⟩
    have hX := (b2.block w1.heap.size (by simp; omega)).trans ((Below.heap_alloc _ _ _ (by simp)).trans (heap_alloc_new w1 (Obj.cells #[.slice a1 n1 c1, .slice a2 n2 c2, .slice a3 n3 c3] 186)))
    have hY : w2.heap[w1.heap.size + 1]? = some (.cells #[.pointer none, .pointer none] 152 (0, 0)) := (b2.block (w1.heap.size + 1) (by simp)).trans (by have h9 := heap_alloc_new (w1.alloc (Obj.cells #[.slice a1 n1 c1, .slice a2 n2 c2, .slice a3 n3 c3] 186)) (Obj.cells #[.pointer none, .pointer none] 152); simpa using h9)
    have x0 : w2.cell? ⟨w1.heap.size, 0, none⟩ = some (.slice a1 n1 c1) := by simp [World.cell?, hX]
    have x1 : w2.cell? ⟨w1.heap.size, 1, none⟩ = some (.slice a2 n2 c2) := by simp [World.cell?, hX]
    have x2 : w2.cell? ⟨w1.heap.size, 2, none⟩ = some (.slice a3 n3 c3) := by simp [World.cell?, hX]
    have hb12 : Below w1.heap.size w1 w2 := (HALL.out.2.2.2.2 _ _).trans (b2.mono (by simp; omega))
    have z5 := (hb12.cell (p := ⟨w.heap.size, 5, none⟩) hws).trans ((HALL.out.2.2.1.cell (p := ⟨w.heap.size, 5, none⟩) hsz).trans HQ5.out)
    have HWH := hide (whole_any HALL.out.2.1 HSR.out.2 HALL.out.2.2.1 HALL.out.2.2.2.1 hb12)
    have HB2 := hide hb12
    have HY := hide hY
    have hs2 := hb12.size
    have hs2' : w1.heap.size + 1 < w2.heap.size := (Array.getElem?_eq_some_iff.1 hY).1
    clear b2 hX hY hb12 f0 f2 g0 HNW
    go_wp2_with fail
    refine HWH.out.mono ?_
    rintro e w3 ⟨rfl, iv⟩
    have hb3 : Below wo.heap.size wo w3 := (HALL.out.2.2.1.trans (HB2.out.mono hs1)).trans ⟨iv.os, iv.tape, iv.output, iv.size, fun k hk => iv.block k (by omega) (.inl hk)⟩
    have hY3 := (iv.block (w1.heap.size + 1) hs2' (.inr (by omega))).trans HY.out
    have y1 : w3.cell? ⟨w1.heap.size + 1, 1, none⟩ = some (.pointer none) := by simp [World.cell?, hY3]
    have y5 := (hb3.cell (p := ⟨w.heap.size, 5, none⟩) hsz).trans HQ5.out
    have HB3 := hide (HALL.out.1.trans (hb3.mono (by have := HALL.out.1.size; omega)))
    clear iv hb3 z5 x0 x1 x2 HWH HB2 HALL hY3 HY
    go_wp2_with fail
    refine refNewNil_any.mono ?_
    rintro e w4 ⟨rfl, rfl⟩
    go_wp2_with fail
    go_ret
    exact ⟨rfl, HB3.out⟩
  · go_wp2_with fail
    refine (HNW.out _ _).mono ?_
    rintro e w2 ⟨rfl, b2⟩
    have hX := (b2.block w1.heap.size (by simp; omega)).trans ((Below.heap_alloc _ _ _ (by simp)).trans (heap_alloc_new w1 (Obj.cells #[.slice a1 n1 c1, .slice a2 n2 c2, .slice a3 n3 c3] 186)))
    have hY : w2.heap[w1.heap.size + 1]? = some (.cells #[.pointer none, .pointer none] 152 (0, 0)) := (b2.block (w1.heap.size + 1) (by simp)).trans (by have h9 := heap_alloc_new (w1.alloc (Obj.cells #[.slice a1 n1 c1, .slice a2 n2 c2, .slice a3 n3 c3] 186)) (Obj.cells #[.pointer none, .pointer none] 152); simpa using h9)
    have x0 : w2.cell? ⟨w1.heap.size, 0, none⟩ = some (.slice a1 n1 c1) := by simp [World.cell?, hX]
    have x1 : w2.cell? ⟨w1.heap.size, 1, none⟩ = some (.slice a2 n2 c2) := by simp [World.cell?, hX]
    have x2 : w2.cell? ⟨w1.heap.size, 2, none⟩ = some (.slice a3 n3 c3) := by simp [World.cell?, hX]
    have hb12 : Below w1.heap.size w1 w2 := (HALL.out.2.2.2.2 _ _).trans (b2.mono (by simp; omega))
    have z5 := (hb12.cell (p := ⟨w.heap.size, 5, none⟩) hws).trans ((HALL.out.2.2.1.cell (p := ⟨w.heap.size, 5, none⟩) hsz).trans HQ5.out)
    have HWH := hide (whole_any HALL.out.2.1 HSR.out.2 HALL.out.2.2.1 HALL.out.2.2.2.1 hb12)
    have HB2 := hide hb12
    have HY := hide hY
    have hs2 := hb12.size
    have hs2' : w1.heap.size + 1 < w2.heap.size := (Array.getElem?_eq_some_iff.1 hY).1
    clear b2 hX hY hb12 f0 f2 g0 HNW
    go_wp2_with fail
    refine HWH.out.mono ?_
    rintro e w3 ⟨rfl, iv⟩
    have hb3 : Below wo.heap.size wo w3 := (HALL.out.2.2.1.trans (HB2.out.mono hs1)).trans ⟨iv.os, iv.tape, iv.output, iv.size, fun k hk => iv.block k (by omega) (.inl hk)⟩
    have hY3 := (iv.block (w1.heap.size + 1) hs2' (.inr (by omega))).trans HY.out
    have y1 : w3.cell? ⟨w1.heap.size + 1, 1, none⟩ = some (.pointer none) := by simp [World.cell?, hY3]
    have y5 := (hb3.cell (p := ⟨w.heap.size, 5, none⟩) hsz).trans HQ5.out
    have HB3 := hide (HALL.out.1.trans (hb3.mono (by have := HALL.out.1.size; omega)))
    clear iv hb3 z5 x0 x1 x2 HWH HB2 HALL hY3 HY
    go_wp2_with fail
    refine refNewNil_any.mono ?_
    rintro e w4 ⟨rfl, rfl⟩
    go_wp2_with fail
    go_ret
    exact ⟨rfl, HB3.out⟩
end
end Go.Proofs.YtcnmbldikjljeaaGreatDoor
namespace Go.Proofs.YtcnmbldikjljeaaGreatDoor
open Go.RowKit

section
variable {PS : PSt} {w : World} {sv : Value} {st : List Stg} {vs : Nat → Value × Value} {wb : Nat}
set_option maxRecDepth 100000 in
set_option maxHeartbeats 8000000 in
/-- New of stages that do not go together -/
theorem begun_newNo (P : Prg PS) (S : SL w sv st vs) (R : Rm st) (hno : checkL st = false) {q n cap : Nat} (hv0 : w.cell? ⟨wb, 0, none⟩ = some (.slice (some ⟨q, 0, none⟩) n cap)) (hn : 0 < n) (hn2 : (n : Int) ≤ 9223372036854775807) (i : Nat) (hi : i < n) {c r : Nat} (hc : w.cell? ⟨q, i * 2, none⟩ = some (P0 c)) (hr : w.cell? ⟨q, i * 2 + 1, none⟩ = some (P0 r))
    (a b dd : Int) (ha0 : -9223372036854775808 ≤ a) (ha1 : a ≤ 9223372036854775807) (hpk : pk a n = i) (hb : ¬ b = 1) (s : ByteArray) :
    Calls Tryz.prog 57 #[P0 wb, .agg #[.int .i64 10, .int .i64 a, .int .i64 b, .int .i64 dd, .string s, sv]] w fun e w' => e = .returned (.bool true) ∧ Below w.heap.size w w' := by
  have HB := hide (box_facts w (.int .i64 10) (.int .i64 a) (.int .i64 b) (.int .i64 dd) (.string s) sv 84)
  obtain ⟨sa, sc, hsv⟩ := S.row.any
  have hwb : wb < w.heap.size := World.block_lt_of_cell? _ _ hv0
  have hql : q < w.heap.size := World.block_lt_of_cell? _ _ hc
  have hn' : (0 : Int) < n := by omega
  have HL := hide (fun u : World => lpick_any a n u ha0 ha1 hn' hn2)
  rw [hpk] at HL
  have hi' : (i : Int) < n := by omega
  have HSR := hide (And.intro S R)
  clear S R hpk
  subst hsv
  go_enter Tryz.func57, Tryz.ntmps57
  go_wp2_with fail
  obtain ⟨bo, hsz, q0, q1, q2, q3, q4, q5⟩ := HB.out
  have hd : ∀ (u : World) (p : Addr), u.drew.cell? p = u.cell? p := fun _ _ => rfl
  rw [hd] at q0 q1 q2 q3 q4 q5
  generalize w.alloc (Obj.cells #[.int .i64 10, .int .i64 a, .int .i64 b, .int .i64 dd, .string s, .slice sa st.length sc] 84) = wo at *
  have So := HSR.out.1.on bo
  refine (lent_any So HSR.out.2).mono ?_
  rintro e w1 ⟨xv, rfl, L, b1⟩
  obtain ⟨al, lv, nv, rs, rfl, SW1, ⟨a1, n1, c1, rfl⟩, ⟨a2, n2, c2, rfl⟩, ⟨a3, n3, c3, rfl⟩⟩ := L.sw So HSR.out.2
  have hs1 := b1.size
  have hws : w.heap.size < w1.heap.size := by omega
  have hBB : ∀ o o2 : Obj, Below w1.heap.size w1 ((w1.alloc o).alloc o2) := fun o o2 => ((Below.refl w1.heap.size w1).alloc (Nat.le_refl _) o).alloc (by simp) o2
  have f0 : ∀ o : Obj, (w1.alloc o).cell? ⟨w.heap.size, 0, none⟩ = some (.int .i64 10) := fun o => (((Below.refl w1.heap.size w1).alloc (Nat.le_refl _) o).cell (by simpa using hws)).trans ((b1.cell (p := ⟨w.heap.size, 0, none⟩) hsz).trans q0)
  have hwo : ∀ (p : Addr) v, p.block < w.heap.size → w.cell? p = some v → ∀ o o2 : Obj, ((w1.alloc o).alloc o2).cell? p = some v := fun p v hp h o o2 => ((hBB o o2).cell (by have := bo.size; omega)).trans ((b1.cell (by have := bo.size; omega)).trans ((bo.cell hp).trans h))
  have f1 : ∀ o o2 : Obj, ((w1.alloc o).alloc o2).cell? ⟨w.heap.size, 1, none⟩ = some (.int .i64 a) := fun o o2 => ((hBB o o2).cell (by simpa using hws)).trans ((b1.cell (p := ⟨w.heap.size, 1, none⟩) hsz).trans q1)
  have f2 : ∀ o o2 : Obj, ((w1.alloc o).alloc o2).cell? ⟨w.heap.size, 2, none⟩ = some (.int .i64 b) := fun o o2 => ((hBB o o2).cell (by simpa using hws)).trans ((b1.cell (p := ⟨w.heap.size, 2, none⟩) hsz).trans q2)
  have g0 := hwo ⟨wb, 0, none⟩ _ hwb hv0
  have gc := hwo ⟨q, i * 2, none⟩ _ hql hc
  have gr := hwo ⟨q, i * 2 + 1, none⟩ _ hql hr
  have HALL := hide (And.intro bo (And.intro So (And.intro b1 (And.intro L (And.intro hBB SW1)))))
  have HQ5 := hide q5
  clear bo So b1 L SW1 q0 q1 q2 q3 q4 q5 HB hd hwo hBB
  go_wp2_with fail
  have d0 := g0 (Obj.cells #[.slice a1 n1 c1, .slice a2 n2 c2, .slice a3 n3 c3] 186) (Obj.cells #[.pointer none, .pointer none] 152)
  have dc := gc (Obj.cells #[.slice a1 n1 c1, .slice a2 n2 c2, .slice a3 n3 c3] 186) (Obj.cells #[.pointer none, .pointer none] 152)
  have dr := gr (Obj.cells #[.slice a1 n1 c1, .slice a2 n2 c2, .slice a3 n3 c3] 186) (Obj.cells #[.pointer none, .pointer none] 152)
  have da := f1 (Obj.cells #[.slice a1 n1 c1, .slice a2 n2 c2, .slice a3 n3 c3] 186) (Obj.cells #[.pointer none, .pointer none] 152)
  have hY : ((w1.alloc (Obj.cells #[.slice a1 n1 c1, .slice a2 n2 c2, .slice a3 n3 c3] 186)).alloc (Obj.cells #[.pointer none, .pointer none] 152)).heap[w1.heap.size + 1]? = some (.cells #[.pointer none, .pointer none] 152 (0, 0)) := by
    have h9 := heap_alloc_new (w1.alloc (Obj.cells #[.slice a1 n1 c1, .slice a2 n2 c2, .slice a3 n3 c3] 186)) (Obj.cells #[.pointer none, .pointer none] 152)
    simpa using h9
  have hX : ((w1.alloc (Obj.cells #[.slice a1 n1 c1, .slice a2 n2 c2, .slice a3 n3 c3] 186)).alloc (Obj.cells #[.pointer none, .pointer none] 152)).heap[w1.heap.size]? = some (.cells #[.slice a1 n1 c1, .slice a2 n2 c2, .slice a3 n3 c3] 186 (0, 0)) := (Below.heap_alloc _ _ _ (by simp)).trans (heap_alloc_new w1 _)
  have hB3 := HALL.out.2.2.2.2.1 (Obj.cells #[.slice a1 n1 c1, .slice a2 n2 c2, .slice a3 n3 c3] 186) (Obj.cells #[.pointer none, .pointer none] 152)
  generalize (w1.alloc (Obj.cells #[.slice a1 n1 c1, .slice a2 n2 c2, .slice a3 n3 c3] 186)).alloc (Obj.cells #[.pointer none, .pointer none] 152) = W3 at *
  have e0 : W3.drew.cell? ⟨wb, 0, none⟩ = _ := d0
  have ec : W3.drew.cell? ⟨q, i * 2, none⟩ = _ := dc
  have er : W3.drew.cell? ⟨q, i * 2 + 1, none⟩ = _ := dr
  have ea : W3.drew.cell? ⟨w.heap.size, 1, none⟩ = _ := da
  have hYd : W3.drew.heap[w1.heap.size + 1]? = some (.cells #[.pointer none, .pointer none] 152 (0, 0)) := hY
  have y0 : W3.drew.cell? ⟨w1.heap.size + 1, 0, none⟩ = some (.pointer none) := by simp [World.cell?, hYd]
  have y1 : W3.drew.cell? ⟨w1.heap.size + 1, 1, none⟩ = some (.pointer none) := by simp [World.cell?, hYd]
  have fy0 : W3.drew.frozen? ⟨w1.heap.size + 1, 0, none⟩ = false := by simp [World.frozen?, hYd]
  have fy1 : W3.drew.frozen? ⟨w1.heap.size + 1, 1, none⟩ = false := by simp [World.frozen?, hYd]
  have y0' : W3.cell? ⟨w1.heap.size + 1, 0, none⟩ = some (.pointer none) := y0
  have y1' : W3.cell? ⟨w1.heap.size + 1, 1, none⟩ = some (.pointer none) := y1
  have fy0' : W3.frozen? ⟨w1.heap.size + 1, 0, none⟩ = false := fy0
  have fy1' : W3.frozen? ⟨w1.heap.size + 1, 1, none⟩ = false := fy1
  have nw : wb ≠ w1.heap.size + 1 := by omega
  have nq : q ≠ w1.heap.size + 1 := by omega
  have no : w.heap.size ≠ w1.heap.size + 1 := by omega
  have HXY := hide (And.intro hX (And.intro hY hB3))
  clear d0 dc dr da hX hY hYd hB3 g0 gc gr f0 f1 f2
  have ec' : W3.drew.cell? ⟨q, i * 2, none⟩ = some (.pointer (some ⟨c, 0, none⟩)) := ec
  have er' : W3.drew.cell? ⟨q, i * 2 + 1, none⟩ = some (.pointer (some ⟨r, 0, none⟩)) := er
  clear ec er
  go_region_with (first | (go_at_call 59; refine (HL.out _).mono ?_; rintro e w' ⟨rfl, rfl⟩))
  all_goals
    obtain ⟨W4, hW4⟩ : ∃ W4, ((W3.setCell ⟨w1.heap.size + 1, 0, none⟩ (.pointer (some ⟨c, 0, none⟩))).setCell ⟨w1.heap.size + 1, 1, none⟩ (.pointer (some ⟨r, 0, none⟩))).drew = W4 := ⟨_, rfl⟩
    have hB4 : Below w1.heap.size w1 W4 := by rw [← hW4]; exact ((HXY.out.2.2.setCell (p := ⟨w1.heap.size + 1, 0, none⟩) (by simp) _).setCell (p := ⟨w1.heap.size + 1, 1, none⟩) (by simp) _).drew
    have hX4 : W4.heap[w1.heap.size]? = some (.cells #[.slice a1 n1 c1, .slice a2 n2 c2, .slice a3 n3 c3] 186 (0, 0)) := by
      rw [← hW4]
      show ((W3.setCell ⟨w1.heap.size + 1, 0, none⟩ (.pointer (some ⟨c, 0, none⟩))).setCell ⟨w1.heap.size + 1, 1, none⟩ (.pointer (some ⟨r, 0, none⟩))).heap[w1.heap.size]? = _
      rw [Below.heap_setCell _ _ _ _ (by simp), Below.heap_setCell _ _ _ _ (by simp)]; exact HXY.out.1
    have hY4 : W4.heap[w1.heap.size + 1]? = some (.cells #[P0 c, P0 r] 152 (0, 0)) := by
      rw [← hW4]
      have e1 := heap_setCell_same _ _ 0 _ _ (.pointer (some ⟨c, 0, none⟩)) HXY.out.2.1
      have e2 := heap_setCell_same _ _ 1 _ _ (.pointer (some ⟨r, 0, none⟩)) e1
      show ((W3.setCell ⟨w1.heap.size + 1, 0, none⟩ (.pointer (some ⟨c, 0, none⟩))).setCell ⟨w1.heap.size + 1, 1, none⟩ (.pointer (some ⟨r, 0, none⟩))).heap[w1.heap.size + 1]? = _
      simpa using e2
    rw [hW4]
    clear hW4
    have x0 : W4.cell? ⟨w1.heap.size, 0, none⟩ = some (.slice a1 n1 c1) := by simp [World.cell?, hX4]
    have y0c : W4.cell? ⟨w1.heap.size + 1, 0, none⟩ = some (P0 c) := by simp [World.cell?, hY4]
    have HNW := hide (P.newNo c (HALL.out.2.2.2.2.2.on hB4) hno)
    have HXY4 := hide (And.intro hX4 (And.intro hY4 hB4))
    have hlY : w1.heap.size + 1 < W4.heap.size := (Array.getElem?_eq_some_iff.1 hY4).1
    clear hX4 hY4 hB4 HXY e0 ea y0 y1 fy0 fy1 y0' y1' fy0' fy1' ec' er' nw nq no HL
    go_wp2_with fail
    refine HNW.out.mono ?_
    rintro e w2 ⟨rfl, b2⟩
    have hX := (b2.block w1.heap.size (by omega)).trans HXY4.out.1
    have hY := (b2.block (w1.heap.size + 1) hlY).trans HXY4.out.2.1
    have x0 : w2.cell? ⟨w1.heap.size, 0, none⟩ = some (.slice a1 n1 c1) := by simp [World.cell?, hX]
    have x1 : w2.cell? ⟨w1.heap.size, 1, none⟩ = some (.slice a2 n2 c2) := by simp [World.cell?, hX]
    have x2 : w2.cell? ⟨w1.heap.size, 2, none⟩ = some (.slice a3 n3 c3) := by simp [World.cell?, hX]
    have hb12 : Below w1.heap.size w1 w2 := HXY4.out.2.2.trans (b2.mono (by omega))
    have z5 := (hb12.cell (p := ⟨w.heap.size, 5, none⟩) hws).trans ((HALL.out.2.2.1.cell (p := ⟨w.heap.size, 5, none⟩) hsz).trans HQ5.out)
    have HWH := hide (whole_any HALL.out.2.1 HSR.out.2 HALL.out.2.2.1 HALL.out.2.2.2.1 hb12)
    have HB2 := hide hb12
    have HY := hide hY
    have hs2 := hb12.size
    have hs2' : w1.heap.size + 1 < w2.heap.size := (Array.getElem?_eq_some_iff.1 hY).1
    clear b2 hX hY hb12 HNW HXY4 y0c
    go_wp2_with fail
    refine HWH.out.mono ?_
    rintro e w3 ⟨rfl, iv⟩
    have hb3 : Below wo.heap.size wo w3 := (HALL.out.2.2.1.trans (HB2.out.mono hs1)).trans ⟨iv.os, iv.tape, iv.output, iv.size, fun k hk => iv.block k (by omega) (.inl hk)⟩
    have hY3 := (iv.block (w1.heap.size + 1) hs2' (.inr (by omega))).trans HY.out
    have y1 : w3.cell? ⟨w1.heap.size + 1, 1, none⟩ = some (P0 r) := by simp [World.cell?, hY3]
    have y5 := (hb3.cell (p := ⟨w.heap.size, 5, none⟩) hsz).trans HQ5.out
    have HRN := hide (refNewNo_any (c := r) (HALL.out.2.1.on hb3) hno)
    have HB3 := hide (HALL.out.1.trans (hb3.mono (by have := HALL.out.1.size; omega)))
    clear iv hb3 z5 x0 x1 x2 HWH HB2 HALL hY3 HY
    go_wp2_with fail
    refine HRN.out.mono ?_
    rintro e w4 ⟨rfl, b4⟩
    have HB4 := hide (HB3.out.trans (b4.mono HB3.out.size))
    clear b4 HB3 HRN y1 y5
    go_wp2_with fail
    go_ret
    exact ⟨rfl, HB4.out⟩
end
end Go.Proofs.YtcnmbldikjljeaaGreatDoor
