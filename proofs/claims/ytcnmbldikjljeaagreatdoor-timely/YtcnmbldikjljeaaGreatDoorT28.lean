import Derived.Test.YtcnmbldikjljeaaGreatDoorT27
import Derived.Deep.CutRange
namespace Go.Proofs.YtcnmbldikjljeaaGreatDoor
open Go.RowKit

/-- a function's first loop -/
def firstLoop : Code → Option Code
  | .loop c => some c
  | .seq a b => match firstLoop a with
    | some c => some c
    | none => firstLoop b
  | .block _ c => firstLoop c
  | .scope c => firstLoop c
  | .cond _ a b => match firstLoop a with
    | some c => some c
    | none => firstLoop b
  | _ => none
/-! what somebody knows who looks on, in memory -/
def wtC (k : Wt) (c : Nat) : Value := match c with
  | 0 => .int .i64 k.since
  | 1 => .int .i64 k.togo
  | 2 => .int .i64 k.stage
  | 3 => .int .i64 k.level
  | 4 => .bool k.there
  | 5 => .bool k.on
  | _ => .bool k.held
def wf (ws : Nat → Wt) (j : Nat) : Value := wtC (ws (j / 7)) (j % 7)
abbrev WM (w : World) (g : Nat) (ws : Nat → Wt) : Prop := BK w g 53 1400 (wf ws)
theorem upd_upd (w : Nat → Wt) (j : Nat) (a b : Wt) : upd (upd w j a) j b = upd w j b := by
  funext i; unfold upd; split <;> rfl
theorem upd_self (w : Nat → Wt) (j : Nat) : upd w j (w j) = w := by
  funext i; unfold upd; split
  · rename_i e; rw [e]
  · rfl
section
variable {w u : World} {g : Nat} {ws : Nat → Wt}
theorem WM.set (h : WM w g ws) (id c : Nat) (hc : c < 7) (k : Wt) {v : Value} (hv : wtC k c = v) (ho : ∀ c', c' < 7 → c' ≠ c → wtC k c' = wtC (ws id) c') : WM (w.setCell ⟨g, id * 7 + c, none⟩ v) g (upd ws id k) := by
  refine (BK.set h (id * 7 + c) v).congr fun j _ => ?_
  by_cases e : j = id * 7 + c
  · subst e
    rw [if_pos rfl]
    unfold wf
    rw [show (id * 7 + c) / 7 = id by omega, show (id * 7 + c) % 7 = c by omega, upd_at, hv]
  · rw [if_neg e]
    unfold wf
    by_cases hj : j / 7 = id
    · rw [hj, upd_at, ho (j % 7) (Nat.mod_lt _ (by omega)) (by omega)]
    · rw [upd_ne _ _ hj]
theorem WM.put {id : Nat} {k : Wt} (h : WM w g (upd ws id k)) (c : Nat) (hc : c < 7) (k' : Wt) {v : Value} (hv : wtC k' c = v) (ho : ∀ c', c' < 7 → c' ≠ c → wtC k' c' = wtC k c') : WM (w.setCell ⟨g, id * 7 + c, none⟩ v) g (upd ws id k') := by
  have := WM.set h id c hc k' hv (fun c' h1 h2 => by rw [upd_at]; exact ho c' h1 h2)
  rwa [upd_upd] at this
theorem WM.cell (h : WM w g ws) (id c : Nat) (hi : id < 200) (hc : c < 7) : w.cell? ⟨g, id * 7 + c, none⟩ = some (wtC (ws id) c) := by
  have := BK.cell h (id * 7 + c) (by omega)
  unfold wf at this
  rwa [show (id * 7 + c) / 7 = id by omega, show (id * 7 + c) % 7 = c by omega] at this
end
section
variable {own own' : Nat → Nat} {w u : World} {T : Nat → Prop}
theorem KeptS.setG (h : KeptS own own' T w u) {g j : Nat} {v : Value} (hg : T (own g) ∨ w.heap.size ≤ g) : KeptS own own' T w (u.setCell ⟨g, j, none⟩ v) :=
  ⟨h.os, h.tape, h.output, by simpa using h.size, fun k hk ht => (Below.heap_setCell _ _ _ k (fun e => by subst e; rcases hg with a | a; exact ht a; omega)).trans (h.block k hk ht), h.same, fun k hk h0 => by have := h.lt k hk h0; simpa using this, h.nt⟩
theorem SW.keptR {sv : Value} {st : List Stg} {vs : Nat → Value × Value} (h : SW (roW own w) sv st vs) (k : KeptS own own' T w u) (h0 : ¬ T 0) : SW (roW own' u) sv st vs := h.on (by rw [ro_size]; exact k.below h0)
end
/-- the cells of a stage, as they are read -/
structure SC (w : World) (sv : Value) (st : List Stg) (i sq sc : Nat) (la : Option Addr) (lc : Nat) : Prop where
  v : sv = .slice (some ⟨sq, 0, none⟩) st.length sc
  c : w.cell? ⟨sq, i * 2, none⟩ = some (.slice la (stAt st i).levels.length lc)
  l : 0 < (stAt st i).levels.length → ∃ q, la = some ⟨q, 0, none⟩ ∧ ∀ k, k < (stAt st i).levels.length → w.cell? ⟨q, k * 2, none⟩ = some (.int .i64 (lvAt (stAt st i) k).1) ∧ w.cell? ⟨q, k * 2 + 1, none⟩ = some (.int .i64 (lvAt (stAt st i) k).2)
theorem SW.sc {own : Nat → Nat} {w : World} {sv : Value} {st : List Stg} {vs : Nat → Value × Value} (h : SW (roW own w) sv st vs) {i : Nat} (hi : i < st.length) : ∃ sq sc la lc, SC w sv st i sq sc la lc ∧ own sq = 0 ∧ ∀ q, la = some ⟨q, 0, none⟩ → 0 < (stAt st i).levels.length → own q = 0 := by
  obtain ⟨sq, sc, rfl⟩ := row_some h.row (by omega)
  have c0 := (h.row.cellAt (i * 2) (by omega)).trans (stCells_at vs st.length i hi).1
  obtain ⟨o0, c0⟩ := ro_cell c0
  obtain ⟨la, lc, hl⟩ := row_any (h.lev i hi)
  rw [hl] at c0
  have hlev := h.lev i hi
  rw [hl] at hlev
  have key : 0 < (stAt st i).levels.length → ∃ q, la = some ⟨q, 0, none⟩ ∧ own q = 0 ∧ ∀ k, k < (stAt st i).levels.length → w.cell? ⟨q, k * 2, none⟩ = some (.int .i64 (lvAt (stAt st i) k).1) ∧ w.cell? ⟨q, k * 2 + 1, none⟩ = some (.int .i64 (lvAt (stAt st i) k).2) := fun hp => by
    obtain ⟨q, cap, e⟩ := row_some hlev hp
    simp only [Value.slice.injEq] at e
    obtain ⟨rfl, _, rfl⟩ := e
    have hk : ∀ k, k < (stAt st i).levels.length → (own q = 0 ∧ w.cell? ⟨q, k * 2, none⟩ = some (.int .i64 (lvAt (stAt st i) k).1)) ∧ w.cell? ⟨q, k * 2 + 1, none⟩ = some (.int .i64 (lvAt (stAt st i) k).2) := fun k hk => by
      have e1 := ro_cell ((hlev.cellAt (k * 2) (by omega)).trans (flat_at (stAt st i).levels k hk).1)
      have e2 := ro_cell ((hlev.cellAt (k * 2 + 1) (by omega)).trans (flat_at (stAt st i).levels k hk).2)
      have e3 : lvAt (stAt st i) k = (stAt st i).levels[k] := by unfold lvAt; simp [hk]
      rw [e3]
      exact ⟨e1, e2.2⟩
    exact ⟨q, rfl, (hk 0 hp).1.1, fun k h => ⟨(hk k h).1.2, (hk k h).2⟩⟩
  refine ⟨sq, sc, la, lc, ⟨rfl, c0, fun hp => ?_⟩, o0, fun q e hp => ?_⟩
  · obtain ⟨q, e, _, r⟩ := key hp
    exact ⟨q, e, r⟩
  · obtain ⟨q', e', o, _⟩ := key hp
    rw [e] at e'
    cases e'
    exact o
set_option maxRecDepth 100000 in
set_option maxHeartbeats 4000000 in
theorem enters_any {own : Nat → Nat} {w : World} {g id : Nat} {ws : Nat → Wt} {sv : Value} {st : List Stg} {vs : Nat → Value × Value} (B : WM w g ws) (og : own g = 3) (hl : ∀ k, own k ≠ 0 → k < w.heap.size) (S : SW (roW own w) sv st vs) (hid : id < 200) {i : Nat} (hi : i < st.length) (h6 : st.length ≤ 6) (hs : StOk st) (now : Int) :
    Calls Tryz.prog 18 #[.pointer (some ⟨g, id * 7, none⟩), .int .i64 i, .int .i64 now, sv] w fun e w' => e = .returned (.tuple #[]) ∧ WM w' g (upd ws id (entersW st (ws id) i now)) ∧ KeptS own own (fun x => x = 3) w w' := by
  obtain ⟨sq, sc, la, lc, C, o1, o2⟩ := S.sc hi
  have hne : sq ≠ g := fun e => by rw [e, og] at o1; cases o1
  have hlv := (hs i hi).1
  have hsv := C.v
  subst hsv
  have c0 := C.c
  have d0 : w.cell? ⟨g, id * 7, none⟩ = some (.int .i64 (ws id).since) := B.cell id 0 hid (by omega)
  have d1 := B.cell id 1 hid (by omega)
  have d2 := B.cell id 2 hid (by omega)
  have d3 := B.cell id 3 hid (by omega)
  have d5 := B.cell id 5 hid (by omega)
  have f0 := B.frz (id * 7)
  have f1 := B.frz (id * 7 + 1)
  have f2 := B.frz (id * 7 + 2)
  have f3 := B.frz (id * 7 + 3)
  have f5 := B.frz (id * 7 + 5)
  have hil : (i : Int) < st.length := by omega
  have k0 : KeptS own own (fun x => x = 3) w w := .of_below (Below.refl _ _) hl
  have HB := hide (And.intro B k0)
  have HC := hide (And.intro C o2)
  clear S B C k0 o2
  simp only [wtC] at d1 d2 d3 d5
  by_cases hz : 0 < (stAt st i).levels.length
  · obtain ⟨q, hq, hc⟩ := HC.out.1.l hz
    have oq := HC.out.2 q hq hz
    have hqg : q ≠ g := fun e => by rw [e, og] at oq; cases oq
    have l0 := (hc 0 hz).1
    simp only [Nat.zero_mul] at l0
    subst hq
    have HE : Hid (entersW st (ws id) i now = { ws id with stage := i, level := 0, since := now, on := true, togo := (lvAt (stAt st i) 0).1 }) := hide (by
      unfold entersW
      rw [if_pos (by omega)]
      simp [hz])
    rw [show ((0 : Nat) : Int) = 0 from rfl] at l0
    generalize (lvAt (stAt st i) 0).1 = dl at *
    generalize (stAt st i).levels.length = n at *
    have hz' : (0 : Int) < n := by omega
    clear hc HC oq
    go_enter Tryz.func18, Tryz.ntmps18
    go_wp2_with fail
    go_end0
    have e0 : WM w g (upd ws id (ws id)) := by rw [upd_self]; exact HB.out.1
    have e1 := e0.put 2 (by omega) { ws id with stage := i } rfl (fun c' h1 h2 => by rcases c' with _ | _ | _ | _ | _ | _ | _ | c' <;> first | rfl | omega)
    have e2 := e1.put 3 (by omega) { ws id with stage := i, level := 0 } rfl (fun c' h1 h2 => by rcases c' with _ | _ | _ | _ | _ | _ | _ | c' <;> first | rfl | omega)
    have e3 := e2.put 0 (by omega) { ws id with stage := i, level := 0, since := now } rfl (fun c' h1 h2 => by rcases c' with _ | _ | _ | _ | _ | _ | _ | c' <;> first | rfl | omega)
    have e4 := e3.put 5 (by omega) { ws id with stage := i, level := 0, since := now, on := true } rfl (fun c' h1 h2 => by rcases c' with _ | _ | _ | _ | _ | _ | _ | c' <;> first | rfl | omega)
    have e5 := e4.put 1 (by omega) { ws id with stage := i, level := 0, since := now, on := true, togo := dl } rfl (fun c' h1 h2 => by rcases c' with _ | _ | _ | _ | _ | _ | _ | c' <;> first | rfl | omega)
    refine ⟨rfl, ?_, ?_⟩
    · rw [HE.out]; exact e5
    · exact ((((HB.out.2.setG (.inl og)).setG (.inl og)).setG (.inl og)).setG (.inl og)).setG (.inl og)
  · have HE : Hid (entersW st (ws id) i now = { ws id with stage := i, level := 0, since := now, on := false }) := hide (by
      unfold entersW
      rw [if_neg (by omega)]
      simp [hz])
    generalize (stAt st i).levels.length = n at *
    have hz' : (n : Int) = 0 := by omega
    have hz2 : ¬ (0 : Int) < n := by omega
    clear HC
    go_enter Tryz.func18, Tryz.ntmps18
    go_wp2_with fail
    go_end0
    have e0 : WM w g (upd ws id (ws id)) := by rw [upd_self]; exact HB.out.1
    have e1 := e0.put 2 (by omega) { ws id with stage := i } rfl (fun c' h1 h2 => by rcases c' with _ | _ | _ | _ | _ | _ | _ | c' <;> first | rfl | omega)
    have e2 := e1.put 3 (by omega) { ws id with stage := i, level := 0 } rfl (fun c' h1 h2 => by rcases c' with _ | _ | _ | _ | _ | _ | _ | c' <;> first | rfl | omega)
    have e3 := e2.put 0 (by omega) { ws id with stage := i, level := 0, since := now } rfl (fun c' h1 h2 => by rcases c' with _ | _ | _ | _ | _ | _ | _ | c' <;> first | rfl | omega)
    have e4 := e3.put 5 (by omega) { ws id with stage := i, level := 0, since := now, on := false } rfl (fun c' h1 h2 => by rcases c' with _ | _ | _ | _ | _ | _ | _ | c' <;> first | rfl | omega)
    refine ⟨rfl, ?_, ?_⟩
    · rw [HE.out]; exact e4
    · exact (((HB.out.2.setG (.inl og)).setG (.inl og)).setG (.inl og)).setG (.inl og)
end Go.Proofs.YtcnmbldikjljeaaGreatDoor
namespace Go.Proofs.YtcnmbldikjljeaaGreatDoor
open Go.RowKit

/-- where Timely's loop stands -/
structure TY (W wr : World) (own : Nat → Nat) (p c g : Nat) (es : List Ent) (fs : List Int) (ps : List (List (Int × Int))) (sv : Value) (vs : Nat → Value × Value) (d : Dk) (ws : Nat → Wt) (N M : Int) : Prop where
  kw : KW W wr own
  pk : PK own wr 10 p (FP es fs) (stgP ps) d N
  cal : CalW (roW own wr) c (wkP es fs) (frP es fs)
  stg : SW (roW own wr) sv (stgP ps) vs
  wm : WM wr g ws
  og : own g = 3
  wa : WA (FP es fs) (stgP ps) d.time d.cases ws
  md : d.made ≤ M
section
variable {W wr wz : World} {own own' : Nat → Nat} {p c g : Nat} {es : List Ent} {fs : List Int} {ps : List (List (Int × Int))} {sv : Value} {vs : Nat → Value × Value} {d d' : Dk} {ws ws' : Nat → Wt} {N N' M M' : Int} {T : Nat → Prop}
theorem WM.kept (h : WM wr g ws) (k : KeptS own own' T wr wz) (ht : ¬ T (own g)) : WM wz g ws := by
  obtain ⟨cur, h1, h2⟩ := h
  exact ⟨cur, (k.at h1 ht).1, h2⟩
/-- memory that grows -/
theorem TY.kept (h : TY W wr own p c g es fs ps sv vs d ws N M) (k : KeptS own own' T wr wz) (h0 : ¬ T 0) (h1 : ¬ T 10) (h3 : ¬ T 3) : TY W wz own' p c g es fs ps sv vs d ws N M :=
  ⟨h.kw.kept k h0, h.pk.kept k h0 h1, h.cal.keptR k h0, h.stg.keptR k h0, h.wm.kept k (by rw [h.og]; exact h3), by rw [k.same g (BK.lt h.wm)]; exact h.og, h.wa, h.md⟩
theorem TY.below (h : TY W wr own p c g es fs ps sv vs d ws N M) (hb : Below wr.heap.size wr wz) : TY W wz own p c g es fs ps sv vs d ws N M := h.kept (T := fun _ => False) (.of_below hb h.kw.lt) id id id
/-- a call of the docket's -/
theorem TY.call (h : TY W wr own p c g es fs ps sv vs d ws N M) (psi : PSi own' wz 10 p (FP es fs) (stgP ps) d') (k : Kept own own' 10 wr wz) (ok : DkOk (FP es fs) (stgP ps) d' N') (rs : DkR (stgP ps) d') (hw : WA (FP es fs) (stgP ps) d'.time d'.cases ws) (hm : d'.made ≤ M') : TY W wz own' p c g es fs ps sv vs d' ws N' M' :=
  ⟨h.kw.kept k (by decide), ⟨psi, ok, rs⟩, h.cal.keptR k (by decide), h.stg.keptR k (by decide), h.wm.kept k (by rw [h.og]; decide), by rw [k.same g (BK.lt h.wm)]; exact h.og, hw, hm⟩
/-- what is watched turns -/
theorem TY.turn (h : TY W wr own p c g es fs ps sv vs d ws N M) (k : KeptS own own (fun x => x = 3) wr wz) (hm : WM wz g ws') (hw : WA (FP es fs) (stgP ps) d.time d.cases ws') : TY W wz own p c g es fs ps sv vs d ws' N M :=
  ⟨h.kw.kept k (by decide), h.pk.kept k (by decide) (by decide), h.cal.keptR k (by decide), h.stg.keptR k (by decide), hm, h.og, hw, h.md⟩
theorem TY.both {wy : World} (h : TY W wr own p c g es fs ps sv vs d ws N M) (psi : PSi own' wz 10 p (FP es fs) (stgP ps) d') (k : Kept own own' 10 wr wz) (ok : DkOk (FP es fs) (stgP ps) d' N') (rs : DkR (stgP ps) d') (hm : d'.made ≤ M') (k3 : KeptS own' own' (fun x => x = 3) wz wy) (wm : WM wy g ws') (hw : WA (FP es fs) (stgP ps) d'.time d'.cases ws') : TY W wy own' p c g es fs ps sv vs d' ws' N' M' :=
  ⟨(h.kw.kept k (by decide)).kept k3 (by decide), (PK.mk psi ok rs).kept k3 (by decide) (by decide), (h.cal.keptR k (by decide)).keptR k3 (by decide), (h.stg.keptR k (by decide)).keptR k3 (by decide), wm, by rw [k.same g (BK.lt h.wm)]; exact h.og, hw, hm⟩
theorem TY.g3 (h : TY W wr own p c g es fs ps sv vs d ws N M) (k : Kept own own' 10 wr wz) : own' g = 3 := by rw [k.same g (BK.lt h.wm)]; exact h.og
theorem TY.pre (h : TY W wr own p c g es fs ps sv vs d ws N M) (hN : N ≤ 4611686018427387000) : Pre own wr (FP es fs) (stgP ps) d := h.pk.pre hN h.kw.lt (stgP_ok ps).1 (stgP_ok ps).2
end
/-- a whole Watched is stored -/
theorem WM.whole {w : World} {g id : Nat} {ws : Nat → Wt} (h : WM w g ws) (k : Wt) : WM (((((((w.setCell ⟨g, id * 7, none⟩ (wtC k 0)).setCell ⟨g, id * 7 + 1, none⟩ (wtC k 1)).setCell ⟨g, id * 7 + 2, none⟩ (wtC k 2)).setCell ⟨g, id * 7 + 3, none⟩ (wtC k 3)).setCell ⟨g, id * 7 + 4, none⟩ (wtC k 4)).setCell ⟨g, id * 7 + 5, none⟩ (wtC k 5)).setCell ⟨g, id * 7 + 6, none⟩ (wtC k 6)) g (upd ws id k) := by
  have e0 : WM w g (upd ws id (ws id)) := by rw [upd_self]; exact h
  have e1 := e0.put 0 (by omega) ⟨k.since, (ws id).togo, (ws id).stage, (ws id).level, (ws id).there, (ws id).on, (ws id).held⟩ (v := wtC k 0) rfl (fun c' h1 h2 => by rcases c' with _ | _ | _ | _ | _ | _ | _ | c' <;> first | rfl | omega)
  have e2 := e1.put 1 (by omega) ⟨k.since, k.togo, (ws id).stage, (ws id).level, (ws id).there, (ws id).on, (ws id).held⟩ (v := wtC k 1) rfl (fun c' h1 h2 => by rcases c' with _ | _ | _ | _ | _ | _ | _ | c' <;> first | rfl | omega)
  have e3 := e2.put 2 (by omega) ⟨k.since, k.togo, k.stage, (ws id).level, (ws id).there, (ws id).on, (ws id).held⟩ (v := wtC k 2) rfl (fun c' h1 h2 => by rcases c' with _ | _ | _ | _ | _ | _ | _ | c' <;> first | rfl | omega)
  have e4 := e3.put 3 (by omega) ⟨k.since, k.togo, k.stage, k.level, (ws id).there, (ws id).on, (ws id).held⟩ (v := wtC k 3) rfl (fun c' h1 h2 => by rcases c' with _ | _ | _ | _ | _ | _ | _ | c' <;> first | rfl | omega)
  have e5 := e4.put 4 (by omega) ⟨k.since, k.togo, k.stage, k.level, k.there, (ws id).on, (ws id).held⟩ (v := wtC k 4) rfl (fun c' h1 h2 => by rcases c' with _ | _ | _ | _ | _ | _ | _ | c' <;> first | rfl | omega)
  have e6 := e5.put 5 (by omega) ⟨k.since, k.togo, k.stage, k.level, k.there, k.on, (ws id).held⟩ (v := wtC k 5) rfl (fun c' h1 h2 => by rcases c' with _ | _ | _ | _ | _ | _ | _ | c' <;> first | rfl | omega)
  exact e6.put 6 (by omega) k (v := wtC k 6) rfl (fun c' h1 h2 => by rcases c' with _ | _ | _ | _ | _ | _ | _ | c' <;> first | rfl | omega)
theorem next_all (ps : List (List (Int × Int))) : ∀ i : Nat, i < (stgP ps).length → ∀ y : Int, 0 ≤ y → y < (stgP ps).length → y ∈ (stAt (stgP ps) i).next := by
  intro i hi y h0 h1
  have e : stAt (stgP ps) i = stP ps i := by
    rw [stgP_len] at hi
    unfold stAt stgP
    simp [hi]
  rw [stgP_len] at h1
  rw [e, ← hasI_iff]
  exact hasI_nxP h0 h1
theorem watchedInfo : (Tryz.prog.info? 53).map (fun i => (i.zero, i.size, i.bytes)) = some (some (.agg #[.int .i64 0, .int .i64 0, .int .i64 0, .int .i64 0, .bool false, .bool false, .bool false]), 7, 40) := by kernel_rfl
theorem made_wm (u : World) : WM (u.alloc (.cells (madeCells #[.int .i64 0, .int .i64 0, .int .i64 0, .int .i64 0, .bool false, .bool false, .bool false] 1400) 53)) u.heap.size fun _ => wt0 := by
  refine ⟨_, heap_alloc_new _ _, by simp [madeCells], fun j hj => ?_⟩
  unfold wf wt0
  have h7 : j % 7 < 7 := Nat.mod_lt _ (by omega)
  simp [madeCells, hj]
  rcases (show j % 7 = 0 ∨ j % 7 = 1 ∨ j % 7 = 2 ∨ j % 7 = 3 ∨ j % 7 = 4 ∨ j % 7 = 5 ∨ j % 7 = 6 by omega) with e | e | e | e | e | e | e <;> rw [e] <;> rfl
end Go.Proofs.YtcnmbldikjljeaaGreatDoor
namespace Go.Proofs.YtcnmbldikjljeaaGreatDoor
open Go.RowKit

set_option maxRecDepth 1000000 in
set_option maxHeartbeats 16000000 in
theorem t_close {W wr : World} {own : Nat → Nat} {p c g : Nat} {es : List Ent} {fs : List Int} {ps : List (List (Int × Int))} {oa : Option Addr} {oc : Nat} {vs : Nat → Value × Value} {d : Dk} {ws : Nat → Wt} {ms : List Mv} {ma : Option Addr} {mc : Nat} {i : Nat} (HMV : MV W (.slice ma ms.length mc) ms) (hml : ms.length ≤ 9223372036854775807) (hlt : i < ms.length) (h150 : i < 150) (Q : TY W wr own p c g es fs ps (.slice oa (nP ps) oc) vs d ws (80 * i) i) (hkind : pk ms[i].1 10 = 3) (K : Act → World → Prop) (Q' : Exit → Act → World → Prop)
    {c0 c1 c3 c4 c5 c6 c14 c15 c16 c17 c18 c19 c20 c21 c22 c23 c24 c25 c26 c27 c28 c29 c30 c31 c32 c33 c34 c35 c36 c37 c38 c39 c40 c41 c42 c43 c44 c45 c46 c47 c48 c49 c50 c51 c52 c53 c54 c55 c56 c57 c58 c59 c60 c61 c62 c63 c64 c65 c66 c67 c68 c69 c70 c71 c72 c73 c74 c75 c76 c77 c78 c79 c80 c81 c82 c83 c84 c85 c86 c87 c88 c89 c90 c91 c92 c93 c94 c95 c96 c97 c98 c99 c100 c101 c102 c103 c104 c105 c106 c107 c108 c109 c110 c111 c112 c113 c114 c115 c116 c117 c118 c119 c120 c121 c122 c123 c124 c125 c126 c127 c128 c129 c130 c131 c132 c133 c134 c135 c136 c137 c138 c139 c140 c141 c142 c143 c144 c145 c146 c147 c148 c149 c150 c151 c152 c153 c154 c155 c156 c157 c158 c159 c160 c161 c162 c163 c164 c165 c166 c167 c168 c169 c170 c171 c172 c173 c174 c175 c176 c177 c178 c179 c180 c181 c182 c183 c184 c185 c186 c187 c188 c189 c190 c191 c192 c193 c194 c195 c196 c197 c198 c199 c200 c201 c202 c203 c204 c205 c206 c207 c208 c209 c210 c211 c212 c213 c214 c215 c216 c217 c218 c219 c220 c221 c222 c223 c224 c225 c226 c227 c228 c229 c230 c231 c232 c233 c234 c235 c236 c237 c238 c239 c240 c241 c242 c243 c244 c245 c246 c247 c248 c249 c250 c251 c252 c253 c254 c255 c256 c257 c258 c259 c260 : Value}
    (hend : ∀ (u6 u14 u15 u16 u17 u18 u19 u20 u21 u22 u23 u24 u25 u26 u27 u28 u29 u30 u31 u32 u43 u44 u45 u46 u47 u48 u49 u50 u51 u52 u53 u54 u55 u56 u57 u58 u59 u60 u61 u62 u63 u64 u65 u66 u67 u68 u69 u70 u71 u72 u73 u74 u75 u76 u77 u78 u79 u80 u81 u82 u83 u84 u85 u86 u87 u88 u89 u90 u91 u92 u93 u94 u95 u96 u97 u98 u99 u100 u101 u102 u103 u104 u105 u106 u107 u108 u109 u110 u111 u112 u113 u114 u115 u116 u117 u118 u119 u120 u121 u122 u123 u124 u125 u126 u127 u128 u129 u130 u131 u132 u133 u134 u135 u136 u137 u138 u139 u140 u141 u142 u143 u144 u145 u146 u147 u148 u149 u150 u151 u152 u153 u154 u155 u156 u157 u158 u159 u160 u161 u162 u163 u164 u165 u166 u167 u168 u169 u170 u171 u172 u173 u174 u175 u176 u177 u178 u179 u180 u181 u182 u183 u184 u185 u186 u187 u188 u189 u190 u191 u192 u193 u194 u195 u196 u197 u198 u199 u200 u201 u202 u203 u204 u205 u206 u207 u208 u209 u210 u211 u212 u213 u214 u215 u216 u217 u218 u219 u220 u221 u222 u223 u224 u225 u226 u227 u228 u229 u230 u231 u232 u233 u234 u235 u236 u237 u238 u239 u240 u241 u242 u243 u244 u245 u246 u247 u248 u249 u250 u251 u252 u253 u254 u255 u256 u257 u258 u259 u260 v11 v12 v13 : Value) (own' : Nat → Nat) (d' : Dk) (ws' : Nat → Wt) (wz : World), v11 = .int .i64 d'.made → v12 = .int .i64 d'.told → v13 = .int .i64 ((i + 1 : Nat) : Int) → TY W wz own' p c g es fs ps (.slice oa (nP ps) oc) vs d' ws' (80 * ((i + 1 : Nat) : Int)) ((i + 1 : Nat) : Int) → K ⟨List.toArray (c0 :: c1 :: .slice ma ms.length mc :: c3 :: c4 :: c5 :: u6 :: P0 p :: P0 c :: .slice oa (nP ps) oc :: .slice (some ⟨g, 0, none⟩) 200 200 :: v11 :: v12 :: v13 :: u14 :: u15 :: u16 :: u17 :: u18 :: u19 :: u20 :: u21 :: u22 :: u23 :: u24 :: u25 :: u26 :: u27 :: u28 :: u29 :: u30 :: u31 :: u32 :: c33 :: c34 :: c35 :: c36 :: c37 :: c38 :: c39 :: c40 :: c41 :: c42 :: u43 :: u44 :: u45 :: u46 :: u47 :: u48 :: u49 :: u50 :: u51 :: u52 :: u53 :: u54 :: u55 :: u56 :: u57 :: u58 :: u59 :: u60 :: u61 :: u62 :: u63 :: u64 :: u65 :: u66 :: u67 :: u68 :: u69 :: u70 :: u71 :: u72 :: u73 :: u74 :: u75 :: u76 :: u77 :: u78 :: u79 :: u80 :: u81 :: u82 :: u83 :: u84 :: u85 :: u86 :: u87 :: u88 :: u89 :: u90 :: u91 :: u92 :: u93 :: u94 :: u95 :: u96 :: u97 :: u98 :: u99 :: u100 :: u101 :: u102 :: u103 :: u104 :: u105 :: u106 :: u107 :: u108 :: u109 :: u110 :: u111 :: u112 :: u113 :: u114 :: u115 :: u116 :: u117 :: u118 :: u119 :: u120 :: u121 :: u122 :: u123 :: u124 :: u125 :: u126 :: u127 :: u128 :: u129 :: u130 :: u131 :: u132 :: u133 :: u134 :: u135 :: u136 :: u137 :: u138 :: u139 :: u140 :: u141 :: u142 :: u143 :: u144 :: u145 :: u146 :: u147 :: u148 :: u149 :: u150 :: u151 :: u152 :: u153 :: u154 :: u155 :: u156 :: u157 :: u158 :: u159 :: u160 :: u161 :: u162 :: u163 :: u164 :: u165 :: u166 :: u167 :: u168 :: u169 :: u170 :: u171 :: u172 :: u173 :: u174 :: u175 :: u176 :: u177 :: u178 :: u179 :: u180 :: u181 :: u182 :: u183 :: u184 :: u185 :: u186 :: u187 :: u188 :: u189 :: u190 :: u191 :: u192 :: u193 :: u194 :: u195 :: u196 :: u197 :: u198 :: u199 :: u200 :: u201 :: u202 :: u203 :: u204 :: u205 :: u206 :: u207 :: u208 :: u209 :: u210 :: u211 :: u212 :: u213 :: u214 :: u215 :: u216 :: u217 :: u218 :: u219 :: u220 :: u221 :: u222 :: u223 :: u224 :: u225 :: u226 :: u227 :: u228 :: u229 :: u230 :: u231 :: u232 :: u233 :: u234 :: u235 :: u236 :: u237 :: u238 :: u239 :: u240 :: u241 :: u242 :: u243 :: u244 :: u245 :: u246 :: u247 :: u248 :: u249 :: u250 :: u251 :: u252 :: u253 :: u254 :: u255 :: u256 :: u257 :: u258 :: u259 :: u260 :: []), []⟩ wz) :
    Code.wp Tryz.prog ((Tryz.f7.body.bind firstLoop).getD .skip) (Exit.then K Q') ⟨List.toArray (c0 :: c1 :: .slice ma ms.length mc :: c3 :: c4 :: c5 :: c6 :: P0 p :: P0 c :: .slice oa (nP ps) oc :: .slice (some ⟨g, 0, none⟩) 200 200 :: .int .i64 d.made :: .int .i64 d.told :: .int .i64 i :: c14 :: c15 :: c16 :: c17 :: c18 :: c19 :: c20 :: c21 :: c22 :: c23 :: c24 :: c25 :: c26 :: c27 :: c28 :: c29 :: c30 :: c31 :: c32 :: c33 :: c34 :: c35 :: c36 :: c37 :: c38 :: c39 :: c40 :: c41 :: c42 :: c43 :: c44 :: c45 :: c46 :: c47 :: c48 :: c49 :: c50 :: c51 :: c52 :: c53 :: c54 :: c55 :: c56 :: c57 :: c58 :: c59 :: c60 :: c61 :: c62 :: c63 :: c64 :: c65 :: c66 :: c67 :: c68 :: c69 :: c70 :: c71 :: c72 :: c73 :: c74 :: c75 :: c76 :: c77 :: c78 :: c79 :: c80 :: c81 :: c82 :: c83 :: c84 :: c85 :: c86 :: c87 :: c88 :: c89 :: c90 :: c91 :: c92 :: c93 :: c94 :: c95 :: c96 :: c97 :: c98 :: c99 :: c100 :: c101 :: c102 :: c103 :: c104 :: c105 :: c106 :: c107 :: c108 :: c109 :: c110 :: c111 :: c112 :: c113 :: c114 :: c115 :: c116 :: c117 :: c118 :: c119 :: c120 :: c121 :: c122 :: c123 :: c124 :: c125 :: c126 :: c127 :: c128 :: c129 :: c130 :: c131 :: c132 :: c133 :: c134 :: c135 :: c136 :: c137 :: c138 :: c139 :: c140 :: c141 :: c142 :: c143 :: c144 :: c145 :: c146 :: c147 :: c148 :: c149 :: c150 :: c151 :: c152 :: c153 :: c154 :: c155 :: c156 :: c157 :: c158 :: c159 :: c160 :: c161 :: c162 :: c163 :: c164 :: c165 :: c166 :: c167 :: c168 :: c169 :: c170 :: c171 :: c172 :: c173 :: c174 :: c175 :: c176 :: c177 :: c178 :: c179 :: c180 :: c181 :: c182 :: c183 :: c184 :: c185 :: c186 :: c187 :: c188 :: c189 :: c190 :: c191 :: c192 :: c193 :: c194 :: c195 :: c196 :: c197 :: c198 :: c199 :: c200 :: c201 :: c202 :: c203 :: c204 :: c205 :: c206 :: c207 :: c208 :: c209 :: c210 :: c211 :: c212 :: c213 :: c214 :: c215 :: c216 :: c217 :: c218 :: c219 :: c220 :: c221 :: c222 :: c223 :: c224 :: c225 :: c226 :: c227 :: c228 :: c229 :: c230 :: c231 :: c232 :: c233 :: c234 :: c235 :: c236 :: c237 :: c238 :: c239 :: c240 :: c241 :: c242 :: c243 :: c244 :: c245 :: c246 :: c247 :: c248 :: c249 :: c250 :: c251 :: c252 :: c253 :: c254 :: c255 :: c256 :: c257 :: c258 :: c259 :: c260 :: []), []⟩ wr := by
  conv => arg 2; whnf
  have HE := hide hend
  have HA := hide (And.intro True.intro (And.intro True.intro HMV))
  have HST := hide (stgP_ok ps)
  have hn := nP_bd (ps := ps)
  clear hend HMV
  have hlt' : (i : Int) < ms.length := by omega
  have h150' : (i : Int) < 150 := by omega
  obtain ⟨mb, mo, mc2, hmf⟩ := HA.out.2.2.row.some (by omega) (by omega)
  simp only [Value.slice.injEq] at hmf
  obtain ⟨rfl, _, rfl⟩ := hmf
  obtain ⟨m0, m1, m2⟩ := (HA.out.2.2.on Q.kw.low).at i hlt
  have hr := HA.out.2.2.rng _ (List.getElem_mem hlt)
  generalize ms[i] = mi at *
  obtain ⟨mk, mA, mB⟩ := mi
  simp only at m0 m1 m2 hr hkind
  obtain ⟨hr0, hr1, hr2⟩ := hr
  have hbx : Below wr.heap.size wr (wr.alloc (Obj.cells #[.int .i64 mk, .int .i64 mA, .int .i64 mB] 41)) := (Below.refl _ _).alloc (Nat.le_refl _) _
  have x0 : (wr.alloc (Obj.cells #[.int .i64 mk, .int .i64 mA, .int .i64 mB] 41)).heap[wr.heap.size]? = some (.cells #[.int .i64 mk, .int .i64 mA, .int .i64 mB] 41 (0, 0)) := heap_alloc_new _ _
  have hxo : own wr.heap.size = 0 := Classical.byContradiction fun h => by have := Q.kw.lt _ h; omega
  have HQ := hide (And.intro (Q.below hbx) (And.intro x0 hxo))
  have HC := hide (prgI.now HQ.out.1.pk.psi (by decide) (HQ.out.1.pre (by omega)))
  have dm0 := Q.pk.ok.m0
  have dm1 := Q.md
  have dt0 := Q.pk.ok.t0
  have dt1 := Q.pk.ok.t1
  have dk0 := Q.pk.ok.k0
  have dk1 := Q.pk.ok.k1
  clear Q hbx x0 hxo
  go_wp2_with fail
  refine HC.out.mono ?_
  rintro e w2 ⟨rfl, own2, psi2, k2⟩
  have Q2 := HQ.out.1.call psi2 k2 HQ.out.1.pk.ok HQ.out.1.pk.rs HQ.out.1.wa HQ.out.1.md
  obtain ⟨x2, o2⟩ := k2.at HQ.out.2.1 (by rw [HQ.out.2.2]; decide)
  rw [HQ.out.2.2] at o2
  have hxl : wr.heap.size < w2.heap.size := (Array.getElem?_eq_some_iff.1 x2).1
  have y0 : w2.cell? ⟨wr.heap.size, 0, none⟩ = some (.int .i64 mk) := by simp [World.cell?, x2]
  have y1 : w2.cell? ⟨wr.heap.size, 1, none⟩ = some (.int .i64 mA) := by simp [World.cell?, x2]
  have y2 : w2.cell? ⟨wr.heap.size, 2, none⟩ = some (.int .i64 mB) := by simp [World.cell?, x2]
  have HQ2 := hide (And.intro Q2 (And.intro x2 o2))
  have HPA := hide (fun u => pick_any mA 12 u hr1.1 hr1.2 (by omega) (by omega))
  have HPK := hide (fun u => pick_any mk 10 u hr0.1 hr0.2 (by omega) (by omega))
  have pa0 := pk_lo mA 12 (by omega)
  have pa1 := pk_hi mA 12 (by omega)
  have pk0 := pk_lo mk 10 (by omega)
  have pk1 := pk_hi mk 10 (by omega)
  obtain ⟨id, hid⟩ : ∃ id : Nat, 1 + pk mA 12 = id := ⟨(1 + pk mA 12).toNat, by omega⟩
  have hid1 : id ≤ 12 := by omega
  have hwid : IntKind.i64.wrap (1 + pk mA 12) = id := by rw [IntWalk.i64_in _ (by omega)]; exact hid
  clear Q2 psi2 k2 HQ HC x2 o2 m0 m1 m2
  go_wp2_with fail
  refine (HPA.out _).mono ?_
  rintro e w' ⟨rfl, rfl⟩
  have hid200 : (id : Int) < 200 := by omega
  rw [hkind] at HPK
  clear hkind pk0 pk1
  have Q := HQ2.out.1
  have HC := hide (prgI.close Q.pk.psi (by decide) (Q.pre (by omega)) id)
  obtain ⟨hcl, hwa⟩ := Q.wa.closes Q.pk.psi.inv id
  have hok := close_ok Q.pk.ok id
  have hrs := close_rest Q.pk.rs id
  have hmd : (closeC d id).1.made = d.made ∧ (closeC d id).1.told = d.told ∧ (closeC d id).1.time = d.time := by unfold closeC; split <;> exact ⟨rfl, rfl, rfl⟩
  generalize closeC d id = X at *
  obtain ⟨d', er⟩ := X
  simp only at hcl hwa hok hrs hmd HC
  obtain ⟨hm1, hm2, hm3⟩ := hmd
  have HWA := hide hwa
  have HOK := hide (And.intro hok hrs)
  have HCL := hide hcl
  clear Q hwa hok hrs hcl
  go_wp2_with fail
  refine (HPK.out _).mono ?_
  rintro e w' ⟨rfl, rfl⟩
  go_wp2_with fail
  refine HC.out.mono ?_
  rintro e w3 ⟨rfl, own3, psi3, k3⟩
  have og2 := HQ2.out.1.og
  have M3 := HQ2.out.1.wm.kept k3 (by rw [og2]; decide)
  have z4 : w3.cell? ⟨g, id * 7 + 4, none⟩ = some (.bool (ws id).there) := M3.cell id 4 (by omega) (by omega)
  have z0 : w3.cell? ⟨g, id * 7, none⟩ = some (.int .i64 (ws id).since) := M3.cell id 0 (by omega) (by omega)
  have z1 : w3.cell? ⟨g, id * 7 + 1, none⟩ = some (.int .i64 (ws id).togo) := M3.cell id 1 (by omega) (by omega)
  have z2 : w3.cell? ⟨g, id * 7 + 2, none⟩ = some (.int .i64 (ws id).stage) := M3.cell id 2 (by omega) (by omega)
  have z3 : w3.cell? ⟨g, id * 7 + 3, none⟩ = some (.int .i64 (ws id).level) := M3.cell id 3 (by omega) (by omega)
  have z5 : w3.cell? ⟨g, id * 7 + 5, none⟩ = some (.bool (ws id).on) := M3.cell id 5 (by omega) (by omega)
  have z6 : w3.cell? ⟨g, id * 7 + 6, none⟩ = some (.bool (ws id).held) := M3.cell id 6 (by omega) (by omega)
  have f0 := M3.frz (id * 7)
  have f1 := M3.frz (id * 7 + 1)
  have f2 := M3.frz (id * 7 + 2)
  have f3 := M3.frz (id * 7 + 3)
  have f4 := M3.frz (id * 7 + 4)
  have f5 := M3.frz (id * 7 + 5)
  have f6 := M3.frz (id * 7 + 6)
  have heq : (er == 0) = (ws id).there := by
    cases hh : (ws id).there with
    | true => simpa using HCL.out.2 hh
    | false => simpa using fun e => by rw [HCL.out.1 e] at hh; cases hh
  rw [← heq] at z4
  have HM3 := hide (And.intro M3 (And.intro psi3 k3))
  clear M3 psi3 k3 HC
  go_wp2_with fail
  have hk : KeptS own3 own3 (fun x => x = 3) w3 w3 := .of_below (Below.refl _ _) (HM3.out.2.2.bound)
  have hog3 := HQ2.out.1.g3 HM3.out.2.2
  refine HE.out _ _ _ _ _ _ _ _ _ _ _ _ _ _ _ _ _ _ _ _ _ _ _ _ _ _ _ _ _ _ _ _ _ _ _ _ _ _ _ _ _ _ _ _ _ _ _ _ _ _ _ _ _ _ _ _ _ _ _ _ _ _ _ _ _ _ _ _ _ _ _ _ _ _ _ _ _ _ _ _ _ _ _ _ _ _ _ _ _ _ _ _ _ _ _ _ _ _ _ _ _ _ _ _ _ _ _ _ _ _ _ _ _ _ _ _ _ _ _ _ _ _ _ _ _ _ _ _ _ _ _ _ _ _ _ _ _ _ _ _ _ _ _ _ _ _ _ _ _ _ _ _ _ _ _ _ _ _ _ _ _ _ _ _ _ _ _ _ _ _ _ _ _ _ _ _ _ _ _ _ _ _ _ _ _ _ _ _ _ _ _ _ _ _ _ _ _ _ _ _ _ _ _ _ _ _ _ _ _ _ _ _ _ _ _ _ _ _ _ _ _ _ _ _ _ _ _ _ _ _ _ _ _ _ _ _ _ _ _ _ _ own3 d' (upd ws id wt0) _ ?_ ?_ ?_ ?_
  · exact by rw [hm1]
  · exact by rw [hm2]
  · exact by go_num
  · refine HQ2.out.1.both HM3.out.2.1 HM3.out.2.2 (HOK.out.1.mono (by omega)) HOK.out.2 (by omega) ?_ (HM3.out.1.whole wt0) (by rw [hm3]; exact HWA.out)
    exact ((((((hk.setG (.inl hog3)).setG (.inl hog3)).setG (.inl hog3)).setG (.inl hog3)).setG (.inl hog3)).setG (.inl hog3)).setG (.inl hog3)
end Go.Proofs.YtcnmbldikjljeaaGreatDoor
