import Derived.Test.YtcnmbldikjljeaaGreatDoorT22
import Derived.Deep.RegionHeld3
import Derived.Test.YtcnmbldikjljeaaGreatDoorT19
import Derived.Test.YtcnmbldikjljeaaGreatDoorT20
import Derived.Test.YtcnmbldikjljeaaGreatDoorT21
import Derived.Test.YtcnmbldikjljeaaGreatDoorT08
import Derived.Test.YtcnmbldikjljeaaGreatDoorT13
import Derived.Test.YtcnmbldikjljeaaGreatDoorT10
import Derived.Test.YtcnmbldikjljeaaGreatDoorT15
import Derived.Test.YtcnmbldikjljeaaGreatDoorT01
import Derived.Test.YtcnmbldikjljeaaGreatDoorT12
namespace Go.Proofs.YtcnmbldikjljeaaGreatDoor
open Go.RowKit

section
variable {w : World} {sv : Value} {st : List Stg} {vs : Nat → Value × Value}
set_option maxRecDepth 100000 in
set_option maxHeartbeats 1000000 in
theorem newNil_any (a : Option Addr) (n cap : Nat) : Calls Tryz.prog 35 #[.pointer none, .slice a n cap] w fun e w' => e = .returned (.tuple #[.pointer none, .int .i64 1]) ∧ Below w.heap.size w w' := by
  go_enter Tryz.func35, Tryz.ntmps35
  go_wp2_with fail
  go_ret2
  exact ⟨rfl, Below.refl _ _⟩
set_option maxRecDepth 100000 in
set_option maxHeartbeats 1000000 in
theorem newNo_any (c : Nat) (S : SL w sv st vs) (hck : checkL st = false) : Calls Tryz.prog 35 #[P0 c, sv] w fun e w' => e = .returned (.tuple #[.pointer none, .int .i64 4]) ∧ Below w.heap.size w w' := by
  have HC := hide (check_any S)
  rw [hck] at HC
  obtain ⟨sa, scap, hsv⟩ := S.row.any
  subst hsv
  clear S hck
  go_enter Tryz.func35, Tryz.ntmps35
  go_wp2_with fail
  refine HC.out.mono ?_
  rintro e u ⟨rfl, hb⟩
  have HB := hide hb
  clear hb
  go_wp2_with fail
  go_ret2
  exact ⟨rfl, HB.out⟩
theorem rangeAt_on {w u : World} {c : Nat} {cs : List Value} (h : w.rangeAt c 0 cs) (hb : Below w.heap.size w u) : u.rangeAt c 0 cs := fun j v hv => by
  have h1 := h j v hv
  exact (hb.cell (p := ⟨c, 0 + j, none⟩) (World.block_lt_of_cell? _ _ h1)).trans h1
theorem calInfo : (Tryz.prog.info? 105).map (·.size) = some 77 := by kernel_rfl
set_option maxRecDepth 100000 in
set_option maxHeartbeats 4000000 in
theorem newOk_any (c : Nat) (cs : List Value) (hl : cs.length = 77) (S : SL w sv st vs) (hck : checkL st = true) (hr : w.rangeAt c 0 cs) :
    Calls Tryz.prog 35 #[P0 c, sv] w fun e w' => ∃ p g ls, e = .returned (.tuple #[P0 p, .int .i64 0]) ∧ w.heap.size ≤ p ∧ w'.heap[p]? = some (.cells (.int .i32 0 :: ((.int .u32 0 :: cs) ++ [.slice (some ⟨g, 0, none⟩) st.length st.length, .int .i64 0, .int .i64 0, .slice none 0 0, .int .i64 0])).toArray 113 (0, 0)) ∧ CY w g st w' ls st.length (fS ls st st.length) := by
  have HC := hide (check_any S)
  rw [hck] at HC
  obtain ⟨sa, scap, hsv⟩ := S.row.any
  subst hsv
  have HS := hide S
  have HR := hide hr
  clear S hr
  go_enter Tryz.func35, Tryz.ntmps35
  go_wp2_with fail
  refine HC.out.mono ?_
  rintro e u ⟨rfl, hb⟩
  have HB := hide hb
  have HCP := hide (fun (z : World) (hz : Below u.heap.size u z) => copyStages_any ((HS.out.on hb).on hz) hck)
  have HLD := hide (fun (z : World) (hz : Below u.heap.size u z) => run_loadAt_mid (P := Tryz.prog) z c 0 105 cs _ (rangeAt_on (rangeAt_on HR.out hb) hz) Tryz.underlying105 rfl (by rw [calInfo, hl]))
  have hru := rangeAt_on HR.out hb
  clear hb HS HR HLD
  go_wp2_with fail
  refine wp_region_held_drew (S := fun z => z.rangeAt c 0 cs) (by kernel_rfl) (by simpa using hru) (fun hHeld => ?_)
  refine wpAnyH_take (i := 0) (v := P0 c) rfl (by kernel_rfl) (by kernel_rfl) (by kernel_rfl) (fun _ _ _ h => h) (Or.inl ⟨by rfl, fun z hz => by go_simp⟩) hHeld ?_
  simp only [Act.put, List.setIfInBounds_toArray]
  refine wpAnyH_take (i := 1) (v := P0 c) rfl (by kernel_rfl) (by kernel_rfl) (by kernel_rfl) (fun _ _ _ h => h) (Or.inl ⟨by rfl, fun z hz => by go_simp⟩) hHeld ?_
  simp only [Act.put]
  refine wpAnyH_take (i := 2) (v := .agg cs.toArray) rfl (by kernel_rfl) (by kernel_rfl) (by kernel_rfl) (fun _ _ _ h => h) (yieldsIf_load_mid (by rfl) _ _ rfl c 0 rfl cs _ (fun z hz => hz) Tryz.underlying105 rfl (by rw [calInfo, hl])) hHeld ?_
  simp only [Act.put]
  refine wpAnyH_take (i := 3) (v := .slice sa st.length scap) rfl (by kernel_rfl) (by kernel_rfl) (by kernel_rfl) (fun _ _ _ h => h) (Or.inl ⟨by rfl, fun z hz => by go_simp⟩) hHeld ?_
  simp only [Act.put]
  refine wpAnyH_ready (rs := [4]) (by kernel_rfl) (by simp) ?_
  refine AllReadyH.cons rfl (fun K hK => ?_) AllReadyH.nil
  go_simp
  refine (HCP.out _ (Below.refl _ _).drew).mono ?_
  rintro e w' ⟨g, ls, rfl, C⟩
  have hbu : Below u.heap.size u w' := (Below.refl _ _).drew.trans C.below
  refine hK.out _ _ (rangeAt_on hru hbu) (fun hHeld2 => ?_)
  clear hK K
  have hbd := fun z => run_buildD cs hl (some ⟨g, 0, none⟩) st.length st.length z
  refine wpAnyH_take (i := 5) (v := _) rfl (by kernel_rfl) (by kernel_rfl) (by kernel_rfl) (fun _ _ _ h => h) (Or.inl ⟨by rfl, fun z hz => by have h9 := hbd z; simp [execOp, h9, Act.eval]; rfl⟩) hHeld2 ?_
  simp only [Act.put, List.setIfInBounds_toArray]
  refine wpAnyH_ready (rs := [6]) (by kernel_rfl) (by simp) ?_
  refine AllReadyH.cons rfl (fun K hK => ?_) AllReadyH.nil
  go_simp
  have hr3 := World.rangeAt_alloc (rangeAt_on hru hbu) (Obj.cells (Value.int IntKind.i32 0 :: Value.int IntKind.u32 0 :: (cs ++ [Value.slice (some ⟨g, 0, none⟩) st.length st.length, Value.int IntKind.i64 0, Value.int IntKind.i64 0, Value.slice none 0 0, Value.int IntKind.i64 0])).toArray 113)
  refine hK.out _ _ hr3 (fun hHeld3 => ?_)
  clear hK K hr3
  refine wpAnyH_take (i := 7) (v := P0 w'.heap.size) rfl (by kernel_rfl) (by kernel_rfl) (by kernel_rfl) (fun _ _ _ h => h) (Or.inl ⟨by rfl, fun z hz => by go_simp⟩) hHeld3 ?_
  simp only [Act.put, List.setIfInBounds_toArray]
  refine wpAnyH_take (i := 8) (v := .int .i64 0) rfl (by kernel_rfl) (by kernel_rfl) (by kernel_rfl) (fun _ _ _ h => h) (Or.inl ⟨by rfl, fun z hz => by go_simp⟩) hHeld3 ?_
  simp only [Act.put]
  refine wpAnyH_done (by kernel_rfl) ?_ _
  simp only [List.getElem_toArray, List.getElem_cons_succ, List.getElem_cons_zero, List.set_cons_zero, List.set_cons_succ]
  go_wp2_with fail
  go_ret2
  have hsz := hbu.size
  have hsz2 := HB.out.size
  refine ⟨w'.heap.size, g, ls, rfl, by omega, heap_alloc_new _ _, ?_⟩
  have C1 := C.on ((Below.refl _ _).alloc (Nat.le_refl _) (Obj.cells (Value.int IntKind.i32 0 :: Value.int IntKind.u32 0 :: (cs ++ [Value.slice (some ⟨g, 0, none⟩) st.length st.length, Value.int IntKind.i64 0, Value.int IntKind.i64 0, Value.slice none 0 0, Value.int IntKind.i64 0])).toArray 113))
  have hlo := C.lo
  have hud : u.drew.heap.size = u.heap.size := rfl
  refine ⟨HB.out.trans (((Below.refl u.heap.size u).drew.trans C1.below).mono hsz2), by omega, C1.blk, fun j hj => row_mono (C1.lev j hj) (by omega)⟩
end
end Go.Proofs.YtcnmbldikjljeaaGreatDoor
namespace Go.Proofs.YtcnmbldikjljeaaGreatDoor
open Go.RowKit

section
variable {w : World} {p : Nat} {K : Kf} {F : Nat → Bool} {st : List Stg} {lv : Value} {d : Dk} {N : Int}
theorem open_any' (R : PD w p K F st 0 lv d) (ok : DkOk F st d 4611686018427387000) (hs : StOk st) (stage : Int) :
    Calls Tryz.prog 17 #[P0 p, .int .i64 stage] w fun e w' => e = .returned (.tuple #[.int .i64 (openC F st d stage).2.1, .int .i64 (openC F st d stage).2.2]) ∧ ∃ lv', PD w' p K F st 0 lv' (openC F st d stage).1 ∧ Frm p lv lv' w w' := by
  unfold openC
  by_cases h : 0 ≤ stage ∧ stage < st.length
  · rw [if_neg (by omega)]
    by_cases hf : 20 ≤ d.cases.length
    · rw [if_pos hf]
      refine (open_full R stage h hf).mono ?_
      rintro e w' ⟨rfl, h1, h2⟩
      exact ⟨rfl, lv, h1, h2⟩
    · rw [if_neg hf]
      exact open_yes R ok hs stage h (by omega)
  · rw [if_pos h]
    refine (open_no R stage h).mono ?_
    rintro e w' ⟨rfl, h1, h2⟩
    exact ⟨rfl, lv, h1, h2⟩
end
/-- a calendar's cells -/
def calC (V : Nat → Value) (fr : Nat → Bool) : List Value := (List.range 7).map V ++ (List.range 70).map fun j => .bool (fr j)
theorem calC_len (V : Nat → Value) (fr : Nat → Bool) : (calC V fr).length = 77 := by simp [calC]
theorem calC_week (V : Nat → Value) (fr : Nat → Bool) (j : Nat) (hj : j < 7) : (calC V fr)[j]? = some (V j) := by
  unfold calC
  rw [List.getElem?_append_left (by simpa using hj)]
  simp [hj]
theorem calC_free (V : Nat → Value) (fr : Nat → Bool) (j : Nat) (hj : j < 70) : (calC V fr)[7 + j]? = some (.bool (fr j)) := by
  unfold calC
  rw [List.getElem?_append_right (by simp)]
  simp [hj]
/-- a new docket of the program's -/
theorem PSi.new {own : Nat → Nat} {w w' : World} {t p g : Nat} {st : List Stg} {ls : Nat → Value} {V : Nat → Value} {jk wk : Nat → List (Int × Int)} {fr F : Nat → Bool} (ht : t ≠ 0) (hl : ∀ k, own k ≠ 0 → k < w.heap.size)
    (hrow : ∀ j, j < 7 → (roW own w).ownsRow 0 140 2 (V j) (jk j).length (flat (jk j))) (hjoin : ∀ j, j < 7 → JoinOf (wk j) (jk j)) (hfew : ∀ j, (wk j).length ≤ 1000) (hF : ∀ x : Int, 0 ≤ x → x < 100800 → openL wk fr x = F x.toNat)
    (hp : w.heap.size ≤ p) (hblk : w'.heap[p]? = some (.cells (.int .i32 0 :: ((.int .u32 0 :: calC V fr) ++ [.slice (some ⟨g, 0, none⟩) st.length st.length, .int .i64 0, .int .i64 0, .slice none 0 0, .int .i64 0])).toArray 113 (0, 0))) (C : CY w g st w' ls st.length (fS ls st st.length)) (hn : st.length ≤ 6) :
    PSi (tagOf own (some p) t) w' t p F st ⟨0, 0, 0, []⟩ ∧ Kept own (tagOf own (some p) t) t w w' := by
  have hb := C.below
  have hpl : p < w'.heap.size := (Array.getElem?_eq_some_iff.1 hblk).1
  have hk : Kept own (tagOf own (some p) t) t w w' := by
    refine ⟨hb.os, hb.tape, hb.output, hb.size, fun k hk _ => hb.block k hk, fun k hk => ?_, fun k hk h0 => ?_, tagOf_nt⟩
    · unfold tagOf; rw [if_neg (by simp; omega)]
    · unfold tagOf at h0
      split at h0
      · rename_i e
        obtain rfl : k = p := by simpa using e
        exact hpl
      · exact absurd (hl k h0) (by omega)
  have hz : ∀ {e : TypeId} {base size n : Nat} {v : Value} {xs : List Value}, e ≠ 113 → (∀ k, v.ownBlock = some k → w.heap.size ≤ k) → w'.ownsRow base e size v n xs → ∀ k, v.ownBlock = some k → tagOf own (some p) t k = 0 := by
    intro e base size n v xs he hlo hr k hkk
    have h1 := hlo k hkk
    unfold tagOf
    rw [if_neg]
    · exact Classical.byContradiction fun h => by have := hl k h; omega
    · intro e'
      obtain rfl : k = p := by simpa using e'
      rcases hr.2 with ⟨hv, _⟩ | ⟨q, cap, cur, hv, _, hq, _⟩
      · rw [hv] at hkk; simp [Value.ownBlock] at hkk
      · rw [hv] at hkk
        obtain rfl : q = k := by simpa [Value.ownBlock] using hkk
        rw [hblk] at hq
        cases hq
        exact he rfl
  have hsr : w'.ownsRow 0 131 7 (.slice (some ⟨g, 0, none⟩) st.length st.length) st.length (sgCells ls st) := C.blk.row rfl (Nat.le_refl _) (by unfold maxLen; omega) (Nat.zero_le _) (by unfold sgCells; rw [sgCells_len]) (fun j v hv => fS_cells ls st j v hv)
  refine ⟨⟨⟨.int .u32 0 :: calC V fr, V, jk, wk, fr, .slice (some ⟨g, 0, none⟩) st.length st.length, ls⟩, .slice none 0 0, ⟨by simp [calC_len], fun j hj => ?_, fun j hj => ?_, hjoin, hfew, hF⟩, hblk, World.ownsRow_nil _ _ _ _, by unfold tagOf; rw [if_pos rfl], fun k hk' => by simp [Value.ownBlock] at hk', fun j hj => calRow_kept (hrow j hj) hk (Ne.symm ht), ⟨?_, fun i hi h0 => ?_, fun i hi => ?_⟩, InvD.empty⟩, hk⟩
  · rw [Nat.add_comm 1 j, List.getElem?_cons_succ]; exact calC_week V fr j hj
  · rw [show 8 + j = (7 + j) + 1 by omega, List.getElem?_cons_succ]; exact calC_free V fr j hj
  · exact row_ro hsr (hz (by decide) (fun k hk' => by simp [Value.ownBlock] at hk'; have := C.lo; omega) hsr)
  · exact row_ro (row_mono (C.lev i hi) (Nat.zero_le _)) (hz (by decide) (fun k hk' => ((C.lev i hi).lt k hk').1) (C.lev i hi))
  · exact row_any (C.lev i hi)
theorem prgI : Prg PSi where
  kept := fun ⟨K, lv, h⟩ k hs ht => ⟨K, lv, h.kept k hs ht⟩
  tag := fun ⟨K, lv, h⟩ => ⟨h.tg, h.pd.pr.lt⟩
  open_ := fun ⟨K, lv, h⟩ ht Q stage => by
    refine (open_any' h.pd Q.ok Q.stok stage).mono ?_
    rintro e w' ⟨rfl, lv', R, f⟩
    exact ⟨rfl, h.step ht Q.lt R f (open_inv h.inv Q.ok Q.stok stage)⟩
  move := fun ⟨K, lv, h⟩ ht Q id stage => by
    refine (move_any h.pd Q.ok Q.rest Q.stok Q.n6 id stage).mono ?_
    rintro e w' ⟨rfl, R, f⟩
    exact ⟨rfl, h.step ht Q.lt R f (move_inv h.inv Q.ok Q.stok id stage)⟩
  close := fun ⟨K, lv, h⟩ ht Q id => by
    refine (close_any h.pd Q.ok id).mono ?_
    rintro e w' ⟨rfl, lv', R, f⟩
    exact ⟨rfl, h.step ht Q.lt R f (close_inv h.inv id)⟩
  hold := fun ⟨K, lv, h⟩ ht Q id => by
    refine (hold_any h.pd Q.ok h.inv id).mono ?_
    rintro e w' ⟨rfl, R, f⟩
    exact ⟨rfl, h.step ht Q.lt R f (hold_inv h.inv id)⟩
  resume := fun ⟨K, lv, h⟩ ht Q id => by
    refine (resume_any h.pd Q.ok Q.rest id).mono ?_
    rintro e w' ⟨rfl, R, f⟩
    exact ⟨rfl, h.step ht Q.lt R f (resume_inv h.inv Q.ok id)⟩
  case_ := fun ⟨K, lv, h⟩ ht Q id => by
    refine (case_any h.pd Q.ok id).mono ?_
    rintro e w' ⟨rfl, R, f⟩
    exact ⟨rfl, h.step ht Q.lt R f h.inv⟩
  now := fun ⟨K, lv, h⟩ ht Q => by
    refine (now_any h.pd).mono ?_
    rintro e w' ⟨rfl, R, f⟩
    exact ⟨rfl, h.step ht Q.lt R f h.inv⟩
  tick := fun ⟨K, lv, h⟩ ht Q n => by
    refine (tick_any h.pd Q.ok Q.rest h.inv Q.stok n).mono ?_
    rintro e w' ⟨ov, rfl, ho, hn, R, f⟩
    exact ⟨ov, rfl, ho, hn, h.step8 ht Q.lt R f (tick_inv h.inv Q.ok Q.stok n) ho⟩
  agenda := fun ⟨K, lv, h⟩ ht Q => by
    refine (agenda_any h.pd Q.ok.len h.inv.ids).mono ?_
    rintro e w' ⟨ov, rfl, ho, R, f⟩
    exact ⟨ov, rfl, ho, h.step8 ht Q.lt R f h.inv ho⟩
  check := fun S => check_any S.sl
  newNil := fun S => by
    obtain ⟨a, cap, h⟩ := row_any S.row
    rw [h]
    exact newNil_any a _ cap
  newNo := fun c S hck => newNo_any c S.sl hck
  newOk := fun {own w sv st vs c wk fr F} S C hfew hF hck _ hl t ht => by
    obtain ⟨jk, M, hj⟩ := C
    have hV : ∀ j, ∃ v, j < 7 → (roW own w).cell? ⟨c, j, none⟩ = some v ∧ (roW own w).ownsRow 0 140 2 v (jk j).length (flat (jk j)) := fun j => by
      by_cases h : j < 7
      · obtain ⟨v, h1, h2⟩ := M.week j h
        exact ⟨v, fun _ => ⟨h1, h2⟩⟩
      · exact ⟨.slice none 0 0, fun h' => absurd h' h⟩
    obtain ⟨V, hV⟩ := Classical.axiomOfChoice hV
    have hn : st.length ≤ 6 := by
      simp only [checkL, Bool.and_eq_true, decide_eq_true_eq] at hck
      exact hck.1.2
    have hr : w.rangeAt c 0 (calC V fr) := fun j v hv => by
      have hlt := (List.getElem?_eq_some_iff.1 hv).1
      rw [calC_len] at hlt
      rw [Nat.zero_add]
      by_cases h : j < 7
      · rw [calC_week V fr j h] at hv
        cases hv
        exact (ro_cell (hV j h).1).2
      · have e := calC_free V fr (j - 7) (by omega)
        rw [show 7 + (j - 7) = j by omega] at e
        rw [e] at hv
        cases hv
        have := M.free (j - 7) (by omega)
        rw [show 7 + (j - 7) = j by omega] at this
        exact (ro_cell this).2
    refine (newOk_any c (calC V fr) (calC_len V fr) S.sl hck hr).mono ?_
    rintro e w' ⟨p, g, ls, rfl, hp, hblk, CY⟩
    obtain ⟨h1, h2⟩ := PSi.new ht hl (fun j hj => (hV j hj).2) hj hfew hF hp hblk CY hn
    exact ⟨p, _, rfl, hp, h1, h2⟩
end Go.Proofs.YtcnmbldikjljeaaGreatDoor
namespace Go.Proofs.YtcnmbldikjljeaaGreatDoor
open Go.RowKit

def moB : ByteArray := ⟨#[77, 111, 32, 48, 57, 58, 48, 48, 45, 49, 48, 58, 48, 48]⟩
theorem mo_ok : (parseL moB).1 = true := by kernel_rfl
theorem mo_540 : openL (parseL moB).2.week (parseL moB).2.free 540 = true := by kernel_rfl
theorem mo_600 : openL (parseL moB).2.week (parseL moB).2.free 600 = false := by kernel_rfl

set_option maxRecDepth 100000 in
set_option maxHeartbeats 1000000 in
theorem reads_any (w : World) (h0 : 0 < w.heap.size) (hnm : ∀ j, j < 7 → w.cell? ⟨0, j, none⟩ = some (nmV j)) :
    Calls Tryz.prog 64 #[] w fun e w' => e = .returned (.bool true) ∧ Below w.heap.size w w' := by
  have HNM := hide hnm
  clear hnm
  go_enter Tryz.func64, Tryz.ntmps64
  go_wp2_with fail
  refine (parse_any moB w h0 HNM.out (by decide)).mono ?_
  rintro e w1 ⟨hb1, ⟨_, g, hg, rfl, C⟩ | ⟨hno, _⟩⟩
  · go_wp2_with fail
    refine (open_any g _ _ _ _ C (by omega) (by omega) (parse_len moB (by decide) mo_ok)).mono ?_
    rw [mo_540]
    rintro e w2 ⟨rfl, hb2⟩
    go_wp2_with fail
    refine (open_any g _ _ _ _ (C.on hb2) (by omega) (by omega) (parse_len moB (by decide) mo_ok)).mono ?_
    rw [mo_600]
    rintro e w3 ⟨rfl, hb3⟩
    go_wp2_with fail
    go_ret
    exact ⟨rfl, hb1.trans ((hb2.mono hb1.size).trans (hb3.mono (Nat.le_trans hb1.size hb2.size)))⟩
  · rw [mo_ok] at hno; cases hno

end Go.Proofs.YtcnmbldikjljeaaGreatDoor
namespace Go.Proofs.YtcnmbldikjljeaaGreatDoor
open Go.RowKit

/-- a Week in memory -/
structure WK (w : World) (es : List Ent) (fs : List Int) (ae af : Option Addr) : Prop where
  E : ∀ i e, es[i]? = some e → ∃ b off, ae = some ⟨b, off, none⟩ ∧ b < w.heap.size ∧ w.cell? ⟨b, off + i * 3, none⟩ = some (.int .i64 e.1) ∧ w.cell? ⟨b, off + i * 3 + 1, none⟩ = some (.int .i64 e.2.1) ∧ w.cell? ⟨b, off + i * 3 + 2, none⟩ = some (.int .i64 e.2.2) ∧ inR e.1 ∧ inR e.2.1 ∧ inR e.2.2
  F : ∀ i x, fs[i]? = some x → ∃ b off, af = some ⟨b, off, none⟩ ∧ b < w.heap.size ∧ w.cell? ⟨b, off + i, none⟩ = some (.int .i64 x) ∧ inR x
  le : es.length ≤ 9223372036854775807
  lf : fs.length ≤ 9223372036854775807
theorem WK.on {w w' : World} {es : List Ent} {fs : List Int} {ae af : Option Addr} (h : WK w es fs ae af) (hb : Below w.heap.size w w') : WK w' es fs ae af := by
  refine ⟨fun i e he => ?_, fun i x hx => ?_, h.le, h.lf⟩
  · obtain ⟨b, off, h1, h2, h3, h4, h5, h6⟩ := h.E i e he
    exact ⟨b, off, h1, Nat.lt_of_lt_of_le h2 hb.size, (hb.cell (p := ⟨b, off + i * 3, none⟩) h2).trans h3, (hb.cell (p := ⟨b, off + i * 3 + 1, none⟩) h2).trans h4, (hb.cell (p := ⟨b, off + i * 3 + 2, none⟩) h2).trans h5, h6⟩
  · obtain ⟨b, off, h1, h2, h3, h4⟩ := h.F i x hx
    exact ⟨b, off, h1, Nat.lt_of_lt_of_le h2 hb.size, (hb.cell (p := ⟨b, off + i, none⟩) h2).trans h3, h4⟩
theorem nm_on {w w' : World} (h0 : 0 < w.heap.size) (hnm : ∀ j, j < 7 → w.cell? ⟨0, j, none⟩ = some (nmV j)) (hb : Below w.heap.size w w') : ∀ j, j < 7 → w'.cell? ⟨0, j, none⟩ = some (nmV j) :=
  fun j hj => (hb.cell (p := ⟨0, j, none⟩) h0).trans (hnm j hj)

abbrev txtB (es : List Ent) (fs : List Int) : ByteArray := ⟨(theTxt es fs).toArray⟩

/-- what read answers, and leaves -/
structure RP (es : List Ent) (fs : List Int) (w : World) (e : Ending) (w' : World) (g X : Nat) : Prop where
  eq : e = .returned (.tuple #[P0 g, .slice (some ⟨X + 1, 0, none⟩) 672 672, .slice (some ⟨X + 2, 0, none⟩) 70 70])
  below : Below w.heap.size w w'
  hX : w.heap.size ≤ X
  hX2 : X + 2 < w'.heap.size
  cal : CalW w' g (parseL (txtB es fs)).2.week (parseL (txtB es fs)).2.free
  wk : ∀ j, j < 672 → w'.cell? ⟨X + 1, j, none⟩ = some (.bool (theWk es j))
  off : ∀ j, j < 70 → w'.cell? ⟨X + 2, j, none⟩ = some (.bool (theOff fs j))

set_option maxRecDepth 100000 in
set_option maxHeartbeats 1000000 in
theorem read_any (es : List Ent) (fs : List Int) (ae af : Option Addr) (ce cf : Nat) (w : World) (h0 : 0 < w.heap.size) (hnm : ∀ j, j < 7 → w.cell? ⟨0, j, none⟩ = some (nmV j)) (K : WK w es fs ae af)
    (hok : (parseL (txtB es fs)).1 = true) (hsz : (theTxt es fs).length ≤ 200) :
    Calls Tryz.prog 33 #[.agg #[.slice ae es.length ce, .slice af fs.length cf]] w fun e w' => ∃ g X, RP es fs w e w' g X := by
  have HNM := hide hnm
  have HOK := hide hok
  clear hnm hok
  have hbA : Below w.heap.size w (w.alloc (Obj.cells #[.slice ae es.length ce, .slice af fs.length cf] 28)) := (Below.refl _ _).alloc (Nat.le_refl _) _
  go_enter Tryz.func33, Tryz.ntmps33
  go_wp2_with fail
  refine (reads_any _ (by simp) (nm_on h0 HNM.out hbA)).mono ?_
  rintro e w1 ⟨rfl, hb1⟩
  have c0 : w1.cell? ⟨w.heap.size, 0, none⟩ = some (.slice ae es.length ce) := (hb1.cell (p := ⟨w.heap.size, 0, none⟩) (by simp)).trans (World.cell?_alloc_at _ _ _ _ rfl)
  have c1 : w1.cell? ⟨w.heap.size, 1, none⟩ = some (.slice af fs.length cf) := (hb1.cell (p := ⟨w.heap.size, 1, none⟩) (by simp)).trans (World.cell?_alloc_at _ _ _ _ rfl)
  have hb01 : Below w.heap.size w w1 := hbA.trans (hb1.mono (by simp))
  have K1 := K.on hb01
  go_wp2_with fail
  refine (text_any es fs ae af ce cf _ K1.E K1.F K1.lf K1.le).mono ?_
  rintro e w2 ⟨rfl, T⟩
  have hb12 : Below w1.heap.size w1 w2 := T.below
  have hb02 : Below w.heap.size w w2 := hb01.trans (hb12.mono hb01.size)
  go_wp2_with fail
  refine (parse_any (txtB es fs) w2 (by have := hb02.size; omega) (nm_on h0 HNM.out hb02) (by show (theTxt es fs).toArray.size ≤ 200; simpa using hsz)).mono ?_
  rintro e w3 ⟨hb3, ⟨_, g, hg, rfl, C⟩ | ⟨hno, _⟩⟩
  · have hsz3 := hb3.size
    have hTs := T.size
    go_wp2_with fail
    go_ret3
    exact ⟨g, w1.heap.size, rfl, hb02.trans (hb3.mono hb02.size), hb01.size, by omega, C,
      fun j hj => (hb3.cell (p := ⟨w1.heap.size + 1, j, none⟩) (by simp; omega)).trans (T.wk j hj),
      fun j hj => (hb3.cell (p := ⟨w1.heap.size + 2, j, none⟩) (by simp; omega)).trans (T.ok j hj)⟩
  · rw [HOK.out] at hno; cases hno

end Go.Proofs.YtcnmbldikjljeaaGreatDoor
namespace Go.Proofs.YtcnmbldikjljeaaGreatDoor
open Go.RowKit

/-- the minutes of a calendar, by their numbers -/
def FF (raw : Nat → List (Int × Int)) (fr : Nat → Bool) (m : Nat) : Bool := openL raw fr m
theorem ff_eq (raw : Nat → List (Int × Int)) (fr : Nat → Bool) (t : Int) (h0 : 0 ≤ t) (_h1 : t < 100800) : openL raw fr t = FF raw fr t.toNat := by
  unfold FF; rw [show ((t.toNat : Nat) : Int) = t by omega]
theorem mo_week : (parseL moB).2.week 0 = [(540, 600)] := by kernel_rfl
theorem mo_free : (parseL moB).2.free 0 = false := by kernel_rfl
theorem mo_at (m : Nat) (h : m < 1440) : FF (parseL moB).2.week (parseL moB).2.free m = decide (540 ≤ m ∧ m < 600) := by
  unfold FF openL
  rw [show ((m : Int) / 1440).toNat = 0 by omega, show ((m : Int) / 1440 % 7).toNat = 0 by omega, mo_free, mo_week, show (m : Int) % 1440 = m by omega]
  rw [Bool.eq_iff_iff]
  simp [hitL]
  omega
theorem mo_cnt (y : Int) (h0 : 0 ≤ y) (h1 : y ≤ 1440) : cnt (FF (parseL moB).2.week (parseL moB).2.free) y.toNat = if y ≤ 540 then 0 else if y ≤ 600 then y - 540 else 60 := by
  have hat := mo_at
  generalize FF (parseL moB).2.week (parseL moB).2.free = F at *
  have z : cnt F (0 : Int).toNat = 0 := rfl
  have run1 : ∀ c : Int, 0 ≤ c → c ≤ 540 → cnt F c.toNat - cnt F (0 : Int).toNat = 0 := fun c c0 c1 => by
    rw [cnt_run F 0 c false (Int.le_refl _) c0 (fun m g0 g1 => by rw [hat _ (by omega)]; simp; omega)]; rfl
  have run2 : ∀ c : Int, 540 ≤ c → c ≤ 600 → cnt F c.toNat - cnt F (540 : Int).toNat = c - 540 := fun c c0 c1 => by
    rw [cnt_run F 540 c true (by omega) c0 (fun m g0 g1 => by rw [hat _ (by omega)]; simp; omega)]; rfl
  have run3 : ∀ c : Int, 600 ≤ c → c ≤ 1440 → cnt F c.toNat - cnt F (600 : Int).toNat = 0 := fun c c0 c1 => by
    rw [cnt_run F 600 c false (by omega) c0 (fun m g0 g1 => by rw [hat _ (by omega)]; simp; omega)]; rfl
  have r1 := run1 540 (by omega) (by omega)
  have r2 := run2 600 (by omega) (by omega)
  by_cases a : y ≤ 540
  · rw [if_pos a]; have := run1 y h0 a; omega
  · rw [if_neg a]
    by_cases b : y ≤ 600
    · rw [if_pos b]; have := run2 y (by omega) b; omega
    · rw [if_neg b]; have := run3 y (by omega) h1; omega
theorem mo_add : AddN (FF (parseL moB).2.week (parseL moB).2.free) 0 60 600 := by
  refine ⟨by omega, by omega, ?_, fun y y0 y1 => ?_⟩
  · rw [mo_cnt 600 (by omega) (by omega), mo_cnt 0 (by omega) (by omega)]; rfl
  · rw [mo_cnt y (by omega) (by omega), mo_cnt 0 (by omega) (by omega)]
    split <;> simp <;> omega
theorem mo_btw : cnt (FF (parseL moB).2.week (parseL moB).2.free) (1000 : Int).toNat - cnt (FF (parseL moB).2.week (parseL moB).2.free) (0 : Int).toNat = 60 := by
  rw [mo_cnt 1000 (by omega) (by omega), mo_cnt 0 (by omega) (by omega)]; rfl
set_option maxRecDepth 100000 in
set_option maxHeartbeats 1000000 in
theorem reckons_any (w : World) (h0 : 0 < w.heap.size) (hnm : ∀ j, j < 7 → w.cell? ⟨0, j, none⟩ = some (nmV j)) :
    Calls Tryz.prog 62 #[] w fun e w' => e = .returned (.bool true) ∧ Below w.heap.size w w' := by
  have HNM := hide hnm
  clear hnm
  go_enter Tryz.func62, Tryz.ntmps62
  go_wp2_with fail
  refine (reads_any w h0 HNM.out).mono ?_
  rintro e w0 ⟨rfl, hb0⟩
  go_wp2_with fail
  refine (parse_any moB w0 (by have := hb0.size; omega) (nm_on h0 HNM.out hb0) (by decide)).mono ?_
  rintro e w1 ⟨hb1, ⟨_, g, hg, rfl, C⟩ | ⟨hno, _⟩⟩
  · have hb01 := hb0.trans (hb1.mono hb0.size)
    go_wp2_with fail
    refine (between_any g _ _ (FF (parseL moB).2.week (parseL moB).2.free) 0 1000 w1 C (parse_len moB (by decide) mo_ok) (ff_eq _ _) (by omega) (by omega) (by omega)).mono ?_
    rw [mo_btw]
    rintro e w2 ⟨rfl, hb2⟩
    have hb02 := hb01.trans (hb2.mono hb01.size)
    go_wp2_with fail
    refine (add_any g _ _ (FF (parseL moB).2.week (parseL moB).2.free) 0 60 w2 (C.on hb2) (parse_len moB (by decide) mo_ok) (ff_eq _ _) (by omega) (by omega) (by omega) (by omega)).mono ?_
    rintro e w3 ⟨⟨x, hx, rfl⟩ | ⟨hx, _⟩, hb3⟩
    · obtain rfl := addN_uniq hx mo_add
      have HB := hide (hb02.trans (hb3.mono hb02.size))
      clear hx
      go_wp2_with fail
      go_ret
      exact ⟨rfl, HB.out⟩
    · exact (addN_never mo_add hx).elim
  · rw [mo_ok] at hno; cases hno
end Go.Proofs.YtcnmbldikjljeaaGreatDoor
namespace Go.Proofs.YtcnmbldikjljeaaGreatDoor
open Go.RowKit

set_option maxRecDepth 100000 in
set_option maxHeartbeats 1000000 in
theorem readF_any (es : List Ent) (fs : List Int) (ae af : Option Addr) (ce cf : Nat) (w : World) (h0 : 0 < w.heap.size) (hnm : ∀ j, j < 7 → w.cell? ⟨0, j, none⟩ = some (nmV j)) (K : WK w es fs ae af)
    (hok : (parseL (txtB es fs)).1 = true) (hsz : (theTxt es fs).length ≤ 200) :
    Calls Tryz.prog 33 #[.agg #[.slice ae es.length ce, .slice af fs.length cf]] w fun e w' => ∃ g X, e = .returned (.tuple #[P0 g, .slice (some ⟨X + 1, 0, none⟩) 672 672, .slice (some ⟨X + 2, 0, none⟩) 70 70]) ∧ Below w.heap.size w w' ∧ w.heap.size ≤ g ∧ CalF w' g (parseL (txtB es fs)).2.week (parseL (txtB es fs)).2.free := by
  have HNM := hide hnm
  have HOK := hide hok
  clear hnm hok
  have hbA : Below w.heap.size w (w.alloc (Obj.cells #[.slice ae es.length ce, .slice af fs.length cf] 28)) := (Below.refl _ _).alloc (Nat.le_refl _) _
  go_enter Tryz.func33, Tryz.ntmps33
  go_wp2_with fail
  refine (reads_any _ (by simp) (nm_on h0 HNM.out hbA)).mono ?_
  rintro e w1 ⟨rfl, hb1⟩
  have c0 : w1.cell? ⟨w.heap.size, 0, none⟩ = some (.slice ae es.length ce) := (hb1.cell (p := ⟨w.heap.size, 0, none⟩) (by simp)).trans (World.cell?_alloc_at _ _ _ _ rfl)
  have c1 : w1.cell? ⟨w.heap.size, 1, none⟩ = some (.slice af fs.length cf) := (hb1.cell (p := ⟨w.heap.size, 1, none⟩) (by simp)).trans (World.cell?_alloc_at _ _ _ _ rfl)
  have hb01 : Below w.heap.size w w1 := hbA.trans (hb1.mono (by simp))
  have K1 := K.on hb01
  go_wp2_with fail
  refine (text_any es fs ae af ce cf _ K1.E K1.F K1.lf K1.le).mono ?_
  rintro e w2 ⟨rfl, T⟩
  have hb12 : Below w1.heap.size w1 w2 := T.below
  have hb02 : Below w.heap.size w w2 := hb01.trans (hb12.mono hb01.size)
  go_wp2_with fail
  refine (parseF_any (txtB es fs) w2 (by have := hb02.size; omega) (nm_on h0 HNM.out hb02) (by show (theTxt es fs).toArray.size ≤ 200; simpa using hsz)).mono ?_
  rintro e w3 ⟨hb3, ⟨_, g, hg, rfl, C⟩ | ⟨hno, _⟩⟩
  · have hs2 := hb02.size
    go_wp2_with fail
    go_ret3
    exact ⟨g, w1.heap.size, rfl, hb02.trans (hb3.mono hb02.size), by omega, C⟩
  · rw [HOK.out] at hno; cases hno
/-! works -/
def st0 : List Stg := [⟨[(30, 7)], []⟩]
abbrev F0 : Nat → Bool := FF (parseL moB).2.week (parseL moB).2.free
theorem mo_add30 : AddN F0 0 30 570 := by
  refine ⟨by omega, by omega, ?_, fun y y0 y1 => ?_⟩
  · rw [mo_cnt 570 (by omega) (by omega), mo_cnt 0 (by omega) (by omega)]; rfl
  · rw [mo_cnt y (by omega) (by omega), mo_cnt 0 (by omega) (by omega)]
    split <;> simp <;> omega
theorem st0_check : checkL st0 = true := by decide
theorem st0_rm : Rm st0 := ⟨by decide, fun i hi => by
    have : i = 0 := by simp [st0] at hi; omega
    subst this; decide, fun i hi => by
    have : i = 0 := by simp [st0] at hi; omega
    subst this; decide⟩
def d1 : Dk := ⟨0, 1, 0, [⟨1, 0, 0, 570, false, 0⟩]⟩
theorem open0 : openC F0 st0 ⟨0, 0, 0, []⟩ 0 = (d1, 1, 0) := by
  unfold openC
  rw [if_neg (by simp [st0]), if_neg (by simp)]
  unfold comesL armsL
  rw [if_neg (by simp [st0, stAt])]
  have e : (lvAt (stAt st0 0) 0).1 = 30 := by rfl
  rw [e, addO_of (by omega) mo_add30]
  rfl
theorem tick0 : tickC F0 st0 d1 1000 = (⟨1000, 1, 1, [⟨1, 0, 0, -1, false, 0⟩]⟩, [⟨1, 570, 1, 0, 0, 7⟩], 0) := by
  have e1 : comesL F0 st0 ⟨1, 0, 0, 570, false, 0⟩ 1 570 = ⟨1, 0, 0, -1, false, 0⟩ := by
    unfold comesL
    rw [if_pos (by simp [st0, stAt])]
  have hs : StOk st0 := (check_stok st0_check (fun i hi => by
    have : i = 0 := by simp [st0] at hi; omega
    subst this; decide)).1
  have hok : ∀ x ∈ d1.cases, CsOk st0 x := fun x hx => by
    simp only [d1, List.mem_singleton] at hx
    subst hx
    exact ⟨by decide, by decide, by decide, by decide, by decide, by decide, fun _ => by decide, by decide, by decide⟩
  have m := tick_more (F := F0) (T := 1000) (k := 0) (l := d1.cases) hs hok (i := 0) rfl (by decide)
  have e2 : d1.cases.set 0 (comesL F0 st0 (csAt d1.cases (0 : Nat)) ((csAt d1.cases (0 : Nat)).level + 1) (csAt d1.cases (0 : Nat)).due) = [⟨1, 0, 0, -1, false, 0⟩] := by
    rw [show comesL F0 st0 (csAt d1.cases (0 : Nat)) ((csAt d1.cases (0 : Nat)).level + 1) (csAt d1.cases (0 : Nat)).due = ⟨1, 0, 0, -1, false, 0⟩ from e1]
    rfl
  rw [e2, tick_done (l := [(⟨1, 0, 0, -1, false, 0⟩ : Cs)]) (.inl (by decide))] at m
  have e5 : tickC F0 st0 d1 1000 = (⟨1000, 1, (tickGo F0 st0 1000 (leftL st0 d1.cases) d1.cases 0).2.2, (tickGo F0 st0 1000 (leftL st0 d1.cases) d1.cases 0).2.1⟩, (tickGo F0 st0 1000 (leftL st0 d1.cases) d1.cases 0).1, 0) := by
    unfold tickC
    rw [if_neg (by simp [d1])]
    rfl
  rw [e5, m]
  rfl
end Go.Proofs.YtcnmbldikjljeaaGreatDoor
