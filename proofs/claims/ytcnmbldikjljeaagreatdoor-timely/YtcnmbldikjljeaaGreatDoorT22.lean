import Derived.Test.YtcnmbldikjljeaaGreatDoorT21
import Derived.Test.YtcnmbldikjljeaaGreatDoorT16
import Derived.Deep.MidRow
import Derived.Test.YtcnmbldikjljeaaGreatDoorT09
import Derived.Test.YtcnmbldikjljeaaGreatDoorT18
namespace Go.Proofs.YtcnmbldikjljeaaGreatDoor
open Go.RowKit

def zS (c : Nat) : Value := if c = 0 then .slice none 0 0 else .bool false
/-- a stage's cell -/
def cS (ls : Nat → Value) (st : List Stg) (j c : Nat) : Value := if c = 0 then ls j else .bool (hasI (stAt st j).next ((c - 1 : Nat) : Int))
/-- i stages are copied; of the next one its levels, and m of its nexts -/
def fS (ls : Nat → Value) (st : List Stg) (i : Nat) (x : Nat) : Value := if x / 7 < i then cS ls st (x / 7) (x % 7) else zS (x % 7)
def fT (ls : Nat → Value) (st : List Stg) (i m : Nat) (x : Nat) : Value := if x / 7 < i then cS ls st (x / 7) (x % 7) else if x / 7 = i then (if x % 7 = 0 then ls i else .bool (hasI ((stAt st i).next.take m) ((x % 7 - 1 : Nat) : Int))) else zS (x % 7)
theorem fT_zero (ls : Nat → Value) (st : List Stg) (i : Nat) (v : Value) (x : Nat) : (if x = i * 7 then v else fS ls st i x) = fT (fun j => if j = i then v else ls j) st i 0 x := by
  unfold fT fS
  by_cases h1 : x / 7 < i
  · rw [if_neg (show ¬ x = i * 7 by omega), if_pos h1, if_pos h1]
    unfold cS
    dsimp only
    rw [if_neg (show ¬ x / 7 = i by omega)]
  · rw [if_neg h1, if_neg h1]
    by_cases h2 : x / 7 = i
    · rw [if_pos h2]
      dsimp only
      rw [if_pos (rfl : i = i)]
      by_cases h3 : x % 7 = 0
      · rw [if_pos (show x = i * 7 by omega), if_pos h3]
      · rw [if_neg (show ¬ x = i * 7 by omega), if_neg h3]
        unfold zS
        rw [if_neg h3]
        rfl
    · rw [if_neg (show ¬ x = i * 7 by omega), if_neg h2]
theorem fT_succ (ls : Nat → Value) (st : List Stg) (i m k : Nat) (hm : m < (stAt st i).next.length) (hk : (stAt st i).next[m] = (k : Int)) (h6 : k < 6) (x : Nat) : (if x = i * 7 + 1 + k then .bool true else fT ls st i m x) = fT ls st i (m + 1) x := by
  unfold fT
  by_cases h1 : x / 7 < i
  · rw [if_neg (by omega), if_pos h1, if_pos h1]
  · rw [if_neg h1, if_neg h1]
    by_cases h2 : x / 7 = i
    · rw [if_pos h2, if_pos h2]
      by_cases h3 : x % 7 = 0
      · rw [if_neg (by omega), if_pos h3, if_pos h3]
      · rw [if_neg h3, if_neg h3, List.take_succ_eq_append_getElem hm, hasI_snoc, hk]
        by_cases h4 : x = i * 7 + 1 + k
        · rw [if_pos h4, show x % 7 - 1 = k by omega]; simp
        · rw [if_neg h4, show ((k : Int) == ((x % 7 - 1 : Nat) : Int)) = false by simp; omega, Bool.or_false]
    · rw [if_neg (by omega), if_neg h2, if_neg h2]
theorem fT_done (ls : Nat → Value) (st : List Stg) (i m : Nat) (hm : (stAt st i).next.length ≤ m) (x : Nat) : fT ls st i m x = fS ls st (i + 1) x := by
  unfold fT fS
  by_cases h1 : x / 7 < i
  · rw [if_pos h1, if_pos (show x / 7 < i + 1 by omega)]
  · rw [if_neg h1]
    by_cases h2 : x / 7 = i
    · rw [if_pos h2, if_pos (show x / 7 < i + 1 by omega), h2, List.take_of_length_le hm]
      rfl
    · rw [if_neg h2, if_neg (show ¬ x / 7 < i + 1 by omega)]
theorem fS_cells (ls : Nat → Value) (st : List Stg) (j : Nat) (v : Value) (h : (sgCells ls st)[j]? = some v) : fS ls st st.length j = v := by
  have hl : j < st.length * 7 := by
    have := (List.getElem?_eq_some_iff.1 h).1
    unfold sgCells at this
    rwa [sgCells_len] at this
  have hj : j = j / 7 * 7 + j % 7 := by omega
  have hi : j / 7 < st.length := by omega
  unfold fS cS
  rw [if_pos hi]
  by_cases h0 : j % 7 = 0
  · rw [if_pos h0]
    have := sgCells_lev ls st (j / 7) hi
    rw [show j / 7 * 7 = j by omega, h] at this
    exact (Option.some.inj this).symm
  · rw [if_neg h0]
    have := sgCells_bit ls st (j / 7) hi (j % 7 - 1) (by omega)
    rw [show j / 7 * 7 + 1 + (j % 7 - 1) = j by omega, h] at this
    exact (Option.some.inj this).symm
/-- copyStages' loop -/
structure CY (w : World) (g : Nat) (st : List Stg) (wr : World) (ls : Nat → Value) (i : Nat) (f : Nat → Value) : Prop where
  below : Below w.heap.size w wr
  lo : w.heap.size ≤ g
  blk : BK wr g 131 (st.length * 7) f
  lev : ∀ j, j < i → wr.ownsRow w.heap.size 127 2 (ls j) (stAt st j).levels.length (flat (stAt st j).levels)
section
variable {w wr u : World} {g i : Nat} {st : List Stg} {ls : Nat → Value} {f f' : Nat → Value}
theorem CY.on (h : CY w g st wr ls i f) (hb : Below wr.heap.size wr u) : CY w g st u ls i f :=
  ⟨h.below.trans (hb.mono h.below.size), h.lo, h.blk.on hb, fun j hj => row_on (h.lev j hj) hb⟩
theorem CY.set (h : CY w g st wr ls i f) (j : Nat) (v : Value) (hf : ∀ x, (if x = j then v else f x) = f' x) : CY w g st (wr.setCell ⟨g, j, none⟩ v) ls i f' := by
  refine ⟨h.below.setCell h.lo _, h.lo, (h.blk.set j v).congr (fun x _ => hf x), fun k hk => ?_⟩
  obtain ⟨cur, h1, _⟩ := h.blk
  exact row_left (h.lev k hk) (b := g) ⟨rfl, rfl, rfl, by simp, fun q _ hne => Below.heap_setCell _ _ _ q (fun e => hne (by rw [e]))⟩ h1 (by decide)
theorem CY.more {v : Value} (h : CY w g st wr ls i f) (hb : Below wr.heap.size wr u) (hr : u.ownsRow wr.heap.size 127 2 v (stAt st i).levels.length (flat (stAt st i).levels)) : CY w g st u (fun j => if j = i then v else ls j) (i + 1) f := by
  have h1 := h.on hb
  refine ⟨h1.below, h1.lo, h1.blk, fun j hj => ?_⟩
  by_cases e : j = i
  · subst e
    rw [if_pos rfl]
    exact row_mono hr h.below.size
  · rw [if_neg e]
    exact h1.lev j (by omega)
end
set_option maxRecDepth 100000 in
set_option maxHeartbeats 8000000 in
theorem copyStages_any {w : World} {sv : Value} {st : List Stg} {vs : Nat → Value × Value} (S : SL w sv st vs) (hck : checkL st = true) :
    Calls Tryz.prog 67 #[sv] w fun e w' => ∃ g ls, e = .returned (.slice (some ⟨g, 0, none⟩) st.length st.length) ∧ CY w g st w' ls st.length (fS ls st st.length) := by
  have hck2 := hck
  simp only [checkL, Bool.and_eq_true, decide_eq_true_eq, List.all_eq_true] at hck2
  obtain ⟨⟨hc1, hc6⟩, hc3⟩ := hck2
  have HG : Hid (∀ i : Nat, i < st.length → (stAt st i).levels.length ≤ 4 ∧ ∀ y ∈ (stAt st i).next, 0 ≤ y ∧ y < st.length) := fun i hi => by
    have := hc3 (stAt st i) (by simp [stAt, hi])
    simp only [stgOk, Bool.and_eq_true, decide_eq_true_eq, List.all_eq_true] at this
    exact ⟨this.1.1, this.2⟩
  clear hck hc3
  obtain ⟨i0, hi0, hz0, hz1, hz2⟩ := info_parts stageInfoP
  have hmk : ∀ u : World, (Instr.makeSlice 106 (.int .i64 st.length) (.int .i64 st.length)).run Tryz.prog u = .ok (.slice (some ⟨u.heap.size, 0, none⟩) st.length st.length) (u.alloc (.cells (madeCells #[.slice none 0 0, .bool false, .bool false, .bool false, .bool false, .bool false, .bool false] (st.length * 7)) 131)) := fun u => by
    have hr := run_make (P := Tryz.prog) u 106 131 i0 _ Tryz.underlying106 hi0 hz0 .i64 .i64 (st.length : Int) (st.length : Int) (by omega) (Int.le_refl _) (by rw [hz2]; omega) (by omega)
    rw [hr, hz1, Int.toNat_natCast]
    rfl
  have C0 : CY w w.heap.size st (w.alloc (.cells (madeCells #[.slice none 0 0, .bool false, .bool false, .bool false, .bool false, .bool false, .bool false] (st.length * 7)) 131)) (fun _ => .slice none 0 0) 0 (fS (fun _ => .slice none 0 0) st 0) := by
    refine ⟨(Below.refl _ _).alloc (Nat.le_refl _) _, Nat.le_refl _, ⟨_, heap_alloc_new _ _, by simp [madeCells], fun j hj => ?_⟩, fun j hj => by omega⟩
    unfold fS zS
    rw [if_neg (by omega)]
    have h7 : j % 7 < 7 := Nat.mod_lt _ (by omega)
    simp [madeCells, hj]
    rcases (show j % 7 = 0 ∨ j % 7 = 1 ∨ j % 7 = 2 ∨ j % 7 = 3 ∨ j % 7 = 4 ∨ j % 7 = 5 ∨ j % 7 = 6 by omega) with e | e | e | e | e | e | e <;> rw [e] <;> rfl
  obtain ⟨q, qo, cap, hq⟩ := S.row.some (by omega) (by omega)
  subst hq
  have HS := hide S
  have HC0 := hide C0
  have hc6' : (st.length : Int) ≤ 6 := by omega
  clear S C0 hi0 hz0 hz1 hz2
  go_enter Tryz.func67, Tryz.ntmps67
  go_wp2_with fail
  generalize w.alloc (.cells (madeCells #[.slice none 0 0, .bool false, .bool false, .bool false, .bool false, .bool false, .bool false] (st.length * 7)) 131) = W0 at *
  obtain ⟨g, hg⟩ : ∃ g, g = w.heap.size := ⟨_, rfl⟩
  rw [← hg]
  rw [show CY w w.heap.size st = CY w g st by rw [hg]] at HC0
  clear hmk hg
  go_loopw [13] (fun iv wr => ∃ (i : Nat) (ls : Nat → Value), iv = .int .i64 i ∧ i ≤ st.length ∧ CY w g st wr ls i (fS ls st i)) (fun iv _ => st.length - (intOf iv).toNat)
  case atStart => exact ⟨0, _, rfl, Nat.zero_le _, HC0.out⟩
  case round =>
    clear HC0
    obtain ⟨i, ls, rfl, hi, C⟩ := hrel
    have hsz := C.below.size
    by_cases hlt : i < st.length
    · have hlt' : (i : Int) < st.length := by omega
      have S' := HS.out.on C.below
      have l0 := S'.row.cell (i * 2) _ (stCells_at vs st.length i hlt).1
      have l1 := S'.row.cell (i * 2 + 1) _ (stCells_at vs st.length i hlt).2
      rw [← Nat.add_assoc] at l1
      obtain ⟨la, lcap, hla⟩ := (S'.lev i hlt).any
      obtain ⟨na, ncap, hna⟩ := (S'.nxt i hlt).any
      have hgd := HG.out i hlt
      have HCL := hide (fun (z : World) (hb : Below wr.heap.size wr z) => clone_any ((S'.lev i hlt).on hb) hgd.1)
      have hnm : (stAt st i).next.length ≤ 9223372036854775807 := by have := (S'.nxt i hlt).max; simp only [maxLen] at this; omega
      rw [hla] at l0 HCL
      rw [hna] at l1
      have HC := hide C
      have HNA := hide hna
      have HGD := hide hgd.2
      have hgl := C.blk.lt
      clear S' C hla hna hgd
      have hnx' : (wr.alloc (Obj.cells #[.slice la (stAt st i).levels.length lcap, .slice na (stAt st i).next.length ncap] 125)).cell? ⟨wr.heap.size, 1, none⟩ = some (.slice na (stAt st i).next.length ncap) := by rw [World.cell?_alloc_at _ _ _ _ rfl]; rfl
      have HX := hide hnx'
      clear hnx'
      go_wp2_with fail
      refine (HCL.out _ ((Below.refl _ _).alloc (Nat.le_refl _) _)).mono ?_
      rintro e u1 ⟨r, rfl, hrow, hb⟩
      have hbu : Below wr.heap.size wr u1 := ((Below.refl _ _).alloc (Nat.le_refl _) _).trans (hb.mono (by simp))
      obtain ⟨ra, rc, hr⟩ := row_any hrow
      subst hr
      have C1 := HC.out.more hbu (row_mono hrow (by simp))
      have hgi : i * 7 < st.length * 7 := by omega
      have cg := C1.blk.cell (i * 7) hgi
      have fg := C1.blk.frz (i * 7)
      have HC2 := hide (C1.set (i * 7) (.slice ra (stAt st i).levels.length rc) (fun x => fT_zero ls st i _ x))
      have y1 : u1.cell? ⟨wr.heap.size, 1, none⟩ = some (.slice na (stAt st i).next.length ncap) := (hb.cell (p := ⟨wr.heap.size, 1, none⟩) (by simp)).trans HX.out
      have ngw : g ≠ wr.heap.size := by omega
      have ngw' : wr.heap.size ≠ g := by omega
      clear hrow hb hbu C1 HC HCL HX l0 l1
      generalize (fun j => if j = i then Value.slice ra (stAt st i).levels.length rc else ls j) = ls' at *
      generalize (stAt st i).levels.length = nl at *
      generalize fS ls st i (i * 7) = vz at *
      go_wp2_with fail
      generalize u1.setCell ⟨g, i * 7, none⟩ (.slice ra nl rc) = W1 at *
      clear cg fg y1
      generalize wr.heap.size = bB at *
      go_loopw [28] (fun kv wz => ∃ m : Nat, kv = .int .i64 m ∧ m ≤ (stAt st i).next.length ∧ CY w g st wz ls' (i + 1) (fT ls' st i m)) (fun kv _ => (stAt st i).next.length - (intOf kv).toNat)
      case atStart => exact ⟨0, rfl, Nat.zero_le _, HC2.out⟩
      case round =>
        clear HC2
        obtain ⟨m, rfl, hm, C⟩ := hrel
        by_cases hml : m < (stAt st i).next.length
        · have hml' : (m : Int) < (stAt st i).next.length := by omega
          have hx := HGD.out _ (List.getElem_mem hml)
          obtain ⟨k, hk⟩ : ∃ k : Nat, (stAt st i).next[m] = k := ⟨((stAt st i).next[m]).toNat, by omega⟩
          rw [hk] at hx
          have hk6 : k < 6 := by omega
          have hk6' : (k : Int) < 6 := by omega
          have hrow := (HS.out.on C.below).nxt i hlt
          rw [HNA.out] at hrow
          obtain ⟨nq, no, nc, hnq⟩ := hrow.some (by omega) (by omega)
          simp only [Value.slice.injEq] at hnq
          obtain ⟨rfl, _, rfl⟩ := hnq
          have e0 := hrow.cell (m * 1) _ (intCells_at _ m hml)
          rw [Nat.mul_one, hk] at e0
          have hgi : i * 7 + 1 + k < st.length * 7 := by omega
          have cg := C.blk.cell (i * 7 + 1 + k) hgi
          have fg := C.blk.frz (i * 7 + 1 + k)
          have HC3 := hide (C.set (i * 7 + 1 + k) (.bool true) (fun x => fT_succ ls' st i m k hml hk hk6 x))
          generalize fT ls' st i m (i * 7 + 1 + k) = vz2 at *
          clear hrow C hk hx
          go_wp2_with fail
          go_roundw
          case rel => exact ⟨m + 1, by go_num, by omega, HC3.out⟩
          case measure => simp [intOf]; omega
        · have hml' : ¬ (m : Int) < (stAt st i).next.length := by omega
          have HC4 : Hid (CY w g st wr ls' (i + 1) (fS ls' st (i + 1))) := ⟨C.below, C.lo, C.blk.congr (fun x _ => fT_done ls' st i m (by omega) x), C.lev⟩
          clear C
          go_wp2_with fail
          go_roundw
          case rel => exact ⟨i + 1, ls', by go_num, by omega, HC4.out⟩
          case measure => simp [intOf]; omega
    · clear HG
      obtain rfl : i = st.length := by omega
      have HC := hide C
      clear C
      go_wp2_with fail
      go_ret
      exact ⟨g, ls, rfl, HC.out⟩
end Go.Proofs.YtcnmbldikjljeaaGreatDoor
namespace Go.Proofs.YtcnmbldikjljeaaGreatDoor
open Go.RowKit

theorem fold_set (cs : List Value) : ∀ (off k : Nat) (cells : List Value), off + k + cs.length ≤ cells.length → (cs.zipIdx k).foldl (fun a (x : Value × Nat) => a.set (off + x.2) x.1) cells = cells.take (off + k) ++ cs ++ cells.drop (off + k + cs.length) := by
  induction cs with
  | nil => intro off k cells h; simp
  | cons c cs ih =>
    intro off k cells h
    simp only [List.length_cons] at h
    rw [List.zipIdx_cons, List.foldl_cons, ih off (k + 1) _ (by simp; omega)]
    have e1 : (cells.set (off + k) c).take (off + (k + 1)) = cells.take (off + k) ++ [c] := by
      rw [← Nat.add_assoc, List.take_succ_eq_append_getElem (by simp; omega), List.getElem_set_self, List.take_set_of_le (Nat.le_refl _)]
    have e2 : (cells.set (off + k) c).drop (off + (k + 1) + cs.length) = cells.drop (off + k + (cs.length + 1)) := by
      rw [List.drop_set, if_pos (by omega)]
      congr 1
      omega
    simp only [List.length_cons]
    rw [e1, e2]
    simp
theorem fill_arr (cs : List Value) (off : Nat) (cells : List Value) (h : off + cs.length ≤ cells.length) : (cs.toArray.zipIdx.foldl (fun a (x : Value × Nat) => a.setIfInBounds (off + x.2) x.1) cells.toArray) = (cells.take off ++ cs ++ cells.drop (off + cs.length)).toArray := by
  have hf := fold_set cs off 0 cells (by simpa using h)
  simp only [Nat.add_zero] at hf
  rw [← hf]
  have key : ∀ (l : List (Value × Nat)) (c : List Value), l.foldl (fun (a : Array Value) (x : Value × Nat) => a.setIfInBounds (off + x.2) x.1) c.toArray = (l.foldl (fun a (x : Value × Nat) => a.set (off + x.2) x.1) c).toArray := by
    intro l
    induction l with
    | nil => intro c; rfl
    | cons x l ih => intro c; rw [List.foldl_cons, List.foldl_cons, List.setIfInBounds_toArray, ih]
  rw [← key]
  simp
theorem run_buildD (cs : List Value) (hl : cs.length = 77) (a : Option Addr) (n c : Nat) (w : World) : (Instr.build 113 #[(1, .agg cs.toArray), (2, .slice a n c)]).run Tryz.prog w = .ok (.agg (.int .i32 0 :: ((.int .u32 0 :: cs) ++ [.slice a n c, .int .i64 0, .int .i64 0, .slice none 0 0, .int .i64 0])).toArray) w := by
  simp [Instr.build, Tryz.zeroValue113, go_sem]
  have hz : Tryz.zeroCells113 = Tryz.zeroCells113.toList.toArray := by simp
  have hf := fill_arr cs 2 Tryz.zeroCells113.toList (by rw [hl]; decide)
  rw [← hz] at hf
  simp at hf
  have e1 : List.take 2 Tryz.zeroCells113.toList = [.int .i32 0, .int .u32 0] := by kernel_rfl
  have e2 : List.drop (2 + 77) Tryz.zeroCells113.toList = [.slice none 0 0, .int .i64 0, .int .i64 0, .slice none 0 0, .int .i64 0] := by kernel_rfl
  rw [hf, hl, e1, e2]
  have hset : ((([.int .i32 0, .int .u32 0] : List Value) ++ (cs ++ [Value.slice none 0 0, Value.int .i64 0, Value.int .i64 0, Value.slice none 0 0, Value.int .i64 0])).toArray.setIfInBounds 79 (Value.slice a n c)) = (Value.int .i32 0 :: Value.int .u32 0 :: (cs ++ [Value.slice a n c, Value.int .i64 0, Value.int .i64 0, Value.slice none 0 0, Value.int .i64 0])).toArray := by
    rw [List.setIfInBounds_toArray]
    congr 1
    rw [List.cons_append, List.cons_append, List.nil_append, List.set_cons_succ, List.set_cons_succ, List.set_append_right _ _ (by omega), hl]
    rfl
  rw [hset, if_neg (by omega), if_neg (by simp; omega)]
  simp
end Go.Proofs.YtcnmbldikjljeaaGreatDoor
namespace Go.Proofs.YtcnmbldikjljeaaGreatDoor
open Go.RowKit

set_option maxRecDepth 100000 in
set_option maxHeartbeats 4000000 in
theorem checkStage_any (s : Stg) (n : Nat) (lv nv : Value) (w : World) (HL : LR w 2 lv s.levels.length (flat s.levels)) (HN : LR w 1 nv s.next.length (intCells s.next)) :
    Calls Tryz.prog 107 #[.agg #[lv, nv], .int .i64 n] w fun e w' => e = .returned (.bool (stgOk n s)) ∧ Below w.heap.size w w' := by
  obtain ⟨la, lcap, hla⟩ := HL.any
  obtain ⟨na, ncap, hna⟩ := HN.any
  have hlm : s.levels.length ≤ 9223372036854775807 := by have := HL.max; simp only [maxLen] at this; omega
  have hnm : s.next.length ≤ 9223372036854775807 := by have := HN.max; simp only [maxLen] at this; omega
  subst hla hna
  have HLV := hide HL
  have HNX := hide HN
  clear HL HN
  have hb0 : Below w.heap.size w (w.alloc (Obj.cells #[.slice la s.levels.length lcap, .slice na s.next.length ncap] 125)) := (Below.refl _ _).alloc (Nat.le_refl _) _
  have x0 : (w.alloc (Obj.cells #[.slice la s.levels.length lcap, .slice na s.next.length ncap] 125)).cell? ⟨w.heap.size, 0, none⟩ = some (.slice la s.levels.length lcap) := by rw [World.cell?_alloc_at _ _ _ _ rfl]; rfl
  have x1 : (w.alloc (Obj.cells #[.slice la s.levels.length lcap, .slice na s.next.length ncap] 125)).cell? ⟨w.heap.size, 1, none⟩ = some (.slice na s.next.length ncap) := by rw [World.cell?_alloc_at _ _ _ _ rfl]; rfl
  have hz : w.heap.size < (w.alloc (Obj.cells #[.slice la s.levels.length lcap, .slice na s.next.length ncap] 125)).heap.size := by simp
  generalize hr : stgOk n s = r
  have HR := hide hr
  clear hr
  by_cases h4 : s.levels.length ≤ 4
  · have h4' : (s.levels.length : Int) ≤ 4 := by omega
    go_enter Tryz.func107, Tryz.ntmps107
    go_wp2_with fail
    generalize w.alloc (Obj.cells #[.slice la s.levels.length lcap, .slice na s.next.length ncap] 125) = W at *
    have HB0 := hide hb0
    have HX1 := hide x1
    clear hb0
    go_loopw [16] (fun kv wz => ∃ k : Nat, kv = .int .i64 k ∧ k ≤ s.levels.length ∧ Below W.heap.size W wz ∧ Hid (∀ p ∈ s.levels.take k, lvOk p = true)) (fun kv _ => s.levels.length - (intOf kv).toNat)
    case atStart => exact ⟨0, rfl, Nat.zero_le _, Below.refl _ _, fun p hp => by simp at hp⟩
    case round =>
      obtain ⟨k, rfl, hk, hbz, HP⟩ := hrel
      by_cases hkl : k < s.levels.length
      · have hkl' : (k : Int) < s.levels.length := by omega
        obtain ⟨lq, lo, lc, hlq⟩ := HLV.out.some (by omega) (by omega)
        simp only [Value.slice.injEq] at hlq
        obtain ⟨rfl, _, rfl⟩ := hlq
        have hrow := (HLV.out.on HB0.out).on hbz
        have e0 := hrow.cell (k * 2) _ (flat_at s.levels k hkl).1
        have e1 := hrow.cell (k * 2 + 1) _ (flat_at s.levels k hkl).2
        rw [← Nat.add_assoc] at e1
        have HPS := hide (show lvOk s.levels[k] = true → ∀ p ∈ s.levels.take (k + 1), lvOk p = true from fun h p hp => by
          rw [List.take_succ_eq_append_getElem hkl] at hp
          rcases List.mem_append.1 hp with a | a
          · exact HP.out p a
          · rw [List.mem_singleton] at a; subst a; exact h)
        have HNS := hide (show lvOk s.levels[k] = false → r = false from fun h => by
          rw [← HR.out, stgOk_eq, List.all_eq_false.2 ⟨_, List.getElem_mem hkl, by rw [h]; simp⟩, Bool.and_false, Bool.false_and])
        have HC := hide (fun u => checkLevel_any s.levels[k].1 s.levels[k].2 u)
        rw [show (s.levels[k].1, s.levels[k].2) = s.levels[k] from rfl] at HC
        have HBZ := hide hbz
        have hsz := hbz.size
        clear hrow HP hbz
        generalize lvOk s.levels[k] = ok at *
        generalize s.levels[k].1 = x at *
        generalize s.levels[k].2 = y at *
        go_wp2_with fail
        refine (HC.out _).mono ?_
        rintro e u ⟨rfl, hb⟩
        have HB1 := hide (HBZ.out.trans (((Below.refl wr.heap.size wr).alloc (Nat.le_refl _) _ |>.trans (hb.mono (by simp))).mono hsz))
        clear hb HBZ e0 e1
        cases ok
        · have HE := hide (HNS.out rfl)
          go_wp2_with fail
          go_ret
          rw [HE.out]
          exact ⟨rfl, HB0.out.trans (HB1.out.mono HB0.out.size)⟩
        · have HQ := hide (HPS.out rfl)
          go_wp2_with fail
          go_roundw
          case rel => exact ⟨k + 1, by go_num, by omega, HB1.out, HQ⟩
          case measure => simp [intOf]; omega
      · have hkl' : ¬ (k : Int) < s.levels.length := by omega
        have HLO := hide (show s.levels.all lvOk = true from List.all_eq_true.2 fun p hp => HP.out p (by rw [List.take_of_length_le (by omega)]; exact hp))
        have x1' := (hbz.cell (p := ⟨w.heap.size, 1, none⟩) hz).trans x1
        have HB2 := hide (HB0.out.trans (hbz.mono HB0.out.size))
        have HNX2 := hide ((HNX.out.on HB0.out).on hbz)
        clear hbz HNX
        go_wp2_with fail
        obtain ⟨V, rfl⟩ : ∃ V, V = wr := ⟨_, rfl⟩
        go_loopw [27] (fun kv wz => ∃ k : Nat, kv = .int .i64 k ∧ k ≤ s.next.length ∧ wz = V ∧ Hid (∀ p ∈ s.next.take k, nxOk n p = true)) (fun kv _ => s.next.length - (intOf kv).toNat)
        case atStart => exact ⟨0, rfl, Nat.zero_le _, rfl, fun p hp => by simp at hp⟩
        case round =>
          obtain ⟨m, rfl, hm, rfl, HP2⟩ := hrel
          by_cases hml : m < s.next.length
          · have hml' : (m : Int) < s.next.length := by omega
            obtain ⟨lq, lo, lc, hlq⟩ := HNX2.out.some (by omega) (by omega)
            simp only [Value.slice.injEq] at hlq
            obtain ⟨rfl, _, rfl⟩ := hlq
            have e0 := HNX2.out.cell (m * 1) _ (intCells_at s.next m hml)
            rw [Nat.mul_one] at e0
            have HPS := hide (show nxOk n s.next[m] = true → ∀ p ∈ s.next.take (m + 1), nxOk n p = true from fun h p hp => by
              rw [List.take_succ_eq_append_getElem hml] at hp
              rcases List.mem_append.1 hp with a | a
              · exact HP2.out p a
              · rw [List.mem_singleton] at a; subst a; exact h)
            have HNS := hide (show nxOk n s.next[m] = false → r = false from fun h => by
              rw [← HR.out, stgOk_eq, List.all_eq_false.2 ⟨_, List.getElem_mem hml, by rw [h]; simp⟩, Bool.and_false])
            have HC := hide (fun u => isStage_any s.next[m] n u)
            rw [show decide (0 ≤ s.next[m] ∧ s.next[m] < (n : Int)) = nxOk n s.next[m] from rfl] at HC
            generalize nxOk n s.next[m] = ok at *
            generalize s.next[m] = x at *
            go_wp2_with fail
            refine (HC.out _).mono ?_
            rintro e u2 ⟨rfl, rfl⟩
            cases ok
            · have HE := hide (HNS.out rfl)
              go_wp2_with fail
              go_ret
              rw [HE.out]
              exact ⟨rfl, HB2.out⟩
            · have HQ := hide (HPS.out rfl)
              go_wp2_with fail
              go_roundw
              case rel => exact ⟨m + 1, by go_num, by omega, (by trivial), HQ⟩
              case measure => simp [intOf]; omega
          · have hml' : ¬ (m : Int) < s.next.length := by omega
            have HSO := hide (show r = true by
              rw [← HR.out, stgOk_eq, decide_eq_true h4, HLO.out, Bool.true_and, Bool.true_and]
              exact List.all_eq_true.2 fun p hp => HP2.out p (by rw [List.take_of_length_le (by omega)]; exact hp))
            go_wp2_with fail
            go_ret
            rw [HSO.out]
            exact ⟨rfl, HB2.out⟩
  · have h4' : 4 < (s.levels.length : Int) := by omega
    have HE := hide (show r = false by rw [← HR.out]; unfold stgOk; rw [decide_eq_false h4]; rfl)
    have HB0 := hide hb0
    clear hb0
    go_enter Tryz.func107, Tryz.ntmps107
    go_wp2_with fail
    go_ret
    rw [HE.out]
    exact ⟨rfl, HB0.out⟩
section
variable {w : World} {st : List Stg} {sv : Value} {vs : Nat → Value × Value}
set_option maxRecDepth 100000 in
set_option maxHeartbeats 4000000 in
theorem check_any (S : SL w sv st vs) :
    Calls Tryz.prog 66 #[sv] w fun e w' => e = .returned (.int .i64 (if checkL st = true then 0 else 4)) ∧ Below w.heap.size w w' := by
  obtain ⟨sa, scap, hsv⟩ := S.row.any
  subst hsv
  generalize hr : (if checkL st = true then (0 : Int) else 4) = r
  have HT := hide (show checkL st = true → r = 0 from fun h => by rw [← hr, if_pos h])
  have HF := hide (show checkL st = false → r = 4 from fun h => by rw [← hr, h]; rfl)
  clear hr
  by_cases h1 : 1 ≤ st.length ∧ st.length ≤ 6
  · have i1 : (1 : Int) ≤ st.length := by omega
    have i2 : (st.length : Int) ≤ 6 := by omega
    obtain ⟨q, qo, cap, hq⟩ := S.row.some (by omega) (by omega)
    simp only [Value.slice.injEq] at hq
    obtain ⟨rfl, _, rfl⟩ := hq
    have HS := hide S
    clear S
    go_enter Tryz.func66, Tryz.ntmps66
    go_wp2_with fail
    go_loopw [15] (fun iv wr => ∃ i : Nat, iv = .int .i64 i ∧ i ≤ st.length ∧ Below w.heap.size w wr ∧ Hid (∀ j : Nat, j < i → stgOk st.length (stAt st j) = true)) (fun iv _ => st.length - (intOf iv).toNat)
    case atStart => exact ⟨0, rfl, Nat.zero_le _, Below.refl _ _, fun j hj => by omega⟩
    case round =>
      obtain ⟨i, rfl, hi, hb, HJ⟩ := hrel
      by_cases hlt : i < st.length
      · have hlt' : (i : Int) < st.length := by omega
        have S' := HS.out.on hb
        have l0 := S'.row.cell (i * 2) _ (stCells_at vs st.length i hlt).1
        have l1 := S'.row.cell (i * 2 + 1) _ (stCells_at vs st.length i hlt).2
        rw [← Nat.add_assoc] at l1
        have HC := hide (fun u hu => checkStage_any (stAt st i) st.length (vs i).1 (vs i).2 u ((S'.lev i hlt).on hu) ((S'.nxt i hlt).on hu))
        have HNO := hide (fun h => HF.out (check_no i hlt h))
        obtain ⟨la, lcap, hla⟩ := (S'.lev i hlt).any
        obtain ⟨na, ncap, hna⟩ := (S'.nxt i hlt).any
        rw [hla] at l0 HC
        rw [hna] at l1 HC
        have HYES := hide (show stgOk st.length (stAt st i) = true → ∀ j : Nat, j < i + 1 → stgOk st.length (stAt st j) = true from fun h j hj => by
          by_cases e : j = i
          · subst e; exact h
          · exact HJ.out j (by omega))
        generalize stgOk st.length (stAt st i) = ok at *
        generalize (stAt st i).levels.length = n1 at *
        generalize (stAt st i).next.length = n2 at *
        have HB := hide hb
        have hsz := hb.size
        clear S' hla hna hb HJ
        go_wp2_with fail
        refine (HC.out _ ((Below.refl _ _).alloc (Nat.le_refl _) _)).mono ?_
        rintro e u ⟨rfl, hb⟩
        have HB1 := hide (HB.out.trans (((Below.refl wr.heap.size wr).alloc (Nat.le_refl _) _ |>.trans (hb.mono (by simp))).mono hsz))
        clear hb HB l0 l1 HC
        cases ok
        · have HE := hide (HNO.out rfl)
          go_wp2_with fail
          go_ret
          rw [HE.out]
          exact ⟨rfl, HB1.out⟩
        · have HQ := hide (HYES.out rfl)
          go_wp2_with fail
          go_roundw
          case rel => exact ⟨i + 1, by go_num, by omega, HB1.out, HQ⟩
          case measure => simp [intOf]; omega
      · have HE := hide (HT.out <| check_yes h1 (fun j hj => HJ.out j (by omega)))
        have HB := hide hb
        clear hb
        go_wp2_with fail
        go_ret
        rw [HE.out]
        exact ⟨rfl, HB.out⟩
  · have HE := hide (HF.out (show checkL st = false by unfold checkL; rw [decide_eq_false h1]; rfl))
    clear S
    by_cases h2 : 1 ≤ st.length
    · have i1 : (1 : Int) ≤ st.length := by omega
      have i2 : (6 : Int) < st.length := by omega
      go_enter Tryz.func66, Tryz.ntmps66
      go_wp2_with fail
      go_ret
      rw [HE.out]
      exact ⟨rfl, Below.refl _ _⟩
    · have i1 : (st.length : Int) < 1 := by omega
      go_enter Tryz.func66, Tryz.ntmps66
      go_wp2_with fail
      go_ret
      rw [HE.out]
      exact ⟨rfl, Below.refl _ _⟩
end
end Go.Proofs.YtcnmbldikjljeaaGreatDoor
