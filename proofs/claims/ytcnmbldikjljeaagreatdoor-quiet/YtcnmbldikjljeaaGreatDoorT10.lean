import Derived.Test.YtcnmbldikjljeaaGreatDoorT09
import Derived.Test.YtcnmbldikjljeaaGreatDoorT01
import Derived.WalkKit
import Derived.WalkSpells
import Derived.WalkLawsBesides
namespace Go.Proofs.YtcnmbldikjljeaaGreatDoor
open Go.RowKit

/-! stages, out of raw numbers -/
def lvP (x : Int × Int) : Int × Int := (1 + pk x.1 3000, pk x.2 100)
def lvsP (l : List (Int × Int)) (k : Nat) : List (Int × Int) := (l.take k).map lvP
def nP (ps : List (List (Int × Int))) : Nat := max 1 (min ps.length 4)
def nxP (n : Nat) : List Int := (List.range n).map fun (k : Nat) => (k : Int)
def plAt (ps : List (List (Int × Int))) (i : Nat) : List (Int × Int) := ps.getD i []
def stP (ps : List (List (Int × Int))) (i : Nat) : Stg := ⟨lvsP (plAt ps i) 4, nxP (nP ps)⟩
def stgP (ps : List (List (Int × Int))) : List Stg := (List.range (nP ps)).map (stP ps)
section
variable {ps : List (List (Int × Int))}
theorem nP_bd : 1 ≤ nP ps ∧ nP ps ≤ 4 := by unfold nP; omega
theorem stgP_len : (stgP ps).length = nP ps := by simp [stgP]
theorem stgP_at (i : Nat) (h : i < nP ps) : stAt (stgP ps) i = stP ps i := by
  unfold stAt stgP; simp [h]
theorem nxP_mem {n : Nat} {y : Int} (h : y ∈ nxP n) : 0 ≤ y ∧ y < n := by
  simp only [nxP, List.mem_map, List.mem_range] at h
  obtain ⟨k, hk, rfl⟩ := h
  omega
theorem nxP_len (n : Nat) : (nxP n).length = n := by simp [nxP]
theorem nxP_snoc (n : Nat) : nxP (n + 1) = nxP n ++ [(n : Int)] := by simp [nxP, List.range_succ]
theorem hasI_nxP {n : Nat} {y : Int} (h0 : 0 ≤ y) (h1 : y < n) : hasI (nxP n) y = true := by
  rw [hasI_iff]
  simp only [nxP, List.mem_map, List.mem_range]
  exact ⟨y.toNat, by omega, by omega⟩
theorem lvsP_len (l : List (Int × Int)) (k : Nat) : (lvsP l k).length ≤ k := by simp [lvsP]; omega
theorem lvsP_snoc (l : List (Int × Int)) (k : Nat) (h : k < l.length) : lvsP l (k + 1) = lvsP l k ++ [lvP l[k]] := by
  unfold lvsP
  rw [List.take_succ_eq_append_getElem h, List.map_append]
  rfl
theorem lvsP_mem {l : List (Int × Int)} {k : Nat} {p : Int × Int} (h : p ∈ lvsP l k) : 1 ≤ p.1 ∧ p.1 ≤ 3000 ∧ 0 ≤ p.2 ∧ p.2 ≤ 99 := by
  simp only [lvsP, List.mem_map] at h
  obtain ⟨x, _, rfl⟩ := h
  have h1 := pk_lo x.1 3000 (by omega)
  have h2 := pk_hi x.1 3000 (by omega)
  have h3 := pk_lo x.2 100 (by omega)
  have h4 := pk_hi x.2 100 (by omega)
  unfold lvP
  simp only
  omega
theorem stgP_check : checkL (stgP ps) = true := by
  have hn := nP_bd (ps := ps)
  refine check_yes (by rw [stgP_len]; omega) (fun i hi => ?_)
  rw [stgP_len] at hi ⊢
  rw [stgP_at i hi, stgOk_eq]
  rw [Bool.and_eq_true, Bool.and_eq_true, List.all_eq_true, List.all_eq_true]
  refine ⟨⟨decide_eq_true (lvsP_len _ 4), fun p hp => ?_⟩, fun y hy => ?_⟩
  · have := lvsP_mem hp
    unfold lvOk
    simp
    omega
  · have := nxP_mem hy
    unfold nxOk
    simp
    omega
end
/-- a stage that is being made, in its box -/
structure SB (wr : World) (wz : World) (a b : Value) (la : List (Int × Int)) (lb : List Int) : Prop where
  below : Below wr.heap.size wr wz
  blk : wz.heap[wr.heap.size]? = some (.cells #[a, b] 125 (0, 0))
  ra : wz.ownsRow wr.heap.size 127 2 a la.length (flat la)
  rb : wz.ownsRow wr.heap.size 3 1 b lb.length (intCells lb)
section
variable {wr wz u z : World} {a b a' b' : Value} {la : List (Int × Int)} {lb : List Int}
theorem SB.lt (h : SB wr wz a b la lb) : wr.heap.size < wz.heap.size := (Array.getElem?_eq_some_iff.1 h.blk).1
theorem SB.c0 (h : SB wr wz a b la lb) : wz.cell? ⟨wr.heap.size, 0, none⟩ = some a := by simp [World.cell?, h.blk]
theorem SB.c1 (h : SB wr wz a b la lb) : wz.cell? ⟨wr.heap.size, 1, none⟩ = some b := by simp [World.cell?, h.blk]
theorem SB.fz (h : SB wr wz a b la lb) (j : Nat) : wz.frozen? ⟨wr.heap.size, j, none⟩ = false := by simp [World.frozen?, h.blk]
theorem SB.on (h : SB wr wz a b la lb) (hb : Below wz.heap.size wz u) : SB wr u a b la lb :=
  ⟨h.below.trans (hb.mono (Nat.le_of_lt h.lt)), (hb.block _ h.lt).trans h.blk, row_on h.ra hb, row_on h.rb hb⟩
theorem row_grown {base base' size size' n n' : Nat} {e e' : TypeId} {v v' : Value} {xs xs' : List Value} (h : wz.ownsRow base e size v n xs) (hr : wz.ownsRow base' e' size' v' n' xs') (hg : wz.grownBy u v.ownBlock) (he : e ≠ e') : u.ownsRow base' e' size' v' n' xs' := by
  rcases h.2 with ⟨rfl, _⟩ | ⟨q, cap, cur, rfl, _, hq, _⟩
  · exact row_on hr (below_of_grown hg)
  · exact row_left hr hg hq he
theorem SB.own_ne {e : TypeId} {size n : Nat} {v : Value} {xs : List Value} (h : SB wr wz a b la lb) (hr : wz.ownsRow wr.heap.size e size v n xs) (he : e ≠ 125) : v.ownBlock ≠ some wr.heap.size := by
  intro e'
  rcases hr.2 with ⟨rfl, _⟩ | ⟨q, cap, cur, rfl, _, hq, _⟩
  · simp [Value.ownBlock] at e'
  · obtain rfl : q = wr.heap.size := by simpa [Value.ownBlock] using e'
    rw [h.blk] at hq
    cases hq
    exact he rfl
/-- one level more -/
theorem SB.putA {x : Int × Int} (h : SB wr wz a b la lb) (hg : wz.grownBy u a.ownBlock) (hr : u.ownsRow wr.heap.size 127 2 a' (la.length + 1) (flat la ++ [.int .i64 x.1, .int .i64 x.2])) :
    u.cell? ⟨wr.heap.size, 0, none⟩ = some a ∧ u.frozen? ⟨wr.heap.size, 0, none⟩ = false ∧ SB wr (u.setCell ⟨wr.heap.size, 0, none⟩ a') a' b (la ++ [x]) lb := by
  have hne := h.own_ne h.ra (by decide)
  have hB : u.heap[wr.heap.size]? = _ := (hg.block _ h.lt (fun e => hne e.symm)).trans h.blk
  have hs : u.grownBy (u.setCell ⟨wr.heap.size, 0, none⟩ a') (some wr.heap.size) := ⟨rfl, rfl, rfl, by simp, fun k _ hk => Below.heap_setCell _ _ _ k (fun e => hk (by rw [e]))⟩
  refine ⟨by simp [World.cell?, hB], by simp [World.frozen?, hB], ?_, ?_, ?_, ?_⟩
  · exact (h.below.grown hg (Nat.le_of_lt h.lt) (fun k hk => (h.ra.lt k hk).1)).setCell (Nat.le_refl _) _
  · have := heap_setCell_same _ _ 0 _ _ a' hB
    simpa using this
  · rw [flat_append, List.length_append]
    exact row_left hr hs hB (by decide)
  · exact row_left (row_grown h.ra h.rb hg (by decide)) hs hB (by decide)
/-- one next more -/
theorem SB.putB {x : Int} (h : SB wr wz a b la lb) (hg : wz.grownBy u b.ownBlock) (hr : u.ownsRow wr.heap.size 3 1 b' (lb.length + 1) (intCells lb ++ [.int .i64 x])) :
    u.cell? ⟨wr.heap.size, 1, none⟩ = some b ∧ u.frozen? ⟨wr.heap.size, 1, none⟩ = false ∧ SB wr (u.setCell ⟨wr.heap.size, 1, none⟩ b') a b' la (lb ++ [x]) := by
  have hne := h.own_ne h.rb (by decide)
  have hB : u.heap[wr.heap.size]? = _ := (hg.block _ h.lt (fun e => hne e.symm)).trans h.blk
  have hs : u.grownBy (u.setCell ⟨wr.heap.size, 1, none⟩ b') (some wr.heap.size) := ⟨rfl, rfl, rfl, by simp, fun k _ hk => Below.heap_setCell _ _ _ k (fun e => hk (by rw [e]))⟩
  refine ⟨by simp [World.cell?, hB], by simp [World.frozen?, hB], ?_, ?_, ?_, ?_⟩
  · exact (h.below.grown hg (Nat.le_of_lt h.lt) (fun k hk => (h.rb.lt k hk).1)).setCell (Nat.le_refl _) _
  · have := heap_setCell_same _ _ 1 _ _ b' hB
    simpa using this
  · exact row_left (row_grown h.rb h.ra hg (by decide)) hs hB (by decide)
  · rw [show intCells (lb ++ [x]) = intCells lb ++ [.int .i64 x] by simp [intCells], List.length_append]
    exact row_left hr hs hB (by decide)
end
/-- stages that were made -/
structure SG (W wr : World) (ps : List (List (Int × Int))) (out : Value) (i : Nat) (vs : Nat → Value × Value) : Prop where
  below : Below W.heap.size W wr
  row : wr.ownsRow W.heap.size 125 2 out i (stCells vs i)
  lev : ∀ j, j < i → wr.ownsRow W.heap.size 127 2 (vs j).1 (stP ps j).levels.length (flat (stP ps j).levels)
  nxt : ∀ j, j < i → wr.ownsRow W.heap.size 3 1 (vs j).2 (stP ps j).next.length (intCells (stP ps j).next)
theorem SG.step {W wr wz X u : World} {ps : List (List (Int × Int))} {out out' a b : Value} {i : Nat} {vs : Nat → Value × Value} (h : SG W wr ps out i vs) (B : SB wr wz a b (stP ps i).levels (stP ps i).next) (hX : Below wz.heap.size wz X) (hg : X.grownBy u out.ownBlock) (hr : u.ownsRow W.heap.size 125 2 out' (i + 1) (stCells vs i ++ [a, b])) :
    SG W u ps out' (i + 1) (fun j => if j = i then (a, b) else vs j) := by
  have hbX : Below wr.heap.size wr X := B.below.trans (hX.mono (Nat.le_of_lt B.lt))
  have hrow := row_on h.row hbX
  have hlt : wr.heap.size ≤ X.heap.size := hbX.size
  refine ⟨(h.below.trans (hbX.mono h.below.size)).grown hg (Nat.le_trans h.below.size hlt) (fun k hk => (hrow.lt k hk).1), ?_, fun j hj => ?_, fun j hj => ?_⟩
  · rw [stCells_succ, stCells_congr _ vs i (fun j hj => if_neg (by omega)), if_pos rfl]
    exact hr
  · by_cases e : j = i
    · subst e
      rw [if_pos rfl]
      exact row_grown hrow (row_mono (row_on B.ra hX) h.below.size) hg (by decide)
    · rw [if_neg e]
      exact row_grown hrow (row_on (h.lev j (by omega)) hbX) hg (by decide)
  · by_cases e : j = i
    · subst e
      rw [if_pos rfl]
      exact row_grown hrow (row_mono (row_on B.rb hX) h.below.size) hg (by decide)
    · rw [if_neg e]
      exact row_grown hrow (row_on (h.nxt j (by omega)) hbX) hg (by decide)
end Go.Proofs.YtcnmbldikjljeaaGreatDoor
namespace Go.Proofs.YtcnmbldikjljeaaGreatDoor
open Go.RowKit

def falses (n : Nat) : Array Value := madeCells #[.bool false] n
theorem boolInfo : (Tryz.prog.info? 4).map (fun i => (i.zero, i.size, i.bytes)) = some (some (.bool false), 1, 1) := by kernel_rfl
theorem mkN (n : Nat) (hn : n ≤ 1000) (w : World) : (Instr.makeSlice 88 (.int .i64 n) (.int .i64 n)).run Tryz.prog w = .ok (.slice (some ⟨w.heap.size, 0, none⟩) n n) (w.alloc (.cells (falses n) 4)) := by
  obtain ⟨i0, hi, hz0, hz1, hz2⟩ := info_parts boolInfo
  have h := run_make w 88 4 i0 (.bool false) Tryz.underlying88 hi hz0 .i64 .i64 n n (by omega) (by omega) (by rw [hz2]; omega) (by omega)
  rw [h, hz1]; simp [falses, Value.cells]
theorem mk672 (w : World) : (Instr.makeSlice 88 (.int .i64 672) (.int .i64 672)).run Tryz.prog w = .ok (.slice (some ⟨w.heap.size, 0, none⟩) 672 672) (w.alloc (.cells (falses 672) 4)) := mkN 672 (by omega) w
theorem mk70 (w : World) : (Instr.makeSlice 88 (.int .i64 70) (.int .i64 70)).run Tryz.prog w = .ok (.slice (some ⟨w.heap.size, 0, none⟩) 70 70) (w.alloc (.cells (falses 70) 4)) := mkN 70 (by omega) w

theorem cell_falses (w : World) (n j b : Nat) (t : TypeId) (hb : b = w.heap.size) (h : j < n) : (w.alloc (.cells (falses n) t)).cell? ⟨b, j, none⟩ = some (.bool false) := by
  rw [World.cell?_alloc_at _ _ _ _ hb]; simp [falses, madeCells, h, Nat.mod_one]
theorem TW.start (w : World) (ve vf : Value) (t t' : TypeId) (b : Nat) (hb : b = w.heap.size) :
    TW b w (((w.alloc (.cells #[ve, vf] t)).alloc (.cells (falses 672) t')).alloc (.cells (falses 70) t')) ve vf (fun _ => false) (fun _ => false) := by
  subst hb
  refine ⟨(((Below.refl _ _).alloc (Nat.le_refl _) _).alloc (by simp) _).alloc (by simp; omega) _, by simp, ?_, ?_, ?_, ?_, ?_, ?_⟩
  · rw [World.cell?_alloc_lt (h := by simp; omega), World.cell?_alloc_lt (h := by simp), World.cell?_alloc_at _ _ _ _ rfl]; rfl
  · rw [World.cell?_alloc_lt (h := by simp; omega), World.cell?_alloc_lt (h := by simp), World.cell?_alloc_at _ _ _ _ rfl]; rfl
  · intro j hj
    rw [World.cell?_alloc_lt (h := by simp)]
    exact cell_falses _ _ _ _ _ (by simp) hj
  · intro j
    rw [World.frozen?_alloc_old (h := by simp)]
    exact World.frozen?_alloc_at _ _ _ _ (by simp)
  · intro j hj
    exact cell_falses _ _ _ _ _ (by simp) hj
  · intro j
    exact World.frozen?_alloc_at _ _ _ _ (by simp)
end Go.Proofs.YtcnmbldikjljeaaGreatDoor
namespace Go.Proofs.YtcnmbldikjljeaaGreatDoor
open Go.RowKit

abbrev inR (x : Int) : Prop := -9223372036854775808 ≤ x ∧ x ≤ 9223372036854775807

set_option maxRecDepth 100000 in
set_option maxHeartbeats 8000000 in
theorem text_any (es : List Ent) (fs : List Int) (ae af : Option Addr) (ce cf : Nat) (w : World)
   (hE : ∀ i e, es[i]? = some e → ∃ b off, ae = some ⟨b, off, none⟩ ∧ b < w.heap.size ∧ w.cell? ⟨b, off + i * 3, none⟩ = some (.int .i64 e.1) ∧ w.cell? ⟨b, off + i * 3 + 1, none⟩ = some (.int .i64 e.2.1) ∧ w.cell? ⟨b, off + i * 3 + 2, none⟩ = some (.int .i64 e.2.2) ∧ inR e.1 ∧ inR e.2.1 ∧ inR e.2.2)
   (hF : ∀ i x, fs[i]? = some x → ∃ b off, af = some ⟨b, off, none⟩ ∧ b < w.heap.size ∧ w.cell? ⟨b, off + i, none⟩ = some (.int .i64 x) ∧ inR x)
   (_hlf : fs.length ≤ 9223372036854775807) (hle : es.length ≤ 9223372036854775807) :
    Calls Tryz.prog 65 #[.agg #[.slice ae es.length ce, .slice af fs.length cf]] w fun e w' => e = .returned (.tuple #[.string ⟨(theTxt es fs).toArray⟩, .slice (some ⟨w.heap.size + 1, 0, none⟩) 672 672, .slice (some ⟨w.heap.size + 2, 0, none⟩) 70 70]) ∧ TW w.heap.size w w' (.slice ae es.length ce) (.slice af fs.length cf) (theWk es) (theOff fs) := by
  have m1 := mk672
  have m2 := mk70
  have HE := hide hE
  have HF := hide hF
  clear hE hF
  go_enter Tryz.func65, Tryz.ntmps65
  go_wp2_with fail
  clear m1 m2
  go_loopw [7, 8] (fun s i wr => ∃ k : Nat, k ≤ nEnt es ∧ i = .int .i64 k ∧ s = .string ⟨(txtTo es k).toArray⟩ ∧ TW w.heap.size w wr (.slice ae es.length ce) (.slice af fs.length cf) (wkTo es k) (fun _ => false)) (fun _ i _ => 3 - (intOf i).toNat)
  case atStart => exact ⟨0, Nat.zero_le _, rfl, rfl, TW.start _ _ _ _ _ _ rfl⟩
  case round =>
    obtain ⟨k, hk, rfl, rfl, T⟩ := hrel
    have c0 := T.ce
    have c1 := T.cf
    have hz : w.heap.size + 3 ≤ wr.heap.size := T.size
    have hz0 : w.heap.size < wr.heap.size := by omega
    have hlen := txtTo_le es k
    by_cases hlt : k < nEnt es
    · have hk3 : k < 3 := by unfold nEnt at hlt; omega
      have hz1 : w.heap.size + 3 ≤ wr.heap.size + 1 := by omega
      obtain ⟨e, hx⟩ : ∃ e, e = ent es k := ⟨_, rfl⟩
      have HX := hide hx
      by_cases hke : k < es.length
      · obtain ⟨b, off, hae, hb, e0, e1, e2, ⟨r0, r0'⟩, ⟨r1, r1'⟩, ⟨r2, r2'⟩⟩ := unhide HE k e (by rw [hx]; simp [ent, hke])
        subst hae
        have f0 := (T.below.cell (p := ⟨b, off + k * 3, none⟩) hb).trans e0
        have f1 := (T.below.cell (p := ⟨b, off + k * 3 + 1, none⟩) hb).trans e1
        have f2 := (T.below.cell (p := ⟨b, off + k * 3 + 2, none⟩) hb).trans e2
        have hbz : b < wr.heap.size := by omega
        clear e0 e1 e2 hx
        by_cases hk0 : (k : Int) < 1
        all_goals
          go_wp2_with fail
          refine (pick_any _ _ _ (by omega) (by omega) (by omega) (by omega)).mono ?_
          rintro e' w' ⟨rfl, rfl⟩
          have b1 := pk_lo e.1 127 (by omega)
          have b2 := pk_hi e.1 127 (by omega)
          go_wp2_with fail
          refine (pick_any _ _ _ (by omega) (by omega) (by omega) (by omega)).mono ?_
          rintro e' w' ⟨rfl, rfl⟩
          have b3 := pk_lo e.2.1 96 (by omega)
          have b4 := pk_hi e.2.1 96 (by omega)
          go_wp2_with fail
          refine (pick_any _ _ _ (by omega) (by omega) (by omega) (by omega)).mono ?_
          rintro e' w' ⟨rfl, rfl⟩
          have b5 := pk_lo e.2.2 (96 - pk e.2.1 96) (by omega)
          have b6 := pk_hi e.2.2 (96 - pk e.2.1 96) (by omega)
          go_wp2_with fail
          have hD : 1 + pk e.1 127 = eDays e := rfl
          have hF : pk e.2.1 96 = eFrom e := rfl
          have hG : eFrom e + 1 + pk e.2.2 (96 - eFrom e) = eTo e := rfl
          rw [hF] at b3 b4 b5 b6
          have b7 : eTo e ≤ 96 := by rw [← hG]; omega
          have b8 : eFrom e < eTo e := by rw [← hG]; omega
          have b9 := eDays_lo e
          have b10 := eDays_hi e
          rw [hF, hG, hD]
          obtain ⟨bs, hbs, Hbs, hbl⟩ := (by first | exact txt_start (txtTo es k) k (by omega) | exact txt_start' (txtTo es k) k (by omega) : ∃ bs : List UInt8, _ ∧ Hid (bs = txtTo es k ++ sep k) ∧ bs.length ≤ (txtTo es k).length + 1)
          rw [hbs]
          have T2 := T.alloc (Obj.cells #[.int .i64 e.1, .int .i64 e.2.1, .int .i64 e.2.2] 201)
          have hbl : bs.length ≤ 110 := by omega
          clear b1 b2 b5 b6 hD hF hG hbs f0 f1 f2 c0 c1 r0 r0' r1 r1' r2 r2' T hlen
          go_loopw [7, 13, 14] (fun s a d wq => ∃ j : Nat, j ≤ 7 ∧ d = .int .i64 j ∧ s = .string ⟨(bs ++ daysTo (eDays e) j).toArray⟩ ∧ a = .string ⟨(comma (anyTo (eDays e) j)).toArray⟩ ∧ TW w.heap.size w wq (.slice (some ⟨b, off, none⟩) es.length ce) (.slice af fs.length cf) (markTo (wkTo es k) e j) (fun _ => false)) (fun _ _ d _ => 7 - (intOf d).toNat)
          case atStart => exact ⟨0, Nat.zero_le _, rfl, sapp (by simp [daysTo]), rfl, T2.congr (fun j _ => markTo_zero _ _ _) (fun _ _ => rfl)⟩
          case round =>
            obtain ⟨j, hj, rfl, rfl, rfl, TT⟩ := hrel
            have hl2 := daysTo_le (eDays e) j
            have hl3 := comma_le (anyTo (eDays e) j)
            by_cases hj7 : (j : Int) < 7
            · cases hds : dset (eDays e) j
              · have HDS := hide hds
                have hd2 := dset_false (by omega) hds
                clear hds
                go_wp2_with fail
                go_roundw
                case rel => exact ⟨j + 1, by omega, by go_num, sapp (by rw [(dskip HDS.out).1]), sapp (by rw [(dskip HDS.out).2]), TT.congr (fun i _ => markTo_skip _ _ _ HDS.out _) (fun _ _ => rfl)⟩
                case measure => simp [intOf]; omega
              · have HDS := hide hds
                have hd2 := dset_true (by omega) hds
                clear hds
                go_wp2_with fail
                go_loopw [15] (fun q wq => ∃ n : Int, eFrom e ≤ n ∧ n ≤ eTo e ∧ q = .int .i64 n ∧ TW w.heap.size w wq (.slice (some ⟨b, off, none⟩) es.length ce) (.slice af fs.length cf) (markIn (wkTo es k) e j n) (fun _ => false)) (fun q _ => 96 - (intOf q).toNat)
                case atStart => exact ⟨eFrom e, by omega, by omega, rfl, TT.congr (fun i _ => markIn_from _ _ _ _) (fun _ _ => rfl)⟩
                case round =>
                  obtain ⟨n, hn1, hn2, rfl, T3⟩ := hrel
                  by_cases hn : n < eTo e
                  · have g1 := T3.wk (96 * (j : Int) + n).toNat (by omega)
                    have g2 := T3.wf (96 * (j : Int) + n).toNat
                    go_wp2_with fail
                    go_roundw
                    case rel => exact ⟨n + 1, by omega, by omega, rfl, (T3.setW _ (by omega)).congr (fun i _ => markIn_stepI _ _ _ _ (by omega) (by omega) (by omega) _) (fun _ _ => rfl)⟩
                    case measure => simp [intOf]; omega
                  · go_wp2_with fail
                    go_roundw
                    case rel =>
                      have hne : n = eTo e := by omega
                      subst hne
                      refine ⟨j + 1, by omega, by go_num, ?_, ?_, T3.congr (fun i _ => markIn_to _ _ _ HDS.out _) (fun _ _ => rfl)⟩
                      · exact day_step _ _ _ (by omega) HDS.out
                      · rw [(dtake HDS.out).2]
                    case measure => simp [intOf]; omega
            · go_wp2_with fail
              refine (clock_any _ _ (by omega) (by omega)).mono ?_
              rintro e' w2 ⟨rfl, hb1⟩
              have hj8 : j = 7 := by omega
              subst hj8
              have hck := ck_len
              go_wp2_with fail
              refine (clock_any _ _ (by omega) (by omega)).mono ?_
              rintro e' w3 ⟨rfl, hb2⟩
              go_wp2_with fail
              go_roundw
              case rel =>
                refine ⟨k + 1, by omega, by go_num, ?_, ?_⟩
                · exact ent_step _ _ _ _ HX.out Hbs.out
                · exact ((TT.on (hb1.mono TT.size)).on (hb2.mono (Nat.le_trans TT.size hb1.size))).congr (fun i _ => by rw [HX.out]; rfl) (fun _ _ => rfl)
              case measure => simp [intOf]; omega
      · have hk0 : (k : Int) < 1 := by unfold nEnt at hlt; omega
        have he : e = (31, 36, 32) := by rw [hx]; unfold ent; rw [List.getD_eq_getElem?_getD, List.getElem?_eq_none (by omega)]; rfl
        have HE' := hide he
        clear hx he
        go_wp2_with fail
        refine (pick_any _ _ _ (by omega) (by omega) (by omega) (by omega)).mono ?_
        rintro e' w' ⟨rfl, rfl⟩
        have b1 := pk_lo 31 127 (by omega)
        have b2 := pk_hi 31 127 (by omega)
        go_wp2_with fail
        refine (pick_any _ _ _ (by omega) (by omega) (by omega) (by omega)).mono ?_
        rintro e' w' ⟨rfl, rfl⟩
        have b3 := pk_lo 36 96 (by omega)
        have b4 := pk_hi 36 96 (by omega)
        go_wp2_with fail
        refine (pick_any _ _ _ (by omega) (by omega) (by omega) (by omega)).mono ?_
        rintro e' w' ⟨rfl, rfl⟩
        have b5 := pk_lo 32 (96 - pk 36 96) (by omega)
        have b6 := pk_hi 32 (96 - pk 36 96) (by omega)
        go_wp2_with fail
        have hD : 1 + pk 31 127 = eDays e := by rw [HE'.out]; rfl
        have hF : pk 36 96 = eFrom e := by rw [HE'.out]; rfl
        rw [hF] at b3 b4 b5 b6
        have hG : eFrom e + 1 + pk 32 (96 - eFrom e) = eTo e := by rw [HE'.out]; rfl
        have b7 : eTo e ≤ 96 := by rw [← hG]; omega
        have b8 : eFrom e < eTo e := by rw [← hG]; omega
        have b9 := eDays_lo e
        have b10 := eDays_hi e
        rw [hF, hG, hD]
        obtain ⟨bs, hbs, Hbs, hbl⟩ := (by first | exact txt_start (txtTo es k) k (by omega) | exact txt_start' (txtTo es k) k (by omega) : ∃ bs : List UInt8, _ ∧ Hid (bs = txtTo es k ++ sep k) ∧ bs.length ≤ (txtTo es k).length + 1)
        rw [hbs]
        have T2 := T.alloc (Obj.cells #[.int .i64 31, .int .i64 36, .int .i64 32] 201)
        have hbl : bs.length ≤ 110 := by omega
        clear b1 b2 b5 b6 hD hF hG hbs c0 c1 T hlen
        go_loopw [7, 13, 14] (fun s a d wq => ∃ j : Nat, j ≤ 7 ∧ d = .int .i64 j ∧ s = .string ⟨(bs ++ daysTo (eDays e) j).toArray⟩ ∧ a = .string ⟨(comma (anyTo (eDays e) j)).toArray⟩ ∧ TW w.heap.size w wq (.slice ae es.length ce) (.slice af fs.length cf) (markTo (wkTo es k) e j) (fun _ => false)) (fun _ _ d _ => 7 - (intOf d).toNat)
        case atStart => exact ⟨0, Nat.zero_le _, rfl, sapp (by simp [daysTo]), rfl, T2.congr (fun j _ => markTo_zero _ _ _) (fun _ _ => rfl)⟩
        case round =>
          obtain ⟨j, hj, rfl, rfl, rfl, TT⟩ := hrel
          have hl2 := daysTo_le (eDays e) j
          have hl3 := comma_le (anyTo (eDays e) j)
          by_cases hj7 : (j : Int) < 7
          · cases hds : dset (eDays e) j
            · have HDS := hide hds
              have hd2 := dset_false (by omega) hds
              clear hds
              go_wp2_with fail
              go_roundw
              case rel => exact ⟨j + 1, by omega, by go_num, sapp (by rw [(dskip HDS.out).1]), sapp (by rw [(dskip HDS.out).2]), TT.congr (fun i _ => markTo_skip _ _ _ HDS.out _) (fun _ _ => rfl)⟩
              case measure => simp [intOf]; omega
            · have HDS := hide hds
              have hd2 := dset_true (by omega) hds
              clear hds
              go_wp2_with fail
              go_loopw [15] (fun q wq => ∃ n : Int, eFrom e ≤ n ∧ n ≤ eTo e ∧ q = .int .i64 n ∧ TW w.heap.size w wq (.slice ae es.length ce) (.slice af fs.length cf) (markIn (wkTo es k) e j n) (fun _ => false)) (fun q _ => 96 - (intOf q).toNat)
              case atStart => exact ⟨eFrom e, by omega, by omega, rfl, TT.congr (fun i _ => markIn_from _ _ _ _) (fun _ _ => rfl)⟩
              case round =>
                obtain ⟨n, hn1, hn2, rfl, T3⟩ := hrel
                by_cases hn : n < eTo e
                · have g1 := T3.wk (96 * (j : Int) + n).toNat (by omega)
                  have g2 := T3.wf (96 * (j : Int) + n).toNat
                  go_wp2_with fail
                  go_roundw
                  case rel => exact ⟨n + 1, by omega, by omega, rfl, (T3.setW _ (by omega)).congr (fun i _ => markIn_stepI _ _ _ _ (by omega) (by omega) (by omega) _) (fun _ _ => rfl)⟩
                  case measure => simp [intOf]; omega
                · go_wp2_with fail
                  go_roundw
                  case rel =>
                    have hne : n = eTo e := by omega
                    subst hne
                    refine ⟨j + 1, by omega, by go_num, ?_, ?_, T3.congr (fun i _ => markIn_to _ _ _ HDS.out _) (fun _ _ => rfl)⟩
                    · exact day_step _ _ _ (by omega) HDS.out
                    · rw [(dtake HDS.out).2]
                  case measure => simp [intOf]; omega
          · go_wp2_with fail
            refine (clock_any _ _ (by omega) (by omega)).mono ?_
            rintro e' w2 ⟨rfl, hb1⟩
            have hj8 : j = 7 := by omega
            subst hj8
            have hck := ck_len
            go_wp2_with fail
            refine (clock_any _ _ (by omega) (by omega)).mono ?_
            rintro e' w3 ⟨rfl, hb2⟩
            go_wp2_with fail
            go_roundw
            case rel =>
              refine ⟨k + 1, by omega, by go_num, ?_, ?_⟩
              · exact ent_step _ _ _ _ HX.out Hbs.out
              · exact ((TT.on (hb1.mono TT.size)).on (hb2.mono (Nat.le_trans TT.size hb1.size))).congr (fun i _ => by rw [HX.out]; rfl) (fun _ _ => rfl)
            case measure => simp [intOf]; omega
    · have hkn : k = nEnt es := by omega
      have Hkn := hide hkn
      have h1k : (1 : Int) ≤ k := by unfold nEnt at hkn; omega
      have hk3 : k ≤ 3 := by unfold nEnt at hkn; omega
      have hor : (k < es.length ∧ (3 : Int) ≤ k) ∨ es.length ≤ k := by unfold nEnt at hkn; omega
      clear hkn hlt
      rcases hor with ⟨h2k, h3k⟩ | h2k
      all_goals
        go_wp2_with fail
        obtain ⟨bs, hbs⟩ : ∃ bs, bs = txtTo es k := ⟨_, rfl⟩
        have Hbs := hide hbs
        rw [← hbs]
        have hbl : bs.length ≤ 102 := by rw [hbs]; omega
        clear hbs hlen
        go_loopw [7, 16, 17] (fun s la i wq => ∃ (m : Nat) (ds : List Int) (l : Int), m ≤ fs.length ∧ m ≤ 20 ∧ i = .int .i64 m ∧ la = .int .i64 l ∧ s = .string ⟨(bs ++ frTxt ds).toArray⟩ ∧ -1 ≤ l ∧ l < 70 ∧ (l < 0 → ds = []) ∧ (0 ≤ l → ds ≠ []) ∧ ds.length ≤ m ∧ Hid (frNums (-1) (fs.take 20) = ds ++ frNums l ((fs.take 20).drop m)) ∧ TW w.heap.size w wq (.slice ae es.length ce) (.slice af fs.length cf) (wkTo es k) (fun i => ds.contains (i : Int))) (fun _ _ i _ => 20 - (intOf i).toNat)
        case atStart => exact ⟨0, [], -1, Nat.zero_le _, Nat.zero_le _, rfl, rfl, sapp (by simp [frTxt]), by omega, by omega, fun _ => rfl, fun h => by omega, Nat.le_refl _, by unfold Hid; simp, T.congr (fun _ _ => rfl) (fun _ _ => by simp)⟩
        case round =>
          obtain ⟨m, ds, l, hm1, hm2, rfl, rfl, rfl, hl1, hl2, hl3, hl4, hds, HN, T4⟩ := hrel
          have hfl := frTxt_le ds
          have c1 := T4.cf
          have HL3 := hide hl3
          have HL4 := hide hl4
          clear hl3 hl4
          by_cases hin : m < fs.length ∧ m < 20
          · obtain ⟨hin1, hin2⟩ := hin
            obtain ⟨b, off, haf, hb, e0, ⟨r0, r0'⟩⟩ := unhide HF m fs[m] (by simp [hin1])
            subst haf
            have f0 := (T4.below.cell (p := ⟨b, off + m, none⟩) hb).trans e0
            clear e0
            obtain ⟨x, hx⟩ : ∃ x, x = fs[m] := ⟨_, rfl⟩
            rw [← hx] at f0 r0 r0'
            have HX := hide hx
            clear hx
            go_wp2_with fail
            refine (pick_any _ _ _ (by omega) (by omega) (by omega) (by omega)).mono ?_
            rintro e' w' ⟨rfl, rfl⟩
            have b1 := pk_lo x 9 (by omega)
            have b2 := pk_hi x 9 (by omega)
            have hdl := dg_len (l + 1 + pk x 9)
            by_cases h70 : 70 ≤ l + 1 + pk x 9
            · go_wp2_with fail
              go_ret3
              have hfin := fr_stop fs ds l m hin1 hin2 (by rw [← HX.out]; exact h70) HN.out
              exact ⟨ret3s (txt_fin es fs ds k bs Hkn.out Hbs.out hfin), T4.congr (fun _ _ => by unfold theWk; rw [← Hkn.out]) (fun _ _ => by unfold theOff; rw [hfin])⟩
            · have hst := hide (fr_step fs ds l m hin1 hin2 (by rw [← HX.out]; exact h70) HN.out)
              rw [← HX.out] at hst
              by_cases hneg : l < 0
              · have h10 : ¬ 10 ≤ l + 1 + pk x 9 := by omega
                go_wp2_with fail
                refine (digits_any _ _ (by omega) (by omega)).mono ?_
                rintro e' w2 ⟨rfl, hb1⟩
                have T5 := T4.on (hb1.mono T4.size)
                have g1 := T5.ok (l + 1 + pk x 9).toNat (by omega)
                have g2 := T5.of (l + 1 + pk x 9).toNat
                go_wp2_with fail
                go_roundw
                case rel =>
                  refine ⟨m + 1, ds ++ [l + 1 + pk x 9], l + 1 + pk x 9, by omega, by omega, by go_num, rfl, ?_, by omega, by omega, fun h => by omega, fun _ => by simp, by simp; omega, hst, (T5.setO _ (by omega)).congr (fun _ _ => rfl) (fun i _ => off_step _ _ (by omega) _)⟩
                  exact num_first' _ _ _ (by omega) (HL3.out hneg)
                case measure => simp [intOf]; omega
              · have hdn := HL4.out (by omega)
                have Hdn := hide hdn
                clear hdn
                by_cases h10 : 10 ≤ l + 1 + pk x 9
                · go_wp2_with fail
                  refine (digits_any _ _ (by omega) (by omega)).mono ?_
                  rintro e' w2 ⟨rfl, hb1⟩
                  have T5 := T4.on (hb1.mono T4.size)
                  have g1 := T5.ok (l + 1 + pk x 9).toNat (by omega)
                  have g2 := T5.of (l + 1 + pk x 9).toNat
                  go_wp2_with fail
                  go_roundw
                  case rel =>
                    exact ⟨m + 1, ds ++ [l + 1 + pk x 9], l + 1 + pk x 9, by omega, by omega, by go_num, rfl, num_big _ _ _ h10 Hdn.out, by omega, by omega, fun h => by omega, fun _ => by simp, by simp; omega, hst, (T5.setO _ (by omega)).congr (fun _ _ => rfl) (fun i _ => off_step _ _ (by omega) _)⟩
                  case measure => simp [intOf]; omega
                · go_wp2_with fail
                  refine (digits_any _ _ (by omega) (by omega)).mono ?_
                  rintro e' w2 ⟨rfl, hb1⟩
                  have T5 := T4.on (hb1.mono T4.size)
                  have g1 := T5.ok (l + 1 + pk x 9).toNat (by omega)
                  have g2 := T5.of (l + 1 + pk x 9).toNat
                  go_wp2_with fail
                  go_roundw
                  case rel =>
                    refine ⟨m + 1, ds ++ [l + 1 + pk x 9], l + 1 + pk x 9, by omega, by omega, by go_num, rfl, ?_, by omega, by omega, fun h => by omega, fun _ => by simp, by simp; omega, hst, (T5.setO _ (by omega)).congr (fun _ _ => rfl) (fun i _ => off_step _ _ (by omega) _)⟩
                    exact num_small' _ _ _ (by omega) Hdn.out
                  case measure => simp [intOf]; omega
          · have hfin := hide (fr_end fs ds l m (by omega) HN.out)
            by_cases hm3 : m < fs.length
            · have hm4 : (20 : Int) ≤ m := by omega
              go_wp2_with fail
              go_ret3
              exact ⟨ret3s (txt_fin es fs ds k bs Hkn.out Hbs.out hfin.out), T4.congr (fun _ _ => by unfold theWk; rw [← Hkn.out]) (fun _ _ => by unfold theOff; rw [hfin.out])⟩
            · go_wp2_with fail
              go_ret3
              exact ⟨ret3s (txt_fin es fs ds k bs Hkn.out Hbs.out hfin.out), T4.congr (fun _ _ => by unfold theWk; rw [← Hkn.out]) (fun _ _ => by unfold theOff; rw [hfin.out])⟩
end Go.Proofs.YtcnmbldikjljeaaGreatDoor
