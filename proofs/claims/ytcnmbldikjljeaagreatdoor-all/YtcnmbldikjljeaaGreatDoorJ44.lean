import Derived.Test.YtcnmbldikjljeaaGreatDoorJ41
import Derived.StillTailTactics
import Derived.Test.YtcnmbldikjljeaaGreatDoorJ09
import Derived.Test.YtcnmbldikjljeaaGreatDoorJ42
import Derived.Deep.AppendLies
import Derived.Deep.Cut
namespace Go.Proofs.YtcnmbldikjljeaaGreatDoor
open Go.Shelf Go.RowKit Go.Lib Go.Sort

section
variable {w : World} {p b off : Nat} {K : Kf} {F : Nat → Bool} {st : List Stg} {lk t m : Int} {lv : Value} {k : Int} {x : Cs}
theorem PutR.then {w u z : World} {b off : Nat} {vs : List Value} (h : PutR w u b off vs) (hb : Below w.heap.size u z) : PutR w z b off vs := by
  obtain ⟨cur, cur', h1, h2, h3, h4⟩ := h.blk
  have hbl : b < w.heap.size := (Array.getElem?_eq_some_iff.1 h1).1
  exact ⟨hb.os.trans h.os, hb.tape.trans h.tape, hb.output.trans h.output, Nat.le_trans h.size hb.size, fun k hk hne => (hb.block k hk).trans (h.other k hk hne), cur, cur', h1, (hb.block b hbl).trans h2, h3, h4⟩
set_option maxRecDepth 100000 in
set_option maxHeartbeats 16000000 in
theorem tell_any (R : PR w p K F st lk t m lv k) (A : RA w b off (rcCells x)) (hs : StOk st) (hx : CsOk st x) (hd : 0 ≤ x.due) (hr : x.rest = 0) (k0 : 0 ≤ k) (k1 : k ≤ 4611686018427387904) :
    Calls Tryz.prog 40 #[P0 p, .pointer (some ⟨b, off, none⟩)] w fun e w' => e = .returned (evV (evOf st x (k + 1))) ∧ PR w' p K F st lk t m lv (k + 1) ∧ PutR (w.setCell ⟨p, 83, none⟩ (.int .i64 (k + 1))) w' b off (rcCells (comesL F st x (x.level + 1) x.due)) := by
  obtain ⟨i, hi⟩ : ∃ i : Nat, x.stage = i := ⟨x.stage.toNat, by have := hx.s0; omega⟩
  have hil : i < st.length := by have := hx.s1; omega
  have hil' : (i : Int) < st.length := by omega
  obtain ⟨j, hj⟩ : ∃ j : Nat, x.level = j := ⟨x.level.toNat, by have := hx.l0; omega⟩
  have hjl : j < (stAt st i).levels.length := by have := hx.dl hd; rw [hi] at this; omega
  have hjl' : (j : Int) < (stAt st i).levels.length := by omega
  have hrow := R.stg.row
  obtain ⟨sq, scap, hsv⟩ := row_someP hrow (by omega)
  have hlev := R.stg.lev i hil (by omega)
  obtain ⟨lq, lcap, hls⟩ := row_someP hlev (by omega)
  have hW : (lvAt (stAt st x.stage) x.level).2 = (stAt st i).levels[j].2 := by
    rw [hi, hj]; unfold lvAt; simp [hjl]
  obtain ⟨wo, hwo⟩ : ∃ wo, w.alloc (Obj.cells #[.int .i64 0, .int .i64 0, .int .i64 0, .int .i64 0, .int .i64 0, .int .i64 0] 63) = wo := ⟨_, rfl⟩
  have hb0 : Below w.heap.size w wo := by rw [← hwo]; exact (Below.refl _ _).alloc (Nat.le_refl _) _
  have R1 := R.on hb0
  have A1 := A.on hb0
  have c79 := R1.c79
  rw [hsv] at c79 hrow
  have c83 := R1.c83
  have f83 := R1.frz 83
  have d0 : wo.cell? ⟨b, off, none⟩ = some (.int .i64 x.id) := A1.cell 0 _ rfl
  have d1 := A1.cell 1 _ rfl
  have d3 := A1.cell 3 _ rfl
  have d4 := A1.cell 4 _ rfl
  rw [hi] at d1
  rw [hj] at d3
  rw [show dueC x = x.due by unfold dueC; rw [if_pos hd]] at d4
  have cs0 := (hrow.cellAt (i * 7) (by omega)).trans (sgCells_lev K.ls st i hil)
  rw [hls] at cs0 hlev
  have cl0 := (hlev.cellAt (j * 2 + 1) (by omega)).trans (flat_at _ j hjl).2
  have cs := (hb0.cell (p := ⟨sq, i * 7, none⟩) (World.block_lt_of_cell? _ _ cs0)).trans cs0
  have cl := (hb0.cell (p := ⟨lq, j * 2 + 1, none⟩) (World.block_lt_of_cell? _ _ cl0)).trans cl0
  have hne := R.ne A
  have hpl := R1.lt
  have hbl := A1.lt
  have hsz : wo.heap.size = w.heap.size + 1 := by rw [← hwo]; simp
  have n1 := R.ne_row hrow (by decide)
  have n2 := R.ne_row hlev (by decide)
  have n3 : w.heap.size + 1 ≠ sq := by have := World.block_lt_of_cell? _ _ cs0; simp only at this; omega
  have n4 : w.heap.size + 1 ≠ lq := by have := World.block_lt_of_cell? _ _ cl0; simp only at this; omega
  have fa : ∀ o : Obj, (wo.alloc o).frozen? ⟨p, 83, none⟩ = false := fun o => ((Below.refl wo.heap.size wo).alloc (Nat.le_refl _) o |>.frozen (p := ⟨p, 83, none⟩) hpl).trans f83
  have hWo := hide hwo
  have HR := hide (And.intro R A)
  have HX := hide (And.intro hx hi)
  have HJ := hide hj
  have HW := hide hW
  generalize (stAt st i).levels[j].2 = who at *
  generalize (stAt st i).levels.length = nl at *
  clear R A R1 A1 hrow hlev cs0 cl0 hx hi
  have hadd := hide (fun (u : World) (h1 : u.cell? ⟨p, 83, none⟩ = some (.int .i64 k)) (h2 : u.frozen? ⟨p, 83, none⟩ = false) => aAdd_any h1 h2 k0 k1)
  go_enter Tryz.func40, Tryz.ntmps40
  go_wp2_with fail
  clear hwo
  go_region_held3 (fun w' => w'.cell? ⟨p, 79, none⟩ = some (.slice (some ⟨sq, 0, none⟩) st.length scap) ∧ w'.cell? ⟨b, off, none⟩ = some (.int .i64 x.id) ∧ w'.cell? ⟨b, off + 1, none⟩ = some (.int .i64 i) ∧ w'.cell? ⟨b, off + 3, none⟩ = some (.int .i64 j) ∧ w'.cell? ⟨b, off + 4, none⟩ = some (.int .i64 x.due) ∧ w'.cell? ⟨sq, i * 7, none⟩ = some (.slice (some ⟨lq, 0, none⟩) nl lcap) ∧ w'.cell? ⟨lq, j * 2 + 1, none⟩ = some (.int .i64 who)) ((simp [*, World.cell?_alloc_some, World.cell?_setCell_far, World.cell?_setCell_other]; done))
    (first | (go_at_call 71; refine (hadd.out _ (by go_keep) (by go_keep)).mono ?_; rintro e w' ⟨rfl, rfl⟩))
  · generalize hW2 : World.drew _ = W2
    have HE := hide (tell_w1 (w := w) (wo := wo) (W2 := W2) (p := p) (k := k) (due := x.due) (id := x.id) (i := i) (j := j) (who := who) (cur := dArr lk K t m lv k) (e := 113) hWo.out HR.out.1.blk hW2)
    clear hW2
    have R2 := (HR.out.1.told (k + 1)).on (by simpa using HE.out.1)
    have A2 := (HR.out.2.set_other (j := 83) (v := .int .i64 (k + 1)) hne).on (by simpa using HE.out.1)
    have z3 := A2.cell 3 _ rfl
    have z4 := A2.cell 4 _ rfl
    rw [show dueC x = x.due by unfold dueC; rw [if_pos hd]] at z4
    have hl0 := HX.out.1.l0
    have hl1 := HX.out.1.l1
    have hwr : IntKind.i64.wrap (x.level + 1) = x.level + 1 := IntWalk.i64_in _ (by omega)
    have HAW := hide (await_any (R2.on (below_drewN (Below.refl _ _) 1)) (A2.on (below_drewN (Below.refl _ _) 1)) hs HX.out.1.s0 HX.out.1.s1 (x.level + 1) x.due (by omega) (by omega) hd HX.out.1.d1)
    have HA2 := hide A2
    clear R2 A2 c79 c83 f83 d0 d1 d3 d4 cs cl fa hadd hj hjl' hjl
    go_wp2_with fail
    go_still_tail 11, (by kernel_rfl)
    go_wp2_with fail
    refine HAW.out.mono ?_
    rintro e u ⟨rfl, hp⟩
    have hP1 := (HA2.out.put (below_drewN (Below.refl _ _) 1)).trans hp rfl
    have hsz2 : w.heap.size + 1 < W2.heap.size := (Array.getElem?_eq_some_iff.1 HE.out.2.2).1
    have hbw := HR.out.2.lt
    have x0 := (hP1.other w.heap.size (by omega) (by omega)).trans HE.out.2.1
    have x1 := (hP1.other (w.heap.size + 1) (by omega) (by omega)).trans HE.out.2.2
    have hPW : PutR (w.setCell ⟨p, 83, none⟩ (.int .i64 (k + 1))) u b off (rcCells (comesL F st { x with rest := 0 } (x.level + 1) x.due)) := ((HR.out.2.set_other (j := 83) (v := .int .i64 (k + 1)) hne).put (by simpa using HE.out.1)).trans hP1 rfl
    rw [show ({ x with rest := 0 } : Cs) = x by rw [← hr]] at hPW
    have HPW := hide hPW
    have t0 : u.cell? ⟨w.heap.size + 1, 0, none⟩ = some (.int .i64 (k + 1)) := by simp [World.cell?, x1]
    have t1 : u.cell? ⟨w.heap.size + 1, 1, none⟩ = some (.int .i64 x.due) := by simp [World.cell?, x1]
    have t2 : u.cell? ⟨w.heap.size + 1, 2, none⟩ = some (.int .i64 x.id) := by simp [World.cell?, x1]
    have t3 : u.cell? ⟨w.heap.size + 1, 3, none⟩ = some (.int .i64 i) := by simp [World.cell?, x1]
    have t4 : u.cell? ⟨w.heap.size + 1, 4, none⟩ = some (.int .i64 j) := by simp [World.cell?, x1]
    have t5 : u.cell? ⟨w.heap.size + 1, 5, none⟩ = some (.int .i64 who) := by simp [World.cell?, x1]
    have s0 : u.cell? ⟨w.heap.size, 0, none⟩ = some (.int .i64 0) := by simp [World.cell?, x0]
    have s1 : u.cell? ⟨w.heap.size, 1, none⟩ = some (.int .i64 0) := by simp [World.cell?, x0]
    have s2 : u.cell? ⟨w.heap.size, 2, none⟩ = some (.int .i64 0) := by simp [World.cell?, x0]
    have s3 : u.cell? ⟨w.heap.size, 3, none⟩ = some (.int .i64 0) := by simp [World.cell?, x0]
    have s4 : u.cell? ⟨w.heap.size, 4, none⟩ = some (.int .i64 0) := by simp [World.cell?, x0]
    have s5 : u.cell? ⟨w.heap.size, 5, none⟩ = some (.int .i64 0) := by simp [World.cell?, x0]
    have sf : ∀ j, u.frozen? ⟨w.heap.size, j, none⟩ = false := fun j => by simp [World.frozen?, x0]
    have HZ : Hid (Below w.heap.size u (six u w.heap.size (.int .i64 (k + 1)) (.int .i64 x.due) (.int .i64 x.id) (.int .i64 i) (.int .i64 j) (.int .i64 who))) := six_below _ _ _ _ _ _ (Below.refl _ _) (Nat.le_refl _)
    have HEV : Hid (evV (evOf st x (k + 1)) = .agg #[.int .i64 (k + 1), .int .i64 x.due, .int .i64 x.id, .int .i64 i, .int .i64 j, .int .i64 who]) := by
      unfold Hid evV evOf
      dsimp only
      rw [HW.out, HX.out.2, HJ.out]
    clear hp hP1 x0 x1 hPW z3 z4 HE HAW HA2
    go_wp2_with fail
    refine bodyPost_ret (v := .agg #[.int .i64 (k + 1), .int .i64 x.due, .int .i64 x.id, .int .i64 i, .int .i64 j, .int .i64 who]) (by simp [results, Tryz.f40, go_sem, s0, s1, s2, s3, s4, s5]) rfl ?_
    rw [HEV.out]
    have HP3 := HPW.out.then (by simpa using HZ.out)
    unfold six at HP3
    exact ⟨rfl, (HR.out.1.told (k + 1)).put HP3, HP3⟩
  · generalize hW2 : World.drew _ = W2
    have HE := hide (tell_w (w := w) (wo := wo) (W2 := W2) (p := p) (k := k) (due := x.due) (id := x.id) (i := i) (j := j) (who := who) (cur := dArr lk K t m lv k) (e := 113) hWo.out HR.out.1.blk (by unfold six; exact hW2))
    clear hW2
    have R2 := (HR.out.1.told (k + 1)).on (by simpa using HE.out.1)
    have A2 := (HR.out.2.set_other (j := 83) (v := .int .i64 (k + 1)) hne).on (by simpa using HE.out.1)
    have z3 := A2.cell 3 _ rfl
    have z4 := A2.cell 4 _ rfl
    rw [show dueC x = x.due by unfold dueC; rw [if_pos hd]] at z4
    have hl0 := HX.out.1.l0
    have hl1 := HX.out.1.l1
    have hwr : IntKind.i64.wrap (x.level + 1) = x.level + 1 := IntWalk.i64_in _ (by omega)
    have HAW := hide (await_any (R2.on (below_drewN (Below.refl _ _) 1)) (A2.on (below_drewN (Below.refl _ _) 1)) hs HX.out.1.s0 HX.out.1.s1 (x.level + 1) x.due (by omega) (by omega) hd HX.out.1.d1)
    have HA2 := hide A2
    clear R2 A2 c79 c83 f83 d0 d1 d3 d4 cs cl fa hadd hj hjl' hjl
    go_wp2_with fail
    go_still_tail 11, (by kernel_rfl)
    go_wp2_with fail
    refine HAW.out.mono ?_
    rintro e u ⟨rfl, hp⟩
    have hP1 := (HA2.out.put (below_drewN (Below.refl _ _) 1)).trans hp rfl
    have hsz2 : w.heap.size + 1 < W2.heap.size := (Array.getElem?_eq_some_iff.1 HE.out.2.2).1
    have hbw := HR.out.2.lt
    have x0 := (hP1.other w.heap.size (by omega) (by omega)).trans HE.out.2.1
    have x1 := (hP1.other (w.heap.size + 1) (by omega) (by omega)).trans HE.out.2.2
    have hPW : PutR (w.setCell ⟨p, 83, none⟩ (.int .i64 (k + 1))) u b off (rcCells (comesL F st { x with rest := 0 } (x.level + 1) x.due)) := ((HR.out.2.set_other (j := 83) (v := .int .i64 (k + 1)) hne).put (by simpa using HE.out.1)).trans hP1 rfl
    rw [show ({ x with rest := 0 } : Cs) = x by rw [← hr]] at hPW
    have HPW := hide hPW
    have t0 : u.cell? ⟨w.heap.size + 1, 0, none⟩ = some (.int .i64 (k + 1)) := by simp [World.cell?, x1]
    have t1 : u.cell? ⟨w.heap.size + 1, 1, none⟩ = some (.int .i64 x.due) := by simp [World.cell?, x1]
    have t2 : u.cell? ⟨w.heap.size + 1, 2, none⟩ = some (.int .i64 x.id) := by simp [World.cell?, x1]
    have t3 : u.cell? ⟨w.heap.size + 1, 3, none⟩ = some (.int .i64 i) := by simp [World.cell?, x1]
    have t4 : u.cell? ⟨w.heap.size + 1, 4, none⟩ = some (.int .i64 j) := by simp [World.cell?, x1]
    have t5 : u.cell? ⟨w.heap.size + 1, 5, none⟩ = some (.int .i64 who) := by simp [World.cell?, x1]
    have s0 : u.cell? ⟨w.heap.size, 0, none⟩ = some (.int .i64 0) := by simp [World.cell?, x0]
    have s1 : u.cell? ⟨w.heap.size, 1, none⟩ = some (.int .i64 0) := by simp [World.cell?, x0]
    have s2 : u.cell? ⟨w.heap.size, 2, none⟩ = some (.int .i64 0) := by simp [World.cell?, x0]
    have s3 : u.cell? ⟨w.heap.size, 3, none⟩ = some (.int .i64 0) := by simp [World.cell?, x0]
    have s4 : u.cell? ⟨w.heap.size, 4, none⟩ = some (.int .i64 0) := by simp [World.cell?, x0]
    have s5 : u.cell? ⟨w.heap.size, 5, none⟩ = some (.int .i64 0) := by simp [World.cell?, x0]
    have sf : ∀ j, u.frozen? ⟨w.heap.size, j, none⟩ = false := fun j => by simp [World.frozen?, x0]
    have HZ : Hid (Below w.heap.size u (six u w.heap.size (.int .i64 (k + 1)) (.int .i64 x.due) (.int .i64 x.id) (.int .i64 i) (.int .i64 j) (.int .i64 who))) := six_below _ _ _ _ _ _ (Below.refl _ _) (Nat.le_refl _)
    have HEV : Hid (evV (evOf st x (k + 1)) = .agg #[.int .i64 (k + 1), .int .i64 x.due, .int .i64 x.id, .int .i64 i, .int .i64 j, .int .i64 who]) := by
      unfold Hid evV evOf
      dsimp only
      rw [HW.out, HX.out.2, HJ.out]
    clear hp hP1 x0 x1 hPW z3 z4 HE HAW HA2
    go_wp2_with fail
    refine bodyPost_ret (v := .agg #[.int .i64 (k + 1), .int .i64 x.due, .int .i64 x.id, .int .i64 i, .int .i64 j, .int .i64 who]) (by simp [results, Tryz.f40, go_sem, s0, s1, s2, s3, s4, s5]) rfl ?_
    rw [HEV.out]
    have HP3 := HPW.out.then (by simpa using HZ.out)
    unfold six at HP3
    exact ⟨rfl, (HR.out.1.told (k + 1)).put HP3, HP3⟩
end
end Go.Proofs.YtcnmbldikjljeaaGreatDoor
namespace Go.Proofs.YtcnmbldikjljeaaGreatDoor
open Go.Shelf Go.RowKit Go.Lib Go.Sort Go.MuLone

def qOf (lv : Value) : Nat := lv.ownBlock.getD 0
section
variable {w wr u : World} {p : Nat} {K : Kf} {F : Nat → Bool} {st : List Stg} {lv : Value} {d : Dk} {N : Int} {lk : Int}
theorem firstP_any (R : PD w p K F st lk lv d) (hl : d.cases.length ≤ 1000) (hids : (d.cases.map Cs.id).Pairwise (· < ·)) :
    Calls Tryz.prog 39 #[P0 p] w fun e w' => e = .returned (ptrAt (qOf lv) (nextL d.cases)) ∧ Below w.heap.size w w' := by
  rcases R.own.2 with ⟨rfl, hz⟩ | ⟨q, cap, cur, rfl, _⟩
  · refine (first_nil R).mono ?_
    rintro e w' ⟨rfl, hn, hb⟩
    rw [hn]
    exact ⟨rfl, hb⟩
  · exact first_some R hl hids
/-- a row of the call's own was written, or moved -/
theorem PD.grown {base size n : Nat} {e : TypeId} {v : Value} {xs : List Value} (R : PD w p K F st lk lv d) (hv : w.ownsRow base e size v n xs) (he : e ≠ 113 ∧ e ≠ 140 ∧ e ≠ 131 ∧ e ≠ 127 ∧ e ≠ 119) (hg : w.grownBy u v.ownBlock) : PD u p K F st lk lv d := by
  rcases hv.2 with ⟨rfl, _⟩ | ⟨q, cap, cur, rfl, _, hq, _⟩
  · exact R.on ⟨hg.os, hg.tape, hg.output, hg.size, fun k hk => hg.block k hk (by simp [Value.ownBlock])⟩
  · exact ⟨R.pr.left (b := q) hg hq he.1 he.2.1 he.2.2.1 he.2.2.2.1, row_leftP R.own (b := q) hg hq he.2.2.2.2⟩
theorem Frm.grown {size n : Nat} {e : TypeId} {v : Value} {xs : List Value} (f : Frm p lv lv w wr) (hv : wr.ownsRow w.heap.size e size v n xs) (hg : wr.grownBy u v.ownBlock) : Frm p lv lv w u :=
  ⟨hg.os.trans f.os, hg.tape.trans f.tape, hg.output.trans f.output, Nat.le_trans f.size hg.size, fun k hk h1 h2 => (hg.block k (Nat.lt_of_lt_of_le hk f.size) (fun e => by have := (hv.lt k e.symm).1; omega)).trans (f.block k hk h1 h2), fun _ h => .inl h⟩
/-- where Tick's loop stands -/
structure TP (w : World) (p : Nat) (K : Kf) (F : Nat → Bool) (st : List Stg) (lv : Value) (d : Dk) (T : Int) (wr : World) (ov : Value) (l : List Cs) (es : List Ev) : Prop where
  pd : PD wr p K F st 1 lv ⟨T, d.made, d.told + es.length, l⟩
  own : wr.ownsRow w.heap.size 63 6 ov es.length (evsCells es)
  fr : Frm p lv lv w wr
  ok : ∀ x ∈ l, CsOk st x
  rs : ∀ x ∈ l, RestOk st x
  ids : (l.map Cs.id).Pairwise (· < ·)
  len : l.length = d.cases.length
  left : es.length + leftL st l ≤ 80
  nl : es = [] → ov = .slice none 0 0
  res : es ++ (tickGo F st T (leftL st l) l (d.told + es.length)).1 = (tickGo F st T (leftL st d.cases) d.cases d.told).1 ∧ (tickGo F st T (leftL st l) l (d.told + es.length)).2 = (tickGo F st T (leftL st d.cases) d.cases d.told).2
theorem TP.on {T : Int} {ov : Value} {l : List Cs} {es : List Ev} (h : TP w p K F st lv d T wr ov l es) (hb : Below wr.heap.size wr u) : TP w p K F st lv d T u ov l es :=
  ⟨h.pd.on hb, row_on h.own hb, h.fr.trans (.of_below hb), h.ok, h.rs, h.ids, h.len, h.left, h.nl, h.res⟩
/-- one event more -/
theorem TP.next {w10 w11 : World} {q cap i : Nat} {T : Int} {ov ov' : Value} {l : List Cs} {es : List Ev} (hs : StOk st) (h : TP w p K F st (.slice (some ⟨q, 0, none⟩) l.length cap) d T wr ov l es)
    (hi : nextL l = i) (hil : i < l.length) (h2 : (csAt l i).due ≤ T)
    (hP : PutR (wr.setCell ⟨p, 83, none⟩ (.int .i64 (d.told + es.length + 1))) w10 q (i * 7) (rcCells (comesL F st (csAt l i) ((csAt l i).level + 1) (csAt l i).due)))
    (hA : Below w10.heap.size w10 w11) (hg : w11.grownBy u ov.ownBlock) (hown : u.ownsRow w.heap.size 63 6 ov' (es.length + 1) (evsCells es ++ evCells (evOf st (csAt l i) (d.told + es.length + 1)))) :
    TP w p K F st (.slice (some ⟨q, 0, none⟩) l.length cap) d T u ov' (l.set i (comesL F st (csAt l i) ((csAt l i).level + 1) (csAt l i).due)) (es ++ [evOf st (csAt l i) (d.told + es.length + 1)]) := by
  obtain ⟨i', hi', _, hx, hd0, hok', hlt⟩ := tick_step (F := F) (T := T) hs h.ok (by omega) (by rw [hi]; exact h2)
  obtain rfl : i' = i := by omega
  have hmore := tick_more (F := F) (k := d.told + es.length) hs h.ok hi h2
  have ek : d.told + ((es ++ [evOf st (csAt l i') (d.told + es.length + 1)]).length : Int) = d.told + es.length + 1 := by simp; omega
  obtain ⟨R1, F1⟩ := h.pd.told (d.told + es.length + 1)
  obtain ⟨R2, F2⟩ := PD.put (d := ⟨T, d.made, d.told + es.length + 1, l⟩) R1 i' hil hP
  have hG : wr.grownBy (wr.setCell ⟨p, 83, none⟩ (.int .i64 (d.told + es.length + 1))) (some p) := ⟨rfl, rfl, rfl, by simp, fun k _ hne => Below.heap_setCell _ _ _ k (fun e => hne (by rw [e]))⟩
  have o1 := row_leftP h.own hG h.pd.pr.blk (by decide)
  obtain ⟨cur, cur', p1, _⟩ := hP.blk
  have o2 := row_leftP o1 hP.grown p1 (by decide)
  have o3 := row_on o2 hA
  have R3 := (R2.on hA).grown o3 (by decide) hg
  have F3 := ((h.fr.trans F1).trans (F2.trans (.of_below hA))).grown o3 hg
  have hm : csAt l i' ∈ l := by rw [csAt_nat hil]; exact List.getElem_mem hil
  refine ⟨by rw [ek]; exact R3, by rw [evsCells_snoc, List.length_append]; exact hown, F3, hok', fun z hz => ?_, ?_, by simp [h.len], ?_, fun e => by simp at e, ?_⟩
  · rcases set_mem hz with rfl | a
    · exact comes_rest _ _ _ (fun hp => by have := (h.rs _ hm hp).2.1; omega)
    · exact h.rs z a
  · rw [set_ids hil (comes_stage (F := F) (st := st) (x := csAt l i') (level := (csAt l i').level + 1) (t := (csAt l i').due)).2.2.2]; exact h.ids
  · have := h.left
    simp; omega
  · rw [ek]
    have hres := h.res
    rw [hmore] at hres
    refine ⟨?_, hres.2⟩
    rw [← hres.1]
    simp
set_option maxRecDepth 100000 in
set_option maxHeartbeats 1000000 in
theorem tick_bad (R : PD w p K F st 0 lv d) (n : Int) (t0 : 0 ≤ d.time) (t1 : d.time ≤ 100800) (h : n < 0 ∨ 100800 - d.time < n) :
    Calls Tryz.prog 15 #[P0 p, .int .i64 n] w fun e w' => e = .returned (.tuple #[.slice none 0 0, .int .i64 1]) ∧ PD w' p K F st 0 lv d ∧ Frm p lv lv w w' := by
  have c0 := R.pr.c0
  have f0 := R.pr.frz 0
  obtain ⟨R1, F1⟩ := R.lock 1
  have H1 := hide (And.intro R1 F1)
  have c80 := R1.pr.c80
  clear R R1 F1
  by_cases h1 : n < 0
  · clear h
    go_enter_defers Tryz.func15, Tryz.ntmps15
    go_wp2_with (go_at_call 36; refine (lock_free muLib ⟨p, 0, none⟩ _ c0 f0).mono ?_; rintro e w' ⟨rfl, rfl⟩)
    refine leaves_cons (f := 37) (args := #[.pointer (some ⟨p, 0, none⟩)]) (by simp) (by simp [go_sem]) ?_
    refine (unlock_deferred muLib ⟨p, 0, none⟩ .returning _ H1.out.1.pr.c0 (H1.out.1.pr.frz 0)).mono ?_
    rintro e u' w'' ⟨rfl, rfl, rfl⟩
    exact ⟨_, results_tmp2 rfl _ _ _, rfl, H1.out.1.free H1.out.2⟩
  · have h2 : 100800 - d.time < n := by omega
    clear h
    go_enter_defers Tryz.func15, Tryz.ntmps15
    go_wp2_with (go_at_call 36; refine (lock_free muLib ⟨p, 0, none⟩ _ c0 f0).mono ?_; rintro e w' ⟨rfl, rfl⟩)
    refine leaves_cons (f := 37) (args := #[.pointer (some ⟨p, 0, none⟩)]) (by simp) (by simp [go_sem]) ?_
    refine (unlock_deferred muLib ⟨p, 0, none⟩ .returning _ H1.out.1.pr.c0 (H1.out.1.pr.frz 0)).mono ?_
    rintro e u' w'' ⟨rfl, rfl, rfl⟩
    exact ⟨_, results_tmp2 rfl _ _ _, rfl, H1.out.1.free H1.out.2⟩
end
end Go.Proofs.YtcnmbldikjljeaaGreatDoor
namespace Go.Proofs.YtcnmbldikjljeaaGreatDoor
open Go.Shelf Go.RowKit Go.Lib Go.Sort Go.MuLone

section
variable {w wr u : World} {p : Nat} {K : Kf} {F : Nat → Bool} {st : List Stg} {lv : Value} {d : Dk} {N : Int} {lk : Int}
theorem TP.row10 {w10 : World} {q i : Nat} {T k : Int} {ov : Value} {l : List Cs} {es : List Ev} {us : List Value} (h : TP w p K F st lv d T wr ov l es)
    (hP : PutR (wr.setCell ⟨p, 83, none⟩ (.int .i64 k)) w10 q i us) : w10.ownsRow w.heap.size 63 6 ov es.length (evsCells es) := by
  have hG : wr.grownBy (wr.setCell ⟨p, 83, none⟩ (.int .i64 k)) (some p) := ⟨rfl, rfl, rfl, by simp, fun k _ hne => Below.heap_setCell _ _ _ k (fun e => hne (by rw [e]))⟩
  have o1 := row_leftP h.own hG h.pd.pr.blk (by decide)
  obtain ⟨cur, cur', p1, _⟩ := hP.blk
  exact row_leftP o1 hP.grown p1 (by decide)
set_option maxRecDepth 100000 in
set_option maxHeartbeats 16000000 in
theorem tickN_any (R : PD w p K F st 0 lv d) (ok : DkOk F st d 4611686018427387000) (hr : DkR st d) (iv : InvD F d) (hs : StOk st) (n : Int) :
    Calls Tryz.prog 15 #[P0 p, .int .i64 n] w fun e w' => ∃ ov, e = .returned (.tuple #[ov, .int .i64 (tickC F st d n).2.2]) ∧ w'.ownsRow w.heap.size 63 6 ov (tickC F st d n).2.1.length (evsCells (tickC F st d n).2.1) ∧ ((tickC F st d n).2.2 ≠ 0 → ov = .slice none 0 0) ∧ ((tickC F st d n).2.1 = [] → ov = .slice none 0 0) ∧ PD w' p K F st 0 lv (tickC F st d n).1 ∧ Frm p lv lv w w' := by
  have hlen := ok.len
  have t0 := ok.t0
  have t1 := ok.t1
  by_cases hbad : n < 0 ∨ 100800 - d.time < n
  · have hE : tickC F st d n = (d, [], 1) := by unfold tickC; rw [if_pos hbad]
    rw [hE]
    refine (tick_bad R n t0 t1 hbad).mono ?_
    rintro e w' ⟨rfl, h1, h2⟩
    exact ⟨_, rfl, World.ownsRow_nil _ _ _ _, fun _ => rfl, fun _ => rfl, h1, h2⟩
  · obtain ⟨T, hT⟩ : ∃ T, T = d.time + n := ⟨_, rfl⟩
    have HE := hide (show tickC F st d n = (⟨T, d.made, (tickGo F st T (leftL st d.cases) d.cases d.told).2.2, (tickGo F st T (leftL st d.cases) d.cases d.told).2.1⟩, (tickGo F st T (leftL st d.cases) d.cases d.told).1, 0) by unfold tickC; rw [if_neg hbad, ← hT])
    have n0 : 0 ≤ n := by omega
    have n1 : n ≤ 100800 - d.time := by omega
    have c0 := R.pr.c0
    have f0 := R.pr.frz 0
    obtain ⟨R1, F1⟩ := R.lock 1
    have c80 := R1.pr.c80
    have f80 := R1.pr.frz 80
    obtain ⟨R2, F2⟩ := R1.time T
    have hl80 : leftL st d.cases ≤ 80 := by have := leftL_le hs d.cases ok.cs; omega
    have TP0 : TP w p K F st lv d T ((w.setCell ⟨p, 0, none⟩ (.int .i32 1)).setCell ⟨p, 80, none⟩ (.int .i64 T)) (.slice none 0 0) d.cases [] := ⟨by simpa using R2, World.ownsRow_nil _ _ _ _, F1.trans F2, ok.cs, hr, iv.ids, rfl, by simpa using hl80, fun _ => rfl, by simp⟩
    have HTP := hide TP0
    have HQ := hide (And.intro hs (And.intro ok.k0 ok.k1))
    have hT0 : 0 ≤ T := by omega
    have hT1 : T ≤ 100800 := by omega
    obtain ⟨i0, hi0, hz0, hz1, hz2⟩ := info_parts eventInfo
    have HII := hide hi0
    clear R R1 F1 R2 F2 TP0 hbad hi0 hs ok hr iv
    rw [hT] at HTP
    go_enter_defers Tryz.func15, Tryz.ntmps15
    go_wp2_with (go_at_call 36; refine (lock_free muLib ⟨p, 0, none⟩ _ c0 f0).mono ?_; rintro e w' ⟨rfl, rfl⟩)
    rw [← hT] at HTP ⊢
    clear hT c0 f0 c80 f80
    generalize (w.setCell ⟨p, 0, none⟩ (.int .i32 1)).setCell ⟨p, 80, none⟩ (.int .i64 T) = W0 at *
    refine (firstP_any HTP.out.pd (by simp; omega) HTP.out.ids).mono ?_
    rintro e u0 ⟨rfl, hb0⟩
    have HT0 := hide (HTP.out.on hb0)
    clear HTP hb0
    dsimp only
    go_wp2_with fail
    go_loopw [6, 7] (fun ov rv wr => ∃ l es, rv = ptrAt (qOf lv) (nextL l) ∧ TP w p K F st lv d T wr ov l es) (fun ov _ _ => 81 - lenV ov)
    case atStart => exact ⟨_, _, rfl, HT0.out⟩
    case round =>
      clear HT0
      obtain ⟨l, es, rfl, KK⟩ := hrel
      have hl1 : l.length ≤ 20 := by rw [KK.len]; exact hlen
      have HFIN : Hid ((nextL l < 0 ∨ T < (csAt l (nextL l)).due) → tickC F st d n = (⟨T, d.made, d.told + es.length, l⟩, es, 0)) := by
        intro hc
        have hr := KK.res
        rw [tick_done hc] at hr
        rw [HE.out]
        simp only [List.append_nil] at hr
        rw [← hr.1, ← hr.2]
      have HK := hide KK
      clear KK
      by_cases h1 : nextL l < 0
      · have HFF := hide (HFIN.out (.inl h1))
        rw [show ptrAt (qOf lv) (nextL l) = .pointer none by unfold ptrAt; rw [if_pos h1]]
        clear HFIN h1
        go_wp2_with fail
        go_quiet (fail)
        have HK1 := hide (HK.out.on (below_drewN (Below.refl _ _) nq))
        clear HK
        go_wp2_with fail
        refine leaves_cons (f := 37) (args := #[.pointer (some ⟨p, 0, none⟩)]) (by simp) (by simp [go_sem]) ?_
        refine (unlock_deferred muLib ⟨p, 0, none⟩ .returning _ HK1.out.pd.pr.c0 (HK1.out.pd.pr.frz 0)).mono ?_
        rintro e u' w'' ⟨rfl, rfl, rfl⟩
        rw [HFF.out]
        have hfr := HK1.out.pd.free HK1.out.fr
        exact ⟨_, results_tmp2 rfl _ _ _, _, rfl, row_leftP HK1.out.own (b := p) ⟨rfl, rfl, rfl, by simp, fun k _ hne => Below.heap_setCell _ _ _ k (fun e => hne (by rw [e]))⟩ HK1.out.pd.pr.blk (by decide), fun h => absurd rfl h, HK1.out.nl, hfr⟩
      · obtain ⟨i, hi⟩ : ∃ i : Nat, nextL l = i := ⟨(nextL l).toNat, by omega⟩
        have hbd := nextTo_bd l l.length
        have hil : i < l.length := by unfold nextL at hi; omega
        have hd0 : 0 ≤ (csAt l i).due := by unfold nextL at hi; rw [← hi]; exact hbd.2.2 (by omega)
        obtain ⟨q, cap, hlv⟩ := row_some HK.out.pd.own (by simp; omega)
        simp only at hlv
        subst hlv
        have hA1 := PD.ra (d := ⟨T, d.made, d.told + es.length, l⟩) HK.out.pd i hil
        have c80 := HK.out.pd.pr.c80
        have e4 := hA1.cell 4 _ rfl
        rw [show dueC (csAt l i) = (csAt l i).due by unfold dueC; rw [if_pos hd0]] at e4
        simp only at c80
        rw [show ptrAt (qOf (.slice (some ⟨q, 0, none⟩) l.length cap)) (nextL l) = .pointer (some ⟨q, i * 7, none⟩) by unfold ptrAt; rw [hi, if_neg (by omega)]; simp [qOf, Value.ownBlock]]
        by_cases h2 : T < (csAt l i).due
        · have HFF := hide (HFIN.out (.inr (by rw [hi]; exact h2)))
          clear HFIN hA1 hbd h1
          generalize (csAt l i).due = y at *
          go_wp2_with fail
          go_quiet (fail)
          have HK1 := hide (HK.out.on (below_drewN (Below.refl _ _) nq))
          clear HK c80 e4
          go_wp2_with fail
          refine leaves_cons (f := 37) (args := #[.pointer (some ⟨p, 0, none⟩)]) (by simp) (by simp [go_sem]) ?_
          refine (unlock_deferred muLib ⟨p, 0, none⟩ .returning _ HK1.out.pd.pr.c0 (HK1.out.pd.pr.frz 0)).mono ?_
          rintro e u' w'' ⟨rfl, rfl, rfl⟩
          rw [HFF.out]
          have hfr := HK1.out.pd.free HK1.out.fr
          exact ⟨_, results_tmp2 rfl _ _ _, _, rfl, row_leftP HK1.out.own (b := p) ⟨rfl, rfl, rfl, by simp, fun k _ hne => Below.heap_setCell _ _ _ k (fun e => hne (by rw [e]))⟩ HK1.out.pd.pr.blk (by decide), fun h => absurd rfl h, HK1.out.nl, hfr⟩
        · have h2' : (csAt l i).due ≤ T := by omega
          have hm : csAt l i ∈ l := by rw [csAt_nat hil]; exact List.getElem_mem hil
          have hx := HK.out.ok _ hm
          have hrx := HK.out.rs _ hm
          have hrest : (csAt l i).rest = 0 := by
            have h2 := hx.r0
            unfold RestOk at hrx
            by_cases h3 : 0 < (csAt l i).rest
            · have := (hrx h3).2.1; omega
            · omega
          have hk0 := HQ.out.2.1
          have hk1 := HQ.out.2.2
          have hleft := HK.out.left
          have HTL := hide (fun (z : World) (hb : Below wr.heap.size wr z) => tell_any (HK.out.pd.on hb).pr (hA1.on hb) HQ.out.1 hx hd0 hrest (by simp only; omega) (by simp only; omega))
          have HD := hide (And.intro h2' hil)
          have HI := hide hi
          have hesl : es.length ≤ 80 := by omega
          clear HFIN hA1 hbd h1 hx hrx hrest hk0 hk1 hleft hd0 hm hi
          simp only at HTL
          generalize hev : evOf st (csAt l i) (d.told + es.length + 1) = ev at *
          have HEV := hide hev
          obtain ⟨a0, a1, a2, a3, a4, a5⟩ := ev
          clear hev
          unfold evV at HTL
          simp only at HTL
          generalize hdu : (csAt l i).due = y at e4 h2 h2' ⊢
          clear hdu
          go_wp2_with fail
          go_quiet (fail)
          have HK1 := hide (HK.out.on (below_drewN (Below.refl _ _) nq))
          have HT1 := hide (HTL.out _ (below_drewN (Below.refl _ _) nq))
          clear HK HTL c80 e4 h2 h2'
          generalize wr.drewN nq = W2 at *
          go_wp2_with fail
          refine HT1.out.mono ?_
          rintro e w10 ⟨rfl, hP1, hP⟩
          have HO10 := hide (HK1.out.row10 hP)
          have hpb := HK1.out.fr.size
          have hs10 : w.heap.size ≤ w10.heap.size := by have := hP.size; simp at this; omega
          have HP := hide hP
          clear hP hP1 HT1
          go_upto_region 9 with (first | (at_builtin; go_must (refine wpList_append_lies _ rfl _ _ 38 rfl w.heap.size 63 i0 _ 6 48 Tryz.underlying38 HII.out hz0 hz1 hz2 rfl (by decide) u6 es.length (evsCells es) (by rfl) (HO10.out.alloc _) ⟨w10.heap.size, 0, none⟩ 1 1 [.int .i64 a0, .int .i64 a1, .int .i64 a2, .int .i64 a3, .int .i64 a4, .int .i64 a5] (by rfl) (by rfl) (World.news_of_block (cs := #[.int .i64 a0, .int .i64 a1, .int .i64 a2, .int .i64 a3, .int .i64 a4, .int .i64 a5]) (t := 63) (fr := (0, 0)) (heap_alloc_new w10 _)) (by simp [Value.oneCell']) (by omega) (by unfold maxLen; omega) (by omega) (by simp; omega) (w10.heap.size + 1) (by simp) ?_); intro gg gcap w12 hown12 hgrow12 hat12 hlt12) | fail)
          have HT12 := hide (TP.next (w10 := w10) HQ.out.1 HK1.out HI.out HD.out.2 HD.out.1 HP.out ((Below.refl _ _).alloc (Nat.le_refl _) _) hgrow12 (by rw [HEV.out]; exact hown12))
          have hlenu : lenV u6 = es.length := lenV_own HK1.out.own
          clear hown12 hgrow12 hat12 HP HO10 HK1
          go_wp2_with fail
          refine (firstP_any HT12.out.pd (by simp; omega) HT12.out.ids).mono ?_
          rintro e w13 ⟨rfl, hb13⟩
          have HT13 := hide (HT12.out.on hb13)
          clear hb13 HT12
          dsimp only
          go_wp2_with fail
          go_roundw
          case rel => exact ⟨_, _, rfl, HT13.out⟩
          case measure => rw [hlenu]; simp only [lenV]; omega
theorem tick_any (R : PD w p K F st 0 lv d) (ok : DkOk F st d 4611686018427387000) (hr : DkR st d) (iv : InvD F d) (hs : StOk st) (n : Int) :
    Calls Tryz.prog 15 #[P0 p, .int .i64 n] w fun e w' => ∃ ov, e = .returned (.tuple #[ov, .int .i64 (tickC F st d n).2.2]) ∧ w'.ownsRow w.heap.size 63 6 ov (tickC F st d n).2.1.length (evsCells (tickC F st d n).2.1) ∧ ((tickC F st d n).2.2 ≠ 0 → ov = .slice none 0 0) ∧ PD w' p K F st 0 lv (tickC F st d n).1 ∧ Frm p lv lv w w' := by
  refine (tickN_any R ok hr iv hs n).mono ?_
  rintro e w' ⟨ov, h1, h2, h3, _, h4, h5⟩
  exact ⟨ov, h1, h2, h3, h4, h5⟩
end
end Go.Proofs.YtcnmbldikjljeaaGreatDoor
