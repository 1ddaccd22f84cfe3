import Derived.Test.YtcnmbldikjljeaaGreatDoorJ40
import Derived.Test.YtcnmbldikjljeaaGreatDoorJ06
import Derived.Deep.RegionHeld3
import Derived.Laws.LoneSync
import Derived.Test.YtcnmbldikjljeaaGreatDoorRows
import Derived.Conc.MuLone
import Derived.KernelRfl
import Derived.WalkKit
namespace Go.Proofs.YtcnmbldikjljeaaGreatDoor
open Go.Shelf Go.RowKit Go.Lib Go.Sort

def orI (x y : Int) : Int := if x = 0 then y else x
set_option maxRecDepth 100000 in
set_option maxHeartbeats 1000000 in
theorem or_any (x y : Int) (g : Nat) (w : World) (c0 : w.cell? ⟨g, 0, none⟩ = some (.int .i64 x)) (c1 : w.cell? ⟨g, 1, none⟩ = some (.int .i64 y)) :
    Calls Tryz.prog 80 #[.slice (some ⟨g, 0, none⟩) 2 2] w fun e w' => e = .returned (.int .i64 (orI x y)) ∧ w' = w := by
  go_enter Tryz.func80, Tryz.ntmps80
  go_wp2_with fail
  go_loopw [8] (fun iv wr => ∃ i : Nat, i ≤ 2 ∧ iv = .int .i64 i ∧ wr = w ∧ Hid ((1 ≤ i → x = 0) ∧ (2 ≤ i → y = 0))) (fun iv _ => 2 - (intOf iv).toNat)
  case atStart => exact ⟨0, by omega, rfl, rfl, ⟨fun h => by omega, fun h => by omega⟩⟩
  case round =>
    obtain ⟨i, hi, rfl, rfl, HI⟩ := hrel
    rcases (show i = 0 ∨ i = 1 ∨ i = 2 by omega) with rfl | rfl | rfl
    · by_cases hx : x = 0
      · have hxb : (x != 0) = false := by simp [hx]
        have HX := hide hx
        clear hx
        go_wp2_with fail
        go_roundw
        case rel => exact ⟨1, by omega, by go_num, (by trivial), ⟨fun _ => HX.out, fun h => by omega⟩⟩
        case measure => simp [intOf]
      · have hxb : (x != 0) = true := by simp [hx]
        have HO := hide (show orI x y = x by unfold orI; rw [if_neg hx])
        clear hx
        go_wp2_with fail
        go_ret
        rw [HO.out]
        exact ⟨rfl, rfl⟩
    · have HO := hide (show orI x y = y by unfold orI; rw [if_pos (HI.out.1 (by omega))])
      by_cases hy : y = 0
      · have hyb : (y != 0) = false := by simp [hy]
        have HY := hide hy
        clear hy
        go_wp2_with fail
        go_roundw
        case rel => exact ⟨2, by omega, by go_num, (by trivial), ⟨fun _ => HI.out.1 (by omega), fun _ => HY.out⟩⟩
        case measure => simp [intOf]
      · have hyb : (y != 0) = true := by simp [hy]
        clear hy
        go_wp2_with fail
        go_ret
        rw [HO.out]
        exact ⟨rfl, rfl⟩
    · have HO := hide (show orI x y = 0 by unfold orI; rw [if_pos (HI.out.1 (by omega)), HI.out.2 (by omega)])
      go_wp2_with fail
      go_ret
      rw [HO.out]
      exact ⟨rfl, rfl⟩
def turnI (a b : Int × Int) : Int := orI (Lib.compareInt a.2 b.2) (Lib.compareInt a.1 b.1)
theorem ltT (a b : Int × Int) : ltOf turnI a b = true ↔ TL a b := by
  unfold ltOf turnI orI Lib.compareInt TL
  by_cases h1 : a.2 < b.2
  · simp [h1]
  · by_cases h2 : b.2 < a.2
    · simp [h1, h2]; omega
    · by_cases h3 : a.1 < b.1
      · simp [h1, h2, h3]; omega
      · by_cases h4 : b.1 < a.1 <;> simp [h1, h2, h3, h4]
theorem swoT : SWO (ltOf turnI) where
  irrefl x := by
    have := ltT x x
    have h : ¬ TL x x := by unfold TL; omega
    simpa [h] using this
  trans x y z h1 h2 := (ltT x z).2 (((ltT x y).1 h1).trans ((ltT y z).1 h2))
  ntrans x y z h1 h2 := by
    have a := ltT x y
    have b := ltT y z
    have c := ltT x z
    rw [h1] at a
    rw [h2] at b
    have h : ¬ TL x z := by
      have h3 : ¬ TL x y := fun e => by simpa using a.2 e
      have h4 : ¬ TL y z := fun e => by simpa using b.2 e
      unfold TL at *; omega
    simpa [h] using c
set_option maxRecDepth 100000 in
set_option maxHeartbeats 1000000 in
theorem inTurn_any (x y : Int × Int) (W : World) : Calls Tryz.prog 53 #[.agg #[.int .i64 x.1, .int .i64 x.2], .agg #[.int .i64 y.1, .int .i64 y.2]] W fun e w' => e = .returned (.int .i64 (turnI x y)) ∧ ∃ q os', w' = grow (W.drewN q) os' := by
  have h1 := hide (fun W' => compare_any x.2 y.2 W')
  have h2 := hide (fun W' => compare_any x.1 y.1 W')
  have h3 := hide (fun g W' => or_any (Lib.compareInt x.2 y.2) (Lib.compareInt x.1 y.1) g W')
  unfold turnI
  generalize Lib.compareInt x.2 y.2 = r1 at *
  generalize Lib.compareInt x.1 y.1 = r2 at *
  generalize orI r1 r2 = r3 at *
  go_enter Tryz.func53, Tryz.ntmps53
  go_wp2_with fail
  obtain ⟨wo, hwo⟩ : ∃ wo, (W.alloc (Obj.cells #[.int .i64 x.1, .int .i64 x.2] 67)).alloc (Obj.cells #[.int .i64 y.1, .int .i64 y.2] 67) = wo := ⟨_, rfl⟩
  have e0 : wo.cell? ⟨W.heap.size, 0, none⟩ = some (.int .i64 x.1) := by rw [← hwo]; simp [World.cell?_alloc_old]
  have e1 : wo.cell? ⟨W.heap.size, 1, none⟩ = some (.int .i64 x.2) := by rw [← hwo]; simp
  have e2 : wo.cell? ⟨W.heap.size + 1, 0, none⟩ = some (.int .i64 y.1) := by rw [← hwo]; simp
  have e3 : wo.cell? ⟨W.heap.size + 1, 1, none⟩ = some (.int .i64 y.2) := by rw [← hwo]; simp
  have hsz : wo.heap.size = W.heap.size + 2 := by rw [← hwo]; simp
  rw [hwo]
  have HW := hide hwo
  clear hwo
  have l0 : W.heap.size < wo.heap.size := by omega
  have l1 : W.heap.size + 1 < wo.heap.size := by omega
  clear hsz
  generalize W.heap.size = B at *
  generalize x.1 = x1 at *
  generalize x.2 = x2 at *
  generalize y.1 = y1 at *
  generalize y.2 = y2 at *
  go_region_held3 (fun w' => w'.cell? ⟨B, 0, none⟩ = some (.int .i64 x1) ∧ w'.cell? ⟨B, 1, none⟩ = some (.int .i64 x2) ∧ w'.cell? ⟨B + 1, 0, none⟩ = some (.int .i64 y1) ∧ w'.cell? ⟨B + 1, 1, none⟩ = some (.int .i64 y2)) ((go_keep; done))
    (first | (go_at_call_of 81 x2; refine (h1.out _).mono ?_; rintro e w' ⟨rfl, rfl⟩) | (go_at_call_of 81 x1; refine (h2.out _).mono ?_; rintro e w' ⟨rfl, rfl⟩) | (go_at_call 80; refine (h3.out _ _ (by simp) (by simp)).mono ?_; rintro e w' ⟨rfl, rfl⟩))
  have HG : Hid ((wo.alloc (Obj.cells #[.int .i64 r1, .int .i64 r2] 3)).drew = grow (W.drewN 1) #[Obj.cells #[.int .i64 x1, .int .i64 x2] 67, Obj.cells #[.int .i64 y1, .int .i64 y2] 67, Obj.cells #[.int .i64 r1, .int .i64 r2] 3]) := by
    unfold Hid
    rw [← HW.out, alloc_eq_grow, alloc_eq_grow, alloc_eq_grow, grow_grow, grow_grow]
    rfl
  clear HW
  go_wp2_with fail
  go_ret
  exact ⟨rfl, 1, _, HG.out⟩
theorem below_grow (W : World) (q : Nat) (os : Array Obj) : Below W.heap.size W (grow (W.drewN q) os) := by
  refine ⟨rfl, rfl, rfl, by simp [grow, World.drewN], fun k hk => ?_⟩
  exact heap_grow_old _ _ hk
set_option maxRecDepth 100000 in
set_option maxHeartbeats 1000000 in
theorem entry_any {w : World} {b off : Nat} {x : Cs} (A : RA w b off (rcCells x)) :
    Calls Tryz.prog 51 #[.pointer (some ⟨b, off, none⟩)] w fun e w' => e = .returned (.agg #[.int .i64 x.id, .int .i64 (dueC x)]) ∧ Below w.heap.size w w' := by
  have d0 : w.cell? ⟨b, off, none⟩ = some (.int .i64 x.id) := A.cell 0 _ rfl
  have d4 := A.cell 4 _ rfl
  have hl := A.lt
  have hne : b ≠ w.heap.size := by omega
  clear A
  go_enter Tryz.func51, Tryz.ntmps51
  go_wp2_with fail
  go_region
  go_wp2_with fail
  refine bodyPost_ret (v := .agg #[.int .i64 x.id, .int .i64 (dueC x)]) (by simp [results, Tryz.f51, go_sem]) rfl ?_
  exact ⟨rfl, ((Below.refl _ _).alloc (Nat.le_refl _) _).drew⟩
set_option maxRecDepth 100000 in
set_option maxHeartbeats 1000000 in
theorem state_any {w : World} {b off : Nat} {x : Cs} (A : RA w b off (rcCells x)) (hd : -1 ≤ x.due) :
    Calls Tryz.prog 54 #[.pointer (some ⟨b, off, none⟩)] w fun e w' => e = .returned (.agg #[.int .i64 x.stage, .int .i64 x.level, .int .i64 x.due, .bool x.held]) ∧ Below w.heap.size w w' := by
  have d1 := A.cell 1 _ rfl
  have d2 := A.cell 2 _ rfl
  have d3 := A.cell 3 _ rfl
  have d4 := A.cell 4 _ rfl
  have d6 := A.cell 6 _ rfl
  have hl := A.lt
  have hne : b ≠ w.heap.size := by omega
  clear A
  by_cases hr : 0 ≤ x.due
  · rw [show crs x = 1 by unfold crs; rw [if_pos hr]] at d2
    rw [show dueC x = x.due by unfold dueC; rw [if_pos hr]] at d4
    generalize x.due = y at *
    go_enter Tryz.func54, Tryz.ntmps54
    go_wp2_with fail
    go_region
    go_wp2_with fail
    refine bodyPost_ret (v := .agg #[.int .i64 x.stage, .int .i64 x.level, .int .i64 y, .bool x.held]) (by simp [results, Tryz.f54, go_sem]) rfl ?_
    exact ⟨rfl, (((Below.refl _ _).alloc (Nat.le_refl _) _).alloc (by simp) _).drew⟩
  · have hcb : (crs x == 1) = false := by
      unfold crs; rw [if_neg hr]; split <;> rfl
    rw [show x.due = -1 by omega]
    generalize crs x = c at *
    clear d4 hr hd
    go_enter Tryz.func54, Tryz.ntmps54
    go_wp2_with fail
    go_region
    go_wp2_with fail
    refine bodyPost_ret (v := .agg #[.int .i64 x.stage, .int .i64 x.level, .int .i64 (-1), .bool x.held]) (by simp [results, Tryz.f54, go_sem]) rfl ?_
    exact ⟨rfl, (((Below.refl _ _).alloc (Nat.le_refl _) _).alloc (by simp) _).drew⟩
end Go.Proofs.YtcnmbldikjljeaaGreatDoor
namespace Go.Proofs.YtcnmbldikjljeaaGreatDoor
open Go.Shelf Go.RowKit Go.Lib Go.Sort

theorem ids_lt {l : List Cs} (h : (l.map Cs.id).Pairwise (· < ·)) {i j : Nat} (hij : i < j) (hj : j < l.length) : (csAt l i).id < (csAt l j).id := by
  rw [List.pairwise_iff_getElem] at h
  have := h i j (by simpa using Nat.lt_trans hij hj) (by simpa using hj) hij
  rw [csAt_nat (Nat.lt_trans hij hj), csAt_nat hj]
  simpa using this
section
variable {w : World} {p b off : Nat} {K : Kf} {F : Nat → Bool} {st : List Stg} {lk : Int} {lv : Value} {d : Dk}
/-- a case of the row, or none -/
def ptrAt (q : Nat) (i : Int) : Value := .pointer (if i < 0 then none else some ⟨q, i.toNat * 7, none⟩)
set_option maxRecDepth 100000 in
set_option maxHeartbeats 1000000 in
theorem first_nil (R : PD w p K F st lk (.slice none 0 0) d) :
    Calls Tryz.prog 39 #[P0 p] w fun e w' => e = .returned (.pointer none) ∧ nextL d.cases = -1 ∧ Below w.heap.size w w' := by
  have c82 := R.pr.c82
  have hz : d.cases.length = 0 := by
    rcases R.own.2 with ⟨_, hz⟩ | ⟨q, cap, cur, h, _⟩
    · exact hz
    · cases h
  have HN := hide (show nextL d.cases = -1 by unfold nextL; rw [hz]; rfl)
  have hpl := R.pr.lt
  clear R
  go_enter Tryz.func39, Tryz.ntmps39
  go_wp2_with fail
  go_loopw [3, 11] (fun f i wr => f = .pointer none ∧ i = .int .i64 0 ∧ wr = w) (fun _ _ _ => 0)
  case atStart => exact ⟨rfl, rfl, rfl⟩
  case round =>
    obtain ⟨rfl, rfl, rfl⟩ := hrel
    go_wp2_with fail
    go_ret
    exact ⟨rfl, HN.out, Below.refl _ _⟩
set_option maxRecDepth 100000 in
set_option maxHeartbeats 2000000 in
theorem first_some {q cap : Nat} (R : PD w p K F st lk (.slice (some ⟨q, 0, none⟩) d.cases.length cap) d) (hl : d.cases.length ≤ 1000) (hids : (d.cases.map Cs.id).Pairwise (· < ·)) :
    Calls Tryz.prog 39 #[P0 p] w fun e w' => e = .returned (ptrAt q (nextL d.cases)) ∧ Below w.heap.size w w' := by
  have c82 := R.pr.c82
  have hpl := R.pr.lt
  rcases R.own.2 with ⟨h', _⟩ | ⟨q', cap', cur, h', _, hq, _⟩
  · cases h'
  simp only [Value.slice.injEq, Option.some.injEq, Addr.mk.injEq, and_true, true_and] at h'
  obtain ⟨rfl, rfl⟩ := h'
  have hql : q < w.heap.size := (Array.getElem?_eq_some_iff.1 hq).1
  have HR := hide R
  have HD := hide hids
  clear R hq hids
  generalize hn : d.cases.length = n at *
  have HN := hide hn
  go_enter Tryz.func39, Tryz.ntmps39
  go_wp2_with fail
  go_loopw [3, 11] (fun f iv wr => ∃ i : Nat, i ≤ n ∧ iv = .int .i64 i ∧ f = ptrAt q (nextTo d.cases i) ∧ Below w.heap.size w wr) (fun _ iv _ => n - (intOf iv).toNat)
  case atStart => exact ⟨0, Nat.zero_le _, rfl, rfl, Below.refl _ _⟩
  case round =>
    obtain ⟨i, hi, rfl, rfl, hb⟩ := hrel
    have c := (hb.cell (p := ⟨p, 82, none⟩) hpl).trans c82
    have hsz := hb.size
    by_cases hlt : i < n
    · have hlt' : (i : Int) < n := by omega
      have RAt : ∀ (u : World), Below w.heap.size w u → ∀ j : Nat, j < n → RA u q (j * 7) (rcCells (csAt d.cases j)) := fun u hu j hj => PD.ra (d := d) (cap := cap) (by rw [HN.out]; exact HR.out.on hu) j (by rw [HN.out]; exact hj)
      have A := RAt wr hb i hlt
      have e2 := A.cell 2 _ rfl
      have hbd := nextTo_bd d.cases i
      have HB := hide hb
      have HA := hide RAt
      clear A RAt hb
      by_cases h1 : 0 ≤ (csAt d.cases i).due
      · rw [show crs (csAt d.cases i) = 1 by unfold crs; rw [if_pos h1]] at e2
        by_cases h2 : nextTo d.cases i < 0
        · have HF := hide (show ptrAt q (nextTo d.cases (i + 1)) = .pointer (some ⟨q, i * 7, none⟩) by
            simp only [nextTo]; rw [if_pos ⟨h1, .inl h2⟩]; unfold ptrAt; rw [if_neg (by omega)]; simp)
          rw [show ptrAt q (nextTo d.cases i) = .pointer none by unfold ptrAt; rw [if_pos h2]]
          clear c82 hbd h2 h1
          go_wp2_with fail
          go_roundw
          case rel => exact ⟨i + 1, by omega, by go_num, HF.out.symm, HB.out⟩
          case measure => simp [intOf]; omega
        · obtain ⟨k, hk⟩ : ∃ k : Nat, nextTo d.cases i = k := ⟨(nextTo d.cases i).toNat, by omega⟩
          have hkn : k < n := by omega
          have hki : k < i := by omega
          have hdk : 0 ≤ (csAt d.cases k).due := by rw [← hk]; exact hbd.2.2 (by omega)
          have hid := ids_lt HD.out hki (by rw [HN.out]; exact hlt)
          have hE := fun (u : World) (hu : Below w.heap.size w u) (j : Nat) (hj : j < n) => entry_any (HA.out u hu j hj)
          have hEi := hide (fun u hu => hE u hu i hlt)
          have hEk := hide (fun u hu => hE u hu k hkn)
          rw [show dueC (csAt d.cases i) = (csAt d.cases i).due by unfold dueC; rw [if_pos h1]] at hEi
          rw [show dueC (csAt d.cases k) = (csAt d.cases k).due by unfold dueC; rw [if_pos hdk]] at hEk
          have hT := hide (fun u => inTurn_any ((csAt d.cases i).id, (csAt d.cases i).due) ((csAt d.cases k).id, (csAt d.cases k).due) u)
          rw [show ptrAt q (nextTo d.cases i) = .pointer (some ⟨q, k * 7, none⟩) by unfold ptrAt; rw [if_neg h2, hk]; simp]
          have hlts := ltT ((csAt d.cases i).id, (csAt d.cases i).due) ((csAt d.cases k).id, (csAt d.cases k).due)
          unfold ltOf TL at hlts
          simp only [decide_eq_true_eq] at hlts
          clear hE
          by_cases h3 : (csAt d.cases i).due < (csAt d.cases k).due
          · have HF := hide (show ptrAt q (nextTo d.cases (i + 1)) = .pointer (some ⟨q, i * 7, none⟩) by
              simp only [nextTo]; rw [if_pos ⟨h1, .inr (by rw [hk]; exact h3)⟩]; unfold ptrAt; rw [if_neg (by omega)]; simp)
            have hneg := hlts.2 (.inl h3)
            generalize turnI _ _ = tt at *
            clear c82 hbd h2 h1 hlts h3 hk hid hdk HA
            go_wp2_with fail
            refine (hEi.out _ HB.out).mono ?_
            rintro e u1 ⟨rfl, b1⟩
            have HB1 := hide (HB.out.trans (b1.mono hsz))
            have z1 := HB1.out.size
            clear b1
            go_wp2_with fail
            refine (hEk.out _ HB1.out).mono ?_
            rintro e u2 ⟨rfl, b2⟩
            have HB2 := hide (HB1.out.trans (b2.mono z1))
            have z2 := HB2.out.size
            clear b2
            go_wp2_with fail
            refine (hT.out _).mono ?_
            rintro e u3 ⟨rfl, nq, os, rfl⟩
            have HB3 := hide (HB2.out.trans ((Go.Proofs.YtcnmbldikjljeaaGreatDoor.below_grow u2 nq os).mono z2))
            generalize grow (u2.drewN nq) os = u3 at *
            go_wp2_with fail
            go_roundw
            case rel => exact ⟨i + 1, by omega, by go_num, HF.out.symm, HB3.out⟩
            case measure => simp [intOf]; omega
          · have HF := hide (show ptrAt q (nextTo d.cases (i + 1)) = .pointer (some ⟨q, k * 7, none⟩) by
              simp only [nextTo]; rw [if_neg (by rw [hk]; omega), hk]; unfold ptrAt; rw [if_neg (by omega)]; simp)
            have hneg : ¬ turnI ((csAt d.cases i).id, (csAt d.cases i).due) ((csAt d.cases k).id, (csAt d.cases k).due) < 0 := fun e => by have := hlts.1 e; omega
            generalize turnI _ _ = tt at *
            have hneg' : 0 ≤ tt := by omega
            clear c82 hbd h2 h1 hlts h3 hk hid hdk HA hneg
            go_wp2_with fail
            refine (hEi.out _ HB.out).mono ?_
            rintro e u1 ⟨rfl, b1⟩
            have HB1 := hide (HB.out.trans (b1.mono hsz))
            have z1 := HB1.out.size
            clear b1
            go_wp2_with fail
            refine (hEk.out _ HB1.out).mono ?_
            rintro e u2 ⟨rfl, b2⟩
            have HB2 := hide (HB1.out.trans (b2.mono z1))
            have z2 := HB2.out.size
            clear b2
            go_wp2_with fail
            refine (hT.out _).mono ?_
            rintro e u3 ⟨rfl, nq, os, rfl⟩
            have HB3 := hide (HB2.out.trans ((Go.Proofs.YtcnmbldikjljeaaGreatDoor.below_grow u2 nq os).mono z2))
            generalize grow (u2.drewN nq) os = u3 at *
            go_wp2_with fail
            go_roundw
            case rel => exact ⟨i + 1, by omega, by go_num, HF.out.symm, HB3.out⟩
            case measure => simp [intOf]; omega
      · have HF := hide (show nextTo d.cases (i + 1) = nextTo d.cases i by simp only [nextTo]; rw [if_neg (fun h => h1 h.1)])
        have hcb : (crs (csAt d.cases i) == 1) = false := by unfold crs; rw [if_neg h1]; split <;> rfl
        generalize crs (csAt d.cases i) = cc at *
        clear c82 hbd h1
        go_wp2_with fail
        go_roundw
        case rel => exact ⟨i + 1, by omega, by go_num, by rw [HF.out], HB.out⟩
        case measure => simp [intOf]; omega
    · have HF := hide (show nextL d.cases = nextTo d.cases i by unfold nextL; rw [HN.out, show n = i by omega])
      go_wp2_with fail
      go_ret
      rw [HF.out]
      exact ⟨rfl, hb⟩
end
end Go.Proofs.YtcnmbldikjljeaaGreatDoor
namespace Go.Proofs.YtcnmbldikjljeaaGreatDoor
open Go.Shelf Go.RowKit Go.Lib Go.Sort

section
variable {w : World} {p : Nat} {o : Nat} {x : Int}
theorem addInt64_run (a : Addr) (x y s : Int) (w : World) (hc : w.cell? a = some (.int .i64 x)) (hz : w.frozen? a = false) (hs : s = x + y) (h0 : -9223372036854775808 ≤ s) (h1 : s ≤ 9223372036854775807) :
    (callFunc 117 #[.pointer (some a), .int .i64 y]).run Tryz.prog w = .ok (.value (.int .i64 s)) (w.setCell a (.int .i64 s)) := by
  refine run_call_add Tryz.func117 (by kernel_rfl) (by kernel_rfl) (by kernel_rfl) .i64 (by kernel_rfl) hc hz ?_
  subst hs
  simp [go_sem]
  exact IntWalk.i64_in _ ⟨h0, h1⟩
theorem loadInt64_run (a : Addr) (x : Int) (w : World) (hc : w.cell? a = some (.int .i64 x)) :
    (callFunc 70 #[.pointer (some a)]).run Tryz.prog w = .ok (.value (.int .i64 x)) w :=
  run_call_load Tryz.func70 (by kernel_rfl) (by kernel_rfl) (by kernel_rfl) .i64 (by kernel_rfl) hc
set_option maxRecDepth 100000 in
set_option maxHeartbeats 1000000 in
theorem aLoad_any (hc : w.cell? ⟨p, o, none⟩ = some (.int .i64 x)) :
    Calls Tryz.prog 38 #[.pointer (some ⟨p, o, none⟩)] w fun e w' => e = .returned (.int .i64 x) ∧ w' = w := by
  have hL := loadInt64_run ⟨p, o, none⟩ x w hc
  go_enter Tryz.func38, Tryz.ntmps38
  go_wp2
  go_ret
  exact ⟨rfl, rfl⟩
set_option maxRecDepth 100000 in
set_option maxHeartbeats 1000000 in
theorem aAdd_any (hc : w.cell? ⟨p, o, none⟩ = some (.int .i64 x)) (hz : w.frozen? ⟨p, o, none⟩ = false) (h0 : 0 ≤ x) (h1 : x ≤ 4611686018427387904) :
    Calls Tryz.prog 71 #[.pointer (some ⟨p, o, none⟩), .int .i64 1] w fun e w' => e = .returned (.int .i64 (x + 1)) ∧ w' = w.setCell ⟨p, o, none⟩ (.int .i64 (x + 1)) := by
  have hL := addInt64_run ⟨p, o, none⟩ x 1 (x + 1) w hc hz rfl (by omega) (by omega)
  go_enter Tryz.func71, Tryz.ntmps71
  go_wp2
  go_ret
  exact ⟨rfl, rfl⟩
end
section
variable {w : World} {p b off : Nat} {K : Kf} {F : Nat → Bool} {st : List Stg} {lk t m : Int} {lv : Value} {k : Int} {x : Cs}
/-- an event, as a value -/
def evV (e : Ev) : Value := .agg #[.int .i64 e.number, .int .i64 e.time, .int .i64 e.case, .int .i64 e.stage, .int .i64 e.level, .int .i64 e.who]
theorem PR.ne_row {e : TypeId} {size n q n' cap : Nat} {xs : List Value} (R : PR w p K F st lk t m lv k) (h : w.ownsRow 0 e size (.slice (some ⟨q, 0, none⟩) n' cap) n xs) (he : e ≠ 113) : p ≠ q := by
  rintro rfl
  rcases h.2 with ⟨h', _⟩ | ⟨q', cap', cur, h', _, hh, _⟩
  · cases h'
  simp only [Value.slice.injEq, Option.some.injEq, Addr.mk.injEq, and_true] at h'
  obtain ⟨rfl, _⟩ := h'
  rw [R.blk] at hh
  simp only [Option.some.injEq, Obj.cells.injEq] at hh
  exact he hh.2.1.symm
theorem below_set_both {w u : World} {p j : Nat} {v : Value} {cur : Array Value} {e : TypeId} (hb : Below w.heap.size w u) (h : w.heap[p]? = some (.cells cur e (0, 0))) : Below w.heap.size (w.setCell ⟨p, j, none⟩ v) (u.setCell ⟨p, j, none⟩ v) := by
  have hp : p < w.heap.size := (Array.getElem?_eq_some_iff.1 h).1
  refine ⟨hb.os, hb.tape, hb.output, by simpa using hb.size, fun k hk => ?_⟩
  by_cases e' : k = p
  · subst e'
    rw [heap_setCell_same w _ _ _ _ _ h, heap_setCell_same u _ _ _ _ _ ((hb.block k hk).trans h)]
  · rw [Below.heap_setCell _ _ _ k e', Below.heap_setCell _ _ _ k e']; exact hb.block k hk
theorem RA.set_other {w : World} {p b off j : Nat} {v : Value} {us : List Value} (A : RA w b off us) (h : p ≠ b) : RA (w.setCell ⟨p, j, none⟩ v) b off us := by
  obtain ⟨cur, h1, h2⟩ := A
  exact ⟨cur, (Below.heap_setCell _ _ _ b (Ne.symm h)).trans h1, h2⟩
theorem drew_heap (w : World) : w.drew.heap = w.heap := rfl
/-- six cells of a block were written -/
def six (u : World) (B : Nat) (a0 a1 a2 a3 a4 a5 : Value) : World := (((((u.setCell ⟨B, 0, none⟩ a0).setCell ⟨B, 1, none⟩ a1).setCell ⟨B, 2, none⟩ a2).setCell ⟨B, 3, none⟩ a3).setCell ⟨B, 4, none⟩ a4).setCell ⟨B, 5, none⟩ a5
theorem six_below {n : Nat} {v u : World} {B : Nat} (a0 a1 a2 a3 a4 a5 : Value) (h : Below n v u) (hB : n ≤ B) : Below n v (six u B a0 a1 a2 a3 a4 a5) := by
  unfold six
  exact (((((h.setCell (p := ⟨B, 0, none⟩) hB _).setCell (p := ⟨B, 1, none⟩) hB _).setCell (p := ⟨B, 2, none⟩) hB _).setCell (p := ⟨B, 3, none⟩) hB _).setCell (p := ⟨B, 4, none⟩) hB _).setCell (p := ⟨B, 5, none⟩) hB _
theorem six_other (u : World) {B k : Nat} (a0 a1 a2 a3 a4 a5 : Value) (h : k ≠ B) : (six u B a0 a1 a2 a3 a4 a5).heap[k]? = u.heap[k]? := by
  unfold six
  rw [Below.heap_setCell _ _ _ k h, Below.heap_setCell _ _ _ k h, Below.heap_setCell _ _ _ k h, Below.heap_setCell _ _ _ k h, Below.heap_setCell _ _ _ k h, Below.heap_setCell _ _ _ k h]
theorem six_at (u : World) {B : Nat} {e : TypeId} {b0 b1 b2 b3 b4 b5 : Value} (a0 a1 a2 a3 a4 a5 : Value) (h : u.heap[B]? = some (.cells #[b0, b1, b2, b3, b4, b5] e (0, 0))) : (six u B a0 a1 a2 a3 a4 a5).heap[B]? = some (.cells #[a0, a1, a2, a3, a4, a5] e (0, 0)) := by
  unfold six
  rw [heap_setCell_same _ _ _ _ _ _ (heap_setCell_same _ _ _ _ _ _ (heap_setCell_same _ _ _ _ _ _ (heap_setCell_same _ _ _ _ _ _ (heap_setCell_same _ _ _ _ _ _ (heap_setCell_same _ _ _ _ _ _ h)))))]
  rfl
theorem tell_w {w wo W2 : World} {p : Nat} {k due id i j who : Int} {cur : Array Value} {e : TypeId} (hwo : w.alloc (Obj.cells #[.int .i64 0, .int .i64 0, .int .i64 0, .int .i64 0, .int .i64 0, .int .i64 0] 63) = wo) (hp : w.heap[p]? = some (.cells cur e (0, 0)))
    (hW2 : (six ((wo.alloc (Obj.cells #[.int .i64 0, .int .i64 0, .int .i64 0, .int .i64 0, .int .i64 0, .int .i64 0] 63)).setCell ⟨p, 83, none⟩ (.int .i64 (k + 1))) (w.heap.size + 1) (.int .i64 (k + 1)) (.int .i64 due) (.int .i64 id) (.int .i64 i) (.int .i64 j) (.int .i64 who)).drew = W2) :
    Below w.heap.size (w.setCell ⟨p, 83, none⟩ (.int .i64 (k + 1))) W2 ∧ W2.heap[w.heap.size]? = some (.cells #[.int .i64 0, .int .i64 0, .int .i64 0, .int .i64 0, .int .i64 0, .int .i64 0] 63 (0, 0)) ∧ W2.heap[w.heap.size + 1]? = some (.cells #[.int .i64 (k + 1), .int .i64 due, .int .i64 id, .int .i64 i, .int .i64 j, .int .i64 who] 63 (0, 0)) := by
  have hpw : p < w.heap.size := (Array.getElem?_eq_some_iff.1 hp).1
  have hb0 : Below w.heap.size w wo := by rw [← hwo]; exact (Below.refl _ _).alloc (Nat.le_refl _) _
  have g0 : wo.heap[w.heap.size]? = some (.cells #[.int .i64 0, .int .i64 0, .int .i64 0, .int .i64 0, .int .i64 0, .int .i64 0] 63 (0, 0)) := by rw [← hwo]; exact heap_alloc_new _ _
  have hzz : wo.heap.size = w.heap.size + 1 := by rw [← hwo]; simp
  have g1 := heap_alloc_new wo (Obj.cells #[.int .i64 0, .int .i64 0, .int .i64 0, .int .i64 0, .int .i64 0, .int .i64 0] 63)
  rw [hzz] at g1
  have h1 := below_set_both (j := 83) (v := .int .i64 (k + 1)) (hb0.alloc hb0.size (Obj.cells #[.int .i64 0, .int .i64 0, .int .i64 0, .int .i64 0, .int .i64 0, .int .i64 0] 63)) hp
  have g0' : ((wo.alloc (Obj.cells #[.int .i64 0, .int .i64 0, .int .i64 0, .int .i64 0, .int .i64 0, .int .i64 0] 63)).setCell ⟨p, 83, none⟩ (.int .i64 (k + 1))).heap[w.heap.size]? = some (.cells #[.int .i64 0, .int .i64 0, .int .i64 0, .int .i64 0, .int .i64 0, .int .i64 0] 63 (0, 0)) := by
    rw [Below.heap_setCell _ _ _ _ (by simp only; omega), Below.heap_alloc _ _ _ (by omega)]; exact g0
  have g1' : ((wo.alloc (Obj.cells #[.int .i64 0, .int .i64 0, .int .i64 0, .int .i64 0, .int .i64 0, .int .i64 0] 63)).setCell ⟨p, 83, none⟩ (.int .i64 (k + 1))).heap[w.heap.size + 1]? = some (.cells #[.int .i64 0, .int .i64 0, .int .i64 0, .int .i64 0, .int .i64 0, .int .i64 0] 63 (0, 0)) := by
    rw [Below.heap_setCell _ _ _ _ (by simp only; omega)]; exact g1
  generalize (wo.alloc (Obj.cells #[.int .i64 0, .int .i64 0, .int .i64 0, .int .i64 0, .int .i64 0, .int .i64 0] 63)).setCell ⟨p, 83, none⟩ (.int .i64 (k + 1)) = U at *
  rw [← hW2]
  clear hW2 hwo hb0 g0 g1
  refine ⟨?_, ?_, ?_⟩
  · have h2 := six_below (B := w.heap.size + 1) (.int .i64 (k + 1)) (.int .i64 due) (.int .i64 id) (.int .i64 i) (.int .i64 j) (.int .i64 who) h1 (Nat.le_succ _)
    exact h2.drew
  · rw [drew_heap, six_other U _ _ _ _ _ _ (by omega)]; exact g0'
  · rw [drew_heap]; exact six_at U _ _ _ _ _ _ g1'
theorem tell_w1 {w wo W2 : World} {p : Nat} {k due id i j who : Int} {cur : Array Value} {e : TypeId} (hwo : w.alloc (Obj.cells #[.int .i64 0, .int .i64 0, .int .i64 0, .int .i64 0, .int .i64 0, .int .i64 0] 63) = wo) (hp : w.heap[p]? = some (.cells cur e (0, 0)))
    (hW2 : ((wo.setCell ⟨p, 83, none⟩ (.int .i64 (k + 1))).alloc (Obj.cells #[.int .i64 (k + 1), .int .i64 due, .int .i64 id, .int .i64 i, .int .i64 j, .int .i64 who] 63)).drew = W2) :
    Below w.heap.size (w.setCell ⟨p, 83, none⟩ (.int .i64 (k + 1))) W2 ∧ W2.heap[w.heap.size]? = some (.cells #[.int .i64 0, .int .i64 0, .int .i64 0, .int .i64 0, .int .i64 0, .int .i64 0] 63 (0, 0)) ∧ W2.heap[w.heap.size + 1]? = some (.cells #[.int .i64 (k + 1), .int .i64 due, .int .i64 id, .int .i64 i, .int .i64 j, .int .i64 who] 63 (0, 0)) := by
  have hpw : p < w.heap.size := (Array.getElem?_eq_some_iff.1 hp).1
  have hb0 : Below w.heap.size w wo := by rw [← hwo]; exact (Below.refl _ _).alloc (Nat.le_refl _) _
  have g0 : wo.heap[w.heap.size]? = some (.cells #[.int .i64 0, .int .i64 0, .int .i64 0, .int .i64 0, .int .i64 0, .int .i64 0] 63 (0, 0)) := by rw [← hwo]; exact heap_alloc_new _ _
  have hzz : wo.heap.size = w.heap.size + 1 := by rw [← hwo]; simp
  have h1 := below_set_both (j := 83) (v := .int .i64 (k + 1)) hb0 hp
  have g0' : (wo.setCell ⟨p, 83, none⟩ (.int .i64 (k + 1))).heap[w.heap.size]? = some (.cells #[.int .i64 0, .int .i64 0, .int .i64 0, .int .i64 0, .int .i64 0, .int .i64 0] 63 (0, 0)) := by
    rw [Below.heap_setCell _ _ _ _ (by simp only; omega)]; exact g0
  have hz2 : (wo.setCell ⟨p, 83, none⟩ (.int .i64 (k + 1))).heap.size = w.heap.size + 1 := by simpa using hzz
  clear hwo hb0 g0
  generalize wo.setCell ⟨p, 83, none⟩ (.int .i64 (k + 1)) = U at *
  rw [← hW2]
  clear hW2
  refine ⟨(h1.alloc (by omega) _).drew, ?_, ?_⟩
  · rw [drew_heap, Below.heap_alloc _ _ _ (by omega)]; exact g0'
  · rw [drew_heap, ← hz2]; exact heap_alloc_new _ _
end
end Go.Proofs.YtcnmbldikjljeaaGreatDoor
namespace Go.Proofs.YtcnmbldikjljeaaGreatDoor

/-- where this program holds the library's lock -/
abbrev muLink : Go.Conc.Locks.MuLink := { lock := 36, unlock := 37, ilock := 68, iunlock := 69, lockSlow := 113, unlockSlow := 116, disable := 109, enable := 111, acquire := 112, relMerge := 114, cas32 := 110, add32 := 115, tMutex := 100, tIMutex := 98, tPMutex := 166, tPIMutex := 205, tPI32 := 207, tUP := 209, tNoCopy := 95, tU32 := 96 }
theorem muLib : Go.Conc.Locks.MuLib Tryz.prog muLink :=
  ⟨Tryz.func36, Tryz.func37, Tryz.func68, Tryz.func69, Tryz.func109, Tryz.func111, Tryz.func112, Tryz.func114, Tryz.func110, Tryz.func115,
    Tryz.underlying98, Tryz.runUnderlying98, Tryz.sizeOf98, Tryz.isAgg98, Tryz.zeroValue98, Tryz.underlying100, Tryz.runUnderlying100, Tryz.sizeOf100, Tryz.isAgg100, Tryz.zeroValue100, Tryz.underlying166, Tryz.runUnderlying166, Tryz.sizeOf166, Tryz.isAgg166, Tryz.zeroValue166, Tryz.underlying205, Tryz.runUnderlying205, Tryz.sizeOf205, Tryz.isAgg205, Tryz.zeroValue205, Tryz.underlying207, Tryz.runUnderlying207, Tryz.sizeOf207, Tryz.isAgg207, Tryz.zeroValue207, Tryz.underlying209, Tryz.runUnderlying209, Tryz.sizeOf209, Tryz.isAgg209, Tryz.zeroValue209, Tryz.underlying95, Tryz.runUnderlying95, Tryz.sizeOf95, Tryz.isAgg95, Tryz.zeroValue95, Tryz.underlying21, Tryz.runUnderlying21, Tryz.sizeOf21, Tryz.isAgg21, Tryz.zeroValue21, (by kernel_rfl)⟩
end Go.Proofs.YtcnmbldikjljeaaGreatDoor
namespace Go.Proofs.YtcnmbldikjljeaaGreatDoor
open Go.Shelf Go.RowKit Go.Lib Go.Sort Go.MuLone

section
variable {w : World} {p : Nat} {K : Kf} {F : Nat → Bool} {st : List Stg} {lv : Value} {d : Dk}
set_option maxRecDepth 100000 in
set_option maxHeartbeats 1000000 in
theorem now_any (R : PD w p K F st 0 lv d) :
    Calls Tryz.prog 13 #[P0 p] w fun e w' => e = .returned (.tuple #[.int .i64 d.time, .int .i64 d.told]) ∧ PD w' p K F st 0 lv d ∧ Frm p lv lv w w' := by
  have c0 := R.pr.c0
  have f0 := R.pr.frz 0
  obtain ⟨R1, F1⟩ := R.lock 1
  have c80 := R1.pr.c80
  have c83 := R1.pr.c83
  have hld := hide (fun (u : World) (h : u.cell? ⟨p, 83, none⟩ = some (.int .i64 d.told)) => aLoad_any h)
  have H1 := hide (And.intro R1 F1)
  clear R R1 F1
  go_enter_defers Tryz.func13, Tryz.ntmps13
  go_wp2_with (go_at_call 36; refine (lock_free muLib ⟨p, 0, none⟩ _ c0 f0).mono ?_; rintro e w' ⟨rfl, rfl⟩)
  generalize w.setCell ⟨p, 0, none⟩ (.int .i32 1) = w1 at *
  go_quiet (first | (go_at_call 38; exact Calls.quiet_of_same (hld.out _ (by simpa using c83))))
  have hb := below_drewN (Below.refl w1.heap.size w1) nq
  have R2 := H1.out.1.on hb
  have F2 := H1.out.2.trans (.of_below hb)
  obtain ⟨R3, F3⟩ := R2.lock 0
  have HF := hide (And.intro R3 (F2.trans F3))
  have u0 := R2.pr.c0
  have g0 := R2.pr.frz 0
  clear hb R2 F2 R3 F3 c80 c83 H1
  go_wp2_with fail
  refine leaves_cons (f := 37) (args := #[.pointer (some ⟨p, 0, none⟩)]) (by simp) (by simp [go_sem]) ?_
  refine (unlock_deferred muLib ⟨p, 0, none⟩ .returning _ u0 g0).mono ?_
  rintro e u' w'' ⟨rfl, rfl, rfl⟩
  exact ⟨_, results_tmp2 rfl _ _ _, rfl, HF.out⟩
end
end Go.Proofs.YtcnmbldikjljeaaGreatDoor
