import Derived.Test.YtcnmbldikjljeaaGreatDoorT16
import Derived.BigQuiet
import Derived.Test.YtcnmbldikjljeaaGreatDoorT02
import Derived.Test.YtcnmbldikjljeaaGreatDoorT08
import Derived.Deep.RegionHeld3
namespace Go.Proofs.YtcnmbldikjljeaaGreatDoor
open Go.RowKit

/-- a case of which nothing comes -/
def stopL (x : Cs) : Cs := { x with level := 0, due := -1, rest := 0 }
section
variable {w : World} {p b off : Nat} {K : Kf} {F : Nat → Bool} {st : List Stg} {lk t m : Int} {lv : Value} {k : Int} {x : Cs}
theorem stop_cells (x : Cs) : ((((rcCells x).set 2 (.int .i64 0)).set 3 (.int .i64 0)).set 4 (.int .i64 0)).set 5 (.int .i64 0) = rcCells (stopL x) := rfl
set_option maxRecDepth 100000 in
set_option maxHeartbeats 1000000 in
theorem stop_any (A : RA w b off (rcCells x)) :
    Calls Tryz.prog 118 #[.pointer (some ⟨b, off, none⟩)] w fun e w' => e = .returned (.tuple #[]) ∧ PutR w w' b off (rcCells (stopL x)) := by
  have d2 := A.cell 2 _ rfl
  have d3 := A.cell 3 _ rfl
  have d4 := A.cell 4 _ rfl
  have d5 := A.cell 5 _ rfl
  have f2 := A.frozen (off + 2)
  have f3 := A.frozen (off + 3)
  have f4 := A.frozen (off + 4)
  have f5 := A.frozen (off + 5)
  have HA := hide A
  clear A
  go_enter Tryz.func118, Tryz.ntmps118
  go_wp2
  go_end0
  refine ⟨rfl, ?_⟩
  rw [← stop_cells]
  exact ((((HA.out.put (Below.refl _ _)).set 2 (by simp [rcCells]) _).set 3 (by simp [rcCells]) _).set 4 (by simp [rcCells]) _).set 5 (by simp [rcCells]) _
theorem run_cells (x : Cs) (y level : Int) (h : 0 ≤ y) : (((rcCells (stopL x)).set 2 (.int .i64 1)).set 3 (.int .i64 level)).set 4 (.int .i64 y) = rcCells { x with level := level, rest := 0, due := y } := by
  simp [rcCells, stopL, crs, dueC, h]
set_option maxRecDepth 100000 in
set_option maxHeartbeats 1000000 in
theorem run_any (R : PR w p K F st lk t m lv k) (A : RA w b off (rcCells x)) (level a n : Int) (h0 : 0 ≤ a) (h1 : a ≤ 100800) (h2 : 0 ≤ n) (h3 : n ≤ 20000) :
    Calls Tryz.prog 77 #[P0 p, .pointer (some ⟨b, off, none⟩), .int .i64 level, .int .i64 a, .int .i64 n] w fun e w' => e = .returned (.tuple #[]) ∧ PutR w w' b off (rcCells (armsL F { x with level := level, rest := 0 } a n)) := by
  have HS := hide (stop_any A)
  have HR := hide R
  clear R A
  go_enter Tryz.func77, Tryz.ntmps77
  go_wp2_with fail
  refine HS.out.mono ?_
  rintro e u ⟨rfl, hp⟩
  have HP := hide hp
  have HA := hide ((HR.out.put hp).add a n h0 h1 h2 h3)
  clear hp
  go_wp2_with fail
  refine HA.out.mono ?_
  rintro e u2 ⟨⟨y, hy, rfl⟩ | ⟨hy, rfl⟩, hb⟩
  · have P1 := HP.out.trans (HP.out.ra.put hb) rfl
    have A1 := P1.ra
    have d2 := A1.cell 2 _ rfl
    have d3 := A1.cell 3 _ rfl
    have d4 := A1.cell 4 _ rfl
    have f2 := A1.frozen (off + 2)
    have f3 := A1.frozen (off + 3)
    have f4 := A1.frozen (off + 4)
    have hEq : armsL F { x with level := level, rest := 0 } a n = { x with level := level, rest := 0, due := y } := by unfold armsL; rw [addO_of h1 hy]
    have hy0 : 0 ≤ y := by have := hy.1; omega
    have HE := hide (And.intro hEq hy0)
    have HP1 := hide P1
    clear P1 A1 hEq hy hy0 hb
    go_wp2_with fail
    go_end0
    refine ⟨rfl, ?_⟩
    rw [HE.out.1, ← run_cells x y level HE.out.2]
    exact ((HP1.out.set 2 (by simp [rcCells]) _).set 3 (by simp [rcCells]) _).set 4 (by simp [rcCells]) _
  · have P1 := HP.out.trans (HP.out.ra.put hb) rfl
    have hEq : armsL F { x with level := level, rest := 0 } a n = stopL x := by unfold armsL; rw [addO_never h1 hy]; rfl
    have HE := hide hEq
    have HP1 := hide P1
    clear P1 hEq hy hb
    go_wp2_with fail
    go_end0
    refine ⟨rfl, ?_⟩
    rw [HE.out]; exact HP1.out
end
end Go.Proofs.YtcnmbldikjljeaaGreatDoor
namespace Go.Proofs.YtcnmbldikjljeaaGreatDoor
open Go.RowKit

section
variable {w : World} {p b off : Nat} {K : Kf} {F : Nat → Bool} {st : List Stg} {lk t m : Int} {lv : Value} {k : Int} {x : Cs}
theorem row_someP {w : World} {base n size : Nat} {t : TypeId} {v : Value} {xs : List Value} (h : w.ownsRow base t size v n xs) (hn : 0 < n) : ∃ q cap, v = .slice (some ⟨q, 0, none⟩) n cap := by
  rcases h.2 with ⟨_, hz⟩ | ⟨q, cap, cur, hv, _⟩
  · omega
  · exact ⟨q, cap, hv⟩
set_option maxRecDepth 100000 in
set_option maxHeartbeats 1000000 in
theorem await_any (R : PR w p K F st lk t m lv k) (A : RA w b off (rcCells x)) (hs : StOk st) (s0 : 0 ≤ x.stage) (s1 : x.stage < st.length) (level a : Int) (l0 : 0 ≤ level) (l1 : level ≤ 100) (h0 : 0 ≤ a) (h1 : a ≤ 100800) :
    Calls Tryz.prog 72 #[P0 p, .pointer (some ⟨b, off, none⟩), .int .i64 level, .int .i64 a] w fun e w' => e = .returned (.tuple #[]) ∧ PutR w w' b off (rcCells (comesL F st { x with rest := 0 } level a)) := by
  obtain ⟨i, hi⟩ : ∃ i : Nat, x.stage = i := ⟨x.stage.toNat, by omega⟩
  have hil : i < st.length := by omega
  have hil' : (i : Int) < st.length := by omega
  have hrow := R.stg.row
  obtain ⟨sq, scap, hsv⟩ := row_someP hrow (by omega)
  have c79 := R.c79
  rw [hsv] at c79 hrow
  have cs := (hrow.cellAt (i * 7) (by omega)).trans (sgCells_lev K.ls st i hil)
  obtain ⟨la, lcap, hls⟩ := R.stg.len i hil
  have hlev := R.stg.lev i hil
  have e1 := A.cell 1 _ rfl
  simp only [hi] at e1
  have hst := hs i hil
  have hEq : comesL F st { x with rest := 0 } level a = if ((stAt st i).levels.length : Int) ≤ level then stopL x else armsL F { x with level := level, rest := 0 } a (lvAt (stAt st i) level).1 := by
    unfold comesL stopL; simp only [hi]
  have HE := hide hEq
  have HA := hide A
  have HR := hide R
  have hbl := A.lt
  have hpl := R.lt
  have hsq := World.block_lt_of_cell? _ _ cs
  clear hEq A R hrow
  rw [hls] at cs hlev
  generalize hlv : (stAt st i).levels = L at *
  have HLV := hide hlv
  by_cases hle : (L.length : Int) ≤ level
  · have HS := hide (fun n => stop_any (HA.out.on (below_drewN (Below.refl _ _) n)))
    clear hlev hlv hst
    go_enter Tryz.func72, Tryz.ntmps72
    go_wp2_with fail
    go_quiet (fail)
    go_wp2_with fail
    refine (HS.out _).mono ?_
    rintro e u ⟨rfl, hp⟩
    have HP := hide ((HA.out.put (below_drewN (Below.refl _ _) _)).trans hp rfl)
    clear hp
    go_wp2_with fail
    refine bodyPost_ret (results_none rfl _ _ _) rfl ?_
    refine ⟨rfl, ?_⟩
    rw [HE.out, if_pos hle]; exact HP.out
  · obtain ⟨j, hj⟩ : ∃ j : Nat, level = j := ⟨level.toNat, by omega⟩
    subst hj
    have hkl : j < L.length := by omega
    have hkl' : (j : Int) < L.length := by omega
    have hlev := hlev (by omega)
    obtain ⟨lq, lc2, hla⟩ := row_someP hlev (by omega)
    rw [hla] at hlev cs
    have cl := (hlev.cellAt (j * 2) (by omega)).trans (flat_at L j hkl).1
    have hlt : lq < w.heap.size := World.block_lt_of_cell? _ _ cl
    have hde := hst.2.1 j (by omega)
    have hlk : (lvAt (stAt st i) j).1 = L[j].1 := by unfold lvAt; rw [HLV.out]; simp [hkl]
    rw [hlk] at hde
    have HR2 := hide (fun n => run_any (HR.out.on (below_drewN (Below.refl _ _) n)) (HA.out.on (below_drewN (Below.refl _ _) n)) j a L[j].1 h0 h1 (by omega) (by omega))
    have HLK := hide hlk
    generalize L[j].1 = dl at *
    clear hlev hlv hst hlk
    go_enter Tryz.func72, Tryz.ntmps72
    go_wp2_with fail
    go_quiet (fail)
    go_wp2_with fail
    refine (HR2.out _).mono ?_
    rintro e u ⟨rfl, hp⟩
    have HPD := hide ((HA.out.put (below_drewN (Below.refl _ _) _)).trans hp rfl)
    clear cs c79 e1 cl hp
    go_wp2_with fail
    go_end0
    refine ⟨rfl, ?_⟩
    rw [HE.out, if_neg (by omega), HLK.out]; exact HPD.out
set_option maxRecDepth 100000 in
set_option maxHeartbeats 1000000 in
theorem enter_any (R : PR w p K F st lk t m lv k) (A : RA w b off (rcCells x)) (hs : StOk st) (stage : Int) (s0 : 0 ≤ stage) (s1 : stage < st.length) (h0 : 0 ≤ t) (h1 : t ≤ 100800) :
    Calls Tryz.prog 42 #[P0 p, .pointer (some ⟨b, off, none⟩), .int .i64 stage] w fun e w' => e = .returned (.tuple #[]) ∧ PutR w w' b off (rcCells (comesL F st { x with stage := stage, rest := 0 } 0 t)) := by
  have d1 := A.cell 1 _ rfl
  have f1 := A.frozen (off + 1)
  have P1 : PutR w (w.setCell ⟨b, off + 1, none⟩ (.int .i64 stage)) b off (rcCells { x with stage := stage }) := (A.put (Below.refl _ _)).set 1 (by simp [rcCells]) (.int .i64 stage)
  have R1 := R.put P1
  have c80 := R1.c80
  have HW := hide (await_any R1 P1.ra hs s0 s1 0 t (by omega) (by omega) h0 h1)
  have HP := hide P1
  have hbl := A.lt
  have hpl := R.lt
  have hne := R.ne A
  clear P1 R1 R A
  go_enter Tryz.func42, Tryz.ntmps42
  go_wp2_with fail
  refine HW.out.mono ?_
  rintro e u ⟨rfl, hp⟩
  have HPD := hide (HP.out.trans hp rfl)
  clear hp
  go_wp2_with fail
  go_end0
  exact ⟨rfl, HPD.out⟩
end
end Go.Proofs.YtcnmbldikjljeaaGreatDoor
namespace Go.Proofs.YtcnmbldikjljeaaGreatDoor

/-- the order in which cases are told: entries are (case, due) -/
def TL (a b : Int × Int) : Prop := a.2 < b.2 ∨ (a.2 = b.2 ∧ a.1 < b.1)
theorem TL.trans {a b c : Int × Int} (h : TL a b) (k : TL b c) : TL a c := by unfold TL at *; omega
theorem TL.asymm {a b : Int × Int} (h : TL a b) : ¬ TL b a := by unfold TL at *; omega
theorem sorted_uniq : ∀ {l1 l2 : List (Int × Int)}, l1.Pairwise TL → l2.Pairwise TL → l1.Perm l2 → l1 = l2 := by
  intro l1
  induction l1 with
  | nil => intro l2 _ _ hp; exact (List.nil_perm.1 hp).symm
  | cons a l1 ih =>
    intro l2 h1 h2 hp
    cases l2 with
    | nil => exact absurd (List.perm_nil.1 hp) (by simp)
    | cons b l2 =>
      rw [List.pairwise_cons] at h1 h2
      have ha : a ∈ b :: l2 := hp.mem_iff.1 (by simp)
      have hb : b ∈ a :: l1 := hp.mem_iff.2 (by simp)
      have e : a = b := by
        rcases List.mem_cons.1 ha with e | e
        · exact e
        · rcases List.mem_cons.1 hb with e' | e'
          · exact e'.symm
          · exact absurd (h2.1 a e) (h1.1 b e').asymm
      subst e
      rw [ih h1.2 h2.2 (List.Perm.cons_inv hp)]
def entsL (l : List Cs) : List (Int × Int) := (l.filter fun x => decide (0 ≤ x.due)).map fun x => (x.id, x.due)
theorem insL_perm (e : Int × Int) (l : List (Int × Int)) : (insL e l).Perm (e :: l) := by
  unfold insL
  have := List.takeWhile_append_dropWhile (p := fun p : Int × Int => decide (p.2 ≤ e.2)) (l := l)
  refine List.perm_middle.trans ?_
  rw [this]
theorem insL_sorted {e : Int × Int} {l : List (Int × Int)} (h : l.Pairwise TL) (hid : ∀ p ∈ l, p.1 < e.1) : (insL e l).Pairwise TL := by
  unfold insL
  have ht : ∀ p ∈ l.takeWhile (fun p => decide (p.2 ≤ e.2)), p.2 ≤ e.2 ∧ p ∈ l := fun p hp => by
    refine ⟨?_, (List.takeWhile_sublist _).subset hp⟩
    have := List.all_takeWhile (p := fun p : Int × Int => decide (p.2 ≤ e.2)) (l := l)
    rw [List.all_eq_true] at this
    simpa using this p hp
  have hd : ∀ p ∈ l.dropWhile (fun p => decide (p.2 ≤ e.2)), e.2 < p.2 := by
    clear ht
    induction l with
    | nil => intro p hp; simp at hp
    | cons a l ih =>
      intro p hp
      rw [List.dropWhile_cons] at hp
      split at hp
      · exact ih (List.pairwise_cons.1 h).2 (fun q hq => hid q (List.mem_cons_of_mem _ hq)) p hp
      · rename_i hn
        have hn : e.2 < a.2 := by simpa using hn
        rcases List.mem_cons.1 hp with rfl | hp
        · exact hn
        · have := (List.pairwise_cons.1 h).1 p hp
          unfold TL at this
          omega
  rw [List.pairwise_append, List.pairwise_cons]
  refine ⟨h.sublist (List.takeWhile_sublist _), ⟨fun p hp => .inl (hd p hp), h.sublist (List.dropWhile_sublist _)⟩, fun p hp q hq => ?_⟩
  have h1 := ht p hp
  have h2 := hid p h1.2
  rcases List.mem_cons.1 hq with rfl | hq
  · unfold TL; omega
  · have := hd q hq
    unfold TL; omega
theorem agenda_sorted : ∀ (l : List Cs) (out : List (Int × Int)), (l.map Cs.id).Pairwise (· < ·) → out.Pairwise TL → (∀ p ∈ out, ∀ x ∈ l, p.1 < x.id) →
    (agendaL l out).Pairwise TL ∧ (agendaL l out).Perm (out ++ entsL l) := by
  intro l
  induction l with
  | nil => intro out _ h2 _; exact ⟨h2, by simp [agendaL, entsL]⟩
  | cons x l ih =>
    intro out h1 h2 h3
    rw [List.map_cons, List.pairwise_cons] at h1
    simp only [agendaL]
    split
    · rename_i hd
      obtain ⟨a1, a2⟩ := ih out h1.2 h2 (fun p hp y hy => h3 p hp y (List.mem_cons_of_mem _ hy))
      refine ⟨a1, ?_⟩
      rw [show entsL (x :: l) = entsL l by unfold entsL; rw [List.filter_cons, if_neg (by simp; omega)]]
      exact a2
    · rename_i hd
      obtain ⟨a1, a2⟩ := ih (insL (x.id, x.due) out) h1.2 (insL_sorted h2 (fun p hp => h3 p hp x (by simp))) (fun p hp y hy => by
        rcases List.mem_cons.1 ((insL_perm _ _).mem_iff.1 hp) with rfl | hp
        · exact h1.1 _ (List.mem_map_of_mem hy)
        · exact h3 p hp y (List.mem_cons_of_mem _ hy))
      refine ⟨a1, a2.trans ?_⟩
      rw [show entsL (x :: l) = (x.id, x.due) :: entsL l by unfold entsL; rw [List.filter_cons, if_pos (by simp; omega)]; rfl]
      exact ((insL_perm _ _).append_right _).trans List.perm_middle.symm
/-- whatever list of all entries stands in order is the agenda -/
theorem agenda_is {l : List Cs} {ts : List (Int × Int)} (h : (l.map Cs.id).Pairwise (· < ·)) (hp : (entsL l).Perm ts) (hs : ts.Pairwise fun a b => ¬ TL b a) : ts = agendaL l [] := by
  obtain ⟨a1, a2⟩ := agenda_sorted l [] h .nil (fun p hp => by simp at hp)
  rw [List.nil_append] at a2
  refine sorted_uniq ?_ a1 (hp.symm.trans a2.symm)
  have hd : (ts.map (·.1)).Nodup := by
    refine (List.Perm.nodup_iff (hp.map _)).1 ?_
    unfold entsL
    rw [List.map_map]
    have h1 : ((l.filter fun x => decide (0 ≤ x.due)).map Cs.id).Pairwise (· < ·) := h.sublist (List.filter_sublist.map _)
    exact h1.imp (fun hab e => by omega)
  rw [List.nodup_iff_pairwise_ne, List.pairwise_map] at hd
  exact (hd.and hs).imp (fun ⟨e1, e2⟩ => by unfold TL at *; omega)
theorem entsL_take (l : List Cs) (k : Nat) (hk : k < l.length) : entsL (l.take (k + 1)) = if 0 ≤ (csAt l k).due then entsL (l.take k) ++ [((csAt l k).id, (csAt l k).due)] else entsL (l.take k) := by
  unfold entsL
  rw [List.take_succ_eq_append_getElem hk, List.filter_append, List.map_append, csAt_nat hk]
  by_cases h : 0 ≤ l[k].due
  · rw [if_pos h]; simp [h]
  · rw [if_neg h]; simp [h]
end Go.Proofs.YtcnmbldikjljeaaGreatDoor
namespace Go.Proofs.YtcnmbldikjljeaaGreatDoor
open Go.Shelf Go.RowKit Go.Lib Go.Sort

def orI (x y : Int) : Int := if x = 0 then y else x
set_option maxRecDepth 100000 in
set_option maxHeartbeats 1000000 in
theorem or_any (x y : Int) (g : Nat) (w : World) (c0 : w.cell? ⟨g, 0, none⟩ = some (.int .i64 x)) (c1 : w.cell? ⟨g, 1, none⟩ = some (.int .i64 y)) :
    Calls Tryz.prog 80 #[.slice (some ⟨g, 0, none⟩) 2 2] w fun e w' => e = .returned (.int .i64 (orI x y)) ∧ w' = w := by
  go_enter Tryz.func80, Tryz.ntmps80
  go_wp2_with fail
  go_loopw [8] (fun iv wr => ∃ i : Nat, i ≤ 2 ∧ iv = .int .i64 i ∧ wr = w ∧ Hid ((1 ≤ i → x = 0) ∧ (2 ≤ i → y = 0))) (fun iv _ => 2 - (intOf iv).toNat)
  case atStart => exact ⟨0, by omega, rfl, rfl, ⟨fun h => by omega, fun h => by omega⟩⟩
  case round =>
    obtain ⟨i, hi, rfl, rfl, HI⟩ := hrel
    rcases (show i = 0 ∨ i = 1 ∨ i = 2 by omega) with rfl | rfl | rfl
    · by_cases hx : x = 0
      · have hxb : (x != 0) = false := by simp [hx]
        have HX := hide hx
        clear hx
        go_wp2_with fail
        go_roundw
        case rel => exact ⟨1, by omega, by go_num, (by trivial), ⟨fun _ => HX.out, fun h => by omega⟩⟩
        case measure => simp [intOf]
      · have hxb : (x != 0) = true := by simp [hx]
        have HO := hide (show orI x y = x by unfold orI; rw [if_neg hx])
        clear hx
        go_wp2_with fail
        go_ret
        rw [HO.out]
        exact ⟨rfl, rfl⟩
    · have HO := hide (show orI x y = y by unfold orI; rw [if_pos (HI.out.1 (by omega))])
      by_cases hy : y = 0
      · have hyb : (y != 0) = false := by simp [hy]
        have HY := hide hy
        clear hy
        go_wp2_with fail
        go_roundw
        case rel => exact ⟨2, by omega, by go_num, (by trivial), ⟨fun _ => HI.out.1 (by omega), fun _ => HY.out⟩⟩
        case measure => simp [intOf]
      · have hyb : (y != 0) = true := by simp [hy]
        clear hy
        go_wp2_with fail
        go_ret
        rw [HO.out]
        exact ⟨rfl, rfl⟩
    · have HO := hide (show orI x y = 0 by unfold orI; rw [if_pos (HI.out.1 (by omega)), HI.out.2 (by omega)])
      go_wp2_with fail
      go_ret
      rw [HO.out]
      exact ⟨rfl, rfl⟩
def turnI (a b : Int × Int) : Int := orI (Lib.compareInt a.2 b.2) (Lib.compareInt a.1 b.1)
theorem ltT (a b : Int × Int) : ltOf turnI a b = true ↔ TL a b := by
  unfold ltOf turnI orI Lib.compareInt TL
  by_cases h1 : a.2 < b.2
  · simp [h1]
  · by_cases h2 : b.2 < a.2
    · simp [h1, h2]; omega
    · by_cases h3 : a.1 < b.1
      · simp [h1, h2, h3]; omega
      · by_cases h4 : b.1 < a.1 <;> simp [h1, h2, h3, h4]
theorem swoT : SWO (ltOf turnI) where
  irrefl x := by
    have := ltT x x
    have h : ¬ TL x x := by unfold TL; omega
    simpa [h] using this
  trans x y z h1 h2 := (ltT x z).2 (((ltT x y).1 h1).trans ((ltT y z).1 h2))
  ntrans x y z h1 h2 := by
    have a := ltT x y
    have b := ltT y z
    have c := ltT x z
    rw [h1] at a
    rw [h2] at b
    have h : ¬ TL x z := by
      have h3 : ¬ TL x y := fun e => by simpa using a.2 e
      have h4 : ¬ TL y z := fun e => by simpa using b.2 e
      unfold TL at *; omega
    simpa [h] using c
set_option maxRecDepth 100000 in
set_option maxHeartbeats 1000000 in
theorem inTurn_any (x y : Int × Int) (W : World) : Calls Tryz.prog 53 #[.agg #[.int .i64 x.1, .int .i64 x.2], .agg #[.int .i64 y.1, .int .i64 y.2]] W fun e w' => e = .returned (.int .i64 (turnI x y)) ∧ ∃ q os', w' = grow (W.drewN q) os' := by
  have h1 := hide (fun W' => compare_any x.2 y.2 W')
  have h2 := hide (fun W' => compare_any x.1 y.1 W')
  have h3 := hide (fun g W' => or_any (Lib.compareInt x.2 y.2) (Lib.compareInt x.1 y.1) g W')
  unfold turnI
  generalize Lib.compareInt x.2 y.2 = r1 at *
  generalize Lib.compareInt x.1 y.1 = r2 at *
  generalize orI r1 r2 = r3 at *
  go_enter Tryz.func53, Tryz.ntmps53
  go_wp2_with fail
  obtain ⟨wo, hwo⟩ : ∃ wo, (W.alloc (Obj.cells #[.int .i64 x.1, .int .i64 x.2] 67)).alloc (Obj.cells #[.int .i64 y.1, .int .i64 y.2] 67) = wo := ⟨_, rfl⟩
  have e0 : wo.cell? ⟨W.heap.size, 0, none⟩ = some (.int .i64 x.1) := by rw [← hwo]; simp [World.cell?_alloc_old]
  have e1 : wo.cell? ⟨W.heap.size, 1, none⟩ = some (.int .i64 x.2) := by rw [← hwo]; simp
  have e2 : wo.cell? ⟨W.heap.size + 1, 0, none⟩ = some (.int .i64 y.1) := by rw [← hwo]; simp
  have e3 : wo.cell? ⟨W.heap.size + 1, 1, none⟩ = some (.int .i64 y.2) := by rw [← hwo]; simp
  have hsz : wo.heap.size = W.heap.size + 2 := by rw [← hwo]; simp
  rw [hwo]
  have HW := hide hwo
  clear hwo
  have l0 : W.heap.size < wo.heap.size := by omega
  have l1 : W.heap.size + 1 < wo.heap.size := by omega
  clear hsz
  generalize W.heap.size = B at *
  generalize x.1 = x1 at *
  generalize x.2 = x2 at *
  generalize y.1 = y1 at *
  generalize y.2 = y2 at *
  go_region_held3 (fun w' => w'.cell? ⟨B, 0, none⟩ = some (.int .i64 x1) ∧ w'.cell? ⟨B, 1, none⟩ = some (.int .i64 x2) ∧ w'.cell? ⟨B + 1, 0, none⟩ = some (.int .i64 y1) ∧ w'.cell? ⟨B + 1, 1, none⟩ = some (.int .i64 y2)) ((go_keep; done))
    (first | (go_at_call_of 81 x2; refine (h1.out _).mono ?_; rintro e w' ⟨rfl, rfl⟩) | (go_at_call_of 81 x1; refine (h2.out _).mono ?_; rintro e w' ⟨rfl, rfl⟩) | (go_at_call 80; refine (h3.out _ _ (by simp) (by simp)).mono ?_; rintro e w' ⟨rfl, rfl⟩))
  have HG : Hid ((wo.alloc (Obj.cells #[.int .i64 r1, .int .i64 r2] 3)).drew = grow (W.drewN 1) #[Obj.cells #[.int .i64 x1, .int .i64 x2] 67, Obj.cells #[.int .i64 y1, .int .i64 y2] 67, Obj.cells #[.int .i64 r1, .int .i64 r2] 3]) := by
    unfold Hid
    rw [← HW.out, alloc_eq_grow, alloc_eq_grow, alloc_eq_grow, grow_grow, grow_grow]
    rfl
  clear HW
  go_wp2_with fail
  go_ret
  exact ⟨rfl, 1, _, HG.out⟩
theorem below_grow (W : World) (q : Nat) (os : Array Obj) : Below W.heap.size W (grow (W.drewN q) os) := by
  refine ⟨rfl, rfl, rfl, by simp [grow, World.drewN], fun k hk => ?_⟩
  exact heap_grow_old _ _ hk
set_option maxRecDepth 100000 in
set_option maxHeartbeats 1000000 in
theorem entry_any {w : World} {b off : Nat} {x : Cs} (A : RA w b off (rcCells x)) :
    Calls Tryz.prog 51 #[.pointer (some ⟨b, off, none⟩)] w fun e w' => e = .returned (.agg #[.int .i64 x.id, .int .i64 (dueC x)]) ∧ Below w.heap.size w w' := by
  have d0 : w.cell? ⟨b, off, none⟩ = some (.int .i64 x.id) := A.cell 0 _ rfl
  have d4 := A.cell 4 _ rfl
  have hl := A.lt
  have hne : b ≠ w.heap.size := by omega
  clear A
  go_enter Tryz.func51, Tryz.ntmps51
  go_wp2_with fail
  go_region
  go_wp2_with fail
  refine bodyPost_ret (v := .agg #[.int .i64 x.id, .int .i64 (dueC x)]) (by simp [results, Tryz.f51, go_sem]) rfl ?_
  exact ⟨rfl, ((Below.refl _ _).alloc (Nat.le_refl _) _).drew⟩
set_option maxRecDepth 100000 in
set_option maxHeartbeats 1000000 in
theorem state_any {w : World} {b off : Nat} {x : Cs} (A : RA w b off (rcCells x)) (hd : -1 ≤ x.due) :
    Calls Tryz.prog 54 #[.pointer (some ⟨b, off, none⟩)] w fun e w' => e = .returned (.agg #[.int .i64 x.stage, .int .i64 x.level, .int .i64 x.due, .bool x.held]) ∧ Below w.heap.size w w' := by
  have d1 := A.cell 1 _ rfl
  have d2 := A.cell 2 _ rfl
  have d3 := A.cell 3 _ rfl
  have d4 := A.cell 4 _ rfl
  have d6 := A.cell 6 _ rfl
  have hl := A.lt
  have hne : b ≠ w.heap.size := by omega
  clear A
  by_cases hr : 0 ≤ x.due
  · rw [show crs x = 1 by unfold crs; rw [if_pos hr]] at d2
    rw [show dueC x = x.due by unfold dueC; rw [if_pos hr]] at d4
    generalize x.due = y at *
    go_enter Tryz.func54, Tryz.ntmps54
    go_wp2_with fail
    go_region
    go_wp2_with fail
    refine bodyPost_ret (v := .agg #[.int .i64 x.stage, .int .i64 x.level, .int .i64 y, .bool x.held]) (by simp [results, Tryz.f54, go_sem]) rfl ?_
    exact ⟨rfl, (((Below.refl _ _).alloc (Nat.le_refl _) _).alloc (by simp) _).drew⟩
  · have hcb : (crs x == 1) = false := by
      unfold crs; rw [if_neg hr]; split <;> rfl
    rw [show x.due = -1 by omega]
    generalize crs x = c at *
    clear d4 hr hd
    go_enter Tryz.func54, Tryz.ntmps54
    go_wp2_with fail
    go_region
    go_wp2_with fail
    refine bodyPost_ret (v := .agg #[.int .i64 x.stage, .int .i64 x.level, .int .i64 (-1), .bool x.held]) (by simp [results, Tryz.f54, go_sem]) rfl ?_
    exact ⟨rfl, (((Below.refl _ _).alloc (Nat.le_refl _) _).alloc (by simp) _).drew⟩
end Go.Proofs.YtcnmbldikjljeaaGreatDoor
namespace Go.Proofs.YtcnmbldikjljeaaGreatDoor
open Go.Shelf Go.RowKit Go.Lib Go.Sort

theorem ids_lt {l : List Cs} (h : (l.map Cs.id).Pairwise (· < ·)) {i j : Nat} (hij : i < j) (hj : j < l.length) : (csAt l i).id < (csAt l j).id := by
  rw [List.pairwise_iff_getElem] at h
  have := h i j (by simpa using Nat.lt_trans hij hj) (by simpa using hj) hij
  rw [csAt_nat (Nat.lt_trans hij hj), csAt_nat hj]
  simpa using this
section
variable {w : World} {p b off : Nat} {K : Kf} {F : Nat → Bool} {st : List Stg} {lk : Int} {lv : Value} {d : Dk}
/-- a case of the row, or none -/
def ptrAt (q : Nat) (i : Int) : Value := .pointer (if i < 0 then none else some ⟨q, i.toNat * 7, none⟩)
set_option maxRecDepth 100000 in
set_option maxHeartbeats 1000000 in
theorem first_nil (R : PD w p K F st lk (.slice none 0 0) d) :
    Calls Tryz.prog 39 #[P0 p] w fun e w' => e = .returned (.pointer none) ∧ nextL d.cases = -1 ∧ Below w.heap.size w w' := by
  have c82 := R.pr.c82
  have hz : d.cases.length = 0 := by
    rcases R.own.2 with ⟨_, hz⟩ | ⟨q, cap, cur, h, _⟩
    · exact hz
    · cases h
  have HN := hide (show nextL d.cases = -1 by unfold nextL; rw [hz]; rfl)
  have hpl := R.pr.lt
  clear R
  go_enter Tryz.func39, Tryz.ntmps39
  go_wp2_with fail
  go_loopw [3, 11] (fun f i wr => f = .pointer none ∧ i = .int .i64 0 ∧ wr = w) (fun _ _ _ => 0)
  case atStart => exact ⟨rfl, rfl, rfl⟩
  case round =>
    obtain ⟨rfl, rfl, rfl⟩ := hrel
    go_wp2_with fail
    go_ret
    exact ⟨rfl, HN.out, Below.refl _ _⟩
set_option maxRecDepth 100000 in
set_option maxHeartbeats 2000000 in
theorem first_some {q cap : Nat} (R : PD w p K F st lk (.slice (some ⟨q, 0, none⟩) d.cases.length cap) d) (hl : d.cases.length ≤ 1000) (hids : (d.cases.map Cs.id).Pairwise (· < ·)) :
    Calls Tryz.prog 39 #[P0 p] w fun e w' => e = .returned (ptrAt q (nextL d.cases)) ∧ Below w.heap.size w w' := by
  have c82 := R.pr.c82
  have hpl := R.pr.lt
  rcases R.own.2 with ⟨h', _⟩ | ⟨q', cap', cur, h', _, hq, _⟩
  · cases h'
  simp only [Value.slice.injEq, Option.some.injEq, Addr.mk.injEq, and_true, true_and] at h'
  obtain ⟨rfl, rfl⟩ := h'
  have hql : q < w.heap.size := (Array.getElem?_eq_some_iff.1 hq).1
  have HR := hide R
  have HD := hide hids
  clear R hq hids
  generalize hn : d.cases.length = n at *
  have HN := hide hn
  go_enter Tryz.func39, Tryz.ntmps39
  go_wp2_with fail
  go_loopw [3, 11] (fun f iv wr => ∃ i : Nat, i ≤ n ∧ iv = .int .i64 i ∧ f = ptrAt q (nextTo d.cases i) ∧ Below w.heap.size w wr) (fun _ iv _ => n - (intOf iv).toNat)
  case atStart => exact ⟨0, Nat.zero_le _, rfl, rfl, Below.refl _ _⟩
  case round =>
    obtain ⟨i, hi, rfl, rfl, hb⟩ := hrel
    have c := (hb.cell (p := ⟨p, 82, none⟩) hpl).trans c82
    have hsz := hb.size
    by_cases hlt : i < n
    · have hlt' : (i : Int) < n := by omega
      have RAt : ∀ (u : World), Below w.heap.size w u → ∀ j : Nat, j < n → RA u q (j * 7) (rcCells (csAt d.cases j)) := fun u hu j hj => PD.ra (d := d) (cap := cap) (by rw [HN.out]; exact HR.out.on hu) j (by rw [HN.out]; exact hj)
      have A := RAt wr hb i hlt
      have e2 := A.cell 2 _ rfl
      have hbd := nextTo_bd d.cases i
      have HB := hide hb
      have HA := hide RAt
      clear A RAt hb
      by_cases h1 : 0 ≤ (csAt d.cases i).due
      · rw [show crs (csAt d.cases i) = 1 by unfold crs; rw [if_pos h1]] at e2
        by_cases h2 : nextTo d.cases i < 0
        · have HF := hide (show ptrAt q (nextTo d.cases (i + 1)) = .pointer (some ⟨q, i * 7, none⟩) by
            simp only [nextTo]; rw [if_pos ⟨h1, .inl h2⟩]; unfold ptrAt; rw [if_neg (by omega)]; simp)
          rw [show ptrAt q (nextTo d.cases i) = .pointer none by unfold ptrAt; rw [if_pos h2]]
          clear c82 hbd h2 h1
          go_wp2_with fail
          go_roundw
          case rel => exact ⟨i + 1, by omega, by go_num, HF.out.symm, HB.out⟩
          case measure => simp [intOf]; omega
        · obtain ⟨k, hk⟩ : ∃ k : Nat, nextTo d.cases i = k := ⟨(nextTo d.cases i).toNat, by omega⟩
          have hkn : k < n := by omega
          have hki : k < i := by omega
          have hdk : 0 ≤ (csAt d.cases k).due := by rw [← hk]; exact hbd.2.2 (by omega)
          have hid := ids_lt HD.out hki (by rw [HN.out]; exact hlt)
          have hE := fun (u : World) (hu : Below w.heap.size w u) (j : Nat) (hj : j < n) => entry_any (HA.out u hu j hj)
          have hEi := hide (fun u hu => hE u hu i hlt)
          have hEk := hide (fun u hu => hE u hu k hkn)
          rw [show dueC (csAt d.cases i) = (csAt d.cases i).due by unfold dueC; rw [if_pos h1]] at hEi
          rw [show dueC (csAt d.cases k) = (csAt d.cases k).due by unfold dueC; rw [if_pos hdk]] at hEk
          have hT := hide (fun u => inTurn_any ((csAt d.cases i).id, (csAt d.cases i).due) ((csAt d.cases k).id, (csAt d.cases k).due) u)
          rw [show ptrAt q (nextTo d.cases i) = .pointer (some ⟨q, k * 7, none⟩) by unfold ptrAt; rw [if_neg h2, hk]; simp]
          have hlts := ltT ((csAt d.cases i).id, (csAt d.cases i).due) ((csAt d.cases k).id, (csAt d.cases k).due)
          unfold ltOf TL at hlts
          simp only [decide_eq_true_eq] at hlts
          clear hE
          by_cases h3 : (csAt d.cases i).due < (csAt d.cases k).due
          · have HF := hide (show ptrAt q (nextTo d.cases (i + 1)) = .pointer (some ⟨q, i * 7, none⟩) by
              simp only [nextTo]; rw [if_pos ⟨h1, .inr (by rw [hk]; exact h3)⟩]; unfold ptrAt; rw [if_neg (by omega)]; simp)
            have hneg := hlts.2 (.inl h3)
            generalize turnI _ _ = tt at *
            clear c82 hbd h2 h1 hlts h3 hk hid hdk HA
            go_wp2_with fail
            refine (hEi.out _ HB.out).mono ?_
            rintro e u1 ⟨rfl, b1⟩
            have HB1 := hide (HB.out.trans (b1.mono hsz))
            have z1 := HB1.out.size
            clear b1
            go_wp2_with fail
            refine (hEk.out _ HB1.out).mono ?_
            rintro e u2 ⟨rfl, b2⟩
            have HB2 := hide (HB1.out.trans (b2.mono z1))
            have z2 := HB2.out.size
            clear b2
            go_wp2_with fail
            refine (hT.out _).mono ?_
            rintro e u3 ⟨rfl, nq, os, rfl⟩
            have HB3 := hide (HB2.out.trans ((Go.Proofs.YtcnmbldikjljeaaGreatDoor.below_grow u2 nq os).mono z2))
            generalize grow (u2.drewN nq) os = u3 at *
            go_wp2_with fail
            go_roundw
            case rel => exact ⟨i + 1, by omega, by go_num, HF.out.symm, HB3.out⟩
            case measure => simp [intOf]; omega
          · have HF := hide (show ptrAt q (nextTo d.cases (i + 1)) = .pointer (some ⟨q, k * 7, none⟩) by
              simp only [nextTo]; rw [if_neg (by rw [hk]; omega), hk]; unfold ptrAt; rw [if_neg (by omega)]; simp)
            have hneg : ¬ turnI ((csAt d.cases i).id, (csAt d.cases i).due) ((csAt d.cases k).id, (csAt d.cases k).due) < 0 := fun e => by have := hlts.1 e; omega
            generalize turnI _ _ = tt at *
            have hneg' : 0 ≤ tt := by omega
            clear c82 hbd h2 h1 hlts h3 hk hid hdk HA hneg
            go_wp2_with fail
            refine (hEi.out _ HB.out).mono ?_
            rintro e u1 ⟨rfl, b1⟩
            have HB1 := hide (HB.out.trans (b1.mono hsz))
            have z1 := HB1.out.size
            clear b1
            go_wp2_with fail
            refine (hEk.out _ HB1.out).mono ?_
            rintro e u2 ⟨rfl, b2⟩
            have HB2 := hide (HB1.out.trans (b2.mono z1))
            have z2 := HB2.out.size
            clear b2
            go_wp2_with fail
            refine (hT.out _).mono ?_
            rintro e u3 ⟨rfl, nq, os, rfl⟩
            have HB3 := hide (HB2.out.trans ((Go.Proofs.YtcnmbldikjljeaaGreatDoor.below_grow u2 nq os).mono z2))
            generalize grow (u2.drewN nq) os = u3 at *
            go_wp2_with fail
            go_roundw
            case rel => exact ⟨i + 1, by omega, by go_num, HF.out.symm, HB3.out⟩
            case measure => simp [intOf]; omega
      · have HF := hide (show nextTo d.cases (i + 1) = nextTo d.cases i by simp only [nextTo]; rw [if_neg (fun h => h1 h.1)])
        have hcb : (crs (csAt d.cases i) == 1) = false := by unfold crs; rw [if_neg h1]; split <;> rfl
        generalize crs (csAt d.cases i) = cc at *
        clear c82 hbd h1
        go_wp2_with fail
        go_roundw
        case rel => exact ⟨i + 1, by omega, by go_num, by rw [HF.out], HB.out⟩
        case measure => simp [intOf]; omega
    · have HF := hide (show nextL d.cases = nextTo d.cases i by unfold nextL; rw [HN.out, show n = i by omega])
      go_wp2_with fail
      go_ret
      rw [HF.out]
      exact ⟨rfl, hb⟩
end
end Go.Proofs.YtcnmbldikjljeaaGreatDoor
