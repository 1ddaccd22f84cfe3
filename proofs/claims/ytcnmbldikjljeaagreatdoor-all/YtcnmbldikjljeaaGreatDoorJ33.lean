import Derived.Test.YtcnmbldikjljeaaGreatDoorJ09
import Derived.Test.YtcnmbldikjljeaaGreatDoorJ29
import Derived.Test.YtcnmbldikjljeaaGreatDoorJ32
namespace Go.Proofs.YtcnmbldikjljeaaGreatDoor
open Go.RowKit

/-- a pair of dockets, the program's and the document's, of one calendar and stages, with the same cases -/
structure DS (PS : PSt) (own : Nat → Nat) (w : World) (t1 t2 p r : Nat) (F : Nat → Bool) (st : List Stg) (d : Dk) : Prop where
  ps : PS own w t1 p F st d
  rt : ∃ c sv vs lv, RT own w t2 r c F st sv vs lv d
section
variable {PS : PSt} {own own' : Nat → Nat} {w w' : World} {T : Nat → Prop} {t1 t2 p r : Nat} {F : Nat → Bool} {st : List Stg} {d d' : Dk}
theorem DS.kept (P : Prg PS) (h : DS PS own w t1 t2 p r F st d) (k : KeptS own own' T w w') (hs : ¬ T 0) (h1 : ¬ T t1) (h2 : ¬ T t2) : DS PS own' w' t1 t2 p r F st d := by
  obtain ⟨c, sv, vs, lv, R⟩ := h.rt
  exact ⟨P.kept h.ps k hs h1, c, sv, vs, lv, R.kept k hs h2⟩
/-- what an acted call leaves: two owners' blocks were written, one behind the other -/
structure Two (own own' : Nat → Nat) (t1 t2 : Nat) (w w' : World) : Prop where
  mid : ∃ own1 w1, Kept own own1 t1 w w1 ∧ Kept own1 own' t2 w1 w'
theorem Two.of (k1 : Kept own own' t1 w w') {own2 : Nat → Nat} {w2 : World} (k2 : Kept own' own2 t2 w' w2) : Two own own2 t1 t2 w w2 := ⟨own', w', k1, k2⟩
end
theorem caseV_form (d : Dk) (id : Int) : ∃ (x0 x1 x2 : Int) (x3 : Bool) (x4 : Int), caseV d id = .tuple #[.agg #[.int .i64 x0, .int .i64 x1, .int .i64 x2, .bool x3], .int .i64 x4] := by
  unfold caseV
  split
  · exact ⟨_, _, _, _, _, rfl⟩
  · exact ⟨_, _, _, _, _, rfl⟩
section
variable {PS : PSt} {own : Nat → Nat} {w : World} {t1 t2 p r : Nat} {F : Nat → Bool} {st : List Stg} {d : Dk}
set_option maxRecDepth 100000 in
set_option maxHeartbeats 4000000 in
theorem acted_open (P : Prg PS) (D : DS PS own w t1 t2 p r F st d) (h1 : t1 ≠ 0) (h2 : t2 ≠ 0) (h12 : t1 ≠ t2) (Q : Pre own w F st d) (a b dd : Int) (s : ByteArray) (l : Value) :
    Calls Tryz.prog 61 #[.agg #[P0 p, P0 r], .agg #[.int .i64 11, .int .i64 a, .int .i64 b, .int .i64 dd, .string s, l]] w fun e w' => e = .returned (.bool true) ∧ ∃ own', DS PS own' w' t1 t2 p r F st (openC F st d b).1 ∧ Two own own' t1 t2 w w' := by
  have HB := hide (boxes w (P0 p) (P0 r) (.int .i64 11) (.int .i64 a) (.int .i64 b) (.int .i64 dd) (.string s) l 155 84 rfl)
  have HD := hide (And.intro D Q)
  have hown : ∀ k, w.heap.size ≤ k → own k ≠ t1 := fun k hk e => by
    have := Q.lt k (by omega)
    omega
  have HO := hide hown
  clear D Q hown
  go_enter Tryz.func61, Tryz.ntmps61
  go_wp2_with fail
  generalize (w.alloc (Obj.cells #[P0 p, P0 r] 155)).alloc (Obj.cells #[.int .i64 11, .int .i64 a, .int .i64 b, .int .i64 dd, .string s, l] 84) = wo at *
  obtain ⟨bo, hsz, ⟨_, q1⟩, q2, q3⟩ := HB.out
  have k0 : Kept own own t1 w wo := .of_below bo HD.out.2.lt
  have Q0 := HD.out.2.on bo.size
  have D0 : DS PS own wo t1 t2 p r F st d := HD.out.1.kept P (.of_below (T := fun _ => False) bo HD.out.2.lt) id id id
  refine (P.open_ D0.ps h1 Q0 b).mono ?_
  rintro e w1 ⟨rfl, own1, PS1, k1⟩
  have q1' := (World.cell?_of_block (a := ⟨w.heap.size, 1, none⟩) (k1.block _ (by simp; omega) (HO.out _ (by simp)))).trans q1
  have q2' := (World.cell?_of_block (a := ⟨w.heap.size + 1, 2, none⟩) (k1.block _ (by simp; omega) (HO.out _ (by simp)))).trans q2
  have q3' := (World.cell?_of_block (a := ⟨w.heap.size + 1, 3, none⟩) (k1.block _ (by simp; omega) (HO.out _ (by simp)))).trans q3
  obtain ⟨c, sv, vs, lv, R⟩ := D0.rt
  have R1 := R.kept k1 (Ne.symm h1) (Ne.symm h12)
  have HR := hide (refDOpen_any R1.rd Q0.stok Q0.n6 Q0.ok (by omega) b)
  have HR1 := hide (And.intro R1 (And.intro k1.bound (And.intro PS1 (k0.trans k1))))
  clear R R1 q1 q2 q3 k0 k1 PS1 D0 Q0 bo HB HD HO
  go_wp2_with fail
  refine HR.out.mono ?_
  rintro e w2 ⟨rfl, lv', R2, f2⟩
  obtain ⟨own2, RT2, k2⟩ := HR1.out.1.step h2 HR1.out.2.1 R2 f2
  have HFIN : Hid (∃ own', DS PS own' w2 t1 t2 p r F st (openC F st d b).1 ∧ Two own own' t1 t2 w w2) := ⟨own2, ⟨P.kept HR1.out.2.2.1 k2 (Ne.symm h2) h12, _, _, _, _, RT2⟩, .of HR1.out.2.2.2 k2⟩
  clear HR HR1 RT2 k2 R2 f2 q1' q2' q3'
  generalize (openC F st d b).2.1 = x at *
  generalize (openC F st d b).2.2 = y at *
  go_wp2_with fail
  go_ret
  exact ⟨rfl, HFIN.out⟩
set_option maxRecDepth 100000 in
set_option maxHeartbeats 4000000 in
theorem acted_move (P : Prg PS) (D : DS PS own w t1 t2 p r F st d) (h1 : t1 ≠ 0) (h2 : t2 ≠ 0) (h12 : t1 ≠ t2) (Q : Pre own w F st d) (a b dd : Int) (s : ByteArray) (l : Value) :
    Calls Tryz.prog 61 #[.agg #[P0 p, P0 r], .agg #[.int .i64 12, .int .i64 a, .int .i64 b, .int .i64 dd, .string s, l]] w fun e w' => e = .returned (.bool true) ∧ ∃ own', DS PS own' w' t1 t2 p r F st (moveC F st d b dd).1 ∧ Two own own' t1 t2 w w' := by
  have HB := hide (boxes w (P0 p) (P0 r) (.int .i64 12) (.int .i64 a) (.int .i64 b) (.int .i64 dd) (.string s) l 155 84 rfl)
  have HD := hide (And.intro D Q)
  have hown : ∀ k, w.heap.size ≤ k → own k ≠ t1 := fun k hk e => by
    have := Q.lt k (by omega)
    omega
  have HO := hide hown
  clear D Q hown
  go_enter Tryz.func61, Tryz.ntmps61
  go_wp2_with fail
  generalize (w.alloc (Obj.cells #[P0 p, P0 r] 155)).alloc (Obj.cells #[.int .i64 12, .int .i64 a, .int .i64 b, .int .i64 dd, .string s, l] 84) = wo at *
  obtain ⟨bo, hsz, ⟨_, q1⟩, q2, q3⟩ := HB.out
  have k0 : Kept own own t1 w wo := .of_below bo HD.out.2.lt
  have Q0 := HD.out.2.on bo.size
  have D0 : DS PS own wo t1 t2 p r F st d := HD.out.1.kept P (.of_below (T := fun _ => False) bo HD.out.2.lt) id id id
  refine (P.move D0.ps h1 Q0 b dd).mono ?_
  rintro e w1 ⟨rfl, own1, PS1, k1⟩
  have q1' := (World.cell?_of_block (a := ⟨w.heap.size, 1, none⟩) (k1.block _ (by simp; omega) (HO.out _ (by simp)))).trans q1
  have q2' := (World.cell?_of_block (a := ⟨w.heap.size + 1, 2, none⟩) (k1.block _ (by simp; omega) (HO.out _ (by simp)))).trans q2
  have q3' := (World.cell?_of_block (a := ⟨w.heap.size + 1, 3, none⟩) (k1.block _ (by simp; omega) (HO.out _ (by simp)))).trans q3
  obtain ⟨c, sv, vs, lv, R⟩ := D0.rt
  have R1 := R.kept k1 (Ne.symm h1) (Ne.symm h12)
  have HR := hide (refDMove_any R1.rd Q0.stok Q0.n6 Q0.ok b dd)
  have HR1 := hide (And.intro R1 (And.intro k1.bound (And.intro PS1 (k0.trans k1))))
  clear R R1 q1 q2 q3 k0 k1 PS1 D0 Q0 bo HB HD HO
  go_wp2_with fail
  refine HR.out.mono ?_
  rintro e w2 ⟨rfl, R2, f2⟩
  obtain ⟨own2, RT2, k2⟩ := HR1.out.1.step h2 HR1.out.2.1 R2 f2
  have HFIN : Hid (∃ own', DS PS own' w2 t1 t2 p r F st (moveC F st d b dd).1 ∧ Two own own' t1 t2 w w2) := ⟨own2, ⟨P.kept HR1.out.2.2.1 k2 (Ne.symm h2) h12, _, _, _, _, RT2⟩, .of HR1.out.2.2.2 k2⟩
  clear HR HR1 RT2 k2 R2 f2 q1' q2' q3'
  generalize (moveC F st d b dd).2 = x at *
  go_wp2_with fail
  go_ret
  exact ⟨rfl, HFIN.out⟩
set_option maxRecDepth 100000 in
set_option maxHeartbeats 4000000 in
theorem acted_close (P : Prg PS) (D : DS PS own w t1 t2 p r F st d) (h1 : t1 ≠ 0) (h2 : t2 ≠ 0) (h12 : t1 ≠ t2) (Q : Pre own w F st d) (a b dd : Int) (s : ByteArray) (l : Value) :
    Calls Tryz.prog 61 #[.agg #[P0 p, P0 r], .agg #[.int .i64 13, .int .i64 a, .int .i64 b, .int .i64 dd, .string s, l]] w fun e w' => e = .returned (.bool true) ∧ ∃ own', DS PS own' w' t1 t2 p r F st (closeC d b).1 ∧ Two own own' t1 t2 w w' := by
  have HB := hide (boxes w (P0 p) (P0 r) (.int .i64 13) (.int .i64 a) (.int .i64 b) (.int .i64 dd) (.string s) l 155 84 rfl)
  have HD := hide (And.intro D Q)
  have hown : ∀ k, w.heap.size ≤ k → own k ≠ t1 := fun k hk e => by
    have := Q.lt k (by omega)
    omega
  have HO := hide hown
  clear D Q hown
  go_enter Tryz.func61, Tryz.ntmps61
  go_wp2_with fail
  generalize (w.alloc (Obj.cells #[P0 p, P0 r] 155)).alloc (Obj.cells #[.int .i64 13, .int .i64 a, .int .i64 b, .int .i64 dd, .string s, l] 84) = wo at *
  obtain ⟨bo, hsz, ⟨_, q1⟩, q2, q3⟩ := HB.out
  have k0 : Kept own own t1 w wo := .of_below bo HD.out.2.lt
  have Q0 := HD.out.2.on bo.size
  have D0 : DS PS own wo t1 t2 p r F st d := HD.out.1.kept P (.of_below (T := fun _ => False) bo HD.out.2.lt) id id id
  refine (P.close D0.ps h1 Q0 b).mono ?_
  rintro e w1 ⟨rfl, own1, PS1, k1⟩
  have q1' := (World.cell?_of_block (a := ⟨w.heap.size, 1, none⟩) (k1.block _ (by simp; omega) (HO.out _ (by simp)))).trans q1
  have q2' := (World.cell?_of_block (a := ⟨w.heap.size + 1, 2, none⟩) (k1.block _ (by simp; omega) (HO.out _ (by simp)))).trans q2
  have q3' := (World.cell?_of_block (a := ⟨w.heap.size + 1, 3, none⟩) (k1.block _ (by simp; omega) (HO.out _ (by simp)))).trans q3
  obtain ⟨c, sv, vs, lv, R⟩ := D0.rt
  have R1 := R.kept k1 (Ne.symm h1) (Ne.symm h12)
  have HR := hide (refDClose_any R1.rd Q0.ok b)
  have HR1 := hide (And.intro R1 (And.intro k1.bound (And.intro PS1 (k0.trans k1))))
  clear R R1 q1 q2 q3 k0 k1 PS1 D0 Q0 bo HB HD HO
  go_wp2_with fail
  refine HR.out.mono ?_
  rintro e w2 ⟨rfl, lv', R2, f2⟩
  obtain ⟨own2, RT2, k2⟩ := HR1.out.1.step h2 HR1.out.2.1 R2 f2
  have HFIN : Hid (∃ own', DS PS own' w2 t1 t2 p r F st (closeC d b).1 ∧ Two own own' t1 t2 w w2) := ⟨own2, ⟨P.kept HR1.out.2.2.1 k2 (Ne.symm h2) h12, _, _, _, _, RT2⟩, .of HR1.out.2.2.2 k2⟩
  clear HR HR1 RT2 k2 R2 f2 q1' q2' q3'
  generalize (closeC d b).2 = x at *
  go_wp2_with fail
  go_ret
  exact ⟨rfl, HFIN.out⟩
set_option maxRecDepth 100000 in
set_option maxHeartbeats 4000000 in
theorem acted_case (P : Prg PS) (D : DS PS own w t1 t2 p r F st d) (h1 : t1 ≠ 0) (h2 : t2 ≠ 0) (h12 : t1 ≠ t2) (Q : Pre own w F st d) (a b dd : Int) (s : ByteArray) (l : Value) :
    Calls Tryz.prog 61 #[.agg #[P0 p, P0 r], .agg #[.int .i64 17, .int .i64 a, .int .i64 b, .int .i64 dd, .string s, l]] w fun e w' => e = .returned (.bool true) ∧ ∃ own', DS PS own' w' t1 t2 p r F st d ∧ Two own own' t1 t2 w w' := by
  have HB := hide (boxes w (P0 p) (P0 r) (.int .i64 17) (.int .i64 a) (.int .i64 b) (.int .i64 dd) (.string s) l 155 84 rfl)
  have HD := hide (And.intro D Q)
  have hown : ∀ k, w.heap.size ≤ k → own k ≠ t1 := fun k hk e => by
    have := Q.lt k (by omega)
    omega
  have HO := hide hown
  clear D Q hown
  obtain ⟨x0, x1, x2, x3, x4, hcv⟩ := caseV_form d b
  have HCV := hide hcv
  clear hcv
  go_enter Tryz.func61, Tryz.ntmps61
  go_wp2_with fail
  generalize (w.alloc (Obj.cells #[P0 p, P0 r] 155)).alloc (Obj.cells #[.int .i64 17, .int .i64 a, .int .i64 b, .int .i64 dd, .string s, l] 84) = wo at *
  obtain ⟨bo, hsz, ⟨_, q1⟩, q2, q3⟩ := HB.out
  have k0 : Kept own own t1 w wo := .of_below bo HD.out.2.lt
  have Q0 := HD.out.2.on bo.size
  have D0 : DS PS own wo t1 t2 p r F st d := HD.out.1.kept P (.of_below (T := fun _ => False) bo HD.out.2.lt) id id id
  have HPC := hide (P.case_ D0.ps h1 Q0 b)
  rw [HCV.out] at HPC
  refine HPC.out.mono ?_
  rintro e w1 ⟨rfl, own1, PS1, k1⟩
  have q1' := (World.cell?_of_block (a := ⟨w.heap.size, 1, none⟩) (k1.block _ (by simp; omega) (HO.out _ (by simp)))).trans q1
  have q2' := (World.cell?_of_block (a := ⟨w.heap.size + 1, 2, none⟩) (k1.block _ (by simp; omega) (HO.out _ (by simp)))).trans q2
  have q3' := (World.cell?_of_block (a := ⟨w.heap.size + 1, 3, none⟩) (k1.block _ (by simp; omega) (HO.out _ (by simp)))).trans q3
  obtain ⟨c, sv, vs, lv, R⟩ := D0.rt
  have hs1 : w.heap.size + 1 < w1.heap.size := Nat.lt_of_lt_of_le hsz k1.size
  have R1 := R.kept k1 (Ne.symm h1) (Ne.symm h12)
  have hba : ∀ o : Obj, Below w1.heap.size w1 (w1.alloc o) := fun o => (Below.refl _ _).alloc (Nat.le_refl _) _
  have HRF := hide (fun o : Obj => refDCase_any (R1.kept (.of_below (T := fun _ => False) (hba o) k1.bound) id id).rd Q0.ok.len b)
  have HRR := hide (fun o : Obj => (R1.kept (.of_below (T := fun _ => False) (hba o) k1.bound) id id))
  have HKA := hide (fun o : Obj => (show Kept own1 own1 t1 w1 (w1.alloc o) from .of_below (hba o) k1.bound))
  rw [HCV.out] at HRF
  have HR1 := hide (And.intro k1.bound (And.intro PS1 (k0.trans k1)))
  have HPK := hide (fun o : Obj => (P.kept PS1 (.of_below (T := fun _ => False) (hba o) k1.bound) id id))
  have q1a : (w1.alloc (Obj.cells #[.int .i64 x0, .int .i64 x1, .int .i64 x2, .bool x3] 69)).cell? ⟨w.heap.size, 1, none⟩ = some (P0 r) := ((hba _).cell (by simp; omega)).trans q1'
  have q2a : (w1.alloc (Obj.cells #[.int .i64 x0, .int .i64 x1, .int .i64 x2, .bool x3] 69)).cell? ⟨w.heap.size + 1, 2, none⟩ = some (.int .i64 b) := ((hba _).cell (by simp; omega)).trans q2'
  clear R R1 q1 q2 q3 k0 k1 PS1 D0 Q0 bo HB HD HO HPC hba
  go_wp2_with fail
  refine (HRF.out _).mono ?_
  rintro e w2 ⟨rfl, R2, f2⟩
  have hlt2 : ∀ k, own1 k ≠ 0 → k < (w1.alloc (Obj.cells #[.int .i64 x0, .int .i64 x1, .int .i64 x2, .bool x3] 69)).heap.size := (HKA.out _).bound
  obtain ⟨own2, RT2, k2⟩ := (HRR.out _).step h2 hlt2 R2 f2
  have hna : own1 w1.heap.size ≠ t2 := fun e => by have := HR1.out.1 w1.heap.size (by omega); omega
  have hbx : w2.heap[w1.heap.size]? = some (.cells #[.int .i64 x0, .int .i64 x1, .int .i64 x2, .bool x3] 69 (0, 0)) := (k2.block _ (by simp) hna).trans (heap_alloc_new _ _)
  have z0 : w2.cell? ⟨w1.heap.size, 0, none⟩ = some (.int .i64 x0) := by simp [World.cell?, hbx]
  have z1 : w2.cell? ⟨w1.heap.size, 1, none⟩ = some (.int .i64 x1) := by simp [World.cell?, hbx]
  have z2 : w2.cell? ⟨w1.heap.size, 2, none⟩ = some (.int .i64 x2) := by simp [World.cell?, hbx]
  have z3 : w2.cell? ⟨w1.heap.size, 3, none⟩ = some (.bool x3) := by simp [World.cell?, hbx]
  have hl2 : w1.heap.size < w2.heap.size := World.block_lt_of_cell? _ _ z0
  have HFIN : Hid (∀ u : World, Below w2.heap.size w2 u → ∃ own', DS PS own' u t1 t2 p r F st d ∧ Two own own' t1 t2 w u) := fun u hu => ⟨own2, ⟨P.kept (P.kept (HPK.out _) k2 (Ne.symm h2) h12) (.of_below (T := fun _ => False) hu k2.bound) id id, _, _, _, _, RT2.kept (.of_below (T := fun _ => False) hu k2.bound) id id⟩, .of (HR1.out.2.2.trans (HKA.out _)) (k2.trans (.of_below hu k2.bound))⟩
  clear HRF HRR HKA HR1 HPK RT2 k2 R2 f2 q1' q2' q3' hbx hlt2
  go_wp2_with fail
  go_ret
  exact ⟨rfl, HFIN.out _ ((Below.refl _ _).alloc (Nat.le_refl _) _)⟩
set_option maxRecDepth 100000 in
set_option maxHeartbeats 4000000 in
theorem acted_now (P : Prg PS) (D : DS PS own w t1 t2 p r F st d) (h1 : t1 ≠ 0) (h2 : t2 ≠ 0) (h12 : t1 ≠ t2) (Q : Pre own w F st d) (a b dd : Int) (s : ByteArray) (l : Value) :
    Calls Tryz.prog 61 #[.agg #[P0 p, P0 r], .agg #[.int .i64 19, .int .i64 a, .int .i64 b, .int .i64 dd, .string s, l]] w fun e w' => e = .returned (.bool true) ∧ ∃ own', DS PS own' w' t1 t2 p r F st d ∧ Two own own' t1 t2 w w' := by
  have HB := hide (boxes w (P0 p) (P0 r) (.int .i64 19) (.int .i64 a) (.int .i64 b) (.int .i64 dd) (.string s) l 155 84 rfl)
  have HD := hide (And.intro D Q)
  have hown : ∀ k, w.heap.size ≤ k → own k ≠ t1 := fun k hk e => by
    have := Q.lt k (by omega)
    omega
  have HO := hide hown
  clear D Q hown
  go_enter Tryz.func61, Tryz.ntmps61
  go_wp2_with fail
  generalize (w.alloc (Obj.cells #[P0 p, P0 r] 155)).alloc (Obj.cells #[.int .i64 19, .int .i64 a, .int .i64 b, .int .i64 dd, .string s, l] 84) = wo at *
  obtain ⟨bo, hsz, ⟨_, q1⟩, q2, q3⟩ := HB.out
  have k0 : Kept own own t1 w wo := .of_below bo HD.out.2.lt
  have Q0 := HD.out.2.on bo.size
  have D0 : DS PS own wo t1 t2 p r F st d := HD.out.1.kept P (.of_below (T := fun _ => False) bo HD.out.2.lt) id id id
  refine (P.now D0.ps h1 Q0).mono ?_
  rintro e w1 ⟨rfl, own1, PS1, k1⟩
  have q1' := (World.cell?_of_block (a := ⟨w.heap.size, 1, none⟩) (k1.block _ (by simp; omega) (HO.out _ (by simp)))).trans q1
  have q2' := (World.cell?_of_block (a := ⟨w.heap.size + 1, 2, none⟩) (k1.block _ (by simp; omega) (HO.out _ (by simp)))).trans q2
  have q3' := (World.cell?_of_block (a := ⟨w.heap.size + 1, 3, none⟩) (k1.block _ (by simp; omega) (HO.out _ (by simp)))).trans q3
  obtain ⟨c, sv, vs, lv, R⟩ := D0.rt
  have R1 := R.kept k1 (Ne.symm h1) (Ne.symm h12)
  have HR := hide (refDNow_any R1.rd)
  have HR1 := hide (And.intro R1 (And.intro k1.bound (And.intro PS1 (k0.trans k1))))
  clear R R1 q1 q2 q3 k0 k1 PS1 D0 Q0 bo HB HD HO
  go_wp2_with fail
  refine HR.out.mono ?_
  rintro e w2 ⟨rfl, R2, f2⟩
  obtain ⟨own2, RT2, k2⟩ := HR1.out.1.step h2 HR1.out.2.1 R2 f2
  have HFIN : Hid (∃ own', DS PS own' w2 t1 t2 p r F st d ∧ Two own own' t1 t2 w w2) := ⟨own2, ⟨P.kept HR1.out.2.2.1 k2 (Ne.symm h2) h12, _, _, _, _, RT2⟩, .of HR1.out.2.2.2 k2⟩
  clear HR HR1 RT2 k2 R2 f2 q1' q2' q3'
  generalize d.time = x at *
  generalize d.told = y at *
  go_wp2_with fail
  go_ret
  exact ⟨rfl, HFIN.out⟩
end
end Go.Proofs.YtcnmbldikjljeaaGreatDoor
