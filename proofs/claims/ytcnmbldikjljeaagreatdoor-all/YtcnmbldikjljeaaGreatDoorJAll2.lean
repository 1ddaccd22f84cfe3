import Derived.Test.YtcnmbldikjljeaaGreatDoorJ37
import Derived.Test.YtcnmbldikjljeaaGreatDoorJ22
namespace Go.Proofs.YtcnmbldikjljeaaGreatDoor
open Go.RowKit

section
variable {PS : PSt} {own : Nat → Nat} {w : World} {t1 t2 p r : Nat} {F : Nat → Bool} {st : List Stg} {d : Dk}
set_option maxRecDepth 100000 in
set_option maxHeartbeats 4000000 in
theorem acted_hold (P : Prg PS) (D : DS PS own w t1 t2 p r F st d) (h1 : t1 ≠ 0) (h2 : t2 ≠ 0) (h12 : t1 ≠ t2) (Q : Pre own w F st d) (a b dd : Int) (s : ByteArray) (l : Value) :
    Calls Tryz.prog 61 #[.agg #[P0 p, P0 r], .agg #[.int .i64 15, .int .i64 a, .int .i64 b, .int .i64 dd, .string s, l]] w fun e w' => e = .returned (.bool true) ∧ ∃ own', DS PS own' w' t1 t2 p r F st (holdC F d b).1 ∧ Two own own' t1 t2 w w' := by
  have HB := hide (boxes w (P0 p) (P0 r) (.int .i64 15) (.int .i64 a) (.int .i64 b) (.int .i64 dd) (.string s) l 155 84 rfl)
  have HD := hide (And.intro D Q)
  have hown : ∀ k, w.heap.size ≤ k → own k ≠ t1 := fun k hk e => by
    have := Q.lt k (by omega)
    omega
  have HO := hide hown
  clear D Q hown
  go_enter Tryz.func61, Tryz.ntmps61
  go_wp2_with fail
  generalize (w.alloc (Obj.cells #[P0 p, P0 r] 155)).alloc (Obj.cells #[.int .i64 15, .int .i64 a, .int .i64 b, .int .i64 dd, .string s, l] 84) = wo at *
  obtain ⟨bo, hsz, ⟨_, q1⟩, q2, q3⟩ := HB.out
  have k0 : Kept own own t1 w wo := .of_below bo HD.out.2.lt
  have Q0 := HD.out.2.on bo.size
  have D0 : DS PS own wo t1 t2 p r F st d := HD.out.1.kept P (.of_below (T := fun _ => False) bo HD.out.2.lt) id id id
  refine (P.hold D0.ps h1 Q0 b).mono ?_
  rintro e w1 ⟨rfl, own1, PS1, k1⟩
  have q1' := (World.cell?_of_block (a := ⟨w.heap.size, 1, none⟩) (k1.block _ (by simp; omega) (HO.out _ (by simp)))).trans q1
  have q2' := (World.cell?_of_block (a := ⟨w.heap.size + 1, 2, none⟩) (k1.block _ (by simp; omega) (HO.out _ (by simp)))).trans q2
  have q3' := (World.cell?_of_block (a := ⟨w.heap.size + 1, 3, none⟩) (k1.block _ (by simp; omega) (HO.out _ (by simp)))).trans q3
  obtain ⟨c, sv, vs, lv, R⟩ := D0.rt
  have R1 := R.kept k1 (Ne.symm h1) (Ne.symm h12)
  have HR := hide (refDHold_any R1.rd Q0.ok b)
  have HR1 := hide (And.intro R1 (And.intro k1.bound (And.intro PS1 (k0.trans k1))))
  clear R R1 q1 q2 q3 k0 k1 PS1 D0 Q0 bo HB HD HO
  go_wp2_with fail
  refine HR.out.mono ?_
  rintro e w2 ⟨rfl, R2, f2⟩
  obtain ⟨own2, RT2, k2⟩ := HR1.out.1.step h2 HR1.out.2.1 R2 f2
  have HFIN : Hid (∃ own', DS PS own' w2 t1 t2 p r F st (holdC F d b).1 ∧ Two own own' t1 t2 w w2) := ⟨own2, ⟨P.kept HR1.out.2.2.1 k2 (Ne.symm h2) h12, _, _, _, _, RT2⟩, .of HR1.out.2.2.2 k2⟩
  clear HR HR1 RT2 k2 R2 f2 q1' q2' q3'
  generalize (holdC F d b).2 = x at *
  go_wp2_with fail
  go_ret
  exact ⟨rfl, HFIN.out⟩
set_option maxRecDepth 100000 in
set_option maxHeartbeats 4000000 in
theorem acted_resume (P : Prg PS) (D : DS PS own w t1 t2 p r F st d) (h1 : t1 ≠ 0) (h2 : t2 ≠ 0) (h12 : t1 ≠ t2) (Q : Pre own w F st d) (a b dd : Int) (s : ByteArray) (l : Value) :
    Calls Tryz.prog 61 #[.agg #[P0 p, P0 r], .agg #[.int .i64 16, .int .i64 a, .int .i64 b, .int .i64 dd, .string s, l]] w fun e w' => e = .returned (.bool true) ∧ ∃ own', DS PS own' w' t1 t2 p r F st (resumeC F d b).1 ∧ Two own own' t1 t2 w w' := by
  have HB := hide (boxes w (P0 p) (P0 r) (.int .i64 16) (.int .i64 a) (.int .i64 b) (.int .i64 dd) (.string s) l 155 84 rfl)
  have HD := hide (And.intro D Q)
  have hown : ∀ k, w.heap.size ≤ k → own k ≠ t1 := fun k hk e => by
    have := Q.lt k (by omega)
    omega
  have HO := hide hown
  clear D Q hown
  go_enter Tryz.func61, Tryz.ntmps61
  go_wp2_with fail
  generalize (w.alloc (Obj.cells #[P0 p, P0 r] 155)).alloc (Obj.cells #[.int .i64 16, .int .i64 a, .int .i64 b, .int .i64 dd, .string s, l] 84) = wo at *
  obtain ⟨bo, hsz, ⟨_, q1⟩, q2, q3⟩ := HB.out
  have k0 : Kept own own t1 w wo := .of_below bo HD.out.2.lt
  have Q0 := HD.out.2.on bo.size
  have D0 : DS PS own wo t1 t2 p r F st d := HD.out.1.kept P (.of_below (T := fun _ => False) bo HD.out.2.lt) id id id
  refine (P.resume D0.ps h1 Q0 b).mono ?_
  rintro e w1 ⟨rfl, own1, PS1, k1⟩
  have q1' := (World.cell?_of_block (a := ⟨w.heap.size, 1, none⟩) (k1.block _ (by simp; omega) (HO.out _ (by simp)))).trans q1
  have q2' := (World.cell?_of_block (a := ⟨w.heap.size + 1, 2, none⟩) (k1.block _ (by simp; omega) (HO.out _ (by simp)))).trans q2
  have q3' := (World.cell?_of_block (a := ⟨w.heap.size + 1, 3, none⟩) (k1.block _ (by simp; omega) (HO.out _ (by simp)))).trans q3
  obtain ⟨c, sv, vs, lv, R⟩ := D0.rt
  have R1 := R.kept k1 (Ne.symm h1) (Ne.symm h12)
  have HR := hide (refDResume_any R1.rd Q0.ok b)
  have HR1 := hide (And.intro R1 (And.intro k1.bound (And.intro PS1 (k0.trans k1))))
  clear R R1 q1 q2 q3 k0 k1 PS1 D0 Q0 bo HB HD HO
  go_wp2_with fail
  refine HR.out.mono ?_
  rintro e w2 ⟨rfl, R2, f2⟩
  obtain ⟨own2, RT2, k2⟩ := HR1.out.1.step h2 HR1.out.2.1 R2 f2
  have HFIN : Hid (∃ own', DS PS own' w2 t1 t2 p r F st (resumeC F d b).1 ∧ Two own own' t1 t2 w w2) := ⟨own2, ⟨P.kept HR1.out.2.2.1 k2 (Ne.symm h2) h12, _, _, _, _, RT2⟩, .of HR1.out.2.2.2 k2⟩
  clear HR HR1 RT2 k2 R2 f2 q1' q2' q3'
  generalize (resumeC F d b).2 = x at *
  go_wp2_with fail
  go_ret
  exact ⟨rfl, HFIN.out⟩
end
section
variable {PS : PSt} (a b dd : Int) (s : ByteArray) (l : Value)
theorem acts_hold (P : Prg PS) : Acts PS 15 a b dd s l := fun D h1 h2 h12 Q ok => by
  refine (acted_hold P D (by omega) (by omega) h12 Q a b dd s l).mono ?_
  rintro e w' ⟨rfl, own', D', k⟩
  exact ⟨rfl, own', _, D', k, (hold_ok ok b).mono (by omega), hold_rest ok Q.rest b⟩
theorem acts_resume (P : Prg PS) : Acts PS 16 a b dd s l := fun D h1 h2 h12 Q ok => by
  refine (acted_resume P D (by omega) (by omega) h12 Q a b dd s l).mono ?_
  rintro e w' ⟨rfl, own', D', k⟩
  exact ⟨rfl, own', _, D', k, (resume_ok ok Q.rest b).1.mono (by omega), (resume_ok ok Q.rest b).2⟩
end
end Go.Proofs.YtcnmbldikjljeaaGreatDoor
