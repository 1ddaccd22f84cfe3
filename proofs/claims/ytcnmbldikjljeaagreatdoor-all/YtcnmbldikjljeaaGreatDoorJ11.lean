import Derived.Test.YtcnmbldikjljeaaGreatDoorRows
import Derived.WalkKit
import Derived.WalkSpells
import Derived.WalkLawsBesides
import Derived.Deep.QuietTactic
import Derived.BigQuiet
import Derived.Test.YtcnmbldikjljeaaGreatDoorJ01
namespace Go.Proofs.YtcnmbldikjljeaaGreatDoor
open Go.RowKit

/-- the document's reader in memory: its list, where it stands, where it is told -/
structure FC (w : World) (b : Nat) (vL : Value) (I P : Int) : Prop where
  hb : b < w.heap.size
  c0 : w.cell? ⟨b, 0, none⟩ = some vL
  c1 : w.cell? ⟨b, 1, none⟩ = some (.int .i64 I)
  c2 : w.cell? ⟨b, 2, none⟩ = some (.int .i64 P)
  f1 : w.frozen? ⟨b, 1, none⟩ = false
  f2 : w.frozen? ⟨b, 2, none⟩ = false
/-- the list -/
structure Row (w : World) (b : Nat) (vL : Value) (L : List Int) : Prop where
  len : L.length ≤ 1000
  vals : ∀ x ∈ L, 0 ≤ x ∧ x ≤ 127
  row : (vL = .slice none 0 0 ∧ L = []) ∨ ∃ g cap, vL = .slice (some ⟨g, 0, none⟩) L.length cap ∧ g ≠ b ∧ g < w.heap.size ∧ ∀ i x, L[i]? = some x → w.cell? ⟨g, i, none⟩ = some (.int .u8 x)
/-- w' is w but for block b, and new blocks -/
abbrev But (b : Nat) (w w' : World) : Prop := w.grownBy w' (some b)
theorem But.refl (b : Nat) (w : World) : But b w w := ⟨rfl, rfl, rfl, Nat.le_refl _, fun _ _ _ => rfl⟩
theorem But.trans {b : Nat} {x y z : World} (h : But b x y) (k : But b y z) : But b x z :=
  ⟨k.os.trans h.os, k.tape.trans h.tape, k.output.trans h.output, Nat.le_trans h.size k.size, fun i hi hn => (k.block i (Nat.lt_of_lt_of_le hi h.size) hn).trans (h.block i hi hn)⟩
theorem But.drewN (b : Nat) (w : World) (n : Nat) : But b w (w.drewN n) := ⟨rfl, rfl, rfl, Nat.le_refl _, fun _ _ _ => rfl⟩
theorem But.set (b : Nat) (w : World) (j : Nat) (v : Value) : But b w (w.setCell ⟨b, j, none⟩ v) :=
  ⟨rfl, rfl, rfl, by simp [World.setCell], fun i _ hn => Below.heap_setCell _ _ _ _ (fun e => hn (by simp [e]))⟩
theorem But.cell {b : Nat} {w w' : World} (h : But b w w') {g i : Nat} (hg : g < w.heap.size) (hn : g ≠ b) : w'.cell? ⟨g, i, none⟩ = w.cell? ⟨g, i, none⟩ :=
  World.cell?_of_block (h.block g hg (by simpa using hn))
theorem But.frozen {b : Nat} {w w' : World} (h : But b w w') {g i : Nat} (hg : g < w.heap.size) (hn : g ≠ b) : w'.frozen? ⟨g, i, none⟩ = w.frozen? ⟨g, i, none⟩ :=
  World.frozen?_of_block (h.block g hg (by simpa using hn))
theorem Row.on {b : Nat} {w w' : World} {vL : Value} {L : List Int} (h : Row w b vL L) (hb : But b w w') : Row w' b vL L := by
  refine ⟨h.len, h.vals, ?_⟩
  rcases h.row with a | ⟨g, cap, h1, h2, h3, h4⟩
  · exact .inl a
  · exact .inr ⟨g, cap, h1, h2, Nat.lt_of_lt_of_le h3 hb.size, fun i x hx => (hb.cell h3 h2).trans (h4 i x hx)⟩
theorem FC.drewN {w : World} {b : Nat} {vL : Value} {I P : Int} (h : FC w b vL I P) (n : Nat) : FC (w.drewN n) b vL I P := ⟨h.hb, h.c0, h.c1, h.c2, h.f1, h.f2⟩
theorem FC.setI {w : World} {b : Nat} {vL : Value} {I P : Int} (h : FC w b vL I P) (x : Int) : FC (w.setCell ⟨b, 1, none⟩ (.int .i64 x)) b vL x P :=
  ⟨by simpa using h.hb, (sc_ne (by omega)).trans h.c0, sc_eq h.c1, (sc_ne (by omega)).trans h.c2, by rw [World.frozen?_setCell]; exact h.f1, by rw [World.frozen?_setCell]; exact h.f2⟩
theorem FC.setP {w : World} {b : Nat} {vL : Value} {I P : Int} (h : FC w b vL I P) (x : Int) : FC (w.setCell ⟨b, 2, none⟩ (.int .i64 x)) b vL I x :=
  ⟨by simpa using h.hb, (sc_ne (by omega)).trans h.c0, (sc_ne (by omega)).trans h.c1, sc_eq h.c2, by rw [World.frozen?_setCell]; exact h.f1, by rw [World.frozen?_setCell]; exact h.f2⟩

theorem drewN_two (w : World) (a b : Nat) : (w.drewN a).drewN b = w.drewN (a + b) := by simp
abbrev Sg := Int × Int
def lookF (L : List Int) (s : Sg) : Int := if 0 ≤ s.2 ∨ (L.length : Int) ≤ s.1 then 0 else L.getD s.1.toNat 0
def badF (s : Sg) (place : Int) : Sg := if s.2 < 0 then (s.1, place) else s
def takeF (L : List Int) (s : Sg) (lo hi : Int) : Int × Sg := if lookF L s < lo ∨ hi < lookF L s ∨ lookF L s = 0 then (lo, badF s s.1) else (lookF L s, (s.1 + 1, s.2))
theorem lookF_bd {L : List Int} (h : ∀ x ∈ L, 0 ≤ x ∧ x ≤ 127) (s : Sg) : 0 ≤ lookF L s ∧ lookF L s ≤ 127 := by
  unfold lookF
  split
  · omega
  · by_cases hi : s.1.toNat < L.length
    · have := h (L.getD s.1.toNat 0) (by simp [List.getD, hi])
      exact this
    · have : L.getD s.1.toNat 0 = 0 := by simp [List.getD, List.getElem?_eq_none (Nat.le_of_not_lt hi)]
      omega

section
variable {w : World} {b : Nat} {vL : Value} {L : List Int} {I P : Int}

set_option maxRecDepth 100000 in
set_option maxHeartbeats 1000000 in
theorem bad_any (C : FC w b vL I P) (place : Int) :
    Calls Tryz.prog 134 #[.pointer (some ⟨b, 0, none⟩), .int .i64 place] w fun e w' => e = .returned (.tuple #[]) ∧ FC w' b vL (badF (I, P) place).1 (badF (I, P) place).2 ∧ But b w w' := by
  have c2 := C.c2
  have f2 := C.f2
  by_cases h : P < 0
  · have hd : badF (I, P) place = (I, place) := by unfold badF; rw [if_pos h]
    have HD := hide hd
    clear hd
    go_enter Tryz.func134, Tryz.ntmps134
    go_wp2
    go_end0
    rw [HD.out]
    exact ⟨rfl, C.setP _, But.set _ _ _ _⟩
  · have hd : badF (I, P) place = (I, P) := by unfold badF; rw [if_neg h]
    have HD := hide hd
    clear hd
    go_enter Tryz.func134, Tryz.ntmps134
    go_wp2
    go_end0
    rw [HD.out]
    exact ⟨rfl, C, But.refl _ _⟩

set_option maxRecDepth 100000 in
set_option maxHeartbeats 1000000 in
theorem look_any (C : FC w b vL I P) (R : Row w b vL L) (hI : 0 ≤ I) :
    Calls Tryz.prog 132 #[.pointer (some ⟨b, 0, none⟩)] w fun e w' => e = .returned (.int .u8 (lookF L (I, P))) ∧ ∃ n, w' = w.drewN n := by
  have c0 := C.c0
  have c1 := C.c1
  have c2 := C.c2
  have hlen := R.len
  by_cases h : 0 ≤ P
  · have hd : lookF L (I, P) = 0 := by unfold lookF; rw [if_pos (.inl h)]
    have HD := hide hd
    have hdc : decide (0 ≤ P) = true := by simp [h]
    clear hd
    go_enter Tryz.func132, Tryz.ntmps132
    go_wp2
    go_quiet (fail)
    go_wp2
    go_ret
    rw [HD.out]
    exact ⟨rfl, _, rfl⟩
  · have hdc : decide (0 ≤ P) = false := by simp; omega
    by_cases hi : (L.length : Int) ≤ I
    · have hd : lookF L (I, P) = 0 := by unfold lookF; rw [if_pos (.inr hi)]
      have HD := hide hd
      clear hd
      rcases R.row with ⟨rfl, rfl⟩ | ⟨g, cap, rfl, _, _, _⟩
      all_goals
        go_enter Tryz.func132, Tryz.ntmps132
        go_wp2
        go_quiet (fail)
        go_wp2
        go_ret
        rw [HD.out]
        exact ⟨rfl, _, rfl⟩
    · have hlt : I.toNat < L.length := by omega
      have hd : lookF L (I, P) = L[I.toNat] := by unfold lookF; rw [if_neg (by omega)]; simp [List.getD, hlt]
      have HD := hide hd
      have hdi : decide ((L.length : Int) ≤ I) = false := by simp; omega
      clear hd
      rcases R.row with ⟨rfl, rfl⟩ | ⟨g, cap, rfl, _, _, hg⟩
      · simp at hlt
      · have e0 := hg I.toNat L[I.toNat] (by simp [hlt])
        have hI2 : I < (L.length : Int) := by omega
        clear hg
        go_enter Tryz.func132, Tryz.ntmps132
        go_wp2
        go_quiet (fail)
        go_wp2
        go_quiet (fail)
        go_wp2
        go_ret
        rw [HD.out]
        exact ⟨rfl, _, drewN_two _ _ _⟩

set_option maxRecDepth 100000 in
set_option maxHeartbeats 1000000 in
theorem takeF_any (C : FC w b vL I P) (R : Row w b vL L) (hI : 0 ≤ I) (hI2 : I ≤ 100000) (lo hi : Int) :
    Calls Tryz.prog 171 #[.pointer (some ⟨b, 0, none⟩), .int .u8 lo, .int .u8 hi] w fun e w' => e = .returned (.int .u8 (takeF L (I, P) lo hi).1) ∧ FC w' b vL (takeF L (I, P) lo hi).2.1 (takeF L (I, P) lo hi).2.2 ∧ But b w w' := by
  have hbd := lookF_bd R.vals (I, P)
  by_cases h : lookF L (I, P) < lo ∨ hi < lookF L (I, P) ∨ lookF L (I, P) = 0
  · have hd : takeF L (I, P) lo hi = (lo, badF (I, P) I) := by unfold takeF; rw [if_pos h]
    have HD := hide hd
    have hcases : (lookF L (I, P) < lo) ∨ (¬ lookF L (I, P) < lo ∧ hi < lookF L (I, P)) ∨ (¬ lookF L (I, P) < lo ∧ ¬ hi < lookF L (I, P) ∧ lookF L (I, P) = 0) := by omega
    clear hd h
    rcases hcases with a1 | ⟨a1, a2⟩ | ⟨a1, a2, a3⟩
    · go_enter Tryz.func171, Tryz.ntmps171
      go_wp2_with fail
      refine (look_any C R hI).mono ?_
      rintro e w1 ⟨rfl, n, rfl⟩
      have C1 := C.drewN n
      have c1 := C1.c1
      go_wp2_with fail
      refine (bad_any C1 _).mono ?_
      rintro e w2 ⟨rfl, C2, hb⟩
      go_wp2_with fail
      go_ret
      rw [HD.out]
      exact ⟨rfl, C2, (But.drewN b w n).trans hb⟩
    · go_enter Tryz.func171, Tryz.ntmps171
      go_wp2_with fail
      refine (look_any C R hI).mono ?_
      rintro e w1 ⟨rfl, n, rfl⟩
      have C1 := C.drewN n
      have c1 := C1.c1
      go_wp2_with fail
      refine (bad_any C1 _).mono ?_
      rintro e w2 ⟨rfl, C2, hb⟩
      go_wp2_with fail
      go_ret
      rw [HD.out]
      exact ⟨rfl, C2, (But.drewN b w n).trans hb⟩
    · have a4 : (lookF L (I, P) == 0) = true := by simp [a3]
      clear a3
      go_enter Tryz.func171, Tryz.ntmps171
      go_wp2_with fail
      refine (look_any C R hI).mono ?_
      rintro e w1 ⟨rfl, n, rfl⟩
      have C1 := C.drewN n
      have c1 := C1.c1
      go_wp2_with fail
      refine (bad_any C1 _).mono ?_
      rintro e w2 ⟨rfl, C2, hb⟩
      go_wp2_with fail
      go_ret
      rw [HD.out]
      exact ⟨rfl, C2, (But.drewN b w n).trans hb⟩
  · have hd : takeF L (I, P) lo hi = (lookF L (I, P), (I + 1, P)) := by unfold takeF; rw [if_neg h]
    have HD := hide hd
    have a1 : ¬ lookF L (I, P) < lo := by omega
    have a2 : ¬ hi < lookF L (I, P) := by omega
    have a4 : (lookF L (I, P) == 0) = false := by simp; omega
    clear hd h
    go_enter Tryz.func171, Tryz.ntmps171
    go_wp2_with fail
    refine (look_any C R hI).mono ?_
    rintro e w1 ⟨rfl, n, rfl⟩
    have C1 := C.drewN n
    have c1 := C1.c1
    have f1 := C1.f1
    go_wp2_with fail
    go_ret
    rw [HD.out]
    exact ⟨rfl, C1.setI _, (But.drewN b w n).trans (But.set _ _ _ _)⟩
end

/-- what take answers lies where it was asked to; it goes on by one at the most -/
theorem takeF_lo (L : List Int) (s : Sg) (lo hi : Int) : lo ≤ (takeF L s lo hi).1 := by unfold takeF; split <;> simp <;> omega
theorem takeF_hi (L : List Int) (s : Sg) (lo hi : Int) (h : lo ≤ hi) : (takeF L s lo hi).1 ≤ hi := by unfold takeF; split <;> simp <;> omega
theorem badF_I (s : Sg) (p : Int) : (badF s p).1 = s.1 := by unfold badF; split <;> rfl
theorem takeF_I (L : List Int) (s : Sg) (lo hi : Int) : s.1 ≤ (takeF L s lo hi).2.1 ∧ (takeF L s lo hi).2.1 ≤ s.1 + 1 := by
  unfold takeF; split
  · simp [badF_I]; omega
  · simp; omega

def timeF (L : List Int) (s : Sg) : Int × Sg :=
  let a := takeF L s 48 50
  let b := takeF L a.2 48 (if a.1 = 50 then 52 else 57)
  let c := takeF L b.2 58 58
  let h := 10 * (a.1 - 48) + (b.1 - 48)
  let d := takeF L c.2 48 (if h = 24 then 48 else 53)
  let e := takeF L d.2 48 (if h = 24 then 48 else 57)
  (60 * h + 10 * (d.1 - 48) + (e.1 - 48), e.2)

section
variable {w : World} {b : Nat} {vL : Value} {L : List Int} {I P : Int}
set_option maxRecDepth 100000 in
set_option maxHeartbeats 2000000 in
theorem timeF_any (C : FC w b vL I P) (R : Row w b vL L) (hI : 0 ≤ I) (hI2 : I ≤ 90000) :
    Calls Tryz.prog 172 #[.pointer (some ⟨b, 0, none⟩)] w fun e w' => e = .returned (.int .i64 (timeF L (I, P)).1) ∧ FC w' b vL (timeF L (I, P)).2.1 (timeF L (I, P)).2.2 ∧ But b w w' := by
  have HT := hide (show timeF L (I, P) = timeF L (I, P) from rfl)
  obtain ⟨r, hr⟩ : ∃ r, timeF L (I, P) = r := ⟨_, rfl⟩
  rw [hr]
  unfold timeF at hr
  simp only at hr
  have HR := hide hr
  clear hr HT
  have lo1 := takeF_lo L (I, P) 48 50
  have hi1 := takeF_hi L (I, P) 48 50 (by omega)
  have i1 := takeF_I L (I, P) 48 50
  go_enter Tryz.func172, Tryz.ntmps172
  go_wp2_with fail
  refine (takeF_any C R hI (by omega) _ _).mono ?_
  rintro e w1 ⟨rfl, C1, b1⟩
  have R1 := R.on b1
  generalize takeF L (I, P) 48 50 = t1 at *
  obtain ⟨a, I1, P1⟩ := t1
  simp only at lo1 hi1 i1 C1 HR ⊢
  by_cases ha : a = 50
  · have e1 : (a == 50) = true := by simp [ha]
    simp only [if_pos ha] at HR
    clear ha
    have lo2 := takeF_lo L (I1, P1) 48 52
    have hi2 := takeF_hi L (I1, P1) 48 52 (by omega)
    have i2 := takeF_I L (I1, P1) 48 52
    go_wp2_with fail
    refine (takeF_any C1 R1 (by omega) (by omega) _ _).mono ?_
    rintro e w2 ⟨rfl, C2, b2⟩
    have R2 := R1.on b2
    generalize takeF L (I1, P1) 48 52 = t2 at *
    obtain ⟨bb, I2, P2⟩ := t2
    simp only at lo2 hi2 i2 C2 HR ⊢
    have i3 := takeF_I L (I2, P2) 58 58
    go_wp2_with fail
    refine (takeF_any C2 R2 (by omega) (by omega) _ _).mono ?_
    rintro e w3 ⟨rfl, C3, b3⟩
    have R3 := R2.on b3
    generalize takeF L (I2, P2) 58 58 = t3 at *
    obtain ⟨cc, I3, P3⟩ := t3
    simp only at i3 C3 HR ⊢
    by_cases hh : 10 * (a - 48) + (bb - 48) = 24
    · have e2 : (10 * (a - 48) + (bb - 48) == 24) = true := by simp [hh]
      simp only [if_pos hh] at HR
      clear hh
      have lo4 := takeF_lo L (I3, P3) 48 48
      have hi4 := takeF_hi L (I3, P3) 48 48 (by omega)
      have i4 := takeF_I L (I3, P3) 48 48
      go_wp2_with fail
      refine (takeF_any C3 R3 (by omega) (by omega) _ _).mono ?_
      rintro e w4 ⟨rfl, C4, b4⟩
      have R4 := R3.on b4
      generalize takeF L (I3, P3) 48 48 = t4 at *
      obtain ⟨dd, I4, P4⟩ := t4
      simp only at lo4 hi4 i4 C4 HR ⊢
      have lo5 := takeF_lo L (I4, P4) 48 48
      have hi5 := takeF_hi L (I4, P4) 48 48 (by omega)
      go_wp2_with fail
      refine (takeF_any C4 R4 (by omega) (by omega) _ _).mono ?_
      rintro e w5 ⟨rfl, C5, b5⟩
      generalize takeF L (I4, P4) 48 48 = t5 at *
      obtain ⟨ee, I5, P5⟩ := t5
      simp only at lo5 hi5 C5 HR ⊢
      go_wp2_with fail
      go_ret
      rw [← HR.out]
      exact ⟨rfl, C5, b1.trans (b2.trans (b3.trans (b4.trans b5)))⟩
    · have e2 : (10 * (a - 48) + (bb - 48) == 24) = false := by simp [hh]
      simp only [if_neg hh] at HR
      clear hh
      have lo4 := takeF_lo L (I3, P3) 48 53
      have hi4 := takeF_hi L (I3, P3) 48 53 (by omega)
      have i4 := takeF_I L (I3, P3) 48 53
      go_wp2_with fail
      refine (takeF_any C3 R3 (by omega) (by omega) _ _).mono ?_
      rintro e w4 ⟨rfl, C4, b4⟩
      have R4 := R3.on b4
      generalize takeF L (I3, P3) 48 53 = t4 at *
      obtain ⟨dd, I4, P4⟩ := t4
      simp only at lo4 hi4 i4 C4 HR ⊢
      have lo5 := takeF_lo L (I4, P4) 48 57
      have hi5 := takeF_hi L (I4, P4) 48 57 (by omega)
      go_wp2_with fail
      refine (takeF_any C4 R4 (by omega) (by omega) _ _).mono ?_
      rintro e w5 ⟨rfl, C5, b5⟩
      generalize takeF L (I4, P4) 48 57 = t5 at *
      obtain ⟨ee, I5, P5⟩ := t5
      simp only at lo5 hi5 C5 HR ⊢
      go_wp2_with fail
      go_ret
      rw [← HR.out]
      exact ⟨rfl, C5, b1.trans (b2.trans (b3.trans (b4.trans b5)))⟩
  · have e1 : (a == 50) = false := by simp [ha]
    simp only [if_neg ha] at HR
    clear ha
    have lo2 := takeF_lo L (I1, P1) 48 57
    have hi2 := takeF_hi L (I1, P1) 48 57 (by omega)
    have i2 := takeF_I L (I1, P1) 48 57
    go_wp2_with fail
    refine (takeF_any C1 R1 (by omega) (by omega) _ _).mono ?_
    rintro e w2 ⟨rfl, C2, b2⟩
    have R2 := R1.on b2
    generalize takeF L (I1, P1) 48 57 = t2 at *
    obtain ⟨bb, I2, P2⟩ := t2
    simp only at lo2 hi2 i2 C2 HR ⊢
    have i3 := takeF_I L (I2, P2) 58 58
    go_wp2_with fail
    refine (takeF_any C2 R2 (by omega) (by omega) _ _).mono ?_
    rintro e w3 ⟨rfl, C3, b3⟩
    have R3 := R2.on b3
    generalize takeF L (I2, P2) 58 58 = t3 at *
    obtain ⟨cc, I3, P3⟩ := t3
    simp only at i3 C3 HR ⊢
    by_cases hh : 10 * (a - 48) + (bb - 48) = 24
    · have e2 : (10 * (a - 48) + (bb - 48) == 24) = true := by simp [hh]
      simp only [if_pos hh] at HR
      clear hh
      have lo4 := takeF_lo L (I3, P3) 48 48
      have hi4 := takeF_hi L (I3, P3) 48 48 (by omega)
      have i4 := takeF_I L (I3, P3) 48 48
      go_wp2_with fail
      refine (takeF_any C3 R3 (by omega) (by omega) _ _).mono ?_
      rintro e w4 ⟨rfl, C4, b4⟩
      have R4 := R3.on b4
      generalize takeF L (I3, P3) 48 48 = t4 at *
      obtain ⟨dd, I4, P4⟩ := t4
      simp only at lo4 hi4 i4 C4 HR ⊢
      have lo5 := takeF_lo L (I4, P4) 48 48
      have hi5 := takeF_hi L (I4, P4) 48 48 (by omega)
      go_wp2_with fail
      refine (takeF_any C4 R4 (by omega) (by omega) _ _).mono ?_
      rintro e w5 ⟨rfl, C5, b5⟩
      generalize takeF L (I4, P4) 48 48 = t5 at *
      obtain ⟨ee, I5, P5⟩ := t5
      simp only at lo5 hi5 C5 HR ⊢
      go_wp2_with fail
      go_ret
      rw [← HR.out]
      exact ⟨rfl, C5, b1.trans (b2.trans (b3.trans (b4.trans b5)))⟩
    · have e2 : (10 * (a - 48) + (bb - 48) == 24) = false := by simp [hh]
      simp only [if_neg hh] at HR
      clear hh
      have lo4 := takeF_lo L (I3, P3) 48 53
      have hi4 := takeF_hi L (I3, P3) 48 53 (by omega)
      have i4 := takeF_I L (I3, P3) 48 53
      go_wp2_with fail
      refine (takeF_any C3 R3 (by omega) (by omega) _ _).mono ?_
      rintro e w4 ⟨rfl, C4, b4⟩
      have R4 := R3.on b4
      generalize takeF L (I3, P3) 48 53 = t4 at *
      obtain ⟨dd, I4, P4⟩ := t4
      simp only at lo4 hi4 i4 C4 HR ⊢
      have lo5 := takeF_lo L (I4, P4) 48 57
      have hi5 := takeF_hi L (I4, P4) 48 57 (by omega)
      go_wp2_with fail
      refine (takeF_any C4 R4 (by omega) (by omega) _ _).mono ?_
      rintro e w5 ⟨rfl, C5, b5⟩
      generalize takeF L (I4, P4) 48 57 = t5 at *
      obtain ⟨ee, I5, P5⟩ := t5
      simp only at lo5 hi5 C5 HR ⊢
      go_wp2_with fail
      go_ret
      rw [← HR.out]
      exact ⟨rfl, C5, b1.trans (b2.trans (b3.trans (b4.trans b5)))⟩
end
end Go.Proofs.YtcnmbldikjljeaaGreatDoor
