import Derived.Test.YtcnmbldikjljeaaGreatDoorJ15
import Derived.Test.YtcnmbldikjljeaaGreatDoorJ05
namespace Go.Proofs.YtcnmbldikjljeaaGreatDoor
open Go.RowKit

theorem mkN' (n : Nat) (hn : n ≤ 20000) (w : World) : (Instr.makeSlice 88 (.int .i64 n) (.int .i64 n)).run Tryz.prog w = .ok (.slice (some ⟨w.heap.size, 0, none⟩) n n) (w.alloc (.cells (falses n) 4)) := by
  obtain ⟨i0, hi, hz0, hz1, hz2⟩ := info_parts boolInfo
  have h := run_make w 88 4 i0 (.bool false) Tryz.underlying88 hi hz0 .i64 .i64 n n (by omega) (by omega) (by rw [hz2]; omega) (by omega)
  rw [h, hz1]; simp [falses, Value.cells]
theorem mk10080 (w : World) : (Instr.makeSlice 88 (.int .i64 10080) (.int .i64 10080)).run Tryz.prog w = .ok (.slice (some ⟨w.heap.size, 0, none⟩) 10080 10080) (w.alloc (.cells (falses 10080) 4)) := mkN' 10080 (by omega) w
theorem BC.made (w : World) (n b : Nat) (hb : b = w.heap.size) : BC (w.alloc (.cells (falses n) 4)) b n (fun _ => false) :=
  ⟨by rw [hb]; simp, fun j hj => cell_falses w n j b _ hb hj, fun j => World.frozen?_alloc_at _ _ _ _ hb⟩
theorem entries_go (L : List Int) (f : Nat) (x : Sg × (Nat → Bool)) (h : lookF L x.1 = 59) : entriesF L (f + 1) x = entriesF L f (entryF L (x.1.1 + 1, x.1.2) x.2) := by simp only [entriesF]; rw [if_pos h]
theorem entries_end (L : List Int) (f : Nat) (x : Sg × (Nat → Bool)) (h : ¬ lookF L x.1 = 59) : entriesF L f x = x := by cases f <;> simp [entriesF, h]

set_option maxRecDepth 1000000 in
set_option maxHeartbeats 4000000 in
theorem refParse_any (s : ByteArray) (hs : s.size ≤ 200) (w : World) :
    Calls Tryz.prog 82 #[.string s] w fun e w' => RPost (crun s s.size 0) w e w' := by
  have m1 := mk10080
  obtain ⟨L, hL⟩ : ∃ L, L = crun s s.size 0 := ⟨_, rfl⟩
  have hlen : L.length ≤ 200 := by rw [hL]; have := crun_len s s.size 0; omega
  have hvals := hide (show ∀ x ∈ L, 0 ≤ x ∧ x ≤ 127 by rw [hL]; exact crun_vals s s.size 0)
  have HC := hide (characters_any s hs w)
  rw [← hL] at HC
  have HL := hide hL
  clear hL
  go_enter Tryz.func82, Tryz.ntmps82
  go_wp2_with fail
  refine HC.out.mono ?_
  rintro e w1 ⟨v, rfl, hown, hb1⟩
  obtain ⟨ao, cp, hv⟩ : ∃ ao cp, v = .slice ao L.length cp := by
    rcases hown.2 with ⟨e, h0⟩ | ⟨g, cap, cur, e, _⟩
    · exact ⟨none, 0, by rw [e, h0]⟩
    · exact ⟨_, _, e⟩
  subst hv
  have hs1 := hb1.size
  go_wp2_with fail
  have hlt1 : ∀ k, (Value.slice ao L.length cp).ownBlock = some k → k < w1.heap.size := fun k hk => (hown.lt k hk).2
  have C0 : FC ((w1.alloc (Obj.cells #[.slice ao L.length cp, .int .i64 0, .int .i64 (-1)] 228)).alloc (Obj.cells (falses 10080) 4)) w1.heap.size (.slice ao L.length cp) 0 (-1) := by
    refine ⟨by simp; omega, ?_, ?_, ?_, ?_, ?_⟩
    · rw [World.cell?_alloc_lt (h := by simp), World.cell?_alloc_at _ _ _ _ rfl]; rfl
    · rw [World.cell?_alloc_lt (h := by simp), World.cell?_alloc_at _ _ _ _ rfl]; rfl
    · rw [World.cell?_alloc_lt (h := by simp), World.cell?_alloc_at _ _ _ _ rfl]; rfl
    · rw [World.frozen?_alloc_old (h := by simp)]; exact World.frozen?_alloc_at _ _ _ _ rfl
    · rw [World.frozen?_alloc_old (h := by simp)]; exact World.frozen?_alloc_at _ _ _ _ rfl
  have R0 : Row ((w1.alloc (Obj.cells #[.slice ao L.length cp, .int .i64 0, .int .i64 (-1)] 228)).alloc (Obj.cells (falses 10080) 4)) w1.heap.size (.slice ao L.length cp) L :=
    (row_of_own (b := w1.heap.size) hown (.inr (Nat.le_refl _)) (by omega) hvals.out).grown ⟨rfl, rfl, rfl, by simp; omega, fun k hk _ => by rw [Below.heap_alloc _ _ _ (by simp; omega), Below.heap_alloc _ _ _ hk]⟩ (row := none) (by simp)
  have K0 : BC ((w1.alloc (Obj.cells #[.slice ao L.length cp, .int .i64 0, .int .i64 (-1)] 228)).alloc (Obj.cells (falses 10080) 4)) (w1.heap.size + 1) 10080 (fun _ => false) := BC.made _ _ _ (by simp)
  have bW : Below w.heap.size w ((w1.alloc (Obj.cells #[.slice ao L.length cp, .int .i64 0, .int .i64 (-1)] 228)).alloc (Obj.cells (falses 10080) 4)) := (hb1.alloc hs1 _).alloc (by simp; omega) _
  clear hown hb1
  generalize (w1.alloc (Obj.cells #[.slice ao L.length cp, .int .i64 0, .int .i64 (-1)] 228)).alloc (Obj.cells (falses 10080) 4) = W0 at *
  generalize w1.heap.size = b at *
  have hgb : b + 1 ≠ b := by omega
  have hrow : ∀ k, (Value.slice ao L.length cp).ownBlock = some k → k ≠ b + 1 := fun k hk => by have := hlt1 k hk; omega
  have HROW := hide hrow
  have HLT := hide hlt1
  clear hrow hlt1
  have eI := entryF_I L (0, -1) (fun _ => false) (by simp) (by simp)
  refine (entryF_any C0 R0 (by omega) (by omega) K0 hgb HROW.out).mono ?_
  rintro e w2 ⟨rfl, C2, K2, b2⟩
  have R2 := R0.on2 b2 HROW.out
  have bW2 : Below w.heap.size w w2 := bW.trans (b2.below (by omega) (by omega) bW.size)
  obtain ⟨E, hE⟩ : ∃ E, E = entriesF L (L.length + 1) (entryF L (0, -1) (fun _ => false)) := ⟨_, rfl⟩
  have HE := hide hE
  have HRF := hide ((refF_fin L).trans (congrArg (fin L) hE.symm))
  clear hE
  generalize entryF L (0, -1) (fun _ => false) = e0 at *
  obtain ⟨⟨I2, P2⟩, wk2⟩ := e0
  simp only at C2 K2 eI HE
  clear C0 R0 K0 b2 bW
  go_wp2_with fail
  go_loopw [23] (fun _ wr => ∃ (f : Nat) (I P : Int) (wk : Nat → Bool), FC wr b (.slice ao L.length cp) I P ∧ Row wr b (.slice ao L.length cp) L ∧ BC wr (b + 1) 10080 wk ∧ Below w.heap.size w wr ∧ 0 ≤ I ∧ I ≤ L.length ∧ Hid (entriesF L f ((I, P), wk) = E) ∧ (L.length : Int) < I + f) (fun _ wr => L.length - Iof b wr)
  case atStart => exact ⟨L.length + 1, I2, P2, wk2, C2, R2, K2, bW2, by omega, by omega, HE.out.symm, by omega⟩
  case round =>
    clear C2 R2 K2 bW2 eI HE
    obtain ⟨f, I, P, wk, C, R, K, bW, hI0, hIl, HD, hf⟩ := hrel
    have hm := Iof_of C
    by_cases h59 : lookF L (I, P) = 59
    · have e1 : (lookF L (I, P) == 59) = true := by simp [h59]
      have hin := (lookF_in (L := L) (s := (I, P)) (by omega)).2
      simp only at hin
      obtain ⟨f, rfl⟩ : ∃ g, f = g + 1 := ⟨f - 1, by omega⟩
      have HG := hide (entries_go L f ((I, P), wk) h59)
      clear h59
      have eI := entryF_I L (I + 1, P) wk (by simp; omega) (by simp; omega)
      go_wp2_with fail
      refine (look_any C R hI0).mono ?_
      rintro e w3 ⟨rfl, n3, rfl⟩
      have C3 := C.drewN n3
      have c3 := C3.c1
      have f3 := C3.f1
      have b3 : But b wr (wr.drewN n3) := But.drewN _ _ _
      generalize wr.drewN n3 = w3 at *
      have b4 := b3.trans (But.set b w3 1 (.int .i64 (I + 1)))
      go_wp2_with fail
      refine (entryF_any (C3.setI (I + 1)) (R.on b4) (by omega) (by omega) (K.on b4 hgb) hgb HROW.out).mono ?_
      rintro e w5 ⟨rfl, C5, K5, b5⟩
      have R5 := (R.on b4).on2 b5 HROW.out
      have b4' := b4.below (B := w.heap.size) (by omega) bW.size
      have bW5 : Below w.heap.size w w5 := bW.trans (b4'.trans (b5.below (by omega) (by omega) (Nat.le_trans bW.size b4.size)))
      try simp only at HG eI
      generalize entryF L (I + 1, P) wk = e5 at *
      obtain ⟨⟨I5, P5⟩, wk5⟩ := e5
      simp only at C5 K5 eI
      clear b3 b4 b4' b5 C3 c3 f3
      go_wp2_with fail
      go_roundw
      case rel => exact ⟨f, I5, P5, wk5, C5, R5, K5, bW5, by omega, by omega, HG.out.symm.trans HD.out, by omega⟩
      case measure => rw [Iof_of C5, hm]; omega
    · have e1 : (lookF L (I, P) == 59) = false := by simp [h59]
      have HEE := hide ((entries_end L f ((I, P), wk) h59).symm.trans HD.out)
      clear h59
      have m2 := mk70
      go_wp2_with fail
      refine (look_any C R hI0).mono ?_
      rintro e w3 ⟨rfl, n3, rfl⟩
      have C3 := C.drewN n3
      have b3 : But b wr (wr.drewN n3) := But.drewN _ _ _
      have R3 := R.on b3
      have K3 := K.on b3 hgb
      have bW3 := bW.trans (b3.below (B := w.heap.size) (by omega) bW.size)
      generalize wr.drewN n3 = w3 at *
      go_wp2_with fail
      have hg4 := World.grownBy_alloc w3 (Obj.cells (falses 70) 4) none
      have C4 := C3.grown hg4 (by simp)
      have R4 := R3.grown hg4 (by simp)
      have K4 := K3.grown hg4 (by simp)
      have O4 := BC.made w3 70 w3.heap.size rfl
      have hbo : b + 1 < w3.heap.size := K3.lt
      have bW4 : Below w.heap.size w (w3.alloc (Obj.cells (falses 70) 4)) := bW3.alloc bW3.size _
      generalize w3.alloc (Obj.cells (falses 70) 4) = w4 at *
      generalize w3.heap.size = o at *
      clear C3 R3 K3 bW3 hg4 C R K bW b3 hm HD
      refine (look_any C4 R4 hI0).mono ?_
      rintro e w5 ⟨rfl, n5, rfl⟩
      have C5 := C4.drewN n5
      have b5 : But b w4 (w4.drewN n5) := But.drewN _ _ _
      have R5 := R4.on b5
      have K5 := K4.on b5 hgb
      have O5 := O4.on b5 (by omega)
      have bW5 := bW4.trans (b5.below (B := w.heap.size) (by omega) bW4.size)
      generalize w4.drewN n5 = w5 at *
      clear C4 R4 K4 O4 bW4 b5
      go_upto_if 39 with fail
      go_cut [7, 8] from 12 (fun _ _ wc => ∃ (I P : Int) (off : Nat → Bool), FC wc b (.slice ao L.length cp) I P ∧ BC wc (b + 1) 10080 wk ∧ BC wc o 70 off ∧ Below w.heap.size w wc ∧ 0 ≤ I ∧ I ≤ L.length ∧ Hid (refF L = fin2 L wk ((I, P), off)))
      case first =>
        by_cases h33 : lookF L (I, P) = 33
        · have e2 : (lookF L (I, P) == 33) = true := by simp [h33]
          rw [← HEE.out, fin_yes h33] at HRF
          have hin := (lookF_in (L := L) (s := (I, P)) (by omega))
          simp only at hin
          obtain ⟨N, hN⟩ : ∃ N, N = numbersF L (L.length + 1) (I, P) (-1) (fun _ => false) := ⟨_, rfl⟩
          rw [← hN] at HRF
          have HN := hide hN
          clear hN h33
          rw [e2]
          clear e2
          go_wp2_with fail
          go_loopw [7, 8] (fun la mo wr => ∃ (f : Nat) (I P last : Int) (off : Nat → Bool) (more : Bool), la = .int .i64 last ∧ mo = .bool more ∧ FC wr b (.slice ao L.length cp) I P ∧ Row wr b (.slice ao L.length cp) L ∧ BC wr (b + 1) 10080 wk ∧ BC wr o 70 off ∧ Below w.heap.size w wr ∧ 0 ≤ I ∧ I ≤ L.length ∧ Hid (numsF L f (I, P) last off more = N) ∧ (L.length : Int) < I + f ∧ (more = true → P < 0 ∧ I < L.length)) (fun _ _ wr => L.length - Iof b wr)
          case atStart => exact ⟨L.length + 1, I, P, -1, _, true, rfl, rfl, C5, R5, K5, O5, bW5, by omega, by omega, HN.out.symm, by omega, fun _ => by omega⟩
          case round =>
            clear C5 R5 K5 O5 bW5 HN
            obtain ⟨f, I6, P6, last, off, more, rfl, rfl, C6, R6, K6, O6, bW6, hI60, hI6l, HD6, hf6, hmore⟩ := hrel
            cases more
            · have HND : Hid (N = ((I6, P6), off)) := HD6.out.symm
              clear HD6 hmore
              go_wp2_with fail
              go_meet
              case rel => exact ⟨I6, P6, off, C6, K6, O6, bW6, hI60, hI6l, by unfold Hid; rw [HRF.out, HND.out]⟩
            · have hm6 := hmore rfl
              have hm := Iof_of C6
              obtain ⟨f, rfl⟩ : ∃ g, f = g + 1 := ⟨f - 1, by omega⟩
              have HG := hide ((nums_go L f (I6, P6) last off).symm.trans (show numbersF L (f + 1) (I6, P6) last off = N from HD6.out))
              clear HD6 hmore
              have c1 := C6.c1
              have f1 := C6.f1
              have c2 := C6.c2
              have hP6 := hm6.1
              have b7 := But.set b wr 1 (.int .i64 (I6 + 1))
              have C7 := C6.setI (I6 + 1)
              have R7 := R6.on b7
              have K7 := K6.on b7 hgb
              have O7 := O6.on b7 (by omega)
              have bW7 := bW6.trans (b7.below (B := w.heap.size) (by omega) bW6.size)
              go_wp2_with fail
              refine (numberF_any C7 R7 (by omega) (by omega) last).mono ?_
              rintro e w8 ⟨rfl, C8, b8⟩
              have R8 := R7.on b8
              have K8 := K7.on b8 hgb
              have O8 := O7.on b8 (by omega)
              have bW8 := bW7.trans (b8.below (B := w.heap.size) (by omega) bW7.size)
              have nI := numberF_I L (I6 + 1, P6) last (by simp; omega)
              have nok := numberF_ok L (I6 + 1, P6) last (by simp; omega)
              simp only at nI
              try simp only at HG
              generalize numberF L (I6 + 1, P6) last = r8 at *
              obtain ⟨n8, I8, P8⟩ := r8
              simp only at nI nok C8 HG
              have c8 := C8.c2
              clear C7 R7 K7 O7 bW7 b8 b7 c1 f1 c2
              by_cases hP8 : P8 < 0
              · have hn8 := nok hP8
                simp only [if_pos hP8] at HG
                have hn0 := hn8.1
                have hn1 := hn8.2
                have z1 := O8.cell n8.toNat (by omega)
                have z2 := O8.frz n8.toNat
                have hgo : But o w8 (w8.setCell ⟨o, n8.toNat, none⟩ (.bool true)) := But.set _ _ _ _
                have C9 := C8.grown hgo (by simp; omega)
                have R9 := R8.grown hgo (fun q hq => by have := HLT.out q hq; simp; omega)
                have K9 := K8.grown hgo (by simp; omega)
                have O9 := O8.set n8.toNat
                have bW9 := bW8.trans (hgo.below (B := w.heap.size) (by omega) bW8.size)
                go_wp2_with fail
                refine (look_any C9 R9 (by omega)).mono ?_
                rintro e w10 ⟨rfl, n10, rfl⟩
                have C10 := C9.drewN n10
                have b10 : But b _ _ := But.drewN b (w8.setCell ⟨o, n8.toNat, none⟩ (.bool true)) n10
                have R10 := R9.on b10
                have K10 := K9.on b10 hgb
                have O10 := O9.on b10 (by omega)
                have bW10 := bW9.trans (b10.below (B := w.heap.size) (by omega) bW9.size)
                generalize (w8.setCell ⟨o, n8.toNat, none⟩ (.bool true)).drewN n10 = w10 at *
                have hmo : (lookF L (I8, P8) == 44) = true → P8 < 0 ∧ I8 < L.length := fun h => lookF_in (L := L) (s := (I8, P8)) (by simp at h; omega)
                clear C9 R9 K9 O9 bW9 hgo b10 C8 R8 K8 O8 bW8 z1 z2
                go_wp2_with fail
                go_roundw
                case rel => exact ⟨f, I8, P8, n8, _, _, rfl, rfl, C10, R10, K10, O10, bW10, by omega, by omega, HG.out, by omega, hmo⟩
                case measure => rw [Iof_of C10, hm]; omega
              · simp only [if_neg hP8] at HG
                go_wp2_with fail
                refine (look_any C8 R8 (by omega)).mono ?_
                rintro e w10 ⟨rfl, n10, rfl⟩
                have C10 := C8.drewN n10
                have b10 : But b _ _ := But.drewN b w8 n10
                have R10 := R8.on b10
                have K10 := K8.on b10 hgb
                have O10 := O8.on b10 (by omega)
                have bW10 := bW8.trans (b10.below (B := w.heap.size) (by omega) bW8.size)
                generalize w8.drewN n10 = w10 at *
                have hmo : (lookF L (I8, P8) == 44) = true → P8 < 0 ∧ I8 < L.length := fun h => lookF_in (L := L) (s := (I8, P8)) (by simp at h; omega)
                clear b10 C8 R8 K8 O8 bW8
                go_wp2_with fail
                go_roundw
                case rel => exact ⟨f, I8, P8, n8, _, _, rfl, rfl, C10, R10, K10, O10, bW10, by omega, by omega, HG.out, by omega, hmo⟩
                case measure => rw [Iof_of C10, hm]; omega
        · have e2 : (lookF L (I, P) == 33) = false := by simp [h33]
          rw [← HEE.out, fin_no h33] at HRF
          clear h33
          go_wp2_with fail
          go_meet
          case rel => exact ⟨I, P, _, C5, K5, O5, bW5, hI0, hIl, HRF.out⟩
      case rest =>
        obtain ⟨I6, P6, off, C6, K6, O6, bW6, hI60, hI6l, HR⟩ := hcut
        clear C5 R5 K5 O5 bW5 HRF HEE
        have c0 := C6.c0
        have c1 := C6.c1
        by_cases hIL : I6 < (L.length : Int)
        · have dIL : decide (I6 < (L.length : Int)) = true := by simp [hIL]
          unfold fin2 at HR
          simp only [if_pos hIL] at HR
          go_wp2_with fail
          go_quiet (fail)
          go_wp2_with fail
          refine (bad_any (C6.drewN _) _).mono ?_
          rintro e w7 ⟨rfl, C7, b7⟩
          have b8 := (But.drewN b wc nq).trans b7
          have bW7 := bW6.trans (b8.below (B := w.heap.size) (by omega) bW6.size)
          have hbad := badF_lt (s := (I6, P6)) (p := I6) (by omega)
          generalize badF (I6, P6) I6 = s7 at *
          obtain ⟨I7, P7⟩ := s7
          simp only at C7 hbad HR
          have hP7 : 0 ≤ P7 := by omega
          have c7 := C7.c2
          go_wp2_with fail
          go_quiet (fail)
          go_wp2_with fail
          go_ret2
          refine ⟨bW7.trans (below_drewN (Below.refl _ _) _), .inl ⟨?_, ?_⟩⟩
          · rw [← HL.out, HR.out]; exact hP7
          · rw [← HL.out, HR.out]; rfl
        · have dIL : decide (I6 < (L.length : Int)) = false := by simp; omega
          unfold fin2 at HR
          simp only [if_neg hIL] at HR
          go_wp2_with fail
          go_quiet (fail)
          have b8 := But.drewN b wc nq
          have C7 := C6.drewN nq
          have K7 := K6.on b8 hgb
          have O7 := O6.on b8 (by omega)
          have bW7 := bW6.trans (b8.below (B := w.heap.size) (by omega) bW6.size)
          generalize wc.drewN nq = w7 at *
          have c7 := C7.c2
          by_cases hP7 : 0 ≤ P6
          · go_wp2_with fail
            go_quiet (fail)
            go_wp2_with fail
            go_ret2
            refine ⟨bW7.trans (below_drewN (Below.refl _ _) _), .inl ⟨?_, ?_⟩⟩
            · rw [← HL.out, HR.out]; exact hP7
            · rw [← HL.out, HR.out]; rfl
          · clear C6 K6 O6 bW6 b8 c0 c1 C7
            have hg8 := World.grownBy_alloc w7 (Obj.cells #[.slice none 0 0] 233) none
            have K8 := K7.grown hg8 (by simp)
            have O8 := O7.grown hg8 (by simp)
            have bW8 : Below w.heap.size w (w7.alloc (Obj.cells #[.slice none 0 0] 233)) := bW7.alloc bW7.size _
            have hc8 : (w7.alloc (Obj.cells #[.slice none 0 0] 233)).cell? ⟨w7.heap.size, 0, none⟩ = some (.slice none 0 0) := World.cell?_alloc_at _ _ _ _ rfl
            have hf8 : (w7.alloc (Obj.cells #[.slice none 0 0] 233)).frozen? ⟨w7.heap.size, 0, none⟩ = false := World.frozen?_alloc_at _ _ _ _ rfl
            have hz8 : w7.heap.size < (w7.alloc (Obj.cells #[.slice none 0 0] 233)).heap.size := by simp
            have hbc : b + 1 < w7.heap.size := K7.lt
            have hoc : o < w7.heap.size := O7.lt
            have hwc : w.heap.size ≤ w7.heap.size := bW7.size
            clear K7 O7 bW7 hg8
            go_wp2_with fail
            generalize w7.alloc (Obj.cells #[.slice none 0 0] 233) = w8 at *
            generalize w7.heap.size = cb at *
            have A0 : AW w cb w8 wk off (b + 1) o 0 (.slice none 0 0) := ⟨hc8, hf8, hz8, World.ownsRow_nil _ _ _ _, K8, O8, bW8⟩
            clear hc8 hf8 hz8 K8 O8 bW8
            refine ahead_loop w w8 cb (b + 1) o wk off hbc hoc hwc _ A0 _ ?_
            intro u11 u96 u97 u98 u99 u100 u101 u102 u103 u104 u105 u106 u107 u108 u109 u110 u111 u112 u113 u114 u115 u116 u117 u118 u119 u120 u121 u122 u123 u124 v w9 A
            have hcv := A.cv
            have hown := A.own
            have hzv := A.zv
            have hb1 : big + 1 ≤ maxLen := by unfold big maxLen; omega
            have hb2 : (big + 1) * 8 ≤ 140737488355328 := by unfold big; omega
            obtain ⟨i0, hi, hq0, hq1, hq2⟩ := info_parts intInfo
            have HI := hide hi
            clear hi A0
            generalize hx : cnt (isOpen wk off) big = x at *
            have HX := hide hx
            clear hx
            go_wp2_with (first | (at_builtin; refine wpList_append_lies _ rfl _ _ 24 rfl (cb + 1) 3 i0 (.int .i64 0) 1 8 Tryz.underlying24 HI.out hq0 hq1 hq2 rfl (by decide) _ big (cnts (isOpen wk off) big) (by rfl) (hown.alloc _) ⟨w9.heap.size, 0, none⟩ 1 1 [.int .i64 x] (by rfl) (by rfl) (cell_one_new _ _ _) (by simp [Value.oneCell']) (by omega) hb1 hb2 (by simp; omega) (w9.heap.size + 1) (by simp) ?_; intro gg cap w10 hown10 hgrow hat hlt; obtain ⟨hc10, hf10, A2⟩ := A.go hbc hoc hwc _ (by rw [HX.out]) hown10 hgrow; have HA2 := hide A2; clear hown10 hgrow hat A2) | fail)
            go_ret2
            have A3 := HA2.out
            refine ⟨A3.below, .inr ⟨?_, cb, hwc, rfl, ?_⟩⟩
            · rw [← HL.out, HR.out]; simp; exact hP7
            · rw [← HL.out, HR.out]; exact A3.rc rfl
end Go.Proofs.YtcnmbldikjljeaaGreatDoor
namespace Go.Proofs.YtcnmbldikjljeaaGreatDoor
open Go.RowKit

theorem cnt_succ (F : Nat → Bool) (k : Nat) : decide (cnt F k < cnt F (k + 1)) = F k := by
  simp only [cnt]
  by_cases h : F k = true
  · simp [h]; omega
  · simp [h]

set_option maxRecDepth 100000 in
set_option maxHeartbeats 400000 in
theorem refParse_long (s : ByteArray) (w : World) (hs : 200 < s.size) (hm : s.size ≤ 9223372036854775807) :
    Calls Tryz.prog 82 #[.string s] w fun e w' => e = .returned (.tuple #[.pointer none, .int .i64 0]) ∧ w' = w := by
  go_enter Tryz.func82, Tryz.ntmps82
  go_wp2
  go_ret2
  exact ⟨rfl, rfl⟩

set_option maxRecDepth 100000 in
set_option maxHeartbeats 400000 in
theorem refOpen_bad (g : Nat) (t : Int) (w : World) (h : t < 0 ∨ 100800 ≤ t) :
    Calls Tryz.prog 87 #[.pointer (some ⟨g, 0, none⟩), .int .i64 t] w fun e w' => e = .returned (.tuple #[.bool false, .int .i64 1]) ∧ w' = w := by
  by_cases h0 : t < 0
  · clear h
    go_enter Tryz.func87, Tryz.ntmps87
    go_wp2
    go_ret2
    exact ⟨rfl, rfl⟩
  · have h1 : 100800 ≤ t := by omega
    clear h
    go_enter Tryz.func87, Tryz.ntmps87
    go_wp2
    go_ret2
    exact ⟨rfl, rfl⟩

set_option maxRecDepth 100000 in
set_option maxHeartbeats 1000000 in
theorem refOpen_any (g : Nat) (F : Nat → Bool) (t : Int) (w : World) (C : RC w g F) (h0 : 0 ≤ t) (h1 : t < 100800) :
    Calls Tryz.prog 87 #[.pointer (some ⟨g, 0, none⟩), .int .i64 t] w fun e w' => e = .returned (.tuple #[.bool (F t.toNat), .int .i64 0]) ∧ Below w.heap.size w w' := by
  obtain ⟨q, cap, hc, _, hq, hall⟩ := C.row
  have z0 := hall t.toNat (by omega)
  have z1 := hall (t + 1).toNat (by omega)
  have HF := hide (cnt_succ F t.toNat)
  have e1 : (t + 1).toNat = t.toNat + 1 := by omega
  have HE := hide e1
  rw [← e1] at HF
  clear e1 hall C
  generalize cnt F t.toNat = x at *
  generalize cnt F (t + 1).toNat = y at *
  go_enter Tryz.func87, Tryz.ntmps87
  go_wp2
  go_quiet (fail)
  go_wp2
  go_ret2
  rw [HF.out]
  exact ⟨rfl, below_drewN (Below.refl _ _) _⟩
end Go.Proofs.YtcnmbldikjljeaaGreatDoor
namespace Go.Proofs.YtcnmbldikjljeaaGreatDoor
open Go.RowKit

theorem hit_none {m : Int} {l : List (Int × Int)} (h : hitL m (l.take l.length) = false) : hitL m l = false := by rw [List.take_length] at h; exact h
theorem hit_step {m : Int} {l : List (Int × Int)} {k : Nat} (hk : k < l.length) (h : hitL m (l.take k) = false) (hn : ¬ (l[k].1 ≤ m ∧ m < l[k].2)) : hitL m (l.take (k + 1)) = false := by
  rw [List.take_succ_eq_append_getElem hk]
  simp only [hitL, List.any_append, Bool.or_eq_false_iff] at h ⊢
  refine ⟨h, ?_⟩
  simp only [List.any_cons, List.any_nil, Bool.or_false]
  by_cases a : l[k].1 ≤ m
  · have : ¬ m < l[k].2 := fun e => hn ⟨a, e⟩
    simp [this]
  · simp [a]
theorem hit_yes {m : Int} {l : List (Int × Int)} {k : Nat} (hk : k < l.length) (h1 : l[k].1 ≤ m) (h2 : m < l[k].2) : hitL m l = true := by
  simp only [hitL, List.any_eq_true]
  exact ⟨l[k], List.getElem_mem hk, by simp [h1, h2]⟩

set_option maxRecDepth 100000 in
set_option maxHeartbeats 400000 in
theorem open_bad (g : Nat) (t : Int) (w : World) (h : t < 0 ∨ 100800 ≤ t) :
    Calls Tryz.prog 50 #[.pointer (some ⟨g, 0, none⟩), .int .i64 t] w fun e w' => e = .returned (.tuple #[.bool false, .int .i64 1]) ∧ w' = w := by
  by_cases h0 : t < 0
  · clear h
    go_enter Tryz.func50, Tryz.ntmps50
    go_wp2
    go_ret2
    exact ⟨rfl, rfl⟩
  · have h1 : 100800 ≤ t := by omega
    clear h
    go_enter Tryz.func50, Tryz.ntmps50
    go_wp2
    go_ret2
    exact ⟨rfl, rfl⟩

/-- a calendar inside a block: from cell o on -/
structure CalO (w : World) (g o : Nat) (wk : Nat → List (Int × Int)) (fr : Nat → Bool) : Prop where
  lt : g < w.heap.size
  week : ∀ j, j < 7 → ∃ v, w.cell? ⟨g, o + j, none⟩ = some v ∧ w.ownsRow 0 140 2 v (wk j).length (flat (wk j))
  free : ∀ j, j < 70 → w.cell? ⟨g, o + 7 + j, none⟩ = some (.bool (fr j))
theorem CalM.off {w : World} {g : Nat} {wk : Nat → List (Int × Int)} {fr : Nat → Bool} (h : CalM w g wk fr) : CalO w g 0 wk fr :=
  ⟨h.lt, fun j hj => by rw [Nat.zero_add]; exact h.week j hj, fun j hj => by rw [Nat.zero_add]; exact h.free j hj⟩
theorem CalO.on {w w' : World} {g o : Nat} {wk : Nat → List (Int × Int)} {fr : Nat → Bool} (h : CalO w g o wk fr) (hb : Below w.heap.size w w') : CalO w' g o wk fr := by
  have hg : w.grownBy w' none := ⟨hb.os, hb.tape, hb.output, hb.size, fun k hk _ => hb.block k hk⟩
  refine ⟨Nat.lt_of_lt_of_le h.lt hb.size, fun j hj => ?_, fun j hj => ?_⟩
  · obtain ⟨v, h1, h2⟩ := h.week j hj
    exact ⟨v, (hb.cell (p := ⟨g, o + j, none⟩) h.lt).trans h1, h2.kept hg (by cases v.ownBlock <;> simp)⟩
  · exact (hb.cell (p := ⟨g, o + 7 + j, none⟩) h.lt).trans (h.free j hj)
set_option maxRecDepth 100000 in
set_option maxHeartbeats 1000000 in
/-- the spans of a day -/
theorem spansO_any (g o : Nat) (wk : Nat → List (Int × Int)) (fr : Nat → Bool) (d : Nat) (w0 w : World) (C : CalO w0 g o wk fr) (hb : Below w0.heap.size w0 w) (h1 : d < 70) :
    Calls Tryz.prog 76 #[.pointer (some ⟨g, o, none⟩), .int .i64 d] w fun e w' => w' = w ∧ ∃ v, e = .returned v ∧ w0.ownsRow 0 140 2 v (dayL wk fr d).length (flat (dayL wk fr d)) := by
  have cf := (hb.cell (p := ⟨g, o + 7 + d, none⟩) C.lt).trans (C.free d h1)
  obtain ⟨v, cv0, hown⟩ := C.week (d % 7) (by omega)
  have cv := (hb.cell (p := ⟨g, o + d % 7, none⟩) C.lt).trans cv0
  have d1 : (d : Int) < 70 := by omega
  have m0 : (0 : Int) ≤ (d : Int) % 7 := by omega
  have m1 : (d : Int) % 7 < 7 := by omega
  have m2 : ((d : Int) % 7).toNat = d % 7 := by omega
  cases hf : fr d
  · have hd : dayL wk fr d = wk (d % 7) := by unfold dayL; rw [hf]; rfl
    rw [hd]
    rw [hf] at cf
    have cv2 := cv
    rw [← m2] at cv2
    have m3 : d % 7 < 7 := by omega
    have m4 : ((d % 7 : Nat) : Int) < 7 := by omega
    have HO := hide hown
    clear hf hd hown C m2 cv0 hb
    go_enter Tryz.func76, Tryz.ntmps76
    go_wp2
    go_ret
    exact ⟨rfl, _, rfl, HO.out⟩
  · have hd : dayL wk fr d = [] := by unfold dayL; rw [hf]; rfl
    rw [hd]
    rw [hf] at cf
    clear hf hd hown C m2 cv0 hb
    go_enter Tryz.func76, Tryz.ntmps76
    go_wp2
    go_ret
    exact ⟨rfl, _, rfl, World.ownsRow_nil _ _ _ _⟩

theorem spansOf_any (g : Nat) (wk : Nat → List (Int × Int)) (fr : Nat → Bool) (d : Nat) (w0 w : World) (C : CalM w0 g wk fr) (hb : Below w0.heap.size w0 w) (h1 : d < 70) :
    Calls Tryz.prog 76 #[.pointer (some ⟨g, 0, none⟩), .int .i64 d] w fun e w' => w' = w ∧ ∃ v, e = .returned v ∧ w0.ownsRow 0 140 2 v (dayL wk fr d).length (flat (dayL wk fr d)) := spansO_any g 0 wk fr d w0 w C.off hb h1

set_option maxRecDepth 100000 in
set_option maxHeartbeats 1000000 in
theorem openM_any (g : Nat) (wk : Nat → List (Int × Int)) (fr : Nat → Bool) (t : Int) (w : World) (C : CalM w g wk fr) (h0 : 0 ≤ t) (h1 : t < 100800) (hl : ∀ j, j < 7 → (wk j).length ≤ 1000) :
    Calls Tryz.prog 50 #[.pointer (some ⟨g, 0, none⟩), .int .i64 t] w fun e w' => e = .returned (.tuple #[.bool (openL wk fr t), .int .i64 0]) ∧ Below w.heap.size w w' := by
  obtain ⟨d, hd⟩ : ∃ d : Nat, t / 1440 = d := ⟨(t / 1440).toNat, by omega⟩
  have hd70 : d < 70 := by omega
  have HS := hide (spansOf_any g wk fr d w w C (Below.refl _ _) hd70)
  have ho : openL wk fr t = hitL (t % 1440) (dayL wk fr d) := by
    unfold openL dayL
    rw [hd, show ((d : Int) % 7).toNat = d % 7 by omega, Int.toNat_natCast]
    cases fr d <;> simp [hitL]
  have hn : (dayL wk fr d).length ≤ 1000 := by
    unfold dayL; split
    · simp
    · exact hl _ (by omega)
  have HO := hide ho
  clear ho C hl
  generalize dayL wk fr d = l at *
  go_enter Tryz.func50, Tryz.ntmps50
  go_wp2_with fail
  rw [hd]
  refine HS.out.mono ?_
  rintro e w1 ⟨rfl, v, rfl, hown⟩
  rcases hown.2 with ⟨rfl, hz⟩ | ⟨g2, cap, cur, rfl, _, hg2, _⟩
  · have hz2 : hitL (t % 1440) l = false := by rw [List.length_eq_zero_iff] at hz; subst hz; rfl
    have HZ := hide hz2
    clear hz2
    go_wp2_with fail
    go_loopw [22] (fun i wr => i = .int .i64 0 ∧ wr = w1) (fun _ _ => 0)
    case atStart => exact ⟨rfl, rfl⟩
    case round =>
      obtain ⟨rfl, rfl⟩ := hrel
      go_wp2
      go_ret2
      rw [HO.out, HZ.out]
      exact ⟨rfl, Below.refl _ _⟩
  · have hg2s : g2 < w1.heap.size := (Array.getElem?_eq_some_iff.1 hg2).1
    go_wp2_with fail
    go_loopw [22] (fun i wr => ∃ k : Nat, k ≤ l.length ∧ i = .int .i64 k ∧ Below w1.heap.size w1 wr ∧ Hid (hitL (t % 1440) (l.take k) = false)) (fun i _ => l.length - (intOf i).toNat)
    case atStart => exact ⟨0, Nat.zero_le _, rfl, Below.refl _ _, rfl⟩
    case round =>
      obtain ⟨k, hk, rfl, hb, HH⟩ := hrel
      have hsz := hb.size
      by_cases hlt : k < l.length
      · have hc := flat_at l k hlt
        have e0 : wr.cell? ⟨g2, k * 2, none⟩ = some (.int .i64 l[k].1) := (hb.cell (p := ⟨g2, k * 2, none⟩) hg2s).trans ((hown.cellAt (k * 2) (by omega)).trans hc.1)
        have e1 : wr.cell? ⟨g2, k * 2 + 1, none⟩ = some (.int .i64 l[k].2) := (hb.cell (p := ⟨g2, k * 2 + 1, none⟩) hg2s).trans ((hown.cellAt (k * 2 + 1) (by omega)).trans hc.2)
        have hlt' : (k : Int) < l.length := by omega
        have hg2r : g2 < wr.heap.size := by omega
        clear hc hown
        by_cases a : l[k].1 ≤ t % 1440
        · by_cases a2 : t % 1440 < l[k].2
          · have HY := hide (hit_yes hlt a a2)
            go_wp2
            go_ret2
            rw [HO.out, HY.out]
            exact ⟨rfl, hb.alloc hsz _⟩
          · go_wp2
            go_roundw
            case rel => exact ⟨k + 1, by omega, by go_num, hb.alloc hsz _, hit_step hlt HH.out (fun e => a2 e.2)⟩
            case measure => simp [intOf]; omega
        · have a' : t % 1440 < l[k].1 := by omega
          go_wp2
          go_roundw
          case rel => exact ⟨k + 1, by omega, by go_num, hb.alloc hsz _, hit_step hlt HH.out (fun e => a e.1)⟩
          case measure => simp [intOf]; omega
      · have hke : k = l.length := by omega
        have HK := hide hke
        clear hke
        go_wp2
        go_ret2
        have hH := HH.out
        rw [HK.out] at hH
        rw [HO.out, hit_none hH]
        exact ⟨rfl, hb⟩
theorem open_any (g : Nat) (raw : Nat → List (Int × Int)) (fr : Nat → Bool) (t : Int) (w : World) (C : CalW w g raw fr) (h0 : 0 ≤ t) (h1 : t < 100800) (hl : ∀ j, (raw j).length ≤ 1000) :
    Calls Tryz.prog 50 #[.pointer (some ⟨g, 0, none⟩), .int .i64 t] w fun e w' => e = .returned (.tuple #[.bool (openL raw fr t), .int .i64 0]) ∧ Below w.heap.size w w' := by
  obtain ⟨wk, M, hJ⟩ := C
  rw [← open_join hJ fr t h0]
  exact openM_any g wk fr t w M h0 h1 (fun j hj => Nat.le_trans (hJ j hj).2.2 (hl j))
end Go.Proofs.YtcnmbldikjljeaaGreatDoor
