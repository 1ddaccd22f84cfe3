import Derived.Test.YtcnmbldikjljeaaGreatDoorT09
import Derived.Test.YtcnmbldikjljeaaGreatDoorT10
import Derived.Test.YtcnmbldikjljeaaGreatDoorT11
import Derived.Deep.AppendLies
import Derived.Deep.Cut
namespace Go.Proofs.YtcnmbldikjljeaaGreatDoor
open Go.RowKit

/-- a Plan in memory -/
structure PL (w : World) (v : Value) (ps : List (List (Int × Int))) (lv : Nat → Value) : Prop where
  row : LR w 1 v ps.length ((List.range ps.length).map lv)
  lev : ∀ i, i < ps.length → LR w 2 (lv i) (plAt ps i).length (flat (plAt ps i))
  rng : ∀ i, i < ps.length → ∀ x ∈ plAt ps i, inR x.1 ∧ inR x.2
theorem PL.on {w u : World} {v : Value} {ps : List (List (Int × Int))} {lv : Nat → Value} (h : PL w v ps lv) (hb : Below w.heap.size w u) : PL u v ps lv := ⟨h.row.on hb, fun i hi => (h.lev i hi).on hb, h.rng⟩
set_option maxRecDepth 100000 in
set_option maxHeartbeats 16000000 in
theorem stages_any {w : World} {v : Value} {ps : List (List (Int × Int))} {lv : Nat → Value} (P : PL w v ps lv) :
    Calls Tryz.prog 34 #[.agg #[v]] w fun e w' => ∃ out vs, e = .returned out ∧ SG w w' ps out (nP ps) vs := by
  obtain ⟨pa, pc, hv⟩ := P.row.any
  subst hv
  have hpm : ps.length ≤ 9223372036854775807 := by have := P.row.max; simp only [maxLen] at this; omega
  have hn := nP_bd (ps := ps)
  have hnn : max (1 : Int) (min (ps.length : Int) 4) = (nP ps : Int) := by unfold nP; omega
  have HNN := hide hnn
  have hb0 : Below w.heap.size w (w.alloc (Obj.cells #[.slice pa ps.length pc] 31)) := (Below.refl _ _).alloc (Nat.le_refl _) _
  have x0 : (w.alloc (Obj.cells #[.slice pa ps.length pc] 31)).cell? ⟨w.heap.size, 0, none⟩ = some (.slice pa ps.length pc) := by rw [World.cell?_alloc_at _ _ _ _ rfl]; rfl
  have hWs : w.heap.size < (w.alloc (Obj.cells #[.slice pa ps.length pc] 31)).heap.size := by simp
  have HP := hide (P.on hb0)
  have S0 : SG (w.alloc (Obj.cells #[.slice pa ps.length pc] 31)) (w.alloc (Obj.cells #[.slice pa ps.length pc] 31)) ps (.slice none 0 0) 0 (fun _ => (.slice none 0 0, .slice none 0 0)) := ⟨Below.refl _ _, World.ownsRow_nil _ _ _ _, fun j hj => by omega, fun j hj => by omega⟩
  have HS0 := hide S0
  have HB0 := hide hb0
  obtain ⟨i1, hi1, hza, hzb, hzc⟩ := info_parts levelInfo
  obtain ⟨i2, hi2, hya, hyb, hyc⟩ := info_parts intInfo
  obtain ⟨i3, hi3, hxa, hxb, hxc⟩ := info_parts stageInfo
  have HII := hide (And.intro hi1 (And.intro hi2 hi3))
  clear P hb0 S0 hi1 hi2 hi3 hnn
  go_enter Tryz.func34, Tryz.ntmps34
  go_wp2_with fail
  rw [HNN.out]
  obtain ⟨n, hne⟩ : ∃ n, n = nP ps := ⟨_, rfl⟩
  rw [← hne] at hn ⊢
  have HNE := hide hne
  clear hne HNN
  generalize w.alloc (Obj.cells #[.slice pa ps.length pc] 31) = W at *
  go_loopw [4, 5] (fun ov iv wr => ∃ (i : Nat) (vs : Nat → Value × Value), iv = .int .i64 i ∧ i ≤ n ∧ SG W wr ps ov i vs) (fun _ iv _ => n - (intOf iv).toNat)
  case atStart => exact ⟨0, _, rfl, Nat.zero_le _, HS0.out⟩
  case round =>
    clear HS0
    obtain ⟨i, vs, rfl, hi, S⟩ := hrel
    by_cases hlt : i < n
    · have hlt' : (i : Int) < n := by omega
      have B0 : SB wr (wr.alloc (Obj.cells #[.slice none 0 0, .slice none 0 0] 125)) (.slice none 0 0) (.slice none 0 0) (lvsP (plAt ps i) 0) [] := ⟨(Below.refl _ _).alloc (Nat.le_refl _) _, heap_alloc_new _ _, by rw [show lvsP (plAt ps i) 0 = [] by simp [lvsP]]; exact World.ownsRow_nil _ _ _ _, World.ownsRow_nil _ _ _ _⟩
      have HB := hide B0
      have HS := hide S
      have HPW := hide (fun (z : World) (hb : Below wr.heap.size wr z) => (HP.out.on S.below).on hb)
      have hx0 := (S.below.cell (p := ⟨w.heap.size, 0, none⟩) hWs).trans x0
      have hXs : w.heap.size < wr.heap.size := Nat.lt_of_lt_of_le hWs S.below.size
      clear B0 S
      go_wp2_with fail
      generalize wr.alloc (Obj.cells #[.slice none 0 0, .slice none 0 0] 125) = W1 at *
      obtain ⟨V, hV⟩ : ∃ V, V = wr := ⟨_, rfl⟩
      rw [← hV] at HB HS HPW hx0 hXs ⊢
      clear hV
      go_loopw [7] (fun kv wz => ∃ (k : Nat) (a : Value), kv = .int .i64 k ∧ k ≤ 4 ∧ k ≤ (plAt ps i).length ∧ SB V wz a (.slice none 0 0) (lvsP (plAt ps i) k) []) (fun kv _ => 4 - (intOf kv).toNat)
      case atStart => exact ⟨0, _, rfl, by omega, Nat.zero_le _, HB.out⟩
      case round =>
        clear HB
        obtain ⟨k, a, rfl, hk4, hkl, B⟩ := hrel
        have hx0' := (B.below.cell (p := ⟨w.heap.size, 0, none⟩) hXs).trans hx0
        have P1 := HPW.out _ B.below
        by_cases h1 : i < ps.length
        · have h1' : (i : Int) < ps.length := by omega
          obtain ⟨oq, oo, oc, hoq⟩ := P1.row.some (by omega) (by omega)
          simp only [Value.slice.injEq] at hoq
          obtain ⟨rfl, _, rfl⟩ := hoq
          have e0 := P1.row.cell i (lv i) (by simp [h1])
          obtain ⟨la, lc, hla⟩ := (P1.lev i h1).any
          rw [hla] at e0
          have hlm : (plAt ps i).length ≤ 9223372036854775807 := by have := (P1.lev i h1).max; simp only [maxLen] at this; omega
          by_cases h2 : k < (plAt ps i).length ∧ k < 4
          · obtain ⟨h2, h3⟩ := h2
            have h2' : (k : Int) < (plAt ps i).length := by omega
            have h3' : (k : Int) < 4 := by omega
            have hrow := P1.lev i h1
            rw [hla] at hrow
            obtain ⟨iq, io, ic, hiq⟩ := hrow.some (by omega) (by omega)
            simp only [Value.slice.injEq] at hiq
            obtain ⟨rfl, _, rfl⟩ := hiq
            have e1 := hrow.cell (k * 2) _ (flat_at _ k h2).1
            have e2 := hrow.cell (k * 2 + 1) _ (flat_at _ k h2).2
            rw [← Nat.add_assoc] at e2
            have PV := HPW.out V (Below.refl _ _)
            have hoqV : oq < V.heap.size := World.block_lt_of_cell? _ _ (PV.row.cell i (lv i) (by simp [h1]))
            have hrV := PV.lev i h1
            rw [hla] at hrV
            have hiqV : iq < V.heap.size := World.block_lt_of_cell? _ _ (hrV.cell (k * 2) _ (flat_at _ k h2).1)
            have hrg := PV.rng i h1 _ (List.getElem_mem h2)
            have HSN := hide (lvsP_snoc (plAt ps i) k h2)
            have hkk := lvsP_len (plAt ps i) k
            have hkl2 : (lvsP (plAt ps i) k).length = k := by unfold lvsP; simp; omega
            have HP1 := hide (fun u => pick_any (plAt ps i)[k].1 3000 u hrg.1.1 hrg.1.2 (by omega) (by omega))
            have HP2 := hide (fun u => pick_any (plAt ps i)[k].2 100 u hrg.2.1 hrg.2.2 (by omega) (by omega))
            have pb1 := pk_lo (plAt ps i)[k].1 3000 (by omega)
            have pb2 := pk_hi (plAt ps i)[k].1 3000 (by omega)
            have HLV := hide (show lvP (plAt ps i)[k] = (1 + pk (plAt ps i)[k].1 3000, pk (plAt ps i)[k].2 100) from rfl)
            obtain ⟨aa, an, ac, haf⟩ := ownsRow_form B.ra
            subst haf
            have c0 := B.c0
            have hVs := B.lt
            have hng : some w.heap.size ≠ (Value.slice aa an ac).ownBlock := fun e => by have := (B.ra.lt _ e.symm).1; omega
            have hnq : some oq ≠ (Value.slice aa an ac).ownBlock := fun e => by have := (B.ra.lt _ e.symm).1; omega
            have hni : some iq ≠ (Value.slice aa an ac).ownBlock := fun e => by have := (B.ra.lt _ e.symm).1; omega
            have HB := hide B
            clear B P1 PV hrow hrV hrg hla
            generalize (plAt ps i)[k].1 = y1 at *
            generalize (plAt ps i)[k].2 = y2 at *
            generalize pk y1 3000 = z1 at *
            generalize pk y2 100 = z2 at *
            have hwr : IntKind.i64.wrap (1 + z1) = 1 + z1 := IntWalk.i64_in _ (by omega)
            have n1 : w.heap.size ≠ V.heap.size := by omega
            have n2 : oq ≠ V.heap.size := by omega
            have n3 : iq ≠ V.heap.size := by omega
            go_wp2_with fail
            refine wp_region_s (fun w' => w'.cell? ⟨w.heap.size, 0, none⟩ = some (.slice (some ⟨oq, oo, none⟩) ps.length pc) ∧ w'.cell? ⟨oq, oo + i, none⟩ = some (.slice (some ⟨iq, io, none⟩) (plAt ps i).length lc) ∧ w'.cell? ⟨iq, io + k * 2, none⟩ = some (.int .i64 y1) ∧ w'.cell? ⟨iq, io + k * 2 + 1, none⟩ = some (.int .i64 y2) ∧ w'.cell? ⟨V.heap.size, 0, none⟩ = some (.slice aa an ac)) 27 (by kernel_rfl) ⟨hx0', e0, e1, e2, c0⟩ (fun hH => ?_)
            refine wpAnyS_take (i := 0) (v := .pointer (some ⟨V.heap.size, 0, none⟩)) rfl (by kernel_rfl) (by kernel_rfl) (by kernel_rfl) (by kernel_rfl) (fun _ _ _ h => h) (Or.inl ⟨by rfl, fun z hz => by obtain ⟨s0, s1, s2, s3, s4⟩ := hz; go_simp⟩) hH ?_
            simp only [Act.put, List.setIfInBounds_toArray, List.set_cons_zero, List.set_cons_succ, List.getElem_toArray, List.getElem_cons_zero]
            refine wpAnyS_take (i := 1) (v := .slice aa an ac) rfl (by kernel_rfl) (by kernel_rfl) (by kernel_rfl) (by kernel_rfl) (fun _ _ _ h => h) (Or.inl ⟨by rfl, fun z hz => by obtain ⟨s0, s1, s2, s3, s4⟩ := hz; go_simp⟩) hH ?_
            simp only [Act.put, List.setIfInBounds_toArray, List.set_cons_zero, List.set_cons_succ, List.getElem_toArray, List.getElem_cons_succ, List.getElem_cons_zero]
            refine wpAnyS_take (i := 2) (v := .pointer (some ⟨w.heap.size, 0, none⟩)) rfl (by kernel_rfl) (by kernel_rfl) (by kernel_rfl) (by kernel_rfl) (fun _ _ _ h => h) (Or.inl ⟨by rfl, fun z hz => by obtain ⟨s0, s1, s2, s3, s4⟩ := hz; go_simp⟩) hH ?_
            simp only [Act.put, List.setIfInBounds_toArray, List.set_cons_zero, List.set_cons_succ, List.getElem_toArray, List.getElem_cons_succ, List.getElem_cons_zero]
            refine wpAnyS_take (i := 3) (v := .slice (some ⟨oq, oo, none⟩) ps.length pc) rfl (by kernel_rfl) (by kernel_rfl) (by kernel_rfl) (by kernel_rfl) (fun _ _ _ h => h) (Or.inl ⟨by rfl, fun z hz => by obtain ⟨s0, s1, s2, s3, s4⟩ := hz; go_simp⟩) hH ?_
            simp only [Act.put, List.setIfInBounds_toArray, List.set_cons_zero, List.set_cons_succ, List.getElem_toArray, List.getElem_cons_succ, List.getElem_cons_zero]
            refine wpAnyS_take (i := 4) (v := .int .i64 i) rfl (by kernel_rfl) (by kernel_rfl) (by kernel_rfl) (by kernel_rfl) (fun _ _ _ h => h) (Or.inl ⟨by rfl, fun z hz => by obtain ⟨s0, s1, s2, s3, s4⟩ := hz; go_simp⟩) hH ?_
            simp only [Act.put, List.setIfInBounds_toArray, List.set_cons_zero, List.set_cons_succ, List.getElem_toArray, List.getElem_cons_succ, List.getElem_cons_zero]
            refine wpAnyS_take (i := 5) (v := .pointer (some ⟨oq, oo + i, none⟩)) rfl (by kernel_rfl) (by kernel_rfl) (by kernel_rfl) (by kernel_rfl) (fun _ _ _ h => h) (Or.inl ⟨by rfl, fun z hz => by obtain ⟨s0, s1, s2, s3, s4⟩ := hz; go_simp⟩) hH ?_
            simp only [Act.put, List.setIfInBounds_toArray, List.set_cons_zero, List.set_cons_succ, List.getElem_toArray, List.getElem_cons_succ, List.getElem_cons_zero]
            refine wpAnyS_take (i := 6) (v := .slice (some ⟨iq, io, none⟩) (plAt ps i).length lc) rfl (by kernel_rfl) (by kernel_rfl) (by kernel_rfl) (by kernel_rfl) (fun _ _ _ h => h) (Or.inl ⟨by rfl, fun z hz => by obtain ⟨s0, s1, s2, s3, s4⟩ := hz; go_simp⟩) hH ?_
            simp only [Act.put, List.setIfInBounds_toArray, List.set_cons_zero, List.set_cons_succ, List.getElem_toArray, List.getElem_cons_succ, List.getElem_cons_zero]
            refine wpAnyS_take (i := 7) (v := .int .i64 k) rfl (by kernel_rfl) (by kernel_rfl) (by kernel_rfl) (by kernel_rfl) (fun _ _ _ h => h) (Or.inl ⟨by rfl, fun z hz => by obtain ⟨s0, s1, s2, s3, s4⟩ := hz; go_simp⟩) hH ?_
            simp only [Act.put, List.setIfInBounds_toArray, List.set_cons_zero, List.set_cons_succ, List.getElem_toArray, List.getElem_cons_succ, List.getElem_cons_zero]
            refine wpAnyS_take (i := 8) (v := .pointer (some ⟨iq, io + k * 2, none⟩)) rfl (by kernel_rfl) (by kernel_rfl) (by kernel_rfl) (by kernel_rfl) (fun _ _ _ h => h) (Or.inl ⟨by rfl, fun z hz => by obtain ⟨s0, s1, s2, s3, s4⟩ := hz; go_simp⟩) hH ?_
            simp only [Act.put, List.setIfInBounds_toArray, List.set_cons_zero, List.set_cons_succ, List.getElem_toArray, List.getElem_cons_succ, List.getElem_cons_zero]
            refine wpAnyS_take (i := 9) (v := .pointer (some ⟨iq, io + k * 2, none⟩)) rfl (by kernel_rfl) (by kernel_rfl) (by kernel_rfl) (by kernel_rfl) (fun _ _ _ h => h) (Or.inl ⟨by rfl, fun z hz => by obtain ⟨s0, s1, s2, s3, s4⟩ := hz; go_simp⟩) hH ?_
            simp only [Act.put, List.setIfInBounds_toArray, List.set_cons_zero, List.set_cons_succ, List.getElem_toArray, List.getElem_cons_succ, List.getElem_cons_zero]
            refine wpAnyS_take (i := 10) (v := .int .i64 y1) rfl (by kernel_rfl) (by kernel_rfl) (by kernel_rfl) (by kernel_rfl) (fun _ _ _ h => h) (Or.inl ⟨by rfl, fun z hz => by obtain ⟨s0, s1, s2, s3, s4⟩ := hz; go_simp⟩) hH ?_
            simp only [Act.put, List.setIfInBounds_toArray, List.set_cons_zero, List.set_cons_succ, List.getElem_toArray, List.getElem_cons_succ, List.getElem_cons_zero]
            refine wpAnyS_take (i := 13) (v := .pointer (some ⟨w.heap.size, 0, none⟩)) rfl (by kernel_rfl) (by kernel_rfl) (by kernel_rfl) (by kernel_rfl) (fun _ _ _ h => h) (Or.inl ⟨by rfl, fun z hz => by obtain ⟨s0, s1, s2, s3, s4⟩ := hz; go_simp⟩) hH ?_
            simp only [Act.put, List.setIfInBounds_toArray, List.set_cons_zero, List.set_cons_succ, List.getElem_toArray, List.getElem_cons_succ, List.getElem_cons_zero]
            refine wpAnyS_take (i := 14) (v := .slice (some ⟨oq, oo, none⟩) ps.length pc) rfl (by kernel_rfl) (by kernel_rfl) (by kernel_rfl) (by kernel_rfl) (fun _ _ _ h => h) (Or.inl ⟨by rfl, fun z hz => by obtain ⟨s0, s1, s2, s3, s4⟩ := hz; go_simp⟩) hH ?_
            simp only [Act.put, List.setIfInBounds_toArray, List.set_cons_zero, List.set_cons_succ, List.getElem_toArray, List.getElem_cons_succ, List.getElem_cons_zero]
            refine wpAnyS_take (i := 15) (v := .int .i64 i) rfl (by kernel_rfl) (by kernel_rfl) (by kernel_rfl) (by kernel_rfl) (fun _ _ _ h => h) (Or.inl ⟨by rfl, fun z hz => by obtain ⟨s0, s1, s2, s3, s4⟩ := hz; go_simp⟩) hH ?_
            simp only [Act.put, List.setIfInBounds_toArray, List.set_cons_zero, List.set_cons_succ, List.getElem_toArray, List.getElem_cons_succ, List.getElem_cons_zero]
            refine wpAnyS_take (i := 16) (v := .pointer (some ⟨oq, oo + i, none⟩)) rfl (by kernel_rfl) (by kernel_rfl) (by kernel_rfl) (by kernel_rfl) (fun _ _ _ h => h) (Or.inl ⟨by rfl, fun z hz => by obtain ⟨s0, s1, s2, s3, s4⟩ := hz; go_simp⟩) hH ?_
            simp only [Act.put, List.setIfInBounds_toArray, List.set_cons_zero, List.set_cons_succ, List.getElem_toArray, List.getElem_cons_succ, List.getElem_cons_zero]
            refine wpAnyS_take (i := 17) (v := .slice (some ⟨iq, io, none⟩) (plAt ps i).length lc) rfl (by kernel_rfl) (by kernel_rfl) (by kernel_rfl) (by kernel_rfl) (fun _ _ _ h => h) (Or.inl ⟨by rfl, fun z hz => by obtain ⟨s0, s1, s2, s3, s4⟩ := hz; go_simp⟩) hH ?_
            simp only [Act.put, List.setIfInBounds_toArray, List.set_cons_zero, List.set_cons_succ, List.getElem_toArray, List.getElem_cons_succ, List.getElem_cons_zero]
            refine wpAnyS_take (i := 18) (v := .int .i64 k) rfl (by kernel_rfl) (by kernel_rfl) (by kernel_rfl) (by kernel_rfl) (fun _ _ _ h => h) (Or.inl ⟨by rfl, fun z hz => by obtain ⟨s0, s1, s2, s3, s4⟩ := hz; go_simp⟩) hH ?_
            simp only [Act.put, List.setIfInBounds_toArray, List.set_cons_zero, List.set_cons_succ, List.getElem_toArray, List.getElem_cons_succ, List.getElem_cons_zero]
            refine wpAnyS_take (i := 19) (v := .pointer (some ⟨iq, io + k * 2, none⟩)) rfl (by kernel_rfl) (by kernel_rfl) (by kernel_rfl) (by kernel_rfl) (fun _ _ _ h => h) (Or.inl ⟨by rfl, fun z hz => by obtain ⟨s0, s1, s2, s3, s4⟩ := hz; go_simp⟩) hH ?_
            simp only [Act.put, List.setIfInBounds_toArray, List.set_cons_zero, List.set_cons_succ, List.getElem_toArray, List.getElem_cons_succ, List.getElem_cons_zero]
            refine wpAnyS_take (i := 20) (v := .pointer (some ⟨iq, io + k * 2 + 1, none⟩)) rfl (by kernel_rfl) (by kernel_rfl) (by kernel_rfl) (by kernel_rfl) (fun _ _ _ h => h) (Or.inl ⟨by rfl, fun z hz => by obtain ⟨s0, s1, s2, s3, s4⟩ := hz; go_simp⟩) hH ?_
            simp only [Act.put, List.setIfInBounds_toArray, List.set_cons_zero, List.set_cons_succ, List.getElem_toArray, List.getElem_cons_succ, List.getElem_cons_zero]
            refine wpAnyS_take (i := 21) (v := .int .i64 y2) rfl (by kernel_rfl) (by kernel_rfl) (by kernel_rfl) (by kernel_rfl) (fun _ _ _ h => h) (Or.inl ⟨by rfl, fun z hz => by obtain ⟨s0, s1, s2, s3, s4⟩ := hz; go_simp⟩) hH ?_
            simp only [Act.put, List.setIfInBounds_toArray, List.set_cons_zero, List.set_cons_succ, List.getElem_toArray, List.getElem_cons_succ, List.getElem_cons_zero]
            refine wpAnyS_one (i := 11) rfl (by kernel_rfl) (fun K hK => ?_)
            go_simp
            refine (HP1.out _).mono ?_
            rintro e w' ⟨rfl, rfl⟩
            refine hK.out _ _ (fun _ => hH) (fun _ => ?_)
            clear hK K
            refine wpAnyS_take (i := 12) (v := .int .i64 (1 + z1)) rfl (by kernel_rfl) (by kernel_rfl) (by kernel_rfl) (by kernel_rfl) (fun _ _ _ h => h) (Or.inl ⟨by rfl, fun z hz => by obtain ⟨s0, s1, s2, s3, s4⟩ := hz; go_simp⟩) hH ?_
            simp only [Act.put, List.setIfInBounds_toArray, List.set_cons_zero, List.set_cons_succ, List.getElem_toArray, List.getElem_cons_succ, List.getElem_cons_zero]
            refine wpAnyS_one (i := 22) rfl (by kernel_rfl) (fun K hK => ?_)
            go_simp
            refine (HP2.out _).mono ?_
            rintro e w' ⟨rfl, rfl⟩
            refine hK.out _ _ (fun _ => hH) (fun _ => ?_)
            clear hK K
            refine wpAnyS_take (i := 23) (v := .agg #[.int .i64 (1 + z1), .int .i64 z2]) rfl (by kernel_rfl) (by kernel_rfl) (by kernel_rfl) (by kernel_rfl) (fun _ _ _ h => h) (Or.inl ⟨by rfl, fun z hz => by obtain ⟨s0, s1, s2, s3, s4⟩ := hz; go_simp⟩) hH ?_
            simp only [Act.put, List.setIfInBounds_toArray, List.set_cons_zero, List.set_cons_succ, List.getElem_toArray, List.getElem_cons_succ, List.getElem_cons_zero]
            refine wpAnyS_one (i := 24) rfl (by kernel_rfl) (fun K hK => ?_)
            go_simp
            have hbA : Below wr.heap.size wr (wr.alloc (Obj.cells #[.int .i64 (1 + z1), .int .i64 z2] 127)).drew := ((Below.refl _ _).alloc (Nat.le_refl _) _).drew
            have hHA := And.intro ((hbA.cell (p := ⟨w.heap.size, 0, none⟩) (by simp only; omega)).trans hx0') (And.intro ((hbA.cell (p := ⟨oq, oo + i, none⟩) (by simp only; omega)).trans e0) (And.intro ((hbA.cell (p := ⟨iq, io + k * 2, none⟩) (by simp only; omega)).trans e1) (And.intro ((hbA.cell (p := ⟨iq, io + k * 2 + 1, none⟩) (by simp only; omega)).trans e2) ((hbA.cell (p := ⟨V.heap.size, 0, none⟩) (by simp only; omega)).trans c0))))
            refine hK.out _ _ (fun _ => hHA) (fun _ => ?_)
            clear hK K
            refine wpAnyS_one (i := 25) rfl (by kernel_rfl) (fun K hK => ?_)
            refine step_append_lies _ (by rfl) _ _ _ (by rfl) V.heap.size 127 i1 _ 2 16 Tryz.underlying123 HII.out.1 hza hzb hzc rfl (by omega) (.slice aa an ac) (lvsP (plAt ps i) k).length (flat (lvsP (plAt ps i) k)) (by rfl) (row_on HB.out.ra hbA) ⟨wr.heap.size, 0, none⟩ 1 1 [.int .i64 (1 + z1), .int .i64 z2] (by rfl) (by rfl) (World.news_of_block (cs := #[.int .i64 (1 + z1), .int .i64 z2]) (t := 127) (fr := (0, 0)) (heap_alloc_new wr _)) (by simp [Value.oneCell']) (by omega) (by rw [hkl2]; unfold maxLen; omega) (by rw [hkl2]; omega) (by simp; omega) (wr.heap.size + 1) (by simp) ?_
            intro gg cap w10 hown10 hgrow hat hlt10
            obtain ⟨hc10, hf10, B10⟩ := SB.putA (x := (1 + z1, z2)) (HB.out.on hbA) hgrow hown10
            have hsA : (wr.alloc (Obj.cells #[.int .i64 (1 + z1), .int .i64 z2] 127)).drew.heap.size = wr.heap.size + 1 := by simp
            have hHB := And.intro ((hgrow.cell_far ⟨w.heap.size, 0, none⟩ (by rw [hsA]; simp only; omega) hng).trans hHA.1) (And.intro ((hgrow.cell_far ⟨oq, oo + i, none⟩ (by rw [hsA]; simp only; omega) hnq).trans hHA.2.1) (And.intro ((hgrow.cell_far ⟨iq, io + k * 2, none⟩ (by rw [hsA]; simp only; omega) hni).trans hHA.2.2.1) (And.intro ((hgrow.cell_far ⟨iq, io + k * 2 + 1, none⟩ (by rw [hsA]; simp only; omega) hni).trans hHA.2.2.2.1) hc10)))
            refine hK.out _ _ (fun _ => hHB) (fun _ => ?_)
            clear hK K
            simp only [Act.put, List.setIfInBounds_toArray, List.set_cons_zero, List.set_cons_succ, List.getElem_toArray, List.getElem_cons_succ, List.getElem_cons_zero]
            refine wpAnyS_take (i := 26) (v := .pointer (some ⟨V.heap.size, 0, none⟩)) rfl (by kernel_rfl) (by kernel_rfl) (by kernel_rfl) (by kernel_rfl) (fun _ _ _ h => h) (Or.inl ⟨by rfl, fun z hz => by obtain ⟨s0, s1, s2, s3, s4⟩ := hz; go_simp⟩) hHB ?_
            simp only [Act.put, List.setIfInBounds_toArray, List.set_cons_zero, List.set_cons_succ, List.getElem_toArray, List.getElem_cons_succ, List.getElem_cons_zero]
            refine wpAnyS_one (i := 27) rfl (by kernel_rfl) (fun K hK => ?_)
            go_simp
            refine hK.out _ _ (fun h => absurd rfl h) (fun _ => ?_)
            clear hK K
            rw [hkl2] at B10
            have HB10 := hide B10
            clear B10 hHB hHA hgrow hat hown10 hc10 hf10 hbA HB c0 e0 e1 e2
            refine wpAnyS_done (by kernel_rfl) ?_
            go_wp2_with fail
            go_roundw
            case rel => exact ⟨k + 1, _, by go_num, by omega, by omega, by rw [HSN.out, HLV.out]; exact HB10.out⟩
            case measure => simp [intOf]; omega
          · have B : SB V wr a (.slice none 0 0) (stP ps i).levels [] := by
              have e : lvsP (plAt ps i) k = (stP ps i).levels := by
                unfold stP lvsP
                simp only
                congr 1
                by_cases h4 : k = 4
                · rw [h4]
                · rw [List.take_of_length_le (by omega), List.take_of_length_le (by omega)]
              rw [← e]; exact B
            clear P1
            have hx : ((k : Int) < (plAt ps i).length ∧ 4 ≤ (k : Int)) ∨ ((plAt ps i).length : Int) ≤ k := by omega
            clear h2
            rcases hx with ⟨h3', h4'⟩ | h3'
            all_goals
              go_wp2_with fail
              clear e0 hx0'
              have HB := hide B
              clear B
              have hbV := HB.out.below.size
              have hsl := HB.out.lt
              go_loopw [8] (fun mv wz => ∃ (m : Nat) (b : Value), mv = .int .i64 m ∧ m ≤ n ∧ SB V wz a b (stP ps i).levels (nxP m)) (fun mv _ => n - (intOf mv).toNat)
              case atStart => exact ⟨0, _, rfl, Nat.zero_le _, HB.out⟩
              case round =>
                clear HB
                obtain ⟨m, b, rfl, hm, B⟩ := hrel
                have c0 := B.c0
                have c1 := B.c1
                have hVs := B.lt
                obtain ⟨ba, bn, bc, hbf⟩ := ownsRow_form B.rb
                subst hbf
                by_cases hmn : m < n
                · have hmn' : (m : Int) < n := by omega
                  have HB := hide B
                  have f1 := B.fz 1
                  clear B
                  go_upto_region 13 with (first | (at_builtin; go_must (refine wpList_append_lies _ rfl _ _ 24 rfl V.heap.size 3 i2 _ 1 8 Tryz.underlying24 HII.out.2.1 hya hyb hyc rfl (by decide) (.slice ba bn bc) (nxP m).length (intCells (nxP m)) (by rfl) (HB.out.rb.alloc _) ⟨wr.heap.size, 0, none⟩ 1 1 [.int .i64 m] (by rfl) (by rfl) (World.news_of_block (cs := #[.int .i64 m]) (t := 3) (fr := (0, 0)) (heap_alloc_new wr _)) (by simp [Value.oneCell']) (by omega) (by rw [nxP_len]; unfold maxLen; omega) (by rw [nxP_len]; omega) (by simp; omega) (wr.heap.size + 1) (by simp) ?_); intro gg gcap w12 hown12 hgrow12 hat12 hlt12; obtain ⟨hc12, hf12, B12⟩ := SB.putB (HB.out.on ((Below.refl _ _).alloc (Nat.le_refl _) _)) hgrow12 hown12) | fail)
                  have HB12 := hide B12
                  clear hown12 hgrow12 hat12 hc12 hf12 B12 HB c0 c1 f1
                  go_wp2_with fail
                  go_roundw
                  case rel => exact ⟨m + 1, _, by go_num, by omega, by rw [nxP_snoc]; exact HB12.out⟩
                  case measure => simp [intOf]; omega
                · have hmn' : ¬ (m : Int) < n := by omega
                  obtain rfl : m = n := by omega
                  rw [show nxP m = (stP ps i).next by unfold stP; rw [HNE.out]] at B
                  obtain ⟨aa, an, ac, haf⟩ := ownsRow_form B.ra
                  subst haf
                  have HB := hide B
                  have hVW : W.heap.size ≤ V.heap.size := HS.out.below.size
                  clear B
                  go_upto_region 5 with (first | (at_builtin; go_must (refine wpList_append_lies _ rfl _ _ 35 rfl W.heap.size 125 i3 _ 2 48 Tryz.underlying35 HII.out.2.2 hxa hxb hxc rfl (by decide) u4 i (stCells vs i) (by rfl) ((row_on HS.out.row HB.out.below).alloc _) ⟨wr.heap.size, 0, none⟩ 1 1 [.slice aa an ac, .slice ba bn bc] (by rfl) (by rfl) (World.news_of_block (cs := #[.slice aa an ac, .slice ba bn bc]) (t := 125) (fr := (0, 0)) (heap_alloc_new wr _)) (by simp [Value.oneCell']) (by omega) (by unfold maxLen; omega) (by omega) (by simp; omega) (wr.heap.size + 1) (by simp) ?_); intro gg gcap w12 hown12 hgrow12 hat12 hlt12) | fail)
                  have HS12 := hide (SG.step HS.out HB.out ((Below.refl _ _).alloc (Nat.le_refl _) _) hgrow12 hown12)
                  clear hown12 hgrow12 hat12 HB HS c0 c1
                  go_wp2_with fail
                  go_roundw
                  case rel => exact ⟨i + 1, _, by go_num, by omega, HS12.out⟩
                  case measure => simp [intOf]; omega
        · have h1' : (ps.length : Int) ≤ i := by omega
          have B : SB V wr a (.slice none 0 0) (stP ps i).levels [] := by
            have e : lvsP (plAt ps i) k = (stP ps i).levels := by
              unfold stP lvsP
              simp only
              congr 1
              have e2 : (plAt ps i) = [] := by unfold plAt; rw [List.getD_eq_getElem?_getD, List.getElem?_eq_none (by omega)]; rfl
              rw [e2]
              simp
            rw [← e]; exact B
          clear P1
          go_wp2_with fail
          clear hx0'
          have HB := hide B
          clear B
          have hbV := HB.out.below.size
          have hsl := HB.out.lt
          go_loopw [8] (fun mv wz => ∃ (m : Nat) (b : Value), mv = .int .i64 m ∧ m ≤ n ∧ SB V wz a b (stP ps i).levels (nxP m)) (fun mv _ => n - (intOf mv).toNat)
          case atStart => exact ⟨0, _, rfl, Nat.zero_le _, HB.out⟩
          case round =>
            clear HB
            obtain ⟨m, b, rfl, hm, B⟩ := hrel
            have c0 := B.c0
            have c1 := B.c1
            have hVs := B.lt
            obtain ⟨ba, bn, bc, hbf⟩ := ownsRow_form B.rb
            subst hbf
            by_cases hmn : m < n
            · have hmn' : (m : Int) < n := by omega
              have HB := hide B
              have f1 := B.fz 1
              clear B
              go_upto_region 13 with (first | (at_builtin; go_must (refine wpList_append_lies _ rfl _ _ 24 rfl V.heap.size 3 i2 _ 1 8 Tryz.underlying24 HII.out.2.1 hya hyb hyc rfl (by decide) (.slice ba bn bc) (nxP m).length (intCells (nxP m)) (by rfl) (HB.out.rb.alloc _) ⟨wr.heap.size, 0, none⟩ 1 1 [.int .i64 m] (by rfl) (by rfl) (World.news_of_block (cs := #[.int .i64 m]) (t := 3) (fr := (0, 0)) (heap_alloc_new wr _)) (by simp [Value.oneCell']) (by omega) (by rw [nxP_len]; unfold maxLen; omega) (by rw [nxP_len]; omega) (by simp; omega) (wr.heap.size + 1) (by simp) ?_); intro gg gcap w12 hown12 hgrow12 hat12 hlt12; obtain ⟨hc12, hf12, B12⟩ := SB.putB (HB.out.on ((Below.refl _ _).alloc (Nat.le_refl _) _)) hgrow12 hown12) | fail)
              have HB12 := hide B12
              clear hown12 hgrow12 hat12 hc12 hf12 B12 HB c0 c1 f1
              go_wp2_with fail
              go_roundw
              case rel => exact ⟨m + 1, _, by go_num, by omega, by rw [nxP_snoc]; exact HB12.out⟩
              case measure => simp [intOf]; omega
            · have hmn' : ¬ (m : Int) < n := by omega
              obtain rfl : m = n := by omega
              rw [show nxP m = (stP ps i).next by unfold stP; rw [HNE.out]] at B
              obtain ⟨aa, an, ac, haf⟩ := ownsRow_form B.ra
              subst haf
              have HB := hide B
              have hVW : W.heap.size ≤ V.heap.size := HS.out.below.size
              clear B
              go_upto_region 5 with (first | (at_builtin; go_must (refine wpList_append_lies _ rfl _ _ 35 rfl W.heap.size 125 i3 _ 2 48 Tryz.underlying35 HII.out.2.2 hxa hxb hxc rfl (by decide) u4 i (stCells vs i) (by rfl) ((row_on HS.out.row HB.out.below).alloc _) ⟨wr.heap.size, 0, none⟩ 1 1 [.slice aa an ac, .slice ba bn bc] (by rfl) (by rfl) (World.news_of_block (cs := #[.slice aa an ac, .slice ba bn bc]) (t := 125) (fr := (0, 0)) (heap_alloc_new wr _)) (by simp [Value.oneCell']) (by omega) (by unfold maxLen; omega) (by omega) (by simp; omega) (wr.heap.size + 1) (by simp) ?_); intro gg gcap w12 hown12 hgrow12 hat12 hlt12) | fail)
              have HS12 := hide (SG.step HS.out HB.out ((Below.refl _ _).alloc (Nat.le_refl _) _) hgrow12 hown12)
              clear hown12 hgrow12 hat12 HB HS c0 c1
              go_wp2_with fail
              go_roundw
              case rel => exact ⟨i + 1, _, by go_num, by omega, HS12.out⟩
              case measure => simp [intOf]; omega
    · have HS := hide S
      clear S
      obtain rfl : i = n := by omega
      go_wp2_with fail
      go_ret
      refine ⟨_, vs, rfl, ?_⟩
      rw [← HNE.out]
      exact ⟨HB0.out.trans (HS.out.below.mono HB0.out.size), row_mono HS.out.row HB0.out.size, fun j hj => row_mono (HS.out.lev j hj) HB0.out.size, fun j hj => row_mono (HS.out.nxt j hj) HB0.out.size⟩
end Go.Proofs.YtcnmbldikjljeaaGreatDoor
