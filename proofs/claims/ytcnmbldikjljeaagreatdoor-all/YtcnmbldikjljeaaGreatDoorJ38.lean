import Derived.Test.YtcnmbldikjljeaaGreatDoorJ37
import Derived.Test.YtcnmbldikjljeaaGreatDoorJ09
namespace Go.Proofs.YtcnmbldikjljeaaGreatDoor
open Go.RowKit

section
variable {PS : PSt} {W w : World} {own : Nat → Nat} {wb : Nat} {v0 v1 v2 v3 sv : Value} {ys ds : List (Nat × Nat)} {es ns : List Value} {N : Int} {st : List Stg} {vs : Nat → Value × Value}
/-- a New, whatever it is asked of -/
theorem begun_new (P : Prg PS) (D : DD PS W w own wb v0 v1 v2 v3 ys ds es ns N) (hN : 0 ≤ N) (S : SL w sv st vs) (R : Rm st) (a b dd : Int) (s : ByteArray) (a0 : -9223372036854775808 ≤ a) (a1 : a ≤ 9223372036854775807) (hys : ys.length ≤ 2000000000000) (hds : ds.length ≤ 2000000000000) :
    Calls Tryz.prog 57 #[P0 wb, .agg #[.int .i64 10, .int .i64 a, .int .i64 b, .int .i64 dd, .string s, sv]] w fun e w' => e = .returned (.bool true) ∧ ∃ own' v1' ds', DD PS W w' own' wb v0 v1' v2 v3 ys ds' es ns N ∧ ds'.length ≤ ds.length + 1 := by
  have hv0 : w.cell? ⟨wb, 0, none⟩ = some v0 := by simp [World.cell?, D.wbc]
  have hnil : ∀ w', Below w.heap.size w w' → ∃ own' v1' ds', DD PS W w' own' wb v0 v1' v2 v3 ys ds' es ns N ∧ ds'.length ≤ ds.length + 1 := fun w' hb => ⟨own, v1, ds, D.on P hb (Int.le_refl N), by omega⟩
  obtain ⟨x, c, hx⟩ := row_any D.yr.1
  by_cases hz : b = 1 ∨ ys.length = 0
  · refine (begun_newNil P S R hv0 ⟨x, ys.length, c, hx, by omega⟩ a b dd (hz.imp id (fun e => ⟨x, c, by rw [hx, e]⟩)) s).mono ?_
    rintro e w' ⟨rfl, hb⟩
    exact ⟨rfl, hnil w' hb⟩
  · have hp : 0 < ys.length := by omega
    obtain ⟨q, cap, hq⟩ := row_some D.yr.1 hp
    obtain ⟨i, hi, hil⟩ := pk_nat a ys.length hp
    have hc := yrCells_at ys i hil
    have e0 : w.cell? ⟨q, i * 2, none⟩ = some (P0 ys[i].1) := by
      have h9 := D.yr.1
      rw [hq] at h9
      exact (h9.cellAt (i * 2) (by omega)).trans hc.1
    have e1 : w.cell? ⟨q, i * 2 + 1, none⟩ = some (P0 ys[i].2) := by
      have h9 := D.yr.1
      rw [hq] at h9
      exact (h9.cellAt (i * 2 + 1) (by omega)).trans hc.2
    cases hck : checkL st with
    | false =>
      refine (begun_newNo P S R hck (by rw [← hq]; exact hv0) hp (by omega) i hil e0 e1 a b dd a0 a1 hi (by omega) s).mono ?_
      rintro e w' ⟨rfl, hb⟩
      exact ⟨rfl, hnil w' hb⟩
    | true =>
      obtain ⟨wk, fr, F, Y⟩ := D.yrs ys[i] (List.getElem_mem hil)
      have hso := check_stok hck (fun j hj => by have := R.nxt j hj; omega)
      have hem := empty_ok (F := F) (st := st)
      refine (begun_newOk P S R hck D.lt (by rw [← hq]; exact D.wbc) D.wbt D.dr hds (t1 := 10 + 2 * ds.length) (t2 := 11 + 2 * ds.length) (by omega) (by omega) (by omega) (fun k => by have := D.tags k; omega) hp (by omega) i hil Y e0 e1 a b dd a0 a1 hi (by omega) s).mono ?_
      rintro e w' ⟨rfl, own', v1', p, g, k, hw, hr, hd⟩
      refine ⟨rfl, own', v1', ds ++ [(p, g)], D.desk P (M := N) k (by rw [hq]; exact hw) hr ⟨F, st, _, hd, hso.1, hso.2.2, hem.1.mono hN, hem.2⟩ (Int.le_refl N), by simp⟩
set_option maxRecDepth 100000 in
set_option maxHeartbeats 8000000 in
theorem step_check (P : Prg PS) (D : DD PS W w own wb v0 v1 v2 v3 ys ds es ns N) (S : SL w sv st vs) (R : Rm st) (a b dd : Int) (s : ByteArray) :
    Calls Tryz.prog 30 #[P0 wb, .agg #[.int .i64 5, .int .i64 a, .int .i64 b, .int .i64 dd, .string s, sv]] w fun e w' => e = .returned (.bool true) ∧ ∃ own', DD PS W w' own' wb v0 v1 v2 v3 ys ds es ns N := by
  have hb0 := (Below.refl _ _).alloc (Nat.le_refl w.heap.size) (Obj.cells #[.int .i64 5, .int .i64 a, .int .i64 b, .int .i64 dd, .string s, sv] 84)
  have HP := hide (begun_check (wb := wb) P (S.on hb0) R a b dd s)
  have HD := hide (D.on P hb0 (Int.le_refl N))
  clear D S hb0
  go_enter Tryz.func30, Tryz.ntmps30
  go_wp2_with fail
  refine HP.out.mono ?_
  rintro e w1 ⟨rfl, b1⟩
  have HR := hide (HD.out.on P b1 (Int.le_refl N))
  clear b1 HP HD
  go_wp2_with fail
  go_ret
  exact ⟨rfl, own, HR.out⟩
set_option maxRecDepth 100000 in
set_option maxHeartbeats 8000000 in
theorem step_new (P : Prg PS) (D : DD PS W w own wb v0 v1 v2 v3 ys ds es ns N) (hN : 0 ≤ N) (S : SL w sv st vs) (R : Rm st) (a b dd : Int) (s : ByteArray) (a0 : -9223372036854775808 ≤ a) (a1 : a ≤ 9223372036854775807) (hys : ys.length ≤ 2000000000000) (hds : ds.length ≤ 2000000000000) :
    Calls Tryz.prog 30 #[P0 wb, .agg #[.int .i64 10, .int .i64 a, .int .i64 b, .int .i64 dd, .string s, sv]] w fun e w' => e = .returned (.bool true) ∧ ∃ own' v1' ds', DD PS W w' own' wb v0 v1' v2 v3 ys ds' es ns N ∧ ds'.length ≤ ds.length + 1 := by
  have hb0 := (Below.refl _ _).alloc (Nat.le_refl w.heap.size) (Obj.cells #[.int .i64 10, .int .i64 a, .int .i64 b, .int .i64 dd, .string s, sv] 84)
  have HP := hide (begun_new P (D.on P hb0 (Int.le_refl N)) hN (S.on hb0) R a b dd s a0 a1 hys hds)
  clear D S hb0
  go_enter Tryz.func30, Tryz.ntmps30
  go_wp2_with fail
  refine HP.out.mono ?_
  rintro e w1 ⟨rfl, own', v1', ds', D', hl'⟩
  have HR := hide (And.intro D' hl')
  clear D' hl' HP
  go_wp2_with fail
  go_ret
  exact ⟨rfl, own', v1', ds', HR.out.1, HR.out.2⟩
end
end Go.Proofs.YtcnmbldikjljeaaGreatDoor
namespace Go.Proofs.YtcnmbldikjljeaaGreatDoor
open Go.RowKit

theorem YM.made {own : Nat → Nat} {w w1 w2 : World} {c r : Nat} {week : Nat → List (Int × Int)} {fr F : Nat → Bool} (hl : ∀ k, own k ≠ 0 → k < w.heap.size) (b1 : w.heap.size ≤ w1.heap.size) (b2 : Below w1.heap.size w1 w2) (hc : w.heap.size ≤ c) (C : CalF w1 c week fr) (hlen : ∀ j, (week j).length ≤ 1000) (ho : ∀ t : Int, 0 ≤ t → t < 100800 → openL week fr t = F t.toNat)
    (hr : w1.heap.size ≤ r) (R : RC w2 r F) : YM own w2 (c, r) week fr F := by
  have hz : ∀ k, w.heap.size ≤ k → own k = 0 := fun k hk => Classical.byContradiction fun e => by have := hl k e; omega
  have kk : KeptS own own (fun _ => False) w1 w2 := .of_below b2 (fun k hk => Nat.lt_of_lt_of_le (hl k hk) b1)
  refine ⟨(C.ro (fun k hk => hz k (by omega))).on (by rw [ro_size]; exact kk.below id), hlen, ho, ?_⟩
  obtain ⟨h, cap, r2, r3, r4, r5⟩ := R.row
  have e1 : (roW own w2).heap[r]? = w2.heap[r]? := ro_free (hz r (by omega))
  have e2 : (roW own w2).heap[h]? = w2.heap[h]? := ro_free (hz h (by omega))
  exact ⟨by rw [ro_size]; exact R.lt, h, cap, (World.cell?_of_block (a := ⟨r, 0, none⟩) e1).trans r2, r3, by rw [ro_size]; exact r4, fun j hj => (World.cell?_of_block (a := ⟨h, j, none⟩) e2).trans (r5 j hj)⟩
section
variable {PS : PSt} {W w : World} {own : Nat → Nat} {wb : Nat} {v v1 v2 v3 : Value} {ys ds : List (Nat × Nat)} {es ns : List Value} {N : Int}
/-- one pair of calendars more -/
theorem DD.year (P : Prg PS) {u : World} {c r gg cap : Nat} {wk : Nat → List (Int × Int)} {fr F : Nat → Bool} (D : DD PS W w own wb v v1 v2 v3 ys ds es ns N) (Y : YM own w (c, r) wk fr F)
    (hown : u.ownsRow 0 152 2 (.slice (some ⟨gg, 0, none⟩) (ys.length + 1) cap) (ys.length + 1) (yrCells ys ++ [P0 c, P0 r])) (hg : (w.alloc (.cells #[P0 c, P0 r] 152)).grownBy u v.ownBlock) (hat : v.ownBlock = some gg ∨ gg = w.heap.size + 1) :
    u.cell? ⟨wb, 0, none⟩ = some v ∧ u.frozen? ⟨wb, 0, none⟩ = false ∧ DD PS W (u.setCell ⟨wb, 0, none⟩ (.slice (some ⟨gg, 0, none⟩) (ys.length + 1) cap)) (tagOf own (some gg) 2) wb (.slice (some ⟨gg, 0, none⟩) (ys.length + 1) cap) v1 v2 v3 (ys ++ [(c, r)]) ds es ns N := by
  have hwl : wb < w.heap.size := (Array.getElem?_eq_some_iff.1 D.wbc).1
  have hne : some wb ≠ v.ownBlock := fun e => by have := D.yr.2 wb e.symm; have := D.wbt; omega
  have hwu : u.heap[wb]? = some (.cells #[v, v1, v2, v3] 82 (0, 0)) := (hg.block wb (by simp; omega) hne).trans ((Below.heap_alloc w _ wb hwl).trans D.wbc)
  have hsz := hg.size
  simp at hsz
  have o2 : Of 82 u (u.setCell ⟨wb, 0, none⟩ (.slice (some ⟨gg, 0, none⟩) (ys.length + 1) cap)) := .set hwu _
  have k : KeptS own (tagOf own (some gg) 2) (fun x => x = 1 ∨ x = 2) w (u.setCell ⟨wb, 0, none⟩ (.slice (some ⟨gg, 0, none⟩) (ys.length + 1) cap)) := by
    refine ⟨hg.os, hg.tape, hg.output, by simpa using (by omega : w.heap.size ≤ u.heap.size), fun k hk hT => ?_, fun k hk => ?_, fun k hk h0 => ?_, fun k => ?_⟩
    · rw [Below.heap_setCell _ _ _ k (fun e => hT (.inl (by simp at e; rw [e]; exact D.wbt))), hg.block k (by simp; omega) (fun e => hT (.inr (D.yr.2 k e.symm))), Below.heap_alloc w _ k hk]
    · unfold tagOf
      split
      · rename_i e
        obtain rfl : k = gg := by simpa using e
        rcases hat with a | a
        · exact (D.yr.2 k a).symm
        · omega
      · rfl
    · unfold tagOf at h0
      split at h0
      · rename_i e
        obtain rfl : k = gg := by simpa using e
        have := (hown.lt k rfl).2
        simpa using this
      · exact absurd (D.lt k h0) (by omega)
    · rcases tagOf_nt (own := own) (t := 2) (b := some gg) k with a | a | a
      · exact .inl a
      · exact .inr (.inl a)
      · exact .inl (by omega)
  have h0 : ¬ (fun x => x = 1 ∨ x = 2) 0 := by simp
  have hl := D.low k h0
  refine ⟨by simp [World.cell?, hwu], by simp [World.frozen?, hwu], hl.1, hl.2, k.bound, D.tag k (Nat.le_refl _) (fun x hx => by omega), ?_, (k.same wb hwl).trans D.wbt, ⟨?_, fun j hj => ?_⟩, D.dr.kept k (by omega), D.er.kept k (by omega), D.nr.kept k (by omega), fun y hy => ?_, fun i hi => (D.dks i hi).kept P k h0 (by omega) (by omega) (Int.le_refl N), fun i s hs => (D.oute i s hs).kept k h0 (by omega), fun i s hs => (D.outn i s hs).kept k h0 (by omega), D.e4, D.n4⟩
  · have := heap_setCell_same _ _ 0 _ _ (.slice (some ⟨gg, 0, none⟩) (ys.length + 1) cap) hwu
    simpa using this
  · rw [yrCells_append, List.length_append]
    exact o2.row hown (by decide)
  · unfold tagOf
    rw [if_pos (by simpa [Value.ownBlock] using hj.symm)]
  · rcases List.mem_append.1 hy with h | h
    · obtain ⟨wk', fr', F', Y'⟩ := D.yrs y h
      exact ⟨wk', fr', F', Y'.kept k h0⟩
    · rw [List.mem_singleton] at h
      subst h
      exact ⟨wk, fr, F, Y.kept k h0⟩
set_option maxRecDepth 100000 in
set_option maxHeartbeats 4000000 in
theorem parsed_dd (P : Prg PS) (D : DD PS W w own wb v v1 v2 v3 ys ds es ns N) (k a b d : Int) (s : ByteArray) (l : Value) (h0 : 0 < W.heap.size) (hnm : ∀ j, j < 7 → W.cell? ⟨0, j, none⟩ = some (nmV j)) (hs : s.size ≤ 9223372036854775807) (hn : (ys.length + 1) * 16 ≤ 140737488355328) :
    Calls Tryz.prog 56 #[P0 wb, .agg #[.int .i64 k, .int .i64 a, .int .i64 b, .int .i64 d, .string s, l]] w fun e w' => e = .returned (.bool true) ∧ ∃ own' v' ys', DD PS W w' own' wb v' v1 v2 v3 ys' ds es ns N ∧ ys'.length ≤ ys.length + 1 := by
  have D0 := D.on P ((Below.refl _ _).alloc (Nat.le_refl _) (Obj.cells #[.int .i64 k, .int .i64 a, .int .i64 b, .int .i64 d, .string s, l] 84)) (Int.le_refl N)
  have hb4 : (w.alloc (Obj.cells #[.int .i64 k, .int .i64 a, .int .i64 b, .int .i64 d, .string s, l] 84)).cell? ⟨w.heap.size, 4, none⟩ = some (.string s) := by rw [World.cell?_alloc_at _ _ _ _ rfl]; rfl
  have hsz : w.heap.size < (w.alloc (Obj.cells #[.int .i64 k, .int .i64 a, .int .i64 b, .int .i64 d, .string s, l] 84)).heap.size := by simp
  have HD0 := hide (And.intro D0 (And.intro hb4 hsz))
  clear D0 hb4 hsz D
  by_cases hl : s.size ≤ 200
  · have hnw : ∀ wo : World, DD PS W wo own wb v v1 v2 v3 ys ds es ns N → 0 < wo.heap.size ∧ ∀ j, j < 7 → wo.cell? ⟨0, j, none⟩ = some (nmV j) := fun wo D => ⟨by have := D.below.size; omega, fun j hj => (D.below.cell (p := ⟨0, j, none⟩) h0).trans (hnm j hj)⟩
    have HP : Hid (∀ wo : World, DD PS W wo own wb v v1 v2 v3 ys ds es ns N → Calls Tryz.prog 63 #[.string s] wo fun e w' => PPostF s wo e w') := fun wo D => parseF_any s wo (hnw wo D).1 (hnw wo D).2 hl
    have hsim := sim_all (crun s s.size 0)
    rw [← parse_crun] at hsim
    have hlen := parse_len s hl
    clear hnw hnm
    rcases hsim with ⟨a1, a2, a3⟩ | ⟨a1, a2, a3, a4⟩
    · have HA := hide (And.intro a1 (And.intro a2 a3))
      clear a1 a2 a3 hlen
      go_enter Tryz.func56, Tryz.ntmps56
      go_wp2_with fail
      generalize w.alloc (Obj.cells #[.int .i64 k, .int .i64 a, .int .i64 b, .int .i64 d, .string s, l] 84) = wo at *
      obtain ⟨D, hb4, hsz⟩ := HD0.out
      refine (HP.out wo D).mono ?_
      rintro e w1 ⟨b1, ⟨hp1, _⟩ | ⟨hp1, rfl⟩⟩
      · rw [HA.out.2.1] at hp1; cases hp1
      have HR := hide (refParse_any s hl w1)
      clear HP hp1
      have hb5 := (b1.cell (p := ⟨w.heap.size, 4, none⟩) hsz).trans hb4
      rw [HA.out.2.2]
      go_wp2_with fail
      refine HR.out.mono ?_
      rintro e w2 ⟨b2, ⟨_, rfl⟩ | ⟨hp2, _⟩⟩
      · generalize (refF (crun s s.size 0)).1.2 = p at *
        clear HR HA
        have D2 := hide ((D.on P b1 (Int.le_refl N)).on P b2 (Int.le_refl N))
        clear b1 b2 D
        go_wp2_with fail
        go_ret
        exact ⟨rfl, own, v, ys, D2.out, by omega⟩
      · exact absurd HA.out.1 hp2
    · have ho := hide (fun t h0 h1 => open_eq a3 a4 t h0 h1)
      have HA := hide (And.intro a1 a2)
      have HL := hide (fun j => hlen a2 j)
      clear a1 a2 a3 a4 hlen
      obtain ⟨i0, hi, hq0, hq1, hq2⟩ := info_parts yearInfo
      have HI := hide hi
      clear hi
      go_enter Tryz.func56, Tryz.ntmps56
      go_wp2_with fail
      generalize w.alloc (Obj.cells #[.int .i64 k, .int .i64 a, .int .i64 b, .int .i64 d, .string s, l] 84) = wo at *
      obtain ⟨D, hb4, hsz⟩ := HD0.out
      refine (HP.out wo D).mono ?_
      rintro e w1 ⟨b1, ⟨hp1, c, hc, rfl, C⟩ | ⟨hp1, _⟩⟩
      · have HR := hide (refParse_any s hl w1)
        have hb5 := (b1.cell (p := ⟨w.heap.size, 4, none⟩) hsz).trans hb4
        clear HP hp1
        go_wp2_with fail
        refine HR.out.mono ?_
        rintro e w2 ⟨b2, ⟨hp2, _⟩ | ⟨_, r, hr, rfl, R⟩⟩
        · have := HA.out.1; omega
        · have Y := YM.made D.lt b1.size b2 hc C HL.out ho.out hr R
          have D2 := (D.on P b1 (Int.le_refl N)).on P b2 (Int.le_refl N)
          have hcv : w2.cell? ⟨wb, 0, none⟩ = some v := by simp [World.cell?, D2.wbc]
          have hown := D2.yr.1
          have hlt : wb < w2.heap.size := World.block_lt_of_cell? _ _ hcv
          have HD := hide D2
          have HY := hide Y
          clear HR HA HL ho C R b1 b2 D D2 Y hc hr hb4 hb5 hsz HD0
          go_upto_region 99 with (first | (at_builtin; refine wpList_append_lies _ rfl _ _ 75 rfl 0 152 i0 (.agg #[.pointer none, .pointer none]) 2 16 Tryz.underlying75 HI.out hq0 hq1 hq2 rfl (by decide) _ ys.length (yrCells ys) (by rfl) (hown.alloc _) ⟨w2.heap.size, 0, none⟩ 1 1 [P0 c, P0 r] (by rfl) (by rfl) (cell_two_new _ _ _ _) (by simp [Value.oneCell']) (by omega) (by unfold maxLen; omega) (by omega) (Nat.zero_le _) (w2.heap.size + 1) (by simp) ?_; intro gg cap w10 hown10 hgrow hat hlt; obtain ⟨hc10, hf10, A2⟩ := HD.out.year P HY.out hown10 hgrow hat; clear hown10 hgrow hat) | fail)
          have HA2 := hide A2
          clear A2 hc10 hf10 hlt
          go_ret
          exact ⟨rfl, _, _, _, HA2.out, by simp⟩
      · rw [HA.out.2] at hp1; cases hp1
  · have h1 : 200 < s.size := by omega
    go_enter Tryz.func56, Tryz.ntmps56
    go_wp2_with fail
    generalize w.alloc (Obj.cells #[.int .i64 k, .int .i64 a, .int .i64 b, .int .i64 d, .string s, l] 84) = wo at *
    obtain ⟨D, hb4, hsz⟩ := HD0.out
    refine (parse_long s wo h1 hs).mono ?_
    rintro e w1 ⟨rfl, rfl⟩
    go_wp2_with fail
    refine (refParse_long s w1 h1 hs).mono ?_
    rintro e w2 ⟨rfl, rfl⟩
    go_wp2_with fail
    go_ret
    exact ⟨rfl, own, v, ys, D, by omega⟩
end
end Go.Proofs.YtcnmbldikjljeaaGreatDoor
namespace Go.Proofs.YtcnmbldikjljeaaGreatDoor
open Go.RowKit

section
variable {PS : PSt} {W w : World} {own : Nat → Nat} {wb : Nat} {v v1 v2 v3 : Value} {ys ds : List (Nat × Nat)} {es ns : List Value} {N : Int}
set_option maxRecDepth 100000 in
set_option maxHeartbeats 4000000 in
theorem step_parsed (P : Prg PS) (D : DD PS W w own wb v v1 v2 v3 ys ds es ns N) (a b d : Int) (s : ByteArray) (l : Value) (h0 : 0 < W.heap.size) (hnm : ∀ j, j < 7 → W.cell? ⟨0, j, none⟩ = some (nmV j)) (hs : s.size ≤ 9223372036854775807) (hn : (ys.length + 1) * 16 ≤ 140737488355328) :
    Calls Tryz.prog 30 #[P0 wb, .agg #[.int .i64 1, .int .i64 a, .int .i64 b, .int .i64 d, .string s, l]] w fun e w' => e = .returned (.bool true) ∧ ∃ own' v' ys', DD PS W w' own' wb v' v1 v2 v3 ys' ds es ns N ∧ ys'.length ≤ ys.length + 1 := by
  have D0 := D.on P ((Below.refl _ _).alloc (Nat.le_refl _) (Obj.cells #[.int .i64 1, .int .i64 a, .int .i64 b, .int .i64 d, .string s, l] 84)) (Int.le_refl N)
  have HP := hide (parsed_dd P D0 1 a b d s l h0 hnm hs hn)
  clear D D0 hnm
  go_enter Tryz.func30, Tryz.ntmps30
  go_wp2_with fail
  refine HP.out.mono ?_
  rintro e w1 ⟨rfl, own', v', ys', D', hl'⟩
  have HR := hide (And.intro D' hl')
  clear D' hl' HP
  go_wp2_with fail
  go_ret
  exact ⟨rfl, own', v', ys', HR.out.1, HR.out.2⟩
/-- the book is looked at -/
theorem looks_dd (D : DD PS W w own wb v v1 v2 v3 ys ds es ns N) (h1 : es.length ≤ 140737488355328) (h2 : ns.length ≤ 140737488355328) :
    Calls Tryz.prog 31 #[.pointer (some ⟨wb, 2, none⟩)] w fun e w' => e = .returned (.bool true) ∧ Below w.heap.size w w' :=
  looks_any D.wbc D.er.1 D.nr.1 (fun i s hs => (D.oute i s hs).mks) (fun i s hs => (D.outn i s hs).mks) h1 h2
    (fun s hs => by obtain ⟨i, hi, rfl⟩ := List.getElem_of_mem hs; exact (D.oute i _ (List.getElem?_eq_getElem hi)).form)
    (fun s hs => by obtain ⟨i, hi, rfl⟩ := List.getElem_of_mem hs; exact (D.outn i _ (List.getElem?_eq_getElem hi)).form)
/-- nothing was made yet -/
theorem DD.new (PS : PSt) (W : World) : DD PS W (W.alloc (.cells #[.slice none 0 0, .slice none 0 0, .slice none 0 0, .slice none 0 0] 82)) (fun k => if k = W.heap.size then 1 else 0) W.heap.size (.slice none 0 0) (.slice none 0 0) (.slice none 0 0) (.slice none 0 0) [] [] [] [] 0 := by
  refine ⟨(Below.refl _ _).alloc (Nat.le_refl _) _, fun k hk => ?_, fun k hk => ?_, fun k => ?_, heap_alloc_new _ _, by simp, .nil _ _ _ _ _, .nil _ _ _ _ _, .nil _ _ _ _ _, .nil _ _ _ _ _, fun y hy => by simp at hy, fun i hi => by simp at hi, fun i s hs => by simp at hs, fun i s hs => by simp at hs, rfl, rfl⟩
  · split at hk
    · omega
    · exact absurd rfl hk
  · split at hk
    · rename_i e; rw [e]; simp
    · exact absurd rfl hk
  · simp only [List.length_nil]
    split <;> omega
end
end Go.Proofs.YtcnmbldikjljeaaGreatDoor
namespace Go.Proofs.YtcnmbldikjljeaaGreatDoor
open Go.RowKit

/-- a step's list that can be read, and is not too long -/
def Lst0 (w : World) (v : Value) : Prop := ∃ st vs, SL w v st vs ∧ Rm st
theorem Lst0.on {w u : World} {v : Value} (h : Lst0 w v) (hb : Below w.heap.size w u) : Lst0 u v := by
  obtain ⟨st, vs, S, R⟩ := h
  exact ⟨st, vs, S.on hb, R⟩
theorem LR.nil (w : World) (size : Nat) : LR w size (.slice none 0 0) 0 [] := ⟨by simp, by decide, none, 0, rfl, fun _ => ⟨rfl, rfl⟩, fun j u hj => by simp at hj⟩
theorem Lst0.nil (w : World) : Lst0 w (.slice none 0 0) := ⟨[], fun _ => (.slice none 0 0, .slice none 0 0), ⟨.nil w 2, fun i hi => by simp at hi, fun i hi => by simp at hi⟩, ⟨by simp, fun i hi => by simp at hi, fun i hi => by simp at hi⟩⟩
/-- what each step does, of the kinds in play -/
def StepOk (PS : PSt) (W : World) (ps : List Int) : Prop :=
  ∀ (o : OpD) {own : Nat → Nat} {w : World} {wb : Nat} {v0 v1 v2 v3 : Value} {ys ds : List (Nat × Nat)} {es ns : List Value} {N : Int}, ps.contains o.k = true → OpOk o → Lst0 W o.l → DD PS W w own wb v0 v1 v2 v3 ys ds es ns N → 0 ≤ N → N ≤ 4611686018427386000 → ys.length ≤ 2000000000000 → ds.length ≤ 2000000000000 → es.length ≤ 8000000000000 → ns.length ≤ 8000000000000 →
    Calls Tryz.prog 30 #[P0 wb, .agg #[.int .i64 o.k, .int .i64 o.a, .int .i64 o.b, .int .i64 o.d, .string o.s, o.l]] w fun e w' => e = .returned (.bool true) ∧ ∃ own' u0 u1 u2 u3 ys' ds' es' ns' N', DD PS W w' own' wb u0 u1 u2 u3 ys' ds' es' ns' N' ∧ 0 ≤ N' ∧ N' ≤ N + 80 ∧ ys'.length ≤ ys.length + 1 ∧ ds'.length ≤ ds.length + 1 ∧ es'.length ≤ es.length + 4 ∧ ns'.length ≤ ns.length + 4
theorem ownW_size (w : World) : (ownW w).heap.size = w.heap.size + 3 := by simp [ownW]
theorem own_list (w : World) : Lst0 (ownW w) (.slice (some ⟨w.heap.size + 1 + 1, 0, none⟩) 2 2) := by
  have e0 : (ownW w).heap[w.heap.size]? = some (.cells #[.int .i64 60, .int .i64 1, .int .i64 30, .int .i64 2] 127 (0, 0)) := by
    unfold ownW
    rw [Below.heap_alloc _ _ _ (by simp; omega), Below.heap_alloc _ _ _ (by simp)]; exact heap_alloc_new _ _
  have e1 : (ownW w).heap[w.heap.size + 1]? = some (.cells #[.int .i64 1] 3 (0, 0)) := by
    unfold ownW
    rw [Below.heap_alloc _ _ _ (by simp)]
    have h9 := heap_alloc_new (w.alloc (Obj.cells #[.int .i64 60, .int .i64 1, .int .i64 30, .int .i64 2] 127)) (Obj.cells #[.int .i64 1] 3)
    simpa using h9
  have e2 : (ownW w).heap[w.heap.size + 1 + 1]? = some (.cells #[.slice (some ⟨w.heap.size, 0, none⟩) 2 2, .slice (some ⟨w.heap.size + 1, 0, none⟩) 1 1, .slice none 0 0, .slice none 0 0] 125 (0, 0)) := by
    unfold ownW
    have h9 := heap_alloc_new ((w.alloc (Obj.cells #[.int .i64 60, .int .i64 1, .int .i64 30, .int .i64 2] 127)).alloc (Obj.cells #[.int .i64 1] 3)) (Obj.cells #[.slice (some ⟨w.heap.size, 0, none⟩) 2 2, .slice (some ⟨w.heap.size + 1, 0, none⟩) 1 1, .slice none 0 0, .slice none 0 0] 125)
    simpa using h9
  refine ⟨[⟨[(60, 1), (30, 2)], [1]⟩, ⟨[], []⟩], fun i => if i = 0 then (.slice (some ⟨w.heap.size, 0, none⟩) 2 2, .slice (some ⟨w.heap.size + 1, 0, none⟩) 1 1) else (.slice none 0 0, .slice none 0 0), ⟨.of_row (base := 0) (e := 125) ⟨rfl, .inr ⟨_, 2, _, rfl, Nat.zero_le _, e2, Nat.le_refl _, by decide, rfl, rfl⟩⟩, fun i hi => ?_, fun i hi => ?_⟩, ⟨by decide, fun i hi => ?_, fun i hi => ?_⟩⟩
  · match i, hi with
    | 0, _ => exact .of_row (base := 0) (e := 127) ⟨rfl, .inr ⟨_, 2, _, rfl, Nat.zero_le _, e0, Nat.le_refl _, by decide, rfl, rfl⟩⟩
    | 1, _ => exact .nil _ _
  · match i, hi with
    | 0, _ => exact .of_row (base := 0) (e := 3) ⟨rfl, .inr ⟨_, 1, _, rfl, Nat.zero_le _, e1, Nat.le_refl _, by decide, rfl, rfl⟩⟩
    | 1, _ => exact .nil _ _
  · match i, hi with
    | 0, _ => exact (by decide)
    | 1, _ => exact (by decide)
  · match i, hi with
    | 0, _ => exact (by decide)
    | 1, _ => exact (by decide)
theorem first_list (w w2 : World) (o : OpD) (h : FirstOk w o) (hb : Below (ownW w).heap.size (ownW w) w2) : Lst0 w2 o.l := by
  rcases h.2 with e | e
  · rw [e]; exact .nil w2
  · rw [e]; exact (own_list w).on hb
set_option maxRecDepth 100000 in
set_option maxHeartbeats 4000000 in
/-- a script -/
theorem plays_dd {PS : PSt} (P : Prg PS) (a : Option Addr) (os : List OpD) (c g pcap : Nat) (ps : List Int) (w : World) (S : Scr w a os c) (hp : ∀ i x, ps[i]? = some x → w.cell? ⟨g, i, none⟩ = some (.int .i64 x)) (hg : g < w.heap.size) (hl : ps.length ≤ 1000) (h0 : 0 < w.heap.size) (hnm : ∀ j, j < 7 → w.cell? ⟨0, j, none⟩ = some (nmV j))
    (hsl : ∀ o ∈ os, Lst0 w o.l) (hstep : ∀ W : World, 0 < W.heap.size → (∀ j, j < 7 → W.cell? ⟨0, j, none⟩ = some (nmV j)) → StepOk PS W ps) :
    Calls Tryz.prog 10 #[.slice a os.length c, .slice (some ⟨g, 0, none⟩) ps.length pcap] w fun e w' => e = .returned (.bool true) ∧ Below w.heap.size w w' := by
  have HS := hide S
  have HP := hide hp
  have HN := hide hnm
  have HST := hide hstep
  have HSL := hide hsl
  clear S hp hnm hstep hsl
  obtain ⟨i0, hi, hq0, hq1, hq2⟩ := info_parts opInfo
  have HI := hide hi
  clear hi
  go_enter Tryz.func10, Tryz.ntmps10
  go_wp2_with fail
  refine (first_any w).mono ?_
  rintro e w1 ⟨fs, hf1, hf2, rfl, rfl⟩
  have hfl := opsCells_len fs
  have hsz3 : (ownW w).heap.size = w.heap.size + 3 := by simp [ownW]
  have b0 : Below w.heap.size w (ownW w) := ((((Below.refl _ _).alloc (Nat.le_refl _) _).alloc (by simp) _).alloc (by simp; omega) _)
  have b1 : Below w.heap.size w ((ownW w).alloc (Obj.cells (opsCells fs).toArray 84)) := b0.alloc (by omega) _
  have o1 : ((ownW w).alloc (Obj.cells (opsCells fs).toArray 84)).ownsRow w.heap.size 84 6 (.slice (some ⟨w.heap.size + 3, 0, none⟩) 17 17) 17 (opsCells fs) := by
    refine ⟨by rw [hfl, hf1], .inr ⟨w.heap.size + 3, 17, (opsCells fs).toArray, rfl, by omega, ?_, by omega, by decide, by simp [hfl, hf1], ?_⟩⟩
    · rw [← hsz3]; exact heap_alloc_new _ _
    · simp only; rw [List.take_of_length_le (by omega)]
  have hOW1 : Below (ownW w).heap.size (ownW w) ((ownW w).alloc (Obj.cells (opsCells fs).toArray 84)) := (Below.refl _ _).alloc (Nat.le_refl _) _
  generalize (ownW w).alloc (Obj.cells (opsCells fs).toArray 84) = w1 at *
  have S := HS.out
  have hnews : ∀ j u, (opsCells os)[j]? = some u → ∃ b off, a = some ⟨b, off, none⟩ ∧ w1.cell? ⟨b, off + j, none⟩ = some u := by
    intro j u hj
    obtain ⟨b, off, e1, e2, e3⟩ := S.cell j u hj
    exact ⟨b, off, e1, (b1.cell (p := ⟨b, off + j, none⟩) e2).trans e3⟩
  have HA := hide (And.intro hnews (And.intro S.none (And.intro (opsCells_len os) (And.intro (opsCells_one os S.ok) S.room))))
  have HB := hide (And.intro b1 (And.intro o1 hf2))
  have hroom := S.room
  have hb1 := b1.size
  clear hnews S b0 b1 o1 hf2 hfl hsz3
  go_upto_region 99 with (first | (at_builtin; go_must (refine wpList_append_opt rfl _ _ 22 rfl w.heap.size 84 i0 (.agg #[.int .i64 0, .int .i64 0, .int .i64 0, .int .i64 0, .string ⟨#[]⟩, .slice none 0 0]) 6 72 Tryz.underlying22 HI.out hq0 hq1 hq2 rfl (by decide) (.slice (some ⟨w.heap.size + 3, 0, none⟩) 17 17) 17 (opsCells fs) (by rfl) HB.out.2.1 a os.length c (opsCells os) (by rfl) HA.out.2.1 HA.out.2.2.1 HA.out.1 HA.out.2.2.2.1 (by unfold maxLen; omega) (by omega) hb1 ?_); intro v2 w2 hown2 hgrow2) | fail)
  obtain ⟨al, hal⟩ : ∃ al, al = fs ++ os := ⟨_, rfl⟩
  have hlen : 17 + os.length = al.length := by rw [hal, List.length_append, hf1]
  rw [← opsCells_append, ← hal, hlen] at hown2
  obtain ⟨g2, cap2, rfl⟩ := own_form hown2 (by omega)
  have b2 : Below w.heap.size w w2 := HB.out.1.grown hgrow2 hb1 (fun q hq => by simp [Value.ownBlock] at hq; omega)
  have HOW : Hid (Below (ownW w).heap.size (ownW w) w2) := hOW1.grown hgrow2 hOW1.size (fun q hq => by have h3 := ownW_size w; simp [Value.ownBlock] at hq; omega)
  have A2 : Alls w.heap.size w2 (.slice (some ⟨g2, 0, none⟩) al.length cap2) al := by
    refine ⟨hown2, fun o ho => ?_, by omega⟩
    rw [hal] at ho
    rcases List.mem_append.1 ho with h | h
    · exact (HB.out.2.2 o h).1
    · exact HS.out.ok o h
  have hg2 := (hown2.lt g2 rfl).2
  have hal2 : al.length * 72 ≤ 140737488355328 := by omega
  have hsz2 := b2.size
  have hp2 : ∀ i x, ps[i]? = some x → w2.cell? ⟨g, i, none⟩ = some (.int .i64 x) := fun i x hx => (b2.cell (p := ⟨g, i, none⟩) hg).trans (HP.out i x hx)
  have hn2 : ∀ j, j < 7 → w2.cell? ⟨0, j, none⟩ = some (nmV j) := fun j hj => (b2.cell (p := ⟨0, j, none⟩) h0).trans (HN.out j hj)
  have HQ := hide (And.intro hp2 (And.intro hn2 (And.intro b2 A2)))
  have HD := hide (DD.new PS w2)
  have HLL : Hid (∀ o ∈ al, Lst0 w2 o.l) := fun o ho => by
    rw [hal] at ho
    rcases List.mem_append.1 ho with h | h
    · exact first_list w w2 o (HB.out.2.2 o h) HOW.out
    · exact (HSL.out o h).on b2
  have HSTP := hide (HST.out w2 (by omega) hn2)
  clear hown2 hgrow2 b2 A2 HA HB HS HP HN hroom hb1 hlen hal hp2 hn2 HI hq0 hq1 hq2 hf1 HST HSL HOW
  go_loopw [7] (fun i wr => ∃ (k : Nat) (own : Nat → Nat) (v0 v1 v2 v3 : Value) (ys ds : List (Nat × Nat)) (es ns : List Value) (N : Int), k ≤ al.length ∧ i = .int .i64 k ∧ (ys.length ≤ k ∧ ds.length ≤ k ∧ es.length ≤ 4 * k ∧ ns.length ≤ 4 * k ∧ 0 ≤ N ∧ N ≤ 80 * (k : Int)) ∧ DD PS w2 wr own w2.heap.size v0 v1 v2 v3 ys ds es ns N) (fun i _ => al.length - (intOf i).toNat)
  case atStart => exact ⟨0, _, _, _, _, _, [], [], [], [], 0, by omega, rfl, by simp, HD.out⟩
  case round =>
    clear HD
    obtain ⟨k, own, v0, v1, v2, v3, ys, ds, es, ns, N, hk, rfl, ⟨hy1, hy2, hy3, hy4, hy5, hy6⟩, D⟩ := hrel
    have HD := hide D
    clear D
    by_cases hlt : k < al.length
    · have hlt2 : (k : Int) < al.length := by omega
      have hk57 : (k : Int) < 144115188075855872 := by omega
      obtain ⟨e0, e1, e2, e3, e4, e5⟩ := HQ.out.2.2.2.at k hlt
      have onr : ∀ j u, w2.cell? ⟨g2, j, none⟩ = some u → wr.cell? ⟨g2, j, none⟩ = some u := fun j u h => (HD.out.below.cell (p := ⟨g2, j, none⟩) hg2).trans h
      have e0 := onr _ _ e0
      have e1 := onr _ _ e1
      have e2 := onr _ _ e2
      have e3 := onr _ _ e3
      have e4 := onr _ _ e4
      have e5 := onr _ _ e5
      have HO := hide (HQ.out.2.2.2.ok al[k] (List.getElem_mem hlt))
      have HOL := hide (HLL.out al[k] (List.getElem_mem hlt))
      generalize al[k] = o at *
      clear onr
      obtain ⟨ok, oa, ob, od, oS, ol⟩ := o
      obtain ⟨la, ll, lc, hol⟩ := HO.out.one
      simp only at hol e0 e1 e2 e3 e4 e5
      subst hol
      go_wp2_with fail
      have D0 := HD.out.on P ((Below.refl _ _).alloc (Nat.le_refl _) (Obj.cells #[.int .i64 ok, .int .i64 oa, .int .i64 ob, .int .i64 od, .string oS, .slice la ll lc] 84)) (Int.le_refl N)
      obtain ⟨_, _, x0, x1, x2, x3, x4, x5⟩ := box_facts wr (.int .i64 ok) (.int .i64 oa) (.int .i64 ob) (.int .i64 od) (.string oS) (.slice la ll lc) 84
      have hd : ∀ (u : World) (p : Addr), u.drew.cell? p = u.cell? p := fun _ _ => rfl
      rw [hd] at x0 x1 x2 x3 x4 x5
      generalize wr.alloc (Obj.cells #[.int .i64 ok, .int .i64 oa, .int .i64 ob, .int .i64 od, .string oS, .slice la ll lc] 84) = wo at *
      clear HD e0 e1 e2 e3 e4 e5 hd
      refine (among_any g pcap ps ok wo (fun i x hx => (D0.below.cell (p := ⟨g, i, none⟩) (by simp; omega)).trans (HQ.out.1 i x hx)) hl).mono ?_
      rintro e w' ⟨rfl, rfl⟩
      have HD0 := hide D0
      clear D0
      have hk2 : k ≤ 1954687338269 := by omega
      cases hin : ps.contains ok
      · go_wp2_with fail
        go_roundw
        case rel => exact ⟨k + 1, own, v0, v1, v2, v3, ys, ds, es, ns, N, by omega, by go_num, by omega, HD0.out⟩
        case measure => simp [intOf]; omega
      · have HC := hide (HSTP.out ⟨ok, oa, ob, od, oS, .slice la ll lc⟩ hin HO.out HOL.out HD0.out hy5 (by omega) (by omega) (by omega) (by omega) (by omega))
        clear hin HD0 HO
        go_wp2_with fail
        refine HC.out.mono ?_
        rintro e w3 ⟨rfl, own', u0, u1, u2, u3, ys', ds', es', ns', N', D', z0, z1, z2, z3, z4, z5⟩
        have HD' := hide D'
        clear D' HC
        go_wp2_with fail
        refine (looks_dd HD'.out (by omega) (by omega)).mono ?_
        rintro e w4 ⟨rfl, b4⟩
        have HD4 := hide (HD'.out.on P b4 (Int.le_refl N'))
        clear b4 HD'
        go_wp2_with fail
        go_roundw
        case rel => exact ⟨k + 1, own', u0, u1, u2, u3, ys', ds', es', ns', N', by omega, by go_num, by omega, HD4.out⟩
        case measure => simp [intOf]; omega
    · have hnlt : ¬ (k : Int) < al.length := by omega
      go_wp2_with fail
      go_ret
      exact ⟨rfl, HQ.out.2.2.1.trans (HD.out.below.mono hsz2)⟩
end Go.Proofs.YtcnmbldikjljeaaGreatDoor
