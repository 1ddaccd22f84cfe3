import Derived.Test.YtcnmbldikjljeaaGreatDoorJ38
namespace Go.Proofs.YtcnmbldikjljeaaGreatDoor
open Go.RowKit

/-- every step of Dockets -/
theorem dockets_steps {PS : PSt} (P : Prg PS) (W : World) (h0 : 0 < W.heap.size) (hnm : ∀ j, j < 7 → W.cell? ⟨0, j, none⟩ = some (nmV j)) : StepOk PS W [1, 5, 10, 11, 12, 13, 14, 17, 18, 19] := by
  intro o own w wb v0 v1 v2 v3 ys ds es ns N hk ho hl D n0 n1 hy hd he hn
  obtain ⟨ok, oa, ob, od, oS, ol⟩ := o
  have hk2 : ok = 1 ∨ ok = 5 ∨ ok = 10 ∨ ok = 11 ∨ ok = 12 ∨ ok = 13 ∨ ok = 14 ∨ ok = 17 ∨ ok = 18 ∨ ok = 19 := by simpa using hk
  obtain ⟨st, vs, S0, R⟩ := hl
  have S := S0.on D.below
  have act : ∀ k : Int, (k = 11 ∨ k = 12 ∨ k = 13 ∨ k = 17 ∨ k = 19) → Acts PS k oa ob od oS ol → Calls Tryz.prog 30 #[P0 wb, .agg #[.int .i64 k, .int .i64 oa, .int .i64 ob, .int .i64 od, .string oS, ol]] w fun e w' => e = .returned (.bool true) ∧ ∃ own' u0 u1 u2 u3 ys' ds' es' ns' N', DD PS W w' own' wb u0 u1 u2 u3 ys' ds' es' ns' N' ∧ 0 ≤ N' ∧ N' ≤ N + 80 ∧ ys'.length ≤ ys.length + 1 ∧ ds'.length ≤ ds.length + 1 ∧ es'.length ≤ es.length + 4 ∧ ns'.length ≤ ns.length + 4 := fun k hk A => by
    refine (step_act P D n1 k oa ob od oS ol (by omega) A ho.a0 ho.a1 hd).mono ?_
    rintro e w' ⟨rfl, own', D'⟩
    exact ⟨rfl, own', v0, v1, v2, v3, ys, ds, es, ns, N + 80, D', by omega, by omega, by omega, by omega, by omega, by omega⟩
  rcases hk2 with rfl | rfl | rfl | rfl | rfl | rfl | rfl | rfl | rfl | rfl
  · refine (step_parsed P D oa ob od oS ol h0 hnm ho.sz (by omega)).mono ?_
    rintro e w' ⟨rfl, own', u0, ys', D', hl'⟩
    exact ⟨rfl, own', u0, v1, v2, v3, ys', ds, es, ns, N, D', n0, by omega, hl', by omega, by omega, by omega⟩
  · refine (step_check P D S R oa ob od oS).mono ?_
    rintro e w' ⟨rfl, own', D'⟩
    exact ⟨rfl, own', v0, v1, v2, v3, ys, ds, es, ns, N, D', n0, by omega, by omega, by omega, by omega, by omega⟩
  · refine (step_new P D n0 S R oa ob od oS ho.a0 ho.a1 hy hd).mono ?_
    rintro e w' ⟨rfl, own', u1, ds', D', hl'⟩
    exact ⟨rfl, own', v0, u1, v2, v3, ys, ds', es, ns, N, D', n0, by omega, by omega, hl', by omega, by omega⟩
  · exact act 11 (by omega) (acts_open oa ob od oS ol P)
  · exact act 12 (by omega) (acts_move oa ob od oS ol P)
  · exact act 13 (by omega) (acts_close oa ob od oS ol P)
  · refine (step_tick P D n1 oa ob od oS ol ho.a0 ho.a1 hd he).mono ?_
    rintro e w' ⟨rfl, own', u2, es', D', hl'⟩
    exact ⟨rfl, own', v0, v1, u2, v3, ys, ds, es', ns, N + 80, D', by omega, by omega, by omega, by omega, hl', by omega⟩
  · exact act 17 (by omega) (acts_case oa ob od oS ol P)
  · refine (step_agenda P D n1 oa ob od oS ol ho.a0 ho.a1 hd hn).mono ?_
    rintro e w' ⟨rfl, own', u3, ns', D', hl'⟩
    exact ⟨rfl, own', v0, v1, v2, u3, ys, ds, es, ns', N + 80, D', by omega, by omega, by omega, by omega, by omega, hl'⟩
  · exact act 19 (by omega) (acts_now oa ob od oS ol P)
set_option maxRecDepth 100000 in
set_option maxHeartbeats 1000000 in
theorem dockets_any {PS : PSt} (P : Prg PS) (a : Option Addr) (os : List OpD) (c : Nat) (w : World) (S : Scr w a os c) (hsl : ∀ o ∈ os, Lst0 w o.l) (h0 : 0 < w.heap.size) (hnm : ∀ j, j < 7 → w.cell? ⟨0, j, none⟩ = some (nmV j)) :
    Calls Tryz.prog 5 #[.slice a os.length c] w fun e w' => e = .returned (.bool true) ∧ Below w.heap.size w w' := by
  have b1 : Below w.heap.size w (w.alloc (Obj.cells #[.int .i64 1, .int .i64 5, .int .i64 10, .int .i64 11, .int .i64 12, .int .i64 13, .int .i64 14, .int .i64 17, .int .i64 18, .int .i64 19] 3)) := (Below.refl _ _).alloc (Nat.le_refl _) _
  have hsz : (w.alloc (Obj.cells #[.int .i64 1, .int .i64 5, .int .i64 10, .int .i64 11, .int .i64 12, .int .i64 13, .int .i64 14, .int .i64 17, .int .i64 18, .int .i64 19] 3)).heap.size = w.heap.size + 1 := by simp
  have S1 : Scr (w.alloc (Obj.cells #[.int .i64 1, .int .i64 5, .int .i64 10, .int .i64 11, .int .i64 12, .int .i64 13, .int .i64 14, .int .i64 17, .int .i64 18, .int .i64 19] 3)) a os c := S.on b1
  have hp : ∀ (i : Nat) (x : Int), ([1, 5, 10, 11, 12, 13, 14, 17, 18, 19] : List Int)[i]? = some x → (w.alloc (Obj.cells #[.int .i64 1, .int .i64 5, .int .i64 10, .int .i64 11, .int .i64 12, .int .i64 13, .int .i64 14, .int .i64 17, .int .i64 18, .int .i64 19] 3)).cell? ⟨w.heap.size, i, none⟩ = some (.int .i64 x) := by
    intro i x hx
    rw [World.cell?_alloc_at _ _ _ _ rfl]
    match i, hx with
    | 0, hx => simp at hx; subst hx; rfl
    | 1, hx => simp at hx; subst hx; rfl
    | 2, hx => simp at hx; subst hx; rfl
    | 3, hx => simp at hx; subst hx; rfl
    | 4, hx => simp at hx; subst hx; rfl
    | 5, hx => simp at hx; subst hx; rfl
    | 6, hx => simp at hx; subst hx; rfl
    | 7, hx => simp at hx; subst hx; rfl
    | 8, hx => simp at hx; subst hx; rfl
    | 9, hx => simp at hx; subst hx; rfl
  have HC := hide (plays_dd P a os c w.heap.size 10 [1, 5, 10, 11, 12, 13, 14, 17, 18, 19] _ S1 hp (by omega) (by decide) (by omega) (fun j hj => (b1.cell (p := ⟨0, j, none⟩) h0).trans (hnm j hj)) (fun o ho => (hsl o ho).on b1) (fun W hW hn => dockets_steps P W hW hn))
  clear S S1 hp hnm hsl
  go_enter Tryz.func5, Tryz.ntmps5
  go_wp2_with fail
  refine HC.out.mono ?_
  rintro e w2 ⟨rfl, b2⟩
  have HB := hide (b1.trans (b2.mono b1.size))
  clear HC b1 b2
  go_wp2_with fail
  go_ret
  exact ⟨rfl, HB.out⟩
end Go.Proofs.YtcnmbldikjljeaaGreatDoor
