import Derived.Test.YtcnmbldikjljeaaGreatDoorC09
import Derived.Test.YtcnmbldikjljeaaGreatDoorC18
import Derived.Laws.AppendOwnNone
import Derived.Test.YtcnmbldikjljeaaGreatDoorC01
import Derived.ProofKit
import Derived.LaidMore
import Derived.OpenShut
import Derived.Stop.Joined
import Derived.ChangeOld
import Derived.Deep.Slices
import Derived.Lib.SmallJoins
import Derived.SizedLaws
namespace Go.Proofs.YtcnmbldikjljeaaGreatDoor
open Go.RowKit

theorem opInfo : (Tryz.prog.info? 84).map (fun i => (i.zero, i.size, i.bytes)) = some (some (.agg #[.int .i64 0, .int .i64 0, .int .i64 0, .int .i64 0, .string ⟨#[]⟩, .slice none 0 0]), 6, 72) := by kernel_rfl
/-- a script that came in -/
structure Scr (W : World) (a : Option Addr) (os : List OpD) (c : Nat) : Prop where
  none : a = none → os.length = 0 ∧ c = 0
  cell : ∀ j u, (opsCells os)[j]? = some u → ∃ b off, a = some ⟨b, off, Option.none⟩ ∧ b < W.heap.size ∧ W.cell? ⟨b, off + j, Option.none⟩ = some u
  ok : ∀ o ∈ os, OpOk o
  room : os.length * 72 ≤ 140737488351232
theorem Scr.on {W W' : World} {a : Option Addr} {os : List OpD} {c : Nat} (S : Scr W a os c) (hb : Below W.heap.size W W') : Scr W' a os c := by
  refine ⟨S.none, fun j u hj => ?_, S.ok, S.room⟩
  obtain ⟨b, off, e1, e2, e3⟩ := S.cell j u hj
  exact ⟨b, off, e1, Nat.lt_of_lt_of_le e2 hb.size, (hb.cell (p := ⟨b, off + j, Option.none⟩) e2).trans e3⟩
theorem opsCells_one (os : List OpD) (h : ∀ o ∈ os, OpOk o) : ∀ u ∈ opsCells os, u.oneCell' = true := by
  intro u hu
  simp only [opsCells, List.mem_flatMap] at hu
  obtain ⟨o, ho, hu⟩ := hu
  simp only [OpD.cells, List.mem_cons, List.not_mem_nil, or_false] at hu
  rcases hu with rfl | rfl | rfl | rfl | rfl | rfl
  all_goals first | rfl | (obtain ⟨_, _, _, e⟩ := (h o ho).one; rw [e]; rfl)
/-- all steps: the first, and the script's, behind the append -/
structure Alls (B : Nat) (w : World) (v : Value) (os : List OpD) : Prop where
  own : w.ownsRow B 84 6 v os.length (opsCells os)
  ok : ∀ o ∈ os, OpOk o
  room : os.length * 72 ≤ 140737488355328
theorem Alls.on {B : Nat} {w w' : World} {v : Value} {os : List OpD} (A : Alls B w v os) (hb : Below w.heap.size w w') : Alls B w' v os :=
  ⟨A.own.kept (row := none) ⟨hb.os, hb.tape, hb.output, hb.size, fun k hk _ => hb.block k hk⟩ (by cases v.ownBlock <;> simp), A.ok, A.room⟩
theorem Alls.at {B : Nat} {w : World} {g cap : Nat} {os : List OpD} (A : Alls B w (.slice (some ⟨g, 0, none⟩) os.length cap) os) (i : Nat) (h : i < os.length) :
    w.cell? ⟨g, i * 6, none⟩ = some (.int .i64 os[i].k) ∧ w.cell? ⟨g, i * 6 + 1, none⟩ = some (.int .i64 os[i].a) ∧ w.cell? ⟨g, i * 6 + 2, none⟩ = some (.int .i64 os[i].b) ∧ w.cell? ⟨g, i * 6 + 3, none⟩ = some (.int .i64 os[i].d) ∧ w.cell? ⟨g, i * 6 + 4, none⟩ = some (.string os[i].s) ∧ w.cell? ⟨g, i * 6 + 5, none⟩ = some os[i].l := by
  have key : ∀ j, j < 6 → w.cell? ⟨g, i * 6 + j, none⟩ = (os[i].cells)[j]? := fun j hj => (A.own.cellAt (i * 6 + j) (by omega)).trans (opsCells_at os i h j hj)
  exact ⟨key 0 (by omega), key 1 (by omega), key 2 (by omega), key 3 (by omega), key 4 (by omega), key 5 (by omega)⟩
theorem DW.new (W : World) : DW W (W.alloc (.cells #[.slice none 0 0, .slice none 0 0, .slice none 0 0, .slice none 0 0] 82)) W.heap.size (.slice none 0 0) [] :=
  ⟨(Below.refl _ _).alloc (Nat.le_refl _) _, Nat.le_refl _, heap_alloc_new W _, World.ownsRow_nil _ _ _ _, fun y hy => by simp at hy⟩
theorem own_form {w : World} {B : Nat} {e : TypeId} {size n : Nat} {v : Value} {xs : List Value} (h : w.ownsRow B e size v n xs) (hn : 0 < n) : ∃ g cap, v = .slice (some ⟨g, 0, none⟩) n cap := by
  rcases h.2 with ⟨_, hz⟩ | ⟨g, cap, _, hv, _⟩
  · omega
  · exact ⟨g, cap, hv⟩
set_option maxRecDepth 100000 in
set_option maxHeartbeats 4000000 in
/-- a script of calendars alone -/
theorem plays_any (a : Option Addr) (os : List OpD) (c g pcap : Nat) (ps : List Int) (w : World) (S : Scr w a os c) (hp : ∀ i x, ps[i]? = some x → w.cell? ⟨g, i, none⟩ = some (.int .i64 x)) (hg : g < w.heap.size) (hl : ps.length ≤ 1000) (h0 : 0 < w.heap.size) (hnm : ∀ j, j < 7 → w.cell? ⟨0, j, none⟩ = some (nmV j))
    (hstep : ∀ (o : OpD) (W w1 : World) (wb : Nat) (v : Value) (ys : List (Nat × Nat)), ps.contains o.k = true → OpOk o → DW W w1 wb v ys → 0 < W.heap.size → (∀ j, j < 7 → W.cell? ⟨0, j, none⟩ = some (nmV j)) → (ys.length + 1) * 16 ≤ 140737488355328 →
      Calls Tryz.prog 30 #[P0 wb, .agg #[.int .i64 o.k, .int .i64 o.a, .int .i64 o.b, .int .i64 o.d, .string o.s, o.l]] w1 fun e w' => e = .returned (.bool true) ∧ ∃ v' ys', DW W w' wb v' ys' ∧ ys'.length ≤ ys.length + 1) :
    Calls Tryz.prog 10 #[.slice a os.length c, .slice (some ⟨g, 0, none⟩) ps.length pcap] w fun e w' => e = .returned (.bool true) ∧ Below w.heap.size w w' := by
  have HS := hide S
  have HP := hide hp
  have HN := hide hnm
  have HST := hide hstep
  clear S hp hnm hstep
  obtain ⟨i0, hi, hq0, hq1, hq2⟩ := info_parts opInfo
  have HI := hide hi
  clear hi
  go_enter Tryz.func10, Tryz.ntmps10
  go_wp2_with fail
  refine (first_any w).mono ?_
  rintro e w1 ⟨fs, hf1, hf2, rfl, rfl⟩
  have hfl := opsCells_len fs
  have hsz3 : (ownW w).heap.size = w.heap.size + 3 := by simp [ownW]
  have b0 : Below w.heap.size w (ownW w) := ((((Below.refl _ _).alloc (Nat.le_refl _) _).alloc (by simp) _).alloc (by simp; omega) _)
  have b1 : Below w.heap.size w ((ownW w).alloc (Obj.cells (opsCells fs).toArray 84)) := b0.alloc (by omega) _
  have o1 : ((ownW w).alloc (Obj.cells (opsCells fs).toArray 84)).ownsRow w.heap.size 84 6 (.slice (some ⟨w.heap.size + 3, 0, none⟩) 17 17) 17 (opsCells fs) := by
    refine ⟨by rw [hfl, hf1], .inr ⟨w.heap.size + 3, 17, (opsCells fs).toArray, rfl, by omega, ?_, by omega, by decide, by simp [hfl, hf1], ?_⟩⟩
    · rw [← hsz3]; exact heap_alloc_new _ _
    · simp only; rw [List.take_of_length_le (by omega)]
  generalize (ownW w).alloc (Obj.cells (opsCells fs).toArray 84) = w1 at *
  have S := HS.out
  have hnews : ∀ j u, (opsCells os)[j]? = some u → ∃ b off, a = some ⟨b, off, none⟩ ∧ w1.cell? ⟨b, off + j, none⟩ = some u := by
    intro j u hj
    obtain ⟨b, off, e1, e2, e3⟩ := S.cell j u hj
    exact ⟨b, off, e1, (b1.cell (p := ⟨b, off + j, none⟩) e2).trans e3⟩
  have HA := hide (And.intro hnews (And.intro S.none (And.intro (opsCells_len os) (And.intro (opsCells_one os S.ok) S.room))))
  have HB := hide (And.intro b1 (And.intro o1 hf2))
  have hroom := S.room
  have hb1 := b1.size
  clear hnews S b0 b1 o1 hf2 hfl hsz3
  go_upto_region 99 with (first | (at_builtin; go_must (refine wpList_append_opt rfl _ _ 22 rfl w.heap.size 84 i0 (.agg #[.int .i64 0, .int .i64 0, .int .i64 0, .int .i64 0, .string ⟨#[]⟩, .slice none 0 0]) 6 72 Tryz.underlying22 HI.out hq0 hq1 hq2 rfl (by decide) (.slice (some ⟨w.heap.size + 3, 0, none⟩) 17 17) 17 (opsCells fs) (by rfl) HB.out.2.1 a os.length c (opsCells os) (by rfl) HA.out.2.1 HA.out.2.2.1 HA.out.1 HA.out.2.2.2.1 (by unfold maxLen; omega) (by omega) hb1 ?_); intro v2 w2 hown2 hgrow2) | fail)
  obtain ⟨al, hal⟩ : ∃ al, al = fs ++ os := ⟨_, rfl⟩
  have hlen : 17 + os.length = al.length := by rw [hal, List.length_append, hf1]
  rw [← opsCells_append, ← hal, hlen] at hown2
  obtain ⟨g2, cap2, rfl⟩ := own_form hown2 (by omega)
  have b2 : Below w.heap.size w w2 := HB.out.1.grown hgrow2 hb1 (fun q hq => by simp [Value.ownBlock] at hq; omega)
  have A2 : Alls w.heap.size w2 (.slice (some ⟨g2, 0, none⟩) al.length cap2) al := by
    refine ⟨hown2, fun o ho => ?_, by omega⟩
    rw [hal] at ho
    rcases List.mem_append.1 ho with h | h
    · exact (HB.out.2.2 o h).1
    · exact HS.out.ok o h
  have hg2 := (hown2.lt g2 rfl).2
  have hal2 : al.length * 72 ≤ 140737488355328 := by omega
  have hsz2 := b2.size
  have hp2 : ∀ i x, ps[i]? = some x → w2.cell? ⟨g, i, none⟩ = some (.int .i64 x) := fun i x hx => (b2.cell (p := ⟨g, i, none⟩) hg).trans (HP.out i x hx)
  have hn2 : ∀ j, j < 7 → w2.cell? ⟨0, j, none⟩ = some (nmV j) := fun j hj => (b2.cell (p := ⟨0, j, none⟩) h0).trans (HN.out j hj)
  have HQ := hide (And.intro hp2 (And.intro hn2 (And.intro b2 A2)))
  have HD := hide (DW.new w2)
  clear hown2 hgrow2 b2 A2 HA HB HS HP HN hroom hb1 hlen hal hp2 hn2 HI hq0 hq1 hq2 hf1
  go_loopw [7] (fun i wr => ∃ (k : Nat) (v : Value) (ys : List (Nat × Nat)), k ≤ al.length ∧ i = .int .i64 k ∧ ys.length ≤ k ∧ DW w2 wr w2.heap.size v ys) (fun i _ => al.length - (intOf i).toNat)
  case atStart => exact ⟨0, _, [], by omega, rfl, by simp, HD.out⟩
  case round =>
    clear HD
    obtain ⟨k, v, ys, hk, rfl, hys, D⟩ := hrel
    have HD := hide D
    clear D
    by_cases hlt : k < al.length
    · have hlt2 : (k : Int) < al.length := by omega
      have hk57 : (k : Int) < 144115188075855872 := by omega
      obtain ⟨e0, e1, e2, e3, e4, e5⟩ := HQ.out.2.2.2.at k hlt
      have onr : ∀ j u, w2.cell? ⟨g2, j, none⟩ = some u → wr.cell? ⟨g2, j, none⟩ = some u := fun j u h => (HD.out.below.cell (p := ⟨g2, j, none⟩) hg2).trans h
      have e0 := onr _ _ e0
      have e1 := onr _ _ e1
      have e2 := onr _ _ e2
      have e3 := onr _ _ e3
      have e4 := onr _ _ e4
      have e5 := onr _ _ e5
      have HO := hide (HQ.out.2.2.2.ok al[k] (List.getElem_mem hlt))
      generalize al[k] = o at *
      clear onr
      obtain ⟨ok, oa, ob, od, oS, ol⟩ := o
      obtain ⟨la, ll, lc, hol⟩ := HO.out.one
      simp only at hol e0 e1 e2 e3 e4 e5
      subst hol
      go_wp2_with fail
      have D0 := HD.out.on ((Below.refl _ _).alloc (Nat.le_refl _) (Obj.cells #[.int .i64 ok, .int .i64 oa, .int .i64 ob, .int .i64 od, .string oS, .slice la ll lc] 84))
      obtain ⟨_, _, x0, x1, x2, x3, x4, x5⟩ := box_facts wr (.int .i64 ok) (.int .i64 oa) (.int .i64 ob) (.int .i64 od) (.string oS) (.slice la ll lc) 84
      have hd : ∀ (u : World) (p : Addr), u.drew.cell? p = u.cell? p := fun _ _ => rfl
      rw [hd] at x0 x1 x2 x3 x4 x5
      generalize wr.alloc (Obj.cells #[.int .i64 ok, .int .i64 oa, .int .i64 ob, .int .i64 od, .string oS, .slice la ll lc] 84) = wo at *
      clear HD e0 e1 e2 e3 e4 e5 hd
      refine (among_any g pcap ps ok wo (fun i x hx => (D0.below.cell (p := ⟨g, i, none⟩) (by simp; omega)).trans (HQ.out.1 i x hx)) hl).mono ?_
      rintro e w' ⟨rfl, rfl⟩
      have HD0 := hide D0
      clear D0
      have hys2 : (ys.length + 1) * 16 ≤ 140737488355328 := by omega
      cases hin : ps.contains ok
      · go_wp2_with fail
        go_roundw
        case rel => exact ⟨k + 1, v, ys, by omega, by go_num, by omega, HD0.out⟩
        case measure => simp [intOf]; omega
      · have HC := hide (HST.out ⟨ok, oa, ob, od, oS, .slice la ll lc⟩ w2 _ w2.heap.size v ys hin HO.out HD0.out (by omega) HQ.out.2.1 hys2)
        clear hin HD0 HO
        go_wp2_with fail
        refine HC.out.mono ?_
        rintro e w3 ⟨rfl, v', ys', D', hl'⟩
        have HD' := hide D'
        clear D' HC
        go_wp2_with fail
        refine (looks_none w2.heap.size w3 HD'.out.c2 HD'.out.c3).mono ?_
        rintro e w4 ⟨rfl, rfl⟩
        go_wp2_with fail
        go_roundw
        case rel => exact ⟨k + 1, v', ys', by omega, by go_num, by omega, HD'.out⟩
        case measure => simp [intOf]; omega
    · have hnlt : ¬ (k : Int) < al.length := by omega
      go_wp2_with fail
      go_ret
      exact ⟨rfl, HQ.out.2.2.1.trans (HD.out.below.mono hsz2)⟩
set_option maxRecDepth 100000 in
set_option maxHeartbeats 1000000 in
theorem calendars_any (a : Option Addr) (os : List OpD) (c : Nat) (w : World) (S : Scr w a os c) (h0 : 0 < w.heap.size) (hnm : ∀ j, j < 7 → w.cell? ⟨0, j, none⟩ = some (nmV j)) :
    Calls Tryz.prog 3 #[.slice a os.length c] w fun e w' => e = .returned (.bool true) ∧ Below w.heap.size w w' := by
  have b1 : Below w.heap.size w (w.alloc (Obj.cells #[.int .i64 1, .int .i64 2] 3)) := (Below.refl _ _).alloc (Nat.le_refl _) _
  have hsz : (w.alloc (Obj.cells #[.int .i64 1, .int .i64 2] 3)).heap.size = w.heap.size + 1 := by simp
  have S1 : Scr (w.alloc (Obj.cells #[.int .i64 1, .int .i64 2] 3)) a os c := S.on b1
  have hp : ∀ (i : Nat) (x : Int), ([1, 2] : List Int)[i]? = some x → (w.alloc (Obj.cells #[.int .i64 1, .int .i64 2] 3)).cell? ⟨w.heap.size, i, none⟩ = some (.int .i64 x) := by
    intro i x hx
    rw [World.cell?_alloc_at _ _ _ _ rfl]
    match i, hx with
    | 0, hx => simp at hx; subst hx; rfl
    | 1, hx => simp at hx; subst hx; rfl
  have HC := hide (plays_any a os c w.heap.size 2 [1, 2] _ S1 hp (by omega) (by decide) (by omega) (fun j hj => (b1.cell (p := ⟨0, j, none⟩) h0).trans (hnm j hj)) (by
    intro o W w1 wb v ys hk ho D hW hn hy
    obtain ⟨ok, oa, ob, od, oS, ol⟩ := o
    have hk2 : ok = 1 ∨ ok = 2 := by simpa using hk
    rcases hk2 with rfl | rfl
    · exact step_parse W w1 wb v ys D oa ob od oS ol hW hn ho.sz hy
    · exact step_minute W w1 wb v ys D oa ob od oS ol ho.a0 ho.a1 hy))
  clear S S1 hp hnm
  go_enter Tryz.func3, Tryz.ntmps3
  go_wp2_with fail
  refine HC.out.mono ?_
  rintro e w2 ⟨rfl, b2⟩
  have HB := hide (b1.trans (b2.mono b1.size))
  clear HC b1 b2
  go_wp2_with fail
  go_ret
  exact ⟨rfl, HB.out⟩
end Go.Proofs.YtcnmbldikjljeaaGreatDoor
namespace Go.Proofs.YtcnmbldikjljeaaGreatDoor
open Go.ChangeShapes Go.WideShapes Go.ChangeAt Go.RowKit

theorem own : ownKnob Tryz.prog.godebug = none := by kernel_rfl
theorem laidOut : laidOutB Tryz.prog = true := by kernel_rfl
/-- the listed variable's name, off the row -/
abbrev dn : String := Rows.calendarsRow.named.headD default
theorem gNames : Tryz.prog.globalNamed dn = some 0 := by kernel_rfl
theorem tNames : (Tryz.prog.globals[0]?).map (·.type) = some 262 := by kernel_rfl
theorem cellsInt : Tryz.prog.cellsOf 3 = 1 := by kernel_rfl
theorem cellsStr : Tryz.prog.cellsOf 9 = 1 := by kernel_rfl
theorem cellsN : Tryz.prog.cellsOf 262 = 7 := by kernel_rfl

abbrev laidList : List (String × DataW Unit) := [(dn, Rows.laid_docket_docket_dayNames)]

theorem door_met (os : Os) (args : Array Value) : laidMetH Tryz.prog laidList ((World.doorLaid Tryz.prog 400 os).forCall (fun _ _ => 0) ⟨#[], args, []⟩).memory :=
  laidMetH_of_parts3 (fuel := 8) (laidMet_of_run' 8 (by kernel_rfl) (by kernel_rfl)) (by kernel_rfl) (by kernel_rfl)

theorem bytes_of_list (s : ByteArray) (l : List UInt8) (h : s.data.toList = l) : s = ⟨l.toArray⟩ := by subst h; cases s; simp

theorem names_of_laid {W : World} (h : laidMetH Tryz.prog laidList W) : ∀ j, j < 7 → W.cell? ⟨0, j, none⟩ = some (nmV j) := by
  rw [MakeChecks.laidMetH_plain _ _ _ (by kernel_rfl)] at h
  obtain ⟨ps, ⟨g0, t0, cs0, f0, p0, q0, hg0, ht0, hv0, hd0, _, _⟩, _, _⟩ := h
  obtain rfl := Option.some.inj (gNames.symm.trans hg0)
  obtain rfl := Option.some.inj (tNames.symm.trans ht0)
  obtain ⟨xs, m, rfl, hx, hlen, hn, hel⟩ := DataW.trod_array Tryz.underlying262 hd0
  simp only [Prod.mk.injEq] at hx
  intro j hj
  have hc := World.var?_cell hg0 hv0 j
  rw [hc]
  have hj2 := hel j hj
  rw [cellsStr] at hj2
  obtain ⟨y, hy⟩ : ∃ y, xs[j]? = some y := ⟨xs[j]'(by omega), by simp⟩
  rw [hy] at hj2
  obtain ⟨s, e1, e2, _⟩ := DataW.trod_string Tryz.underlying9 hj2
  have hcs : cs0[j]? = some (.string s) := by
    have := congrArg (·[0]?) e1
    simpa [List.getElem?_take, List.getElem?_drop] using this
  rw [hcs]
  have hmap : (xs.map (·.1))[j]? = some (.lit (.string s.data.toList)) := by simp [hy, e2]
  have hD := hx.1
  simp only [Rows.laid_docket_docket_dayNames, DataW.agg.injEq] at hD
  rw [← hD] at hmap
  unfold nmV
  have key : ∀ l : List UInt8, s.data.toList = l → Value.string s = .string ⟨l.toArray⟩ := fun l hl => by rw [bytes_of_list s l hl]
  have hj7 : j = 0 ∨ j = 1 ∨ j = 2 ∨ j = 3 ∨ j = 4 ∨ j = 5 ∨ j = 6 := by omega
  rcases hj7 with rfl | rfl | rfl | rfl | rfl | rfl | rfl
  all_goals
    simp only [List.getElem?_cons_zero, List.getElem?_cons_succ, Option.some.injEq, DataW.lit.injEq, Lit.string.injEq] at hmap
    rw [key _ hmap.symm]
    rfl
end Go.Proofs.YtcnmbldikjljeaaGreatDoor
namespace Go.Proofs.YtcnmbldikjljeaaGreatDoor
open Go.ChangeShapes Go.WideShapes Go.ChangeAt Go.RowKit

theorem list6 {α : Type} {l : List α} (h : l.length = 6) : ∃ a b c d e f, l = [a, b, c, d, e, f] := by
  match l, h with
  | [a, b, c, d, e, f], _ => exact ⟨a, b, c, d, e, f, rfl⟩
theorem cellsOp : Tryz.prog.cellsOf 84 = 6 := by kernel_rfl
theorem bytesOp : Tryz.prog.bytesOf 84 = 72 := by kernel_rfl
theorem cellsStages : Tryz.prog.cellsOf 35 = 1 := by kernel_rfl
section
variable {H : Type} {enc : TypeId × Value → H} {W : World}
/-- a step that came in -/
theorem open_op {cs : List Value} {fuel : Nat} {y : DataW H × List MemPlace} (hlen : cs.length = 6) (h : DataW.trod enc Tryz.prog W 0 (fun _ => true) true fuel 84 cs = some y) : ∃ o : OpD, cs = o.cells ∧ OpOk o := by
  obtain ⟨u0, u1, u2, u3, u4, u5, rfl⟩ := list6 hlen
  obtain ⟨ys, k, _, _, _, hn, hy⟩ := DataW.trod_struct Tryz.underlying84 h
  obtain ⟨z0, z1, z2, z3, z4, z5, rfl⟩ := list6 hn
  have y0 : DataW.trod enc Tryz.prog W 0 (fun _ => true) true k 3 (([u0, u1, u2, u3, u4, u5].drop 0).take (Tryz.prog.cellsOf 3)) = some z0 := hy 0 _ rfl
  rw [cellsInt] at y0
  have y1 : DataW.trod enc Tryz.prog W 0 (fun _ => true) true k 3 (([u0, u1, u2, u3, u4, u5].drop 1).take (Tryz.prog.cellsOf 3)) = some z1 := hy 1 _ rfl
  rw [cellsInt] at y1
  have y2 : DataW.trod enc Tryz.prog W 0 (fun _ => true) true k 3 (([u0, u1, u2, u3, u4, u5].drop 2).take (Tryz.prog.cellsOf 3)) = some z2 := hy 2 _ rfl
  rw [cellsInt] at y2
  have y3 : DataW.trod enc Tryz.prog W 0 (fun _ => true) true k 3 (([u0, u1, u2, u3, u4, u5].drop 3).take (Tryz.prog.cellsOf 3)) = some z3 := hy 3 _ rfl
  rw [cellsInt] at y3
  have y4 : DataW.trod enc Tryz.prog W 0 (fun _ => true) true k 9 (([u0, u1, u2, u3, u4, u5].drop 4).take (Tryz.prog.cellsOf 9)) = some z4 := hy 4 _ rfl
  rw [cellsStr] at y4
  have y5 : DataW.trod enc Tryz.prog W 0 (fun _ => true) true k 35 (([u0, u1, u2, u3, u4, u5].drop 5).take (Tryz.prog.cellsOf 35)) = some z5 := hy 5 _ rfl
  rw [cellsStages] at y5
  obtain ⟨k0, e0, _, w0⟩ := DataW.trod_int Tryz.underlying3 y0
  obtain ⟨k1, e1, _, w1⟩ := DataW.trod_int Tryz.underlying3 y1
  obtain ⟨k2, e2, _, w2⟩ := DataW.trod_int Tryz.underlying3 y2
  obtain ⟨k3, e3, _, w3⟩ := DataW.trod_int Tryz.underlying3 y3
  obtain ⟨s, e4, _, w4⟩ := DataW.trod_string Tryz.underlying9 y4
  obtain ⟨la, ll, lc, e5⟩ := Joins.slice_form (show Tryz.prog.underlying 35 = some (.slice 125) from Tryz.underlying35) y5
  simp only [List.drop_zero, List.drop_succ_cons, List.take_succ_cons, List.take_zero, List.cons.injEq, and_true] at e0 e1 e2 e3 e4 e5
  subst e0 e1 e2 e3 e4 e5
  have b1 := bounds_i64 w1
  have b2 := bounds_i64 w2
  have b3 := bounds_i64 w3
  unfold maxLen at w4
  exact ⟨⟨k0, k1, k2, k3, s, .slice la ll lc⟩, rfl, ⟨b1.1, b1.2, b2.1, b2.2, b3.1, b3.2, w4, ⟨la, ll, lc, rfl⟩⟩⟩
/-- a script that came in -/
theorem open_script {a : Option Addr} {len cap fuel : Nat} {x : DataW H × List MemPlace} (h : DataW.trod enc Tryz.prog W 0 (fun _ => true) true fuel 22 [.slice a len cap] = some x)
    (hr : ∀ elems spare, x.1 = .slice elems spare → (elems.length + spare.length) * 72 ≤ 140737488351232) : ∃ os : List OpD, len = os.length ∧ Scr W a os cap := by
  rcases Deep.open_slice Tryz.underlying22 h with ⟨hcs, _⟩ | ⟨x0, l, c, m, n, D, Pl, hcs, _, hl, hm, hmm, hx, hel⟩
  · simp only [List.cons.injEq, Value.slice.injEq, and_true] at hcs
    obtain ⟨rfl, rfl, rfl⟩ := hcs
    exact ⟨[], rfl, ⟨fun _ => ⟨rfl, rfl⟩, fun j u hu => by simp [opsCells] at hu, fun o ho => by simp at ho, by simp⟩⟩
  · simp only [List.cons.injEq, Value.slice.injEq, and_true] at hcs
    obtain ⟨rfl, rfl, rfl⟩ := hcs
    simp only [if_true] at hmm
    subst hmm
    have hroom := hr _ _ (by rw [hx])
    simp only [List.length_map, List.length_range] at hroom
    rw [cellsOp] at hel
    have hE : ∀ i, i < len → ∃ o : OpD, OpOk o ∧ ∀ j, j < 6 → W.cell? ((x0.add (i * 6)).add j) = (o.cells)[j]? := by
      intro i hi
      obtain ⟨cs', h1, h2⟩ := hel i (by omega)
      obtain ⟨_, hlen, hcell⟩ := World.cells?_some h1
      obtain ⟨o, rfl, ho⟩ := open_op hlen h2
      exact ⟨o, ho, hcell⟩
    have _ : Inhabited OpD := ⟨⟨0, 0, 0, 0, ⟨#[]⟩, .slice none 0 0⟩⟩
    obtain ⟨en, hen⟩ := Deep.choose_lt (α := OpD) hE
    refine ⟨(List.range len).map en, by simp, ⟨fun e => (by cases e), fun j u hu => ?_, fun o ho => ?_, by simp; omega⟩⟩
    · have hlt : j < ((List.range len).map en).length * 6 := by rw [← opsCells_len]; exact (List.getElem?_eq_some_iff.1 hu).1
      simp only [List.length_map, List.length_range] at hlt
      have hi : j / 6 < len := by omega
      have hj : j = j / 6 * 6 + j % 6 := by omega
      have hat := opsCells_at ((List.range len).map en) (j / 6) (by simpa using hi) (j % 6) (by omega)
      rw [← hj, hu] at hat
      simp only [List.getElem_map, List.getElem_range] at hat
      have hc := (hen (j / 6) hi).2 (j % 6) (by omega)
      rw [← hat] at hc
      obtain ⟨b, off, spot⟩ := x0
      have hspot : spot = none := by
        have h00 : W.cell? (((Addr.mk b off spot).add (0 * 6)).add 0) = some (.int .i64 (en 0).k) := (hen 0 (by omega)).2 0 (by omega)
        have := World.cell?_spot h00
        simpa [Addr.add] using this
      subst hspot
      rw [add_plain, add_plain] at hc
      have e : off + j = off + j / 6 * 6 + j % 6 := by omega
      rw [← e] at hc
      exact ⟨b, off, rfl, World.block_lt_of_cell? W _ hc, hc⟩
    · simp only [List.mem_map, List.mem_range] at ho
      obtain ⟨i, hi, rfl⟩ := ho
      exact (hen i hi).1
end
end Go.Proofs.YtcnmbldikjljeaaGreatDoor
