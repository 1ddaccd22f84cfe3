import Derived.Test.YtcnmbldikjljeaaGreatDoorJ31
import Derived.Deep.DeepMust
import Derived.Deep.RegionHeld3
import Derived.Test.YtcnmbldikjljeaaGreatDoorJ09
import Derived.Laws.AppendOwnNone
import Derived.Test.YtcnmbldikjljeaaGreatDoorJ18
import Derived.Test.YtcnmbldikjljeaaGreatDoorJ07
namespace Go.Proofs.YtcnmbldikjljeaaGreatDoor
open Go.RowKit

theorem pk_nat (c : Int) (n : Nat) (hn : 0 < n) : ∃ i : Nat, pk c n = (i : Int) ∧ i < n := by
  have h1 := pk_lo c n (by omega)
  have h2 := pk_hi c n (by omega)
  exact ⟨(pk c n).toNat, by omega, by omega⟩
theorem box_facts (w : World) (x0 x1 x2 x3 x4 x5 : Value) (t : TypeId) : Below w.heap.size w (w.alloc (Obj.cells #[x0, x1, x2, x3, x4, x5] t)) ∧ w.heap.size < (w.alloc (Obj.cells #[x0, x1, x2, x3, x4, x5] t)).heap.size ∧
    ((w.alloc (Obj.cells #[x0, x1, x2, x3, x4, x5] t)).drew.cell? ⟨w.heap.size, 0, none⟩ = some x0 ∧ (w.alloc (Obj.cells #[x0, x1, x2, x3, x4, x5] t)).drew.cell? ⟨w.heap.size, 1, none⟩ = some x1 ∧ (w.alloc (Obj.cells #[x0, x1, x2, x3, x4, x5] t)).drew.cell? ⟨w.heap.size, 2, none⟩ = some x2 ∧
     (w.alloc (Obj.cells #[x0, x1, x2, x3, x4, x5] t)).drew.cell? ⟨w.heap.size, 3, none⟩ = some x3 ∧ (w.alloc (Obj.cells #[x0, x1, x2, x3, x4, x5] t)).drew.cell? ⟨w.heap.size, 4, none⟩ = some x4 ∧ (w.alloc (Obj.cells #[x0, x1, x2, x3, x4, x5] t)).drew.cell? ⟨w.heap.size, 5, none⟩ = some x5) := by
  have hd : ∀ (u : World) (p : Addr), u.drew.cell? p = u.cell? p := fun _ _ => rfl
  refine ⟨(Below.refl _ _).alloc (Nat.le_refl _) _, by simp, ?_⟩
  simp only [hd]
  refine ⟨?_, ?_, ?_, ?_, ?_, ?_⟩ <;> (rw [World.cell?_alloc_at _ _ _ _ rfl]; rfl)
set_option maxRecDepth 100000 in
set_option maxHeartbeats 4000000 in
/-- a Parse -/
theorem step_parse (W w : World) (wb : Nat) (v : Value) (ys : List (Nat × Nat)) (D : DW W w wb v ys) (a b d : Int) (s : ByteArray) (l : Value) (h0 : 0 < W.heap.size) (hnm : ∀ j, j < 7 → W.cell? ⟨0, j, none⟩ = some (nmV j)) (hs : s.size ≤ 9223372036854775807)
    (hn : (ys.length + 1) * 16 ≤ 140737488355328) :
    Calls Tryz.prog 30 #[P0 wb, .agg #[.int .i64 1, .int .i64 a, .int .i64 b, .int .i64 d, .string s, l]] w fun e w' => e = .returned (.bool true) ∧ ∃ v' ys', DW W w' wb v' ys' ∧ ys'.length ≤ ys.length + 1 := by
  have D0 := D.on ((Below.refl _ _).alloc (Nat.le_refl _) (Obj.cells #[.int .i64 1, .int .i64 a, .int .i64 b, .int .i64 d, .string s, l] 84))
  have HP := hide (parsed_any W _ wb v ys D0 1 a b d s l h0 hnm hs hn)
  clear D D0 hnm
  go_enter Tryz.func30, Tryz.ntmps30
  go_wp2_with fail
  refine HP.out.mono ?_
  rintro e w1 ⟨rfl, v', ys', D', hl'⟩
  have HR := hide (And.intro D' hl')
  clear D' hl' HP
  go_wp2_with fail
  go_ret
  exact ⟨rfl, v', ys', HR.out.1, HR.out.2⟩
set_option maxRecDepth 100000 in
set_option maxHeartbeats 4000000 in
/-- a minute of a calendar, if there is one -/
theorem step_minute (W w : World) (wb : Nat) (v : Value) (ys : List (Nat × Nat)) (D : DW W w wb v ys) (a b d : Int) (s : ByteArray) (l : Value) (a0 : -9223372036854775808 ≤ a) (a1 : a ≤ 9223372036854775807) (hn : (ys.length + 1) * 16 ≤ 140737488355328) :
    Calls Tryz.prog 30 #[P0 wb, .agg #[.int .i64 2, .int .i64 a, .int .i64 b, .int .i64 d, .string s, l]] w fun e w' => e = .returned (.bool true) ∧ ∃ v' ys', DW W w' wb v' ys' ∧ ys'.length ≤ ys.length + 1 := by
  have hcv := D.c0
  have hc1 := D.c1
  have hlt := D.lt
  have D0 := D.on ((Below.refl _ _).alloc (Nat.le_refl _) (Obj.cells #[.int .i64 2, .int .i64 a, .int .i64 b, .int .i64 d, .string s, l] 84))
  have HB := hide (box_facts w (.int .i64 2) (.int .i64 a) (.int .i64 b) (.int .i64 d) (.string s) l 84)
  have HD := hide D0
  rcases D.own.2 with ⟨rfl, hz⟩ | ⟨q, cap, cur, rfl, _, hg, _⟩
  · clear D D0
    go_enter Tryz.func30, Tryz.ntmps30
    go_wp2_with fail
    go_ret
    exact ⟨rfl, _, ys, HD.out, by omega⟩
  · by_cases hz : ys.length = 0
    · rw [hz] at hcv
      clear D D0
      go_enter Tryz.func30, Tryz.ntmps30
      go_wp2_with fail
      go_ret
      exact ⟨rfl, _, ys, HD.out, by omega⟩
    · have hp : 0 < ys.length := by omega
      have hp2 : 0 < (ys.length : Int) := by omega
      have hp3 : (ys.length : Int) ≤ 9223372036854775807 := by omega
      have HL : Hid (∀ u : World, _) := fun u => lpick_any a ys.length u a0 a1 hp2 hp3
      obtain ⟨i, hi, hil⟩ := pk_nat a ys.length hp
      have hi2 : (i : Int) < ys.length := by omega
      rw [hi] at HL
      clear D D0 hi hg
      go_enter Tryz.func30, Tryz.ntmps30
      go_wp2_with fail
      generalize w.alloc (Obj.cells #[.int .i64 2, .int .i64 a, .int .i64 b, .int .i64 d, .string s, l] 84) = wo at *
      have D0 := HD.out
      have HDD := hide (D0.on ((Below.refl _ _).drew))
      clear hcv hc1 hlt
      have hcv : wo.drew.cell? ⟨wb, 0, none⟩ = some _ := D0.c0
      have hc := yrCells_at ys i hil
      have e0 : wo.drew.cell? ⟨q, i * 2, none⟩ = some (P0 ys[i].1) := (D0.own.cellAt (i * 2) (by omega)).trans hc.1
      have e1 : wo.drew.cell? ⟨q, i * 2 + 1, none⟩ = some (P0 ys[i].2) := (D0.own.cellAt (i * 2 + 1) (by omega)).trans hc.2
      have HM := hide (minute_any wo.drew wb _ ys[i].1 ys[i].2 (HDD.out.yrs ys[i] (List.getElem_mem hil)) a b d s l)
      obtain ⟨_, hsz, q0, q1, q2, q3, q4, q5⟩ := HB.out
      clear D0 hc HB HD
      have hqs : q < wo.drew.heap.size := World.block_lt_of_cell? _ _ e0
      have hws : wb < wo.drew.heap.size := World.block_lt_of_cell? _ _ hcv
      have hbs : w.heap.size < wo.drew.heap.size := hsz
      generalize ys[i].1 = yc at *
      generalize ys[i].2 = yr at *
      go_region_held3 (fun w' => w'.cell? ⟨wb, 0, none⟩ = some (.slice (some ⟨q, 0, none⟩) ys.length cap) ∧ w'.cell? ⟨q, i * 2, none⟩ = some (P0 yc) ∧ w'.cell? ⟨q, i * 2 + 1, none⟩ = some (P0 yr) ∧ w'.cell? ⟨w.heap.size, 0, none⟩ = some (.int .i64 2) ∧ w'.cell? ⟨w.heap.size, 1, none⟩ = some (.int .i64 a) ∧ w'.cell? ⟨w.heap.size, 2, none⟩ = some (.int .i64 b) ∧ w'.cell? ⟨w.heap.size, 3, none⟩ = some (.int .i64 d) ∧ w'.cell? ⟨w.heap.size, 4, none⟩ = some (.string s) ∧ w'.cell? ⟨w.heap.size, 5, none⟩ = some l) ((go_keep; done))
        (first | (go_at_call 59; refine (HL.out _).mono ?_; rintro e w' ⟨rfl, rfl⟩) | (go_at_call 58; refine HM.out.mono ?_; rintro e w' ⟨rfl, bl⟩; have z0 := (bl.cell (p := ⟨wb, 0, none⟩) hws).trans hcv; have z1 := (bl.cell (p := ⟨q, i * 2, none⟩) hqs).trans e0; have z2 := (bl.cell (p := ⟨q, i * 2 + 1, none⟩) hqs).trans e1; have y0 := (bl.cell (p := ⟨w.heap.size, 0, none⟩) hbs).trans q0; have y1 := (bl.cell (p := ⟨w.heap.size, 1, none⟩) hbs).trans q1; have y2 := (bl.cell (p := ⟨w.heap.size, 2, none⟩) hbs).trans q2; have y3 := (bl.cell (p := ⟨w.heap.size, 3, none⟩) hbs).trans q3; have y4 := (bl.cell (p := ⟨w.heap.size, 4, none⟩) hbs).trans q4; have y5 := (bl.cell (p := ⟨w.heap.size, 5, none⟩) hbs).trans q5))
      have HF := hide (HDD.out.on bl)
      clear HDD HM HL bl
      go_wp2_with fail
      go_ret
      exact ⟨rfl, _, ys, HF.out, by omega⟩
end Go.Proofs.YtcnmbldikjljeaaGreatDoor
namespace Go.Proofs.YtcnmbldikjljeaaGreatDoor
open Go.RowKit

theorem opInfo : (Tryz.prog.info? 84).map (fun i => (i.zero, i.size, i.bytes)) = some (some (.agg #[.int .i64 0, .int .i64 0, .int .i64 0, .int .i64 0, .string ⟨#[]⟩, .slice none 0 0]), 6, 72) := by kernel_rfl
/-- a script that came in -/
structure Scr (W : World) (a : Option Addr) (os : List OpD) (c : Nat) : Prop where
  none : a = none → os.length = 0 ∧ c = 0
  cell : ∀ j u, (opsCells os)[j]? = some u → ∃ b off, a = some ⟨b, off, Option.none⟩ ∧ b < W.heap.size ∧ W.cell? ⟨b, off + j, Option.none⟩ = some u
  ok : ∀ o ∈ os, OpOk o
  room : os.length * 72 ≤ 140737488351232
theorem Scr.on {W W' : World} {a : Option Addr} {os : List OpD} {c : Nat} (S : Scr W a os c) (hb : Below W.heap.size W W') : Scr W' a os c := by
  refine ⟨S.none, fun j u hj => ?_, S.ok, S.room⟩
  obtain ⟨b, off, e1, e2, e3⟩ := S.cell j u hj
  exact ⟨b, off, e1, Nat.lt_of_lt_of_le e2 hb.size, (hb.cell (p := ⟨b, off + j, Option.none⟩) e2).trans e3⟩
theorem opsCells_one (os : List OpD) (h : ∀ o ∈ os, OpOk o) : ∀ u ∈ opsCells os, u.oneCell' = true := by
  intro u hu
  simp only [opsCells, List.mem_flatMap] at hu
  obtain ⟨o, ho, hu⟩ := hu
  simp only [OpD.cells, List.mem_cons, List.not_mem_nil, or_false] at hu
  rcases hu with rfl | rfl | rfl | rfl | rfl | rfl
  all_goals first | rfl | (obtain ⟨_, _, _, e⟩ := (h o ho).one; rw [e]; rfl)
/-- all steps: the first, and the script's, behind the append -/
structure Alls (B : Nat) (w : World) (v : Value) (os : List OpD) : Prop where
  own : w.ownsRow B 84 6 v os.length (opsCells os)
  ok : ∀ o ∈ os, OpOk o
  room : os.length * 72 ≤ 140737488355328
theorem Alls.on {B : Nat} {w w' : World} {v : Value} {os : List OpD} (A : Alls B w v os) (hb : Below w.heap.size w w') : Alls B w' v os :=
  ⟨A.own.kept (row := none) ⟨hb.os, hb.tape, hb.output, hb.size, fun k hk _ => hb.block k hk⟩ (by cases v.ownBlock <;> simp), A.ok, A.room⟩
theorem Alls.at {B : Nat} {w : World} {g cap : Nat} {os : List OpD} (A : Alls B w (.slice (some ⟨g, 0, none⟩) os.length cap) os) (i : Nat) (h : i < os.length) :
    w.cell? ⟨g, i * 6, none⟩ = some (.int .i64 os[i].k) ∧ w.cell? ⟨g, i * 6 + 1, none⟩ = some (.int .i64 os[i].a) ∧ w.cell? ⟨g, i * 6 + 2, none⟩ = some (.int .i64 os[i].b) ∧ w.cell? ⟨g, i * 6 + 3, none⟩ = some (.int .i64 os[i].d) ∧ w.cell? ⟨g, i * 6 + 4, none⟩ = some (.string os[i].s) ∧ w.cell? ⟨g, i * 6 + 5, none⟩ = some os[i].l := by
  have key : ∀ j, j < 6 → w.cell? ⟨g, i * 6 + j, none⟩ = (os[i].cells)[j]? := fun j hj => (A.own.cellAt (i * 6 + j) (by omega)).trans (opsCells_at os i h j hj)
  exact ⟨key 0 (by omega), key 1 (by omega), key 2 (by omega), key 3 (by omega), key 4 (by omega), key 5 (by omega)⟩
theorem DW.new (W : World) : DW W (W.alloc (.cells #[.slice none 0 0, .slice none 0 0, .slice none 0 0, .slice none 0 0] 82)) W.heap.size (.slice none 0 0) [] :=
  ⟨(Below.refl _ _).alloc (Nat.le_refl _) _, Nat.le_refl _, heap_alloc_new W _, World.ownsRow_nil _ _ _ _, fun y hy => by simp at hy⟩
theorem own_form {w : World} {B : Nat} {e : TypeId} {size n : Nat} {v : Value} {xs : List Value} (h : w.ownsRow B e size v n xs) (hn : 0 < n) : ∃ g cap, v = .slice (some ⟨g, 0, none⟩) n cap := by
  rcases h.2 with ⟨_, hz⟩ | ⟨g, cap, _, hv, _⟩
  · omega
  · exact ⟨g, cap, hv⟩
set_option maxRecDepth 100000 in
set_option maxHeartbeats 4000000 in
/-- a script of calendars alone -/
theorem plays_any (a : Option Addr) (os : List OpD) (c g pcap : Nat) (ps : List Int) (w : World) (S : Scr w a os c) (hp : ∀ i x, ps[i]? = some x → w.cell? ⟨g, i, none⟩ = some (.int .i64 x)) (hg : g < w.heap.size) (hl : ps.length ≤ 1000) (h0 : 0 < w.heap.size) (hnm : ∀ j, j < 7 → w.cell? ⟨0, j, none⟩ = some (nmV j))
    (hstep : ∀ (o : OpD) (W w1 : World) (wb : Nat) (v : Value) (ys : List (Nat × Nat)), ps.contains o.k = true → OpOk o → DW W w1 wb v ys → 0 < W.heap.size → (∀ j, j < 7 → W.cell? ⟨0, j, none⟩ = some (nmV j)) → (ys.length + 1) * 16 ≤ 140737488355328 →
      Calls Tryz.prog 30 #[P0 wb, .agg #[.int .i64 o.k, .int .i64 o.a, .int .i64 o.b, .int .i64 o.d, .string o.s, o.l]] w1 fun e w' => e = .returned (.bool true) ∧ ∃ v' ys', DW W w' wb v' ys' ∧ ys'.length ≤ ys.length + 1) :
    Calls Tryz.prog 10 #[.slice a os.length c, .slice (some ⟨g, 0, none⟩) ps.length pcap] w fun e w' => e = .returned (.bool true) ∧ Below w.heap.size w w' := by
  have HS := hide S
  have HP := hide hp
  have HN := hide hnm
  have HST := hide hstep
  clear S hp hnm hstep
  obtain ⟨i0, hi, hq0, hq1, hq2⟩ := info_parts opInfo
  have HI := hide hi
  clear hi
  go_enter Tryz.func10, Tryz.ntmps10
  go_wp2_with fail
  refine (first_any w).mono ?_
  rintro e w1 ⟨fs, hf1, hf2, rfl, rfl⟩
  have hfl := opsCells_len fs
  have hsz3 : (ownW w).heap.size = w.heap.size + 3 := by simp [ownW]
  have b0 : Below w.heap.size w (ownW w) := ((((Below.refl _ _).alloc (Nat.le_refl _) _).alloc (by simp) _).alloc (by simp; omega) _)
  have b1 : Below w.heap.size w ((ownW w).alloc (Obj.cells (opsCells fs).toArray 84)) := b0.alloc (by omega) _
  have o1 : ((ownW w).alloc (Obj.cells (opsCells fs).toArray 84)).ownsRow w.heap.size 84 6 (.slice (some ⟨w.heap.size + 3, 0, none⟩) 17 17) 17 (opsCells fs) := by
    refine ⟨by rw [hfl, hf1], .inr ⟨w.heap.size + 3, 17, (opsCells fs).toArray, rfl, by omega, ?_, by omega, by decide, by simp [hfl, hf1], ?_⟩⟩
    · rw [← hsz3]; exact heap_alloc_new _ _
    · simp only; rw [List.take_of_length_le (by omega)]
  generalize (ownW w).alloc (Obj.cells (opsCells fs).toArray 84) = w1 at *
  have S := HS.out
  have hnews : ∀ j u, (opsCells os)[j]? = some u → ∃ b off, a = some ⟨b, off, none⟩ ∧ w1.cell? ⟨b, off + j, none⟩ = some u := by
    intro j u hj
    obtain ⟨b, off, e1, e2, e3⟩ := S.cell j u hj
    exact ⟨b, off, e1, (b1.cell (p := ⟨b, off + j, none⟩) e2).trans e3⟩
  have HA := hide (And.intro hnews (And.intro S.none (And.intro (opsCells_len os) (And.intro (opsCells_one os S.ok) S.room))))
  have HB := hide (And.intro b1 (And.intro o1 hf2))
  have hroom := S.room
  have hb1 := b1.size
  clear hnews S b0 b1 o1 hf2 hfl hsz3
  go_upto_region 99 with (first | (at_builtin; go_must (refine wpList_append_opt rfl _ _ 22 rfl w.heap.size 84 i0 (.agg #[.int .i64 0, .int .i64 0, .int .i64 0, .int .i64 0, .string ⟨#[]⟩, .slice none 0 0]) 6 72 Tryz.underlying22 HI.out hq0 hq1 hq2 rfl (by decide) (.slice (some ⟨w.heap.size + 3, 0, none⟩) 17 17) 17 (opsCells fs) (by rfl) HB.out.2.1 a os.length c (opsCells os) (by rfl) HA.out.2.1 HA.out.2.2.1 HA.out.1 HA.out.2.2.2.1 (by unfold maxLen; omega) (by omega) hb1 ?_); intro v2 w2 hown2 hgrow2) | fail)
  obtain ⟨al, hal⟩ : ∃ al, al = fs ++ os := ⟨_, rfl⟩
  have hlen : 17 + os.length = al.length := by rw [hal, List.length_append, hf1]
  rw [← opsCells_append, ← hal, hlen] at hown2
  obtain ⟨g2, cap2, rfl⟩ := own_form hown2 (by omega)
  have b2 : Below w.heap.size w w2 := HB.out.1.grown hgrow2 hb1 (fun q hq => by simp [Value.ownBlock] at hq; omega)
  have A2 : Alls w.heap.size w2 (.slice (some ⟨g2, 0, none⟩) al.length cap2) al := by
    refine ⟨hown2, fun o ho => ?_, by omega⟩
    rw [hal] at ho
    rcases List.mem_append.1 ho with h | h
    · exact (HB.out.2.2 o h).1
    · exact HS.out.ok o h
  have hg2 := (hown2.lt g2 rfl).2
  have hal2 : al.length * 72 ≤ 140737488355328 := by omega
  have hsz2 := b2.size
  have hp2 : ∀ i x, ps[i]? = some x → w2.cell? ⟨g, i, none⟩ = some (.int .i64 x) := fun i x hx => (b2.cell (p := ⟨g, i, none⟩) hg).trans (HP.out i x hx)
  have hn2 : ∀ j, j < 7 → w2.cell? ⟨0, j, none⟩ = some (nmV j) := fun j hj => (b2.cell (p := ⟨0, j, none⟩) h0).trans (HN.out j hj)
  have HQ := hide (And.intro hp2 (And.intro hn2 (And.intro b2 A2)))
  have HD := hide (DW.new w2)
  clear hown2 hgrow2 b2 A2 HA HB HS HP HN hroom hb1 hlen hal hp2 hn2 HI hq0 hq1 hq2 hf1
  go_loopw [7] (fun i wr => ∃ (k : Nat) (v : Value) (ys : List (Nat × Nat)), k ≤ al.length ∧ i = .int .i64 k ∧ ys.length ≤ k ∧ DW w2 wr w2.heap.size v ys) (fun i _ => al.length - (intOf i).toNat)
  case atStart => exact ⟨0, _, [], by omega, rfl, by simp, HD.out⟩
  case round =>
    clear HD
    obtain ⟨k, v, ys, hk, rfl, hys, D⟩ := hrel
    have HD := hide D
    clear D
    by_cases hlt : k < al.length
    · have hlt2 : (k : Int) < al.length := by omega
      have hk57 : (k : Int) < 144115188075855872 := by omega
      obtain ⟨e0, e1, e2, e3, e4, e5⟩ := HQ.out.2.2.2.at k hlt
      have onr : ∀ j u, w2.cell? ⟨g2, j, none⟩ = some u → wr.cell? ⟨g2, j, none⟩ = some u := fun j u h => (HD.out.below.cell (p := ⟨g2, j, none⟩) hg2).trans h
      have e0 := onr _ _ e0
      have e1 := onr _ _ e1
      have e2 := onr _ _ e2
      have e3 := onr _ _ e3
      have e4 := onr _ _ e4
      have e5 := onr _ _ e5
      have HO := hide (HQ.out.2.2.2.ok al[k] (List.getElem_mem hlt))
      generalize al[k] = o at *
      clear onr
      obtain ⟨ok, oa, ob, od, oS, ol⟩ := o
      obtain ⟨la, ll, lc, hol⟩ := HO.out.one
      simp only at hol e0 e1 e2 e3 e4 e5
      subst hol
      go_wp2_with fail
      have D0 := HD.out.on ((Below.refl _ _).alloc (Nat.le_refl _) (Obj.cells #[.int .i64 ok, .int .i64 oa, .int .i64 ob, .int .i64 od, .string oS, .slice la ll lc] 84))
      obtain ⟨_, _, x0, x1, x2, x3, x4, x5⟩ := box_facts wr (.int .i64 ok) (.int .i64 oa) (.int .i64 ob) (.int .i64 od) (.string oS) (.slice la ll lc) 84
      have hd : ∀ (u : World) (p : Addr), u.drew.cell? p = u.cell? p := fun _ _ => rfl
      rw [hd] at x0 x1 x2 x3 x4 x5
      generalize wr.alloc (Obj.cells #[.int .i64 ok, .int .i64 oa, .int .i64 ob, .int .i64 od, .string oS, .slice la ll lc] 84) = wo at *
      clear HD e0 e1 e2 e3 e4 e5 hd
      refine (among_any g pcap ps ok wo (fun i x hx => (D0.below.cell (p := ⟨g, i, none⟩) (by simp; omega)).trans (HQ.out.1 i x hx)) hl).mono ?_
      rintro e w' ⟨rfl, rfl⟩
      have HD0 := hide D0
      clear D0
      have hys2 : (ys.length + 1) * 16 ≤ 140737488355328 := by omega
      cases hin : ps.contains ok
      · go_wp2_with fail
        go_roundw
        case rel => exact ⟨k + 1, v, ys, by omega, by go_num, by omega, HD0.out⟩
        case measure => simp [intOf]; omega
      · have HC := hide (HST.out ⟨ok, oa, ob, od, oS, .slice la ll lc⟩ w2 _ w2.heap.size v ys hin HO.out HD0.out (by omega) HQ.out.2.1 hys2)
        clear hin HD0 HO
        go_wp2_with fail
        refine HC.out.mono ?_
        rintro e w3 ⟨rfl, v', ys', D', hl'⟩
        have HD' := hide D'
        clear D' HC
        go_wp2_with fail
        refine (looks_none w2.heap.size w3 HD'.out.c2 HD'.out.c3).mono ?_
        rintro e w4 ⟨rfl, rfl⟩
        go_wp2_with fail
        go_roundw
        case rel => exact ⟨k + 1, v', ys', by omega, by go_num, by omega, HD'.out⟩
        case measure => simp [intOf]; omega
    · have hnlt : ¬ (k : Int) < al.length := by omega
      go_wp2_with fail
      go_ret
      exact ⟨rfl, HQ.out.2.2.1.trans (HD.out.below.mono hsz2)⟩
set_option maxRecDepth 100000 in
set_option maxHeartbeats 1000000 in
theorem calendars_any (a : Option Addr) (os : List OpD) (c : Nat) (w : World) (S : Scr w a os c) (h0 : 0 < w.heap.size) (hnm : ∀ j, j < 7 → w.cell? ⟨0, j, none⟩ = some (nmV j)) :
    Calls Tryz.prog 3 #[.slice a os.length c] w fun e w' => e = .returned (.bool true) ∧ Below w.heap.size w w' := by
  have b1 : Below w.heap.size w (w.alloc (Obj.cells #[.int .i64 1, .int .i64 2] 3)) := (Below.refl _ _).alloc (Nat.le_refl _) _
  have hsz : (w.alloc (Obj.cells #[.int .i64 1, .int .i64 2] 3)).heap.size = w.heap.size + 1 := by simp
  have S1 : Scr (w.alloc (Obj.cells #[.int .i64 1, .int .i64 2] 3)) a os c := S.on b1
  have hp : ∀ (i : Nat) (x : Int), ([1, 2] : List Int)[i]? = some x → (w.alloc (Obj.cells #[.int .i64 1, .int .i64 2] 3)).cell? ⟨w.heap.size, i, none⟩ = some (.int .i64 x) := by
    intro i x hx
    rw [World.cell?_alloc_at _ _ _ _ rfl]
    match i, hx with
    | 0, hx => simp at hx; subst hx; rfl
    | 1, hx => simp at hx; subst hx; rfl
  have HC := hide (plays_any a os c w.heap.size 2 [1, 2] _ S1 hp (by omega) (by decide) (by omega) (fun j hj => (b1.cell (p := ⟨0, j, none⟩) h0).trans (hnm j hj)) (by
    intro o W w1 wb v ys hk ho D hW hn hy
    obtain ⟨ok, oa, ob, od, oS, ol⟩ := o
    have hk2 : ok = 1 ∨ ok = 2 := by simpa using hk
    rcases hk2 with rfl | rfl
    · exact step_parse W w1 wb v ys D oa ob od oS ol hW hn ho.sz hy
    · exact step_minute W w1 wb v ys D oa ob od oS ol ho.a0 ho.a1 hy))
  clear S S1 hp hnm
  go_enter Tryz.func3, Tryz.ntmps3
  go_wp2_with fail
  refine HC.out.mono ?_
  rintro e w2 ⟨rfl, b2⟩
  have HB := hide (b1.trans (b2.mono b1.size))
  clear HC b1 b2
  go_wp2_with fail
  go_ret
  exact ⟨rfl, HB.out⟩
end Go.Proofs.YtcnmbldikjljeaaGreatDoor
namespace Go.Proofs.YtcnmbldikjljeaaGreatDoor
open Go.RowKit

set_option maxRecDepth 100000 in
set_option maxHeartbeats 1000000 in
/-- a Between, asked of both -/
theorem between_rk (w : World) (wb : Nat) (row : Option Nat) (c r : Nat) (Y : Yr w wb row (c, r)) (a b d : Int) (s : ByteArray) (l : Value) :
    Calls Tryz.prog 58 #[.agg #[P0 c, P0 r], .agg #[.int .i64 3, .int .i64 a, .int .i64 b, .int .i64 d, .string s, l]] w fun e w' => e = .returned (.bool true) ∧ Below w.heap.size w w' := by
  obtain ⟨wk, fr, F, h, cap, C, hl, ho, ⟨r1, r2, r3, r4, r5⟩, _⟩ := Y
  have R : RC w r F := ⟨r1, h, cap, r2, r3, r4, r5⟩
  clear r1 r2 r3 r4 r5
  have HB := hide (boxes w (P0 c) (P0 r) (.int .i64 3) (.int .i64 a) (.int .i64 b) (.int .i64 d) (.string s) l 152 84 rfl)
  have HCR := hide (And.intro C (And.intro R (And.intro hl ho)))
  clear C R hl ho
  by_cases hb : b < 0 ∨ 100800 < d ∨ d < b
  · go_enter Tryz.func58, Tryz.ntmps58
    go_wp2_with fail
    generalize (w.alloc (Obj.cells #[P0 c, P0 r] 152)).alloc (Obj.cells #[.int .i64 3, .int .i64 a, .int .i64 b, .int .i64 d, .string s, l] 84) = wo at *
    obtain ⟨bo, hsz, ⟨_, q1⟩, q2, q3⟩ := HB.out
    refine (between_bad c b d wo hb).mono ?_
    rintro e w1 ⟨rfl, bl1⟩
    have hs1 := bl1.size
    have q1' := (bl1.cell (p := ⟨w.heap.size, 1, none⟩) (by simp; omega)).trans q1
    have q2' := (bl1.cell (p := ⟨w.heap.size + 1, 2, none⟩) (by simp; omega)).trans q2
    have q3' := (bl1.cell (p := ⟨w.heap.size + 1, 3, none⟩) (by simp; omega)).trans q3
    have HBB := hide (bo.trans (bl1.mono bo.size))
    clear q1 q2 q3
    go_wp2_with fail
    refine (refBetween_bad r b d w1 hb).mono ?_
    rintro e w2 ⟨rfl, rfl⟩
    go_wp2_with fail
    go_ret
    exact ⟨rfl, HBB.out⟩
  · have b0 : 0 ≤ b := by omega
    have b1 : b ≤ d := by omega
    have b2 : d ≤ 100800 := by omega
    have k1 := cnt_mono F b1 b0
    clear hb
    go_enter Tryz.func58, Tryz.ntmps58
    go_wp2_with fail
    generalize (w.alloc (Obj.cells #[P0 c, P0 r] 152)).alloc (Obj.cells #[.int .i64 3, .int .i64 a, .int .i64 b, .int .i64 d, .string s, l] 84) = wo at *
    obtain ⟨bo, hsz, ⟨_, q1⟩, q2, q3⟩ := HB.out
    refine (between_any c wk fr F b d wo (HCR.out.1.on bo) HCR.out.2.2.1 HCR.out.2.2.2 b0 b1 b2).mono ?_
    rintro e w1 ⟨rfl, bl1⟩
    have hs1 := bl1.size
    have q1' := (bl1.cell (p := ⟨w.heap.size, 1, none⟩) (by simp; omega)).trans q1
    have q2' := (bl1.cell (p := ⟨w.heap.size + 1, 2, none⟩) (by simp; omega)).trans q2
    have q3' := (bl1.cell (p := ⟨w.heap.size + 1, 3, none⟩) (by simp; omega)).trans q3
    have HR2 := hide (refBetween_any r F b d w1 ((HCR.out.2.1.on bo).on bl1) b0 b1 b2)
    have HBB := hide (bo.trans (bl1.mono bo.size))
    clear HCR HB q1 q2 q3 bo bl1
    go_wp2_with fail
    refine HR2.out.mono ?_
    rintro e w2 ⟨rfl, bl2⟩
    have HZ := hide (HBB.out.trans (bl2.mono HBB.out.size))
    clear HR2 HBB bl2 q1' q2' q3' hs1 hsz
    generalize cnt F d.toNat - cnt F b.toNat = x at *
    go_wp2_with fail
    go_ret
    exact ⟨by simp, HZ.out⟩
set_option maxRecDepth 100000 in
set_option maxHeartbeats 1000000 in
/-- an Add, asked of both -/
theorem add_rk (w : World) (wb : Nat) (row : Option Nat) (c r : Nat) (Y : Yr w wb row (c, r)) (a b d : Int) (s : ByteArray) (l : Value) :
    Calls Tryz.prog 58 #[.agg #[P0 c, P0 r], .agg #[.int .i64 4, .int .i64 a, .int .i64 b, .int .i64 d, .string s, l]] w fun e w' => e = .returned (.bool true) ∧ Below w.heap.size w w' := by
  obtain ⟨wk, fr, F, h, cap, C, hl, ho, ⟨r1, r2, r3, r4, r5⟩, _⟩ := Y
  have R : RC w r F := ⟨r1, h, cap, r2, r3, r4, r5⟩
  clear r1 r2 r3 r4 r5
  have HB := hide (boxes w (P0 c) (P0 r) (.int .i64 4) (.int .i64 a) (.int .i64 b) (.int .i64 d) (.string s) l 152 84 rfl)
  have HCR := hide (And.intro C (And.intro R (And.intro hl ho)))
  clear C R hl ho
  by_cases hb : b < 0 ∨ 100800 < b ∨ d < 0 ∨ 20000 < d
  · go_enter Tryz.func58, Tryz.ntmps58
    go_wp2_with fail
    generalize (w.alloc (Obj.cells #[P0 c, P0 r] 152)).alloc (Obj.cells #[.int .i64 4, .int .i64 a, .int .i64 b, .int .i64 d, .string s, l] 84) = wo at *
    obtain ⟨bo, hsz, ⟨_, q1⟩, q2, q3⟩ := HB.out
    refine (add_bad c b d wo hb).mono ?_
    rintro e w1 ⟨rfl, bl1⟩
    have hs1 := bl1.size
    have q1' := (bl1.cell (p := ⟨w.heap.size, 1, none⟩) (by simp; omega)).trans q1
    have q2' := (bl1.cell (p := ⟨w.heap.size + 1, 2, none⟩) (by simp; omega)).trans q2
    have q3' := (bl1.cell (p := ⟨w.heap.size + 1, 3, none⟩) (by simp; omega)).trans q3
    have HBB := hide (bo.trans (bl1.mono bo.size))
    clear q1 q2 q3
    go_wp2_with fail
    refine (refAdd_bad r b d w1 hb).mono ?_
    rintro e w2 ⟨rfl, rfl⟩
    go_wp2_with fail
    go_ret
    exact ⟨rfl, HBB.out⟩
  · have b0 : 0 ≤ b := by omega
    have b1 : b ≤ 100800 := by omega
    have b2 : 0 ≤ d := by omega
    have b3 : d ≤ 20000 := by omega
    clear hb
    go_enter Tryz.func58, Tryz.ntmps58
    go_wp2_with fail
    generalize (w.alloc (Obj.cells #[P0 c, P0 r] 152)).alloc (Obj.cells #[.int .i64 4, .int .i64 a, .int .i64 b, .int .i64 d, .string s, l] 84) = wo at *
    obtain ⟨bo, hsz, ⟨_, q1⟩, q2, q3⟩ := HB.out
    refine (add_any c wk fr F b d wo (HCR.out.1.on bo) HCR.out.2.2.1 HCR.out.2.2.2 b0 b1 b2 b3).mono ?_
    rintro e w1 ⟨⟨x, hx, rfl⟩ | ⟨hx, rfl⟩, bl1⟩
    · have HX := hide hx
      clear hx
      have hs1 := bl1.size
      have q1' := (bl1.cell (p := ⟨w.heap.size, 1, none⟩) (by simp; omega)).trans q1
      have q2' := (bl1.cell (p := ⟨w.heap.size + 1, 2, none⟩) (by simp; omega)).trans q2
      have q3' := (bl1.cell (p := ⟨w.heap.size + 1, 3, none⟩) (by simp; omega)).trans q3
      have HR2 := hide (refAdd_any r F b d w1 ((HCR.out.2.1.on bo).on bl1) b0 b1 b2 b3)
      have HBB := hide (bo.trans (bl1.mono bo.size))
      clear HCR HB q1 q2 q3 bo bl1
      go_wp2_with fail
      refine HR2.out.mono ?_
      rintro e w2 ⟨⟨y, hy, rfl⟩ | ⟨hy, _⟩, bl2⟩
      · obtain rfl := addN_uniq HX.out hy
        clear hy
        have HZ := hide (HBB.out.trans (bl2.mono HBB.out.size))
        clear HR2 HBB bl2 q1' q2' q3' hs1 hsz
        go_wp2_with fail
        go_ret
        exact ⟨by simp, HZ.out⟩
      · exact (addN_never HX.out hy).elim
    · have HX := hide hx
      clear hx
      have hs1 := bl1.size
      have q1' := (bl1.cell (p := ⟨w.heap.size, 1, none⟩) (by simp; omega)).trans q1
      have q2' := (bl1.cell (p := ⟨w.heap.size + 1, 2, none⟩) (by simp; omega)).trans q2
      have q3' := (bl1.cell (p := ⟨w.heap.size + 1, 3, none⟩) (by simp; omega)).trans q3
      have HR2 := hide (refAdd_any r F b d w1 ((HCR.out.2.1.on bo).on bl1) b0 b1 b2 b3)
      have HBB := hide (bo.trans (bl1.mono bo.size))
      clear HCR HB q1 q2 q3 bo bl1
      go_wp2_with fail
      refine HR2.out.mono ?_
      rintro e w2 ⟨⟨y, hy, _⟩ | ⟨hy, rfl⟩, bl2⟩
      · exact (addN_never hy HX.out).elim
      · clear hy
        have HZ := hide (HBB.out.trans (bl2.mono HBB.out.size))
        clear HR2 HBB bl2 q1' q2' q3' hs1 hsz
        go_wp2_with fail
        go_ret
        exact ⟨by simp, HZ.out⟩
end Go.Proofs.YtcnmbldikjljeaaGreatDoor
