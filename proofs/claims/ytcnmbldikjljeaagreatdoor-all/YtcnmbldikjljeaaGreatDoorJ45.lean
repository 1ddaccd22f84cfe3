import Derived.Shelf.SlLaysF0
import Derived.Test.YtcnmbldikjljeaaGreatDoorRows
import Derived.Test.YtcnmbldikjljeaaGreatDoorJ09
import Derived.Test.YtcnmbldikjljeaaGreatDoorJ44
import Derived.Deep.Cut
import Derived.Lib.BufferMore
import Derived.Deep.OwnRows
import Derived.Test.YtcnmbldikjljeaaGreatDoorJ39
import Derived.Deep.MidRow
namespace Go.Proofs.YtcnmbldikjljeaaGreatDoor
open Go.Shelf

def sortEntry_ren : Go.Shelf.Ren := ⟨fun | 6 => 52 | 15 => 79 | 14 => 78 | 28 => 127 | 29 => 128 | 20 => 119 | 21 => 120 | 22 => 121 | 23 => 122 | 24 => 123 | 25 => 124 | 26 => 125 | 27 => 126 | 46 => 164 | 47 => 165 | 48 => 166 | 49 => 167 | 50 => 168 | 57 => 177 | n => n, fun | 22 => 64 | 24 => 67 | 25 => 145 | 3 => 3 | 39 => 179 | 0 => 0 | 53 => 96 | 55 => 223 | 4 => 4 | 46 => 215 | 45 => 214 | 50 => 219 | 5 => 5 | 9 => 9 | 66 => 254 | 70 => 258 | 76 => 266 | 77 => 42 | n => n, fun | n => n⟩
theorem sortEntry : Go.Proofs.SlLaysF0.n6 Tryz.prog sortEntry_ren where
  mixed := by kernel_rfl
  f6 := ⟨ "slices.SortFunc[[]docket/api.Entry,docket/api.Entry]", by decide, Tryz.func52.trans (congrArg some (by kernel_rfl))⟩
  f14 := ⟨ "slices.pdqsortCmpFunc[docket/api.Entry]", by decide, Tryz.func78.trans (congrArg some (by kernel_rfl))⟩
  f15 := Tryz.func79.trans (congrArg some (by kernel_rfl))
  f20 := ⟨ "slices.insertionSortCmpFunc[docket/api.Entry]", by decide, Tryz.func119.trans (congrArg some (by kernel_rfl))⟩
  f21 := ⟨ "slices.heapSortCmpFunc[docket/api.Entry]", by decide, Tryz.func120.trans (congrArg some (by kernel_rfl))⟩
  f22 := ⟨ "slices.breakPatternsCmpFunc[docket/api.Entry]", by decide, Tryz.func121.trans (congrArg some (by kernel_rfl))⟩
  f23 := ⟨ "slices.choosePivotCmpFunc[docket/api.Entry]", by decide, Tryz.func122.trans (congrArg some (by kernel_rfl))⟩
  f24 := ⟨ "slices.reverseRangeCmpFunc[docket/api.Entry]", by decide, Tryz.func123.trans (congrArg some (by kernel_rfl))⟩
  f25 := ⟨ "slices.partialInsertionSortCmpFunc[docket/api.Entry]", by decide, Tryz.func124.trans (congrArg some (by kernel_rfl))⟩
  f26 := ⟨ "slices.partitionEqualCmpFunc[docket/api.Entry]", by decide, Tryz.func125.trans (congrArg some (by kernel_rfl))⟩
  f27 := ⟨ "slices.partitionCmpFunc[docket/api.Entry]", by decide, Tryz.func126.trans (congrArg some (by kernel_rfl))⟩
  f28 := Tryz.func127.trans (congrArg some (by kernel_rfl))
  f29 := Tryz.func128.trans (congrArg some (by kernel_rfl))
  f46 := ⟨ "slices.siftDownCmpFunc[docket/api.Entry]", by decide, Tryz.func164.trans (congrArg some (by kernel_rfl))⟩
  f47 := Tryz.func165.trans (congrArg some (by kernel_rfl))
  f48 := Tryz.func166.trans (congrArg some (by kernel_rfl))
  f49 := ⟨ "slices.medianAdjacentCmpFunc[docket/api.Entry]", by decide, Tryz.func167.trans (congrArg some (by kernel_rfl))⟩
  f50 := ⟨ "slices.medianCmpFunc[docket/api.Entry]", by decide, Tryz.func168.trans (congrArg some (by kernel_rfl))⟩
  f57 := ⟨ "slices.order2CmpFunc[docket/api.Entry]", by decide, Tryz.func177.trans (congrArg some (by kernel_rfl))⟩
  t0 := Tryz.underlying0
  a0 := Tryz.isAgg0
  z0 := Tryz.sizeOf0
  v0 := Tryz.zeroValue0
  t3 := Tryz.underlying3
  a3 := Tryz.isAgg3
  z3 := Tryz.sizeOf3
  v3 := Tryz.zeroValue3
  t4 := Tryz.underlying4
  a4 := Tryz.isAgg4
  z4 := Tryz.sizeOf4
  v4 := Tryz.zeroValue4
  t5 := Tryz.underlying5
  a5 := Tryz.isAgg5
  z5 := Tryz.sizeOf5
  v5 := Tryz.zeroValue5
  t9 := Tryz.underlying9
  a9 := Tryz.isAgg9
  z9 := Tryz.sizeOf9
  v9 := Tryz.zeroValue9
  t22 := Tryz.underlying64
  a22 := Tryz.isAgg64
  z22 := Tryz.sizeOf64
  v22 := Tryz.zeroValue64
  t25 := Tryz.underlying145
  a25 := Tryz.isAgg145
  z25 := Tryz.sizeOf145
  v25 := Tryz.zeroValue145
  t39 := Tryz.underlying179
  a39 := Tryz.isAgg179
  z39 := Tryz.sizeOf179
  v39 := Tryz.zeroValue179
  t45 := Tryz.underlying214
  a45 := Tryz.isAgg214
  z45 := Tryz.sizeOf214
  v45 := Tryz.zeroValue214
  t46 := Tryz.underlying215
  a46 := Tryz.isAgg215
  z46 := Tryz.sizeOf215
  v46 := Tryz.zeroValue215
  t50 := Tryz.underlying219
  a50 := Tryz.isAgg219
  z50 := Tryz.sizeOf219
  v50 := Tryz.zeroValue219
  t53 := Tryz.underlying96
  a53 := Tryz.isAgg96
  z53 := Tryz.sizeOf96
  v53 := Tryz.zeroValue96
  t55 := Tryz.underlying223
  a55 := Tryz.isAgg223
  z55 := Tryz.sizeOf223
  v55 := Tryz.zeroValue223
  t66 := Tryz.underlying254
  a66 := Tryz.isAgg254
  z66 := Tryz.sizeOf254
  v66 := Tryz.zeroValue254
  t70 := Tryz.underlying258
  a70 := Tryz.isAgg258
  z70 := Tryz.sizeOf258
  v70 := Tryz.zeroValue258
  t76 := Tryz.underlying266
  a76 := Tryz.isAgg266
  z76 := Tryz.sizeOf266
  v76 := Tryz.zeroValue266
  t77 := Tryz.underlying42
  a77 := Tryz.isAgg42
  z77 := Tryz.sizeOf42
  v77 := Tryz.zeroValue42
end Go.Proofs.YtcnmbldikjljeaaGreatDoor
namespace Go.Proofs.YtcnmbldikjljeaaGreatDoor
open Go.Shelf Go.RowKit Go.Lib Go.Sort Go.MuLone

theorem cmpLaysE (blk off size : Nat) (w : World) : CmpLays Tryz.prog 53 #[] encP 2 turnI blk off size w := fun _ _ _ _ x y => inTurn_any x y _
theorem sorted_listE {d : Array (Int × Int)} {n : Nat} (hn : d.size = n) (h : SortedIn (ltOf turnI) 0 n d) : d.toList.Pairwise fun p q => ¬ TL q p := by
  rw [List.pairwise_iff_getElem]
  intro i j hi hj hij
  have hi' : i < d.size := by simpa using hi
  have hj' : j < d.size := by simpa using hj
  have h1 := h i j (Nat.zero_le _) hij (by omega)
  rw [getElem!_pos d i hi', getElem!_pos d j hj'] at h1
  intro ht
  have := (ltT d[j] d[i]).2 (by simpa using ht)
  rw [this] at h1
  simp at h1
set_option maxHeartbeats 1000000 in
theorem sortE_any {base : Nat} {v : Value} {l : List (Int × Int)} {w : World} (hown : w.ownsRow base 67 2 v l.length (flat l)) (hl : l.length ≤ 1000) :
    Calls Tryz.prog 52 #[v, .func (.func 53) #[] #[]] w fun e w' => e = .returned (.tuple #[]) ∧ ∃ l', l'.Perm l ∧ l'.Pairwise (fun p q => ¬ TL q p) ∧ w.grownBy w' v.ownBlock ∧ w'.ownsRow base 67 2 v l.length (flat l') := by
  rcases hown.2 with ⟨rfl, hz⟩ | ⟨g, cap, cur, rfl, hg, hb, h1, h2, h3, h4⟩
  · have hz2 : l = [] := List.length_eq_zero_iff.1 hz
    subst hz2
    have hS := AnyF.slices_SortFunc_none (P := Tryz.prog) (ρ := sortEntry_ren) sortEntry none 0 (.func (.func 53) #[] #[]) w
    refine Calls.mono (show Calls Tryz.prog 52 _ _ _ from hS) ?_
    rintro e w' ⟨rfl, rfl⟩
    exact ⟨rfl, [], .refl _, .nil, ⟨rfl, rfl, rfl, Nat.le_refl _, fun _ _ _ => rfl⟩, hown⟩
  · have eg : ∀ args w, (callFunc 53 args).run Tryz.prog w = .ok (.enter 53 args) w := enters_of Tryz.func53 (by kernel_rfl) rfl
    have hblk : g < w.heap.size := (Array.getElem?_eq_some_iff.1 hb).1
    have hS := AnyQ.slices_SortFunc sortEntry 2 Tryz.isAgg67 Tryz.sizeOf67 encP (fun _ => rfl) (fun x v hv => by simp [encP] at hv; rcases hv with rfl | rfl <;> rfl) turnI swoT 53 #[] g 0 cap l.toArray w eg (cmpLaysE g 0 l.toArray.size w) (holds_flat hb h4) hblk (by simp; omega)
    refine Calls.mono (show Calls Tryz.prog 52 #[.slice (some ⟨g, 0, none⟩) l.length cap, _] _ _ from hS) ?_
    rintro e w' ⟨rfl, d, n, os, hp, hs, rfl⟩
    have hsz : d.size = l.length := by rw [hp.1]; simp
    refine ⟨rfl, d.toList, perm_list hp, sorted_listE (by rw [hp.1]) hs, ?_, ?_⟩
    · exact grownBy_sortK d
    · have := ownsRow_sortK (os := os) (n := n) (ts := d.toList) (ss := l) (by simp [hsz]) hg hb h1 h2 h3
      simpa using this
theorem entsL_len (l : List Cs) : (entsL l).length ≤ l.length := by
  unfold entsL
  rw [List.length_map]
  exact List.length_filter_le _ _
/-- where Agenda's loop stands -/
structure AP (w1 wr : World) (ov : Value) (es : List (Int × Int)) : Prop where
  below : Below w1.heap.size w1 wr
  own : wr.ownsRow w1.heap.size 67 2 ov es.length (flat es)
section
variable {w : World} {p : Nat} {K : Kf} {F : Nat → Bool} {st : List Stg} {lv : Value} {d : Dk} {N : Int}
set_option maxRecDepth 100000 in
set_option maxHeartbeats 8000000 in
theorem agenda_any (R : PD w p K F st 0 lv d) (hlen : d.cases.length ≤ 20) (hids : (d.cases.map Cs.id).Pairwise (· < ·)) :
    Calls Tryz.prog 25 #[P0 p] w fun e w' => ∃ ov, e = .returned ov ∧ w'.ownsRow w.heap.size 67 2 ov (agendaL d.cases []).length (flat (agendaL d.cases [])) ∧ PD w' p K F st 0 lv d ∧ Frm p lv lv w w' := by
  have c0 := R.pr.c0
  have f0 := R.pr.frz 0
  obtain ⟨R1, F1⟩ := R.lock 1
  have c82 := R1.pr.c82
  obtain ⟨la, lcap, hlv⟩ := row_any R1.own
  subst hlv
  have hsz : (w.setCell ⟨p, 0, none⟩ (.int .i32 1)).heap.size = w.heap.size := by simp
  have AP0 : AP (w.setCell ⟨p, 0, none⟩ (.int .i32 1)) (w.setCell ⟨p, 0, none⟩ (.int .i32 1)) (.slice none 0 0) (entsL (d.cases.take 0)) := ⟨Below.refl _ _, World.ownsRow_nil _ _ _ _⟩
  have H1 := hide (And.intro R1 F1)
  have HID := hide hids
  obtain ⟨i0, hi0, hz0, hz1, hz2⟩ := info_parts entryInfo
  have HII := hide hi0
  have HAP := hide AP0
  clear R R1 F1 hi0 hids AP0
  generalize hl : d.cases.length = n at *
  have HL := hide hl
  clear hl
  go_enter_defers Tryz.func25, Tryz.ntmps25
  go_wp2_with (go_at_call 36; refine (lock_free muLib ⟨p, 0, none⟩ _ c0 f0).mono ?_; rintro e w' ⟨rfl, rfl⟩)
  generalize w.setCell ⟨p, 0, none⟩ (.int .i32 1) = w1 at *
  clear c0 f0
  go_loopw [3, 18] (fun ov iv wr => ∃ i : Nat, iv = .int .i64 i ∧ i ≤ n ∧ AP w1 wr ov (entsL (d.cases.take i))) (fun _ iv _ => n - (intOf iv).toNat)
  case atStart => exact ⟨0, rfl, Nat.zero_le _, HAP.out⟩
  case round =>
    clear HAP
    obtain ⟨i, rfl, hi, A⟩ := hrel
    have hws := A.below.size
    by_cases hlt : i < n
    · have hlt' : (i : Int) < n := by omega
      have hilt : i < d.cases.length := by rw [HL.out]; exact hlt
      obtain ⟨q, cap, hla⟩ := row_some H1.out.1.own (by omega)
      rw [HL.out] at hla
      simp only [Value.slice.injEq, true_and] at hla
      obtain ⟨rfl, rfl⟩ := hla
      have hA : RA wr q (i * 7) (rcCells (csAt d.cases i)) := PD.ra (d := d) (cap := lcap) (by rw [HL.out]; exact H1.out.1.on A.below) i hilt
      have e0 : wr.cell? ⟨q, i * 7, none⟩ = _ := hA.cell 0 _ rfl
      have e1 := hA.cell 1 _ rfl
      have e2 := hA.cell 2 _ rfl
      have e3 := hA.cell 3 _ rfl
      have e4 := hA.cell 4 _ rfl
      have e5 := hA.cell 5 _ rfl
      have e6 := hA.cell 6 _ rfl
      have HST := hide (entsL_take d.cases i hilt)
      have hel := entsL_len (d.cases.take i)
      have hel2 : (entsL (d.cases.take i)).length ≤ 20 := by simp at hel; omega
      have HA := hide A
      clear hA A hel
      generalize csAt d.cases i = x at *
      by_cases hd : 0 ≤ x.due
      · have hc : crs x = 1 := by unfold crs; rw [if_pos hd]
        have hdc : dueC x = x.due := by unfold dueC; rw [if_pos hd]
        have hbx : (rcCells x).toArray = #[.int .i64 x.id, .int .i64 x.stage, .int .i64 1, .int .i64 x.level, .int .i64 x.due, .int .i64 x.rest, .bool x.held] := by unfold rcCells; rw [hc, hdc]
        have hA2 : RA (wr.alloc (Obj.cells (rcCells x).toArray 119)) wr.heap.size 0 (rcCells x) := ⟨_, heap_alloc_new _ _, fun j v hv => by rw [Nat.zero_add]; simpa using hv⟩
        rw [hbx] at hA2
        have HEN := hide (entry_any hA2)
        rw [hdc] at HEN e4
        rw [hc] at e2
        rw [if_pos hd] at HST
        clear hbx hA2 hc hdc hd
        go_wp2_with fail
        refine HEN.out.mono ?_
        rintro e u ⟨rfl, hb⟩
        have hbw : Below wr.heap.size wr u := ((Below.refl _ _).alloc (Nat.le_refl _) _).trans (hb.mono (by simp))
        have HO := hide (row_on HA.out.own hbw)
        have HB := hide (HA.out.below.trans (hbw.mono hws))
        have hus : w1.heap.size ≤ u.heap.size := HB.out.size
        clear hb hbw HEN HA e0 e1 e2 e3 e4 e5 e6
        go_upto_region 9 with (first | (at_builtin; go_must (refine wpList_append_lies _ rfl _ _ 64 rfl w1.heap.size 67 i0 _ 2 16 Tryz.underlying64 HII.out hz0 hz1 hz2 rfl (by decide) u3 (entsL (d.cases.take i)).length (flat (entsL (d.cases.take i))) (by rfl) (HO.out.alloc _) ⟨u.heap.size, 0, none⟩ 1 1 [.int .i64 x.id, .int .i64 x.due] (by rfl) (by rfl) (World.news_of_block (cs := #[.int .i64 x.id, .int .i64 x.due]) (t := 67) (fr := (0, 0)) (heap_alloc_new u _)) (by simp [Value.oneCell']) (by omega) (by unfold maxLen; omega) (by omega) (by simp; omega) (u.heap.size + 1) (by simp) ?_); intro gg gcap w12 hown12 hgrow12 hat12 hlt12) | fail)
        have HA2 : Hid (AP w1 w12 (.slice (some ⟨gg, 0, none⟩) ((entsL (d.cases.take i)).length + 1) gcap) (entsL (d.cases.take (i + 1)))) := by
          refine ⟨(HB.out.alloc hus _).grown hgrow12 (by simp; omega) (fun k hk => (HO.out.lt k hk).1), ?_⟩
          rw [HST.out, List.length_append, flat_append]
          exact hown12
        clear hown12 hgrow12 hat12 HO HB
        go_wp2_with fail
        go_roundw
        case rel => exact ⟨i + 1, by go_num, by omega, HA2.out⟩
        case measure => simp [intOf]; omega
      · have hcb : (crs x == 1) = false := by unfold crs; rw [if_neg hd]; split <;> rfl
        rw [if_neg hd] at HST
        have HA2 : Hid (∀ o, AP w1 (wr.alloc o) u3 (entsL (d.cases.take (i + 1)))) := fun o => by
          rw [HST.out]
          exact ⟨HA.out.below.alloc hws _, HA.out.own.alloc _⟩
        clear HA HST hd
        generalize crs x = cc at *
        go_wp2_with fail
        go_roundw
        case rel => exact ⟨i + 1, by go_num, by omega, HA2.out _⟩
        case measure => simp [intOf]; omega
    · have hin : i = n := by omega
      subst hin
      have htk : d.cases.take i = d.cases := List.take_of_length_le (by rw [HL.out]; exact Nat.le_refl _)
      rw [htk] at A
      have hel := entsL_len d.cases
      have HA := hide A
      clear A htk
      go_wp2_with fail
      refine (sortE_any HA.out.own (by rw [HL.out] at hel; omega)).mono ?_
      rintro e u ⟨rfl, ts, hperm, hsorted, hg, hown⟩
      have hts := agenda_is HID.out hperm.symm hsorted
      have hlen2 : (entsL d.cases).length = ts.length := hperm.length_eq.symm
      rw [hlen2, hts] at hown
      have HP := hide ((H1.out.1.on HA.out.below).grown HA.out.own (by decide) hg)
      have HFR := hide ((H1.out.2.trans (Frm.of_below HA.out.below)).grown (by rw [← hsz]; exact HA.out.own) hg)
      rw [hsz] at hown
      have HO := hide hown
      clear hg hown hperm hsorted hts hlen2 HA H1
      go_wp2_with fail
      refine leaves_cons (f := 37) (args := #[.pointer (some ⟨p, 0, none⟩)]) (by simp) (by simp [go_sem]) ?_
      refine (unlock_deferred muLib ⟨p, 0, none⟩ .returning _ HP.out.pr.c0 (HP.out.pr.frz 0)).mono ?_
      rintro e u' w'' ⟨rfl, rfl, rfl⟩
      have hfr := HP.out.free HFR.out
      exact ⟨_, results_tmp rfl _ _ _, u3, rfl, row_leftP (w := u) HO.out (b := p) ⟨rfl, rfl, rfl, by simp, fun k _ hne => Below.heap_setCell _ _ _ k (fun e => hne (by rw [e]))⟩ HP.out.pr.blk (by decide), hfr⟩
end
end Go.Proofs.YtcnmbldikjljeaaGreatDoor
namespace Go.Proofs.YtcnmbldikjljeaaGreatDoor
open Go.RowKit

theorem stageInfoP : (Tryz.prog.info? 131).map (fun i => (i.zero, i.size, i.bytes)) = some (some (.agg #[.slice none 0 0, .bool false, .bool false, .bool false, .bool false, .bool false, .bool false]), 7, 32) := by kernel_rfl
set_option maxRecDepth 100000 in
set_option maxHeartbeats 1000000 in
theorem clone_any {w : World} {v : Value} {l : List (Int × Int)} (L : LR w 2 v l.length (flat l)) (hm : l.length ≤ 4) :
    Calls Tryz.prog 108 #[v] w fun e w' => ∃ r, e = .returned r ∧ w'.ownsRow w.heap.size 127 2 r l.length (flat l) ∧ Below w.heap.size w w' := by
  obtain ⟨a, cap, rfl, hnone, hcell⟩ := L.form
  have hlen := L.len
  cases a with
  | none =>
    obtain ⟨h0, rfl⟩ := hnone rfl
    have hl0 : l = [] := List.length_eq_zero_iff.1 h0
    subst hl0
    have hnil : ∀ W, (binOp .eql 123 (.slice none 0 0) (.slice none 0 0)).run Tryz.prog W = .ok (.bool true) W := fun W => Lib.run_eql_slice_nil_nil W _ _ Tryz.underlying123
    clear L hcell hnone hlen
    go_enter Tryz.func108, Tryz.ntmps108
    go_wp2_with fail
    go_ret
    exact ⟨_, rfl, World.ownsRow_nil _ _ _ _, Below.refl _ _⟩
  | some a =>
    have hnil : ∀ W, (binOp .eql 123 (.slice (some a) l.length cap) (.slice none 0 0)).run Tryz.prog W = .ok (.bool false) W := fun W => Lib.run_eql_slice_some_nil W _ _ _ Tryz.underlying123
    have hb0 : Below w.heap.size w (w.alloc (Obj.cells #[] 127)) := (Below.refl _ _).alloc (Nat.le_refl _) _
    have o0 : (w.alloc (Obj.cells #[] 127)).ownsRow w.heap.size 127 2 (.slice (some ⟨w.heap.size, 0, none⟩) 0 0) 0 [] := ⟨rfl, .inr ⟨_, 0, #[], rfl, Nat.le_refl _, heap_alloc_new _ _, Nat.le_refl _, by decide, rfl, rfl⟩⟩
    have HC : Hid (∀ j u, (flat l)[j]? = some u → ∃ b off, some a = some ⟨b, off, none⟩ ∧ (w.alloc (Obj.cells #[] 127)).cell? ⟨b, off + j, none⟩ = some u) := fun j u hj => by
      obtain ⟨b, off, e1, e2⟩ := hcell j u hj
      exact ⟨b, off, e1, (hb0.cell (World.block_lt_of_cell? _ _ e2)).trans e2⟩
    have HL := hide hlen
    have HB := hide hb0
    have HO := hide o0
    obtain ⟨i0, hi0, hz0, hz1, hz2⟩ := info_parts levelInfo
    have HII := hide hi0
    have hsw : w.heap.size ≤ (w.alloc (Obj.cells #[] 127)).heap.size := by simp
    clear L hcell hlen hb0 o0 hi0 hnone
    go_enter Tryz.func108, Tryz.ntmps108
    go_wp2_with (first | (at_builtin; go_must (refine wpList_append_opt rfl _ _ 123 rfl w.heap.size 127 i0 _ 2 16 Tryz.underlying123 HII.out hz0 hz1 hz2 rfl (by decide) (.slice (some ⟨w.heap.size, 0, none⟩) 0 0) 0 [] (by rfl) HO.out (some a) l.length cap (flat l) (by rfl) (fun e => by cases e) HL.out HC.out (flat_one _) (by unfold maxLen; omega) (by omega) hsw ?_); intro v1 w1 hown1 hgrow1) | fail)
    go_ret
    rw [Nat.zero_add, List.nil_append] at hown1
    exact ⟨_, rfl, hown1, HB.out.grown hgrow1 hsw (fun k hk => by simp [Value.ownBlock] at hk; omega)⟩
end Go.Proofs.YtcnmbldikjljeaaGreatDoor
namespace Go.Proofs.YtcnmbldikjljeaaGreatDoor
open Go.RowKit

def zS (c : Nat) : Value := if c = 0 then .slice none 0 0 else .bool false
/-- a stage's cell -/
def cS (ls : Nat → Value) (st : List Stg) (j c : Nat) : Value := if c = 0 then ls j else .bool (hasI (stAt st j).next ((c - 1 : Nat) : Int))
/-- i stages are copied; of the next one its levels, and m of its nexts -/
def fS (ls : Nat → Value) (st : List Stg) (i : Nat) (x : Nat) : Value := if x / 7 < i then cS ls st (x / 7) (x % 7) else zS (x % 7)
def fT (ls : Nat → Value) (st : List Stg) (i m : Nat) (x : Nat) : Value := if x / 7 < i then cS ls st (x / 7) (x % 7) else if x / 7 = i then (if x % 7 = 0 then ls i else .bool (hasI ((stAt st i).next.take m) ((x % 7 - 1 : Nat) : Int))) else zS (x % 7)
theorem fT_zero (ls : Nat → Value) (st : List Stg) (i : Nat) (v : Value) (x : Nat) : (if x = i * 7 then v else fS ls st i x) = fT (fun j => if j = i then v else ls j) st i 0 x := by
  unfold fT fS
  by_cases h1 : x / 7 < i
  · rw [if_neg (show ¬ x = i * 7 by omega), if_pos h1, if_pos h1]
    unfold cS
    dsimp only
    rw [if_neg (show ¬ x / 7 = i by omega)]
  · rw [if_neg h1, if_neg h1]
    by_cases h2 : x / 7 = i
    · rw [if_pos h2]
      dsimp only
      rw [if_pos (rfl : i = i)]
      by_cases h3 : x % 7 = 0
      · rw [if_pos (show x = i * 7 by omega), if_pos h3]
      · rw [if_neg (show ¬ x = i * 7 by omega), if_neg h3]
        unfold zS
        rw [if_neg h3]
        rfl
    · rw [if_neg (show ¬ x = i * 7 by omega), if_neg h2]
theorem fT_succ (ls : Nat → Value) (st : List Stg) (i m k : Nat) (hm : m < (stAt st i).next.length) (hk : (stAt st i).next[m] = (k : Int)) (h6 : k < 6) (x : Nat) : (if x = i * 7 + 1 + k then .bool true else fT ls st i m x) = fT ls st i (m + 1) x := by
  unfold fT
  by_cases h1 : x / 7 < i
  · rw [if_neg (by omega), if_pos h1, if_pos h1]
  · rw [if_neg h1, if_neg h1]
    by_cases h2 : x / 7 = i
    · rw [if_pos h2, if_pos h2]
      by_cases h3 : x % 7 = 0
      · rw [if_neg (by omega), if_pos h3, if_pos h3]
      · rw [if_neg h3, if_neg h3, List.take_succ_eq_append_getElem hm, hasI_snoc, hk]
        by_cases h4 : x = i * 7 + 1 + k
        · rw [if_pos h4, show x % 7 - 1 = k by omega]; simp
        · rw [if_neg h4, show ((k : Int) == ((x % 7 - 1 : Nat) : Int)) = false by simp; omega, Bool.or_false]
    · rw [if_neg (by omega), if_neg h2, if_neg h2]
theorem fT_done (ls : Nat → Value) (st : List Stg) (i m : Nat) (hm : (stAt st i).next.length ≤ m) (x : Nat) : fT ls st i m x = fS ls st (i + 1) x := by
  unfold fT fS
  by_cases h1 : x / 7 < i
  · rw [if_pos h1, if_pos (show x / 7 < i + 1 by omega)]
  · rw [if_neg h1]
    by_cases h2 : x / 7 = i
    · rw [if_pos h2, if_pos (show x / 7 < i + 1 by omega), h2, List.take_of_length_le hm]
      rfl
    · rw [if_neg h2, if_neg (show ¬ x / 7 < i + 1 by omega)]
theorem fS_cells (ls : Nat → Value) (st : List Stg) (j : Nat) (v : Value) (h : (sgCells ls st)[j]? = some v) : fS ls st st.length j = v := by
  have hl : j < st.length * 7 := by
    have := (List.getElem?_eq_some_iff.1 h).1
    unfold sgCells at this
    rwa [sgCells_len] at this
  have hj : j = j / 7 * 7 + j % 7 := by omega
  have hi : j / 7 < st.length := by omega
  unfold fS cS
  rw [if_pos hi]
  by_cases h0 : j % 7 = 0
  · rw [if_pos h0]
    have := sgCells_lev ls st (j / 7) hi
    rw [show j / 7 * 7 = j by omega, h] at this
    exact (Option.some.inj this).symm
  · rw [if_neg h0]
    have := sgCells_bit ls st (j / 7) hi (j % 7 - 1) (by omega)
    rw [show j / 7 * 7 + 1 + (j % 7 - 1) = j by omega, h] at this
    exact (Option.some.inj this).symm
/-- copyStages' loop -/
structure CY (w : World) (g : Nat) (st : List Stg) (wr : World) (ls : Nat → Value) (i : Nat) (f : Nat → Value) : Prop where
  below : Below w.heap.size w wr
  lo : w.heap.size ≤ g
  blk : BK wr g 131 (st.length * 7) f
  lev : ∀ j, j < i → wr.ownsRow w.heap.size 127 2 (ls j) (stAt st j).levels.length (flat (stAt st j).levels)
section
variable {w wr u : World} {g i : Nat} {st : List Stg} {ls : Nat → Value} {f f' : Nat → Value}
theorem CY.on (h : CY w g st wr ls i f) (hb : Below wr.heap.size wr u) : CY w g st u ls i f :=
  ⟨h.below.trans (hb.mono h.below.size), h.lo, h.blk.on hb, fun j hj => row_on (h.lev j hj) hb⟩
theorem CY.set (h : CY w g st wr ls i f) (j : Nat) (v : Value) (hf : ∀ x, (if x = j then v else f x) = f' x) : CY w g st (wr.setCell ⟨g, j, none⟩ v) ls i f' := by
  refine ⟨h.below.setCell h.lo _, h.lo, (h.blk.set j v).congr (fun x _ => hf x), fun k hk => ?_⟩
  obtain ⟨cur, h1, _⟩ := h.blk
  exact row_left (h.lev k hk) (b := g) ⟨rfl, rfl, rfl, by simp, fun q _ hne => Below.heap_setCell _ _ _ q (fun e => hne (by rw [e]))⟩ h1 (by decide)
theorem CY.more {v : Value} (h : CY w g st wr ls i f) (hb : Below wr.heap.size wr u) (hr : u.ownsRow wr.heap.size 127 2 v (stAt st i).levels.length (flat (stAt st i).levels)) : CY w g st u (fun j => if j = i then v else ls j) (i + 1) f := by
  have h1 := h.on hb
  refine ⟨h1.below, h1.lo, h1.blk, fun j hj => ?_⟩
  by_cases e : j = i
  · subst e
    rw [if_pos rfl]
    exact row_mono hr h.below.size
  · rw [if_neg e]
    exact h1.lev j (by omega)
end
set_option maxRecDepth 100000 in
set_option maxHeartbeats 8000000 in
theorem copyStages_any {w : World} {sv : Value} {st : List Stg} {vs : Nat → Value × Value} (S : SL w sv st vs) (hck : checkL st = true) :
    Calls Tryz.prog 67 #[sv] w fun e w' => ∃ g ls, e = .returned (.slice (some ⟨g, 0, none⟩) st.length st.length) ∧ CY w g st w' ls st.length (fS ls st st.length) := by
  have hck2 := hck
  simp only [checkL, Bool.and_eq_true, decide_eq_true_eq, List.all_eq_true] at hck2
  obtain ⟨⟨hc1, hc6⟩, hc3⟩ := hck2
  have HG : Hid (∀ i : Nat, i < st.length → (stAt st i).levels.length ≤ 4 ∧ ∀ y ∈ (stAt st i).next, 0 ≤ y ∧ y < st.length) := fun i hi => by
    have := hc3 (stAt st i) (by simp [stAt, hi])
    simp only [stgOk, Bool.and_eq_true, decide_eq_true_eq, List.all_eq_true] at this
    exact ⟨this.1.1, this.2⟩
  clear hck hc3
  obtain ⟨i0, hi0, hz0, hz1, hz2⟩ := info_parts stageInfoP
  have hmk : ∀ u : World, (Instr.makeSlice 106 (.int .i64 st.length) (.int .i64 st.length)).run Tryz.prog u = .ok (.slice (some ⟨u.heap.size, 0, none⟩) st.length st.length) (u.alloc (.cells (madeCells #[.slice none 0 0, .bool false, .bool false, .bool false, .bool false, .bool false, .bool false] (st.length * 7)) 131)) := fun u => by
    have hr := run_make (P := Tryz.prog) u 106 131 i0 _ Tryz.underlying106 hi0 hz0 .i64 .i64 (st.length : Int) (st.length : Int) (by omega) (Int.le_refl _) (by rw [hz2]; omega) (by omega)
    rw [hr, hz1, Int.toNat_natCast]
    rfl
  have C0 : CY w w.heap.size st (w.alloc (.cells (madeCells #[.slice none 0 0, .bool false, .bool false, .bool false, .bool false, .bool false, .bool false] (st.length * 7)) 131)) (fun _ => .slice none 0 0) 0 (fS (fun _ => .slice none 0 0) st 0) := by
    refine ⟨(Below.refl _ _).alloc (Nat.le_refl _) _, Nat.le_refl _, ⟨_, heap_alloc_new _ _, by simp [madeCells], fun j hj => ?_⟩, fun j hj => by omega⟩
    unfold fS zS
    rw [if_neg (by omega)]
    have h7 : j % 7 < 7 := Nat.mod_lt _ (by omega)
    simp [madeCells, hj]
    rcases (show j % 7 = 0 ∨ j % 7 = 1 ∨ j % 7 = 2 ∨ j % 7 = 3 ∨ j % 7 = 4 ∨ j % 7 = 5 ∨ j % 7 = 6 by omega) with e | e | e | e | e | e | e <;> rw [e] <;> rfl
  obtain ⟨q, qo, cap, hq⟩ := S.row.some (by omega) (by omega)
  subst hq
  have HS := hide S
  have HC0 := hide C0
  have hc6' : (st.length : Int) ≤ 6 := by omega
  clear S C0 hi0 hz0 hz1 hz2
  go_enter Tryz.func67, Tryz.ntmps67
  go_wp2_with fail
  generalize w.alloc (.cells (madeCells #[.slice none 0 0, .bool false, .bool false, .bool false, .bool false, .bool false, .bool false] (st.length * 7)) 131) = W0 at *
  obtain ⟨g, hg⟩ : ∃ g, g = w.heap.size := ⟨_, rfl⟩
  rw [← hg]
  rw [show CY w w.heap.size st = CY w g st by rw [hg]] at HC0
  clear hmk hg
  go_loopw [13] (fun iv wr => ∃ (i : Nat) (ls : Nat → Value), iv = .int .i64 i ∧ i ≤ st.length ∧ CY w g st wr ls i (fS ls st i)) (fun iv _ => st.length - (intOf iv).toNat)
  case atStart => exact ⟨0, _, rfl, Nat.zero_le _, HC0.out⟩
  case round =>
    clear HC0
    obtain ⟨i, ls, rfl, hi, C⟩ := hrel
    have hsz := C.below.size
    by_cases hlt : i < st.length
    · have hlt' : (i : Int) < st.length := by omega
      have S' := HS.out.on C.below
      have l0 := S'.row.cell (i * 2) _ (stCells_at vs st.length i hlt).1
      have l1 := S'.row.cell (i * 2 + 1) _ (stCells_at vs st.length i hlt).2
      rw [← Nat.add_assoc] at l1
      obtain ⟨la, lcap, hla⟩ := (S'.lev i hlt).any
      obtain ⟨na, ncap, hna⟩ := (S'.nxt i hlt).any
      have hgd := HG.out i hlt
      have HCL := hide (fun (z : World) (hb : Below wr.heap.size wr z) => clone_any ((S'.lev i hlt).on hb) hgd.1)
      have hnm : (stAt st i).next.length ≤ 9223372036854775807 := by have := (S'.nxt i hlt).max; simp only [maxLen] at this; omega
      rw [hla] at l0 HCL
      rw [hna] at l1
      have HC := hide C
      have HNA := hide hna
      have HGD := hide hgd.2
      have hgl := C.blk.lt
      clear S' C hla hna hgd
      have hnx' : (wr.alloc (Obj.cells #[.slice la (stAt st i).levels.length lcap, .slice na (stAt st i).next.length ncap] 125)).cell? ⟨wr.heap.size, 1, none⟩ = some (.slice na (stAt st i).next.length ncap) := by rw [World.cell?_alloc_at _ _ _ _ rfl]; rfl
      have HX := hide hnx'
      clear hnx'
      go_wp2_with fail
      refine (HCL.out _ ((Below.refl _ _).alloc (Nat.le_refl _) _)).mono ?_
      rintro e u1 ⟨r, rfl, hrow, hb⟩
      have hbu : Below wr.heap.size wr u1 := ((Below.refl _ _).alloc (Nat.le_refl _) _).trans (hb.mono (by simp))
      obtain ⟨ra, rc, hr⟩ := row_any hrow
      subst hr
      have C1 := HC.out.more hbu (row_mono hrow (by simp))
      have hgi : i * 7 < st.length * 7 := by omega
      have cg := C1.blk.cell (i * 7) hgi
      have fg := C1.blk.frz (i * 7)
      have HC2 := hide (C1.set (i * 7) (.slice ra (stAt st i).levels.length rc) (fun x => fT_zero ls st i _ x))
      have y1 : u1.cell? ⟨wr.heap.size, 1, none⟩ = some (.slice na (stAt st i).next.length ncap) := (hb.cell (p := ⟨wr.heap.size, 1, none⟩) (by simp)).trans HX.out
      have ngw : g ≠ wr.heap.size := by omega
      have ngw' : wr.heap.size ≠ g := by omega
      clear hrow hb hbu C1 HC HCL HX l0 l1
      generalize (fun j => if j = i then Value.slice ra (stAt st i).levels.length rc else ls j) = ls' at *
      generalize (stAt st i).levels.length = nl at *
      generalize fS ls st i (i * 7) = vz at *
      go_wp2_with fail
      generalize u1.setCell ⟨g, i * 7, none⟩ (.slice ra nl rc) = W1 at *
      clear cg fg y1
      generalize wr.heap.size = bB at *
      go_loopw [28] (fun kv wz => ∃ m : Nat, kv = .int .i64 m ∧ m ≤ (stAt st i).next.length ∧ CY w g st wz ls' (i + 1) (fT ls' st i m)) (fun kv _ => (stAt st i).next.length - (intOf kv).toNat)
      case atStart => exact ⟨0, rfl, Nat.zero_le _, HC2.out⟩
      case round =>
        clear HC2
        obtain ⟨m, rfl, hm, C⟩ := hrel
        by_cases hml : m < (stAt st i).next.length
        · have hml' : (m : Int) < (stAt st i).next.length := by omega
          have hx := HGD.out _ (List.getElem_mem hml)
          obtain ⟨k, hk⟩ : ∃ k : Nat, (stAt st i).next[m] = k := ⟨((stAt st i).next[m]).toNat, by omega⟩
          rw [hk] at hx
          have hk6 : k < 6 := by omega
          have hk6' : (k : Int) < 6 := by omega
          have hrow := (HS.out.on C.below).nxt i hlt
          rw [HNA.out] at hrow
          obtain ⟨nq, no, nc, hnq⟩ := hrow.some (by omega) (by omega)
          simp only [Value.slice.injEq] at hnq
          obtain ⟨rfl, _, rfl⟩ := hnq
          have e0 := hrow.cell (m * 1) _ (intCells_at _ m hml)
          rw [Nat.mul_one, hk] at e0
          have hgi : i * 7 + 1 + k < st.length * 7 := by omega
          have cg := C.blk.cell (i * 7 + 1 + k) hgi
          have fg := C.blk.frz (i * 7 + 1 + k)
          have HC3 := hide (C.set (i * 7 + 1 + k) (.bool true) (fun x => fT_succ ls' st i m k hml hk hk6 x))
          generalize fT ls' st i m (i * 7 + 1 + k) = vz2 at *
          clear hrow C hk hx
          go_wp2_with fail
          go_roundw
          case rel => exact ⟨m + 1, by go_num, by omega, HC3.out⟩
          case measure => simp [intOf]; omega
        · have hml' : ¬ (m : Int) < (stAt st i).next.length := by omega
          have HC4 : Hid (CY w g st wr ls' (i + 1) (fS ls' st (i + 1))) := ⟨C.below, C.lo, C.blk.congr (fun x _ => fT_done ls' st i m (by omega) x), C.lev⟩
          clear C
          go_wp2_with fail
          go_roundw
          case rel => exact ⟨i + 1, ls', by go_num, by omega, HC4.out⟩
          case measure => simp [intOf]; omega
    · clear HG
      obtain rfl : i = st.length := by omega
      have HC := hide C
      clear C
      go_wp2_with fail
      go_ret
      exact ⟨g, ls, rfl, HC.out⟩
end Go.Proofs.YtcnmbldikjljeaaGreatDoor
namespace Go.Proofs.YtcnmbldikjljeaaGreatDoor
open Go.RowKit

theorem fold_set (cs : List Value) : ∀ (off k : Nat) (cells : List Value), off + k + cs.length ≤ cells.length → (cs.zipIdx k).foldl (fun a (x : Value × Nat) => a.set (off + x.2) x.1) cells = cells.take (off + k) ++ cs ++ cells.drop (off + k + cs.length) := by
  induction cs with
  | nil => intro off k cells h; simp
  | cons c cs ih =>
    intro off k cells h
    simp only [List.length_cons] at h
    rw [List.zipIdx_cons, List.foldl_cons, ih off (k + 1) _ (by simp; omega)]
    have e1 : (cells.set (off + k) c).take (off + (k + 1)) = cells.take (off + k) ++ [c] := by
      rw [← Nat.add_assoc, List.take_succ_eq_append_getElem (by simp; omega), List.getElem_set_self, List.take_set_of_le (Nat.le_refl _)]
    have e2 : (cells.set (off + k) c).drop (off + (k + 1) + cs.length) = cells.drop (off + k + (cs.length + 1)) := by
      rw [List.drop_set, if_pos (by omega)]
      congr 1
      omega
    simp only [List.length_cons]
    rw [e1, e2]
    simp
theorem fill_arr (cs : List Value) (off : Nat) (cells : List Value) (h : off + cs.length ≤ cells.length) : (cs.toArray.zipIdx.foldl (fun a (x : Value × Nat) => a.setIfInBounds (off + x.2) x.1) cells.toArray) = (cells.take off ++ cs ++ cells.drop (off + cs.length)).toArray := by
  have hf := fold_set cs off 0 cells (by simpa using h)
  simp only [Nat.add_zero] at hf
  rw [← hf]
  have key : ∀ (l : List (Value × Nat)) (c : List Value), l.foldl (fun (a : Array Value) (x : Value × Nat) => a.setIfInBounds (off + x.2) x.1) c.toArray = (l.foldl (fun a (x : Value × Nat) => a.set (off + x.2) x.1) c).toArray := by
    intro l
    induction l with
    | nil => intro c; rfl
    | cons x l ih => intro c; rw [List.foldl_cons, List.foldl_cons, List.setIfInBounds_toArray, ih]
  rw [← key]
  simp
theorem run_buildD (cs : List Value) (hl : cs.length = 77) (a : Option Addr) (n c : Nat) (w : World) : (Instr.build 113 #[(1, .agg cs.toArray), (2, .slice a n c)]).run Tryz.prog w = .ok (.agg (.int .i32 0 :: ((.int .u32 0 :: cs) ++ [.slice a n c, .int .i64 0, .int .i64 0, .slice none 0 0, .int .i64 0])).toArray) w := by
  simp [Instr.build, Tryz.zeroValue113, go_sem]
  have hz : Tryz.zeroCells113 = Tryz.zeroCells113.toList.toArray := by simp
  have hf := fill_arr cs 2 Tryz.zeroCells113.toList (by rw [hl]; decide)
  rw [← hz] at hf
  simp at hf
  have e1 : List.take 2 Tryz.zeroCells113.toList = [.int .i32 0, .int .u32 0] := by kernel_rfl
  have e2 : List.drop (2 + 77) Tryz.zeroCells113.toList = [.slice none 0 0, .int .i64 0, .int .i64 0, .slice none 0 0, .int .i64 0] := by kernel_rfl
  rw [hf, hl, e1, e2]
  have hset : ((([.int .i32 0, .int .u32 0] : List Value) ++ (cs ++ [Value.slice none 0 0, Value.int .i64 0, Value.int .i64 0, Value.slice none 0 0, Value.int .i64 0])).toArray.setIfInBounds 79 (Value.slice a n c)) = (Value.int .i32 0 :: Value.int .u32 0 :: (cs ++ [Value.slice a n c, Value.int .i64 0, Value.int .i64 0, Value.slice none 0 0, Value.int .i64 0])).toArray := by
    rw [List.setIfInBounds_toArray]
    congr 1
    rw [List.cons_append, List.cons_append, List.nil_append, List.set_cons_succ, List.set_cons_succ, List.set_append_right _ _ (by omega), hl]
    rfl
  rw [hset, if_neg (by omega), if_neg (by simp; omega)]
  simp
end Go.Proofs.YtcnmbldikjljeaaGreatDoor
