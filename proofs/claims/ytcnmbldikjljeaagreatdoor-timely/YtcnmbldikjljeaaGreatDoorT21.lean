import Derived.Test.YtcnmbldikjljeaaGreatDoorT20
import Derived.Deep.Cut
import Derived.Shelf.SlLaysF0
import Derived.Test.YtcnmbldikjljeaaGreatDoorRows
import Derived.Test.YtcnmbldikjljeaaGreatDoorT09
import Derived.Lib.BufferMore
import Derived.Deep.OwnRows
import Derived.Test.YtcnmbldikjljeaaGreatDoorT16
namespace Go.Proofs.YtcnmbldikjljeaaGreatDoor
open Go.Shelf Go.RowKit Go.Lib Go.Sort Go.MuLone

section
variable {w wr u : World} {p : Nat} {K : Kf} {F : Nat → Bool} {st : List Stg} {lv : Value} {d : Dk} {N : Int} {lk : Int}
theorem TP.row10 {w10 : World} {q i : Nat} {T k : Int} {ov : Value} {l : List Cs} {es : List Ev} {us : List Value} (h : TP w p K F st lv d T wr ov l es)
    (hP : PutR (wr.setCell ⟨p, 83, none⟩ (.int .i64 k)) w10 q i us) : w10.ownsRow w.heap.size 63 6 ov es.length (evsCells es) := by
  have hG : wr.grownBy (wr.setCell ⟨p, 83, none⟩ (.int .i64 k)) (some p) := ⟨rfl, rfl, rfl, by simp, fun k _ hne => Below.heap_setCell _ _ _ k (fun e => hne (by rw [e]))⟩
  have o1 := row_leftP h.own hG h.pd.pr.blk (by decide)
  obtain ⟨cur, cur', p1, _⟩ := hP.blk
  exact row_leftP o1 hP.grown p1 (by decide)
set_option maxRecDepth 100000 in
set_option maxHeartbeats 16000000 in
theorem tickN_any (R : PD w p K F st 0 lv d) (ok : DkOk F st d 4611686018427387000) (hr : DkR st d) (iv : InvD F d) (hs : StOk st) (n : Int) :
    Calls Tryz.prog 15 #[P0 p, .int .i64 n] w fun e w' => ∃ ov, e = .returned (.tuple #[ov, .int .i64 (tickC F st d n).2.2]) ∧ w'.ownsRow w.heap.size 63 6 ov (tickC F st d n).2.1.length (evsCells (tickC F st d n).2.1) ∧ ((tickC F st d n).2.2 ≠ 0 → ov = .slice none 0 0) ∧ ((tickC F st d n).2.1 = [] → ov = .slice none 0 0) ∧ PD w' p K F st 0 lv (tickC F st d n).1 ∧ Frm p lv lv w w' := by
  have hlen := ok.len
  have t0 := ok.t0
  have t1 := ok.t1
  by_cases hbad : n < 0 ∨ 100800 - d.time < n
  · have hE : tickC F st d n = (d, [], 1) := by unfold tickC; rw [if_pos hbad]
    rw [hE]
    refine (tick_bad R n t0 t1 hbad).mono ?_
    rintro e w' ⟨rfl, h1, h2⟩
    exact ⟨_, rfl, World.ownsRow_nil _ _ _ _, fun _ => rfl, fun _ => rfl, h1, h2⟩
  · obtain ⟨T, hT⟩ : ∃ T, T = d.time + n := ⟨_, rfl⟩
    have HE := hide (show tickC F st d n = (⟨T, d.made, (tickGo F st T (leftL st d.cases) d.cases d.told).2.2, (tickGo F st T (leftL st d.cases) d.cases d.told).2.1⟩, (tickGo F st T (leftL st d.cases) d.cases d.told).1, 0) by unfold tickC; rw [if_neg hbad, ← hT])
    have n0 : 0 ≤ n := by omega
    have n1 : n ≤ 100800 - d.time := by omega
    have c0 := R.pr.c0
    have f0 := R.pr.frz 0
    obtain ⟨R1, F1⟩ := R.lock 1
    have c80 := R1.pr.c80
    have f80 := R1.pr.frz 80
    obtain ⟨R2, F2⟩ := R1.time T
    have hl80 : leftL st d.cases ≤ 80 := by have := leftL_le hs d.cases ok.cs; omega
    have TP0 : TP w p K F st lv d T ((w.setCell ⟨p, 0, none⟩ (.int .i32 1)).setCell ⟨p, 80, none⟩ (.int .i64 T)) (.slice none 0 0) d.cases [] := ⟨by simpa using R2, World.ownsRow_nil _ _ _ _, F1.trans F2, ok.cs, hr, iv.ids, rfl, by simpa using hl80, fun _ => rfl, by simp⟩
    have HTP := hide TP0
    have HQ := hide (And.intro hs (And.intro ok.k0 ok.k1))
    have hT0 : 0 ≤ T := by omega
    have hT1 : T ≤ 100800 := by omega
    obtain ⟨i0, hi0, hz0, hz1, hz2⟩ := info_parts eventInfo
    have HII := hide hi0
    clear R R1 F1 R2 F2 TP0 hbad hi0 hs ok hr iv
    rw [hT] at HTP
    go_enter_defers Tryz.func15, Tryz.ntmps15
    go_wp2_with (go_at_call 36; refine (lock_free muLib ⟨p, 0, none⟩ _ c0 f0).mono ?_; rintro e w' ⟨rfl, rfl⟩)
    rw [← hT] at HTP ⊢
    clear hT c0 f0 c80 f80
    generalize (w.setCell ⟨p, 0, none⟩ (.int .i32 1)).setCell ⟨p, 80, none⟩ (.int .i64 T) = W0 at *
    refine (firstP_any HTP.out.pd (by simp; omega) HTP.out.ids).mono ?_
    rintro e u0 ⟨rfl, hb0⟩
    have HT0 := hide (HTP.out.on hb0)
    clear HTP hb0
    dsimp only
    go_wp2_with fail
    go_loopw [6, 7] (fun ov rv wr => ∃ l es, rv = ptrAt (qOf lv) (nextL l) ∧ TP w p K F st lv d T wr ov l es) (fun ov _ _ => 81 - lenV ov)
    case atStart => exact ⟨_, _, rfl, HT0.out⟩
    case round =>
      clear HT0
      obtain ⟨l, es, rfl, KK⟩ := hrel
      have hl1 : l.length ≤ 20 := by rw [KK.len]; exact hlen
      have HFIN : Hid ((nextL l < 0 ∨ T < (csAt l (nextL l)).due) → tickC F st d n = (⟨T, d.made, d.told + es.length, l⟩, es, 0)) := by
        intro hc
        have hr := KK.res
        rw [tick_done hc] at hr
        rw [HE.out]
        simp only [List.append_nil] at hr
        rw [← hr.1, ← hr.2]
      have HK := hide KK
      clear KK
      by_cases h1 : nextL l < 0
      · have HFF := hide (HFIN.out (.inl h1))
        rw [show ptrAt (qOf lv) (nextL l) = .pointer none by unfold ptrAt; rw [if_pos h1]]
        clear HFIN h1
        go_wp2_with fail
        go_quiet (fail)
        have HK1 := hide (HK.out.on (below_drewN (Below.refl _ _) nq))
        clear HK
        go_wp2_with fail
        refine leaves_cons (f := 37) (args := #[.pointer (some ⟨p, 0, none⟩)]) (by simp) (by simp [go_sem]) ?_
        refine (unlock_deferred muLib ⟨p, 0, none⟩ .returning _ HK1.out.pd.pr.c0 (HK1.out.pd.pr.frz 0)).mono ?_
        rintro e u' w'' ⟨rfl, rfl, rfl⟩
        rw [HFF.out]
        have hfr := HK1.out.pd.free HK1.out.fr
        exact ⟨_, results_tmp2 rfl _ _ _, _, rfl, row_leftP HK1.out.own (b := p) ⟨rfl, rfl, rfl, by simp, fun k _ hne => Below.heap_setCell _ _ _ k (fun e => hne (by rw [e]))⟩ HK1.out.pd.pr.blk (by decide), fun h => absurd rfl h, HK1.out.nl, hfr⟩
      · obtain ⟨i, hi⟩ : ∃ i : Nat, nextL l = i := ⟨(nextL l).toNat, by omega⟩
        have hbd := nextTo_bd l l.length
        have hil : i < l.length := by unfold nextL at hi; omega
        have hd0 : 0 ≤ (csAt l i).due := by unfold nextL at hi; rw [← hi]; exact hbd.2.2 (by omega)
        obtain ⟨q, cap, hlv⟩ := row_some HK.out.pd.own (by simp; omega)
        simp only at hlv
        subst hlv
        have hA1 := PD.ra (d := ⟨T, d.made, d.told + es.length, l⟩) HK.out.pd i hil
        have c80 := HK.out.pd.pr.c80
        have e4 := hA1.cell 4 _ rfl
        rw [show dueC (csAt l i) = (csAt l i).due by unfold dueC; rw [if_pos hd0]] at e4
        simp only at c80
        rw [show ptrAt (qOf (.slice (some ⟨q, 0, none⟩) l.length cap)) (nextL l) = .pointer (some ⟨q, i * 7, none⟩) by unfold ptrAt; rw [hi, if_neg (by omega)]; simp [qOf, Value.ownBlock]]
        by_cases h2 : T < (csAt l i).due
        · have HFF := hide (HFIN.out (.inr (by rw [hi]; exact h2)))
          clear HFIN hA1 hbd h1
          generalize (csAt l i).due = y at *
          go_wp2_with fail
          go_quiet (fail)
          have HK1 := hide (HK.out.on (below_drewN (Below.refl _ _) nq))
          clear HK c80 e4
          go_wp2_with fail
          refine leaves_cons (f := 37) (args := #[.pointer (some ⟨p, 0, none⟩)]) (by simp) (by simp [go_sem]) ?_
          refine (unlock_deferred muLib ⟨p, 0, none⟩ .returning _ HK1.out.pd.pr.c0 (HK1.out.pd.pr.frz 0)).mono ?_
          rintro e u' w'' ⟨rfl, rfl, rfl⟩
          rw [HFF.out]
          have hfr := HK1.out.pd.free HK1.out.fr
          exact ⟨_, results_tmp2 rfl _ _ _, _, rfl, row_leftP HK1.out.own (b := p) ⟨rfl, rfl, rfl, by simp, fun k _ hne => Below.heap_setCell _ _ _ k (fun e => hne (by rw [e]))⟩ HK1.out.pd.pr.blk (by decide), fun h => absurd rfl h, HK1.out.nl, hfr⟩
        · have h2' : (csAt l i).due ≤ T := by omega
          have hm : csAt l i ∈ l := by rw [csAt_nat hil]; exact List.getElem_mem hil
          have hx := HK.out.ok _ hm
          have hrx := HK.out.rs _ hm
          have hrest : (csAt l i).rest = 0 := by
            have h2 := hx.r0
            unfold RestOk at hrx
            by_cases h3 : 0 < (csAt l i).rest
            · have := (hrx h3).2.1; omega
            · omega
          have hk0 := HQ.out.2.1
          have hk1 := HQ.out.2.2
          have hleft := HK.out.left
          have HTL := hide (fun (z : World) (hb : Below wr.heap.size wr z) => tell_any (HK.out.pd.on hb).pr (hA1.on hb) HQ.out.1 hx hd0 hrest (by simp only; omega) (by simp only; omega))
          have HD := hide (And.intro h2' hil)
          have HI := hide hi
          have hesl : es.length ≤ 80 := by omega
          clear HFIN hA1 hbd h1 hx hrx hrest hk0 hk1 hleft hd0 hm hi
          simp only at HTL
          generalize hev : evOf st (csAt l i) (d.told + es.length + 1) = ev at *
          have HEV := hide hev
          obtain ⟨a0, a1, a2, a3, a4, a5⟩ := ev
          clear hev
          unfold evV at HTL
          simp only at HTL
          generalize hdu : (csAt l i).due = y at e4 h2 h2' ⊢
          clear hdu
          go_wp2_with fail
          go_quiet (fail)
          have HK1 := hide (HK.out.on (below_drewN (Below.refl _ _) nq))
          have HT1 := hide (HTL.out _ (below_drewN (Below.refl _ _) nq))
          clear HK HTL c80 e4 h2 h2'
          generalize wr.drewN nq = W2 at *
          go_wp2_with fail
          refine HT1.out.mono ?_
          rintro e w10 ⟨rfl, hP1, hP⟩
          have HO10 := hide (HK1.out.row10 hP)
          have hpb := HK1.out.fr.size
          have hs10 : w.heap.size ≤ w10.heap.size := by have := hP.size; simp at this; omega
          have HP := hide hP
          clear hP hP1 HT1
          go_upto_region 9 with (first | (at_builtin; go_must (refine wpList_append_lies _ rfl _ _ 38 rfl w.heap.size 63 i0 _ 6 48 Tryz.underlying38 HII.out hz0 hz1 hz2 rfl (by decide) u6 es.length (evsCells es) (by rfl) (HO10.out.alloc _) ⟨w10.heap.size, 0, none⟩ 1 1 [.int .i64 a0, .int .i64 a1, .int .i64 a2, .int .i64 a3, .int .i64 a4, .int .i64 a5] (by rfl) (by rfl) (World.news_of_block (cs := #[.int .i64 a0, .int .i64 a1, .int .i64 a2, .int .i64 a3, .int .i64 a4, .int .i64 a5]) (t := 63) (fr := (0, 0)) (heap_alloc_new w10 _)) (by simp [Value.oneCell']) (by omega) (by unfold maxLen; omega) (by omega) (by simp; omega) (w10.heap.size + 1) (by simp) ?_); intro gg gcap w12 hown12 hgrow12 hat12 hlt12) | fail)
          have HT12 := hide (TP.next (w10 := w10) HQ.out.1 HK1.out HI.out HD.out.2 HD.out.1 HP.out ((Below.refl _ _).alloc (Nat.le_refl _) _) hgrow12 (by rw [HEV.out]; exact hown12))
          have hlenu : lenV u6 = es.length := lenV_own HK1.out.own
          clear hown12 hgrow12 hat12 HP HO10 HK1
          go_wp2_with fail
          refine (firstP_any HT12.out.pd (by simp; omega) HT12.out.ids).mono ?_
          rintro e w13 ⟨rfl, hb13⟩
          have HT13 := hide (HT12.out.on hb13)
          clear hb13 HT12
          dsimp only
          go_wp2_with fail
          go_roundw
          case rel => exact ⟨_, _, rfl, HT13.out⟩
          case measure => rw [hlenu]; simp only [lenV]; omega
theorem tick_any (R : PD w p K F st 0 lv d) (ok : DkOk F st d 4611686018427387000) (hr : DkR st d) (iv : InvD F d) (hs : StOk st) (n : Int) :
    Calls Tryz.prog 15 #[P0 p, .int .i64 n] w fun e w' => ∃ ov, e = .returned (.tuple #[ov, .int .i64 (tickC F st d n).2.2]) ∧ w'.ownsRow w.heap.size 63 6 ov (tickC F st d n).2.1.length (evsCells (tickC F st d n).2.1) ∧ ((tickC F st d n).2.2 ≠ 0 → ov = .slice none 0 0) ∧ PD w' p K F st 0 lv (tickC F st d n).1 ∧ Frm p lv lv w w' := by
  refine (tickN_any R ok hr iv hs n).mono ?_
  rintro e w' ⟨ov, h1, h2, h3, _, h4, h5⟩
  exact ⟨ov, h1, h2, h3, h4, h5⟩
end
end Go.Proofs.YtcnmbldikjljeaaGreatDoor
namespace Go.Proofs.YtcnmbldikjljeaaGreatDoor
open Go.Shelf

def sortEntry_ren : Go.Shelf.Ren := ⟨fun | 6 => 52 | 15 => 79 | 14 => 78 | 28 => 127 | 29 => 128 | 20 => 119 | 21 => 120 | 22 => 121 | 23 => 122 | 24 => 123 | 25 => 124 | 26 => 125 | 27 => 126 | 46 => 164 | 47 => 165 | 48 => 166 | 49 => 167 | 50 => 168 | 57 => 177 | n => n, fun | 22 => 64 | 24 => 67 | 25 => 145 | 3 => 3 | 39 => 179 | 0 => 0 | 53 => 96 | 55 => 223 | 4 => 4 | 46 => 215 | 45 => 214 | 50 => 219 | 5 => 5 | 9 => 9 | 66 => 254 | 70 => 258 | 76 => 266 | 77 => 42 | n => n, fun | n => n⟩
theorem sortEntry : Go.Proofs.SlLaysF0.n6 Tryz.prog sortEntry_ren where
  mixed := by kernel_rfl
  f6 := ⟨ "slices.SortFunc[[]docket/api.Entry,docket/api.Entry]", by decide, Tryz.func52.trans (congrArg some (by kernel_rfl))⟩
  f14 := ⟨ "slices.pdqsortCmpFunc[docket/api.Entry]", by decide, Tryz.func78.trans (congrArg some (by kernel_rfl))⟩
  f15 := Tryz.func79.trans (congrArg some (by kernel_rfl))
  f20 := ⟨ "slices.insertionSortCmpFunc[docket/api.Entry]", by decide, Tryz.func119.trans (congrArg some (by kernel_rfl))⟩
  f21 := ⟨ "slices.heapSortCmpFunc[docket/api.Entry]", by decide, Tryz.func120.trans (congrArg some (by kernel_rfl))⟩
  f22 := ⟨ "slices.breakPatternsCmpFunc[docket/api.Entry]", by decide, Tryz.func121.trans (congrArg some (by kernel_rfl))⟩
  f23 := ⟨ "slices.choosePivotCmpFunc[docket/api.Entry]", by decide, Tryz.func122.trans (congrArg some (by kernel_rfl))⟩
  f24 := ⟨ "slices.reverseRangeCmpFunc[docket/api.Entry]", by decide, Tryz.func123.trans (congrArg some (by kernel_rfl))⟩
  f25 := ⟨ "slices.partialInsertionSortCmpFunc[docket/api.Entry]", by decide, Tryz.func124.trans (congrArg some (by kernel_rfl))⟩
  f26 := ⟨ "slices.partitionEqualCmpFunc[docket/api.Entry]", by decide, Tryz.func125.trans (congrArg some (by kernel_rfl))⟩
  f27 := ⟨ "slices.partitionCmpFunc[docket/api.Entry]", by decide, Tryz.func126.trans (congrArg some (by kernel_rfl))⟩
  f28 := Tryz.func127.trans (congrArg some (by kernel_rfl))
  f29 := Tryz.func128.trans (congrArg some (by kernel_rfl))
  f46 := ⟨ "slices.siftDownCmpFunc[docket/api.Entry]", by decide, Tryz.func164.trans (congrArg some (by kernel_rfl))⟩
  f47 := Tryz.func165.trans (congrArg some (by kernel_rfl))
  f48 := Tryz.func166.trans (congrArg some (by kernel_rfl))
  f49 := ⟨ "slices.medianAdjacentCmpFunc[docket/api.Entry]", by decide, Tryz.func167.trans (congrArg some (by kernel_rfl))⟩
  f50 := ⟨ "slices.medianCmpFunc[docket/api.Entry]", by decide, Tryz.func168.trans (congrArg some (by kernel_rfl))⟩
  f57 := ⟨ "slices.order2CmpFunc[docket/api.Entry]", by decide, Tryz.func177.trans (congrArg some (by kernel_rfl))⟩
  t0 := Tryz.underlying0
  a0 := Tryz.isAgg0
  z0 := Tryz.sizeOf0
  v0 := Tryz.zeroValue0
  t3 := Tryz.underlying3
  a3 := Tryz.isAgg3
  z3 := Tryz.sizeOf3
  v3 := Tryz.zeroValue3
  t4 := Tryz.underlying4
  a4 := Tryz.isAgg4
  z4 := Tryz.sizeOf4
  v4 := Tryz.zeroValue4
  t5 := Tryz.underlying5
  a5 := Tryz.isAgg5
  z5 := Tryz.sizeOf5
  v5 := Tryz.zeroValue5
  t9 := Tryz.underlying9
  a9 := Tryz.isAgg9
  z9 := Tryz.sizeOf9
  v9 := Tryz.zeroValue9
  t22 := Tryz.underlying64
  a22 := Tryz.isAgg64
  z22 := Tryz.sizeOf64
  v22 := Tryz.zeroValue64
  t25 := Tryz.underlying145
  a25 := Tryz.isAgg145
  z25 := Tryz.sizeOf145
  v25 := Tryz.zeroValue145
  t39 := Tryz.underlying179
  a39 := Tryz.isAgg179
  z39 := Tryz.sizeOf179
  v39 := Tryz.zeroValue179
  t45 := Tryz.underlying214
  a45 := Tryz.isAgg214
  z45 := Tryz.sizeOf214
  v45 := Tryz.zeroValue214
  t46 := Tryz.underlying215
  a46 := Tryz.isAgg215
  z46 := Tryz.sizeOf215
  v46 := Tryz.zeroValue215
  t50 := Tryz.underlying219
  a50 := Tryz.isAgg219
  z50 := Tryz.sizeOf219
  v50 := Tryz.zeroValue219
  t53 := Tryz.underlying96
  a53 := Tryz.isAgg96
  z53 := Tryz.sizeOf96
  v53 := Tryz.zeroValue96
  t55 := Tryz.underlying223
  a55 := Tryz.isAgg223
  z55 := Tryz.sizeOf223
  v55 := Tryz.zeroValue223
  t66 := Tryz.underlying254
  a66 := Tryz.isAgg254
  z66 := Tryz.sizeOf254
  v66 := Tryz.zeroValue254
  t70 := Tryz.underlying258
  a70 := Tryz.isAgg258
  z70 := Tryz.sizeOf258
  v70 := Tryz.zeroValue258
  t76 := Tryz.underlying266
  a76 := Tryz.isAgg266
  z76 := Tryz.sizeOf266
  v76 := Tryz.zeroValue266
  t77 := Tryz.underlying42
  a77 := Tryz.isAgg42
  z77 := Tryz.sizeOf42
  v77 := Tryz.zeroValue42
end Go.Proofs.YtcnmbldikjljeaaGreatDoor
namespace Go.Proofs.YtcnmbldikjljeaaGreatDoor
open Go.Shelf Go.RowKit Go.Lib Go.Sort Go.MuLone

theorem cmpLaysE (blk off size : Nat) (w : World) : CmpLays Tryz.prog 53 #[] encP 2 turnI blk off size w := fun _ _ _ _ x y => inTurn_any x y _
theorem sorted_listE {d : Array (Int × Int)} {n : Nat} (hn : d.size = n) (h : SortedIn (ltOf turnI) 0 n d) : d.toList.Pairwise fun p q => ¬ TL q p := by
  rw [List.pairwise_iff_getElem]
  intro i j hi hj hij
  have hi' : i < d.size := by simpa using hi
  have hj' : j < d.size := by simpa using hj
  have h1 := h i j (Nat.zero_le _) hij (by omega)
  rw [getElem!_pos d i hi', getElem!_pos d j hj'] at h1
  intro ht
  have := (ltT d[j] d[i]).2 (by simpa using ht)
  rw [this] at h1
  simp at h1
set_option maxHeartbeats 1000000 in
theorem sortE_any {base : Nat} {v : Value} {l : List (Int × Int)} {w : World} (hown : w.ownsRow base 67 2 v l.length (flat l)) (hl : l.length ≤ 1000) :
    Calls Tryz.prog 52 #[v, .func (.func 53) #[] #[]] w fun e w' => e = .returned (.tuple #[]) ∧ ∃ l', l'.Perm l ∧ l'.Pairwise (fun p q => ¬ TL q p) ∧ w.grownBy w' v.ownBlock ∧ w'.ownsRow base 67 2 v l.length (flat l') := by
  rcases hown.2 with ⟨rfl, hz⟩ | ⟨g, cap, cur, rfl, hg, hb, h1, h2, h3, h4⟩
  · have hz2 : l = [] := List.length_eq_zero_iff.1 hz
    subst hz2
    have hS := AnyF.slices_SortFunc_none (P := Tryz.prog) (ρ := sortEntry_ren) sortEntry none 0 (.func (.func 53) #[] #[]) w
    refine Calls.mono (show Calls Tryz.prog 52 _ _ _ from hS) ?_
    rintro e w' ⟨rfl, rfl⟩
    exact ⟨rfl, [], .refl _, .nil, ⟨rfl, rfl, rfl, Nat.le_refl _, fun _ _ _ => rfl⟩, hown⟩
  · have eg : ∀ args w, (callFunc 53 args).run Tryz.prog w = .ok (.enter 53 args) w := enters_of Tryz.func53 (by kernel_rfl) rfl
    have hblk : g < w.heap.size := (Array.getElem?_eq_some_iff.1 hb).1
    have hS := AnyQ.slices_SortFunc sortEntry 2 Tryz.isAgg67 Tryz.sizeOf67 encP (fun _ => rfl) (fun x v hv => by simp [encP] at hv; rcases hv with rfl | rfl <;> rfl) turnI swoT 53 #[] g 0 cap l.toArray w eg (cmpLaysE g 0 l.toArray.size w) (holds_flat hb h4) hblk (by simp; omega)
    refine Calls.mono (show Calls Tryz.prog 52 #[.slice (some ⟨g, 0, none⟩) l.length cap, _] _ _ from hS) ?_
    rintro e w' ⟨rfl, d, n, os, hp, hs, rfl⟩
    have hsz : d.size = l.length := by rw [hp.1]; simp
    refine ⟨rfl, d.toList, perm_list hp, sorted_listE (by rw [hp.1]) hs, ?_, ?_⟩
    · exact grownBy_sortK d
    · have := ownsRow_sortK (os := os) (n := n) (ts := d.toList) (ss := l) (by simp [hsz]) hg hb h1 h2 h3
      simpa using this
theorem entsL_len (l : List Cs) : (entsL l).length ≤ l.length := by
  unfold entsL
  rw [List.length_map]
  exact List.length_filter_le _ _
/-- where Agenda's loop stands -/
structure AP (w1 wr : World) (ov : Value) (es : List (Int × Int)) : Prop where
  below : Below w1.heap.size w1 wr
  own : wr.ownsRow w1.heap.size 67 2 ov es.length (flat es)
section
variable {w : World} {p : Nat} {K : Kf} {F : Nat → Bool} {st : List Stg} {lv : Value} {d : Dk} {N : Int}
set_option maxRecDepth 100000 in
set_option maxHeartbeats 8000000 in
theorem agenda_any (R : PD w p K F st 0 lv d) (hlen : d.cases.length ≤ 20) (hids : (d.cases.map Cs.id).Pairwise (· < ·)) :
    Calls Tryz.prog 25 #[P0 p] w fun e w' => ∃ ov, e = .returned ov ∧ w'.ownsRow w.heap.size 67 2 ov (agendaL d.cases []).length (flat (agendaL d.cases [])) ∧ PD w' p K F st 0 lv d ∧ Frm p lv lv w w' := by
  have c0 := R.pr.c0
  have f0 := R.pr.frz 0
  obtain ⟨R1, F1⟩ := R.lock 1
  have c82 := R1.pr.c82
  obtain ⟨la, lcap, hlv⟩ := row_any R1.own
  subst hlv
  have hsz : (w.setCell ⟨p, 0, none⟩ (.int .i32 1)).heap.size = w.heap.size := by simp
  have AP0 : AP (w.setCell ⟨p, 0, none⟩ (.int .i32 1)) (w.setCell ⟨p, 0, none⟩ (.int .i32 1)) (.slice none 0 0) (entsL (d.cases.take 0)) := ⟨Below.refl _ _, World.ownsRow_nil _ _ _ _⟩
  have H1 := hide (And.intro R1 F1)
  have HID := hide hids
  obtain ⟨i0, hi0, hz0, hz1, hz2⟩ := info_parts entryInfo
  have HII := hide hi0
  have HAP := hide AP0
  clear R R1 F1 hi0 hids AP0
  generalize hl : d.cases.length = n at *
  have HL := hide hl
  clear hl
  go_enter_defers Tryz.func25, Tryz.ntmps25
  go_wp2_with (go_at_call 36; refine (lock_free muLib ⟨p, 0, none⟩ _ c0 f0).mono ?_; rintro e w' ⟨rfl, rfl⟩)
  generalize w.setCell ⟨p, 0, none⟩ (.int .i32 1) = w1 at *
  clear c0 f0
  go_loopw [3, 18] (fun ov iv wr => ∃ i : Nat, iv = .int .i64 i ∧ i ≤ n ∧ AP w1 wr ov (entsL (d.cases.take i))) (fun _ iv _ => n - (intOf iv).toNat)
  case atStart => exact ⟨0, rfl, Nat.zero_le _, HAP.out⟩
  case round =>
    clear HAP
    obtain ⟨i, rfl, hi, A⟩ := hrel
    have hws := A.below.size
    by_cases hlt : i < n
    · have hlt' : (i : Int) < n := by omega
      have hilt : i < d.cases.length := by rw [HL.out]; exact hlt
      obtain ⟨q, cap, hla⟩ := row_some H1.out.1.own (by omega)
      rw [HL.out] at hla
      simp only [Value.slice.injEq, true_and] at hla
      obtain ⟨rfl, rfl⟩ := hla
      have hA : RA wr q (i * 7) (rcCells (csAt d.cases i)) := PD.ra (d := d) (cap := lcap) (by rw [HL.out]; exact H1.out.1.on A.below) i hilt
      have e0 : wr.cell? ⟨q, i * 7, none⟩ = _ := hA.cell 0 _ rfl
      have e1 := hA.cell 1 _ rfl
      have e2 := hA.cell 2 _ rfl
      have e3 := hA.cell 3 _ rfl
      have e4 := hA.cell 4 _ rfl
      have e5 := hA.cell 5 _ rfl
      have e6 := hA.cell 6 _ rfl
      have HST := hide (entsL_take d.cases i hilt)
      have hel := entsL_len (d.cases.take i)
      have hel2 : (entsL (d.cases.take i)).length ≤ 20 := by simp at hel; omega
      have HA := hide A
      clear hA A hel
      generalize csAt d.cases i = x at *
      by_cases hd : 0 ≤ x.due
      · have hc : crs x = 1 := by unfold crs; rw [if_pos hd]
        have hdc : dueC x = x.due := by unfold dueC; rw [if_pos hd]
        have hbx : (rcCells x).toArray = #[.int .i64 x.id, .int .i64 x.stage, .int .i64 1, .int .i64 x.level, .int .i64 x.due, .int .i64 x.rest, .bool x.held] := by unfold rcCells; rw [hc, hdc]
        have hA2 : RA (wr.alloc (Obj.cells (rcCells x).toArray 119)) wr.heap.size 0 (rcCells x) := ⟨_, heap_alloc_new _ _, fun j v hv => by rw [Nat.zero_add]; simpa using hv⟩
        rw [hbx] at hA2
        have HEN := hide (entry_any hA2)
        rw [hdc] at HEN e4
        rw [hc] at e2
        rw [if_pos hd] at HST
        clear hbx hA2 hc hdc hd
        go_wp2_with fail
        refine HEN.out.mono ?_
        rintro e u ⟨rfl, hb⟩
        have hbw : Below wr.heap.size wr u := ((Below.refl _ _).alloc (Nat.le_refl _) _).trans (hb.mono (by simp))
        have HO := hide (row_on HA.out.own hbw)
        have HB := hide (HA.out.below.trans (hbw.mono hws))
        have hus : w1.heap.size ≤ u.heap.size := HB.out.size
        clear hb hbw HEN HA e0 e1 e2 e3 e4 e5 e6
        go_upto_region 9 with (first | (at_builtin; go_must (refine wpList_append_lies _ rfl _ _ 64 rfl w1.heap.size 67 i0 _ 2 16 Tryz.underlying64 HII.out hz0 hz1 hz2 rfl (by decide) u3 (entsL (d.cases.take i)).length (flat (entsL (d.cases.take i))) (by rfl) (HO.out.alloc _) ⟨u.heap.size, 0, none⟩ 1 1 [.int .i64 x.id, .int .i64 x.due] (by rfl) (by rfl) (World.news_of_block (cs := #[.int .i64 x.id, .int .i64 x.due]) (t := 67) (fr := (0, 0)) (heap_alloc_new u _)) (by simp [Value.oneCell']) (by omega) (by unfold maxLen; omega) (by omega) (by simp; omega) (u.heap.size + 1) (by simp) ?_); intro gg gcap w12 hown12 hgrow12 hat12 hlt12) | fail)
        have HA2 : Hid (AP w1 w12 (.slice (some ⟨gg, 0, none⟩) ((entsL (d.cases.take i)).length + 1) gcap) (entsL (d.cases.take (i + 1)))) := by
          refine ⟨(HB.out.alloc hus _).grown hgrow12 (by simp; omega) (fun k hk => (HO.out.lt k hk).1), ?_⟩
          rw [HST.out, List.length_append, flat_append]
          exact hown12
        clear hown12 hgrow12 hat12 HO HB
        go_wp2_with fail
        go_roundw
        case rel => exact ⟨i + 1, by go_num, by omega, HA2.out⟩
        case measure => simp [intOf]; omega
      · have hcb : (crs x == 1) = false := by unfold crs; rw [if_neg hd]; split <;> rfl
        rw [if_neg hd] at HST
        have HA2 : Hid (∀ o, AP w1 (wr.alloc o) u3 (entsL (d.cases.take (i + 1)))) := fun o => by
          rw [HST.out]
          exact ⟨HA.out.below.alloc hws _, HA.out.own.alloc _⟩
        clear HA HST hd
        generalize crs x = cc at *
        go_wp2_with fail
        go_roundw
        case rel => exact ⟨i + 1, by go_num, by omega, HA2.out _⟩
        case measure => simp [intOf]; omega
    · have hin : i = n := by omega
      subst hin
      have htk : d.cases.take i = d.cases := List.take_of_length_le (by rw [HL.out]; exact Nat.le_refl _)
      rw [htk] at A
      have hel := entsL_len d.cases
      have HA := hide A
      clear A htk
      go_wp2_with fail
      refine (sortE_any HA.out.own (by rw [HL.out] at hel; omega)).mono ?_
      rintro e u ⟨rfl, ts, hperm, hsorted, hg, hown⟩
      have hts := agenda_is HID.out hperm.symm hsorted
      have hlen2 : (entsL d.cases).length = ts.length := hperm.length_eq.symm
      rw [hlen2, hts] at hown
      have HP := hide ((H1.out.1.on HA.out.below).grown HA.out.own (by decide) hg)
      have HFR := hide ((H1.out.2.trans (Frm.of_below HA.out.below)).grown (by rw [← hsz]; exact HA.out.own) hg)
      rw [hsz] at hown
      have HO := hide hown
      clear hg hown hperm hsorted hts hlen2 HA H1
      go_wp2_with fail
      refine leaves_cons (f := 37) (args := #[.pointer (some ⟨p, 0, none⟩)]) (by simp) (by simp [go_sem]) ?_
      refine (unlock_deferred muLib ⟨p, 0, none⟩ .returning _ HP.out.pr.c0 (HP.out.pr.frz 0)).mono ?_
      rintro e u' w'' ⟨rfl, rfl, rfl⟩
      have hfr := HP.out.free HFR.out
      exact ⟨_, results_tmp rfl _ _ _, u3, rfl, row_leftP (w := u) HO.out (b := p) ⟨rfl, rfl, rfl, by simp, fun k _ hne => Below.heap_setCell _ _ _ k (fun e => hne (by rw [e]))⟩ HP.out.pr.blk (by decide), hfr⟩
end
end Go.Proofs.YtcnmbldikjljeaaGreatDoor
namespace Go.Proofs.YtcnmbldikjljeaaGreatDoor
open Go.RowKit

theorem stageInfoP : (Tryz.prog.info? 131).map (fun i => (i.zero, i.size, i.bytes)) = some (some (.agg #[.slice none 0 0, .bool false, .bool false, .bool false, .bool false, .bool false, .bool false]), 7, 32) := by kernel_rfl
set_option maxRecDepth 100000 in
set_option maxHeartbeats 1000000 in
theorem clone_any {w : World} {v : Value} {l : List (Int × Int)} (L : LR w 2 v l.length (flat l)) (hm : l.length ≤ 4) :
    Calls Tryz.prog 108 #[v] w fun e w' => ∃ r, e = .returned r ∧ w'.ownsRow w.heap.size 127 2 r l.length (flat l) ∧ Below w.heap.size w w' := by
  obtain ⟨a, cap, rfl, hnone, hcell⟩ := L.form
  have hlen := L.len
  cases a with
  | none =>
    obtain ⟨h0, rfl⟩ := hnone rfl
    have hl0 : l = [] := List.length_eq_zero_iff.1 h0
    subst hl0
    have hnil : ∀ W, (binOp .eql 123 (.slice none 0 0) (.slice none 0 0)).run Tryz.prog W = .ok (.bool true) W := fun W => Lib.run_eql_slice_nil_nil W _ _ Tryz.underlying123
    clear L hcell hnone hlen
    go_enter Tryz.func108, Tryz.ntmps108
    go_wp2_with fail
    go_ret
    exact ⟨_, rfl, World.ownsRow_nil _ _ _ _, Below.refl _ _⟩
  | some a =>
    have hnil : ∀ W, (binOp .eql 123 (.slice (some a) l.length cap) (.slice none 0 0)).run Tryz.prog W = .ok (.bool false) W := fun W => Lib.run_eql_slice_some_nil W _ _ _ Tryz.underlying123
    have hb0 : Below w.heap.size w (w.alloc (Obj.cells #[] 127)) := (Below.refl _ _).alloc (Nat.le_refl _) _
    have o0 : (w.alloc (Obj.cells #[] 127)).ownsRow w.heap.size 127 2 (.slice (some ⟨w.heap.size, 0, none⟩) 0 0) 0 [] := ⟨rfl, .inr ⟨_, 0, #[], rfl, Nat.le_refl _, heap_alloc_new _ _, Nat.le_refl _, by decide, rfl, rfl⟩⟩
    have HC : Hid (∀ j u, (flat l)[j]? = some u → ∃ b off, some a = some ⟨b, off, none⟩ ∧ (w.alloc (Obj.cells #[] 127)).cell? ⟨b, off + j, none⟩ = some u) := fun j u hj => by
      obtain ⟨b, off, e1, e2⟩ := hcell j u hj
      exact ⟨b, off, e1, (hb0.cell (World.block_lt_of_cell? _ _ e2)).trans e2⟩
    have HL := hide hlen
    have HB := hide hb0
    have HO := hide o0
    obtain ⟨i0, hi0, hz0, hz1, hz2⟩ := info_parts levelInfo
    have HII := hide hi0
    have hsw : w.heap.size ≤ (w.alloc (Obj.cells #[] 127)).heap.size := by simp
    clear L hcell hlen hb0 o0 hi0 hnone
    go_enter Tryz.func108, Tryz.ntmps108
    go_wp2_with (first | (at_builtin; go_must (refine wpList_append_opt rfl _ _ 123 rfl w.heap.size 127 i0 _ 2 16 Tryz.underlying123 HII.out hz0 hz1 hz2 rfl (by decide) (.slice (some ⟨w.heap.size, 0, none⟩) 0 0) 0 [] (by rfl) HO.out (some a) l.length cap (flat l) (by rfl) (fun e => by cases e) HL.out HC.out (flat_one _) (by unfold maxLen; omega) (by omega) hsw ?_); intro v1 w1 hown1 hgrow1) | fail)
    go_ret
    rw [Nat.zero_add, List.nil_append] at hown1
    exact ⟨_, rfl, hown1, HB.out.grown hgrow1 hsw (fun k hk => by simp [Value.ownBlock] at hk; omega)⟩
end Go.Proofs.YtcnmbldikjljeaaGreatDoor
