import Derived.Test.YtcnmbldikjljeaaGreatDoorJ09
import Derived.Test.YtcnmbldikjljeaaGreatDoorJ24
import Derived.Laws.AppendOwnNone
namespace Go.Proofs.YtcnmbldikjljeaaGreatDoor
open Go.RowKit

theorem insL_at (e : Int × Int) (es : List (Int × Int)) (k : Nat) (hk : k ≤ es.length) (h1 : ∀ p ∈ es.take k, p.2 ≤ e.2) (h2 : ∀ p, es[k]? = some p → e.2 < p.2) : insL e es = es.take k ++ e :: es.drop k := by
  unfold insL
  induction es generalizing k with
  | nil => simp at hk; subst hk; simp
  | cons p es ih =>
    cases k with
    | zero =>
      have := h2 p (by simp)
      rw [List.takeWhile_cons, List.dropWhile_cons, if_neg (by simp; omega), if_neg (by simp; omega)]
      simp
    | succ k =>
      have hp := h1 p (by simp)
      rw [List.takeWhile_cons, List.dropWhile_cons, if_pos (by simp; omega), if_pos (by simp; omega)]
      have := ih k (by simpa using hk) (fun q hq => h1 q (by simp [hq])) (fun q hq => h2 q (by simpa using hq))
      simp only [List.cons_append, List.take_succ_cons, List.drop_succ_cons, List.cons.injEq, true_and]
      exact this
theorem agenda_step (l : List Cs) (i : Nat) (hi : i < l.length) (out : List (Int × Int)) : agendaL (l.drop i) out = agendaL (l.drop (i + 1)) (if (csAt l i).due < 0 then out else insL ((csAt l i).id, (csAt l i).due) out) := by
  rw [List.drop_eq_getElem_cons hi, csAt_nat hi]
  rfl
theorem insL_len (e : Int × Int) (es : List (Int × Int)) : (insL e es).length = es.length + 1 := by
  unfold insL
  rw [List.length_append, List.length_cons]
  have := congrArg List.length (List.takeWhile_append_dropWhile (p := fun p : Int × Int => decide (p.2 ≤ e.2)) (l := es))
  rw [List.length_append] at this
  omega
theorem row_part {w : World} {base q cap : Nat} {t : TypeId} {es : List (Int × Int)} (h : w.ownsRow base t 2 (.slice (some ⟨q, 0, none⟩) es.length cap) es.length (flat es)) (k m : Nat) (hm : k + m ≤ es.length) : ∀ j u, (flat ((es.drop k).take m))[j]? = some u → w.cell? ⟨q, k * 2 + j, none⟩ = some u := by
  intro j u hj
  have hlt : j < m * 2 := by
    have := (List.getElem?_eq_some_iff.1 hj).1
    rw [flat_length] at this
    simp at this
    omega
  rw [h.cellAt (k * 2 + j) (by omega)]
  have e : flat es = flat (es.take k) ++ (flat ((es.drop k).take m) ++ flat ((es.drop k).drop m)) := by rw [← flat_append, ← flat_append, List.take_append_drop, List.take_append_drop]
  have hl : (flat (es.take k)).length = k * 2 := by rw [flat_length]; simp; omega
  have hl2 : (flat ((es.drop k).take m)).length = m * 2 := by rw [flat_length]; simp; omega
  rw [e, List.getElem?_append_right (by omega), List.getElem?_append_left (by omega), hl, show k * 2 + j - k * 2 = j by omega]
  exact hj
/-- where Agenda's loop stands -/
structure AG (w : World) (l : List Cs) (wr : World) (ov : Value) (i : Nat) (es : List (Int × Int)) : Prop where
  below : Below w.heap.size w wr
  own : wr.ownsRow w.heap.size 67 2 ov es.length (flat es)
  nl : es = [] → ov = .slice none 0 0
  len : es.length ≤ i
  res : agendaL (l.drop i) es = agendaL l []
/-- what a round of Agenda adds -/
theorem AG.ins {w W2 w4 : World} {l : List Cs} {v4 : Value} {i k n : Nat} {es : List (Int × Int)} {cid y : Int} {xs : List Value} (hbq : Below w.heap.size w W2) (hb : Below W2.heap.size W2 w4)
    (hown : w4.ownsRow W2.heap.size 67 2 v4 n xs) (hn : n = es.length + 1) (hx : xs = flat (es.take k) ++ [.int .i64 cid, .int .i64 y] ++ flat (es.drop k))
    (hi : insL (cid, y) es = es.take k ++ (cid, y) :: es.drop k) (hle : es.length ≤ i) (hy : 0 ≤ y)
    (ha : agendaL (l.drop i) es = agendaL l [] ∧ agendaL (l.drop i) es = agendaL (l.drop (i + 1)) (if y < 0 then es else insL (cid, y) es)) : AG w l w4 v4 (i + 1) (insL (cid, y) es) := by
  have hl := insL_len (cid, y) es
  have hf : flat (insL (cid, y) es) = xs := by
    rw [hi, hx, flat_append]
    simp [flat]
  refine ⟨hbq.trans (hb.mono hbq.size), ?_, fun h => by rw [h] at hl; simp at hl, by omega, ?_⟩
  · rw [hl, hf, ← hn]
    exact row_mono hown hbq.size
  · rw [← ha.1, ha.2, if_neg (by omega)]
section
variable {w W u : World} {g c : Nat} {F : Nat → Bool} {st : List Stg} {sv lv : Value} {vs : Nat → Value × Value} {d d' : Dk} {N : Int}
set_option maxRecDepth 100000 in
set_option maxHeartbeats 4000000 in
theorem refDAgenda_any (R : RD w g c F st sv vs lv d) (hlen : d.cases.length ≤ 20) :
    Calls Tryz.prog 90 #[P0 g] w fun e w' => ∃ ov, e = .returned ov ∧ w'.ownsRow w.heap.size 67 2 ov (agendaL d.cases []).length (flat (agendaL d.cases [])) ∧ (agendaL d.cases [] = [] → ov = .slice none 0 0) ∧ RD w' g c F st sv vs lv d ∧ Fr g lv lv w w' := by
  have c5 := R.c5
  have hgl := R.lt
  obtain ⟨la, lcap, hlv⟩ := row_any R.own
  subst hlv
  have HR := hide R
  obtain ⟨i0, hi0, hz0, hz1, hz2⟩ := info_parts entryInfo
  have HII := hide hi0
  have AG0 : AG w d.cases w (.slice none 0 0) 0 [] := ⟨Below.refl _ _, World.ownsRow_nil _ _ _ _, fun _ => rfl, Nat.le_refl _, rfl⟩
  have HAG := hide AG0
  generalize hl : d.cases = l at *
  have HL := hide hl
  clear hi0 R AG0 hl
  go_enter Tryz.func90, Tryz.ntmps90
  go_wp2_with fail
  go_loopw [3, 4] (fun ov iv wr => ∃ (i : Nat) (es : List (Int × Int)), iv = .int .i64 i ∧ i ≤ l.length ∧ AG w l wr ov i es) (fun _ iv _ => l.length - (intOf iv).toNat)
  case atStart => exact ⟨0, [], rfl, Nat.zero_le _, HAG.out⟩
  case round =>
    obtain ⟨i, es, rfl, hi, A⟩ := hrel
    have c5' := (A.below.cell (p := ⟨g, 5, none⟩) hgl).trans c5
    have hsz := A.below.size
    by_cases hlt : i < l.length
    · have hlt' : (i : Int) < l.length := by omega
      obtain ⟨q, cap, hla⟩ := row_some HR.out.own (by rw [HL.out]; omega)
      simp only [Value.slice.injEq] at hla
      obtain ⟨rfl, hla2, rfl⟩ := hla
      have hA := (RD.ca (d := d) (by rw [HL.out]; exact HR.out) i (by rw [HL.out]; exact hlt)).on A.below
      rw [HL.out] at hA
      have e0 := hA.cell 0 _ rfl
      have e3 := hA.cell 3 _ rfl
      rw [Nat.add_zero] at e0
      have hql := hA.lt
      have HST := hide (agenda_step l i hlt es)
      have HA := hide A
      by_cases hd : (csAt l i).due < 0
      · clear A hA
        generalize hy : (csAt l i).due = y at *
        go_wp2_with fail
        go_roundw
        case rel => exact ⟨i + 1, es, by go_num, by omega, ⟨HA.out.below, HA.out.own, HA.out.nl, by have := HA.out.len; omega, by rw [← HA.out.res, HST.out, if_pos hd]⟩⟩
        case measure => simp [intOf]; omega
      · have hd' : 0 ≤ (csAt l i).due := by omega
        clear A hA
        generalize (csAt l i).due = y at *
        generalize (csAt l i).id = cid at *
        have nn1 := World.new_ne wr ⟨g, 5, none⟩ c5'
        have nn2 := World.new_ne wr ⟨q, i * 6, none⟩ e0
        have nn3 := World.new_ne wr ⟨q, i * 6 + 3, none⟩ e3
        go_wp2_with fail
        go_region_held3 (fun w' => w'.cell? ⟨g, 5, none⟩ = some (.slice (some ⟨q, 0, none⟩) d.cases.length lcap) ∧ w'.cell? ⟨q, i * 6, none⟩ = some (.int .i64 cid) ∧ w'.cell? ⟨q, i * 6 + 3, none⟩ = some (.int .i64 y)) (first | (go_keep; done) | go_keep) (fail)
        all_goals
          rename_i hHeld
          clear hHeld nn1 nn2 nn3
          go_wp2_with fail
        have hbW : Below wr.heap.size wr (wr.alloc (Obj.cells #[.int .i64 cid, .int .i64 y] 67)).drew := ((Below.refl _ _).alloc (Nat.le_refl _) _).drew
        have b0 : (wr.alloc (Obj.cells #[.int .i64 cid, .int .i64 y] 67)).drew.cell? ⟨wr.heap.size, 0, none⟩ = some (.int .i64 cid) := by rw [show ∀ (z : World) (p : Addr), z.drew.cell? p = z.cell? p from fun _ _ => rfl, World.cell?_alloc_at _ _ _ _ rfl]; rfl
        have b1 : (wr.alloc (Obj.cells #[.int .i64 cid, .int .i64 y] 67)).drew.cell? ⟨wr.heap.size, 1, none⟩ = some (.int .i64 y) := by rw [show ∀ (z : World) (p : Addr), z.drew.cell? p = z.cell? p from fun _ _ => rfl, World.cell?_alloc_at _ _ _ _ rfl]; rfl
        have bs : wr.heap.size < (wr.alloc (Obj.cells #[.int .i64 cid, .int .i64 y] 67)).drew.heap.size := World.block_lt_of_cell? _ _ b0
        have HO1 := hide (row_on HA.out.own hbW)
        have HB1 := hide (HA.out.below.trans (hbW.mono hsz))
        have hle := HA.out.len
        clear hbW c5' e0 e3
        generalize (wr.alloc (Obj.cells #[.int .i64 cid, .int .i64 y] 67)).drew = W1 at *
        have hes : es.length ≤ 20 := by omega
        have hsw : w.heap.size ≤ wr.heap.size := hsz
        generalize wr.heap.size = bE at *
        clear hsz
        have HAR := hide (And.intro HA.out.res HST.out)
        have HNL := hide HA.out.nl
        clear HA
        go_loopw [6] (fun kv wz => ∃ k : Nat, kv = .int .i64 k ∧ k ≤ es.length ∧ Below W1.heap.size W1 wz ∧ Hid (∀ p ∈ es.take k, p.2 ≤ y)) (fun kv _ => es.length - (intOf kv).toNat)
        case atStart => exact ⟨0, rfl, Nat.zero_le _, Below.refl _ _, fun p hp => by simp at hp⟩
        case round =>
          obtain ⟨k, rfl, hk, hbz, HP⟩ := hrel
          have b1' := (hbz.cell (p := ⟨bE, 1, none⟩) bs).trans b1
          have b0' := (hbz.cell (p := ⟨bE, 0, none⟩) bs).trans b0
          by_cases hkl : k < es.length
          · have hkl' : (k : Int) < es.length := by omega
            obtain ⟨oq, ocap, hov⟩ := row_some HO1.out (by omega)
            subst hov
            have hoz := row_on HO1.out hbz
            have ek := (hoz.cellAt (k * 2 + 1) (by omega)).trans (flat_at es k hkl).2
            by_cases hle2 : es[k].2 ≤ y
            · have HP2 := hide (show ∀ p ∈ es.take (k + 1), p.2 ≤ y from fun p hp => by
                rw [List.take_succ_eq_append_getElem hkl] at hp
                rcases List.mem_append.1 hp with a | a
                · exact HP.out p a
                · rw [List.mem_singleton] at a; subst a; exact hle2)
              generalize es[k].2 = ey at *
              clear hoz
              have HBZ := hide hbz
              clear hbz
              go_wp2_with fail
              go_quiet (fail)
              go_wp2_with fail
              go_roundw
              case rel => exact ⟨k + 1, by go_num, by omega, below_drewN HBZ.out _, HP2⟩
              case measure => simp [intOf]; omega
            · have hgt : y < es[k].2 := by omega
              have HI := hide (insL_at (cid, y) es k hk HP.out (fun p hp => by rw [List.getElem?_eq_getElem hkl] at hp; cases hp; exact hgt))
              have hcap : es.length ≤ ocap ∧ ocap ≤ maxLen := by
                rcases hoz.2 with ⟨h', _⟩ | ⟨q', cap', cur, h', _, _, h1, h2, _⟩
                · cases h'
                · simp only [Value.slice.injEq, Option.some.injEq, Addr.mk.injEq, and_true, true_and] at h'
                  obtain ⟨rfl, rfl⟩ := h'
                  exact ⟨h1, h2⟩
              have hc1 : (k : Int) ≤ ocap := by omega
              have hc2 : ocap ≠ k := by omega
              have HOZ := hide hoz
              have HBZ := hide hbz
              generalize es[k].2 = ey at *
              clear hbz hoz
              go_wp2_with fail
              go_quiet (fail)
              have HOQ := hide (row_on HOZ.out (below_drewN (Below.refl _ _) nq))
              have HBQ := hide (HB1.out.trans (((HBZ.out.trans ((below_drewN (Below.refl _ _) nq).mono HBZ.out.size))).mono HB1.out.size))
              have b0q : (wr.drewN nq).cell? ⟨bE, 0, none⟩ = some (.int .i64 cid) := b0'
              have b1q : (wr.drewN nq).cell? ⟨bE, 1, none⟩ = some (.int .i64 y) := b1'
              clear b0' b1' ek HOZ HBZ
              generalize wr.drewN nq = W2 at *
              go_upto_region 12 with (first | (at_builtin; go_must (refine wpList_append_own _ rfl _ _ 64 rfl W2.heap.size 67 i0 _ 2 16 Tryz.underlying64 HII.out hz0 hz1 hz2 rfl (by decide) (.slice none 0 0) 0 [] (by rfl) (World.ownsRow_nil _ _ _ _) ⟨oq, 0, none⟩ k ocap (flat ((es.drop 0).take k)) (by rfl) (by rw [flat_length]; simp; omega) (fun j v hj => by rw [addr_add]; have := row_part HOQ.out 0 k (by omega) j v hj; rwa [Nat.zero_mul] at this) (flat_one _) (by unfold maxLen; omega) (by omega) (Nat.le_refl _) ?_); intro v1 w1 hown1 hgrow1 hnl1) | fail)
              have hb1 : Below W2.heap.size W2 w1 := ⟨hgrow1.os, hgrow1.tape, hgrow1.output, hgrow1.size, fun k hk => hgrow1.block k hk (by simp [Value.ownBlock])⟩
              obtain ⟨va, vl, vc, rfl⟩ := ownsRow_form hown1
              have hbe2 : bE < W2.heap.size := World.block_lt_of_cell? _ _ b0q
              have b0r := (hb1.cell (p := ⟨bE, 0, none⟩) hbe2).trans b0q
              have b1r := (hb1.cell (p := ⟨bE, 1, none⟩) hbe2).trans b1q
              have hs1 := hb1.size
              have HO1 := hide hown1
              have HB1 := hide hb1
              clear b0q b1q hown1 hgrow1 hb1
              go_upto_region 13 with (first | (at_builtin; go_must (refine wpList_append_lies _ rfl _ _ 64 rfl W2.heap.size 67 i0 _ 2 16 Tryz.underlying64 HII.out hz0 hz1 hz2 rfl (by decide) (.slice va vl vc) (0 + k) ([] ++ flat ((es.drop 0).take k)) (by rfl) (HO1.out.alloc _) ⟨w1.heap.size, 0, none⟩ 1 1 [.int .i64 cid, .int .i64 y] (by rfl) (by rfl) (World.news_of_block (cs := #[.int .i64 cid, .int .i64 y]) (t := 67) (fr := (0, 0)) (heap_alloc_new w1 _)) (by simp [Value.oneCell']) (by omega) (by unfold maxLen; omega) (by omega) (by simp; omega) (w1.heap.size + 1) (by simp) ?_); intro gg gcap w3 hown3 hgrow3 hat3 hlt3) | fail)
              have hb3 : Below W2.heap.size W2 w3 := (HB1.out.alloc hs1 _).grown hgrow3 (by simp; omega) (fun k hk => (HO1.out.lt k hk).1)
              simp only [Nat.zero_add, List.nil_append, List.drop_zero] at hown3
              have HO3 := hide hown3
              have HB3 := hide hb3
              have HOQ3 := hide (row_on HOQ.out hb3)
              have hs3 := hb3.size
              clear b0r b1r hown3 hgrow3 hb3 hat3
              go_upto_region 99 with (first | (at_builtin; go_must (refine wpList_append_own _ rfl _ _ 64 rfl W2.heap.size 67 i0 _ 2 16 Tryz.underlying64 HII.out hz0 hz1 hz2 rfl (by decide) (.slice (some ⟨gg, 0, none⟩) (k + 1) gcap) (k + 1) (flat (es.take k) ++ [.int .i64 cid, .int .i64 y]) (by rfl) HO3.out ⟨oq, k * 2, none⟩ (es.length - k) (ocap - k) (flat ((es.drop k).take (es.length - k))) (by rfl) (by rw [flat_length]; simp) (fun j v hj => by rw [addr_add]; exact row_part HOQ3.out k _ (by omega) j v hj) (flat_one _) (by unfold maxLen; omega) (by omega) hs3 ?_); intro v4 w4 hown4 hgrow4 hnl4) | fail)
              have hb4 : Below W2.heap.size W2 w4 := HB3.out.grown hgrow4 hs3 (fun k hk => (HO3.out.lt k hk).1)
              exact ⟨⟨i + 1, by omega, by omega, _, AG.ins HBQ.out hb4 hown4 (by omega) (by rw [List.take_of_length_le (show (es.drop k).length ≤ es.length - k by simp)]) HI.out hle hd' HAR.out⟩, by simp only [intOf]; omega⟩
          · have hkl' : ¬ (k : Int) < es.length := by omega
            have HI := hide (insL_at (cid, y) es k hk HP.out (fun p hp => by rw [List.getElem?_eq_none (by omega)] at hp; cases hp))
            have HBZ := hide hbz
            by_cases he0 : es.length = 0
            · have hnil := HNL.out (List.eq_nil_of_length_eq_zero he0)
              subst hnil
              have hk0 : k = 0 := by omega
              subst hk0
              have HES := hide (List.eq_nil_of_length_eq_zero he0)
              clear hbz
              go_wp2_with fail
              go_quiet (fail)
              have HBQ := hide (HB1.out.trans (((HBZ.out.trans ((below_drewN (Below.refl _ _) nq).mono HBZ.out.size))).mono HB1.out.size))
              have b0q : (wr.drewN nq).cell? ⟨bE, 0, none⟩ = some (.int .i64 cid) := b0'
              have b1q : (wr.drewN nq).cell? ⟨bE, 1, none⟩ = some (.int .i64 y) := b1'
              clear b0' b1' HBZ
              generalize wr.drewN nq = W2 at *
              go_upto_region 12 with (first | (at_builtin; go_must (refine wpList_append_own_none rfl _ _ 64 rfl W2.heap.size 67 i0 2 Tryz.underlying64 HII.out (.slice none 0 0) 0 [] (by rfl) (World.ownsRow_nil _ _ _ _) (by rfl) ?_)) | fail)
              have hbe2 : bE < W2.heap.size := World.block_lt_of_cell? _ _ b0q
              go_upto_region 13 with (first | (at_builtin; go_must (refine wpList_append_lies _ rfl _ _ 64 rfl W2.heap.size 67 i0 _ 2 16 Tryz.underlying64 HII.out hz0 hz1 hz2 rfl (by decide) (.slice none 0 0) 0 [] (by rfl) (World.ownsRow_nil _ _ _ _) ⟨W2.heap.size, 0, none⟩ 1 1 [.int .i64 cid, .int .i64 y] (by rfl) (by rfl) (World.news_of_block (cs := #[.int .i64 cid, .int .i64 y]) (t := 67) (fr := (0, 0)) (heap_alloc_new W2 _)) (by simp [Value.oneCell']) (by omega) (by unfold maxLen; omega) (by omega) (by simp) (W2.heap.size + 1) (by simp) ?_); intro gg gcap w3 hown3 hgrow3 hat3 hlt3) | fail)
              have hb3 : Below W2.heap.size W2 w3 := ((Below.refl _ _).alloc (Nat.le_refl _) _).grown hgrow3 (by simp) (fun k hk => by simp [Value.ownBlock] at hk)
              simp only [Nat.zero_add, List.nil_append] at hown3
              have HO3 := hide hown3
              have HB3 := hide hb3
              have hs3 := hb3.size
              clear b0q b1q hown3 hgrow3 hb3 hat3
              go_upto_region 99 with (first | (at_builtin; go_must (refine wpList_append_own_none rfl _ _ 64 rfl W2.heap.size 67 i0 2 Tryz.underlying64 HII.out (.slice (some ⟨gg, 0, none⟩) 1 gcap) 1 [.int .i64 cid, .int .i64 y] (by rfl) HO3.out (by rfl) ?_)) | fail)
              exact ⟨⟨i + 1, _, by go_num, by omega, AG.ins HBQ.out HB3.out HO3.out (by omega) (by rw [HES.out]; rfl) HI.out hle hd' HAR.out⟩, by simp only [intOf]; omega⟩
            · obtain ⟨oq, ocap, hov⟩ := row_some HO1.out (by omega)
              subst hov
              have hoz := row_on HO1.out hbz
              have hcap : es.length ≤ ocap ∧ ocap ≤ maxLen := by
                rcases hoz.2 with ⟨h', _⟩ | ⟨q', cap', cur, h', _, _, h1, h2, _⟩
                · cases h'
                · simp only [Value.slice.injEq, Option.some.injEq, Addr.mk.injEq, and_true, true_and] at h'
                  obtain ⟨rfl, rfl⟩ := h'
                  exact ⟨h1, h2⟩
              have hc1 : (k : Int) ≤ ocap := by omega
              have ek : True := trivial
              have HOZ := hide hoz
              clear hbz hoz
              by_cases hc2 : k = ocap
              · subst hc2
                go_wp2_with fail
                go_quiet (fail)
                have HOQ := hide (row_on HOZ.out (below_drewN (Below.refl _ _) nq))
                have HBQ := hide (HB1.out.trans (((HBZ.out.trans ((below_drewN (Below.refl _ _) nq).mono HBZ.out.size))).mono HB1.out.size))
                have b0q : (wr.drewN nq).cell? ⟨bE, 0, none⟩ = some (.int .i64 cid) := b0'
                have b1q : (wr.drewN nq).cell? ⟨bE, 1, none⟩ = some (.int .i64 y) := b1'
                clear b0' b1' ek HOZ HBZ
                generalize wr.drewN nq = W2 at *
                go_upto_region 12 with (first | (at_builtin; go_must (refine wpList_append_own _ rfl _ _ 64 rfl W2.heap.size 67 i0 _ 2 16 Tryz.underlying64 HII.out hz0 hz1 hz2 rfl (by decide) (.slice none 0 0) 0 [] (by rfl) (World.ownsRow_nil _ _ _ _) ⟨oq, 0, none⟩ k k (flat ((es.drop 0).take k)) (by rfl) (by rw [flat_length]; simp; omega) (fun j v hj => by rw [addr_add]; have := row_part HOQ.out 0 k (by omega) j v hj; rwa [Nat.zero_mul] at this) (flat_one _) (by unfold maxLen; omega) (by omega) (Nat.le_refl _) ?_); intro v1 w1 hown1 hgrow1 hnl1) | fail)
                have hb1 : Below W2.heap.size W2 w1 := ⟨hgrow1.os, hgrow1.tape, hgrow1.output, hgrow1.size, fun k hk => hgrow1.block k hk (by simp [Value.ownBlock])⟩
                obtain ⟨va, vl, vc, rfl⟩ := ownsRow_form hown1
                have hbe2 : bE < W2.heap.size := World.block_lt_of_cell? _ _ b0q
                have b0r := (hb1.cell (p := ⟨bE, 0, none⟩) hbe2).trans b0q
                have b1r := (hb1.cell (p := ⟨bE, 1, none⟩) hbe2).trans b1q
                have hs1 := hb1.size
                have HO1 := hide hown1
                have HB1 := hide hb1
                clear b0q b1q hown1 hgrow1 hb1
                go_upto_region 13 with (first | (at_builtin; go_must (refine wpList_append_lies _ rfl _ _ 64 rfl W2.heap.size 67 i0 _ 2 16 Tryz.underlying64 HII.out hz0 hz1 hz2 rfl (by decide) (.slice va vl vc) (0 + k) ([] ++ flat ((es.drop 0).take k)) (by rfl) (HO1.out.alloc _) ⟨w1.heap.size, 0, none⟩ 1 1 [.int .i64 cid, .int .i64 y] (by rfl) (by rfl) (World.news_of_block (cs := #[.int .i64 cid, .int .i64 y]) (t := 67) (fr := (0, 0)) (heap_alloc_new w1 _)) (by simp [Value.oneCell']) (by omega) (by unfold maxLen; omega) (by omega) (by simp; omega) (w1.heap.size + 1) (by simp) ?_); intro gg gcap w3 hown3 hgrow3 hat3 hlt3) | fail)
                have hb3 : Below W2.heap.size W2 w3 := (HB1.out.alloc hs1 _).grown hgrow3 (by simp; omega) (fun k hk => (HO1.out.lt k hk).1)
                simp only [Nat.zero_add, List.nil_append, List.drop_zero] at hown3
                have HO3 := hide hown3
                have HB3 := hide hb3
                have HOQ3 := hide (row_on HOQ.out hb3)
                have hs3 := hb3.size
                clear b0r b1r hown3 hgrow3 hb3 hat3
                go_upto_region 99 with (first | (at_builtin; go_must (refine wpList_append_own _ rfl _ _ 64 rfl W2.heap.size 67 i0 _ 2 16 Tryz.underlying64 HII.out hz0 hz1 hz2 rfl (by decide) (.slice (some ⟨gg, 0, none⟩) (k + 1) gcap) (k + 1) (flat (es.take k) ++ [.int .i64 cid, .int .i64 y]) (by rfl) HO3.out ⟨oq, 0, none⟩ 0 0 [] (by rfl) (by simp) (fun j v hj => by simp at hj) (by simp) (by unfold maxLen; omega) (by omega) hs3 ?_); intro v4 w4 hown4 hgrow4 hnl4) | fail)
                have hb4 : Below W2.heap.size W2 w4 := HB3.out.grown hgrow4 hs3 (fun k hk => (HO3.out.lt k hk).1)
                exact ⟨⟨i + 1, by omega, by omega, _, AG.ins HBQ.out hb4 hown4 (by omega) (by rw [List.drop_eq_nil_of_le (by omega)]; rfl) HI.out hle hd' HAR.out⟩, by simp only [intOf]; omega⟩
              · have hc2 : ocap ≠ k := fun h => hc2 h.symm
                go_wp2_with fail
                go_quiet (fail)
                have HOQ := hide (row_on HOZ.out (below_drewN (Below.refl _ _) nq))
                have HBQ := hide (HB1.out.trans (((HBZ.out.trans ((below_drewN (Below.refl _ _) nq).mono HBZ.out.size))).mono HB1.out.size))
                have b0q : (wr.drewN nq).cell? ⟨bE, 0, none⟩ = some (.int .i64 cid) := b0'
                have b1q : (wr.drewN nq).cell? ⟨bE, 1, none⟩ = some (.int .i64 y) := b1'
                clear b0' b1' ek HOZ HBZ
                generalize wr.drewN nq = W2 at *
                go_upto_region 12 with (first | (at_builtin; go_must (refine wpList_append_own _ rfl _ _ 64 rfl W2.heap.size 67 i0 _ 2 16 Tryz.underlying64 HII.out hz0 hz1 hz2 rfl (by decide) (.slice none 0 0) 0 [] (by rfl) (World.ownsRow_nil _ _ _ _) ⟨oq, 0, none⟩ k ocap (flat ((es.drop 0).take k)) (by rfl) (by rw [flat_length]; simp; omega) (fun j v hj => by rw [addr_add]; have := row_part HOQ.out 0 k (by omega) j v hj; rwa [Nat.zero_mul] at this) (flat_one _) (by unfold maxLen; omega) (by omega) (Nat.le_refl _) ?_); intro v1 w1 hown1 hgrow1 hnl1) | fail)
                have hb1 : Below W2.heap.size W2 w1 := ⟨hgrow1.os, hgrow1.tape, hgrow1.output, hgrow1.size, fun k hk => hgrow1.block k hk (by simp [Value.ownBlock])⟩
                obtain ⟨va, vl, vc, rfl⟩ := ownsRow_form hown1
                have hbe2 : bE < W2.heap.size := World.block_lt_of_cell? _ _ b0q
                have b0r := (hb1.cell (p := ⟨bE, 0, none⟩) hbe2).trans b0q
                have b1r := (hb1.cell (p := ⟨bE, 1, none⟩) hbe2).trans b1q
                have hs1 := hb1.size
                have HO1 := hide hown1
                have HB1 := hide hb1
                clear b0q b1q hown1 hgrow1 hb1
                go_upto_region 13 with (first | (at_builtin; go_must (refine wpList_append_lies _ rfl _ _ 64 rfl W2.heap.size 67 i0 _ 2 16 Tryz.underlying64 HII.out hz0 hz1 hz2 rfl (by decide) (.slice va vl vc) (0 + k) ([] ++ flat ((es.drop 0).take k)) (by rfl) (HO1.out.alloc _) ⟨w1.heap.size, 0, none⟩ 1 1 [.int .i64 cid, .int .i64 y] (by rfl) (by rfl) (World.news_of_block (cs := #[.int .i64 cid, .int .i64 y]) (t := 67) (fr := (0, 0)) (heap_alloc_new w1 _)) (by simp [Value.oneCell']) (by omega) (by unfold maxLen; omega) (by omega) (by simp; omega) (w1.heap.size + 1) (by simp) ?_); intro gg gcap w3 hown3 hgrow3 hat3 hlt3) | fail)
                have hb3 : Below W2.heap.size W2 w3 := (HB1.out.alloc hs1 _).grown hgrow3 (by simp; omega) (fun k hk => (HO1.out.lt k hk).1)
                simp only [Nat.zero_add, List.nil_append, List.drop_zero] at hown3
                have HO3 := hide hown3
                have HB3 := hide hb3
                have HOQ3 := hide (row_on HOQ.out hb3)
                have hs3 := hb3.size
                clear b0r b1r hown3 hgrow3 hb3 hat3
                go_upto_region 99 with (first | (at_builtin; go_must (refine wpList_append_own _ rfl _ _ 64 rfl W2.heap.size 67 i0 _ 2 16 Tryz.underlying64 HII.out hz0 hz1 hz2 rfl (by decide) (.slice (some ⟨gg, 0, none⟩) (k + 1) gcap) (k + 1) (flat (es.take k) ++ [.int .i64 cid, .int .i64 y]) (by rfl) HO3.out ⟨oq, k * 2, none⟩ (es.length - k) (ocap - k) (flat ((es.drop k).take (es.length - k))) (by rfl) (by rw [flat_length]; simp) (fun j v hj => by rw [addr_add]; exact row_part HOQ3.out k _ (by omega) j v hj) (flat_one _) (by unfold maxLen; omega) (by omega) hs3 ?_); intro v4 w4 hown4 hgrow4 hnl4) | fail)
                have hb4 : Below W2.heap.size W2 w4 := HB3.out.grown hgrow4 hs3 (fun k hk => (HO3.out.lt k hk).1)
                exact ⟨⟨i + 1, by omega, by omega, _, AG.ins HBQ.out hb4 hown4 (by omega) (by rw [List.take_of_length_le (show (es.drop k).length ≤ es.length - k by simp)]) HI.out hle hd' HAR.out⟩, by simp only [intOf]; omega⟩
    · have hdr : l.drop i = [] := List.drop_eq_nil_of_le (by omega)
      have HRS := hide (show agendaL l [] = es by rw [← A.res, hdr]; rfl)
      have HA := hide A
      clear A
      go_wp2_with fail
      go_ret
      rw [HRS.out]
      exact ⟨_, rfl, HA.out.own, HA.out.nl, HR.out.on HA.out.below, Fr.of_below HA.out.below⟩
end
end Go.Proofs.YtcnmbldikjljeaaGreatDoor
