import Derived.Test.YtcnmbldikjljeaaGreatDoorT23
import Derived.Test.YtcnmbldikjljeaaGreatDoorT15
import Derived.Test.YtcnmbldikjljeaaGreatDoorT07
import Derived.Test.YtcnmbldikjljeaaGreatDoorT12
import Derived.Test.YtcnmbldikjljeaaGreatDoorT03
namespace Go.Proofs.YtcnmbldikjljeaaGreatDoor
open Go.RowKit

/-- the minutes of a calendar, by their numbers -/
def FF (raw : Nat → List (Int × Int)) (fr : Nat → Bool) (m : Nat) : Bool := openL raw fr m
theorem ff_eq (raw : Nat → List (Int × Int)) (fr : Nat → Bool) (t : Int) (h0 : 0 ≤ t) (_h1 : t < 100800) : openL raw fr t = FF raw fr t.toNat := by
  unfold FF; rw [show ((t.toNat : Nat) : Int) = t by omega]
theorem mo_week : (parseL moB).2.week 0 = [(540, 600)] := by kernel_rfl
theorem mo_free : (parseL moB).2.free 0 = false := by kernel_rfl
theorem mo_at (m : Nat) (h : m < 1440) : FF (parseL moB).2.week (parseL moB).2.free m = decide (540 ≤ m ∧ m < 600) := by
  unfold FF openL
  rw [show ((m : Int) / 1440).toNat = 0 by omega, show ((m : Int) / 1440 % 7).toNat = 0 by omega, mo_free, mo_week, show (m : Int) % 1440 = m by omega]
  rw [Bool.eq_iff_iff]
  simp [hitL]
  omega
theorem mo_cnt (y : Int) (h0 : 0 ≤ y) (h1 : y ≤ 1440) : cnt (FF (parseL moB).2.week (parseL moB).2.free) y.toNat = if y ≤ 540 then 0 else if y ≤ 600 then y - 540 else 60 := by
  have hat := mo_at
  generalize FF (parseL moB).2.week (parseL moB).2.free = F at *
  have z : cnt F (0 : Int).toNat = 0 := rfl
  have run1 : ∀ c : Int, 0 ≤ c → c ≤ 540 → cnt F c.toNat - cnt F (0 : Int).toNat = 0 := fun c c0 c1 => by
    rw [cnt_run F 0 c false (Int.le_refl _) c0 (fun m g0 g1 => by rw [hat _ (by omega)]; simp; omega)]; rfl
  have run2 : ∀ c : Int, 540 ≤ c → c ≤ 600 → cnt F c.toNat - cnt F (540 : Int).toNat = c - 540 := fun c c0 c1 => by
    rw [cnt_run F 540 c true (by omega) c0 (fun m g0 g1 => by rw [hat _ (by omega)]; simp; omega)]; rfl
  have run3 : ∀ c : Int, 600 ≤ c → c ≤ 1440 → cnt F c.toNat - cnt F (600 : Int).toNat = 0 := fun c c0 c1 => by
    rw [cnt_run F 600 c false (by omega) c0 (fun m g0 g1 => by rw [hat _ (by omega)]; simp; omega)]; rfl
  have r1 := run1 540 (by omega) (by omega)
  have r2 := run2 600 (by omega) (by omega)
  by_cases a : y ≤ 540
  · rw [if_pos a]; have := run1 y h0 a; omega
  · rw [if_neg a]
    by_cases b : y ≤ 600
    · rw [if_pos b]; have := run2 y (by omega) b; omega
    · rw [if_neg b]; have := run3 y (by omega) h1; omega
theorem mo_add : AddN (FF (parseL moB).2.week (parseL moB).2.free) 0 60 600 := by
  refine ⟨by omega, by omega, ?_, fun y y0 y1 => ?_⟩
  · rw [mo_cnt 600 (by omega) (by omega), mo_cnt 0 (by omega) (by omega)]; rfl
  · rw [mo_cnt y (by omega) (by omega), mo_cnt 0 (by omega) (by omega)]
    split <;> simp <;> omega
theorem mo_btw : cnt (FF (parseL moB).2.week (parseL moB).2.free) (1000 : Int).toNat - cnt (FF (parseL moB).2.week (parseL moB).2.free) (0 : Int).toNat = 60 := by
  rw [mo_cnt 1000 (by omega) (by omega), mo_cnt 0 (by omega) (by omega)]; rfl
set_option maxRecDepth 100000 in
set_option maxHeartbeats 1000000 in
theorem reckons_any (w : World) (h0 : 0 < w.heap.size) (hnm : ∀ j, j < 7 → w.cell? ⟨0, j, none⟩ = some (nmV j)) :
    Calls Tryz.prog 62 #[] w fun e w' => e = .returned (.bool true) ∧ Below w.heap.size w w' := by
  have HNM := hide hnm
  clear hnm
  go_enter Tryz.func62, Tryz.ntmps62
  go_wp2_with fail
  refine (reads_any w h0 HNM.out).mono ?_
  rintro e w0 ⟨rfl, hb0⟩
  go_wp2_with fail
  refine (parse_any moB w0 (by have := hb0.size; omega) (nm_on h0 HNM.out hb0) (by decide)).mono ?_
  rintro e w1 ⟨hb1, ⟨_, g, hg, rfl, C⟩ | ⟨hno, _⟩⟩
  · have hb01 := hb0.trans (hb1.mono hb0.size)
    go_wp2_with fail
    refine (between_any g _ _ (FF (parseL moB).2.week (parseL moB).2.free) 0 1000 w1 C (parse_len moB (by decide) mo_ok) (ff_eq _ _) (by omega) (by omega) (by omega)).mono ?_
    rw [mo_btw]
    rintro e w2 ⟨rfl, hb2⟩
    have hb02 := hb01.trans (hb2.mono hb01.size)
    go_wp2_with fail
    refine (add_any g _ _ (FF (parseL moB).2.week (parseL moB).2.free) 0 60 w2 (C.on hb2) (parse_len moB (by decide) mo_ok) (ff_eq _ _) (by omega) (by omega) (by omega) (by omega)).mono ?_
    rintro e w3 ⟨⟨x, hx, rfl⟩ | ⟨hx, _⟩, hb3⟩
    · obtain rfl := addN_uniq hx mo_add
      have HB := hide (hb02.trans (hb3.mono hb02.size))
      clear hx
      go_wp2_with fail
      go_ret
      exact ⟨rfl, HB.out⟩
    · exact (addN_never mo_add hx).elim
  · rw [mo_ok] at hno; cases hno
end Go.Proofs.YtcnmbldikjljeaaGreatDoor
namespace Go.Proofs.YtcnmbldikjljeaaGreatDoor
open Go.RowKit

set_option maxRecDepth 100000 in
set_option maxHeartbeats 1000000 in
theorem readF_any (es : List Ent) (fs : List Int) (ae af : Option Addr) (ce cf : Nat) (w : World) (h0 : 0 < w.heap.size) (hnm : ∀ j, j < 7 → w.cell? ⟨0, j, none⟩ = some (nmV j)) (K : WK w es fs ae af)
    (hok : (parseL (txtB es fs)).1 = true) (hsz : (theTxt es fs).length ≤ 200) :
    Calls Tryz.prog 33 #[.agg #[.slice ae es.length ce, .slice af fs.length cf]] w fun e w' => ∃ g X, e = .returned (.tuple #[P0 g, .slice (some ⟨X + 1, 0, none⟩) 672 672, .slice (some ⟨X + 2, 0, none⟩) 70 70]) ∧ Below w.heap.size w w' ∧ w.heap.size ≤ g ∧ CalF w' g (parseL (txtB es fs)).2.week (parseL (txtB es fs)).2.free := by
  have HNM := hide hnm
  have HOK := hide hok
  clear hnm hok
  have hbA : Below w.heap.size w (w.alloc (Obj.cells #[.slice ae es.length ce, .slice af fs.length cf] 28)) := (Below.refl _ _).alloc (Nat.le_refl _) _
  go_enter Tryz.func33, Tryz.ntmps33
  go_wp2_with fail
  refine (reads_any _ (by simp) (nm_on h0 HNM.out hbA)).mono ?_
  rintro e w1 ⟨rfl, hb1⟩
  have c0 : w1.cell? ⟨w.heap.size, 0, none⟩ = some (.slice ae es.length ce) := (hb1.cell (p := ⟨w.heap.size, 0, none⟩) (by simp)).trans (World.cell?_alloc_at _ _ _ _ rfl)
  have c1 : w1.cell? ⟨w.heap.size, 1, none⟩ = some (.slice af fs.length cf) := (hb1.cell (p := ⟨w.heap.size, 1, none⟩) (by simp)).trans (World.cell?_alloc_at _ _ _ _ rfl)
  have hb01 : Below w.heap.size w w1 := hbA.trans (hb1.mono (by simp))
  have K1 := K.on hb01
  go_wp2_with fail
  refine (text_any es fs ae af ce cf _ K1.E K1.F K1.lf K1.le).mono ?_
  rintro e w2 ⟨rfl, T⟩
  have hb12 : Below w1.heap.size w1 w2 := T.below
  have hb02 : Below w.heap.size w w2 := hb01.trans (hb12.mono hb01.size)
  go_wp2_with fail
  refine (parseF_any (txtB es fs) w2 (by have := hb02.size; omega) (nm_on h0 HNM.out hb02) (by show (theTxt es fs).toArray.size ≤ 200; simpa using hsz)).mono ?_
  rintro e w3 ⟨hb3, ⟨_, g, hg, rfl, C⟩ | ⟨hno, _⟩⟩
  · have hs2 := hb02.size
    go_wp2_with fail
    go_ret3
    exact ⟨g, w1.heap.size, rfl, hb02.trans (hb3.mono hb02.size), by omega, C⟩
  · rw [HOK.out] at hno; cases hno
/-! works -/
def st0 : List Stg := [⟨[(30, 7)], []⟩]
abbrev F0 : Nat → Bool := FF (parseL moB).2.week (parseL moB).2.free
theorem mo_add30 : AddN F0 0 30 570 := by
  refine ⟨by omega, by omega, ?_, fun y y0 y1 => ?_⟩
  · rw [mo_cnt 570 (by omega) (by omega), mo_cnt 0 (by omega) (by omega)]; rfl
  · rw [mo_cnt y (by omega) (by omega), mo_cnt 0 (by omega) (by omega)]
    split <;> simp <;> omega
theorem st0_check : checkL st0 = true := by decide
theorem st0_rm : Rm st0 := ⟨by decide, fun i hi => by
    have : i = 0 := by simp [st0] at hi; omega
    subst this; decide, fun i hi => by
    have : i = 0 := by simp [st0] at hi; omega
    subst this; decide⟩
def d1 : Dk := ⟨0, 1, 0, [⟨1, 0, 0, 570, false, 0⟩]⟩
theorem open0 : openC F0 st0 ⟨0, 0, 0, []⟩ 0 = (d1, 1, 0) := by
  unfold openC
  rw [if_neg (by simp [st0]), if_neg (by simp)]
  unfold comesL armsL
  rw [if_neg (by simp [st0, stAt])]
  have e : (lvAt (stAt st0 0) 0).1 = 30 := by rfl
  rw [e, addO_of (by omega) mo_add30]
  rfl
theorem tick0 : tickC F0 st0 d1 1000 = (⟨1000, 1, 1, [⟨1, 0, 0, -1, false, 0⟩]⟩, [⟨1, 570, 1, 0, 0, 7⟩], 0) := by
  have e1 : comesL F0 st0 ⟨1, 0, 0, 570, false, 0⟩ 1 570 = ⟨1, 0, 0, -1, false, 0⟩ := by
    unfold comesL
    rw [if_pos (by simp [st0, stAt])]
  have hs : StOk st0 := (check_stok st0_check (fun i hi => by
    have : i = 0 := by simp [st0] at hi; omega
    subst this; decide)).1
  have hok : ∀ x ∈ d1.cases, CsOk st0 x := fun x hx => by
    simp only [d1, List.mem_singleton] at hx
    subst hx
    exact ⟨by decide, by decide, by decide, by decide, by decide, by decide, fun _ => by decide, by decide, by decide⟩
  have m := tick_more (F := F0) (T := 1000) (k := 0) (l := d1.cases) hs hok (i := 0) rfl (by decide)
  have e2 : d1.cases.set 0 (comesL F0 st0 (csAt d1.cases (0 : Nat)) ((csAt d1.cases (0 : Nat)).level + 1) (csAt d1.cases (0 : Nat)).due) = [⟨1, 0, 0, -1, false, 0⟩] := by
    rw [show comesL F0 st0 (csAt d1.cases (0 : Nat)) ((csAt d1.cases (0 : Nat)).level + 1) (csAt d1.cases (0 : Nat)).due = ⟨1, 0, 0, -1, false, 0⟩ from e1]
    rfl
  rw [e2, tick_done (l := [(⟨1, 0, 0, -1, false, 0⟩ : Cs)]) (.inl (by decide))] at m
  have e5 : tickC F0 st0 d1 1000 = (⟨1000, 1, (tickGo F0 st0 1000 (leftL st0 d1.cases) d1.cases 0).2.2, (tickGo F0 st0 1000 (leftL st0 d1.cases) d1.cases 0).2.1⟩, (tickGo F0 st0 1000 (leftL st0 d1.cases) d1.cases 0).1, 0) := by
    unfold tickC
    rw [if_neg (by simp [d1])]
    rfl
  rw [e5, m]
  rfl
end Go.Proofs.YtcnmbldikjljeaaGreatDoor
namespace Go.Proofs.YtcnmbldikjljeaaGreatDoor
open Go.RowKit

def feed : List Int → RS → Option RS
  | [], s => some s
  | c :: cs, s => if (takeL s c).1 = true then feed cs { (takeL s c).2 with place := (takeL s c).2.place + 1 } else none
theorem feed_app {a b : List Int} {s s1 s2 : RS} (h1 : feed a s = some s1) (h2 : feed b s1 = some s2) : feed (a ++ b) s = some s2 := by
  induction a generalizing s with
  | nil => simp only [feed, Option.some.injEq] at h1; subst h1; simpa using h2
  | cons c a ih =>
    simp only [List.cons_append, feed] at h1 ⊢
    split
    · rename_i g; rw [if_pos g] at h1; exact ih h1
    · rename_i g; rw [if_neg g] at h1; cases h1
theorem loop_feed {a b : List Int} {s s1 : RS} (h : feed a s = some s1) : loopL (a ++ b) s = loopL b s1 := by
  induction a generalizing s with
  | nil => simp only [feed, Option.some.injEq] at h; subst h; rfl
  | cons c a ih =>
    simp only [List.cons_append, feed, loopL] at h ⊢
    split
    · rename_i g; rw [if_pos g] at h; exact ih h
    · rename_i g; rw [if_neg g] at h; cases h
theorem feed1 {c : Int} {s s1 : RS} (h : takeL s c = (true, s1)) : feed [c] s = some { s1 with place := s1.place + 1 } := by
  simp [feed, h]
def txtI (l : List UInt8) : List Int := l.map fun b => (b.toNat : Int)
theorem txtI_app (a b : List UInt8) : txtI (a ++ b) = txtI a ++ txtI b := by simp [txtI]

/-- all but state, place, letter and days -/
structure Sm (s t : RS) : Prop where
  beg : t.beg = s.beg
  time : t.time = s.time
  num : t.num = s.num
  ahead : t.ahead = s.ahead
  week : t.week = s.week
  free : t.free = s.free
theorem Sm.refl (s : RS) : Sm s s := ⟨rfl, rfl, rfl, rfl, rfl, rfl⟩
theorem Sm.trans {a b c : RS} (h : Sm a b) (k : Sm b c) : Sm a c := ⟨k.beg.trans h.beg, k.time.trans h.time, k.num.trans h.num, k.ahead.trans h.ahead, k.week.trans h.week, k.free.trans h.free⟩

theorem feed_two (a b : Int) (k : Nat) (hk : k < 7) (s : RS) (h : s.st = 0) (hf : isFirst a = true) (hd : dayOf a b = k) :
    ∃ s', feed [a, b] s = some s' ∧ s'.st = 2 ∧ s'.days = (fun j => if j = k then true else s.days j) ∧ Sm s s' := by
  have t1 : takeL s a = (true, { s with letter := a, st := 1 }) := by rw [take_st0 _ h]; unfold dayFirstL; rw [hf]; rfl
  have t2 : ∀ s : RS, s.st = 1 → s.letter = a → takeL s b = (true, { s with days := fun j => if j = k then true else s.days j, st := 2 }) := by
    intro s h hl; rw [take_st1 _ h]; unfold daySecondL; rw [hl, hd, if_pos hk]
  refine ⟨{ s with letter := a, days := fun j => if j = k then true else s.days j, st := 2, place := s.place + 1 + 1 }, ?_, rfl, rfl, ⟨rfl, rfl, rfl, rfl, rfl, rfl⟩⟩
  simp only [feed]
  rw [t1]
  simp only [if_true]
  rw [t2 _ rfl rfl]
  simp only [if_true]
theorem feed_nm (k : Nat) (hk : k < 7) (s : RS) (h : s.st = 0) : ∃ s', feed (txtI (nm k)) s = some s' ∧ s'.st = 2 ∧ s'.days = (fun j => if j = k then true else s.days j) ∧ Sm s s' := by
  match k, hk with
  | 0, hk => exact feed_two 77 111 0 hk s h rfl rfl
  | 1, hk => exact feed_two 84 117 1 hk s h rfl rfl
  | 2, hk => exact feed_two 87 101 2 hk s h rfl rfl
  | 3, hk => exact feed_two 84 104 3 hk s h rfl rfl
  | 4, hk => exact feed_two 70 114 4 hk s h rfl rfl
  | 5, hk => exact feed_two 83 97 5 hk s h rfl rfl
  | 6, hk => exact feed_two 83 117 6 hk s h rfl rfl

theorem feed_comma (s : RS) (h : s.st = 2) : ∃ s', feed [44] s = some s' ∧ s'.st = 0 ∧ s'.days = s.days ∧ Sm s s' :=
  ⟨_, feed1 (s1 := { s with st := 0 }) (by rw [take_st2 _ h]; simp [dayEndL]), rfl, rfl, ⟨rfl, rfl, rfl, rfl, rfl, rfl⟩⟩

theorem feed_days (D : Int) (s : RS) (h : s.st = 0) (hd : s.days = fun _ => false) : ∀ k, k ≤ 7 →
    ∃ s', feed (txtI (daysTo D k)) s = some s' ∧ s'.st = (if anyTo D k then 2 else 0) ∧ s'.days = (fun j => decide (j < k) && dset D j) ∧ Sm s s' := by
  intro k
  induction k with
  | zero => intro _; exact ⟨s, rfl, by simp [anyTo, h], by rw [hd]; funext j; simp, Sm.refl s⟩
  | succ k ih =>
    intro hk
    obtain ⟨s1, f1, st1, d1, m1⟩ := ih (by omega)
    simp only [daysTo]
    cases hds : dset D k
    · refine ⟨s1, by simpa [hds] using f1, by rw [st1]; simp [anyTo, hds], ?_, m1⟩
      rw [d1]; funext j
      by_cases e : j = k
      · subst e; simp [hds]
      · have : (j < k) ↔ (j < k + 1) := by omega
        simp [decide_eq_decide.2 this]
    · simp only [if_true]
      have hst : ∃ s2, feed (txtI (comma (anyTo D k))) s1 = some s2 ∧ s2.st = 0 ∧ s2.days = s1.days ∧ Sm s1 s2 := by
        cases ha : anyTo D k
        · rw [ha] at st1; exact ⟨s1, rfl, by simpa using st1, rfl, Sm.refl _⟩
        · rw [ha] at st1; exact feed_comma s1 (by simpa using st1)
      obtain ⟨s2, f2, st2, d2, m2⟩ := hst
      obtain ⟨s3, f3, st3, d3, m3⟩ := feed_nm k (by omega) s2 st2
      refine ⟨s3, ?_, by rw [st3]; simp [anyTo, hds], ?_, m1.trans (m2.trans m3)⟩
      · rw [txtI_app, txtI_app]; exact feed_app f1 (feed_app f2 f3)
      · rw [d3, d2, d1]; funext j
        by_cases e : j = k
        · subst e; simp [hds]
        · have : (j < k) ↔ (j < k + 1) := by omega
          simp [e, decide_eq_decide.2 this]

theorem byte_val (x : Int) (h0 : 0 ≤ x) (h1 : x ≤ 200) : ((UInt8.ofNat x.toNat).toNat : Int) = x := by
  rw [UInt8.toNat_ofNat']; omega

/-- the time's four digits and the colon -/
theorem feed_ck (q : Int) (h0 : 0 ≤ q) (h1 : q ≤ 96) (s : RS) (h : s.st = 3) (ht : s.time = 0) :
    ∃ s1, feed (txtI (ck q)) s = (if (endTimeL s1).1 = true then some { (endTimeL s1).2 with place := (endTimeL s1).2.place + 1 } else none) ∧ s1.time = 15 * q ∧ s1.st = 9 ∧ s1.days = s.days ∧ s1.beg = s.beg ∧ s1.num = s.num ∧ s1.ahead = s.ahead ∧ s1.week = s.week ∧ s1.free = s.free := by
  have e1 := byte_val (48 + q / 4 / 10) (by omega) (by omega)
  have e2 := byte_val (48 + q / 4 % 10) (by omega) (by omega)
  have e3 := byte_val (48 + q % 4 * 15 / 10) (by omega) (by omega)
  have e4 := byte_val (48 + q % 4 * 15 % 10) (by omega) (by omega)
  have hl : txtI (ck q) = [48 + q / 4 / 10, 48 + q / 4 % 10, 58, 48 + q % 4 * 15 / 10, 48 + q % 4 * 15 % 10] := by
    simp only [ck, dg, txtI, List.cons_append, List.nil_append, List.map_cons, List.map_nil, e1, e2, e3, e4]
    rfl
  rw [hl]
  have t1 : takeL s (48 + q / 4 / 10) = (true, { s with time := 600 * (q / 4 / 10), st := 4 }) := by
    rw [take_st3 _ h]; unfold timeDigitL; rw [if_pos ⟨by omega, by omega, by rw [ht]; omega⟩, ht]
    congr 2; omega
  have t2 : ∀ s : RS, s.st = 4 → s.time = 600 * (q / 4 / 10) → takeL s (48 + q / 4 % 10) = (true, { s with time := 60 * (q / 4), st := 5 }) := by
    intro s h ht
    rw [take_st4 _ h]; unfold timeDigitL; rw [if_pos ⟨by omega, by omega, by rw [ht]; omega⟩, ht]
    congr 2; omega
  have t3 : ∀ s : RS, s.st = 5 → takeL s 58 = (true, { s with st := 6 }) := by
    intro s h; rw [take_st5 _ h]; unfold markL; rw [if_pos rfl]
  have t4 : ∀ s : RS, s.st = 6 → s.time = 60 * (q / 4) → takeL s (48 + q % 4 * 15 / 10) = (true, { s with time := 60 * (q / 4) + 10 * (q % 4 * 15 / 10), st := 7 }) := by
    intro s h ht
    rw [take_st6 _ h]; unfold timeDigitL; rw [if_pos ⟨by omega, by omega, by rw [ht]; omega⟩, ht]
    congr 2; omega
  have t5 : ∀ s : RS, s.st = 7 → s.time = 60 * (q / 4) + 10 * (q % 4 * 15 / 10) → takeL s (48 + q % 4 * 15 % 10) = endTimeL { s with time := 15 * q, st := 9 } := by
    intro s h ht
    have e : timeDigitL s (48 + q % 4 * 15 % 10) 9 1 9 = (true, { s with time := 15 * q, st := 9 }) := by
      unfold timeDigitL; rw [if_pos ⟨by omega, by omega, by rw [ht]; omega⟩, ht]
      congr 2; omega
    rw [take_st7 _ h]; unfold minOnesL; rw [e]; rfl
  refine ⟨{ s with time := 15 * q, st := 9, place := s.place + 1 + 1 + 1 + 1 }, ?_, rfl, rfl, rfl, rfl, rfl, rfl, rfl, rfl⟩
  simp only [feed]
  rw [t1]
  simp only [if_true]
  rw [t2 _ rfl rfl]
  simp only [if_true]
  rw [t3 _ rfl]
  simp only [if_true]
  rw [t4 _ rfl rfl]
  simp only [if_true]
  rw [t5 _ rfl rfl]
end Go.Proofs.YtcnmbldikjljeaaGreatDoor
namespace Go.Proofs.YtcnmbldikjljeaaGreatDoor
open Go.RowKit

theorem any7 (D : Int) (h0 : 1 ≤ D) (h1 : D ≤ 127) : anyTo D 7 = true := by
  cases h : anyTo D 7
  · exfalso
    simp only [anyTo, dset, Bool.or_eq_false_iff, Bool.not_eq_false', beq_iff_eq, Int.pow_succ, Int.pow_zero] at h
    omega
  · rfl

theorem eFrom_lo (e : Ent) : 0 ≤ eFrom e := pk_lo _ _ (by omega)
theorem eFrom_hi (e : Ent) : eFrom e < 96 := pk_hi _ _ (by omega)
theorem eTo_lo (e : Ent) : eFrom e < eTo e := by have := pk_lo e.2.2 (96 - eFrom e) (by have := eFrom_hi e; omega); unfold eTo; omega
theorem eTo_hi (e : Ent) : eTo e ≤ 96 := by have := pk_hi e.2.2 (96 - eFrom e) (by have := eFrom_hi e; omega); unfold eTo; omega

def addE (wk : Nat → List (Int × Int)) (e : Ent) : Nat → List (Int × Int) := fun j => if (decide (j < 7) && dset (eDays e) j) = true then wk j ++ [(15 * eFrom e, 15 * eTo e)] else wk j

theorem feed_entry (e : Ent) (s : RS) (h : s.st = 0) (hd : s.days = fun _ => false) (hb : s.beg = -1) (ht : s.time = 0) :
    ∃ s', feed (txtI (entTxt e)) s = some s' ∧ s'.st = 9 ∧ s'.beg = -1 ∧ s'.time = 0 ∧ s'.num = s.num ∧ s'.ahead = s.ahead ∧ s'.free = s.free ∧ s'.week = addE s.week e := by
  obtain ⟨s1, f1, st1, d1, m1⟩ := feed_days (eDays e) s h hd 7 (by omega)
  rw [any7 _ (eDays_lo e) (eDays_hi e)] at st1
  simp only [if_true] at st1
  have f2 : feed [32] s1 = some { s1 with st := 3, place := s1.place + 1 } := feed1 (s1 := { s1 with st := 3 }) (by rw [take_st2 _ st1]; simp [dayEndL, markL])
  have q0 := eFrom_lo e
  have q1 := eFrom_hi e
  have q2 := eTo_lo e
  have q3 := eTo_hi e
  obtain ⟨t1, f3, a1, a2, a3, a4, a5, a6, a7, a8⟩ := feed_ck (eFrom e) q0 (by omega) { s1 with st := 3, place := s1.place + 1 } rfl (by show s1.time = 0; rw [m1.time, ht])
  have b1 : endTimeL t1 = (true, { t1 with time := 0, beg := t1.time, st := 8 }) := by
    unfold endTimeL; rw [if_pos (by rw [a4]; show s1.beg = -1; rw [m1.beg, hb])]
  rw [b1] at f3
  simp only [if_true] at f3
  have f4 : ∀ u : RS, u.st = 8 → feed [45] u = some { u with st := 3, place := u.place + 1 } := fun u hu => feed1 (s1 := { u with st := 3 }) (by rw [take_st8 _ hu]; simp [markL])
  have f4' := f4 { t1 with time := 0, beg := t1.time, st := 8, place := t1.place + 1 } rfl
  obtain ⟨t2, f5, c1, c2, c3, c4, c5, c6, c7, c8⟩ := feed_ck (eTo e) (by omega) q3 { t1 with time := 0, beg := t1.time, st := 3, place := t1.place + 1 + 1 } rfl rfl
  have c4' : t2.beg = 15 * eFrom e := by rw [c4]; exact a1
  have b2 : endTimeL t2 = (true, { t2 with time := 0, week := addW t2 (t2.beg, t2.time), beg := -1 }) := by
    unfold endTimeL; rw [if_neg (by rw [c4']; omega), if_neg (by rw [c4', c1]; omega)]
  rw [b2] at f5
  simp only [if_true] at f5
  refine ⟨{ t2 with time := 0, week := addW t2 (t2.beg, t2.time), beg := -1, place := t2.place + 1 }, ?_, c2, rfl, rfl, ?_, ?_, ?_, ?_⟩
  · unfold entTxt
    rw [txtI_app, txtI_app, txtI_app, txtI_app]
    exact feed_app (feed_app (feed_app (feed_app f1 f2) f3) f4') f5
  · show t2.num = s.num; rw [c5]; show t1.num = _; rw [a5]; exact m1.num
  · show t2.ahead = s.ahead; rw [c6]; show t1.ahead = _; rw [a6]; exact m1.ahead
  · show t2.free = s.free; rw [c8]; show t1.free = _; rw [a8]; exact m1.free
  · show addW t2 (t2.beg, t2.time) = _
    have hw : t2.week = s.week := by rw [c7]; show t1.week = _; rw [a7]; exact m1.week
    have hdd : t2.days = (fun j => decide (j < 7) && dset (eDays e) j) := by rw [c3]; show t1.days = _; rw [a3]; exact d1
    funext j
    simp only [addW, addE, hw, hdd, c4', c1]

def spansTo (es : List Ent) : Nat → Nat → List (Int × Int)
  | 0 => fun _ => []
  | k + 1 => addE (spansTo es k) (ent es k)

theorem feed_entries (es : List Ent) : ∀ k, 1 ≤ k →
    ∃ s', feed (txtI (txtTo es k)) rs0 = some s' ∧ s'.st = 9 ∧ s'.beg = -1 ∧ s'.time = 0 ∧ s'.num = 0 ∧ s'.ahead = -1 ∧ s'.free = (fun _ => false) ∧ s'.week = spansTo es k := by
  intro k
  induction k with
  | zero => intro h; omega
  | succ k ih =>
    intro _
    simp only [txtTo]
    by_cases hk : k = 0
    · subst hk
      obtain ⟨s', f, h1, h2, h3, h4, h5, h6, h7⟩ := feed_entry (ent es 0) rs0 rfl rfl rfl rfl
      exact ⟨s', by simpa [txtTo] using f, h1, h2, h3, h4, h5, h6, h7⟩
    · obtain ⟨s1, f1, h1, h2, h3, h4, h5, h6, h7⟩ := ih (by omega)
      have f2 : feed [59] s1 = some { s1 with st := 0, days := fun _ => false, place := s1.place + 1 } := feed1 (s1 := { s1 with st := 0, days := fun _ => false }) (by rw [take_st9 _ h1]; simp [spanEndL])
      obtain ⟨s', f, g1, g2, g3, g4, g5, g6, g7⟩ := feed_entry (ent es k) { s1 with st := 0, days := fun _ => false, place := s1.place + 1 } rfl rfl h2 h3
      refine ⟨s', ?_, g1, g2, g3, g4.trans h4, g5.trans h5, g6.trans h6, ?_⟩
      · rw [if_neg hk, txtI_app, txtI_app]; exact feed_app (feed_app f1 f2) f
      · rw [g7]; show addE s1.week _ = _; rw [h7]; rfl
end Go.Proofs.YtcnmbldikjljeaaGreatDoor
namespace Go.Proofs.YtcnmbldikjljeaaGreatDoor
open Go.RowKit

def putF (f : Nat → Bool) (n : Int) : Nat → Bool := fun j => if j = n.toNat then true else f j
/-- a number has been read: it is still open, or done -/
def Pend (s : RS) (n : Int) (f : Nat → Bool) (wk : Nat → List (Int × Int)) : Prop :=
  s.week = wk ∧ ((s.st = 11 ∧ s.num = n ∧ s.ahead < n ∧ n < 10 ∧ s.free = f) ∨ (s.st = 12 ∧ s.ahead = n ∧ s.free = putF f n))
theorem endNum_ok {s : RS} (h1 : s.num < 70) (h2 : s.ahead < s.num) : endNumL s = (true, { s with free := putF s.free s.num, ahead := s.num, st := 12 }) := by
  unfold endNumL; rw [if_neg (by omega)]; rfl
theorem endShort_ok {s : RS} (h1 : s.num < 70) (h2 : s.ahead < s.num) : endShortL s = (true, { s with free := putF s.free s.num, ahead := s.num, st := 12 }) := by
  unfold endShortL; rw [endNum_ok h1 h2]; rfl
theorem pend_comma {s : RS} {n : Int} {f : Nat → Bool} {wk : Nat → List (Int × Int)} (h : Pend s n f wk) :
    ∃ s', feed [44] s = some s' ∧ s'.st = 10 ∧ s'.ahead = n ∧ s'.free = putF f n ∧ s'.week = wk := by
  obtain ⟨hw, ⟨h1, h2, h3, h4, h5⟩ | ⟨h1, h2, h3⟩⟩ := h
  · have e := endShort_ok (s := s) (by omega) (by omega)
    refine ⟨{ s with free := putF s.free s.num, ahead := s.num, st := 10, place := s.place + 1 }, ?_, rfl, h2, by show putF s.free s.num = _; rw [h2, h5], hw⟩
    refine feed1 (s1 := { s with free := putF s.free s.num, ahead := s.num, st := 10 }) ?_
    rw [take_st11 _ h1]; unfold numSecondL
    rw [if_neg (by unfold isDig; omega), e]; rfl
  · refine ⟨{ s with st := 10, place := s.place + 1 }, ?_, rfl, h2, h3, hw⟩
    refine feed1 (s1 := { s with st := 10 }) ?_
    rw [take_st12 _ h1]; rfl
theorem pend_end {s : RS} {n : Int} {f : Nat → Bool} {wk : Nat → List (Int × Int)} (h : Pend s n f wk) :
    (finishL s).1 = true ∧ (finishL s).2.free = putF f n ∧ (finishL s).2.week = wk := by
  obtain ⟨hw, ⟨h1, h2, h3, h4, h5⟩ | ⟨h1, h2, h3⟩⟩ := h
  · have e := endShort_ok (s := s) (by omega) (by omega)
    unfold finishL; rw [if_pos h1, e]
    exact ⟨rfl, by show putF s.free s.num = _; rw [h2, h5], hw⟩
  · unfold finishL; rw [if_neg (by omega)]
    exact ⟨by simp [h1], h3, hw⟩
theorem feed_num (n : Int) (h0 : 0 ≤ n) (h1 : n < 70) (s : RS) (h : s.st = 10) (ha : s.ahead < n) :
    ∃ s', feed (txtI (numTxt n)) s = some s' ∧ Pend s' n s.free s.week := by
  have e1 := byte_val (48 + n / 10) (by omega) (by omega)
  have e2 := byte_val (48 + n % 10) (by omega) (by omega)
  unfold numTxt
  by_cases h10 : 10 ≤ n
  · have hl : txtI (dg n) = [48 + n / 10, 48 + n % 10] := by
      simp only [dg, txtI, List.map_cons, List.map_nil, e1, e2]
    rw [if_pos h10, hl]
    have t1 : takeL s (48 + n / 10) = (true, { s with num := n / 10, st := 11 }) := by
      rw [take_st10 _ h]; unfold numFirstL; rw [if_pos (by unfold isDig; omega)]; congr 2; omega
    have t2 : ∀ u : RS, u.st = 11 → u.num = n / 10 → u.ahead = s.ahead → takeL u (48 + n % 10) = (true, { u with num := n, free := putF u.free n, ahead := n, st := 12 }) := by
      intro u hu hn ha2
      rw [take_st11 _ hu]; unfold numSecondL
      have hnn : u.num * 10 + (48 + n % 10 - 48) = n := by rw [hn]; omega
      rw [if_pos (by unfold isDig; omega), if_neg (by rw [hn]; omega), hnn, endNum_ok (by show n < 70; exact h1) (by show u.ahead < n; rw [ha2]; exact ha)]
    refine ⟨{ s with num := n, free := putF s.free n, ahead := n, st := 12, place := s.place + 1 + 1 }, ?_, rfl, .inr ⟨rfl, rfl, rfl⟩⟩
    simp only [feed]
    rw [t1]
    simp only [if_true]
    rw [t2 { s with num := n / 10, st := 11, place := s.place + 1 } rfl rfl rfl]
    simp only [if_true]
  · have hl : txtI ((dg n).drop 1) = [48 + n % 10] := by
      simp only [dg, txtI, List.drop_succ_cons, List.drop_zero, List.map_cons, List.map_nil, e2]
    rw [if_neg h10, hl]
    refine ⟨{ s with num := n, st := 11, place := s.place + 1 }, ?_, rfl, .inl ⟨rfl, rfl, ha, by omega, rfl⟩⟩
    refine feed1 (s1 := { s with num := n, st := 11 }) ?_
    rw [take_st10 _ h]; unfold numFirstL; rw [if_pos (by unfold isDig; omega)]; congr 2; omega

def Inc : Int → List Int → Prop
  | _, [] => True
  | l, n :: ns => l < n ∧ 0 ≤ n ∧ n < 70 ∧ Inc n ns
theorem frNums_inc (xs : List Int) : ∀ l : Int, -1 ≤ l → Inc l (frNums l xs) := by
  induction xs with
  | nil => intro l _; trivial
  | cons x xs ih =>
    intro l hl
    have := pk_lo x 9 (by omega)
    simp only [frNums]
    split
    · trivial
    · exact ⟨by omega, by omega, by omega, ih _ (by omega)⟩
theorem feed_rest (ns : List Int) : ∀ (s : RS) (n : Int) (f : Nat → Bool) (wk : Nat → List (Int × Int)), Pend s n f wk → Inc n ns →
    ∃ s' n' f', feed (txtI ((ns.map fun m => [44] ++ numTxt m).flatten)) s = some s' ∧ Pend s' n' f' wk ∧ ∀ j, putF f' n' j = (putF f n j || ns.contains ((j : Nat) : Int)) := by
  induction ns with
  | nil => intro s n f wk hP _; exact ⟨s, n, f, rfl, hP, fun j => by simp⟩
  | cons m ms ih =>
    intro s n f wk hP hI
    obtain ⟨i1, i2, i3, i4⟩ := hI
    obtain ⟨s1, f1, a1, a2, a3, a4⟩ := pend_comma hP
    obtain ⟨s2, f2, hP2⟩ := feed_num m i2 i3 s1 a1 (by omega)
    rw [a3, a4] at hP2
    obtain ⟨s3, n', f', f3, hP3, hF⟩ := ih s2 m _ _ hP2 i4
    refine ⟨s3, n', f', ?_, hP3, fun j => ?_⟩
    · simp only [List.map_cons, List.flatten_cons]
      rw [txtI_app, txtI_app]; exact feed_app (feed_app f1 f2) f3
    · rw [hF j]
      have : putF (putF f n) m j = (putF f n j || ((j : Int) == m)) := by
        unfold putF
        by_cases e : j = m.toNat
        · have : (j : Int) = m := by omega
          rw [if_pos e, this]; simp
        · have : ¬ (j : Int) = m := by omega
          simp [e, this]
      rw [this, List.contains_cons, Bool.or_assoc]

theorem feed_frees (ns : List Int) (hI : Inc (-1) ns) (hne : ns ≠ []) (s : RS) (h : s.st = 9) (ha : s.ahead = -1) (hf : s.free = fun _ => false) :
    ∃ s', feed (txtI (frTxt ns)) s = some s' ∧ (finishL s').1 = true ∧ (finishL s').2.week = s.week ∧ ∀ j : Nat, (finishL s').2.free j = ns.contains (j : Int) := by
  cases ns with
  | nil => contradiction
  | cons n ns =>
    obtain ⟨i1, i2, i3, i4⟩ := hI
    have f1 : feed [33] s = some { s with st := 10, place := s.place + 1 } := feed1 (s1 := { s with st := 10 }) (by rw [take_st9 _ h]; simp [spanEndL, markL])
    obtain ⟨s2, f2, hP2⟩ := feed_num n i2 i3 { s with st := 10, place := s.place + 1 } rfl (by show s.ahead < n; omega)
    obtain ⟨s3, n', f', f3, hP3, hF⟩ := feed_rest ns s2 n _ _ hP2 i4
    obtain ⟨e1, e2, e3⟩ := pend_end hP3
    refine ⟨s3, ?_, e1, e3, fun j => ?_⟩
    · simp only [frTxt]; rw [txtI_app, txtI_app]; exact feed_app (feed_app f1 f2) f3
    · rw [e2, hF j]
      have : putF s.free n j = ((j : Int) == n) := by
        unfold putF; rw [hf]
        by_cases e : j = n.toNat
        · have : (j : Int) = n := by omega
          rw [if_pos e, this]; simp
        · have : ¬ (j : Int) = n := by omega
          rw [if_neg e]; simp [this]
      show (putF s.free n j || _) = _
      rw [this, List.contains_cons]

theorem chars_ascii (l : List UInt8) (h : ∀ c ∈ l, c.toNat < 128) : chars ⟨l.toArray⟩ = txtI l := by
  have hsz : (⟨l.toArray⟩ : ByteArray).size = l.length := by show l.toArray.size = _; simp
  have key : ∀ (f pos : Nat), pos + f = l.length → runes ⟨l.toArray⟩ f pos = txtI (l.drop pos) := by
    intro f
    induction f with
    | zero => intro pos hp; simp only [runes]; rw [List.drop_eq_nil_of_le (by omega)]; rfl
    | succ f ih =>
      intro pos hp
      have hlt : pos < l.length := by omega
      have hlt' : pos < (⟨l.toArray⟩ : ByteArray).size := by omega
      have hb : ((⟨l.toArray⟩ : ByteArray)[pos]'hlt') = l[pos] := rfl
      have hd := decode_ascii ⟨l.toArray⟩ pos hlt' (by rw [hb]; exact h _ (List.getElem_mem hlt))
      simp only [runes]
      rw [if_pos hlt', hd, List.drop_eq_getElem_cons hlt, ih (pos + 1) (by omega)]
      simp only [txtI, List.map_cons, hb]
  unfold chars
  rw [hsz, key l.length 0 (by omega)]; simp

theorem parse_txt (es : List Ent) (fs : List Int) (hA : ∀ c ∈ theTxt es fs, c.toNat < 128) :
    (parseL ⟨(theTxt es fs).toArray⟩).1 = true ∧ (parseL ⟨(theTxt es fs).toArray⟩).2.week = spansTo es (nEnt es) ∧ ∀ j : Nat, (parseL ⟨(theTxt es fs).toArray⟩).2.free j = theOff fs j := by
  obtain ⟨s1, f1, h1, h2, h3, h4, h5, h6, h7⟩ := feed_entries es (nEnt es) (by unfold nEnt; omega)
  unfold parseL
  rw [chars_ascii _ hA]
  unfold theTxt theOff
  rw [txtI_app, loop_feed f1]
  by_cases hn : frNums (-1) (fs.take 20) = []
  · rw [hn]
    have : loopL (txtI (frTxt [])) s1 = (true, s1) := by
      show finishL s1 = _
      unfold finishL; rw [if_neg (by omega)]; simp [h1]
    rw [this]
    exact ⟨rfl, h7, fun j => by show s1.free j = _; rw [h6]; rfl⟩
  · obtain ⟨s2, f2, e1, e2, e3⟩ := feed_frees _ (frNums_inc _ (-1) (by omega)) hn s1 h1 h5 h6
    have : loopL (txtI (frTxt (frNums (-1) (fs.take 20)))) s1 = finishL s2 := by
      have := loop_feed (b := []) f2
      rw [List.append_nil] at this; exact this
    rw [this]
    exact ⟨e1, e2.trans h7, e3⟩
end Go.Proofs.YtcnmbldikjljeaaGreatDoor
