import Derived.Test.YtcnmbldikjljeaaDoorParseL
namespace Go.Proofs.YtcnmbldikjljeaaDoor
open Go.RowKit

def feed : List Int → RS → Option RS
  | [], s => some s
  | c :: cs, s => if (takeL s c).1 = true then feed cs { (takeL s c).2 with place := (takeL s c).2.place + 1 } else none
theorem feed_app {a b : List Int} {s s1 s2 : RS} (h1 : feed a s = some s1) (h2 : feed b s1 = some s2) : feed (a ++ b) s = some s2 := by
  induction a generalizing s with
  | nil => simp only [feed, Option.some.injEq] at h1; subst h1; simpa using h2
  | cons c a ih =>
    simp only [List.cons_append, feed] at h1 ⊢
    split
    · rename_i g; rw [if_pos g] at h1; exact ih h1
    · rename_i g; rw [if_neg g] at h1; cases h1
theorem loop_feed {a b : List Int} {s s1 : RS} (h : feed a s = some s1) : loopL (a ++ b) s = loopL b s1 := by
  induction a generalizing s with
  | nil => simp only [feed, Option.some.injEq] at h; subst h; rfl
  | cons c a ih =>
    simp only [List.cons_append, feed, loopL] at h ⊢
    split
    · rename_i g; rw [if_pos g] at h; exact ih h
    · rename_i g; rw [if_neg g] at h; cases h
theorem feed1 {c : Int} {s s1 : RS} (h : takeL s c = (true, s1)) : feed [c] s = some { s1 with place := s1.place + 1 } := by
  simp [feed, h]
def txtI (l : List UInt8) : List Int := l.map fun b => (b.toNat : Int)
theorem txtI_app (a b : List UInt8) : txtI (a ++ b) = txtI a ++ txtI b := by simp [txtI]

/-- all but state, place, letter and days -/
structure Sm (s t : RS) : Prop where
  beg : t.beg = s.beg
  time : t.time = s.time
  num : t.num = s.num
  ahead : t.ahead = s.ahead
  week : t.week = s.week
  free : t.free = s.free
theorem Sm.refl (s : RS) : Sm s s := ⟨rfl, rfl, rfl, rfl, rfl, rfl⟩
theorem Sm.trans {a b c : RS} (h : Sm a b) (k : Sm b c) : Sm a c := ⟨k.beg.trans h.beg, k.time.trans h.time, k.num.trans h.num, k.ahead.trans h.ahead, k.week.trans h.week, k.free.trans h.free⟩

theorem feed_two (a b : Int) (k : Nat) (hk : k < 7) (s : RS) (h : s.st = 0) (hf : isFirst a = true) (hd : dayOf a b = k) :
    ∃ s', feed [a, b] s = some s' ∧ s'.st = 2 ∧ s'.days = (fun j => if j = k then true else s.days j) ∧ Sm s s' := by
  have t1 : takeL s a = (true, { s with letter := a, st := 1 }) := by rw [take_st0 _ h]; unfold dayFirstL; rw [hf]; rfl
  have t2 : ∀ s : RS, s.st = 1 → s.letter = a → takeL s b = (true, { s with days := fun j => if j = k then true else s.days j, st := 2 }) := by
    intro s h hl; rw [take_st1 _ h]; unfold daySecondL; rw [hl, hd, if_pos hk]
  refine ⟨{ s with letter := a, days := fun j => if j = k then true else s.days j, st := 2, place := s.place + 1 + 1 }, ?_, rfl, rfl, ⟨rfl, rfl, rfl, rfl, rfl, rfl⟩⟩
  simp only [feed]
  rw [t1]
  simp only [if_true]
  rw [t2 _ rfl rfl]
  simp only [if_true]
theorem feed_nm (k : Nat) (hk : k < 7) (s : RS) (h : s.st = 0) : ∃ s', feed (txtI (nm k)) s = some s' ∧ s'.st = 2 ∧ s'.days = (fun j => if j = k then true else s.days j) ∧ Sm s s' := by
  match k, hk with
  | 0, hk => exact feed_two 77 111 0 hk s h rfl rfl
  | 1, hk => exact feed_two 84 117 1 hk s h rfl rfl
  | 2, hk => exact feed_two 87 101 2 hk s h rfl rfl
  | 3, hk => exact feed_two 84 104 3 hk s h rfl rfl
  | 4, hk => exact feed_two 70 114 4 hk s h rfl rfl
  | 5, hk => exact feed_two 83 97 5 hk s h rfl rfl
  | 6, hk => exact feed_two 83 117 6 hk s h rfl rfl

theorem feed_comma (s : RS) (h : s.st = 2) : ∃ s', feed [44] s = some s' ∧ s'.st = 0 ∧ s'.days = s.days ∧ Sm s s' :=
  ⟨_, feed1 (s1 := { s with st := 0 }) (by rw [take_st2 _ h]; simp [dayEndL]), rfl, rfl, ⟨rfl, rfl, rfl, rfl, rfl, rfl⟩⟩

theorem feed_days (D : Int) (s : RS) (h : s.st = 0) (hd : s.days = fun _ => false) : ∀ k, k ≤ 7 →
    ∃ s', feed (txtI (daysTo D k)) s = some s' ∧ s'.st = (if anyTo D k then 2 else 0) ∧ s'.days = (fun j => decide (j < k) && dset D j) ∧ Sm s s' := by
  intro k
  induction k with
  | zero => intro _; exact ⟨s, rfl, by simp [anyTo, h], by rw [hd]; funext j; simp, Sm.refl s⟩
  | succ k ih =>
    intro hk
    obtain ⟨s1, f1, st1, d1, m1⟩ := ih (by omega)
    simp only [daysTo]
    cases hds : dset D k
    · refine ⟨s1, by simpa [hds] using f1, by rw [st1]; simp [anyTo, hds], ?_, m1⟩
      rw [d1]; funext j
      by_cases e : j = k
      · subst e; simp [hds]
      · have : (j < k) ↔ (j < k + 1) := by omega
        simp [decide_eq_decide.2 this]
    · simp only [if_true]
      have hst : ∃ s2, feed (txtI (comma (anyTo D k))) s1 = some s2 ∧ s2.st = 0 ∧ s2.days = s1.days ∧ Sm s1 s2 := by
        cases ha : anyTo D k
        · rw [ha] at st1; exact ⟨s1, rfl, by simpa using st1, rfl, Sm.refl _⟩
        · rw [ha] at st1; exact feed_comma s1 (by simpa using st1)
      obtain ⟨s2, f2, st2, d2, m2⟩ := hst
      obtain ⟨s3, f3, st3, d3, m3⟩ := feed_nm k (by omega) s2 st2
      refine ⟨s3, ?_, by rw [st3]; simp [anyTo, hds], ?_, m1.trans (m2.trans m3)⟩
      · rw [txtI_app, txtI_app]; exact feed_app f1 (feed_app f2 f3)
      · rw [d3, d2, d1]; funext j
        by_cases e : j = k
        · subst e; simp [hds]
        · have : (j < k) ↔ (j < k + 1) := by omega
          simp [e, decide_eq_decide.2 this]

theorem byte_val (x : Int) (h0 : 0 ≤ x) (h1 : x ≤ 200) : ((UInt8.ofNat x.toNat).toNat : Int) = x := by
  rw [UInt8.toNat_ofNat']; omega

/-- the time's four digits and the colon -/
theorem feed_ck (q : Int) (h0 : 0 ≤ q) (h1 : q ≤ 96) (s : RS) (h : s.st = 3) (ht : s.time = 0) :
    ∃ s1, feed (txtI (ck q)) s = (if (endTimeL s1).1 = true then some { (endTimeL s1).2 with place := (endTimeL s1).2.place + 1 } else none) ∧ s1.time = 15 * q ∧ s1.st = 9 ∧ s1.days = s.days ∧ s1.beg = s.beg ∧ s1.num = s.num ∧ s1.ahead = s.ahead ∧ s1.week = s.week ∧ s1.free = s.free := by
  have e1 := byte_val (48 + q / 4 / 10) (by omega) (by omega)
  have e2 := byte_val (48 + q / 4 % 10) (by omega) (by omega)
  have e3 := byte_val (48 + q % 4 * 15 / 10) (by omega) (by omega)
  have e4 := byte_val (48 + q % 4 * 15 % 10) (by omega) (by omega)
  have hl : txtI (ck q) = [48 + q / 4 / 10, 48 + q / 4 % 10, 58, 48 + q % 4 * 15 / 10, 48 + q % 4 * 15 % 10] := by
    simp only [ck, dg, txtI, List.cons_append, List.nil_append, List.map_cons, List.map_nil, e1, e2, e3, e4]
    rfl
  rw [hl]
  have t1 : takeL s (48 + q / 4 / 10) = (true, { s with time := 600 * (q / 4 / 10), st := 4 }) := by
    rw [take_st3 _ h]; unfold timeDigitL; rw [if_pos ⟨by omega, by omega, by rw [ht]; omega⟩, ht]
    congr 2; omega
  have t2 : ∀ s : RS, s.st = 4 → s.time = 600 * (q / 4 / 10) → takeL s (48 + q / 4 % 10) = (true, { s with time := 60 * (q / 4), st := 5 }) := by
    intro s h ht
    rw [take_st4 _ h]; unfold timeDigitL; rw [if_pos ⟨by omega, by omega, by rw [ht]; omega⟩, ht]
    congr 2; omega
  have t3 : ∀ s : RS, s.st = 5 → takeL s 58 = (true, { s with st := 6 }) := by
    intro s h; rw [take_st5 _ h]; unfold markL; rw [if_pos rfl]
  have t4 : ∀ s : RS, s.st = 6 → s.time = 60 * (q / 4) → takeL s (48 + q % 4 * 15 / 10) = (true, { s with time := 60 * (q / 4) + 10 * (q % 4 * 15 / 10), st := 7 }) := by
    intro s h ht
    rw [take_st6 _ h]; unfold timeDigitL; rw [if_pos ⟨by omega, by omega, by rw [ht]; omega⟩, ht]
    congr 2; omega
  have t5 : ∀ s : RS, s.st = 7 → s.time = 60 * (q / 4) + 10 * (q % 4 * 15 / 10) → takeL s (48 + q % 4 * 15 % 10) = endTimeL { s with time := 15 * q, st := 9 } := by
    intro s h ht
    have e : timeDigitL s (48 + q % 4 * 15 % 10) 9 1 9 = (true, { s with time := 15 * q, st := 9 }) := by
      unfold timeDigitL; rw [if_pos ⟨by omega, by omega, by rw [ht]; omega⟩, ht]
      congr 2; omega
    rw [take_st7 _ h]; unfold minOnesL; rw [e]; rfl
  refine ⟨{ s with time := 15 * q, st := 9, place := s.place + 1 + 1 + 1 + 1 }, ?_, rfl, rfl, rfl, rfl, rfl, rfl, rfl, rfl⟩
  simp only [feed]
  rw [t1]
  simp only [if_true]
  rw [t2 _ rfl rfl]
  simp only [if_true]
  rw [t3 _ rfl]
  simp only [if_true]
  rw [t4 _ rfl rfl]
  simp only [if_true]
  rw [t5 _ rfl rfl]
end Go.Proofs.YtcnmbldikjljeaaDoor
