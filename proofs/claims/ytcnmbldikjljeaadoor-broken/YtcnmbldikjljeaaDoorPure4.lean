import Derived.Test.YtcnmbldikjljeaaDoorPure3
import Derived.Test.YtcnmbldikjljeaaDoorOpen
namespace Go.Proofs.YtcnmbldikjljeaaDoor
open Go.RowKit

theorem asc_dg (n : Int) (h0 : 0 ≤ n) (h1 : n ≤ 99) : ∀ c ∈ dg n, c.toNat < 128 := by
  have e1 := byte_val (48 + n / 10) (by omega) (by omega)
  have e2 := byte_val (48 + n % 10) (by omega) (by omega)
  intro c hc
  simp only [dg, List.mem_cons, List.not_mem_nil, or_false] at hc
  rcases hc with rfl | rfl <;> omega
theorem asc_ck (q : Int) (h0 : 0 ≤ q) (h1 : q ≤ 96) : ∀ c ∈ ck q, c.toNat < 128 := by
  intro c hc
  simp only [ck, List.mem_append, List.mem_singleton] at hc
  rcases hc with (hc | rfl) | hc
  · exact asc_dg _ (by omega) (by omega) c hc
  · decide
  · exact asc_dg _ (by omega) (by omega) c hc
theorem asc_nm (k : Nat) : ∀ c ∈ nm k, c.toNat < 128 := by
  intro c hc
  have : c ∈ nmB := List.mem_of_mem_drop (List.mem_of_mem_take hc)
  have h : ∀ c ∈ nmB, c.toNat < 128 := by decide
  exact h c this
theorem asc_days (D : Int) (k : Nat) : ∀ c ∈ daysTo D k, c.toNat < 128 := by
  induction k with
  | zero => intro c hc; simp [daysTo] at hc
  | succ k ih =>
    intro c hc
    simp only [daysTo, List.mem_append] at hc
    rcases hc with hc | hc
    · exact ih c hc
    · split at hc
      · rw [List.mem_append] at hc
        rcases hc with hc | hc
        · unfold comma at hc; split at hc
          · simp at hc; subst hc; decide
          · simp at hc
        · exact asc_nm k c hc
      · simp at hc
theorem asc_ent (e : Ent) : ∀ c ∈ entTxt e, c.toNat < 128 := by
  intro c hc
  have q0 := eFrom_lo e
  have q1 := eFrom_hi e
  have q2 := eTo_lo e
  have q3 := eTo_hi e
  simp only [entTxt, List.mem_append, List.mem_singleton] at hc
  rcases hc with (((hc | rfl) | hc) | rfl) | hc
  · exact asc_days _ _ c hc
  · decide
  · exact asc_ck _ (by omega) (by omega) c hc
  · decide
  · exact asc_ck _ (by omega) (by omega) c hc
theorem asc_txtTo (es : List Ent) (k : Nat) : ∀ c ∈ txtTo es k, c.toNat < 128 := by
  induction k with
  | zero => intro c hc; simp [txtTo] at hc
  | succ k ih =>
    intro c hc
    simp only [txtTo, List.mem_append] at hc
    rcases hc with (hc | hc) | hc
    · exact ih c hc
    · split at hc
      · simp at hc
      · simp at hc; subst hc; decide
    · exact asc_ent _ c hc
theorem asc_num (n : Int) (h0 : 0 ≤ n) (h1 : n < 70) : ∀ c ∈ numTxt n, c.toNat < 128 := by
  intro c hc
  unfold numTxt at hc
  split at hc
  · exact asc_dg n h0 (by omega) c hc
  · exact asc_dg n h0 (by omega) c (List.mem_of_mem_drop hc)
theorem inc_mem (ns : List Int) : ∀ l : Int, Inc l ns → ∀ n ∈ ns, 0 ≤ n ∧ n < 70 := by
  induction ns with
  | nil => intro l _ n hn; simp at hn
  | cons m ms ih =>
    intro l hI n hn
    obtain ⟨i1, i2, i3, i4⟩ := hI
    rcases List.mem_cons.1 hn with rfl | hn
    · exact ⟨i2, i3⟩
    · exact ih m i4 n hn
theorem asc_fr (ns : List Int) (h : ∀ n ∈ ns, 0 ≤ n ∧ n < 70) : ∀ c ∈ frTxt ns, c.toNat < 128 := by
  intro c hc
  cases ns with
  | nil => simp [frTxt] at hc
  | cons n ns =>
    simp only [frTxt, List.mem_append, List.mem_singleton, List.mem_flatten, List.mem_map] at hc
    rcases hc with (rfl | hc) | ⟨l, ⟨m, hm, rfl⟩, hc⟩
    · decide
    · exact asc_num n (h n (by simp)).1 (h n (by simp)).2 c hc
    · simp only [List.mem_append, List.mem_singleton] at hc
      rcases hc with rfl | hc
      · decide
      · exact asc_num m (h m (by simp [hm])).1 (h m (by simp [hm])).2 c hc
theorem asc_txt (es : List Ent) (fs : List Int) : ∀ c ∈ theTxt es fs, c.toNat < 128 := by
  intro c hc
  unfold theTxt at hc
  rcases List.mem_append.1 hc with hc | hc
  · exact asc_txtTo _ _ c hc
  · exact asc_fr _ (inc_mem _ (-1) (frNums_inc _ (-1) (by omega))) c hc
theorem frNums_le (xs : List Int) : ∀ l : Int, (frNums l xs).length ≤ xs.length := by
  induction xs with
  | nil => intro l; simp [frNums]
  | cons x xs ih => intro l; simp only [frNums]; split <;> simp [ih]
theorem txt_le (es : List Ent) (fs : List Int) : (theTxt es fs).length ≤ 170 := by
  have h1 := txtTo_le es (nEnt es)
  have h2 := frTxt_le (frNums (-1) (fs.take 20))
  have h3 := frNums_le (fs.take 20) (-1)
  have h4 : (fs.take 20).length ≤ 20 := by simp; omega
  have h5 : nEnt es ≤ 3 := by unfold nEnt; omega
  unfold theTxt; rw [List.length_append]; omega

theorem hit_spans (es : List Ent) (m : Int) (_h0 : 0 ≤ m) (_h1 : m < 1440) (d : Nat) (hd : d < 7) (k : Nat) :
    hitL m (spansTo es k d) = wkTo es k (96 * d + (m / 15).toNat) := by
  induction k with
  | zero => rfl
  | succ k ih =>
    have e1 : (96 * d + (m / 15).toNat) / 96 = d := by omega
    have e2 : (((96 * d + (m / 15).toNat) % 96 : Nat) : Int) = m / 15 := by omega
    simp only [spansTo, addE, wkTo, markTo, e1, e2]
    rw [← ih]
    cases hds : dset (eDays (ent es k)) d
    · simp [hd]
    · simp only [hd, decide_true, Bool.and_self, if_true, Bool.true_and]
      simp only [hitL, List.any_append, List.any_cons, List.any_nil, Bool.or_false]
      congr 1
      have a1 : (15 * eFrom (ent es k) ≤ m) ↔ (eFrom (ent es k) ≤ m / 15) := by omega
      have a2 : (m < 15 * eTo (ent es k)) ↔ (m / 15 < eTo (ent es k)) := by omega
      rw [decide_eq_decide.2 a1, decide_eq_decide.2 a2]

theorem open_txt (es : List Ent) (fs : List Int) (m : Int) (_h0 : 0 ≤ m) (_h1 : m < 100800) :
    openL (parseL ⟨(theTxt es fs).toArray⟩).2.week (parseL ⟨(theTxt es fs).toArray⟩).2.free m = (theWk es (m / 15 % 672).toNat && !theOff fs (m / 1440).toNat) := by
  obtain ⟨_, e2, e3⟩ := parse_txt es fs (asc_txt es fs)
  unfold openL theWk
  rw [e2, e3, hit_spans es (m % 1440) (by omega) (by omega) (m / 1440 % 7).toNat (by omega)]
  rw [Bool.and_comm]
  congr 2
  omega
end Go.Proofs.YtcnmbldikjljeaaDoor
