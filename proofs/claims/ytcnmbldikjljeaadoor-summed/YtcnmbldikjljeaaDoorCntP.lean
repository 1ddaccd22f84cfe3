import Derived.Test.YtcnmbldikjljeaaDoorSpan
namespace Go.Proofs.YtcnmbldikjljeaaDoor

theorem cnt_step (F : Nat → Bool) (k : Nat) : cnt F k ≤ cnt F (k + 1) ∧ cnt F (k + 1) ≤ cnt F k + 1 := by
  simp only [cnt]; split <;> omega
theorem cnt_add (F : Nat → Bool) (a d : Nat) : cnt F a ≤ cnt F (a + d) ∧ cnt F (a + d) ≤ cnt F a + d := by
  induction d with
  | zero => simp
  | succ d ih => have := cnt_step F (a + d); rw [← Nat.add_assoc]; omega
theorem cnt_mono (F : Nat → Bool) {a b : Int} (h : a ≤ b) (h0 : 0 ≤ a) : cnt F a.toNat ≤ cnt F b.toNat ∧ cnt F b.toNat - cnt F a.toNat ≤ b - a := by
  have e : b.toNat = a.toNat + (b - a).toNat := by omega
  have := cnt_add F a.toNat (b - a).toNat
  rw [← e] at this
  omega
theorem cnt_ivt (F : Nat → Bool) (a d : Nat) (n : Int) (h0 : 0 ≤ n) (h1 : n ≤ cnt F (a + d) - cnt F a) : ∃ y, a ≤ y ∧ y ≤ a + d ∧ cnt F y - cnt F a = n := by
  induction d with
  | zero => exact ⟨a, Nat.le_refl _, Nat.le_refl _, by simp at h1; omega⟩
  | succ d ih =>
    have := cnt_step F (a + d)
    rw [← Nat.add_assoc] at h1
    by_cases h : n ≤ cnt F (a + d) - cnt F a
    · obtain ⟨y, y0, y1, y2⟩ := ih h
      exact ⟨y, y0, by omega, y2⟩
    · exact ⟨a + d + 1, by omega, by omega, by omega⟩
section
variable {F : Nat → Bool} {a n t k u x y : Int}
theorem addN_uniq (h : AddN F a n x) (g : AddN F a n y) : x = y := by
  obtain ⟨a1, a2, a3, a4⟩ := h
  obtain ⟨b1, b2, b3, b4⟩ := g
  rcases Int.lt_trichotomy x y with e | e | e
  · exact absurd a3 (b4 x a1 e)
  · exact e
  · exact absurd b3 (a4 y b1 e)
theorem addN_never (h : AddN F a n x) (g : Never F a n) : False := g x h.1 h.2.1 h.2.2.1
theorem addN_left (h : AddN F a n x) (h0 : 0 ≤ a) : n ≤ cnt F 100800 - cnt F a.toNat := by
  have := cnt_mono F (show x ≤ 100800 from h.2.1) (by have := h.1; omega)
  have e := h.2.2.1
  rw [show (100800 : Int).toNat = 100800 from rfl] at this
  omega
theorem never_left (h : Never F a n) (h0 : 0 ≤ a) (h1 : a ≤ 100800) (hn : 0 ≤ n) : cnt F 100800 - cnt F a.toNat < n := by
  apply Int.lt_of_not_ge
  intro g
  obtain ⟨y, y0, y1, y2⟩ := cnt_ivt F a.toNat (100800 - a.toNat) n hn (by rw [show a.toNat + (100800 - a.toNat) = 100800 by omega]; omega)
  exact h y (by omega) (by omega) (by simpa using y2)
theorem addN_zero (h : AddN F a 0 x) : x = a := by
  obtain ⟨a1, a2, a3, a4⟩ := h
  by_cases e : a < x
  · exact absurd (by omega) (a4 a (Int.le_refl _) e)
  · omega
theorem addN_open (h : AddN F a n x) (h0 : 0 ≤ a) (hn : 0 < n) : a ≤ x - 1 ∧ F (x - 1).toNat = true := by
  obtain ⟨a1, a2, a3, a4⟩ := h
  have hax : a < x := by
    by_cases e : a < x
    · exact e
    · have : x = a := by omega
      subst this; omega
  refine ⟨by omega, ?_⟩
  have hne := a4 (x - 1) (by omega) (by omega)
  have e : x.toNat = (x - 1).toNat + 1 := by omega
  rw [e] at a3
  simp only [cnt] at a3
  cases hF : F (x - 1).toNat
  · rw [hF] at a3; exact absurd (by simp only [Bool.false_eq_true, if_false, Int.add_zero] at a3; exact a3) hne
  · rfl
theorem addN_add (h : AddN F a n t) (h0 : 0 ≤ a) (hk : 0 ≤ k) : AddN F t k u ↔ AddN F a (n + k) u := by
  obtain ⟨a1, a2, a3, a4⟩ := h
  constructor
  · rintro ⟨b1, b2, b3, b4⟩
    refine ⟨by omega, b2, by omega, fun y y0 y1 => ?_⟩
    by_cases e : t ≤ y
    · have := b4 y e y1; omega
    · have := cnt_mono F (show y ≤ t by omega) (by omega)
      have := a4 y y0 (by omega)
      omega
  · rintro ⟨b1, b2, b3, b4⟩
    have htu : t ≤ u := by
      by_cases e : t ≤ u
      · exact e
      · have := cnt_mono F (show u ≤ t by omega) (by omega)
        have := a4 u b1 (by omega)
        omega
    refine ⟨htu, b2, by omega, fun y y0 y1 => ?_⟩
    have := b4 y (by omega) y1
    omega
theorem never_add (h : AddN F a n t) (h0 : 0 ≤ a) (hk : 0 ≤ k) : Never F t k ↔ Never F a (n + k) := by
  obtain ⟨a1, a2, a3, a4⟩ := h
  constructor
  · intro g y y0 y1
    by_cases e : t ≤ y
    · have := g y e y1; omega
    · have := cnt_mono F (show y ≤ t by omega) (by omega)
      have := a4 y y0 (by omega)
      omega
  · intro g y y0 y1
    have := g y (by omega) y1
    omega
end
end Go.Proofs.YtcnmbldikjljeaaDoor
