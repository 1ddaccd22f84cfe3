import Derived.Test.YtcnmbldikjljeaaDoorPure4
namespace Go.Proofs.YtcnmbldikjljeaaDoor
open Go.RowKit

theorem feed_split {l : List Int} {s s' : RS} (h : feed l s = some s') (c : Nat) : ∃ s1, feed (l.take c) s = some s1 ∧ feed (l.drop c) s1 = some s' := by
  induction l generalizing s c with
  | nil => exact ⟨s, by simp [feed], by simpa using h⟩
  | cons x l ih =>
    cases c with
    | zero => exact ⟨s, by simp [feed], by simpa using h⟩
    | succ c =>
      simp only [feed] at h
      split at h
      · rename_i g
        obtain ⟨s1, h1, h2⟩ := ih h c
        exact ⟨s1, by simp only [List.take_succ_cons, feed, if_pos g]; exact h1, by simpa using h2⟩
      · cases h
theorem loop_ok {l : List Int} {s : RS} (h : (loopL l s).1 = true) : ∃ s', feed l s = some s' := by
  induction l generalizing s with
  | nil => exact ⟨s, rfl⟩
  | cons x l ih =>
    simp only [loopL] at h
    split at h
    · rename_i g
      obtain ⟨s', h'⟩ := ih h
      exact ⟨s', by simp only [feed, if_pos g]; exact h'⟩
    · rename_i g; exact absurd h g
theorem feed_inv {l : List Int} : ∀ {n : Nat} {s s' : RS}, Inv n s → feed l s = some s' → Inv (n + l.length) s' ∧ s'.place = s.place + l.length := by
  induction l with
  | nil => intro n s s' hI h; simp only [feed, Option.some.injEq] at h; subst h; exact ⟨hI, by simp⟩
  | cons x l ih =>
    intro n s s' hI h
    simp only [feed] at h
    split at h
    · rename_i g
      obtain ⟨h1, h2⟩ := ih (inv_place (inv_take hI x g) _) h
      refine ⟨by simpa [Nat.add_assoc, Nat.add_comm 1] using h1, ?_⟩
      rw [h2]
      show (takeL s x).2.place + 1 + _ = _
      rw [place_take hI x g]; simp; omega
    · cases h
theorem st_time (s : RS) (c m n k : Int) (hk : k < 10) (h : s.st < 10) : (timeDigitL s c m n k).2.st < 10 := by unfold timeDigitL; split <;> simpa
theorem st_mark (s : RS) (c m n : Int) (hn : n < 10) (h : s.st < 10) : (markL s c m n).2.st < 10 := by unfold markL; split <;> simpa
theorem take_bang {n : Nat} {s : RS} (hI : Inv n s) (c : Int) (h : 10 ≤ (takeL s c).2.st) : 10 ≤ s.st ∨ c = 33 := by
  by_cases h10 : 10 ≤ s.st
  · exact .inl h10
  · right
    have hs : s.st = 0 ∨ s.st = 1 ∨ s.st = 2 ∨ s.st = 3 ∨ s.st = 4 ∨ s.st = 5 ∨ s.st = 6 ∨ s.st = 7 ∨ s.st = 8 ∨ s.st = 9 := by
      have := hI.st0; omega
    rcases hs with e | e | e | e | e | e | e | e | e | e
    · rw [take_st0 c e] at h; unfold dayFirstL at h; split at h <;> simp at h; omega
    · rw [take_st1 c e] at h; unfold daySecondL at h; split at h <;> simp at h; omega
    · rw [take_st2 c e] at h; unfold dayEndL at h; split at h
      · simp at h
      · have := st_mark s c 32 3 (by omega) (by omega); omega
    · rw [take_st3 c e] at h; have := st_time s c 9 600 4 (by omega) (by omega); omega
    · rw [take_st4 c e] at h; have := st_time s c 9 60 5 (by omega) (by omega); omega
    · rw [take_st5 c e] at h; have := st_mark s c 58 6 (by omega) (by omega); omega
    · rw [take_st6 c e] at h; have := st_time s c 5 10 7 (by omega) (by omega); omega
    · rw [take_st7 c e] at h
      have h7 := st_time s c 9 1 9 (by omega) (by omega)
      unfold minOnesL at h
      split at h
      · unfold endTimeL at h
        split at h
        · simp at h
        · split at h <;> simp at h <;> omega
      · omega
    · rw [take_st8 c e] at h; have := st_mark s c 45 3 (by omega) (by omega); omega
    · rw [take_st9 c e] at h
      unfold spanEndL at h
      split at h
      · simp at h
      · split at h
        · simp at h
        · unfold markL at h; split at h
          · assumption
          · simp at h; omega
theorem feed_bang {l : List Int} : ∀ {n : Nat} {s s' : RS}, Inv n s → feed l s = some s' → 10 ≤ s'.st → 10 ≤ s.st ∨ 33 ∈ l := by
  induction l with
  | nil => intro n s s' hI h h10; simp only [feed, Option.some.injEq] at h; subst h; exact .inl h10
  | cons x l ih =>
    intro n s s' hI h h10
    simp only [feed] at h
    split at h
    · rename_i g
      rcases ih (inv_place (inv_take hI x g) _) h h10 with a | a
      · rcases take_bang hI x a with b | b
        · exact .inl b
        · exact .inr (by simp [b])
      · exact .inr (by simp [a])
    · cases h
theorem txtI_bang (l : List UInt8) (h : (33 : Int) ∈ txtI l) : l.contains 33 = true := by
  simp only [txtI, List.mem_map] at h
  obtain ⟨b, hb, e⟩ := h
  have : b = 33 := UInt8.toNat_inj.1 (by have : b.toNat = 33 := by omega
                                         rw [this]; rfl)
  subst this
  simpa using hb

/-- a character that may stand nowhere -/
def bad (r : Int) : Prop := r = 120 ∨ 128 ≤ r
theorem bad_first {r : Int} (h : bad r) : isFirst r = false := by
  unfold bad at h; simp only [isFirst]; simp; omega
theorem bad_second {a r : Int} (h : bad r) : dayOf a r = 7 := by
  unfold bad at h; simp only [dayOf]
  repeat (rw [if_neg (by omega)])
theorem mark_bad {s : RS} {r m n : Int} (h : ¬ r = m) : markL s r m n = (false, s) := by unfold markL; rw [if_neg h]
theorem time_bad {s : RS} {r a b c : Int} (h : ¬ isDig r) : timeDigitL s r a b c = (false, s) := by
  unfold timeDigitL; rw [if_neg (fun e => h e.1)]
theorem endShort_cases (s : RS) : (endShortL s).1 = true ∨ endShortL s = (false, { s with place := s.place - 1 }) := by
  unfold endShortL
  cases h : (endNumL s).1
  · right; simp
  · left; simp [h]
/-- what a character does that is none of a number's, a mark's or a day's second letters -/
theorem take_no {n : Nat} {s : RS} (hI : Inv n s) (r : Int) (hd : ¬ isDig r) (h2 : ∀ a, dayOf a r = 7) (hm : r ≠ 44 ∧ r ≠ 32 ∧ r ≠ 58 ∧ r ≠ 45 ∧ r ≠ 59 ∧ r ≠ 33) (h0 : s.st = 0 → isFirst r = false) :
    (takeL s r).1 = false ∧ ((takeL s r).2.place = s.place ∨ (s.st = 11 ∧ (takeL s r).2.place = s.place - 1)) := by
  have hs : s.st = 0 ∨ s.st = 1 ∨ s.st = 2 ∨ s.st = 3 ∨ s.st = 4 ∨ s.st = 5 ∨ s.st = 6 ∨ s.st = 7 ∨ s.st = 8 ∨ s.st = 9 ∨ s.st = 10 ∨ s.st = 11 ∨ s.st = 12 := by
    have := hI.st0; have := hI.st1; omega
  obtain ⟨m1, m2, m3, m4, m5, m6⟩ := hm
  rcases hs with e | e | e | e | e | e | e | e | e | e | e | e | e
  · rw [take_st0 r e]; unfold dayFirstL; rw [h0 e]; exact ⟨rfl, .inl rfl⟩
  · rw [take_st1 r e]; unfold daySecondL; rw [h2, if_neg (by omega)]; exact ⟨rfl, .inl rfl⟩
  · rw [take_st2 r e]; unfold dayEndL; rw [if_neg m1, mark_bad m2]; exact ⟨rfl, .inl rfl⟩
  · rw [take_st3 r e, time_bad hd]; exact ⟨rfl, .inl rfl⟩
  · rw [take_st4 r e, time_bad hd]; exact ⟨rfl, .inl rfl⟩
  · rw [take_st5 r e, mark_bad m3]; exact ⟨rfl, .inl rfl⟩
  · rw [take_st6 r e, time_bad hd]; exact ⟨rfl, .inl rfl⟩
  · rw [take_st7 r e]; unfold minOnesL; rw [time_bad hd]; exact ⟨rfl, .inl rfl⟩
  · rw [take_st8 r e, mark_bad m4]; exact ⟨rfl, .inl rfl⟩
  · rw [take_st9 r e]; unfold spanEndL; rw [if_neg m5, if_neg m2, mark_bad m6]; exact ⟨rfl, .inl rfl⟩
  · rw [take_st10 r e]; unfold numFirstL; rw [if_neg hd]; exact ⟨rfl, .inl rfl⟩
  · rw [take_st11 r e]; unfold numSecondL; rw [if_neg hd]
    rcases endShort_cases s with h | h
    · rw [h, if_pos rfl, mark_bad m1]; exact ⟨rfl, .inl (place_endShort s h)⟩
    · rw [h]; exact ⟨rfl, .inr ⟨e, rfl⟩⟩
  · rw [take_st12 r e, mark_bad m1]; exact ⟨rfl, .inl rfl⟩
theorem take_bad {n : Nat} {s : RS} (hI : Inv n s) (r : Int) (h : bad r) : (takeL s r).1 = false ∧ ((takeL s r).2.place = s.place ∨ (s.st = 11 ∧ (takeL s r).2.place = s.place - 1)) :=
  take_no hI r (by unfold bad at h; unfold isDig; omega) (fun _ => bad_second h) (by unfold bad at h; omega) (fun _ => bad_first h)

/-- the characters of a text whose head is plain -/
theorem chars_head (a b : List UInt8) (h : ∀ c ∈ a, c.toNat < 128) : ∃ f, b.length ≤ f ∧ chars ⟨(a ++ b).toArray⟩ = txtI a ++ runes ⟨(a ++ b).toArray⟩ f a.length := by
  have hsz : (⟨(a ++ b).toArray⟩ : ByteArray).size = a.length + b.length := by show (a ++ b).toArray.size = _; simp
  have key : ∀ (k pos f : Nat), pos + k = a.length → runes ⟨(a ++ b).toArray⟩ (f + k) pos = txtI (a.drop pos) ++ runes ⟨(a ++ b).toArray⟩ f a.length := by
    intro k
    induction k with
    | zero => intro pos f hp; rw [List.drop_eq_nil_of_le (by omega)]; simp only [txtI, List.map_nil, List.nil_append, Nat.add_zero] at hp ⊢; rw [hp]
    | succ k ih =>
      intro pos f hp
      have hlt : pos < a.length := by omega
      have hlt' : pos < (⟨(a ++ b).toArray⟩ : ByteArray).size := by omega
      have hb : ((⟨(a ++ b).toArray⟩ : ByteArray)[pos]'hlt') = a[pos] := by
        show (a ++ b)[pos]'(by simp; omega) = _; rw [List.getElem_append_left hlt]
      have hd := decode_ascii ⟨(a ++ b).toArray⟩ pos hlt' (by rw [hb]; exact h _ (List.getElem_mem hlt))
      rw [show f + (k + 1) = (f + k) + 1 by omega]
      simp only [runes]
      rw [if_pos hlt', hd, List.drop_eq_getElem_cons hlt, ih (pos + 1) f (by omega)]
      simp only [txtI, List.map_cons, hb, List.cons_append]
  refine ⟨b.length, Nat.le_refl _, ?_⟩
  unfold chars
  rw [hsz, show a.length + b.length = b.length + a.length by omega, key a.length 0 b.length (by omega)]
  simp
end Go.Proofs.YtcnmbldikjljeaaDoor
