import Derived.Test.YtcnmbldikjljeaaDoorPure5
namespace Go.Proofs.YtcnmbldikjljeaaDoor
open Go.RowKit

theorem txtI_take (l : List UInt8) (c : Nat) : txtI (l.take c) = (txtI l).take c := by simp [txtI]
/-- the reader behind so many characters of the text -/
theorem at_cut (es : List Ent) (fs : List Int) (c : Nat) (hc : c ≤ (theTxt es fs).length) :
    ∃ s1, feed (txtI ((theTxt es fs).take c)) rs0 = some s1 ∧ Inv c s1 ∧ s1.place = c ∧ (10 ≤ s1.st → ((theTxt es fs).take c).contains 33 = true) := by
  obtain ⟨h1, _, _⟩ := parse_txt es fs (asc_txt es fs)
  unfold parseL at h1
  rw [chars_ascii _ (asc_txt es fs)] at h1
  obtain ⟨s', h2⟩ := loop_ok h1
  obtain ⟨s1, h3, _⟩ := feed_split h2 c
  rw [← txtI_take] at h3
  obtain ⟨h4, h5⟩ := feed_inv inv0 h3
  have hl : (txtI ((theTxt es fs).take c)).length = c := by simp [txtI]; omega
  rw [hl] at h4 h5
  refine ⟨s1, h3, by simpa using h4, by rw [h5]; simp [rs0], fun h10 => ?_⟩
  rcases feed_bang inv0 h3 h10 with a | a
  · simp [rs0] at a
  · exact txtI_bang _ a
theorem asc_take (es : List Ent) (fs : List Int) (c : Nat) : ∀ x ∈ (theTxt es fs).take c, x.toNat < 128 := fun x hx => asc_txt es fs x (List.mem_of_mem_take hx)

theorem cut_parse (es : List Ent) (fs : List Int) (c : Nat) (hc : c ≤ (theTxt es fs).length) :
    (parseL ⟨((theTxt es fs).take c).toArray⟩).1 = true ∨
    ((parseL ⟨((theTxt es fs).take c).toArray⟩).1 = false ∧ ((parseL ⟨((theTxt es fs).take c).toArray⟩).2.place = c ∨
      (((theTxt es fs).take c).contains 33 = true ∧ (parseL ⟨((theTxt es fs).take c).toArray⟩).2.place = (c : Int) - 1))) := by
  obtain ⟨s1, f1, hI, hp, hb⟩ := at_cut es fs c hc
  have e : parseL ⟨((theTxt es fs).take c).toArray⟩ = finishL s1 := by
    unfold parseL
    rw [chars_ascii _ (asc_take es fs c)]
    have := loop_feed (b := []) f1
    rw [List.append_nil] at this; exact this
  rw [e]
  unfold finishL
  by_cases h11 : s1.st = 11
  · rw [if_pos h11]
    rcases endShort_cases s1 with h | h
    · exact .inl h
    · rw [h]; exact .inr ⟨rfl, .inr ⟨hb (by omega), by show s1.place - 1 = _; rw [hp]⟩⟩
  · rw [if_neg h11]
    cases h : (s1.st == 9 || s1.st == 12)
    · exact .inr ⟨rfl, .inl hp⟩
    · exact .inl rfl

/-- the first character behind a plain head -/
theorem next_char (a : List UInt8) (x : UInt8) (b : List UInt8) (f : Nat) : ∃ r : Int, (x.toNat < 128 → r = x.toNat) ∧ (128 ≤ x.toNat → 128 ≤ r) ∧
    runes ⟨(a ++ x :: b).toArray⟩ (f + 1) a.length = r :: runes ⟨(a ++ x :: b).toArray⟩ f (a.length + (Utf8.decode ⟨(a ++ x :: b).toArray⟩ a.length).2) ∧ (x.toNat < 128 → (Utf8.decode ⟨(a ++ x :: b).toArray⟩ a.length).2 = 1) := by
  have hlt : a.length < (⟨(a ++ x :: b).toArray⟩ : ByteArray).size := by show a.length < (a ++ x :: b).toArray.size; simp
  have hx : ((⟨(a ++ x :: b).toArray⟩ : ByteArray)[a.length]'hlt) = x := by
    show (a ++ x :: b)[a.length]'(by simp) = x; simp
  refine ⟨((Utf8.decode ⟨(a ++ x :: b).toArray⟩ a.length).1 : Int), fun h => ?_, fun h => ?_, ?_, fun h => ?_⟩
  · rw [decode_ascii _ _ hlt (by rw [hx]; exact h), hx]
  · have := (decode_high _ _ hlt (by rw [hx]; exact h)).1; omega
  · simp only [runes]; rw [if_pos hlt]
  · rw [decode_ascii _ _ hlt (by rw [hx]; exact h)]

theorem put_parse (es : List Ent) (fs : List Int) (c : Nat) (hc : c ≤ (theTxt es fs).length) (x : UInt8) (b : List UInt8) (hx : x = 120 ∨ 128 ≤ x.toNat) :
    (parseL ⟨((theTxt es fs).take c ++ x :: b).toArray⟩).1 = false ∧ ((parseL ⟨((theTxt es fs).take c ++ x :: b).toArray⟩).2.place = c ∨
      (((theTxt es fs).take c).contains 33 = true ∧ (parseL ⟨((theTxt es fs).take c ++ x :: b).toArray⟩).2.place = (c : Int) - 1)) := by
  obtain ⟨s1, f1, hI, hp, hb⟩ := at_cut es fs c hc
  obtain ⟨f, hf, hch⟩ := chars_head ((theTxt es fs).take c) (x :: b) (asc_take es fs c)
  obtain ⟨f, rfl⟩ : ∃ g, f = g + 1 := ⟨f - 1, by simp at hf; omega⟩
  obtain ⟨r, r1, r2, hr, _⟩ := next_char ((theTxt es fs).take c) x b f
  have hbad : bad r := by
    rcases hx with rfl | h
    · exact .inl (r1 (by decide))
    · exact .inr (r2 h)
  obtain ⟨t1, t2⟩ := take_bad hI r hbad
  have e : parseL ⟨((theTxt es fs).take c ++ x :: b).toArray⟩ = takeL s1 r := by
    unfold parseL
    rw [hch, hr, loop_feed f1]
    simp only [loopL, t1]
    rfl
  rw [e]
  refine ⟨t1, ?_⟩
  rcases t2 with h | ⟨h11, h⟩
  · exact .inl (h.trans hp)
  · exact .inr ⟨hb (by omega), by rw [h, hp]⟩

theorem putM_parse (es : List Ent) (fs : List Int) (c : Nat) (hc : c ≤ (theTxt es fs).length) (b : List UInt8) :
    (parseL ⟨((theTxt es fs).take c ++ 77 :: 32 :: b).toArray⟩).1 = false ∧ ((parseL ⟨((theTxt es fs).take c ++ 77 :: 32 :: b).toArray⟩).2.place = c ∨ (parseL ⟨((theTxt es fs).take c ++ 77 :: 32 :: b).toArray⟩).2.place = (c : Int) + 1 ∨
      (((theTxt es fs).take c).contains 33 = true ∧ (parseL ⟨((theTxt es fs).take c ++ 77 :: 32 :: b).toArray⟩).2.place = (c : Int) - 1)) := by
  obtain ⟨s1, f1, hI, hp, hb⟩ := at_cut es fs c hc
  obtain ⟨f, hf, hch⟩ := chars_head ((theTxt es fs).take c) (77 :: 32 :: b) (asc_take es fs c)
  obtain ⟨f, rfl⟩ : ∃ g, f = g + 2 := ⟨f - 2, by simp at hf; omega⟩
  obtain ⟨r, r1, _, hr, hw⟩ := next_char ((theTxt es fs).take c) 77 (32 :: b) (f + 1)
  obtain rfl : r = 77 := r1 (by decide)
  rw [hw (by decide)] at hr
  have h2 : ∀ a, dayOf a 77 = 7 := by intro a; simp [dayOf]
  by_cases h0 : s1.st = 0
  · have t1 : takeL s1 77 = (true, { s1 with letter := 77, st := 1 }) := by rw [take_st0 _ h0]; rfl
    have hch2 : runes ⟨((theTxt es fs).take c ++ 77 :: 32 :: b).toArray⟩ (f + 1) (((theTxt es fs).take c).length + 1) = 32 :: runes ⟨((theTxt es fs).take c ++ 77 :: 32 :: b).toArray⟩ f (((theTxt es fs).take c).length + 1 + 1) := by
      obtain ⟨r', r1', _, hr', hw'⟩ := next_char ((theTxt es fs).take c ++ [77]) 32 b f
      obtain rfl : r' = 32 := r1' (by decide)
      rw [hw' (by decide)] at hr'
      simpa using hr'
    have t2 : takeL { s1 with letter := 77, st := 1, place := s1.place + 1 } 32 = (false, { s1 with letter := 77, st := 1, place := s1.place + 1 }) := by
      rw [take_st1 _ rfl]; unfold daySecondL; rw [if_neg (by show ¬ dayOf 77 32 < 7; decide)]
    have e : parseL ⟨((theTxt es fs).take c ++ 77 :: 32 :: b).toArray⟩ = (false, { s1 with letter := 77, st := 1, place := s1.place + 1 }) := by
      unfold parseL
      rw [hch, hr, hch2, loop_feed f1]
      simp only [loopL, t1, if_true, t2]
      rfl
    rw [e]
    exact ⟨rfl, .inr (.inl (by show s1.place + 1 = _; rw [hp]))⟩
  · obtain ⟨t1, t2⟩ := take_no hI 77 (by unfold isDig; omega) h2 (by omega) (fun h => absurd h h0)
    have e : parseL ⟨((theTxt es fs).take c ++ 77 :: 32 :: b).toArray⟩ = takeL s1 77 := by
      unfold parseL
      rw [hch, hr, loop_feed f1]
      simp only [loopL, t1]
      rfl
    rw [e]
    refine ⟨t1, ?_⟩
    rcases t2 with h | ⟨h11, h⟩
    · exact .inl (h.trans hp)
    · exact .inr (.inr ⟨hb (by omega), by rw [h, hp]⟩)
end Go.Proofs.YtcnmbldikjljeaaDoor
