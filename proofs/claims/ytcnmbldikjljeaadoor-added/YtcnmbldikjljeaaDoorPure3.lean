import Derived.Test.YtcnmbldikjljeaaDoorPure2
namespace Go.Proofs.YtcnmbldikjljeaaDoor
open Go.RowKit

def putF (f : Nat → Bool) (n : Int) : Nat → Bool := fun j => if j = n.toNat then true else f j
/-- a number has been read: it is still open, or done -/
def Pend (s : RS) (n : Int) (f : Nat → Bool) (wk : Nat → List (Int × Int)) : Prop :=
  s.week = wk ∧ ((s.st = 11 ∧ s.num = n ∧ s.ahead < n ∧ n < 10 ∧ s.free = f) ∨ (s.st = 12 ∧ s.ahead = n ∧ s.free = putF f n))
theorem endNum_ok {s : RS} (h1 : s.num < 70) (h2 : s.ahead < s.num) : endNumL s = (true, { s with free := putF s.free s.num, ahead := s.num, st := 12 }) := by
  unfold endNumL; rw [if_neg (by omega)]; rfl
theorem endShort_ok {s : RS} (h1 : s.num < 70) (h2 : s.ahead < s.num) : endShortL s = (true, { s with free := putF s.free s.num, ahead := s.num, st := 12 }) := by
  unfold endShortL; rw [endNum_ok h1 h2]; rfl
theorem pend_comma {s : RS} {n : Int} {f : Nat → Bool} {wk : Nat → List (Int × Int)} (h : Pend s n f wk) :
    ∃ s', feed [44] s = some s' ∧ s'.st = 10 ∧ s'.ahead = n ∧ s'.free = putF f n ∧ s'.week = wk := by
  obtain ⟨hw, ⟨h1, h2, h3, h4, h5⟩ | ⟨h1, h2, h3⟩⟩ := h
  · have e := endShort_ok (s := s) (by omega) (by omega)
    refine ⟨{ s with free := putF s.free s.num, ahead := s.num, st := 10, place := s.place + 1 }, ?_, rfl, h2, by show putF s.free s.num = _; rw [h2, h5], hw⟩
    refine feed1 (s1 := { s with free := putF s.free s.num, ahead := s.num, st := 10 }) ?_
    rw [take_st11 _ h1]; unfold numSecondL
    rw [if_neg (by unfold isDig; omega), e]; rfl
  · refine ⟨{ s with st := 10, place := s.place + 1 }, ?_, rfl, h2, h3, hw⟩
    refine feed1 (s1 := { s with st := 10 }) ?_
    rw [take_st12 _ h1]; rfl
theorem pend_end {s : RS} {n : Int} {f : Nat → Bool} {wk : Nat → List (Int × Int)} (h : Pend s n f wk) :
    (finishL s).1 = true ∧ (finishL s).2.free = putF f n ∧ (finishL s).2.week = wk := by
  obtain ⟨hw, ⟨h1, h2, h3, h4, h5⟩ | ⟨h1, h2, h3⟩⟩ := h
  · have e := endShort_ok (s := s) (by omega) (by omega)
    unfold finishL; rw [if_pos h1, e]
    exact ⟨rfl, by show putF s.free s.num = _; rw [h2, h5], hw⟩
  · unfold finishL; rw [if_neg (by omega)]
    exact ⟨by simp [h1], h3, hw⟩
theorem feed_num (n : Int) (h0 : 0 ≤ n) (h1 : n < 70) (s : RS) (h : s.st = 10) (ha : s.ahead < n) :
    ∃ s', feed (txtI (numTxt n)) s = some s' ∧ Pend s' n s.free s.week := by
  have e1 := byte_val (48 + n / 10) (by omega) (by omega)
  have e2 := byte_val (48 + n % 10) (by omega) (by omega)
  unfold numTxt
  by_cases h10 : 10 ≤ n
  · have hl : txtI (dg n) = [48 + n / 10, 48 + n % 10] := by
      simp only [dg, txtI, List.map_cons, List.map_nil, e1, e2]
    rw [if_pos h10, hl]
    have t1 : takeL s (48 + n / 10) = (true, { s with num := n / 10, st := 11 }) := by
      rw [take_st10 _ h]; unfold numFirstL; rw [if_pos (by unfold isDig; omega)]; congr 2; omega
    have t2 : ∀ u : RS, u.st = 11 → u.num = n / 10 → u.ahead = s.ahead → takeL u (48 + n % 10) = (true, { u with num := n, free := putF u.free n, ahead := n, st := 12 }) := by
      intro u hu hn ha2
      rw [take_st11 _ hu]; unfold numSecondL
      have hnn : u.num * 10 + (48 + n % 10 - 48) = n := by rw [hn]; omega
      rw [if_pos (by unfold isDig; omega), if_neg (by rw [hn]; omega), hnn, endNum_ok (by show n < 70; exact h1) (by show u.ahead < n; rw [ha2]; exact ha)]
    refine ⟨{ s with num := n, free := putF s.free n, ahead := n, st := 12, place := s.place + 1 + 1 }, ?_, rfl, .inr ⟨rfl, rfl, rfl⟩⟩
    simp only [feed]
    rw [t1]
    simp only [if_true]
    rw [t2 { s with num := n / 10, st := 11, place := s.place + 1 } rfl rfl rfl]
    simp only [if_true]
  · have hl : txtI ((dg n).drop 1) = [48 + n % 10] := by
      simp only [dg, txtI, List.drop_succ_cons, List.drop_zero, List.map_cons, List.map_nil, e2]
    rw [if_neg h10, hl]
    refine ⟨{ s with num := n, st := 11, place := s.place + 1 }, ?_, rfl, .inl ⟨rfl, rfl, ha, by omega, rfl⟩⟩
    refine feed1 (s1 := { s with num := n, st := 11 }) ?_
    rw [take_st10 _ h]; unfold numFirstL; rw [if_pos (by unfold isDig; omega)]; congr 2; omega

def Inc : Int → List Int → Prop
  | _, [] => True
  | l, n :: ns => l < n ∧ 0 ≤ n ∧ n < 70 ∧ Inc n ns
theorem frNums_inc (xs : List Int) : ∀ l : Int, -1 ≤ l → Inc l (frNums l xs) := by
  induction xs with
  | nil => intro l _; trivial
  | cons x xs ih =>
    intro l hl
    have := pk_lo x 9 (by omega)
    simp only [frNums]
    split
    · trivial
    · exact ⟨by omega, by omega, by omega, ih _ (by omega)⟩
theorem feed_rest (ns : List Int) : ∀ (s : RS) (n : Int) (f : Nat → Bool) (wk : Nat → List (Int × Int)), Pend s n f wk → Inc n ns →
    ∃ s' n' f', feed (txtI ((ns.map fun m => [44] ++ numTxt m).flatten)) s = some s' ∧ Pend s' n' f' wk ∧ ∀ j, putF f' n' j = (putF f n j || ns.contains ((j : Nat) : Int)) := by
  induction ns with
  | nil => intro s n f wk hP _; exact ⟨s, n, f, rfl, hP, fun j => by simp⟩
  | cons m ms ih =>
    intro s n f wk hP hI
    obtain ⟨i1, i2, i3, i4⟩ := hI
    obtain ⟨s1, f1, a1, a2, a3, a4⟩ := pend_comma hP
    obtain ⟨s2, f2, hP2⟩ := feed_num m i2 i3 s1 a1 (by omega)
    rw [a3, a4] at hP2
    obtain ⟨s3, n', f', f3, hP3, hF⟩ := ih s2 m _ _ hP2 i4
    refine ⟨s3, n', f', ?_, hP3, fun j => ?_⟩
    · simp only [List.map_cons, List.flatten_cons]
      rw [txtI_app, txtI_app]; exact feed_app (feed_app f1 f2) f3
    · rw [hF j]
      have : putF (putF f n) m j = (putF f n j || ((j : Int) == m)) := by
        unfold putF
        by_cases e : j = m.toNat
        · have : (j : Int) = m := by omega
          rw [if_pos e, this]; simp
        · have : ¬ (j : Int) = m := by omega
          simp [e, this]
      rw [this, List.contains_cons, Bool.or_assoc]

theorem feed_frees (ns : List Int) (hI : Inc (-1) ns) (hne : ns ≠ []) (s : RS) (h : s.st = 9) (ha : s.ahead = -1) (hf : s.free = fun _ => false) :
    ∃ s', feed (txtI (frTxt ns)) s = some s' ∧ (finishL s').1 = true ∧ (finishL s').2.week = s.week ∧ ∀ j : Nat, (finishL s').2.free j = ns.contains (j : Int) := by
  cases ns with
  | nil => contradiction
  | cons n ns =>
    obtain ⟨i1, i2, i3, i4⟩ := hI
    have f1 : feed [33] s = some { s with st := 10, place := s.place + 1 } := feed1 (s1 := { s with st := 10 }) (by rw [take_st9 _ h]; simp [spanEndL, markL])
    obtain ⟨s2, f2, hP2⟩ := feed_num n i2 i3 { s with st := 10, place := s.place + 1 } rfl (by show s.ahead < n; omega)
    obtain ⟨s3, n', f', f3, hP3, hF⟩ := feed_rest ns s2 n _ _ hP2 i4
    obtain ⟨e1, e2, e3⟩ := pend_end hP3
    refine ⟨s3, ?_, e1, e3, fun j => ?_⟩
    · simp only [frTxt]; rw [txtI_app, txtI_app]; exact feed_app (feed_app f1 f2) f3
    · rw [e2, hF j]
      have : putF s.free n j = ((j : Int) == n) := by
        unfold putF; rw [hf]
        by_cases e : j = n.toNat
        · have : (j : Int) = n := by omega
          rw [if_pos e, this]; simp
        · have : ¬ (j : Int) = n := by omega
          rw [if_neg e]; simp [this]
      show (putF s.free n j || _) = _
      rw [this, List.contains_cons]

theorem chars_ascii (l : List UInt8) (h : ∀ c ∈ l, c.toNat < 128) : chars ⟨l.toArray⟩ = txtI l := by
  have hsz : (⟨l.toArray⟩ : ByteArray).size = l.length := by show l.toArray.size = _; simp
  have key : ∀ (f pos : Nat), pos + f = l.length → runes ⟨l.toArray⟩ f pos = txtI (l.drop pos) := by
    intro f
    induction f with
    | zero => intro pos hp; simp only [runes]; rw [List.drop_eq_nil_of_le (by omega)]; rfl
    | succ f ih =>
      intro pos hp
      have hlt : pos < l.length := by omega
      have hlt' : pos < (⟨l.toArray⟩ : ByteArray).size := by omega
      have hb : ((⟨l.toArray⟩ : ByteArray)[pos]'hlt') = l[pos] := rfl
      have hd := decode_ascii ⟨l.toArray⟩ pos hlt' (by rw [hb]; exact h _ (List.getElem_mem hlt))
      simp only [runes]
      rw [if_pos hlt', hd, List.drop_eq_getElem_cons hlt, ih (pos + 1) (by omega)]
      simp only [txtI, List.map_cons, hb]
  unfold chars
  rw [hsz, key l.length 0 (by omega)]; simp

theorem parse_txt (es : List Ent) (fs : List Int) (hA : ∀ c ∈ theTxt es fs, c.toNat < 128) :
    (parseL ⟨(theTxt es fs).toArray⟩).1 = true ∧ (parseL ⟨(theTxt es fs).toArray⟩).2.week = spansTo es (nEnt es) ∧ ∀ j : Nat, (parseL ⟨(theTxt es fs).toArray⟩).2.free j = theOff fs j := by
  obtain ⟨s1, f1, h1, h2, h3, h4, h5, h6, h7⟩ := feed_entries es (nEnt es) (by unfold nEnt; omega)
  unfold parseL
  rw [chars_ascii _ hA]
  unfold theTxt theOff
  rw [txtI_app, loop_feed f1]
  by_cases hn : frNums (-1) (fs.take 20) = []
  · rw [hn]
    have : loopL (txtI (frTxt [])) s1 = (true, s1) := by
      show finishL s1 = _
      unfold finishL; rw [if_neg (by omega)]; simp [h1]
    rw [this]
    exact ⟨rfl, h7, fun j => by show s1.free j = _; rw [h6]; rfl⟩
  · obtain ⟨s2, f2, e1, e2, e3⟩ := feed_frees _ (frNums_inc _ (-1) (by omega)) hn s1 h1 h5 h6
    have : loopL (txtI (frTxt (frNums (-1) (fs.take 20)))) s1 = finishL s2 := by
      have := loop_feed (b := []) f2
      rw [List.append_nil] at this; exact this
    rw [this]
    exact ⟨e1, e2.trans h7, e3⟩
end Go.Proofs.YtcnmbldikjljeaaDoor
