import Derived.Test.YtcnmbldikjljeaaGreatDoorJ28
import Derived.Shelf.SlLaysF0
import Derived.Test.YtcnmbldikjljeaaGreatDoorRows
namespace Go.Proofs.YtcnmbldikjljeaaGreatDoor
open Go.RowKit

section
variable {L : List Int}
/-- the end: what is left is told -/
def endF (L : List Int) (n : Sg × (Nat → Bool)) : Sg := if n.1.1 < L.length then badF n.1 n.1.1 else n.1
theorem told_end {I P : Int} (hP : 0 ≤ P) (off : Nat → Bool) : endF L ((I, P), off) = (I, P) := by
  unfold endF; simp only; split
  · exact told_bad hP _
  · rfl
/-- how it ends -/
def Ends (M : Bool × RS) (s : RS) (n : Sg × (Nat → Bool)) (e : Sg) : Prop :=
  (0 ≤ e.2 ∧ Tld M e.2) ∨ (e.2 < 0 ∧ M.1 = true ∧ M.2.week = s.week ∧ ∀ j, M.2.free j = n.2 j)
theorem free_set {free off : Nat → Bool} (h : ∀ j, free j = off j) (n : Int) (j : Nat) : (if j = n.toNat then true else free j) = setO off n j := by
  unfold setO; rw [h j]
  by_cases e : j = n.toNat <;> simp [e]
/-- behind a number that is right: the place J, the list goes on or ends -/
theorem sim_after {f : Nat} (J last : Int) (s : RS) (off : Nat → Bool) (h0 : 0 ≤ J) (hl : J ≤ L.length) (hst : s.st = 12) (hp : s.place = J) (_ha : s.ahead = last) (hfr : ∀ j, s.free j = off j)
    (ih : lookF L (J, -1) = 44 → J < L.length → Ends (mach L (J + 1) { s with st := 10, place := J + 1 }) { s with st := 10, place := J + 1 } (numbersF L f (J, -1) last off) (endF L (numbersF L f (J, -1) last off))) :
    Ends (mach L J s) s (if lookF L (J, -1) = 44 then numbersF L f (J, -1) last off else ((J, -1), off)) (endF L (if lookF L (J, -1) = 44 then numbersF L f (J, -1) last off else ((J, -1), off))) := by
  by_cases h44 : lookF L (J, -1) = 44
  · have e : takeL s (lookF L (J, -1)) = (true, { s with st := 10 }) := by rw [take_st12 _ hst]; unfold markL; rw [if_pos h44]
    obtain ⟨l1, e1⟩ := mach_yes (L := L) (s := s) h0 (by rw [e])
    rw [e] at e1
    simp only [hp] at e1
    rw [if_pos h44, e1]
    rcases ih h44 l1 with g | g
    · exact .inl g
    · exact .inr g
  · rw [if_neg h44]
    have e : takeL s (lookF L (J, -1)) = (false, s) := by rw [take_st12 _ hst]; unfold markL; rw [if_neg h44]
    by_cases hJ : J < L.length
    · refine .inl ?_
      unfold endF
      simp only [if_pos hJ]
      unfold badF
      simp only [show (-1 : Int) < 0 by omega, if_true]
      rw [mach_no h0 hJ (by rw [e]), e]
      exact ⟨h0, rfl, hp, h0⟩
    · refine .inr ?_
      unfold endF
      simp only [if_neg hJ]
      rw [mach_out (by omega)]
      unfold finishL
      rw [if_neg (by omega)]
      exact ⟨by omega, by simp [hst], rfl, hfr⟩
theorem nums_told {I J P last : Int} {f : Nat} {off : Nat → Bool} (h : (numberF L (I + 1, -1) last).2 = (J, P)) (hP : 0 ≤ P) : numbersF L (f + 1) (I, -1) last off = ((J, P), off) := by
  simp only [numbersF, h, told_look hP]
  rw [if_neg (by omega), if_neg (by omega)]
theorem nums_ok {I J n last : Int} {f : Nat} {off : Nat → Bool} (h : numberF L (I + 1, -1) last = (n, (J, -1))) : numbersF L (f + 1) (I, -1) last off = if lookF L (J, -1) = 44 then numbersF L f (J, -1) n (setO off n) else ((J, -1), setO off n) := by
  simp only [numbersF, h, show (-1 : Int) < 0 by omega, if_true]
/-- a number of one digit that is right: the reader goes on as if it had been ended -/
theorem mach_short {J : Int} {s : RS} (h0 : 0 ≤ J) (hst : s.st = 11) (hd : ¬ isDig (lookF L (J, -1))) (he : (endNumL s).1 = true) (h12 : (endNumL s).2.st = 12) : mach L J s = mach L J (endNumL s).2 := by
  have es : endShortL s = endNumL s := by unfold endShortL; rw [if_pos he]
  by_cases hJ : J < L.length
  · have e : takeL s (lookF L (J, -1)) = takeL (endNumL s).2 (lookF L (J, -1)) := by
      rw [take_st11 _ hst, take_st12 _ h12]; unfold numSecondL; rw [if_neg hd, es, if_pos he]
    unfold mach
    rw [look_drop h0 hJ]
    simp only [loopL, e]
  · rw [mach_out (by omega), mach_out (by omega)]
    unfold finishL
    rw [if_pos hst, es, h12, if_neg (by omega)]
    have : (endNumL s) = (true, (endNumL s).2) := by rw [← he]
    rw [this]; rfl
theorem sim_number {I last : Int} {s : RS} (h0 : 0 ≤ I) (hst : s.st = 10) (hp : s.place = I + 1) (ha : s.ahead = last) :
    (∃ J P, (numberF L (I + 1, -1) last).2 = (J, P) ∧ Tld (mach L (I + 1) s) P) ∨
    (∃ n J s', numberF L (I + 1, -1) last = (n, (J, -1)) ∧ I + 1 < J ∧ J ≤ L.length ∧ mach L (I + 1) s = mach L J s' ∧ s'.st = 12 ∧ s'.place = J ∧ s'.ahead = n ∧ s'.week = s.week ∧ s'.free = fun j => if j = n.toNat then true else s.free j) := by
  unfold numberF
  simp only
  by_cases hd : 48 ≤ lookF L (I + 1, -1) ∧ lookF L (I + 1, -1) ≤ 57
  · rw [tk_yes hd.1 hd.2 (by omega)]
    simp only
    have e : takeL s (lookF L (I + 1, -1)) = (true, { s with num := lookF L (I + 1, -1) - 48, st := 11 }) := by rw [take_st10 _ hst]; unfold numFirstL; rw [if_pos hd]
    obtain ⟨l1, e1⟩ := mach_yes (L := L) (s := s) (I := I + 1) (by omega) (by rw [e])
    rw [e] at e1
    simp only [hp] at e1
    rw [show I + 1 + 1 = I + 2 by omega] at e1 ⊢
    generalize lookF L (I + 1, -1) = c1 at *
    obtain ⟨s11, hs11⟩ : ∃ s11, s11 = { s with num := c1 - 48, st := 11, place := I + 2 } := ⟨_, rfl⟩
    rw [← hs11] at e1
    rw [e1]
    have q1 : s11.num = c1 - 48 := by rw [hs11]
    have q2 : s11.st = 11 := by rw [hs11]
    have q3 : s11.place = I + 2 := by rw [hs11]
    have q4 : s11.ahead = last := by rw [hs11]; exact ha
    have q5 : s11.free = s.free := by rw [hs11]
    have q6 : s11.week = s.week := by rw [hs11]
    cases htw : isTwo (lookF L (I + 2, -1))
    · simp only [Bool.false_eq_true, if_false]
      have hnd : ¬ isDig (lookF L (I + 2, -1)) := by
        intro g; unfold isDig at g; simp [isTwo, g.1, g.2] at htw
      cases hnb : numBad (c1 - 48) last c1 false
      · have hb : ¬ (70 ≤ s11.num ∨ s11.num ≤ s11.ahead) := by rw [q1, q4]; simp [numBad] at hnb; omega
        have ee : endNumL s11 = (true, { s11 with free := fun j => if j = s11.num.toNat then true else s11.free j, ahead := s11.num, st := 12 }) := by unfold endNumL; rw [if_neg hb]
        simp only [Bool.false_eq_true, if_false]
        refine .inr ⟨c1 - 48, I + 2, (endNumL s11).2, rfl, by omega, by omega, mach_short (by omega) q2 hnd (by rw [ee]) (by rw [ee]), ?_, ?_, ?_, ?_, ?_⟩
        · rw [ee]
        · rw [ee]; exact q3
        · rw [ee]; exact q1
        · rw [ee]; exact q6
        · rw [ee]; simp only [q1, q5]
      · have hb : 70 ≤ s11.num ∨ s11.num ≤ s11.ahead := by rw [q1, q4]; simp [numBad] at hnb; omega
        have ee : endShortL s11 = (false, { s11 with place := s11.place - 1 }) := by unfold endShortL endNumL; rw [if_pos hb]; rfl
        simp only [if_true]
        refine .inl ⟨I + 2, I + 1, ?_, ?_⟩
        · unfold badF; rw [if_pos (by simp)]; simp; omega
        · have hm : mach L (I + 2) s11 = (false, { s11 with place := s11.place - 1 }) := by
            by_cases hJ : I + 2 < L.length
            · have e2 : takeL s11 (lookF L (I + 2, -1)) = (false, { s11 with place := s11.place - 1 }) := by rw [take_st11 _ q2]; unfold numSecondL; rw [if_neg hnd, ee]; rfl
              rw [mach_no (by omega) hJ (by rw [e2]), e2]
            · rw [mach_out (by omega)]; unfold finishL; rw [if_pos q2, ee]
          rw [hm]
          exact ⟨rfl, by simp only [q3]; omega, by omega⟩
    · simp only [if_true]
      have hg : isDig (lookF L (I + 2, -1)) := by
        unfold isDig; simp [isTwo] at htw; omega
      have hJ : I + 2 < L.length := by
        by_cases hJ : I + 2 < L.length
        · exact hJ
        · rw [look_end (by omega)] at hg; unfold isDig at hg; omega
      rw [show I + 2 + 1 = I + 3 by omega]
      generalize hc2 : lookF L (I + 2, -1) = c2 at *
      cases hnb : numBad (10 * (c1 - 48) + (c2 - 48)) last c1 true
      · have hb : ¬ c1 = 48 ∧ ¬ (70 ≤ s11.num * 10 + (c2 - 48) ∨ s11.num * 10 + (c2 - 48) ≤ s11.ahead) := by rw [q1, q4]; simp [numBad] at hnb; omega
        have ee : takeL s11 c2 = (true, { s11 with num := s11.num * 10 + (c2 - 48), free := fun j => if j = (s11.num * 10 + (c2 - 48)).toNat then true else s11.free j, ahead := s11.num * 10 + (c2 - 48), st := 12 }) := by
          rw [take_st11 _ q2]; unfold numSecondL; rw [if_pos hg, if_neg (by omega)]; unfold endNumL; rw [if_neg hb.2]
        have e2 := (mach_yes (L := L) (s := s11) (I := I + 2) (by omega) (by rw [hc2, ee])).2
        rw [hc2, ee] at e2
        rw [show I + 2 + 1 = I + 3 by omega] at e2
        have hn : 10 * (c1 - 48) + (c2 - 48) = s11.num * 10 + (c2 - 48) := by rw [q1]; omega
        simp only [Bool.false_eq_true, if_false]
        rw [hn]
        refine .inr ⟨_, I + 3, _, rfl, by omega, by omega, e2, rfl, ?_, rfl, q6, ?_⟩
        · simp only [q3]; omega
        · simp only [q5]
      · have ee : takeL s11 c2 = (false, s11) ∨ takeL s11 c2 = (false, { s11 with num := s11.num * 10 + (c2 - 48) }) := by
          rw [take_st11 _ q2]; unfold numSecondL; rw [if_pos hg]
          by_cases hz : s11.num = 0
          · rw [if_pos hz]; exact .inl rfl
          · rw [if_neg hz]; unfold endNumL
            rw [if_pos (by simp only [q1, q4]; simp [numBad] at hnb; omega)]
            exact .inr rfl
        simp only [if_true]
        refine .inl ⟨I + 3, I + 2, ?_, ?_⟩
        · unfold badF; rw [if_pos (by simp)]
        · have hm : mach L (I + 2) s11 = takeL s11 c2 := by
            have := mach_no (L := L) (s := s11) (I := I + 2) (by omega) hJ (by rw [hc2]; rcases ee with ee | ee <;> rw [ee])
            rw [hc2] at this; exact this
          rw [hm]
          rcases ee with ee | ee
          · rw [ee]; exact ⟨rfl, q3, by omega⟩
          · rw [ee]; exact ⟨rfl, q3, by omega⟩
  · rw [tk_no (by omega)]
    simp only [told_look (show 0 ≤ I + 1 by omega)]
    have e : takeL s (lookF L (I + 1, -1)) = (false, s) := by rw [take_st10 _ hst]; unfold numFirstL; rw [if_neg hd]
    have ht := mach_told (L := L) (I := I + 1) (by omega) hp (by omega) (by rw [e]) (by rw [e])
    have hz : isTwo 0 = false := rfl
    rw [hz]
    simp only [Bool.false_eq_true, if_false, told_bad (show 0 ≤ I + 1 by omega)]
    exact .inl ⟨I + 1, I + 1, by split <;> rfl, ht⟩
theorem sim_numbers : ∀ (f : Nat) (I : Int) (s : RS) (last : Int) (off : Nat → Bool), 0 ≤ I → I < L.length → s.st = 10 → s.place = I + 1 → s.ahead = last → (∀ j, s.free j = off j) → (L.length : Int) < I + f →
    Ends (mach L (I + 1) s) s (numbersF L f (I, -1) last off) (endF L (numbersF L f (I, -1) last off)) := by
  intro f
  induction f with
  | zero => intro I s last off h0 hl _ _ _ _ hf; omega
  | succ f ih =>
    intro I s last off h0 hl hst hp ha hfr hf
    rcases sim_number (L := L) h0 hst hp ha with ⟨J, P, h1, h2⟩ | ⟨n, J, s', h1, h2, h3, h4, h5, h6, h7, h8, h9⟩
    · rw [nums_told h1 h2.2.2, told_end h2.2.2]
      exact .inl ⟨h2.2.2, h2⟩
    · rw [nums_ok h1, h4]
      have hfr2 : ∀ j, s'.free j = setO off n j := fun j => by rw [h9]; exact free_set hfr n j
      have := sim_after (L := L) (f := f) J n s' (setO off n) (by omega) h3 h5 h6 h7 hfr2 (fun h44 hlt => ih J { s' with st := 10, place := J + 1 } n (setO off n) (by omega) hlt rfl rfl h7 hfr2 (by omega))
      rcases this with g | g
      · exact .inl g
      · exact .inr ⟨g.1, g.2.1, g.2.2.1.trans h8, g.2.2.2⟩
end

/-- both readers -/
theorem sim_all (L : List Int) :
    (0 ≤ (refF L).1.2 ∧ (loopL L rs0).1 = false ∧ (loopL L rs0).2.place = (refF L).1.2) ∨
    ((refF L).1.2 < 0 ∧ (loopL L rs0).1 = true ∧ WkR (refF L).2.1 (loopL L rs0).2.week ∧ ∀ j, (loopL L rs0).2.free j = (refF L).2.2 j) := by
  have hm : loopL L rs0 = mach L 0 rs0 := rfl
  rw [hm, refF_fin]
  rcases sim_entry (L := L) (I := 0) (s := rs0) (wk := fun _ => false) (by omega) (by omega) rfl rfl rfl rfl (fun _ => rfl) (fun d _ m _ => rfl) with ⟨J, P, h1, h2⟩ | ⟨J, s1, h1, h2, h3, h4, h5, h6⟩
  · obtain ⟨x, y, hx⟩ : ∃ x y, entryF L (0, -1) (fun _ => false) = (x, y) := ⟨_, _, rfl⟩
    rw [hx] at h1 ⊢
    simp only at h1
    rw [h1, told_entries h2.2.2]
    unfold fin
    simp only [told_look h2.2.2]
    refine .inl ?_
    simp only [show ¬ (0 : Int) = 33 by omega, if_false, told_bad h2.2.2]
    refine ⟨?_, h2.1, ?_⟩
    · split <;> exact h2.2.2
    · rw [h2.2.1]; split <;> rfl
  · obtain ⟨x, y, hx⟩ : ∃ x y, entryF L (0, -1) (fun _ => false) = (x, y) := ⟨_, _, rfl⟩
    rw [hx] at h1 h6 ⊢
    simp only at h1 h6
    rw [h1, h5]
    rcases sim_entries (L := L) (L.length + 1) J s1 y (by omega) h3 ⟨h6.st, h6.place, h6.beg, h6.time, rfl, rfl, h6.week⟩ h4 (by omega) with ⟨K, P, k1, k2⟩ | ⟨K, s2, k1, k2, k3, k4, k5, k6, k7⟩
    · obtain ⟨x2, y2, hx2⟩ : ∃ x y3, entriesF L (L.length + 1) ((J, -1), y) = (x, y3) := ⟨_, _, rfl⟩
      rw [hx2] at k1 ⊢
      simp only at k1
      rw [k1]
      unfold fin
      simp only [told_look k2.2.2]
      refine .inl ?_
      simp only [show ¬ (0 : Int) = 33 by omega, if_false, told_bad k2.2.2]
      refine ⟨?_, k2.1, ?_⟩
      · split <;> exact k2.2.2
      · rw [k2.2.1]; split <;> rfl
    · obtain ⟨x2, y2, hx2⟩ : ∃ x y3, entriesF L (L.length + 1) ((J, -1), y) = (x, y3) := ⟨_, _, rfl⟩
      rw [hx2] at k1 k7 ⊢
      simp only at k1 k7
      rw [k1, k6]
      have hfree : ∀ j, s2.free j = false := fun j => by rw [k7.free, h6.free]; rfl
      have hahead : s2.ahead = -1 := by rw [k7.ahead, h6.ahead]; rfl
      by_cases h33 : lookF L (K, -1) = 33
      · rw [fin_yes h33]
        have e : takeL s2 (lookF L (K, -1)) = (true, { s2 with st := 10 }) := by rw [take_st9 _ k7.st]; unfold spanEndL markL; rw [if_neg k5, if_neg k4, if_pos h33]
        obtain ⟨l1, e1⟩ := mach_yes (L := L) (s := s2) (I := K) (by omega) (by rw [e])
        rw [e] at e1
        simp only [k7.place] at e1
        rw [e1]
        rcases sim_numbers (L := L) (L.length + 1) K { s2 with st := 10, place := K + 1 } (-1) (fun _ => false) (by omega) l1 rfl rfl hahead hfree (by omega) with g | g
        · exact .inl ⟨g.1, g.2.1, g.2.2.1⟩
        · refine .inr ⟨g.1, g.2.1, ?_, g.2.2.2⟩
          rw [g.2.2.1]; exact k7.week
      · rw [fin_no h33]
        unfold fin2
        have e : takeL s2 (lookF L (K, -1)) = (false, s2) := by rw [take_st9 _ k7.st]; unfold spanEndL markL; rw [if_neg k5, if_neg k4, if_neg h33]
        by_cases hK : K < L.length
        · simp only [if_pos hK]
          rw [mach_no (by omega) hK (by rw [e]), e]
          refine .inl ?_
          unfold badF
          simp only [show (-1 : Int) < 0 by omega, if_true]
          exact ⟨by omega, trivial, k7.place⟩
        · simp only [if_neg hK]
          rw [mach_out (by omega)]
          unfold finishL
          rw [k7.st, if_neg (by omega)]
          exact .inr ⟨by omega, rfl, k7.week, hfree⟩
/-- the minutes that are open -/
theorem open_eq {wk : Nat → Bool} {week : Nat → List (Int × Int)} {fr off : Nat → Bool} (h : WkR wk week) (hf : ∀ j, fr j = off j) (t : Int) (h0 : 0 ≤ t) (_h1 : t < 100800) : openL week fr t = isOpen wk off t.toNat := by
  unfold openL isOpen
  have e1 : t.toNat % 10080 = (t / 1440 % 7).toNat * 1440 + (t % 1440).toNat := by omega
  rw [e1, h _ (by omega) _ (by omega), hf, show (t / 1440).toNat = t.toNat / 1440 by omega, show (((t % 1440).toNat : Nat) : Int) = t % 1440 by omega, Bool.and_comm]
end Go.Proofs.YtcnmbldikjljeaaGreatDoor
namespace Go.Proofs.YtcnmbldikjljeaaGreatDoor
open Go.Shelf

def sortSpan_ren : Go.Shelf.Ren := ⟨fun | 6 => 154 | 15 => 79 | 14 => 176 | 28 => 127 | 29 => 128 | 20 => 178 | 21 => 179 | 22 => 180 | 23 => 181 | 24 => 182 | 25 => 183 | 26 => 184 | 27 => 185 | 46 => 186 | 47 => 165 | 48 => 166 | 49 => 187 | 50 => 188 | 57 => 189 | n => n, fun | 22 => 101 | 24 => 140 | 25 => 249 | 3 => 3 | 39 => 179 | 0 => 0 | 53 => 96 | 55 => 223 | 4 => 4 | 46 => 215 | 45 => 214 | 50 => 219 | 5 => 5 | 9 => 9 | 66 => 254 | 70 => 258 | 76 => 266 | 77 => 42 | n => n, fun | n => n⟩
theorem sortSpan : Go.Proofs.SlLaysF0.n6 Tryz.prog sortSpan_ren where
  mixed := by kernel_rfl
  f6 := ⟨ "slices.SortFunc[[]docket/docket.span,docket/docket.span]", by decide, Tryz.func154.trans (congrArg some (by kernel_rfl))⟩
  f14 := ⟨ "slices.pdqsortCmpFunc[docket/docket.span]", by decide, Tryz.func176.trans (congrArg some (by kernel_rfl))⟩
  f15 := Tryz.func79.trans (congrArg some (by kernel_rfl))
  f20 := ⟨ "slices.insertionSortCmpFunc[docket/docket.span]", by decide, Tryz.func178.trans (congrArg some (by kernel_rfl))⟩
  f21 := ⟨ "slices.heapSortCmpFunc[docket/docket.span]", by decide, Tryz.func179.trans (congrArg some (by kernel_rfl))⟩
  f22 := ⟨ "slices.breakPatternsCmpFunc[docket/docket.span]", by decide, Tryz.func180.trans (congrArg some (by kernel_rfl))⟩
  f23 := ⟨ "slices.choosePivotCmpFunc[docket/docket.span]", by decide, Tryz.func181.trans (congrArg some (by kernel_rfl))⟩
  f24 := ⟨ "slices.reverseRangeCmpFunc[docket/docket.span]", by decide, Tryz.func182.trans (congrArg some (by kernel_rfl))⟩
  f25 := ⟨ "slices.partialInsertionSortCmpFunc[docket/docket.span]", by decide, Tryz.func183.trans (congrArg some (by kernel_rfl))⟩
  f26 := ⟨ "slices.partitionEqualCmpFunc[docket/docket.span]", by decide, Tryz.func184.trans (congrArg some (by kernel_rfl))⟩
  f27 := ⟨ "slices.partitionCmpFunc[docket/docket.span]", by decide, Tryz.func185.trans (congrArg some (by kernel_rfl))⟩
  f28 := Tryz.func127.trans (congrArg some (by kernel_rfl))
  f29 := Tryz.func128.trans (congrArg some (by kernel_rfl))
  f46 := ⟨ "slices.siftDownCmpFunc[docket/docket.span]", by decide, Tryz.func186.trans (congrArg some (by kernel_rfl))⟩
  f47 := Tryz.func165.trans (congrArg some (by kernel_rfl))
  f48 := Tryz.func166.trans (congrArg some (by kernel_rfl))
  f49 := ⟨ "slices.medianAdjacentCmpFunc[docket/docket.span]", by decide, Tryz.func187.trans (congrArg some (by kernel_rfl))⟩
  f50 := ⟨ "slices.medianCmpFunc[docket/docket.span]", by decide, Tryz.func188.trans (congrArg some (by kernel_rfl))⟩
  f57 := ⟨ "slices.order2CmpFunc[docket/docket.span]", by decide, Tryz.func189.trans (congrArg some (by kernel_rfl))⟩
  t0 := Tryz.underlying0
  a0 := Tryz.isAgg0
  z0 := Tryz.sizeOf0
  v0 := Tryz.zeroValue0
  t3 := Tryz.underlying3
  a3 := Tryz.isAgg3
  z3 := Tryz.sizeOf3
  v3 := Tryz.zeroValue3
  t4 := Tryz.underlying4
  a4 := Tryz.isAgg4
  z4 := Tryz.sizeOf4
  v4 := Tryz.zeroValue4
  t5 := Tryz.underlying5
  a5 := Tryz.isAgg5
  z5 := Tryz.sizeOf5
  v5 := Tryz.zeroValue5
  t9 := Tryz.underlying9
  a9 := Tryz.isAgg9
  z9 := Tryz.sizeOf9
  v9 := Tryz.zeroValue9
  t22 := Tryz.underlying101
  a22 := Tryz.isAgg101
  z22 := Tryz.sizeOf101
  v22 := Tryz.zeroValue101
  t25 := Tryz.underlying249
  a25 := Tryz.isAgg249
  z25 := Tryz.sizeOf249
  v25 := Tryz.zeroValue249
  t39 := Tryz.underlying179
  a39 := Tryz.isAgg179
  z39 := Tryz.sizeOf179
  v39 := Tryz.zeroValue179
  t45 := Tryz.underlying214
  a45 := Tryz.isAgg214
  z45 := Tryz.sizeOf214
  v45 := Tryz.zeroValue214
  t46 := Tryz.underlying215
  a46 := Tryz.isAgg215
  z46 := Tryz.sizeOf215
  v46 := Tryz.zeroValue215
  t50 := Tryz.underlying219
  a50 := Tryz.isAgg219
  z50 := Tryz.sizeOf219
  v50 := Tryz.zeroValue219
  t53 := Tryz.underlying96
  a53 := Tryz.isAgg96
  z53 := Tryz.sizeOf96
  v53 := Tryz.zeroValue96
  t55 := Tryz.underlying223
  a55 := Tryz.isAgg223
  z55 := Tryz.sizeOf223
  v55 := Tryz.zeroValue223
  t66 := Tryz.underlying254
  a66 := Tryz.isAgg254
  z66 := Tryz.sizeOf254
  v66 := Tryz.zeroValue254
  t70 := Tryz.underlying258
  a70 := Tryz.isAgg258
  z70 := Tryz.sizeOf258
  v70 := Tryz.zeroValue258
  t76 := Tryz.underlying266
  a76 := Tryz.isAgg266
  z76 := Tryz.sizeOf266
  v76 := Tryz.zeroValue266
  t77 := Tryz.underlying42
  a77 := Tryz.isAgg42
  z77 := Tryz.sizeOf42
  v77 := Tryz.zeroValue42
end Go.Proofs.YtcnmbldikjljeaaGreatDoor
