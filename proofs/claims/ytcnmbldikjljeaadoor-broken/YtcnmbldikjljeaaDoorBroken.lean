import Derived.Test.YtcnmbldikjljeaaDoorBanged
import Derived.Test.YtcnmbldikjljeaaDoorPure6
namespace Go.Proofs.YtcnmbldikjljeaaDoor
open Go.RowKit

theorem ext_take (l : List UInt8) (c : Nat) : (⟨l.toArray⟩ : ByteArray).extract 0 c = ⟨(l.take c).toArray⟩ := by
  apply ByteArray.ext
  simp
theorem ext_drop (l : List UInt8) (c : Nat) : (⟨l.toArray⟩ : ByteArray).extract c l.length = ⟨(l.drop c).toArray⟩ := by
  apply ByteArray.ext
  simp
  exact List.take_of_length_le (by simp)

theorem bytes_of_list' (s : ByteArray) (l : List UInt8) (h : s.toList = l) : s = ⟨l.toArray⟩ := by
  apply ByteArray.ext
  rw [← h, Go.ByteArray.toList_eq]
theorem cat1 (a : List UInt8) (x : UInt8) (b : List UInt8) : (⟨a.toArray⟩ : ByteArray) ++ ⟨#[x]⟩ ++ ⟨b.toArray⟩ = ⟨(a ++ x :: b).toArray⟩ := by
  rw [show (⟨#[x]⟩ : ByteArray) = ⟨[x].toArray⟩ from rfl, bapp, bapp]; simp
theorem cat2 (a : List UInt8) (x y : UInt8) (b : List UInt8) : (⟨a.toArray⟩ : ByteArray) ++ ⟨#[x, y]⟩ ++ ⟨b.toArray⟩ = ⟨(a ++ x :: y :: b).toArray⟩ := by
  rw [show (⟨#[x, y]⟩ : ByteArray) = ⟨[x, y].toArray⟩ from rfl, bapp, bapp]; simp
set_option maxRecDepth 100000 in
set_option maxHeartbeats 4000000 in
theorem broken_any (es : List Ent) (fs : List Int) (ae af : Option Addr) (ce cf : Nat) (cut : Int) (put : ByteArray) (w : World) (h0 : 0 < w.heap.size) (hnm : ∀ j, j < 7 → w.cell? ⟨0, j, none⟩ = some (nmV j)) (K : WK w es fs ae af) (hcut : inR cut) :
    Calls Tryd.prog 4 #[.agg #[.slice ae es.length ce, .slice af fs.length cf], .int .i64 cut, .string put] w fun e w' => e = .returned (.bool true) ∧ Below w.heap.size w w' := by
  have HNM := hide hnm
  have HOK := hide (parse_txt es fs (asc_txt es fs)).1
  obtain ⟨hc0, hc1⟩ := hcut
  have hsz := txt_le es fs
  have hCP := hide (cut_parse es fs)
  have hPP := hide (put_parse es fs)
  have hPM := hide (putM_parse es fs)
  clear hnm
  have hbA : Below w.heap.size w (w.alloc (Obj.cells #[.slice ae es.length ce, .slice af fs.length cf] 25)) := (Below.refl _ _).alloc (Nat.le_refl _) _
  go_enter Tryd.func4, Tryd.ntmps4
  go_wp2_with fail
  refine (read_any es fs ae af ce cf _ (by simp) (nm_on h0 HNM.out hbA) (K.on hbA) HOK.out (by omega)).mono ?_
  rintro e w1 ⟨g, X, P⟩
  have hP := P.eq
  subst hP
  have hb1 : Below w.heap.size w w1 := hbA.trans (P.below.mono (by simp))
  have c0 : w1.cell? ⟨w.heap.size, 0, none⟩ = some (.slice ae es.length ce) := (P.below.cell (p := ⟨w.heap.size, 0, none⟩) (by simp)).trans (World.cell?_alloc_at _ _ _ _ rfl)
  have c1 : w1.cell? ⟨w.heap.size, 1, none⟩ = some (.slice af fs.length cf) := (P.below.cell (p := ⟨w.heap.size, 1, none⟩) (by simp)).trans (World.cell?_alloc_at _ _ _ _ rfl)
  have K1 := K.on hb1
  go_wp2_with fail
  refine (text_any es fs ae af ce cf _ K1.E K1.F K1.lf K1.le).mono ?_
  rintro e w2 ⟨rfl, T⟩
  have hb2 : Below w.heap.size w w2 := hb1.trans (T.below.mono hb1.size)
  clear c0 c1
  generalize hl : theTxt es fs = l at *
  go_wp2_with fail
  refine (pick_any _ _ _ (by omega) (by omega) (by omega) (by omega)).mono ?_
  rintro e' w' ⟨rfl, rfl⟩
  have q0 := pk_lo cut ((l.length : Int) + 1) (by omega)
  have q1 := pk_hi cut ((l.length : Int) + 1) (by omega)
  obtain ⟨c, hc⟩ := Int.eq_ofNat_of_zero_le q0
  rw [hc] at q0 q1 ⊢
  clear hc
  have hcl : c ≤ l.length := by omega
  go_wp2_with fail
  refine (banged_any l c hcl (by omega) _).mono ?_
  rintro e' w' ⟨rfl, rfl⟩
  have F1 : (parseL ⟨(l.take c).toArray⟩).1 = true ∨ ((parseL ⟨(l.take c).toArray⟩).1 = false ∧ ((parseL ⟨(l.take c).toArray⟩).2.place = c ∨ (bang l c = true ∧ (parseL ⟨(l.take c).toArray⟩).2.place = (c : Int) - 1))) := hCP.out c hcl
  have F2 : ∀ (x : UInt8) (b : List UInt8), x = 120 ∨ 128 ≤ x.toNat → (parseL ⟨(l.take c ++ x :: b).toArray⟩).1 = false ∧ ((parseL ⟨(l.take c ++ x :: b).toArray⟩).2.place = c ∨ (bang l c = true ∧ (parseL ⟨(l.take c ++ x :: b).toArray⟩).2.place = (c : Int) - 1)) := hPP.out c hcl
  have F3 : ∀ (b : List UInt8), (parseL ⟨(l.take c ++ 77 :: 32 :: b).toArray⟩).1 = false ∧ ((parseL ⟨(l.take c ++ 77 :: 32 :: b).toArray⟩).2.place = c ∨ (parseL ⟨(l.take c ++ 77 :: 32 :: b).toArray⟩).2.place = (c : Int) + 1 ∨ (bang l c = true ∧ (parseL ⟨(l.take c ++ 77 :: 32 :: b).toArray⟩).2.place = (c : Int) - 1)) := hPM.out c hcl
  generalize bang l c = N at *
  have H2 := hide F2
  have H3 := hide F3
  have H1 := hide F1
  clear F1 F2 F3 hCP hPP hPM
  have hsz1 : (⟨(l.take c).toArray⟩ : ByteArray).size ≤ 200 := by show (l.take c).toArray.size ≤ 200; simp; omega
  have hnm2 := hide (nm_on h0 HNM.out hb2)
  have hh2 : 0 < w'.heap.size := by have := hb2.size; omega
  rw [ext_take]
  go_wp2_with fail
  refine (parse_any ⟨(l.take c).toArray⟩ _ hh2 hnm2.out hsz1).mono ?_
  rintro e w3 ⟨hb3, hE⟩
  have hb3' : Below w.heap.size w w3 := hb2.trans (hb3.mono hb2.size)
  have hnm3 := hide (nm_on h0 HNM.out hb3')
  have hh3 : 0 < w3.heap.size := by have := hb3'.size; omega
  have hput : put.toList = [120] ∨ put.toList = [195, 169] ∨ put.toList = [255] ∨ put.toList = [77, 32] ∨ (¬ put.toList = [120] ∧ ¬ put.toList = [195, 169] ∧ ¬ put.toList = [255] ∧ ¬ put.toList = [77, 32]) := by
    by_cases a : put.toList = [120]
    · exact .inl a
    · by_cases b : put.toList = [195, 169]
      · exact .inr (.inl b)
      · by_cases d : put.toList = [255]
        · exact .inr (.inr (.inl d))
        · by_cases f : put.toList = [77, 32]
          · exact .inr (.inr (.inr (.inl f)))
          · exact .inr (.inr (.inr (.inr ⟨a, b, d, f⟩)))
  have hcc : ((c : Int) - 1 == c) = false := by simp; omega
  have hcd : ((c : Int) - 1 == (c : Int) + 1) = false := by simp; omega
  have hce : ((c : Int) + 1 == c) = false := by simp; omega
  have hEE : (∃ g2, e = .returned (.tuple #[P0 g2, .int .i64 0, .int .i64 0])) ∨ e = .returned (.tuple #[.pointer none, .int .i64 2, .int .i64 c]) ∨ (N = true ∧ e = .returned (.tuple #[.pointer none, .int .i64 2, .int .i64 ((c : Int) - 1)])) := by
    rcases hE with ⟨hok, g2, _, rfl, _⟩ | ⟨hno, rfl⟩
    · exact .inl ⟨g2, rfl⟩
    · rcases H1.out with h | ⟨_, h | ⟨h1, h2⟩⟩
      · rw [h] at hno; cases hno
      · right; left; rw [h]
      · right; right; exact ⟨h1, by rw [h2]⟩
  clear hE H1 hb3 HNM hnm2 hbA P hb1 K1 K T HOK hl q0 q1
  rcases hput with hp | hp | hp | hp | ⟨hp1, hp2, hp3, hp4⟩
  · obtain rfl : put = ⟨#[120]⟩ := bytes_of_list' put _ hp
    clear hp
    have H := hide (H2.out 120 (l.drop c) (.inl rfl))
    have hz : (⟨(l.take c ++ 120 :: l.drop c).toArray⟩ : ByteArray).size ≤ 200 := by show (l.take c ++ 120 :: l.drop c).toArray.size ≤ 200; simp; omega
    clear H2 H3
    rcases hEE with ⟨g2, rfl⟩ | rfl | ⟨rfl, rfl⟩
    all_goals
      go_wp2_with fail
      rw [ext_drop, show (⟨(l.take c).toArray⟩ : ByteArray) ++ ⟨#[120]⟩ ++ ⟨(l.drop c).toArray⟩ = ⟨(l.take c ++ 120 :: l.drop c).toArray⟩ from cat1 _ _ _]
      refine (parse_any _ _ hh3 hnm3.out hz).mono ?_
      rintro e w4 ⟨hb4, ⟨hok, _⟩ | ⟨_, rfl⟩⟩
      · rw [H.out.1] at hok; cases hok
      · have hG := H.out.2
        have hbf := hb3'.trans (hb4.mono hb3'.size)
        clear H
        generalize (parseL ⟨(l.take c ++ 120 :: l.drop c).toArray⟩).2.place = p at *
        rcases hG with rfl | ⟨hN, rfl⟩
        · go_wp2_with fail
          go_ret
          exact ⟨rfl, hbf⟩
        · try subst hN
          go_wp2_with fail
          go_ret
          exact ⟨rfl, hbf⟩
  · obtain rfl : put = ⟨#[195, 169]⟩ := bytes_of_list' put _ hp
    clear hp
    have H := hide (H2.out 195 (169 :: l.drop c) (.inr (by decide)))
    have hz : (⟨(l.take c ++ 195 :: 169 :: l.drop c).toArray⟩ : ByteArray).size ≤ 200 := by show (l.take c ++ 195 :: 169 :: l.drop c).toArray.size ≤ 200; simp; omega
    clear H2 H3
    rcases hEE with ⟨g2, rfl⟩ | rfl | ⟨rfl, rfl⟩
    all_goals
      go_wp2_with fail
      rw [ext_drop, show (⟨(l.take c).toArray⟩ : ByteArray) ++ ⟨#[195, 169]⟩ ++ ⟨(l.drop c).toArray⟩ = ⟨(l.take c ++ 195 :: 169 :: l.drop c).toArray⟩ from cat2 _ _ _ _]
      refine (parse_any _ _ hh3 hnm3.out hz).mono ?_
      rintro e w4 ⟨hb4, ⟨hok, _⟩ | ⟨_, rfl⟩⟩
      · rw [H.out.1] at hok; cases hok
      · have hG := H.out.2
        have hbf := hb3'.trans (hb4.mono hb3'.size)
        clear H
        generalize (parseL ⟨(l.take c ++ 195 :: 169 :: l.drop c).toArray⟩).2.place = p at *
        rcases hG with rfl | ⟨hN, rfl⟩
        · go_wp2_with fail
          go_ret
          exact ⟨rfl, hbf⟩
        · try subst hN
          go_wp2_with fail
          go_ret
          exact ⟨rfl, hbf⟩
  · obtain rfl : put = ⟨#[255]⟩ := bytes_of_list' put _ hp
    clear hp
    have H := hide (H2.out 255 (l.drop c) (.inr (by decide)))
    have hz : (⟨(l.take c ++ 255 :: l.drop c).toArray⟩ : ByteArray).size ≤ 200 := by show (l.take c ++ 255 :: l.drop c).toArray.size ≤ 200; simp; omega
    clear H2 H3
    rcases hEE with ⟨g2, rfl⟩ | rfl | ⟨rfl, rfl⟩
    all_goals
      go_wp2_with fail
      rw [ext_drop, show (⟨(l.take c).toArray⟩ : ByteArray) ++ ⟨#[255]⟩ ++ ⟨(l.drop c).toArray⟩ = ⟨(l.take c ++ 255 :: l.drop c).toArray⟩ from cat1 _ _ _]
      refine (parse_any _ _ hh3 hnm3.out hz).mono ?_
      rintro e w4 ⟨hb4, ⟨hok, _⟩ | ⟨_, rfl⟩⟩
      · rw [H.out.1] at hok; cases hok
      · have hG := H.out.2
        have hbf := hb3'.trans (hb4.mono hb3'.size)
        clear H
        generalize (parseL ⟨(l.take c ++ 255 :: l.drop c).toArray⟩).2.place = p at *
        rcases hG with rfl | ⟨hN, rfl⟩
        · go_wp2_with fail
          go_ret
          exact ⟨rfl, hbf⟩
        · try subst hN
          go_wp2_with fail
          go_ret
          exact ⟨rfl, hbf⟩
  · obtain rfl : put = ⟨#[77, 32]⟩ := bytes_of_list' put _ hp
    clear hp
    have H := hide (H3.out (l.drop c))
    have hz : (⟨(l.take c ++ 77 :: 32 :: l.drop c).toArray⟩ : ByteArray).size ≤ 200 := by show (l.take c ++ 77 :: 32 :: l.drop c).toArray.size ≤ 200; simp; omega
    clear H2 H3
    rcases hEE with ⟨g2, rfl⟩ | rfl | ⟨rfl, rfl⟩
    all_goals
      go_wp2_with fail
      rw [ext_drop, show (⟨(l.take c).toArray⟩ : ByteArray) ++ ⟨#[77, 32]⟩ ++ ⟨(l.drop c).toArray⟩ = ⟨(l.take c ++ 77 :: 32 :: l.drop c).toArray⟩ from cat2 _ _ _ _]
      refine (parse_any _ _ hh3 hnm3.out hz).mono ?_
      rintro e w4 ⟨hb4, ⟨hok, _⟩ | ⟨_, rfl⟩⟩
      · rw [H.out.1] at hok; cases hok
      · have hG := H.out.2
        have hbf := hb3'.trans (hb4.mono hb3'.size)
        clear H
        generalize (parseL ⟨(l.take c ++ 77 :: 32 :: l.drop c).toArray⟩).2.place = p at *
        rcases hG with rfl | rfl | ⟨hN, rfl⟩
        · go_wp2_with fail
          go_ret
          exact ⟨rfl, hbf⟩
        · go_wp2_with fail
          go_ret
          exact ⟨rfl, hbf⟩
        · try subst hN
          go_wp2_with fail
          go_ret
          exact ⟨rfl, hbf⟩
  · have e1 : (put.toList == [120]) = false := by simp [hp1]
    have e2 : (put.toList == [195, 169]) = false := by simp [hp2]
    have e3 : (put.toList == [255]) = false := by simp [hp3]
    have e4 : (put.toList == [77, 32]) = false := by simp [hp4]
    clear hp1 hp2 hp3 hp4
    have H := hide (H2.out 120 (l.drop c) (.inl rfl))
    have hz : (⟨(l.take c ++ 120 :: l.drop c).toArray⟩ : ByteArray).size ≤ 200 := by show (l.take c ++ 120 :: l.drop c).toArray.size ≤ 200; simp; omega
    clear H2 H3
    rcases hEE with ⟨g2, rfl⟩ | rfl | ⟨rfl, rfl⟩
    all_goals
      go_wp2_with fail
      rw [ext_drop, show (⟨(l.take c).toArray⟩ : ByteArray) ++ ⟨#[120]⟩ ++ ⟨(l.drop c).toArray⟩ = ⟨(l.take c ++ 120 :: l.drop c).toArray⟩ from cat1 _ _ _]
      refine (parse_any _ _ hh3 hnm3.out hz).mono ?_
      rintro e w4 ⟨hb4, ⟨hok, _⟩ | ⟨_, rfl⟩⟩
      · rw [H.out.1] at hok; cases hok
      · have hG := H.out.2
        have hbf := hb3'.trans (hb4.mono hb3'.size)
        clear H
        generalize (parseL ⟨(l.take c ++ 120 :: l.drop c).toArray⟩).2.place = p at *
        rcases hG with rfl | ⟨hN, rfl⟩
        · go_wp2_with fail
          go_ret
          exact ⟨rfl, hbf⟩
        · try subst hN
          go_wp2_with fail
          go_ret
          exact ⟨rfl, hbf⟩
end Go.Proofs.YtcnmbldikjljeaaDoor
