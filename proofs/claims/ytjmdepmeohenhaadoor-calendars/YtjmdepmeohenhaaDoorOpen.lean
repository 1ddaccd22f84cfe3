import Derived.Test.YtjmdepmeohenhaaDoorParse
namespace Go.Proofs.YtjmdepmeohenhaaDoor
open Go.RowKit

def hitL (m : Int) (l : List (Int × Int)) : Bool := l.any fun p => decide (p.1 ≤ m) && decide (m < p.2)
def openL (wk : Nat → List (Int × Int)) (fr : Nat → Bool) (t : Int) : Bool := !fr (t / 1440).toNat && hitL (t % 1440) (wk (t / 1440 % 7).toNat)
theorem flat_at (l : List (Int × Int)) (k : Nat) (h : k < l.length) : (flat l)[k * 2]? = some (.int .i64 l[k].1) ∧ (flat l)[k * 2 + 1]? = some (.int .i64 l[k].2) := by
  induction l generalizing k with
  | nil => simp at h
  | cons p l ih =>
    cases k with
    | zero => simp [flat]
    | succ k =>
      have := ih k (by simpa using h)
      have e : flat (p :: l) = [.int .i64 p.1, .int .i64 p.2] ++ flat l := by simp [flat]
      rw [e, show (k + 1) * 2 = k * 2 + 2 by omega, show k * 2 + 2 + 1 = (k * 2 + 1) + 2 by omega]
      simpa using this
theorem flat_length (l : List (Int × Int)) : (flat l).length = l.length * 2 := by
  induction l with
  | nil => rfl
  | cons p l ih => have e : flat (p :: l) = [.int .i64 p.1, .int .i64 p.2] ++ flat l := by simp [flat]
                   rw [e]; simp [ih]; omega
theorem hit_none {m : Int} {l : List (Int × Int)} (h : hitL m (l.take l.length) = false) : hitL m l = false := by rw [List.take_length] at h; exact h
theorem hit_step {m : Int} {l : List (Int × Int)} {k : Nat} (hk : k < l.length) (h : hitL m (l.take k) = false) (hn : ¬ (l[k].1 ≤ m ∧ m < l[k].2)) : hitL m (l.take (k + 1)) = false := by
  rw [List.take_succ_eq_append_getElem hk]
  simp only [hitL, List.any_append, Bool.or_eq_false_iff] at h ⊢
  refine ⟨h, ?_⟩
  simp only [List.any_cons, List.any_nil, Bool.or_false]
  by_cases a : l[k].1 ≤ m
  · have : ¬ m < l[k].2 := fun e => hn ⟨a, e⟩
    simp [this]
  · simp [a]
theorem hit_yes {m : Int} {l : List (Int × Int)} {k : Nat} (hk : k < l.length) (h1 : l[k].1 ≤ m) (h2 : m < l[k].2) : hitL m l = true := by
  simp only [hitL, List.any_eq_true]
  exact ⟨l[k], List.getElem_mem hk, by simp [h1, h2]⟩

set_option maxRecDepth 100000 in
set_option maxHeartbeats 400000 in
theorem open_bad (g : Nat) (t : Int) (w : World) (h : t < 0 ∨ 100800 ≤ t) :
    Calls Tryd.prog 9 #[.pointer (some ⟨g, 0, none⟩), .int .i64 t] w fun e w' => e = .returned (.tuple #[.bool false, .int .i64 1]) ∧ w' = w := by
  by_cases h0 : t < 0
  · clear h
    go_enter Tryd.func9, Tryd.ntmps9
    go_wp2
    go_ret2
    exact ⟨rfl, rfl⟩
  · have h1 : 100800 ≤ t := by omega
    clear h
    go_enter Tryd.func9, Tryd.ntmps9
    go_wp2
    go_ret2
    exact ⟨rfl, rfl⟩

set_option maxRecDepth 100000 in
set_option maxHeartbeats 1000000 in
theorem open_any (g : Nat) (wk : Nat → List (Int × Int)) (fr : Nat → Bool) (t : Int) (w : World) (C : CalW w g wk fr) (h0 : 0 ≤ t) (h1 : t < 100800) (hl : ∀ j, (wk j).length ≤ 1000) :
    Calls Tryd.prog 9 #[.pointer (some ⟨g, 0, none⟩), .int .i64 t] w fun e w' => e = .returned (.tuple #[.bool (openL wk fr t), .int .i64 0]) ∧ Below w.heap.size w w' := by
  have cf := C.free (t / 1440).toNat (by omega)
  obtain ⟨v, cv, hown⟩ := C.week (t / 1440 % 7).toNat (by omega)
  have d0 : 0 ≤ t / 1440 := by omega
  have d1 : t / 1440 < 70 := by omega
  have m0 : 0 ≤ t / 1440 % 7 := by omega
  have m1 : t / 1440 % 7 < 7 := by omega
  cases hf : fr (t / 1440).toNat
  · have hn := hl (t / 1440 % 7).toNat
    have ho : openL wk fr t = hitL (t % 1440) (wk (t / 1440 % 7).toNat) := by unfold openL; rw [hf]; rfl
    have HO := hide ho
    rw [hf] at cf
    clear hf ho
    generalize wk (t / 1440 % 7).toNat = l at *
    rcases hown.2 with ⟨rfl, hz⟩ | ⟨g2, cap, cur, rfl, _, hg2, _⟩
    · have hz2 : hitL (t % 1440) l = false := by rw [List.length_eq_zero_iff] at hz; subst hz; rfl
      have HZ := hide hz2
      clear hz2
      go_enter Tryd.func9, Tryd.ntmps9
      go_wp2
      go_loopw [34] (fun i wr => i = .int .i64 0 ∧ wr = w) (fun _ _ => 0)
      case atStart => exact ⟨rfl, rfl⟩
      case round =>
        obtain ⟨rfl, rfl⟩ := hrel
        go_wp2
        go_ret2
        rw [HO.out, HZ.out]
        exact ⟨rfl, Below.refl _ _⟩
    · have hg2s : g2 < w.heap.size := (Array.getElem?_eq_some_iff.1 hg2).1
      go_enter Tryd.func9, Tryd.ntmps9
      go_wp2
      go_loopw [34] (fun i wr => ∃ k : Nat, k ≤ l.length ∧ i = .int .i64 k ∧ Below w.heap.size w wr ∧ Hid (hitL (t % 1440) (l.take k) = false)) (fun i _ => l.length - (intOf i).toNat)
      case atStart => exact ⟨0, Nat.zero_le _, rfl, Below.refl _ _, rfl⟩
      case round =>
        obtain ⟨k, hk, rfl, hb, HH⟩ := hrel
        have hsz := hb.size
        by_cases hlt : k < l.length
        · have hc := flat_at l k hlt
          have e0 : wr.cell? ⟨g2, k * 2, none⟩ = some (.int .i64 l[k].1) := (hb.cell (p := ⟨g2, k * 2, none⟩) hg2s).trans ((hown.cellAt (k * 2) (by omega)).trans hc.1)
          have e1 : wr.cell? ⟨g2, k * 2 + 1, none⟩ = some (.int .i64 l[k].2) := (hb.cell (p := ⟨g2, k * 2 + 1, none⟩) hg2s).trans ((hown.cellAt (k * 2 + 1) (by omega)).trans hc.2)
          have hlt' : (k : Int) < l.length := by omega
          have hg2r : g2 < wr.heap.size := by omega
          clear hc cf cv hown
          by_cases a : l[k].1 ≤ t % 1440
          · by_cases a2 : t % 1440 < l[k].2
            · have HY := hide (hit_yes hlt a a2)
              go_wp2
              go_ret2
              rw [HO.out, HY.out]
              exact ⟨rfl, hb.alloc hsz _⟩
            · go_wp2
              go_roundw
              case rel => exact ⟨k + 1, by omega, by go_num, hb.alloc hsz _, hit_step hlt HH.out (fun e => a2 e.2)⟩
              case measure => simp [intOf]; omega
          · have a' : t % 1440 < l[k].1 := by omega
            go_wp2
            go_roundw
            case rel => exact ⟨k + 1, by omega, by go_num, hb.alloc hsz _, hit_step hlt HH.out (fun e => a e.1)⟩
            case measure => simp [intOf]; omega
        · have hke : k = l.length := by omega
          have HK := hide hke
          clear hke
          go_wp2
          go_ret2
          have hH := HH.out
          rw [HK.out] at hH
          rw [HO.out, hit_none hH]
          exact ⟨rfl, hb⟩
  · have ho : openL wk fr t = false := by unfold openL; rw [hf]; rfl
    have HO := hide ho
    rw [hf] at cf
    clear hf ho
    go_enter Tryd.func9, Tryd.ntmps9
    go_wp2
    go_ret2
    rw [HO.out]
    exact ⟨rfl, Below.refl _ _⟩
end Go.Proofs.YtjmdepmeohenhaaDoor
