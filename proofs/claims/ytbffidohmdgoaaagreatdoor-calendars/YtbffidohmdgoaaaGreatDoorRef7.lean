import Derived.Test.YtbffidohmdgoaaaGreatDoorRef6
import Derived.Deep.AppendLies
namespace Go.Proofs.YtbffidohmdgoaaaGreatDoor
open Go.RowKit

theorem u8Info : (Tryz.prog.info? 5).map (fun i => (i.zero, i.size, i.bytes)) = some (some (.int .u8 0), 1, 1) := by kernel_rfl
def plain (c : Int) : Int := if 128 ≤ c then 0 else c
def crun (s : ByteArray) : Nat → Nat → List Int
  | 0, _ => []
  | f + 1, pos => if h : pos < s.size then plain ((s[pos]'h).toNat : Int) :: crun s f (pos + wideF s pos ((s[pos]'h).toNat : Int)) else []
theorem crun_go {s : ByteArray} {f pos : Nat} (h : pos < s.size) : crun s (f + 1) pos = plain ((s[pos]'h).toNat : Int) :: crun s f (pos + wideF s pos ((s[pos]'h).toNat : Int)) := by simp [crun, h]
theorem crun_end {s : ByteArray} {f pos : Nat} (h : ¬ pos < s.size) : crun s f pos = [] := by cases f <;> simp [crun, h]
def u8s (l : List Int) : List Value := l.map (Value.int .u8)
theorem wl_pos (s : ByteArray) (p n : Nat) (hn : 1 ≤ n) (hn2 : n ≤ 4) : ∀ f i lo hi, 1 ≤ wl s p n f i lo hi ∧ wl s p n f i lo hi ≤ 4 := by
  intro f
  induction f with
  | zero => intro i lo hi; simp only [wl]; omega
  | succ f ih =>
    intro i lo hi; simp only [wl]
    split
    · split
      · exact ih _ _ _
      · omega
    · omega
theorem wideF_pos (s : ByteArray) (p : Nat) (c : Int) : 1 ≤ wideF s p c ∧ wideF s p c ≤ 4 :=
  wl_pos s p _ (by unfold nOf; split <;> (try split) <;> (try split) <;> omega) (by unfold nOf; split <;> (try split) <;> (try split) <;> omega) _ _ _ _

set_option maxRecDepth 100000 in
set_option maxHeartbeats 2000000 in
theorem characters_any (s : ByteArray) (hs : s.size ≤ 200) (w : World) :
    Calls Tryz.prog 122 #[.string s] w fun e w' => ∃ v, e = .returned v ∧ w'.ownsRow w.heap.size 5 1 v (crun s s.size 0).length (u8s (crun s s.size 0)) ∧ Below w.heap.size w w' := by
  obtain ⟨i0, hi, hz0, hz1, hz2⟩ := info_parts u8Info
  have HI := hide hi
  clear hi
  go_enter Tryz.func122, Tryz.ntmps122
  go_wp2_with fail
  go_loopw [3, 4] (fun v i wr => ∃ (f pos : Nat) (l : List Int), i = .int .i64 pos ∧ wr.ownsRow w.heap.size 5 1 v l.length (u8s l) ∧ Below w.heap.size w wr ∧ l.length ≤ pos ∧ pos ≤ s.size + 4 ∧ Hid (l ++ crun s f pos = crun s s.size 0) ∧ s.size ≤ pos + f) (fun _ i _ => s.size - (intOf i).toNat)
  case atStart => exact ⟨s.size, 0, [], rfl, World.ownsRow_nil _ _ _ _, Below.refl _ _, by simp, by omega, by unfold Hid; simp, by omega⟩
  case round =>
    obtain ⟨f, pos, l, rfl, hown, hb, hlp, hpl, HD, hf⟩ := hrel
    have hsz := hb.size
    by_cases hp : pos < s.size
    · obtain ⟨f, rfl⟩ : ∃ g, f = g + 1 := ⟨f - 1, by omega⟩
      have HG := hide (crun_go (f := f) hp)
      have hwd := wideF_pos s pos ((s[pos]'hp).toNat : Int)
      have HWD := hide (wide_any s pos hp hs)
      have hp' : (pos : Int) < s.size := by omega
      have hc1 : ((s[pos]'hp).toNat : Int) ≤ 255 := by have := (s[pos]'hp).toNat_lt; omega
      have hc0 : (0 : Int) ≤ ((s[pos]'hp).toNat : Int) := by omega
      obtain ⟨c, hc⟩ : ∃ c : Int, ((s[pos]'hp).toNat : Int) = c := ⟨_, rfl⟩
      rw [hc] at hwd HG hc1 hc0 HWD
      generalize hwf : wideF s pos c = wd at *
      by_cases h128 : 128 ≤ c
      · skip
        have hpl2 : plain c = 0 := by unfold plain; rw [if_pos h128]
        rw [hpl2] at HG
        clear hpl2 hwf
        go_wp2_with (first | (at_builtin; refine wpList_append_lies _ rfl _ _ 216 rfl w.heap.size 5 i0 (.int .u8 0) 1 1 Tryz.underlying216 HI.out hz0 hz1 hz2 rfl (by decide) _ l.length (u8s l) (by rfl) (hown.alloc _) ⟨wr.heap.size, 0, none⟩ 1 1 [.int .u8 0] (by rfl) (by rfl) (cell_one_new _ _ _) (by simp [Value.oneCell']) (by omega) (by unfold maxLen; omega) (by omega) (by simp; omega) (wr.heap.size + 1) (by simp) ?_; intro gg cap w6 hown7 hgrow hat hlt) | fail)
        refine (HWD.out w6).mono ?_
        rintro e w' ⟨rfl, rfl⟩
        have hb2 : Below w.heap.size w w' := (hb.alloc hsz _).grown hgrow (by simp; omega) (fun k hk => (hown.lt k hk).1)
        clear hgrow hat
        go_wp2_with fail
        go_roundw
        case rel =>
          refine ⟨f, pos + wd, l ++ [0], by go_num, by rw [List.length_append]; simpa [u8s] using hown7, hb2, by simp; omega, by omega, ?_, by omega⟩
          unfold Hid; rw [← HD.out, HG.out]; simp
        case measure => simp [intOf]; omega
      · skip
        have hpl2 : plain c = c := by unfold plain; rw [if_neg h128]
        rw [hpl2] at HG
        clear hpl2 hwf
        go_wp2_with (first | (at_builtin; refine wpList_append_lies _ rfl _ _ 216 rfl w.heap.size 5 i0 (.int .u8 0) 1 1 Tryz.underlying216 HI.out hz0 hz1 hz2 rfl (by decide) _ l.length (u8s l) (by rfl) (hown.alloc _) ⟨wr.heap.size, 0, none⟩ 1 1 [.int .u8 c] (by rfl) (by rfl) (cell_one_new _ _ _) (by simp [Value.oneCell']) (by omega) (by unfold maxLen; omega) (by omega) (by simp; omega) (wr.heap.size + 1) (by simp) ?_; intro gg cap w6 hown7 hgrow hat hlt) | fail)
        refine (HWD.out w6).mono ?_
        rintro e w' ⟨rfl, rfl⟩
        have hb2 : Below w.heap.size w w' := (hb.alloc hsz _).grown hgrow (by simp; omega) (fun k hk => (hown.lt k hk).1)
        clear hgrow hat
        go_wp2_with fail
        go_roundw
        case rel =>
          refine ⟨f, pos + wd, l ++ [c], by go_num, by rw [List.length_append]; simpa [u8s] using hown7, hb2, by simp; omega, by omega, ?_, by omega⟩
          unfold Hid; rw [← HD.out, HG.out]; simp
        case measure => simp [intOf]; omega
    · have HE := hide (crun_end (f := f) hp)
      go_wp2_with fail
      go_ret
      refine ⟨_, rfl, ?_, hb⟩
      have := HD.out
      rw [HE.out, List.append_nil] at this
      rw [← this]; exact hown
end Go.Proofs.YtbffidohmdgoaaaGreatDoor
