import Derived.Test.YtcnmbldikjljeaaDoorParseW
import Derived.Test.YtcnmbldikjljeaaDoorOpen
import Derived.Test.YtcnmbldikjljeaaDoorTxtWalk
namespace Go.Proofs.YtcnmbldikjljeaaDoor
open Go.RowKit

def moB : ByteArray := ⟨#[77, 111, 32, 48, 57, 58, 48, 48, 45, 49, 48, 58, 48, 48]⟩
theorem mo_ok : (parseL moB).1 = true := by kernel_rfl
theorem mo_540 : openL (parseL moB).2.week (parseL moB).2.free 540 = true := by kernel_rfl
theorem mo_600 : openL (parseL moB).2.week (parseL moB).2.free 600 = false := by kernel_rfl

set_option maxRecDepth 100000 in
set_option maxHeartbeats 1000000 in
theorem reads_any (w : World) (h0 : 0 < w.heap.size) (hnm : ∀ j, j < 7 → w.cell? ⟨0, j, none⟩ = some (nmV j)) :
    Calls Tryd.prog 16 #[] w fun e w' => e = .returned (.bool true) ∧ Below w.heap.size w w' := by
  have HNM := hide hnm
  clear hnm
  go_enter Tryd.func16, Tryd.ntmps16
  go_wp2_with fail
  refine (parse_any moB w h0 HNM.out (by decide)).mono ?_
  rintro e w1 ⟨hb1, ⟨_, g, hg, rfl, C⟩ | ⟨hno, _⟩⟩
  · go_wp2_with fail
    refine (open_any g _ _ _ _ C (by omega) (by omega) (parse_len moB (by decide) mo_ok)).mono ?_
    rw [mo_540]
    rintro e w2 ⟨rfl, hb2⟩
    go_wp2_with fail
    refine (open_any g _ _ _ _ (C.on hb2) (by omega) (by omega) (parse_len moB (by decide) mo_ok)).mono ?_
    rw [mo_600]
    rintro e w3 ⟨rfl, hb3⟩
    go_wp2_with fail
    go_ret
    exact ⟨rfl, hb1.trans ((hb2.mono hb1.size).trans (hb3.mono (Nat.le_trans hb1.size hb2.size)))⟩
  · rw [mo_ok] at hno; cases hno

end Go.Proofs.YtcnmbldikjljeaaDoor
