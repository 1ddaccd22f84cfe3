import Derived.Test.YtcnmbldikjljeaaGreatDoorRows
import Derived.WalkKit
import Derived.WalkSpells
import Derived.WalkLawsBesides
namespace Go.Proofs.YtcnmbldikjljeaaGreatDoor
open Go.RowKit

theorem hide {p : Prop} (h : p) : Hid p := h
theorem unhide {p : Prop} (h : Hid p) : p := h
def pk (c n : Int) : Int := (if c < 0 then -(c + 1) else c) % n
theorem pk_lo (c n : Int) (h : 0 < n) : 0 ≤ pk c n := by unfold pk; exact Int.emod_nonneg _ (by omega)
theorem pk_hi (c n : Int) (h : 0 < n) : pk c n < n := by unfold pk; exact Int.emod_lt_of_pos _ h
theorem ret_int {k : IntKind} {a b : Int} (h : a = b) : Ending.returned (.int k a) = .returned (.int k b) := by rw [h]
theorem neg_tmod (c n : Int) (h : c < 0) : -(c + 1).tmod n = (-(c + 1)) % n := by
  rw [← Int.neg_tmod, Int.tmod_eq_emod_of_nonneg (by omega)]

def dg (n : Int) : List UInt8 := [UInt8.ofNat (48 + n / 10).toNat, UInt8.ofNat (48 + n % 10).toNat]
def str (l : List UInt8) : Value := .string ⟨l.toArray⟩
def ck (q : Int) : List UInt8 := dg (q / 4) ++ [58] ++ dg (q % 4 * 15)
end Go.Proofs.YtcnmbldikjljeaaGreatDoor
namespace Go.Proofs.YtcnmbldikjljeaaGreatDoor
open Go.RowKit

def nmB : List UInt8 := [77, 111, 84, 117, 87, 101, 84, 104, 70, 114, 83, 97, 83, 117]
def nm (d : Nat) : List UInt8 := (nmB.drop (2 * d)).take 2
def dset (days : Int) (d : Nat) : Bool := !(days / 2 ^ d % 2 == 0)
def anyTo (days : Int) : Nat → Bool
  | 0 => false
  | k + 1 => anyTo days k || dset days k
def comma (b : Bool) : List UInt8 := if b then [44] else []
def daysTo (days : Int) : Nat → List UInt8
  | 0 => []
  | k + 1 => daysTo days k ++ (if dset days k then comma (anyTo days k) ++ nm k else [])
abbrev Ent := Int × Int × Int
def eDays (e : Ent) : Int := 1 + pk e.1 127
def eFrom (e : Ent) : Int := pk e.2.1 96
def eTo (e : Ent) : Int := eFrom e + 1 + pk e.2.2 (96 - eFrom e)
def entTxt (e : Ent) : List UInt8 := daysTo (eDays e) 7 ++ [32] ++ ck (eFrom e) ++ [45] ++ ck (eTo e)
def ent (es : List Ent) (i : Nat) : Ent := es.getD i (31, 36, 32)
def txtTo (es : List Ent) : Nat → List UInt8
  | 0 => []
  | k + 1 => txtTo es k ++ (if k = 0 then [] else [59]) ++ entTxt (ent es k)
/-- what the days below k mark -/
def markTo (f : Nat → Bool) (e : Ent) (k : Nat) (i : Nat) : Bool := f i || (decide (i / 96 < k) && dset (eDays e) (i / 96) && decide (eFrom e ≤ (i % 96 : Nat)) && decide (((i % 96 : Nat) : Int) < eTo e))
def wkTo (es : List Ent) : Nat → Nat → Bool
  | 0, _ => false
  | k + 1, i => markTo (wkTo es k) (ent es k) 7 i
def nEnt (es : List Ent) : Nat := max 1 (min es.length 3)
def frNums : Int → List Int → List Int
  | _, [] => []
  | last, x :: xs => if 70 ≤ last + 1 + pk x 9 then [] else (last + 1 + pk x 9) :: frNums (last + 1 + pk x 9) xs
def numTxt (n : Int) : List UInt8 := if 10 ≤ n then dg n else (dg n).drop 1
def frTxt : List Int → List UInt8
  | [] => []
  | n :: ns => [33] ++ numTxt n ++ (ns.map fun m => [44] ++ numTxt m).flatten
def theTxt (es : List Ent) (fs : List Int) : List UInt8 := txtTo es (nEnt es) ++ frTxt (frNums (-1) (fs.take 20))
def theWk (es : List Ent) (i : Nat) : Bool := wkTo es (nEnt es) i
def theOff (fs : List Int) (i : Nat) : Bool := (frNums (-1) (fs.take 20)).contains (i : Int)

theorem dg_len (n : Int) : (dg n).length = 2 := rfl
theorem ck_len (n : Int) : (ck n).length = 5 := rfl
theorem nm_le (d : Nat) : (nm d).length ≤ 2 := by unfold nm; simp; omega
theorem comma_le (b : Bool) : (comma b).length ≤ 1 := by cases b <;> simp [comma]
theorem daysTo_le (D : Int) (k : Nat) : (daysTo D k).length ≤ 3 * k := by
  induction k with
  | zero => simp [daysTo]
  | succ k ih =>
    have h1 := nm_le k
    have h2 := comma_le (anyTo D k)
    simp only [daysTo]
    split <;> simp <;> omega
theorem entTxt_le (e : Ent) : (entTxt e).length ≤ 33 := by
  have := daysTo_le (eDays e) 7
  simp [entTxt, ck_len]; omega
theorem txtTo_le (es : List Ent) (k : Nat) : (txtTo es k).length ≤ 34 * k := by
  induction k with
  | zero => simp [txtTo]
  | succ k ih =>
    have := entTxt_le (ent es k)
    simp only [txtTo]
    split <;> simp <;> omega
theorem bapp (a b : List UInt8) : (⟨a.toArray⟩ : ByteArray) ++ ⟨b.toArray⟩ = ⟨(a ++ b).toArray⟩ := rfl
theorem sapp {a b : List UInt8} (h : a = b) : Value.string ⟨a.toArray⟩ = .string ⟨b.toArray⟩ := by rw [h]

def sep (k : Nat) : List UInt8 := if k = 0 then [] else [59]
def markIn (f : Nat → Bool) (e : Ent) (j : Nat) (q : Int) (i : Nat) : Bool := markTo f e j i || (decide (i / 96 = j) && decide (eFrom e ≤ (i % 96 : Nat)) && decide (((i % 96 : Nat) : Int) < q))
theorem markTo_zero (f : Nat → Bool) (e : Ent) (i : Nat) : f i = markTo f e 0 i := by simp [markTo]
theorem markIn_from (f : Nat → Bool) (e : Ent) (j : Nat) (i : Nat) : markTo f e j i = markIn f e j (eFrom e) i := by
  simp only [markIn]
  by_cases h : eFrom e ≤ (i % 96 : Nat)
  · have h2 : ¬ ((i % 96 : Nat) : Int) < eFrom e := by omega
    rw [decide_eq_false h2]; simp
  · rw [decide_eq_false h]; simp
theorem markIn_step (f : Nat → Bool) (e : Ent) (j : Nat) (q : Nat) (hq : q < 96) (h0 : eFrom e ≤ q) (i : Nat) : (markIn f e j q i || decide (i = 96 * j + q)) = markIn f e j ((q : Int) + 1) i := by
  simp only [markIn]
  by_cases h : i = 96 * j + q
  · subst h
    have h1 : (96 * j + q) / 96 = j := by omega
    have h2 : (96 * j + q) % 96 = q := by omega
    simp [h1, h2, h0]; omega
  · by_cases hj : i / 96 = j
    · have h3 : i % 96 ≠ q := by omega
      have : (((i % 96 : Nat) : Int) < (q : Int)) ↔ (((i % 96 : Nat) : Int) < (q : Int) + 1) := by omega
      simp only [h, decide_false, Bool.or_false, decide_eq_decide.2 this]
    · simp [h, hj]
theorem markIn_stepI (f : Nat → Bool) (e : Ent) (j : Nat) (q : Int) (h : 0 ≤ q) (hq : q < 96) (h0 : eFrom e ≤ q) (i : Nat) : (markIn f e j q i || decide (i = (96 * (j : Int) + q).toNat)) = markIn f e j (q + 1) i := by
  obtain ⟨n, rfl⟩ := Int.eq_ofNat_of_zero_le h
  have := markIn_step f e j n (by omega) h0 i
  rw [show (96 * (j : Int) + (n : Int)).toNat = 96 * j + n from by omega]
  exact this
theorem markIn_to (f : Nat → Bool) (e : Ent) (j : Nat) (hd : dset (eDays e) j = true) (i : Nat) : markIn f e j (eTo e) i = markTo f e (j + 1) i := by
  simp only [markIn, markTo]
  by_cases hj : i / 96 = j
  · subst hj; simp [hd]
  · have : (i / 96 < j) ↔ (i / 96 < j + 1) := by omega
    simp [hj, decide_eq_decide.2 this]
theorem markTo_skip (f : Nat → Bool) (e : Ent) (j : Nat) (hd : dset (eDays e) j = false) (i : Nat) : markTo f e j i = markTo f e (j + 1) i := by
  simp only [markTo]
  by_cases hj : i / 96 = j
  · subst hj; simp [hd]
  · have : (i / 96 < j) ↔ (i / 96 < j + 1) := by omega
    simp [decide_eq_decide.2 this]
theorem txt_start (a : List UInt8) (k : Nat) (h : k = 0) : ∃ bs, Value.string ⟨a.toArray⟩ = .string ⟨bs.toArray⟩ ∧ Hid (bs = a ++ sep k) ∧ bs.length ≤ a.length + 1 := ⟨_, rfl, by unfold Hid; simp [sep, h], by simp⟩
theorem txt_start' (a : List UInt8) (k : Nat) (h : ¬ k = 0) : ∃ bs : List UInt8, Value.string (⟨a.toArray⟩ ++ ⟨#[59]⟩) = .string ⟨bs.toArray⟩ ∧ Hid (bs = a ++ sep k) ∧ bs.length ≤ a.length + 1 := ⟨a ++ [59], rfl, by unfold Hid; simp [sep, h], by simp⟩
theorem dset_true {D : Int} {j : Nat} (h0 : 0 ≤ D) (h : dset D j = true) : ((D / 2 ^ j).tmod 2 == 0) = false := by
  rw [Int.tmod_eq_emod_of_nonneg (Int.ediv_nonneg h0 (Int.le_of_lt (Int.pow_pos (by omega))))]
  simpa [dset] using h
theorem dset_false {D : Int} {j : Nat} (h0 : 0 ≤ D) (h : dset D j = false) : ((D / 2 ^ j).tmod 2 == 0) = true := by
  rw [Int.tmod_eq_emod_of_nonneg (Int.ediv_nonneg h0 (Int.le_of_lt (Int.pow_pos (by omega))))]
  simpa [dset] using h
theorem eDays_lo (e : Ent) : 1 ≤ eDays e := by have := pk_lo e.1 127 (by omega); unfold eDays; omega
theorem eDays_hi (e : Ent) : eDays e ≤ 127 := by have := pk_hi e.1 127 (by omega); unfold eDays; omega
theorem dtake {D : Int} {j : Nat} (h : dset D j = true) : daysTo D (j + 1) = daysTo D j ++ (comma (anyTo D j) ++ nm j) ∧ comma (anyTo D (j + 1)) = [44] := by simp [daysTo, anyTo, h, comma]
theorem dskip {D : Int} {j : Nat} (h : dset D j = false) : daysTo D (j + 1) = daysTo D j ∧ anyTo D (j + 1) = anyTo D j := by simp [daysTo, anyTo, h]

theorem nm_ext (j : Nat) (h : j < 7) : (⟨#[77, 111, 84, 117, 87, 101, 84, 104, 70, 114, 83, 97, 83, 117]⟩ : ByteArray).extract (2 * j) (2 * j + 2) = ⟨(nm j).toArray⟩ := by
  match j, h with
  | 0, _ => rfl
  | 1, _ => rfl
  | 2, _ => rfl
  | 3, _ => rfl
  | 4, _ => rfl
  | 5, _ => rfl
  | 6, _ => rfl
theorem day_step (bs : List UInt8) (D : Int) (j : Nat) (hj : j < 7) (h : dset D j = true) :
    Value.string ((⟨(bs ++ daysTo D j).toArray⟩ : ByteArray) ++ ⟨(comma (anyTo D j)).toArray⟩ ++ (⟨#[77, 111, 84, 117, 87, 101, 84, 104, 70, 114, 83, 97, 83, 117]⟩ : ByteArray).extract (2 * j) (2 * j + 2)) = .string ⟨(bs ++ daysTo D (j + 1)).toArray⟩ := by
  rw [nm_ext j hj, bapp, bapp]
  exact sapp (by rw [(dtake h).1]; simp)
theorem ent_step (es : List Ent) (k : Nat) (e : Ent) (bs : List UInt8) (hx : e = ent es k) (hb : bs = txtTo es k ++ sep k) :
    Value.string ((⟨(bs ++ daysTo (eDays e) 7).toArray⟩ : ByteArray) ++ ⟨#[32]⟩ ++ ⟨(ck (eFrom e)).toArray⟩ ++ ⟨#[45]⟩ ++ ⟨(ck (eTo e)).toArray⟩) = .string ⟨(txtTo es (k + 1)).toArray⟩ := by
  subst hx hb
  show Value.string ⟨(txtTo es k ++ sep k ++ daysTo (eDays (ent es k)) 7 ++ [32] ++ ck (eFrom (ent es k)) ++ [45] ++ ck (eTo (ent es k))).toArray⟩ = _
  exact sapp (by simp [txtTo, entTxt, sep])
def lastOf : List Int → Int
  | [] => -1
  | [n] => n
  | _ :: n :: ns => lastOf (n :: ns)
theorem numTxt_le (n : Int) : (numTxt n).length ≤ 2 := by unfold numTxt; split <;> simp [dg]
theorem frTxt_le (ds : List Int) : (frTxt ds).length ≤ 3 * ds.length := by
  cases ds with
  | nil => simp [frTxt]
  | cons n ns =>
    have h1 := numTxt_le n
    have : ((ns.map fun m => [44] ++ numTxt m).flatten).length ≤ 3 * ns.length := by
      induction ns with
      | nil => simp
      | cons m ms ih => have := numTxt_le m; simp at ih ⊢; omega
    simp only [frTxt, List.length_append, List.length_cons, List.length_nil]; omega
theorem frTxt_first (n : Int) : frTxt [n] = [33] ++ numTxt n := by simp [frTxt]
theorem frTxt_snoc (ds : List Int) (n : Int) (h : ds ≠ []) : frTxt (ds ++ [n]) = frTxt ds ++ [44] ++ numTxt n := by
  cases ds with
  | nil => contradiction
  | cons m ms => simp [frTxt]
theorem frNums_cons (last x : Int) (xs : List Int) (h : ¬ 70 ≤ last + 1 + pk x 9) : frNums last (x :: xs) = (last + 1 + pk x 9) :: frNums (last + 1 + pk x 9) xs := by simp [frNums, h]
theorem frNums_stop (last x : Int) (xs : List Int) (h : 70 ≤ last + 1 + pk x 9) : frNums last (x :: xs) = [] := by simp [frNums, h]

theorem fr_more (fs : List Int) (m : Nat) (h : m < fs.length) (h2 : m < 20) : (fs.take 20).drop m = fs[m] :: (fs.take 20).drop (m + 1) := by
  rw [List.drop_eq_getElem_cons (by simp; omega)]; simp
theorem fr_none (fs : List Int) (m : Nat) (h : fs.length ≤ m ∨ 20 ≤ m) : (fs.take 20).drop m = [] := by
  rw [List.drop_eq_nil_iff]; simp; omega
theorem fr_step (fs ds : List Int) (l : Int) (m : Nat) (h : m < fs.length) (h2 : m < 20) (hn : ¬ 70 ≤ l + 1 + pk fs[m] 9)
    (H : frNums (-1) (fs.take 20) = ds ++ frNums l ((fs.take 20).drop m)) : frNums (-1) (fs.take 20) = (ds ++ [l + 1 + pk fs[m] 9]) ++ frNums (l + 1 + pk fs[m] 9) ((fs.take 20).drop (m + 1)) := by
  rw [H, fr_more fs m h h2, frNums_cons _ _ _ hn]; simp
theorem fr_stop (fs ds : List Int) (l : Int) (m : Nat) (h : m < fs.length) (h2 : m < 20) (hn : 70 ≤ l + 1 + pk fs[m] 9)
    (H : frNums (-1) (fs.take 20) = ds ++ frNums l ((fs.take 20).drop m)) : frNums (-1) (fs.take 20) = ds := by
  rw [H, fr_more fs m h h2, frNums_stop _ _ _ hn]; simp
theorem fr_end (fs ds : List Int) (l : Int) (m : Nat) (h : fs.length ≤ m ∨ 20 ≤ m)
    (H : frNums (-1) (fs.take 20) = ds ++ frNums l ((fs.take 20).drop m)) : frNums (-1) (fs.take 20) = ds := by
  rw [H, fr_none fs m h]; simp [frNums]
theorem off_step (ds : List Int) (n : Int) (h0 : 0 ≤ n) (i : Nat) : (ds.contains (i : Int) || decide (i = n.toNat)) = (ds ++ [n]).contains (i : Int) := by
  have : (i = n.toNat) ↔ ((i : Int) = n) := by omega
  simp [decide_eq_decide.2 this]

theorem dg_ext (n : Int) : (⟨(dg n).toArray⟩ : ByteArray).extract 1 2 = ⟨((dg n).drop 1).toArray⟩ := by
  unfold dg
  generalize UInt8.ofNat (48 + n / 10).toNat = a
  generalize UInt8.ofNat (48 + n % 10).toNat = b
  rfl
theorem num_first (bs ds : List UInt8) (n : Int) (h : ¬ 10 ≤ n) (hd : ds = []) :
    Value.string ((⟨(bs ++ ds).toArray⟩ : ByteArray) ++ ⟨#[33]⟩ ++ ⟨((dg n).drop 1).toArray⟩) = .string ⟨(bs ++ frTxt [n]).toArray⟩ := by
  subst hd
  show Value.string ⟨(bs ++ [] ++ [33] ++ (dg n).drop 1).toArray⟩ = _
  exact sapp (by simp [frTxt_first, numTxt, h])
theorem num_small (bs : List UInt8) (ds : List Int) (n : Int) (h : ¬ 10 ≤ n) (hd : ds ≠ []) :
    Value.string ((⟨(bs ++ frTxt ds).toArray⟩ : ByteArray) ++ ⟨#[44]⟩ ++ ⟨((dg n).drop 1).toArray⟩) = .string ⟨(bs ++ frTxt (ds ++ [n])).toArray⟩ := by
  show Value.string ⟨(bs ++ frTxt ds ++ [44] ++ (dg n).drop 1).toArray⟩ = _
  exact sapp (by rw [frTxt_snoc _ _ hd]; simp [numTxt, h])
theorem num_big (bs : List UInt8) (ds : List Int) (n : Int) (h : 10 ≤ n) (hd : ds ≠ []) :
    Value.string ((⟨(bs ++ frTxt ds).toArray⟩ : ByteArray) ++ ⟨#[44]⟩ ++ ⟨(dg n).toArray⟩) = .string ⟨(bs ++ frTxt (ds ++ [n])).toArray⟩ := by
  show Value.string ⟨(bs ++ frTxt ds ++ [44] ++ dg n).toArray⟩ = _
  exact sapp (by rw [frTxt_snoc _ _ hd]; simp [numTxt, h])

theorem num_first' (bs : List UInt8) (ds : List Int) (n : Int) (h : ¬ 10 ≤ n) (hd : ds = []) :
    Value.string ((⟨(bs ++ frTxt ds).toArray⟩ : ByteArray) ++ ⟨#[33]⟩ ++ (⟨(dg n).toArray⟩ : ByteArray).extract 1 2) = .string ⟨(bs ++ frTxt (ds ++ [n])).toArray⟩ := by
  subst hd; rw [dg_ext]; exact num_first bs [] n h rfl
theorem num_small' (bs : List UInt8) (ds : List Int) (n : Int) (h : ¬ 10 ≤ n) (hd : ds ≠ []) :
    Value.string ((⟨(bs ++ frTxt ds).toArray⟩ : ByteArray) ++ ⟨#[44]⟩ ++ (⟨(dg n).toArray⟩ : ByteArray).extract 1 2) = .string ⟨(bs ++ frTxt (ds ++ [n])).toArray⟩ := by
  rw [dg_ext]; exact num_small bs ds n h hd
theorem ret3s {a b : List UInt8} {v1 v2 : Value} (h : a = b) : Ending.returned (.tuple #[.string ⟨a.toArray⟩, v1, v2]) = .returned (.tuple #[.string ⟨b.toArray⟩, v1, v2]) := by rw [h]
theorem txt_fin (es : List Ent) (fs ds : List Int) (k : Nat) (bs : List UInt8) (hk : k = nEnt es) (hb : bs = txtTo es k) (h : frNums (-1) (fs.take 20) = ds) : bs ++ frTxt ds = theTxt es fs := by
  subst hk hb; unfold theTxt; rw [h]

/-- the world inside text: B the box, B + 1 the week, B + 2 the days off -/
structure TW (B : Nat) (w wr : World) (ve vf : Value) (f g : Nat → Bool) : Prop where
  below : Below B w wr
  size : B + 3 ≤ wr.heap.size
  ce : wr.cell? ⟨B, 0, none⟩ = some ve
  cf : wr.cell? ⟨B, 1, none⟩ = some vf
  wk : ∀ j, j < 672 → wr.cell? ⟨B + 1, j, none⟩ = some (.bool (f j))
  wf : ∀ j, wr.frozen? ⟨B + 1, j, none⟩ = false
  ok : ∀ j, j < 70 → wr.cell? ⟨B + 2, j, none⟩ = some (.bool (g j))
  of : ∀ j, wr.frozen? ⟨B + 2, j, none⟩ = false

theorem TW.on {B : Nat} {w wr wx : World} {ve vf : Value} {f g : Nat → Bool} (h : TW B w wr ve vf f g) (hb : Below (B + 3) wr wx) : TW B w wx ve vf f g :=
  ⟨h.below.trans (hb.mono (by omega)), Nat.le_trans h.size hb.size, (hb.cell (p := ⟨B, 0, none⟩) (by simp)).trans h.ce, (hb.cell (p := ⟨B, 1, none⟩) (by simp)).trans h.cf,
   fun j hj => (hb.cell (p := ⟨B + 1, j, none⟩) (by simp)).trans (h.wk j hj), fun j => (hb.frozen (p := ⟨B + 1, j, none⟩) (by simp)).trans (h.wf j),
   fun j hj => (hb.cell (p := ⟨B + 2, j, none⟩) (by simp)).trans (h.ok j hj), fun j => (hb.frozen (p := ⟨B + 2, j, none⟩) (by simp)).trans (h.of j)⟩
theorem TW.alloc {B : Nat} {w wr : World} {ve vf : Value} {f g : Nat → Bool} (h : TW B w wr ve vf f g) (o : Obj) : TW B w (wr.alloc o) ve vf f g :=
  h.on ((Below.refl _ _).alloc h.size o)
theorem TW.setE {B : Nat} {w wr : World} {ve vf : Value} {f g : Nat → Bool} (h : TW B w wr ve vf f g) {p : Addr} (hp : B + 3 ≤ p.block) (v : Value) : TW B w (wr.setCell p v) ve vf f g :=
  h.on ((Below.refl _ _).setCell hp v)
theorem adr_ne {a b i j : Nat} (h : a ≠ b ∨ i ≠ j) : (⟨a, i, none⟩ : Addr) ≠ ⟨b, j, none⟩ := by
  intro e; injection e with e1 e2; rcases h with h | h <;> contradiction
theorem sc_ne {w : World} {a b i j : Nat} {v : Value} (h : a ≠ b ∨ i ≠ j) : (w.setCell ⟨a, i, none⟩ v).cell? ⟨b, j, none⟩ = w.cell? ⟨b, j, none⟩ :=
  World.cell?_setCell_other (h := adr_ne h) ..
theorem sc_eq {w : World} {p : Addr} {u v : Value} (h : w.cell? p = some u) : (w.setCell p v).cell? p = some v :=
  World.cell?_setCell_same (h := h) ..
theorem TW.setW {B : Nat} {w wr : World} {ve vf : Value} {f g : Nat → Bool} (h : TW B w wr ve vf f g) (k : Nat) (hk : k < 672) :
    TW B w (wr.setCell ⟨B + 1, k, none⟩ (.bool true)) ve vf (fun i => f i || decide (i = k)) g := by
  refine ⟨h.below.setCell (by simp) _, by have := h.size; simpa using this, ?_, ?_, ?_, ?_, ?_, ?_⟩
  · rw [sc_ne (by omega)]; exact h.ce
  · rw [sc_ne (by omega)]; exact h.cf
  · intro j hj
    by_cases e : j = k
    · subst e; rw [sc_eq (h.wk j hj)]; simp
    · rw [sc_ne (by omega), h.wk j hj]; simp [e]
  · intro j; rw [World.frozen?_setCell]; exact h.wf j
  · intro j hj
    rw [sc_ne (by omega)]; exact h.ok j hj
  · intro j; rw [World.frozen?_setCell]; exact h.of j
theorem TW.setO {B : Nat} {w wr : World} {ve vf : Value} {f g : Nat → Bool} (h : TW B w wr ve vf f g) (k : Nat) (hk : k < 70) :
    TW B w (wr.setCell ⟨B + 2, k, none⟩ (.bool true)) ve vf f (fun i => g i || decide (i = k)) := by
  refine ⟨h.below.setCell (by simp) _, by have := h.size; simpa using this, ?_, ?_, ?_, ?_, ?_, ?_⟩
  · rw [sc_ne (by omega)]; exact h.ce
  · rw [sc_ne (by omega)]; exact h.cf
  · intro j hj
    rw [sc_ne (by omega)]; exact h.wk j hj
  · intro j; rw [World.frozen?_setCell]; exact h.wf j
  · intro j hj
    by_cases e : j = k
    · subst e; rw [sc_eq (h.ok j hj)]; simp
    · rw [sc_ne (by omega), h.ok j hj]; simp [e]
  · intro j; rw [World.frozen?_setCell]; exact h.of j
theorem TW.congr {B : Nat} {w wr : World} {ve vf : Value} {f g f' g' : Nat → Bool} (h : TW B w wr ve vf f g) (hf : ∀ j, j < 672 → f j = f' j) (hg : ∀ j, j < 70 → g j = g' j) : TW B w wr ve vf f' g' :=
  ⟨h.below, h.size, h.ce, h.cf, fun j hj => by rw [← hf j hj]; exact h.wk j hj, h.wf, fun j hj => by rw [← hg j hj]; exact h.ok j hj, h.of⟩
end Go.Proofs.YtcnmbldikjljeaaGreatDoor
namespace Go.Proofs.YtcnmbldikjljeaaGreatDoor
open Go.RowKit

/-- the reader, as it stands -/
structure RS where
  st : Int
  place : Int
  letter : Int
  days : Nat → Bool
  beg : Int
  time : Int
  num : Int
  ahead : Int
  week : Nat → List (Int × Int)
  free : Nat → Bool

def enc (s : RS) (vs : Nat → Value) (j : Nat) : Value :=
  if j = 0 then .int .i64 s.st else if j = 1 then .int .i64 s.place else if j = 2 then .int .i32 s.letter else if j < 10 then .bool (s.days (j - 3))
  else if j = 10 then .int .i64 s.beg else if j = 11 then .int .i64 s.time else if j = 12 then .int .i64 s.num else if j = 13 then .int .i64 s.ahead
  else if j < 21 then vs (j - 14) else .bool (s.free (j - 21))
def flat (l : List (Int × Int)) : List Value := l.flatMap fun p => [.int .i64 p.1, .int .i64 p.2]
def nmV (j : Nat) : Value := .string ⟨(nm j).toArray⟩

structure RW (it : Obj) (B b : Nat) (w0 w : World) (s : RS) (vs : Nat → Value) : Prop where
  below : Below B w0 w
  hB : B ≤ b
  hb : b < w.heap.size
  cell : ∀ j, j < 91 → w.cell? ⟨b, j, none⟩ = some (enc s vs j)
  frz : ∀ j, w.frozen? ⟨b, j, none⟩ = false
  own : ∀ j, j < 7 → w.ownsRow (b + 2) 140 2 (vs j) (s.week j).length (flat (s.week j))
  apart : ∀ i j, i < 7 → j < 7 → i ≠ j → (vs i).ownBlock = none ∨ (vs i).ownBlock ≠ (vs j).ownBlock
  names : ∀ j, j < 7 → w.cell? ⟨0, j, none⟩ = some (nmV j)
  n0 : 0 < B
  iter : w.heap[b + 1]? = some it

section
variable {it : Obj} {B b : Nat} {w0 w : World} {s : RS} {vs : Nat → Value}

theorem RW.set (h : RW it B b w0 w s vs) (k : Nat) (v : Value) (s' : RS) (hk : k < 91) (hw : s'.week = s.week) (he : ∀ j, j < 91 → enc s' vs j = if j = k then v else enc s vs j) :
    RW it B b w0 (w.setCell ⟨b, k, none⟩ v) s' vs := by
  refine ⟨h.below.setCell h.hB v, h.hB, by simpa using h.hb, ?_, ?_, ?_, h.apart, ?_, h.n0, (Below.heap_setCell _ _ _ _ (by simp)).trans h.iter⟩
  · intro j hj
    rw [he j hj]
    by_cases e : j = k
    · subst e; rw [if_pos rfl]; exact sc_eq (h.cell j hj)
    · rw [if_neg e, sc_ne (by omega)]; exact h.cell j hj
  · intro j; rw [World.frozen?_setCell]; exact h.frz j
  · intro j hj; rw [hw]; exact ownsRow_setCell_below (h.own j hj) (by simp) v
  · intro j hj
    have := h.hB
    have := h.n0
    rw [sc_ne (by omega)]; exact h.names j hj

theorem RW.on (h : RW it B b w0 w s vs) {w' : World} (hb : Below w.heap.size w w') : RW it B b w0 w' s vs := by
  have hB := h.hB
  have hbb := h.hb
  have hn := h.n0
  have hit : b + 1 < w.heap.size := (Array.getElem?_eq_some_iff.1 h.iter).1
  have hg : w.grownBy w' none := ⟨hb.os, hb.tape, hb.output, hb.size, fun k hk _ => hb.block k hk⟩
  refine ⟨h.below.trans (hb.mono (by omega)), h.hB, by have := hb.size; omega, ?_, ?_, ?_, h.apart, ?_, h.n0, (hb.block _ hit).trans h.iter⟩
  · intro j hj; rw [hb.cell (p := ⟨b, j, none⟩) h.hb]; exact h.cell j hj
  · intro j; rw [hb.frozen (p := ⟨b, j, none⟩) h.hb]; exact h.frz j
  · intro j hj; exact (h.own j hj).kept hg (by cases (vs j).ownBlock <;> simp)
  · intro j hj; rw [hb.cell (p := ⟨0, j, none⟩) (by simp; omega)]; exact h.names j hj
theorem RW.drew (h : RW it B b w0 w s vs) : RW it B b w0 w.drew s vs := h.on (Below.refl _ _).drew
theorem RW.drewN (h : RW it B b w0 w s vs) (n : Nat) : RW it B b w0 (w.drewN n) s vs := h.on (below_drewN (Below.refl _ _) n)
theorem RW.alloc (h : RW it B b w0 w s vs) (o : Obj) : RW it B b w0 (w.alloc o) s vs := h.on ((Below.refl _ _).alloc (Nat.le_refl _) o)

theorem RW.c0 (h : RW it B b w0 w s vs) : w.cell? ⟨b, 0, none⟩ = some (.int .i64 s.st) := h.cell 0 (by omega)
theorem RW.c1 (h : RW it B b w0 w s vs) : w.cell? ⟨b, 1, none⟩ = some (.int .i64 s.place) := h.cell 1 (by omega)
theorem RW.c2 (h : RW it B b w0 w s vs) : w.cell? ⟨b, 2, none⟩ = some (.int .i32 s.letter) := h.cell 2 (by omega)
theorem RW.cd (h : RW it B b w0 w s vs) (j : Nat) (hj : j < 7) : w.cell? ⟨b, 3 + j, none⟩ = some (.bool (s.days j)) := by
  rw [h.cell (3 + j) (by omega)]
  simp only [enc]
  rw [if_neg (by omega), if_neg (by omega), if_neg (by omega), if_pos (by omega)]
  congr 3; omega
theorem RW.c10 (h : RW it B b w0 w s vs) : w.cell? ⟨b, 10, none⟩ = some (.int .i64 s.beg) := h.cell 10 (by omega)
theorem RW.c11 (h : RW it B b w0 w s vs) : w.cell? ⟨b, 11, none⟩ = some (.int .i64 s.time) := h.cell 11 (by omega)
theorem RW.c12 (h : RW it B b w0 w s vs) : w.cell? ⟨b, 12, none⟩ = some (.int .i64 s.num) := h.cell 12 (by omega)
theorem RW.c13 (h : RW it B b w0 w s vs) : w.cell? ⟨b, 13, none⟩ = some (.int .i64 s.ahead) := h.cell 13 (by omega)
theorem RW.cw (h : RW it B b w0 w s vs) (j : Nat) (hj : j < 7) : w.cell? ⟨b, 14 + j, none⟩ = some (vs j) := by
  rw [h.cell (14 + j) (by omega)]
  simp only [enc]
  rw [if_neg (by omega), if_neg (by omega), if_neg (by omega), if_neg (by omega), if_neg (by omega), if_neg (by omega), if_neg (by omega), if_neg (by omega), if_pos (by omega)]
  congr 2; omega
theorem RW.cf (h : RW it B b w0 w s vs) (j : Nat) (hj : j < 70) : w.cell? ⟨b, 21 + j, none⟩ = some (.bool (s.free j)) := by
  rw [h.cell (21 + j) (by omega)]
  simp only [enc]
  rw [if_neg (by omega), if_neg (by omega), if_neg (by omega), if_neg (by omega), if_neg (by omega), if_neg (by omega), if_neg (by omega), if_neg (by omega), if_neg (by omega)]
  congr 3; omega

theorem RW.setSt (h : RW it B b w0 w s vs) (x : Int) : RW it B b w0 (w.setCell ⟨b, 0, none⟩ (.int .i64 x)) { s with st := x } vs :=
  h.set 0 _ _ (by omega) rfl (fun j _ => by simp only [enc]; split <;> simp_all)
theorem RW.setPlace (h : RW it B b w0 w s vs) (x : Int) : RW it B b w0 (w.setCell ⟨b, 1, none⟩ (.int .i64 x)) { s with place := x } vs :=
  h.set 1 _ _ (by omega) rfl (fun j _ => by simp only [enc]; split <;> simp_all)
theorem RW.setLetter (h : RW it B b w0 w s vs) (x : Int) : RW it B b w0 (w.setCell ⟨b, 2, none⟩ (.int .i32 x)) { s with letter := x } vs :=
  h.set 2 _ _ (by omega) rfl (fun j _ => by simp only [enc]; by_cases e : j = 2 <;> simp [e])
theorem RW.setBeg (h : RW it B b w0 w s vs) (x : Int) : RW it B b w0 (w.setCell ⟨b, 10, none⟩ (.int .i64 x)) { s with beg := x } vs :=
  h.set 10 _ _ (by omega) rfl (fun j _ => by simp only [enc]; by_cases e : j = 10 <;> simp [e])
theorem RW.setTime (h : RW it B b w0 w s vs) (x : Int) : RW it B b w0 (w.setCell ⟨b, 11, none⟩ (.int .i64 x)) { s with time := x } vs :=
  h.set 11 _ _ (by omega) rfl (fun j _ => by simp only [enc]; by_cases e : j = 11 <;> simp [e])
theorem RW.setNum (h : RW it B b w0 w s vs) (x : Int) : RW it B b w0 (w.setCell ⟨b, 12, none⟩ (.int .i64 x)) { s with num := x } vs :=
  h.set 12 _ _ (by omega) rfl (fun j _ => by simp only [enc]; by_cases e : j = 12 <;> simp [e])
theorem RW.setAhead (h : RW it B b w0 w s vs) (x : Int) : RW it B b w0 (w.setCell ⟨b, 13, none⟩ (.int .i64 x)) { s with ahead := x } vs :=
  h.set 13 _ _ (by omega) rfl (fun j _ => by simp only [enc]; by_cases e : j = 13 <;> simp [e])
theorem RW.setDay (h : RW it B b w0 w s vs) (k : Nat) (hk : k < 7) (x : Bool) : RW it B b w0 (w.setCell ⟨b, 3 + k, none⟩ (.bool x)) { s with days := fun j => if j = k then x else s.days j } vs :=
  h.set (3 + k) _ _ (by omega) rfl (fun j _ => by
    simp only [enc]
    by_cases e : j = 3 + k
    · subst e; rw [if_neg (by omega), if_neg (by omega), if_neg (by omega), if_pos (by omega), if_pos rfl, if_pos (by omega)]
    · rw [if_neg e]
      by_cases g : 3 ≤ j ∧ j < 10
      · rw [if_neg (by omega), if_neg (by omega), if_neg (by omega), if_pos (by omega), if_neg (by omega)]
        rw [if_neg (by omega), if_neg (by omega), if_neg (by omega), if_pos (by omega)]
      · by_cases g0 : j = 0
        · rw [if_pos g0, if_pos g0]
        · by_cases g1 : j = 1
          · rw [if_neg g0, if_pos g1, if_neg g0, if_pos g1]
          · by_cases g2 : j = 2
            · rw [if_neg g0, if_neg g1, if_pos g2, if_neg g0, if_neg g1, if_pos g2]
            · have g3 : ¬ j < 10 := by omega
              simp only [if_neg g0, if_neg g1, if_neg g2, if_neg g3])
theorem RW.setFree (h : RW it B b w0 w s vs) (k : Nat) (hk : k < 70) (x : Bool) : RW it B b w0 (w.setCell ⟨b, 21 + k, none⟩ (.bool x)) { s with free := fun j => if j = k then x else s.free j } vs :=
  h.set (21 + k) _ _ (by omega) rfl (fun j _ => by
    simp only [enc]
    by_cases e : j = 21 + k
    · subst e
      rw [if_neg (by omega), if_neg (by omega), if_neg (by omega), if_neg (by omega), if_neg (by omega), if_neg (by omega), if_neg (by omega), if_neg (by omega), if_neg (by omega), if_pos (by omega), if_pos rfl]
    · rw [if_neg e]
      by_cases g : j < 21
      · repeat (first | rfl | (split; · rfl))
      · rw [if_neg (by omega : ¬ j - 21 = k)])
theorem RW.daysC (h : RW it B b w0 w s vs) (d : Nat → Bool) (hd : ∀ j, j < 7 → s.days j = d j) : RW it B b w0 w { s with days := d } vs := by
  refine ⟨h.below, h.hB, h.hb, ?_, h.frz, h.own, h.apart, h.names, h.n0, h.iter⟩
  intro j hj
  rw [h.cell j hj]
  simp only [enc]
  by_cases g0 : j = 0
  · simp [g0]
  · by_cases g1 : j = 1
    · simp [g1]
    · by_cases g2 : j = 2
      · simp [g2]
      · by_cases g3 : j < 10
        · simp only [if_neg g0, if_neg g1, if_neg g2, if_pos g3]; rw [hd (j - 3) (by omega)]
        · simp only [if_neg g0, if_neg g1, if_neg g2, if_neg g3]
theorem RW.eqv (h : RW it B b w0 w s vs) {s' : RS} (e : s = s') : RW it B b w0 w s' vs := e ▸ h
end
end Go.Proofs.YtcnmbldikjljeaaGreatDoor
