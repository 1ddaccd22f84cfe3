import Derived.Test.YtcnmbldikjljeaaGreatDoorT02
import Derived.Test.YtcnmbldikjljeaaGreatDoorRows
import Derived.WalkKit
import Derived.WalkSpells
import Derived.WalkLawsBesides
namespace Go.Proofs.YtcnmbldikjljeaaGreatDoor

/-- the cases stand in the order of their numbers; what is due is due later than now, behind a business minute -/
structure InvD (F : Nat → Bool) (d : Dk) : Prop where
  ids : (d.cases.map Cs.id).Pairwise (· < ·)
  top : ∀ x ∈ d.cases, 1 ≤ x.id ∧ x.id ≤ d.made
  due : ∀ x ∈ d.cases, 0 ≤ x.due → d.time < x.due ∧ F (x.due - 1).toNat = true
section
variable {F : Nat → Bool} {st : List Stg} {d : Dk} {N : Int} {x : Cs}
theorem set_ids {l : List Cs} {i : Nat} {y : Cs} (hi : i < l.length) (h : y.id = (csAt l i).id) : (l.set i y).map Cs.id = l.map Cs.id := by
  apply List.ext_getElem
  · simp
  · intro j h1 h2
    simp only [List.length_map, List.length_set] at h1
    rw [List.getElem_map, List.getElem_map, List.getElem_set]
    split
    · rename_i e
      subst e
      rw [h, csAt_nat hi]
    · rfl
theorem InvD.empty : InvD F ⟨0, 0, 0, []⟩ := ⟨.nil, fun x hx => by simp at hx, fun x hx => by simp at hx⟩
theorem InvD.set (h : InvD F d) (i : Nat) (hi : i < d.cases.length) (y : Cs) (hid : y.id = (csAt d.cases i).id) (hd : 0 ≤ y.due → d.time < y.due ∧ F (y.due - 1).toNat = true) : InvD F { d with cases := d.cases.set i y } := by
  refine ⟨by rw [set_ids hi hid]; exact h.ids, fun z hz => ?_, fun z hz => ?_⟩
  · rcases set_mem hz with rfl | a
    · rw [hid, csAt_nat hi]; exact h.top _ (List.getElem_mem hi)
    · exact h.top z a
  · rcases set_mem hz with rfl | a
    · exact hd
    · exact h.due z a
theorem comes_inv (hs : StOk st) (s0 : 0 ≤ x.stage) (s1 : x.stage < st.length) {level t : Int} (l0 : 0 ≤ level) (h0 : 0 ≤ t) (h1 : t ≤ 100800) : 0 ≤ (comesL F st x level t).due → t < (comesL F st x level t).due ∧ F ((comesL F st x level t).due - 1).toNat = true := by
  intro hd
  rcases comes_due (F := F) hs s0 s1 l0 h1 with ⟨a1, _⟩ | ⟨m, m0, _, a1, _⟩
  · omega
  · have := addN_open a1 h0 (by omega)
    exact ⟨by omega, this.2⟩
theorem open_inv (h : InvD F d) (ok : DkOk F st d N) (hs : StOk st) (stage : Int) : InvD F (openC F st d stage).1 := by
  unfold openC
  split
  · exact h
  · rename_i hr
    split
    · exact h
    · have hr : 0 ≤ stage ∧ stage < st.length := by omega
      have hid := (comes_stage (F := F) (st := st) (x := ⟨d.made + 1, stage, 0, 0, false, 0⟩) (level := 0) (t := d.time)).2.2.2
      have hdu := comes_inv (F := F) (x := ⟨d.made + 1, stage, 0, 0, false, 0⟩) hs hr.1 hr.2 (Int.le_refl 0) ok.t0 ok.t1
      have m0 := ok.m0
      dsimp only at hid
      generalize comesL F st ⟨d.made + 1, stage, 0, 0, false, 0⟩ 0 d.time = y at *
      refine ⟨?_, fun z hz => ?_, fun z hz => ?_⟩
      · rw [List.map_append, List.pairwise_append]
        refine ⟨h.ids, by simp, fun a ha b hb => ?_⟩
        simp only [List.map_cons, List.map_nil, List.mem_singleton] at hb
        obtain ⟨z, hz, rfl⟩ := List.mem_map.1 ha
        have := h.top z hz
        omega
      · rcases List.mem_append.1 hz with a | a
        · have := h.top z a
          simp only; omega
        · simp only [List.mem_singleton] at a
          subst a
          simp only; omega
      · rcases List.mem_append.1 hz with a | a
        · exact h.due z a
        · simp only [List.mem_singleton] at a
          subst a
          exact hdu
theorem find_nat (l : List Cs) (id : Int) (h : ¬ findL l id < 0) : ∃ i : Nat, findL l id = i ∧ i < l.length := by
  rcases findL_bd l id with a | a
  · exact absurd a h
  · exact a
theorem move_inv (h : InvD F d) (ok : DkOk F st d N) (hs : StOk st) (id stage : Int) : InvD F (moveC F st d id stage).1 := by
  unfold moveC
  split
  · exact h
  · rename_i h1
    split
    · exact h
    · split
      · exact h
      · rename_i h3
        obtain ⟨i, e, hi⟩ := find_nat _ _ h1
        have hm : csAt d.cases i ∈ d.cases := by rw [csAt_nat hi]; exact List.getElem_mem hi
        have hx := ok.cs _ hm
        have hn : stage ∈ (stAt st (csAt d.cases (findL d.cases id)).stage).next := by
          rw [← hasI_iff]; simpa using h3
        rw [e] at hn ⊢
        have hs2 := (hs (csAt d.cases i).stage.toNat (by have := hx.s0; have := hx.s1; omega)).2.2.2
        rw [show (((csAt d.cases i).stage.toNat : Nat) : Int) = (csAt d.cases i).stage by have := hx.s0; omega] at hs2
        have hst := hs2 stage hn
        unfold setC
        rw [Int.toNat_natCast]
        refine h.set i hi _ ?_ (comes_inv (F := F) (x := { csAt d.cases i with stage := stage }) hs hst.1 hst.2 (Int.le_refl 0) ok.t0 ok.t1)
        exact (comes_stage (F := F) (st := st) (x := { csAt d.cases i with stage := stage }) (level := 0) (t := d.time)).2.2.2
theorem close_inv (h : InvD F d) (id : Int) : InvD F (closeC d id).1 := by
  unfold closeC
  split
  · exact h
  · refine ⟨?_, fun x hx => h.top x (List.mem_of_mem_eraseIdx hx), fun x hx => h.due x (List.mem_of_mem_eraseIdx hx)⟩
    exact h.ids.sublist ((List.eraseIdx_sublist _ _).map _)
theorem hold_inv (h : InvD F d) (id : Int) : InvD F (holdC F d id).1 := by
  unfold holdC
  split
  · exact h
  · rename_i h1
    split
    · exact h
    · obtain ⟨i, e, hi⟩ := find_nat _ _ h1
      rw [e]
      unfold setC
      rw [Int.toNat_natCast]
      split
      · exact h.set i hi _ rfl (fun hd => by simp at hd)
      · rename_i hd
        exact h.set i hi _ rfl (fun hd' => absurd hd' hd)
theorem resume_inv (h : InvD F d) (ok : DkOk F st d N) (id : Int) : InvD F (resumeC F d id).1 := by
  unfold resumeC
  split
  · exact h
  · rename_i h1
    split
    · exact h
    · obtain ⟨i, e, hi⟩ := find_nat _ _ h1
      rw [e]
      unfold setC
      rw [Int.toNat_natCast]
      split
      · rename_i hr
        refine h.set i hi _ (arms_stage (F := F) (x := { csAt d.cases i with held := false }) (t := d.time) (n := (csAt d.cases i).rest)).2.2.2 (fun hd => ?_)
        have ha := arms_due (F := F) (x := { csAt d.cases i with held := false }) (n := (csAt d.cases i).rest) ok.t1
        dsimp only at ha hd ⊢
        generalize armsL F _ d.time (csAt d.cases i).rest = y at *
        rcases ha with a | a
        · omega
        · have := addN_open a.1 ok.t0 hr
          exact ⟨by omega, this.2⟩
      · rename_i hd
        exact h.set i hi _ rfl (fun hd' => h.due (csAt d.cases i) (by rw [csAt_nat hi]; exact List.getElem_mem hi) hd')
theorem tickGo_inv (hs : StOk st) {T : Int} : ∀ (f : Nat) (l : List Cs) (k : Int), (∀ x ∈ l, CsOk st x) → (∀ x ∈ l, 0 ≤ x.due → F (x.due - 1).toNat = true) → leftL st l ≤ f →
    (tickGo F st T f l k).2.1.map Cs.id = l.map Cs.id ∧ ∀ x ∈ (tickGo F st T f l k).2.1, 0 ≤ x.due → T < x.due ∧ F (x.due - 1).toNat = true := by
  have stop : ∀ (f : Nat) (l : List Cs) (k : Int), (∀ x ∈ l, 0 ≤ x.due → F (x.due - 1).toNat = true) → (nextL l < 0 ∨ T < (csAt l (nextL l)).due) →
      (tickGo F st T f l k).2.1.map Cs.id = l.map Cs.id ∧ ∀ x ∈ (tickGo F st T f l k).2.1, 0 ≤ x.due → T < x.due ∧ F (x.due - 1).toNat = true := by
    intro f l k hok hc
    rw [tick_done hc]
    exact ⟨rfl, fun x hx hd => ⟨tick_late hc x hx hd, hok x hx hd⟩⟩
  intro f
  induction f with
  | zero =>
    intro l k hok hF hf
    by_cases hc : nextL l < 0 ∨ T < (csAt l (nextL l)).due
    · exact stop 0 l k hF hc
    · obtain ⟨i, e, hi, _, _, hok', hlt⟩ := tick_step (F := F) (T := T) hs hok (by omega) (by omega)
      omega
  | succ f ih =>
    intro l k hok hF hf
    by_cases hc : nextL l < 0 ∨ T < (csAt l (nextL l)).due
    · exact stop _ l k hF hc
    · obtain ⟨i, e, hi, hx, hd, hok', hlt⟩ := tick_step (F := F) (T := T) hs hok (by omega) (by omega)
      simp only [tickGo]
      rw [if_neg hc, e]
      unfold setC
      rw [Int.toNat_natCast]
      have hci := comes_inv (F := F) hs hx.s0 hx.s1 (level := (csAt l i).level + 1) (by have := hx.l0; omega) hd hx.d1
      obtain ⟨a1, a2⟩ := ih (l.set i (comesL F st (csAt l i) ((csAt l i).level + 1) (csAt l i).due)) (k + 1) hok' (fun z hz h0 => by
        rcases set_mem hz with rfl | a
        · exact (hci h0).2
        · exact hF z a h0) (by omega)
      refine ⟨?_, a2⟩
      rw [a1]
      exact set_ids hi (comes_stage (F := F) (st := st) (x := csAt l i) (level := (csAt l i).level + 1) (t := (csAt l i).due)).2.2.2
theorem tick_inv (h : InvD F d) (ok : DkOk F st d N) (hs : StOk st) (n : Int) : InvD F (tickC F st d n).1 := by
  unfold tickC
  split
  · exact h
  · obtain ⟨a1, a2⟩ := tickGo_inv (F := F) hs (T := d.time + n) (leftL st d.cases) d.cases d.told ok.cs (fun x hx h0 => (h.due x hx h0).2) (Nat.le_refl _)
    refine ⟨by rw [a1]; exact h.ids, fun x hx => ?_, a2⟩
    have hm : x.id ∈ d.cases.map Cs.id := by rw [← a1]; exact List.mem_map_of_mem hx
    obtain ⟨z, hz, e⟩ := List.mem_map.1 hm
    rw [← e]; exact h.top z hz
/-- a case that runs has something to go -/
theorem InvD.left (h : InvD F d) (ok : DkOk F st d N) (hx : x ∈ d.cases) (hd : 0 ≤ x.due) : 0 < cnt F x.due.toNat - cnt F d.time.toNat := by
  obtain ⟨h1, h2⟩ := h.due x hx hd
  have t0 := ok.t0
  have hm := (cnt_mono F (show d.time ≤ x.due - 1 by omega) t0).1
  have hc := cnt_run F (x.due - 1) x.due true (by omega) (by omega) (fun m m0 m1 => by rw [show m = x.due - 1 by omega]; exact h2)
  rw [if_pos rfl] at hc
  omega
end
end Go.Proofs.YtcnmbldikjljeaaGreatDoor
namespace Go.Proofs.YtcnmbldikjljeaaGreatDoor

section
variable {F : Nat → Bool} {st : List Stg} {d : Dk} {N : Int}
/-- time in two pieces -/
theorem tick_split (hs : StOk st) {T1 T2 : Int} (h : T1 ≤ T2) : ∀ (m : Nat) (l : List Cs) (k : Int), (∀ x ∈ l, CsOk st x) → leftL st l ≤ m →
    tickGo F st T2 (leftL st l) l k = ((tickGo F st T1 (leftL st l) l k).1 ++ (tickGo F st T2 (leftL st (tickGo F st T1 (leftL st l) l k).2.1) (tickGo F st T1 (leftL st l) l k).2.1 (tickGo F st T1 (leftL st l) l k).2.2).1, (tickGo F st T2 (leftL st (tickGo F st T1 (leftL st l) l k).2.1) (tickGo F st T1 (leftL st l) l k).2.1 (tickGo F st T1 (leftL st l) l k).2.2).2) := by
  intro m
  induction m with
  | zero =>
    intro l k hok hm
    by_cases hc : nextL l < 0 ∨ T1 < (csAt l (nextL l)).due
    · rw [tick_done (T := T1) hc]; simp
    · obtain ⟨i, e, hi, _, _, hok', hlt⟩ := tick_step (F := F) (T := T1) hs hok (by omega) (by omega)
      omega
  | succ m ih =>
    intro l k hok hm
    by_cases hc : nextL l < 0 ∨ T1 < (csAt l (nextL l)).due
    · rw [tick_done (T := T1) hc]; simp
    · obtain ⟨i, e, hi, _, _, hok', hlt⟩ := tick_step (F := F) (T := T1) hs hok (by omega) (by omega)
      have h1 : (csAt l i).due ≤ T1 := by rw [e] at hc; omega
      have m1 := tick_more (F := F) (k := k) hs hok e h1
      have m2 := tick_more (F := F) (k := k) hs hok e (show (csAt l i).due ≤ T2 by omega)
      rw [m1, m2]
      have ih' := ih (l.set i (comesL F st (csAt l i) ((csAt l i).level + 1) (csAt l i).due)) (k + 1) hok' (by omega)
      rw [ih']
      simp
theorem tick_add (hs : StOk st) (ok : DkOk F st d N) {n m : Int} (n0 : 0 ≤ n) (m0 : 0 ≤ m) (h : d.time + n + m ≤ 100800) :
    tickC F st d (n + m) = ((tickC F st (tickC F st d n).1 m).1, (tickC F st d n).2.1 ++ (tickC F st (tickC F st d n).1 m).2.1, 0) := by
  have e1 : tickC F st d n = (⟨d.time + n, d.made, (tickGo F st (d.time + n) (leftL st d.cases) d.cases d.told).2.2, (tickGo F st (d.time + n) (leftL st d.cases) d.cases d.told).2.1⟩, (tickGo F st (d.time + n) (leftL st d.cases) d.cases d.told).1, 0) := by
    unfold tickC; rw [if_neg (by omega)]
  have e2 : tickC F st d (n + m) = (⟨d.time + n + m, d.made, (tickGo F st (d.time + n + m) (leftL st d.cases) d.cases d.told).2.2, (tickGo F st (d.time + n + m) (leftL st d.cases) d.cases d.told).2.1⟩, (tickGo F st (d.time + n + m) (leftL st d.cases) d.cases d.told).1, 0) := by
    unfold tickC; rw [if_neg (by omega), ← Int.add_assoc]
  have hsp := tick_split (F := F) hs (T1 := d.time + n) (T2 := d.time + n + m) (by omega) (leftL st d.cases) d.cases d.told ok.cs (Nat.le_refl _)
  rw [e2, e1]
  dsimp only
  have e3 : ∀ d1 : Dk, d1.time = d.time + n → tickC F st d1 m = (⟨d.time + n + m, d1.made, (tickGo F st (d.time + n + m) (leftL st d1.cases) d1.cases d1.told).2.2, (tickGo F st (d.time + n + m) (leftL st d1.cases) d1.cases d1.told).2.1⟩, (tickGo F st (d.time + n + m) (leftL st d1.cases) d1.cases d1.told).1, 0) := fun d1 hd => by
    unfold tickC; rw [if_neg (by omega), hd]
  rw [e3 _ rfl, hsp]
/-- no time: nothing -/
theorem tick_zero (iv : InvD F d) (t1 : d.time ≤ 100800) : tickC F st d 0 = (d, [], 0) := by
  have hc : nextL d.cases < 0 ∨ d.time + 0 < (csAt d.cases (nextL d.cases)).due := by
    by_cases h : nextL d.cases < 0
    · exact .inl h
    · right
      have hb := nextTo_bd d.cases d.cases.length
      have hi : (nextL d.cases).toNat < d.cases.length := by unfold nextL at *; omega
      have e : nextL d.cases = ((nextL d.cases).toNat : Nat) := by omega
      have hd : 0 ≤ (csAt d.cases (nextL d.cases)).due := hb.2.2 (by unfold nextL at *; omega)
      rw [e] at hd ⊢
      have hm : csAt d.cases ((nextL d.cases).toNat : Nat) ∈ d.cases := by rw [csAt_nat hi]; exact List.getElem_mem hi
      have := (iv.due _ hm hd).1
      omega
  unfold tickC
  rw [if_neg (by omega), tick_done hc, Int.add_zero]
/-- what a docket's call leaves of the time -/
theorem tick_time (n : Int) (h : 0 ≤ n ∧ n ≤ 100800 - d.time) : (tickC F st d n).1.time = d.time + n := by
  unfold tickC; rw [if_neg (by omega)]
end
end Go.Proofs.YtcnmbldikjljeaaGreatDoor
namespace Go.Proofs.YtcnmbldikjljeaaGreatDoor
open Go.RowKit

theorem hide {p : Prop} (h : p) : Hid p := h
theorem unhide {p : Prop} (h : Hid p) : p := h
def pk (c n : Int) : Int := (if c < 0 then -(c + 1) else c) % n
theorem pk_lo (c n : Int) (h : 0 < n) : 0 ≤ pk c n := by unfold pk; exact Int.emod_nonneg _ (by omega)
theorem pk_hi (c n : Int) (h : 0 < n) : pk c n < n := by unfold pk; exact Int.emod_lt_of_pos _ h
theorem ret_int {k : IntKind} {a b : Int} (h : a = b) : Ending.returned (.int k a) = .returned (.int k b) := by rw [h]
theorem neg_tmod (c n : Int) (h : c < 0) : -(c + 1).tmod n = (-(c + 1)) % n := by
  rw [← Int.neg_tmod, Int.tmod_eq_emod_of_nonneg (by omega)]

def dg (n : Int) : List UInt8 := [UInt8.ofNat (48 + n / 10).toNat, UInt8.ofNat (48 + n % 10).toNat]
def str (l : List UInt8) : Value := .string ⟨l.toArray⟩
def ck (q : Int) : List UInt8 := dg (q / 4) ++ [58] ++ dg (q % 4 * 15)
end Go.Proofs.YtcnmbldikjljeaaGreatDoor
namespace Go.Proofs.YtcnmbldikjljeaaGreatDoor
open Go.RowKit

def nmB : List UInt8 := [77, 111, 84, 117, 87, 101, 84, 104, 70, 114, 83, 97, 83, 117]
def nm (d : Nat) : List UInt8 := (nmB.drop (2 * d)).take 2
def dset (days : Int) (d : Nat) : Bool := !(days / 2 ^ d % 2 == 0)
def anyTo (days : Int) : Nat → Bool
  | 0 => false
  | k + 1 => anyTo days k || dset days k
def comma (b : Bool) : List UInt8 := if b then [44] else []
def daysTo (days : Int) : Nat → List UInt8
  | 0 => []
  | k + 1 => daysTo days k ++ (if dset days k then comma (anyTo days k) ++ nm k else [])
abbrev Ent := Int × Int × Int
def eDays (e : Ent) : Int := 1 + pk e.1 127
def eFrom (e : Ent) : Int := pk e.2.1 96
def eTo (e : Ent) : Int := eFrom e + 1 + pk e.2.2 (96 - eFrom e)
def entTxt (e : Ent) : List UInt8 := daysTo (eDays e) 7 ++ [32] ++ ck (eFrom e) ++ [45] ++ ck (eTo e)
def ent (es : List Ent) (i : Nat) : Ent := es.getD i (31, 36, 32)
def txtTo (es : List Ent) : Nat → List UInt8
  | 0 => []
  | k + 1 => txtTo es k ++ (if k = 0 then [] else [59]) ++ entTxt (ent es k)
/-- what the days below k mark -/
def markTo (f : Nat → Bool) (e : Ent) (k : Nat) (i : Nat) : Bool := f i || (decide (i / 96 < k) && dset (eDays e) (i / 96) && decide (eFrom e ≤ (i % 96 : Nat)) && decide (((i % 96 : Nat) : Int) < eTo e))
def wkTo (es : List Ent) : Nat → Nat → Bool
  | 0, _ => false
  | k + 1, i => markTo (wkTo es k) (ent es k) 7 i
def nEnt (es : List Ent) : Nat := max 1 (min es.length 3)
def frNums : Int → List Int → List Int
  | _, [] => []
  | last, x :: xs => if 70 ≤ last + 1 + pk x 9 then [] else (last + 1 + pk x 9) :: frNums (last + 1 + pk x 9) xs
def numTxt (n : Int) : List UInt8 := if 10 ≤ n then dg n else (dg n).drop 1
def frTxt : List Int → List UInt8
  | [] => []
  | n :: ns => [33] ++ numTxt n ++ (ns.map fun m => [44] ++ numTxt m).flatten
def theTxt (es : List Ent) (fs : List Int) : List UInt8 := txtTo es (nEnt es) ++ frTxt (frNums (-1) (fs.take 20))
def theWk (es : List Ent) (i : Nat) : Bool := wkTo es (nEnt es) i
def theOff (fs : List Int) (i : Nat) : Bool := (frNums (-1) (fs.take 20)).contains (i : Int)

theorem dg_len (n : Int) : (dg n).length = 2 := rfl
theorem ck_len (n : Int) : (ck n).length = 5 := rfl
theorem nm_le (d : Nat) : (nm d).length ≤ 2 := by unfold nm; simp; omega
theorem comma_le (b : Bool) : (comma b).length ≤ 1 := by cases b <;> simp [comma]
theorem daysTo_le (D : Int) (k : Nat) : (daysTo D k).length ≤ 3 * k := by
  induction k with
  | zero => simp [daysTo]
  | succ k ih =>
    have h1 := nm_le k
    have h2 := comma_le (anyTo D k)
    simp only [daysTo]
    split <;> simp <;> omega
theorem entTxt_le (e : Ent) : (entTxt e).length ≤ 33 := by
  have := daysTo_le (eDays e) 7
  simp [entTxt, ck_len]; omega
theorem txtTo_le (es : List Ent) (k : Nat) : (txtTo es k).length ≤ 34 * k := by
  induction k with
  | zero => simp [txtTo]
  | succ k ih =>
    have := entTxt_le (ent es k)
    simp only [txtTo]
    split <;> simp <;> omega
theorem bapp (a b : List UInt8) : (⟨a.toArray⟩ : ByteArray) ++ ⟨b.toArray⟩ = ⟨(a ++ b).toArray⟩ := rfl
theorem sapp {a b : List UInt8} (h : a = b) : Value.string ⟨a.toArray⟩ = .string ⟨b.toArray⟩ := by rw [h]

def sep (k : Nat) : List UInt8 := if k = 0 then [] else [59]
def markIn (f : Nat → Bool) (e : Ent) (j : Nat) (q : Int) (i : Nat) : Bool := markTo f e j i || (decide (i / 96 = j) && decide (eFrom e ≤ (i % 96 : Nat)) && decide (((i % 96 : Nat) : Int) < q))
theorem markTo_zero (f : Nat → Bool) (e : Ent) (i : Nat) : f i = markTo f e 0 i := by simp [markTo]
theorem markIn_from (f : Nat → Bool) (e : Ent) (j : Nat) (i : Nat) : markTo f e j i = markIn f e j (eFrom e) i := by
  simp only [markIn]
  by_cases h : eFrom e ≤ (i % 96 : Nat)
  · have h2 : ¬ ((i % 96 : Nat) : Int) < eFrom e := by omega
    rw [decide_eq_false h2]; simp
  · rw [decide_eq_false h]; simp
theorem markIn_step (f : Nat → Bool) (e : Ent) (j : Nat) (q : Nat) (hq : q < 96) (h0 : eFrom e ≤ q) (i : Nat) : (markIn f e j q i || decide (i = 96 * j + q)) = markIn f e j ((q : Int) + 1) i := by
  simp only [markIn]
  by_cases h : i = 96 * j + q
  · subst h
    have h1 : (96 * j + q) / 96 = j := by omega
    have h2 : (96 * j + q) % 96 = q := by omega
    simp [h1, h2, h0]; omega
  · by_cases hj : i / 96 = j
    · have h3 : i % 96 ≠ q := by omega
      have : (((i % 96 : Nat) : Int) < (q : Int)) ↔ (((i % 96 : Nat) : Int) < (q : Int) + 1) := by omega
      simp only [h, decide_false, Bool.or_false, decide_eq_decide.2 this]
    · simp [h, hj]
theorem markIn_stepI (f : Nat → Bool) (e : Ent) (j : Nat) (q : Int) (h : 0 ≤ q) (hq : q < 96) (h0 : eFrom e ≤ q) (i : Nat) : (markIn f e j q i || decide (i = (96 * (j : Int) + q).toNat)) = markIn f e j (q + 1) i := by
  obtain ⟨n, rfl⟩ := Int.eq_ofNat_of_zero_le h
  have := markIn_step f e j n (by omega) h0 i
  rw [show (96 * (j : Int) + (n : Int)).toNat = 96 * j + n from by omega]
  exact this
theorem markIn_to (f : Nat → Bool) (e : Ent) (j : Nat) (hd : dset (eDays e) j = true) (i : Nat) : markIn f e j (eTo e) i = markTo f e (j + 1) i := by
  simp only [markIn, markTo]
  by_cases hj : i / 96 = j
  · subst hj; simp [hd]
  · have : (i / 96 < j) ↔ (i / 96 < j + 1) := by omega
    simp [hj, decide_eq_decide.2 this]
theorem markTo_skip (f : Nat → Bool) (e : Ent) (j : Nat) (hd : dset (eDays e) j = false) (i : Nat) : markTo f e j i = markTo f e (j + 1) i := by
  simp only [markTo]
  by_cases hj : i / 96 = j
  · subst hj; simp [hd]
  · have : (i / 96 < j) ↔ (i / 96 < j + 1) := by omega
    simp [decide_eq_decide.2 this]
theorem txt_start (a : List UInt8) (k : Nat) (h : k = 0) : ∃ bs, Value.string ⟨a.toArray⟩ = .string ⟨bs.toArray⟩ ∧ Hid (bs = a ++ sep k) ∧ bs.length ≤ a.length + 1 := ⟨_, rfl, by unfold Hid; simp [sep, h], by simp⟩
theorem txt_start' (a : List UInt8) (k : Nat) (h : ¬ k = 0) : ∃ bs : List UInt8, Value.string (⟨a.toArray⟩ ++ ⟨#[59]⟩) = .string ⟨bs.toArray⟩ ∧ Hid (bs = a ++ sep k) ∧ bs.length ≤ a.length + 1 := ⟨a ++ [59], rfl, by unfold Hid; simp [sep, h], by simp⟩
theorem dset_true {D : Int} {j : Nat} (h0 : 0 ≤ D) (h : dset D j = true) : ((D / 2 ^ j).tmod 2 == 0) = false := by
  rw [Int.tmod_eq_emod_of_nonneg (Int.ediv_nonneg h0 (Int.le_of_lt (Int.pow_pos (by omega))))]
  simpa [dset] using h
theorem dset_false {D : Int} {j : Nat} (h0 : 0 ≤ D) (h : dset D j = false) : ((D / 2 ^ j).tmod 2 == 0) = true := by
  rw [Int.tmod_eq_emod_of_nonneg (Int.ediv_nonneg h0 (Int.le_of_lt (Int.pow_pos (by omega))))]
  simpa [dset] using h
theorem eDays_lo (e : Ent) : 1 ≤ eDays e := by have := pk_lo e.1 127 (by omega); unfold eDays; omega
theorem eDays_hi (e : Ent) : eDays e ≤ 127 := by have := pk_hi e.1 127 (by omega); unfold eDays; omega
theorem dtake {D : Int} {j : Nat} (h : dset D j = true) : daysTo D (j + 1) = daysTo D j ++ (comma (anyTo D j) ++ nm j) ∧ comma (anyTo D (j + 1)) = [44] := by simp [daysTo, anyTo, h, comma]
theorem dskip {D : Int} {j : Nat} (h : dset D j = false) : daysTo D (j + 1) = daysTo D j ∧ anyTo D (j + 1) = anyTo D j := by simp [daysTo, anyTo, h]

theorem nm_ext (j : Nat) (h : j < 7) : (⟨#[77, 111, 84, 117, 87, 101, 84, 104, 70, 114, 83, 97, 83, 117]⟩ : ByteArray).extract (2 * j) (2 * j + 2) = ⟨(nm j).toArray⟩ := by
  match j, h with
  | 0, _ => rfl
  | 1, _ => rfl
  | 2, _ => rfl
  | 3, _ => rfl
  | 4, _ => rfl
  | 5, _ => rfl
  | 6, _ => rfl
theorem day_step (bs : List UInt8) (D : Int) (j : Nat) (hj : j < 7) (h : dset D j = true) :
    Value.string ((⟨(bs ++ daysTo D j).toArray⟩ : ByteArray) ++ ⟨(comma (anyTo D j)).toArray⟩ ++ (⟨#[77, 111, 84, 117, 87, 101, 84, 104, 70, 114, 83, 97, 83, 117]⟩ : ByteArray).extract (2 * j) (2 * j + 2)) = .string ⟨(bs ++ daysTo D (j + 1)).toArray⟩ := by
  rw [nm_ext j hj, bapp, bapp]
  exact sapp (by rw [(dtake h).1]; simp)
theorem ent_step (es : List Ent) (k : Nat) (e : Ent) (bs : List UInt8) (hx : e = ent es k) (hb : bs = txtTo es k ++ sep k) :
    Value.string ((⟨(bs ++ daysTo (eDays e) 7).toArray⟩ : ByteArray) ++ ⟨#[32]⟩ ++ ⟨(ck (eFrom e)).toArray⟩ ++ ⟨#[45]⟩ ++ ⟨(ck (eTo e)).toArray⟩) = .string ⟨(txtTo es (k + 1)).toArray⟩ := by
  subst hx hb
  show Value.string ⟨(txtTo es k ++ sep k ++ daysTo (eDays (ent es k)) 7 ++ [32] ++ ck (eFrom (ent es k)) ++ [45] ++ ck (eTo (ent es k))).toArray⟩ = _
  exact sapp (by simp [txtTo, entTxt, sep])
def lastOf : List Int → Int
  | [] => -1
  | [n] => n
  | _ :: n :: ns => lastOf (n :: ns)
theorem numTxt_le (n : Int) : (numTxt n).length ≤ 2 := by unfold numTxt; split <;> simp [dg]
theorem frTxt_le (ds : List Int) : (frTxt ds).length ≤ 3 * ds.length := by
  cases ds with
  | nil => simp [frTxt]
  | cons n ns =>
    have h1 := numTxt_le n
    have : ((ns.map fun m => [44] ++ numTxt m).flatten).length ≤ 3 * ns.length := by
      induction ns with
      | nil => simp
      | cons m ms ih => have := numTxt_le m; simp at ih ⊢; omega
    simp only [frTxt, List.length_append, List.length_cons, List.length_nil]; omega
theorem frTxt_first (n : Int) : frTxt [n] = [33] ++ numTxt n := by simp [frTxt]
theorem frTxt_snoc (ds : List Int) (n : Int) (h : ds ≠ []) : frTxt (ds ++ [n]) = frTxt ds ++ [44] ++ numTxt n := by
  cases ds with
  | nil => contradiction
  | cons m ms => simp [frTxt]
theorem frNums_cons (last x : Int) (xs : List Int) (h : ¬ 70 ≤ last + 1 + pk x 9) : frNums last (x :: xs) = (last + 1 + pk x 9) :: frNums (last + 1 + pk x 9) xs := by simp [frNums, h]
theorem frNums_stop (last x : Int) (xs : List Int) (h : 70 ≤ last + 1 + pk x 9) : frNums last (x :: xs) = [] := by simp [frNums, h]

theorem fr_more (fs : List Int) (m : Nat) (h : m < fs.length) (h2 : m < 20) : (fs.take 20).drop m = fs[m] :: (fs.take 20).drop (m + 1) := by
  rw [List.drop_eq_getElem_cons (by simp; omega)]; simp
theorem fr_none (fs : List Int) (m : Nat) (h : fs.length ≤ m ∨ 20 ≤ m) : (fs.take 20).drop m = [] := by
  rw [List.drop_eq_nil_iff]; simp; omega
theorem fr_step (fs ds : List Int) (l : Int) (m : Nat) (h : m < fs.length) (h2 : m < 20) (hn : ¬ 70 ≤ l + 1 + pk fs[m] 9)
    (H : frNums (-1) (fs.take 20) = ds ++ frNums l ((fs.take 20).drop m)) : frNums (-1) (fs.take 20) = (ds ++ [l + 1 + pk fs[m] 9]) ++ frNums (l + 1 + pk fs[m] 9) ((fs.take 20).drop (m + 1)) := by
  rw [H, fr_more fs m h h2, frNums_cons _ _ _ hn]; simp
theorem fr_stop (fs ds : List Int) (l : Int) (m : Nat) (h : m < fs.length) (h2 : m < 20) (hn : 70 ≤ l + 1 + pk fs[m] 9)
    (H : frNums (-1) (fs.take 20) = ds ++ frNums l ((fs.take 20).drop m)) : frNums (-1) (fs.take 20) = ds := by
  rw [H, fr_more fs m h h2, frNums_stop _ _ _ hn]; simp
theorem fr_end (fs ds : List Int) (l : Int) (m : Nat) (h : fs.length ≤ m ∨ 20 ≤ m)
    (H : frNums (-1) (fs.take 20) = ds ++ frNums l ((fs.take 20).drop m)) : frNums (-1) (fs.take 20) = ds := by
  rw [H, fr_none fs m h]; simp [frNums]
theorem off_step (ds : List Int) (n : Int) (h0 : 0 ≤ n) (i : Nat) : (ds.contains (i : Int) || decide (i = n.toNat)) = (ds ++ [n]).contains (i : Int) := by
  have : (i = n.toNat) ↔ ((i : Int) = n) := by omega
  simp [decide_eq_decide.2 this]

theorem dg_ext (n : Int) : (⟨(dg n).toArray⟩ : ByteArray).extract 1 2 = ⟨((dg n).drop 1).toArray⟩ := by
  unfold dg
  generalize UInt8.ofNat (48 + n / 10).toNat = a
  generalize UInt8.ofNat (48 + n % 10).toNat = b
  rfl
theorem num_first (bs ds : List UInt8) (n : Int) (h : ¬ 10 ≤ n) (hd : ds = []) :
    Value.string ((⟨(bs ++ ds).toArray⟩ : ByteArray) ++ ⟨#[33]⟩ ++ ⟨((dg n).drop 1).toArray⟩) = .string ⟨(bs ++ frTxt [n]).toArray⟩ := by
  subst hd
  show Value.string ⟨(bs ++ [] ++ [33] ++ (dg n).drop 1).toArray⟩ = _
  exact sapp (by simp [frTxt_first, numTxt, h])
theorem num_small (bs : List UInt8) (ds : List Int) (n : Int) (h : ¬ 10 ≤ n) (hd : ds ≠ []) :
    Value.string ((⟨(bs ++ frTxt ds).toArray⟩ : ByteArray) ++ ⟨#[44]⟩ ++ ⟨((dg n).drop 1).toArray⟩) = .string ⟨(bs ++ frTxt (ds ++ [n])).toArray⟩ := by
  show Value.string ⟨(bs ++ frTxt ds ++ [44] ++ (dg n).drop 1).toArray⟩ = _
  exact sapp (by rw [frTxt_snoc _ _ hd]; simp [numTxt, h])
theorem num_big (bs : List UInt8) (ds : List Int) (n : Int) (h : 10 ≤ n) (hd : ds ≠ []) :
    Value.string ((⟨(bs ++ frTxt ds).toArray⟩ : ByteArray) ++ ⟨#[44]⟩ ++ ⟨(dg n).toArray⟩) = .string ⟨(bs ++ frTxt (ds ++ [n])).toArray⟩ := by
  show Value.string ⟨(bs ++ frTxt ds ++ [44] ++ dg n).toArray⟩ = _
  exact sapp (by rw [frTxt_snoc _ _ hd]; simp [numTxt, h])

theorem num_first' (bs : List UInt8) (ds : List Int) (n : Int) (h : ¬ 10 ≤ n) (hd : ds = []) :
    Value.string ((⟨(bs ++ frTxt ds).toArray⟩ : ByteArray) ++ ⟨#[33]⟩ ++ (⟨(dg n).toArray⟩ : ByteArray).extract 1 2) = .string ⟨(bs ++ frTxt (ds ++ [n])).toArray⟩ := by
  subst hd; rw [dg_ext]; exact num_first bs [] n h rfl
theorem num_small' (bs : List UInt8) (ds : List Int) (n : Int) (h : ¬ 10 ≤ n) (hd : ds ≠ []) :
    Value.string ((⟨(bs ++ frTxt ds).toArray⟩ : ByteArray) ++ ⟨#[44]⟩ ++ (⟨(dg n).toArray⟩ : ByteArray).extract 1 2) = .string ⟨(bs ++ frTxt (ds ++ [n])).toArray⟩ := by
  rw [dg_ext]; exact num_small bs ds n h hd
theorem ret3s {a b : List UInt8} {v1 v2 : Value} (h : a = b) : Ending.returned (.tuple #[.string ⟨a.toArray⟩, v1, v2]) = .returned (.tuple #[.string ⟨b.toArray⟩, v1, v2]) := by rw [h]
theorem txt_fin (es : List Ent) (fs ds : List Int) (k : Nat) (bs : List UInt8) (hk : k = nEnt es) (hb : bs = txtTo es k) (h : frNums (-1) (fs.take 20) = ds) : bs ++ frTxt ds = theTxt es fs := by
  subst hk hb; unfold theTxt; rw [h]

/-- the world inside text: B the box, B + 1 the week, B + 2 the days off -/
structure TW (B : Nat) (w wr : World) (ve vf : Value) (f g : Nat → Bool) : Prop where
  below : Below B w wr
  size : B + 3 ≤ wr.heap.size
  ce : wr.cell? ⟨B, 0, none⟩ = some ve
  cf : wr.cell? ⟨B, 1, none⟩ = some vf
  wk : ∀ j, j < 672 → wr.cell? ⟨B + 1, j, none⟩ = some (.bool (f j))
  wf : ∀ j, wr.frozen? ⟨B + 1, j, none⟩ = false
  ok : ∀ j, j < 70 → wr.cell? ⟨B + 2, j, none⟩ = some (.bool (g j))
  of : ∀ j, wr.frozen? ⟨B + 2, j, none⟩ = false

theorem TW.on {B : Nat} {w wr wx : World} {ve vf : Value} {f g : Nat → Bool} (h : TW B w wr ve vf f g) (hb : Below (B + 3) wr wx) : TW B w wx ve vf f g :=
  ⟨h.below.trans (hb.mono (by omega)), Nat.le_trans h.size hb.size, (hb.cell (p := ⟨B, 0, none⟩) (by simp)).trans h.ce, (hb.cell (p := ⟨B, 1, none⟩) (by simp)).trans h.cf,
   fun j hj => (hb.cell (p := ⟨B + 1, j, none⟩) (by simp)).trans (h.wk j hj), fun j => (hb.frozen (p := ⟨B + 1, j, none⟩) (by simp)).trans (h.wf j),
   fun j hj => (hb.cell (p := ⟨B + 2, j, none⟩) (by simp)).trans (h.ok j hj), fun j => (hb.frozen (p := ⟨B + 2, j, none⟩) (by simp)).trans (h.of j)⟩
theorem TW.alloc {B : Nat} {w wr : World} {ve vf : Value} {f g : Nat → Bool} (h : TW B w wr ve vf f g) (o : Obj) : TW B w (wr.alloc o) ve vf f g :=
  h.on ((Below.refl _ _).alloc h.size o)
theorem TW.setE {B : Nat} {w wr : World} {ve vf : Value} {f g : Nat → Bool} (h : TW B w wr ve vf f g) {p : Addr} (hp : B + 3 ≤ p.block) (v : Value) : TW B w (wr.setCell p v) ve vf f g :=
  h.on ((Below.refl _ _).setCell hp v)
theorem adr_ne {a b i j : Nat} (h : a ≠ b ∨ i ≠ j) : (⟨a, i, none⟩ : Addr) ≠ ⟨b, j, none⟩ := by
  intro e; injection e with e1 e2; rcases h with h | h <;> contradiction
theorem sc_ne {w : World} {a b i j : Nat} {v : Value} (h : a ≠ b ∨ i ≠ j) : (w.setCell ⟨a, i, none⟩ v).cell? ⟨b, j, none⟩ = w.cell? ⟨b, j, none⟩ :=
  World.cell?_setCell_other (h := adr_ne h) ..
theorem sc_eq {w : World} {p : Addr} {u v : Value} (h : w.cell? p = some u) : (w.setCell p v).cell? p = some v :=
  World.cell?_setCell_same (h := h) ..
theorem TW.setW {B : Nat} {w wr : World} {ve vf : Value} {f g : Nat → Bool} (h : TW B w wr ve vf f g) (k : Nat) (hk : k < 672) :
    TW B w (wr.setCell ⟨B + 1, k, none⟩ (.bool true)) ve vf (fun i => f i || decide (i = k)) g := by
  refine ⟨h.below.setCell (by simp) _, by have := h.size; simpa using this, ?_, ?_, ?_, ?_, ?_, ?_⟩
  · rw [sc_ne (by omega)]; exact h.ce
  · rw [sc_ne (by omega)]; exact h.cf
  · intro j hj
    by_cases e : j = k
    · subst e; rw [sc_eq (h.wk j hj)]; simp
    · rw [sc_ne (by omega), h.wk j hj]; simp [e]
  · intro j; rw [World.frozen?_setCell]; exact h.wf j
  · intro j hj
    rw [sc_ne (by omega)]; exact h.ok j hj
  · intro j; rw [World.frozen?_setCell]; exact h.of j
theorem TW.setO {B : Nat} {w wr : World} {ve vf : Value} {f g : Nat → Bool} (h : TW B w wr ve vf f g) (k : Nat) (hk : k < 70) :
    TW B w (wr.setCell ⟨B + 2, k, none⟩ (.bool true)) ve vf f (fun i => g i || decide (i = k)) := by
  refine ⟨h.below.setCell (by simp) _, by have := h.size; simpa using this, ?_, ?_, ?_, ?_, ?_, ?_⟩
  · rw [sc_ne (by omega)]; exact h.ce
  · rw [sc_ne (by omega)]; exact h.cf
  · intro j hj
    rw [sc_ne (by omega)]; exact h.wk j hj
  · intro j; rw [World.frozen?_setCell]; exact h.wf j
  · intro j hj
    by_cases e : j = k
    · subst e; rw [sc_eq (h.ok j hj)]; simp
    · rw [sc_ne (by omega), h.ok j hj]; simp [e]
  · intro j; rw [World.frozen?_setCell]; exact h.of j
theorem TW.congr {B : Nat} {w wr : World} {ve vf : Value} {f g f' g' : Nat → Bool} (h : TW B w wr ve vf f g) (hf : ∀ j, j < 672 → f j = f' j) (hg : ∀ j, j < 70 → g j = g' j) : TW B w wr ve vf f' g' :=
  ⟨h.below, h.size, h.ce, h.cf, fun j hj => by rw [← hf j hj]; exact h.wk j hj, h.wf, fun j hj => by rw [← hg j hj]; exact h.ok j hj, h.of⟩
end Go.Proofs.YtcnmbldikjljeaaGreatDoor
