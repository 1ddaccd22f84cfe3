import Derived.Sort.Statements
import Derived.Test.YtcnmbldikjljeaaGreatDoorJ01
namespace Go.Proofs.YtcnmbldikjljeaaGreatDoor

def hitL (m : Int) (l : List (Int × Int)) : Bool := l.any fun p => decide (p.1 ≤ m) && decide (m < p.2)
def openL (wk : Nat → List (Int × Int)) (fr : Nat → Bool) (t : Int) : Bool := !fr (t / 1440).toNat && hitL (t % 1440) (wk (t / 1440 % 7).toNat)
theorem hit_iff (m : Int) (l : List (Int × Int)) : hitL m l = true ↔ ∃ p ∈ l, p.1 ≤ m ∧ m < p.2 := by simp [hitL]
theorem hit_eq {m m' : Int} {l l' : List (Int × Int)} (h : (∃ p ∈ l, p.1 ≤ m ∧ m < p.2) ↔ ∃ p ∈ l', p.1 ≤ m' ∧ m' < p.2) : hitL m l = hitL m' l' := by
  rw [Bool.eq_iff_iff, hit_iff, hit_iff]; exact h
/-- a span of a day -/
def Good (p : Int × Int) : Prop := 0 ≤ p.1 ∧ p.1 < p.2 ∧ p.2 ≤ 1440
/-- spans of a day, in their order and apart from one another -/
structure Apart (l : List (Int × Int)) : Prop where
  ord : l.Pairwise fun p q => p.2 < q.1
  good : ∀ p ∈ l, Good p
/-- the joined spans A of what has come, and what is to come -/
structure JI (A pre rest : List (Int × Int)) : Prop where
  ap : Apart A
  hit : ∀ m, hitL m A = hitL m pre
  le : ∀ p ∈ A, ∀ q ∈ rest, p.1 ≤ q.1
  len : A.length ≤ pre.length
theorem apart_nil : Apart [] := ⟨.nil, fun p h => by cases h⟩
theorem JI.nil (l : List (Int × Int)) : JI [] [] l := ⟨apart_nil, fun _ => rfl, fun p h => (by cases h), Nat.le_refl _⟩
theorem hit_append (m : Int) (a b : List (Int × Int)) : hitL m (a ++ b) = (hitL m a || hitL m b) := by simp [hitL]
theorem JI.app {A pre rest : List (Int × Int)} {s : Int × Int} (h : JI A pre (s :: rest)) (hs : Good s) (hr : ∀ q ∈ rest, s.1 ≤ q.1) (hl : ∀ p ∈ A, p.2 < s.1) : JI (A ++ [s]) (pre ++ [s]) rest := by
  refine ⟨⟨?_, ?_⟩, ?_, ?_, ?_⟩
  · rw [List.pairwise_append]
    refine ⟨h.ap.ord, List.pairwise_singleton _ _, fun p hp q hq => ?_⟩
    rw [List.mem_singleton] at hq; subst hq; exact hl p hp
  · intro p hp
    rcases List.mem_append.1 hp with a | a
    · exact h.ap.good p a
    · rw [List.mem_singleton] at a; subst a; exact hs
  · intro m; rw [hit_append, hit_append, h.hit]
  · intro p hp q hq
    rcases List.mem_append.1 hp with a | a
    · exact h.le p a q (List.mem_cons_of_mem _ hq)
    · rw [List.mem_singleton] at a; subst a; exact hr q hq
  · have := h.len; simp; omega
theorem JI.fuse {B pre rest : List (Int × Int)} {l s : Int × Int} (h : JI (B ++ [l]) pre (s :: rest)) (hs : Good s) (hf : s.1 ≤ l.2) : JI (B ++ [(l.1, max l.2 s.2)]) (pre ++ [s]) rest := by
  have ho := h.ap.ord
  rw [List.pairwise_append] at ho
  have hg : Good l := h.ap.good l (by simp)
  have hle : l.1 ≤ s.1 := h.le l (by simp) s (by simp)
  unfold Good at hg hs
  refine ⟨⟨?_, ?_⟩, ?_, ?_, ?_⟩
  · rw [List.pairwise_append]
    refine ⟨ho.1, List.pairwise_singleton _ _, fun p hp q hq => ?_⟩
    rw [List.mem_singleton] at hq; subst hq
    exact ho.2.2 p hp l (by simp)
  · intro p hp
    rcases List.mem_append.1 hp with a | a
    · exact h.ap.good p (by simp [a])
    · rw [List.mem_singleton] at a; subst a; unfold Good; simp only; omega
  · intro m
    have e := h.hit m
    rw [hit_append] at e ⊢
    rw [hit_append, ← e]
    cases hitL m B
    · simp only [Bool.false_or]
      rw [← hit_append m [l] [s]]
      apply hit_eq
      simp only [exists_eq_left, List.cons_append, List.nil_append, List.mem_cons, List.not_mem_nil, or_false, exists_eq_or_imp]
      omega
    · simp
  · intro p hp q hq
    rcases List.mem_append.1 hp with a | a
    · exact h.le p (by simp [a]) q (List.mem_cons_of_mem _ hq)
    · rw [List.mem_singleton] at a; subst a; exact h.le l (by simp) q (List.mem_cons_of_mem _ hq)
  · have := h.len; simp at this ⊢; omega
theorem JI.last {B pre rest : List (Int × Int)} {l s : Int × Int} (h : JI (B ++ [l]) pre (s :: rest)) (hf : l.2 < s.1) : ∀ p ∈ B ++ [l], p.2 < s.1 := by
  have ho := h.ap.ord
  rw [List.pairwise_append] at ho
  have hg : Good l := h.ap.good l (by simp)
  unfold Good at hg
  intro p hp
  rcases List.mem_append.1 hp with a | a
  · have := ho.2.2 p a l (by simp); omega
  · rw [List.mem_singleton] at a; subst a; exact hf
/-- what Parse makes of the spans that the text names -/
def JoinOf (raw wk : List (Int × Int)) : Prop := Apart wk ∧ (∀ m, hitL m wk = hitL m raw) ∧ wk.length ≤ raw.length
theorem hit_perm {l l' : List (Int × Int)} (h : l'.Perm l) (m : Int) : hitL m l' = hitL m l := by
  apply hit_eq
  constructor
  · rintro ⟨p, a, b⟩; exact ⟨p, h.mem_iff.1 a, b⟩
  · rintro ⟨p, a, b⟩; exact ⟨p, h.mem_iff.2 a, b⟩
theorem JI.done {A pre raw : List (Int × Int)} (h : JI A pre []) (hp : pre.Perm raw) : JoinOf raw A :=
  ⟨h.ap, fun m => by rw [h.hit, hit_perm hp], by rw [← hp.length_eq]; exact h.len⟩
theorem joinOf_nil : JoinOf [] [] := ⟨apart_nil, fun _ => rfl, Nat.le_refl _⟩
theorem open_join {raw wk : Nat → List (Int × Int)} (h : ∀ j, j < 7 → JoinOf (raw j) (wk j)) (fr : Nat → Bool) (t : Int) (_h0 : 0 ≤ t) : openL wk fr t = openL raw fr t := by
  unfold openL
  rw [(h (t / 1440 % 7).toNat (by omega)).2.1]

/-! the count -/
def cnt (F : Nat → Bool) : Nat → Int
  | 0 => 0
  | k + 1 => cnt F k + if F k then 1 else 0
theorem cnt_bd (F : Nat → Bool) (k : Nat) : 0 ≤ cnt F k ∧ cnt F k ≤ k := by
  induction k with
  | zero => simp [cnt]
  | succ k ih => simp only [cnt]; split <;> omega
theorem cnt_same (F : Nat → Bool) (a d : Nat) (x : Bool) (h : ∀ m, a ≤ m → m < a + d → F m = x) : cnt F (a + d) = cnt F a + if x then (d : Int) else 0 := by
  induction d with
  | zero => simp
  | succ d ih =>
    rw [← Nat.add_assoc]
    simp only [cnt]
    rw [ih (fun m h0 h1 => h m h0 (by omega)), h (a + d) (by omega) (by omega)]
    cases x <;> simp <;> omega
theorem cnt_run (F : Nat → Bool) (a b : Int) (x : Bool) (h0 : 0 ≤ a) (h1 : a ≤ b) (h : ∀ m : Int, a ≤ m → m < b → F m.toNat = x) : cnt F b.toNat - cnt F a.toNat = if x then b - a else 0 := by
  have e : b.toNat = a.toNat + (b - a).toNat := by omega
  rw [e, cnt_same F a.toNat (b - a).toNat x (fun m g0 g1 => by have := h m (by omega) (by omega); simpa using this)]
  cases x <;> simp <;> omega
/-- spans from a time on, in their order -/
structure Ord (a M : Int) (X : List (Int × Int)) : Prop where
  mem : ∀ p ∈ X, a ≤ p.1 ∧ p.1 < p.2 ∧ p.2 ≤ M
  ord : X.Pairwise fun p q => p.2 ≤ q.1
def part (b : Int) (p : Int × Int) : Int := if p.1 < b then min p.2 b - p.1 else 0
def sumB (b : Int) (X : List (Int × Int)) : Int := (X.map (part b)).sum
theorem sumB_cons (b : Int) (p : Int × Int) (X : List (Int × Int)) : sumB b (p :: X) = part b p + sumB b X := by simp [sumB]
theorem sumB_append (b : Int) (X Y : List (Int × Int)) : sumB b (X ++ Y) = sumB b X + sumB b Y := by simp [sumB]
theorem sumB_late (b : Int) (X : List (Int × Int)) (h : ∀ p ∈ X, b ≤ p.1) : sumB b X = 0 := by
  induction X with
  | nil => rfl
  | cons p X ih =>
    rw [sumB_cons, ih (fun q hq => h q (List.mem_cons_of_mem _ hq))]
    have := h p (by simp)
    unfold part; rw [if_neg (by omega)]; rfl
theorem Ord.tail {a M : Int} {p : Int × Int} {X : List (Int × Int)} (h : Ord a M (p :: X)) : Ord p.2 M X := by
  have ho := List.pairwise_cons.1 h.ord
  refine ⟨fun q hq => ⟨ho.1 q hq, (h.mem q (List.mem_cons_of_mem _ hq)).2⟩, ho.2⟩
theorem hit_before {a M m : Int} {X : List (Int × Int)} (h : Ord a M X) (hm : m < a) : hitL m X = false := by
  rw [← Bool.not_eq_true, hit_iff]
  rintro ⟨p, hp, h1, h2⟩
  have := (h.mem p hp).1
  omega
theorem hit_cons (m : Int) (p : Int × Int) (X : List (Int × Int)) : hitL m (p :: X) = (decide (p.1 ≤ m ∧ m < p.2) || hitL m X) := by simp [hitL]
theorem sum_cnt (F : Nat → Bool) (M : Int) (X : List (Int × Int)) (a : Int) (ha : 0 ≤ a) (h : Ord a M X) (hF : ∀ m : Int, a ≤ m → m < M → F m.toNat = hitL m X) (b : Int) (h1 : a ≤ b) (h2 : b ≤ M) : sumB b X = cnt F b.toNat - cnt F a.toNat := by
  induction X generalizing a with
  | nil =>
    rw [cnt_run F a b false ha h1 (fun m g0 g1 => by rw [hF m g0 (by omega)]; rfl)]
    rfl
  | cons p X ih =>
    obtain ⟨m0, m1, m2⟩ := h.mem p (by simp)
    have ht := h.tail
    have hlate : ∀ m, m < p.2 → hitL m X = false := fun m hm => hit_before ht hm
    have e0 : ∀ c : Int, a ≤ c → c ≤ p.1 → c ≤ M → cnt F c.toNat - cnt F a.toNat = 0 := fun c c0 c1 c2 => by
      rw [cnt_run F a c false ha c0 (fun m g0 g1 => by rw [hF m g0 (by omega), hit_cons, hlate m (by omega)]; simp; omega)]
      rfl
    have e1 : ∀ c : Int, p.1 ≤ c → c ≤ p.2 → cnt F c.toNat - cnt F p.1.toNat = c - p.1 := fun c c0 c1 => by
      rw [cnt_run F p.1 c true (by omega) c0 (fun m g0 g1 => by rw [hF m (by omega) (by omega), hit_cons]; simp; omega)]
      rfl
    rw [sumB_cons]
    by_cases hb : b ≤ p.1
    · rw [sumB_late b X (fun q hq => by have := (ht.mem q hq).1; omega), e0 b h1 hb h2]
      unfold part; rw [if_neg (by omega)]; rfl
    · have f0 := e0 p.1 m0 (Int.le_refl _) (by omega)
      by_cases hb2 : b ≤ p.2
      · have f1 := e1 b (by omega) hb2
        rw [sumB_late b X (fun q hq => by have := (ht.mem q hq).1; omega)]
        unfold part; rw [if_pos (by omega)]; omega
      · have f1 := e1 p.2 (by omega) (Int.le_refl _)
        have f2 := ih p.2 (by omega) ht (fun m g0 g1 => by rw [hF m (by omega) g1, hit_cons]; simp; omega) (by omega)
        rw [f2]
        unfold part; rw [if_pos (by omega)]; omega
/-- what Add comes to -/
def AddN (F : Nat → Bool) (t n x : Int) : Prop := t ≤ x ∧ x ≤ 100800 ∧ cnt F x.toNat - cnt F t.toNat = n ∧ ∀ y : Int, t ≤ y → y < x → cnt F y.toNat - cnt F t.toNat ≠ n
def Never (F : Nat → Bool) (t n : Int) : Prop := ∀ y : Int, t ≤ y → y ≤ 100800 → cnt F y.toNat - cnt F t.toNat ≠ n
def lens (X : List (Int × Int)) : Int := (X.map fun p => p.2 - p.1).sum
theorem lens_cons (p : Int × Int) (X : List (Int × Int)) : lens (p :: X) = p.2 - p.1 + lens X := by simp [lens]
theorem lens_append (X Y : List (Int × Int)) : lens (X ++ Y) = lens X + lens Y := by simp [lens]
theorem sumB_le {X : List (Int × Int)} (h : ∀ p ∈ X, p.1 < p.2) (b : Int) : sumB b X ≤ lens X := by
  induction X with
  | nil => simp [sumB, lens]
  | cons p X ih =>
    rw [sumB_cons, lens_cons]
    have := ih (fun q hq => h q (List.mem_cons_of_mem _ hq))
    have := h p (by simp)
    unfold part; split <;> omega
theorem sumB_full {X : List (Int × Int)} {b : Int} (h : ∀ p ∈ X, p.1 < p.2 ∧ p.2 ≤ b) : sumB b X = lens X := by
  induction X with
  | nil => simp [sumB, lens]
  | cons p X ih =>
    rw [sumB_cons, lens_cons, ih (fun q hq => h q (List.mem_cons_of_mem _ hq))]
    have := h p (by simp)
    unfold part; rw [if_pos (by omega)]; omega
theorem add_found {F : Nat → Bool} {X pre rest : List (Int × Int)} {p : Int × Int} {t n : Int} (ht : 0 ≤ t) (h : Ord t 100800 X) (hF : ∀ m : Int, t ≤ m → m < 100800 → F m.toNat = hitL m X) (hX : X = pre ++ p :: rest) (h1 : 0 < n - lens pre) (h2 : n - lens pre ≤ p.2 - p.1) : AddN F t n (p.1 + (n - lens pre)) := by
  obtain ⟨m0, m1, m2⟩ := h.mem p (by simp [hX])
  have ho := h.ord
  rw [hX, List.pairwise_append, List.pairwise_cons] at ho
  have hpre : ∀ q ∈ pre, q.1 < q.2 ∧ q.2 ≤ p.1 := fun q hq => ⟨(h.mem q (by simp [hX, hq])).2.1, ho.2.2 q hq p (by simp)⟩
  refine ⟨by omega, by omega, ?_, fun y y0 y1 => ?_⟩
  · rw [← sum_cnt F 100800 X t ht h hF _ (by omega) (by omega), hX, sumB_append, sumB_cons, sumB_full (fun q hq => ⟨(hpre q hq).1, by have := (hpre q hq).2; omega⟩), sumB_late _ rest (fun q hq => by have := ho.2.1.1 q hq; omega)]
    unfold part; rw [if_pos (by omega)]; omega
  · rw [← sum_cnt F 100800 X t ht h hF _ y0 (by omega), hX, sumB_append, sumB_cons, sumB_late _ rest (fun q hq => by have := ho.2.1.1 q hq; omega)]
    have := sumB_le (fun q hq => (hpre q hq).1) y
    unfold part; split <;> omega
theorem add_never {F : Nat → Bool} {X : List (Int × Int)} {t n : Int} (ht : 0 ≤ t) (h : Ord t 100800 X) (hF : ∀ m : Int, t ≤ m → m < 100800 → F m.toNat = hitL m X) (h1 : 0 < n - lens X) : Never F t n := by
  intro y y0 y1
  rw [← sum_cnt F 100800 X t ht h hF _ y0 y1]
  have := sumB_le (fun q hq => (h.mem q hq).2.1) y
  omega
/-- a stop at a span that begins too late -/
theorem sum_stop {F : Nat → Bool} {X pre rest : List (Int × Int)} {p : Int × Int} {t b : Int} (ht : 0 ≤ t) (h : Ord t 100800 X) (hF : ∀ m : Int, t ≤ m → m < 100800 → F m.toNat = hitL m X) (hX : X = pre ++ p :: rest) (h1 : b ≤ p.1) (hb0 : t ≤ b) (hb : b ≤ 100800) : sumB b pre = cnt F b.toNat - cnt F t.toNat := by
  obtain ⟨m0, m1, m2⟩ := h.mem p (by simp [hX])
  have ho := h.ord
  rw [hX, List.pairwise_append, List.pairwise_cons] at ho
  rw [← sum_cnt F 100800 X t ht h hF b hb0 hb, hX, sumB_append, sumB_late b (p :: rest) (fun q hq => ?_)]
  · omega
  · rcases List.mem_cons.1 hq with rfl | hq
    · exact h1
    · have := ho.2.1.1 q hq; omega

/-! the spans of a calendar from a time on -/
def clip (t d : Int) (l : List (Int × Int)) : List (Int × Int) := (l.map fun p => (max (d * 1440 + p.1) t, d * 1440 + p.2)).filter fun p => decide (p.1 < p.2)
def dayL (wk : Nat → List (Int × Int)) (fr : Nat → Bool) (d : Nat) : List (Int × Int) := if fr d then [] else wk (d % 7)
def fromL (wk : Nat → List (Int × Int)) (fr : Nat → Bool) (t : Int) : Nat → Nat → List (Int × Int)
  | _, 0 => []
  | d, k + 1 => clip t d (dayL wk fr d) ++ fromL wk fr t (d + 1) k
def spansL (wk : Nat → List (Int × Int)) (fr : Nat → Bool) (t : Int) : List (Int × Int) := fromL wk fr t (t / 1440).toNat (70 - (t / 1440).toNat)
theorem clip_mem {t d : Int} {l : List (Int × Int)} {p : Int × Int} (h : p ∈ clip t d l) : ∃ q ∈ l, p.1 = max (d * 1440 + q.1) t ∧ p.2 = d * 1440 + q.2 ∧ p.1 < p.2 := by
  simp only [clip, List.mem_filter, List.mem_map, decide_eq_true_eq] at h
  obtain ⟨⟨q, hq, rfl⟩, h2⟩ := h
  exact ⟨q, hq, rfl, rfl, h2⟩
theorem clip_hit (wk : Nat → List (Int × Int)) (fr : Nat → Bool) (t m : Int) (d : Nat) (h0 : t ≤ m) (h1 : (d : Int) * 1440 ≤ m) (h2 : m < ((d : Int) + 1) * 1440) : hitL m (clip t d (dayL wk fr d)) = openL wk fr m := by
  have e : (m / 1440).toNat = d := by omega
  have e2 : (m / 1440 % 7).toNat = d % 7 := by omega
  have e3 : m % 1440 = m - (d : Int) * 1440 := by omega
  unfold openL
  rw [e, e2, e3]
  have hd : hitL m (clip t d (dayL wk fr d)) = hitL (m - (d : Int) * 1440) (dayL wk fr d) := by
    apply hit_eq
    constructor
    · rintro ⟨p, hp, g0, g1⟩
      obtain ⟨q, hq, e1, e2, e3⟩ := clip_mem hp
      exact ⟨q, hq, by omega, by omega⟩
    · rintro ⟨q, hq, g0, g1⟩
      refine ⟨(max ((d : Int) * 1440 + q.1) t, (d : Int) * 1440 + q.2), ?_, by simp only; omega, by simp only; omega⟩
      simp only [clip, List.mem_filter, List.mem_map, decide_eq_true_eq]
      exact ⟨⟨q, hq, rfl⟩, by omega⟩
  rw [hd]
  unfold dayL
  cases fr d <;> simp [hitL]
section
variable {wk : Nat → List (Int × Int)} {fr : Nat → Bool}
theorem day_apart (hA : ∀ j, j < 7 → Apart (wk j)) (d : Nat) : Apart (dayL wk fr d) := by
  unfold dayL; split
  · exact apart_nil
  · exact hA _ (by omega)
theorem clip_bd (hA : ∀ j, j < 7 → Apart (wk j)) {t : Int} {d : Nat} {p : Int × Int} (h : p ∈ clip t d (dayL wk fr d)) : t ≤ p.1 ∧ (d : Int) * 1440 ≤ p.1 ∧ p.1 < p.2 ∧ p.2 ≤ ((d : Int) + 1) * 1440 := by
  obtain ⟨q, hq, e1, e2, e3⟩ := clip_mem h
  have := (day_apart hA d).good q hq
  unfold Good at this
  omega
theorem clip_ord (hA : ∀ j, j < 7 → Apart (wk j)) (t : Int) (d : Nat) : (clip t d (dayL wk fr d)).Pairwise fun p q => p.2 ≤ q.1 := by
  unfold clip
  refine List.Pairwise.filter _ ?_
  rw [List.pairwise_map]
  refine (day_apart hA d).ord.imp ?_
  intro a b h
  simp only
  omega
theorem from_bd (hA : ∀ j, j < 7 → Apart (wk j)) (t : Int) (k d : Nat) : ∀ p ∈ fromL wk fr t d k, t ≤ p.1 ∧ (d : Int) * 1440 ≤ p.1 ∧ p.1 < p.2 ∧ p.2 ≤ ((d : Int) + k) * 1440 := by
  induction k generalizing d with
  | zero => intro p hp; cases hp
  | succ k ih =>
    intro p hp
    rcases List.mem_append.1 hp with a | a
    · have := clip_bd hA a; omega
    · have := ih (d + 1) p a; omega
theorem from_ord (hA : ∀ j, j < 7 → Apart (wk j)) (t : Int) (k d : Nat) : (fromL wk fr t d k).Pairwise fun p q => p.2 ≤ q.1 := by
  induction k generalizing d with
  | zero => exact .nil
  | succ k ih =>
    unfold fromL
    rw [List.pairwise_append]
    refine ⟨clip_ord hA t d, ih (d + 1), fun p hp q hq => ?_⟩
    have h1 := clip_bd hA hp
    have h2 := from_bd hA t k (d + 1) q hq
    omega
theorem from_hit (hA : ∀ j, j < 7 → Apart (wk j)) (t m : Int) (k d : Nat) (h0 : t ≤ m) (h1 : (d : Int) * 1440 ≤ m) (h2 : m < ((d : Int) + k) * 1440) : hitL m (fromL wk fr t d k) = openL wk fr m := by
  induction k generalizing d with
  | zero => omega
  | succ k ih =>
    unfold fromL
    rw [hit_append]
    by_cases hm : m < ((d : Int) + 1) * 1440
    · rw [clip_hit wk fr t m d h0 h1 hm]
      have : hitL m (fromL wk fr t (d + 1) k) = false := by
        rw [← Bool.not_eq_true, hit_iff]
        rintro ⟨p, hp, g1, g2⟩
        have := from_bd hA t k (d + 1) p hp
        omega
      rw [this, Bool.or_false]
    · have : hitL m (clip t d (dayL wk fr d)) = false := by
        rw [← Bool.not_eq_true, hit_iff]
        rintro ⟨p, hp, g1, g2⟩
        have := clip_bd hA hp
        omega
      rw [this, Bool.false_or, ih (d + 1) (by omega) (by omega)]
theorem spans_ord (hA : ∀ j, j < 7 → Apart (wk j)) (t : Int) : Ord t 100800 (spansL wk fr t) := by
  refine ⟨fun p hp => ?_, from_ord hA _ _ _⟩
  have := from_bd hA t _ _ p hp
  omega
theorem spans_hit (hA : ∀ j, j < 7 → Apart (wk j)) (t m : Int) (h0 : 0 ≤ t) (h1 : t ≤ m) (h2 : m < 100800) : hitL m (spansL wk fr t) = openL wk fr m :=
  from_hit hA t m _ _ h1 (by omega) (by omega)
end
theorem from_len (wk : Nat → List (Int × Int)) (fr : Nat → Bool) (t : Int) (n : Nat) (hn : ∀ j, j < 7 → (wk j).length ≤ n) (k d : Nat) : (fromL wk fr t d k).length ≤ k * n := by
  induction k generalizing d with
  | zero => simp [fromL]
  | succ k ih =>
    unfold fromL
    rw [List.length_append, Nat.add_mul]
    have h1 : (clip t d (dayL wk fr d)).length ≤ n := by
      refine Nat.le_trans (List.length_filter_le _ _) ?_
      rw [List.length_map]
      unfold dayL
      split
      · simp
      · exact hn _ (by omega)
    have := ih (d + 1)
    omega
end Go.Proofs.YtcnmbldikjljeaaGreatDoor
namespace Go.Proofs.YtcnmbldikjljeaaGreatDoor
open Go.RowKit

abbrev isDig (c : Int) : Prop := 48 ≤ c ∧ c ≤ 57
def markL (s : RS) (c mark next : Int) : Bool × RS := if c = mark then (true, { s with st := next }) else (false, s)
def isFirst (c : Int) : Bool := c == 77 || c == 84 || c == 87 || c == 70 || c == 83
def dayFirstL (s : RS) (c : Int) : Bool × RS := if isFirst c then (true, { s with letter := c, st := 1 }) else (false, s)
/-- the day of two letters; 7: none -/
def dayOf (a b : Int) : Nat :=
  if a = 77 ∧ b = 111 then 0 else if a = 84 ∧ b = 117 then 1 else if a = 87 ∧ b = 101 then 2 else if a = 84 ∧ b = 104 then 3
  else if a = 70 ∧ b = 114 then 4 else if a = 83 ∧ b = 97 then 5 else if a = 83 ∧ b = 117 then 6 else 7
def daySecondL (s : RS) (c : Int) : Bool × RS :=
  if dayOf s.letter c < 7 then (true, { s with days := fun j => if j = dayOf s.letter c then true else s.days j, st := 2 }) else (false, s)
def dayEndL (s : RS) (c : Int) : Bool × RS := if c = 44 then (true, { s with st := 0 }) else markL s c 32 3
def timeDigitL (s : RS) (c most minutes next : Int) : Bool × RS :=
  if isDig c ∧ c - 48 ≤ most ∧ s.time + (c - 48) * minutes ≤ 1440 then (true, { s with time := s.time + (c - 48) * minutes, st := next }) else (false, s)
def addW (s : RS) (p : Int × Int) : Nat → List (Int × Int) := fun j => if s.days j then s.week j ++ [p] else s.week j
def endTimeL (s : RS) : Bool × RS :=
  if s.beg = -1 then (true, { s with time := 0, beg := s.time, st := 8 })
  else if s.time ≤ s.beg then (false, { s with time := 0 })
  else (true, { s with time := 0, week := addW s (s.beg, s.time), beg := -1 })
def spanEndL (s : RS) (c : Int) : Bool × RS :=
  if c = 59 then (true, { s with st := 0, days := fun _ => false }) else if c = 32 then (true, { s with st := 3 }) else markL s c 33 10
def numFirstL (s : RS) (c : Int) : Bool × RS := if isDig c then (true, { s with num := c - 48, st := 11 }) else (false, s)
def endNumL (s : RS) : Bool × RS :=
  if 70 ≤ s.num ∨ s.num ≤ s.ahead then (false, s) else (true, { s with free := fun j => if j = s.num.toNat then true else s.free j, ahead := s.num, st := 12 })
def endShortL (s : RS) : Bool × RS := if (endNumL s).1 then endNumL s else (false, { s with place := s.place - 1 })
def numSecondL (s : RS) (c : Int) : Bool × RS :=
  if isDig c then (if s.num = 0 then (false, s) else endNumL { s with num := s.num * 10 + (c - 48) })
  else if (endShortL s).1 then markL (endShortL s).2 c 44 10 else endShortL s
def minOnesL (s : RS) (c : Int) : Bool × RS := if (timeDigitL s c 9 1 9).1 then endTimeL (timeDigitL s c 9 1 9).2 else timeDigitL s c 9 1 9
def takeL (s : RS) (c : Int) : Bool × RS :=
  if s.st = 0 then dayFirstL s c else if s.st = 1 then daySecondL s c else if s.st = 2 then dayEndL s c
  else if s.st = 3 then timeDigitL s c 9 600 4 else if s.st = 4 then timeDigitL s c 9 60 5 else if s.st = 5 then markL s c 58 6
  else if s.st = 6 then timeDigitL s c 5 10 7 else if s.st = 7 then minOnesL s c else if s.st = 8 then markL s c 45 3
  else if s.st = 9 then spanEndL s c else if s.st = 10 then numFirstL s c else if s.st = 11 then numSecondL s c else markL s c 44 10
def finishL (s : RS) : Bool × RS := if s.st = 11 then endShortL s else (s.st == 9 || s.st == 12, s)
def loopL : List Int → RS → Bool × RS
  | [], s => finishL s
  | c :: cs, s => if (takeL s c).1 then loopL cs { (takeL s c).2 with place := (takeL s c).2.place + 1 } else takeL s c
def rs0 : RS := { st := 0, place := 0, letter := 0, days := fun _ => false, beg := -1, time := 0, num := 0, ahead := -1, week := fun _ => [], free := fun _ => false }

/-- bounds that the walks lean on -/
structure Inv (n : Nat) (s : RS) : Prop where
  t0 : 0 ≤ s.time
  t1 : s.time ≤ 1440
  b0 : -1 ≤ s.beg
  b1 : s.beg ≤ 1440
  n0 : 0 ≤ s.num
  n1 : s.num ≤ 99
  n2 : s.st = 11 → s.num ≤ 9
  a0 : -1 ≤ s.ahead
  a1 : s.ahead ≤ 99
  st0 : 0 ≤ s.st
  st1 : s.st ≤ 12
  wk : ∀ j, (s.week j).length ≤ n
  sp : ∀ j, ∀ p ∈ s.week j, Good p
theorem inv0 : Inv 0 rs0 := by constructor <;> simp [rs0]
theorem Inv.mono {n m : Nat} {s : RS} (h : Inv n s) (hm : n ≤ m) : Inv m s := { h with wk := fun j => Nat.le_trans (h.wk j) hm }
theorem addW_le (s : RS) (p : Int × Int) (n : Nat) (h : ∀ j, (s.week j).length ≤ n) (j : Nat) : (addW s p j).length ≤ n + 1 := by
  unfold addW; have := h j; split <;> simp <;> omega
theorem addW_good (s : RS) (p : Int × Int) (h : ∀ j, ∀ q ∈ s.week j, Good q) (hp : Good p) (j : Nat) : ∀ q ∈ addW s p j, Good q := by
  unfold addW
  split
  · intro q hq
    rcases List.mem_append.1 hq with a | a
    · exact h j q a
    · rw [List.mem_singleton] at a; subst a; exact hp
  · exact h j
theorem inv_mark {n : Nat} {s : RS} (h : Inv n s) (c mark next : Int) (h0 : 0 ≤ next) (h1 : next ≤ 10) : Inv n (markL s c mark next).2 := by
  unfold markL
  split
  · exact { h with n2 := fun e => by simp at e; omega, st0 := h0, st1 := by simp; omega }
  · exact h
theorem inv_timeDigit {n : Nat} {s : RS} (h : Inv n s) (c most minutes next : Int) (hm : 0 ≤ minutes) (h0 : 0 ≤ next) (h1 : next ≤ 10) : Inv n (timeDigitL s c most minutes next).2 := by
  unfold timeDigitL
  split
  · rename_i g
    have := h.t0
    have hp : 0 ≤ (c - 48) * minutes := Int.mul_nonneg (by omega) hm
    exact { h with t0 := by simp; omega, t1 := by simp; omega, n2 := fun e => by simp at e; omega, st0 := h0, st1 := by simp; omega }
  · exact h
theorem inv_endTime {n : Nat} {s : RS} (h : Inv n s) (_hs : s.st ≠ 11) : Inv (n + 1) (endTimeL s).2 := by
  have := h.t0
  have := h.t1
  unfold endTimeL
  split
  · exact { (h.mono (Nat.le_succ n)) with t0 := by simp, t1 := by simp, b0 := by simp; omega, b1 := by simp; omega, n2 := fun e => by simp at e, st0 := by simp, st1 := by simp }
  · split
    · exact { (h.mono (Nat.le_succ n)) with t0 := by simp, t1 := by simp }
    · exact { (h.mono (Nat.le_succ n)) with t0 := by simp, t1 := by simp, b0 := by simp, b1 := by simp, wk := addW_le s _ n h.wk, sp := addW_good s _ h.sp (by have := h.b0; unfold Good; simp only; omega) }
theorem inv_endNum {n : Nat} {s : RS} (h : Inv n s) : Inv n (endNumL s).2 := by
  have := h.n0
  have := h.n1
  unfold endNumL
  split
  · exact h
  · exact { h with a0 := by simp; omega, a1 := by simp; omega, n2 := fun e => by simp at e, st0 := by simp, st1 := by simp }
theorem inv_place {n : Nat} {s : RS} (h : Inv n s) (x : Int) : Inv n { s with place := x } := { h with }
theorem inv_endShort {n : Nat} {s : RS} (h : Inv n s) : Inv n (endShortL s).2 := by
  unfold endShortL
  split
  · exact inv_endNum h
  · exact inv_place h _
theorem inv_finish {n : Nat} {s : RS} (h : Inv n s) : Inv n (finishL s).2 := by
  unfold finishL
  split
  · exact inv_endShort h
  · exact h
theorem take_st0 {s : RS} (c : Int) (h : s.st = 0) : takeL s c = dayFirstL s c := by simp [takeL, h]
theorem take_st1 {s : RS} (c : Int) (h : s.st = 1) : takeL s c = daySecondL s c := by simp [takeL, h]
theorem take_st2 {s : RS} (c : Int) (h : s.st = 2) : takeL s c = dayEndL s c := by simp [takeL, h]
theorem take_st3 {s : RS} (c : Int) (h : s.st = 3) : takeL s c = timeDigitL s c 9 600 4 := by simp [takeL, h]
theorem take_st4 {s : RS} (c : Int) (h : s.st = 4) : takeL s c = timeDigitL s c 9 60 5 := by simp [takeL, h]
theorem take_st5 {s : RS} (c : Int) (h : s.st = 5) : takeL s c = markL s c 58 6 := by simp [takeL, h]
theorem take_st6 {s : RS} (c : Int) (h : s.st = 6) : takeL s c = timeDigitL s c 5 10 7 := by simp [takeL, h]
theorem take_st7 {s : RS} (c : Int) (h : s.st = 7) : takeL s c = minOnesL s c := by simp [takeL, h]
theorem take_st8 {s : RS} (c : Int) (h : s.st = 8) : takeL s c = markL s c 45 3 := by simp [takeL, h]
theorem take_st9 {s : RS} (c : Int) (h : s.st = 9) : takeL s c = spanEndL s c := by simp [takeL, h]
theorem take_st10 {s : RS} (c : Int) (h : s.st = 10) : takeL s c = numFirstL s c := by simp [takeL, h]
theorem take_st11 {s : RS} (c : Int) (h : s.st = 11) : takeL s c = numSecondL s c := by simp [takeL, h]
theorem take_st12 {s : RS} (c : Int) (h : s.st = 12) : takeL s c = markL s c 44 10 := by simp [takeL, h]
theorem inv_take {n : Nat} {s : RS} (h : Inv n s) (c : Int) (ok : (takeL s c).1 = true) : Inv (n + 1) (takeL s c).2 := by
  have h1 := h.mono (Nat.le_succ n)
  have hs : s.st = 0 ∨ s.st = 1 ∨ s.st = 2 ∨ s.st = 3 ∨ s.st = 4 ∨ s.st = 5 ∨ s.st = 6 ∨ s.st = 7 ∨ s.st = 8 ∨ s.st = 9 ∨ s.st = 10 ∨ s.st = 11 ∨ s.st = 12 := by
    have := h.st0; have := h.st1; omega
  rcases hs with e | e | e | e | e | e | e | e | e | e | e | e | e
  · rw [take_st0 c e] at ok ⊢
    unfold dayFirstL; split
    · exact { h1 with n2 := fun e => by simp at e, st0 := by simp, st1 := by simp }
    · exact h1
  · rw [take_st1 c e] at ok ⊢
    unfold daySecondL; split
    · exact { h1 with n2 := fun e => by simp at e, st0 := by simp, st1 := by simp }
    · exact h1
  · rw [take_st2 c e] at ok ⊢
    unfold dayEndL; split
    · exact { h1 with n2 := fun e => by simp at e, st0 := by simp, st1 := by simp }
    · exact inv_mark h1 _ _ _ (by omega) (by omega)
  · rw [take_st3 c e]; exact inv_timeDigit h1 _ _ _ _ (by omega) (by omega) (by omega)
  · rw [take_st4 c e]; exact inv_timeDigit h1 _ _ _ _ (by omega) (by omega) (by omega)
  · rw [take_st5 c e]; exact inv_mark h1 _ _ _ (by omega) (by omega)
  · rw [take_st6 c e]; exact inv_timeDigit h1 _ _ _ _ (by omega) (by omega) (by omega)
  · rw [take_st7 c e]
    unfold minOnesL
    have ht := inv_timeDigit h c 9 1 9 (by omega) (by omega) (by omega)
    split
    · rename_i g
      refine inv_endTime ht ?_
      unfold timeDigitL at g ⊢
      split
      · simp
      · simp [e]
    · exact ht.mono (Nat.le_succ n)
  · rw [take_st8 c e]; exact inv_mark h1 _ _ _ (by omega) (by omega)
  · rw [take_st9 c e]
    unfold spanEndL; split
    · exact { h1 with n2 := fun e => by simp at e, st0 := by simp, st1 := by simp }
    · split
      · exact { h1 with n2 := fun e => by simp at e, st0 := by simp, st1 := by simp }
      · exact inv_mark h1 _ _ _ (by omega) (by omega)
  · rw [take_st10 c e]
    unfold numFirstL; split
    · exact { h1 with n0 := by simp; omega, n1 := by simp; omega, n2 := fun _ => by simp; omega, st0 := by simp, st1 := by simp }
    · exact h1
  · rw [take_st11 c e] at ok ⊢
    have g9 := h.n2 e
    have g0 := h.n0
    unfold numSecondL at ok ⊢
    split
    · rename_i hd
      rw [if_pos hd] at ok
      split
      · exact h1
      · rename_i hz
        rw [if_neg hz] at ok
        unfold endNumL at ok ⊢
        split
        · rename_i hb; simp only [if_pos hb] at ok; simp at ok
        · exact { h1 with n0 := by simp; omega, n1 := by simp; omega, n2 := fun e => by simp at e, a0 := by simp; omega, a1 := by simp; omega, st0 := by simp, st1 := by simp }
    · split
      · exact inv_mark (inv_endShort h1) _ _ _ (by omega) (by omega)
      · exact inv_endShort h1
  · rw [take_st12 c e]; exact inv_mark h1 _ _ _ (by omega) (by omega)
end Go.Proofs.YtcnmbldikjljeaaGreatDoor
