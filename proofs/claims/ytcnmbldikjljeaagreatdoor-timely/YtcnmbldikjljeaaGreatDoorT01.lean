import Derived.Sort.Statements
namespace Go.Proofs.YtcnmbldikjljeaaGreatDoor

def hitL (m : Int) (l : List (Int × Int)) : Bool := l.any fun p => decide (p.1 ≤ m) && decide (m < p.2)
def openL (wk : Nat → List (Int × Int)) (fr : Nat → Bool) (t : Int) : Bool := !fr (t / 1440).toNat && hitL (t % 1440) (wk (t / 1440 % 7).toNat)
theorem hit_iff (m : Int) (l : List (Int × Int)) : hitL m l = true ↔ ∃ p ∈ l, p.1 ≤ m ∧ m < p.2 := by simp [hitL]
theorem hit_eq {m m' : Int} {l l' : List (Int × Int)} (h : (∃ p ∈ l, p.1 ≤ m ∧ m < p.2) ↔ ∃ p ∈ l', p.1 ≤ m' ∧ m' < p.2) : hitL m l = hitL m' l' := by
  rw [Bool.eq_iff_iff, hit_iff, hit_iff]; exact h
/-- a span of a day -/
def Good (p : Int × Int) : Prop := 0 ≤ p.1 ∧ p.1 < p.2 ∧ p.2 ≤ 1440
/-- spans of a day, in their order and apart from one another -/
structure Apart (l : List (Int × Int)) : Prop where
  ord : l.Pairwise fun p q => p.2 < q.1
  good : ∀ p ∈ l, Good p
/-- the joined spans A of what has come, and what is to come -/
structure JI (A pre rest : List (Int × Int)) : Prop where
  ap : Apart A
  hit : ∀ m, hitL m A = hitL m pre
  le : ∀ p ∈ A, ∀ q ∈ rest, p.1 ≤ q.1
  len : A.length ≤ pre.length
theorem apart_nil : Apart [] := ⟨.nil, fun p h => by cases h⟩
theorem JI.nil (l : List (Int × Int)) : JI [] [] l := ⟨apart_nil, fun _ => rfl, fun p h => (by cases h), Nat.le_refl _⟩
theorem hit_append (m : Int) (a b : List (Int × Int)) : hitL m (a ++ b) = (hitL m a || hitL m b) := by simp [hitL]
theorem JI.app {A pre rest : List (Int × Int)} {s : Int × Int} (h : JI A pre (s :: rest)) (hs : Good s) (hr : ∀ q ∈ rest, s.1 ≤ q.1) (hl : ∀ p ∈ A, p.2 < s.1) : JI (A ++ [s]) (pre ++ [s]) rest := by
  refine ⟨⟨?_, ?_⟩, ?_, ?_, ?_⟩
  · rw [List.pairwise_append]
    refine ⟨h.ap.ord, List.pairwise_singleton _ _, fun p hp q hq => ?_⟩
    rw [List.mem_singleton] at hq; subst hq; exact hl p hp
  · intro p hp
    rcases List.mem_append.1 hp with a | a
    · exact h.ap.good p a
    · rw [List.mem_singleton] at a; subst a; exact hs
  · intro m; rw [hit_append, hit_append, h.hit]
  · intro p hp q hq
    rcases List.mem_append.1 hp with a | a
    · exact h.le p a q (List.mem_cons_of_mem _ hq)
    · rw [List.mem_singleton] at a; subst a; exact hr q hq
  · have := h.len; simp; omega
theorem JI.fuse {B pre rest : List (Int × Int)} {l s : Int × Int} (h : JI (B ++ [l]) pre (s :: rest)) (hs : Good s) (hf : s.1 ≤ l.2) : JI (B ++ [(l.1, max l.2 s.2)]) (pre ++ [s]) rest := by
  have ho := h.ap.ord
  rw [List.pairwise_append] at ho
  have hg : Good l := h.ap.good l (by simp)
  have hle : l.1 ≤ s.1 := h.le l (by simp) s (by simp)
  unfold Good at hg hs
  refine ⟨⟨?_, ?_⟩, ?_, ?_, ?_⟩
  · rw [List.pairwise_append]
    refine ⟨ho.1, List.pairwise_singleton _ _, fun p hp q hq => ?_⟩
    rw [List.mem_singleton] at hq; subst hq
    exact ho.2.2 p hp l (by simp)
  · intro p hp
    rcases List.mem_append.1 hp with a | a
    · exact h.ap.good p (by simp [a])
    · rw [List.mem_singleton] at a; subst a; unfold Good; simp only; omega
  · intro m
    have e := h.hit m
    rw [hit_append] at e ⊢
    rw [hit_append, ← e]
    cases hitL m B
    · simp only [Bool.false_or]
      rw [← hit_append m [l] [s]]
      apply hit_eq
      simp only [exists_eq_left, List.cons_append, List.nil_append, List.mem_cons, List.not_mem_nil, or_false, exists_eq_or_imp]
      omega
    · simp
  · intro p hp q hq
    rcases List.mem_append.1 hp with a | a
    · exact h.le p (by simp [a]) q (List.mem_cons_of_mem _ hq)
    · rw [List.mem_singleton] at a; subst a; exact h.le l (by simp) q (List.mem_cons_of_mem _ hq)
  · have := h.len; simp at this ⊢; omega
theorem JI.last {B pre rest : List (Int × Int)} {l s : Int × Int} (h : JI (B ++ [l]) pre (s :: rest)) (hf : l.2 < s.1) : ∀ p ∈ B ++ [l], p.2 < s.1 := by
  have ho := h.ap.ord
  rw [List.pairwise_append] at ho
  have hg : Good l := h.ap.good l (by simp)
  unfold Good at hg
  intro p hp
  rcases List.mem_append.1 hp with a | a
  · have := ho.2.2 p a l (by simp); omega
  · rw [List.mem_singleton] at a; subst a; exact hf
/-- what Parse makes of the spans that the text names -/
def JoinOf (raw wk : List (Int × Int)) : Prop := Apart wk ∧ (∀ m, hitL m wk = hitL m raw) ∧ wk.length ≤ raw.length
theorem hit_perm {l l' : List (Int × Int)} (h : l'.Perm l) (m : Int) : hitL m l' = hitL m l := by
  apply hit_eq
  constructor
  · rintro ⟨p, a, b⟩; exact ⟨p, h.mem_iff.1 a, b⟩
  · rintro ⟨p, a, b⟩; exact ⟨p, h.mem_iff.2 a, b⟩
theorem JI.done {A pre raw : List (Int × Int)} (h : JI A pre []) (hp : pre.Perm raw) : JoinOf raw A :=
  ⟨h.ap, fun m => by rw [h.hit, hit_perm hp], by rw [← hp.length_eq]; exact h.len⟩
theorem joinOf_nil : JoinOf [] [] := ⟨apart_nil, fun _ => rfl, Nat.le_refl _⟩
theorem open_join {raw wk : Nat → List (Int × Int)} (h : ∀ j, j < 7 → JoinOf (raw j) (wk j)) (fr : Nat → Bool) (t : Int) (_h0 : 0 ≤ t) : openL wk fr t = openL raw fr t := by
  unfold openL
  rw [(h (t / 1440 % 7).toNat (by omega)).2.1]

/-! the count -/
def cnt (F : Nat → Bool) : Nat → Int
  | 0 => 0
  | k + 1 => cnt F k + if F k then 1 else 0
theorem cnt_bd (F : Nat → Bool) (k : Nat) : 0 ≤ cnt F k ∧ cnt F k ≤ k := by
  induction k with
  | zero => simp [cnt]
  | succ k ih => simp only [cnt]; split <;> omega
theorem cnt_same (F : Nat → Bool) (a d : Nat) (x : Bool) (h : ∀ m, a ≤ m → m < a + d → F m = x) : cnt F (a + d) = cnt F a + if x then (d : Int) else 0 := by
  induction d with
  | zero => simp
  | succ d ih =>
    rw [← Nat.add_assoc]
    simp only [cnt]
    rw [ih (fun m h0 h1 => h m h0 (by omega)), h (a + d) (by omega) (by omega)]
    cases x <;> simp <;> omega
theorem cnt_run (F : Nat → Bool) (a b : Int) (x : Bool) (h0 : 0 ≤ a) (h1 : a ≤ b) (h : ∀ m : Int, a ≤ m → m < b → F m.toNat = x) : cnt F b.toNat - cnt F a.toNat = if x then b - a else 0 := by
  have e : b.toNat = a.toNat + (b - a).toNat := by omega
  rw [e, cnt_same F a.toNat (b - a).toNat x (fun m g0 g1 => by have := h m (by omega) (by omega); simpa using this)]
  cases x <;> simp <;> omega
/-- spans from a time on, in their order -/
structure Ord (a M : Int) (X : List (Int × Int)) : Prop where
  mem : ∀ p ∈ X, a ≤ p.1 ∧ p.1 < p.2 ∧ p.2 ≤ M
  ord : X.Pairwise fun p q => p.2 ≤ q.1
def part (b : Int) (p : Int × Int) : Int := if p.1 < b then min p.2 b - p.1 else 0
def sumB (b : Int) (X : List (Int × Int)) : Int := (X.map (part b)).sum
theorem sumB_cons (b : Int) (p : Int × Int) (X : List (Int × Int)) : sumB b (p :: X) = part b p + sumB b X := by simp [sumB]
theorem sumB_append (b : Int) (X Y : List (Int × Int)) : sumB b (X ++ Y) = sumB b X + sumB b Y := by simp [sumB]
theorem sumB_late (b : Int) (X : List (Int × Int)) (h : ∀ p ∈ X, b ≤ p.1) : sumB b X = 0 := by
  induction X with
  | nil => rfl
  | cons p X ih =>
    rw [sumB_cons, ih (fun q hq => h q (List.mem_cons_of_mem _ hq))]
    have := h p (by simp)
    unfold part; rw [if_neg (by omega)]; rfl
theorem Ord.tail {a M : Int} {p : Int × Int} {X : List (Int × Int)} (h : Ord a M (p :: X)) : Ord p.2 M X := by
  have ho := List.pairwise_cons.1 h.ord
  refine ⟨fun q hq => ⟨ho.1 q hq, (h.mem q (List.mem_cons_of_mem _ hq)).2⟩, ho.2⟩
theorem hit_before {a M m : Int} {X : List (Int × Int)} (h : Ord a M X) (hm : m < a) : hitL m X = false := by
  rw [← Bool.not_eq_true, hit_iff]
  rintro ⟨p, hp, h1, h2⟩
  have := (h.mem p hp).1
  omega
theorem hit_cons (m : Int) (p : Int × Int) (X : List (Int × Int)) : hitL m (p :: X) = (decide (p.1 ≤ m ∧ m < p.2) || hitL m X) := by simp [hitL]
theorem sum_cnt (F : Nat → Bool) (M : Int) (X : List (Int × Int)) (a : Int) (ha : 0 ≤ a) (h : Ord a M X) (hF : ∀ m : Int, a ≤ m → m < M → F m.toNat = hitL m X) (b : Int) (h1 : a ≤ b) (h2 : b ≤ M) : sumB b X = cnt F b.toNat - cnt F a.toNat := by
  induction X generalizing a with
  | nil =>
    rw [cnt_run F a b false ha h1 (fun m g0 g1 => by rw [hF m g0 (by omega)]; rfl)]
    rfl
  | cons p X ih =>
    obtain ⟨m0, m1, m2⟩ := h.mem p (by simp)
    have ht := h.tail
    have hlate : ∀ m, m < p.2 → hitL m X = false := fun m hm => hit_before ht hm
    have e0 : ∀ c : Int, a ≤ c → c ≤ p.1 → c ≤ M → cnt F c.toNat - cnt F a.toNat = 0 := fun c c0 c1 c2 => by
      rw [cnt_run F a c false ha c0 (fun m g0 g1 => by rw [hF m g0 (by omega), hit_cons, hlate m (by omega)]; simp; omega)]
      rfl
    have e1 : ∀ c : Int, p.1 ≤ c → c ≤ p.2 → cnt F c.toNat - cnt F p.1.toNat = c - p.1 := fun c c0 c1 => by
      rw [cnt_run F p.1 c true (by omega) c0 (fun m g0 g1 => by rw [hF m (by omega) (by omega), hit_cons]; simp; omega)]
      rfl
    rw [sumB_cons]
    by_cases hb : b ≤ p.1
    · rw [sumB_late b X (fun q hq => by have := (ht.mem q hq).1; omega), e0 b h1 hb h2]
      unfold part; rw [if_neg (by omega)]; rfl
    · have f0 := e0 p.1 m0 (Int.le_refl _) (by omega)
      by_cases hb2 : b ≤ p.2
      · have f1 := e1 b (by omega) hb2
        rw [sumB_late b X (fun q hq => by have := (ht.mem q hq).1; omega)]
        unfold part; rw [if_pos (by omega)]; omega
      · have f1 := e1 p.2 (by omega) (Int.le_refl _)
        have f2 := ih p.2 (by omega) ht (fun m g0 g1 => by rw [hF m (by omega) g1, hit_cons]; simp; omega) (by omega)
        rw [f2]
        unfold part; rw [if_pos (by omega)]; omega
/-- what Add comes to -/
def AddN (F : Nat → Bool) (t n x : Int) : Prop := t ≤ x ∧ x ≤ 100800 ∧ cnt F x.toNat - cnt F t.toNat = n ∧ ∀ y : Int, t ≤ y → y < x → cnt F y.toNat - cnt F t.toNat ≠ n
def Never (F : Nat → Bool) (t n : Int) : Prop := ∀ y : Int, t ≤ y → y ≤ 100800 → cnt F y.toNat - cnt F t.toNat ≠ n
def lens (X : List (Int × Int)) : Int := (X.map fun p => p.2 - p.1).sum
theorem lens_cons (p : Int × Int) (X : List (Int × Int)) : lens (p :: X) = p.2 - p.1 + lens X := by simp [lens]
theorem lens_append (X Y : List (Int × Int)) : lens (X ++ Y) = lens X + lens Y := by simp [lens]
theorem sumB_le {X : List (Int × Int)} (h : ∀ p ∈ X, p.1 < p.2) (b : Int) : sumB b X ≤ lens X := by
  induction X with
  | nil => simp [sumB, lens]
  | cons p X ih =>
    rw [sumB_cons, lens_cons]
    have := ih (fun q hq => h q (List.mem_cons_of_mem _ hq))
    have := h p (by simp)
    unfold part; split <;> omega
theorem sumB_full {X : List (Int × Int)} {b : Int} (h : ∀ p ∈ X, p.1 < p.2 ∧ p.2 ≤ b) : sumB b X = lens X := by
  induction X with
  | nil => simp [sumB, lens]
  | cons p X ih =>
    rw [sumB_cons, lens_cons, ih (fun q hq => h q (List.mem_cons_of_mem _ hq))]
    have := h p (by simp)
    unfold part; rw [if_pos (by omega)]; omega
theorem add_found {F : Nat → Bool} {X pre rest : List (Int × Int)} {p : Int × Int} {t n : Int} (ht : 0 ≤ t) (h : Ord t 100800 X) (hF : ∀ m : Int, t ≤ m → m < 100800 → F m.toNat = hitL m X) (hX : X = pre ++ p :: rest) (h1 : 0 < n - lens pre) (h2 : n - lens pre ≤ p.2 - p.1) : AddN F t n (p.1 + (n - lens pre)) := by
  obtain ⟨m0, m1, m2⟩ := h.mem p (by simp [hX])
  have ho := h.ord
  rw [hX, List.pairwise_append, List.pairwise_cons] at ho
  have hpre : ∀ q ∈ pre, q.1 < q.2 ∧ q.2 ≤ p.1 := fun q hq => ⟨(h.mem q (by simp [hX, hq])).2.1, ho.2.2 q hq p (by simp)⟩
  refine ⟨by omega, by omega, ?_, fun y y0 y1 => ?_⟩
  · rw [← sum_cnt F 100800 X t ht h hF _ (by omega) (by omega), hX, sumB_append, sumB_cons, sumB_full (fun q hq => ⟨(hpre q hq).1, by have := (hpre q hq).2; omega⟩), sumB_late _ rest (fun q hq => by have := ho.2.1.1 q hq; omega)]
    unfold part; rw [if_pos (by omega)]; omega
  · rw [← sum_cnt F 100800 X t ht h hF _ y0 (by omega), hX, sumB_append, sumB_cons, sumB_late _ rest (fun q hq => by have := ho.2.1.1 q hq; omega)]
    have := sumB_le (fun q hq => (hpre q hq).1) y
    unfold part; split <;> omega
theorem add_never {F : Nat → Bool} {X : List (Int × Int)} {t n : Int} (ht : 0 ≤ t) (h : Ord t 100800 X) (hF : ∀ m : Int, t ≤ m → m < 100800 → F m.toNat = hitL m X) (h1 : 0 < n - lens X) : Never F t n := by
  intro y y0 y1
  rw [← sum_cnt F 100800 X t ht h hF _ y0 y1]
  have := sumB_le (fun q hq => (h.mem q hq).2.1) y
  omega
/-- a stop at a span that begins too late -/
theorem sum_stop {F : Nat → Bool} {X pre rest : List (Int × Int)} {p : Int × Int} {t b : Int} (ht : 0 ≤ t) (h : Ord t 100800 X) (hF : ∀ m : Int, t ≤ m → m < 100800 → F m.toNat = hitL m X) (hX : X = pre ++ p :: rest) (h1 : b ≤ p.1) (hb0 : t ≤ b) (hb : b ≤ 100800) : sumB b pre = cnt F b.toNat - cnt F t.toNat := by
  obtain ⟨m0, m1, m2⟩ := h.mem p (by simp [hX])
  have ho := h.ord
  rw [hX, List.pairwise_append, List.pairwise_cons] at ho
  rw [← sum_cnt F 100800 X t ht h hF b hb0 hb, hX, sumB_append, sumB_late b (p :: rest) (fun q hq => ?_)]
  · omega
  · rcases List.mem_cons.1 hq with rfl | hq
    · exact h1
    · have := ho.2.1.1 q hq; omega

/-! the spans of a calendar from a time on -/
def clip (t d : Int) (l : List (Int × Int)) : List (Int × Int) := (l.map fun p => (max (d * 1440 + p.1) t, d * 1440 + p.2)).filter fun p => decide (p.1 < p.2)
def dayL (wk : Nat → List (Int × Int)) (fr : Nat → Bool) (d : Nat) : List (Int × Int) := if fr d then [] else wk (d % 7)
def fromL (wk : Nat → List (Int × Int)) (fr : Nat → Bool) (t : Int) : Nat → Nat → List (Int × Int)
  | _, 0 => []
  | d, k + 1 => clip t d (dayL wk fr d) ++ fromL wk fr t (d + 1) k
def spansL (wk : Nat → List (Int × Int)) (fr : Nat → Bool) (t : Int) : List (Int × Int) := fromL wk fr t (t / 1440).toNat (70 - (t / 1440).toNat)
theorem clip_mem {t d : Int} {l : List (Int × Int)} {p : Int × Int} (h : p ∈ clip t d l) : ∃ q ∈ l, p.1 = max (d * 1440 + q.1) t ∧ p.2 = d * 1440 + q.2 ∧ p.1 < p.2 := by
  simp only [clip, List.mem_filter, List.mem_map, decide_eq_true_eq] at h
  obtain ⟨⟨q, hq, rfl⟩, h2⟩ := h
  exact ⟨q, hq, rfl, rfl, h2⟩
theorem clip_hit (wk : Nat → List (Int × Int)) (fr : Nat → Bool) (t m : Int) (d : Nat) (h0 : t ≤ m) (h1 : (d : Int) * 1440 ≤ m) (h2 : m < ((d : Int) + 1) * 1440) : hitL m (clip t d (dayL wk fr d)) = openL wk fr m := by
  have e : (m / 1440).toNat = d := by omega
  have e2 : (m / 1440 % 7).toNat = d % 7 := by omega
  have e3 : m % 1440 = m - (d : Int) * 1440 := by omega
  unfold openL
  rw [e, e2, e3]
  have hd : hitL m (clip t d (dayL wk fr d)) = hitL (m - (d : Int) * 1440) (dayL wk fr d) := by
    apply hit_eq
    constructor
    · rintro ⟨p, hp, g0, g1⟩
      obtain ⟨q, hq, e1, e2, e3⟩ := clip_mem hp
      exact ⟨q, hq, by omega, by omega⟩
    · rintro ⟨q, hq, g0, g1⟩
      refine ⟨(max ((d : Int) * 1440 + q.1) t, (d : Int) * 1440 + q.2), ?_, by simp only; omega, by simp only; omega⟩
      simp only [clip, List.mem_filter, List.mem_map, decide_eq_true_eq]
      exact ⟨⟨q, hq, rfl⟩, by omega⟩
  rw [hd]
  unfold dayL
  cases fr d <;> simp [hitL]
section
variable {wk : Nat → List (Int × Int)} {fr : Nat → Bool} (hA : ∀ j, j < 7 → Apart (wk j))
include hA
theorem day_apart (d : Nat) : Apart (dayL wk fr d) := by
  unfold dayL; split
  · exact apart_nil
  · exact hA _ (by omega)
theorem clip_bd {t : Int} {d : Nat} {p : Int × Int} (h : p ∈ clip t d (dayL wk fr d)) : t ≤ p.1 ∧ (d : Int) * 1440 ≤ p.1 ∧ p.1 < p.2 ∧ p.2 ≤ ((d : Int) + 1) * 1440 := by
  obtain ⟨q, hq, e1, e2, e3⟩ := clip_mem h
  have := (day_apart hA d).good q hq
  unfold Good at this
  omega
theorem clip_ord (t : Int) (d : Nat) : (clip t d (dayL wk fr d)).Pairwise fun p q => p.2 ≤ q.1 := by
  unfold clip
  refine List.Pairwise.filter _ ?_
  rw [List.pairwise_map]
  refine (day_apart hA d).ord.imp ?_
  intro a b h
  simp only
  omega
theorem from_bd (t : Int) (k d : Nat) : ∀ p ∈ fromL wk fr t d k, t ≤ p.1 ∧ (d : Int) * 1440 ≤ p.1 ∧ p.1 < p.2 ∧ p.2 ≤ ((d : Int) + k) * 1440 := by
  induction k generalizing d with
  | zero => intro p hp; cases hp
  | succ k ih =>
    intro p hp
    rcases List.mem_append.1 hp with a | a
    · have := clip_bd hA a; omega
    · have := ih (d + 1) p a; omega
theorem from_ord (t : Int) (k d : Nat) : (fromL wk fr t d k).Pairwise fun p q => p.2 ≤ q.1 := by
  induction k generalizing d with
  | zero => exact .nil
  | succ k ih =>
    unfold fromL
    rw [List.pairwise_append]
    refine ⟨clip_ord hA t d, ih (d + 1), fun p hp q hq => ?_⟩
    have h1 := clip_bd hA hp
    have h2 := from_bd hA t k (d + 1) q hq
    omega
theorem from_hit (t m : Int) (k d : Nat) (h0 : t ≤ m) (h1 : (d : Int) * 1440 ≤ m) (h2 : m < ((d : Int) + k) * 1440) : hitL m (fromL wk fr t d k) = openL wk fr m := by
  induction k generalizing d with
  | zero => omega
  | succ k ih =>
    unfold fromL
    rw [hit_append]
    by_cases hm : m < ((d : Int) + 1) * 1440
    · rw [clip_hit wk fr t m d h0 h1 hm]
      have : hitL m (fromL wk fr t (d + 1) k) = false := by
        rw [← Bool.not_eq_true, hit_iff]
        rintro ⟨p, hp, g1, g2⟩
        have := from_bd hA t k (d + 1) p hp
        omega
      rw [this, Bool.or_false]
    · have : hitL m (clip t d (dayL wk fr d)) = false := by
        rw [← Bool.not_eq_true, hit_iff]
        rintro ⟨p, hp, g1, g2⟩
        have := clip_bd hA hp
        omega
      rw [this, Bool.false_or, ih (d + 1) (by omega) (by omega)]
theorem spans_ord (t : Int) : Ord t 100800 (spansL wk fr t) := by
  refine ⟨fun p hp => ?_, from_ord hA _ _ _⟩
  have := from_bd hA t _ _ p hp
  omega
theorem spans_hit (t m : Int) (h0 : 0 ≤ t) (h1 : t ≤ m) (h2 : m < 100800) : hitL m (spansL wk fr t) = openL wk fr m :=
  from_hit hA t m _ _ h1 (by omega) (by omega)
end
theorem from_len (wk : Nat → List (Int × Int)) (fr : Nat → Bool) (t : Int) (n : Nat) (hn : ∀ j, j < 7 → (wk j).length ≤ n) (k d : Nat) : (fromL wk fr t d k).length ≤ k * n := by
  induction k generalizing d with
  | zero => simp [fromL]
  | succ k ih =>
    unfold fromL
    rw [List.length_append, Nat.add_mul]
    have h1 : (clip t d (dayL wk fr d)).length ≤ n := by
      refine Nat.le_trans (List.length_filter_le _ _) ?_
      rw [List.length_map]
      unfold dayL
      split
      · simp
      · exact hn _ (by omega)
    have := ih (d + 1)
    omega
end Go.Proofs.YtcnmbldikjljeaaGreatDoor
namespace Go.Proofs.YtcnmbldikjljeaaGreatDoor

theorem cnt_step (F : Nat → Bool) (k : Nat) : cnt F k ≤ cnt F (k + 1) ∧ cnt F (k + 1) ≤ cnt F k + 1 := by
  simp only [cnt]; split <;> omega
theorem cnt_add (F : Nat → Bool) (a d : Nat) : cnt F a ≤ cnt F (a + d) ∧ cnt F (a + d) ≤ cnt F a + d := by
  induction d with
  | zero => simp
  | succ d ih => have := cnt_step F (a + d); rw [← Nat.add_assoc]; omega
theorem cnt_mono (F : Nat → Bool) {a b : Int} (h : a ≤ b) (h0 : 0 ≤ a) : cnt F a.toNat ≤ cnt F b.toNat ∧ cnt F b.toNat - cnt F a.toNat ≤ b - a := by
  have e : b.toNat = a.toNat + (b - a).toNat := by omega
  have := cnt_add F a.toNat (b - a).toNat
  rw [← e] at this
  omega
theorem cnt_ivt (F : Nat → Bool) (a d : Nat) (n : Int) (h0 : 0 ≤ n) (h1 : n ≤ cnt F (a + d) - cnt F a) : ∃ y, a ≤ y ∧ y ≤ a + d ∧ cnt F y - cnt F a = n := by
  induction d with
  | zero => exact ⟨a, Nat.le_refl _, Nat.le_refl _, by simp at h1; omega⟩
  | succ d ih =>
    have := cnt_step F (a + d)
    rw [← Nat.add_assoc] at h1
    by_cases h : n ≤ cnt F (a + d) - cnt F a
    · obtain ⟨y, y0, y1, y2⟩ := ih h
      exact ⟨y, y0, by omega, y2⟩
    · exact ⟨a + d + 1, by omega, by omega, by omega⟩
section
variable {F : Nat → Bool} {a n t k u x y : Int}
theorem addN_uniq (h : AddN F a n x) (g : AddN F a n y) : x = y := by
  obtain ⟨a1, a2, a3, a4⟩ := h
  obtain ⟨b1, b2, b3, b4⟩ := g
  rcases Int.lt_trichotomy x y with e | e | e
  · exact absurd a3 (b4 x a1 e)
  · exact e
  · exact absurd b3 (a4 y b1 e)
theorem addN_never (h : AddN F a n x) (g : Never F a n) : False := g x h.1 h.2.1 h.2.2.1
theorem addN_left (h : AddN F a n x) (h0 : 0 ≤ a) : n ≤ cnt F 100800 - cnt F a.toNat := by
  have := cnt_mono F (show x ≤ 100800 from h.2.1) (by have := h.1; omega)
  have e := h.2.2.1
  rw [show (100800 : Int).toNat = 100800 from rfl] at this
  omega
theorem never_left (h : Never F a n) (h0 : 0 ≤ a) (h1 : a ≤ 100800) (hn : 0 ≤ n) : cnt F 100800 - cnt F a.toNat < n := by
  apply Int.lt_of_not_ge
  intro g
  obtain ⟨y, y0, y1, y2⟩ := cnt_ivt F a.toNat (100800 - a.toNat) n hn (by rw [show a.toNat + (100800 - a.toNat) = 100800 by omega]; omega)
  exact h y (by omega) (by omega) (by simpa using y2)
theorem addN_zero (h : AddN F a 0 x) : x = a := by
  obtain ⟨a1, a2, a3, a4⟩ := h
  by_cases e : a < x
  · exact absurd (by omega) (a4 a (Int.le_refl _) e)
  · omega
theorem addN_open (h : AddN F a n x) (h0 : 0 ≤ a) (hn : 0 < n) : a ≤ x - 1 ∧ F (x - 1).toNat = true := by
  obtain ⟨a1, a2, a3, a4⟩ := h
  have hax : a < x := by
    by_cases e : a < x
    · exact e
    · have : x = a := by omega
      subst this; omega
  refine ⟨by omega, ?_⟩
  have hne := a4 (x - 1) (by omega) (by omega)
  have e : x.toNat = (x - 1).toNat + 1 := by omega
  rw [e] at a3
  simp only [cnt] at a3
  cases hF : F (x - 1).toNat
  · rw [hF] at a3; exact absurd (by simp only [Bool.false_eq_true, if_false, Int.add_zero] at a3; exact a3) hne
  · rfl
theorem addN_add (h : AddN F a n t) (h0 : 0 ≤ a) (hk : 0 ≤ k) : AddN F t k u ↔ AddN F a (n + k) u := by
  obtain ⟨a1, a2, a3, a4⟩ := h
  constructor
  · rintro ⟨b1, b2, b3, b4⟩
    refine ⟨by omega, b2, by omega, fun y y0 y1 => ?_⟩
    by_cases e : t ≤ y
    · have := b4 y e y1; omega
    · have := cnt_mono F (show y ≤ t by omega) (by omega)
      have := a4 y y0 (by omega)
      omega
  · rintro ⟨b1, b2, b3, b4⟩
    have htu : t ≤ u := by
      by_cases e : t ≤ u
      · exact e
      · have := cnt_mono F (show u ≤ t by omega) (by omega)
        have := a4 u b1 (by omega)
        omega
    refine ⟨htu, b2, by omega, fun y y0 y1 => ?_⟩
    have := b4 y (by omega) y1
    omega
theorem never_add (h : AddN F a n t) (h0 : 0 ≤ a) (hk : 0 ≤ k) : Never F t k ↔ Never F a (n + k) := by
  obtain ⟨a1, a2, a3, a4⟩ := h
  constructor
  · intro g y y0 y1
    by_cases e : t ≤ y
    · have := g y e y1; omega
    · have := cnt_mono F (show y ≤ t by omega) (by omega)
      have := a4 y y0 (by omega)
      omega
  · intro g y y0 y1
    have := g y (by omega) y1
    omega
end
end Go.Proofs.YtcnmbldikjljeaaGreatDoor
namespace Go.Proofs.YtcnmbldikjljeaaGreatDoor

/-- a stage, a case, a docket, an event: as the document has them -/
structure Stg where
  levels : List (Int × Int)
  next : List Int
structure Cs where
  id : Int
  stage : Int
  level : Int
  due : Int
  held : Bool
  rest : Int
structure Dk where
  time : Int
  made : Int
  told : Int
  cases : List Cs
structure Ev where
  number : Int
  time : Int
  case : Int
  stage : Int
  level : Int
  who : Int
def cs0 : Cs := ⟨0, 0, 0, 0, false, 0⟩
def csAt (l : List Cs) (i : Int) : Cs := l.getD i.toNat cs0
def stAt (st : List Stg) (i : Int) : Stg := st.getD i.toNat ⟨[], []⟩
def lvAt (s : Stg) (i : Int) : Int × Int := s.levels.getD i.toNat (0, 0)

/-! Add, as a function -/
def seek (p : Int → Bool) : Nat → Int → Option Int
  | 0, _ => none
  | k + 1, y => if p y then some y else seek p k (y + 1)
theorem seek_some {p : Int → Bool} {k : Nat} {y x : Int} (h : seek p k y = some x) : y ≤ x ∧ x < y + k ∧ p x = true ∧ ∀ z, y ≤ z → z < x → p z = false := by
  induction k generalizing y with
  | zero => cases h
  | succ k ih =>
    simp only [seek] at h
    split at h
    · rename_i hp
      cases h
      exact ⟨Int.le_refl _, by omega, hp, fun z a b => by omega⟩
    · rename_i hp
      obtain ⟨h1, h2, h3, h4⟩ := ih h
      refine ⟨by omega, by omega, h3, fun z a b => ?_⟩
      by_cases e : z = y
      · rw [e]; simpa using hp
      · exact h4 z (by omega) b
theorem seek_none {p : Int → Bool} {k : Nat} {y : Int} (h : seek p k y = none) : ∀ z, y ≤ z → z < y + k → p z = false := by
  induction k generalizing y with
  | zero => intro z a b; omega
  | succ k ih =>
    simp only [seek] at h
    split at h
    · cases h
    · rename_i hp
      intro z a b
      by_cases e : z = y
      · rw [e]; simpa using hp
      · exact ih h z (by omega) (by omega)
def addO (F : Nat → Bool) (t n : Int) : Option Int := seek (fun y => cnt F y.toNat - cnt F t.toNat == n) (100801 - t).toNat t
theorem addO_some {F : Nat → Bool} {t n x : Int} (h1 : t ≤ 100800) (h : addO F t n = some x) : AddN F t n x := by
  obtain ⟨a, b, c, d⟩ := seek_some h
  exact ⟨a, by omega, by simpa using c, fun y y0 y1 => by have := d y y0 y1; simpa using this⟩
theorem addO_none {F : Nat → Bool} {t n : Int} (h : addO F t n = none) : Never F t n := by
  intro y y0 y1
  have := seek_none h y y0 (by omega)
  simpa using this
theorem addO_of {F : Nat → Bool} {t n x : Int} (h1 : t ≤ 100800) (h : AddN F t n x) : addO F t n = some x := by
  cases e : addO F t n with
  | none => exact (addN_never h (addO_none e)).elim
  | some y => rw [addN_uniq (addO_some h1 e) h]
theorem addO_never {F : Nat → Bool} {t n : Int} (h1 : t ≤ 100800) (h : Never F t n) : addO F t n = none := by
  cases e : addO F t n with
  | none => rfl
  | some y => exact (addN_never (addO_some h1 e) h).elim

/-! the document's calls -/
/-- 4: stages that do not go together -/
def stgOk (n : Nat) (s : Stg) : Bool := decide (s.levels.length ≤ 4) && s.levels.all (fun p => decide (1 ≤ p.1 ∧ p.1 ≤ 20000) && decide (0 ≤ p.2 ∧ p.2 ≤ 99)) && s.next.all (fun k => decide (0 ≤ k ∧ k < n))
def checkL (st : List Stg) : Bool := decide (1 ≤ st.length ∧ st.length ≤ 6) && st.all (stgOk st.length)
def armsL (F : Nat → Bool) (x : Cs) (t n : Int) : Cs :=
  match addO F t n with
  | some y => { x with due := y }
  | none => { x with due := -1, level := 0 }
def comesL (F : Nat → Bool) (st : List Stg) (x : Cs) (level t : Int) : Cs :=
  if (stAt st x.stage).levels.length ≤ level then { x with level := 0, due := -1 } else armsL F { x with level := level } t (lvAt (stAt st x.stage) level).1
/-- where a case stands; -1: nowhere -/
def findTo (l : List Cs) (id : Int) : Nat → Nat → Int
  | _, 0 => -1
  | i, k + 1 => if (csAt l i).id = id then i else findTo l id (i + 1) k
def findL (l : List Cs) (id : Int) : Int := findTo l id 0 l.length
theorem findTo_bd (l : List Cs) (id : Int) (i k : Nat) : findTo l id i k = -1 ∨ (i ≤ findTo l id i k ∧ findTo l id i k < i + k) := by
  induction k generalizing i with
  | zero => exact .inl rfl
  | succ k ih =>
    simp only [findTo]
    split
    · right; omega
    · rcases ih (i + 1) with h | h
      · exact .inl h
      · right; omega
theorem findL_bd (l : List Cs) (id : Int) : findL l id < 0 ∨ ∃ i : Nat, findL l id = i ∧ i < l.length := by
  rcases findTo_bd l id 0 l.length with h | h
  · left; unfold findL; omega
  · right; exact ⟨(findL l id).toNat, by unfold findL; omega, by unfold findL; omega⟩
def openC (F : Nat → Bool) (st : List Stg) (d : Dk) (stage : Int) : Dk × Int × Int :=
  if ¬ (0 ≤ stage ∧ stage < st.length) then (d, 0, 1)
  else if 20 ≤ d.cases.length then (d, 0, 8)
  else ({ d with made := d.made + 1, cases := d.cases ++ [comesL F st ⟨d.made + 1, stage, 0, 0, false, 0⟩ 0 d.time] }, d.made + 1, 0)
def hasI (l : List Int) (y : Int) : Bool := l.foldl (fun b z => b || z == y) false
theorem hasI_snoc (l : List Int) (z y : Int) : hasI (l ++ [z]) y = (hasI l y || z == y) := by simp [hasI]
theorem hasI_iff (l : List Int) (y : Int) : hasI l y = true ↔ y ∈ l := by
  have h : ∀ b, l.foldl (fun b z => b || z == y) b = true ↔ b = true ∨ y ∈ l := by
    induction l with
    | nil => intro b; simp
    | cons z l ih =>
      intro b
      rw [List.foldl_cons, ih, Bool.or_eq_true, beq_iff_eq, List.mem_cons, or_assoc, eq_comm (a := z)]
  unfold hasI
  rw [h]
  simp
def setC (l : List Cs) (i : Int) (x : Cs) : List Cs := l.set i.toNat x
def moveC (F : Nat → Bool) (st : List Stg) (d : Dk) (id stage : Int) : Dk × Int :=
  if findL d.cases id < 0 then (d, 5)
  else if (csAt d.cases (findL d.cases id)).held then (d, 6)
  else if hasI (stAt st (csAt d.cases (findL d.cases id)).stage).next stage = false then (d, 7)
  else ({ d with cases := setC d.cases (findL d.cases id) (comesL F st { csAt d.cases (findL d.cases id) with stage := stage } 0 d.time) }, 0)
def closeC (d : Dk) (id : Int) : Dk × Int :=
  if findL d.cases id < 0 then (d, 5) else ({ d with cases := d.cases.eraseIdx (findL d.cases id).toNat }, 0)
/-- the case of which something is due first, of the first k; -1: none -/
def nextTo (l : List Cs) : Nat → Int
  | 0 => -1
  | k + 1 => if 0 ≤ (csAt l k).due ∧ (nextTo l k < 0 ∨ (csAt l k).due < (csAt l (nextTo l k)).due) then k else nextTo l k
def nextL (l : List Cs) : Int := nextTo l l.length
def evOf (st : List Stg) (x : Cs) (n : Int) : Ev := ⟨n, x.due, x.id, x.stage, x.level, (lvAt (stAt st x.stage) x.level).2⟩
def tickGo (F : Nat → Bool) (st : List Stg) (T : Int) : Nat → List Cs → Int → List Ev × List Cs × Int
  | 0, l, k => ([], l, k)
  | f + 1, l, k =>
    if nextL l < 0 ∨ T < (csAt l (nextL l)).due then ([], l, k)
    else (evOf st (csAt l (nextL l)) (k + 1) :: (tickGo F st T f (setC l (nextL l) (comesL F st (csAt l (nextL l)) ((csAt l (nextL l)).level + 1) (csAt l (nextL l)).due)) (k + 1)).1,
      (tickGo F st T f (setC l (nextL l) (comesL F st (csAt l (nextL l)) ((csAt l (nextL l)).level + 1) (csAt l (nextL l)).due)) (k + 1)).2)
/-- how many levels are to come at most -/
def leftOf (st : List Stg) (x : Cs) : Nat := if 0 ≤ x.due then (stAt st x.stage).levels.length - x.level.toNat else 0
def leftL (st : List Stg) (l : List Cs) : Nat := (l.map (leftOf st)).sum
def tickC (F : Nat → Bool) (st : List Stg) (d : Dk) (n : Int) : Dk × List Ev × Int :=
  if n < 0 ∨ 100800 - d.time < n then (d, [], 1)
  else ({ d with time := d.time + n, told := (tickGo F st (d.time + n) (leftL st d.cases) d.cases d.told).2.2, cases := (tickGo F st (d.time + n) (leftL st d.cases) d.cases d.told).2.1 }, (tickGo F st (d.time + n) (leftL st d.cases) d.cases d.told).1, 0)
def holdC (F : Nat → Bool) (d : Dk) (id : Int) : Dk × Int :=
  if findL d.cases id < 0 then (d, 5)
  else if (csAt d.cases (findL d.cases id)).held then (d, 6)
  else ({ d with cases := setC d.cases (findL d.cases id) (if 0 ≤ (csAt d.cases (findL d.cases id)).due then { csAt d.cases (findL d.cases id) with held := true, rest := cnt F (csAt d.cases (findL d.cases id)).due.toNat - cnt F d.time.toNat, due := -1 } else { csAt d.cases (findL d.cases id) with held := true }) }, 0)
def resumeC (F : Nat → Bool) (d : Dk) (id : Int) : Dk × Int :=
  if findL d.cases id < 0 then (d, 5)
  else if (csAt d.cases (findL d.cases id)).held = false then (d, 6)
  else ({ d with cases := setC d.cases (findL d.cases id) (if 0 < (csAt d.cases (findL d.cases id)).rest then { armsL F { csAt d.cases (findL d.cases id) with held := false } d.time (csAt d.cases (findL d.cases id)).rest with rest := 0 } else { csAt d.cases (findL d.cases id) with held := false }) }, 0)
/-- the agenda: in the order of the times, then of the list -/
def insL (e : Int × Int) (l : List (Int × Int)) : List (Int × Int) := l.takeWhile (fun p => decide (p.2 ≤ e.2)) ++ e :: l.dropWhile (fun p => decide (p.2 ≤ e.2))
def agendaL : List Cs → List (Int × Int) → List (Int × Int)
  | [], out => out
  | x :: l, out => agendaL l (if x.due < 0 then out else insL (x.id, x.due) out)
end Go.Proofs.YtcnmbldikjljeaaGreatDoor
