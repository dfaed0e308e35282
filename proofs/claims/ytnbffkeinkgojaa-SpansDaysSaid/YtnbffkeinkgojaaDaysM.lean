/- Sets of days and their normal lists: plain mathematics. -/
import Derived.Test.YtnbffkeinkgojaaProg
namespace Go.Proofs.Ytnbffkeinkgojaa

abbrev Sp := Int × Int
/-- is a number one of the days of a list -/
def dayIn (l : List Sp) (m : Nat) : Bool := l.any fun s => decide (s.1 ≤ (m : Int)) && decide ((m : Int) < s.2)
theorem dayIn_nil (m : Nat) : dayIn [] m = false := rfl
theorem dayIn_cons (s : Sp) (l : List Sp) (m : Nat) : dayIn (s :: l) m = ((decide (s.1 ≤ (m : Int)) && decide ((m : Int) < s.2)) || dayIn l m) := rfl
theorem dayIn_append (l r : List Sp) (m : Nat) : dayIn (l ++ r) m = (dayIn l m || dayIn r m) := List.any_append
theorem dayIn_true {l : List Sp} {m : Nat} : dayIn l m = true ↔ ∃ s ∈ l, s.1 ≤ (m : Int) ∧ (m : Int) < s.2 := by
  unfold dayIn
  simp [List.any_eq_true]
theorem dayIn_false {l : List Sp} {m : Nat} : dayIn l m = false ↔ ∀ s ∈ l, ¬ (s.1 ≤ (m : Int) ∧ (m : Int) < s.2) := by
  rw [← Bool.not_eq_true, dayIn_true]
  constructor
  · intro h s hs hq; exact h ⟨s, hs, hq⟩
  · rintro h ⟨s, hs, hq⟩; exact h s hs hq

/-- a normal list whose spans begin at lo or later -/
def NormFrom : Int → List Sp → Prop
  | _, [] => True
  | lo, s :: r => lo ≤ s.1 ∧ s.1 < s.2 ∧ s.2 ≤ 1024 ∧ NormFrom (s.2 + 1) r
def IsNorm (l : List Sp) : Prop := NormFrom 0 l
theorem NormFrom.mono : ∀ {l : List Sp} {lo lo' : Int}, NormFrom lo l → lo' ≤ lo → NormFrom lo' l
  | [], _, _, _, _ => trivial
  | s :: r, lo, lo', h, hl => ⟨by have := h.1; omega, h.2.1, h.2.2.1, h.2.2.2⟩
theorem NormFrom.each : ∀ {l : List Sp} {lo : Int}, NormFrom lo l → ∀ s ∈ l, lo ≤ s.1 ∧ s.1 < s.2 ∧ s.2 ≤ 1024
  | [], _, _, s, hs => by cases hs
  | t :: r, lo, h, s, hs => by
    rcases List.mem_cons.1 hs with rfl | hs
    · exact ⟨h.1, h.2.1, h.2.2.1⟩
    · have := NormFrom.each h.2.2.2 s hs
      have h1 := h.1
      have h2 := h.2.1
      exact ⟨by omega, this.2.1, this.2.2⟩
theorem NormFrom.append : ∀ {l : List Sp} {lo : Int} {s : Sp}, NormFrom lo l → (∀ t ∈ l, t.2 < s.1) → lo ≤ s.1 → s.1 < s.2 → s.2 ≤ 1024 → NormFrom lo (l ++ [s])
  | [], lo, s, _, _, h1, h2, h3 => ⟨h1, h2, h3, trivial⟩
  | t :: r, lo, s, h, ht, h1, h2, h3 => ⟨h.1, h.2.1, h.2.2.1, NormFrom.append h.2.2.2 (fun u hu => ht u (by simp [hu])) (by have := ht t (by simp); omega) h2 h3⟩
theorem NormFrom.init : ∀ {l : List Sp} {lo : Int} {s : Sp}, NormFrom lo (l ++ [s]) → NormFrom lo l ∧ (∀ t ∈ l, t.2 < s.1) ∧ lo ≤ s.1 ∧ s.1 < s.2 ∧ s.2 ≤ 1024
  | [], lo, s, h => ⟨trivial, (by simp), h.1, h.2.1, h.2.2.1⟩
  | t :: r, lo, s, h => by
    obtain ⟨a1, a2, a3, a4, a5⟩ := NormFrom.init (l := r) h.2.2.2
    have h1 := h.1
    have h2 := h.2.1
    refine ⟨⟨h.1, h.2.1, h.2.2.1, a1⟩, fun u hu => ?_, by omega, a4, a5⟩
    rcases List.mem_cons.1 hu with rfl | hu
    · omega
    · exact a2 u hu
/-- two normal lists with the same days are one -/
theorem NormFrom.uniq : ∀ {l l' : List Sp} {lo : Int}, 0 ≤ lo → NormFrom lo l → NormFrom lo l' → (∀ m : Nat, lo ≤ (m : Int) → m < 1024 → dayIn l m = dayIn l' m) → l = l'
  | [], [], _, _, _, _, _ => rfl
  | [], s :: r, lo, h0, _, h, hd => by
    obtain ⟨h1, h2, h3, _⟩ := h
    have e := hd s.1.toNat (by omega) (by omega)
    rw [dayIn_nil, dayIn_cons, show ((s.1.toNat : Nat) : Int) = s.1 by omega] at e
    simp [h2] at e
  | s :: r, [], lo, h0, h, _, hd => by
    obtain ⟨h1, h2, h3, _⟩ := h
    have e := hd s.1.toNat (by omega) (by omega)
    rw [dayIn_nil, dayIn_cons, show ((s.1.toNat : Nat) : Int) = s.1 by omega] at e
    simp [h2] at e
  | s :: r, s' :: r', lo, h0, h, h', hd => by
    obtain ⟨h1, h2, h3, h4⟩ := h
    obtain ⟨h1', h2', h3', h4'⟩ := h'
    have far : ∀ {q : List Sp} {b : Int} (m : Nat), NormFrom b q → (m : Int) < b → dayIn q m = false := fun m hq hb => dayIn_false.2 fun t ht hc => by
      have := hq.each t ht
      omega
    have e1 : s.1 = s'.1 := by
      by_cases hlt : s.1 < s'.1
      · have e := hd s.1.toNat (by omega) (by omega)
        rw [dayIn_cons, dayIn_cons, show ((s.1.toNat : Nat) : Int) = s.1 by omega, far _ h4' (by omega)] at e
        simp [h2] at e
        omega
      · by_cases hgt : s'.1 < s.1
        · have e := hd s'.1.toNat (by omega) (by omega)
          rw [dayIn_cons, dayIn_cons, show ((s'.1.toNat : Nat) : Int) = s'.1 by omega, far _ h4 (by omega)] at e
          simp [h2'] at e
          omega
        · omega
    have e2 : s.2 = s'.2 := by
      by_cases hlt : s.2 < s'.2
      · have e := hd s.2.toNat (by omega) (by omega)
        rw [dayIn_cons, dayIn_cons, show ((s.2.toNat : Nat) : Int) = s.2 by omega, far _ h4 (by omega)] at e
        simp [hlt] at e
        omega
      · by_cases hgt : s'.2 < s.2
        · have e := hd s'.2.toNat (by omega) (by omega)
          rw [dayIn_cons, dayIn_cons, show ((s'.2.toNat : Nat) : Int) = s'.2 by omega, far _ h4' (by omega)] at e
          simp [hgt] at e
          omega
        · omega
    have es : s = s' := Prod.ext e1 e2
    subst es
    have er : r = r' := NormFrom.uniq (by omega) h4 h4' fun m hm hm2 => by
      have e := hd m (by omega) hm2
      rw [dayIn_cons, dayIn_cons, show decide ((m : Int) < s.2) = false by simp; omega] at e
      simpa using e
    rw [er]

/-- l is the normal list of the days of f below m -/
structure UpTo (f : Nat → Bool) (m : Nat) (l : List Sp) : Prop where
  norm : IsNorm l
  top : ∀ s ∈ l, s.2 ≤ (m : Int)
  days : ∀ k : Nat, dayIn l k = (decide (k < m) && f k)
theorem UpTo.zero (f : Nat → Bool) : UpTo f 0 [] := ⟨trivial, (by simp), fun k => by simp [dayIn_nil]⟩
theorem UpTo.skip {f : Nat → Bool} {m : Nat} {l : List Sp} (h : UpTo f m l) (hf : f m = false) : UpTo f (m + 1) l :=
  ⟨h.norm, fun s hs => by have := h.top s hs; omega, fun k => by
    rw [h.days]
    by_cases e : k = m
    · subst e; simp [hf]
    · have : decide (k < m + 1) = decide (k < m) := by simp; omega
      rw [this]⟩
theorem UpTo.fresh {f : Nat → Bool} {m : Nat} {l : List Sp} (h : UpTo f m l) (hf : f m = true) (hm : m < 1024) (hl : ∀ s ∈ l, s.2 ≠ (m : Int)) : UpTo f (m + 1) (l ++ [((m : Int), (m : Int) + 1)]) :=
  ⟨NormFrom.append h.norm (fun t ht => by have h1 := h.top t ht; have h2 := hl t ht; show t.2 < (m : Int); omega) (by show (0 : Int) ≤ m; omega) (by show (m : Int) < m + 1; omega) (by show (m : Int) + 1 ≤ 1024; omega),
   fun s hs => by
    rcases List.mem_append.1 hs with hs | hs
    · have := h.top s hs; omega
    · rw [List.mem_singleton.1 hs]; show (m : Int) + 1 ≤ ((m + 1 : Nat) : Int); omega,
   fun k => by
    rw [dayIn_append, h.days, dayIn_cons, dayIn_nil]
    by_cases e : k = m
    · subst e; simp [hf]; omega
    · have e1 : decide (k < m + 1) = decide (k < m) := by simp; omega
      have e2 : (decide ((m : Int) ≤ (k : Int)) && decide ((k : Int) < (m : Int) + 1)) = false := by simp; omega
      rw [e1, e2]
      simp⟩
theorem UpTo.grow {f : Nat → Bool} {m : Nat} {l : List Sp} {a : Int} (h : UpTo f m (l ++ [(a, (m : Int))])) (hf : f m = true) (hm : m < 1024) : UpTo f (m + 1) (l ++ [(a, (m : Int) + 1)]) := by
  obtain ⟨a1, a2, a3, a4, a5⟩ := NormFrom.init h.norm
  have a4' : a < (m : Int) := a4
  refine ⟨NormFrom.append a1 a2 a3 (by show a < (m : Int) + 1; omega) (by show (m : Int) + 1 ≤ 1024; omega), fun s hs => ?_, fun k => ?_⟩
  · rcases List.mem_append.1 hs with hs | hs
    · have := h.top s (by simp [hs]); omega
    · rw [List.mem_singleton.1 hs]; show (m : Int) + 1 ≤ ((m + 1 : Nat) : Int); omega
  · have hd := h.days k
    rw [dayIn_append, dayIn_cons, dayIn_nil] at hd ⊢
    by_cases e : k = m
    · subst e
      have : decide (a ≤ (k : Int)) = true := by simp; omega
      simp [hf, this]
      exact Or.inr (by omega)
    · have e1 : decide (k < m + 1) = decide (k < m) := by simp; omega
      have e2 : decide ((k : Int) < (m : Int) + 1) = decide ((k : Int) < (m : Int)) := by simp; omega
      rw [e1, ← hd]
      simp only [e2]
theorem UpTo.last_ne {f : Nat → Bool} {m : Nat} {l : List Sp} {s : Sp} (h : UpTo f m (l ++ [s])) (hs : s.2 ≠ (m : Int)) : ∀ t ∈ l ++ [s], t.2 ≠ (m : Int) := by
  obtain ⟨a1, a2, a3, a4, a5⟩ := NormFrom.init h.norm
  intro t ht
  rcases List.mem_append.1 ht with ht | ht
  · have h1 := a2 t ht
    have h2 := h.top s (by simp)
    omega
  · rw [List.mem_singleton.1 ht]; exact hs
/-- a whole run of days, from a to m -/
theorem UpTo.run {f : Nat → Bool} {a m : Nat} {l : List Sp} (h : UpTo f a l) (ham : a < m) (hm : m ≤ 1024) (hf : ∀ k, a ≤ k → k < m → f k = true) (hl : ∀ s ∈ l, s.2 ≠ (a : Int)) : UpTo f m (l ++ [((a : Int), (m : Int))]) := by
  obtain ⟨j, rfl⟩ : ∃ j, m = a + 1 + j := ⟨m - (a + 1), by omega⟩
  induction j with
  | zero => exact h.fresh (hf a (Nat.le_refl _) (by omega)) (by omega) hl
  | succ j ih =>
    have ih' := ih (by omega) (by omega) fun k h1 h2 => hf k h1 (by omega)
    exact ih'.grow (hf _ (by omega) (by omega)) (by omega)
theorem UpTo.uniq {f g : Nat → Bool} {l l' : List Sp} (h : UpTo f 1024 l) (h' : UpTo g 1024 l') (hfg : ∀ k, k < 1024 → f k = g k) : l = l' :=
  NormFrom.uniq (by omega) h.norm h'.norm fun m _ hm => by rw [h.days, h'.days, hfg m hm]

def spansTo (f : Nat → Bool) : Nat → List Sp
  | 0 => []
  | m + 1 => if f m then (match (spansTo f m).getLast? with
      | none => [((m : Int), (m : Int) + 1)]
      | some s => if s.2 = (m : Int) then (spansTo f m).dropLast ++ [(s.1, (m : Int) + 1)] else spansTo f m ++ [((m : Int), (m : Int) + 1)]) else spansTo f m
theorem spansTo_upTo (f : Nat → Bool) : ∀ m, m ≤ 1024 → UpTo f m (spansTo f m)
  | 0, _ => UpTo.zero f
  | m + 1, hm => by
    have ih := spansTo_upTo f m (by omega)
    unfold spansTo
    by_cases hf : f m = true
    · rw [if_pos hf]
      cases hl : (spansTo f m).getLast? with
      | none =>
        have e : spansTo f m = [] := List.getLast?_eq_none_iff.1 hl
        rw [e] at ih
        exact ih.fresh hf (by omega) (by simp)
      | some s =>
        obtain ⟨ys, hys⟩ := List.getLast?_eq_some_iff.1 hl
        by_cases hs : s.2 = (m : Int)
        · simp only [hs, if_true]
          rw [hys] at ih ⊢
          rw [List.dropLast_concat]
          have e2 : s = (s.1, (m : Int)) := by rw [← hs]
          rw [e2] at ih
          exact ih.grow hf (by omega)
        · simp only [hs, if_false]
          rw [hys] at ih ⊢
          exact ih.fresh hf (by omega) (ih.last_ne hs)
    · rw [if_neg hf]
      exact ih.skip (by simpa using hf)
/-- the normal list of the days of f in the calendar -/
def normal (f : Nat → Bool) : List Sp := spansTo f 1024
theorem norm_upTo (f : Nat → Bool) : UpTo f 1024 (normal f) := spansTo_upTo f 1024 (Nat.le_refl _)
theorem UpTo.eq_norm {f : Nat → Bool} {l : List Sp} (h : UpTo f 1024 l) : l = normal f := h.uniq (norm_upTo f) fun _ _ => rfl
theorem norm_congr {f g : Nat → Bool} (h : ∀ k, k < 1024 → f k = g k) : normal f = normal g := (norm_upTo f).uniq (norm_upTo g) h
theorem norm_day (f : Nat → Bool) (m : Nat) (hm : m < 1024) : dayIn (normal f) m = f m := by
  rw [(norm_upTo f).days]
  simp [hm]
theorem norm_isNorm (f : Nat → Bool) : IsNorm (normal f) := (norm_upTo f).norm
/-- a normal list is that of its days -/
theorem norm_of_isNorm {l : List Sp} (h : IsNorm l) : normal (dayIn l) = l := (NormFrom.uniq (by omega) h (norm_isNorm _) fun m _ hm => by rw [norm_day _ _ hm]).symm
theorem norm_nil_iff (f : Nat → Bool) : normal f = [] ↔ ∀ k, k < 1024 → f k = false := by
  constructor
  · intro h k hk
    have e := norm_day f k hk
    rw [h, dayIn_nil] at e
    exact e.symm
  · intro h
    rw [norm_congr (g := fun _ => false) h]
    exact ((norm_upTo fun _ => false).uniq (l' := []) ⟨trivial, (by simp), fun k => by simp [dayIn_nil]⟩ fun _ _ => rfl)
/-- how many spans a normal list has -/
theorem NormFrom.many : ∀ {l : List Sp} {lo : Int}, NormFrom lo l → 2 * (l.length : Int) ≤ 1025 - lo ∨ l = []
  | [], _, _ => .inr rfl
  | s :: r, lo, h => by
    obtain ⟨h1, h2, h3, h4⟩ := h
    rcases NormFrom.many h4 with k | rfl
    · left; simp only [List.length_cons]; omega
    · left; simp; omega
theorem norm_many (f : Nat → Bool) : (normal f).length ≤ 512 := by
  rcases NormFrom.many (norm_isNorm f) with h | h
  · omega
  · rw [h]; simp
attribute [irreducible] normal
end Go.Proofs.Ytnbffkeinkgojaa
