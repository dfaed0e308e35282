/- The laws of layer 5 as plain mathematics. -/
import Derived.Test.YtdllceggjjopgaaDoorTextP
namespace Go.Proofs.YtdllceggjjopgaaDoor
open Go.RowKit

theorem takeWhile_sep {p : UInt8 → Bool} {d : UInt8} (hd : p d = false) (s : List UInt8) : ∀ r : List UInt8, (r ++ d :: s).takeWhile p = r.takeWhile p
  | [] => by simp [hd]
  | c :: r => by
    rw [List.cons_append, List.takeWhile_cons, List.takeWhile_cons]
    by_cases h : p c = true
    · rw [if_pos h, if_pos h, takeWhile_sep hd s r]
    · rw [if_neg h, if_neg h]
theorem takeWhile_inside {p : UInt8 → Bool} (s : List UInt8) : ∀ r : List UInt8, (r.takeWhile p).length < r.length → (r ++ s).takeWhile p = r.takeWhile p
  | [], h => by simp at h
  | c :: r, h => by
    rw [List.cons_append, List.takeWhile_cons, List.takeWhile_cons]
    rw [List.takeWhile_cons] at h
    by_cases hc : p c = true
    · rw [if_pos hc] at h
      rw [if_pos hc, if_pos hc, takeWhile_inside s r (by simpa using h)]
    · rw [if_neg hc, if_neg hc]
theorem takeWhile_take {p : UInt8 → Bool} : ∀ (m : Nat) (r : List UInt8), (r.take m).takeWhile p = (r.takeWhile p).take m
  | 0, r => by simp
  | m + 1, [] => by simp
  | m + 1, c :: r => by
    rw [List.take_succ_cons, List.takeWhile_cons, List.takeWhile_cons]
    by_cases h : p c = true
    · rw [if_pos h, if_pos h, takeWhile_take m r, List.take_succ_cons]
    · rw [if_neg h, if_neg h, List.take_nil]

/-- a byte that ends whatever it follows, a comment aside -/
def Ends (d : UInt8) : Prop := prt d = false ∧ isDig d = false ∧ d ≠ 47
theorem ends_lf : Ends 10 := by unfold Ends; decide
theorem ends_sp : Ends 32 := by unfold Ends; decide

/-- a step is not changed by what follows its end -/
theorem step_app {c d : UInt8} {t : List UInt8} (s : List UInt8) (hd : Ends d) (h : d = 10 ∨ ∀ n, step (c :: t) = .skip n → n < (c :: t).length) : step ((c :: t) ++ d :: s) = step (c :: t) := by
  rw [List.cons_append]
  rcases step_ways c t with h1 | ⟨rfl, h1⟩ | h1 | h1 | ⟨h1, h2⟩ | ⟨h1, h2, h3, h4⟩
  · rw [step_spc h1, step_spc h1]
  · have hh : (t ++ d :: s).head? = some 47 := by
      cases t with
      | nil => cases h1
      | cons e t => exact h1
    rw [step_com hh, step_com h1]
    congr 1
    unfold lineLen
    rw [← List.cons_append]
    rcases h with rfl | h
    · rw [takeWhile_sep (by rfl)]
    · rw [takeWhile_inside _ _ (h _ (step_com h1))]
  · rw [step_let h1, step_let h1, ← List.cons_append, takeWhile_sep hd.1]
  · rw [step_dig h1, step_dig h1, ← List.cons_append, takeWhile_sep hd.2.1]
  · rw [step_sgn h1 h2, step_sgn h1]
    rintro ⟨e, hh⟩
    cases t with
    | nil => exact hd.2.2 (Option.some.inj hh)
    | cons e2 t => exact h2 ⟨e, hh⟩
  · rw [step_oth h1 h2 h3 h4, step_oth h1 h2 h3 h4]

/-- nor by what is cut off behind its end -/
theorem step_take {c : UInt8} {t : List UInt8} {m : Nat} (hm : 1 ≤ m) (h1' : ∀ n, step (c :: t) = .skip n → n ≤ m) (h2' : ∀ k n, step (c :: t) = .tok k n → n ≤ m) (h3' : step (c :: t) ≠ .bad) : step ((c :: t).take m) = step (c :: t) := by
  obtain ⟨m, rfl⟩ : ∃ k, m = k + 1 := ⟨m - 1, by omega⟩
  rw [List.take_succ_cons]
  rcases step_ways c t with h1 | ⟨rfl, h1⟩ | h1 | h1 | ⟨h1, h2⟩ | ⟨h1, h2, h3, h4⟩
  · rw [step_spc h1, step_spc h1]
  · have hn := h1' _ (step_com h1)
    have hl2 : 2 ≤ lineLen (47 :: t) := by
      cases t with
      | nil => cases h1
      | cons e t =>
        cases h1
        unfold lineLen
        rw [List.takeWhile_cons, if_pos (by rfl), List.takeWhile_cons, if_pos (by rfl)]
        simp
    have hh : (t.take m).head? = some 47 := by
      cases t with
      | nil => cases h1
      | cons e t =>
        obtain ⟨k, rfl⟩ : ∃ k, m = k + 1 := ⟨m - 1, by omega⟩
        exact h1
    rw [step_com hh, step_com h1]
    congr 1
    unfold lineLen at hn ⊢
    rw [← List.take_succ_cons, takeWhile_take, List.take_of_length_le hn]
  · have e := step_let (t := t.take m) h1
    have e0 := step_let (t := t) h1
    rw [e, e0, ← List.take_succ_cons, takeWhile_take]
    by_cases hl : ((c :: t).takeWhile prt).length ≤ 32
    · rw [if_pos hl] at e0
      have hn := h2' _ _ e0
      rw [List.take_of_length_le hn]
    · rw [if_neg hl] at e0
      exact absurd e0 h3'
  · have e := step_dig (t := t.take m) h1
    have e0 := step_dig (t := t) h1
    rw [e, e0, ← List.take_succ_cons, takeWhile_take]
    cases hno : numOf ((c :: t).takeWhile isDig) with
    | none => rw [hno] at e0; exact absurd e0 h3'
    | some n =>
      rw [hno] at e0
      have hn := h2' _ _ e0
      rw [List.take_of_length_le hn, hno]
  · rw [step_sgn h1 h2, step_sgn h1]
    rintro ⟨e, hh⟩
    refine h2 ⟨e, ?_⟩
    cases t with
    | nil => simp at hh
    | cons e2 t =>
      cases m with
      | zero => simp at hh
      | succ m => exact hh
  · exact absurd (step_oth h1 h2 h3 h4) h3'

theorem ahead_ahead (a b : List Tk) (x : List Tk ⊕ Nat) : ahead a (ahead b x) = ahead (a ++ b) x := by
  cases x <;> simp [ahead]
/-- the ways of the tokens of a source that is not empty -/
theorem lex_ways (Q : Prop) (p : Nat) (c : UInt8) (t : List UInt8) (q1 : ∀ n, step (c :: t) = .skip n → 1 ≤ n → n ≤ (c :: t).length → lex p (c :: t) = lex (p + n) ((c :: t).drop n) → Q)
    (q2 : ∀ k n, step (c :: t) = .tok k n → 1 ≤ n → n ≤ (c :: t).length → lex p (c :: t) = ahead [{ k with place := p }] (lex (p + n) ((c :: t).drop n)) → Q) (q3 : step (c :: t) = .bad → lex p (c :: t) = .inr p → Q) : Q := by
  cases h : step (c :: t) with
  | skip n => exact q1 n h (step_pos.1 _ h).1 (step_pos.1 _ h).2 (lex_skip (by simp) p h)
  | tok k n =>
    refine q2 k n h (step_pos.2 _ _ h).1 (step_pos.2 _ _ h).2 ?_
    have := ahead_tok [] (r := c :: t) (by simp) p h
    rw [ahead_nil] at this
    exact this
  | bad => exact q3 h (lex_bad (by simp) p h)

/-- a line feed between two sources -/
theorem lex_sep (s : List UInt8) : ∀ (N : Nat) (r : List UInt8) (p : Nat), r.length ≤ N → lex p (r ++ 10 :: s) = match lex p r with
    | .inl l => ahead l (lex (p + r.length + 1) s)
    | .inr q => .inr q
  | _, [], p, _ => by
    rw [List.nil_append, lex_nil, lex_skip (n := 1) (by simp) p (step_spc (by rfl))]
    show lex (p + 1) s = ahead [] (lex (p + 0 + 1) s)
    rw [ahead_nil]
  | 0, c :: t, p, h => by simp at h
  | N + 1, c :: t, p, h => by
    have hst := step_app (c := c) (t := t) s ends_lf (.inl rfl)
    refine lex_ways _ p c t (fun n h1 h2 h3 h4 => ?_) (fun k n h1 h2 h3 h4 => ?_) (fun h1 h4 => ?_)
    · rw [lex_skip (n := n) (by simp) p (by rw [hst]; exact h1), List.drop_append_of_le_length h3, lex_sep s N _ _ (by rw [List.length_drop]; simp at h ⊢; omega), h4, List.length_drop]
      rw [show p + n + ((c :: t).length - n) + 1 = p + (c :: t).length + 1 by omega]
    · have e := ahead_tok [] (r := (c :: t) ++ 10 :: s) (by simp) p (by rw [hst]; exact h1)
      have i := lex_sep s N ((c :: t).drop n) (p + n) (by rw [List.length_drop]; simp at h ⊢; omega)
      rw [ahead_nil, List.drop_append_of_le_length h3, i, List.length_drop, show p + n + ((c :: t).length - n) + 1 = p + (c :: t).length + 1 by omega] at e
      refine e.trans ?_
      rw [h4]
      cases lex (p + n) ((c :: t).drop n) with
      | inl l => exact ahead_ahead _ _ _
      | inr q => rfl
    · rw [h4, lex_bad (by simp) p (by rw [hst]; exact h1)]

/-- places count from the beginning -/
def shiftTk (d : Nat) (t : Tk) : Tk := { t with place := t.place + d }
def shiftL (d : Nat) : List Tk ⊕ Nat → List Tk ⊕ Nat
  | .inl l => .inl (l.map (shiftTk d))
  | .inr q => .inr (q + d)
theorem shift_ahead (d : Nat) (a : List Tk) (x : List Tk ⊕ Nat) : shiftL d (ahead a x) = ahead (a.map (shiftTk d)) (shiftL d x) := by
  cases x <;> simp [shiftL, ahead]
theorem lex_shift (d : Nat) : ∀ (N : Nat) (r : List UInt8) (p : Nat), r.length ≤ N → lex (p + d) r = shiftL d (lex p r)
  | _, [], p, _ => by rw [lex_nil, lex_nil]; rfl
  | 0, c :: t, p, h => by simp at h
  | N + 1, c :: t, p, h => by
    refine lex_ways _ p c t (fun n h1 h2 h3 h4 => ?_) (fun k n h1 h2 h3 h4 => ?_) (fun h1 h4 => ?_)
    · rw [h4, lex_skip (n := n) (by simp) (p + d) h1, show p + d + n = p + n + d by omega, lex_shift d N _ _ (by rw [List.length_drop]; simp at h ⊢; omega)]
    · have e := ahead_tok [] (r := c :: t) (by simp) (p + d) h1
      have i := lex_shift d N ((c :: t).drop n) (p + n) (by rw [List.length_drop]; simp at h ⊢; omega)
      rw [ahead_nil, show p + d + n = p + n + d by omega, i] at e
      refine e.trans ?_
      rw [h4, shift_ahead]
      simp [shiftTk]
    · rw [h4, lex_bad (by simp) _ h1]
      rfl

/-- where a source goes wrong -/
theorem lex_wrong : ∀ (N : Nat) (r : List UInt8) (p q : Nat), r.length ≤ N → lex p r = .inr q →
    p ≤ q ∧ q < p + r.length ∧ (∃ l, lex p (r.take (q - p)) = .inl l) ∧ (∀ more, lex p (r ++ 32 :: more) = .inr q) ∧ ∀ p', lex p' (r.drop (q - p)) = .inr p'
  | _, [], p, q, _, h => by rw [lex_nil] at h; cases h
  | 0, c :: t, p, q, h, _ => by simp at h
  | N + 1, c :: t, p, q, h, hq => by
    refine lex_ways _ p c t (fun n h1 h2 h3 h4 => ?_) (fun k n h1 h2 h3 h4 => ?_) (fun h1 h4 => ?_)
    · rw [h4] at hq
      obtain ⟨i1, i2, ⟨l, i3⟩, i4, i5⟩ := lex_wrong N ((c :: t).drop n) (p + n) q (by rw [List.length_drop]; simp at h ⊢; omega) hq
      rw [List.length_drop] at i2
      refine ⟨by omega, by omega, ⟨l, ?_⟩, fun more => ?_, fun p' => ?_⟩
      · have hst := step_take (c := c) (t := t) (m := q - p) (by omega) (fun n' e => by rw [h1] at e; cases e; omega) (fun k' n' e => by rw [h1] at e; cases e) (by rw [h1]; simp)
        have hne : (c :: t).take (q - p) ≠ [] := by
          intro e
          have := congrArg List.length e
          rw [List.length_take] at this
          simp at this
          omega
        rw [lex_skip (n := n) hne p (by rw [hst]; exact h1), List.drop_take, show q - p - n = q - (p + n) by omega]
        exact i3
      · have hst := step_app (c := c) (t := t) more ends_sp (.inr fun n' e => by rw [h1] at e; cases e; omega)
        rw [lex_skip (n := n) (by simp) p (by rw [hst]; exact h1), List.drop_append_of_le_length h3]
        exact i4 more
      · have := i5 p'
        rw [List.drop_drop, show n + (q - (p + n)) = q - p by omega] at this
        exact this
    · rw [h4] at hq
      have hq2 : lex (p + n) ((c :: t).drop n) = .inr q := by
        cases hx : lex (p + n) ((c :: t).drop n) with
        | inl l => rw [hx] at hq; cases hq
        | inr q' => rw [hx] at hq; cases hq; rfl
      obtain ⟨i1, i2, ⟨l, i3⟩, i4, i5⟩ := lex_wrong N ((c :: t).drop n) (p + n) q (by rw [List.length_drop]; simp at h ⊢; omega) hq2
      rw [List.length_drop] at i2
      refine ⟨by omega, by omega, ⟨{ k with place := p } :: l, ?_⟩, fun more => ?_, fun p' => ?_⟩
      · have hst := step_take (c := c) (t := t) (m := q - p) (by omega) (fun n' e => by rw [h1] at e; cases e) (fun k' n' e => by rw [h1] at e; cases e; omega) (by rw [h1]; simp)
        have hne : (c :: t).take (q - p) ≠ [] := by
          intro e
          have := congrArg List.length e
          rw [List.length_take] at this
          simp at this
          omega
        rw [lex_tok hne p (by rw [hst]; exact h1), List.drop_take, show q - p - n = q - (p + n) by omega, i3]
      · have hst := step_app (c := c) (t := t) more ends_sp (.inr fun n' e => by rw [h1] at e; cases e)
        rw [lex_tok (by simp) p (by rw [hst]; exact h1), List.drop_append_of_le_length h3, i4 more]
      · have := i5 p'
        rw [List.drop_drop, show n + (q - (p + n)) = q - p by omega] at this
        exact this
    · rw [h4] at hq
      cases hq
      refine ⟨Nat.le_refl _, by simp, ⟨[], by rw [Nat.sub_self, List.take_zero, lex_nil]⟩, fun more => ?_, fun p' => ?_⟩
      · rw [lex_bad (by simp) p (by rw [step_app (c := c) (t := t) more ends_sp (.inr fun n' e => by rw [h1] at e; cases e)]; exact h1)]
      · rw [Nat.sub_self, List.drop_zero, lex_bad (by simp) p' h1]
end Go.Proofs.YtdllceggjjopgaaDoor
