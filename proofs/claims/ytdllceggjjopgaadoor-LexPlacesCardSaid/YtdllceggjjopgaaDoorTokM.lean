/- What the tokens of a source are, as plain mathematics. -/
import Derived.Test.YtdllceggjjopgaaDoorLawM
namespace Go.Proofs.YtdllceggjjopgaaDoor
open Go.RowKit

theorem step_ok {c : UInt8} {t : List UInt8} {k : Tk} {n : Nat} (h : step (c :: t) = .tok k n) : okTk k = true := by
  rcases step_ways c t with h1 | ⟨rfl, h1⟩ | h1 | h1 | ⟨h1, h2⟩ | ⟨h1, h2, h3, h4⟩
  · rw [step_spc h1] at h; cases h
  · rw [step_com h1] at h; cases h
  · rw [step_let h1] at h
    by_cases hl : ((c :: t).takeWhile prt).length ≤ 32
    · rw [if_pos hl] at h
      cases h
      rw [ok_name, isName_run h1, decide_eq_true hl]
      rfl
    · rw [if_neg hl] at h; cases h
  · rw [step_dig h1] at h
    have hd := all_takeWhile isDig (c :: t)
    generalize (c :: t).takeWhile isDig = x at *
    unfold numOf at h
    by_cases hb : (x.length > 1 ∧ x[0]? = some 48) ∨ big < valF 0 x
    · rw [if_pos hb] at h; cases h
    · rw [if_neg hb] at h
      cases h
      have h0 := valF_mono x 0 (by omega) hd
      have hb' : valF 0 x ≤ 1099511627776 := by
        have h5 : ¬ big < valF 0 x := fun h6 => hb (.inr h6)
        unfold big at h5
        omega
      rw [ok_num, decide_eq_true h0, decide_eq_true hb']
      rfl
  · rw [step_sgn h1 h2] at h
    cases h
    rw [ok_sgn]
    exact h1
  · rw [step_oth h1 h2 h3 h4] at h; cases h

theorem ok_place (k : Tk) (p : Int) : okTk { k with place := p } = okTk k := rfl
theorem lex_valid : ∀ (N : Nat) (r : List UInt8) (p : Nat) (l : List Tk), r.length ≤ N → lex p r = .inl l → l.all okTk = true
  | _, [], p, l, _, h => by rw [lex_nil] at h; cases h; rfl
  | 0, c :: t, p, l, h, _ => by simp at h
  | N + 1, c :: t, p, l, h, hq => by
    refine lex_ways _ p c t (fun n h1 h2 h3 h4 => ?_) (fun k n h1 h2 h3 h4 => ?_) (fun h1 h4 => ?_)
    · rw [h4] at hq
      exact lex_valid N _ _ _ (by rw [List.length_drop]; simp at h ⊢; omega) hq
    · rw [h4] at hq
      cases hx : lex (p + n) ((c :: t).drop n) with
      | inr q' => rw [hx] at hq; cases hq
      | inl l' =>
        rw [hx] at hq
        cases hq
        rw [List.singleton_append, List.all_cons, ok_place, step_ok h1, lex_valid N _ _ _ (by rw [List.length_drop]; simp at h ⊢; omega) hx]
        rfl
    · rw [h4] at hq
      cases hq
/-- tokens stand within their source, and are not more than its bytes -/
theorem lex_within : ∀ (N : Nat) (r : List UInt8) (p : Nat) (l : List Tk), r.length ≤ N → lex p r = .inl l → l.length ≤ r.length ∧ ∀ t ∈ l, (p : Int) ≤ t.place ∧ t.place < (p : Int) + (r.length : Int)
  | _, [], p, l, _, h => by rw [lex_nil] at h; cases h; exact ⟨Nat.le_refl _, fun t ht => by cases ht⟩
  | 0, c :: t, p, l, h, _ => by simp at h
  | N + 1, c :: t, p, l, h, hq => by
    refine lex_ways _ p c t (fun n h1 h2 h3 h4 => ?_) (fun k n h1 h2 h3 h4 => ?_) (fun h1 h4 => ?_)
    · rw [h4] at hq
      obtain ⟨i1, i2⟩ := lex_within N _ _ _ (by rw [List.length_drop]; simp at h ⊢; omega) hq
      rw [List.length_drop] at i1 i2
      exact ⟨by omega, fun t ht => by have := i2 t ht; omega⟩
    · rw [h4] at hq
      cases hx : lex (p + n) ((c :: t).drop n) with
      | inr q' => rw [hx] at hq; cases hq
      | inl l' =>
        rw [hx] at hq
        cases hq
        obtain ⟨i1, i2⟩ := lex_within N _ _ _ (by rw [List.length_drop]; simp at h ⊢; omega) hx
        rw [List.length_drop] at i1 i2
        refine ⟨by simp at h3 i1 ⊢; omega, fun u hu => ?_⟩
        rw [List.singleton_append] at hu
        rcases List.mem_cons.1 hu with rfl | hu
        · exact ⟨Int.le_refl _, by simp; omega⟩
        · have := i2 u hu; omega
    · rw [h4] at hq
      cases hq
/-- a name is one token -/
theorem lex_name {s : List UInt8} (h : isName s = true) (p : Nat) : lex p s = .inl [⟨1, p, s, 0⟩] := by
  cases s with
  | nil => cases h
  | cons c t =>
    rw [isName_cons] at h
    simp only [Bool.and_eq_true, decide_eq_true_eq] at h
    obtain ⟨⟨h1, h2⟩, h3⟩ := h
    have e := step_let (t := t) h2
    rw [takeWhile_all h3, if_pos (by simp; omega)] at e
    rw [lex_tok (by simp) p e, List.drop_length, lex_nil]
/-- what single tokens are names -/
theorem name_single {s : List UInt8} (h : isName s = false) {p : Nat} {t : Tk} (hl : lex p s = .inl [t]) (hk : t.kind = 1) : ¬ t.text = s := by
  intro he
  have := lex_valid s.length s p [t] (Nat.le_refl _) hl
  simp only [List.all_cons, List.all_nil, Bool.and_true] at this
  obtain ⟨k, q, x, n⟩ := t
  have hk' : k = 1 := hk
  have he' : x = s := he
  subst hk' he'
  rw [ok_name, h] at this
  simp at this
end Go.Proofs.YtdllceggjjopgaaDoor
