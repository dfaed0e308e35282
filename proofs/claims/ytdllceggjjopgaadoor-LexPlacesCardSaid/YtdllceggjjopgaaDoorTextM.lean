/- The tokens of a text, as plain mathematics. -/
import Derived.Test.YtdllceggjjopgaaDoorTokM
namespace Go.Proofs.YtdllceggjjopgaaDoor
open Go.RowKit

theorem lastB_nat (k : Nat) : (lastB k).toNat = 48 + k % 10 := by have := dig_byte k; omega
theorem lastB_dig (k : Nat) : isDig (lastB k) = true := by
  rw [isDig_iff, lastB_nat]
  simp
  omega
theorem dec_ok : ∀ (k : Nat), (Lib.decDigits k).all isDig = true ∧ valF 0 (Lib.decDigits k) = (k : Int) ∧ ((Lib.decDigits k).length > 1 → (Lib.decDigits k)[0]? ≠ some 48) ∧ (0 < k → (Lib.decDigits k)[0]? ≠ some 48) ∧ Lib.decDigits k ≠ [] := by
  intro k
  induction k using Nat.strongRecOn with
  | ind k ih =>
    have hv : ∀ y : List UInt8, valF 0 (y ++ [lastB k]) = valF 0 y * 10 + (k % 10 : Nat) := fun y => by
      rw [valF_app]
      simp only [valF, List.foldl_cons, List.foldl_nil, lastB_nat]
      omega
    by_cases h : k < 10
    · have e : Lib.decDigits k = [] ++ [lastB k] := by rw [dec_head k]; unfold headD; rw [if_pos h]
      rw [e]
      refine ⟨by simp [lastB_dig], ?_, by simp, fun h0 => ?_, by simp⟩
      · rw [hv]
        simp only [valF, List.foldl_nil]
        omega
      · simp only [List.nil_append, List.getElem?_cons_zero, ne_eq, Option.some.injEq]
        intro e
        have := congrArg UInt8.toNat e
        rw [lastB_nat] at this
        simp at this
        omega
    · have e : Lib.decDigits k = Lib.decDigits (k / 10) ++ [lastB k] := by rw [dec_head k]; unfold headD; rw [if_neg h]
      obtain ⟨i1, i2, -, i4, i5⟩ := ih (k / 10) (by omega)
      have h0 : (Lib.decDigits k)[0]? ≠ some 48 := by
        rw [e, List.getElem?_append_left (by cases hq : Lib.decDigits (k / 10) with | nil => exact absurd hq i5 | cons => simp)]
        exact i4 (by omega)
      refine ⟨by rw [e, List.all_append, i1]; simp [lastB_dig], ?_, fun _ => h0, fun _ => h0, by rw [e]; simp⟩
      rw [e, hv, i2]
      omega

/-- the word of a valid token is one token -/
theorem step_word {t : Tk} (h : okTk t = true) : wordL t ≠ [] ∧ step (wordL t) = .tok { t with place := 0 } (wordL t).length := by
  obtain ⟨k, p, x, n⟩ := t
  by_cases k1 : k = 1
  · subst k1
    rw [ok_name] at h
    simp only [Bool.and_eq_true, decide_eq_true_eq] at h
    obtain ⟨rfl, h⟩ := h
    rw [wordL_txt (by decide)]
    cases x with
    | nil => cases h
    | cons c t =>
      rw [isName_cons] at h
      simp only [Bool.and_eq_true, decide_eq_true_eq] at h
      obtain ⟨⟨h1, h2⟩, h3⟩ := h
      have e := step_let (t := t) h2
      rw [takeWhile_all h3, if_pos (by simp; omega)] at e
      exact ⟨by simp, e⟩
  by_cases k2 : k = 2
  · subst k2
    rw [ok_num] at h
    simp only [Bool.and_eq_true, decide_eq_true_eq] at h
    obtain ⟨rfl, h1, h2⟩ := h
    obtain ⟨u, rfl⟩ := Int.eq_ofNat_of_zero_le h1
    rw [wordL_num, Int.toNat_natCast]
    obtain ⟨i1, i2, i3, -, i5⟩ := dec_ok u
    refine ⟨i5, ?_⟩
    have hno : numOf (Lib.decDigits u) = some (u : Int) := by
      unfold numOf
      rw [if_neg, i2]
      rintro (⟨h3, h4⟩ | h3)
      · exact i3 h3 h4
      · rw [i2] at h3
        unfold big at h3
        omega
    cases hq : Lib.decDigits u with
    | nil => exact absurd hq i5
    | cons c t =>
      rw [hq] at i1 hno
      have hc : isDig c = true := by simp at i1; exact i1.1
      have e := step_dig (t := t) hc
      rw [takeWhile_all i1, hno] at e
      exact e
  by_cases k3 : k = 3
  · subst k3
    rw [ok_sgn] at h
    simp only [Bool.and_eq_true, decide_eq_true_eq] at h
    obtain ⟨rfl, h⟩ := h
    rw [wordL_txt (by decide)]
    match x, h with
    | [c], h => exact ⟨by simp, step_sgn h (by rintro ⟨-, h2⟩; cases h2)⟩
  · rw [ok_none k1 k2 k3] at h; cases h

theorem joinTail_text (t : Tk) (l : List Tk) : Lib.joinTail [32] ((t :: l).map wordL) = 32 :: textL (t :: l) := by
  unfold textL
  rw [List.map_cons, Lib.join_cons]
  simp [Lib.joinTail]
/-- Lex of a text -/
theorem lex_text : ∀ (l : List Tk) (p : Nat), l.all okTk = true → ∃ l', lex p (textL l) = .inl l' ∧ zipAll sameTk l l' = true
  | [], p, _ => ⟨[], by show lex p (Lib.join [] [32]) = _; rw [show Lib.join [] [32] = [] from rfl, lex_nil], rfl⟩
  | t :: l, p, h => by
    rw [List.all_cons, Bool.and_eq_true] at h
    obtain ⟨h1, h2⟩ := step_word h.1
    have ht : textL (t :: l) = wordL t ++ Lib.joinTail [32] (l.map wordL) := by unfold textL; rw [List.map_cons, Lib.join_cons]
    have hs : sameTk t { t with place := (p : Int) } = true := by simp [sameTk]
    cases l with
    | nil =>
      refine ⟨[{ t with place := (p : Int) }], ?_, by unfold zipAll; rw [hs]; rfl⟩
      rw [ht, show Lib.joinTail [32] (([] : List Tk).map wordL) = [] from rfl, List.append_nil, lex_tok h1 p h2, List.drop_length, lex_nil]
    | cons t2 l =>
      obtain ⟨l', i1, i2⟩ := lex_text (t2 :: l) (p + (wordL t).length + 1) h.2
      refine ⟨{ t with place := (p : Int) } :: l', ?_, by unfold zipAll; rw [hs, i2]; rfl⟩
      rw [ht, joinTail_text]
      have h3 : step (wordL t ++ 32 :: textL (t2 :: l)) = .tok { t with place := 0 } (wordL t).length := by
        cases hq : wordL t with
        | nil => exact absurd hq h1
        | cons c r =>
          rw [hq] at h2
          rw [step_app _ ends_sp (.inr fun n e => by rw [h2] at e; cases e)]
          exact h2
      rw [lex_tok (by simp) p h3, List.drop_left, lex_skip (n := 1) (by simp) _ (step_spc (by rfl)), List.drop_succ_cons, List.drop_zero, i1]

/-- how long texts are -/
theorem textL_len (l : List Tk) : (textL l).length ≤ Lib.lens (l.map wordL) + l.length := by
  cases l with
  | nil => simp [textL, Lib.join, Lib.lens]
  | cons t l =>
    unfold textL
    rw [List.map_cons, Lib.join_cons, List.length_append, Lib.joinTail_length]
    simp [Lib.lens]
    omega
theorem step_word_len {c : UInt8} {t : List UInt8} {k : Tk} {n : Nat} (h : step (c :: t) = .tok k n) : (wordL k).length ≤ 13 * n := by
  have hk := step_ok h
  have hn := (step_pos.2 _ _ h).1
  rcases step_ways c t with h1 | ⟨rfl, h1⟩ | h1 | h1 | ⟨h1, h2⟩ | ⟨h1, h2, h3, h4⟩
  · rw [step_spc h1] at h; cases h
  · rw [step_com h1] at h; cases h
  · rw [step_let h1] at h
    by_cases hl : ((c :: t).takeWhile prt).length ≤ 32
    · rw [if_pos hl] at h
      cases h
      rw [wordL_txt (by decide)]
      omega
    · rw [if_neg hl] at h; cases h
  · rw [step_dig h1] at h
    generalize (c :: t).takeWhile isDig = x at *
    cases hno : numOf x with
    | none => rw [hno] at h; cases h
    | some m =>
      rw [hno] at h
      cases h
      rw [ok_num] at hk
      simp only [Bool.and_eq_true, decide_eq_true_eq] at hk
      rw [wordL_num]
      have := (dec_len (u := m.toNat) (by omega)).2
      omega
  · rw [step_sgn h1 h2] at h
    cases h
    rw [wordL_txt (by decide)]
    simp
  · rw [step_oth h1 h2 h3 h4] at h; cases h
theorem lex_words : ∀ (N : Nat) (r : List UInt8) (p : Nat) (l : List Tk), r.length ≤ N → lex p r = .inl l → Lib.lens (l.map wordL) ≤ 13 * r.length
  | _, [], p, l, _, h => by rw [lex_nil] at h; cases h; exact Nat.le_refl _
  | 0, c :: t, p, l, h, _ => by simp at h
  | N + 1, c :: t, p, l, h, hq => by
    refine lex_ways _ p c t (fun n h1 h2 h3 h4 => ?_) (fun k n h1 h2 h3 h4 => ?_) (fun h1 h4 => ?_)
    · rw [h4] at hq
      have i1 := lex_words N _ _ _ (by rw [List.length_drop]; simp at h ⊢; omega) hq
      rw [List.length_drop] at i1
      omega
    · rw [h4] at hq
      cases hx : lex (p + n) ((c :: t).drop n) with
      | inr q' => rw [hx] at hq; cases hq
      | inl l' =>
        rw [hx] at hq
        cases hq
        have i1 := lex_words N _ _ _ (by rw [List.length_drop]; simp at h ⊢; omega) hx
        have i2 := step_word_len h1
        have e : wordL { k with place := (p : Int) } = wordL k := rfl
        rw [List.length_drop] at i1
        rw [List.singleton_append, List.map_cons, e]
        simp only [Lib.lens, List.map_cons, List.sum_cons] at i1 ⊢
        omega
    · rw [h4] at hq
      cases hq
end Go.Proofs.YtdllceggjjopgaaDoor
