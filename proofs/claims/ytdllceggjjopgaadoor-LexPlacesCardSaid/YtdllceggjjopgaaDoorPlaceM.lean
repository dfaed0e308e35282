/- Where tokens stand, as plain mathematics. -/
import Derived.Test.YtdllceggjjopgaaDoorGapM
namespace Go.Proofs.YtdllceggjjopgaaDoor
open Go.RowKit

/-- the law's walk over what lies between tokens: none if something else stands there, else whether a comment is open -/
def gapF : Bool → List UInt8 → Option Bool
  | b, [] => some b
  | b, c :: t => if (c != 10 && (b || (c == 47 && t.head? == some 47))) = false ∧ isSpc c = false then none else gapF (c != 10 && (b || (c == 47 && t.head? == some 47))) t
theorem gapF_spc {c : UInt8} {t : List UInt8} (h : isSpc c = true) : gapF false (c :: t) = gapF false t := by
  have h47 : c ≠ 47 := fun e => by subst e; cases h
  have h48 : (c == 47) = false := beq_eq_false_iff_ne.2 h47
  rw [gapF]
  simp [h, h48]
theorem gapF_in {c : UInt8} {t : List UInt8} (h : c ≠ 10) : gapF true (c :: t) = gapF true t := by
  have h1 : (c != 10) = true := by simpa using h
  rw [gapF]
  simp [h1]
theorem gapF_lf (b : Bool) (t : List UInt8) : gapF b (10 :: t) = gapF false t := by
  rw [gapF]
  simp
  intro h
  cases h
theorem gapF_run : ∀ (ws t : List UInt8), (∀ c ∈ ws, c ≠ 10) → gapF true (ws ++ t) = gapF true t
  | [], _, _ => rfl
  | c :: ws, t, h => by
    rw [List.cons_append, gapF_in (h c (List.mem_cons_self ..)), gapF_run ws t fun d hd => h d (List.mem_cons_of_mem _ hd)]
theorem gapF_com (ws t : List UInt8) (h : ∀ c ∈ ws, c ≠ 10) : gapF false (47 :: 47 :: (ws ++ t)) = gapF true t := by
  rw [gapF]
  simp only [List.head?_cons, bne, beq_self_eq_true]
  rw [if_neg (by decide), show (!((47 : UInt8) == 10) && (false || (true && true))) = true from rfl, gapF_in (by decide), gapF_run ws t h]

/-- digits without a leading zero are those of their number -/
theorem valF_pos {x : List UInt8} (h : x.all isDig = true) {c : UInt8} (hc : x[0]? = some c) (h0 : c ≠ 48) : 1 ≤ valF 0 x := by
  cases x with
  | nil => cases hc
  | cons d t =>
    cases hc
    rw [List.all_cons, Bool.and_eq_true] at h
    have hb := dig_bd h.1
    have hne : c.toNat ≠ 48 := fun e => h0 (UInt8.toNat_inj.1 (by simpa using e))
    have := valF_mono t ((c.toNat : Int) - 48) (by omega) h.2
    have e : valF 0 (c :: t) = valF ((c.toNat : Int) - 48) t := by
      unfold valF
      rw [List.foldl_cons]
      congr 1
      omega
    rw [e]
    omega
theorem dec_val : ∀ (N : Nat) (x : List UInt8), x.length ≤ N → x ≠ [] → x.all isDig = true → ¬ (x.length > 1 ∧ x[0]? = some 48) → Lib.decDigits (valF 0 x).toNat = x
  | 0, x, h, h1, _, _ => absurd (List.eq_nil_of_length_eq_zero (by omega)) h1
  | N + 1, x, h, h1, h2, h3 => by
    obtain ⟨y, c, rfl⟩ : ∃ y c, x = y ++ [c] := ⟨x.dropLast, x.getLast h1, (List.dropLast_concat_getLast h1).symm⟩
    rw [List.all_append, Bool.and_eq_true] at h2
    have hc : isDig c = true := by simpa using h2.2
    have hb := dig_bd hc
    have hv : valF 0 (y ++ [c]) = valF 0 y * 10 + ((c.toNat : Int) - 48) := by
      rw [valF_app]
      simp only [valF, List.foldl_cons, List.foldl_nil]
    have hy0 : 0 ≤ valF 0 y := valF_mono y 0 (by omega) h2.1
    have hlast : lastB (valF 0 (y ++ [c])).toNat = c := by
      apply UInt8.toNat_inj.1
      rw [lastB_nat, hv]
      omega
    rw [dec_head, hlast]
    congr 1
    unfold headD
    by_cases hy : y = []
    · subst hy
      rw [if_pos]
      rw [hv]
      simp [valF]
      omega
    · have hyl : 1 ≤ y.length := by cases y with | nil => exact absurd rfl hy | cons => simp
      have h30 : ¬ y[0]? = some 48 := fun e => h3 ⟨by rw [List.length_append]; simp; omega, by rw [List.getElem?_append_left (by omega)]; exact e⟩
      obtain ⟨d, hd⟩ : ∃ d, y[0]? = some d := ⟨_, List.getElem?_eq_getElem hyl⟩
      have hpos := valF_pos h2.1 hd (fun e => h30 (by rw [hd, e]))
      rw [if_neg (by rw [hv]; omega)]
      have e : (valF 0 (y ++ [c])).toNat / 10 = (valF 0 y).toNat := by rw [hv]; omega
      rw [e]
      exact dec_val N y (by rw [List.length_append] at h; simp at h; omega) hy h2.1 (fun h4 => h30 h4.2)

theorem takeWhile_take_len (p : UInt8 → Bool) : ∀ x : List UInt8, x.take (x.takeWhile p).length = x.takeWhile p
  | [] => rfl
  | c :: t => by
    rw [List.takeWhile_cons]
    split
    · rw [List.length_cons, List.take_succ_cons, takeWhile_take_len p t]
    · rfl
theorem drop_line : ∀ t : List UInt8, t.drop (t.takeWhile fun c => c != 10).length = [] ∨ (t.drop (t.takeWhile fun c => c != 10).length).head? = some 10
  | [] => .inl rfl
  | c :: t => by
    by_cases h : c = 10
    · subst h
      exact .inr rfl
    · rw [List.takeWhile_cons, if_pos (by simpa using h), List.length_cons, List.drop_succ_cons]
      exact drop_line t
/-- the word of a token stands in the source -/
theorem step_stands {c : UInt8} {t : List UInt8} {k : Tk} {n : Nat} (h : step (c :: t) = .tok k n) : wordL k = (c :: t).take n := by
  rcases step_ways c t with h1 | ⟨rfl, h1⟩ | h1 | h1 | ⟨h1, h2⟩ | ⟨h1, h2, h3, h4⟩
  · rw [step_spc h1] at h; cases h
  · rw [step_com h1] at h; cases h
  · rw [step_let h1] at h
    by_cases hl : ((c :: t).takeWhile prt).length ≤ 32
    · rw [if_pos hl] at h
      cases h
      rw [wordL_txt (by decide), takeWhile_take_len]
    · rw [if_neg hl] at h; cases h
  · rw [step_dig h1] at h
    have hd := all_takeWhile isDig (c :: t)
    have hp := (takeWhile_pos (p := isDig) (t := t) h1).1
    have ht := takeWhile_take_len isDig (c :: t)
    generalize (c :: t).takeWhile isDig = x at *
    unfold numOf at h
    by_cases hb : (x.length > 1 ∧ x[0]? = some 48) ∨ big < valF 0 x
    · rw [if_pos hb] at h; cases h
    · rw [if_neg hb] at h
      cases h
      rw [wordL_num, ht]
      exact dec_val x.length x (Nat.le_refl _) (fun e => by subst e; simp at hp) hd (fun h4 => hb (.inl h4))
  · rw [step_sgn h1 h2] at h
    cases h
    rw [wordL_txt (by decide)]
    rfl
  · rw [step_oth h1 h2 h3 h4] at h; cases h

/-- what stands ahead of a token, and at the end -/
theorem lex_gap : ∀ (N : Nat) (r : List UInt8) (p : Nat) (l : List Tk) (b : Bool), r.length ≤ N → (b = true → r = [] ∨ r.head? = some 10) → lex p r = .inl l →
    match l with
    | [] => ∃ f, gapF b r = some f
    | t :: l' => ∃ g n : Nat, t.place = (p : Int) + g ∧ 1 ≤ n ∧ g + n ≤ r.length ∧ gapF b (r.take g) = some false ∧ wordL t = (r.drop g).take n ∧ lex (p + g + n) (r.drop (g + n)) = .inl l'
  | _, [], p, l, b, _, _, h => by rw [lex_nil] at h; cases h; exact ⟨b, by rw [gapF]⟩
  | 0, c :: t, p, l, b, h, _, _ => by simp at h
  | N + 1, c :: t, p, l, b, h, hb, hq => by
    -- an open comment ends here
    have hb0 : ∀ m, gapF b ((c :: t).take (m + 1)) = gapF false ((c :: t).take (m + 1)) := fun m => by
      cases b with
      | false => rfl
      | true =>
        rcases hb rfl with e | e
        · cases e
        · cases e
          rw [List.take_succ_cons, gapF_lf, gapF_lf]
    have hbt : b = true → step (c :: t) = .skip 1 := fun e => by
      rcases hb e with e | e
      · cases e
      · cases e
        exact step_spc (by rfl)
    refine lex_ways _ p c t (fun n h1 h2 h3 h4 => ?_) (fun k n h1 h2 h3 h4 => ?_) (fun h1 h4 => ?_)
    · rw [h4] at hq
      -- the state behind what is passed over
      obtain ⟨b', hb1, hb2⟩ : ∃ b' : Bool, (b' = true → (c :: t).drop n = [] ∨ ((c :: t).drop n).head? = some 10) ∧ ∀ x, gapF false ((c :: t).take n ++ x) = gapF b' x := by
        rcases step_ways c t with g1 | ⟨rfl, g1⟩ | g1 | g1 | ⟨g1, g2⟩ | ⟨g1, g2, g3, g4⟩
        · rw [step_spc g1] at h1
          cases h1
          exact ⟨false, (fun e => by cases e), fun x => by rw [List.take_succ_cons, List.take_zero, List.singleton_append, gapF_spc g1]⟩
        · rw [step_com g1] at h1
          cases h1
          cases t with
          | nil => cases g1
          | cons e t =>
            cases g1
            have e1 : lineLen (47 :: 47 :: t) = (t.takeWhile fun c => c != 10).length + 2 := by
              unfold lineLen
              rw [List.takeWhile_cons, if_pos (by rfl), List.takeWhile_cons, if_pos (by rfl)]
              simp
            rw [e1]
            refine ⟨true, fun _ => ?_, fun x => ?_⟩
            · rw [List.drop_succ_cons, List.drop_succ_cons]
              exact drop_line t
            · rw [List.take_succ_cons, List.take_succ_cons, takeWhile_take_len, List.cons_append, List.cons_append, gapF_com]
              intro d hd
              have := List.all_eq_true.1 (all_takeWhile (fun c => c != 10) t) d hd
              simpa using this
        · rw [step_let g1] at h1; split at h1 <;> cases h1
        · rw [step_dig g1] at h1; split at h1 <;> cases h1
        · rw [step_sgn g1 g2] at h1; cases h1
        · rw [step_oth g1 g2 g3 g4] at h1; cases h1
      have ih := lex_gap N ((c :: t).drop n) (p + n) l b' (by rw [List.length_drop]; simp at h ⊢; omega) hb1 hq
      obtain ⟨n0, rfl⟩ : ∃ m, n = m + 1 := ⟨n - 1, by omega⟩
      cases l with
      | nil =>
        obtain ⟨f, hf⟩ := ih
        refine ⟨f, ?_⟩
        have e := hb0 t.length
        rw [show t.length + 1 = (c :: t).length from rfl, List.take_length] at e
        rw [e]
        have e2 := hb2 ((c :: t).drop (n0 + 1))
        rw [List.take_append_drop] at e2
        rw [e2, hf]
      | cons t1 l' =>
        obtain ⟨g, m, i1, i2, i3, i4, i5, i6⟩ := ih
        rw [List.length_drop] at i3
        refine ⟨g + (n0 + 1), m, by rw [i1]; omega, i2, by omega, ?_, ?_, ?_⟩
        · rw [show g + (n0 + 1) = (g + n0) + 1 by omega, hb0]
          have e2 := hb2 (((c :: t).drop (n0 + 1)).take g)
          rw [← List.take_add, show n0 + 1 + g = g + n0 + 1 by omega] at e2
          rw [e2, i4]
        · rw [i5, List.drop_drop]
          congr 2
          omega
        · rw [List.drop_drop] at i6
          rw [show p + (g + (n0 + 1)) + m = p + (n0 + 1) + g + m by omega, show g + (n0 + 1) + m = n0 + 1 + (g + m) by omega]
          exact i6
    · rw [h4] at hq
      have hbf : b = false := by
        cases b with
        | false => rfl
        | true => rw [hbt rfl] at h1; cases h1
      subst hbf
      cases hx : lex (p + n) ((c :: t).drop n) with
      | inr q' => rw [hx] at hq; cases hq
      | inl l' =>
        rw [hx] at hq
        cases hq
        refine ⟨0, n, by simp, h2, by omega, by rw [List.take_zero]; rfl, ?_, ?_⟩
        · rw [List.drop_zero]
          exact (show wordL k = _ from step_stands h1)
        · rw [Nat.add_zero, Nat.zero_add]
          exact hx
    · rw [h4] at hq
      cases hq
end Go.Proofs.YtdllceggjjopgaaDoor
