/- White space and comments between tokens, as plain mathematics; the turns in memory. -/
import Derived.Test.YtdllceggjjopgaaDoorTextM
import Derived.Test.YtdllceggjjopgaaDoorOpenL
namespace Go.Proofs.YtdllceggjjopgaaDoor
open Go.ChangeShapes Go.WideShapes Go.ChangeAt Go.RowKit

/-- what has no tokens, whatever follows -/
def Gap (g : List UInt8) : Prop := ∀ p x, lex p (g ++ x) = lex (p + g.length) x
theorem Gap.nil : Gap [] := fun _ _ => rfl
theorem Gap.spc {c : UInt8} {g : List UInt8} (hc : isSpc c = true) (h : Gap g) : Gap (c :: g) := fun p x => by
  rw [List.cons_append, lex_skip (n := 1) (by simp) p (step_spc hc), List.drop_succ_cons, List.drop_zero, h, List.length_cons]
  congr 1
  omega
theorem Gap.com {ws g : List UInt8} (hw : ∀ c ∈ ws, c ≠ 10) (h : Gap g) : Gap (47 :: 47 :: (ws ++ 10 :: g)) := fun p x => by
  have hl : lineLen (47 :: 47 :: (ws ++ 10 :: (g ++ x))) = ws.length + 2 := by
    unfold lineLen
    rw [List.takeWhile_cons, if_pos (by rfl), List.takeWhile_cons, if_pos (by rfl), List.takeWhile_append_of_pos (by simpa using hw), List.takeWhile_cons, if_neg (by simp)]
    simp
  have e := step_com (t := 47 :: (ws ++ 10 :: (g ++ x))) rfl
  rw [hl] at e
  have e2 : (47 :: 47 :: (ws ++ 10 :: g)) ++ x = 47 :: 47 :: (ws ++ 10 :: (g ++ x)) := by simp
  rw [e2, lex_skip (by simp) p e]
  have e3 : (47 :: 47 :: (ws ++ 10 :: (g ++ x))).drop (ws.length + 2) = 10 :: (g ++ x) := by
    rw [List.drop_succ_cons, List.drop_succ_cons, List.drop_left]
  rw [e3, lex_skip (n := 1) (by simp) _ (step_spc (by rfl)), List.drop_succ_cons, List.drop_zero, h]
  congr 1
  simp
  omega
/-- the gaps of the law -/
def gapL (ws : List UInt8) : List (List UInt8) := [[32], [9], [10], [13, 10], [32, 32], 47 :: 47 :: (ws ++ [10]), [32, 47, 47, 32, 10], [10, 47, 47, 10]]
theorem gapL_ok {ws : List UInt8} (hw : ∀ c ∈ ws, c ≠ 10) : ∀ g ∈ gapL ws, Gap g := by
  intro g hg
  simp only [gapL, List.mem_cons, List.not_mem_nil, or_false] at hg
  rcases hg with rfl | rfl | rfl | rfl | rfl | rfl | rfl | rfl
  · exact Gap.nil.spc (by rfl)
  · exact Gap.nil.spc (by rfl)
  · exact Gap.nil.spc (by rfl)
  · exact (Gap.nil.spc (by rfl)).spc (by rfl)
  · exact (Gap.nil.spc (by rfl)).spc (by rfl)
  · exact Gap.com hw Gap.nil
  · exact (Gap.com (ws := [32]) (by simp) Gap.nil).spc (by rfl)
  · exact (Gap.com (ws := []) (by simp) Gap.nil).spc (by rfl)
theorem gapL_len {ws : List UInt8} (hw : ws.length ≤ 100) : ∀ g ∈ gapL ws, g.length ≤ 103 := by
  intro g hg
  simp only [gapL, List.mem_cons, List.not_mem_nil, or_false] at hg
  rcases hg with rfl | rfl | rfl | rfl | rfl | rfl | rfl | rfl <;> simp <;> omega

/-- a text that has the tokens a, whatever follows -/
def Has (s : List UInt8) (a : List Tk) : Prop := ∃ b, zipAll sameTk a b = true ∧ ∀ x, lex 0 (s ++ x) = ahead b (lex s.length x)
theorem zipAll_snoc {p : Tk → Tk → Bool} {t u : Tk} (h : p t u = true) : ∀ {a b : List Tk}, zipAll p a b = true → zipAll p (a ++ [t]) (b ++ [u]) = true
  | [], [], _ => by show (p t u && true) = true; rw [h]; rfl
  | x :: a, y :: b, hz => by
    unfold zipAll at hz
    rw [Bool.and_eq_true] at hz
    rw [List.cons_append, List.cons_append]
    unfold zipAll
    rw [hz.1, zipAll_snoc h hz.2]
    rfl
theorem Has.start : Has [10] [] := ⟨[], rfl, fun x => by
  rw [ahead_nil]
  exact lex_skip (n := 1) (by simp) 0 (step_spc (by rfl))⟩
theorem Has.next {s : List UInt8} {a : List Tk} {t : Tk} {g : List UInt8} (h : Has s a) (ht : okTk t = true) (hg : Gap g) : Has (s ++ (wordL t ++ 32 :: g)) (a ++ [t]) := by
  obtain ⟨b, h1, h2⟩ := h
  obtain ⟨h3, h4⟩ := step_word ht
  refine ⟨b ++ [{ t with place := (s.length : Int) }], zipAll_snoc (by simp [sameTk]) h1, fun x => ?_⟩
  have e : s ++ (wordL t ++ 32 :: g) ++ x = s ++ (wordL t ++ 32 :: (g ++ x)) := by simp
  rw [e, h2]
  have hst : step (wordL t ++ 32 :: (g ++ x)) = .tok { t with place := 0 } (wordL t).length := by
    cases hq : wordL t with
    | nil => exact absurd hq h3
    | cons c r =>
      rw [hq] at h4
      rw [step_app _ ends_sp (.inr fun n e => by rw [h4] at e; cases e)]
      exact h4
  rw [ahead_tok b (by simp) _ hst, List.drop_left, lex_skip (n := 1) (by simp) _ (step_spc (by rfl)), List.drop_succ_cons, List.drop_zero, hg]
  congr 2
  simp
  omega
theorem Has.done {s : List UInt8} {a : List Tk} (h : Has s a) : ∃ b, lex 0 s = .inl b ∧ zipAll sameTk a b = true := by
  obtain ⟨b, h1, h2⟩ := h
  have := h2 []
  rw [List.append_nil, lex_nil] at this
  exact ⟨b, by rw [this]; simp [ahead], h1⟩
theorem word_short {t : Tk} (h : okTk t = true) : (wordL t).length ≤ 32 := by
  obtain ⟨k, p, x, n⟩ := t
  by_cases k1 : k = 1
  · subst k1
    rw [ok_name] at h
    unfold isName at h
    simp only [Bool.and_eq_true, decide_eq_true_eq] at h
    rw [wordL_txt (by decide)]
    omega
  by_cases k2 : k = 2
  · subst k2
    rw [ok_num] at h
    simp only [Bool.and_eq_true, decide_eq_true_eq] at h
    rw [wordL_num]
    have := (dec_len (u := n.toNat) (by omega)).2
    omega
  by_cases k3 : k = 3
  · subst k3
    rw [ok_sgn] at h
    simp only [Bool.and_eq_true, decide_eq_true_eq] at h
    rw [wordL_txt (by decide)]
    match x, h.2 with
    | [c], _ => simp
  · rw [ok_none k1 k2 k3] at h; cases h

/-- bytes in memory -/
def u8V (u : UInt8) : List Value := [.int .u8 (u.toNat : Int)]
theorem u8V_len (u : UInt8) : (u8V u).length = 1 := rfl
abbrev RdU (w : World) (B : Nat) (A : Option Addr) (n : Nat) (l : List UInt8) : Prop := RdE 1 u8V w B A n l
set_option maxRecDepth 100000 in
theorem open_bytes {H : Type} {enc : TypeId × Value → H} {w : World} {base : Nat} {spare : Nat → Bool} {held : Bool} {r : Reach} {b0 : Nat} {x : Value} {d : DataW H} {p : List MemPlace}
    (hv : Value.okWide Tryd.prog w r b0 39 x) (h : DataW.Trod enc Tryd.prog w base spare held 39 x d p) :
    ∃ (A : Option Addr) (n cap : Nat) (l : List UInt8), x = .slice A n cap ∧ RdU w w.heap.size A n l ∧ n ≤ cap ∧ cap ≤ maxLen := by
  obtain ⟨A, n, cap, l, h1, h2, h3, h4, _⟩ := open_rows (m := 1) (f := u8V) (ok := fun _ => True) Tryd.underlying39 (by kernel_rfl) (by omega) 0 u8V_len (fun fuel cs y hy => by
    obtain ⟨k, h3, _, hk⟩ := DataW.trod_int Tryd.underlying5 hy
    have hb := bounds_u8 hk
    refine ⟨UInt8.ofNat k.toNat, ?_, trivial⟩
    rw [h3]
    unfold u8V
    congr 2
    simp
    omega) hv h
  exact ⟨A, n, cap, l, h1, h2, h3, h4⟩
end Go.Proofs.YtdllceggjjopgaaDoor
