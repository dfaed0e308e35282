/- Layer 5 as plain mathematics: classes of bytes, steps of a scanner, the tokens of a source. -/
import Derived.Lib.ItoaNum
namespace Go.Proofs.YtdllceggjjopgaaDoor
open Go

def classL : List Nat := [0, 0, 0, 0, 0, 0, 0, 0, 0, 1, 1, 0, 0, 1, 0, 0, 0, 0, 0, 0, 0, 0, 0, 0, 0, 0, 0, 0, 0, 0, 0, 0, 1, 5, 0, 5, 0, 0, 0, 0, 5, 5, 0, 5, 5, 5, 5, 5, 3, 3, 3, 3, 3, 3, 3, 3, 3, 3, 5, 5, 5, 5, 0, 0, 0, 2, 2, 2, 2, 2, 2, 2, 2, 2, 2, 2, 2, 2, 2, 2, 2, 2, 2, 2, 2, 2, 2, 2, 2, 2, 2, 0, 0, 0, 0, 4, 0, 2, 2, 2, 2, 2, 2, 2, 2, 2, 2, 2, 2, 2, 2, 2, 2, 2, 2, 2, 2, 2, 2, 2, 2, 2, 2, 5, 0, 5, 0, 0]
/-- the class of a byte -/
def cls (c : UInt8) : Nat := classL.getD c.toNat 0
def isSpc (c : UInt8) : Bool := cls c == 1
def isLet (c : UInt8) : Bool := cls c == 2
def isDig (c : UInt8) : Bool := cls c == 3
def isSgn (c : UInt8) : Bool := cls c == 5
def prt (c : UInt8) : Bool := cls c == 2 || cls c == 3 || cls c == 4

/-- what holds of all 256 bytes -/
theorem all_bytes {p : Nat → Bool} (h : (List.range 256).all p = true) (c : UInt8) : p c.toNat = true :=
  List.all_eq_true.1 h _ (List.mem_range.2 (by have := c.toNat_lt; omega))
theorem cls_lt (c : UInt8) : cls c < 6 := by
  have h := all_bytes (p := fun n => decide (classL.getD n 0 < 6)) (by decide +kernel) c
  exact of_decide_eq_true h
theorem cls_at (c : UInt8) (h : c.toNat < 128) : classL[c.toNat]? = some (cls c) := by
  unfold cls
  rw [List.getD_eq_getElem?_getD]
  have hl : c.toNat < classL.length := by rw [show classL.length = 128 by decide +kernel]; exact h
  rw [List.getElem?_eq_getElem hl]
  rfl
theorem cls_high (c : UInt8) (h : ¬ c.toNat < 128) : cls c = 0 := by
  unfold cls
  rw [List.getD_eq_getElem?_getD, List.getElem?_eq_none (by rw [show classL.length = 128 by decide +kernel]; omega)]
  rfl
theorem isSpc_iff (c : UInt8) : isSpc c = (c.toNat == 32 || c.toNat == 9 || c.toNat == 10 || c.toNat == 13) := by
  have h := all_bytes (p := fun n => (classL.getD n 0 == 1) == (n == 32 || n == 9 || n == 10 || n == 13)) (by decide +kernel) c
  exact eq_of_beq h
theorem isLet_iff (c : UInt8) : isLet c = ((decide (97 ≤ c.toNat) && decide (c.toNat ≤ 122)) || (decide (65 ≤ c.toNat) && decide (c.toNat ≤ 90))) := by
  have h := all_bytes (p := fun n => (classL.getD n 0 == 2) == ((decide (97 ≤ n) && decide (n ≤ 122)) || (decide (65 ≤ n) && decide (n ≤ 90)))) (by decide +kernel) c
  exact eq_of_beq h
theorem isDig_iff (c : UInt8) : isDig c = (decide (48 ≤ c.toNat) && decide (c.toNat ≤ 57)) := by
  have h := all_bytes (p := fun n => (classL.getD n 0 == 3) == (decide (48 ≤ n) && decide (n ≤ 57))) (by decide +kernel) c
  exact eq_of_beq h
theorem prt_iff (c : UInt8) : prt c = (isLet c || isDig c || c.toNat == 95) := by
  have h := all_bytes (p := fun n => (classL.getD n 0 == 2 || classL.getD n 0 == 3 || classL.getD n 0 == 4) == (classL.getD n 0 == 2 || classL.getD n 0 == 3 || n == 95)) (by decide +kernel) c
  exact eq_of_beq h
/-- the signs, in the order of the specification -/
def signL : List UInt8 := [123, 125, 40, 41, 59, 44, 61, 35, 47, 60, 33, 45, 46, 58, 43]
theorem isSgn_iff (c : UInt8) : isSgn c = signL.contains c := by
  have h := all_bytes (p := fun n => (classL.getD n 0 == 5) == signL.contains (UInt8.ofNat n)) (by decide +kernel) c
  have e : UInt8.ofNat c.toNat = c := by simp
  have h2 := eq_of_beq h
  rw [e] at h2
  exact h2

/-- a token -/
structure Tk where
  kind : Int
  place : Int
  text : List UInt8
  n : Int

/-- the digits' number -/
def valF (n : Int) (x : List UInt8) : Int := x.foldl (fun n c => n * 10 + ((c.toNat : Int) - 48)) n
def big : Int := 1099511627776
/-- is it a name -/
def isName (s : List UInt8) : Bool := decide (1 ≤ s.length) && decide (s.length ≤ 32) && (match s with | [] => false | c :: _ => isLet c) && s.all prt
/-- the number of digits, or that there is none -/
def numOf (x : List UInt8) : Option Int := if (x.length > 1 ∧ x[0]? = some 48) ∨ big < valF 0 x then none else some (valF 0 x)
def lineLen (r : List UInt8) : Nat := (r.takeWhile fun c => c != 10).length

inductive St where
  | skip (n : Nat)
  | tok (t : Tk) (n : Nat)
  | bad

def stepC (c : UInt8) (t : List UInt8) : St :=
  if isSpc c then .skip 1
  else if c = 47 ∧ t.head? = some 47 then .skip (lineLen (c :: t))
  else if isLet c then (if ((c :: t).takeWhile prt).length ≤ 32 then .tok ⟨1, 0, (c :: t).takeWhile prt, 0⟩ ((c :: t).takeWhile prt).length else .bad)
  else if isDig c then (match numOf ((c :: t).takeWhile isDig) with | some n => .tok ⟨2, 0, [], n⟩ ((c :: t).takeWhile isDig).length | none => .bad)
  else if isSgn c then .tok ⟨3, 0, [c], 0⟩ 1
  else .bad
def step : List UInt8 → St
  | [] => .bad
  | c :: t => stepC c t
/-- the ways of a step -/
theorem step_spc {c : UInt8} {t : List UInt8} (h : isSpc c = true) : step (c :: t) = .skip 1 := by
  show stepC c t = _
  rw [stepC, if_pos h]
theorem slash_let : isSpc 47 = false ∧ isLet 47 = false ∧ isDig 47 = false ∧ isSgn 47 = true := by decide
theorem cls_excl (c : UInt8) : (isSpc c = true → isLet c = false ∧ isDig c = false ∧ isSgn c = false) ∧ (isLet c = true → isSpc c = false ∧ isDig c = false ∧ isSgn c = false) ∧
    (isDig c = true → isSpc c = false ∧ isLet c = false ∧ isSgn c = false) ∧ (isSgn c = true → isSpc c = false ∧ isLet c = false ∧ isDig c = false) := by
  unfold isSpc isLet isDig isSgn
  simp only [beq_iff_eq, beq_eq_false_iff_ne]
  omega
theorem step_com {t : List UInt8} (h : t.head? = some 47) : step (47 :: t) = .skip (lineLen (47 :: t)) := by
  show stepC 47 t = _
  rw [stepC, if_neg (by rw [slash_let.1]; decide), if_pos ⟨rfl, h⟩]
theorem step_let {c : UInt8} {t : List UInt8} (h : isLet c = true) : step (c :: t) = if ((c :: t).takeWhile prt).length ≤ 32 then .tok ⟨1, 0, (c :: t).takeWhile prt, 0⟩ ((c :: t).takeWhile prt).length else .bad := by
  have h1 := ((cls_excl c).2.1 h)
  show stepC c t = _
  rw [stepC, if_neg (by rw [h1.1]; decide), if_neg (fun e => by rw [e.1] at h; cases h), if_pos h]
theorem step_dig {c : UInt8} {t : List UInt8} (h : isDig c = true) : step (c :: t) = match numOf ((c :: t).takeWhile isDig) with | some n => .tok ⟨2, 0, [], n⟩ ((c :: t).takeWhile isDig).length | none => .bad := by
  have h1 := ((cls_excl c).2.2.1 h)
  show stepC c t = _
  rw [stepC, if_neg (by rw [h1.1]; decide), if_neg (fun e => by rw [e.1] at h; cases h), if_neg (by rw [h1.2.1]; decide), if_pos h]
theorem step_sgn {c : UInt8} {t : List UInt8} (h : isSgn c = true) (hn : ¬ (c = 47 ∧ t.head? = some 47)) : step (c :: t) = .tok ⟨3, 0, [c], 0⟩ 1 := by
  have h1 := ((cls_excl c).2.2.2 h)
  show stepC c t = _
  rw [stepC, if_neg (by rw [h1.1]; decide), if_neg hn, if_neg (by rw [h1.2.1]; decide), if_neg (by rw [h1.2.2]; decide), if_pos h]
theorem step_oth {c : UInt8} {t : List UInt8} (h1 : isSpc c = false) (h2 : isLet c = false) (h3 : isDig c = false) (h4 : isSgn c = false) : step (c :: t) = .bad := by
  show stepC c t = _
  rw [stepC, if_neg (by rw [h1]; decide), if_neg (fun e => by rw [e.1] at h4; cases h4), if_neg (by rw [h2]; decide), if_neg (by rw [h3]; decide), if_neg (by rw [h4]; decide)]
/-- every byte goes one of these ways -/
theorem step_ways (c : UInt8) (t : List UInt8) : isSpc c = true ∨ (c = 47 ∧ t.head? = some 47) ∨ isLet c = true ∨ isDig c = true ∨ (isSgn c = true ∧ ¬ (c = 47 ∧ t.head? = some 47)) ∨
    (isSpc c = false ∧ isLet c = false ∧ isDig c = false ∧ isSgn c = false) := by
  by_cases h : c = 47 ∧ t.head? = some 47
  · exact .inr (.inl h)
  cases h1 : isSpc c <;> cases h2 : isLet c <;> cases h3 : isDig c <;> cases h4 : isSgn c <;> simp [h]

/-- the tokens of what is left, from place p on; or the place of what is none -/
def lexF : Nat → Nat → List UInt8 → List Tk ⊕ Nat
  | 0, _, _ => .inl []
  | _ + 1, _, [] => .inl []
  | f + 1, p, c :: t => match step (c :: t) with
    | .skip n => lexF f (p + n) ((c :: t).drop n)
    | .tok k n => match lexF f (p + n) ((c :: t).drop n) with
      | .inl l => .inl ({ k with place := p } :: l)
      | .inr q => .inr q
    | .bad => .inr p
def lex (p : Nat) (r : List UInt8) : List Tk ⊕ Nat := lexF r.length p r

theorem takeWhile_pos {p : UInt8 → Bool} {c : UInt8} {t : List UInt8} (h : p c = true) : 1 ≤ ((c :: t).takeWhile p).length ∧ ((c :: t).takeWhile p).length ≤ (c :: t).length := by
  rw [List.takeWhile_cons, if_pos h]
  have := (List.takeWhile_sublist p (l := t)).length_le
  simp
  omega
theorem prt_let {c : UInt8} (h : isLet c = true) : prt c = true := by unfold prt; unfold isLet at h; rw [h]; rfl
theorem prt_dig {c : UInt8} (h : isDig c = true) : prt c = true := by unfold prt; unfold isDig at h; rw [h]; simp
theorem step_pos {c : UInt8} {t : List UInt8} : (∀ n, step (c :: t) = .skip n → 1 ≤ n ∧ n ≤ (c :: t).length) ∧ (∀ k n, step (c :: t) = .tok k n → 1 ≤ n ∧ n ≤ (c :: t).length) := by
  rcases step_ways c t with h | ⟨rfl, h⟩ | h | h | ⟨h, hn⟩ | ⟨h1, h2, h3, h4⟩
  · rw [step_spc h]
    exact ⟨fun n e => (by cases e; simp), fun k n e => by cases e⟩
  · rw [step_com h]
    exact ⟨fun n e => (by cases e; exact takeWhile_pos (by rfl)), fun k n e => by cases e⟩
  · rw [step_let h]
    split
    · exact ⟨fun n e => (by cases e), fun k n e => by cases e; exact takeWhile_pos (prt_let h)⟩
    · exact ⟨fun n e => (by cases e), fun k n e => by cases e⟩
  · rw [step_dig h]
    split
    · exact ⟨fun n e => (by cases e), fun k n e => by cases e; exact takeWhile_pos h⟩
    · exact ⟨fun n e => (by cases e), fun k n e => by cases e⟩
  · rw [step_sgn h hn]
    exact ⟨fun n e => (by cases e), fun k n e => by cases e; simp⟩
  · rw [step_oth h1 h2 h3 h4]
    exact ⟨fun n e => (by cases e), fun k n e => by cases e⟩

theorem lexF_fuel : ∀ (f g p : Nat) (r : List UInt8), r.length ≤ f → r.length ≤ g → lexF f p r = lexF g p r
  | 0, 0, _, _, _, _ => rfl
  | 0, g + 1, p, r, hf, _ => by
    obtain rfl : r = [] := List.eq_nil_of_length_eq_zero (by omega)
    rfl
  | f + 1, 0, p, r, _, hg => by
    obtain rfl : r = [] := List.eq_nil_of_length_eq_zero (by omega)
    rfl
  | f + 1, g + 1, p, [], _, _ => rfl
  | f + 1, g + 1, p, c :: t, hf, hg => by
    have hs := @step_pos c t
    unfold lexF
    cases h : step (c :: t) with
    | bad => rfl
    | skip n =>
      have h1 := (hs.1 n h).1
      exact lexF_fuel f g _ _ (by simp at hf ⊢; omega) (by simp at hg ⊢; omega)
    | tok k n =>
      have h1 := (hs.2 k n h).1
      simp only
      rw [lexF_fuel f g _ _ (by simp at hf ⊢; omega) (by simp at hg ⊢; omega)]

theorem lex_nil (p : Nat) : lex p [] = .inl [] := rfl
theorem lex_skip {r : List UInt8} {n : Nat} (hr : r ≠ []) (p : Nat) (h : step r = .skip n) : lex p r = lex (p + n) (r.drop n) := by
  cases r with
  | nil => exact absurd rfl hr
  | cons c t =>
    have h1 := (step_pos.1 n h).1
    unfold lex
    rw [show (c :: t).length = t.length + 1 from rfl]
    conv => lhs; unfold lexF
    rw [h]
    exact lexF_fuel _ _ _ _ (by simp; omega) (Nat.le_refl _)
theorem lex_tok {r : List UInt8} {n : Nat} {k : Tk} (hr : r ≠ []) (p : Nat) (h : step r = .tok k n) : lex p r = match lex (p + n) (r.drop n) with | .inl l => .inl ({ k with place := p } :: l) | .inr q => .inr q := by
  cases r with
  | nil => exact absurd rfl hr
  | cons c t =>
    have h1 := (step_pos.2 k n h).1
    unfold lex
    rw [show (c :: t).length = t.length + 1 from rfl]
    conv => lhs; unfold lexF
    rw [h]
    simp only
    rw [lexF_fuel t.length _ _ _ (by simp; omega) (Nat.le_refl _)]
theorem lex_bad {r : List UInt8} (hr : r ≠ []) (p : Nat) (h : step r = .bad) : lex p r = .inr p := by
  cases r with
  | nil => exact absurd rfl hr
  | cons c t =>
    unfold lex
    rw [show (c :: t).length = t.length + 1 from rfl]
    conv => lhs; unfold lexF
    rw [h]
/-- tokens that have come already stand ahead -/
def ahead (a : List Tk) : List Tk ⊕ Nat → List Tk ⊕ Nat
  | .inl l => .inl (a ++ l)
  | .inr q => .inr q
theorem ahead_nil (x : List Tk ⊕ Nat) : ahead [] x = x := by cases x <;> rfl
theorem ahead_tok (a : List Tk) {r : List UInt8} {n : Nat} {k : Tk} (hr : r ≠ []) (p : Nat) (h : step r = .tok k n) : ahead a (lex p r) = ahead (a ++ [{ k with place := p }]) (lex (p + n) (r.drop n)) := by
  rw [lex_tok hr p h]
  cases lex (p + n) (r.drop n) with
  | inl l => simp [ahead]
  | inr q => rfl
attribute [irreducible] lex
end Go.Proofs.YtdllceggjjopgaaDoor
