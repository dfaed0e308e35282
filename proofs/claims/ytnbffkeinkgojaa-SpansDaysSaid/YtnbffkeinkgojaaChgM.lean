/- Counting where spans begin and end: plain mathematics. -/
import Derived.Test.YtnbffkeinkgojaaDaysM
namespace Go.Proofs.Ytnbffkeinkgojaa

def loS (s : Sp) : Int := if 0 ≤ s.1 then s.1 else 0
def hiS (s : Sp) : Int := if s.2 ≤ 1024 then s.2 else 1024
/-- what one span adds to the changes -/
def chg1 (s : Sp) (k : Nat) : Int := if loS s < hiS s then (if loS s = (k : Int) then 1 else 0) - (if hiS s = (k : Int) then 1 else 0) else 0
def chg (l : List Sp) (k : Nat) : Int := (l.map fun s => chg1 s k).sum
/-- how many spans are open behind day k -/
def opn (l : List Sp) : Nat → Int
  | 0 => 0
  | k + 1 => opn l k + chg l k
def cnt1 (s : Sp) (k : Nat) : Int := if loS s < hiS s ∧ loS s ≤ (k : Int) ∧ (k : Int) < hiS s then 1 else 0
def cnt (l : List Sp) (k : Nat) : Int := (l.map fun s => cnt1 s k).sum
theorem loS_bd (s : Sp) : 0 ≤ loS s := by unfold loS; split <;> omega
theorem hiS_bd (s : Sp) : hiS s ≤ 1024 := by unfold hiS; split <;> omega
theorem chg_nil (k : Nat) : chg [] k = 0 := rfl
theorem chg_snoc (l : List Sp) (s : Sp) (k : Nat) : chg (l ++ [s]) k = chg l k + chg1 s k := by simp [chg]
theorem chg_cons (s : Sp) (l : List Sp) (k : Nat) : chg (s :: l) k = chg1 s k + chg l k := by simp [chg]
theorem chg1_bd (s : Sp) (k : Nat) : -1 ≤ chg1 s k ∧ chg1 s k ≤ 1 := by
  unfold chg1
  split
  · split <;> split <;> omega
  · omega
theorem chg_bd : ∀ (l : List Sp) (k : Nat), -(l.length : Int) ≤ chg l k ∧ chg l k ≤ (l.length : Int)
  | [], k => by simp [chg]
  | s :: r, k => by
    have ih := chg_bd r k
    have h := chg1_bd s k
    rw [chg_cons, List.length_cons]
    omega
theorem opn_cons (s : Sp) (l : List Sp) : ∀ k, opn (s :: l) k = opn [s] k + opn l k
  | 0 => by simp [opn]
  | k + 1 => by
    have ih := opn_cons s l k
    simp only [opn]
    rw [ih, chg_cons, chg_cons, chg_nil]
    omega
theorem opn_nil : ∀ k, opn [] k = 0
  | 0 => rfl
  | k + 1 => by simp only [opn]; rw [opn_nil k, chg_nil]; rfl
theorem opn_one (s : Sp) : ∀ k : Nat, opn [s] k = if loS s < hiS s ∧ loS s < (k : Int) ∧ (k : Int) ≤ hiS s then 1 else 0
  | 0 => by
    have := loS_bd s
    rw [if_neg (by omega)]
    rfl
  | k + 1 => by
    have ih := opn_one s k
    have h0 := loS_bd s
    simp only [opn]
    rw [ih, chg_cons, chg_nil]
    unfold chg1
    by_cases h : loS s < hiS s
    · rw [if_pos h]
      split <;> split <;> split <;> split <;> omega
    · rw [if_neg h, if_neg (by omega), if_neg (by omega)]
      rfl
theorem cnt_cons (s : Sp) (l : List Sp) (k : Nat) : cnt (s :: l) k = cnt1 s k + cnt l k := by simp [cnt]
theorem opn_cnt : ∀ (l : List Sp) (k : Nat), opn l (k + 1) = cnt l k
  | [], k => by rw [opn_nil]; rfl
  | s :: r, k => by
    rw [opn_cons, opn_cnt r k, opn_one, cnt_cons]
    congr 1
    unfold cnt1
    split <;> split <;> omega
theorem cnt1_bd (s : Sp) (k : Nat) : 0 ≤ cnt1 s k ∧ cnt1 s k ≤ 1 := by unfold cnt1; split <;> omega
theorem cnt_bd : ∀ (l : List Sp) (k : Nat), 0 ≤ cnt l k ∧ cnt l k ≤ (l.length : Int)
  | [], k => by simp [cnt]
  | s :: r, k => by
    have ih := cnt_bd r k
    have h := cnt1_bd s k
    rw [cnt_cons, List.length_cons]
    omega
theorem opn_bd (l : List Sp) : ∀ k, 0 ≤ opn l k ∧ opn l k ≤ (l.length : Int)
  | 0 => by simp [opn]
  | k + 1 => by rw [opn_cnt]; exact cnt_bd l k
theorem cnt1_pos (s : Sp) (k : Nat) (hk : k < 1024) : (0 < cnt1 s k) ↔ (s.1 ≤ (k : Int) ∧ (k : Int) < s.2) := by
  unfold cnt1 loS hiS
  split <;> split <;> split <;> omega
theorem cnt_pos : ∀ (l : List Sp) (k : Nat), k < 1024 → decide (0 < cnt l k) = dayIn l k
  | [], k, _ => by simp [cnt, dayIn_nil]
  | s :: r, k, hk => by
    have ih := cnt_pos r k hk
    have h1 := cnt1_pos s k hk
    have b1 := cnt1_bd s k
    have b2 := cnt_bd r k
    rw [cnt_cons, dayIn_cons, ← ih, Bool.eq_iff_iff]
    simp only [decide_eq_true_eq, Bool.or_eq_true, Bool.and_eq_true]
    rw [← h1]
    omega
theorem opn_day (l : List Sp) (k : Nat) (hk : k < 1024) : decide (0 < opn l (k + 1)) = dayIn l k := by rw [opn_cnt, cnt_pos l k hk]
theorem opn_zero (l : List Sp) : opn l 0 = 0 := rfl
theorem opn_succ (l : List Sp) (k : Nat) : opn l (k + 1) = opn l k + chg l k := rfl
attribute [irreducible] chg opn
end Go.Proofs.Ytnbffkeinkgojaa
