/- Contracts of bits.Len (off the shelf), split and the reference's half. -/
import Derived.Shelf.Small.Bits
import Derived.Lib.ItoaNum
import Derived.Test.YtfolmglafnfcbaaDoorRounds
namespace Go.Proofs.YtfolmglafnfcbaaDoor
open Go.RowKit Go.Shelf

def ren125 : Go.Shelf.Ren := ⟨fun | 125 => 54 | 128 => 58 | 129 => 59 | n => n, fun | 46 => 74 | 3 => 3 | 51 => 49 | 53 => 72 | 4 => 4 | 5 => 5 | 9 => 9 | n => n, fun | n => n⟩
theorem lays125 : Go.Proofs.Lays.n125 Tryd.prog ren125 := {
  mixed := by kernel_rfl
  f125 := Tryd.func54.trans (congrArg some (by kernel_rfl))
  f128 := Tryd.func58.trans (congrArg some (by kernel_rfl))
  f129 := Tryd.func59.trans (congrArg some (by kernel_rfl))
  t3 := Tryd.underlying3
  a3 := Tryd.isAgg3
  z3 := Tryd.sizeOf3
  v3 := Tryd.zeroValue3
  t4 := Tryd.underlying4
  a4 := Tryd.isAgg4
  z4 := Tryd.sizeOf4
  v4 := Tryd.zeroValue4
  t5 := Tryd.underlying5
  a5 := Tryd.isAgg5
  z5 := Tryd.sizeOf5
  v5 := Tryd.zeroValue5
  t9 := Tryd.underlying9
  a9 := Tryd.isAgg9
  z9 := Tryd.sizeOf9
  v9 := Tryd.zeroValue9
  t46 := Tryd.underlying74
  a46 := Tryd.isAgg74
  z46 := Tryd.sizeOf74
  v46 := Tryd.zeroValue74
  t51 := Tryd.underlying49
  a51 := Tryd.isAgg49
  z51 := Tryd.sizeOf49
  v51 := Tryd.zeroValue49
  t53 := Tryd.underlying72
  a53 := Tryd.isAgg72
  z53 := Tryd.sizeOf72
  v53 := Tryd.zeroValue72 }
theorem len_any (x : Int) (w : World) (h0 : 0 ≤ x) (h1 : x ≤ 18446744073709551615) :
    Calls Tryd.prog 54 #[.int .u64 x] w fun e w' => e = .returned (.int .i64 (Lib.bitLen x.toNat)) ∧ w' = w := Any.bits_Len lays125 x w h0 h1

theorem ret_int {k : IntKind} {a b : Int} (h : a = b) : Ending.returned (.int k a) = .returned (.int k b) := by rw [h]
theorem wrap64_small (x : Nat) (h : x ≤ 1099511627776) : wrap64 (x : Int) = (x : Int) := by
  simp only [wrap64]
  omega
/-- the greatest power of 2 below n -/
def half (n : Nat) : Nat := 2 ^ (Lib.bitLen (n - 1) - 1)
theorem half_len (n : Nat) (h2 : 2 ≤ n) (hn : n ≤ 1099511627776) : 1 ≤ Lib.bitLen (n - 1) ∧ Lib.bitLen (n - 1) ≤ 40 ∧ half n < n ∧ n ≤ 2 * half n := by
  have h1 : n - 1 < 2 ^ 64 := by omega
  have h := Lib.bitLenAux_bounds 64 (n - 1) h1 (by omega)
  have h40 := Lib.bitLen_le (n - 1) 40 (by omega) (by omega)
  unfold half
  unfold Lib.bitLen at h40 ⊢
  generalize Lib.bitLenAux 64 (n - 1) = b at h h40 ⊢
  obtain ⟨a1, a2, a3⟩ := h
  have e : 2 ^ b = 2 * 2 ^ (b - 1) := by
    rw [← Nat.pow_succ']
    congr 1
    omega
  exact ⟨a1, h40, by omega, by omega⟩
theorem half_lt (n : Nat) (h2 : 2 ≤ n) (hn : n ≤ 1099511627776) : half n < n := (half_len n h2 hn).2.2.1
theorem half_le (n : Nat) (h2 : 2 ≤ n) (hn : n ≤ 1099511627776) : n ≤ 2 * half n := (half_len n h2 hn).2.2.2
theorem half_pos (n : Nat) : 0 < half n := Nat.pow_pos (by omega)
/-- there is only one -/
theorem half_uniq (n k j : Nat) (h2 : 2 ≤ n) (hn : n ≤ 1099511627776) (hk : k = 2 ^ j) (h1 : k < n) (h3 : n ≤ 2 * k) : k = half n := by
  have a1 := half_lt n h2 hn
  have a2 := half_le n h2 hn
  unfold half at a1 a2 ⊢
  subst hk
  generalize Lib.bitLen (n - 1) - 1 = b at a1 a2 ⊢
  have e : ∀ x, 2 * 2 ^ x = 2 ^ (x + 1) := fun x => by rw [Nat.pow_succ, Nat.mul_comm]
  rw [e] at a2 h3
  have l1 : 2 ^ j < 2 ^ (b + 1) := by omega
  have l2 : 2 ^ b < 2 ^ (j + 1) := by omega
  have m1 := (Nat.pow_lt_pow_iff_right (by omega : 1 < 2)).1 l1
  have m2 := (Nat.pow_lt_pow_iff_right (by omega : 1 < 2)).1 l2
  congr 1
  omega

set_option maxRecDepth 100000 in
set_option maxHeartbeats 1000000 in
theorem split_any (n : Nat) (w : World) (h2 : 2 ≤ n) (hn : n ≤ 1099511627776) :
    Calls Tryd.prog 36 #[.int .i64 n] w fun e w' => e = .returned (.int .i64 (half n)) ∧ w = w' := by
  obtain ⟨b1, b2, b3, b4⟩ := half_len n h2 hn
  obtain ⟨b, hb⟩ : ∃ b, b = Lib.bitLen (n - 1) := ⟨_, rfl⟩
  have HH : Hid (half n = 2 ^ (b - 1)) := by unfold Hid half; rw [hb]
  rw [← hb] at b1 b2
  have HB := Lib.hid hb
  clear hb
  go_enter Tryd.func36, Tryd.ntmps36
  go_wp2_with fail
  refine (len_any ((n : Int) - 1) _ (by omega) (by omega)).mono ?_
  rintro e w' ⟨rfl, rfl⟩
  rw [show ((n : Int) - 1).toNat = n - 1 from by omega, ← HB.out]
  go_wp2_with fail
  go_ret
  refine ⟨ret_int ?_, rfl⟩
  rw [HH.out] at b3 ⊢
  have e : ((2 ^ (b - 1) : Nat) : Int) = (2 : Int) ^ (b - 1) := by rw [Int.natCast_pow]; rfl
  rw [← e]
  generalize 2 ^ (b - 1) = x at b3
  exact wrap64_small x (by omega)

set_option maxRecDepth 100000 in
set_option maxHeartbeats 1000000 in
theorem refhalf_any (n : Nat) (w : World) (h2 : 2 ≤ n) (hn : n ≤ 1099511627776) :
    Calls Tryd.prog 38 #[.int .i64 n] w fun e w' => e = .returned (.int .i64 (half n)) ∧ w = w' := by
  go_enter Tryd.func38, Tryd.ntmps38
  go_wp2_with fail
  go_loop [3] (fun v => ∃ k : Nat, v = .int .i64 k ∧ 1 ≤ k ∧ k < n ∧ Hid (∃ j, k = 2 ^ j)) (fun v => n - (intOf v).toNat)
  case atStart => exact ⟨1, rfl, by omega, by omega, 0, rfl⟩
  case round =>
    obtain ⟨k, rfl, hk1, hk2, HJ⟩ := hrel
    by_cases h : 2 * k < n
    · go_wp2_with fail
      go_round
      case rel =>
        refine ⟨2 * k, by go_num, by omega, h, ?_⟩
        obtain ⟨j, hj⟩ := HJ.out
        exact ⟨j + 1, by rw [hj, Nat.pow_succ, Nat.mul_comm]⟩
      case measure => simp [intOf]; omega
    · go_wp2_with fail
      go_ret
      obtain ⟨j, hj⟩ := HJ.out
      exact ⟨ret_int (by rw [half_uniq n k j h2 hn hj hk2 (by omega)]), rfl⟩

/-- how many steps an element has from the root -/
def stepsM : Nat → Nat → Nat → Nat
  | 0, _, _ => 0
  | f + 1, at_, n => if n ≤ 1 then 0 else if at_ < half n then 1 + stepsM f at_ (half n) else 1 + stepsM f (at_ - half n) (n - half n)
theorem stepsM_fuel : ∀ (f g a n : Nat), n ≤ f → n ≤ g → n ≤ 1099511627776 → stepsM f a n = stepsM g a n
  | 0, g, a, n, h, hg, hn => by
    have e : n = 0 := by omega
    subst e
    cases g <;> simp [stepsM]
  | f + 1, 0, a, n, h, hg, hn => by
    have e : n = 0 := by omega
    subst e
    simp [stepsM]
  | f + 1, g + 1, a, n, h, hg, hn => by
    unfold stepsM
    by_cases h1 : n ≤ 1
    · rw [if_pos h1, if_pos h1]
    · have a1 := half_lt n (by omega) hn
      have a2 := half_pos n
      rw [if_neg h1, if_neg h1, stepsM_fuel f g a (half n) (by omega) (by omega) (by omega), stepsM_fuel f g (a - half n) (n - half n) (by omega) (by omega) (by omega)]
def steps (a n : Nat) : Nat := stepsM n a n
theorem steps_one (a : Nat) : steps a 1 = 0 := rfl
theorem steps_left (a n : Nat) (h2 : 2 ≤ n) (hn : n ≤ 1099511627776) (h : a < half n) : steps a n = 1 + steps a (half n) := by
  have a1 := half_lt n h2 hn
  unfold steps
  obtain ⟨f, rfl⟩ : ∃ f, n = f + 1 := ⟨n - 1, by omega⟩
  rw [stepsM, if_neg (by omega), if_pos h, stepsM_fuel f (half (f + 1)) a (half (f + 1)) (by omega) (Nat.le_refl _) (by omega)]
theorem steps_right (a n : Nat) (h2 : 2 ≤ n) (hn : n ≤ 1099511627776) (h : ¬ a < half n) : steps a n = 1 + steps (a - half n) (n - half n) := by
  have a1 := half_lt n h2 hn
  have a2 := half_pos n
  unfold steps
  obtain ⟨f, rfl⟩ : ∃ f, n = f + 1 := ⟨n - 1, by omega⟩
  rw [stepsM, if_neg (by omega), if_neg h, stepsM_fuel f (f + 1 - half (f + 1)) (a - half (f + 1)) (f + 1 - half (f + 1)) (by omega) (Nat.le_refl _) (by omega)]
/-- a list of at most 2^k elements has at most k steps -/
theorem steps_le : ∀ (k a n : Nat), 1 ≤ n → a < n → n ≤ 2 ^ k → k ≤ 40 → steps a n ≤ k
  | 0, a, n, h1, ha, hn, _ => by
    have e : n = 1 := by simp at hn; omega
    subst e
    simp [steps_one]
  | k + 1, a, n, h1, ha, hn, hk => by
    have h40 : n ≤ 1099511627776 := Nat.le_trans hn (Nat.pow_le_pow_right (by omega) (by omega : k + 1 ≤ 40))
    by_cases h : n ≤ 2 ^ k
    · have := steps_le k a n h1 ha h (by omega)
      omega
    · have h2 : 2 ≤ n := by have := Nat.one_le_two_pow (n := k); omega
      have e : half n = 2 ^ k := (half_uniq n (2 ^ k) k h2 h40 rfl (by omega) (by rw [Nat.pow_succ] at hn; omega)).symm
      have hn' : n ≤ 2 * 2 ^ k := by rw [Nat.pow_succ] at hn; omega
      by_cases hl : a < half n
      · rw [steps_left a n h2 h40 hl]
        have := steps_le k a (half n) (by rw [e]; exact Nat.one_le_two_pow) hl (by rw [e]; exact Nat.le_refl _) (by omega)
        omega
      · rw [steps_right a n h2 h40 hl]
        have := steps_le k (a - half n) (n - half n) (by rw [e]; omega) (by omega) (by rw [e]; omega) (by omega)
        omega
theorem steps_40 (a n : Nat) (h1 : 1 ≤ n) (ha : a < n) (hn : n ≤ 1099511627776) : steps a n ≤ 40 :=
  steps_le 40 a n h1 ha hn (by omega)

set_option maxRecDepth 100000 in
set_option maxHeartbeats 1000000 in
theorem steps_any : ∀ (f n a : Nat), n ≤ f → 1 ≤ n → a < n → n ≤ 1099511627776 → ∀ w : World, Calls Tryd.prog 42 #[.int .i64 a, .int .i64 n] w fun e w' => e = .returned (.int .i64 (steps a n)) ∧ w = w'
  | 0, n, a, hf, h1, ha, hn, w => absurd h1 (by omega)
  | f + 1, n, a, hf, h1, ha, hn, w => by
    by_cases he : n = 1
    · subst he
      go_enter Tryd.func42, Tryd.ntmps42
      go_wp2_with fail
      go_ret
      exact ⟨rfl, rfl⟩
    · have h2 : 2 ≤ n := by omega
      have a1 := half_lt n h2 hn
      have a2 := half_pos n
      have hne : ((n : Int) == 1) = false := by rw [beq_eq_false_iff_ne]; omega
      by_cases hl : a < half n
      · have HE := Lib.hid (steps_left a n h2 hn hl)
        have ih := steps_any f (half n) a (by omega) (by omega) hl (by omega)
        have hs := steps_40 a (half n) (by omega) hl (by omega)
        have IH := Lib.hid ih
        clear ih
        go_enter Tryd.func42, Tryd.ntmps42
        go_wp2_with fail
        refine (split_any n _ h2 hn).mono ?_
        rintro e w' ⟨rfl, rfl⟩
        go_wp2_with fail
        refine (IH.out _).mono ?_
        rintro e w' ⟨rfl, rfl⟩
        go_wp2_with fail
        go_ret
        exact ⟨ret_int (by rw [HE.out]; omega), rfl⟩
      · have HE := Lib.hid (steps_right a n h2 hn hl)
        have ih := steps_any f (n - half n) (a - half n) (by omega) (by omega) (by omega) (by omega)
        have hs := steps_40 (a - half n) (n - half n) (by omega) (by omega) (by omega)
        rw [show ((a - half n : Nat) : Int) = (a : Int) - (half n : Int) by omega, show ((n - half n : Nat) : Int) = (n : Int) - (half n : Int) by omega] at ih
        have IH := Lib.hid ih
        clear ih
        go_enter Tryd.func42, Tryd.ntmps42
        go_wp2_with fail
        refine (split_any n _ h2 hn).mono ?_
        rintro e w' ⟨rfl, rfl⟩
        go_wp2_with fail
        refine (IH.out _).mono ?_
        rintro e w' ⟨rfl, rfl⟩
        go_wp2_with fail
        go_ret
        exact ⟨ret_int (by rw [HE.out]; omega), rfl⟩

set_option maxRecDepth 100000 in
set_option maxHeartbeats 1000000 in
theorem reflength_any : ∀ (f n a : Nat), n ≤ f → 1 ≤ n → a < n → n ≤ 1099511627776 → ∀ w : World, Calls Tryd.prog 44 #[.int .i64 a, .int .i64 n] w fun e w' => e = .returned (.int .i64 (steps a n)) ∧ w = w'
  | 0, n, a, hf, h1, ha, hn, w => absurd h1 (by omega)
  | f + 1, n, a, hf, h1, ha, hn, w => by
    by_cases he : n = 1
    · subst he
      go_enter Tryd.func44, Tryd.ntmps44
      go_wp2_with fail
      go_ret
      exact ⟨rfl, rfl⟩
    · have h2 : 2 ≤ n := by omega
      have a1 := half_lt n h2 hn
      have a2 := half_pos n
      have hne : ((n : Int) == 1) = false := by rw [beq_eq_false_iff_ne]; omega
      by_cases hl : a < half n
      · have HE := Lib.hid (steps_left a n h2 hn hl)
        have ih := reflength_any f (half n) a (by omega) (by omega) hl (by omega)
        have hs := steps_40 a (half n) (by omega) hl (by omega)
        have IH := Lib.hid ih
        clear ih
        go_enter Tryd.func44, Tryd.ntmps44
        go_wp2_with fail
        refine (refhalf_any n _ h2 hn).mono ?_
        rintro e w' ⟨rfl, rfl⟩
        go_wp2_with fail
        refine (IH.out _).mono ?_
        rintro e w' ⟨rfl, rfl⟩
        go_wp2_with fail
        go_ret
        exact ⟨ret_int (by rw [HE.out]; omega), rfl⟩
      · have HE := Lib.hid (steps_right a n h2 hn hl)
        have ih := reflength_any f (n - half n) (a - half n) (by omega) (by omega) (by omega) (by omega)
        have hs := steps_40 (a - half n) (n - half n) (by omega) (by omega) (by omega)
        rw [show ((a - half n : Nat) : Int) = (a : Int) - (half n : Int) by omega, show ((n - half n : Nat) : Int) = (n : Int) - (half n : Int) by omega] at ih
        have IH := Lib.hid ih
        clear ih
        go_enter Tryd.func44, Tryd.ntmps44
        go_wp2_with fail
        refine (refhalf_any n _ h2 hn).mono ?_
        rintro e w' ⟨rfl, rfl⟩
        go_wp2_with fail
        refine (IH.out _).mono ?_
        rintro e w' ⟨rfl, rfl⟩
        go_wp2_with fail
        go_ret
        exact ⟨ret_int (by rw [HE.out]; omega), rfl⟩

end Go.Proofs.YtfolmglafnfcbaaDoor
