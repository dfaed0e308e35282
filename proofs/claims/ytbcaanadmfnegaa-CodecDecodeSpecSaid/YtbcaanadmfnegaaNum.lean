/- Contracts of the numerals' small functions of package codec and of its reference. -/
import Derived.Test.YtbcaanadmfnegaaProg
import Derived.WalkKit
import Derived.WalkSpells
import Derived.WalkLawsBesides
import Derived.Lib.Hide
namespace Go.Proofs.Ytbcaanadmfnegaa
open Go.RowKit

theorem ret_int {k : IntKind} {a b : Int} (h : a = b) : Ending.returned (.int k a) = .returned (.int k b) := by rw [h]

/-- how many digits to the base 128 -/
def digs (u : Nat) : Nat := if u < 128 then 1 else digs (u / 128) + 1
termination_by u
decreasing_by omega

theorem digs_pos (u : Nat) : 1 ≤ digs u := by unfold digs; split <;> omega
theorem digs_lt {u : Nat} (h : u < 128) : digs u = 1 := by unfold digs; rw [if_pos h]
theorem digs_ge {u : Nat} (h : ¬ u < 128) : digs u = digs (u / 128) + 1 := by rw [digs, if_neg h]
theorem digs_le (n : Nat) : ∀ u, u < 128 ^ (n + 1) → digs u ≤ n + 1 := by
  induction n with
  | zero => intro u h; rw [digs_lt (by simpa using h)]; omega
  | succ n ih =>
    intro u h
    by_cases hu : u < 128
    · rw [digs_lt hu]; omega
    · rw [digs_ge hu]
      have := ih (u / 128) (by rw [Nat.pow_succ] at h; omega)
      omega
theorem digs_ten {u : Nat} (h : u ≤ 18446744073709551615) : digs u ≤ 10 := digs_le 9 u (by omega)

set_option maxRecDepth 100000 in
set_option maxHeartbeats 400000 in
theorem sizeNumeral_any (u : Int) (h0 : 0 ≤ u) (h1 : u ≤ 18446744073709551615) (w : World) :
    Calls Try.prog 55 #[.int .u64 u] w fun e w' => e = .returned (.int .i64 (digs u.toNat)) ∧ w = w' := by
  obtain ⟨u, rfl⟩ := Int.eq_ofNat_of_zero_le h0
  go_enter Try.func55, Try.ntmps55
  go_wp2
  go_loop [0, 3] (fun t i => ∃ k n : Nat, k ≤ u ∧ t = .int .u64 k ∧ i = .int .i64 n ∧ 1 ≤ n ∧ n + digs k = digs u + 1) (fun t _ => (intOf t).toNat)
  case atStart => exact ⟨u, 1, Nat.le_refl _, rfl, rfl, by omega, by omega⟩
  case round =>
    obtain ⟨k, n, hk, rfl, rfl, hn, hd⟩ := hrel
    have hp := digs_pos (k / 128)
    have hu : digs u ≤ 10 := digs_ten (by omega)
    have hn10 : n ≤ 10 := by have := digs_pos k; omega
    by_cases hlt : k < 128
    · have e : n = digs u := by rw [digs_lt hlt] at hd; omega
      have E := Lib.hid e
      clear e hd
      go_wp2
      go_ret
      exact ⟨by rw [E.out]; rfl, rfl⟩
    · have e : n + 1 + digs (k / 128) = digs u + 1 := by rw [digs_ge hlt] at hd; omega
      have E := Lib.hid e
      clear e hd
      go_wp2
      go_round
      case rel => exact ⟨k / 128, n + 1, by omega, by go_num, by go_num, by omega, E.out⟩
      case measure => simp [intOf]; omega

/-- the unsigned form -/
def uform (n : Int) : Int := if n < 0 then -2 * n - 1 else 2 * n
theorem uform_bd (n : Int) (h0 : -9223372036854775808 ≤ n) (h1 : n ≤ 9223372036854775807) : 0 ≤ uform n ∧ uform n ≤ 18446744073709551615 := by unfold uform; split <;> omega

set_option maxRecDepth 100000 in
set_option maxHeartbeats 400000 in
theorem unsigned_any (n : Int) (h0 : -9223372036854775808 ≤ n) (h1 : n ≤ 9223372036854775807) (w : World) :
    Calls Try.prog 56 #[.int .i64 n] w fun e w' => e = .returned (.int .u64 (uform n)) ∧ w = w' := by
  by_cases hn : n < 0
  · have e : uform n = -2 * n - 1 := by unfold uform; rw [if_pos hn]
    have E := Lib.hid e
    clear e
    go_enter Try.func56, Try.ntmps56
    go_wp2
    go_ret
    exact ⟨by rw [E.out]; exact ret_int (by omega), rfl⟩
  · have e : uform n = 2 * n := by unfold uform; rw [if_neg hn]
    have E := Lib.hid e
    clear e
    go_enter Try.func56, Try.ntmps56
    go_wp2
    go_ret
    exact ⟨by rw [E.out]; exact ret_int (by omega), rfl⟩

set_option maxRecDepth 100000 in
set_option maxHeartbeats 400000 in
theorem refUnsigned_any (n : Int) (h0 : -9223372036854775808 ≤ n) (h1 : n ≤ 9223372036854775807) (w : World) :
    Calls Try.prog 40 #[.int .i64 n] w fun e w' => e = .returned (.int .u64 (uform n)) ∧ w = w' := by
  by_cases hn : n < 0
  · have e : uform n = -2 * n - 1 := by unfold uform; rw [if_pos hn]
    have E := Lib.hid e
    clear e
    go_enter Try.func40, Try.ntmps40
    go_wp2
    go_ret
    exact ⟨by rw [E.out]; exact ret_int (by omega), rfl⟩
  · have e : uform n = 2 * n := by unfold uform; rw [if_neg hn]
    have E := Lib.hid e
    clear e
    go_enter Try.func40, Try.ntmps40
    go_wp2
    go_ret
    exact ⟨by rw [E.out]; exact ret_int (by omega), rfl⟩

/-- the integer of an unsigned form -/
def sform (u : Int) : Int := if u % 2 = 1 then -(u / 2) - 1 else u / 2
theorem sform_bd (u : Int) (h0 : 0 ≤ u) (h1 : u ≤ 18446744073709551615) : -9223372036854775808 ≤ sform u ∧ sform u ≤ 9223372036854775807 := by unfold sform; split <;> omega
theorem sform_uform (n : Int) : sform (uform n) = n := by unfold sform uform; split <;> split <;> omega
theorem uform_sform (u : Int) (h0 : 0 ≤ u) : uform (sform u) = u := by unfold sform uform; split <;> split <;> omega

set_option maxRecDepth 100000 in
set_option maxHeartbeats 400000 in
theorem signed_any (u : Int) (h0 : 0 ≤ u) (h1 : u ≤ 18446744073709551615) (w : World) :
    Calls Try.prog 58 #[.int .u64 u] w fun e w' => e = .returned (.int .i64 (sform u)) ∧ w = w' := by
  by_cases hn : u % 2 = 1
  · have e : sform u = -(u / 2) - 1 := by unfold sform; rw [if_pos hn]
    have E := Lib.hid e
    have hb : (u % 2 == 1) = true := by simpa using hn
    clear e hn
    go_enter Try.func58, Try.ntmps58
    go_wp2
    go_ret
    exact ⟨by rw [E.out]; exact ret_int (by omega), rfl⟩
  · have e : sform u = u / 2 := by unfold sform; rw [if_neg hn]
    have E := Lib.hid e
    have hb : (u % 2 == 1) = false := by simpa using hn
    clear e hn
    go_enter Try.func58, Try.ntmps58
    go_wp2
    go_ret
    exact ⟨by rw [E.out]; exact ret_int (by omega), rfl⟩

end Go.Proofs.Ytbcaanadmfnegaa
