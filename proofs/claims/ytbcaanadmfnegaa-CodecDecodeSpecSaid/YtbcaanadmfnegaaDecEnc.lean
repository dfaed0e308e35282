/- Decoding what was encoded: integers. -/
import Derived.Test.YtbcaanadmfnegaaCons
import Derived.Test.YtbcaanadmfnegaaEnc
namespace Go.Proofs.Ytbcaanadmfnegaa
open Go.RowKit

theorem rnum_num (x : Nat) : ∀ (s u : Nat) (rest : List UInt8), x * 2 ^ s < 18446744073709551616 → (0 < s → 0 < x) → u < 2 ^ s → rnum s u (num x ++ rest) = some (u + x * 2 ^ s, rest) := by
  induction x using Nat.strongRecOn with
  | _ x ih =>
    intro s u rest hx hs hu
    have hs64 : min s 64 = s := by
      rcases Nat.lt_or_ge s 64 with h | h
      · omega
      · have h1 : 2 ^ 64 ≤ 2 ^ s := Nat.pow_le_pow_right (by omega) h
        have h2 : 0 < x := hs (by omega)
        have h3 : 1 * 2 ^ s ≤ x * 2 ^ s := Nat.mul_le_mul_right _ h2
        omega
    have hp : 0 < 2 ^ s := Nat.pow_pos (by omega)
    rw [num]
    by_cases h : x < 128
    · rw [if_pos h, List.singleton_append, rnum, hs64]
      have hb : (UInt8.ofNat x).toNat = x := by simp; omega
      rw [hb, Nat.mod_eq_of_lt h, Nat.mod_eq_of_lt hx, Nat.mul_div_cancel _ hp, if_neg (by omega), if_pos h]
      have : u ||| x * 2 ^ s = u + x * 2 ^ s := by
        rw [Nat.or_comm, Nat.mul_comm, ← Nat.two_pow_add_eq_or_of_lt hu]; omega
      rw [this]
    · rw [if_neg h, List.cons_append, rnum, hs64]
      have hb : (UInt8.ofNat (x % 128 + 128)).toNat = x % 128 + 128 := by simp; omega
      have hm : (x % 128 + 128) % 128 = x % 128 := by omega
      have hle : x % 128 * 2 ^ s ≤ x * 2 ^ s := Nat.mul_le_mul_right _ (Nat.mod_le _ _)
      rw [hb, hm, Nat.mod_eq_of_lt (by omega), Nat.mul_div_cancel _ hp, if_neg (by omega), if_neg (by omega)]
      have hor : u ||| x % 128 * 2 ^ s = u + x % 128 * 2 ^ s := by
        rw [Nat.or_comm, Nat.mul_comm, ← Nat.two_pow_add_eq_or_of_lt hu]; omega
      have h7 : 2 ^ (s + 7) = 128 * 2 ^ s := by rw [Nat.pow_add]; omega
      have hd : x / 128 * 2 ^ (s + 7) + x % 128 * 2 ^ s = x * 2 ^ s := by
        rw [h7, ← Nat.mul_assoc, ← Nat.add_mul, Nat.div_add_mod']
      have hr : x % 128 * 2 ^ s ≤ 127 * 2 ^ s := Nat.mul_le_mul_right _ (by omega)
      rw [hor, ih (x / 128) (by omega) (s + 7) _ rest (by omega) (by omega) (by omega)]
      congr 2
      omega
theorem rnum_num0 (x : Nat) (rest : List UInt8) (hx : x < 18446744073709551616) : rnum 0 0 (num x ++ rest) = some (x, rest) := by
  rw [rnum_num x 0 0 rest (by omega) (by omega) (by simp)]
  simp

theorem rint_num (n : Int) (h : I64 n) (rest : List UInt8) : rint (num (uform n).toNat ++ rest) = some (.mk 1 n ⟨#[]⟩ [], rest) := by
  have hb := uform_bd n h.1 h.2
  rw [rint, rnum_num0 _ _ (by omega)]
  simp only
  rw [show (((uform n).toNat : Nat) : Int) = uform n by omega, sform_uform]
theorem dec_int (n : Int) (h : I64 n) : dec (V.enc (.mk 1 n ⟨#[]⟩ [])) = some (.mk 1 n ⟨#[]⟩ []) := by
  have := rint_num n h []
  rw [List.append_nil] at this
  rw [dec, V.enc, if_pos rfl, rval, if_pos rfl, this]

theorem digs_mono (x : Nat) : ∀ y, y ≤ x → digs y ≤ digs x := by
  induction x using Nat.strongRecOn with
  | _ x ih =>
    intro y hy
    by_cases h : y < 128
    · rw [digs_lt h]; exact digs_pos x
    · rw [digs_ge h, digs_ge (u := x) (by omega)]
      have := ih (x / 128) (by omega) (y / 128) (by omega)
      omega
theorem enc_int_len (n : Int) : (V.enc (.mk 1 n ⟨#[]⟩ [])).length = 1 + digs (uform n).toNat := by
  rw [V.enc, if_pos rfl, List.length_cons, num_length]; omega
theorem int_check (n : Int) : V.check (.mk 1 n ⟨#[]⟩ []) = 0 := by
  simp [V.check, V.form, V.depth, bareB, V.formAll, V.depthAll]
end Go.Proofs.Ytbcaanadmfnegaa
