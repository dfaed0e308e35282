/- Words of 32 bits: what the walks write, and what they come to. -/
import Derived.Test.YtfolmglafnfcbaaDoorProg
import Derived.WalkKit
namespace Go.Proofs.YtfolmglafnfcbaaDoor
open Go.RowKit

/-- a rotation by s bits to the right -/
def rorI (v s : Int) : Int := bits .or .u32 (v / 2 ^ s.toNat) (v * 2 ^ (32 - s).toNat % 4294967296)

theorem bits_or_comm (k : IntKind) (x y : Int) : bits .or k x y = bits .or k y x := by
  unfold bits
  simp only [BitVec.or_comm]

theorem and31_nat : ∀ n : Nat, n < 32 → 0 < n → bits .and .u64 (IntKind.u64.wrap (-(n : Int))) 31 = 32 - (n : Int) := by decide
theorem and31 (s : Int) (h0 : 0 < s) (h1 : s < 32) : bits .and .u64 (IntKind.u64.wrap (-s)) 31 = 32 - s := by
  obtain ⟨n, rfl⟩ := Int.eq_ofNat_of_zero_le (Int.le_of_lt h0)
  exact and31_nat n (by omega) (by omega)

/-- a word's range -/
def U32 (x : Int) : Prop := 0 ≤ x ∧ x ≤ 4294967295

theorem wrap_u32_mod (x : Int) : IntKind.wrap .u32 x = x % 4294967296 := by
  simp [IntKind.wrap, IntKind.signed, IntKind.bits]
theorem wrap_u32_nat (n : Nat) (h : n < 4294967296) : IntKind.wrap .u32 (n : Int) = (n : Int) := by
  have e : IntKind.wrap .u32 (n : Int) = (n : Int) % 4294967296 := by
    simp [IntKind.wrap, IntKind.signed, IntKind.bits]
  rw [e]
  omega
theorem wrap_u8_nat (n : Nat) (h : n < 256) : IntKind.wrap .u8 (n : Int) = (n : Int) := by
  have e : IntKind.wrap .u8 (n : Int) = (n : Int) % 256 := by
    simp [IntKind.wrap, IntKind.signed, IntKind.bits]
  rw [e]
  omega
theorem bits_u32 (op : BinOp) (x y : Int) : U32 (bits op .u32 x y) := by
  obtain ⟨v, hv⟩ : ∃ v : BitVec 32, bits op .u32 x y = IntKind.wrap .u32 (v.toNat : Int) := ⟨_, rfl⟩
  have h := v.isLt
  rw [hv, wrap_u32_nat _ h]
  unfold U32
  omega
theorem rorI_u32 (v s : Int) : U32 (rorI v s) := bits_u32 _ _ _
theorem mod_u32 (x : Int) : U32 (x % 4294967296) := by unfold U32; omega

theorem ofNat_toNat (n : Nat) (h : n < 4294967296) : (BitVec.ofInt 32 (n : Int)).toNat = n := by
  rw [BitVec.ofInt_natCast, BitVec.toNat_ofNat]
  exact Nat.mod_eq_of_lt h
theorem or_nat (a b : Nat) (ha : a < 4294967296) (hb : b < 4294967296) : bits .or .u32 (a : Int) (b : Int) = ((a ||| b : Nat) : Int) := by
  have e : bits .or .u32 (a : Int) (b : Int) = IntKind.wrap .u32 (((BitVec.ofInt 32 (a : Int)) ||| (BitVec.ofInt 32 (b : Int))).toNat : Int) := rfl
  rw [e, BitVec.toNat_or, ofNat_toNat a ha, ofNat_toNat b hb, wrap_u32_nat _ (Nat.or_lt_two_pow (n := 32) ha hb)]
theorem xor_nat (a b : Nat) (ha : a < 4294967296) (hb : b < 4294967296) : bits .xor .u32 (a : Int) (b : Int) = ((a ^^^ b : Nat) : Int) := by
  have e : bits .xor .u32 (a : Int) (b : Int) = IntKind.wrap .u32 (((BitVec.ofInt 32 (a : Int)) ^^^ (BitVec.ofInt 32 (b : Int))).toNat : Int) := rfl
  rw [e, BitVec.toNat_xor, ofNat_toNat a ha, ofNat_toNat b hb, wrap_u32_nat _ (Nat.xor_lt_two_pow (n := 32) ha hb)]
theorem and_nat (a b : Nat) (ha : a < 4294967296) (hb : b < 4294967296) : bits .and .u32 (a : Int) (b : Int) = ((a &&& b : Nat) : Int) := by
  have e : bits .and .u32 (a : Int) (b : Int) = IntKind.wrap .u32 (((BitVec.ofInt 32 (a : Int)) &&& (BitVec.ofInt 32 (b : Int))).toNat : Int) := rfl
  rw [e, BitVec.toNat_and, ofNat_toNat a ha, ofNat_toNat b hb, wrap_u32_nat _ (Nat.and_lt_two_pow (n := 32) _ hb)]
/-- or of two numbers that have no bit in common is their sum -/
theorem or_add (a b i : Nat) (hb : b < 2 ^ i) (h : a * 2 ^ i + b < 4294967296) : bits .or .u32 ((a * 2 ^ i : Nat) : Int) (b : Int) = ((a * 2 ^ i + b : Nat) : Int) := by
  rw [or_nat _ _ (by omega) (by omega), ← Nat.shiftLeft_eq, ← Nat.shiftLeft_add_eq_or_of_lt hb]
end Go.Proofs.YtfolmglafnfcbaaDoor
