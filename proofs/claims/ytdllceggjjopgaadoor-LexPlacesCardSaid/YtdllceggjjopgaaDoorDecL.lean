/- Contracts of Decimal, of a law's spelled, and of word. -/
import Derived.Test.YtdllceggjjopgaaDoorTextL
import Derived.Laws.IdiomStrings
import Derived.Laws.BytesString
import Derived.Lib.AppendIntMem
import Derived.Lib.ItoaMem
namespace Go.Proofs.YtdllceggjjopgaaDoor
open Go.RowKit

/-- the last digit, as a byte -/
def lastB (k : Nat) : UInt8 := UInt8.ofNat (48 + k % 10)
/-- the digits ahead of the last ones -/
def headD (k : Nat) : List UInt8 := if k < 10 then [] else Lib.decDigits (k / 10)
theorem dec_head (k : Nat) : Lib.decDigits k = headD k ++ [lastB k] := by
  unfold headD lastB
  rw [Lib.decDigits]
  by_cases h : k < 10
  · rw [dif_pos h, if_pos h, Nat.mod_eq_of_lt h]
    rfl
  · rw [dif_neg h, if_neg h]
theorem head_step {k : Nat} (h : ¬ k < 10) : headD k = headD (k / 10) ++ [lastB (k / 10)] := by
  conv => lhs; unfold headD
  rw [if_neg h, dec_head]

/-- string([]byte{x}) -/
theorem conv_one (x : Int) (c : UInt8) (hx : x = (c.toNat : Int)) (w : World) :
    (convert 39 9 (.slice (some ⟨w.heap.size, 0, none⟩) 1 1)).run Tryd.prog (w.alloc (.cells #[.int .u8 x] 5)) = .ok (.string ⟨[c].toArray⟩) (w.alloc (.cells #[.int .u8 x] 5)) := by
  subst hx
  refine run_convert_bytes_back _ 39 9 _ ⟨w.heap.size, 0, none⟩ 1 [c] Tryd.underlying39 Tryd.underlying5 Tryd.underlying9 (fun j hj => ?_)
  rw [add_lit', Nat.zero_add, cell_of_row _ _ j _ _ _ (heap_alloc_new _ _)]
  have hj0 : j = 0 := by simp at hj; omega
  subst hj0
  rfl
theorem dig_byte (k : Nat) : 48 + (k : Int) % 10 = ((lastB k).toNat : Int) := by
  unfold lastB
  have h : (UInt8.ofNat (48 + k % 10)).toNat = 48 + k % 10 := by
    rw [UInt8.toNat_ofNat']
    omega
  rw [h]
  omega

theorem dec_len_eq (u : Nat) : (Lib.decDigits u).length = Lib.nDigits u := by rw [Lib.decDigits_eq]; simp
theorem nDig_le : ∀ (k u : Nat), u < 10 ^ (k + 1) → Lib.nDigits u ≤ k + 1
  | 0, u, h => by rw [Lib.nDigits_small (by simpa using h)]; omega
  | k + 1, u, h => by
    by_cases hu : u < 10
    · rw [Lib.nDigits_small hu]; omega
    · rw [Lib.nDigits_big hu]
      have := nDig_le k (u / 10) (by rw [Nat.pow_succ] at h; omega)
      omega
theorem dec_len {u : Nat} (h : u ≤ 1099511627776) : 1 ≤ (Lib.decDigits u).length ∧ (Lib.decDigits u).length ≤ 13 := by
  rw [dec_len_eq]
  exact ⟨Lib.nDigits_pos u, nDig_le 12 u (by omega)⟩

set_option maxRecDepth 100000 in
set_option maxHeartbeats 1000000 in
theorem decimal_any (u : Nat) (hu : u ≤ 1099511627776) (w : World) :
    Calls Tryd.prog 35 #[.int .i64 u] w fun e w' => e = .returned (.string ⟨(Lib.decDigits u).toArray⟩) ∧ Below w.heap.size w w' := by
  have hcv := conv_one (48 + (u : Int) % 10) _ (dig_byte u) w
  go_enter Tryd.func35, Tryd.ntmps35
  go_wp2_with fail
  clear hcv
  go_loopw [0, 3] (fun a s wr => ∃ (k : Nat) (x : List UInt8), a = .int .i64 k ∧ s = .string ⟨x.toArray⟩ ∧ k ≤ u ∧ Hid (Lib.decDigits u = headD k ++ x) ∧ Hid (Below w.heap.size w wr)) (fun a _ _ => (intOf a).toNat)
  case atStart => exact ⟨u, _, rfl, rfl, Nat.le_refl _, dec_head u, Below.new1 _ _⟩
  case round =>
    obtain ⟨k, x, rfl, rfl, hk, HD, HB⟩ := hrel
    by_cases h : k < 10
    · have HE : Hid (Lib.decDigits u = x) := by
        have e := HD.out
        unfold headD at e
        rw [if_pos h] at e
        exact e
      clear HD
      go_wp2_with fail
      go_ret
      exact ⟨by rw [HE.out]; rfl, HB.out⟩
    · have HD2 : Hid (Lib.decDigits u = headD (k / 10) ++ ([lastB (k / 10)] ++ x)) := by
        unfold Hid
        rw [HD.out, head_step h, List.append_assoc]
      have hxl : x.length ≤ 13 := by
        have e := congrArg List.length HD.out
        rw [List.length_append] at e
        have := (dec_len hu).2
        omega
      have hcv := conv_one (48 + (k : Int) / 10 % 10) _ (by have := dig_byte (k / 10); rw [← this]; omega) wr
      have zr := HB.out.size
      clear HD
      go_wp2_with fail
      clear hcv
      go_roundw
      case rel => exact ⟨k / 10, _, by go_num, rfl, by omega, HD2, HB.out.alloc zr _⟩
      case measure => simp [intOf]; omega

/-- what a token is in a source -/
def wordL (t : Tk) : List UInt8 := if t.kind = 2 then Lib.decDigits t.n.toNat else t.text
theorem wordL_num (p n : Int) (x : List UInt8) : wordL ⟨2, p, x, n⟩ = Lib.decDigits n.toNat := rfl
theorem wordL_txt {k p n : Int} {x : List UInt8} (h : ¬ k = 2) : wordL ⟨k, p, x, n⟩ = x := by unfold wordL; rw [if_neg h]

set_option maxRecDepth 100000 in
set_option maxHeartbeats 1000000 in
theorem word_any (k p n : Int) (x : List UInt8) (hn : k = 2 → 0 ≤ n ∧ n ≤ 1099511627776) (w : World) (hK : KOK w) :
    Calls Tryd.prog 32 #[.agg #[.int .i64 k, .int .i64 p, .string ⟨x.toArray⟩, .int .i64 n]] w fun e w' => e = .returned (.string ⟨(wordL ⟨k, p, x, n⟩).toArray⟩) ∧ Below w.heap.size w w' := by
  have HB : Hid (Below w.heap.size w (w.alloc (.cells #[.int .i64 k, .int .i64 p, .string ⟨x.toArray⟩, .int .i64 n] 35))) := Below.new1 _ _
  have HK : Hid (KOK (w.alloc (.cells #[.int .i64 k, .int .i64 p, .string ⟨x.toArray⟩, .int .i64 n] 35))) := hK.below HB.out hK.pos
  clear hK
  by_cases h : k = 2
  · subst h
    obtain ⟨u, rfl⟩ := Int.eq_ofNat_of_zero_le (hn rfl).1
    have h1 := (hn rfl).2
    have HE : Hid (wordL ⟨2, p, x, (u : Int)⟩ = Lib.itoa (u : Int)) := by unfold Hid; rw [wordL_num, Lib.itoa_nonneg]; rfl
    clear hn
    go_enter Tryd.func32, Tryd.ntmps32
    go_wp2_with fail
    refine (Tryd.strconv_Itoa (u : Int) (by omega) (by omega) _ HK.out.2).mono ?_
    rintro e w' ⟨rfl, hw⟩
    have HW : Hid (Below w.heap.size w w') := by
      obtain ⟨k, os, rfl⟩ := hw
      exact HB.out.trans (Lib.below_grow _ _ HB.out.size k os)
    clear hw
    rw [← HE.out]
    go_wp2_with fail
    go_ret
    exact ⟨rfl, HW.out⟩
  · have HE : Hid (wordL ⟨k, p, x, n⟩ = x) := wordL_txt h
    have q := beq_off h
    clear h hn
    go_enter Tryd.func32, Tryd.ntmps32
    go_wp2_with fail
    go_ret
    exact ⟨by rw [HE.out]; rfl, HB.out⟩

set_option maxRecDepth 100000 in
set_option maxHeartbeats 1000000 in
theorem spelled_any (k p n : Int) (x : List UInt8) (hn : k = 2 → 0 ≤ n ∧ n ≤ 1099511627776) (w : World) :
    Calls Tryd.prog 23 #[.agg #[.int .i64 k, .int .i64 p, .string ⟨x.toArray⟩, .int .i64 n]] w fun e w' => e = .returned (.string ⟨(wordL ⟨k, p, x, n⟩).toArray⟩) ∧ Below w.heap.size w w' := by
  have HB : Hid (Below w.heap.size w (w.alloc (.cells #[.int .i64 k, .int .i64 p, .string ⟨x.toArray⟩, .int .i64 n] 35))) := Below.new1 _ _
  by_cases h : k = 2
  · subst h
    obtain ⟨u, rfl⟩ := Int.eq_ofNat_of_zero_le (hn rfl).1
    have h1 := (hn rfl).2
    have HE : Hid (wordL ⟨2, p, x, (u : Int)⟩ = Lib.decDigits u) := rfl
    have q : ((2 : Int) != 2) = false := rfl
    have HLN : Hid ((Lib.decDigits u).length ≤ 13) := (dec_len (by omega)).2
    clear hn
    go_enter Tryd.func23, Tryd.ntmps23
    go_wp2_with fail
    go_loopw [3, 4] (fun s a wr => ∃ (k : Nat) (y : List UInt8), a = .int .i64 k ∧ s = .string ⟨y.toArray⟩ ∧ k ≤ u ∧ Hid (Lib.decDigits u = Lib.decDigits k ++ y) ∧ Hid (Below w.heap.size w wr)) (fun _ a _ => (intOf a).toNat)
    case atStart => exact ⟨u, [], rfl, rfl, Nat.le_refl _, by unfold Hid; simp, HB⟩
    case round =>
      obtain ⟨k, y, rfl, rfl, hk, HD, HBr⟩ := hrel
      have hyl : y.length ≤ 13 := by
        have e := congrArg List.length HD.out
        rw [List.length_append] at e
        have := HLN.out
        omega
      have hcv := conv_one (48 + (k : Int) % 10) _ (dig_byte k) wr
      have zr := HBr.out.size
      by_cases h : k < 10
      · have HF : Hid (Lib.decDigits u = [lastB k] ++ y) := by
          have e := HD.out
          rw [dec_head k] at e
          unfold headD at e
          rw [if_pos h] at e
          exact e
        clear HD
        go_wp2_with fail
        go_ret
        exact ⟨by rw [HE.out, HF.out]; rfl, HBr.out.alloc zr _⟩
      · have HD2 : Hid (Lib.decDigits u = Lib.decDigits (k / 10) ++ ([lastB k] ++ y)) := by
          have e := HD.out
          rw [dec_head k] at e
          unfold headD at e
          rw [if_neg h, List.append_assoc] at e
          exact e
        clear HD
        go_wp2_with fail
        clear hcv
        go_roundw
        case rel => exact ⟨k / 10, _, by go_num, rfl, by omega, HD2, HBr.out.alloc zr _⟩
        case measure => simp [intOf]; omega
  · have HE : Hid (wordL ⟨k, p, x, n⟩ = x) := wordL_txt h
    have q : (k != 2) = true := by simpa using h
    clear h hn
    go_enter Tryd.func23, Tryd.ntmps23
    go_wp2_with fail
    go_ret
    exact ⟨by rw [HE.out]; rfl, HB.out⟩
end Go.Proofs.YtdllceggjjopgaaDoor
