/- The padded bytes, the states behind them, the hash: plain mathematics. -/
import Derived.Test.YtfolmglafnfcbaaDoorOwn
namespace Go.Proofs.YtfolmglafnfcbaaDoor
open Go.RowKit

/-- byte i, from the right, of the number of bits -/
def lenByte (many i : Nat) : UInt8 := UInt8.ofNat (many * 8 / 2 ^ (8 * i))
/-- the last i bytes of the number of bits -/
def lenTail (many : Nat) : Nat → List UInt8
  | 0 => []
  | i + 1 => lenByte many i :: lenTail many i
theorem lenTail_length (many i : Nat) : (lenTail many i).length = i := by
  induction i with
  | zero => rfl
  | succ i ih => simp [lenTail, ih]
/-- how many bytes the last blocks have -/
def padSize (n : Nat) : Nat := if 64 < n + 9 then 128 else 64
def padPre (rest : List UInt8) : List UInt8 := rest ++ (128 :: List.replicate (padSize rest.length - rest.length - 9) 0)
def padTail (rest : List UInt8) (many : Nat) : List UInt8 := padPre rest ++ lenTail many 8
theorem padPre_length (rest : List UInt8) (h : rest.length < 64) : (padPre rest).length = padSize rest.length - 8 := by
  unfold padPre
  rw [List.length_append, List.length_cons, List.length_replicate]
  unfold padSize
  split <;> omega
theorem padTail_length (rest : List UInt8) (many : Nat) (h : rest.length < 64) : (padTail rest many).length = padSize rest.length := by
  unfold padTail
  rw [List.length_append, padPre_length rest h, lenTail_length]
  unfold padSize
  split <;> omega
/-- the last blocks while the length is written -/
def padTo (rest : List UInt8) (many i : Nat) : List UInt8 := padPre rest ++ (List.replicate (8 - i) 0 ++ lenTail many i)
theorem padTo_zero (rest : List UInt8) (many : Nat) (h : rest.length < 64) : (rest ++ List.replicate (padSize rest.length - rest.length) 0).set rest.length 128 = padTo rest many 0 := by
  have e : padSize rest.length - rest.length = (padSize rest.length - rest.length - 9) + 1 + 8 := by
    unfold padSize
    split <;> omega
  rw [e]
  unfold padTo padPre
  rw [List.set_append_right _ _ (Nat.le_refl _), Nat.sub_self]
  generalize padSize rest.length - rest.length - 9 = z
  rw [List.append_assoc]
  congr 1
  rw [show z + 1 + 8 = (z + 8) + 1 by omega, List.replicate_succ, List.set_cons_zero, List.cons_append, ← List.replicate_append_replicate]
  simp [lenTail]
theorem padTo_step (rest : List UInt8) (many i : Nat) (h : i < 8) : (padTo rest many i).set ((padPre rest).length + (7 - i)) (lenByte many i) = padTo rest many (i + 1) := by
  unfold padTo
  rw [List.set_append_right _ _ (by omega)]
  congr 1
  rw [show (padPre rest).length + (7 - i) - (padPre rest).length = 7 - i by omega, show 8 - i = (7 - i) + 1 by omega, show 8 - (i + 1) = 7 - i by omega]
  generalize 7 - i = k
  rw [← List.replicate_append_replicate, List.append_assoc, List.set_append_right _ _ (by simp)]
  simp [lenTail]
theorem padTo_all (rest : List UInt8) (many : Nat) : padTo rest many 8 = padTail rest many := by
  unfold padTo padTail
  simp
theorem padTo_length (rest : List UInt8) (many i : Nat) (h : rest.length < 64) (hi : i ≤ 8) : (padTo rest many i).length = padSize rest.length := by
  unfold padTo
  rw [List.length_append, List.length_append, List.length_replicate, lenTail_length, padPre_length rest h]
  unfold padSize
  split <;> omega

/-- the state behind k blocks of l -/
def runTo (l : List UInt8) (s : St) : Nat → St
  | 0 => s
  | k + 1 => blockSt ((l.drop (64 * k)).take 64) (runTo l s k)
theorem runTo_u (l : List UInt8) {s : St} (h : s.U) (k : Nat) : (runTo l s k).U := by
  cases k with
  | zero => exact h
  | succ k => exact blockSt_u _ _
theorem runTo_left (l m : List UInt8) (s : St) (k : Nat) (h : 64 * k ≤ l.length) : runTo (l ++ m) s k = runTo l s k := by
  induction k with
  | zero => rfl
  | succ k ih =>
    have e : ((l ++ m).drop (64 * k)).take 64 = (l.drop (64 * k)).take 64 := by
      rw [List.drop_append_of_le_length (by omega), List.take_append_of_le_length (by rw [List.length_drop]; omega)]
    rw [runTo, runTo, e, ih (by omega)]
theorem runTo_append (l m : List UInt8) (s : St) (k j : Nat) (h : l.length = 64 * k) : runTo (l ++ m) s (k + j) = runTo m (runTo l s k) j := by
  induction j with
  | zero => exact runTo_left l m s k (by omega)
  | succ j ih =>
    have e : ((l ++ m).drop (64 * (k + j))).take 64 = (m.drop (64 * j)).take 64 := by
      rw [List.drop_append, List.drop_eq_nil_of_le (by omega), List.nil_append]
      congr 2
      omega
    rw [show k + (j + 1) = (k + j) + 1 by omega, runTo, runTo, e, ih]

def st0 : St := ⟨1779033703, 3144134277, 1013904242, 2773480762, 1359893119, 2600822924, 528734635, 1541459225⟩
theorem st0_u : st0.U := by
  unfold St.U U32 st0
  simp only
  omega
/-- the bytes of a state -/
def stByte (s : St) (i : Nat) : UInt8 := UInt8.ofNat ((s.list.getD (i / 4) 0).toNat / 2 ^ (24 - 8 * (i % 4)))
def stBytes (s : St) : List UInt8 := (List.range 32).map (stByte s)
theorem stBytes_length (s : St) : (stBytes s).length = 32 := by simp [stBytes]
/-- all padded bytes -/
def padAll (b : List UInt8) : List UInt8 := b.take (b.length - b.length % 64) ++ padTail (b.drop (b.length - b.length % 64)) b.length
/-- the hash -/
def sha (b : List UInt8) : List UInt8 := stBytes (runTo (padAll b) st0 ((padAll b).length / 64))
theorem sha_length (b : List UInt8) : (sha b).length = 32 := stBytes_length _
def tagged (t b : List UInt8) : List UInt8 := sha (sha t ++ b)
theorem tagged_eq (t b : List UInt8) : tagged t b = sha (sha t ++ b) := rfl
theorem tagged_length (t b : List UInt8) : (tagged t b).length = 32 := stBytes_length _
theorem padSize_64 (n : Nat) : padSize n % 64 = 0 := by
  unfold padSize
  split <;> omega
theorem sha_parts (b : List UInt8) (k : Nat) (hk : b.length - b.length % 64 = 64 * k) :
    sha b = stBytes (runTo (padTail (b.drop (64 * k)) b.length) (runTo (b.take (64 * k)) st0 k) (padSize (b.length - 64 * k) / 64)) := by
  have hl : (b.take (64 * k)).length = 64 * k := by rw [List.length_take]; omega
  have hd : (b.drop (64 * k)).length = b.length - 64 * k := List.length_drop ..
  have h2 : (padTail (b.drop (64 * k)) b.length).length = padSize (b.length - 64 * k) := by
    rw [padTail_length _ _ (by rw [hd]; omega), hd]
  have h3 := padSize_64 (b.length - 64 * k)
  unfold sha padAll
  rw [hk]
  have hj : (b.take (64 * k) ++ padTail (b.drop (64 * k)) b.length).length / 64 = k + padSize (b.length - 64 * k) / 64 := by
    rw [List.length_append, hl, h2]
    omega
  rw [hj, runTo_append _ _ _ _ _ hl]
attribute [irreducible] sha tagged
end Go.Proofs.YtfolmglafnfcbaaDoor
