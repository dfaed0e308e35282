/- Contract of the laws' digestsOf. -/
import Derived.Test.YtfolmglafnfcbaaDoorPath
namespace Go.Proofs.YtfolmglafnfcbaaDoor
open Go.RowKit

/-- the digest that stands for the byte at place i -/
def mkD (bs : List UInt8) (i : Nat) : D := (byteAt bs i % 4) :: UInt8.ofNat (i / 8) :: List.replicate 30 0
theorem mkD_length (bs : List UInt8) (i : Nat) : (mkD bs i).length = 32 := rfl
def dsTo (bs : List UInt8) (k : Nat) : List D := (List.range k).map (mkD bs)
theorem dsTo_zero (bs : List UInt8) : dsTo bs 0 = [] := rfl
theorem dsTo_succ (bs : List UInt8) (k : Nat) : dsTo bs (k + 1) = dsTo bs k ++ [mkD bs k] := by
  unfold dsTo
  rw [List.range_succ, List.map_append]
  rfl
theorem dsTo_all (bs : List UInt8) (k : Nat) : ∀ x ∈ dsTo bs k, x.length = 32 := by
  intro x hx
  unfold dsTo at hx
  obtain ⟨i, _, rfl⟩ := List.mem_map.1 hx
  exact mkD_length _ _
theorem dsTo_length (bs : List UInt8) (k : Nat) : (dsTo bs k).length = k := by simp [dsTo]

abbrev mkCells (x y : Int) : Array Value := #[.int .u8 x, .int .u8 y, .int .u8 0, .int .u8 0, .int .u8 0, .int .u8 0, .int .u8 0, .int .u8 0, .int .u8 0, .int .u8 0, .int .u8 0, .int .u8 0, .int .u8 0, .int .u8 0, .int .u8 0, .int .u8 0, .int .u8 0, .int .u8 0, .int .u8 0, .int .u8 0, .int .u8 0, .int .u8 0, .int .u8 0, .int .u8 0, .int .u8 0, .int .u8 0, .int .u8 0, .int .u8 0, .int .u8 0, .int .u8 0, .int .u8 0, .int .u8 0]
theorem mk_cells (bs : List UInt8) (k : Nat) (hk : k < 24) : mkCells (((byteAt bs k).toNat : Int) % 4) ((k : Int) / 8) = (bytesV (mkD bs k)).toArray := by
  have e1 : ((byteAt bs k % 4).toNat : Int) = ((byteAt bs k).toNat : Int) % 4 := by
    rw [UInt8.toNat_mod]
    rfl
  have e2 : ((UInt8.ofNat (k / 8)).toNat : Int) = (k : Int) / 8 := by
    rw [UInt8.toNat_ofNat']
    omega
  unfold mkCells mkD bytesV
  rw [List.map_cons, List.map_cons, e1, e2]
  rfl

set_option maxRecDepth 100000 in
set_option maxHeartbeats 1000000 in
theorem ds_any (A : Option Addr) (n c : Nat) (bs : List UInt8) (w : World) (hr : RdB w w.heap.size A n bs) :
    Calls Tryd.prog 16 #[.slice A n c] w fun e w' => ∃ g k cap : Nat, e = .returned (.slice (some ⟨g, 0, none⟩) k cap) ∧ k = min n 24 ∧ Owns w' w.heap.size 26 32 g k cap (flatD (dsTo bs k)) ∧ Below w.heap.size w w' := by
  have HR := Lib.hid hr
  clear hr
  go_enter Tryd.func16, Tryd.ntmps16
  go_wp2_with fail
  have hO0 : Owns (w.alloc (.cells #[] 26)) w.heap.size 26 32 w.heap.size 0 0 (flatD (dsTo bs 0)) := ⟨rfl, Nat.le_refl _, Nat.le_refl _, Nat.zero_le _, #[], heap_alloc_new _ _, rfl, rfl⟩
  have hB0 : Below w.heap.size w (w.alloc (.cells #[] 26)) := (Below.refl _ _).alloc (Nat.le_refl _) _
  have HO0 := Lib.hid hO0
  have HB0 := Lib.hid hB0
  clear hO0 hB0
  obtain ⟨i0', hi, hzz, hz1', hz2'⟩ := dg_parts
  go_loopw [3, 4] (fun v i wr => ∃ k : Nat, k ≤ n ∧ k ≤ 24 ∧ i = .int .i64 k ∧ ∃ g cap : Nat, v = .slice (some ⟨g, 0, none⟩) k cap ∧ Hid (Owns wr w.heap.size 26 32 g k cap (flatD (dsTo bs k))) ∧ Hid (Below w.heap.size w wr)) (fun _ i _ => 24 - (intOf i).toNat)
  case atStart => exact ⟨0, by omega, by omega, rfl, w.heap.size, 0, rfl, HO0, HB0⟩
  case round =>
    obtain ⟨k, hk, hk24, rfl, g, cap, rfl, HO, HB⟩ := hrel
    clear HO0 HB0
    by_cases hend : k = n ∨ k = 24
    · have he : ¬ (k < n ∧ k < 24) := by omega
      have he' : ¬ ((k : Int) < (n : Int) ∧ (k : Int) < 24) := by omega
      go_wp2_with fail
      all_goals (go_ret; exact ⟨g, k, cap, rfl, by omega, HO.out, HB.out⟩)
    · have h1 : k < n := by omega
      have h2 : k < 24 := by omega
      have h1' : (k : Int) < (n : Int) := by omega
      have h2' : (k : Int) < 24 := by omega
      have i0 : (0 : Int) ≤ (k : Int) := by omega
      obtain ⟨b, o, rfl, hbl, _⟩ := HR.out.2 (by omega)
      have hx0 := (HR.out.below (B' := w.heap.size) HB.out (Nat.le_refl _)).one k h1
      clear hend
      have hcs := mk_cells bs k h2
      have HSRC : Hid (Src Tryd.prog 32 30 (.slice (some ⟨wr.heap.size, 0, none⟩) 1 1) 1 (bytesV (mkD bs k)) (wr.alloc (.cells (mkCells (((byteAt bs k).toNat : Int) % 4) ((k : Int) / 8)) 26))) := by
        unfold Hid
        rw [hcs]
        exact src_one wr (mkD bs k) (mkD_length _ _)
      have hba : Below wr.heap.size wr (wr.alloc (.cells (mkCells (((byteAt bs k).toNat : Int) % 4) ((k : Int) / 8)) 26)) := (Below.refl _ _).alloc (Nat.le_refl _) _
      have HO1 := Lib.hid (HO.out.below hba HO.out.lt)
      have HBA := Lib.hid hba
      clear hcs hba
      go_wp2_with (at_builtin; refine wpList_append_owns _ rfl _ _ 30 30 rfl w.heap.size 26 i0' _ 32 32 Tryd.underlying30 hi hzz hz1' hz2' rfl g k cap _ rfl HO1.out _ rfl 1 (bytesV (mkD bs k)) HSRC.out (by unfold maxLen; omega) (by omega) (Nat.le_trans HB.out.size HBA.out.size) ?_; intro g2 cap2 w2 HO2 HT2 HG2)
      have HB2 : Hid (Below w.heap.size w w2) := (HB.out.trans (HBA.out.mono HB.out.size)).trans (HT2.out.below (B := w.heap.size) HO1.out.2.1 HO1.out.lt)
      have HO3 : Hid (Owns w2 w.heap.size 26 32 g2 (k + 1) cap2 (flatD (dsTo bs (k + 1)))) := by
        have h := HO2.out
        rw [← flatD_one, ← flatD_append, ← dsTo_succ] at h
        exact h
      go_roundw
      case rel => exact ⟨k + 1, by omega, by omega, by go_num, g2, cap2, rfl, HO3, HB2⟩
      case measure => simp [intOf]; omega
end Go.Proofs.YtfolmglafnfcbaaDoor
