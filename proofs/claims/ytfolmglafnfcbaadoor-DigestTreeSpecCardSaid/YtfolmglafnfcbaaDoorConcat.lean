/- Contracts of slices.Grow and slices.Concat, as the program calls them. -/
import Derived.Test.YtfolmglafnfcbaaDoorOwn
import Derived.Lib.AppendZeros
namespace Go.Proofs.YtfolmglafnfcbaaDoor
open Go.RowKit

/-- what Grow(nil, n) returns -/
def Grown (w : World) (e : Ending) (w' : World) : Prop := ∃ g cap, e = .returned (.slice (some ⟨g, 0, none⟩) 0 cap) ∧ OwnB w' w.heap.size g 0 cap [] ∧ Below w.heap.size w w'

theorem size_zeroCells' (z : Array Value) (n : Nat) : (Builtin.zeroCells z n).size = n * z.size := size_zeroCells z n

set_option maxRecDepth 100000 in
set_option maxHeartbeats 1000000 in
theorem grow_any (n : Nat) (w : World) (h0 : 0 < n) (h1 : n ≤ 140737488355328) :
    Calls Tryd.prog 53 #[.slice none 0 0, .int .i64 n] w (Grown w) := by
  obtain ⟨i0, hi, hz0, hz1, hz2⟩ := info_parts byteInfo
  have hrun := fun ty => Lib.run_append_nil_zeros (P := Tryd.prog) w 22 3 ty 5 i0 _ .i64 .i64 Tryd.underlying22 Tryd.underlying3 hi hz0 n h0 (by omega) (by omega) (by rw [hz2]; omega)
  have hneg : ¬ ((n : Int) < 0) := by omega
  have hpos : (0 : Int) < (n : Int) := by omega
  have HRUN := Lib.hid hrun
  clear hrun
  go_enter Tryd.func53, Tryd.ntmps53
  go_wp2_with (at_builtin; refine Lib.wpList_append_run _ rfl _ _ _ _ rfl _ _ rfl rfl _ _ (HRUN.out _) ?_)
  go_ret
  have hcap := grownCap_ge w n 0 5
  have hmax := grownCap_le_maxLen w n 0 5 (by unfold maxLen; omega)
  refine ⟨w.heap.size, grownCap w n 0 5, rfl, ⟨by simp [bytesV], Nat.le_refl _, Nat.zero_le _, hmax, _, heap_alloc_new w _, ?_, ?_⟩, ((Below.refl _ _).alloc (Nat.le_refl _) _).drew⟩
  · rw [Array.size_append, size_zeroCells, size_zeroCells]
    simp
    omega
  · simp [bytesV]

/-- what joining leaves: a row of the call's own -/
def Joined (w : World) (bs : List UInt8) (e : Ending) (w' : World) : Prop :=
  ∃ g cap N, e = .returned (.slice (some ⟨g, 0, none⟩) N cap) ∧ Hid (N = bs.length) ∧ N ≤ cap ∧ cap ≤ maxLen ∧ OwnB w' w.heap.size g N cap bs ∧ Below w.heap.size w w'

set_option maxRecDepth 100000 in
set_option maxHeartbeats 2000000 in
theorem concat_any (g c n1 c1 n2 c2 : Nat) (A1 A2 : Option Addr) (b1 b2 : List UInt8) (w : World) (hr1 : RdB w w.heap.size A1 n1 b1) (hr2 : RdB w w.heap.size A2 n2 b2) (h1 : n1 ≤ 34359738368) (h2 : n2 ≤ 34359738368) (h0 : 0 < n1 + n2)
    (hc0 : w.cell? ⟨g, 0, none⟩ = some (.slice A1 n1 c1)) (hc1 : w.cell? ⟨g, 1, none⟩ = some (.slice A2 n2 c2)) :
    Calls Tryd.prog 34 #[.slice (some ⟨g, 0, none⟩) 2 c] w (Joined w (b1 ++ b2)) := by
  have hgl : g < w.heap.size := World.block_lt_of_cell? w _ hc0
  have HR1 := Lib.hid hr1
  have HR2 := Lib.hid hr2
  have HL1 := Lib.hid hr1.1
  have HL2 := Lib.hid hr2.1
  clear hr1 hr2
  go_enter Tryd.func34, Tryd.ntmps34
  go_wp2_with fail
  go_loop [3, 11] (fun z i => ∃ j : Nat, j ≤ 2 ∧ i = .int .i64 j ∧ ∃ m : Nat, z = .int .i64 m ∧ m ≤ 68719476736 ∧ Hid (m = if j = 0 then 0 else if j = 1 then n1 else n1 + n2)) (fun _ i => 2 - (intOf i).toNat)
  case atStart => exact ⟨0, by omega, rfl, 0, rfl, by omega, rfl⟩
  case round =>
    obtain ⟨j, hj, rfl, m, rfl, hm, hmj⟩ := hrel
    have hj' : j = 0 ∨ j = 1 ∨ j = 2 := by omega
    rcases hj' with rfl | rfl | rfl
    · have e : m = 0 := hmj.out
      have hneg : ¬ ((m : Int) + (n1 : Int) < 0) := by omega
      go_wp2_with fail
      go_round
      case rel => exact ⟨1, by omega, rfl, m + n1, by go_num, by have := hmj.out; simp at this; omega, by unfold Hid; rw [hmj.out]; simp⟩
      case measure => simp [intOf]
    · have hneg : ¬ ((m : Int) + (n2 : Int) < 0) := by omega
      have hml : m ≤ 34359738368 := by have := hmj.out; simp at this; omega
      go_wp2_with fail
      go_round
      case rel => exact ⟨2, by omega, rfl, m + n2, by go_num, by omega, by unfold Hid; rw [hmj.out]; simp⟩
      case measure => simp [intOf]
    · have HM : Hid (m = n1 + n2) := by have h := hmj.out; simp at h; exact h
      have hm0 : 0 < m := by rw [HM.out]; exact h0
      clear hmj
      go_wp2_with fail
      refine (grow_any m _ hm0 (by omega)).mono ?_
      rintro e w1 ⟨g1, cap1, rfl, hO1, hb1⟩
      have HO1 := Lib.hid hO1
      have HB1 := Lib.hid hb1
      clear hO1 hb1
      go_wp2_with fail
      obtain ⟨i0, hi, hz0, hz1, hz2⟩ := info_parts byteInfo
      clear hm hm0 HM
      go_loopw [6, 27] (fun v i wr => ∃ j : Nat, j ≤ 2 ∧ i = .int .i64 j ∧ ∃ g' N' cap' : Nat, v = .slice (some ⟨g', 0, none⟩) N' cap' ∧ Hid (N' = (if j = 0 then [] else if j = 1 then b1 else b1 ++ b2).length) ∧
          Hid (OwnB wr w.heap.size g' N' cap' (if j = 0 then [] else if j = 1 then b1 else b1 ++ b2)) ∧ Hid (Below w.heap.size w wr)) (fun _ i _ => 2 - (intOf i).toNat)
      case atStart => exact ⟨0, by omega, rfl, g1, 0, cap1, rfl, rfl, HO1, HB1⟩
      case round =>
        obtain ⟨j, hj, rfl, g', N', cap', rfl, HN, HO, HB⟩ := hrel
        have hj' : j = 0 ∨ j = 1 ∨ j = 2 := by omega
        clear HO1 HB1 hj
        rcases hj' with rfl | rfl | rfl
        · have h0' := HB.out.cell (p := ⟨g, 0, none⟩) hgl
          have c0 : wr.cell? ⟨g, 0, none⟩ = some (.slice A1 n1 c1) := h0'.trans hc0
          clear h0'
          have hN : N' ≤ 34359738368 := by have := HN.out; simp at this; omega
          have HSRC : Hid (Src Tryd.prog 1 22 (.slice A1 n1 c1) n1 (bytesV b1) wr) := (HR1.out.below HB.out (Nat.le_refl _)).srcA
          go_wp2_with (at_builtin; refine wpList_append_owns _ rfl _ _ 22 22 rfl w.heap.size 5 i0 _ 1 1 Tryd.underlying22 hi hz0 hz1 hz2 rfl g' N' cap' _ rfl HO.out _ rfl n1 (bytesV b1) HSRC.out (by unfold maxLen; omega) (by omega) HB.out.size ?_; intro g2 cap2 w2 HO2 HT2 HG2)
          have HB2 : Hid (Below w.heap.size w w2) := HB.out.trans ((HT2.out.below (B := w.heap.size) HO.out.2.1 HO.out.lt))
          have HO3 : Hid (OwnB w2 w.heap.size g2 (N' + n1) cap2 ([] ++ b1)) := by
            have h := HO2.out
            rw [← bytesV_append] at h
            exact h
          go_roundw
          case rel => exact ⟨1, by omega, rfl, g2, N' + n1, cap2, rfl, by unfold Hid; rw [HN.out, HL1.out]; simp, HO3, HB2⟩
          case measure => simp [intOf]
        · have h0' := HB.out.cell (p := ⟨g, 1, none⟩) hgl
          have c0 : wr.cell? ⟨g, 1, none⟩ = some (.slice A2 n2 c2) := h0'.trans hc1
          clear h0'
          have hN : N' ≤ 34359738368 := by have := HN.out; have h2 := HL1.out; simp at this; omega
          have HSRC : Hid (Src Tryd.prog 1 22 (.slice A2 n2 c2) n2 (bytesV b2) wr) := (HR2.out.below HB.out (Nat.le_refl _)).srcA
          go_wp2_with (at_builtin; refine wpList_append_owns _ rfl _ _ 22 22 rfl w.heap.size 5 i0 _ 1 1 Tryd.underlying22 hi hz0 hz1 hz2 rfl g' N' cap' _ rfl HO.out _ rfl n2 (bytesV b2) HSRC.out (by unfold maxLen; omega) (by omega) HB.out.size ?_; intro g2 cap2 w2 HO2 HT2 HG2)
          have HB2 : Hid (Below w.heap.size w w2) := HB.out.trans ((HT2.out.below (B := w.heap.size) HO.out.2.1 HO.out.lt))
          have HO3 : Hid (OwnB w2 w.heap.size g2 (N' + n2) cap2 (b1 ++ b2)) := by
            have h := HO2.out
            rw [← bytesV_append] at h
            exact h
          go_roundw
          case rel => exact ⟨2, by omega, rfl, g2, N' + n2, cap2, rfl, by unfold Hid; rw [HN.out, HL2.out]; simp, HO3, HB2⟩
          case measure => simp [intOf]
        · go_wp2_with fail
          go_ret
          have hO : OwnB wr w.heap.size g' N' cap' (b1 ++ b2) := by have h := HO.out; simp at h; exact h
          exact ⟨g', cap', N', rfl, hO.len, hO.2.2.1, hO.2.2.2.1, hO, HB.out⟩
end Go.Proofs.YtfolmglafnfcbaaDoor
