/- Contracts of beginning and of the method digest. -/
import Derived.Test.YtfolmglafnfcbaaDoorPadded
import Derived.Test.YtfolmglafnfcbaaDoorRefBlock
namespace Go.Proofs.YtfolmglafnfcbaaDoor
open Go.RowKit

set_option maxRecDepth 100000 in
set_option maxHeartbeats 1000000 in
theorem beginning_any (w : World) : Calls Tryd.prog 27 #[] w fun e w' => e = .returned (.agg (rowOf st0.list)) ∧ Below w.heap.size w w' := by
  have HI := Lib.hid (row_info (t := 51) (n := 8) st0.list rfl (by kernel_rfl))
  go_enter Tryd.func27, Tryd.ntmps27
  go_wp2_with (first
    | (refine wpList_build_to rfl 51 _ rfl (rowOf st0.list) (by kernel_rfl) ?_)
    | (refine wpList_store_row rfl 51 _ _ rfl _ _ rfl rfl _ _ (heap_alloc_new _ _) HI.out (by rw [rowOf_size]; rfl) (rowOf_one _) ?_))
  rw [World.setRow_alloc_new]
  exact bodyPost_ret (results_cell_row rfl _ _ _ _ _ _ _ rfl (heap_alloc_new _ _) Tryd.underlying51 rfl HI.out) rfl ⟨rfl, (Below.refl _ _).alloc (Nat.le_refl _) _⟩

/-- a digest as a value -/
def dgV (d : List UInt8) : Value := .agg (bytesV d).toArray
theorem dg_info (d : List UInt8) (hd : d.length = 32) : (Tryd.prog.info? 26).map (·.size) = some (bytesV d).toArray.size := by
  rw [List.size_toArray, bytesV_length, hd]
  kernel_rfl
theorem bytesV_all (d : List UInt8) : (bytesV d).toArray.all (·.oneCell') = true := Array.all_eq_true_iff_forall_mem.2 fun v hv => bytesV_one d v (by simpa using hv)
/-- block g holds a digest -/
def DRow (w : World) (g : Nat) (d : List UInt8) : Prop := w.heap[g]? = some (.cells (bytesV d).toArray 26 (0, 0))
theorem DRow.lt {w : World} {g : Nat} {l : List UInt8} (h : DRow w g l) : g < w.heap.size := (Array.getElem?_eq_some_iff.1 h).1
theorem DRow.cell {w : World} {g : Nat} {l : List UInt8} (h : DRow w g l) {i : Nat} {u : UInt8} (hi : l[i]? = some u) : w.cell? ⟨g, i, none⟩ = some (.int .u8 u.toNat) := by
  rw [cell_of_row w g i _ _ _ h, List.getElem?_toArray]
  unfold bytesV
  rw [List.getElem?_map, hi]
  rfl
theorem DRow.cellD {w : World} {g : Nat} {l : List UInt8} (h : DRow w g l) {i : Nat} (hi : i < l.length) : w.cell? ⟨g, i, none⟩ = some (.int .u8 (byteAt l i).toNat) := by
  refine h.cell ?_
  unfold byteAt
  rw [List.getD_eq_getElem?_getD, List.getElem?_eq_getElem hi]
  rfl
theorem DRow.frozen {w : World} {g : Nat} {l : List UInt8} (h : DRow w g l) (i : Nat) : w.frozen? ⟨g, i, none⟩ = false := frozen_of_row w g i _ _ h
theorem DRow.set {w : World} {g : Nat} {l : List UInt8} (h : DRow w g l) (i : Nat) (x : UInt8) : DRow (w.setCell ⟨g, i, none⟩ (.int .u8 x.toNat)) g (l.set i x) := by
  unfold DRow at h ⊢
  rw [heap_setCell_same w g i _ _ _ h]
  congr 2
  unfold bytesV
  simp [List.map_set]
theorem DRow.below {w w' : World} {B g : Nat} {l : List UInt8} (h : DRow w g l) (hb : Below B w w') (hg : g < B) : DRow w' g l := (hb.block g hg).trans h
theorem DRow.rdb {w : World} {g B n : Nat} {l : List UInt8} (h : DRow w g l) (hB : g < B) (hn : n = l.length) : RdB w B (some ⟨g, 0, none⟩) n l :=
  ⟨hn, fun _ => ⟨g, 0, rfl, hB, fun j u hu => by rw [Nat.zero_add]; exact h.cell hu⟩⟩
def dTo (s : St) (i : Nat) : List UInt8 := (List.range i).map (stByte s) ++ List.replicate (32 - i) 0
theorem dTo_length (s : St) (i : Nat) (h : i ≤ 32) : (dTo s i).length = 32 := by
  unfold dTo
  rw [List.length_append, List.length_map, List.length_range, List.length_replicate]
  omega
theorem dTo_step (s : St) (i : Nat) (h : i < 32) : (dTo s i).set i (stByte s i) = dTo s (i + 1) := by
  unfold dTo
  have e : ((List.range i).map (stByte s)).length = i := by simp
  rw [List.set_append_right _ _ (by omega), e, Nat.sub_self, show 32 - i = (32 - (i + 1)) + 1 by omega, List.replicate_succ, List.set_cons_zero, List.range_succ, List.map_append, List.append_assoc]
  rfl
theorem dTo_all (s : St) : dTo s 32 = stBytes s := by simp [dTo, stBytes]
theorem stByte_toNat (s : St) (hu : s.U) (i : Nat) (hi : i < 32) : ((stByte s i).toNat : Int) = s.list.getD (i / 4) 0 / 2 ^ (24 - 8 * (i % 4)) % 256 := by
  have h : 0 ≤ s.list.getD (i / 4) 0 := by
    obtain ⟨⟨h1, _⟩, ⟨h2, _⟩, ⟨h3, _⟩, ⟨h4, _⟩, ⟨h5, _⟩, ⟨h6, _⟩, ⟨h7, _⟩, ⟨h8, _⟩⟩ := hu
    have hk : i / 4 = 0 ∨ i / 4 = 1 ∨ i / 4 = 2 ∨ i / 4 = 3 ∨ i / 4 = 4 ∨ i / 4 = 5 ∨ i / 4 = 6 ∨ i / 4 = 7 := by omega
    rcases hk with e | e | e | e | e | e | e | e <;> rw [e] <;> assumption
  obtain ⟨x, hx⟩ := Int.eq_ofNat_of_zero_le h
  unfold stByte
  rw [hx, UInt8.toNat_ofNat', Int.natCast_emod, Int.toNat_natCast, Int.natCast_ediv, Int.natCast_pow]
  rfl

set_option maxRecDepth 100000 in
set_option maxHeartbeats 1000000 in
theorem digest_any (r : Nat) (s : St) (w : World) (hs : WRow w r 51 s.list) (hu : s.U) :
    Calls Tryd.prog 31 #[.pointer (some ⟨r, 0, none⟩)] w fun e w' => e = .returned (dgV (stBytes s)) ∧ Below w.heap.size w w' := by
  have HS := Lib.hid hs
  have hlt := hs.lt
  clear hs
  go_enter Tryd.func31, Tryd.ntmps31
  go_wp2_with fail
  go_loopw [4] (fun t wr => ∃ i : Nat, i ≤ 32 ∧ t = .int .i64 i ∧ Hid (DRow wr w.heap.size (dTo s i)) ∧ Hid (Below w.heap.size w wr)) (fun t _ => 32 - (intOf t).toNat)
  case atStart => exact ⟨0, by omega, rfl, heap_alloc_new _ _, (Below.refl _ _).alloc (Nat.le_refl _) _⟩
  case round =>
    obtain ⟨i, hi, rfl, HR4, HB4⟩ := hrel
    by_cases hi8 : i < 32
    · have hc0 := (HS.out.below HB4.out hlt).cell (i := i / 4) (by simp [St.list]; omega)
      have hc1 := HR4.out.cellD (i := i) (by rw [dTo_length _ _ hi]; omega)
      have hf1 := HR4.out.frozen i
      obtain ⟨x, hx⟩ : ∃ x, x = s.list.getD (i / 4) 0 := ⟨_, rfl⟩
      rw [← hx] at hc0
      have HX := Lib.hid hx
      clear hx
      have x0 : (i : Int) < 32 := by omega
      have x1 : (i : Int) / 4 < 8 := by omega
      go_wp2_with fail
      go_roundw
      case rel =>
        refine ⟨i + 1, by omega, by go_num, ?_, Below.setCell HB4.out (Nat.le_refl _) _⟩
        have h := HR4.out.set i (stByte s i)
        rw [dTo_step s i hi8, stByte_toNat s hu i hi8, ← HX.out, Nat.mul_comm 8] at h
        exact h
      case measure => simp [intOf]; omega
    · have HD : Hid (DRow wr w.heap.size (stBytes s)) := by
        have e : i = 32 := by omega
        have h := HR4.out
        rw [e, dTo_all] at h
        exact h
      have HI := Lib.hid (dg_info (stBytes s) (stBytes_length s))
      go_wp2_with (first
        | (refine wpList_load_row rfl 26 _ rfl _ rfl _ _ _ _ HD.out Tryd.underlying26 rfl HI.out ?_)
        | (refine wpList_store_row rfl 26 _ _ rfl _ _ rfl rfl _ _ HD.out HI.out rfl (bytesV_all _) ?_))
      rw [setRow_self _ _ _ _ _ HD.out]
      exact bodyPost_ret (results_cell_row rfl _ _ _ _ _ _ _ rfl HD.out Tryd.underlying26 rfl HI.out) rfl ⟨rfl, HB4.out⟩
end Go.Proofs.YtfolmglafnfcbaaDoor
