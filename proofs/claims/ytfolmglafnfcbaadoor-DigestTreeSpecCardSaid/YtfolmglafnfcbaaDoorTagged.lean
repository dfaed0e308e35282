/- Contract of Tagged. -/
import Derived.Test.YtfolmglafnfcbaaDoorSum
import Derived.Test.YtfolmglafnfcbaaDoorConcat
namespace Go.Proofs.YtfolmglafnfcbaaDoor
open Go.RowKit

/-- []byte(s) -/
theorem conv_bytes (w : World) (s : ByteArray) : ∃ (X : World) (C : Nat), (convert 9 22 (.string s)).run Tryd.prog w = .ok (.slice (some ⟨w.heap.size, 0, none⟩) s.size C) X ∧ Below w.heap.size w X ∧ w.heap.size < X.heap.size ∧
    RdB X X.heap.size (some ⟨w.heap.size, 0, none⟩) s.size s.data.toList ∧ s.size ≤ C ∧ (s.size ≤ maxLen → C ≤ maxLen) := by
  refine ⟨_, _, run_bytes_of_string w 9 22 5 s Tryd.underlying9 Tryd.underlying22 Tryd.underlying5, (Below.refl _ _).drew.alloc (by show w.heap.size ≤ w.drew.heap.size; exact Nat.le_refl _) _, by simp, ⟨rfl, fun _ => ⟨w.heap.size, 0, rfl, by simp, fun j u hu => ?_⟩⟩, grownCap_ge _ _ _ _, fun h => grownCap_le_maxLen _ _ _ _ h⟩
  have hj : j < s.data.size := by
    have := (List.getElem?_eq_some_iff.1 hu).1
    simpa using this
  have hnew := heap_alloc_new w.drew (.cells (bytesRow s (grownCap w s.size 0 5)) 5 ((bytesRow s (grownCap w s.size 0 5)).size, (bytesRow s (grownCap w s.size 0 5)).size + 1))
  rw [Nat.zero_add, show (⟨w.heap.size, j, none⟩ : Addr) = ⟨w.drew.heap.size, j, none⟩ from rfl, cell_of_row _ _ j _ _ _ hnew, bytesRow, Array.getElem?_append_left (by simpa using hj)]
  have hu' : s.data[j]? = some u := by simpa using hu
  simp [hu']

set_option maxRecDepth 100000 in
set_option maxHeartbeats 1000000 in
theorem tagged_any (s : ByteArray) (A : Option Addr) (n c : Nat) (bs : List UInt8) (w : World) (hs : s.size ≤ 34359738000) (hr : RdB w w.heap.size A n bs) (hn : n ≤ 34359738000) (hK : KOK w) :
    Calls Tryd.prog 14 #[.string s, .slice A n c] w fun e w' => e = .returned (dgV (tagged s.data.toList bs)) ∧ Below w.heap.size w w' := by
  have hK0 := hK.pos
  obtain ⟨w0, hw0⟩ : ∃ w0, w.alloc (.cells Z32 26) = w0 := ⟨_, rfl⟩
  have hb0 : Below w.heap.size w w0 := by rw [← hw0]; exact (Below.refl _ _).alloc (Nat.le_refl _) _
  have hz0 : w0.heap.size = w.heap.size + 1 := by rw [← hw0]; simp
  have hd0 : w0.heap[w.heap.size]? = some (.cells Z32 26 (0, 0)) := by rw [← hw0]; exact heap_alloc_new _ _
  have HW0 := Lib.hid hw0
  obtain ⟨X, C, hcv, hbX, hzX, hrX, hC, hCm⟩ := conv_bytes w0 s
  have hCm' := hCm (by unfold maxLen; omega)
  have HI1 := Lib.hid (dg_info (sha s.data.toList) (sha_length _))
  have HI2 := Lib.hid (dg_info (tagged s.data.toList bs) (tagged_length _ _))
  have HDX : Hid (X.heap[w.heap.size]? = some (.cells Z32 26 (0, 0))) := (hbX.block _ (by omega)).trans hd0
  have HBX : Hid (Below w.heap.size w X) := hb0.trans (hbX.mono (by omega))
  have HRX := Lib.hid hrX
  have HR : Hid (RdB X w.heap.size A n bs) := (hr.below hb0 (Nat.le_refl _)).keep (Nat.le_refl _) fun p hp => hbX.cell (by omega)
  have HK : Hid (KOK X) := (hK.below hb0 hK0).below hbX (by omega)
  have hcv' : (convert 9 22 (.string s)).run Tryd.prog (w.alloc (.cells Z32 26)) = .ok (.slice (some ⟨w.heap.size + 1, 0, none⟩) s.size C) X := by rw [hw0, ← hz0]; exact hcv
  rw [hz0] at HRX
  clear hw0 hb0 hd0 hbX hrX hr hK hCm hcv
  go_enter Tryd.func14, Tryd.ntmps14
  go_wp2_with fail
  clear hcv'
  refine (sum_any _ _ _ s.data.toList X HRX.out hC hCm' (by omega) HK.out).mono ?_
  rintro e w1 ⟨rfl, hb1⟩
  have hz1 := hb1.size
  obtain ⟨w2, hw2⟩ : ∃ w2, w1.alloc (.cells (bytesV (sha s.data.toList)).toArray 26) = w2 := ⟨_, rfl⟩
  have hn2 : Below w1.heap.size w1 w2 := by rw [← hw2]; exact (Below.refl _ _).alloc (Nat.le_refl _) _
  have hz2 : w2.heap.size = w1.heap.size + 1 := by rw [← hw2]; simp
  have hX2 : Below X.heap.size X w2 := hb1.trans (hn2.mono hz1)
  have HD2 : Hid (DRow w2 w1.heap.size (sha s.data.toList)) := by unfold Hid; rw [← hw2]; exact heap_alloc_new _ _
  have HR2 : Hid (RdB w2 w.heap.size A n bs) := HR.out.keep (Nat.le_refl _) fun p hp => hX2.cell (by omega)
  have HK2 : Hid (KOK w2) := HK.out.below hX2 (by omega)
  have HDX2 : Hid (w2.heap[w.heap.size]? = some (.cells Z32 26 (0, 0))) := (hX2.block _ (by omega)).trans HDX.out
  have HB2 : Hid (Below w.heap.size w w2) := HBX.out.trans (hX2.mono (by omega))
  have HW2 := Lib.hid hw2
  clear hb1 hw2 hn2 hX2 HR HK HDX HBX HRX HW0
  unfold dgV
  go_wp2_with (refine wpList_store_row rfl 26 _ _ rfl _ _ rfl rfl _ _ (heap_alloc_new _ _) HI1.out (z32_size _ (sha_length _)) (bytesV_all _) ?_; rw [World.setRow_alloc_new, HW2.out])
  have hdl := HD2.out.lt
  obtain ⟨w3, hw3⟩ : ∃ w3, w2.alloc (.cells #[.slice (some ⟨w1.heap.size, 0, none⟩) 32 32, .slice A n c] 22) = w3 := ⟨_, rfl⟩
  have hn3 : Below w2.heap.size w2 w3 := by rw [← hw3]; exact (Below.refl _ _).alloc (Nat.le_refl _) _
  have hz3 : w3.heap.size = w2.heap.size + 1 := by rw [← hw3]; simp
  have hnew : w3.heap[w1.heap.size + 1]? = some (.cells #[.slice (some ⟨w1.heap.size, 0, none⟩) 32 32, .slice A n c] 22 (0, 0)) := by rw [← hw3, ← hz2]; exact heap_alloc_new _ _
  have hr31 : RdB w3 w3.heap.size (some ⟨w1.heap.size, 0, none⟩) 32 (sha s.data.toList) := (HD2.out.below hn3 hdl).rdb (by omega) (sha_length _).symm
  have hr32 : RdB w3 w3.heap.size A n bs := HR2.out.keep (by omega) fun p hp => hn3.cell (by omega)
  have HDX3 : Hid (w3.heap[w.heap.size]? = some (.cells Z32 26 (0, 0))) := (hn3.block _ (by omega)).trans HDX2.out
  have HB3 : Hid (Below w.heap.size w w3) := HB2.out.trans (hn3.mono (by omega))
  have HK3 : Hid (KOK w3) := HK2.out.below hn3 (by omega)
  rw [hw3]
  refine (concat_any _ _ 32 32 n c (some ⟨w1.heap.size, 0, none⟩) A (sha s.data.toList) bs w3 hr31 hr32 (by omega) (by omega) (by omega) (cell_of_row _ _ 0 _ _ _ hnew) (cell_of_row _ _ 1 _ _ _ hnew)).mono ?_
  rintro e w4 ⟨g, cap, N, rfl, HN, hNc, hcm, hO, hb4⟩
  have hz4 := hb4.size
  have hr4 := hO.rdb (B := w4.heap.size) hO.lt
  have hNN : N ≤ 1152921504606846975 := by
    have h := HN.out
    rw [List.length_append, sha_length, ← HR2.out.1] at h
    omega
  have HDX4 : Hid (w4.heap[w.heap.size]? = some (.cells Z32 26 (0, 0))) := (hb4.block _ (by omega)).trans HDX3.out
  have HB4 : Hid (Below w.heap.size w w4) := HB3.out.trans (hb4.mono (by omega))
  have HK4 : Hid (KOK w4) := HK3.out.below hb4 (by omega)
  have HR4 := Lib.hid hr4
  have hle3 : w.heap.size + 1 < w3.heap.size := by omega
  clear hw3 hn3 hnew hr31 hr32 hb4 hO hr4 HDX3 HB3 HK3 HD2 HR2 HK2 HDX2 HB2 HW2 hz2 hz3
  go_wp2_with fail
  refine (sum_any _ _ _ (sha s.data.toList ++ bs) w4 HR4.out hNc hcm hNN HK4.out).mono ?_
  rintro e w5 ⟨rfl, hb5⟩
  rw [← tagged_eq]
  have HDX5 : Hid (w5.heap[w.heap.size]? = some (.cells Z32 26 (0, 0))) := (hb5.block _ (by omega)).trans HDX4.out
  have HB5 : Hid (Below w.heap.size w w5) := HB4.out.trans (hb5.mono (by omega))
  clear hb5 HDX4 HB4 HK4 HR4
  unfold dgV
  go_wp2_with (refine wpList_store_row rfl 26 _ _ rfl _ _ rfl rfl _ _ HDX5.out HI2.out (z32_size _ (tagged_length _ _)) (bytesV_all _) ?_)
  exact bodyPost_ret (results_cell_row rfl _ _ _ _ _ _ _ rfl (setRow_heap _ _ _ _ _ _ HDX5.out) Tryd.underlying26 rfl HI2.out) rfl ⟨rfl, below_setRow HB5.out (Nat.le_refl _) _⟩
end Go.Proofs.YtfolmglafnfcbaaDoor
