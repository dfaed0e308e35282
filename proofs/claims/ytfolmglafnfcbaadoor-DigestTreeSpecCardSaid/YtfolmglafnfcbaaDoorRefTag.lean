/- Contracts of the reference's Tagged, node and Chain. -/
import Derived.Test.YtfolmglafnfcbaaDoorRefSum
import Derived.Test.YtfolmglafnfcbaaDoorTagged
namespace Go.Proofs.YtfolmglafnfcbaaDoor
open Go.RowKit

theorem refsum_own {base g n cap : Nat} {xs : List UInt8} (u : World) (ho : OwnB u base g n cap xs) (hn : n ≤ 34359738368) :
    Calls Tryd.prog 13 #[.slice (some ⟨g, 0, none⟩) n cap] u fun e w' => e = .returned (dgV (sha xs)) ∧ Below u.heap.size u w' :=
  refsum_any _ n cap xs u (ho.rdb ho.lt) hn

set_option maxRecDepth 100000 in
set_option maxHeartbeats 1000000 in
theorem reftag_any (s : ByteArray) (A : Option Addr) (n c : Nat) (bs : List UInt8) (w : World) (hs : s.size ≤ 34359738000) (hr : RdB w w.heap.size A n bs) (hn : n ≤ 34359738000) :
    Calls Tryd.prog 15 #[.string s, .slice A n c] w fun e w' => e = .returned (dgV (tagged s.data.toList bs)) ∧ Below w.heap.size w w' := by
  obtain ⟨w0, hw0⟩ : ∃ w0, w.alloc (.cells Z32 26) = w0 := ⟨_, rfl⟩
  have hb0 : Below w.heap.size w w0 := by rw [← hw0]; exact (Below.refl _ _).alloc (Nat.le_refl _) _
  have hz0 : w0.heap.size = w.heap.size + 1 := by rw [← hw0]; simp
  have hd0 : w0.heap[w.heap.size]? = some (.cells Z32 26 (0, 0)) := by rw [← hw0]; exact heap_alloc_new _ _
  have HW0 := Lib.hid hw0
  obtain ⟨X, C, hcv, hbX, hzX, hrX, hC, hCm⟩ := conv_bytes w0 s
  have HI1 := Lib.hid (dg_info (sha s.data.toList) (sha_length _))
  have HI2 := Lib.hid (dg_info (tagged s.data.toList bs) (tagged_length _ _))
  have HDX : Hid (IsD X w.heap.size) := IsD.new _ _ ((hbX.block _ (by omega)).trans hd0)
  have HBX : Hid (Below w.heap.size w X) := hb0.trans (hbX.mono (by omega))
  have HRX := Lib.hid hrX
  have HR : Hid (RdB X w.heap.size A n bs) := (hr.below hb0 (Nat.le_refl _)).keep (Nat.le_refl _) fun p hp => hbX.cell (by omega)
  have hcv' : (convert 9 22 (.string s)).run Tryd.prog (w.alloc (.cells Z32 26)) = .ok (.slice (some ⟨w.heap.size + 1, 0, none⟩) s.size C) X := by rw [hw0, ← hz0]; exact hcv
  rw [hz0] at HRX
  clear hw0 hb0 hd0 hbX hrX hr hCm hcv
  obtain ⟨iB, hiB, hzB, h1B, h2B⟩ := info_parts byteInfo
  go_enter Tryd.func15, Tryd.ntmps15
  go_wp2_with fail
  clear hcv'
  refine (refsum_any _ _ _ s.data.toList X HRX.out (by omega)).mono ?_
  rintro e w1 ⟨rfl, hb1⟩
  have hz1 := hb1.size
  obtain ⟨hd, hhd⟩ : ∃ hd, hd = sha s.data.toList := ⟨_, rfl⟩
  have hl : hd.length = 32 := by rw [hhd]; exact sha_length _
  have HHD := Lib.hid hhd
  have HL := Lib.hid hl
  rw [← hhd] at HI1 ⊢
  clear hhd hl
  obtain ⟨w2, hw2⟩ : ∃ w2, w1.alloc (.cells (bytesV hd).toArray 26) = w2 := ⟨_, rfl⟩
  have hn2 : Below w1.heap.size w1 w2 := by rw [← hw2]; exact (Below.refl _ _).alloc (Nat.le_refl _) _
  have hz2 : w2.heap.size = w1.heap.size + 1 := by rw [← hw2]; simp
  have hX2 : Below X.heap.size X w2 := hb1.trans (hn2.mono hz1)
  have HD2 : Hid (DRow w2 w1.heap.size hd) := by unfold Hid; rw [← hw2]; exact heap_alloc_new _ _
  have HR2 : Hid (RdB w2 w.heap.size A n bs) := HR.out.keep (Nat.le_refl _) fun p hp => hX2.cell (by omega)
  have HDX2 : Hid (IsD w2 w.heap.size) := HDX.out.below hX2 (by omega)
  have HB2 : Hid (Below w.heap.size w w2) := HBX.out.trans (hX2.mono (by omega))
  have HW2 := Lib.hid hw2
  have hdl := HD2.out.lt
  have hlw : w.heap.size < w2.heap.size := by omega
  clear hb1 hw2 hn2 hX2 HR HDX HBX HRX HW0
  unfold dgV
  obtain ⟨w3, hw3⟩ : ∃ w3, w2.alloc (.cells #[] 5) = w3 := ⟨_, rfl⟩
  have hb3 : Below w2.heap.size w2 w3 := by rw [← hw3]; exact Below.new1 w2 _
  have ho3 : Owns w3 w2.heap.size 5 1 (w1.heap.size + 1) 0 0 [] := by rw [← hw3, ← hz2]; exact owns0 w2 _ (Nat.le_refl _)
  have HB3 := Lib.hid hb3
  have HO3 := Lib.hid ho3
  have HW3 := Lib.hid hw3
  have hz3 := hb3.size
  have HS1 : Hid (∀ u, Below w2.heap.size w2 u → Src Tryd.prog 1 22 (.slice (some ⟨w1.heap.size, 0, none⟩) 32 32) 32 (bytesV hd) u) := fun u hb => ((HD2.out.below hb hdl).rdb (B := w2.heap.size) hdl HL.out.symm).srcA
  have HS2 : Hid (∀ u, Below w2.heap.size w2 u → Src Tryd.prog 1 22 (.slice A n c) n (bytesV bs) u) := fun u hb => (HR2.out.below (B' := w2.heap.size) (hb.mono (Nat.le_of_lt hlw)) (Nat.le_of_lt hlw)).srcA
  clear hw3 hb3 ho3
  go_wp2_with (first
    | (refine wpList_store_row rfl 26 _ _ rfl _ _ rfl rfl _ _ (heap_alloc_new _ _) HI1.out (z32_size _ HL.out) (bytesV_all _) ?_; rw [World.setRow_alloc_new, HW2.out])
    | (at_builtin; rw [HW3.out]; refine wpList_append_owns _ rfl (.tmp 9) (.tmp 10) 22 22 rfl w2.heap.size 5 iB _ 1 1 Tryd.underlying22 hiB hzB h1B h2B rfl (w1.heap.size + 1) 0 0 _ rfl HO3.out _ rfl 32 (bytesV hd) (HS1.out _ HB3.out) (by unfold maxLen; omega) (by omega) hz3 ?_
       intro g4 cap4 w4 HO4 HT4 HG4
       simp only [Nat.zero_add, List.nil_append] at HO4 ⊢
       have HB4 : Hid (Below w2.heap.size w2 w4) := HB3.out.trans (HT4.out.below HO3.out.2.1 HO3.out.lt)
       have HZ4 := Lib.hid HB4.out.size)
    | (at_builtin; refine wpList_append_owns _ rfl (.tmp 11) (.tmp 12) 22 22 rfl w2.heap.size 5 iB _ 1 1 Tryd.underlying22 hiB hzB h1B h2B rfl g4 32 cap4 _ rfl HO4.out _ rfl n (bytesV bs) (HS2.out _ HB4.out) (by unfold maxLen; omega) (by omega) HZ4.out ?_
       intro g5 cap5 w5 HO5 HT5 HG5
       have HB5 : Hid (Below w2.heap.size w2 w5) := HB4.out.trans (HT5.out.below HO4.out.2.1 HO4.out.lt)))
  have ho5 := HO5.out
  rw [← bytesV_append] at ho5
  refine (refsum_own w5 ho5 (by omega)).mono ?_
  rintro e w6 ⟨rfl, hb6⟩
  rw [HHD.out, ← tagged_eq]
  obtain ⟨old, HO1, HOs⟩ := (HDX2.out.below HB5.out hlw).below hb6 (Nat.lt_of_lt_of_le hlw HB5.out.size)
  have HB6 : Hid (Below w.heap.size w w6) := (HB2.out.trans (HB5.out.mono (Nat.le_of_lt hlw))).trans (hb6.mono (Nat.le_trans (Nat.le_of_lt hlw) HB5.out.size))
  clear hb6 ho5
  unfold dgV
  go_wp2_with (refine wpList_store_row rfl 26 _ _ rfl _ _ rfl rfl _ _ HO1 HI2.out (HOs.trans (by rw [List.size_toArray, bytesV_length, tagged_length])) (bytesV_all _) ?_)
  exact bodyPost_ret (results_cell_row rfl _ _ _ _ _ _ _ rfl (setRow_heap _ _ _ _ _ _ HO1) Tryd.underlying26 rfl HI2.out) rfl ⟨rfl, below_setRow HB6.out (Nat.le_refl _) _⟩
end Go.Proofs.YtfolmglafnfcbaaDoor
