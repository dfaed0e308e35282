/- Contracts of the reference's Climb, and of Path where it refuses. -/
import Derived.Test.YtfolmglafnfcbaaDoorRefClimb
namespace Go.Proofs.YtfolmglafnfcbaaDoor
open Go.RowKit

set_option maxRecDepth 100000 in
set_option maxHeartbeats 1000000 in
theorem refclimbX_any (a n : Nat) (A : Option Addr) (m c : Nat) (d : D) (ps : List D) (w : World) (hd : d.length = 32) (hr : RdD w w.heap.size A m ps) (hs : m = Go.Proofs.YtfolmglafnfcbaaDoor.steps a n) (h1 : 1 ≤ n) (ha : a < n) (hn : n ≤ 1099511627776) (hc : m ≤ c) (hcm : c ≤ maxLen) :
    Calls Tryd.prog 23 #[dgV d, .int .i64 a, .int .i64 n, .slice A m c] w fun e w' => e = .returned (.tuple #[dgV (climb d a n ps), .int .i64 0]) ∧ Below w.heap.size w w' := by
  obtain ⟨w0, hw0⟩ : ∃ w0, (w.alloc (.cells (bytesV d).toArray 26)).alloc (.cells Z32 26) = w0 := ⟨_, rfl⟩
  have hbx := box1 w d
  rw [hw0] at hbx
  obtain ⟨h1', h2, h3, h4⟩ := hbx
  have HR : Hid (w0.rangeAt w.heap.size 0 (bytesV d)) := h1'.range
  have HZ := Lib.hid (IsD.new _ _ h2)
  have HB0 := Lib.hid h3
  have HW0 := Lib.hid hw0
  have HC := Lib.hid (refclimbOk n a n A m c d ps w0 hd (hr.below h3 (by omega)) hs h1 (Nat.le_refl _) ha hn hc hcm)
  have HST := Lib.hid (reflength_any n n a (Nat.le_refl _) h1 ha hn w0)
  have HLI := Lib.hid (dg_size d hd)
  have HI := Lib.hid (dg_info (climb d a n ps) (climb_length _ _ _ _ h1 hn))
  have HL := Lib.hid (climb_length d a n ps h1 hn)
  have HS := Lib.hid hs
  have g1 : ¬ (n : Int) < 1 := by omega
  have g2 : ¬ (n : Int) > 1099511627776 := by omega
  have g2' : ¬ (1099511627776 : Int) < (n : Int) := by omega
  have g3 : ¬ (a : Int) < 0 := by omega
  have g4 : ¬ (a : Int) ≥ (n : Int) := by omega
  have g4' : ¬ (n : Int) ≤ (a : Int) := by omega
  have g5 : ¬ n ≤ a := by omega
  clear hw0 h1' h2 h3 hd hr hs
  unfold dgV at HC
  unfold dgV
  go_enter Tryd.func23, Tryd.ntmps23
  go_wp2_with fail
  rw [HW0.out]
  refine HST.out.mono ?_
  rintro e w' ⟨rfl, rfl⟩
  rw [← HS.out]
  go_wp2_with (refine wpList_load_mid rfl 26 _ rfl w.heap.size 0 rfl _ _ HR.out Tryd.underlying26 rfl HLI.out ?_)
  refine HC.out.mono ?_
  rintro e w1 ⟨rfl, hb1⟩
  obtain ⟨old, HD1, HDs⟩ := HZ.out.below hb1 (by omega)
  have HB1 := Lib.hid (HB0.out.trans (hb1.mono (by omega)))
  clear hb1
  go_wp2_with (refine wpList_store_row rfl 26 _ _ rfl _ _ rfl rfl _ _ HD1 HI.out (HDs.trans (by rw [List.size_toArray, bytesV_length, HL.out])) (bytesV_all _) ?_)
  exact bodyPost_ret (results_cell_row2 rfl _ _ _ _ _ _ _ _ rfl rfl (setRow_heap _ _ _ _ _ _ HD1) Tryd.underlying26 rfl HI.out) rfl ⟨rfl, below_setRow HB1.out (by omega) _⟩


set_option maxRecDepth 100000 in
set_option maxHeartbeats 1000000 in
theorem refclimbX_len (a n : Nat) (A : Option Addr) (m c : Nat) (d : D) (w : World) (hs : m ≠ Go.Proofs.YtfolmglafnfcbaaDoor.steps a n) (h1 : 1 ≤ n) (ha : a < n) (hn : n ≤ 1099511627776) :
    Calls Tryd.prog 23 #[dgV d, .int .i64 a, .int .i64 n, .slice A m c] w fun e w' => (∃ x : D, x.length = 32 ∧ e = .returned (.tuple #[dgV x, .int .i64 1])) ∧ Below w.heap.size w w' := by
  obtain ⟨w0, hw0⟩ : ∃ w0, (w.alloc (.cells (bytesV d).toArray 26)).alloc (.cells Z32 26) = w0 := ⟨_, rfl⟩
  have hbx := box1 w d
  rw [hw0] at hbx
  obtain ⟨_, h2, h3, _⟩ := hbx
  have HZ := Lib.hid h2
  have HB0 := Lib.hid h3
  have HW0 := Lib.hid hw0
  have HST := Lib.hid (reflength_any n n a (Nat.le_refl _) h1 ha hn w0)
  obtain ⟨s, hss⟩ : ∃ s, s = Go.Proofs.YtfolmglafnfcbaaDoor.steps a n := ⟨_, rfl⟩
  rw [← hss] at hs
  have HS := Lib.hid hss
  have g1 : ¬ (n : Int) < 1 := by omega
  have g2 : ¬ (n : Int) > 1099511627776 := by omega
  have g2' : ¬ (1099511627776 : Int) < (n : Int) := by omega
  have g3 : ¬ (a : Int) < 0 := by omega
  have g4 : ¬ (a : Int) ≥ (n : Int) := by omega
  have g4' : ¬ (n : Int) ≤ (a : Int) := by omega
  have g5 : ¬ n ≤ a := by omega
  have g6 : ¬ m = s := hs
  have g7 : ¬ (m : Int) = (s : Int) := by omega
  have g8 : ((m : Int) == (s : Int)) = false := by rw [beq_eq_false_iff_ne]; exact g7
  have HI := Lib.hid (dg_info zd (by rfl))
  have hzz : (bytesV zd).toArray = Z32 := by rfl
  rw [hzz] at HI
  clear hw0 h2 h3 hss
  unfold dgV
  go_enter Tryd.func23, Tryd.ntmps23
  go_wp2_with fail
  rw [HW0.out]
  refine HST.out.mono ?_
  rintro e w' ⟨rfl, rfl⟩
  rw [← HS.out]
  go_wp2_with (refine wpList_store_row rfl 26 _ _ rfl _ Z32 rfl rfl _ _ HZ.out HI.out rfl (by rw [← hzz]; exact bytesV_all _) ?_)
  exact bodyPost_ret (results_cell_row2 rfl _ _ _ _ _ _ _ _ rfl rfl (setRow_heap _ _ _ _ _ _ HZ.out) Tryd.underlying26 rfl HI.out) rfl ⟨⟨zd, rfl, by rw [hzz]; rfl⟩, below_setRow HB0.out (by omega) _⟩


set_option maxRecDepth 100000 in
set_option maxHeartbeats 1000000 in
/-- Path refuses an index that is not one of the list -/
theorem refpathX_bad (A : Option Addr) (n c : Nat) (a : Int) (w : World) (hbad : a < 0 ∨ (n : Int) ≤ a) :
    Calls Tryd.prog 20 #[.slice A n c, .int .i64 a] w fun e w' => e = .returned (.tuple #[.slice none 0 0, .int .i64 1]) ∧ w = w' := by
  by_cases h0 : a < 0
  · go_enter Tryd.func20, Tryd.ntmps20
    go_wp2_with fail
    exact bodyPost_ret (v := .tuple #[.slice none 0 0, .int .i64 1]) (by simp [results, Tryd.results20, go_sem]) rfl ⟨rfl, rfl⟩
  · have h1 : (n : Int) ≤ a := by omega
    have h2 : a ≥ (n : Int) := h1
    clear hbad
    go_enter Tryd.func20, Tryd.ntmps20
    go_wp2_with fail
    exact bodyPost_ret (v := .tuple #[.slice none 0 0, .int .i64 1]) (by simp [results, Tryd.results20, go_sem]) rfl ⟨rfl, rfl⟩


set_option maxRecDepth 100000 in
set_option maxHeartbeats 1000000 in
/-- Climb refuses numbers of elements and indices beyond their limits -/
theorem refclimbX_out (a n : Int) (A : Option Addr) (m c : Nat) (d : D) (w : World) (hbad : n < 1 ∨ n > 1099511627776 ∨ a < 0 ∨ a ≥ n) :
    Calls Tryd.prog 23 #[dgV d, .int .i64 a, .int .i64 n, .slice A m c] w fun e w' => (∃ x : D, x.length = 32 ∧ e = .returned (.tuple #[dgV x, .int .i64 1])) ∧ Below w.heap.size w w' := by
  obtain ⟨w0, hw0⟩ : ∃ w0, (w.alloc (.cells (bytesV d).toArray 26)).alloc (.cells Z32 26) = w0 := ⟨_, rfl⟩
  have hbx := box1 w d
  rw [hw0] at hbx
  obtain ⟨_, h2, h3, _⟩ := hbx
  have HZ := Lib.hid h2
  have HB0 := Lib.hid h3
  have HW0 := Lib.hid hw0
  have HI := Lib.hid (dg_info zd (by rfl))
  have hzz : (bytesV zd).toArray = Z32 := by rfl
  rw [hzz] at HI
  clear hw0 h2 h3
  unfold dgV
  by_cases g1 : n < 1
  · clear hbad
    go_enter Tryd.func23, Tryd.ntmps23
    go_wp2_with (refine wpList_store_row rfl 26 _ _ rfl _ Z32 rfl rfl _ _ (by rw [HW0.out]; exact HZ.out) HI.out rfl (by rw [← hzz]; exact bytesV_all _) ?_)
    rw [HW0.out]
    exact bodyPost_ret (results_cell_row2 rfl _ _ _ _ _ _ _ _ rfl rfl (setRow_heap _ _ _ _ _ _ HZ.out) Tryd.underlying26 rfl HI.out) rfl ⟨⟨zd, rfl, by rw [hzz]; rfl⟩, below_setRow HB0.out (by omega) _⟩
  by_cases g2 : n > 1099511627776
  · have g2' : 1099511627776 < n := g2
    clear hbad
    go_enter Tryd.func23, Tryd.ntmps23
    go_wp2_with (refine wpList_store_row rfl 26 _ _ rfl _ Z32 rfl rfl _ _ (by rw [HW0.out]; exact HZ.out) HI.out rfl (by rw [← hzz]; exact bytesV_all _) ?_)
    rw [HW0.out]
    exact bodyPost_ret (results_cell_row2 rfl _ _ _ _ _ _ _ _ rfl rfl (setRow_heap _ _ _ _ _ _ HZ.out) Tryd.underlying26 rfl HI.out) rfl ⟨⟨zd, rfl, by rw [hzz]; rfl⟩, below_setRow HB0.out (by omega) _⟩
  by_cases g3 : a < 0
  · have g2' : ¬ 1099511627776 < n := g2
    clear hbad
    go_enter Tryd.func23, Tryd.ntmps23
    go_wp2_with (refine wpList_store_row rfl 26 _ _ rfl _ Z32 rfl rfl _ _ (by rw [HW0.out]; exact HZ.out) HI.out rfl (by rw [← hzz]; exact bytesV_all _) ?_)
    rw [HW0.out]
    exact bodyPost_ret (results_cell_row2 rfl _ _ _ _ _ _ _ _ rfl rfl (setRow_heap _ _ _ _ _ _ HZ.out) Tryd.underlying26 rfl HI.out) rfl ⟨⟨zd, rfl, by rw [hzz]; rfl⟩, below_setRow HB0.out (by omega) _⟩
  have g4 : a ≥ n := by omega
  have g4' : n ≤ a := g4
  have g2' : ¬ 1099511627776 < n := g2
  clear hbad
  go_enter Tryd.func23, Tryd.ntmps23
  go_wp2_with (refine wpList_store_row rfl 26 _ _ rfl _ Z32 rfl rfl _ _ (by rw [HW0.out]; exact HZ.out) HI.out rfl (by rw [← hzz]; exact bytesV_all _) ?_)
  rw [HW0.out]
  exact bodyPost_ret (results_cell_row2 rfl _ _ _ _ _ _ _ _ rfl rfl (setRow_heap _ _ _ _ _ _ HZ.out) Tryd.underlying26 rfl HI.out) rfl ⟨⟨zd, rfl, by rw [hzz]; rfl⟩, below_setRow HB0.out (by omega) _⟩


end Go.Proofs.YtfolmglafnfcbaaDoor
