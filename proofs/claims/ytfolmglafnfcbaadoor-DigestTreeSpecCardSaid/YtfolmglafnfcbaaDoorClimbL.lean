/- Climb refuses a path of another length. -/
import Derived.Test.YtfolmglafnfcbaaDoorClimbX
namespace Go.Proofs.YtfolmglafnfcbaaDoor
open Go.RowKit

set_option maxRecDepth 100000 in
set_option maxHeartbeats 1000000 in
theorem climbX_len (a n : Nat) (A : Option Addr) (m c : Nat) (d : D) (w : World) (hs : m ≠ Go.Proofs.YtfolmglafnfcbaaDoor.steps a n) (h1 : 1 ≤ n) (ha : a < n) (hn : n ≤ 1099511627776) :
    Calls Tryd.prog 22 #[dgV d, .int .i64 a, .int .i64 n, .slice A m c] w fun e w' => (∃ x : D, x.length = 32 ∧ e = .returned (.tuple #[dgV x, .int .i64 1])) ∧ Below w.heap.size w w' := by
  obtain ⟨w0, hw0⟩ : ∃ w0, (w.alloc (.cells (bytesV d).toArray 26)).alloc (.cells Z32 26) = w0 := ⟨_, rfl⟩
  have hbx := box1 w d
  rw [hw0] at hbx
  obtain ⟨_, h2, h3, _⟩ := hbx
  have HZ := Lib.hid h2
  have HB0 := Lib.hid h3
  have HW0 := Lib.hid hw0
  have HST := Lib.hid (steps_any n n a (Nat.le_refl _) h1 ha hn w0)
  obtain ⟨s, hss⟩ : ∃ s, s = Go.Proofs.YtfolmglafnfcbaaDoor.steps a n := ⟨_, rfl⟩
  rw [← hss] at hs
  have HS := Lib.hid hss
  have g1 : ¬ (n : Int) < 1 := by omega
  have g2 : ¬ (n : Int) > 1099511627776 := by omega
  have g2' : ¬ (1099511627776 : Int) < (n : Int) := by omega
  have g3 : ¬ (a : Int) < 0 := by omega
  have g4 : ¬ (a : Int) ≥ (n : Int) := by omega
  have g4' : ¬ (n : Int) ≤ (a : Int) := by omega
  have g5 : ¬ n ≤ a := by omega
  have g6 : ¬ m = s := hs
  have g7 : ¬ (m : Int) = (s : Int) := by omega
  have g8 : ((m : Int) == (s : Int)) = false := by rw [beq_eq_false_iff_ne]; exact g7
  have HI := Lib.hid (dg_info zd (by rfl))
  have hzz : (bytesV zd).toArray = Z32 := by rfl
  rw [hzz] at HI
  clear hw0 h2 h3 hss
  unfold dgV
  go_enter Tryd.func22, Tryd.ntmps22
  go_wp2_with fail
  rw [HW0.out]
  refine HST.out.mono ?_
  rintro e w' ⟨rfl, rfl⟩
  rw [← HS.out]
  go_wp2_with (refine wpList_store_row rfl 26 _ _ rfl _ Z32 rfl rfl _ _ HZ.out HI.out rfl (by rw [← hzz]; exact bytesV_all _) ?_)
  exact bodyPost_ret (results_cell_row2 rfl _ _ _ _ _ _ _ _ rfl rfl (setRow_heap _ _ _ _ _ _ HZ.out) Tryd.underlying26 rfl HI.out) rfl ⟨⟨zd, rfl, by rw [hzz]; rfl⟩, below_setRow HB0.out (by omega) _⟩

/-- a path in a list of at most 32 elements has at most 5 -/
theorem path_short (ds : List D) (a : Nat) (ha : a < ds.length) (hn : ds.length ≤ 32) : (path ds a).length ≤ 5 := by
  rw [path_length ds.length ds a (Nat.le_refl _) ha (by omega)]
  exact steps_le 5 a ds.length (by omega) ha (by omega) (by omega)
end Go.Proofs.YtfolmglafnfcbaaDoor
