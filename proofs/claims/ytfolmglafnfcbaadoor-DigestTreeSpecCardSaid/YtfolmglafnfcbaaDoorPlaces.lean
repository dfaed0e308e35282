/- Contracts that DigestPlaces wants: Path and Climb where they refuse, and the law's own steps. -/
import Derived.Test.YtfolmglafnfcbaaDoorClimbL
namespace Go.Proofs.YtfolmglafnfcbaaDoor
open Go.RowKit

set_option maxRecDepth 100000 in
set_option maxHeartbeats 1000000 in
/-- Path refuses an index that is not one of the list -/
theorem pathX_bad (A : Option Addr) (n c : Nat) (a : Int) (w : World) (hbad : a < 0 ∨ (n : Int) ≤ a) :
    Calls Tryd.prog 19 #[.slice A n c, .int .i64 a] w fun e w' => e = .returned (.tuple #[.slice none 0 0, .int .i64 1]) ∧ w = w' := by
  by_cases h0 : a < 0
  · go_enter Tryd.func19, Tryd.ntmps19
    go_wp2_with fail
    exact bodyPost_ret (v := .tuple #[.slice none 0 0, .int .i64 1]) (by simp [results, Tryd.results19, go_sem]) rfl ⟨rfl, rfl⟩
  · have h1 : (n : Int) ≤ a := by omega
    have h2 : a ≥ (n : Int) := h1
    clear hbad
    go_enter Tryd.func19, Tryd.ntmps19
    go_wp2_with fail
    exact bodyPost_ret (v := .tuple #[.slice none 0 0, .int .i64 1]) (by simp [results, Tryd.results19, go_sem]) rfl ⟨rfl, rfl⟩

set_option maxRecDepth 100000 in
set_option maxHeartbeats 1000000 in
/-- Climb refuses numbers of elements and indices beyond their limits -/
theorem climbX_out (a n : Int) (A : Option Addr) (m c : Nat) (d : D) (w : World) (hbad : n < 1 ∨ n > 1099511627776 ∨ a < 0 ∨ a ≥ n) :
    Calls Tryd.prog 22 #[dgV d, .int .i64 a, .int .i64 n, .slice A m c] w fun e w' => (∃ x : D, x.length = 32 ∧ e = .returned (.tuple #[dgV x, .int .i64 1])) ∧ Below w.heap.size w w' := by
  obtain ⟨w0, hw0⟩ : ∃ w0, (w.alloc (.cells (bytesV d).toArray 26)).alloc (.cells Z32 26) = w0 := ⟨_, rfl⟩
  have hbx := box1 w d
  rw [hw0] at hbx
  obtain ⟨_, h2, h3, _⟩ := hbx
  have HZ := Lib.hid h2
  have HB0 := Lib.hid h3
  have HW0 := Lib.hid hw0
  have HI := Lib.hid (dg_info zd (by rfl))
  have hzz : (bytesV zd).toArray = Z32 := by rfl
  rw [hzz] at HI
  clear hw0 h2 h3
  unfold dgV
  by_cases g1 : n < 1
  · clear hbad
    go_enter Tryd.func22, Tryd.ntmps22
    go_wp2_with (refine wpList_store_row rfl 26 _ _ rfl _ Z32 rfl rfl _ _ (by rw [HW0.out]; exact HZ.out) HI.out rfl (by rw [← hzz]; exact bytesV_all _) ?_)
    rw [HW0.out]
    exact bodyPost_ret (results_cell_row2 rfl _ _ _ _ _ _ _ _ rfl rfl (setRow_heap _ _ _ _ _ _ HZ.out) Tryd.underlying26 rfl HI.out) rfl ⟨⟨zd, rfl, by rw [hzz]; rfl⟩, below_setRow HB0.out (by omega) _⟩
  by_cases g2 : n > 1099511627776
  · have g2' : 1099511627776 < n := g2
    clear hbad
    go_enter Tryd.func22, Tryd.ntmps22
    go_wp2_with (refine wpList_store_row rfl 26 _ _ rfl _ Z32 rfl rfl _ _ (by rw [HW0.out]; exact HZ.out) HI.out rfl (by rw [← hzz]; exact bytesV_all _) ?_)
    rw [HW0.out]
    exact bodyPost_ret (results_cell_row2 rfl _ _ _ _ _ _ _ _ rfl rfl (setRow_heap _ _ _ _ _ _ HZ.out) Tryd.underlying26 rfl HI.out) rfl ⟨⟨zd, rfl, by rw [hzz]; rfl⟩, below_setRow HB0.out (by omega) _⟩
  by_cases g3 : a < 0
  · have g2' : ¬ 1099511627776 < n := g2
    clear hbad
    go_enter Tryd.func22, Tryd.ntmps22
    go_wp2_with (refine wpList_store_row rfl 26 _ _ rfl _ Z32 rfl rfl _ _ (by rw [HW0.out]; exact HZ.out) HI.out rfl (by rw [← hzz]; exact bytesV_all _) ?_)
    rw [HW0.out]
    exact bodyPost_ret (results_cell_row2 rfl _ _ _ _ _ _ _ _ rfl rfl (setRow_heap _ _ _ _ _ _ HZ.out) Tryd.underlying26 rfl HI.out) rfl ⟨⟨zd, rfl, by rw [hzz]; rfl⟩, below_setRow HB0.out (by omega) _⟩
  have g4 : a ≥ n := by omega
  have g4' : n ≤ a := g4
  have g2' : ¬ 1099511627776 < n := g2
  clear hbad
  go_enter Tryd.func22, Tryd.ntmps22
  go_wp2_with (refine wpList_store_row rfl 26 _ _ rfl _ Z32 rfl rfl _ _ (by rw [HW0.out]; exact HZ.out) HI.out rfl (by rw [← hzz]; exact bytesV_all _) ?_)
  rw [HW0.out]
  exact bodyPost_ret (results_cell_row2 rfl _ _ _ _ _ _ _ _ rfl rfl (setRow_heap _ _ _ _ _ _ HZ.out) Tryd.underlying26 rfl HI.out) rfl ⟨⟨zd, rfl, by rw [hzz]; rfl⟩, below_setRow HB0.out (by omega) _⟩

set_option maxRecDepth 100000 in
set_option maxHeartbeats 1000000 in
theorem lawsteps_any (a m : Nat) (w : World) (h1 : 1 ≤ m) (ha : a < m) (hm : m ≤ 1099511627776) :
    Calls Tryd.prog 24 #[.int .i64 a, .int .i64 m] w fun e w' => e = .returned (.int .i64 (Go.Proofs.YtfolmglafnfcbaaDoor.steps a m)) ∧ w = w' := by
  have HS := Lib.hid (steps_40 a m h1 ha hm)
  obtain ⟨s, hs⟩ : ∃ s, s = Go.Proofs.YtfolmglafnfcbaaDoor.steps a m := ⟨_, rfl⟩
  have HSS := Lib.hid hs
  rw [← hs] at HS ⊢
  clear hs
  go_enter Tryd.func24, Tryd.ntmps24
  go_wp2_with fail
  go_loop [0, 1, 5] (fun v0 v1 v5 => ∃ x y c : Nat, v0 = .int .i64 x ∧ v1 = .int .i64 y ∧ v5 = .int .i64 c ∧ x < y ∧ y ≤ 1099511627776 ∧ Hid (c + Go.Proofs.YtfolmglafnfcbaaDoor.steps x y = s)) (fun _ v1 _ => (intOf v1).toNat)
  case atStart => exact ⟨a, m, 0, rfl, rfl, rfl, ha, hm, by unfold Hid; rw [HSS.out]; omega⟩
  case round =>
    obtain ⟨x, y, c, rfl, rfl, rfl, hxy, hy, HC⟩ := hrel
    have hc40 : c ≤ 40 := by have h := HC.out; have h' := HS.out; omega
    by_cases hend : y ≤ 1
    · have e : y = 1 := by omega
      subst e
      go_wp2_with fail
      go_ret
      exact ⟨ret_int (by have h := HC.out; rw [steps_one] at h; omega), rfl⟩
    · have h1y : (1 : Int) < (y : Int) := by omega
      have a1 := half_lt y (by omega) hy
      have a2 := half_pos y
      go_wp2_with fail
      go_loop [6] (fun v => ∃ k : Nat, v = .int .i64 k ∧ 1 ≤ k ∧ k < y ∧ Hid (∃ j, k = 2 ^ j)) (fun v => y - (intOf v).toNat)
      case atStart => exact ⟨1, rfl, by omega, by omega, 0, rfl⟩
      case round =>
        obtain ⟨k, rfl, hk1, hk2, HJ⟩ := hrel
        by_cases h : 2 * k < y
        · go_wp2_with fail
          go_round
          case rel =>
            refine ⟨k * 2, by go_num, by omega, by omega, ?_⟩
            obtain ⟨j, hj⟩ := HJ.out
            exact ⟨j + 1, by rw [hj, Nat.pow_succ]⟩
          case measure => simp [intOf]; omega
        · have HH : Hid (k = half y) := by
            obtain ⟨j, hj⟩ := HJ.out
            exact half_uniq y k j (by omega) hy hj hk2 (by omega)
          by_cases hl : x < k
          · go_wp2_with fail
            go_round
            case rel =>
              refine ⟨x, k, c + 1, rfl, rfl, by go_num, hl, by omega, ?_⟩
              have e := steps_left x y (by omega) hy (by rw [← HH.out]; exact hl)
              rw [← HH.out] at e
              have h := HC.out
              unfold Hid
              omega
            case measure => simp [intOf]; omega
          · go_wp2_with fail
            go_round
            case rel =>
              refine ⟨x - k, y - k, c + 1, by go_num, by go_num, by go_num, by omega, by omega, ?_⟩
              have e := steps_right x y (by omega) hy (by rw [← HH.out]; exact hl)
              rw [← HH.out] at e
              have h := HC.out
              unfold Hid
              omega
            case measure => simp [intOf]; omega
end Go.Proofs.YtfolmglafnfcbaaDoor
