/- Contracts of the specification's small functions. -/
import Derived.Test.YtdllceggjjopgaaDoorNumL
namespace Go.Proofs.YtdllceggjjopgaaDoor
open Go.RowKit

theorem byte_inj {c : UInt8} {k : Nat} (hk : k < 256) (h : c.toNat = k) : c = UInt8.ofNat k := by
  apply UInt8.toNat_inj.1
  rw [h]
  simp
  omega

set_option maxRecDepth 100000 in
set_option maxHeartbeats 1000000 in
theorem refletter_any (c : UInt8) (w : World) : Calls Tryd.prog 26 #[.int .u8 (c.toNat : Int)] w fun e w' => e = .returned (.bool (isLet c)) ∧ w = w' := by
  have hc : c.toNat < 256 := c.toNat_lt
  rw [isLet_iff]
  generalize c.toNat = k at *
  by_cases h1 : (97 : Int) ≤ (k : Int)
  · by_cases h2 : (k : Int) ≤ 122
    · have HE : Hid (((decide (97 ≤ k) && decide (k ≤ 122)) || (decide (65 ≤ k) && decide (k ≤ 90))) = true) := by unfold Hid; simp; omega
      go_enter Tryd.func26, Tryd.ntmps26
      go_wp2_with fail
      go_ret
      exact ⟨by rw [HE.out]; rfl, rfl⟩
    · have HE : Hid (((decide (97 ≤ k) && decide (k ≤ 122)) || (decide (65 ≤ k) && decide (k ≤ 90))) = false) := by unfold Hid; simp; omega
      have h3 : (65 : Int) ≤ (k : Int) := by omega
      have h4 : ¬ (k : Int) ≤ 90 := by omega
      go_enter Tryd.func26, Tryd.ntmps26
      go_wp2_with fail
      go_ret
      exact ⟨by rw [HE.out]; rfl, rfl⟩
  · by_cases h2 : (65 : Int) ≤ (k : Int)
    · by_cases h3 : (k : Int) ≤ 90
      · have HE : Hid (((decide (97 ≤ k) && decide (k ≤ 122)) || (decide (65 ≤ k) && decide (k ≤ 90))) = true) := by unfold Hid; simp; omega
        go_enter Tryd.func26, Tryd.ntmps26
        go_wp2_with fail
        go_ret
        exact ⟨by rw [HE.out]; rfl, rfl⟩
      · have HE : Hid (((decide (97 ≤ k) && decide (k ≤ 122)) || (decide (65 ≤ k) && decide (k ≤ 90))) = false) := by unfold Hid; simp; omega
        go_enter Tryd.func26, Tryd.ntmps26
        go_wp2_with fail
        go_ret
        exact ⟨by rw [HE.out]; rfl, rfl⟩
    · have HE : Hid (((decide (97 ≤ k) && decide (k ≤ 122)) || (decide (65 ≤ k) && decide (k ≤ 90))) = false) := by unfold Hid; simp; omega
      go_enter Tryd.func26, Tryd.ntmps26
      go_wp2_with fail
      go_ret
      exact ⟨by rw [HE.out]; rfl, rfl⟩

set_option maxRecDepth 100000 in
set_option maxHeartbeats 1000000 in
theorem reffigure_any (c : UInt8) (w : World) : Calls Tryd.prog 28 #[.int .u8 (c.toNat : Int)] w fun e w' => e = .returned (.bool (isDig c)) ∧ w = w' := by
  have hc : c.toNat < 256 := c.toNat_lt
  rw [isDig_iff]
  generalize c.toNat = k at *
  by_cases h1 : (48 : Int) ≤ (k : Int)
  · by_cases h2 : (k : Int) ≤ 57
    · have HE : Hid ((decide (48 ≤ k) && decide (k ≤ 57)) = true) := by unfold Hid; simp; omega
      go_enter Tryd.func28, Tryd.ntmps28
      go_wp2_with fail
      go_ret
      exact ⟨by rw [HE.out]; rfl, rfl⟩
    · have HE : Hid ((decide (48 ≤ k) && decide (k ≤ 57)) = false) := by unfold Hid; simp; omega
      go_enter Tryd.func28, Tryd.ntmps28
      go_wp2_with fail
      go_ret
      exact ⟨by rw [HE.out]; rfl, rfl⟩
  · have HE : Hid ((decide (48 ≤ k) && decide (k ≤ 57)) = false) := by unfold Hid; simp; omega
    go_enter Tryd.func28, Tryd.ntmps28
    go_wp2_with fail
    go_ret
    exact ⟨by rw [HE.out]; rfl, rfl⟩

set_option maxRecDepth 100000 in
set_option maxHeartbeats 1000000 in
theorem refspace_any (c : UInt8) (w : World) : Calls Tryd.prog 22 #[.int .u8 (c.toNat : Int)] w fun e w' => e = .returned (.bool (isSpc c)) ∧ w = w' := by
  have hc : c.toNat < 256 := c.toNat_lt
  rw [isSpc_iff]
  generalize c.toNat = k at *
  have e1 : ((k : Int) == 32) = (k == 32) := by rw [Bool.eq_iff_iff]; simp; omega
  have e2 : ((k : Int) == 9) = (k == 9) := by rw [Bool.eq_iff_iff]; simp; omega
  have e3 : ((k : Int) == 10) = (k == 10) := by rw [Bool.eq_iff_iff]; simp; omega
  have e4 : ((k : Int) == 13) = (k == 13) := by rw [Bool.eq_iff_iff]; simp; omega
  generalize (k == 32) = a1 at *
  generalize (k == 9) = a2 at *
  generalize (k == 10) = a3 at *
  generalize (k == 13) = a4 at *
  cases a1
  · cases a2
    · cases a3
      · cases a4
        · go_enter Tryd.func22, Tryd.ntmps22
          go_wp2_with fail
          go_ret
          exact ⟨rfl, rfl⟩
        · go_enter Tryd.func22, Tryd.ntmps22
          go_wp2_with fail
          go_ret
          exact ⟨rfl, rfl⟩
      · go_enter Tryd.func22, Tryd.ntmps22
        go_wp2_with fail
        go_ret
        exact ⟨rfl, rfl⟩
    · go_enter Tryd.func22, Tryd.ntmps22
      go_wp2_with fail
      go_ret
      exact ⟨rfl, rfl⟩
  · go_enter Tryd.func22, Tryd.ntmps22
    go_wp2_with fail
    go_ret
    exact ⟨rfl, rfl⟩

set_option maxRecDepth 100000 in
set_option maxHeartbeats 1000000 in
theorem refpart_any (c : UInt8) (w : World) : Calls Tryd.prog 27 #[.int .u8 (c.toNat : Int)] w fun e w' => e = .returned (.bool (prt c)) ∧ w = w' := by
  have hc : c.toNat < 256 := c.toNat_lt
  have HE := Lib.hid (prt_iff c)
  have e1 : (((c.toNat : Nat) : Int) == 95) = (c.toNat == 95) := by rw [Bool.eq_iff_iff]; simp; omega
  have KL := Lib.hid (refletter_any c w)
  have KF := Lib.hid (reffigure_any c w)
  generalize isLet c = a1 at *
  generalize isDig c = a2 at *
  generalize (c.toNat == 95) = a3 at *
  cases a1
  · cases a2
    · go_enter Tryd.func27, Tryd.ntmps27
      go_wp2_with fail
      refine KL.out.mono ?_
      rintro e w' ⟨rfl, rfl⟩
      go_wp2_with fail
      refine KF.out.mono ?_
      rintro e w' ⟨rfl, rfl⟩
      go_wp2_with fail
      go_ret
      exact ⟨by rw [HE.out]; rfl, rfl⟩
    · go_enter Tryd.func27, Tryd.ntmps27
      go_wp2_with fail
      refine KL.out.mono ?_
      rintro e w' ⟨rfl, rfl⟩
      go_wp2_with fail
      refine KF.out.mono ?_
      rintro e w' ⟨rfl, rfl⟩
      go_wp2_with fail
      go_ret
      exact ⟨by rw [HE.out]; rfl, rfl⟩
  · go_enter Tryd.func27, Tryd.ntmps27
    go_wp2_with fail
    refine KL.out.mono ?_
    rintro e w' ⟨rfl, rfl⟩
    go_wp2_with fail
    go_ret
    exact ⟨by rw [HE.out]; rfl, rfl⟩

/-- the signs as the specification's string -/
abbrev SG : List UInt8 := [123, 125, 40, 41, 59, 44, 61, 35, 47, 60, 33, 45, 46, 58, 43]
theorem sg_none {c : UInt8} {j : Nat} (h : ∀ i, i < j → SG[i]? ≠ some c) (hj : 15 ≤ j) : isSgn c = false := by
  rw [isSgn_iff, ← Bool.not_eq_true]
  intro hc
  have hm : c ∈ SG := by simpa [signL] using hc
  obtain ⟨i, hi, e⟩ := List.mem_iff_getElem.1 hm
  exact h i (by have : i < 15 := hi; omega) (by rw [List.getElem?_eq_getElem hi, e])
theorem sg_some {c : UInt8} {j : Nat} (h : SG[j]? = some c) : isSgn c = true := by
  rw [isSgn_iff]
  have hm : c ∈ SG := List.mem_of_getElem? h
  simpa [signL] using hm

set_option maxRecDepth 100000 in
set_option maxHeartbeats 1000000 in
theorem refsign_any (c : UInt8) (w : World) : Calls Tryd.prog 30 #[.int .u8 (c.toNat : Int)] w fun e w' => e = .returned (.bool (isSgn c)) ∧ w = w' := by
  have hc : c.toNat < 256 := c.toNat_lt
  go_enter Tryd.func30, Tryd.ntmps30
  go_wp2_with fail
  go_loop [4] (fun v => ∃ j : Nat, j ≤ 15 ∧ v = .int .i64 j ∧ Hid (∀ i, i < j → SG[i]? ≠ some c)) (fun v => 15 - (intOf v).toNat)
  case atStart => exact ⟨0, Nat.zero_le _, rfl, fun i h => by omega⟩
  case round =>
    obtain ⟨j, hj, rfl, HN⟩ := hrel
    by_cases hlt : j < 15
    · obtain ⟨d, hd⟩ : ∃ d, SG[j]? = some d := ⟨_, List.getElem?_eq_getElem hlt⟩
      obtain ⟨hp, hix⟩ := ba_at hd
      have j1 : (j : Int) < 15 := by omega
      by_cases he : d = c
      · have HE : Hid (isSgn c = true) := sg_some (by rw [hd, he])
        have hb : (((d.toNat : Nat) : Int) == ((c.toNat : Nat) : Int)) = true := by rw [he]; simp
        clear hd he
        go_wp2_with fail
        go_ret
        exact ⟨by rw [HE.out]; rfl, rfl⟩
      · have hb : (((d.toNat : Nat) : Int) == ((c.toNat : Nat) : Int)) = false := by
          rw [beq_eq_false_iff_ne]
          intro h
          exact he (UInt8.toNat_inj.1 (by omega))
        have HN2 : Hid (∀ i, i < j + 1 → SG[i]? ≠ some c) := fun i hi e => by
          by_cases h : i = j
          · subst h
            rw [hd] at e
            exact he (Option.some.inj e)
          · exact HN.out i (by omega) e
        clear hd he
        go_wp2_with fail
        go_round
        case rel => exact ⟨j + 1, by omega, by go_num, HN2⟩
        case measure => simp [intOf]; omega
    · have HE : Hid (isSgn c = false) := sg_none HN.out (by omega)
      have j1 : ¬ (j : Int) < 15 := by omega
      go_wp2_with fail
      go_ret
      exact ⟨by rw [HE.out]; rfl, rfl⟩
end Go.Proofs.YtdllceggjjopgaaDoor
