/- Contract of the reference's Covers. -/
import Derived.Test.YtnbffkeinkgojaaRefHas
namespace Go.Proofs.Ytnbffkeinkgojaa
open Go.RowKit

def covM (l : List Sp) (F T : Int) : Bool := decide (T ≤ F) || (decide (0 ≤ F) && decide (T ≤ 1024) && (List.range 1024).all fun m => !(decide (F ≤ (m : Int)) && decide ((m : Int) < T)) || dayIn l m)
theorem covM_iff {l : List Sp} {F T : Int} : covM l F T = true ↔ T ≤ F ∨ (0 ≤ F ∧ T ≤ 1024 ∧ ∀ m : Nat, F ≤ (m : Int) → (m : Int) < T → dayIn l m = true) := by
  unfold covM
  simp only [Bool.or_eq_true, Bool.and_eq_true, decide_eq_true_eq, List.all_eq_true, List.mem_range, Bool.not_eq_true', Bool.and_eq_false_iff, decide_eq_false_iff_not]
  constructor
  · rintro (h | ⟨⟨h1, h2⟩, h3⟩)
    · exact .inl h
    · refine .inr ⟨h1, h2, fun m hm1 hm2 => ?_⟩
      rcases h3 m (by omega) with h | h
      · omega
      · exact h
  · rintro (h | ⟨h1, h2, h3⟩)
    · exact .inl h
    · refine .inr ⟨⟨h1, h2⟩, fun m hm => ?_⟩
      by_cases a : F ≤ (m : Int) ∧ (m : Int) < T
      · exact .inr (h3 m a.1 a.2)
      · left; omega
theorem covM_true {l : List Sp} {F T : Int} (h : T ≤ F ∨ (0 ≤ F ∧ T ≤ 1024 ∧ ∀ m : Nat, F ≤ (m : Int) → (m : Int) < T → dayIn l m = true)) : covM l F T = true := covM_iff.2 h
theorem covM_false {l : List Sp} {F T : Int} (h : ¬ (T ≤ F ∨ (0 ≤ F ∧ T ≤ 1024 ∧ ∀ m : Nat, F ≤ (m : Int) → (m : Int) < T → dayIn l m = true))) : covM l F T = false := by
  rw [← Bool.not_eq_true]
  exact fun e => h (covM_iff.1 e)
attribute [irreducible] covM

set_option maxRecDepth 100000 in
set_option maxHeartbeats 2000000 in
theorem refcovers_any (A : Option Addr) (n c : Nat) (l : List Sp) (F T : Int) (w : World) (hr : RdS w w.heap.size A n l) (hn : n ≤ 4611686018427387904) :
    Calls Try.prog 26 #[.slice A n c, .agg #[.int .i64 F, .int .i64 T]] w fun e w' => e = .returned (.bool (covM l F T)) ∧ Below w.heap.size w w' := by
  obtain ⟨w0, hw0⟩ : ∃ w0, w.alloc (.cells #[.int .i64 F, .int .i64 T] 31) = w0 := ⟨_, rfl⟩
  have hb0 : Below w.heap.size w w0 := by rw [← hw0]; exact Below.new1 w _
  have h2 := heap_alloc_new w (.cells #[.int .i64 F, .int .i64 T] 31)
  have hc0 : w0.cell? ⟨w.heap.size, 0, none⟩ = some (.int .i64 F) := by rw [← hw0, cell_of_row _ _ 0 _ _ _ h2]; rfl
  have hc1 : w0.cell? ⟨w.heap.size, 1, none⟩ = some (.int .i64 T) := by rw [← hw0, cell_of_row _ _ 1 _ _ _ h2]; rfl
  have hz0 : w.heap.size < w0.heap.size := by rw [← hw0]; simp
  have HW0 := Lib.hid hw0
  have HB0 := Lib.hid hb0
  have HR := Lib.hid (hr.below hb0 hb0.size)
  have HC1 := Lib.hid hc1
  have hd0 : (w.alloc (.cells #[.int .i64 F, .int .i64 T] 31)).cell? ⟨w.heap.size, 0, none⟩ = some (.int .i64 F) := by rw [hw0]; exact hc0
  have hd1 : (w.alloc (.cells #[.int .i64 F, .int .i64 T] 31)).cell? ⟨w.heap.size, 1, none⟩ = some (.int .i64 T) := by rw [hw0]; exact hc1
  clear hw0 hb0 hr h2 hc0 hc1
  by_cases h1 : T ≤ F
  · have HE := Lib.hid (covM_true (l := l) (.inl h1))
    have h1' : F ≥ T := h1
    go_enter Try.func26, Try.ntmps26
    go_wp2_with fail
    go_ret
    exact ⟨by rw [HE.out]; rfl, by rw [HW0.out]; exact HB0.out⟩
  have h1' : ¬ F ≥ T := h1
  by_cases h2 : F < 0
  · have HE := Lib.hid (covM_false (l := l) (F := F) (T := T) (by omega))
    go_enter Try.func26, Try.ntmps26
    go_wp2_with fail
    go_ret
    exact ⟨by rw [HE.out]; rfl, by rw [HW0.out]; exact HB0.out⟩
  by_cases h3 : 1024 < T
  · have HE := Lib.hid (covM_false (l := l) (F := F) (T := T) (by omega))
    have h3' : T > 1024 := h3
    go_enter Try.func26, Try.ntmps26
    go_wp2_with fail
    go_ret
    exact ⟨by rw [HE.out]; rfl, by rw [HW0.out]; exact HB0.out⟩
  have h3' : ¬ T > 1024 := h3
  have HD := Lib.hid (refdays_any A n c l w0 HR.out hn)
  go_enter Try.func26, Try.ntmps26
  go_wp2_with fail
  rw [HW0.out]
  refine HD.out.mono ?_
  rintro e w1 ⟨g, rfl, hrow, hg, hb1⟩
  have HROW := Lib.hid hrow
  have HB1 := Lib.hid (HB0.out.trans (hb1.mono HB0.out.size))
  have hgl := hrow.lt
  have hc1 : w1.cell? ⟨w.heap.size, 1, none⟩ = some (.int .i64 T) := (hb1.cell (by exact hz0)).trans HC1.out
  have hc0 : w1.cell? ⟨w.heap.size, 0, none⟩ = some (.int .i64 F) := (hb1.cell (by exact hz0)).trans (by rw [← HW0.out]; exact hd0)
  clear hrow hb1 HD hd0 hd1
  go_wp2_with fail
  have z1 : w.heap.size < w1.heap.size := by have := HB0.out.size; omega
  have HC1' := Lib.hid hc1
  clear hc0 hc1
  go_loopw [6] (fun v wr => ∃ m : Nat, v = .int .i64 m ∧ F ≤ (m : Int) ∧ (m : Int) ≤ T ∧ Hid (∀ k : Nat, F ≤ (k : Int) → k < m → dayIn l k = true) ∧ Hid (Below w1.heap.size w1 wr)) (fun v _ => (1024 - intOf v).toNat)
  case atStart => exact ⟨F.toNat, by rw [show ((F.toNat : Nat) : Int) = F by omega], by omega, by omega, fun k h1 h2 => by omega, Below.refl _ _⟩
  case round =>
    obtain ⟨m, rfl, hm1, hm2, HA, HB⟩ := hrel
    have hc1 : wr.cell? ⟨w.heap.size, 1, none⟩ = some (.int .i64 T) := (HB.out.cell (by exact z1)).trans HC1'.out
    have HBW : Hid (Below w.heap.size w wr) := HB1.out.trans (HB.out.mono HB1.out.size)
    by_cases hend : (m : Int) < T
    · have hm3 : m < 1024 := by omega
      have m0 : (0 : Int) ≤ (m : Int) := by omega
      have m1 : (m : Int) < 1024 := by omega
      have hcm := (HROW.out.below HB.out hgl).cell m hm3
      cases hd : dayIn l m with
      | false =>
        rw [hd] at hcm
        have HE := Lib.hid (covM_false (l := l) (F := F) (T := T) (by
          rintro (h | ⟨_, _, h⟩)
          · omega
          · have := h m hm1 hend
            rw [hd] at this
            cases this))
        go_wp2_with fail
        go_ret
        exact ⟨by rw [HE.out]; rfl, HBW.out⟩
      | true =>
        rw [hd] at hcm
        have HA' : Hid (∀ k : Nat, F ≤ (k : Int) → k < m + 1 → dayIn l k = true) := fun k h1 h2 => by
          by_cases e : k = m
          · rw [e]; exact hd
          · exact HA.out k h1 (by omega)
        go_wp2_with fail
        go_roundw
        case rel => exact ⟨m + 1, by go_num, by omega, by omega, HA', HB⟩
        case measure => simp [intOf]; omega
    · have HE := Lib.hid (covM_true (l := l) (F := F) (T := T) (.inr ⟨by omega, by omega, fun k h1 h2 => HA.out k h1 (by omega)⟩))
      go_wp2_with fail
      go_ret
      exact ⟨by rw [HE.out]; rfl, HBW.out⟩
end Go.Proofs.Ytnbffkeinkgojaa
