/- Contracts of Covers and what it calls. -/
import Derived.Test.YtnbffkeinkgojaaCheckS
import Derived.Test.YtnbffkeinkgojaaRefCov
namespace Go.Proofs.Ytnbffkeinkgojaa
open Go.RowKit

/-- n bools lie in block g from o on -/
def RdBo (w : World) (g o n : Nat) (f : Nat → Bool) : Prop := g < w.heap.size ∧ ∀ j, j < n → w.cell? ⟨g, o + j, none⟩ = some (.bool (f j))
/-- does one of the first n hold false -/
def anyF (f : Nat → Bool) (n : Nat) : Bool := (List.range n).any fun j => !f j
theorem anyF_zero (f : Nat → Bool) : anyF f 0 = false := rfl
theorem anyF_succ (f : Nat → Bool) (n : Nat) : anyF f (n + 1) = (anyF f n || !f n) := by
  unfold anyF
  rw [List.range_succ, List.any_append]
  simp
theorem anyF_hit {f : Nat → Bool} {n j : Nat} (h : j < n) (hf : f j = false) : anyF f n = true := by
  unfold anyF
  rw [List.any_eq_true]
  exact ⟨j, List.mem_range.2 h, by rw [hf]; rfl⟩
theorem anyF_false {f : Nat → Bool} {n : Nat} : anyF f n = false ↔ ∀ j, j < n → f j = true := by
  unfold anyF
  rw [List.any_eq_false]
  constructor
  · intro h j hj
    have := h j (List.mem_range.2 hj)
    simpa using this
  · intro h j hj
    rw [h j (List.mem_range.1 hj)]
    simp

set_option maxRecDepth 100000 in
set_option maxHeartbeats 1000000 in
theorem index_any (g o n c : Nat) (f : Nat → Bool) (w : World) (hr : RdBo w g o n f) (hn : n ≤ 4611686018427387904) :
    Calls Try.prog 41 #[.slice (some ⟨g, o, none⟩) n c, .bool false] w (fun e w' => IdxIs (anyF f n) w w' e) := by
  have HR := Lib.hid hr
  clear hr
  go_enter Try.func41, Try.ntmps41
  go_wp2_with fail
  go_loopw [8] (fun v wr => ∃ j : Nat, v = .int .i64 j ∧ j ≤ n ∧ Hid (anyF f j = false) ∧ Hid (Below w.heap.size w wr)) (fun v _ => n - (intOf v).toNat)
  case atStart => exact ⟨0, rfl, by omega, anyF_zero f, Below.refl _ _⟩
  case round =>
    obtain ⟨j, rfl, hj, HO, HB⟩ := hrel
    by_cases hend : j = n
    · have HE2 : Hid (anyF f n = false) := by rw [← hend]; exact HO.out
      have hjn : ¬ (j : Int) < (n : Int) := by omega
      go_wp2_with fail
      go_ret
      exact ⟨-1, rfl, by rw [HE2.out]; rfl, HB.out⟩
    have hjm : j < n := by omega
    have hjm' : (j : Int) < (n : Int) := by omega
    have i0 : (0 : Int) ≤ (j : Int) := by omega
    have hc := (HB.out.cell (by exact HR.out.1)).trans (HR.out.2 j hjm)
    have zr := HB.out.size
    clear hend
    cases hf : f j with
    | false =>
      have HD : Hid (anyF f n = true) := anyF_hit hjm hf
      rw [hf] at hc
      clear hf
      go_wp2_with fail
      go_ret
      exact ⟨j, rfl, by rw [HD.out]; simp, HB.out⟩
    | true =>
      have HN : Hid (anyF f (j + 1) = false) := by unfold Hid; rw [anyF_succ, HO.out, hf]; rfl
      rw [hf] at hc
      clear hf
      go_wp2_with fail
      go_roundw
      case rel => exact ⟨j + 1, by go_num, by omega, HN, HB⟩
      case measure => simp [intOf]; omega

set_option maxRecDepth 100000 in
set_option maxHeartbeats 1000000 in
theorem contains_any (g o n c : Nat) (f : Nat → Bool) (w : World) (hr : RdBo w g o n f) (hn : n ≤ 4611686018427387904) :
    Calls Try.prog 38 #[.slice (some ⟨g, o, none⟩) n c, .bool false] w fun e w' => e = .returned (.bool (anyF f n)) ∧ Below w.heap.size w w' := by
  have HK := Lib.hid (index_any g o n c f w hr hn)
  clear hr
  go_enter Try.func38, Try.ntmps38
  go_wp2_with fail
  refine HK.out.mono ?_
  rintro e w2 ⟨r, rfl, hr, hb2⟩
  have HB2 := Lib.hid hb2
  have HR := Lib.hid hr
  clear hb2 HK hr
  go_wp2_with fail
  go_ret
  exact ⟨by rw [← HR.out]; rfl, HB2.out⟩

set_option maxRecDepth 100000 in
set_option maxHeartbeats 1000000 in
theorem covers_any (A : Option Addr) (n c : Nat) (l : List Sp) (F T : Int) (w : World) (hr : RdS w w.heap.size A n l) (hn : n ≤ 4611686018427387904) :
    Calls Try.prog 25 #[.slice A n c, .agg #[.int .i64 F, .int .i64 T]] w fun e w' => e = .returned (.bool (covM l F T)) ∧ Below w.heap.size w w' := by
  have hd0 : (w.alloc (.cells #[.int .i64 F, .int .i64 T] 31)).cell? ⟨w.heap.size, 0, none⟩ = some (.int .i64 F) := by rw [cell_of_row _ _ 0 _ _ _ (heap_alloc_new _ _)]; rfl
  have hd1 : (w.alloc (.cells #[.int .i64 F, .int .i64 T] 31)).cell? ⟨w.heap.size, 1, none⟩ = some (.int .i64 T) := by rw [cell_of_row _ _ 1 _ _ _ (heap_alloc_new _ _)]; rfl
  have hb1 : Below w.heap.size w (w.alloc (.cells #[.int .i64 F, .int .i64 T] 31)) := Below.new1 _ _
  have hz0 : (w.alloc (.cells #[.int .i64 F, .int .i64 T] 31)).heap.size = w.heap.size + 1 := by simp
  have HB0 := Lib.hid hb1
  have hr1 := hr.below hb1 hb1.size
  have HR := Lib.hid hr1
  have HZ0 := Lib.hid hz0
  have HC0 := Lib.hid hd0
  have HC1 := Lib.hid hd1
  clear hr hb1 hr1 hz0 hd0 hd1
  by_cases h1 : T ≤ F
  · have HE := Lib.hid (covM_true (l := l) (F := F) (T := T) (.inl h1))
    have h1' : F ≥ T := h1
    go_enter Try.func25, Try.ntmps25
    go_wp2_with fail
    go_ret
    exact ⟨by rw [HE.out]; rfl, HB0.out⟩
  have h1' : ¬ F ≥ T := h1
  by_cases h2 : F < 0
  · have HE := Lib.hid (covM_false (l := l) (F := F) (T := T) (by omega))
    go_enter Try.func25, Try.ntmps25
    go_wp2_with fail
    go_ret
    exact ⟨by rw [HE.out]; rfl, HB0.out⟩
  by_cases h3 : 1024 < T
  · have HE := Lib.hid (covM_false (l := l) (F := F) (T := T) (by omega))
    have h3' : T > 1024 := h3
    go_enter Try.func25, Try.ntmps25
    go_wp2_with fail
    go_ret
    exact ⟨by rw [HE.out]; rfl, HB0.out⟩
  have h3' : ¬ T > 1024 := h3
  obtain ⟨a, rfl⟩ : ∃ a : Nat, F = (a : Int) := ⟨F.toNat, by omega⟩
  obtain ⟨b, rfl⟩ : ∃ a : Nat, T = (a : Int) := ⟨T.toNat, by omega⟩
  have ab : a < b := by omega
  have b1 : b ≤ 1024 := by omega
  have a0' : (0 : Int) ≤ (a : Int) := by omega
  have ab' : (a : Int) ≤ (b : Int) := by omega
  have b1' : (b : Int) ≤ 1024 := by omega
  obtain ⟨zb, hzb⟩ : ∃ z, z = rowV 1024 (dayF fun _ => false) := ⟨_, rfl⟩
  have hz43 := (zero_of_info zero_days).1
  have hn43 : ¬ zb = #[] := by rw [hzb]; exact rowV_ne (by omega) _
  rw [← hzb] at hz43
  have HZB := Lib.hid hzb
  have HSZ : Hid (zb.size = (rowV 1024 (dayF (dayIn l))).size) := by unfold Hid; rw [hzb, rowV_size, rowV_size]
  have HI' := Lib.hid (info_days' (dayIn l))
  clear hzb
  obtain ⟨w1, hw1⟩ : ∃ x, w.alloc (.cells #[.int .i64 a, .int .i64 b] 31) = x := ⟨_, rfl⟩
  rw [hw1] at HB0 HR HZ0 HC0 HC1
  have HW1 := Lib.hid hw1
  clear hw1
  have HD := Lib.hid (daysOf_any A n c l w1 HR.out hn)
  go_enter Try.func25, Try.ntmps25
  go_wp2_with fail
  rw [HW1.out]
  refine HD.out.mono ?_
  rintro e w2 ⟨rfl, hb2⟩
  have HB2 : Hid (Below w.heap.size w w2) := HB0.out.trans (hb2.mono HB0.out.size)
  have hz2 : w.heap.size < w2.heap.size := by have := hb2.size; have := HZ0.out; omega
  have hc0 : w2.cell? ⟨w.heap.size, 0, none⟩ = some (.int .i64 a) := (hb2.cell (by show w.heap.size < _; have := HZ0.out; omega)).trans HC0.out
  have hc1 : w2.cell? ⟨w.heap.size, 1, none⟩ = some (.int .i64 b) := (hb2.cell (by show w.heap.size < _; have := HZ0.out; omega)).trans HC1.out
  have hb3 : Below w2.heap.size w2 (w2.alloc (.cells (rowV 1024 (dayF (dayIn l))) 43)) := Below.new1 _ _
  have hc0' := (hb3.cell (p := ⟨w.heap.size, 0, none⟩) (by exact hz2)).trans hc0
  have hc1' := (hb3.cell (p := ⟨w.heap.size, 1, none⟩) (by exact hz2)).trans hc1
  have HB3 : Hid (Below w.heap.size w (w2.alloc (.cells (rowV 1024 (dayF (dayIn l))) 43))) := HB2.out.trans (hb3.mono HB2.out.size)
  have HR3 : Hid (DRow (w2.alloc (.cells (rowV 1024 (dayF (dayIn l))) 43)) w2.heap.size (dayIn l)) := heap_alloc_new _ _
  obtain ⟨w3, hw3⟩ : ∃ x, x = w2.alloc (.cells (rowV 1024 (dayF (dayIn l))) 43) := ⟨_, rfl⟩
  rw [← hw3] at hc0' hc1' HB3 HR3
  have HW3 := Lib.hid hw3.symm
  clear hb2 HB2 HC0 HC1 HZ0 hb3 hc0 hc1 HD HR hw3
  unfold dayV
  go_wp2_with (refine wpList_store_row rfl 43 _ _ rfl _ _ rfl rfl _ _ (heap_alloc_new _ _) HI'.out HSZ.out (days_one _) ?_; rw [World.setRow_alloc_new, HW3.out])
  have hz3 : w2.heap.size < w3.heap.size := RowF.lt HR3.out
  have HK := Lib.hid (contains_any w2.heap.size a (b - a) (1024 - a) (fun j => dayIn l (a + j)) w3 ⟨hz3, fun j hj => HR3.out.cell (a + j) (by omega)⟩ (by omega))
  have HM : Hid ((!anyF (fun j => dayIn l (a + j)) (b - a)) = covM l a b) := by
    unfold Hid
    cases h : anyF (fun j => dayIn l (a + j)) (b - a) with
    | false =>
      refine (covM_true (.inr ⟨by omega, by omega, fun m h1 h2 => ?_⟩)).symm
      have := anyF_false.1 h (m - a) (by omega)
      rwa [show a + (m - a) = m by omega] at this
    | true =>
      refine (covM_false ?_).symm
      rintro (h' | ⟨_, _, h'⟩)
      · omega
      · have : anyF (fun j => dayIn l (a + j)) (b - a) = false := anyF_false.2 fun j hj => h' (a + j) (by omega) (by omega)
        rw [h] at this
        cases this
  refine HK.out.mono ?_
  rintro e w4 ⟨rfl, hb4⟩
  have HB4 : Hid (Below w.heap.size w w4) := HB3.out.trans (hb4.mono HB3.out.size)
  clear hb4 HK HB3 HR3
  go_wp2_with fail
  go_ret
  exact ⟨by rw [← HM.out]; rfl, HB4.out⟩
end Go.Proofs.Ytnbffkeinkgojaa
