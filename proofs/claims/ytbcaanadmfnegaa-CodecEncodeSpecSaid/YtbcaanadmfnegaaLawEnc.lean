/- backflushlaw01.CodecEncodeSpec is true for every value. -/
import Derived.Test.YtbcaanadmfnegaaEnc2
import Derived.Test.YtbcaanadmfnegaaOpen
namespace Go.Proofs.Ytbcaanadmfnegaa
open Go.ChangeShapes Go.WideShapes Go.ChangeAt Go.RowKit

set_option maxRecDepth 100000 in
set_option maxHeartbeats 4000000 in
theorem law_enc_any (v : V) (x : Value) (w : World) (hv : Rd w w.heap.size v x) : Calls Try.prog 3 #[x] w fun e w' => e = .returned (.bool true) ∧ Below w.heap.size w w' := by
  have HV := Lib.hid hv
  obtain ⟨k, n, s, l, rfl⟩ : ∃ k n s l, v = V.mk k n s l := by cases v with | mk k n s l => exact ⟨k, n, s, l, rfl⟩
  obtain ⟨A, cap, rfl, hr⟩ := hv
  clear hr
  obtain ⟨W, hW⟩ : ∃ W, W = w.alloc (.cells #[.int .i64 k, .int .i64 n, .string s, .slice A l.length cap] 24) := ⟨_, rfl⟩
  have hWb : Below w.heap.size w W := by rw [hW]; exact below_box _
  have hWz : W.heap.size = w.heap.size + 1 := by rw [hW]; simp
  have HVB : Hid (VB W w.heap.size k n (.string s) (.slice A l.length cap)) := by unfold Hid; rw [hW]; exact vb_new _ _ _ _ _
  have HW := Lib.hid hW
  have HWB := Lib.hid hWb
  have HRV := Lib.hid (Rd.below (B' := W.heap.size) HV.out hWb (by omega))
  clear hW hWb
  go_enter Try.func3, Try.ntmps3
  go_wp2_with fail
  rw [← HW.out]
  refine (sane_any _).mono ?_
  rintro e w1 ⟨rfl, hb1⟩
  have z1 : W.heap.size ≤ w1.heap.size := hb1.size
  have B1 := Lib.hid (HWB.out.trans (hb1.mono (by omega)))
  have V1 := HVB.out.below hb1
  have R1 := Lib.hid (Rd.below (B' := w1.heap.size) HRV.out hb1 z1)
  have a0 := V1.cell 0
  have a1 := V1.cell 1
  have a2 := V1.cell 2
  have a3 := V1.cell 3
  have HV1 := Lib.hid V1
  clear hb1 V1
  go_wp2_with fail
  obtain ⟨X, hX⟩ : ∃ X, X = w1.alloc (.cells #[.int .i64 k, .int .i64 n, .string s, .slice A l.length cap] 24) := ⟨_, rfl⟩
  have hXb : Below w1.heap.size w1 X := by rw [hX]; exact below_box _
  have hXz : X.heap.size = w1.heap.size + 1 := by rw [hX]; simp
  have hXc : ∀ i z, [Value.int .i64 k, .int .i64 n, .string s, .slice A l.length cap][i]? = some z → X.cell? ⟨w1.heap.size, i, none⟩ = some z := fun i z hi => by
    rw [hX, cell_of_row _ _ i _ _ _ (heap_alloc_new w1 _)]
    simpa using hi
  have R2 := Lib.hid (Rd.below (B' := X.heap.size) R1.out hXb (by omega))
  have HA := Lib.hid (rdAll_one (by omega) hXc R2.out)
  have B2 := Lib.hid (B1.out.trans (hXb.mono (by omega)))
  have HV2 := Lib.hid (HV1.out.below hXb)
  have HX := Lib.hid hX
  clear hXb hXc hX a0 a1 a2 a3
  rw [← HX.out]
  refine (few_any [.mk k n s l] _ 1 X X.heap.size (Nat.le_refl _) HA.out (by simp)).mono ?_
  rintro e w2 ⟨rfl, hb2⟩
  have z2 : X.heap.size ≤ w2.heap.size := hb2.size
  have B3 := Lib.hid (B2.out.trans (hb2.mono (by omega)))
  have R3 := Lib.hid (Rd.below (B' := w2.heap.size) R2.out hb2 z2)
  have V3 := HV2.out.below hb2
  have a0 := V3.cell 0
  have a1 := V3.cell 1
  have a2 := V3.cell 2
  have a3 := V3.cell 3
  have HV3 := Lib.hid V3
  clear hb2 V3
  cases hfew : fewAll [V.mk k n s l] with
  | false =>
    clear hfew
    go_wp2_with fail
    go_ret
    exact ⟨rfl, B3.out⟩
  | true =>
    have hbk := fewAll_bulk hfew _ (List.mem_singleton.2 rfl)
    have HBK := Lib.hid (Nat.le_trans hbk (by omega : 42000 ≤ 1099511627776))
    clear hfew hbk
    generalize hck : V.check (.mk k n s l) = c
    obtain ⟨N, hN⟩ : ∃ N, N = (V.enc (.mk k n s l)).length := ⟨_, rfl⟩
    have HN := Lib.hid hN
    have HCK := Lib.hid hck
    clear hck hN
    by_cases hc0 : c = 0
    · subst hc0
      go_wp2_with fail
      refine (encode_yes _ w2 _ _ (Nat.le_refl _) R3.out HBK.out HCK.out HN.out).mono ?_
      rintro e w4 ⟨g4, c4, rfl, hb4, hd4, _, _⟩
      have z4 : w2.heap.size ≤ w4.heap.size := hb4.size
      have B4 := Lib.hid (B3.out.trans (hb4.mono (by omega)))
      have R4 := Lib.hid (Rd.below (B' := w4.heap.size) R3.out hb4 z4)
      have V4 := HV3.out.below hb4
      clear a0 a1 a2 a3
      have a0 := V4.cell 0
      have a1 := V4.cell 1
      have a2 := V4.cell 2
      have a3 := V4.cell 3
      have HV4 := Lib.hid V4
      have HD4 := Lib.hid hd4
      clear hb4 V4 hd4
      go_wp2_with fail
      refine (refEncode_yes _ w4 _ _ (Nat.le_refl _) R4.out HBK.out HCK.out HN.out).mono ?_
      rintro e w5 ⟨g5, c5, rfl, hb5, hd5, _, _⟩
      have z5 : w4.heap.size ≤ w5.heap.size := hb5.size
      have B5 := Lib.hid (B4.out.trans (hb5.mono (by omega)))
      have R5 := Lib.hid (Rd.below (B' := w5.heap.size) R4.out hb5 z5)
      have V5 := HV4.out.below hb5
      clear a0 a1 a2 a3
      have a0 := V5.cell 0
      have a1 := V5.cell 1
      have a2 := V5.cell 2
      have a3 := V5.cell 3
      have HV5 := Lib.hid V5
      have HD5 := Lib.hid (HD4.out.below hb5)
      have HE5 := Lib.hid hd5
      clear hb5 V5 hd5
      go_wp2_with fail
      refine (codecSize_any _ w5 _ _ (Nat.le_refl _) R5.out HBK.out).mono ?_
      rintro e w6 ⟨he, hb6⟩
      rw [HCK.out, if_pos rfl, ← HN.out] at he
      subst he
      have z6 : w5.heap.size ≤ w6.heap.size := hb6.size
      have B6 := Lib.hid (B5.out.trans (hb6.mono (by omega)))
      have R6 := Lib.hid (Rd.below (B' := w6.heap.size) R5.out hb6 z6)
      have V6 := HV5.out.below hb6
      clear a0 a1 a2 a3
      have a0 := V6.cell 0
      have a1 := V6.cell 1
      have a2 := V6.cell 2
      have a3 := V6.cell 3
      have HV6 := Lib.hid V6
      have HD6 := Lib.hid (RdB.below (B := w4.heap.size) HD5.out (hb6.mono z5))
      have HE6 := Lib.hid (HE5.out.below hb6)
      clear hb6 V6
      go_wp2_with fail
      refine (refSize_any _ w6 _ _ (Nat.le_refl _) R6.out HBK.out).mono ?_
      rintro e w7 ⟨he, hb7⟩
      rw [HCK.out, if_pos rfl, ← HN.out] at he
      subst he
      have z7 : w6.heap.size ≤ w7.heap.size := hb7.size
      have B7 := Lib.hid (B6.out.trans (hb7.mono (by omega)))
      have R7 := Lib.hid (Rd.below (B' := w7.heap.size) R6.out hb7 z7)
      have HV7 := Lib.hid (HV6.out.below hb7)
      have HD7 := Lib.hid (RdB.below (B := w4.heap.size) HD6.out (hb7.mono (by omega)))
      have HE7 := Lib.hid (RdB.below (B := w5.heap.size) HE6.out (hb7.mono (by omega)))
      clear hb7 a0 a1 a2 a3
      have HK : Hid (∀ w' : World, Below w7.heap.size w7 w' → (Below w7.heap.size w7 w' ∧ w'.cell? ⟨w.heap.size, 0, none⟩ = some (.int .i64 k) ∧ w'.cell? ⟨w.heap.size, 1, none⟩ = some (.int .i64 n) ∧ w'.cell? ⟨w.heap.size, 2, none⟩ = some (.string s) ∧ w'.cell? ⟨w.heap.size, 3, none⟩ = some (.slice A l.length cap) ∧
          (convert 27 9 (.slice (some ⟨g4, 0, none⟩) N c4)).run Try.prog w' = .ok (.string ⟨(V.enc (.mk k n s l)).toArray⟩) w' ∧ (convert 27 9 (.slice (some ⟨g5, 0, none⟩) N c5)).run Try.prog w' = .ok (.string ⟨(V.enc (.mk k n s l)).toArray⟩) w')) := fun w' hb => by
        have h := HV7.out.below hb
        exact ⟨hb, h.cell 0, h.cell 1, h.cell 2, h.cell 3, run_str (RdB.below (B := w4.heap.size) HD7.out (hb.mono (by omega))) c4, run_str (RdB.below (B := w5.heap.size) HE7.out (hb.mono (by omega))) c5⟩
      have C1 : Hid (∀ (w' : World) (R : Prop), (Below w7.heap.size w7 w' ∧ R) → Calls Try.prog 16 #[.agg #[.int .i64 k, .int .i64 n, .string s, .slice A l.length cap]] w' fun e w8 => e = .returned (.int .i64 0) ∧ Below w'.heap.size w' w8) := fun w' R h => by
        have := check_any _ w' _ _ (Nat.le_refl _) (Rd.below (B' := w'.heap.size) R7.out h.1 h.1.size) HBK.out
        rwa [HCK.out] at this
      have C2 : Hid (∀ (w' : World) (R : Prop), (Below w7.heap.size w7 w' ∧ R) → Calls Try.prog 17 #[.agg #[.int .i64 k, .int .i64 n, .string s, .slice A l.length cap]] w' fun e w8 => e = .returned (.int .i64 0) ∧ Below w'.heap.size w' w8) := fun w' R h => by
        have := refCheck_any _ w' _ _ (Nat.le_refl _) (Rd.below (B' := w'.heap.size) R7.out h.1 h.1.size) HBK.out
        rwa [HCK.out] at this
      have HFIN : Hid (∀ (w' : World) (R : Prop), (Below w7.heap.size w7 w' ∧ R) → Below w.heap.size w w') := fun w' R h => B7.out.trans (h.1.mono (by omega))
      go_wp2_with fail
      go_region_held3 (fun w' => Below w7.heap.size w7 w' ∧ w'.cell? ⟨w.heap.size, 0, none⟩ = some (.int .i64 k) ∧ w'.cell? ⟨w.heap.size, 1, none⟩ = some (.int .i64 n) ∧ w'.cell? ⟨w.heap.size, 2, none⟩ = some (.string s) ∧ w'.cell? ⟨w.heap.size, 3, none⟩ = some (.slice A l.length cap) ∧
          (convert 27 9 (.slice (some ⟨g4, 0, none⟩) N c4)).run Try.prog w' = .ok (.string ⟨(V.enc (.mk k n s l)).toArray⟩) w' ∧ (convert 27 9 (.slice (some ⟨g5, 0, none⟩) N c5)).run Try.prog w' = .ok (.string ⟨(V.enc (.mk k n s l)).toArray⟩) w')
        (first | assumption | exact HK.out _ (Below.refl _ _).drew | exact HK.out _ (below_next' _ (by assumption) hb8))
        (first
          | (go_at_call 16; ((with_reducible refine (C1.out _ _ (by assumption)).mono ?_); rintro e w8 ⟨rfl, hb8⟩))
          | (go_at_call 17; ((with_reducible refine (C2.out _ _ (by assumption)).mono ?_); rintro e w8 ⟨rfl, hb8⟩)))
      all_goals go_wp2_with fail
      all_goals go_ret
      all_goals exact ⟨rfl, HFIN.out _ _ (by assumption)⟩
    · have HC0 := Lib.hid hc0
      clear hc0
      go_wp2_with fail
      refine (encode_no _ w2 _ _ (Nat.le_refl _) R3.out HBK.out HCK.out HC0.out).mono ?_
      rintro e w4 ⟨rfl, hb4⟩
      have z4 : w2.heap.size ≤ w4.heap.size := hb4.size
      have B4 := Lib.hid (B3.out.trans (hb4.mono (by omega)))
      have R4 := Lib.hid (Rd.below (B' := w4.heap.size) R3.out hb4 z4)
      have V4 := HV3.out.below hb4
      clear a0 a1 a2 a3
      have a0 := V4.cell 0
      have a1 := V4.cell 1
      have a2 := V4.cell 2
      have a3 := V4.cell 3
      have HV4 := Lib.hid V4
      clear hb4 V4
      go_wp2_with fail
      refine (refEncode_no _ w4 _ _ (Nat.le_refl _) R4.out HBK.out HCK.out HC0.out).mono ?_
      rintro e w5 ⟨rfl, hb5⟩
      have z5 : w4.heap.size ≤ w5.heap.size := hb5.size
      have B5 := Lib.hid (B4.out.trans (hb5.mono (by omega)))
      have R5 := Lib.hid (Rd.below (B' := w5.heap.size) R4.out hb5 z5)
      have V5 := HV4.out.below hb5
      clear a0 a1 a2 a3
      have a0 := V5.cell 0
      have a1 := V5.cell 1
      have a2 := V5.cell 2
      have a3 := V5.cell 3
      have HV5 := Lib.hid V5
      clear hb5 V5
      go_wp2_with fail
      refine (codecSize_any _ w5 _ _ (Nat.le_refl _) R5.out HBK.out).mono ?_
      rintro e w6 ⟨he, hb6⟩
      rw [HCK.out, if_neg HC0.out] at he
      subst he
      have z6 : w5.heap.size ≤ w6.heap.size := hb6.size
      have B6 := Lib.hid (B5.out.trans (hb6.mono (by omega)))
      have R6 := Lib.hid (Rd.below (B' := w6.heap.size) R5.out hb6 z6)
      have V6 := HV5.out.below hb6
      clear a0 a1 a2 a3
      have a0 := V6.cell 0
      have a1 := V6.cell 1
      have a2 := V6.cell 2
      have a3 := V6.cell 3
      have HV6 := Lib.hid V6
      clear hb6 V6
      go_wp2_with fail
      refine (refSize_any _ w6 _ _ (Nat.le_refl _) R6.out HBK.out).mono ?_
      rintro e w7 ⟨he, hb7⟩
      rw [HCK.out, if_neg HC0.out] at he
      subst he
      have z7 : w6.heap.size ≤ w7.heap.size := hb7.size
      have B7 := Lib.hid (B6.out.trans (hb7.mono (by omega)))
      have R7 := Lib.hid (Rd.below (B' := w7.heap.size) R6.out hb7 z7)
      have HV7 := Lib.hid (HV6.out.below hb7)
      clear hb7 a0 a1 a2 a3
      have HK : Hid (∀ w' : World, Below w7.heap.size w7 w' → (Below w7.heap.size w7 w' ∧ w'.cell? ⟨w.heap.size, 0, none⟩ = some (.int .i64 k) ∧ w'.cell? ⟨w.heap.size, 1, none⟩ = some (.int .i64 n) ∧ w'.cell? ⟨w.heap.size, 2, none⟩ = some (.string s) ∧ w'.cell? ⟨w.heap.size, 3, none⟩ = some (.slice A l.length cap) ∧
          (convert 27 9 (.slice none 0 0)).run Try.prog w' = .ok (.string ⟨([] : List UInt8).toArray⟩) w')) := fun w' hb => by
        have h := HV7.out.below hb
        exact ⟨hb, h.cell 0, h.cell 1, h.cell 2, h.cell 3, run_str (rdB_nil w' 0) 0⟩
      have C1 : Hid (∀ (w' : World) (R : Prop), (Below w7.heap.size w7 w' ∧ R) → Calls Try.prog 16 #[.agg #[.int .i64 k, .int .i64 n, .string s, .slice A l.length cap]] w' fun e w8 => e = .returned (.int .i64 c) ∧ Below w'.heap.size w' w8) := fun w' R h => by
        have := check_any _ w' _ _ (Nat.le_refl _) (Rd.below (B' := w'.heap.size) R7.out h.1 h.1.size) HBK.out
        rwa [HCK.out] at this
      have C2 : Hid (∀ (w' : World) (R : Prop), (Below w7.heap.size w7 w' ∧ R) → Calls Try.prog 17 #[.agg #[.int .i64 k, .int .i64 n, .string s, .slice A l.length cap]] w' fun e w8 => e = .returned (.int .i64 c) ∧ Below w'.heap.size w' w8) := fun w' R h => by
        have := refCheck_any _ w' _ _ (Nat.le_refl _) (Rd.below (B' := w'.heap.size) R7.out h.1 h.1.size) HBK.out
        rwa [HCK.out] at this
      have HFIN : Hid (∀ (w' : World) (R : Prop), (Below w7.heap.size w7 w' ∧ R) → Below w.heap.size w w') := fun w' R h => B7.out.trans (h.1.mono (by omega))
      go_wp2_with fail
      go_region_held3 (fun w' => Below w7.heap.size w7 w' ∧ w'.cell? ⟨w.heap.size, 0, none⟩ = some (.int .i64 k) ∧ w'.cell? ⟨w.heap.size, 1, none⟩ = some (.int .i64 n) ∧ w'.cell? ⟨w.heap.size, 2, none⟩ = some (.string s) ∧ w'.cell? ⟨w.heap.size, 3, none⟩ = some (.slice A l.length cap) ∧
          (convert 27 9 (.slice none 0 0)).run Try.prog w' = .ok (.string ⟨([] : List UInt8).toArray⟩) w')
        (first | assumption | exact HK.out _ (Below.refl _ _).drew | exact HK.out _ (below_next' _ (by assumption) hb8))
        (first
          | (go_at_call 16; ((with_reducible refine (C1.out _ _ (by assumption)).mono ?_); rintro e w8 ⟨rfl, hb8⟩))
          | (go_at_call 17; ((with_reducible refine (C2.out _ _ (by assumption)).mono ?_); rintro e w8 ⟨rfl, hb8⟩)))
      all_goals go_wp2_with fail
      all_goals go_ret
      all_goals exact ⟨rfl, HFIN.out _ _ (by assumption)⟩
end Go.Proofs.Ytbcaanadmfnegaa
