/- backflushlaw01.CodecRoundTrip is true for every value and all bytes. -/
import Derived.Test.YtbcaanadmfnegaaInv
import Derived.Test.YtbcaanadmfnegaaOpenB
namespace Go.Proofs.Ytbcaanadmfnegaa
open Go.ChangeShapes Go.WideShapes Go.ChangeAt Go.RowKit

theorem RdB.up {w : World} {B B' n : Nat} {A : Option Addr} {xs : List UInt8} (h : RdB w B A n xs) (hB : B ≤ B') : RdB w B' A n xs :=
  ⟨h.1, fun hn => let ⟨b, o, e, hb, hc⟩ := h.2 hn; ⟨b, o, e, Nat.lt_of_lt_of_le hb hB, hc⟩⟩

set_option maxRecDepth 100000 in
set_option maxHeartbeats 4000000 in
theorem law_round_any (v : V) (x : Value) (A2 : Option Addr) (n2 cap2 : Nat) (bs : List UInt8) (w : World) (hv : Rd w w.heap.size v x) (hraw : RdB w w.heap.size A2 n2 bs) (hn2 : n2 ≤ cap2) : Calls Try.prog 6 #[x, .slice A2 n2 cap2] w fun e w' => e = .returned (.bool true) ∧ Below w.heap.size w w' := by
  have HV := Lib.hid hv
  have HRAW := Lib.hid hraw

  clear hraw
  obtain ⟨k, n, s, l, rfl⟩ : ∃ k n s l, v = V.mk k n s l := by cases v with | mk k n s l => exact ⟨k, n, s, l, rfl⟩
  obtain ⟨A, cap, rfl, hr⟩ := hv
  clear hr
  obtain ⟨W, hW⟩ : ∃ W, W = w.alloc (.cells #[.int .i64 k, .int .i64 n, .string s, .slice A l.length cap] 24) := ⟨_, rfl⟩
  have hWb : Below w.heap.size w W := by rw [hW]; exact below_box _
  have hWz : W.heap.size = w.heap.size + 1 := by rw [hW]; simp
  have HVB : Hid (VB W w.heap.size k n (.string s) (.slice A l.length cap)) := by unfold Hid; rw [hW]; exact vb_new _ _ _ _ _
  have HW := Lib.hid hW
  have HWB := Lib.hid hWb
  have HRV := Lib.hid (Rd.below (B' := W.heap.size) HV.out hWb (by omega))
  clear hW hWb
  go_enter Try.func6, Try.ntmps6
  go_wp2_with fail
  rw [← HW.out]
  refine (sane_any _).mono ?_
  rintro e w1 ⟨rfl, hb1⟩
  have z1 : W.heap.size ≤ w1.heap.size := hb1.size
  have B1 := Lib.hid (HWB.out.trans (hb1.mono (by omega)))
  have V1 := HVB.out.below hb1
  have R1 := Lib.hid (Rd.below (B' := w1.heap.size) HRV.out hb1 z1)
  have a0 := V1.cell 0
  have a1 := V1.cell 1
  have a2 := V1.cell 2
  have a3 := V1.cell 3
  have HV1 := Lib.hid V1
  clear hb1 V1
  go_wp2_with fail
  obtain ⟨X, hX⟩ : ∃ X, X = w1.alloc (.cells #[.int .i64 k, .int .i64 n, .string s, .slice A l.length cap] 24) := ⟨_, rfl⟩
  have hXb : Below w1.heap.size w1 X := by rw [hX]; exact below_box _
  have hXz : X.heap.size = w1.heap.size + 1 := by rw [hX]; simp
  have hXc : ∀ i z, [Value.int .i64 k, .int .i64 n, .string s, .slice A l.length cap][i]? = some z → X.cell? ⟨w1.heap.size, i, none⟩ = some z := fun i z hi => by
    rw [hX, cell_of_row _ _ i _ _ _ (heap_alloc_new w1 _)]
    simpa using hi
  have R2 := Lib.hid (Rd.below (B' := X.heap.size) R1.out hXb (by omega))
  have HA := Lib.hid (rdAll_one (by omega) hXc R2.out)
  have B2 := Lib.hid (B1.out.trans (hXb.mono (by omega)))
  have HV2 := Lib.hid (HV1.out.below hXb)
  have HX := Lib.hid hX
  clear hXb hXc hX a0 a1 a2 a3
  rw [← HX.out]
  refine (few_any [.mk k n s l] _ 1 X X.heap.size (Nat.le_refl _) HA.out (by simp)).mono ?_
  rintro e w2 ⟨rfl, hb2⟩
  have z2 : X.heap.size ≤ w2.heap.size := hb2.size
  have B3 := Lib.hid (B2.out.trans (hb2.mono (by omega)))
  have R3 := Lib.hid (Rd.below (B' := w2.heap.size) R2.out hb2 z2)
  have V3 := HV2.out.below hb2
  have a0 := V3.cell 0
  have a1 := V3.cell 1
  have a2 := V3.cell 2
  have a3 := V3.cell 3
  have HV3 := Lib.hid V3
  clear hb2 V3
  cases hfew : fewAll [V.mk k n s l] with
  | false =>
    clear hfew
    go_wp2_with fail
    go_ret
    exact ⟨rfl, B3.out⟩
  | true =>
    have hbk := fewAll_bulk hfew _ (List.mem_singleton.2 rfl)
    have HBK := Lib.hid (Nat.le_trans hbk (by omega : 42000 ≤ 1099511627776))
    have hle := Rd.enc_le _ _ R3.out HBK.out
    clear hfew
    by_cases h2000 : 2000 < n2
    · have hg : decide (2000 < n2) = true := by simpa using h2000
      go_wp2_with fail
      go_ret
      exact ⟨rfl, B3.out⟩
    generalize hck : V.check (.mk k n s l) = c
    obtain ⟨N, hN⟩ : ∃ N, N = (V.enc (.mk k n s l)).length := ⟨_, rfl⟩
    rw [← hN] at hle
    have hN1 : N ≤ 42000 := by omega
    have HN := Lib.hid hN
    have HCK := Lib.hid hck
    clear hck hN hbk hle
    by_cases hc0 : c = 0
    · subst hc0
      go_wp2_with fail
      refine (encode_yes _ w2 _ _ (Nat.le_refl _) R3.out HBK.out HCK.out HN.out).mono ?_
      rintro e w4 ⟨g4, c4, rfl, hb4, hd4, hc4, hm4⟩
      have HD4 := Lib.hid hd4
      clear hd4
      have z4 : w2.heap.size ≤ w4.heap.size := hb4.size
      have B4 := Lib.hid (B3.out.trans (hb4.mono (by omega)))
      have R4 := Lib.hid (Rd.below (B' := w4.heap.size) R3.out hb4 z4)
      have V4 := HV3.out.below hb4
      clear a0 a1 a2 a3
      have a0 := V4.cell 0
      have a1 := V4.cell 1
      have a2 := V4.cell 2
      have a3 := V4.cell 3
      have HV4 := Lib.hid V4
      clear hb4 V4
      go_wp2_with fail
      refine (check_any _ w4 _ _ (Nat.le_refl _) R4.out HBK.out).mono ?_
      rintro e w5 ⟨he, hb5⟩
      rw [HCK.out] at he
      subst he
      have HD5 := Lib.hid (HD4.out.below hb5)
      have z5 : w4.heap.size ≤ w5.heap.size := hb5.size
      have B5 := Lib.hid (B4.out.trans (hb5.mono (by omega)))
      have R5 := Lib.hid (Rd.below (B' := w5.heap.size) R4.out hb5 z5)
      have V5 := HV4.out.below hb5
      clear a0 a1 a2 a3
      have a0 := V5.cell 0
      have a1 := V5.cell 1
      have a2 := V5.cell 2
      have a3 := V5.cell 3
      have HV5 := Lib.hid V5
      clear hb5 V5
      go_wp2_with fail
      refine (decode_any N c4 (some ⟨g4, 0, none⟩) _ w5 (HD5.out.up z5) (by omega) hc4).mono ?_
      rintro e w6 ⟨hb6, hd6⟩
      rw [dec_enc ⟨_, _, _, R5.out⟩ HCK.out] at hd6
      obtain ⟨A6, c6, rfl, hri6⟩ := hd6
      have Q6 := Lib.hid hri6.rd
      clear hri6
      have z6 : w5.heap.size ≤ w6.heap.size := hb6.size
      have B6 := Lib.hid (B5.out.trans (hb6.mono (by omega)))
      have R6 := Lib.hid (Rd.below (B' := w6.heap.size) R5.out hb6 z6)
      have V6 := HV5.out.below hb6
      clear a0 a1 a2 a3
      have a0 := V6.cell 0
      have a1 := V6.cell 1
      have a2 := V6.cell 2
      have a3 := V6.cell 3
      have HV6 := Lib.hid V6
      clear hb6 V6
      obtain ⟨w7, hw7⟩ : ∃ w7, w7 = w6.alloc (.cells #[.int .i64 k, .int .i64 n, .string s, .slice A6 l.length c6] 24) := ⟨_, rfl⟩
      have hb7 : Below w6.heap.size w6 w7 := by rw [hw7]; exact below_box _
      have HU7 : Hid (VB w7 w6.heap.size k n (.string s) (.slice A6 l.length c6)) := by unfold Hid; rw [hw7]; exact vb_new _ _ _ _ _
      have W7 := Lib.hid hw7
      clear hw7
      have Q7 := Lib.hid (Rd.below (B' := w7.heap.size) Q6.out hb7 hb7.size)
      have z7 : w6.heap.size ≤ w7.heap.size := hb7.size
      have B7 := Lib.hid (B6.out.trans (hb7.mono (by omega)))
      have R7 := Lib.hid (Rd.below (B' := w7.heap.size) R6.out hb7 z7)
      have V7 := HV6.out.below hb7
      clear a0 a1 a2 a3
      have a0 := V7.cell 0
      have a1 := V7.cell 1
      have a2 := V7.cell 2
      have a3 := V7.cell 3
      have HV7 := Lib.hid V7
      clear hb7 V7
      have b0 := HU7.out.cell 0
      have b1 := HU7.out.cell 1
      have b2 := HU7.out.cell 2
      have b3 := HU7.out.cell 3
      rw [W7.out] at a0 a1 a2 a3 b0 b1 b2 b3
      go_wp2_with fail
      rw [← W7.out]
      refine (same_any _ _ w7 _ _ _ (Nat.le_refl _) R7.out Q7.out).mono ?_
      rintro e w8 ⟨he, hb8⟩
      rw [V.same_refl] at he
      subst he
      have Q8 := Lib.hid (Rd.below (B' := w8.heap.size) Q7.out hb8 hb8.size)
      have U8 := HU7.out.below hb8
      clear b0 b1 b2 b3
      have b0 := U8.cell 0
      have b1 := U8.cell 1
      have b2 := U8.cell 2
      have b3 := U8.cell 3
      clear U8
      have z8 : w7.heap.size ≤ w8.heap.size := hb8.size
      have B8 := Lib.hid (B7.out.trans (hb8.mono (by omega)))
      have R8 := Lib.hid (Rd.below (B' := w8.heap.size) R7.out hb8 z8)
      have V8 := HV7.out.below hb8
      clear a0 a1 a2 a3
      have a0 := V8.cell 0
      have a1 := V8.cell 1
      have a2 := V8.cell 2
      have a3 := V8.cell 3
      have HV8 := Lib.hid V8
      clear hb8 V8
      go_wp2_with fail
      refine (refSame_any _ _ w8 _ _ _ (Nat.le_refl _) R8.out Q8.out).mono ?_
      rintro e wz ⟨he, hbz⟩
      rw [V.same_refl] at he
      subst he
      have BZ := Lib.hid (B8.out.trans (hbz.mono (by omega)))
      clear hbz a0 a1 a2 a3 b0 b1 b2 b3
      have zz : w.heap.size ≤ wz.heap.size := BZ.out.size
      have HRZ := Lib.hid (HRAW.out.below BZ.out)
      go_wp2_with fail
      refine (decode_any n2 cap2 A2 bs wz (HRZ.out.up zz) (by omega) hn2).mono ?_
      rintro e wy ⟨hby, hdy⟩
      have zy : wz.heap.size ≤ wy.heap.size := hby.size
      have BY := Lib.hid (BZ.out.trans (hby.mono zz))
      clear hby
      cases hdec : dec bs with
      | none =>
        rw [hdec] at hdy
        replace hdy : e = .returned (.tuple #[.agg #[.int .i64 0, .int .i64 0, .string ⟨#[]⟩, .slice none 0 0], .int .i64 10]) := hdy
        subst hdy
        clear hdec
        go_wp2_with fail
        refine (same_any (.mk 0 0 ⟨#[]⟩ []) (.mk 0 0 ⟨#[]⟩ []) _ 0 _ _ (Nat.zero_le _) (Rd.flat _ _ (by unfold I64; omega) (by unfold I64; omega) (by unfold maxLen; exact Nat.zero_le _)) (Rd.flat _ _ (by unfold I64; omega) (by unfold I64; omega) (by unfold maxLen; exact Nat.zero_le _))).mono ?_
        rintro e wx ⟨he, hbx⟩
        rw [V.same_refl] at he
        subst he
        have BX := Lib.hid ((BY.out.alloc (by omega) _).trans (hbx.mono (by simp; omega)))
        clear hbx
        go_wp2_with fail
        go_ret
        exact ⟨rfl, BX.out⟩
      | some u =>
        obtain ⟨ku, nu, su, lu, rfl⟩ : ∃ k n s l, u = V.mk k n s l := by cases u with | mk k n s l => exact ⟨k, n, s, l, rfl⟩
        obtain ⟨hi1, hi2, hi3⟩ := dec_inv hdec
        rw [hdec] at hdy
        obtain ⟨AU, cu, rfl, hriu⟩ := hdy
        have HI1 := Lib.hid hi1
        have HI2 := Lib.hid hi2
        have HI3 : Hid (V.bulk (.mk ku nu su lu) ≤ 1099511627776) := by have := HRAW.out.1; unfold Hid; omega
        have Q6 := Lib.hid hriu.rd
        clear hriu hdec hi1 hi2 hi3
        obtain ⟨wv, hwv⟩ : ∃ w7, w7 = wy.alloc (.cells #[.int .i64 ku, .int .i64 nu, .string su, .slice AU lu.length cu] 24) := ⟨_, rfl⟩
        have hbv : Below wy.heap.size wy wv := by rw [hwv]; exact below_box _
        have HUV : Hid (VB wv wy.heap.size ku nu (.string su) (.slice AU lu.length cu)) := by unfold Hid; rw [hwv]; exact vb_new _ _ _ _ _
        have WV := Lib.hid hwv
        clear hwv
        have QV := Lib.hid (Rd.below (B' := wv.heap.size) Q6.out hbv hbv.size)
        have zv : wy.heap.size ≤ wv.heap.size := hbv.size
        have BV := Lib.hid (BY.out.trans (hbv.mono (by omega)))
        clear hbv
        have b0 := HUV.out.cell 0
        have b1 := HUV.out.cell 1
        have b2 := HUV.out.cell 2
        have b3 := HUV.out.cell 3
        rw [WV.out] at b0 b1 b2 b3
        go_wp2_with fail
        rw [← WV.out]
        refine (encode_yes _ wv _ _ (Nat.le_refl _) QV.out HI3.out HI2.out (N := n2) (by rw [← HI1.out]; exact HRAW.out.1)).mono ?_
        rintro e wt ⟨gt, ct, rfl, hbt, hdt, hct, hmt⟩
        have zt : wv.heap.size ≤ wt.heap.size := hbt.size
        have BT := Lib.hid (BV.out.trans (hbt.mono (by omega)))
        have QT := Lib.hid (Rd.below (B' := wt.heap.size) QV.out hbt zt)
        have UT := HUV.out.below hbt
        clear b0 b1 b2 b3 hbt
        have b0 := UT.cell 0
        have b1 := UT.cell 1
        have b2 := UT.cell 2
        have b3 := UT.cell 3
        obtain ⟨s1, hs1⟩ : ∃ s1 : ByteArray, s1 = ⟨bs.toArray⟩ := ⟨_, rfl⟩
        have cv1 : (convert 27 9 (.slice (some ⟨gt, 0, none⟩) n2 ct)).run Try.prog wt = .ok (.string s1) wt := by
          rw [hs1, HI1.out]; exact run_str hdt ct
        have cv2 : (convert 27 9 (.slice A2 n2 cap2)).run Try.prog wt = .ok (.string s1) wt := by
          rw [hs1]; exact run_str (HRAW.out.below BT.out) cap2
        clear hs1 hdt UT
        go_wp2_with fail
        refine (check_any _ wt _ _ (Nat.le_refl _) QT.out HI3.out).mono ?_
        rintro e wu ⟨he, hbu⟩
        rw [HI2.out] at he
        subst he
        have BU := Lib.hid (BT.out.trans (hbu.mono (by omega)))
        clear hbu
        go_wp2_with fail
        go_ret
        exact ⟨rfl, BU.out⟩
    · have HC0 := Lib.hid hc0
      have hcb : (c != 0) = true := by simpa using hc0
      have hcb2 : (c == 0) = false := by simpa using hc0
      clear hc0
      go_wp2_with fail
      refine (encode_no _ w2 _ _ (Nat.le_refl _) R3.out HBK.out HCK.out HC0.out).mono ?_
      rintro e w4 ⟨rfl, hb4⟩
      have z4 : w2.heap.size ≤ w4.heap.size := hb4.size
      have B4 := Lib.hid (B3.out.trans (hb4.mono (by omega)))
      have R4 := Lib.hid (Rd.below (B' := w4.heap.size) R3.out hb4 z4)
      have V4 := HV3.out.below hb4
      clear a0 a1 a2 a3
      have a0 := V4.cell 0
      have a1 := V4.cell 1
      have a2 := V4.cell 2
      have a3 := V4.cell 3
      have HV4 := Lib.hid V4
      clear hb4 V4
      go_wp2_with fail
      refine (check_any _ w4 _ _ (Nat.le_refl _) R4.out HBK.out).mono ?_
      rintro e wz ⟨he, hbz⟩
      rw [HCK.out] at he
      subst he
      have BZ := Lib.hid (B4.out.trans (hbz.mono (by omega)))
      clear hbz a0 a1 a2 a3
      have zz : w.heap.size ≤ wz.heap.size := BZ.out.size
      have HRZ := Lib.hid (HRAW.out.below BZ.out)
      go_wp2_with fail
      refine (decode_any n2 cap2 A2 bs wz (HRZ.out.up zz) (by omega) hn2).mono ?_
      rintro e wy ⟨hby, hdy⟩
      have zy : wz.heap.size ≤ wy.heap.size := hby.size
      have BY := Lib.hid (BZ.out.trans (hby.mono zz))
      clear hby
      cases hdec : dec bs with
      | none =>
        rw [hdec] at hdy
        replace hdy : e = .returned (.tuple #[.agg #[.int .i64 0, .int .i64 0, .string ⟨#[]⟩, .slice none 0 0], .int .i64 10]) := hdy
        subst hdy
        clear hdec
        go_wp2_with fail
        refine (same_any (.mk 0 0 ⟨#[]⟩ []) (.mk 0 0 ⟨#[]⟩ []) _ 0 _ _ (Nat.zero_le _) (Rd.flat _ _ (by unfold I64; omega) (by unfold I64; omega) (by unfold maxLen; exact Nat.zero_le _)) (Rd.flat _ _ (by unfold I64; omega) (by unfold I64; omega) (by unfold maxLen; exact Nat.zero_le _))).mono ?_
        rintro e wx ⟨he, hbx⟩
        rw [V.same_refl] at he
        subst he
        have BX := Lib.hid ((BY.out.alloc (by omega) _).trans (hbx.mono (by simp; omega)))
        clear hbx
        go_wp2_with fail
        go_ret
        exact ⟨rfl, BX.out⟩
      | some u =>
        obtain ⟨ku, nu, su, lu, rfl⟩ : ∃ k n s l, u = V.mk k n s l := by cases u with | mk k n s l => exact ⟨k, n, s, l, rfl⟩
        obtain ⟨hi1, hi2, hi3⟩ := dec_inv hdec
        rw [hdec] at hdy
        obtain ⟨AU, cu, rfl, hriu⟩ := hdy
        have HI1 := Lib.hid hi1
        have HI2 := Lib.hid hi2
        have HI3 : Hid (V.bulk (.mk ku nu su lu) ≤ 1099511627776) := by have := HRAW.out.1; unfold Hid; omega
        have Q6 := Lib.hid hriu.rd
        clear hriu hdec hi1 hi2 hi3
        obtain ⟨wv, hwv⟩ : ∃ w7, w7 = wy.alloc (.cells #[.int .i64 ku, .int .i64 nu, .string su, .slice AU lu.length cu] 24) := ⟨_, rfl⟩
        have hbv : Below wy.heap.size wy wv := by rw [hwv]; exact below_box _
        have HUV : Hid (VB wv wy.heap.size ku nu (.string su) (.slice AU lu.length cu)) := by unfold Hid; rw [hwv]; exact vb_new _ _ _ _ _
        have WV := Lib.hid hwv
        clear hwv
        have QV := Lib.hid (Rd.below (B' := wv.heap.size) Q6.out hbv hbv.size)
        have zv : wy.heap.size ≤ wv.heap.size := hbv.size
        have BV := Lib.hid (BY.out.trans (hbv.mono (by omega)))
        clear hbv
        have b0 := HUV.out.cell 0
        have b1 := HUV.out.cell 1
        have b2 := HUV.out.cell 2
        have b3 := HUV.out.cell 3
        rw [WV.out] at b0 b1 b2 b3
        go_wp2_with fail
        rw [← WV.out]
        refine (encode_yes _ wv _ _ (Nat.le_refl _) QV.out HI3.out HI2.out (N := n2) (by rw [← HI1.out]; exact HRAW.out.1)).mono ?_
        rintro e wt ⟨gt, ct, rfl, hbt, hdt, hct, hmt⟩
        have zt : wv.heap.size ≤ wt.heap.size := hbt.size
        have BT := Lib.hid (BV.out.trans (hbt.mono (by omega)))
        have QT := Lib.hid (Rd.below (B' := wt.heap.size) QV.out hbt zt)
        have UT := HUV.out.below hbt
        clear b0 b1 b2 b3 hbt
        have b0 := UT.cell 0
        have b1 := UT.cell 1
        have b2 := UT.cell 2
        have b3 := UT.cell 3
        obtain ⟨s1, hs1⟩ : ∃ s1 : ByteArray, s1 = ⟨bs.toArray⟩ := ⟨_, rfl⟩
        have cv1 : (convert 27 9 (.slice (some ⟨gt, 0, none⟩) n2 ct)).run Try.prog wt = .ok (.string s1) wt := by
          rw [hs1, HI1.out]; exact run_str hdt ct
        have cv2 : (convert 27 9 (.slice A2 n2 cap2)).run Try.prog wt = .ok (.string s1) wt := by
          rw [hs1]; exact run_str (HRAW.out.below BT.out) cap2
        clear hs1 hdt UT
        go_wp2_with fail
        refine (check_any _ wt _ _ (Nat.le_refl _) QT.out HI3.out).mono ?_
        rintro e wu ⟨he, hbu⟩
        rw [HI2.out] at he
        subst he
        have BU := Lib.hid (BT.out.trans (hbu.mono (by omega)))
        clear hbu
        go_wp2_with fail
        go_ret
        exact ⟨rfl, BU.out⟩
end Go.Proofs.Ytbcaanadmfnegaa
