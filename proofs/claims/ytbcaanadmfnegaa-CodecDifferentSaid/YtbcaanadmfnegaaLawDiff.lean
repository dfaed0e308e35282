/- backflushlaw01.CodecDifferent is true for every two values. -/
import Derived.Test.YtbcaanadmfnegaaLawSame
import Derived.Test.YtbcaanadmfnegaaInv
namespace Go.Proofs.Ytbcaanadmfnegaa
open Go.ChangeShapes Go.WideShapes Go.ChangeAt Go.RowKit

theorem prefix_ne {v u : V} (hs : v.sound) (hc : v.check = 0) (hs' : u.sound) (hc' : u.check = 0) (hne : v.same u = false) {N M m : Nat} (hN : N = v.enc.length) (hM : M = u.enc.length) (hm : m = min N M) :
    (⟨(v.enc.take m).toArray⟩ : ByteArray) ≠ ⟨(u.enc.take m).toArray⟩ := fun h => by
  have h1 : v.enc.take m = u.enc.take m := by
    have := congrArg (fun b : ByteArray => b.data.toList) h
    simpa using this
  have hvu : v ≠ u := fun e => by rw [e, V.same_refl] at hne; cases hne
  rcases Nat.le_total N M with h2 | h2
  · have e : m = N := by omega
    rw [e, hN, List.take_length] at h1
    exact hvu (enc_free hs hc hs' hc' (rest := u.enc.drop v.enc.length) ((List.take_append_drop v.enc.length u.enc).symm.trans (congrArg (· ++ _) h1.symm)))
  · have e : m = M := by omega
    rw [e, hM, List.take_length] at h1
    exact hvu (enc_free hs' hc' hs hc (rest := v.enc.drop u.enc.length) ((List.take_append_drop u.enc.length v.enc).symm.trans (congrArg (· ++ _) h1))).symm

set_option maxRecDepth 100000 in
set_option maxHeartbeats 4000000 in
theorem law_diff_any (v u : V) (x y : Value) (w : World) (hv : Rd w w.heap.size v x) (hu : Rd w w.heap.size u y) : Calls Try.prog 7 #[x, y] w fun e w' => e = .returned (.bool true) ∧ Below w.heap.size w w' := by
  have HV := Lib.hid hv
  have HU := Lib.hid hu
  obtain ⟨k, n, s, l, rfl⟩ : ∃ k n s l, v = V.mk k n s l := by cases v with | mk k n s l => exact ⟨k, n, s, l, rfl⟩
  obtain ⟨A, cap, rfl, hr⟩ := hv
  obtain ⟨k', n', s', l', rfl⟩ : ∃ k n s l, u = V.mk k n s l := by cases u with | mk k n s l => exact ⟨k, n, s, l, rfl⟩
  obtain ⟨A', cap', rfl, hr'⟩ := hu
  clear hr hr'
  obtain ⟨W, hW⟩ : ∃ W, W = (w.alloc (.cells #[.int .i64 k, .int .i64 n, .string s, .slice A l.length cap] 24)).alloc (.cells #[.int .i64 k', .int .i64 n', .string s', .slice A' l'.length cap'] 24) := ⟨_, rfl⟩
  have hWb : Below w.heap.size w W := by rw [hW]; exact ((Below.refl _ _).alloc (Nat.le_refl _) _).alloc (by simp) _
  have hWz : W.heap.size = w.heap.size + 2 := by rw [hW]; simp
  have hVB : VB W w.heap.size k n (.string s) (.slice A l.length cap) := by
    unfold VB; rw [hW, Below.heap_alloc _ _ _ (by simp)]
    exact heap_alloc_new w _
  have hUB : VB W (w.heap.size + 1) k' n' (.string s') (.slice A' l'.length cap') := by
    unfold VB; rw [hW]
    have := heap_alloc_new (w.alloc (.cells #[.int .i64 k, .int .i64 n, .string s, .slice A l.length cap] 24)) (.cells #[.int .i64 k', .int .i64 n', .string s', .slice A' l'.length cap'] 24)
    simpa using this
  have HW := Lib.hid hW
  have HWB := Lib.hid hWb
  have HVB := Lib.hid hVB
  have HUB := Lib.hid hUB
  have HRV := Lib.hid (Rd.below (B' := W.heap.size) HV.out hWb (by omega))
  have HRU := Lib.hid (Rd.below (B' := W.heap.size) HU.out hWb (by omega))
  clear hW hWb hVB hUB
  go_enter Try.func7, Try.ntmps7
  go_wp2_with fail
  rw [← HW.out]
  refine (sane_any _).mono ?_
  rintro e w1 ⟨rfl, hb1⟩
  have z1 : W.heap.size ≤ w1.heap.size := hb1.size
  have B1 := Lib.hid (HWB.out.trans (hb1.mono (by omega)))
  have V1 := HVB.out.below hb1
  have U1 := HUB.out.below hb1
  have R1 := Lib.hid (Rd.below (B' := w1.heap.size) HRV.out hb1 z1)
  have Q1 := Lib.hid (Rd.below (B' := w1.heap.size) HRU.out hb1 z1)
  have a0 := V1.cell 0
  have a1 := V1.cell 1
  have a2 := V1.cell 2
  have a3 := V1.cell 3
  have b0 := U1.cell 0
  have b1 := U1.cell 1
  have b2 := U1.cell 2
  have b3 := U1.cell 3
  have HV1 := Lib.hid V1
  have HU1 := Lib.hid U1
  clear hb1 V1 U1
  go_wp2_with fail
  obtain ⟨X, hX⟩ : ∃ X, X = w1.alloc (.cells #[.int .i64 k, .int .i64 n, .string s, .slice A l.length cap, .int .i64 k', .int .i64 n', .string s', .slice A' l'.length cap'] 24) := ⟨_, rfl⟩
  have hXb : Below w1.heap.size w1 X := by rw [hX]; exact (Below.refl _ _).alloc (Nat.le_refl _) _
  have hXz : X.heap.size = w1.heap.size + 1 := by rw [hX]; simp
  have hXc : ∀ i z, [Value.int .i64 k, .int .i64 n, .string s, .slice A l.length cap, .int .i64 k', .int .i64 n', .string s', .slice A' l'.length cap'][i]? = some z → X.cell? ⟨w1.heap.size, i, none⟩ = some z := fun i z hi => by
    rw [hX, cell_of_row _ _ i _ _ _ (heap_alloc_new w1 _)]
    simpa using hi
  have R2 := Lib.hid (Rd.below (B' := X.heap.size) R1.out hXb (by omega))
  have Q2 := Lib.hid (Rd.below (B' := X.heap.size) Q1.out hXb (by omega))
  have HA := Lib.hid (rdAll_two (by omega) hXc R2.out Q2.out)
  have B2 := Lib.hid (B1.out.trans (hXb.mono (by omega)))
  have HV2 := Lib.hid (HV1.out.below hXb)
  have HU2 := Lib.hid (HU1.out.below hXb)
  have HX := Lib.hid hX
  clear hXb hXc hX a0 a1 a2 a3 b0 b1 b2 b3
  rw [← HX.out]
  refine (few_any [.mk k n s l, .mk k' n' s' l'] _ 2 X X.heap.size (Nat.le_refl _) HA.out (by simp)).mono ?_
  rintro e w2 ⟨rfl, hb2⟩
  have z2 : X.heap.size ≤ w2.heap.size := hb2.size
  have HV3 := Lib.hid (HV2.out.below hb2)
  have HU3 := Lib.hid (HU2.out.below hb2)
  have B3 := Lib.hid (B2.out.trans (hb2.mono (by omega)))
  have R3 := Lib.hid (Rd.below (B' := w2.heap.size) R2.out hb2 z2)
  have Q3 := Lib.hid (Rd.below (B' := w2.heap.size) Q2.out hb2 z2)
  have V3 := HV2.out.below hb2
  have U3 := HU2.out.below hb2
  have a0 := V3.cell 0
  have a1 := V3.cell 1
  have a2 := V3.cell 2
  have a3 := V3.cell 3
  have b0 := U3.cell 0
  have b1 := U3.cell 1
  have b2 := U3.cell 2
  have b3 := U3.cell 3
  cases hfew : fewAll [V.mk k n s l, V.mk k' n' s' l'] with
  | false =>
    clear hfew
    go_wp2_with fail
    go_ret
    exact ⟨rfl, B3.out⟩
  | true =>
    have hbk := fewAll_bulk hfew _ (List.mem_cons_self ..)
    have hbk' := fewAll_bulk hfew _ (List.mem_cons_of_mem _ (List.mem_singleton.2 rfl))
    have HBK := Lib.hid (Nat.le_trans hbk (by omega : 42000 ≤ 1099511627776))
    have HBK' := Lib.hid (Nat.le_trans hbk' (by omega : 42000 ≤ 1099511627776))
    have hle := Rd.enc_le _ _ R3.out HBK.out
    have hle' := Rd.enc_le _ _ Q3.out HBK'.out
    clear hfew
    generalize hck : V.check (.mk k n s l) = c
    generalize hck' : V.check (.mk k' n' s' l') = c'
    obtain ⟨N, hN⟩ : ∃ N, N = (V.enc (.mk k n s l)).length := ⟨_, rfl⟩
    obtain ⟨M, hM⟩ : ∃ M, M = (V.enc (.mk k' n' s' l')).length := ⟨_, rfl⟩
    rw [← hN] at hle
    rw [← hM] at hle'
    have hN1 : N ≤ 42000 := by omega
    have hM1 : M ≤ 42000 := by omega
    have HN := Lib.hid hN
    have HM := Lib.hid hM
    have HCK := Lib.hid hck
    have HCK' := Lib.hid hck'
    clear hck hN hck' hM hbk hbk' hle hle'
    by_cases hc0 : c = 0
    · subst hc0
      by_cases hc0' : c' = 0
      · subst hc0'
        go_wp2_with fail
        refine (encode_yes _ w2 _ _ (Nat.le_refl _) R3.out HBK.out HCK.out HN.out).mono ?_
        rintro e w4 ⟨g4, c4, rfl, hb4, hd4, hc4, hm4⟩
        have z4 : w2.heap.size ≤ w4.heap.size := hb4.size
        have B4 := Lib.hid (B3.out.trans (hb4.mono (by omega)))
        have R4 := Lib.hid (Rd.below (B' := w4.heap.size) R3.out hb4 z4)
        have Q4 := Lib.hid (Rd.below (B' := w4.heap.size) Q3.out hb4 z4)
        have V4 := HV3.out.below hb4
        have U4 := HU3.out.below hb4
        clear a0 a1 a2 a3 b0 b1 b2 b3
        have a0 := V4.cell 0
        have a1 := V4.cell 1
        have a2 := V4.cell 2
        have a3 := V4.cell 3
        have b0 := U4.cell 0
        have b1 := U4.cell 1
        have b2 := U4.cell 2
        have b3 := U4.cell 3
        have HV4 := Lib.hid V4
        have HU4 := Lib.hid U4
        have HD4 := Lib.hid hd4
        clear hb4 V4 U4 hd4
        go_wp2_with fail
        refine (encode_yes _ w4 _ _ (Nat.le_refl _) Q4.out HBK'.out HCK'.out HM.out).mono ?_
        rintro e w5 ⟨g5, c5, rfl, hb5, hd5, hc5, hm5⟩
        have z5 : w4.heap.size ≤ w5.heap.size := hb5.size
        have B5 := Lib.hid (B4.out.trans (hb5.mono (by omega)))
        have R5 := Lib.hid (Rd.below (B' := w5.heap.size) R4.out hb5 z5)
        have Q5 := Lib.hid (Rd.below (B' := w5.heap.size) Q4.out hb5 z5)
        have V5 := HV4.out.below hb5
        have U5 := HU4.out.below hb5
        clear a0 a1 a2 a3 b0 b1 b2 b3
        have a0 := V5.cell 0
        have a1 := V5.cell 1
        have a2 := V5.cell 2
        have a3 := V5.cell 3
        have b0 := U5.cell 0
        have b1 := U5.cell 1
        have b2 := U5.cell 2
        have b3 := U5.cell 3
        have HV5 := Lib.hid V5
        have HU5 := Lib.hid U5
        have HD5 := Lib.hid (HD4.out.below hb5)
        have HE5 := Lib.hid hd5
        clear hb5 V5 U5 hd5

        go_wp2_with fail
        cases hsm : V.same (.mk k n s l) (.mk k' n' s' l') with
        | true =>
          have HSM := Lib.hid hsm
          have heq := V.eq_of_same _ _ hsm
          have HEQ := Lib.hid heq
          clear hsm heq
          refine (same_any _ _ w5 _ _ _ (Nat.le_refl _) R5.out Q5.out).mono ?_
          rintro e w6 ⟨he, hb6⟩
          rw [HSM.out] at he
          subst he
          obtain ⟨s1, hs1⟩ : ∃ s1 : ByteArray, s1 = ⟨(V.enc (.mk k n s l)).toArray⟩ := ⟨_, rfl⟩
          have cv1 : (convert 27 9 (.slice (some ⟨g4, 0, none⟩) N c4)).run Try.prog w6 = .ok (.string s1) w6 := by
            rw [hs1]; exact run_str (RdB.below (B := w4.heap.size) HD5.out (hb6.mono z5)) c4
          have cv2 : (convert 27 9 (.slice (some ⟨g5, 0, none⟩) M c5)).run Try.prog w6 = .ok (.string s1) w6 := by
            rw [hs1, HEQ.out]; exact run_str (RdB.below (B := w5.heap.size) HE5.out hb6) c5
          have B6 := Lib.hid (B5.out.trans (hb6.mono (by omega)))
          clear hs1 hb6 a0 a1 a2 a3 b0 b1 b2 b3
          go_wp2_with fail
          go_ret
          exact ⟨rfl, B6.out⟩
        | false =>
          have HSM := Lib.hid hsm
          clear hsm
          refine (same_any _ _ w5 _ _ _ (Nat.le_refl _) R5.out Q5.out).mono ?_
          rintro e w6 ⟨he, hb6⟩
          rw [HSM.out] at he
          subst he
          have B6 := Lib.hid (B5.out.trans (hb6.mono (by omega)))
          have HD6 := Lib.hid (RdB.below (B := w4.heap.size) HD5.out (hb6.mono z5))
          have HE6 := Lib.hid (RdB.below (B := w5.heap.size) HE5.out hb6)
          have z6 : w5.heap.size ≤ w6.heap.size := hb6.size
          clear hb6 a0 a1 a2 a3 b0 b1 b2 b3
          obtain ⟨m, hm⟩ : ∃ m, m = min N M := ⟨_, rfl⟩
          have hmN : m ≤ N := by omega
          have hmM : m ≤ M := by omega
          have hmi : ((m : Nat) : Int) = min (N : Int) (M : Int) := by omega
          have hne := prefix_ne ⟨_, _, _, R5.out⟩ HCK.out ⟨_, _, _, Q5.out⟩ HCK'.out HSM.out HN.out HM.out hm
          obtain ⟨s1, hs1⟩ : ∃ s1 : ByteArray, s1 = ⟨((V.enc (.mk k n s l)).take m).toArray⟩ := ⟨_, rfl⟩
          obtain ⟨s2, hs2⟩ : ∃ s1 : ByteArray, s1 = ⟨((V.enc (.mk k' n' s' l')).take m).toArray⟩ := ⟨_, rfl⟩
          have hss : s1 ≠ s2 := by rw [hs1, hs2]; exact hne
          have HK : Hid (∀ w' : World, Below w6.heap.size w6 w' → (Below w6.heap.size w6 w' ∧
              (convert 27 9 (.slice (some ⟨g4, 0, none⟩) m c4)).run Try.prog w' = .ok (.string s1) w' ∧ (convert 27 9 (.slice (some ⟨g5, 0, none⟩) m c5)).run Try.prog w' = .ok (.string s2) w')) := fun w' hb => by
            rw [hs1, hs2]
            exact ⟨hb, run_str (RdB.take (RdB.below (B := w4.heap.size) HD6.out (hb.mono (by omega))) hmN) c4, run_str (RdB.take (RdB.below (B := w5.heap.size) HE6.out (hb.mono (by omega))) hmM) c5⟩
          have HFIN : Hid (∀ (w' : World) (R : Prop), (Below w6.heap.size w6 w' ∧ R) → Below w.heap.size w w') := fun w' R h => B6.out.trans (h.1.mono (by omega))
          have q1 : (s1.toList != s2.toList) = true := by simpa using fun h => hss (toList_inj h)
          have q2 : (s1.toList == s2.toList) = false := by simpa using fun h => hss (toList_inj h)
          have i0 : (0 : Int) ≤ (m : Int) := by omega
          have i4 : (m : Int) ≤ (c4 : Int) := by omega
          have i5 : (m : Int) ≤ (c5 : Int) := by omega
          clear hs1 hs2 hss hne hmi
          rcases Nat.lt_or_ge M N with hmn | hmn
          · obtain rfl : m = M := by omega
            clear hm
            go_wp2_with fail
            go_region_held3 (fun w' => Below w6.heap.size w6 w' ∧ (convert 27 9 (.slice (some ⟨g4, 0, none⟩) m c4)).run Try.prog w' = .ok (.string s1) w' ∧ (convert 27 9 (.slice (some ⟨g5, 0, none⟩) m c5)).run Try.prog w' = .ok (.string s2) w')
              (first | assumption | exact HK.out _ (Below.refl _ _).drew) (fail)
            all_goals go_wp2_with fail
            all_goals go_ret
            all_goals exact ⟨rfl, HFIN.out _ _ (by assumption)⟩
          · obtain rfl : m = N := by omega
            clear hm
            go_wp2_with fail
            go_region_held3 (fun w' => Below w6.heap.size w6 w' ∧ (convert 27 9 (.slice (some ⟨g4, 0, none⟩) m c4)).run Try.prog w' = .ok (.string s1) w' ∧ (convert 27 9 (.slice (some ⟨g5, 0, none⟩) m c5)).run Try.prog w' = .ok (.string s2) w')
              (first | assumption | exact HK.out _ (Below.refl _ _).drew) (fail)
            all_goals go_wp2_with fail
            all_goals go_ret
            all_goals exact ⟨rfl, HFIN.out _ _ (by assumption)⟩
      · have HC0' := Lib.hid hc0'
        have hcb' : (c' != 0) = true := by simpa using hc0'
        clear hc0'
        go_wp2_with fail
        refine (encode_yes _ w2 _ _ (Nat.le_refl _) R3.out HBK.out HCK.out HN.out).mono ?_
        rintro e w4 ⟨g4, c4, rfl, hb4, hd4, hc4, hm4⟩
        have z4 : w2.heap.size ≤ w4.heap.size := hb4.size
        have B4 := Lib.hid (B3.out.trans (hb4.mono (by omega)))
        have R4 := Lib.hid (Rd.below (B' := w4.heap.size) R3.out hb4 z4)
        have Q4 := Lib.hid (Rd.below (B' := w4.heap.size) Q3.out hb4 z4)
        have V4 := HV3.out.below hb4
        have U4 := HU3.out.below hb4
        clear a0 a1 a2 a3 b0 b1 b2 b3
        have a0 := V4.cell 0
        have a1 := V4.cell 1
        have a2 := V4.cell 2
        have a3 := V4.cell 3
        have b0 := U4.cell 0
        have b1 := U4.cell 1
        have b2 := U4.cell 2
        have b3 := U4.cell 3
        have HV4 := Lib.hid V4
        have HU4 := Lib.hid U4
        have HD4 := Lib.hid hd4
        clear hb4 V4 U4 hd4
        go_wp2_with fail
        refine (encode_no _ w4 _ _ (Nat.le_refl _) Q4.out HBK'.out HCK'.out HC0'.out).mono ?_
        rintro e w5 ⟨rfl, hb5⟩
        have z5 : w4.heap.size ≤ w5.heap.size := hb5.size
        have B5 := Lib.hid (B4.out.trans (hb5.mono (by omega)))
        have R5 := Lib.hid (Rd.below (B' := w5.heap.size) R4.out hb5 z5)
        have Q5 := Lib.hid (Rd.below (B' := w5.heap.size) Q4.out hb5 z5)
        have V5 := HV4.out.below hb5
        have U5 := HU4.out.below hb5
        clear a0 a1 a2 a3 b0 b1 b2 b3
        have a0 := V5.cell 0
        have a1 := V5.cell 1
        have a2 := V5.cell 2
        have a3 := V5.cell 3
        have b0 := U5.cell 0
        have b1 := U5.cell 1
        have b2 := U5.cell 2
        have b3 := U5.cell 3
        have HV5 := Lib.hid V5
        have HU5 := Lib.hid U5
        have HD5 := Lib.hid (HD4.out.below hb5)
        clear hb5 V5 U5

        go_wp2_with fail
        go_ret
        exact ⟨rfl, B5.out⟩
    · have HC0 := Lib.hid hc0
      have hcb : (c != 0) = true := by simpa using hc0
      clear hc0
      go_wp2_with fail
      refine (encode_no _ w2 _ _ (Nat.le_refl _) R3.out HBK.out HCK.out HC0.out).mono ?_
      rintro e w4 ⟨rfl, hb4⟩
      have z4 : w2.heap.size ≤ w4.heap.size := hb4.size
      have B4 := Lib.hid (B3.out.trans (hb4.mono (by omega)))
      have R4 := Lib.hid (Rd.below (B' := w4.heap.size) R3.out hb4 z4)
      have Q4 := Lib.hid (Rd.below (B' := w4.heap.size) Q3.out hb4 z4)
      have V4 := HV3.out.below hb4
      have U4 := HU3.out.below hb4
      clear a0 a1 a2 a3 b0 b1 b2 b3
      have a0 := V4.cell 0
      have a1 := V4.cell 1
      have a2 := V4.cell 2
      have a3 := V4.cell 3
      have b0 := U4.cell 0
      have b1 := U4.cell 1
      have b2 := U4.cell 2
      have b3 := U4.cell 3
      have HV4 := Lib.hid V4
      have HU4 := Lib.hid U4
      clear hb4 V4 U4
      go_wp2_with fail
      refine (encode_any _ w4 _ _ (Nat.le_refl _) Q4.out HBK'.out).mono ?_
      rintro e w5 ⟨hb5, ⟨_, g5, c5, N5, rfl, _, _, _⟩ | ⟨_, rfl⟩⟩
      all_goals
        have B5 := Lib.hid (B4.out.trans (hb5.mono (by omega)))
        clear hb5
        go_wp2_with fail
        go_ret
        exact ⟨rfl, B5.out⟩

end Go.Proofs.Ytbcaanadmfnegaa
