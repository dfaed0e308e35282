/- Contract of the reference's Decode. -/
import Derived.Test.YtbcaanadmfnegaaRvAll
import Derived.Deep.RegionLaw
import Derived.WalkSmall
namespace Go.Proofs.Ytbcaanadmfnegaa
open Go.RowKit

set_option maxRecDepth 100000 in
set_option maxHeartbeats 4000000 in
theorem refDecode_any (n c : Nat) (A : Option Addr) (bs : List UInt8) (w : World) (hb : RdB w w.heap.size A n bs) (hn : n ≤ 1000000) (hc : n ≤ c) :
    Calls Try.prog 19 #[.slice A n c] w (DecOut w bs) := by
  have hn1 : bs.length ≤ n := by rw [hb.1]; exact Nat.le_refl _
  have hn2 : n ≤ bs.length := by rw [← hb.1]; exact Nat.le_refl _
  obtain ⟨X, hX⟩ : ∃ X : World, X = (w.alloc (.cells #[.int .i64 0, .int .i64 0, .string ⟨#[]⟩, .slice none 0 0] 24)).alloc (.cells #[.slice A n c, .int .i64 0, .bool false] 57) := ⟨_, rfl⟩
  have hXw : Below w.heap.size w X := by rw [hX]; exact ((Below.refl _ _).alloc (Nat.le_refl _) _).alloc (by simp) _
  have hXr : RR X (w.heap.size + 1) A n c 0 false := by
    rw [hX]; unfold RR
    have := heap_alloc_new (w.alloc (.cells #[.int .i64 0, .int .i64 0, .string ⟨#[]⟩, .slice none 0 0] 24)) (.cells #[.slice A n c, .int .i64 0, .bool false] 57)
    simpa using this
  have hXz : X.heap.size = w.heap.size + 2 := by rw [hX]; simp
  have hXv : VB X w.heap.size 0 0 (.string ⟨#[]⟩) (.slice none 0 0) := by
    unfold VB; rw [hX, Below.heap_alloc _ _ _ (by simp)]
    exact heap_alloc_new w _
  have HXR := Lib.hid hXr
  have HXW := Lib.hid hXw
  have HXV := Lib.hid hXv
  have HBX := Lib.hid (hb.below hXw)
  have HB := Lib.hid hb
  have HX := Lib.hid hX
  clear hX hXw hXr hXv hb
  have HVC := rvalue_any 16 (Nat.le_refl _) (w.heap.size + 1) n c 0 w.heap.size A bs X HXR.out HBX.out (by omega) (by omega) hc (Nat.zero_le _)
  rw [show (16 : Int) - ((16 : Nat) : Int) = 0 by omega] at HVC
  have HVC := Lib.hid HVC
  go_enter Try.func19, Try.ntmps19
  go_wp2_with fail
  rw [← HX.out]
  refine HVC.out.mono ?_
  rintro e w3 ⟨ht3, q, bad, k, m, s, A', len, cap, _, hq, hR3, rfl, hL⟩
  have hz3 : X.heap.size ≤ w3.heap.size := ht3.size
  have B3 := Lib.hid (HXW.out.trans (ht3.below (B := w.heap.size) (by omega) HXR.out.lt))
  have V3 := Lib.hid (HXV.out.grown ht3 (by intro e; injection e with e; omega))
  have R3 := Lib.hid hR3
  obtain ⟨W, hW⟩ : ∃ W : World, W = w3.alloc (.cells #[.int .i64 k, .int .i64 m, .string s, .slice A' len cap] 24) := ⟨_, rfl⟩
  have hWb : Below w3.heap.size w3 W := by rw [hW]; exact below_box _
  have hWz : W.heap.size = w3.heap.size + 1 := by rw [hW]; simp
  have HWB := Lib.hid hWb
  have HV := Lib.hid (V3.out.below hWb)
  have HR := Lib.hid (R3.out.below hWb)
  have HU : Hid (VB W w3.heap.size k m (.string s) (.slice A' len cap)) := by unfold Hid; rw [hW]; exact vb_new _ _ _ _ _
  have HBW := Lib.hid (B3.out.trans (hWb.mono (by omega)))
  have HL := Lib.hid hL
  have HW := Lib.hid hW
  clear hW hWb ht3 hR3 hL HVC
  have b0 := HV.out.cell 0
  have b1 := HV.out.cell 1
  have b2 := HV.out.cell 2
  have b3 := HV.out.cell 3
  have q0 := HV.out.frozen 0
  have q1 := HV.out.frozen 1
  have q2 := HV.out.frozen 2
  have q3 := HV.out.frozen 3
  have k0 := HR.out.cell0
  have k1 := HR.out.cell1
  have k2 := HR.out.cell2
  cases bad with
  | true =>
    have HD : Hid (dec bs = none) := by
      have h := HL.out
      unfold RLog at h
      rw [if_pos rfl, List.drop_zero] at h
      unfold Hid; rw [dec, h]
    go_wp2_with fail
    rw [← HW.out]
    go_quiet (fail)
    go_wp2_with fail
    refine bodyPost_ret (v := .tuple #[.agg #[.int .i64 0, .int .i64 0, .string ⟨#[]⟩, .slice none 0 0], .int .i64 10]) (by simp [results, Try.results19, go_sem, b0, b1, b2, b3]) rfl ?_
    exact ⟨below_box4 (below_drewN HBW.out _) (Nat.le_refl _) _ _ _ _, by rw [HD.out]⟩
  | false =>
    have h := HL.out
    unfold RLog at h
    rw [if_neg (by decide), List.drop_zero] at h
    obtain ⟨l, rfl, hrv, hri⟩ := h
    by_cases hqn : q = n
    · have hdec : dec bs = some (.mk k m s l) := by
        rw [dec, hrv, List.drop_of_length_le (by omega)]
      obtain ⟨hi1, hi2, hi3⟩ := dec_inv hdec
      have HD := Lib.hid hdec
      have HI1 := Lib.hid hi1
      have HI2 := Lib.hid hi2
      have HI3 : Hid (V.bulk (.mk k m s l) ≤ 1099511627776 ∧ (V.enc (.mk k m s l)).length ≤ 2199023255552) := by
        unfold Hid; rw [← hi1]; exact ⟨by omega, by omega⟩
      have HRI := Lib.hid hri
      have HRD := Lib.hid (Rd.below (B' := W.heap.size) hri.rd HWB.out (by omega))
      clear hdec hrv hi1 hi2 hi3 hri HL
      subst hqn
      have u0 := HU.out.cell 0
      have u1 := HU.out.cell 1
      have u2 := HU.out.cell 2
      have u3 := HU.out.cell 3
      obtain ⟨s1, hs1⟩ : ∃ s1 : ByteArray, s1 = ⟨bs.toArray⟩ := ⟨_, rfl⟩
      have HCB : Hid (∀ w' : World, Below W.heap.size W w' → (convert 27 9 (.slice A q c)).run Try.prog w' = .ok (.string s1) w') := fun w' hb => by
        rw [hs1]; exact run_str (RdB.below HB.out (HBW.out.trans (hb.mono (by have := HBW.out.size; omega)))) c
      have HS1 := Lib.hid hs1
      have HUW : Hid (∀ w' : World, Below W.heap.size W w' → VB w' w3.heap.size k m (.string s) (.slice A' l.length cap)) := fun w' hb => HU.out.below hb
      have HVW : Hid (∀ w' : World, Below W.heap.size W w' → VB w' w.heap.size 0 0 (.string ⟨#[]⟩) (.slice none 0 0)) := fun w' hb => HV.out.below hb
      have HRW : Hid (∀ w' : World, Below W.heap.size W w' → Rd w' w'.heap.size (.mk k m s l) (.agg #[.int .i64 k, .int .i64 m, .string s, .slice A' l.length cap])) := fun w' hb => Rd.below HRD.out hb hb.size
      have cv0 := HCB.out _ (Below.refl W.heap.size W).drew
      clear hs1
      go_wp2_with fail
      rw [← HW.out]
      go_region_law (first
        | (go_simp; go_at_call 17
           refine (refCheck_any _ W.drew _ _ (Nat.le_refl _) (HRW.out _ (Below.refl _ _).drew) HI3.out.1).mono ?_
           rintro e w4 ⟨he, hb4⟩
           rw [HI2.out] at he
           subst he
           have HB4 := Lib.hid ((Below.refl W.heap.size W).drew.trans hb4)
           have cv4 := HCB.out _ HB4.out
           have x0 := (HUW.out _ HB4.out).cell 0
           have x1 := (HUW.out _ HB4.out).cell 1
           have x2 := (HUW.out _ HB4.out).cell 2
           have x3 := (HUW.out _ HB4.out).cell 3
           clear hb4)
        | (go_simp; go_at_call 28
           refine (refEncode_any _ w4 _ _ (Nat.le_refl _) (HRW.out _ HB4.out) HI3.out.1 HI3.out.2).mono ?_
           rintro e w5 ⟨g5, c5, N5, rfl, HN5, hO5, hb5⟩
           have HB5 := Lib.hid (HB4.out.trans (hb5.mono HB4.out.size))
           have cv5 := HCB.out _ HB5.out
           have ce5 : (convert 27 9 (.slice (some ⟨g5, 0, none⟩) N5 c5)).run Try.prog w5 = .ok (.string s1) w5 := by
             rw [HS1.out, HI1.out]; exact run_str (hO5.rdb HN5.out (hO5.lt g5 rfl).2) c5
           have y0 := (HUW.out _ HB5.out).cell 0
           have y1 := (HUW.out _ HB5.out).cell 1
           have y2 := (HUW.out _ HB5.out).cell 2
           have y3 := (HUW.out _ HB5.out).cell 3
           have p0 := (HVW.out _ HB5.out).cell 0
           have p1 := (HVW.out _ HB5.out).cell 1
           have p2 := (HVW.out _ HB5.out).cell 2
           have p3 := (HVW.out _ HB5.out).cell 3
           have o0 := (HVW.out _ HB5.out).frozen 0
           have o1 := (HVW.out _ HB5.out).frozen 1
           have o2 := (HVW.out _ HB5.out).frozen 2
           have o3 := (HVW.out _ HB5.out).frozen 3
           clear hb5 hO5))
      all_goals
        go_wp2_with fail
        refine bodyPost_ret (v := .tuple #[.agg #[.int .i64 k, .int .i64 m, .string s, .slice A' l.length cap], .int .i64 0]) (by simp [results, Try.results19, go_sem, p0, p1, p2, p3]) rfl ?_
        have hz5 : W.heap.size ≤ w5.heap.size := HB5.out.size
        refine ⟨below_box4 (HBW.out.trans (HB5.out.mono HBW.out.size)) (Nat.le_refl _) _ _ _ _, ?_⟩
        rw [HD.out]
        refine ⟨A', cap, rfl, HRI.out.keep (by omega) (by simp [World.setCell]; omega) fun p hp1 hp2 => ?_⟩
        rw [cell_box4 _ _ _ _ (by omega), HB5.out.cell (p := p) (by omega), HWB.out.cell (p := p) hp2]
    · have hb : ((q : Int) != (n : Int)) = true := by simp; omega
      have HD : Hid (dec bs = none) := by
        have hlt : q < bs.length := by omega
        unfold Hid; rw [dec, hrv, List.drop_eq_getElem_cons hlt]
      clear hqn hrv hri HL
      go_wp2_with fail
      rw [← HW.out]
      go_quiet (fail)
      go_wp2_with fail
      refine bodyPost_ret (v := .tuple #[.agg #[.int .i64 0, .int .i64 0, .string ⟨#[]⟩, .slice none 0 0], .int .i64 10]) (by simp [results, Try.results19, go_sem, b0, b1, b2, b3]) rfl ?_
      exact ⟨below_box4 (below_drewN HBW.out _) (Nat.le_refl _) _ _ _ _, by rw [HD.out]⟩
end Go.Proofs.Ytbcaanadmfnegaa
