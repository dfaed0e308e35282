/- The law DigestClimbs, walked. -/
import Derived.Test.YtfolmglafnfcbaaDoorLawHalves
import Derived.Test.YtfolmglafnfcbaaDoorHand
namespace Go.Proofs.YtfolmglafnfcbaaDoor
open Go.RowKit

set_option maxRecDepth 100000 in
set_option maxHeartbeats 4000000 in
theorem law_climbs (A : Option Addr) (n c : Nat) (bs : List UInt8) (w : World) (hr : RdB w w.heap.size A n bs) (hK : KOK w) :
    Calls Tryd.prog 6 #[.slice A n c] w fun e w' => e = .returned (.bool true) ∧ Below w.heap.size w w' := by
  have hK0 := hK.pos
  have HS := Lib.hid (sane_any w hK)
  have HR := Lib.hid hr
  have HK := Lib.hid hK
  clear hr hK
  go_enter Tryd.func6, Tryd.ntmps6
  go_wp2_with fail
  refine HS.out.mono ?_
  rintro e w1 ⟨rfl, hb1⟩
  have B1 := Lib.hid hb1
  have HR1 := Lib.hid (HR.out.below hb1 hb1.size)
  have z1 := hb1.size
  clear hb1
  go_wp2_with fail
  refine (ds_any A n c bs w1 HR1.out).mono ?_
  rintro e w2 ⟨g, N, cap, rfl, hN, hO, hb2⟩
  have hN24 : N ≤ 24 := by omega
  have B2 := Lib.hid (B1.out.trans (hb2.mono z1))
  have HO := Lib.hid hO
  have HK2 := Lib.hid (HK.out.below B2.out hK0)
  have z2 := hb2.size
  clear hN hO hb2 HR1 HR
  have hcap : N ≤ cap := HO.out.2.2.1
  have hcm : cap ≤ maxLen := HO.out.2.2.2.1
  obtain ⟨ds, hds⟩ : ∃ ds, ds = dsTo bs N := ⟨_, rfl⟩
  have hall : ∀ x ∈ ds, x.length = 32 := by rw [hds]; exact dsTo_all bs N
  have hlen : ds.length = N := by rw [hds]; exact dsTo_length bs N
  rw [← hds] at HO
  have hrd : RdD w2 w2.heap.size (some ⟨g, 0, none⟩) N ds := (OwnsN.rdd (.inr ⟨g, rfl, HO.out⟩) hall).1
  have HRD := Lib.hid hrd
  have HLEN := Lib.hid hlen
  have HALL := Lib.hid hall
  have HT := Lib.hid (tree_any (some ⟨g, 0, none⟩) N cap ds w2 hrd (by omega) hcap hcm HK2.out)
  have HTL := Lib.hid (tree_length ds)
  clear hds hrd hlen hall
  have hw2 : 0 < w2.heap.size := by omega
  have hgd : Tryd.prog.eqGuardType Tryd.prog.depth 26 = false := by kernel_rfl
  obtain ⟨dt, hdt⟩ : ∃ dt, dt = tree ds := ⟨_, rfl⟩
  have HDT := Lib.hid hdt
  rw [← hdt] at HT HTL
  clear hdt
  have hneq : ∀ u : World, (binOp .neq 26 (.agg (bytesV dt).toArray) (.agg (bytesV dt).toArray)).run Tryd.prog u = .ok (.bool false) u := fun u => by rw [run_neq_dg u dt dt HTL.out HTL.out, beq_self_eq_true]; rfl
  unfold dgV at HT
  have HIT := Lib.hid (dg_info dt HTL.out)
  go_wp2_with fail
  refine HT.out.mono ?_
  rintro e w3 ⟨rfl, hb3⟩
  have z3 := hb3.size
  obtain ⟨w4, hw4⟩ : ∃ w4, w3.alloc (.cells (bytesV dt).toArray 26) = w4 := ⟨_, rfl⟩
  have hb4 : Below w2.heap.size w2 w4 := by rw [← hw4]; exact hb3.trans ((Below.refl _ _).alloc z3 _)
  have hd4 : DRow w4 w3.heap.size dt := by rw [← hw4]; exact heap_alloc_new _ _
  have hl4 : w3.heap.size < w4.heap.size := hd4.lt
  have HW4 := Lib.hid hw4
  have HB4 := Lib.hid hb4
  have HD4 := Lib.hid hd4
  clear hw4 hb4 hd4 hb3
  go_wp2_with (refine wpList_store_row rfl 26 _ _ rfl _ _ rfl rfl _ _ (heap_alloc_new _ _) HIT.out (z32_size _ HTL.out) (bytesV_all _) ?_; rw [World.setRow_alloc_new, HW4.out])
  go_loopw [21] (fun i wr => ∃ k : Nat, i = .int .i64 k ∧ k ≤ N ∧ Hid (Below w4.heap.size w4 wr)) (fun i _ => 24 - (intOf i).toNat)
  case atStart => exact ⟨0, rfl, by omega, Below.refl _ _⟩
  case round =>
    obtain ⟨k, rfl, hk, HB⟩ := hrel
    by_cases hend : k = N
    · subst hend
      go_wp2_with fail
      go_ret
      exact ⟨rfl, (B2.out.trans (HB4.out.mono B2.out.size)).trans (HB.out.mono (by have h1 := B2.out.size; have h2 := HB4.out.size; omega))⟩
    · have hkN : k < N := by omega
      have hkN' : (k : Int) < (N : Int) := by omega
      have i0 : (0 : Int) ≤ (k : Int) := by omega
      obtain ⟨d, hd⟩ : ∃ d, ds[k]? = some d := ⟨ds[k]'(by have h := HLEN.out; omega), List.getElem?_eq_getElem _⟩
      have hdl : d.length = 32 := HALL.out d (List.mem_of_getElem? hd)
      have hbw : Below w2.heap.size w2 wr := HB4.out.trans (HB.out.mono HB4.out.size)
      have zr := hbw.size
      have hrdr := HRD.out.below hbw zr
      have hrg : wr.rangeAt g (0 + k * 32) (bytesV d) := by
        obtain ⟨b', o', e, _, hc⟩ := hrdr.2.2 (by omega)
        injection e with e
        injection e with e1 e2
        subst e1 e2
        exact hc k d hd
      rw [Nat.zero_add] at hrg
      obtain ⟨w5, hw5⟩ : ∃ w5, wr.alloc (.cells (bytesV d).toArray 26) = w5 := ⟨_, rfl⟩
      have hb5 : Below wr.heap.size wr w5 := by rw [← hw5]; exact (Below.refl _ _).alloc (Nat.le_refl _) _
      have hd5 : DRow w5 wr.heap.size d := by rw [← hw5]; exact heap_alloc_new _ _
      have HRG := Lib.hid hrg
      have HRGa := Lib.hid (World.rangeAt_alloc hrg (.cells Z32 26))
      have HW5 := Lib.hid hw5
      have HDD := Lib.hid hd
      have HDL := Lib.hid hdl
      have HLI := Lib.hid (dg_size d hdl)
      have HII := Lib.hid (dg_info d hdl)
      have HB5 : Hid (Below w4.heap.size w4 w5) := HB.out.trans (hb5.mono HB.out.size)
      have HD5 := Lib.hid hd5
      have hb5' : Below w2.heap.size w2 w5 := hbw.trans (hb5.mono zr)
      have HP := Lib.hid (pathX_any (some ⟨g, 0, none⟩) N cap k ds w5 (HRD.out.below hb5' hb5'.size) hkN (by omega) hcap hcm (HK2.out.below hb5' hw2))
      have HB25 := Lib.hid hb5'
      clear hw5 hd hdl hb5 hd5 hrg hrdr hbw hb5'
      go_wp2_with (first
        | (refine wpList_load_mid rfl 26 _ rfl g (k * 32) rfl _ _ HRG.out Tryd.underlying26 rfl HLI.out ?_)
        | (refine wpList_store_row rfl 26 _ _ rfl _ _ rfl rfl _ _ (heap_alloc_new _ _) HII.out (z32_size _ HDL.out) (bytesV_all _) ?_; rw [World.setRow_alloc_new, HW5.out]))
      refine HP.out.mono ?_
      rintro e w6 ⟨A1, m1, cap1, rfl, HO6, HB6⟩
      have z6 := HB6.size
      have hpa : ∀ x ∈ path ds k, x.length = 32 := path_all _ _ _ (Nat.le_refl _) (by have h := HLEN.out; omega)
      obtain ⟨hr6, hm6, hcm6⟩ := OwnsN.rdd HO6 hpa
      have hpl : (path ds k).length = Go.Proofs.YtfolmglafnfcbaaDoor.steps k N := by
        have h := path_length ds.length ds k (Nat.le_refl _) (by have h := HLEN.out; omega) (by have h := HLEN.out; omega)
        rw [HLEN.out] at h
        exact h
      have hps := path_short ds k (by have h := HLEN.out; omega) (by have h := HLEN.out; omega)
      have HB26 : Hid (Below w2.heap.size w2 w6) := HB25.out.trans (HB6.mono HB25.out.size)
      have HB46 : Hid (Below w4.heap.size w4 w6) := HB5.out.trans (HB6.mono HB5.out.size)
      have hclimb : climb d k N (path ds k) = dt := by
        have h := climb_path ds.length ds k d (Nat.le_refl _) HDD.out (by have h := HLEN.out; omega)
        rw [HLEN.out] at h
        rw [h, HDT.out]
      have HC := Lib.hid (climbX_any k N A1 m1 cap1 d (path ds k) w6 HDL.out hr6 (hr6.1.trans hpl) (by omega) hkN (by omega) hm6 hcm6 (HK2.out.below HB26.out hw2))
      rw [hclimb] at HC
      have HD6 := Lib.hid (DRow.range (HD5.out.below HB6 HD5.out.lt))
      have HM1 := Lib.hid hr6.1
      have HPL := Lib.hid hpl
      have HPS := Lib.hid hps
      have HO6' := Lib.hid HO6
      have HDR6 := Lib.hid (HD5.out.below HB6 HD5.out.lt)
      have HR6 := Lib.hid hr6
      clear hpa hr6 hpl hps hclimb HO6 HB6
      unfold dgV at HC
      go_wp2_with (refine wpList_load_mid rfl 26 _ rfl wr.heap.size 0 rfl _ _ HD6.out Tryd.underlying26 rfl HLI.out ?_)
      refine HC.out.mono ?_
      rintro e w7 ⟨rfl, hb7⟩
      obtain ⟨w8, hw8⟩ : ∃ w8, w7.alloc (.cells (bytesV dt).toArray 26) = w8 := ⟨_, rfl⟩
      have hb8 : Below w6.heap.size w6 w8 := by rw [← hw8]; exact hb7.trans ((Below.refl _ _).alloc hb7.size _)
      have hd8 : DRow w8 w7.heap.size dt := by rw [← hw8]; exact heap_alloc_new _ _
      have HW8 := Lib.hid hw8
      have HD8 := Lib.hid hd8
      have HB8 := Lib.hid hb8
      clear hw8 hb8 hd8 hb7
      go_wp2_with (refine wpList_store_row rfl 26 _ _ rfl _ _ rfl rfl _ _ (heap_alloc_new _ _) HIT.out (z32_size _ HTL.out) (bytesV_all _) ?_; rw [World.setRow_alloc_new, HW8.out])

      obtain ⟨i0', hi, hzz, hz1', hz2'⟩ := dg_parts
      have hl5 : (bytesV d).length = 32 := by rw [bytesV_length]; exact HDL.out
      have hff := fold_zero d HDL.out
      have HR8 := Lib.hid (HR6.out.below HB8.out HB8.out.size)
      have HD58 := Lib.hid (HDR6.out.below HB8.out HDR6.out.lt)
      have hm40 : m1 ≤ 5 := by have h1 := HM1.out; have h2 := HPS.out; omega
      have HC2 : Hid (∀ (u : World) (A' : Option Addr) (c' : Nat), Calls Tryd.prog 22 #[dgV d, .int .i64 k, .int .i64 N, .slice A' (m1 + 1) c'] u fun e u' => (∃ x : D, x.length = 32 ∧ e = .returned (.tuple #[dgV x, .int .i64 1])) ∧ Below u.heap.size u u') := fun u A' c' => climbX_len k N A' (m1 + 1) c' d u (by have h1 := HM1.out; have h2 := HPL.out; omega) (by omega) hkN (by omega)
      unfold dgV at HC2
      refine wp_region_held_drew (S := fun u => Below w8.heap.size w8 u) (by kernel_rfl) (Below.refl _ _).drew (fun hHeld => ?_)
      generalize w8.drew = X0 at hHeld ⊢
      have BX0 := Lib.hid hHeld
      show wpAnyH _ _ _ ?QQ _ _ _ ?aa _
      refine wpAnyH_take (i := 0) (oi := { dst := some 42, op := _, type := _, pos := _, after := _, guard := _ }) rfl (by kernel_rfl) (by kernel_rfl) (by kernel_rfl) (fun _ _ _ h => h) (yieldsIf_load_mid (by rfl) _ _ rfl wr.heap.size 0 rfl _ _ (fun w' h => range_below (DRow.range HD58.out) h HD58.out.lt) Tryd.underlying26 rfl HLI.out) (by assumption) ?_
      try simp only [Act.put, List.setIfInBounds_toArray, List.set_cons_zero, List.set_cons_succ]
      refine wpAnyH_take (i := 1) (oi := { dst := some 43, op := _, type := _, pos := _, after := _, guard := _ }) (v := ?_) rfl (by kernel_rfl) (by kernel_rfl) (by kernel_rfl) (fun _ _ _ h => h) (Or.inl ⟨by rfl, ?_⟩) (by assumption) ?_
      rotate_left
      · (intro w hSw; go_simp) <;> with_reducible rfl
      try simp only [Act.put, List.setIfInBounds_toArray, List.set_cons_zero, List.set_cons_succ]
      refine wpAnyH_take (i := 2) (oi := { dst := some 44, op := _, type := _, pos := _, after := _, guard := _ }) (v := ?_) rfl (by kernel_rfl) (by kernel_rfl) (by kernel_rfl) (fun _ _ _ h => h) (Or.inl ⟨by rfl, ?_⟩) (by assumption) ?_
      rotate_left
      · (intro w hSw; go_simp) <;> with_reducible rfl
      try simp only [Act.put, List.setIfInBounds_toArray, List.set_cons_zero, List.set_cons_succ]
      refine wpAnyH_take (i := 3) (oi := { dst := some 45, op := _, type := _, pos := _, after := _, guard := _ }) (v := ?_) rfl (by kernel_rfl) (by kernel_rfl) (by kernel_rfl) (fun _ _ _ h => h) (Or.inl ⟨by rfl, ?_⟩) (by assumption) ?_
      rotate_left
      · (intro w hSw; go_simp) <;> with_reducible rfl
      try simp only [Act.put, List.setIfInBounds_toArray, List.set_cons_zero, List.set_cons_succ]
      refine wpAnyH_take (i := 5) (oi := { dst := some 47, op := _, type := _, pos := _, after := _, guard := _ }) (v := ?_) rfl (by kernel_rfl) (by kernel_rfl) (by kernel_rfl) (fun _ _ _ h => h) (Or.inl ⟨by rfl, ?_⟩) (by assumption) ?_
      rotate_left
      · (intro w hSw; go_simp) <;> with_reducible rfl
      try simp only [Act.put, List.setIfInBounds_toArray, List.set_cons_zero, List.set_cons_succ]
      refine wpAnyH_take (i := 7) (oi := { dst := some 49, op := _, type := _, pos := _, after := _, guard := _ }) rfl (by kernel_rfl) (by kernel_rfl) (by kernel_rfl) (fun _ _ _ h => h) (yieldsIf_load_mid (by rfl) _ _ rfl wr.heap.size 0 rfl _ _ (fun w' h => range_below (DRow.range HD58.out) h HD58.out.lt) Tryd.underlying26 rfl HLI.out) (by assumption) ?_
      try simp only [Act.put, List.setIfInBounds_toArray, List.set_cons_zero, List.set_cons_succ]
      show wpAnyH _ _ _ ?Q2 _ _ _ ?a2 _
      have hfin : ∀ (v46 v48 v50 v51 v52 v41 v53 v11 : Value) (u : World), Hid (Below w8.heap.size w8 u) → ?Q2 .normal ((((((((((Act.put ?a2 (some 46) v46).put (some 48) v48).put (some 50) v50).put (some 51) v51).put (some 52) v52).put (some 41) v41).put (some 53) v53).put (some 54) (.int .i64 1)).put (some 11) v11).put (some 12) (.int .i64 1)) u := by
        intro v46 v48 v50 v51 v52 v41 v53 v11 u HBB
        simp only [Act.put, List.setIfInBounds_toArray, List.set_cons_zero, List.set_cons_succ]
        clear hHeld
        have HBW4 : Hid (Below w4.heap.size w4 u) := (HB46.out.trans (HB8.out.mono HB46.out.size)).trans (HBB.out.mono (by have h1 := HB46.out.size; have h2 := HB8.out.size; omega))
        have HU4 := Lib.hid (DRow.range (HD4.out.below HBW4.out hl4))
        have HU9 := Lib.hid (DRow.range (HD8.out.below HBB.out HD8.out.lt))
        have HDI := Lib.hid (dg_size dt HTL.out)
        have hm5 : ¬ (m1 : Int) > 5 := by omega
        have hm5' : ¬ (5 : Int) < (m1 : Int) := by omega
        have hm5'' : ¬ 5 < m1 := by omega
        have hm1 : m1 ≤ 5 := hm40
        go_wp2_with (first
          | (refine wpList_load_want (by rfl) 26 _ rfl w7.heap.size 0 rfl _ _ HU9.out Tryd.underlying26 rfl HDI.out ?_)
          | (refine wpList_load_want (by rfl) 26 _ rfl w3.heap.size 0 rfl _ _ HU4.out Tryd.underlying26 rfl HDI.out ?_))
        go_roundw
        case rel => exact ⟨k + 1, by go_num, by omega, HBW4⟩
        case measure => simp [intOf]; omega
      simp only [Act.put, List.setIfInBounds_toArray, List.set_cons_zero, List.set_cons_succ] at hfin
      refine wpAnyH_ready (rs := [4, 8, 14]) (by kernel_rfl) (by simp) ?_
      refine AllReadyH.cons (o := { dst := some 46, op := _, type := _, pos := _, after := _, guard := _ }) rfl (fun K hK => ?_) ?_
      · go_simp
        refine hK.out _ _ (hHeld.alloc hHeld.size _) (fun hHeld => ?_)
        clear hK K
        try simp only [Act.put, List.setIfInBounds_toArray, List.set_cons_zero, List.set_cons_succ]
        have FEX1 : Owns (X0.alloc (.cells #[] 26)) w8.heap.size 26 32 X0.heap.size 0 0 [] := owns0 _ _ BX0.out.size
        have RX1 : Below X0.heap.size X0 (X0.alloc (.cells #[] 26)) := (Below.refl _ _).alloc (Nat.le_refl _) _
        generalize (X0.alloc (.cells #[] 26)) = X1 at hHeld FEX1 RX1 ⊢
        have BX1 := Lib.hid hHeld
        replace FEX1 := Lib.hid FEX1
        replace RX1 := Lib.hid RX1
        refine wpAnyH_ready (rs := [6, 8, 14]) (by kernel_rfl) (by simp) ?_
        refine AllReadyH.cons (o := { dst := some 48, op := _, type := _, pos := _, after := _, guard := _ }) rfl (fun K hK => ?_) ?_
        · refine step_append_owns _ rfl (.tmp 46) (.tmp 47) 30 30 rfl w8.heap.size 26 i0' _ 32 32 Tryd.underlying30 hi hzz hz1' hz2' rfl X0.heap.size 0 0 [] rfl FEX1.out _ rfl m1 (flatD (path ds k)) ((HR8.out.below BX1.out BX1.out.size).src) (by unfold maxLen; omega) (by omega) BX1.out.size ?_
          intro g6_X2 c6_X2 X2 FPX2 TX2 GX2
          simp only [Nat.zero_add, List.nil_append] at FPX2 ⊢
          refine hK.out _ _ (BX1.out.trans (TX2.out.below (B := w8.heap.size) FEX1.out.2.1 FEX1.out.lt)) (fun hHeld => ?_)
          clear hK K
          try simp only [Act.put, List.setIfInBounds_toArray, List.set_cons_zero, List.set_cons_succ]
          have BX2 := Lib.hid hHeld
          refine wpAnyH_ready (rs := [8, 14]) (by kernel_rfl) (by simp) ?_
          refine AllReadyH.cons (o := { dst := some 50, op := _, type := _, pos := _, after := _, guard := _ }) rfl (fun K hK => ?_) ?_
          · go_simp
            refine hK.out _ _ (hHeld.alloc hHeld.size _) (fun hHeld => ?_)
            clear hK K
            try simp only [Act.put, List.setIfInBounds_toArray, List.set_cons_zero, List.set_cons_succ]
            have FDX3 : DRow (X2.alloc (.cells (bytesV d).toArray 26)) X2.heap.size d := heap_alloc_new X2 _
            have RX3 : Below X2.heap.size X2 (X2.alloc (.cells (bytesV d).toArray 26)) := (Below.refl _ _).alloc (Nat.le_refl _) _
            generalize (X2.alloc (.cells (bytesV d).toArray 26)) = X3 at hHeld FDX3 RX3 ⊢
            have BX3 := Lib.hid hHeld
            replace FDX3 := Lib.hid FDX3
            replace RX3 := Lib.hid RX3
            have FPX3 := Lib.hid (FPX2.out.keep ((RX3.out).block _ FPX2.out.lt))
            have ne_D_P : X2.heap.size ≠ g6_X2 := fun h => by have := FPX2.out.lt; omega
            have ne_P_D := ne_D_P.symm
            refine wpAnyH_ready (rs := [9, 14]) (by kernel_rfl) (by simp) ?_
            refine AllReadyH.cons (o := { dst := some 51, op := _, type := _, pos := _, after := _, guard := _ }) rfl (fun K hK => ?_) ?_
            · refine step_append_owns _ rfl (.tmp 48) (.tmp 50) 30 30 rfl w8.heap.size 26 i0' _ 32 32 Tryd.underlying30 hi hzz hz1' hz2' rfl g6_X2 m1 c6_X2 (flatD (path ds k)) rfl FPX3.out _ rfl 1 (bytesV d) (FDX3.out.src1 HDL.out) (by unfold maxLen; omega) (by omega) BX3.out.size ?_
              intro g9_X4 c9_X4 X4 FRX4 TX4 GX4
              refine hK.out _ _ (BX3.out.trans (TX4.out.below (B := w8.heap.size) FPX3.out.2.1 FPX3.out.lt)) (fun hHeld => ?_)
              clear hK K
              try simp only [Act.put, List.setIfInBounds_toArray, List.set_cons_zero, List.set_cons_succ]
              have BX4 := Lib.hid hHeld
              refine wpAnyH_ready (rs := [10, 14]) (by kernel_rfl) (by simp) ?_
              refine AllReadyH.cons (o := { dst := some 52, op := _, type := _, pos := _, after := _, guard := _ }) rfl (fun K hK => ?_) ?_
              · go_simp
                go_at_call 22
                refine (HC2.out _ _ _).mono ?_
                rintro e X5 ⟨⟨x, hx, rfl⟩, bX5⟩
                have RX5 := Lib.hid (bX5)
                go_wp2_with fail
                refine hK.out _ _ (BX4.out.trans (RX5.out.mono BX4.out.size)) (fun hHeld => ?_)
                clear hK K
                try simp only [Act.put, List.setIfInBounds_toArray, List.set_cons_zero, List.set_cons_succ]
                have BX5 := Lib.hid hHeld
                refine wpAnyH_take (i := 11) (oi := { dst := some 41, op := _, type := _, pos := _, after := _, guard := _ }) (v := ?_) rfl (by kernel_rfl) (by kernel_rfl) (by kernel_rfl) (fun _ _ _ h => h) (Or.inl ⟨by rfl, ?_⟩) (by assumption) ?_
                rotate_left
                · (intro w hSw; go_simp) <;> with_reducible rfl
                try simp only [Act.put, List.setIfInBounds_toArray, List.set_cons_zero, List.set_cons_succ]
                refine wpAnyH_take (i := 12) (oi := { dst := some 53, op := _, type := _, pos := _, after := _, guard := _ }) (v := ?_) rfl (by kernel_rfl) (by kernel_rfl) (by kernel_rfl) (fun _ _ _ h => h) (Or.inl ⟨by rfl, ?_⟩) (by assumption) ?_
                rotate_left
                · (intro w hSw; go_simp) <;> with_reducible rfl
                try simp only [Act.put, List.setIfInBounds_toArray, List.set_cons_zero, List.set_cons_succ]
                refine wpAnyH_take (i := 13) (oi := { dst := some 54, op := _, type := _, pos := _, after := _, guard := _ }) (v := ?_) rfl (by kernel_rfl) (by kernel_rfl) (by kernel_rfl) (fun _ _ _ h => h) (Or.inl ⟨by rfl, ?_⟩) (by assumption) ?_
                rotate_left
                · (intro w hSw; go_simp) <;> with_reducible rfl
                try simp only [Act.put, List.setIfInBounds_toArray, List.set_cons_zero, List.set_cons_succ]
                refine wpAnyH_ready (rs := [14]) (by kernel_rfl) (by simp) ?_
                refine AllReadyH.cons (o := { dst := some 11, op := _, type := _, pos := _, after := _, guard := _ }) rfl (fun K hK => ?_) ?_
                · go_simp
                  refine hK.out _ _ (hHeld.alloc hHeld.size _) (fun hHeld => ?_)
                  clear hK K
                  try simp only [Act.put, List.setIfInBounds_toArray, List.set_cons_zero, List.set_cons_succ]
                  have FAX6 : IsD (X5.alloc (.cells Z32 26)) X5.heap.size := IsD.new _ _ (heap_alloc_new X5 _)
                  have RX6 : Below X5.heap.size X5 (X5.alloc (.cells Z32 26)) := (Below.refl _ _).alloc (Nat.le_refl _) _
                  generalize (X5.alloc (.cells Z32 26)) = X6 at hHeld FAX6 RX6 ⊢
                  have BX6 := Lib.hid hHeld
                  replace FAX6 := Lib.hid FAX6
                  replace RX6 := Lib.hid RX6
                  refine wpAnyH_ready (rs := [15]) (by kernel_rfl) (by simp) ?_
                  refine AllReadyH.cons (o := { dst := none, op := _, type := _, pos := _, after := _, guard := _ }) rfl (fun K hK => ?_) ?_
                  · have htX := FAX6.out.there x hx
                    have hlX := bytesV_one x
                    have hiX := dg_info x hx
                    have HsX := Lib.hid (setCells_row FAX6.out hx)
                    rw [if_pos (by rfl)]
                    refine wp_store_mid _ _ _ rfl _ _ (List.toArray _) rfl rfl ?_ ?_ (all_oneCell_toArray hlX) ?_
                    · first | assumption | (simp only [List.size_toArray, *] <;> assumption)
                    · (first | assumption | (simp only [List.size_toArray] <;> assumption) | (simp only [List.size_toArray, *]))
                    simp only [Act.put]
                    refine hK.out _ _ (by rw [HsX.out]; exact below_setRow BX6.out (BX5.out.size) _) (fun hHeld => ?_)
                    clear hK K
                    rw [HsX.out] at hHeld ⊢
                    have FAX7 : DRow (X6.setRow X5.heap.size (bytesV x).toArray) X5.heap.size x := FAX6.out.row _
                    clear htX hlX hiX HsX
                    generalize (X6.setRow X5.heap.size (bytesV x).toArray) = X7 at hHeld FAX7  ⊢
                    have BX7 := Lib.hid hHeld
                    replace FAX7 := Lib.hid FAX7
                    refine wpAnyH_take (i := 16) (oi := { dst := some 12, op := _, type := _, pos := _, after := _, guard := _ }) (v := ?_) rfl (by kernel_rfl) (by kernel_rfl) (by kernel_rfl) (fun _ _ _ h => h) (Or.inl ⟨by rfl, ?_⟩) (by assumption) ?_
                    rotate_left
                    · (intro w hSw; go_simp) <;> with_reducible rfl
                    try simp only [Act.put, List.setIfInBounds_toArray, List.set_cons_zero, List.set_cons_succ]
                    refine wpAnyH_done (by kernel_rfl) ?_ _
                    exact hfin _ _ _ _ _ _ _ _ _ BX7
                  exact AllReadyH.nil
                exact AllReadyH.nil
              refine AllReadyH.cons (o := { dst := some 11, op := _, type := _, pos := _, after := _, guard := _ }) rfl (fun K hK => ?_) ?_
              · go_simp
                refine hK.out _ _ (hHeld.alloc hHeld.size _) (fun hHeld => ?_)
                clear hK K
                try simp only [Act.put, List.setIfInBounds_toArray, List.set_cons_zero, List.set_cons_succ]
                have FAX8 : IsD (X4.alloc (.cells Z32 26)) X4.heap.size := IsD.new _ _ (heap_alloc_new X4 _)
                have RX8 : Below X4.heap.size X4 (X4.alloc (.cells Z32 26)) := (Below.refl _ _).alloc (Nat.le_refl _) _
                generalize (X4.alloc (.cells Z32 26)) = X8 at hHeld FAX8 RX8 ⊢
                have BX8 := Lib.hid hHeld
                replace FAX8 := Lib.hid FAX8
                replace RX8 := Lib.hid RX8
                have FRX8 := Lib.hid (FRX4.out.keep ((RX8.out).block _ FRX4.out.lt))
                have ne_A_R : X4.heap.size ≠ g9_X4 := fun h => by have := FRX4.out.lt; omega
                have ne_R_A := ne_A_R.symm
                refine wpAnyH_ready (rs := [10]) (by kernel_rfl) (by simp) ?_
                refine AllReadyH.cons (o := { dst := some 52, op := _, type := _, pos := _, after := _, guard := _ }) rfl (fun K hK => ?_) ?_
                · go_simp
                  go_at_call 22
                  refine (HC2.out _ _ _).mono ?_
                  rintro e X9 ⟨⟨x, hx, rfl⟩, bX9⟩
                  have RX9 := Lib.hid (bX9)
                  go_wp2_with fail
                  refine hK.out _ _ (BX8.out.trans (RX9.out.mono BX8.out.size)) (fun hHeld => ?_)
                  clear hK K
                  try simp only [Act.put, List.setIfInBounds_toArray, List.set_cons_zero, List.set_cons_succ]
                  have BX9 := Lib.hid hHeld
                  have FAX9 := Lib.hid (FAX8.out.keep ((RX9.out).block _ FAX8.out.lt))
                  refine wpAnyH_take (i := 11) (oi := { dst := some 41, op := _, type := _, pos := _, after := _, guard := _ }) (v := ?_) rfl (by kernel_rfl) (by kernel_rfl) (by kernel_rfl) (fun _ _ _ h => h) (Or.inl ⟨by rfl, ?_⟩) (by assumption) ?_
                  rotate_left
                  · (intro w hSw; go_simp) <;> with_reducible rfl
                  try simp only [Act.put, List.setIfInBounds_toArray, List.set_cons_zero, List.set_cons_succ]
                  refine wpAnyH_take (i := 12) (oi := { dst := some 53, op := _, type := _, pos := _, after := _, guard := _ }) (v := ?_) rfl (by kernel_rfl) (by kernel_rfl) (by kernel_rfl) (fun _ _ _ h => h) (Or.inl ⟨by rfl, ?_⟩) (by assumption) ?_
                  rotate_left
                  · (intro w hSw; go_simp) <;> with_reducible rfl
                  try simp only [Act.put, List.setIfInBounds_toArray, List.set_cons_zero, List.set_cons_succ]
                  refine wpAnyH_take (i := 13) (oi := { dst := some 54, op := _, type := _, pos := _, after := _, guard := _ }) (v := ?_) rfl (by kernel_rfl) (by kernel_rfl) (by kernel_rfl) (fun _ _ _ h => h) (Or.inl ⟨by rfl, ?_⟩) (by assumption) ?_
                  rotate_left
                  · (intro w hSw; go_simp) <;> with_reducible rfl
                  try simp only [Act.put, List.setIfInBounds_toArray, List.set_cons_zero, List.set_cons_succ]
                  refine wpAnyH_ready (rs := [15]) (by kernel_rfl) (by simp) ?_
                  refine AllReadyH.cons (o := { dst := none, op := _, type := _, pos := _, after := _, guard := _ }) rfl (fun K hK => ?_) ?_
                  · have htX := FAX9.out.there x hx
                    have hlX := bytesV_one x
                    have hiX := dg_info x hx
                    have HsX := Lib.hid (setCells_row FAX9.out hx)
                    rw [if_pos (by rfl)]
                    refine wp_store_mid _ _ _ rfl _ _ (List.toArray _) rfl rfl ?_ ?_ (all_oneCell_toArray hlX) ?_
                    · first | assumption | (simp only [List.size_toArray, *] <;> assumption)
                    · (first | assumption | (simp only [List.size_toArray] <;> assumption) | (simp only [List.size_toArray, *]))
                    simp only [Act.put]
                    refine hK.out _ _ (by rw [HsX.out]; exact below_setRow BX9.out (BX4.out.size) _) (fun hHeld => ?_)
                    clear hK K
                    rw [HsX.out] at hHeld ⊢
                    have FAX10 : DRow (X9.setRow X4.heap.size (bytesV x).toArray) X4.heap.size x := FAX9.out.row _
                    clear htX hlX hiX HsX
                    generalize (X9.setRow X4.heap.size (bytesV x).toArray) = X10 at hHeld FAX10  ⊢
                    have BX10 := Lib.hid hHeld
                    replace FAX10 := Lib.hid FAX10
                    refine wpAnyH_take (i := 16) (oi := { dst := some 12, op := _, type := _, pos := _, after := _, guard := _ }) (v := ?_) rfl (by kernel_rfl) (by kernel_rfl) (by kernel_rfl) (fun _ _ _ h => h) (Or.inl ⟨by rfl, ?_⟩) (by assumption) ?_
                    rotate_left
                    · (intro w hSw; go_simp) <;> with_reducible rfl
                    try simp only [Act.put, List.setIfInBounds_toArray, List.set_cons_zero, List.set_cons_succ]
                    refine wpAnyH_done (by kernel_rfl) ?_ _
                    exact hfin _ _ _ _ _ _ _ _ _ BX10
                  exact AllReadyH.nil
                exact AllReadyH.nil
              exact AllReadyH.nil
            refine AllReadyH.cons (o := { dst := some 11, op := _, type := _, pos := _, after := _, guard := _ }) rfl (fun K hK => ?_) ?_
            · go_simp
              refine hK.out _ _ (hHeld.alloc hHeld.size _) (fun hHeld => ?_)
              clear hK K
              try simp only [Act.put, List.setIfInBounds_toArray, List.set_cons_zero, List.set_cons_succ]
              have FAX11 : IsD (X3.alloc (.cells Z32 26)) X3.heap.size := IsD.new _ _ (heap_alloc_new X3 _)
              have RX11 : Below X3.heap.size X3 (X3.alloc (.cells Z32 26)) := (Below.refl _ _).alloc (Nat.le_refl _) _
              generalize (X3.alloc (.cells Z32 26)) = X11 at hHeld FAX11 RX11 ⊢
              have BX11 := Lib.hid hHeld
              replace FAX11 := Lib.hid FAX11
              replace RX11 := Lib.hid RX11
              have FPX11 := Lib.hid (FPX3.out.keep ((RX11.out).block _ FPX3.out.lt))
              have FDX11 := Lib.hid (FDX3.out.keep ((RX11.out).block _ FDX3.out.lt))
              have ne_A_P : X3.heap.size ≠ g6_X2 := fun h => by have := FPX3.out.lt; omega
              have ne_P_A := ne_A_P.symm
              have ne_A_D : X3.heap.size ≠ X2.heap.size := fun h => by have := FDX3.out.lt; omega
              have ne_D_A := ne_A_D.symm
              refine wpAnyH_ready (rs := [9]) (by kernel_rfl) (by simp) ?_
              refine AllReadyH.cons (o := { dst := some 51, op := _, type := _, pos := _, after := _, guard := _ }) rfl (fun K hK => ?_) ?_
              · refine step_append_owns _ rfl (.tmp 48) (.tmp 50) 30 30 rfl w8.heap.size 26 i0' _ 32 32 Tryd.underlying30 hi hzz hz1' hz2' rfl g6_X2 m1 c6_X2 (flatD (path ds k)) rfl FPX11.out _ rfl 1 (bytesV d) (FDX11.out.src1 HDL.out) (by unfold maxLen; omega) (by omega) BX11.out.size ?_
                intro g9_X12 c9_X12 X12 FRX12 TX12 GX12
                refine hK.out _ _ (BX11.out.trans (TX12.out.below (B := w8.heap.size) FPX11.out.2.1 FPX11.out.lt)) (fun hHeld => ?_)
                clear hK K
                try simp only [Act.put, List.setIfInBounds_toArray, List.set_cons_zero, List.set_cons_succ]
                have BX12 := Lib.hid hHeld
                have FAX12 := Lib.hid (FAX11.out.keep ((TX12.out).block _ FAX11.out.lt (by simp only [ne_eq, Option.some.injEq]; have h := ne_A_P; omega)))
                have ne_R_A : g9_X12 ≠ X3.heap.size := fun h => by
                  have h1 := GX12.out
                  have h2 := FAX11.out.lt
                  have h3 := ne_P_A
                  omega
                have ne_A_R := ne_R_A.symm
                refine wpAnyH_ready (rs := [10]) (by kernel_rfl) (by simp) ?_
                refine AllReadyH.cons (o := { dst := some 52, op := _, type := _, pos := _, after := _, guard := _ }) rfl (fun K hK => ?_) ?_
                · go_simp
                  go_at_call 22
                  refine (HC2.out _ _ _).mono ?_
                  rintro e X13 ⟨⟨x, hx, rfl⟩, bX13⟩
                  have RX13 := Lib.hid (bX13)
                  go_wp2_with fail
                  refine hK.out _ _ (BX12.out.trans (RX13.out.mono BX12.out.size)) (fun hHeld => ?_)
                  clear hK K
                  try simp only [Act.put, List.setIfInBounds_toArray, List.set_cons_zero, List.set_cons_succ]
                  have BX13 := Lib.hid hHeld
                  have FAX13 := Lib.hid (FAX12.out.keep ((RX13.out).block _ FAX12.out.lt))
                  refine wpAnyH_take (i := 11) (oi := { dst := some 41, op := _, type := _, pos := _, after := _, guard := _ }) (v := ?_) rfl (by kernel_rfl) (by kernel_rfl) (by kernel_rfl) (fun _ _ _ h => h) (Or.inl ⟨by rfl, ?_⟩) (by assumption) ?_
                  rotate_left
                  · (intro w hSw; go_simp) <;> with_reducible rfl
                  try simp only [Act.put, List.setIfInBounds_toArray, List.set_cons_zero, List.set_cons_succ]
                  refine wpAnyH_take (i := 12) (oi := { dst := some 53, op := _, type := _, pos := _, after := _, guard := _ }) (v := ?_) rfl (by kernel_rfl) (by kernel_rfl) (by kernel_rfl) (fun _ _ _ h => h) (Or.inl ⟨by rfl, ?_⟩) (by assumption) ?_
                  rotate_left
                  · (intro w hSw; go_simp) <;> with_reducible rfl
                  try simp only [Act.put, List.setIfInBounds_toArray, List.set_cons_zero, List.set_cons_succ]
                  refine wpAnyH_take (i := 13) (oi := { dst := some 54, op := _, type := _, pos := _, after := _, guard := _ }) (v := ?_) rfl (by kernel_rfl) (by kernel_rfl) (by kernel_rfl) (fun _ _ _ h => h) (Or.inl ⟨by rfl, ?_⟩) (by assumption) ?_
                  rotate_left
                  · (intro w hSw; go_simp) <;> with_reducible rfl
                  try simp only [Act.put, List.setIfInBounds_toArray, List.set_cons_zero, List.set_cons_succ]
                  refine wpAnyH_ready (rs := [15]) (by kernel_rfl) (by simp) ?_
                  refine AllReadyH.cons (o := { dst := none, op := _, type := _, pos := _, after := _, guard := _ }) rfl (fun K hK => ?_) ?_
                  · have htX := FAX13.out.there x hx
                    have hlX := bytesV_one x
                    have hiX := dg_info x hx
                    have HsX := Lib.hid (setCells_row FAX13.out hx)
                    rw [if_pos (by rfl)]
                    refine wp_store_mid _ _ _ rfl _ _ (List.toArray _) rfl rfl ?_ ?_ (all_oneCell_toArray hlX) ?_
                    · first | assumption | (simp only [List.size_toArray, *] <;> assumption)
                    · (first | assumption | (simp only [List.size_toArray] <;> assumption) | (simp only [List.size_toArray, *]))
                    simp only [Act.put]
                    refine hK.out _ _ (by rw [HsX.out]; exact below_setRow BX13.out (BX3.out.size) _) (fun hHeld => ?_)
                    clear hK K
                    rw [HsX.out] at hHeld ⊢
                    have FAX14 : DRow (X13.setRow X3.heap.size (bytesV x).toArray) X3.heap.size x := FAX13.out.row _
                    clear htX hlX hiX HsX
                    generalize (X13.setRow X3.heap.size (bytesV x).toArray) = X14 at hHeld FAX14  ⊢
                    have BX14 := Lib.hid hHeld
                    replace FAX14 := Lib.hid FAX14
                    refine wpAnyH_take (i := 16) (oi := { dst := some 12, op := _, type := _, pos := _, after := _, guard := _ }) (v := ?_) rfl (by kernel_rfl) (by kernel_rfl) (by kernel_rfl) (fun _ _ _ h => h) (Or.inl ⟨by rfl, ?_⟩) (by assumption) ?_
                    rotate_left
                    · (intro w hSw; go_simp) <;> with_reducible rfl
                    try simp only [Act.put, List.setIfInBounds_toArray, List.set_cons_zero, List.set_cons_succ]
                    refine wpAnyH_done (by kernel_rfl) ?_ _
                    exact hfin _ _ _ _ _ _ _ _ _ BX14
                  exact AllReadyH.nil
                exact AllReadyH.nil
              exact AllReadyH.nil
            exact AllReadyH.nil
          refine AllReadyH.cons (o := { dst := some 11, op := _, type := _, pos := _, after := _, guard := _ }) rfl (fun K hK => ?_) ?_
          · go_simp
            refine hK.out _ _ (hHeld.alloc hHeld.size _) (fun hHeld => ?_)
            clear hK K
            try simp only [Act.put, List.setIfInBounds_toArray, List.set_cons_zero, List.set_cons_succ]
            have FAX15 : IsD (X2.alloc (.cells Z32 26)) X2.heap.size := IsD.new _ _ (heap_alloc_new X2 _)
            have RX15 : Below X2.heap.size X2 (X2.alloc (.cells Z32 26)) := (Below.refl _ _).alloc (Nat.le_refl _) _
            generalize (X2.alloc (.cells Z32 26)) = X15 at hHeld FAX15 RX15 ⊢
            have BX15 := Lib.hid hHeld
            replace FAX15 := Lib.hid FAX15
            replace RX15 := Lib.hid RX15
            have FPX15 := Lib.hid (FPX2.out.keep ((RX15.out).block _ FPX2.out.lt))
            have ne_A_P : X2.heap.size ≠ g6_X2 := fun h => by have := FPX2.out.lt; omega
            have ne_P_A := ne_A_P.symm
            refine wpAnyH_ready (rs := [8]) (by kernel_rfl) (by simp) ?_
            refine AllReadyH.cons (o := { dst := some 50, op := _, type := _, pos := _, after := _, guard := _ }) rfl (fun K hK => ?_) ?_
            · go_simp
              refine hK.out _ _ (hHeld.alloc hHeld.size _) (fun hHeld => ?_)
              clear hK K
              try simp only [Act.put, List.setIfInBounds_toArray, List.set_cons_zero, List.set_cons_succ]
              have FDX16 : DRow (X15.alloc (.cells (bytesV d).toArray 26)) X15.heap.size d := heap_alloc_new X15 _
              have RX16 : Below X15.heap.size X15 (X15.alloc (.cells (bytesV d).toArray 26)) := (Below.refl _ _).alloc (Nat.le_refl _) _
              generalize (X15.alloc (.cells (bytesV d).toArray 26)) = X16 at hHeld FDX16 RX16 ⊢
              have BX16 := Lib.hid hHeld
              replace FDX16 := Lib.hid FDX16
              replace RX16 := Lib.hid RX16
              have FPX16 := Lib.hid (FPX15.out.keep ((RX16.out).block _ FPX15.out.lt))
              have FAX16 := Lib.hid (FAX15.out.keep ((RX16.out).block _ FAX15.out.lt))
              have ne_D_P : X15.heap.size ≠ g6_X2 := fun h => by have := FPX15.out.lt; omega
              have ne_P_D := ne_D_P.symm
              have ne_D_A : X15.heap.size ≠ X2.heap.size := fun h => by have := FAX15.out.lt; omega
              have ne_A_D := ne_D_A.symm
              refine wpAnyH_ready (rs := [9]) (by kernel_rfl) (by simp) ?_
              refine AllReadyH.cons (o := { dst := some 51, op := _, type := _, pos := _, after := _, guard := _ }) rfl (fun K hK => ?_) ?_
              · refine step_append_owns _ rfl (.tmp 48) (.tmp 50) 30 30 rfl w8.heap.size 26 i0' _ 32 32 Tryd.underlying30 hi hzz hz1' hz2' rfl g6_X2 m1 c6_X2 (flatD (path ds k)) rfl FPX16.out _ rfl 1 (bytesV d) (FDX16.out.src1 HDL.out) (by unfold maxLen; omega) (by omega) BX16.out.size ?_
                intro g9_X17 c9_X17 X17 FRX17 TX17 GX17
                refine hK.out _ _ (BX16.out.trans (TX17.out.below (B := w8.heap.size) FPX16.out.2.1 FPX16.out.lt)) (fun hHeld => ?_)
                clear hK K
                try simp only [Act.put, List.setIfInBounds_toArray, List.set_cons_zero, List.set_cons_succ]
                have BX17 := Lib.hid hHeld
                have FAX17 := Lib.hid (FAX16.out.keep ((TX17.out).block _ FAX16.out.lt (by simp only [ne_eq, Option.some.injEq]; have h := ne_A_P; omega)))
                have ne_R_A : g9_X17 ≠ X2.heap.size := fun h => by
                  have h1 := GX17.out
                  have h2 := FAX16.out.lt
                  have h3 := ne_P_A
                  omega
                have ne_A_R := ne_R_A.symm
                refine wpAnyH_ready (rs := [10]) (by kernel_rfl) (by simp) ?_
                refine AllReadyH.cons (o := { dst := some 52, op := _, type := _, pos := _, after := _, guard := _ }) rfl (fun K hK => ?_) ?_
                · go_simp
                  go_at_call 22
                  refine (HC2.out _ _ _).mono ?_
                  rintro e X18 ⟨⟨x, hx, rfl⟩, bX18⟩
                  have RX18 := Lib.hid (bX18)
                  go_wp2_with fail
                  refine hK.out _ _ (BX17.out.trans (RX18.out.mono BX17.out.size)) (fun hHeld => ?_)
                  clear hK K
                  try simp only [Act.put, List.setIfInBounds_toArray, List.set_cons_zero, List.set_cons_succ]
                  have BX18 := Lib.hid hHeld
                  have FAX18 := Lib.hid (FAX17.out.keep ((RX18.out).block _ FAX17.out.lt))
                  refine wpAnyH_take (i := 11) (oi := { dst := some 41, op := _, type := _, pos := _, after := _, guard := _ }) (v := ?_) rfl (by kernel_rfl) (by kernel_rfl) (by kernel_rfl) (fun _ _ _ h => h) (Or.inl ⟨by rfl, ?_⟩) (by assumption) ?_
                  rotate_left
                  · (intro w hSw; go_simp) <;> with_reducible rfl
                  try simp only [Act.put, List.setIfInBounds_toArray, List.set_cons_zero, List.set_cons_succ]
                  refine wpAnyH_take (i := 12) (oi := { dst := some 53, op := _, type := _, pos := _, after := _, guard := _ }) (v := ?_) rfl (by kernel_rfl) (by kernel_rfl) (by kernel_rfl) (fun _ _ _ h => h) (Or.inl ⟨by rfl, ?_⟩) (by assumption) ?_
                  rotate_left
                  · (intro w hSw; go_simp) <;> with_reducible rfl
                  try simp only [Act.put, List.setIfInBounds_toArray, List.set_cons_zero, List.set_cons_succ]
                  refine wpAnyH_take (i := 13) (oi := { dst := some 54, op := _, type := _, pos := _, after := _, guard := _ }) (v := ?_) rfl (by kernel_rfl) (by kernel_rfl) (by kernel_rfl) (fun _ _ _ h => h) (Or.inl ⟨by rfl, ?_⟩) (by assumption) ?_
                  rotate_left
                  · (intro w hSw; go_simp) <;> with_reducible rfl
                  try simp only [Act.put, List.setIfInBounds_toArray, List.set_cons_zero, List.set_cons_succ]
                  refine wpAnyH_ready (rs := [15]) (by kernel_rfl) (by simp) ?_
                  refine AllReadyH.cons (o := { dst := none, op := _, type := _, pos := _, after := _, guard := _ }) rfl (fun K hK => ?_) ?_
                  · have htX := FAX18.out.there x hx
                    have hlX := bytesV_one x
                    have hiX := dg_info x hx
                    have HsX := Lib.hid (setCells_row FAX18.out hx)
                    rw [if_pos (by rfl)]
                    refine wp_store_mid _ _ _ rfl _ _ (List.toArray _) rfl rfl ?_ ?_ (all_oneCell_toArray hlX) ?_
                    · first | assumption | (simp only [List.size_toArray, *] <;> assumption)
                    · (first | assumption | (simp only [List.size_toArray] <;> assumption) | (simp only [List.size_toArray, *]))
                    simp only [Act.put]
                    refine hK.out _ _ (by rw [HsX.out]; exact below_setRow BX18.out (BX2.out.size) _) (fun hHeld => ?_)
                    clear hK K
                    rw [HsX.out] at hHeld ⊢
                    have FAX19 : DRow (X18.setRow X2.heap.size (bytesV x).toArray) X2.heap.size x := FAX18.out.row _
                    clear htX hlX hiX HsX
                    generalize (X18.setRow X2.heap.size (bytesV x).toArray) = X19 at hHeld FAX19  ⊢
                    have BX19 := Lib.hid hHeld
                    replace FAX19 := Lib.hid FAX19
                    refine wpAnyH_take (i := 16) (oi := { dst := some 12, op := _, type := _, pos := _, after := _, guard := _ }) (v := ?_) rfl (by kernel_rfl) (by kernel_rfl) (by kernel_rfl) (fun _ _ _ h => h) (Or.inl ⟨by rfl, ?_⟩) (by assumption) ?_
                    rotate_left
                    · (intro w hSw; go_simp) <;> with_reducible rfl
                    try simp only [Act.put, List.setIfInBounds_toArray, List.set_cons_zero, List.set_cons_succ]
                    refine wpAnyH_done (by kernel_rfl) ?_ _
                    exact hfin _ _ _ _ _ _ _ _ _ BX19
                  exact AllReadyH.nil
                exact AllReadyH.nil
              exact AllReadyH.nil
            exact AllReadyH.nil
          exact AllReadyH.nil
        refine AllReadyH.cons (o := { dst := some 50, op := _, type := _, pos := _, after := _, guard := _ }) rfl (fun K hK => ?_) ?_
        · go_simp
          refine hK.out _ _ (hHeld.alloc hHeld.size _) (fun hHeld => ?_)
          clear hK K
          try simp only [Act.put, List.setIfInBounds_toArray, List.set_cons_zero, List.set_cons_succ]
          have FDX20 : DRow (X1.alloc (.cells (bytesV d).toArray 26)) X1.heap.size d := heap_alloc_new X1 _
          have RX20 : Below X1.heap.size X1 (X1.alloc (.cells (bytesV d).toArray 26)) := (Below.refl _ _).alloc (Nat.le_refl _) _
          generalize (X1.alloc (.cells (bytesV d).toArray 26)) = X20 at hHeld FDX20 RX20 ⊢
          have BX20 := Lib.hid hHeld
          replace FDX20 := Lib.hid FDX20
          replace RX20 := Lib.hid RX20
          have FEX20 := Lib.hid (FEX1.out.keep ((RX20.out).block _ FEX1.out.lt))
          have ne_D_E : X1.heap.size ≠ X0.heap.size := fun h => by have := FEX1.out.lt; omega
          have ne_E_D := ne_D_E.symm
          refine wpAnyH_ready (rs := [6, 14]) (by kernel_rfl) (by simp) ?_
          refine AllReadyH.cons (o := { dst := some 48, op := _, type := _, pos := _, after := _, guard := _ }) rfl (fun K hK => ?_) ?_
          · refine step_append_owns _ rfl (.tmp 46) (.tmp 47) 30 30 rfl w8.heap.size 26 i0' _ 32 32 Tryd.underlying30 hi hzz hz1' hz2' rfl X0.heap.size 0 0 [] rfl FEX20.out _ rfl m1 (flatD (path ds k)) ((HR8.out.below BX20.out BX20.out.size).src) (by unfold maxLen; omega) (by omega) BX20.out.size ?_
            intro g6_X21 c6_X21 X21 FPX21 TX21 GX21
            simp only [Nat.zero_add, List.nil_append] at FPX21 ⊢
            refine hK.out _ _ (BX20.out.trans (TX21.out.below (B := w8.heap.size) FEX20.out.2.1 FEX20.out.lt)) (fun hHeld => ?_)
            clear hK K
            try simp only [Act.put, List.setIfInBounds_toArray, List.set_cons_zero, List.set_cons_succ]
            have BX21 := Lib.hid hHeld
            have FDX21 := Lib.hid (FDX20.out.keep ((TX21.out).block _ FDX20.out.lt (by simp only [ne_eq, Option.some.injEq]; have h := ne_D_E; omega)))
            have ne_P_D : g6_X21 ≠ X1.heap.size := fun h => by
              have h1 := GX21.out
              have h2 := FDX20.out.lt
              have h3 := ne_E_D
              omega
            have ne_D_P := ne_P_D.symm
            refine wpAnyH_ready (rs := [9, 14]) (by kernel_rfl) (by simp) ?_
            refine AllReadyH.cons (o := { dst := some 51, op := _, type := _, pos := _, after := _, guard := _ }) rfl (fun K hK => ?_) ?_
            · refine step_append_owns _ rfl (.tmp 48) (.tmp 50) 30 30 rfl w8.heap.size 26 i0' _ 32 32 Tryd.underlying30 hi hzz hz1' hz2' rfl g6_X21 m1 c6_X21 (flatD (path ds k)) rfl FPX21.out _ rfl 1 (bytesV d) (FDX21.out.src1 HDL.out) (by unfold maxLen; omega) (by omega) BX21.out.size ?_
              intro g9_X22 c9_X22 X22 FRX22 TX22 GX22
              refine hK.out _ _ (BX21.out.trans (TX22.out.below (B := w8.heap.size) FPX21.out.2.1 FPX21.out.lt)) (fun hHeld => ?_)
              clear hK K
              try simp only [Act.put, List.setIfInBounds_toArray, List.set_cons_zero, List.set_cons_succ]
              have BX22 := Lib.hid hHeld
              refine wpAnyH_ready (rs := [10, 14]) (by kernel_rfl) (by simp) ?_
              refine AllReadyH.cons (o := { dst := some 52, op := _, type := _, pos := _, after := _, guard := _ }) rfl (fun K hK => ?_) ?_
              · go_simp
                go_at_call 22
                refine (HC2.out _ _ _).mono ?_
                rintro e X23 ⟨⟨x, hx, rfl⟩, bX23⟩
                have RX23 := Lib.hid (bX23)
                go_wp2_with fail
                refine hK.out _ _ (BX22.out.trans (RX23.out.mono BX22.out.size)) (fun hHeld => ?_)
                clear hK K
                try simp only [Act.put, List.setIfInBounds_toArray, List.set_cons_zero, List.set_cons_succ]
                have BX23 := Lib.hid hHeld
                refine wpAnyH_take (i := 11) (oi := { dst := some 41, op := _, type := _, pos := _, after := _, guard := _ }) (v := ?_) rfl (by kernel_rfl) (by kernel_rfl) (by kernel_rfl) (fun _ _ _ h => h) (Or.inl ⟨by rfl, ?_⟩) (by assumption) ?_
                rotate_left
                · (intro w hSw; go_simp) <;> with_reducible rfl
                try simp only [Act.put, List.setIfInBounds_toArray, List.set_cons_zero, List.set_cons_succ]
                refine wpAnyH_take (i := 12) (oi := { dst := some 53, op := _, type := _, pos := _, after := _, guard := _ }) (v := ?_) rfl (by kernel_rfl) (by kernel_rfl) (by kernel_rfl) (fun _ _ _ h => h) (Or.inl ⟨by rfl, ?_⟩) (by assumption) ?_
                rotate_left
                · (intro w hSw; go_simp) <;> with_reducible rfl
                try simp only [Act.put, List.setIfInBounds_toArray, List.set_cons_zero, List.set_cons_succ]
                refine wpAnyH_take (i := 13) (oi := { dst := some 54, op := _, type := _, pos := _, after := _, guard := _ }) (v := ?_) rfl (by kernel_rfl) (by kernel_rfl) (by kernel_rfl) (fun _ _ _ h => h) (Or.inl ⟨by rfl, ?_⟩) (by assumption) ?_
                rotate_left
                · (intro w hSw; go_simp) <;> with_reducible rfl
                try simp only [Act.put, List.setIfInBounds_toArray, List.set_cons_zero, List.set_cons_succ]
                refine wpAnyH_ready (rs := [14]) (by kernel_rfl) (by simp) ?_
                refine AllReadyH.cons (o := { dst := some 11, op := _, type := _, pos := _, after := _, guard := _ }) rfl (fun K hK => ?_) ?_
                · go_simp
                  refine hK.out _ _ (hHeld.alloc hHeld.size _) (fun hHeld => ?_)
                  clear hK K
                  try simp only [Act.put, List.setIfInBounds_toArray, List.set_cons_zero, List.set_cons_succ]
                  have FAX24 : IsD (X23.alloc (.cells Z32 26)) X23.heap.size := IsD.new _ _ (heap_alloc_new X23 _)
                  have RX24 : Below X23.heap.size X23 (X23.alloc (.cells Z32 26)) := (Below.refl _ _).alloc (Nat.le_refl _) _
                  generalize (X23.alloc (.cells Z32 26)) = X24 at hHeld FAX24 RX24 ⊢
                  have BX24 := Lib.hid hHeld
                  replace FAX24 := Lib.hid FAX24
                  replace RX24 := Lib.hid RX24
                  refine wpAnyH_ready (rs := [15]) (by kernel_rfl) (by simp) ?_
                  refine AllReadyH.cons (o := { dst := none, op := _, type := _, pos := _, after := _, guard := _ }) rfl (fun K hK => ?_) ?_
                  · have htX := FAX24.out.there x hx
                    have hlX := bytesV_one x
                    have hiX := dg_info x hx
                    have HsX := Lib.hid (setCells_row FAX24.out hx)
                    rw [if_pos (by rfl)]
                    refine wp_store_mid _ _ _ rfl _ _ (List.toArray _) rfl rfl ?_ ?_ (all_oneCell_toArray hlX) ?_
                    · first | assumption | (simp only [List.size_toArray, *] <;> assumption)
                    · (first | assumption | (simp only [List.size_toArray] <;> assumption) | (simp only [List.size_toArray, *]))
                    simp only [Act.put]
                    refine hK.out _ _ (by rw [HsX.out]; exact below_setRow BX24.out (BX23.out.size) _) (fun hHeld => ?_)
                    clear hK K
                    rw [HsX.out] at hHeld ⊢
                    have FAX25 : DRow (X24.setRow X23.heap.size (bytesV x).toArray) X23.heap.size x := FAX24.out.row _
                    clear htX hlX hiX HsX
                    generalize (X24.setRow X23.heap.size (bytesV x).toArray) = X25 at hHeld FAX25  ⊢
                    have BX25 := Lib.hid hHeld
                    replace FAX25 := Lib.hid FAX25
                    refine wpAnyH_take (i := 16) (oi := { dst := some 12, op := _, type := _, pos := _, after := _, guard := _ }) (v := ?_) rfl (by kernel_rfl) (by kernel_rfl) (by kernel_rfl) (fun _ _ _ h => h) (Or.inl ⟨by rfl, ?_⟩) (by assumption) ?_
                    rotate_left
                    · (intro w hSw; go_simp) <;> with_reducible rfl
                    try simp only [Act.put, List.setIfInBounds_toArray, List.set_cons_zero, List.set_cons_succ]
                    refine wpAnyH_done (by kernel_rfl) ?_ _
                    exact hfin _ _ _ _ _ _ _ _ _ BX25
                  exact AllReadyH.nil
                exact AllReadyH.nil
              refine AllReadyH.cons (o := { dst := some 11, op := _, type := _, pos := _, after := _, guard := _ }) rfl (fun K hK => ?_) ?_
              · go_simp
                refine hK.out _ _ (hHeld.alloc hHeld.size _) (fun hHeld => ?_)
                clear hK K
                try simp only [Act.put, List.setIfInBounds_toArray, List.set_cons_zero, List.set_cons_succ]
                have FAX26 : IsD (X22.alloc (.cells Z32 26)) X22.heap.size := IsD.new _ _ (heap_alloc_new X22 _)
                have RX26 : Below X22.heap.size X22 (X22.alloc (.cells Z32 26)) := (Below.refl _ _).alloc (Nat.le_refl _) _
                generalize (X22.alloc (.cells Z32 26)) = X26 at hHeld FAX26 RX26 ⊢
                have BX26 := Lib.hid hHeld
                replace FAX26 := Lib.hid FAX26
                replace RX26 := Lib.hid RX26
                have FRX26 := Lib.hid (FRX22.out.keep ((RX26.out).block _ FRX22.out.lt))
                have ne_A_R : X22.heap.size ≠ g9_X22 := fun h => by have := FRX22.out.lt; omega
                have ne_R_A := ne_A_R.symm
                refine wpAnyH_ready (rs := [10]) (by kernel_rfl) (by simp) ?_
                refine AllReadyH.cons (o := { dst := some 52, op := _, type := _, pos := _, after := _, guard := _ }) rfl (fun K hK => ?_) ?_
                · go_simp
                  go_at_call 22
                  refine (HC2.out _ _ _).mono ?_
                  rintro e X27 ⟨⟨x, hx, rfl⟩, bX27⟩
                  have RX27 := Lib.hid (bX27)
                  go_wp2_with fail
                  refine hK.out _ _ (BX26.out.trans (RX27.out.mono BX26.out.size)) (fun hHeld => ?_)
                  clear hK K
                  try simp only [Act.put, List.setIfInBounds_toArray, List.set_cons_zero, List.set_cons_succ]
                  have BX27 := Lib.hid hHeld
                  have FAX27 := Lib.hid (FAX26.out.keep ((RX27.out).block _ FAX26.out.lt))
                  refine wpAnyH_take (i := 11) (oi := { dst := some 41, op := _, type := _, pos := _, after := _, guard := _ }) (v := ?_) rfl (by kernel_rfl) (by kernel_rfl) (by kernel_rfl) (fun _ _ _ h => h) (Or.inl ⟨by rfl, ?_⟩) (by assumption) ?_
                  rotate_left
                  · (intro w hSw; go_simp) <;> with_reducible rfl
                  try simp only [Act.put, List.setIfInBounds_toArray, List.set_cons_zero, List.set_cons_succ]
                  refine wpAnyH_take (i := 12) (oi := { dst := some 53, op := _, type := _, pos := _, after := _, guard := _ }) (v := ?_) rfl (by kernel_rfl) (by kernel_rfl) (by kernel_rfl) (fun _ _ _ h => h) (Or.inl ⟨by rfl, ?_⟩) (by assumption) ?_
                  rotate_left
                  · (intro w hSw; go_simp) <;> with_reducible rfl
                  try simp only [Act.put, List.setIfInBounds_toArray, List.set_cons_zero, List.set_cons_succ]
                  refine wpAnyH_take (i := 13) (oi := { dst := some 54, op := _, type := _, pos := _, after := _, guard := _ }) (v := ?_) rfl (by kernel_rfl) (by kernel_rfl) (by kernel_rfl) (fun _ _ _ h => h) (Or.inl ⟨by rfl, ?_⟩) (by assumption) ?_
                  rotate_left
                  · (intro w hSw; go_simp) <;> with_reducible rfl
                  try simp only [Act.put, List.setIfInBounds_toArray, List.set_cons_zero, List.set_cons_succ]
                  refine wpAnyH_ready (rs := [15]) (by kernel_rfl) (by simp) ?_
                  refine AllReadyH.cons (o := { dst := none, op := _, type := _, pos := _, after := _, guard := _ }) rfl (fun K hK => ?_) ?_
                  · have htX := FAX27.out.there x hx
                    have hlX := bytesV_one x
                    have hiX := dg_info x hx
                    have HsX := Lib.hid (setCells_row FAX27.out hx)
                    rw [if_pos (by rfl)]
                    refine wp_store_mid _ _ _ rfl _ _ (List.toArray _) rfl rfl ?_ ?_ (all_oneCell_toArray hlX) ?_
                    · first | assumption | (simp only [List.size_toArray, *] <;> assumption)
                    · (first | assumption | (simp only [List.size_toArray] <;> assumption) | (simp only [List.size_toArray, *]))
                    simp only [Act.put]
                    refine hK.out _ _ (by rw [HsX.out]; exact below_setRow BX27.out (BX22.out.size) _) (fun hHeld => ?_)
                    clear hK K
                    rw [HsX.out] at hHeld ⊢
                    have FAX28 : DRow (X27.setRow X22.heap.size (bytesV x).toArray) X22.heap.size x := FAX27.out.row _
                    clear htX hlX hiX HsX
                    generalize (X27.setRow X22.heap.size (bytesV x).toArray) = X28 at hHeld FAX28  ⊢
                    have BX28 := Lib.hid hHeld
                    replace FAX28 := Lib.hid FAX28
                    refine wpAnyH_take (i := 16) (oi := { dst := some 12, op := _, type := _, pos := _, after := _, guard := _ }) (v := ?_) rfl (by kernel_rfl) (by kernel_rfl) (by kernel_rfl) (fun _ _ _ h => h) (Or.inl ⟨by rfl, ?_⟩) (by assumption) ?_
                    rotate_left
                    · (intro w hSw; go_simp) <;> with_reducible rfl
                    try simp only [Act.put, List.setIfInBounds_toArray, List.set_cons_zero, List.set_cons_succ]
                    refine wpAnyH_done (by kernel_rfl) ?_ _
                    exact hfin _ _ _ _ _ _ _ _ _ BX28
                  exact AllReadyH.nil
                exact AllReadyH.nil
              exact AllReadyH.nil
            refine AllReadyH.cons (o := { dst := some 11, op := _, type := _, pos := _, after := _, guard := _ }) rfl (fun K hK => ?_) ?_
            · go_simp
              refine hK.out _ _ (hHeld.alloc hHeld.size _) (fun hHeld => ?_)
              clear hK K
              try simp only [Act.put, List.setIfInBounds_toArray, List.set_cons_zero, List.set_cons_succ]
              have FAX29 : IsD (X21.alloc (.cells Z32 26)) X21.heap.size := IsD.new _ _ (heap_alloc_new X21 _)
              have RX29 : Below X21.heap.size X21 (X21.alloc (.cells Z32 26)) := (Below.refl _ _).alloc (Nat.le_refl _) _
              generalize (X21.alloc (.cells Z32 26)) = X29 at hHeld FAX29 RX29 ⊢
              have BX29 := Lib.hid hHeld
              replace FAX29 := Lib.hid FAX29
              replace RX29 := Lib.hid RX29
              have FDX29 := Lib.hid (FDX21.out.keep ((RX29.out).block _ FDX21.out.lt))
              have FPX29 := Lib.hid (FPX21.out.keep ((RX29.out).block _ FPX21.out.lt))
              have ne_A_D : X21.heap.size ≠ X1.heap.size := fun h => by have := FDX21.out.lt; omega
              have ne_D_A := ne_A_D.symm
              have ne_A_P : X21.heap.size ≠ g6_X21 := fun h => by have := FPX21.out.lt; omega
              have ne_P_A := ne_A_P.symm
              refine wpAnyH_ready (rs := [9]) (by kernel_rfl) (by simp) ?_
              refine AllReadyH.cons (o := { dst := some 51, op := _, type := _, pos := _, after := _, guard := _ }) rfl (fun K hK => ?_) ?_
              · refine step_append_owns _ rfl (.tmp 48) (.tmp 50) 30 30 rfl w8.heap.size 26 i0' _ 32 32 Tryd.underlying30 hi hzz hz1' hz2' rfl g6_X21 m1 c6_X21 (flatD (path ds k)) rfl FPX29.out _ rfl 1 (bytesV d) (FDX29.out.src1 HDL.out) (by unfold maxLen; omega) (by omega) BX29.out.size ?_
                intro g9_X30 c9_X30 X30 FRX30 TX30 GX30
                refine hK.out _ _ (BX29.out.trans (TX30.out.below (B := w8.heap.size) FPX29.out.2.1 FPX29.out.lt)) (fun hHeld => ?_)
                clear hK K
                try simp only [Act.put, List.setIfInBounds_toArray, List.set_cons_zero, List.set_cons_succ]
                have BX30 := Lib.hid hHeld
                have FAX30 := Lib.hid (FAX29.out.keep ((TX30.out).block _ FAX29.out.lt (by simp only [ne_eq, Option.some.injEq]; have h := ne_A_P; omega)))
                have ne_R_A : g9_X30 ≠ X21.heap.size := fun h => by
                  have h1 := GX30.out
                  have h2 := FAX29.out.lt
                  have h3 := ne_P_A
                  omega
                have ne_A_R := ne_R_A.symm
                refine wpAnyH_ready (rs := [10]) (by kernel_rfl) (by simp) ?_
                refine AllReadyH.cons (o := { dst := some 52, op := _, type := _, pos := _, after := _, guard := _ }) rfl (fun K hK => ?_) ?_
                · go_simp
                  go_at_call 22
                  refine (HC2.out _ _ _).mono ?_
                  rintro e X31 ⟨⟨x, hx, rfl⟩, bX31⟩
                  have RX31 := Lib.hid (bX31)
                  go_wp2_with fail
                  refine hK.out _ _ (BX30.out.trans (RX31.out.mono BX30.out.size)) (fun hHeld => ?_)
                  clear hK K
                  try simp only [Act.put, List.setIfInBounds_toArray, List.set_cons_zero, List.set_cons_succ]
                  have BX31 := Lib.hid hHeld
                  have FAX31 := Lib.hid (FAX30.out.keep ((RX31.out).block _ FAX30.out.lt))
                  refine wpAnyH_take (i := 11) (oi := { dst := some 41, op := _, type := _, pos := _, after := _, guard := _ }) (v := ?_) rfl (by kernel_rfl) (by kernel_rfl) (by kernel_rfl) (fun _ _ _ h => h) (Or.inl ⟨by rfl, ?_⟩) (by assumption) ?_
                  rotate_left
                  · (intro w hSw; go_simp) <;> with_reducible rfl
                  try simp only [Act.put, List.setIfInBounds_toArray, List.set_cons_zero, List.set_cons_succ]
                  refine wpAnyH_take (i := 12) (oi := { dst := some 53, op := _, type := _, pos := _, after := _, guard := _ }) (v := ?_) rfl (by kernel_rfl) (by kernel_rfl) (by kernel_rfl) (fun _ _ _ h => h) (Or.inl ⟨by rfl, ?_⟩) (by assumption) ?_
                  rotate_left
                  · (intro w hSw; go_simp) <;> with_reducible rfl
                  try simp only [Act.put, List.setIfInBounds_toArray, List.set_cons_zero, List.set_cons_succ]
                  refine wpAnyH_take (i := 13) (oi := { dst := some 54, op := _, type := _, pos := _, after := _, guard := _ }) (v := ?_) rfl (by kernel_rfl) (by kernel_rfl) (by kernel_rfl) (fun _ _ _ h => h) (Or.inl ⟨by rfl, ?_⟩) (by assumption) ?_
                  rotate_left
                  · (intro w hSw; go_simp) <;> with_reducible rfl
                  try simp only [Act.put, List.setIfInBounds_toArray, List.set_cons_zero, List.set_cons_succ]
                  refine wpAnyH_ready (rs := [15]) (by kernel_rfl) (by simp) ?_
                  refine AllReadyH.cons (o := { dst := none, op := _, type := _, pos := _, after := _, guard := _ }) rfl (fun K hK => ?_) ?_
                  · have htX := FAX31.out.there x hx
                    have hlX := bytesV_one x
                    have hiX := dg_info x hx
                    have HsX := Lib.hid (setCells_row FAX31.out hx)
                    rw [if_pos (by rfl)]
                    refine wp_store_mid _ _ _ rfl _ _ (List.toArray _) rfl rfl ?_ ?_ (all_oneCell_toArray hlX) ?_
                    · first | assumption | (simp only [List.size_toArray, *] <;> assumption)
                    · (first | assumption | (simp only [List.size_toArray] <;> assumption) | (simp only [List.size_toArray, *]))
                    simp only [Act.put]
                    refine hK.out _ _ (by rw [HsX.out]; exact below_setRow BX31.out (BX21.out.size) _) (fun hHeld => ?_)
                    clear hK K
                    rw [HsX.out] at hHeld ⊢
                    have FAX32 : DRow (X31.setRow X21.heap.size (bytesV x).toArray) X21.heap.size x := FAX31.out.row _
                    clear htX hlX hiX HsX
                    generalize (X31.setRow X21.heap.size (bytesV x).toArray) = X32 at hHeld FAX32  ⊢
                    have BX32 := Lib.hid hHeld
                    replace FAX32 := Lib.hid FAX32
                    refine wpAnyH_take (i := 16) (oi := { dst := some 12, op := _, type := _, pos := _, after := _, guard := _ }) (v := ?_) rfl (by kernel_rfl) (by kernel_rfl) (by kernel_rfl) (fun _ _ _ h => h) (Or.inl ⟨by rfl, ?_⟩) (by assumption) ?_
                    rotate_left
                    · (intro w hSw; go_simp) <;> with_reducible rfl
                    try simp only [Act.put, List.setIfInBounds_toArray, List.set_cons_zero, List.set_cons_succ]
                    refine wpAnyH_done (by kernel_rfl) ?_ _
                    exact hfin _ _ _ _ _ _ _ _ _ BX32
                  exact AllReadyH.nil
                exact AllReadyH.nil
              exact AllReadyH.nil
            exact AllReadyH.nil
          refine AllReadyH.cons (o := { dst := some 11, op := _, type := _, pos := _, after := _, guard := _ }) rfl (fun K hK => ?_) ?_
          · go_simp
            refine hK.out _ _ (hHeld.alloc hHeld.size _) (fun hHeld => ?_)
            clear hK K
            try simp only [Act.put, List.setIfInBounds_toArray, List.set_cons_zero, List.set_cons_succ]
            have FAX33 : IsD (X20.alloc (.cells Z32 26)) X20.heap.size := IsD.new _ _ (heap_alloc_new X20 _)
            have RX33 : Below X20.heap.size X20 (X20.alloc (.cells Z32 26)) := (Below.refl _ _).alloc (Nat.le_refl _) _
            generalize (X20.alloc (.cells Z32 26)) = X33 at hHeld FAX33 RX33 ⊢
            have BX33 := Lib.hid hHeld
            replace FAX33 := Lib.hid FAX33
            replace RX33 := Lib.hid RX33
            have FEX33 := Lib.hid (FEX20.out.keep ((RX33.out).block _ FEX20.out.lt))
            have FDX33 := Lib.hid (FDX20.out.keep ((RX33.out).block _ FDX20.out.lt))
            have ne_A_E : X20.heap.size ≠ X0.heap.size := fun h => by have := FEX20.out.lt; omega
            have ne_E_A := ne_A_E.symm
            have ne_A_D : X20.heap.size ≠ X1.heap.size := fun h => by have := FDX20.out.lt; omega
            have ne_D_A := ne_A_D.symm
            refine wpAnyH_ready (rs := [6]) (by kernel_rfl) (by simp) ?_
            refine AllReadyH.cons (o := { dst := some 48, op := _, type := _, pos := _, after := _, guard := _ }) rfl (fun K hK => ?_) ?_
            · refine step_append_owns _ rfl (.tmp 46) (.tmp 47) 30 30 rfl w8.heap.size 26 i0' _ 32 32 Tryd.underlying30 hi hzz hz1' hz2' rfl X0.heap.size 0 0 [] rfl FEX33.out _ rfl m1 (flatD (path ds k)) ((HR8.out.below BX33.out BX33.out.size).src) (by unfold maxLen; omega) (by omega) BX33.out.size ?_
              intro g6_X34 c6_X34 X34 FPX34 TX34 GX34
              simp only [Nat.zero_add, List.nil_append] at FPX34 ⊢
              refine hK.out _ _ (BX33.out.trans (TX34.out.below (B := w8.heap.size) FEX33.out.2.1 FEX33.out.lt)) (fun hHeld => ?_)
              clear hK K
              try simp only [Act.put, List.setIfInBounds_toArray, List.set_cons_zero, List.set_cons_succ]
              have BX34 := Lib.hid hHeld
              have FDX34 := Lib.hid (FDX33.out.keep ((TX34.out).block _ FDX33.out.lt (by simp only [ne_eq, Option.some.injEq]; have h := ne_D_E; omega)))
              have FAX34 := Lib.hid (FAX33.out.keep ((TX34.out).block _ FAX33.out.lt (by simp only [ne_eq, Option.some.injEq]; have h := ne_A_E; omega)))
              have ne_P_D : g6_X34 ≠ X1.heap.size := fun h => by
                have h1 := GX34.out
                have h2 := FDX33.out.lt
                have h3 := ne_E_D
                omega
              have ne_D_P := ne_P_D.symm
              have ne_P_A : g6_X34 ≠ X20.heap.size := fun h => by
                have h1 := GX34.out
                have h2 := FAX33.out.lt
                have h3 := ne_E_A
                omega
              have ne_A_P := ne_P_A.symm
              refine wpAnyH_ready (rs := [9]) (by kernel_rfl) (by simp) ?_
              refine AllReadyH.cons (o := { dst := some 51, op := _, type := _, pos := _, after := _, guard := _ }) rfl (fun K hK => ?_) ?_
              · refine step_append_owns _ rfl (.tmp 48) (.tmp 50) 30 30 rfl w8.heap.size 26 i0' _ 32 32 Tryd.underlying30 hi hzz hz1' hz2' rfl g6_X34 m1 c6_X34 (flatD (path ds k)) rfl FPX34.out _ rfl 1 (bytesV d) (FDX34.out.src1 HDL.out) (by unfold maxLen; omega) (by omega) BX34.out.size ?_
                intro g9_X35 c9_X35 X35 FRX35 TX35 GX35
                refine hK.out _ _ (BX34.out.trans (TX35.out.below (B := w8.heap.size) FPX34.out.2.1 FPX34.out.lt)) (fun hHeld => ?_)
                clear hK K
                try simp only [Act.put, List.setIfInBounds_toArray, List.set_cons_zero, List.set_cons_succ]
                have BX35 := Lib.hid hHeld
                have FAX35 := Lib.hid (FAX34.out.keep ((TX35.out).block _ FAX34.out.lt (by simp only [ne_eq, Option.some.injEq]; have h := ne_A_P; omega)))
                have ne_R_A : g9_X35 ≠ X20.heap.size := fun h => by
                  have h1 := GX35.out
                  have h2 := FAX34.out.lt
                  have h3 := ne_P_A
                  omega
                have ne_A_R := ne_R_A.symm
                refine wpAnyH_ready (rs := [10]) (by kernel_rfl) (by simp) ?_
                refine AllReadyH.cons (o := { dst := some 52, op := _, type := _, pos := _, after := _, guard := _ }) rfl (fun K hK => ?_) ?_
                · go_simp
                  go_at_call 22
                  refine (HC2.out _ _ _).mono ?_
                  rintro e X36 ⟨⟨x, hx, rfl⟩, bX36⟩
                  have RX36 := Lib.hid (bX36)
                  go_wp2_with fail
                  refine hK.out _ _ (BX35.out.trans (RX36.out.mono BX35.out.size)) (fun hHeld => ?_)
                  clear hK K
                  try simp only [Act.put, List.setIfInBounds_toArray, List.set_cons_zero, List.set_cons_succ]
                  have BX36 := Lib.hid hHeld
                  have FAX36 := Lib.hid (FAX35.out.keep ((RX36.out).block _ FAX35.out.lt))
                  refine wpAnyH_take (i := 11) (oi := { dst := some 41, op := _, type := _, pos := _, after := _, guard := _ }) (v := ?_) rfl (by kernel_rfl) (by kernel_rfl) (by kernel_rfl) (fun _ _ _ h => h) (Or.inl ⟨by rfl, ?_⟩) (by assumption) ?_
                  rotate_left
                  · (intro w hSw; go_simp) <;> with_reducible rfl
                  try simp only [Act.put, List.setIfInBounds_toArray, List.set_cons_zero, List.set_cons_succ]
                  refine wpAnyH_take (i := 12) (oi := { dst := some 53, op := _, type := _, pos := _, after := _, guard := _ }) (v := ?_) rfl (by kernel_rfl) (by kernel_rfl) (by kernel_rfl) (fun _ _ _ h => h) (Or.inl ⟨by rfl, ?_⟩) (by assumption) ?_
                  rotate_left
                  · (intro w hSw; go_simp) <;> with_reducible rfl
                  try simp only [Act.put, List.setIfInBounds_toArray, List.set_cons_zero, List.set_cons_succ]
                  refine wpAnyH_take (i := 13) (oi := { dst := some 54, op := _, type := _, pos := _, after := _, guard := _ }) (v := ?_) rfl (by kernel_rfl) (by kernel_rfl) (by kernel_rfl) (fun _ _ _ h => h) (Or.inl ⟨by rfl, ?_⟩) (by assumption) ?_
                  rotate_left
                  · (intro w hSw; go_simp) <;> with_reducible rfl
                  try simp only [Act.put, List.setIfInBounds_toArray, List.set_cons_zero, List.set_cons_succ]
                  refine wpAnyH_ready (rs := [15]) (by kernel_rfl) (by simp) ?_
                  refine AllReadyH.cons (o := { dst := none, op := _, type := _, pos := _, after := _, guard := _ }) rfl (fun K hK => ?_) ?_
                  · have htX := FAX36.out.there x hx
                    have hlX := bytesV_one x
                    have hiX := dg_info x hx
                    have HsX := Lib.hid (setCells_row FAX36.out hx)
                    rw [if_pos (by rfl)]
                    refine wp_store_mid _ _ _ rfl _ _ (List.toArray _) rfl rfl ?_ ?_ (all_oneCell_toArray hlX) ?_
                    · first | assumption | (simp only [List.size_toArray, *] <;> assumption)
                    · (first | assumption | (simp only [List.size_toArray] <;> assumption) | (simp only [List.size_toArray, *]))
                    simp only [Act.put]
                    refine hK.out _ _ (by rw [HsX.out]; exact below_setRow BX36.out (BX20.out.size) _) (fun hHeld => ?_)
                    clear hK K
                    rw [HsX.out] at hHeld ⊢
                    have FAX37 : DRow (X36.setRow X20.heap.size (bytesV x).toArray) X20.heap.size x := FAX36.out.row _
                    clear htX hlX hiX HsX
                    generalize (X36.setRow X20.heap.size (bytesV x).toArray) = X37 at hHeld FAX37  ⊢
                    have BX37 := Lib.hid hHeld
                    replace FAX37 := Lib.hid FAX37
                    refine wpAnyH_take (i := 16) (oi := { dst := some 12, op := _, type := _, pos := _, after := _, guard := _ }) (v := ?_) rfl (by kernel_rfl) (by kernel_rfl) (by kernel_rfl) (fun _ _ _ h => h) (Or.inl ⟨by rfl, ?_⟩) (by assumption) ?_
                    rotate_left
                    · (intro w hSw; go_simp) <;> with_reducible rfl
                    try simp only [Act.put, List.setIfInBounds_toArray, List.set_cons_zero, List.set_cons_succ]
                    refine wpAnyH_done (by kernel_rfl) ?_ _
                    exact hfin _ _ _ _ _ _ _ _ _ BX37
                  exact AllReadyH.nil
                exact AllReadyH.nil
              exact AllReadyH.nil
            exact AllReadyH.nil
          exact AllReadyH.nil
        refine AllReadyH.cons (o := { dst := some 11, op := _, type := _, pos := _, after := _, guard := _ }) rfl (fun K hK => ?_) ?_
        · go_simp
          refine hK.out _ _ (hHeld.alloc hHeld.size _) (fun hHeld => ?_)
          clear hK K
          try simp only [Act.put, List.setIfInBounds_toArray, List.set_cons_zero, List.set_cons_succ]
          have FAX38 : IsD (X1.alloc (.cells Z32 26)) X1.heap.size := IsD.new _ _ (heap_alloc_new X1 _)
          have RX38 : Below X1.heap.size X1 (X1.alloc (.cells Z32 26)) := (Below.refl _ _).alloc (Nat.le_refl _) _
          generalize (X1.alloc (.cells Z32 26)) = X38 at hHeld FAX38 RX38 ⊢
          have BX38 := Lib.hid hHeld
          replace FAX38 := Lib.hid FAX38
          replace RX38 := Lib.hid RX38
          have FEX38 := Lib.hid (FEX1.out.keep ((RX38.out).block _ FEX1.out.lt))
          have ne_A_E : X1.heap.size ≠ X0.heap.size := fun h => by have := FEX1.out.lt; omega
          have ne_E_A := ne_A_E.symm
          refine wpAnyH_ready (rs := [6, 8]) (by kernel_rfl) (by simp) ?_
          refine AllReadyH.cons (o := { dst := some 48, op := _, type := _, pos := _, after := _, guard := _ }) rfl (fun K hK => ?_) ?_
          · refine step_append_owns _ rfl (.tmp 46) (.tmp 47) 30 30 rfl w8.heap.size 26 i0' _ 32 32 Tryd.underlying30 hi hzz hz1' hz2' rfl X0.heap.size 0 0 [] rfl FEX38.out _ rfl m1 (flatD (path ds k)) ((HR8.out.below BX38.out BX38.out.size).src) (by unfold maxLen; omega) (by omega) BX38.out.size ?_
            intro g6_X39 c6_X39 X39 FPX39 TX39 GX39
            simp only [Nat.zero_add, List.nil_append] at FPX39 ⊢
            refine hK.out _ _ (BX38.out.trans (TX39.out.below (B := w8.heap.size) FEX38.out.2.1 FEX38.out.lt)) (fun hHeld => ?_)
            clear hK K
            try simp only [Act.put, List.setIfInBounds_toArray, List.set_cons_zero, List.set_cons_succ]
            have BX39 := Lib.hid hHeld
            have FAX39 := Lib.hid (FAX38.out.keep ((TX39.out).block _ FAX38.out.lt (by simp only [ne_eq, Option.some.injEq]; have h := ne_A_E; omega)))
            have ne_P_A : g6_X39 ≠ X1.heap.size := fun h => by
              have h1 := GX39.out
              have h2 := FAX38.out.lt
              have h3 := ne_E_A
              omega
            have ne_A_P := ne_P_A.symm
            refine wpAnyH_ready (rs := [8]) (by kernel_rfl) (by simp) ?_
            refine AllReadyH.cons (o := { dst := some 50, op := _, type := _, pos := _, after := _, guard := _ }) rfl (fun K hK => ?_) ?_
            · go_simp
              refine hK.out _ _ (hHeld.alloc hHeld.size _) (fun hHeld => ?_)
              clear hK K
              try simp only [Act.put, List.setIfInBounds_toArray, List.set_cons_zero, List.set_cons_succ]
              have FDX40 : DRow (X39.alloc (.cells (bytesV d).toArray 26)) X39.heap.size d := heap_alloc_new X39 _
              have RX40 : Below X39.heap.size X39 (X39.alloc (.cells (bytesV d).toArray 26)) := (Below.refl _ _).alloc (Nat.le_refl _) _
              generalize (X39.alloc (.cells (bytesV d).toArray 26)) = X40 at hHeld FDX40 RX40 ⊢
              have BX40 := Lib.hid hHeld
              replace FDX40 := Lib.hid FDX40
              replace RX40 := Lib.hid RX40
              have FAX40 := Lib.hid (FAX39.out.keep ((RX40.out).block _ FAX39.out.lt))
              have FPX40 := Lib.hid (FPX39.out.keep ((RX40.out).block _ FPX39.out.lt))
              have ne_D_A : X39.heap.size ≠ X1.heap.size := fun h => by have := FAX39.out.lt; omega
              have ne_A_D := ne_D_A.symm
              have ne_D_P : X39.heap.size ≠ g6_X39 := fun h => by have := FPX39.out.lt; omega
              have ne_P_D := ne_D_P.symm
              refine wpAnyH_ready (rs := [9]) (by kernel_rfl) (by simp) ?_
              refine AllReadyH.cons (o := { dst := some 51, op := _, type := _, pos := _, after := _, guard := _ }) rfl (fun K hK => ?_) ?_
              · refine step_append_owns _ rfl (.tmp 48) (.tmp 50) 30 30 rfl w8.heap.size 26 i0' _ 32 32 Tryd.underlying30 hi hzz hz1' hz2' rfl g6_X39 m1 c6_X39 (flatD (path ds k)) rfl FPX40.out _ rfl 1 (bytesV d) (FDX40.out.src1 HDL.out) (by unfold maxLen; omega) (by omega) BX40.out.size ?_
                intro g9_X41 c9_X41 X41 FRX41 TX41 GX41
                refine hK.out _ _ (BX40.out.trans (TX41.out.below (B := w8.heap.size) FPX40.out.2.1 FPX40.out.lt)) (fun hHeld => ?_)
                clear hK K
                try simp only [Act.put, List.setIfInBounds_toArray, List.set_cons_zero, List.set_cons_succ]
                have BX41 := Lib.hid hHeld
                have FAX41 := Lib.hid (FAX40.out.keep ((TX41.out).block _ FAX40.out.lt (by simp only [ne_eq, Option.some.injEq]; have h := ne_A_P; omega)))
                have ne_R_A : g9_X41 ≠ X1.heap.size := fun h => by
                  have h1 := GX41.out
                  have h2 := FAX40.out.lt
                  have h3 := ne_P_A
                  omega
                have ne_A_R := ne_R_A.symm
                refine wpAnyH_ready (rs := [10]) (by kernel_rfl) (by simp) ?_
                refine AllReadyH.cons (o := { dst := some 52, op := _, type := _, pos := _, after := _, guard := _ }) rfl (fun K hK => ?_) ?_
                · go_simp
                  go_at_call 22
                  refine (HC2.out _ _ _).mono ?_
                  rintro e X42 ⟨⟨x, hx, rfl⟩, bX42⟩
                  have RX42 := Lib.hid (bX42)
                  go_wp2_with fail
                  refine hK.out _ _ (BX41.out.trans (RX42.out.mono BX41.out.size)) (fun hHeld => ?_)
                  clear hK K
                  try simp only [Act.put, List.setIfInBounds_toArray, List.set_cons_zero, List.set_cons_succ]
                  have BX42 := Lib.hid hHeld
                  have FAX42 := Lib.hid (FAX41.out.keep ((RX42.out).block _ FAX41.out.lt))
                  refine wpAnyH_take (i := 11) (oi := { dst := some 41, op := _, type := _, pos := _, after := _, guard := _ }) (v := ?_) rfl (by kernel_rfl) (by kernel_rfl) (by kernel_rfl) (fun _ _ _ h => h) (Or.inl ⟨by rfl, ?_⟩) (by assumption) ?_
                  rotate_left
                  · (intro w hSw; go_simp) <;> with_reducible rfl
                  try simp only [Act.put, List.setIfInBounds_toArray, List.set_cons_zero, List.set_cons_succ]
                  refine wpAnyH_take (i := 12) (oi := { dst := some 53, op := _, type := _, pos := _, after := _, guard := _ }) (v := ?_) rfl (by kernel_rfl) (by kernel_rfl) (by kernel_rfl) (fun _ _ _ h => h) (Or.inl ⟨by rfl, ?_⟩) (by assumption) ?_
                  rotate_left
                  · (intro w hSw; go_simp) <;> with_reducible rfl
                  try simp only [Act.put, List.setIfInBounds_toArray, List.set_cons_zero, List.set_cons_succ]
                  refine wpAnyH_take (i := 13) (oi := { dst := some 54, op := _, type := _, pos := _, after := _, guard := _ }) (v := ?_) rfl (by kernel_rfl) (by kernel_rfl) (by kernel_rfl) (fun _ _ _ h => h) (Or.inl ⟨by rfl, ?_⟩) (by assumption) ?_
                  rotate_left
                  · (intro w hSw; go_simp) <;> with_reducible rfl
                  try simp only [Act.put, List.setIfInBounds_toArray, List.set_cons_zero, List.set_cons_succ]
                  refine wpAnyH_ready (rs := [15]) (by kernel_rfl) (by simp) ?_
                  refine AllReadyH.cons (o := { dst := none, op := _, type := _, pos := _, after := _, guard := _ }) rfl (fun K hK => ?_) ?_
                  · have htX := FAX42.out.there x hx
                    have hlX := bytesV_one x
                    have hiX := dg_info x hx
                    have HsX := Lib.hid (setCells_row FAX42.out hx)
                    rw [if_pos (by rfl)]
                    refine wp_store_mid _ _ _ rfl _ _ (List.toArray _) rfl rfl ?_ ?_ (all_oneCell_toArray hlX) ?_
                    · first | assumption | (simp only [List.size_toArray, *] <;> assumption)
                    · (first | assumption | (simp only [List.size_toArray] <;> assumption) | (simp only [List.size_toArray, *]))
                    simp only [Act.put]
                    refine hK.out _ _ (by rw [HsX.out]; exact below_setRow BX42.out (BX1.out.size) _) (fun hHeld => ?_)
                    clear hK K
                    rw [HsX.out] at hHeld ⊢
                    have FAX43 : DRow (X42.setRow X1.heap.size (bytesV x).toArray) X1.heap.size x := FAX42.out.row _
                    clear htX hlX hiX HsX
                    generalize (X42.setRow X1.heap.size (bytesV x).toArray) = X43 at hHeld FAX43  ⊢
                    have BX43 := Lib.hid hHeld
                    replace FAX43 := Lib.hid FAX43
                    refine wpAnyH_take (i := 16) (oi := { dst := some 12, op := _, type := _, pos := _, after := _, guard := _ }) (v := ?_) rfl (by kernel_rfl) (by kernel_rfl) (by kernel_rfl) (fun _ _ _ h => h) (Or.inl ⟨by rfl, ?_⟩) (by assumption) ?_
                    rotate_left
                    · (intro w hSw; go_simp) <;> with_reducible rfl
                    try simp only [Act.put, List.setIfInBounds_toArray, List.set_cons_zero, List.set_cons_succ]
                    refine wpAnyH_done (by kernel_rfl) ?_ _
                    exact hfin _ _ _ _ _ _ _ _ _ BX43
                  exact AllReadyH.nil
                exact AllReadyH.nil
              exact AllReadyH.nil
            exact AllReadyH.nil
          refine AllReadyH.cons (o := { dst := some 50, op := _, type := _, pos := _, after := _, guard := _ }) rfl (fun K hK => ?_) ?_
          · go_simp
            refine hK.out _ _ (hHeld.alloc hHeld.size _) (fun hHeld => ?_)
            clear hK K
            try simp only [Act.put, List.setIfInBounds_toArray, List.set_cons_zero, List.set_cons_succ]
            have FDX44 : DRow (X38.alloc (.cells (bytesV d).toArray 26)) X38.heap.size d := heap_alloc_new X38 _
            have RX44 : Below X38.heap.size X38 (X38.alloc (.cells (bytesV d).toArray 26)) := (Below.refl _ _).alloc (Nat.le_refl _) _
            generalize (X38.alloc (.cells (bytesV d).toArray 26)) = X44 at hHeld FDX44 RX44 ⊢
            have BX44 := Lib.hid hHeld
            replace FDX44 := Lib.hid FDX44
            replace RX44 := Lib.hid RX44
            have FEX44 := Lib.hid (FEX38.out.keep ((RX44.out).block _ FEX38.out.lt))
            have FAX44 := Lib.hid (FAX38.out.keep ((RX44.out).block _ FAX38.out.lt))
            have ne_D_E : X38.heap.size ≠ X0.heap.size := fun h => by have := FEX38.out.lt; omega
            have ne_E_D := ne_D_E.symm
            have ne_D_A : X38.heap.size ≠ X1.heap.size := fun h => by have := FAX38.out.lt; omega
            have ne_A_D := ne_D_A.symm
            refine wpAnyH_ready (rs := [6]) (by kernel_rfl) (by simp) ?_
            refine AllReadyH.cons (o := { dst := some 48, op := _, type := _, pos := _, after := _, guard := _ }) rfl (fun K hK => ?_) ?_
            · refine step_append_owns _ rfl (.tmp 46) (.tmp 47) 30 30 rfl w8.heap.size 26 i0' _ 32 32 Tryd.underlying30 hi hzz hz1' hz2' rfl X0.heap.size 0 0 [] rfl FEX44.out _ rfl m1 (flatD (path ds k)) ((HR8.out.below BX44.out BX44.out.size).src) (by unfold maxLen; omega) (by omega) BX44.out.size ?_
              intro g6_X45 c6_X45 X45 FPX45 TX45 GX45
              simp only [Nat.zero_add, List.nil_append] at FPX45 ⊢
              refine hK.out _ _ (BX44.out.trans (TX45.out.below (B := w8.heap.size) FEX44.out.2.1 FEX44.out.lt)) (fun hHeld => ?_)
              clear hK K
              try simp only [Act.put, List.setIfInBounds_toArray, List.set_cons_zero, List.set_cons_succ]
              have BX45 := Lib.hid hHeld
              have FAX45 := Lib.hid (FAX44.out.keep ((TX45.out).block _ FAX44.out.lt (by simp only [ne_eq, Option.some.injEq]; have h := ne_A_E; omega)))
              have FDX45 := Lib.hid (FDX44.out.keep ((TX45.out).block _ FDX44.out.lt (by simp only [ne_eq, Option.some.injEq]; have h := ne_D_E; omega)))
              have ne_P_A : g6_X45 ≠ X1.heap.size := fun h => by
                have h1 := GX45.out
                have h2 := FAX44.out.lt
                have h3 := ne_E_A
                omega
              have ne_A_P := ne_P_A.symm
              have ne_P_D : g6_X45 ≠ X38.heap.size := fun h => by
                have h1 := GX45.out
                have h2 := FDX44.out.lt
                have h3 := ne_E_D
                omega
              have ne_D_P := ne_P_D.symm
              refine wpAnyH_ready (rs := [9]) (by kernel_rfl) (by simp) ?_
              refine AllReadyH.cons (o := { dst := some 51, op := _, type := _, pos := _, after := _, guard := _ }) rfl (fun K hK => ?_) ?_
              · refine step_append_owns _ rfl (.tmp 48) (.tmp 50) 30 30 rfl w8.heap.size 26 i0' _ 32 32 Tryd.underlying30 hi hzz hz1' hz2' rfl g6_X45 m1 c6_X45 (flatD (path ds k)) rfl FPX45.out _ rfl 1 (bytesV d) (FDX45.out.src1 HDL.out) (by unfold maxLen; omega) (by omega) BX45.out.size ?_
                intro g9_X46 c9_X46 X46 FRX46 TX46 GX46
                refine hK.out _ _ (BX45.out.trans (TX46.out.below (B := w8.heap.size) FPX45.out.2.1 FPX45.out.lt)) (fun hHeld => ?_)
                clear hK K
                try simp only [Act.put, List.setIfInBounds_toArray, List.set_cons_zero, List.set_cons_succ]
                have BX46 := Lib.hid hHeld
                have FAX46 := Lib.hid (FAX45.out.keep ((TX46.out).block _ FAX45.out.lt (by simp only [ne_eq, Option.some.injEq]; have h := ne_A_P; omega)))
                have ne_R_A : g9_X46 ≠ X1.heap.size := fun h => by
                  have h1 := GX46.out
                  have h2 := FAX45.out.lt
                  have h3 := ne_P_A
                  omega
                have ne_A_R := ne_R_A.symm
                refine wpAnyH_ready (rs := [10]) (by kernel_rfl) (by simp) ?_
                refine AllReadyH.cons (o := { dst := some 52, op := _, type := _, pos := _, after := _, guard := _ }) rfl (fun K hK => ?_) ?_
                · go_simp
                  go_at_call 22
                  refine (HC2.out _ _ _).mono ?_
                  rintro e X47 ⟨⟨x, hx, rfl⟩, bX47⟩
                  have RX47 := Lib.hid (bX47)
                  go_wp2_with fail
                  refine hK.out _ _ (BX46.out.trans (RX47.out.mono BX46.out.size)) (fun hHeld => ?_)
                  clear hK K
                  try simp only [Act.put, List.setIfInBounds_toArray, List.set_cons_zero, List.set_cons_succ]
                  have BX47 := Lib.hid hHeld
                  have FAX47 := Lib.hid (FAX46.out.keep ((RX47.out).block _ FAX46.out.lt))
                  refine wpAnyH_take (i := 11) (oi := { dst := some 41, op := _, type := _, pos := _, after := _, guard := _ }) (v := ?_) rfl (by kernel_rfl) (by kernel_rfl) (by kernel_rfl) (fun _ _ _ h => h) (Or.inl ⟨by rfl, ?_⟩) (by assumption) ?_
                  rotate_left
                  · (intro w hSw; go_simp) <;> with_reducible rfl
                  try simp only [Act.put, List.setIfInBounds_toArray, List.set_cons_zero, List.set_cons_succ]
                  refine wpAnyH_take (i := 12) (oi := { dst := some 53, op := _, type := _, pos := _, after := _, guard := _ }) (v := ?_) rfl (by kernel_rfl) (by kernel_rfl) (by kernel_rfl) (fun _ _ _ h => h) (Or.inl ⟨by rfl, ?_⟩) (by assumption) ?_
                  rotate_left
                  · (intro w hSw; go_simp) <;> with_reducible rfl
                  try simp only [Act.put, List.setIfInBounds_toArray, List.set_cons_zero, List.set_cons_succ]
                  refine wpAnyH_take (i := 13) (oi := { dst := some 54, op := _, type := _, pos := _, after := _, guard := _ }) (v := ?_) rfl (by kernel_rfl) (by kernel_rfl) (by kernel_rfl) (fun _ _ _ h => h) (Or.inl ⟨by rfl, ?_⟩) (by assumption) ?_
                  rotate_left
                  · (intro w hSw; go_simp) <;> with_reducible rfl
                  try simp only [Act.put, List.setIfInBounds_toArray, List.set_cons_zero, List.set_cons_succ]
                  refine wpAnyH_ready (rs := [15]) (by kernel_rfl) (by simp) ?_
                  refine AllReadyH.cons (o := { dst := none, op := _, type := _, pos := _, after := _, guard := _ }) rfl (fun K hK => ?_) ?_
                  · have htX := FAX47.out.there x hx
                    have hlX := bytesV_one x
                    have hiX := dg_info x hx
                    have HsX := Lib.hid (setCells_row FAX47.out hx)
                    rw [if_pos (by rfl)]
                    refine wp_store_mid _ _ _ rfl _ _ (List.toArray _) rfl rfl ?_ ?_ (all_oneCell_toArray hlX) ?_
                    · first | assumption | (simp only [List.size_toArray, *] <;> assumption)
                    · (first | assumption | (simp only [List.size_toArray] <;> assumption) | (simp only [List.size_toArray, *]))
                    simp only [Act.put]
                    refine hK.out _ _ (by rw [HsX.out]; exact below_setRow BX47.out (BX1.out.size) _) (fun hHeld => ?_)
                    clear hK K
                    rw [HsX.out] at hHeld ⊢
                    have FAX48 : DRow (X47.setRow X1.heap.size (bytesV x).toArray) X1.heap.size x := FAX47.out.row _
                    clear htX hlX hiX HsX
                    generalize (X47.setRow X1.heap.size (bytesV x).toArray) = X48 at hHeld FAX48  ⊢
                    have BX48 := Lib.hid hHeld
                    replace FAX48 := Lib.hid FAX48
                    refine wpAnyH_take (i := 16) (oi := { dst := some 12, op := _, type := _, pos := _, after := _, guard := _ }) (v := ?_) rfl (by kernel_rfl) (by kernel_rfl) (by kernel_rfl) (fun _ _ _ h => h) (Or.inl ⟨by rfl, ?_⟩) (by assumption) ?_
                    rotate_left
                    · (intro w hSw; go_simp) <;> with_reducible rfl
                    try simp only [Act.put, List.setIfInBounds_toArray, List.set_cons_zero, List.set_cons_succ]
                    refine wpAnyH_done (by kernel_rfl) ?_ _
                    exact hfin _ _ _ _ _ _ _ _ _ BX48
                  exact AllReadyH.nil
                exact AllReadyH.nil
              exact AllReadyH.nil
            exact AllReadyH.nil
          exact AllReadyH.nil
        exact AllReadyH.nil
      refine AllReadyH.cons (o := { dst := some 50, op := _, type := _, pos := _, after := _, guard := _ }) rfl (fun K hK => ?_) ?_
      · go_simp
        refine hK.out _ _ (hHeld.alloc hHeld.size _) (fun hHeld => ?_)
        clear hK K
        try simp only [Act.put, List.setIfInBounds_toArray, List.set_cons_zero, List.set_cons_succ]
        have FDX49 : DRow (X0.alloc (.cells (bytesV d).toArray 26)) X0.heap.size d := heap_alloc_new X0 _
        have RX49 : Below X0.heap.size X0 (X0.alloc (.cells (bytesV d).toArray 26)) := (Below.refl _ _).alloc (Nat.le_refl _) _
        generalize (X0.alloc (.cells (bytesV d).toArray 26)) = X49 at hHeld FDX49 RX49 ⊢
        have BX49 := Lib.hid hHeld
        replace FDX49 := Lib.hid FDX49
        replace RX49 := Lib.hid RX49
        refine wpAnyH_ready (rs := [4, 14]) (by kernel_rfl) (by simp) ?_
        refine AllReadyH.cons (o := { dst := some 46, op := _, type := _, pos := _, after := _, guard := _ }) rfl (fun K hK => ?_) ?_
        · go_simp
          refine hK.out _ _ (hHeld.alloc hHeld.size _) (fun hHeld => ?_)
          clear hK K
          try simp only [Act.put, List.setIfInBounds_toArray, List.set_cons_zero, List.set_cons_succ]
          have FEX50 : Owns (X49.alloc (.cells #[] 26)) w8.heap.size 26 32 X49.heap.size 0 0 [] := owns0 _ _ BX49.out.size
          have RX50 : Below X49.heap.size X49 (X49.alloc (.cells #[] 26)) := (Below.refl _ _).alloc (Nat.le_refl _) _
          generalize (X49.alloc (.cells #[] 26)) = X50 at hHeld FEX50 RX50 ⊢
          have BX50 := Lib.hid hHeld
          replace FEX50 := Lib.hid FEX50
          replace RX50 := Lib.hid RX50
          have FDX50 := Lib.hid (FDX49.out.keep ((RX50.out).block _ FDX49.out.lt))
          have ne_E_D : X49.heap.size ≠ X0.heap.size := fun h => by have := FDX49.out.lt; omega
          have ne_D_E := ne_E_D.symm
          refine wpAnyH_ready (rs := [6, 14]) (by kernel_rfl) (by simp) ?_
          refine AllReadyH.cons (o := { dst := some 48, op := _, type := _, pos := _, after := _, guard := _ }) rfl (fun K hK => ?_) ?_
          · refine step_append_owns _ rfl (.tmp 46) (.tmp 47) 30 30 rfl w8.heap.size 26 i0' _ 32 32 Tryd.underlying30 hi hzz hz1' hz2' rfl X49.heap.size 0 0 [] rfl FEX50.out _ rfl m1 (flatD (path ds k)) ((HR8.out.below BX50.out BX50.out.size).src) (by unfold maxLen; omega) (by omega) BX50.out.size ?_
            intro g6_X51 c6_X51 X51 FPX51 TX51 GX51
            simp only [Nat.zero_add, List.nil_append] at FPX51 ⊢
            refine hK.out _ _ (BX50.out.trans (TX51.out.below (B := w8.heap.size) FEX50.out.2.1 FEX50.out.lt)) (fun hHeld => ?_)
            clear hK K
            try simp only [Act.put, List.setIfInBounds_toArray, List.set_cons_zero, List.set_cons_succ]
            have BX51 := Lib.hid hHeld
            have FDX51 := Lib.hid (FDX50.out.keep ((TX51.out).block _ FDX50.out.lt (by simp only [ne_eq, Option.some.injEq]; have h := ne_D_E; omega)))
            have ne_P_D : g6_X51 ≠ X0.heap.size := fun h => by
              have h1 := GX51.out
              have h2 := FDX50.out.lt
              have h3 := ne_E_D
              omega
            have ne_D_P := ne_P_D.symm
            refine wpAnyH_ready (rs := [9, 14]) (by kernel_rfl) (by simp) ?_
            refine AllReadyH.cons (o := { dst := some 51, op := _, type := _, pos := _, after := _, guard := _ }) rfl (fun K hK => ?_) ?_
            · refine step_append_owns _ rfl (.tmp 48) (.tmp 50) 30 30 rfl w8.heap.size 26 i0' _ 32 32 Tryd.underlying30 hi hzz hz1' hz2' rfl g6_X51 m1 c6_X51 (flatD (path ds k)) rfl FPX51.out _ rfl 1 (bytesV d) (FDX51.out.src1 HDL.out) (by unfold maxLen; omega) (by omega) BX51.out.size ?_
              intro g9_X52 c9_X52 X52 FRX52 TX52 GX52
              refine hK.out _ _ (BX51.out.trans (TX52.out.below (B := w8.heap.size) FPX51.out.2.1 FPX51.out.lt)) (fun hHeld => ?_)
              clear hK K
              try simp only [Act.put, List.setIfInBounds_toArray, List.set_cons_zero, List.set_cons_succ]
              have BX52 := Lib.hid hHeld
              refine wpAnyH_ready (rs := [10, 14]) (by kernel_rfl) (by simp) ?_
              refine AllReadyH.cons (o := { dst := some 52, op := _, type := _, pos := _, after := _, guard := _ }) rfl (fun K hK => ?_) ?_
              · go_simp
                go_at_call 22
                refine (HC2.out _ _ _).mono ?_
                rintro e X53 ⟨⟨x, hx, rfl⟩, bX53⟩
                have RX53 := Lib.hid (bX53)
                go_wp2_with fail
                refine hK.out _ _ (BX52.out.trans (RX53.out.mono BX52.out.size)) (fun hHeld => ?_)
                clear hK K
                try simp only [Act.put, List.setIfInBounds_toArray, List.set_cons_zero, List.set_cons_succ]
                have BX53 := Lib.hid hHeld
                refine wpAnyH_take (i := 11) (oi := { dst := some 41, op := _, type := _, pos := _, after := _, guard := _ }) (v := ?_) rfl (by kernel_rfl) (by kernel_rfl) (by kernel_rfl) (fun _ _ _ h => h) (Or.inl ⟨by rfl, ?_⟩) (by assumption) ?_
                rotate_left
                · (intro w hSw; go_simp) <;> with_reducible rfl
                try simp only [Act.put, List.setIfInBounds_toArray, List.set_cons_zero, List.set_cons_succ]
                refine wpAnyH_take (i := 12) (oi := { dst := some 53, op := _, type := _, pos := _, after := _, guard := _ }) (v := ?_) rfl (by kernel_rfl) (by kernel_rfl) (by kernel_rfl) (fun _ _ _ h => h) (Or.inl ⟨by rfl, ?_⟩) (by assumption) ?_
                rotate_left
                · (intro w hSw; go_simp) <;> with_reducible rfl
                try simp only [Act.put, List.setIfInBounds_toArray, List.set_cons_zero, List.set_cons_succ]
                refine wpAnyH_take (i := 13) (oi := { dst := some 54, op := _, type := _, pos := _, after := _, guard := _ }) (v := ?_) rfl (by kernel_rfl) (by kernel_rfl) (by kernel_rfl) (fun _ _ _ h => h) (Or.inl ⟨by rfl, ?_⟩) (by assumption) ?_
                rotate_left
                · (intro w hSw; go_simp) <;> with_reducible rfl
                try simp only [Act.put, List.setIfInBounds_toArray, List.set_cons_zero, List.set_cons_succ]
                refine wpAnyH_ready (rs := [14]) (by kernel_rfl) (by simp) ?_
                refine AllReadyH.cons (o := { dst := some 11, op := _, type := _, pos := _, after := _, guard := _ }) rfl (fun K hK => ?_) ?_
                · go_simp
                  refine hK.out _ _ (hHeld.alloc hHeld.size _) (fun hHeld => ?_)
                  clear hK K
                  try simp only [Act.put, List.setIfInBounds_toArray, List.set_cons_zero, List.set_cons_succ]
                  have FAX54 : IsD (X53.alloc (.cells Z32 26)) X53.heap.size := IsD.new _ _ (heap_alloc_new X53 _)
                  have RX54 : Below X53.heap.size X53 (X53.alloc (.cells Z32 26)) := (Below.refl _ _).alloc (Nat.le_refl _) _
                  generalize (X53.alloc (.cells Z32 26)) = X54 at hHeld FAX54 RX54 ⊢
                  have BX54 := Lib.hid hHeld
                  replace FAX54 := Lib.hid FAX54
                  replace RX54 := Lib.hid RX54
                  refine wpAnyH_ready (rs := [15]) (by kernel_rfl) (by simp) ?_
                  refine AllReadyH.cons (o := { dst := none, op := _, type := _, pos := _, after := _, guard := _ }) rfl (fun K hK => ?_) ?_
                  · have htX := FAX54.out.there x hx
                    have hlX := bytesV_one x
                    have hiX := dg_info x hx
                    have HsX := Lib.hid (setCells_row FAX54.out hx)
                    rw [if_pos (by rfl)]
                    refine wp_store_mid _ _ _ rfl _ _ (List.toArray _) rfl rfl ?_ ?_ (all_oneCell_toArray hlX) ?_
                    · first | assumption | (simp only [List.size_toArray, *] <;> assumption)
                    · (first | assumption | (simp only [List.size_toArray] <;> assumption) | (simp only [List.size_toArray, *]))
                    simp only [Act.put]
                    refine hK.out _ _ (by rw [HsX.out]; exact below_setRow BX54.out (BX53.out.size) _) (fun hHeld => ?_)
                    clear hK K
                    rw [HsX.out] at hHeld ⊢
                    have FAX55 : DRow (X54.setRow X53.heap.size (bytesV x).toArray) X53.heap.size x := FAX54.out.row _
                    clear htX hlX hiX HsX
                    generalize (X54.setRow X53.heap.size (bytesV x).toArray) = X55 at hHeld FAX55  ⊢
                    have BX55 := Lib.hid hHeld
                    replace FAX55 := Lib.hid FAX55
                    refine wpAnyH_take (i := 16) (oi := { dst := some 12, op := _, type := _, pos := _, after := _, guard := _ }) (v := ?_) rfl (by kernel_rfl) (by kernel_rfl) (by kernel_rfl) (fun _ _ _ h => h) (Or.inl ⟨by rfl, ?_⟩) (by assumption) ?_
                    rotate_left
                    · (intro w hSw; go_simp) <;> with_reducible rfl
                    try simp only [Act.put, List.setIfInBounds_toArray, List.set_cons_zero, List.set_cons_succ]
                    refine wpAnyH_done (by kernel_rfl) ?_ _
                    exact hfin _ _ _ _ _ _ _ _ _ BX55
                  exact AllReadyH.nil
                exact AllReadyH.nil
              refine AllReadyH.cons (o := { dst := some 11, op := _, type := _, pos := _, after := _, guard := _ }) rfl (fun K hK => ?_) ?_
              · go_simp
                refine hK.out _ _ (hHeld.alloc hHeld.size _) (fun hHeld => ?_)
                clear hK K
                try simp only [Act.put, List.setIfInBounds_toArray, List.set_cons_zero, List.set_cons_succ]
                have FAX56 : IsD (X52.alloc (.cells Z32 26)) X52.heap.size := IsD.new _ _ (heap_alloc_new X52 _)
                have RX56 : Below X52.heap.size X52 (X52.alloc (.cells Z32 26)) := (Below.refl _ _).alloc (Nat.le_refl _) _
                generalize (X52.alloc (.cells Z32 26)) = X56 at hHeld FAX56 RX56 ⊢
                have BX56 := Lib.hid hHeld
                replace FAX56 := Lib.hid FAX56
                replace RX56 := Lib.hid RX56
                have FRX56 := Lib.hid (FRX52.out.keep ((RX56.out).block _ FRX52.out.lt))
                have ne_A_R : X52.heap.size ≠ g9_X52 := fun h => by have := FRX52.out.lt; omega
                have ne_R_A := ne_A_R.symm
                refine wpAnyH_ready (rs := [10]) (by kernel_rfl) (by simp) ?_
                refine AllReadyH.cons (o := { dst := some 52, op := _, type := _, pos := _, after := _, guard := _ }) rfl (fun K hK => ?_) ?_
                · go_simp
                  go_at_call 22
                  refine (HC2.out _ _ _).mono ?_
                  rintro e X57 ⟨⟨x, hx, rfl⟩, bX57⟩
                  have RX57 := Lib.hid (bX57)
                  go_wp2_with fail
                  refine hK.out _ _ (BX56.out.trans (RX57.out.mono BX56.out.size)) (fun hHeld => ?_)
                  clear hK K
                  try simp only [Act.put, List.setIfInBounds_toArray, List.set_cons_zero, List.set_cons_succ]
                  have BX57 := Lib.hid hHeld
                  have FAX57 := Lib.hid (FAX56.out.keep ((RX57.out).block _ FAX56.out.lt))
                  refine wpAnyH_take (i := 11) (oi := { dst := some 41, op := _, type := _, pos := _, after := _, guard := _ }) (v := ?_) rfl (by kernel_rfl) (by kernel_rfl) (by kernel_rfl) (fun _ _ _ h => h) (Or.inl ⟨by rfl, ?_⟩) (by assumption) ?_
                  rotate_left
                  · (intro w hSw; go_simp) <;> with_reducible rfl
                  try simp only [Act.put, List.setIfInBounds_toArray, List.set_cons_zero, List.set_cons_succ]
                  refine wpAnyH_take (i := 12) (oi := { dst := some 53, op := _, type := _, pos := _, after := _, guard := _ }) (v := ?_) rfl (by kernel_rfl) (by kernel_rfl) (by kernel_rfl) (fun _ _ _ h => h) (Or.inl ⟨by rfl, ?_⟩) (by assumption) ?_
                  rotate_left
                  · (intro w hSw; go_simp) <;> with_reducible rfl
                  try simp only [Act.put, List.setIfInBounds_toArray, List.set_cons_zero, List.set_cons_succ]
                  refine wpAnyH_take (i := 13) (oi := { dst := some 54, op := _, type := _, pos := _, after := _, guard := _ }) (v := ?_) rfl (by kernel_rfl) (by kernel_rfl) (by kernel_rfl) (fun _ _ _ h => h) (Or.inl ⟨by rfl, ?_⟩) (by assumption) ?_
                  rotate_left
                  · (intro w hSw; go_simp) <;> with_reducible rfl
                  try simp only [Act.put, List.setIfInBounds_toArray, List.set_cons_zero, List.set_cons_succ]
                  refine wpAnyH_ready (rs := [15]) (by kernel_rfl) (by simp) ?_
                  refine AllReadyH.cons (o := { dst := none, op := _, type := _, pos := _, after := _, guard := _ }) rfl (fun K hK => ?_) ?_
                  · have htX := FAX57.out.there x hx
                    have hlX := bytesV_one x
                    have hiX := dg_info x hx
                    have HsX := Lib.hid (setCells_row FAX57.out hx)
                    rw [if_pos (by rfl)]
                    refine wp_store_mid _ _ _ rfl _ _ (List.toArray _) rfl rfl ?_ ?_ (all_oneCell_toArray hlX) ?_
                    · first | assumption | (simp only [List.size_toArray, *] <;> assumption)
                    · (first | assumption | (simp only [List.size_toArray] <;> assumption) | (simp only [List.size_toArray, *]))
                    simp only [Act.put]
                    refine hK.out _ _ (by rw [HsX.out]; exact below_setRow BX57.out (BX52.out.size) _) (fun hHeld => ?_)
                    clear hK K
                    rw [HsX.out] at hHeld ⊢
                    have FAX58 : DRow (X57.setRow X52.heap.size (bytesV x).toArray) X52.heap.size x := FAX57.out.row _
                    clear htX hlX hiX HsX
                    generalize (X57.setRow X52.heap.size (bytesV x).toArray) = X58 at hHeld FAX58  ⊢
                    have BX58 := Lib.hid hHeld
                    replace FAX58 := Lib.hid FAX58
                    refine wpAnyH_take (i := 16) (oi := { dst := some 12, op := _, type := _, pos := _, after := _, guard := _ }) (v := ?_) rfl (by kernel_rfl) (by kernel_rfl) (by kernel_rfl) (fun _ _ _ h => h) (Or.inl ⟨by rfl, ?_⟩) (by assumption) ?_
                    rotate_left
                    · (intro w hSw; go_simp) <;> with_reducible rfl
                    try simp only [Act.put, List.setIfInBounds_toArray, List.set_cons_zero, List.set_cons_succ]
                    refine wpAnyH_done (by kernel_rfl) ?_ _
                    exact hfin _ _ _ _ _ _ _ _ _ BX58
                  exact AllReadyH.nil
                exact AllReadyH.nil
              exact AllReadyH.nil
            refine AllReadyH.cons (o := { dst := some 11, op := _, type := _, pos := _, after := _, guard := _ }) rfl (fun K hK => ?_) ?_
            · go_simp
              refine hK.out _ _ (hHeld.alloc hHeld.size _) (fun hHeld => ?_)
              clear hK K
              try simp only [Act.put, List.setIfInBounds_toArray, List.set_cons_zero, List.set_cons_succ]
              have FAX59 : IsD (X51.alloc (.cells Z32 26)) X51.heap.size := IsD.new _ _ (heap_alloc_new X51 _)
              have RX59 : Below X51.heap.size X51 (X51.alloc (.cells Z32 26)) := (Below.refl _ _).alloc (Nat.le_refl _) _
              generalize (X51.alloc (.cells Z32 26)) = X59 at hHeld FAX59 RX59 ⊢
              have BX59 := Lib.hid hHeld
              replace FAX59 := Lib.hid FAX59
              replace RX59 := Lib.hid RX59
              have FDX59 := Lib.hid (FDX51.out.keep ((RX59.out).block _ FDX51.out.lt))
              have FPX59 := Lib.hid (FPX51.out.keep ((RX59.out).block _ FPX51.out.lt))
              have ne_A_D : X51.heap.size ≠ X0.heap.size := fun h => by have := FDX51.out.lt; omega
              have ne_D_A := ne_A_D.symm
              have ne_A_P : X51.heap.size ≠ g6_X51 := fun h => by have := FPX51.out.lt; omega
              have ne_P_A := ne_A_P.symm
              refine wpAnyH_ready (rs := [9]) (by kernel_rfl) (by simp) ?_
              refine AllReadyH.cons (o := { dst := some 51, op := _, type := _, pos := _, after := _, guard := _ }) rfl (fun K hK => ?_) ?_
              · refine step_append_owns _ rfl (.tmp 48) (.tmp 50) 30 30 rfl w8.heap.size 26 i0' _ 32 32 Tryd.underlying30 hi hzz hz1' hz2' rfl g6_X51 m1 c6_X51 (flatD (path ds k)) rfl FPX59.out _ rfl 1 (bytesV d) (FDX59.out.src1 HDL.out) (by unfold maxLen; omega) (by omega) BX59.out.size ?_
                intro g9_X60 c9_X60 X60 FRX60 TX60 GX60
                refine hK.out _ _ (BX59.out.trans (TX60.out.below (B := w8.heap.size) FPX59.out.2.1 FPX59.out.lt)) (fun hHeld => ?_)
                clear hK K
                try simp only [Act.put, List.setIfInBounds_toArray, List.set_cons_zero, List.set_cons_succ]
                have BX60 := Lib.hid hHeld
                have FAX60 := Lib.hid (FAX59.out.keep ((TX60.out).block _ FAX59.out.lt (by simp only [ne_eq, Option.some.injEq]; have h := ne_A_P; omega)))
                have ne_R_A : g9_X60 ≠ X51.heap.size := fun h => by
                  have h1 := GX60.out
                  have h2 := FAX59.out.lt
                  have h3 := ne_P_A
                  omega
                have ne_A_R := ne_R_A.symm
                refine wpAnyH_ready (rs := [10]) (by kernel_rfl) (by simp) ?_
                refine AllReadyH.cons (o := { dst := some 52, op := _, type := _, pos := _, after := _, guard := _ }) rfl (fun K hK => ?_) ?_
                · go_simp
                  go_at_call 22
                  refine (HC2.out _ _ _).mono ?_
                  rintro e X61 ⟨⟨x, hx, rfl⟩, bX61⟩
                  have RX61 := Lib.hid (bX61)
                  go_wp2_with fail
                  refine hK.out _ _ (BX60.out.trans (RX61.out.mono BX60.out.size)) (fun hHeld => ?_)
                  clear hK K
                  try simp only [Act.put, List.setIfInBounds_toArray, List.set_cons_zero, List.set_cons_succ]
                  have BX61 := Lib.hid hHeld
                  have FAX61 := Lib.hid (FAX60.out.keep ((RX61.out).block _ FAX60.out.lt))
                  refine wpAnyH_take (i := 11) (oi := { dst := some 41, op := _, type := _, pos := _, after := _, guard := _ }) (v := ?_) rfl (by kernel_rfl) (by kernel_rfl) (by kernel_rfl) (fun _ _ _ h => h) (Or.inl ⟨by rfl, ?_⟩) (by assumption) ?_
                  rotate_left
                  · (intro w hSw; go_simp) <;> with_reducible rfl
                  try simp only [Act.put, List.setIfInBounds_toArray, List.set_cons_zero, List.set_cons_succ]
                  refine wpAnyH_take (i := 12) (oi := { dst := some 53, op := _, type := _, pos := _, after := _, guard := _ }) (v := ?_) rfl (by kernel_rfl) (by kernel_rfl) (by kernel_rfl) (fun _ _ _ h => h) (Or.inl ⟨by rfl, ?_⟩) (by assumption) ?_
                  rotate_left
                  · (intro w hSw; go_simp) <;> with_reducible rfl
                  try simp only [Act.put, List.setIfInBounds_toArray, List.set_cons_zero, List.set_cons_succ]
                  refine wpAnyH_take (i := 13) (oi := { dst := some 54, op := _, type := _, pos := _, after := _, guard := _ }) (v := ?_) rfl (by kernel_rfl) (by kernel_rfl) (by kernel_rfl) (fun _ _ _ h => h) (Or.inl ⟨by rfl, ?_⟩) (by assumption) ?_
                  rotate_left
                  · (intro w hSw; go_simp) <;> with_reducible rfl
                  try simp only [Act.put, List.setIfInBounds_toArray, List.set_cons_zero, List.set_cons_succ]
                  refine wpAnyH_ready (rs := [15]) (by kernel_rfl) (by simp) ?_
                  refine AllReadyH.cons (o := { dst := none, op := _, type := _, pos := _, after := _, guard := _ }) rfl (fun K hK => ?_) ?_
                  · have htX := FAX61.out.there x hx
                    have hlX := bytesV_one x
                    have hiX := dg_info x hx
                    have HsX := Lib.hid (setCells_row FAX61.out hx)
                    rw [if_pos (by rfl)]
                    refine wp_store_mid _ _ _ rfl _ _ (List.toArray _) rfl rfl ?_ ?_ (all_oneCell_toArray hlX) ?_
                    · first | assumption | (simp only [List.size_toArray, *] <;> assumption)
                    · (first | assumption | (simp only [List.size_toArray] <;> assumption) | (simp only [List.size_toArray, *]))
                    simp only [Act.put]
                    refine hK.out _ _ (by rw [HsX.out]; exact below_setRow BX61.out (BX51.out.size) _) (fun hHeld => ?_)
                    clear hK K
                    rw [HsX.out] at hHeld ⊢
                    have FAX62 : DRow (X61.setRow X51.heap.size (bytesV x).toArray) X51.heap.size x := FAX61.out.row _
                    clear htX hlX hiX HsX
                    generalize (X61.setRow X51.heap.size (bytesV x).toArray) = X62 at hHeld FAX62  ⊢
                    have BX62 := Lib.hid hHeld
                    replace FAX62 := Lib.hid FAX62
                    refine wpAnyH_take (i := 16) (oi := { dst := some 12, op := _, type := _, pos := _, after := _, guard := _ }) (v := ?_) rfl (by kernel_rfl) (by kernel_rfl) (by kernel_rfl) (fun _ _ _ h => h) (Or.inl ⟨by rfl, ?_⟩) (by assumption) ?_
                    rotate_left
                    · (intro w hSw; go_simp) <;> with_reducible rfl
                    try simp only [Act.put, List.setIfInBounds_toArray, List.set_cons_zero, List.set_cons_succ]
                    refine wpAnyH_done (by kernel_rfl) ?_ _
                    exact hfin _ _ _ _ _ _ _ _ _ BX62
                  exact AllReadyH.nil
                exact AllReadyH.nil
              exact AllReadyH.nil
            exact AllReadyH.nil
          refine AllReadyH.cons (o := { dst := some 11, op := _, type := _, pos := _, after := _, guard := _ }) rfl (fun K hK => ?_) ?_
          · go_simp
            refine hK.out _ _ (hHeld.alloc hHeld.size _) (fun hHeld => ?_)
            clear hK K
            try simp only [Act.put, List.setIfInBounds_toArray, List.set_cons_zero, List.set_cons_succ]
            have FAX63 : IsD (X50.alloc (.cells Z32 26)) X50.heap.size := IsD.new _ _ (heap_alloc_new X50 _)
            have RX63 : Below X50.heap.size X50 (X50.alloc (.cells Z32 26)) := (Below.refl _ _).alloc (Nat.le_refl _) _
            generalize (X50.alloc (.cells Z32 26)) = X63 at hHeld FAX63 RX63 ⊢
            have BX63 := Lib.hid hHeld
            replace FAX63 := Lib.hid FAX63
            replace RX63 := Lib.hid RX63
            have FDX63 := Lib.hid (FDX50.out.keep ((RX63.out).block _ FDX50.out.lt))
            have FEX63 := Lib.hid (FEX50.out.keep ((RX63.out).block _ FEX50.out.lt))
            have ne_A_D : X50.heap.size ≠ X0.heap.size := fun h => by have := FDX50.out.lt; omega
            have ne_D_A := ne_A_D.symm
            have ne_A_E : X50.heap.size ≠ X49.heap.size := fun h => by have := FEX50.out.lt; omega
            have ne_E_A := ne_A_E.symm
            refine wpAnyH_ready (rs := [6]) (by kernel_rfl) (by simp) ?_
            refine AllReadyH.cons (o := { dst := some 48, op := _, type := _, pos := _, after := _, guard := _ }) rfl (fun K hK => ?_) ?_
            · refine step_append_owns _ rfl (.tmp 46) (.tmp 47) 30 30 rfl w8.heap.size 26 i0' _ 32 32 Tryd.underlying30 hi hzz hz1' hz2' rfl X49.heap.size 0 0 [] rfl FEX63.out _ rfl m1 (flatD (path ds k)) ((HR8.out.below BX63.out BX63.out.size).src) (by unfold maxLen; omega) (by omega) BX63.out.size ?_
              intro g6_X64 c6_X64 X64 FPX64 TX64 GX64
              simp only [Nat.zero_add, List.nil_append] at FPX64 ⊢
              refine hK.out _ _ (BX63.out.trans (TX64.out.below (B := w8.heap.size) FEX63.out.2.1 FEX63.out.lt)) (fun hHeld => ?_)
              clear hK K
              try simp only [Act.put, List.setIfInBounds_toArray, List.set_cons_zero, List.set_cons_succ]
              have BX64 := Lib.hid hHeld
              have FDX64 := Lib.hid (FDX63.out.keep ((TX64.out).block _ FDX63.out.lt (by simp only [ne_eq, Option.some.injEq]; have h := ne_D_E; omega)))
              have FAX64 := Lib.hid (FAX63.out.keep ((TX64.out).block _ FAX63.out.lt (by simp only [ne_eq, Option.some.injEq]; have h := ne_A_E; omega)))
              have ne_P_D : g6_X64 ≠ X0.heap.size := fun h => by
                have h1 := GX64.out
                have h2 := FDX63.out.lt
                have h3 := ne_E_D
                omega
              have ne_D_P := ne_P_D.symm
              have ne_P_A : g6_X64 ≠ X50.heap.size := fun h => by
                have h1 := GX64.out
                have h2 := FAX63.out.lt
                have h3 := ne_E_A
                omega
              have ne_A_P := ne_P_A.symm
              refine wpAnyH_ready (rs := [9]) (by kernel_rfl) (by simp) ?_
              refine AllReadyH.cons (o := { dst := some 51, op := _, type := _, pos := _, after := _, guard := _ }) rfl (fun K hK => ?_) ?_
              · refine step_append_owns _ rfl (.tmp 48) (.tmp 50) 30 30 rfl w8.heap.size 26 i0' _ 32 32 Tryd.underlying30 hi hzz hz1' hz2' rfl g6_X64 m1 c6_X64 (flatD (path ds k)) rfl FPX64.out _ rfl 1 (bytesV d) (FDX64.out.src1 HDL.out) (by unfold maxLen; omega) (by omega) BX64.out.size ?_
                intro g9_X65 c9_X65 X65 FRX65 TX65 GX65
                refine hK.out _ _ (BX64.out.trans (TX65.out.below (B := w8.heap.size) FPX64.out.2.1 FPX64.out.lt)) (fun hHeld => ?_)
                clear hK K
                try simp only [Act.put, List.setIfInBounds_toArray, List.set_cons_zero, List.set_cons_succ]
                have BX65 := Lib.hid hHeld
                have FAX65 := Lib.hid (FAX64.out.keep ((TX65.out).block _ FAX64.out.lt (by simp only [ne_eq, Option.some.injEq]; have h := ne_A_P; omega)))
                have ne_R_A : g9_X65 ≠ X50.heap.size := fun h => by
                  have h1 := GX65.out
                  have h2 := FAX64.out.lt
                  have h3 := ne_P_A
                  omega
                have ne_A_R := ne_R_A.symm
                refine wpAnyH_ready (rs := [10]) (by kernel_rfl) (by simp) ?_
                refine AllReadyH.cons (o := { dst := some 52, op := _, type := _, pos := _, after := _, guard := _ }) rfl (fun K hK => ?_) ?_
                · go_simp
                  go_at_call 22
                  refine (HC2.out _ _ _).mono ?_
                  rintro e X66 ⟨⟨x, hx, rfl⟩, bX66⟩
                  have RX66 := Lib.hid (bX66)
                  go_wp2_with fail
                  refine hK.out _ _ (BX65.out.trans (RX66.out.mono BX65.out.size)) (fun hHeld => ?_)
                  clear hK K
                  try simp only [Act.put, List.setIfInBounds_toArray, List.set_cons_zero, List.set_cons_succ]
                  have BX66 := Lib.hid hHeld
                  have FAX66 := Lib.hid (FAX65.out.keep ((RX66.out).block _ FAX65.out.lt))
                  refine wpAnyH_take (i := 11) (oi := { dst := some 41, op := _, type := _, pos := _, after := _, guard := _ }) (v := ?_) rfl (by kernel_rfl) (by kernel_rfl) (by kernel_rfl) (fun _ _ _ h => h) (Or.inl ⟨by rfl, ?_⟩) (by assumption) ?_
                  rotate_left
                  · (intro w hSw; go_simp) <;> with_reducible rfl
                  try simp only [Act.put, List.setIfInBounds_toArray, List.set_cons_zero, List.set_cons_succ]
                  refine wpAnyH_take (i := 12) (oi := { dst := some 53, op := _, type := _, pos := _, after := _, guard := _ }) (v := ?_) rfl (by kernel_rfl) (by kernel_rfl) (by kernel_rfl) (fun _ _ _ h => h) (Or.inl ⟨by rfl, ?_⟩) (by assumption) ?_
                  rotate_left
                  · (intro w hSw; go_simp) <;> with_reducible rfl
                  try simp only [Act.put, List.setIfInBounds_toArray, List.set_cons_zero, List.set_cons_succ]
                  refine wpAnyH_take (i := 13) (oi := { dst := some 54, op := _, type := _, pos := _, after := _, guard := _ }) (v := ?_) rfl (by kernel_rfl) (by kernel_rfl) (by kernel_rfl) (fun _ _ _ h => h) (Or.inl ⟨by rfl, ?_⟩) (by assumption) ?_
                  rotate_left
                  · (intro w hSw; go_simp) <;> with_reducible rfl
                  try simp only [Act.put, List.setIfInBounds_toArray, List.set_cons_zero, List.set_cons_succ]
                  refine wpAnyH_ready (rs := [15]) (by kernel_rfl) (by simp) ?_
                  refine AllReadyH.cons (o := { dst := none, op := _, type := _, pos := _, after := _, guard := _ }) rfl (fun K hK => ?_) ?_
                  · have htX := FAX66.out.there x hx
                    have hlX := bytesV_one x
                    have hiX := dg_info x hx
                    have HsX := Lib.hid (setCells_row FAX66.out hx)
                    rw [if_pos (by rfl)]
                    refine wp_store_mid _ _ _ rfl _ _ (List.toArray _) rfl rfl ?_ ?_ (all_oneCell_toArray hlX) ?_
                    · first | assumption | (simp only [List.size_toArray, *] <;> assumption)
                    · (first | assumption | (simp only [List.size_toArray] <;> assumption) | (simp only [List.size_toArray, *]))
                    simp only [Act.put]
                    refine hK.out _ _ (by rw [HsX.out]; exact below_setRow BX66.out (BX50.out.size) _) (fun hHeld => ?_)
                    clear hK K
                    rw [HsX.out] at hHeld ⊢
                    have FAX67 : DRow (X66.setRow X50.heap.size (bytesV x).toArray) X50.heap.size x := FAX66.out.row _
                    clear htX hlX hiX HsX
                    generalize (X66.setRow X50.heap.size (bytesV x).toArray) = X67 at hHeld FAX67  ⊢
                    have BX67 := Lib.hid hHeld
                    replace FAX67 := Lib.hid FAX67
                    refine wpAnyH_take (i := 16) (oi := { dst := some 12, op := _, type := _, pos := _, after := _, guard := _ }) (v := ?_) rfl (by kernel_rfl) (by kernel_rfl) (by kernel_rfl) (fun _ _ _ h => h) (Or.inl ⟨by rfl, ?_⟩) (by assumption) ?_
                    rotate_left
                    · (intro w hSw; go_simp) <;> with_reducible rfl
                    try simp only [Act.put, List.setIfInBounds_toArray, List.set_cons_zero, List.set_cons_succ]
                    refine wpAnyH_done (by kernel_rfl) ?_ _
                    exact hfin _ _ _ _ _ _ _ _ _ BX67
                  exact AllReadyH.nil
                exact AllReadyH.nil
              exact AllReadyH.nil
            exact AllReadyH.nil
          exact AllReadyH.nil
        refine AllReadyH.cons (o := { dst := some 11, op := _, type := _, pos := _, after := _, guard := _ }) rfl (fun K hK => ?_) ?_
        · go_simp
          refine hK.out _ _ (hHeld.alloc hHeld.size _) (fun hHeld => ?_)
          clear hK K
          try simp only [Act.put, List.setIfInBounds_toArray, List.set_cons_zero, List.set_cons_succ]
          have FAX68 : IsD (X49.alloc (.cells Z32 26)) X49.heap.size := IsD.new _ _ (heap_alloc_new X49 _)
          have RX68 : Below X49.heap.size X49 (X49.alloc (.cells Z32 26)) := (Below.refl _ _).alloc (Nat.le_refl _) _
          generalize (X49.alloc (.cells Z32 26)) = X68 at hHeld FAX68 RX68 ⊢
          have BX68 := Lib.hid hHeld
          replace FAX68 := Lib.hid FAX68
          replace RX68 := Lib.hid RX68
          have FDX68 := Lib.hid (FDX49.out.keep ((RX68.out).block _ FDX49.out.lt))
          have ne_A_D : X49.heap.size ≠ X0.heap.size := fun h => by have := FDX49.out.lt; omega
          have ne_D_A := ne_A_D.symm
          refine wpAnyH_ready (rs := [4]) (by kernel_rfl) (by simp) ?_
          refine AllReadyH.cons (o := { dst := some 46, op := _, type := _, pos := _, after := _, guard := _ }) rfl (fun K hK => ?_) ?_
          · go_simp
            refine hK.out _ _ (hHeld.alloc hHeld.size _) (fun hHeld => ?_)
            clear hK K
            try simp only [Act.put, List.setIfInBounds_toArray, List.set_cons_zero, List.set_cons_succ]
            have FEX69 : Owns (X68.alloc (.cells #[] 26)) w8.heap.size 26 32 X68.heap.size 0 0 [] := owns0 _ _ BX68.out.size
            have RX69 : Below X68.heap.size X68 (X68.alloc (.cells #[] 26)) := (Below.refl _ _).alloc (Nat.le_refl _) _
            generalize (X68.alloc (.cells #[] 26)) = X69 at hHeld FEX69 RX69 ⊢
            have BX69 := Lib.hid hHeld
            replace FEX69 := Lib.hid FEX69
            replace RX69 := Lib.hid RX69
            have FDX69 := Lib.hid (FDX68.out.keep ((RX69.out).block _ FDX68.out.lt))
            have FAX69 := Lib.hid (FAX68.out.keep ((RX69.out).block _ FAX68.out.lt))
            have ne_E_D : X68.heap.size ≠ X0.heap.size := fun h => by have := FDX68.out.lt; omega
            have ne_D_E := ne_E_D.symm
            have ne_E_A : X68.heap.size ≠ X49.heap.size := fun h => by have := FAX68.out.lt; omega
            have ne_A_E := ne_E_A.symm
            refine wpAnyH_ready (rs := [6]) (by kernel_rfl) (by simp) ?_
            refine AllReadyH.cons (o := { dst := some 48, op := _, type := _, pos := _, after := _, guard := _ }) rfl (fun K hK => ?_) ?_
            · refine step_append_owns _ rfl (.tmp 46) (.tmp 47) 30 30 rfl w8.heap.size 26 i0' _ 32 32 Tryd.underlying30 hi hzz hz1' hz2' rfl X68.heap.size 0 0 [] rfl FEX69.out _ rfl m1 (flatD (path ds k)) ((HR8.out.below BX69.out BX69.out.size).src) (by unfold maxLen; omega) (by omega) BX69.out.size ?_
              intro g6_X70 c6_X70 X70 FPX70 TX70 GX70
              simp only [Nat.zero_add, List.nil_append] at FPX70 ⊢
              refine hK.out _ _ (BX69.out.trans (TX70.out.below (B := w8.heap.size) FEX69.out.2.1 FEX69.out.lt)) (fun hHeld => ?_)
              clear hK K
              try simp only [Act.put, List.setIfInBounds_toArray, List.set_cons_zero, List.set_cons_succ]
              have BX70 := Lib.hid hHeld
              have FDX70 := Lib.hid (FDX69.out.keep ((TX70.out).block _ FDX69.out.lt (by simp only [ne_eq, Option.some.injEq]; have h := ne_D_E; omega)))
              have FAX70 := Lib.hid (FAX69.out.keep ((TX70.out).block _ FAX69.out.lt (by simp only [ne_eq, Option.some.injEq]; have h := ne_A_E; omega)))
              have ne_P_D : g6_X70 ≠ X0.heap.size := fun h => by
                have h1 := GX70.out
                have h2 := FDX69.out.lt
                have h3 := ne_E_D
                omega
              have ne_D_P := ne_P_D.symm
              have ne_P_A : g6_X70 ≠ X49.heap.size := fun h => by
                have h1 := GX70.out
                have h2 := FAX69.out.lt
                have h3 := ne_E_A
                omega
              have ne_A_P := ne_P_A.symm
              refine wpAnyH_ready (rs := [9]) (by kernel_rfl) (by simp) ?_
              refine AllReadyH.cons (o := { dst := some 51, op := _, type := _, pos := _, after := _, guard := _ }) rfl (fun K hK => ?_) ?_
              · refine step_append_owns _ rfl (.tmp 48) (.tmp 50) 30 30 rfl w8.heap.size 26 i0' _ 32 32 Tryd.underlying30 hi hzz hz1' hz2' rfl g6_X70 m1 c6_X70 (flatD (path ds k)) rfl FPX70.out _ rfl 1 (bytesV d) (FDX70.out.src1 HDL.out) (by unfold maxLen; omega) (by omega) BX70.out.size ?_
                intro g9_X71 c9_X71 X71 FRX71 TX71 GX71
                refine hK.out _ _ (BX70.out.trans (TX71.out.below (B := w8.heap.size) FPX70.out.2.1 FPX70.out.lt)) (fun hHeld => ?_)
                clear hK K
                try simp only [Act.put, List.setIfInBounds_toArray, List.set_cons_zero, List.set_cons_succ]
                have BX71 := Lib.hid hHeld
                have FAX71 := Lib.hid (FAX70.out.keep ((TX71.out).block _ FAX70.out.lt (by simp only [ne_eq, Option.some.injEq]; have h := ne_A_P; omega)))
                have ne_R_A : g9_X71 ≠ X49.heap.size := fun h => by
                  have h1 := GX71.out
                  have h2 := FAX70.out.lt
                  have h3 := ne_P_A
                  omega
                have ne_A_R := ne_R_A.symm
                refine wpAnyH_ready (rs := [10]) (by kernel_rfl) (by simp) ?_
                refine AllReadyH.cons (o := { dst := some 52, op := _, type := _, pos := _, after := _, guard := _ }) rfl (fun K hK => ?_) ?_
                · go_simp
                  go_at_call 22
                  refine (HC2.out _ _ _).mono ?_
                  rintro e X72 ⟨⟨x, hx, rfl⟩, bX72⟩
                  have RX72 := Lib.hid (bX72)
                  go_wp2_with fail
                  refine hK.out _ _ (BX71.out.trans (RX72.out.mono BX71.out.size)) (fun hHeld => ?_)
                  clear hK K
                  try simp only [Act.put, List.setIfInBounds_toArray, List.set_cons_zero, List.set_cons_succ]
                  have BX72 := Lib.hid hHeld
                  have FAX72 := Lib.hid (FAX71.out.keep ((RX72.out).block _ FAX71.out.lt))
                  refine wpAnyH_take (i := 11) (oi := { dst := some 41, op := _, type := _, pos := _, after := _, guard := _ }) (v := ?_) rfl (by kernel_rfl) (by kernel_rfl) (by kernel_rfl) (fun _ _ _ h => h) (Or.inl ⟨by rfl, ?_⟩) (by assumption) ?_
                  rotate_left
                  · (intro w hSw; go_simp) <;> with_reducible rfl
                  try simp only [Act.put, List.setIfInBounds_toArray, List.set_cons_zero, List.set_cons_succ]
                  refine wpAnyH_take (i := 12) (oi := { dst := some 53, op := _, type := _, pos := _, after := _, guard := _ }) (v := ?_) rfl (by kernel_rfl) (by kernel_rfl) (by kernel_rfl) (fun _ _ _ h => h) (Or.inl ⟨by rfl, ?_⟩) (by assumption) ?_
                  rotate_left
                  · (intro w hSw; go_simp) <;> with_reducible rfl
                  try simp only [Act.put, List.setIfInBounds_toArray, List.set_cons_zero, List.set_cons_succ]
                  refine wpAnyH_take (i := 13) (oi := { dst := some 54, op := _, type := _, pos := _, after := _, guard := _ }) (v := ?_) rfl (by kernel_rfl) (by kernel_rfl) (by kernel_rfl) (fun _ _ _ h => h) (Or.inl ⟨by rfl, ?_⟩) (by assumption) ?_
                  rotate_left
                  · (intro w hSw; go_simp) <;> with_reducible rfl
                  try simp only [Act.put, List.setIfInBounds_toArray, List.set_cons_zero, List.set_cons_succ]
                  refine wpAnyH_ready (rs := [15]) (by kernel_rfl) (by simp) ?_
                  refine AllReadyH.cons (o := { dst := none, op := _, type := _, pos := _, after := _, guard := _ }) rfl (fun K hK => ?_) ?_
                  · have htX := FAX72.out.there x hx
                    have hlX := bytesV_one x
                    have hiX := dg_info x hx
                    have HsX := Lib.hid (setCells_row FAX72.out hx)
                    rw [if_pos (by rfl)]
                    refine wp_store_mid _ _ _ rfl _ _ (List.toArray _) rfl rfl ?_ ?_ (all_oneCell_toArray hlX) ?_
                    · first | assumption | (simp only [List.size_toArray, *] <;> assumption)
                    · (first | assumption | (simp only [List.size_toArray] <;> assumption) | (simp only [List.size_toArray, *]))
                    simp only [Act.put]
                    refine hK.out _ _ (by rw [HsX.out]; exact below_setRow BX72.out (BX49.out.size) _) (fun hHeld => ?_)
                    clear hK K
                    rw [HsX.out] at hHeld ⊢
                    have FAX73 : DRow (X72.setRow X49.heap.size (bytesV x).toArray) X49.heap.size x := FAX72.out.row _
                    clear htX hlX hiX HsX
                    generalize (X72.setRow X49.heap.size (bytesV x).toArray) = X73 at hHeld FAX73  ⊢
                    have BX73 := Lib.hid hHeld
                    replace FAX73 := Lib.hid FAX73
                    refine wpAnyH_take (i := 16) (oi := { dst := some 12, op := _, type := _, pos := _, after := _, guard := _ }) (v := ?_) rfl (by kernel_rfl) (by kernel_rfl) (by kernel_rfl) (fun _ _ _ h => h) (Or.inl ⟨by rfl, ?_⟩) (by assumption) ?_
                    rotate_left
                    · (intro w hSw; go_simp) <;> with_reducible rfl
                    try simp only [Act.put, List.setIfInBounds_toArray, List.set_cons_zero, List.set_cons_succ]
                    refine wpAnyH_done (by kernel_rfl) ?_ _
                    exact hfin _ _ _ _ _ _ _ _ _ BX73
                  exact AllReadyH.nil
                exact AllReadyH.nil
              exact AllReadyH.nil
            exact AllReadyH.nil
          exact AllReadyH.nil
        exact AllReadyH.nil
      refine AllReadyH.cons (o := { dst := some 11, op := _, type := _, pos := _, after := _, guard := _ }) rfl (fun K hK => ?_) ?_
      · go_simp
        refine hK.out _ _ (hHeld.alloc hHeld.size _) (fun hHeld => ?_)
        clear hK K
        try simp only [Act.put, List.setIfInBounds_toArray, List.set_cons_zero, List.set_cons_succ]
        have FAX74 : IsD (X0.alloc (.cells Z32 26)) X0.heap.size := IsD.new _ _ (heap_alloc_new X0 _)
        have RX74 : Below X0.heap.size X0 (X0.alloc (.cells Z32 26)) := (Below.refl _ _).alloc (Nat.le_refl _) _
        generalize (X0.alloc (.cells Z32 26)) = X74 at hHeld FAX74 RX74 ⊢
        have BX74 := Lib.hid hHeld
        replace FAX74 := Lib.hid FAX74
        replace RX74 := Lib.hid RX74
        refine wpAnyH_ready (rs := [4, 8]) (by kernel_rfl) (by simp) ?_
        refine AllReadyH.cons (o := { dst := some 46, op := _, type := _, pos := _, after := _, guard := _ }) rfl (fun K hK => ?_) ?_
        · go_simp
          refine hK.out _ _ (hHeld.alloc hHeld.size _) (fun hHeld => ?_)
          clear hK K
          try simp only [Act.put, List.setIfInBounds_toArray, List.set_cons_zero, List.set_cons_succ]
          have FEX75 : Owns (X74.alloc (.cells #[] 26)) w8.heap.size 26 32 X74.heap.size 0 0 [] := owns0 _ _ BX74.out.size
          have RX75 : Below X74.heap.size X74 (X74.alloc (.cells #[] 26)) := (Below.refl _ _).alloc (Nat.le_refl _) _
          generalize (X74.alloc (.cells #[] 26)) = X75 at hHeld FEX75 RX75 ⊢
          have BX75 := Lib.hid hHeld
          replace FEX75 := Lib.hid FEX75
          replace RX75 := Lib.hid RX75
          have FAX75 := Lib.hid (FAX74.out.keep ((RX75.out).block _ FAX74.out.lt))
          have ne_E_A : X74.heap.size ≠ X0.heap.size := fun h => by have := FAX74.out.lt; omega
          have ne_A_E := ne_E_A.symm
          refine wpAnyH_ready (rs := [6, 8]) (by kernel_rfl) (by simp) ?_
          refine AllReadyH.cons (o := { dst := some 48, op := _, type := _, pos := _, after := _, guard := _ }) rfl (fun K hK => ?_) ?_
          · refine step_append_owns _ rfl (.tmp 46) (.tmp 47) 30 30 rfl w8.heap.size 26 i0' _ 32 32 Tryd.underlying30 hi hzz hz1' hz2' rfl X74.heap.size 0 0 [] rfl FEX75.out _ rfl m1 (flatD (path ds k)) ((HR8.out.below BX75.out BX75.out.size).src) (by unfold maxLen; omega) (by omega) BX75.out.size ?_
            intro g6_X76 c6_X76 X76 FPX76 TX76 GX76
            simp only [Nat.zero_add, List.nil_append] at FPX76 ⊢
            refine hK.out _ _ (BX75.out.trans (TX76.out.below (B := w8.heap.size) FEX75.out.2.1 FEX75.out.lt)) (fun hHeld => ?_)
            clear hK K
            try simp only [Act.put, List.setIfInBounds_toArray, List.set_cons_zero, List.set_cons_succ]
            have BX76 := Lib.hid hHeld
            have FAX76 := Lib.hid (FAX75.out.keep ((TX76.out).block _ FAX75.out.lt (by simp only [ne_eq, Option.some.injEq]; have h := ne_A_E; omega)))
            have ne_P_A : g6_X76 ≠ X0.heap.size := fun h => by
              have h1 := GX76.out
              have h2 := FAX75.out.lt
              have h3 := ne_E_A
              omega
            have ne_A_P := ne_P_A.symm
            refine wpAnyH_ready (rs := [8]) (by kernel_rfl) (by simp) ?_
            refine AllReadyH.cons (o := { dst := some 50, op := _, type := _, pos := _, after := _, guard := _ }) rfl (fun K hK => ?_) ?_
            · go_simp
              refine hK.out _ _ (hHeld.alloc hHeld.size _) (fun hHeld => ?_)
              clear hK K
              try simp only [Act.put, List.setIfInBounds_toArray, List.set_cons_zero, List.set_cons_succ]
              have FDX77 : DRow (X76.alloc (.cells (bytesV d).toArray 26)) X76.heap.size d := heap_alloc_new X76 _
              have RX77 : Below X76.heap.size X76 (X76.alloc (.cells (bytesV d).toArray 26)) := (Below.refl _ _).alloc (Nat.le_refl _) _
              generalize (X76.alloc (.cells (bytesV d).toArray 26)) = X77 at hHeld FDX77 RX77 ⊢
              have BX77 := Lib.hid hHeld
              replace FDX77 := Lib.hid FDX77
              replace RX77 := Lib.hid RX77
              have FAX77 := Lib.hid (FAX76.out.keep ((RX77.out).block _ FAX76.out.lt))
              have FPX77 := Lib.hid (FPX76.out.keep ((RX77.out).block _ FPX76.out.lt))
              have ne_D_A : X76.heap.size ≠ X0.heap.size := fun h => by have := FAX76.out.lt; omega
              have ne_A_D := ne_D_A.symm
              have ne_D_P : X76.heap.size ≠ g6_X76 := fun h => by have := FPX76.out.lt; omega
              have ne_P_D := ne_D_P.symm
              refine wpAnyH_ready (rs := [9]) (by kernel_rfl) (by simp) ?_
              refine AllReadyH.cons (o := { dst := some 51, op := _, type := _, pos := _, after := _, guard := _ }) rfl (fun K hK => ?_) ?_
              · refine step_append_owns _ rfl (.tmp 48) (.tmp 50) 30 30 rfl w8.heap.size 26 i0' _ 32 32 Tryd.underlying30 hi hzz hz1' hz2' rfl g6_X76 m1 c6_X76 (flatD (path ds k)) rfl FPX77.out _ rfl 1 (bytesV d) (FDX77.out.src1 HDL.out) (by unfold maxLen; omega) (by omega) BX77.out.size ?_
                intro g9_X78 c9_X78 X78 FRX78 TX78 GX78
                refine hK.out _ _ (BX77.out.trans (TX78.out.below (B := w8.heap.size) FPX77.out.2.1 FPX77.out.lt)) (fun hHeld => ?_)
                clear hK K
                try simp only [Act.put, List.setIfInBounds_toArray, List.set_cons_zero, List.set_cons_succ]
                have BX78 := Lib.hid hHeld
                have FAX78 := Lib.hid (FAX77.out.keep ((TX78.out).block _ FAX77.out.lt (by simp only [ne_eq, Option.some.injEq]; have h := ne_A_P; omega)))
                have ne_R_A : g9_X78 ≠ X0.heap.size := fun h => by
                  have h1 := GX78.out
                  have h2 := FAX77.out.lt
                  have h3 := ne_P_A
                  omega
                have ne_A_R := ne_R_A.symm
                refine wpAnyH_ready (rs := [10]) (by kernel_rfl) (by simp) ?_
                refine AllReadyH.cons (o := { dst := some 52, op := _, type := _, pos := _, after := _, guard := _ }) rfl (fun K hK => ?_) ?_
                · go_simp
                  go_at_call 22
                  refine (HC2.out _ _ _).mono ?_
                  rintro e X79 ⟨⟨x, hx, rfl⟩, bX79⟩
                  have RX79 := Lib.hid (bX79)
                  go_wp2_with fail
                  refine hK.out _ _ (BX78.out.trans (RX79.out.mono BX78.out.size)) (fun hHeld => ?_)
                  clear hK K
                  try simp only [Act.put, List.setIfInBounds_toArray, List.set_cons_zero, List.set_cons_succ]
                  have BX79 := Lib.hid hHeld
                  have FAX79 := Lib.hid (FAX78.out.keep ((RX79.out).block _ FAX78.out.lt))
                  refine wpAnyH_take (i := 11) (oi := { dst := some 41, op := _, type := _, pos := _, after := _, guard := _ }) (v := ?_) rfl (by kernel_rfl) (by kernel_rfl) (by kernel_rfl) (fun _ _ _ h => h) (Or.inl ⟨by rfl, ?_⟩) (by assumption) ?_
                  rotate_left
                  · (intro w hSw; go_simp) <;> with_reducible rfl
                  try simp only [Act.put, List.setIfInBounds_toArray, List.set_cons_zero, List.set_cons_succ]
                  refine wpAnyH_take (i := 12) (oi := { dst := some 53, op := _, type := _, pos := _, after := _, guard := _ }) (v := ?_) rfl (by kernel_rfl) (by kernel_rfl) (by kernel_rfl) (fun _ _ _ h => h) (Or.inl ⟨by rfl, ?_⟩) (by assumption) ?_
                  rotate_left
                  · (intro w hSw; go_simp) <;> with_reducible rfl
                  try simp only [Act.put, List.setIfInBounds_toArray, List.set_cons_zero, List.set_cons_succ]
                  refine wpAnyH_take (i := 13) (oi := { dst := some 54, op := _, type := _, pos := _, after := _, guard := _ }) (v := ?_) rfl (by kernel_rfl) (by kernel_rfl) (by kernel_rfl) (fun _ _ _ h => h) (Or.inl ⟨by rfl, ?_⟩) (by assumption) ?_
                  rotate_left
                  · (intro w hSw; go_simp) <;> with_reducible rfl
                  try simp only [Act.put, List.setIfInBounds_toArray, List.set_cons_zero, List.set_cons_succ]
                  refine wpAnyH_ready (rs := [15]) (by kernel_rfl) (by simp) ?_
                  refine AllReadyH.cons (o := { dst := none, op := _, type := _, pos := _, after := _, guard := _ }) rfl (fun K hK => ?_) ?_
                  · have htX := FAX79.out.there x hx
                    have hlX := bytesV_one x
                    have hiX := dg_info x hx
                    have HsX := Lib.hid (setCells_row FAX79.out hx)
                    rw [if_pos (by rfl)]
                    refine wp_store_mid _ _ _ rfl _ _ (List.toArray _) rfl rfl ?_ ?_ (all_oneCell_toArray hlX) ?_
                    · first | assumption | (simp only [List.size_toArray, *] <;> assumption)
                    · (first | assumption | (simp only [List.size_toArray] <;> assumption) | (simp only [List.size_toArray, *]))
                    simp only [Act.put]
                    refine hK.out _ _ (by rw [HsX.out]; exact below_setRow BX79.out (BX0.out.size) _) (fun hHeld => ?_)
                    clear hK K
                    rw [HsX.out] at hHeld ⊢
                    have FAX80 : DRow (X79.setRow X0.heap.size (bytesV x).toArray) X0.heap.size x := FAX79.out.row _
                    clear htX hlX hiX HsX
                    generalize (X79.setRow X0.heap.size (bytesV x).toArray) = X80 at hHeld FAX80  ⊢
                    have BX80 := Lib.hid hHeld
                    replace FAX80 := Lib.hid FAX80
                    refine wpAnyH_take (i := 16) (oi := { dst := some 12, op := _, type := _, pos := _, after := _, guard := _ }) (v := ?_) rfl (by kernel_rfl) (by kernel_rfl) (by kernel_rfl) (fun _ _ _ h => h) (Or.inl ⟨by rfl, ?_⟩) (by assumption) ?_
                    rotate_left
                    · (intro w hSw; go_simp) <;> with_reducible rfl
                    try simp only [Act.put, List.setIfInBounds_toArray, List.set_cons_zero, List.set_cons_succ]
                    refine wpAnyH_done (by kernel_rfl) ?_ _
                    exact hfin _ _ _ _ _ _ _ _ _ BX80
                  exact AllReadyH.nil
                exact AllReadyH.nil
              exact AllReadyH.nil
            exact AllReadyH.nil
          refine AllReadyH.cons (o := { dst := some 50, op := _, type := _, pos := _, after := _, guard := _ }) rfl (fun K hK => ?_) ?_
          · go_simp
            refine hK.out _ _ (hHeld.alloc hHeld.size _) (fun hHeld => ?_)
            clear hK K
            try simp only [Act.put, List.setIfInBounds_toArray, List.set_cons_zero, List.set_cons_succ]
            have FDX81 : DRow (X75.alloc (.cells (bytesV d).toArray 26)) X75.heap.size d := heap_alloc_new X75 _
            have RX81 : Below X75.heap.size X75 (X75.alloc (.cells (bytesV d).toArray 26)) := (Below.refl _ _).alloc (Nat.le_refl _) _
            generalize (X75.alloc (.cells (bytesV d).toArray 26)) = X81 at hHeld FDX81 RX81 ⊢
            have BX81 := Lib.hid hHeld
            replace FDX81 := Lib.hid FDX81
            replace RX81 := Lib.hid RX81
            have FAX81 := Lib.hid (FAX75.out.keep ((RX81.out).block _ FAX75.out.lt))
            have FEX81 := Lib.hid (FEX75.out.keep ((RX81.out).block _ FEX75.out.lt))
            have ne_D_A : X75.heap.size ≠ X0.heap.size := fun h => by have := FAX75.out.lt; omega
            have ne_A_D := ne_D_A.symm
            have ne_D_E : X75.heap.size ≠ X74.heap.size := fun h => by have := FEX75.out.lt; omega
            have ne_E_D := ne_D_E.symm
            refine wpAnyH_ready (rs := [6]) (by kernel_rfl) (by simp) ?_
            refine AllReadyH.cons (o := { dst := some 48, op := _, type := _, pos := _, after := _, guard := _ }) rfl (fun K hK => ?_) ?_
            · refine step_append_owns _ rfl (.tmp 46) (.tmp 47) 30 30 rfl w8.heap.size 26 i0' _ 32 32 Tryd.underlying30 hi hzz hz1' hz2' rfl X74.heap.size 0 0 [] rfl FEX81.out _ rfl m1 (flatD (path ds k)) ((HR8.out.below BX81.out BX81.out.size).src) (by unfold maxLen; omega) (by omega) BX81.out.size ?_
              intro g6_X82 c6_X82 X82 FPX82 TX82 GX82
              simp only [Nat.zero_add, List.nil_append] at FPX82 ⊢
              refine hK.out _ _ (BX81.out.trans (TX82.out.below (B := w8.heap.size) FEX81.out.2.1 FEX81.out.lt)) (fun hHeld => ?_)
              clear hK K
              try simp only [Act.put, List.setIfInBounds_toArray, List.set_cons_zero, List.set_cons_succ]
              have BX82 := Lib.hid hHeld
              have FAX82 := Lib.hid (FAX81.out.keep ((TX82.out).block _ FAX81.out.lt (by simp only [ne_eq, Option.some.injEq]; have h := ne_A_E; omega)))
              have FDX82 := Lib.hid (FDX81.out.keep ((TX82.out).block _ FDX81.out.lt (by simp only [ne_eq, Option.some.injEq]; have h := ne_D_E; omega)))
              have ne_P_A : g6_X82 ≠ X0.heap.size := fun h => by
                have h1 := GX82.out
                have h2 := FAX81.out.lt
                have h3 := ne_E_A
                omega
              have ne_A_P := ne_P_A.symm
              have ne_P_D : g6_X82 ≠ X75.heap.size := fun h => by
                have h1 := GX82.out
                have h2 := FDX81.out.lt
                have h3 := ne_E_D
                omega
              have ne_D_P := ne_P_D.symm
              refine wpAnyH_ready (rs := [9]) (by kernel_rfl) (by simp) ?_
              refine AllReadyH.cons (o := { dst := some 51, op := _, type := _, pos := _, after := _, guard := _ }) rfl (fun K hK => ?_) ?_
              · refine step_append_owns _ rfl (.tmp 48) (.tmp 50) 30 30 rfl w8.heap.size 26 i0' _ 32 32 Tryd.underlying30 hi hzz hz1' hz2' rfl g6_X82 m1 c6_X82 (flatD (path ds k)) rfl FPX82.out _ rfl 1 (bytesV d) (FDX82.out.src1 HDL.out) (by unfold maxLen; omega) (by omega) BX82.out.size ?_
                intro g9_X83 c9_X83 X83 FRX83 TX83 GX83
                refine hK.out _ _ (BX82.out.trans (TX83.out.below (B := w8.heap.size) FPX82.out.2.1 FPX82.out.lt)) (fun hHeld => ?_)
                clear hK K
                try simp only [Act.put, List.setIfInBounds_toArray, List.set_cons_zero, List.set_cons_succ]
                have BX83 := Lib.hid hHeld
                have FAX83 := Lib.hid (FAX82.out.keep ((TX83.out).block _ FAX82.out.lt (by simp only [ne_eq, Option.some.injEq]; have h := ne_A_P; omega)))
                have ne_R_A : g9_X83 ≠ X0.heap.size := fun h => by
                  have h1 := GX83.out
                  have h2 := FAX82.out.lt
                  have h3 := ne_P_A
                  omega
                have ne_A_R := ne_R_A.symm
                refine wpAnyH_ready (rs := [10]) (by kernel_rfl) (by simp) ?_
                refine AllReadyH.cons (o := { dst := some 52, op := _, type := _, pos := _, after := _, guard := _ }) rfl (fun K hK => ?_) ?_
                · go_simp
                  go_at_call 22
                  refine (HC2.out _ _ _).mono ?_
                  rintro e X84 ⟨⟨x, hx, rfl⟩, bX84⟩
                  have RX84 := Lib.hid (bX84)
                  go_wp2_with fail
                  refine hK.out _ _ (BX83.out.trans (RX84.out.mono BX83.out.size)) (fun hHeld => ?_)
                  clear hK K
                  try simp only [Act.put, List.setIfInBounds_toArray, List.set_cons_zero, List.set_cons_succ]
                  have BX84 := Lib.hid hHeld
                  have FAX84 := Lib.hid (FAX83.out.keep ((RX84.out).block _ FAX83.out.lt))
                  refine wpAnyH_take (i := 11) (oi := { dst := some 41, op := _, type := _, pos := _, after := _, guard := _ }) (v := ?_) rfl (by kernel_rfl) (by kernel_rfl) (by kernel_rfl) (fun _ _ _ h => h) (Or.inl ⟨by rfl, ?_⟩) (by assumption) ?_
                  rotate_left
                  · (intro w hSw; go_simp) <;> with_reducible rfl
                  try simp only [Act.put, List.setIfInBounds_toArray, List.set_cons_zero, List.set_cons_succ]
                  refine wpAnyH_take (i := 12) (oi := { dst := some 53, op := _, type := _, pos := _, after := _, guard := _ }) (v := ?_) rfl (by kernel_rfl) (by kernel_rfl) (by kernel_rfl) (fun _ _ _ h => h) (Or.inl ⟨by rfl, ?_⟩) (by assumption) ?_
                  rotate_left
                  · (intro w hSw; go_simp) <;> with_reducible rfl
                  try simp only [Act.put, List.setIfInBounds_toArray, List.set_cons_zero, List.set_cons_succ]
                  refine wpAnyH_take (i := 13) (oi := { dst := some 54, op := _, type := _, pos := _, after := _, guard := _ }) (v := ?_) rfl (by kernel_rfl) (by kernel_rfl) (by kernel_rfl) (fun _ _ _ h => h) (Or.inl ⟨by rfl, ?_⟩) (by assumption) ?_
                  rotate_left
                  · (intro w hSw; go_simp) <;> with_reducible rfl
                  try simp only [Act.put, List.setIfInBounds_toArray, List.set_cons_zero, List.set_cons_succ]
                  refine wpAnyH_ready (rs := [15]) (by kernel_rfl) (by simp) ?_
                  refine AllReadyH.cons (o := { dst := none, op := _, type := _, pos := _, after := _, guard := _ }) rfl (fun K hK => ?_) ?_
                  · have htX := FAX84.out.there x hx
                    have hlX := bytesV_one x
                    have hiX := dg_info x hx
                    have HsX := Lib.hid (setCells_row FAX84.out hx)
                    rw [if_pos (by rfl)]
                    refine wp_store_mid _ _ _ rfl _ _ (List.toArray _) rfl rfl ?_ ?_ (all_oneCell_toArray hlX) ?_
                    · first | assumption | (simp only [List.size_toArray, *] <;> assumption)
                    · (first | assumption | (simp only [List.size_toArray] <;> assumption) | (simp only [List.size_toArray, *]))
                    simp only [Act.put]
                    refine hK.out _ _ (by rw [HsX.out]; exact below_setRow BX84.out (BX0.out.size) _) (fun hHeld => ?_)
                    clear hK K
                    rw [HsX.out] at hHeld ⊢
                    have FAX85 : DRow (X84.setRow X0.heap.size (bytesV x).toArray) X0.heap.size x := FAX84.out.row _
                    clear htX hlX hiX HsX
                    generalize (X84.setRow X0.heap.size (bytesV x).toArray) = X85 at hHeld FAX85  ⊢
                    have BX85 := Lib.hid hHeld
                    replace FAX85 := Lib.hid FAX85
                    refine wpAnyH_take (i := 16) (oi := { dst := some 12, op := _, type := _, pos := _, after := _, guard := _ }) (v := ?_) rfl (by kernel_rfl) (by kernel_rfl) (by kernel_rfl) (fun _ _ _ h => h) (Or.inl ⟨by rfl, ?_⟩) (by assumption) ?_
                    rotate_left
                    · (intro w hSw; go_simp) <;> with_reducible rfl
                    try simp only [Act.put, List.setIfInBounds_toArray, List.set_cons_zero, List.set_cons_succ]
                    refine wpAnyH_done (by kernel_rfl) ?_ _
                    exact hfin _ _ _ _ _ _ _ _ _ BX85
                  exact AllReadyH.nil
                exact AllReadyH.nil
              exact AllReadyH.nil
            exact AllReadyH.nil
          exact AllReadyH.nil
        refine AllReadyH.cons (o := { dst := some 50, op := _, type := _, pos := _, after := _, guard := _ }) rfl (fun K hK => ?_) ?_
        · go_simp
          refine hK.out _ _ (hHeld.alloc hHeld.size _) (fun hHeld => ?_)
          clear hK K
          try simp only [Act.put, List.setIfInBounds_toArray, List.set_cons_zero, List.set_cons_succ]
          have FDX86 : DRow (X74.alloc (.cells (bytesV d).toArray 26)) X74.heap.size d := heap_alloc_new X74 _
          have RX86 : Below X74.heap.size X74 (X74.alloc (.cells (bytesV d).toArray 26)) := (Below.refl _ _).alloc (Nat.le_refl _) _
          generalize (X74.alloc (.cells (bytesV d).toArray 26)) = X86 at hHeld FDX86 RX86 ⊢
          have BX86 := Lib.hid hHeld
          replace FDX86 := Lib.hid FDX86
          replace RX86 := Lib.hid RX86
          have FAX86 := Lib.hid (FAX74.out.keep ((RX86.out).block _ FAX74.out.lt))
          have ne_D_A : X74.heap.size ≠ X0.heap.size := fun h => by have := FAX74.out.lt; omega
          have ne_A_D := ne_D_A.symm
          refine wpAnyH_ready (rs := [4]) (by kernel_rfl) (by simp) ?_
          refine AllReadyH.cons (o := { dst := some 46, op := _, type := _, pos := _, after := _, guard := _ }) rfl (fun K hK => ?_) ?_
          · go_simp
            refine hK.out _ _ (hHeld.alloc hHeld.size _) (fun hHeld => ?_)
            clear hK K
            try simp only [Act.put, List.setIfInBounds_toArray, List.set_cons_zero, List.set_cons_succ]
            have FEX87 : Owns (X86.alloc (.cells #[] 26)) w8.heap.size 26 32 X86.heap.size 0 0 [] := owns0 _ _ BX86.out.size
            have RX87 : Below X86.heap.size X86 (X86.alloc (.cells #[] 26)) := (Below.refl _ _).alloc (Nat.le_refl _) _
            generalize (X86.alloc (.cells #[] 26)) = X87 at hHeld FEX87 RX87 ⊢
            have BX87 := Lib.hid hHeld
            replace FEX87 := Lib.hid FEX87
            replace RX87 := Lib.hid RX87
            have FAX87 := Lib.hid (FAX86.out.keep ((RX87.out).block _ FAX86.out.lt))
            have FDX87 := Lib.hid (FDX86.out.keep ((RX87.out).block _ FDX86.out.lt))
            have ne_E_A : X86.heap.size ≠ X0.heap.size := fun h => by have := FAX86.out.lt; omega
            have ne_A_E := ne_E_A.symm
            have ne_E_D : X86.heap.size ≠ X74.heap.size := fun h => by have := FDX86.out.lt; omega
            have ne_D_E := ne_E_D.symm
            refine wpAnyH_ready (rs := [6]) (by kernel_rfl) (by simp) ?_
            refine AllReadyH.cons (o := { dst := some 48, op := _, type := _, pos := _, after := _, guard := _ }) rfl (fun K hK => ?_) ?_
            · refine step_append_owns _ rfl (.tmp 46) (.tmp 47) 30 30 rfl w8.heap.size 26 i0' _ 32 32 Tryd.underlying30 hi hzz hz1' hz2' rfl X86.heap.size 0 0 [] rfl FEX87.out _ rfl m1 (flatD (path ds k)) ((HR8.out.below BX87.out BX87.out.size).src) (by unfold maxLen; omega) (by omega) BX87.out.size ?_
              intro g6_X88 c6_X88 X88 FPX88 TX88 GX88
              simp only [Nat.zero_add, List.nil_append] at FPX88 ⊢
              refine hK.out _ _ (BX87.out.trans (TX88.out.below (B := w8.heap.size) FEX87.out.2.1 FEX87.out.lt)) (fun hHeld => ?_)
              clear hK K
              try simp only [Act.put, List.setIfInBounds_toArray, List.set_cons_zero, List.set_cons_succ]
              have BX88 := Lib.hid hHeld
              have FAX88 := Lib.hid (FAX87.out.keep ((TX88.out).block _ FAX87.out.lt (by simp only [ne_eq, Option.some.injEq]; have h := ne_A_E; omega)))
              have FDX88 := Lib.hid (FDX87.out.keep ((TX88.out).block _ FDX87.out.lt (by simp only [ne_eq, Option.some.injEq]; have h := ne_D_E; omega)))
              have ne_P_A : g6_X88 ≠ X0.heap.size := fun h => by
                have h1 := GX88.out
                have h2 := FAX87.out.lt
                have h3 := ne_E_A
                omega
              have ne_A_P := ne_P_A.symm
              have ne_P_D : g6_X88 ≠ X74.heap.size := fun h => by
                have h1 := GX88.out
                have h2 := FDX87.out.lt
                have h3 := ne_E_D
                omega
              have ne_D_P := ne_P_D.symm
              refine wpAnyH_ready (rs := [9]) (by kernel_rfl) (by simp) ?_
              refine AllReadyH.cons (o := { dst := some 51, op := _, type := _, pos := _, after := _, guard := _ }) rfl (fun K hK => ?_) ?_
              · refine step_append_owns _ rfl (.tmp 48) (.tmp 50) 30 30 rfl w8.heap.size 26 i0' _ 32 32 Tryd.underlying30 hi hzz hz1' hz2' rfl g6_X88 m1 c6_X88 (flatD (path ds k)) rfl FPX88.out _ rfl 1 (bytesV d) (FDX88.out.src1 HDL.out) (by unfold maxLen; omega) (by omega) BX88.out.size ?_
                intro g9_X89 c9_X89 X89 FRX89 TX89 GX89
                refine hK.out _ _ (BX88.out.trans (TX89.out.below (B := w8.heap.size) FPX88.out.2.1 FPX88.out.lt)) (fun hHeld => ?_)
                clear hK K
                try simp only [Act.put, List.setIfInBounds_toArray, List.set_cons_zero, List.set_cons_succ]
                have BX89 := Lib.hid hHeld
                have FAX89 := Lib.hid (FAX88.out.keep ((TX89.out).block _ FAX88.out.lt (by simp only [ne_eq, Option.some.injEq]; have h := ne_A_P; omega)))
                have ne_R_A : g9_X89 ≠ X0.heap.size := fun h => by
                  have h1 := GX89.out
                  have h2 := FAX88.out.lt
                  have h3 := ne_P_A
                  omega
                have ne_A_R := ne_R_A.symm
                refine wpAnyH_ready (rs := [10]) (by kernel_rfl) (by simp) ?_
                refine AllReadyH.cons (o := { dst := some 52, op := _, type := _, pos := _, after := _, guard := _ }) rfl (fun K hK => ?_) ?_
                · go_simp
                  go_at_call 22
                  refine (HC2.out _ _ _).mono ?_
                  rintro e X90 ⟨⟨x, hx, rfl⟩, bX90⟩
                  have RX90 := Lib.hid (bX90)
                  go_wp2_with fail
                  refine hK.out _ _ (BX89.out.trans (RX90.out.mono BX89.out.size)) (fun hHeld => ?_)
                  clear hK K
                  try simp only [Act.put, List.setIfInBounds_toArray, List.set_cons_zero, List.set_cons_succ]
                  have BX90 := Lib.hid hHeld
                  have FAX90 := Lib.hid (FAX89.out.keep ((RX90.out).block _ FAX89.out.lt))
                  refine wpAnyH_take (i := 11) (oi := { dst := some 41, op := _, type := _, pos := _, after := _, guard := _ }) (v := ?_) rfl (by kernel_rfl) (by kernel_rfl) (by kernel_rfl) (fun _ _ _ h => h) (Or.inl ⟨by rfl, ?_⟩) (by assumption) ?_
                  rotate_left
                  · (intro w hSw; go_simp) <;> with_reducible rfl
                  try simp only [Act.put, List.setIfInBounds_toArray, List.set_cons_zero, List.set_cons_succ]
                  refine wpAnyH_take (i := 12) (oi := { dst := some 53, op := _, type := _, pos := _, after := _, guard := _ }) (v := ?_) rfl (by kernel_rfl) (by kernel_rfl) (by kernel_rfl) (fun _ _ _ h => h) (Or.inl ⟨by rfl, ?_⟩) (by assumption) ?_
                  rotate_left
                  · (intro w hSw; go_simp) <;> with_reducible rfl
                  try simp only [Act.put, List.setIfInBounds_toArray, List.set_cons_zero, List.set_cons_succ]
                  refine wpAnyH_take (i := 13) (oi := { dst := some 54, op := _, type := _, pos := _, after := _, guard := _ }) (v := ?_) rfl (by kernel_rfl) (by kernel_rfl) (by kernel_rfl) (fun _ _ _ h => h) (Or.inl ⟨by rfl, ?_⟩) (by assumption) ?_
                  rotate_left
                  · (intro w hSw; go_simp) <;> with_reducible rfl
                  try simp only [Act.put, List.setIfInBounds_toArray, List.set_cons_zero, List.set_cons_succ]
                  refine wpAnyH_ready (rs := [15]) (by kernel_rfl) (by simp) ?_
                  refine AllReadyH.cons (o := { dst := none, op := _, type := _, pos := _, after := _, guard := _ }) rfl (fun K hK => ?_) ?_
                  · have htX := FAX90.out.there x hx
                    have hlX := bytesV_one x
                    have hiX := dg_info x hx
                    have HsX := Lib.hid (setCells_row FAX90.out hx)
                    rw [if_pos (by rfl)]
                    refine wp_store_mid _ _ _ rfl _ _ (List.toArray _) rfl rfl ?_ ?_ (all_oneCell_toArray hlX) ?_
                    · first | assumption | (simp only [List.size_toArray, *] <;> assumption)
                    · (first | assumption | (simp only [List.size_toArray] <;> assumption) | (simp only [List.size_toArray, *]))
                    simp only [Act.put]
                    refine hK.out _ _ (by rw [HsX.out]; exact below_setRow BX90.out (BX0.out.size) _) (fun hHeld => ?_)
                    clear hK K
                    rw [HsX.out] at hHeld ⊢
                    have FAX91 : DRow (X90.setRow X0.heap.size (bytesV x).toArray) X0.heap.size x := FAX90.out.row _
                    clear htX hlX hiX HsX
                    generalize (X90.setRow X0.heap.size (bytesV x).toArray) = X91 at hHeld FAX91  ⊢
                    have BX91 := Lib.hid hHeld
                    replace FAX91 := Lib.hid FAX91
                    refine wpAnyH_take (i := 16) (oi := { dst := some 12, op := _, type := _, pos := _, after := _, guard := _ }) (v := ?_) rfl (by kernel_rfl) (by kernel_rfl) (by kernel_rfl) (fun _ _ _ h => h) (Or.inl ⟨by rfl, ?_⟩) (by assumption) ?_
                    rotate_left
                    · (intro w hSw; go_simp) <;> with_reducible rfl
                    try simp only [Act.put, List.setIfInBounds_toArray, List.set_cons_zero, List.set_cons_succ]
                    refine wpAnyH_done (by kernel_rfl) ?_ _
                    exact hfin _ _ _ _ _ _ _ _ _ BX91
                  exact AllReadyH.nil
                exact AllReadyH.nil
              exact AllReadyH.nil
            exact AllReadyH.nil
          exact AllReadyH.nil
        exact AllReadyH.nil
      exact AllReadyH.nil
end Go.Proofs.YtfolmglafnfcbaaDoor
