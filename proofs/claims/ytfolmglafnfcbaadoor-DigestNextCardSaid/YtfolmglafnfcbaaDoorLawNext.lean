/- The law DigestNext, walked. -/
import Derived.Test.YtfolmglafnfcbaaDoorLawHalves
import Derived.Test.YtfolmglafnfcbaaDoorHand2
namespace Go.Proofs.YtfolmglafnfcbaaDoor
open Go.RowKit

set_option maxRecDepth 100000 in
set_option maxHeartbeats 8000000 in
theorem law_next (A : Option Addr) (n c : Nat) (bs : List UInt8) (d : D) (w : World) (hd : d.length = 32) (hr : RdB w w.heap.size A n bs) (hK : KOK w) :
    Calls Tryd.prog 8 #[.slice A n c, .agg (bytesV d).toArray] w fun e w' => e = .returned (.bool true) ∧ Below w.heap.size w w' := by
  have hK0 := hK.pos
  obtain ⟨w0, hw0⟩ : ∃ w0, w.alloc (.cells (bytesV d).toArray 26) = w0 := ⟨_, rfl⟩
  have hb0 : Below w.heap.size w w0 := by rw [← hw0]; exact (Below.refl _ _).alloc (Nat.le_refl _) _
  have hd0 : DRow w0 w.heap.size d := by rw [← hw0]; exact heap_alloc_new _ _
  have HW0 := Lib.hid hw0
  have HD0 := Lib.hid hd0
  have HDL := Lib.hid hd
  have B0 := Lib.hid hb0
  have HS := Lib.hid (sane_any w0 (hK.below hb0 hK0))
  have HR := Lib.hid hr
  have HK := Lib.hid hK
  clear hr hK hw0 hb0 hd0 hd
  go_enter Tryd.func8, Tryd.ntmps8
  go_wp2_with fail
  rw [HW0.out]
  refine HS.out.mono ?_
  rintro e w1 ⟨rfl, hb1⟩
  have B1 := Lib.hid (B0.out.trans (hb1.mono B0.out.size))
  have HD1 := Lib.hid (HD0.out.below hb1 HD0.out.lt)
  have HR1 := Lib.hid (HR.out.below B1.out B1.out.size)
  have z1 := B1.out.size
  clear hb1
  go_wp2_with fail
  refine (ds_any A n c bs w1 HR1.out).mono ?_
  rintro e w2 ⟨g, N, cap, rfl, hN, hO, hb2⟩
  have hN24 : N ≤ 24 := by omega
  have B2 := Lib.hid (B1.out.trans (hb2.mono z1))
  have HD2 := Lib.hid (HD1.out.below hb2 HD1.out.lt)
  have HO := Lib.hid hO
  have HK2 := Lib.hid (HK.out.below B2.out hK0)
  have z2 := hb2.size
  clear hN hO hb2 HR1 HR HD0 HD1 HS
  have hcap : N ≤ cap := HO.out.2.2.1
  have hcm : cap ≤ maxLen := HO.out.2.2.2.1
  obtain ⟨ds, hds⟩ : ∃ ds, ds = dsTo bs N := ⟨_, rfl⟩
  have hall : ∀ x ∈ ds, x.length = 32 := by rw [hds]; exact dsTo_all bs N
  have hlen : ds.length = N := by rw [hds]; exact dsTo_length bs N
  rw [← hds] at HO
  have hrd : RdD w2 w2.heap.size (some ⟨g, 0, none⟩) N ds := (OwnsN.rdd (.inr ⟨g, rfl, HO.out⟩) hall).1
  have HRD := Lib.hid hrd
  have HLEN := Lib.hid hlen
  have HALL := Lib.hid hall
  clear hds hrd hlen hall
  have hw2 : 0 < w2.heap.size := by omega
  have hgd : Tryd.prog.eqGuardType Tryd.prog.depth 26 = false := by kernel_rfl
  obtain ⟨iD, hiD, hzD, h1D, h2D⟩ := dg_parts
  obtain ⟨iB, hiB, hzB, h1B, h2B⟩ := info_parts byteInfo
  have hl5 : (bytesV d).length = 32 := by rw [bytesV_length]; exact HDL.out
  have hff := fold_zero d HDL.out
  have HLI := Lib.hid (dg_size d HDL.out)
  go_wp2_with fail
  go_loopw [6] (fun v wr => ∃ k : Nat, v = .int .i64 k ∧ 1 ≤ k ∧ k ≤ 48 ∧ Hid (∃ j, k = 2 ^ j) ∧ Hid (Below w2.heap.size w2 wr)) (fun v _ => 49 - (intOf v).toNat)
  case atStart => exact ⟨1, rfl, by omega, by omega, ⟨0, rfl⟩, Below.refl _ _⟩
  case round =>
    obtain ⟨k, rfl, hk1, hk48, HJ, HB⟩ := hrel
    by_cases hend : N < k
    · have h1 : ¬ (k : Int) ≤ (N : Int) := by omega
      have h2 : (N : Int) < (k : Int) := by omega
      go_wp2_with fail
      go_ret
      exact ⟨rfl, B2.out.trans (HB.out.mono B2.out.size)⟩
    have hkN : k ≤ N := by omega
    have hkN' : (k : Int) ≤ (N : Int) := by omega
    have hk48' : 2 * k ≤ 48 := by omega
    have i0 : (0 : Int) ≤ (k : Int) := by omega
    have i2 : (k : Int) ≤ (cap : Int) := by omega
    have i3 : (N : Int) ≤ (cap : Int) := by omega
    obtain ⟨L, hL⟩ : ∃ L, L = tree (ds.take k) := ⟨_, rfl⟩
    obtain ⟨R, hR⟩ : ∃ R, R = tree [d] := ⟨_, rfl⟩
    obtain ⟨es, hes⟩ : ∃ es, es = ds.take k ++ [d] := ⟨_, rfl⟩
    obtain ⟨t, ht⟩ : ∃ t, t = tree es := ⟨_, rfl⟩
    have hLl : L.length = 32 := by rw [hL]; exact tree_length _
    have hRl : R.length = 32 := by rw [hR]; exact tree_length _
    have htl : t.length = 32 := by rw [ht]; exact tree_length _
    have htk : (ds.take k).length = k := by rw [List.length_take, HLEN.out]; omega
    have hel : es.length = k + 1 := by rw [hes, List.length_append, htk]; rfl
    have hhalf : half es.length = k := by
      obtain ⟨j, hj⟩ := HJ.out
      exact (half_uniq es.length k j (by omega) (by omega) hj (by omega) (by omega)).symm
    have etk : es.take k = ds.take k := by rw [hes, List.take_append_of_le_length (by omega), List.take_of_length_le (by omega)]
    have edk : es.drop k = [d] := by rw [hes, List.drop_append_of_le_length (by omega), List.drop_of_length_le (by omega)]; rfl
    have hnode : tagged [110, 111, 100, 101] (L ++ R) = t := by
      have h := tree_node es (by omega) (by omega)
      rw [hhalf, etk, edk, ← hL, ← hR, ← ht] at h
      exact h.symm
    have hpath : path es k = [L] := by
      have h := path_right es k (by omega) (by omega) (by omega)
      rw [hhalf, etk, edk, ← hL, path_one] at h
      exact h
    have hsteps : Go.Proofs.YtfolmglafnfcbaaDoor.steps k (k + 1) = 1 := by
      have h := path_length es.length es k (Nat.le_refl _) (by omega) (by omega)
      rw [hpath, hel] at h
      exact h.symm
    have hesall : ∀ x ∈ es, x.length = 32 := by
      intro x hx
      rw [hes] at hx
      rcases List.mem_append.1 hx with h | h
      · exact HALL.out x (List.mem_of_mem_take h)
      · rw [List.mem_singleton.1 h]; exact HDL.out
    have HNODE := Lib.hid hnode
    have HPATH := Lib.hid hpath
    have HL := Lib.hid hL
    have HRR := Lib.hid hR
    have HT := Lib.hid ht
    have HES := Lib.hid hes
    have HEL := Lib.hid hel
    have HLl := Lib.hid hLl
    have HRl := Lib.hid hRl
    have HTl := Lib.hid htl
    have HEA := Lib.hid hesall
    have HTK := Lib.hid htk
    clear hL hR ht hes hLl hRl htl htk hel hhalf etk edk hnode hpath hsteps hesall hend
    have hb := HB.out
    have zr := hb.size
    have HKr := Lib.hid (HK2.out.below hb hw2)
    have HDr := Lib.hid (HD2.out.below hb HD2.out.lt)
    have HRDr := Lib.hid (HRD.out.below hb hb.size)
    have hcc : k ≤ cap := by omega
    have HTLc : Hid (∀ u, Below wr.heap.size wr u → Calls Tryd.prog 17 #[.slice (some ⟨g, 0, none⟩) k cap] u fun e u' => e = .returned (.agg (bytesV L).toArray) ∧ Below u.heap.size u u') := fun u hu => by
      rw [HL.out]
      exact tree_any (some ⟨g, 0, none⟩) k cap _ u ((HRDr.out.take hkN).below hu hu.size) (by omega) hcc hcm (HKr.out.below hu (by omega))
    have HTRc : Hid (∀ (u : World) (q : Nat), Below wr.heap.size wr u → DRow u q d → Calls Tryd.prog 17 #[.slice (some ⟨q, 0, none⟩) 1 1] u fun e u' => e = .returned (.agg (bytesV R).toArray) ∧ Below u.heap.size u u') := fun u q hu hq => by
      rw [HRR.out]
      exact tree_any (some ⟨q, 0, none⟩) 1 1 [d] u (hq.rdd1 HDL.out) (by omega) (by omega) (by unfold maxLen; omega) (HKr.out.below hu (by omega))
    clear hb
    go_wp2_with fail
    refine wp_region_held_drew (S := fun u => Below wr.heap.size wr u) (by kernel_rfl) (Below.refl _ _).drew (fun hHeld => ?_)
    generalize wr.drew = X0 at hHeld ⊢
    have BX0 := Lib.hid hHeld
    refine wpAnyH_take (i := 0) (oi := ⟨some 22, _, _, _, _, _⟩) (v := ?_) rfl (by kernel_rfl) (by kernel_rfl) (by kernel_rfl) (fun _ _ _ h => h) (Or.inl ⟨by rfl, ?_⟩) (by assumption) ?_
    rotate_left
    · (intro w hSw; go_simp) <;> with_reducible rfl
    try simp only [Act.put, List.setIfInBounds_toArray, List.set_cons_zero, List.set_cons_succ]
    refine wpAnyH_take (i := 1) (oi := ⟨some 23, _, _, _, _, _⟩) (v := ?_) rfl (by kernel_rfl) (by kernel_rfl) (by kernel_rfl) (fun _ _ _ h => h) (Or.inl ⟨by rfl, ?_⟩) (by assumption) ?_
    rotate_left
    · (intro w hSw; go_simp) <;> with_reducible rfl
    try simp only [Act.put, List.setIfInBounds_toArray, List.set_cons_zero, List.set_cons_succ]
    refine wpAnyH_take (i := 2) (oi := ⟨some 24, _, _, _, _, _⟩) (v := ?_) rfl (by kernel_rfl) (by kernel_rfl) (by kernel_rfl) (fun _ _ _ h => h) (Or.inl ⟨by rfl, ?_⟩) (by assumption) ?_
    rotate_left
    · (intro w hSw; go_simp) <;> with_reducible rfl
    try simp only [Act.put, List.setIfInBounds_toArray, List.set_cons_zero, List.set_cons_succ]
    refine wpAnyH_take (i := 4) (oi := ⟨some 26, _, _, _, _, _⟩) rfl (by kernel_rfl) (by kernel_rfl) (by kernel_rfl) (fun _ _ _ h => h) (yieldsIf_load_mid (by rfl) _ _ rfl w.heap.size 0 rfl _ _ (fun w' h => range_below (DRow.range HDr.out) h HDr.out.lt) Tryd.underlying26 rfl HLI.out) (by assumption) ?_
    try simp only [Act.put, List.setIfInBounds_toArray, List.set_cons_zero, List.set_cons_succ]
    show wpAnyH _ _ _ ?Qhfin7 _ _ _ ?ahfin7 _
    have hfin7 : ∀ (v25 v27 v28 : Value) (p q : Nat) (u : World), p ≠ q → Hid (DRow u p L) → Hid (DRow u q R) → Hid (Below wr.heap.size wr u) → ?Qhfin7 .normal (Act.put (Act.put (Act.put (Act.put (Act.put ?ahfin7 (some 25) v25) (some 27) v27) (some 28) v28) (some 7) (.pointer (some ⟨p, 0, none⟩))) (some 8) (.pointer (some ⟨q, 0, none⟩))) u := by
      intro v25 v27 v28 p q w7 hpq HP7 HQ7 HB7
      simp only [Act.put, List.setIfInBounds_toArray, List.set_cons_zero, List.set_cons_succ]
      clear hHeld
      go_wp2_with fail
      have HB27 : Hid (Below w2.heap.size w2 w7) := HB.out.trans (HB7.out.mono HB.out.size)
      have HRD8 := Lib.hid (HRD.out.below HB27.out HB27.out.size)
      have HD8 := Lib.hid (HD2.out.below HB27.out HD2.out.lt)
      refine wp_region_held_drew (S := fun u => Below w7.heap.size w7 u) (by kernel_rfl) (Below.refl _ _).drew (fun hHeld => ?_)
      generalize w7.drew = X300 at hHeld ⊢
      have BX300 := Lib.hid hHeld
      refine wpAnyH_take (i := 1) (oi := ⟨some 30, _, _, _, _, _⟩) (v := ?_) rfl (by kernel_rfl) (by kernel_rfl) (by kernel_rfl) (fun _ _ _ h => h) (Or.inl ⟨by rfl, ?_⟩) (by assumption) ?_
      rotate_left
      · (intro w hSw; go_simp) <;> with_reducible rfl
      try simp only [Act.put, List.setIfInBounds_toArray, List.set_cons_zero, List.set_cons_succ]
      refine wpAnyH_take (i := 2) (oi := ⟨some 31, _, _, _, _, _⟩) (v := ?_) rfl (by kernel_rfl) (by kernel_rfl) (by kernel_rfl) (fun _ _ _ h => h) (Or.inl ⟨by rfl, ?_⟩) (by assumption) ?_
      rotate_left
      · (intro w hSw; go_simp) <;> with_reducible rfl
      try simp only [Act.put, List.setIfInBounds_toArray, List.set_cons_zero, List.set_cons_succ]
      refine wpAnyH_take (i := 3) (oi := ⟨some 32, _, _, _, _, _⟩) (v := ?_) rfl (by kernel_rfl) (by kernel_rfl) (by kernel_rfl) (fun _ _ _ h => h) (Or.inl ⟨by rfl, ?_⟩) (by assumption) ?_
      rotate_left
      · (intro w hSw; go_simp) <;> with_reducible rfl
      try simp only [Act.put, List.setIfInBounds_toArray, List.set_cons_zero, List.set_cons_succ]
      refine wpAnyH_take (i := 5) (oi := ⟨some 34, _, _, _, _, _⟩) rfl (by kernel_rfl) (by kernel_rfl) (by kernel_rfl) (fun _ _ _ h => h) (yieldsIf_load_mid (by rfl) _ _ rfl w.heap.size 0 rfl _ _ (fun w' h => range_below (DRow.range HD8.out) h HD8.out.lt) Tryd.underlying26 rfl HLI.out) (by assumption) ?_
      try simp only [Act.put, List.setIfInBounds_toArray, List.set_cons_zero, List.set_cons_succ]
      show wpAnyH _ _ _ ?Qhfin8 _ _ _ ?ahfin8 _
      have hfin8 : ∀ (v29 v33 v35 : Value) (gl cl : Nat) (u : World), Hid (Owns u w7.heap.size 26 32 gl (k + 1) cl (flatD (ds.take k) ++ bytesV d)) → Hid (Below w7.heap.size w7 u) → ?Qhfin8 .normal (Act.put (Act.put (Act.put (Act.put (Act.put ?ahfin8 (some 29) v29) (some 33) v33) (some 35) v35) (some 36) (.slice (some ⟨gl, 0, none⟩) (k + 1) cl)) (some 9) (.slice (some ⟨gl, 0, none⟩) (k + 1) cl)) u := by
        intro v29 v33 v35 gl cl u HOW HBB
        simp only [Act.put, List.setIfInBounds_toArray, List.set_cons_zero, List.set_cons_succ]
        clear hHeld
        have HB28 : Hid (Below w2.heap.size w2 u) := HB27.out.trans (HBB.out.mono HB27.out.size)
        have z8 : w2.heap.size ≤ u.heap.size := HB28.out.size
        have HK8 := Lib.hid (HK2.out.below HB28.out hw2)
        have HP8 := Lib.hid (HP7.out.below HBB.out HP7.out.lt)
        have HQ8 := Lib.hid (HQ7.out.below HBB.out HQ7.out.lt)
        have how := HOW.out
        rw [← flatD_one, ← flatD_append, ← HES.out] at how
        obtain ⟨hre, hcl, hclm⟩ := OwnsN.rdd (.inr ⟨gl, rfl, how⟩) HEA.out
        have HRE := Lib.hid hre
        have HPX := Lib.hid (pathX_any (some ⟨gl, 0, none⟩) (k + 1) cl k es u hre (by omega) (by omega) hcl hclm HK8.out)
        clear hre how
        go_wp2_with fail
        refine HPX.out.mono ?_
        rintro e w9 ⟨A1, m1, cap1, rfl, HO9, hb9⟩
        rw [HPATH.out] at HO9
        obtain ⟨g1, rfl, ho1⟩ : ∃ g1, A1 = some ⟨g1, 0, none⟩ ∧ Owns w9 u.heap.size 26 32 g1 m1 cap1 (flatD [L]) := by
          rcases HO9 with ⟨_, _, _, h⟩ | h
          · rw [flatD_one] at h
            have h' := congrArg List.length h
            rw [bytesV_length, HLl.out] at h'
            cases h'
          · exact h
        have hm1 : m1 = 1 := by
          have h := ho1.1
          rw [flatD_one, bytesV_length, HLl.out] at h
          omega
        subst hm1
        have HP0 : Hid (w9.rangeAt g1 0 (bytesV L)) := fun j v hv => by
          rw [Nat.zero_add]
          exact ho1.cell j v (by rw [flatD_one]; exact hv)
        have hg1 : g1 < w9.heap.size := ho1.lt
        have HB89 : Hid (Below u.heap.size u w9) := hb9
        clear ho1 HO9 hb9 HPX
        go_wp2_with fail
        have HP9 := Lib.hid (HP8.out.below HB89.out HP8.out.lt)
        have HQ9 := Lib.hid (HQ8.out.below HB89.out HQ8.out.lt)
        have HK9 := Lib.hid (HK8.out.below HB89.out (by have h := z8; omega))
        have z9 := HB89.out.size
        have hz9 : 0 < w9.heap.size := by have h := z8; omega
        have HB29 := Lib.hid (HB28.out.trans (HB89.out.mono HB28.out.size))
        have HRE9 := Lib.hid (HRE.out.below (B' := w9.heap.size) HB89.out z9)
        have HLL := Lib.hid (dg_size L HLl.out)
        have hneT : ∀ u : World, (binOp .neq 26 (.agg (bytesV t).toArray) (.agg (bytesV t).toArray)).run Tryd.prog u = .ok (.bool false) u := fun u => by rw [run_neq_dg u t t HTl.out HTl.out, beq_self_eq_true]; rfl
        have hneL : ∀ u : World, (binOp .neq 26 (.agg (bytesV L).toArray) (.agg (bytesV L).toArray)).run Tryd.prog u = .ok (.bool false) u := fun u => by rw [run_neq_dg u L L HLl.out HLl.out, beq_self_eq_true]; rfl
        have HTT : Hid (∀ u, Below w9.heap.size w9 u → Calls Tryd.prog 17 #[.slice (some ⟨gl, 0, none⟩) (k + 1) cl] u fun e u' => e = .returned (.agg (bytesV t).toArray) ∧ Below u.heap.size u u') := fun u hu => by
          rw [HT.out]
          exact tree_any (some ⟨gl, 0, none⟩) (k + 1) cl es u (HRE9.out.below hu hu.size) (by omega) hcl hclm (HK9.out.below hu hz9)
        have HS1 : Hid (∀ u, Below w9.heap.size w9 u → Src Tryd.prog 1 22 (.slice (some ⟨p, 0, none⟩) 32 32) 32 (bytesV L) u) := fun u hb => ((HP9.out.below hb HP9.out.lt).rdb (B := w9.heap.size) HP9.out.lt HLl.out.symm).srcA
        have HS2 : Hid (∀ u, Below w9.heap.size w9 u → Src Tryd.prog 1 22 (.slice (some ⟨q, 0, none⟩) 32 32) 32 (bytesV R) u) := fun u hb => ((HQ9.out.below hb HQ9.out.lt).rdb (B := w9.heap.size) HQ9.out.lt HRl.out.symm).srcA
        have HTG : Hid (∀ (u : World) (g' cap' : Nat), Below w9.heap.size w9 u → Owns u w9.heap.size 5 1 g' (32 + 32) cap' (bytesV L ++ bytesV R) → Calls Tryd.prog 14 #[.string ⟨#[110, 111, 100, 101]⟩, .slice (some ⟨g', 0, none⟩) (32 + 32) cap'] u fun e u' => e = .returned (.agg (bytesV t).toArray) ∧ Below u.heap.size u u') := fun u g' cap' hb ho => by
          rw [← HNODE.out]
          rw [← bytesV_append] at ho
          have ho' : OwnB u w9.heap.size g' (32 + 32) cap' (L ++ R) := ho
          exact tagged_any ⟨#[110, 111, 100, 101]⟩ _ _ _ (L ++ R) u (by show (4 : Nat) ≤ _; omega) (ho'.rdb ho'.lt) (by omega) (HK9.out.below hb hz9)
        refine wp_region_held_drew (S := fun u => Below w9.heap.size w9 u) (by kernel_rfl) (Below.refl _ _).drew (fun hHeld => ?_)
        generalize w9.drew = X400 at hHeld ⊢
        have BX400 := Lib.hid hHeld
        refine wpAnyH_take (i := 0) (oi := ⟨some 43, _, _, _, _, _⟩) (v := ?_) rfl (by kernel_rfl) (by kernel_rfl) (by kernel_rfl) (fun _ _ _ h => h) (Or.inl ⟨by rfl, ?_⟩) (by assumption) ?_
        rotate_left
        · (intro w hSw; go_simp) <;> with_reducible rfl
        try simp only [Act.put, List.setIfInBounds_toArray, List.set_cons_zero, List.set_cons_succ]
        refine wpAnyH_take (i := 3) (oi := ⟨some 46, _, _, _, _, _⟩) (v := ?_) rfl (by kernel_rfl) (by kernel_rfl) (by kernel_rfl) (fun _ _ _ h => h) (Or.inl ⟨by rfl, ?_⟩) (by assumption) ?_
        rotate_left
        · (intro w hSw; go_simp) <;> with_reducible rfl
        try simp only [Act.put, List.setIfInBounds_toArray, List.set_cons_zero, List.set_cons_succ]
        refine wpAnyH_take (i := 5) (oi := ⟨some 48, _, _, _, _, _⟩) (v := ?_) rfl (by kernel_rfl) (by kernel_rfl) (by kernel_rfl) (fun _ _ _ h => h) (Or.inl ⟨by rfl, ?_⟩) (by assumption) ?_
        rotate_left
        · (intro w hSw; go_simp) <;> with_reducible rfl
        try simp only [Act.put, List.setIfInBounds_toArray, List.set_cons_zero, List.set_cons_succ]
        show wpAnyH _ _ _ ?Qhfin10 _ _ _ ?ahfin10 _
        have hfin10 : ∀ (v44 v45 v47 v49 v50 v51 v52 v53 v54 v55 v56 v57 v58 v59 v60 v61 v62 v63 v64 v65 v66 : Value) (u : World), Hid (Below w9.heap.size w9 u) → ?Qhfin10 .normal (Act.put (Act.put (Act.put (Act.put (Act.put (Act.put (Act.put (Act.put (Act.put (Act.put (Act.put (Act.put (Act.put (Act.put (Act.put (Act.put (Act.put (Act.put (Act.put (Act.put (Act.put (Act.put ?ahfin10 (some 44) v44) (some 45) v45) (some 47) v47) (some 49) v49) (some 50) v50) (some 51) v51) (some 52) v52) (some 53) v53) (some 54) v54) (some 55) v55) (some 56) v56) (some 57) v57) (some 58) v58) (some 59) v59) (some 60) v60) (some 61) v61) (some 62) v62) (some 63) v63) (some 64) v64) (some 65) v65) (some 66) v66) (some 67) (.bool false)) u := by
          intro v44 v45 v47 v49 v50 v51 v52 v53 v54 v55 v56 v57 v58 v59 v60 v61 v62 v63 v64 v65 v66 u HBB
          simp only [Act.put, List.setIfInBounds_toArray, List.set_cons_zero, List.set_cons_succ]
          clear hHeld
          have HBW : Hid (Below w2.heap.size w2 u) := HB29.out.trans (HBB.out.mono HB29.out.size)
          go_wp2_with fail
          go_roundw
          case rel =>
            refine ⟨k * 2, by go_num, by omega, by omega, ?_, HBW⟩
            obtain ⟨j, hj⟩ := HJ.out
            exact ⟨j + 1, by rw [hj, Nat.pow_succ]⟩
          case measure => simp [intOf]; omega
        simp only [Act.put, List.setIfInBounds_toArray, List.set_cons_zero, List.set_cons_succ] at hfin10
        refine wpAnyH_ready (rs := [1, 2]) (by kernel_rfl) (by simp) ?_
        refine AllReadyH.cons (o := ⟨some 44, _, _, _, _, _⟩) rfl (fun K hK => ?_) ?_
        · go_simp
          go_at_call 17
          refine (HTT.out _ BX400.out).mono ?_
          rintro e X401 ⟨rfl, bX401⟩
          have RX401 := Lib.hid (bX401)
          go_wp2_with fail
          refine hK.out _ _ (BX400.out.trans (RX401.out.mono BX400.out.size)) (fun hHeld => ?_)
          clear hK K
          try simp only [Act.put, List.setIfInBounds_toArray, List.set_cons_zero, List.set_cons_succ]
          have BX401 := Lib.hid hHeld
          refine wpAnyH_ready (rs := [2]) (by kernel_rfl) (by simp) ?_
          refine AllReadyH.cons (o := ⟨some 45, _, _, _, _, _⟩) rfl (fun K hK => ?_) ?_
          · go_simp
            refine hK.out _ _ (hHeld.alloc hHeld.size _) (fun hHeld => ?_)
            clear hK K
            try simp only [Act.put, List.setIfInBounds_toArray, List.set_cons_zero, List.set_cons_succ]
            have FEX402 : Owns (X401.alloc (.cells #[] 5)) w9.heap.size 5 1 X401.heap.size 0 0 [] := owns0 _ _ BX401.out.size
            have RX402 : Below X401.heap.size X401 (X401.alloc (.cells #[] 5)) := (Below.refl _ _).alloc (Nat.le_refl _) _
            generalize (X401.alloc (.cells #[] 5)) = X402 at hHeld FEX402 RX402 ⊢
            have BX402 := Lib.hid hHeld
            replace FEX402 := Lib.hid FEX402
            replace RX402 := Lib.hid RX402
            refine wpAnyH_ready (rs := [4]) (by kernel_rfl) (by simp) ?_
            refine AllReadyH.cons (o := ⟨some 47, _, _, _, _, _⟩) rfl (fun K hK => ?_) ?_
            · refine step_append_owns _ rfl (.tmp 45) (.tmp 46) 22 22 rfl w9.heap.size 5 iB _ 1 1 Tryd.underlying22 hiB hzB h1B h2B rfl X401.heap.size 0 0 [] rfl FEX402.out _ rfl 32 (bytesV L) (HS1.out _ BX402.out) (by unfold maxLen; omega) (by omega) BX402.out.size ?_
              intro g4_X403 c4_X403 X403 FMX403 TX403 GX403
              simp only [Nat.zero_add, List.nil_append] at FMX403 ⊢
              refine hK.out _ _ (BX402.out.trans (TX403.out.below (B := w9.heap.size) FEX402.out.2.1 FEX402.out.lt)) (fun hHeld => ?_)
              clear hK K
              try simp only [Act.put, List.setIfInBounds_toArray, List.set_cons_zero, List.set_cons_succ]
              have BX403 := Lib.hid hHeld
              refine wpAnyH_ready (rs := [6]) (by kernel_rfl) (by simp) ?_
              refine AllReadyH.cons (o := ⟨some 49, _, _, _, _, _⟩) rfl (fun K hK => ?_) ?_
              · refine step_append_owns _ rfl (.tmp 47) (.tmp 48) 22 22 rfl w9.heap.size 5 iB _ 1 1 Tryd.underlying22 hiB hzB h1B h2B rfl g4_X403 32 c4_X403 (bytesV L) rfl FMX403.out _ rfl 32 (bytesV R) (HS2.out _ BX403.out) (by unfold maxLen; omega) (by omega) BX403.out.size ?_
                intro g6_X404 c6_X404 X404 FRX404 TX404 GX404
                refine hK.out _ _ (BX403.out.trans (TX404.out.below (B := w9.heap.size) FMX403.out.2.1 FMX403.out.lt)) (fun hHeld => ?_)
                clear hK K
                try simp only [Act.put, List.setIfInBounds_toArray, List.set_cons_zero, List.set_cons_succ]
                have BX404 := Lib.hid hHeld
                refine wpAnyH_ready (rs := [7]) (by kernel_rfl) (by simp) ?_
                refine AllReadyH.cons (o := ⟨some 50, _, _, _, _, _⟩) rfl (fun K hK => ?_) ?_
                · go_simp
                  go_at_call 14
                  refine (HTG.out _ _ _ BX404.out FRX404.out).mono ?_
                  rintro e X405 ⟨rfl, bX405⟩
                  have RX405 := Lib.hid (bX405)
                  go_wp2_with fail
                  refine hK.out _ _ (BX404.out.trans (RX405.out.mono BX404.out.size)) (fun hHeld => ?_)
                  clear hK K
                  try simp only [Act.put, List.setIfInBounds_toArray, List.set_cons_zero, List.set_cons_succ]
                  have BX405 := Lib.hid hHeld
                  refine wpAnyH_take (i := 8) (oi := ⟨some 51, _, _, _, _, _⟩) (v := ?_) rfl (by kernel_rfl) (by kernel_rfl) (by kernel_rfl) (fun _ _ _ h => h) (Or.inl ⟨by rfl, ?_⟩) (by assumption) ?_
                  rotate_left
                  · (intro w hSw; go_simp) <;> with_reducible rfl
                  try simp only [Act.put, List.setIfInBounds_toArray, List.set_cons_zero, List.set_cons_succ]
                  refine wpAnyH_take (i := 9) (oi := ⟨some 52, _, _, _, _, _⟩) (v := ?_) rfl (by kernel_rfl) (by kernel_rfl) (by kernel_rfl) (fun _ _ _ h => h) (Or.inl ⟨by rfl, ?_⟩) (by assumption) ?_
                  rotate_left
                  · (intro w hSw; go_simp) <;> with_reducible rfl
                  try simp only [Act.put, List.setIfInBounds_toArray, List.set_cons_zero, List.set_cons_succ]
                  refine wpAnyH_take (i := 10) (oi := ⟨some 53, _, _, _, _, _⟩) (v := ?_) rfl (by kernel_rfl) (by kernel_rfl) (by kernel_rfl) (fun _ _ _ h => h) (Or.inl ⟨by rfl, ?_⟩) (by assumption) ?_
                  rotate_left
                  · (intro w hSw; go_simp) <;> with_reducible rfl
                  try simp only [Act.put, List.setIfInBounds_toArray, List.set_cons_zero, List.set_cons_succ]
                  refine wpAnyH_take (i := 11) (oi := ⟨some 54, _, _, _, _, _⟩) (v := ?_) rfl (by kernel_rfl) (by kernel_rfl) (by kernel_rfl) (fun _ _ _ h => h) (Or.inl ⟨by rfl, ?_⟩) (by assumption) ?_
                  rotate_left
                  · (intro w hSw; go_simp) <;> with_reducible rfl
                  try simp only [Act.put, List.setIfInBounds_toArray, List.set_cons_zero, List.set_cons_succ]
                  refine wpAnyH_take (i := 12) (oi := ⟨some 55, _, _, _, _, _⟩) (v := ?_) rfl (by kernel_rfl) (by kernel_rfl) (by kernel_rfl) (fun _ _ _ h => h) (Or.inl ⟨by rfl, ?_⟩) (by assumption) ?_
                  rotate_left
                  · (intro w hSw; go_simp) <;> with_reducible rfl
                  try simp only [Act.put, List.setIfInBounds_toArray, List.set_cons_zero, List.set_cons_succ]
                  refine wpAnyH_take (i := 13) (oi := ⟨some 56, _, _, _, _, _⟩) (v := ?_) rfl (by kernel_rfl) (by kernel_rfl) (by kernel_rfl) (fun _ _ _ h => h) (Or.inl ⟨by rfl, ?_⟩) (by assumption) ?_
                  rotate_left
                  · (intro w hSw; go_simp) <;> with_reducible rfl
                  try simp only [Act.put, List.setIfInBounds_toArray, List.set_cons_zero, List.set_cons_succ]
                  refine wpAnyH_take (i := 14) (oi := ⟨some 57, _, _, _, _, _⟩) (v := ?_) rfl (by kernel_rfl) (by kernel_rfl) (by kernel_rfl) (fun _ _ _ h => h) (Or.inl ⟨by rfl, ?_⟩) (by assumption) ?_
                  rotate_left
                  · (intro w hSw; go_simp) <;> with_reducible rfl
                  try simp only [Act.put, List.setIfInBounds_toArray, List.set_cons_zero, List.set_cons_succ]
                  refine wpAnyH_take (i := 15) (oi := ⟨some 58, _, _, _, _, _⟩) (v := ?_) rfl (by kernel_rfl) (by kernel_rfl) (by kernel_rfl) (fun _ _ _ h => h) (Or.inl ⟨by rfl, ?_⟩) (by assumption) ?_
                  rotate_left
                  · (intro w hSw; go_simp) <;> with_reducible rfl
                  try simp only [Act.put, List.setIfInBounds_toArray, List.set_cons_zero, List.set_cons_succ]
                  refine wpAnyH_take (i := 16) (oi := ⟨some 59, _, _, _, _, _⟩) (v := ?_) rfl (by kernel_rfl) (by kernel_rfl) (by kernel_rfl) (fun _ _ _ h => h) (Or.inl ⟨by rfl, ?_⟩) (by assumption) ?_
                  rotate_left
                  · (intro w hSw; go_simp) <;> with_reducible rfl
                  try simp only [Act.put, List.setIfInBounds_toArray, List.set_cons_zero, List.set_cons_succ]
                  refine wpAnyH_take (i := 17) (oi := ⟨some 60, _, _, _, _, _⟩) (v := ?_) rfl (by kernel_rfl) (by kernel_rfl) (by kernel_rfl) (fun _ _ _ h => h) (Or.inl ⟨by rfl, ?_⟩) (by assumption) ?_
                  rotate_left
                  · (intro w hSw; go_simp) <;> with_reducible rfl
                  try simp only [Act.put, List.setIfInBounds_toArray, List.set_cons_zero, List.set_cons_succ]
                  refine wpAnyH_take (i := 18) (oi := ⟨some 61, _, _, _, _, _⟩) (v := ?_) rfl (by kernel_rfl) (by kernel_rfl) (by kernel_rfl) (fun _ _ _ h => h) (Or.inl ⟨by rfl, ?_⟩) (by assumption) ?_
                  rotate_left
                  · (intro w hSw; go_simp) <;> with_reducible rfl
                  try simp only [Act.put, List.setIfInBounds_toArray, List.set_cons_zero, List.set_cons_succ]
                  refine wpAnyH_take (i := 19) (oi := ⟨some 62, _, _, _, _, _⟩) (v := ?_) rfl (by kernel_rfl) (by kernel_rfl) (by kernel_rfl) (fun _ _ _ h => h) (Or.inl ⟨by rfl, ?_⟩) (by assumption) ?_
                  rotate_left
                  · (intro w hSw; go_simp) <;> with_reducible rfl
                  try simp only [Act.put, List.setIfInBounds_toArray, List.set_cons_zero, List.set_cons_succ]
                  refine wpAnyH_take (i := 20) (oi := ⟨some 63, _, _, _, _, _⟩) (v := ?_) rfl (by kernel_rfl) (by kernel_rfl) (by kernel_rfl) (fun _ _ _ h => h) (Or.inl ⟨by rfl, ?_⟩) (by assumption) ?_
                  rotate_left
                  · (intro w hSw; go_simp) <;> with_reducible rfl
                  try simp only [Act.put, List.setIfInBounds_toArray, List.set_cons_zero, List.set_cons_succ]
                  refine wpAnyH_take (i := 21) (oi := ⟨some 64, _, _, _, _, _⟩) rfl (by kernel_rfl) (by kernel_rfl) (by kernel_rfl) (fun _ _ _ h => h) (yieldsIf_load_mid (by rfl) _ _ rfl g1 0 rfl _ _ (fun w' h => range_below HP0.out h hg1) Tryd.underlying26 rfl HLL.out) (by assumption) ?_
                  try simp only [Act.put, List.setIfInBounds_toArray, List.set_cons_zero, List.set_cons_succ]
                  refine wpAnyH_take (i := 22) (oi := ⟨some 65, _, _, _, _, _⟩) rfl (by kernel_rfl) (by kernel_rfl) (by kernel_rfl) (fun _ _ _ h => h) (yieldsIf_load_mid (by rfl) _ _ rfl p 0 rfl _ _ (fun w' h => range_below (DRow.range HP9.out) h HP9.out.lt) Tryd.underlying26 rfl HLL.out) (by assumption) ?_
                  try simp only [Act.put, List.setIfInBounds_toArray, List.set_cons_zero, List.set_cons_succ]
                  refine wpAnyH_take (i := 23) (oi := ⟨some 66, _, _, _, _, _⟩) (v := ?_) rfl (by kernel_rfl) (by kernel_rfl) (by kernel_rfl) (fun _ _ _ h => h) (Or.inl ⟨by rfl, ?_⟩) (by assumption) ?_
                  rotate_left
                  · (intro w hSw; go_simp) <;> with_reducible rfl
                  try simp only [Act.put, List.setIfInBounds_toArray, List.set_cons_zero, List.set_cons_succ]
                  refine wpAnyH_take (i := 24) (oi := ⟨some 67, _, _, _, _, _⟩) (v := ?_) rfl (by kernel_rfl) (by kernel_rfl) (by kernel_rfl) (fun _ _ _ h => h) (Or.inl ⟨by rfl, ?_⟩) (by assumption) ?_
                  rotate_left
                  · (intro w hSw; go_simp) <;> with_reducible rfl
                  try simp only [Act.put, List.setIfInBounds_toArray, List.set_cons_zero, List.set_cons_succ]
                  refine wpAnyH_done (by kernel_rfl) ?_ _
                  exact hfin10 _ _ _ _ _ _ _ _ _ _ _ _ _ _ _ _ _ _ _ _ _ _ BX405
                exact AllReadyH.nil
              exact AllReadyH.nil
            exact AllReadyH.nil
          exact AllReadyH.nil
        refine AllReadyH.cons (o := ⟨some 45, _, _, _, _, _⟩) rfl (fun K hK => ?_) ?_
        · go_simp
          refine hK.out _ _ (hHeld.alloc hHeld.size _) (fun hHeld => ?_)
          clear hK K
          try simp only [Act.put, List.setIfInBounds_toArray, List.set_cons_zero, List.set_cons_succ]
          have FEX406 : Owns (X400.alloc (.cells #[] 5)) w9.heap.size 5 1 X400.heap.size 0 0 [] := owns0 _ _ BX400.out.size
          have RX406 : Below X400.heap.size X400 (X400.alloc (.cells #[] 5)) := (Below.refl _ _).alloc (Nat.le_refl _) _
          generalize (X400.alloc (.cells #[] 5)) = X406 at hHeld FEX406 RX406 ⊢
          have BX406 := Lib.hid hHeld
          replace FEX406 := Lib.hid FEX406
          replace RX406 := Lib.hid RX406
          refine wpAnyH_ready (rs := [1]) (by kernel_rfl) (by simp) ?_
          refine AllReadyH.cons (o := ⟨some 44, _, _, _, _, _⟩) rfl (fun K hK => ?_) ?_
          · go_simp
            go_at_call 17
            refine (HTT.out _ BX406.out).mono ?_
            rintro e X407 ⟨rfl, bX407⟩
            have RX407 := Lib.hid (bX407)
            go_wp2_with fail
            refine hK.out _ _ (BX406.out.trans (RX407.out.mono BX406.out.size)) (fun hHeld => ?_)
            clear hK K
            try simp only [Act.put, List.setIfInBounds_toArray, List.set_cons_zero, List.set_cons_succ]
            have BX407 := Lib.hid hHeld
            have FEX407 := Lib.hid (FEX406.out.keep ((RX407.out).block _ FEX406.out.lt))
            refine wpAnyH_ready (rs := [4]) (by kernel_rfl) (by simp) ?_
            refine AllReadyH.cons (o := ⟨some 47, _, _, _, _, _⟩) rfl (fun K hK => ?_) ?_
            · refine step_append_owns _ rfl (.tmp 45) (.tmp 46) 22 22 rfl w9.heap.size 5 iB _ 1 1 Tryd.underlying22 hiB hzB h1B h2B rfl X400.heap.size 0 0 [] rfl FEX407.out _ rfl 32 (bytesV L) (HS1.out _ BX407.out) (by unfold maxLen; omega) (by omega) BX407.out.size ?_
              intro g4_X408 c4_X408 X408 FMX408 TX408 GX408
              simp only [Nat.zero_add, List.nil_append] at FMX408 ⊢
              refine hK.out _ _ (BX407.out.trans (TX408.out.below (B := w9.heap.size) FEX407.out.2.1 FEX407.out.lt)) (fun hHeld => ?_)
              clear hK K
              try simp only [Act.put, List.setIfInBounds_toArray, List.set_cons_zero, List.set_cons_succ]
              have BX408 := Lib.hid hHeld
              refine wpAnyH_ready (rs := [6]) (by kernel_rfl) (by simp) ?_
              refine AllReadyH.cons (o := ⟨some 49, _, _, _, _, _⟩) rfl (fun K hK => ?_) ?_
              · refine step_append_owns _ rfl (.tmp 47) (.tmp 48) 22 22 rfl w9.heap.size 5 iB _ 1 1 Tryd.underlying22 hiB hzB h1B h2B rfl g4_X408 32 c4_X408 (bytesV L) rfl FMX408.out _ rfl 32 (bytesV R) (HS2.out _ BX408.out) (by unfold maxLen; omega) (by omega) BX408.out.size ?_
                intro g6_X409 c6_X409 X409 FRX409 TX409 GX409
                refine hK.out _ _ (BX408.out.trans (TX409.out.below (B := w9.heap.size) FMX408.out.2.1 FMX408.out.lt)) (fun hHeld => ?_)
                clear hK K
                try simp only [Act.put, List.setIfInBounds_toArray, List.set_cons_zero, List.set_cons_succ]
                have BX409 := Lib.hid hHeld
                refine wpAnyH_ready (rs := [7]) (by kernel_rfl) (by simp) ?_
                refine AllReadyH.cons (o := ⟨some 50, _, _, _, _, _⟩) rfl (fun K hK => ?_) ?_
                · go_simp
                  go_at_call 14
                  refine (HTG.out _ _ _ BX409.out FRX409.out).mono ?_
                  rintro e X410 ⟨rfl, bX410⟩
                  have RX410 := Lib.hid (bX410)
                  go_wp2_with fail
                  refine hK.out _ _ (BX409.out.trans (RX410.out.mono BX409.out.size)) (fun hHeld => ?_)
                  clear hK K
                  try simp only [Act.put, List.setIfInBounds_toArray, List.set_cons_zero, List.set_cons_succ]
                  have BX410 := Lib.hid hHeld
                  refine wpAnyH_take (i := 8) (oi := ⟨some 51, _, _, _, _, _⟩) (v := ?_) rfl (by kernel_rfl) (by kernel_rfl) (by kernel_rfl) (fun _ _ _ h => h) (Or.inl ⟨by rfl, ?_⟩) (by assumption) ?_
                  rotate_left
                  · (intro w hSw; go_simp) <;> with_reducible rfl
                  try simp only [Act.put, List.setIfInBounds_toArray, List.set_cons_zero, List.set_cons_succ]
                  refine wpAnyH_take (i := 9) (oi := ⟨some 52, _, _, _, _, _⟩) (v := ?_) rfl (by kernel_rfl) (by kernel_rfl) (by kernel_rfl) (fun _ _ _ h => h) (Or.inl ⟨by rfl, ?_⟩) (by assumption) ?_
                  rotate_left
                  · (intro w hSw; go_simp) <;> with_reducible rfl
                  try simp only [Act.put, List.setIfInBounds_toArray, List.set_cons_zero, List.set_cons_succ]
                  refine wpAnyH_take (i := 10) (oi := ⟨some 53, _, _, _, _, _⟩) (v := ?_) rfl (by kernel_rfl) (by kernel_rfl) (by kernel_rfl) (fun _ _ _ h => h) (Or.inl ⟨by rfl, ?_⟩) (by assumption) ?_
                  rotate_left
                  · (intro w hSw; go_simp) <;> with_reducible rfl
                  try simp only [Act.put, List.setIfInBounds_toArray, List.set_cons_zero, List.set_cons_succ]
                  refine wpAnyH_take (i := 11) (oi := ⟨some 54, _, _, _, _, _⟩) (v := ?_) rfl (by kernel_rfl) (by kernel_rfl) (by kernel_rfl) (fun _ _ _ h => h) (Or.inl ⟨by rfl, ?_⟩) (by assumption) ?_
                  rotate_left
                  · (intro w hSw; go_simp) <;> with_reducible rfl
                  try simp only [Act.put, List.setIfInBounds_toArray, List.set_cons_zero, List.set_cons_succ]
                  refine wpAnyH_take (i := 12) (oi := ⟨some 55, _, _, _, _, _⟩) (v := ?_) rfl (by kernel_rfl) (by kernel_rfl) (by kernel_rfl) (fun _ _ _ h => h) (Or.inl ⟨by rfl, ?_⟩) (by assumption) ?_
                  rotate_left
                  · (intro w hSw; go_simp) <;> with_reducible rfl
                  try simp only [Act.put, List.setIfInBounds_toArray, List.set_cons_zero, List.set_cons_succ]
                  refine wpAnyH_take (i := 13) (oi := ⟨some 56, _, _, _, _, _⟩) (v := ?_) rfl (by kernel_rfl) (by kernel_rfl) (by kernel_rfl) (fun _ _ _ h => h) (Or.inl ⟨by rfl, ?_⟩) (by assumption) ?_
                  rotate_left
                  · (intro w hSw; go_simp) <;> with_reducible rfl
                  try simp only [Act.put, List.setIfInBounds_toArray, List.set_cons_zero, List.set_cons_succ]
                  refine wpAnyH_take (i := 14) (oi := ⟨some 57, _, _, _, _, _⟩) (v := ?_) rfl (by kernel_rfl) (by kernel_rfl) (by kernel_rfl) (fun _ _ _ h => h) (Or.inl ⟨by rfl, ?_⟩) (by assumption) ?_
                  rotate_left
                  · (intro w hSw; go_simp) <;> with_reducible rfl
                  try simp only [Act.put, List.setIfInBounds_toArray, List.set_cons_zero, List.set_cons_succ]
                  refine wpAnyH_take (i := 15) (oi := ⟨some 58, _, _, _, _, _⟩) (v := ?_) rfl (by kernel_rfl) (by kernel_rfl) (by kernel_rfl) (fun _ _ _ h => h) (Or.inl ⟨by rfl, ?_⟩) (by assumption) ?_
                  rotate_left
                  · (intro w hSw; go_simp) <;> with_reducible rfl
                  try simp only [Act.put, List.setIfInBounds_toArray, List.set_cons_zero, List.set_cons_succ]
                  refine wpAnyH_take (i := 16) (oi := ⟨some 59, _, _, _, _, _⟩) (v := ?_) rfl (by kernel_rfl) (by kernel_rfl) (by kernel_rfl) (fun _ _ _ h => h) (Or.inl ⟨by rfl, ?_⟩) (by assumption) ?_
                  rotate_left
                  · (intro w hSw; go_simp) <;> with_reducible rfl
                  try simp only [Act.put, List.setIfInBounds_toArray, List.set_cons_zero, List.set_cons_succ]
                  refine wpAnyH_take (i := 17) (oi := ⟨some 60, _, _, _, _, _⟩) (v := ?_) rfl (by kernel_rfl) (by kernel_rfl) (by kernel_rfl) (fun _ _ _ h => h) (Or.inl ⟨by rfl, ?_⟩) (by assumption) ?_
                  rotate_left
                  · (intro w hSw; go_simp) <;> with_reducible rfl
                  try simp only [Act.put, List.setIfInBounds_toArray, List.set_cons_zero, List.set_cons_succ]
                  refine wpAnyH_take (i := 18) (oi := ⟨some 61, _, _, _, _, _⟩) (v := ?_) rfl (by kernel_rfl) (by kernel_rfl) (by kernel_rfl) (fun _ _ _ h => h) (Or.inl ⟨by rfl, ?_⟩) (by assumption) ?_
                  rotate_left
                  · (intro w hSw; go_simp) <;> with_reducible rfl
                  try simp only [Act.put, List.setIfInBounds_toArray, List.set_cons_zero, List.set_cons_succ]
                  refine wpAnyH_take (i := 19) (oi := ⟨some 62, _, _, _, _, _⟩) (v := ?_) rfl (by kernel_rfl) (by kernel_rfl) (by kernel_rfl) (fun _ _ _ h => h) (Or.inl ⟨by rfl, ?_⟩) (by assumption) ?_
                  rotate_left
                  · (intro w hSw; go_simp) <;> with_reducible rfl
                  try simp only [Act.put, List.setIfInBounds_toArray, List.set_cons_zero, List.set_cons_succ]
                  refine wpAnyH_take (i := 20) (oi := ⟨some 63, _, _, _, _, _⟩) (v := ?_) rfl (by kernel_rfl) (by kernel_rfl) (by kernel_rfl) (fun _ _ _ h => h) (Or.inl ⟨by rfl, ?_⟩) (by assumption) ?_
                  rotate_left
                  · (intro w hSw; go_simp) <;> with_reducible rfl
                  try simp only [Act.put, List.setIfInBounds_toArray, List.set_cons_zero, List.set_cons_succ]
                  refine wpAnyH_take (i := 21) (oi := ⟨some 64, _, _, _, _, _⟩) rfl (by kernel_rfl) (by kernel_rfl) (by kernel_rfl) (fun _ _ _ h => h) (yieldsIf_load_mid (by rfl) _ _ rfl g1 0 rfl _ _ (fun w' h => range_below HP0.out h hg1) Tryd.underlying26 rfl HLL.out) (by assumption) ?_
                  try simp only [Act.put, List.setIfInBounds_toArray, List.set_cons_zero, List.set_cons_succ]
                  refine wpAnyH_take (i := 22) (oi := ⟨some 65, _, _, _, _, _⟩) rfl (by kernel_rfl) (by kernel_rfl) (by kernel_rfl) (fun _ _ _ h => h) (yieldsIf_load_mid (by rfl) _ _ rfl p 0 rfl _ _ (fun w' h => range_below (DRow.range HP9.out) h HP9.out.lt) Tryd.underlying26 rfl HLL.out) (by assumption) ?_
                  try simp only [Act.put, List.setIfInBounds_toArray, List.set_cons_zero, List.set_cons_succ]
                  refine wpAnyH_take (i := 23) (oi := ⟨some 66, _, _, _, _, _⟩) (v := ?_) rfl (by kernel_rfl) (by kernel_rfl) (by kernel_rfl) (fun _ _ _ h => h) (Or.inl ⟨by rfl, ?_⟩) (by assumption) ?_
                  rotate_left
                  · (intro w hSw; go_simp) <;> with_reducible rfl
                  try simp only [Act.put, List.setIfInBounds_toArray, List.set_cons_zero, List.set_cons_succ]
                  refine wpAnyH_take (i := 24) (oi := ⟨some 67, _, _, _, _, _⟩) (v := ?_) rfl (by kernel_rfl) (by kernel_rfl) (by kernel_rfl) (fun _ _ _ h => h) (Or.inl ⟨by rfl, ?_⟩) (by assumption) ?_
                  rotate_left
                  · (intro w hSw; go_simp) <;> with_reducible rfl
                  try simp only [Act.put, List.setIfInBounds_toArray, List.set_cons_zero, List.set_cons_succ]
                  refine wpAnyH_done (by kernel_rfl) ?_ _
                  exact hfin10 _ _ _ _ _ _ _ _ _ _ _ _ _ _ _ _ _ _ _ _ _ _ BX410
                exact AllReadyH.nil
              exact AllReadyH.nil
            exact AllReadyH.nil
          exact AllReadyH.nil
        exact AllReadyH.nil
      simp only [Act.put, List.setIfInBounds_toArray, List.set_cons_zero, List.set_cons_succ] at hfin8
      refine wpAnyH_ready (rs := [0, 6]) (by kernel_rfl) (by simp) ?_
      refine AllReadyH.cons (o := ⟨some 29, _, _, _, _, _⟩) rfl (fun K hK => ?_) ?_
      · go_simp
        refine hK.out _ _ (hHeld.alloc hHeld.size _) (fun hHeld => ?_)
        clear hK K
        try simp only [Act.put, List.setIfInBounds_toArray, List.set_cons_zero, List.set_cons_succ]
        have FEX301 : Owns (X300.alloc (.cells #[] 26)) w7.heap.size 26 32 X300.heap.size 0 0 [] := owns0 _ _ BX300.out.size
        have RX301 : Below X300.heap.size X300 (X300.alloc (.cells #[] 26)) := (Below.refl _ _).alloc (Nat.le_refl _) _
        generalize (X300.alloc (.cells #[] 26)) = X301 at hHeld FEX301 RX301 ⊢
        have BX301 := Lib.hid hHeld
        replace FEX301 := Lib.hid FEX301
        replace RX301 := Lib.hid RX301
        refine wpAnyH_ready (rs := [4, 6]) (by kernel_rfl) (by simp) ?_
        refine AllReadyH.cons (o := ⟨some 33, _, _, _, _, _⟩) rfl (fun K hK => ?_) ?_
        · refine step_append_owns _ rfl (.tmp 29) (.tmp 32) 30 30 rfl w7.heap.size 26 iD _ 32 32 Tryd.underlying30 hiD hzD h1D h2D rfl X300.heap.size 0 0 [] rfl FEX301.out _ rfl k (flatD (ds.take k)) (((HRD8.out.take hkN).below BX301.out BX301.out.size).src) (by unfold maxLen; omega) (by omega) BX301.out.size ?_
          intro g4_X302 c4_X302 X302 FMX302 TX302 GX302
          simp only [Nat.zero_add, List.nil_append] at FMX302 ⊢
          refine hK.out _ _ (BX301.out.trans (TX302.out.below (B := w7.heap.size) FEX301.out.2.1 FEX301.out.lt)) (fun hHeld => ?_)
          clear hK K
          try simp only [Act.put, List.setIfInBounds_toArray, List.set_cons_zero, List.set_cons_succ]
          have BX302 := Lib.hid hHeld
          refine wpAnyH_ready (rs := [6]) (by kernel_rfl) (by simp) ?_
          refine AllReadyH.cons (o := ⟨some 35, _, _, _, _, _⟩) rfl (fun K hK => ?_) ?_
          · go_simp
            refine hK.out _ _ (hHeld.alloc hHeld.size _) (fun hHeld => ?_)
            clear hK K
            try simp only [Act.put, List.setIfInBounds_toArray, List.set_cons_zero, List.set_cons_succ]
            have FDX303 : DRow (X302.alloc (.cells (bytesV d).toArray 26)) X302.heap.size d := heap_alloc_new X302 _
            have RX303 : Below X302.heap.size X302 (X302.alloc (.cells (bytesV d).toArray 26)) := (Below.refl _ _).alloc (Nat.le_refl _) _
            generalize (X302.alloc (.cells (bytesV d).toArray 26)) = X303 at hHeld FDX303 RX303 ⊢
            have BX303 := Lib.hid hHeld
            replace FDX303 := Lib.hid FDX303
            replace RX303 := Lib.hid RX303
            have FMX303 := Lib.hid (FMX302.out.keep ((RX303.out).block _ FMX302.out.lt))
            have ne_D_M : X302.heap.size ≠ g4_X302 := fun h => by have := FMX302.out.lt; omega
            have ne_M_D := ne_D_M.symm
            refine wpAnyH_ready (rs := [7]) (by kernel_rfl) (by simp) ?_
            refine AllReadyH.cons (o := ⟨some 36, _, _, _, _, _⟩) rfl (fun K hK => ?_) ?_
            · refine step_append_owns _ rfl (.tmp 33) (.tmp 35) 30 30 rfl w7.heap.size 26 iD _ 32 32 Tryd.underlying30 hiD hzD h1D h2D rfl g4_X302 k c4_X302 (flatD (ds.take k)) rfl FMX303.out _ rfl 1 (bytesV d) (FDX303.out.src1 HDL.out) (by unfold maxLen; omega) (by omega) BX303.out.size ?_
              intro g7_X304 c7_X304 X304 FRX304 TX304 GX304
              refine hK.out _ _ (BX303.out.trans (TX304.out.below (B := w7.heap.size) FMX303.out.2.1 FMX303.out.lt)) (fun hHeld => ?_)
              clear hK K
              try simp only [Act.put, List.setIfInBounds_toArray, List.set_cons_zero, List.set_cons_succ]
              have BX304 := Lib.hid hHeld
              refine wpAnyH_take (i := 8) (oi := ⟨some 9, _, _, _, _, _⟩) (v := ?_) rfl (by kernel_rfl) (by kernel_rfl) (by kernel_rfl) (fun _ _ _ h => h) (Or.inl ⟨by rfl, ?_⟩) (by assumption) ?_
              rotate_left
              · (intro w hSw; go_simp) <;> with_reducible rfl
              try simp only [Act.put, List.setIfInBounds_toArray, List.set_cons_zero, List.set_cons_succ]
              refine wpAnyH_done (by kernel_rfl) ?_ _
              exact hfin8 _ _ _ _ _ _ FRX304 BX304
            exact AllReadyH.nil
          exact AllReadyH.nil
        refine AllReadyH.cons (o := ⟨some 35, _, _, _, _, _⟩) rfl (fun K hK => ?_) ?_
        · go_simp
          refine hK.out _ _ (hHeld.alloc hHeld.size _) (fun hHeld => ?_)
          clear hK K
          try simp only [Act.put, List.setIfInBounds_toArray, List.set_cons_zero, List.set_cons_succ]
          have FDX305 : DRow (X301.alloc (.cells (bytesV d).toArray 26)) X301.heap.size d := heap_alloc_new X301 _
          have RX305 : Below X301.heap.size X301 (X301.alloc (.cells (bytesV d).toArray 26)) := (Below.refl _ _).alloc (Nat.le_refl _) _
          generalize (X301.alloc (.cells (bytesV d).toArray 26)) = X305 at hHeld FDX305 RX305 ⊢
          have BX305 := Lib.hid hHeld
          replace FDX305 := Lib.hid FDX305
          replace RX305 := Lib.hid RX305
          have FEX305 := Lib.hid (FEX301.out.keep ((RX305.out).block _ FEX301.out.lt))
          have ne_D_E : X301.heap.size ≠ X300.heap.size := fun h => by have := FEX301.out.lt; omega
          have ne_E_D := ne_D_E.symm
          refine wpAnyH_ready (rs := [4]) (by kernel_rfl) (by simp) ?_
          refine AllReadyH.cons (o := ⟨some 33, _, _, _, _, _⟩) rfl (fun K hK => ?_) ?_
          · refine step_append_owns _ rfl (.tmp 29) (.tmp 32) 30 30 rfl w7.heap.size 26 iD _ 32 32 Tryd.underlying30 hiD hzD h1D h2D rfl X300.heap.size 0 0 [] rfl FEX305.out _ rfl k (flatD (ds.take k)) (((HRD8.out.take hkN).below BX305.out BX305.out.size).src) (by unfold maxLen; omega) (by omega) BX305.out.size ?_
            intro g4_X306 c4_X306 X306 FMX306 TX306 GX306
            simp only [Nat.zero_add, List.nil_append] at FMX306 ⊢
            refine hK.out _ _ (BX305.out.trans (TX306.out.below (B := w7.heap.size) FEX305.out.2.1 FEX305.out.lt)) (fun hHeld => ?_)
            clear hK K
            try simp only [Act.put, List.setIfInBounds_toArray, List.set_cons_zero, List.set_cons_succ]
            have BX306 := Lib.hid hHeld
            have FDX306 := Lib.hid (FDX305.out.keep ((TX306.out).block _ FDX305.out.lt (by simp only [ne_eq, Option.some.injEq]; have h := ne_D_E; omega)))
            have ne_M_D : g4_X306 ≠ X301.heap.size := fun h => by
              have h1 := GX306.out
              have h2 := FDX305.out.lt
              have h3 := ne_E_D
              omega
            have ne_D_M := ne_M_D.symm
            refine wpAnyH_ready (rs := [7]) (by kernel_rfl) (by simp) ?_
            refine AllReadyH.cons (o := ⟨some 36, _, _, _, _, _⟩) rfl (fun K hK => ?_) ?_
            · refine step_append_owns _ rfl (.tmp 33) (.tmp 35) 30 30 rfl w7.heap.size 26 iD _ 32 32 Tryd.underlying30 hiD hzD h1D h2D rfl g4_X306 k c4_X306 (flatD (ds.take k)) rfl FMX306.out _ rfl 1 (bytesV d) (FDX306.out.src1 HDL.out) (by unfold maxLen; omega) (by omega) BX306.out.size ?_
              intro g7_X307 c7_X307 X307 FRX307 TX307 GX307
              refine hK.out _ _ (BX306.out.trans (TX307.out.below (B := w7.heap.size) FMX306.out.2.1 FMX306.out.lt)) (fun hHeld => ?_)
              clear hK K
              try simp only [Act.put, List.setIfInBounds_toArray, List.set_cons_zero, List.set_cons_succ]
              have BX307 := Lib.hid hHeld
              refine wpAnyH_take (i := 8) (oi := ⟨some 9, _, _, _, _, _⟩) (v := ?_) rfl (by kernel_rfl) (by kernel_rfl) (by kernel_rfl) (fun _ _ _ h => h) (Or.inl ⟨by rfl, ?_⟩) (by assumption) ?_
              rotate_left
              · (intro w hSw; go_simp) <;> with_reducible rfl
              try simp only [Act.put, List.setIfInBounds_toArray, List.set_cons_zero, List.set_cons_succ]
              refine wpAnyH_done (by kernel_rfl) ?_ _
              exact hfin8 _ _ _ _ _ _ FRX307 BX307
            exact AllReadyH.nil
          exact AllReadyH.nil
        exact AllReadyH.nil
      refine AllReadyH.cons (o := ⟨some 35, _, _, _, _, _⟩) rfl (fun K hK => ?_) ?_
      · go_simp
        refine hK.out _ _ (hHeld.alloc hHeld.size _) (fun hHeld => ?_)
        clear hK K
        try simp only [Act.put, List.setIfInBounds_toArray, List.set_cons_zero, List.set_cons_succ]
        have FDX308 : DRow (X300.alloc (.cells (bytesV d).toArray 26)) X300.heap.size d := heap_alloc_new X300 _
        have RX308 : Below X300.heap.size X300 (X300.alloc (.cells (bytesV d).toArray 26)) := (Below.refl _ _).alloc (Nat.le_refl _) _
        generalize (X300.alloc (.cells (bytesV d).toArray 26)) = X308 at hHeld FDX308 RX308 ⊢
        have BX308 := Lib.hid hHeld
        replace FDX308 := Lib.hid FDX308
        replace RX308 := Lib.hid RX308
        refine wpAnyH_ready (rs := [0]) (by kernel_rfl) (by simp) ?_
        refine AllReadyH.cons (o := ⟨some 29, _, _, _, _, _⟩) rfl (fun K hK => ?_) ?_
        · go_simp
          refine hK.out _ _ (hHeld.alloc hHeld.size _) (fun hHeld => ?_)
          clear hK K
          try simp only [Act.put, List.setIfInBounds_toArray, List.set_cons_zero, List.set_cons_succ]
          have FEX309 : Owns (X308.alloc (.cells #[] 26)) w7.heap.size 26 32 X308.heap.size 0 0 [] := owns0 _ _ BX308.out.size
          have RX309 : Below X308.heap.size X308 (X308.alloc (.cells #[] 26)) := (Below.refl _ _).alloc (Nat.le_refl _) _
          generalize (X308.alloc (.cells #[] 26)) = X309 at hHeld FEX309 RX309 ⊢
          have BX309 := Lib.hid hHeld
          replace FEX309 := Lib.hid FEX309
          replace RX309 := Lib.hid RX309
          have FDX309 := Lib.hid (FDX308.out.keep ((RX309.out).block _ FDX308.out.lt))
          have ne_E_D : X308.heap.size ≠ X300.heap.size := fun h => by have := FDX308.out.lt; omega
          have ne_D_E := ne_E_D.symm
          refine wpAnyH_ready (rs := [4]) (by kernel_rfl) (by simp) ?_
          refine AllReadyH.cons (o := ⟨some 33, _, _, _, _, _⟩) rfl (fun K hK => ?_) ?_
          · refine step_append_owns _ rfl (.tmp 29) (.tmp 32) 30 30 rfl w7.heap.size 26 iD _ 32 32 Tryd.underlying30 hiD hzD h1D h2D rfl X308.heap.size 0 0 [] rfl FEX309.out _ rfl k (flatD (ds.take k)) (((HRD8.out.take hkN).below BX309.out BX309.out.size).src) (by unfold maxLen; omega) (by omega) BX309.out.size ?_
            intro g4_X310 c4_X310 X310 FMX310 TX310 GX310
            simp only [Nat.zero_add, List.nil_append] at FMX310 ⊢
            refine hK.out _ _ (BX309.out.trans (TX310.out.below (B := w7.heap.size) FEX309.out.2.1 FEX309.out.lt)) (fun hHeld => ?_)
            clear hK K
            try simp only [Act.put, List.setIfInBounds_toArray, List.set_cons_zero, List.set_cons_succ]
            have BX310 := Lib.hid hHeld
            have FDX310 := Lib.hid (FDX309.out.keep ((TX310.out).block _ FDX309.out.lt (by simp only [ne_eq, Option.some.injEq]; have h := ne_D_E; omega)))
            have ne_M_D : g4_X310 ≠ X300.heap.size := fun h => by
              have h1 := GX310.out
              have h2 := FDX309.out.lt
              have h3 := ne_E_D
              omega
            have ne_D_M := ne_M_D.symm
            refine wpAnyH_ready (rs := [7]) (by kernel_rfl) (by simp) ?_
            refine AllReadyH.cons (o := ⟨some 36, _, _, _, _, _⟩) rfl (fun K hK => ?_) ?_
            · refine step_append_owns _ rfl (.tmp 33) (.tmp 35) 30 30 rfl w7.heap.size 26 iD _ 32 32 Tryd.underlying30 hiD hzD h1D h2D rfl g4_X310 k c4_X310 (flatD (ds.take k)) rfl FMX310.out _ rfl 1 (bytesV d) (FDX310.out.src1 HDL.out) (by unfold maxLen; omega) (by omega) BX310.out.size ?_
              intro g7_X311 c7_X311 X311 FRX311 TX311 GX311
              refine hK.out _ _ (BX310.out.trans (TX311.out.below (B := w7.heap.size) FMX310.out.2.1 FMX310.out.lt)) (fun hHeld => ?_)
              clear hK K
              try simp only [Act.put, List.setIfInBounds_toArray, List.set_cons_zero, List.set_cons_succ]
              have BX311 := Lib.hid hHeld
              refine wpAnyH_take (i := 8) (oi := ⟨some 9, _, _, _, _, _⟩) (v := ?_) rfl (by kernel_rfl) (by kernel_rfl) (by kernel_rfl) (fun _ _ _ h => h) (Or.inl ⟨by rfl, ?_⟩) (by assumption) ?_
              rotate_left
              · (intro w hSw; go_simp) <;> with_reducible rfl
              try simp only [Act.put, List.setIfInBounds_toArray, List.set_cons_zero, List.set_cons_succ]
              refine wpAnyH_done (by kernel_rfl) ?_ _
              exact hfin8 _ _ _ _ _ _ FRX311 BX311
            exact AllReadyH.nil
          exact AllReadyH.nil
        exact AllReadyH.nil
      exact AllReadyH.nil
    simp only [Act.put, List.setIfInBounds_toArray, List.set_cons_zero, List.set_cons_succ] at hfin7
    refine wpAnyH_ready (rs := [3, 5, 7, 8]) (by kernel_rfl) (by simp) ?_
    refine AllReadyH.cons (o := ⟨some 25, _, _, _, _, _⟩) rfl (fun K hK => ?_) ?_
    · go_simp
      go_at_call 17
      refine (HTLc.out _ BX0.out).mono ?_
      rintro e X1 ⟨rfl, bX1⟩
      have RX1 := Lib.hid (bX1)
      go_wp2_with fail
      refine hK.out _ _ (BX0.out.trans (RX1.out.mono BX0.out.size)) (fun hHeld => ?_)
      clear hK K
      try simp only [Act.put, List.setIfInBounds_toArray, List.set_cons_zero, List.set_cons_succ]
      have BX1 := Lib.hid hHeld
      refine wpAnyH_ready (rs := [5, 7, 8]) (by kernel_rfl) (by simp) ?_
      refine AllReadyH.cons (o := ⟨some 27, _, _, _, _, _⟩) rfl (fun K hK => ?_) ?_
      · go_simp
        refine hK.out _ _ (hHeld.alloc hHeld.size _) (fun hHeld => ?_)
        clear hK K
        try simp only [Act.put, List.setIfInBounds_toArray, List.set_cons_zero, List.set_cons_succ]
        have FDX2 : DRow (X1.alloc (.cells (bytesV d).toArray 26)) X1.heap.size d := heap_alloc_new X1 _
        have RX2 : Below X1.heap.size X1 (X1.alloc (.cells (bytesV d).toArray 26)) := (Below.refl _ _).alloc (Nat.le_refl _) _
        generalize (X1.alloc (.cells (bytesV d).toArray 26)) = X2 at hHeld FDX2 RX2 ⊢
        have BX2 := Lib.hid hHeld
        replace FDX2 := Lib.hid FDX2
        replace RX2 := Lib.hid RX2
        refine wpAnyH_ready (rs := [6, 7, 8]) (by kernel_rfl) (by simp) ?_
        refine AllReadyH.cons (o := ⟨some 28, _, _, _, _, _⟩) rfl (fun K hK => ?_) ?_
        · go_simp
          go_at_call 17
          refine (HTRc.out _ _ BX2.out FDX2.out).mono ?_
          rintro e X3 ⟨rfl, bX3⟩
          have RX3 := Lib.hid (bX3)
          go_wp2_with fail
          refine hK.out _ _ (BX2.out.trans (RX3.out.mono BX2.out.size)) (fun hHeld => ?_)
          clear hK K
          try simp only [Act.put, List.setIfInBounds_toArray, List.set_cons_zero, List.set_cons_succ]
          have BX3 := Lib.hid hHeld
          refine wpAnyH_ready (rs := [7, 8]) (by kernel_rfl) (by simp) ?_
          refine AllReadyH.cons (o := ⟨some 7, _, _, _, _, _⟩) rfl (fun K hK => ?_) ?_
          · go_simp
            refine hK.out _ _ (hHeld.alloc hHeld.size _) (fun hHeld => ?_)
            clear hK K
            try simp only [Act.put, List.setIfInBounds_toArray, List.set_cons_zero, List.set_cons_succ]
            have FPX4 : IsD (X3.alloc (.cells Z32 26)) X3.heap.size := IsD.new _ _ (heap_alloc_new X3 _)
            have RX4 : Below X3.heap.size X3 (X3.alloc (.cells Z32 26)) := (Below.refl _ _).alloc (Nat.le_refl _) _
            generalize (X3.alloc (.cells Z32 26)) = X4 at hHeld FPX4 RX4 ⊢
            have BX4 := Lib.hid hHeld
            replace FPX4 := Lib.hid FPX4
            replace RX4 := Lib.hid RX4
            refine wpAnyH_ready (rs := [8]) (by kernel_rfl) (by simp) ?_
            refine AllReadyH.cons (o := ⟨some 8, _, _, _, _, _⟩) rfl (fun K hK => ?_) ?_
            · go_simp
              refine hK.out _ _ (hHeld.alloc hHeld.size _) (fun hHeld => ?_)
              clear hK K
              try simp only [Act.put, List.setIfInBounds_toArray, List.set_cons_zero, List.set_cons_succ]
              have FQX5 : IsD (X4.alloc (.cells Z32 26)) X4.heap.size := IsD.new _ _ (heap_alloc_new X4 _)
              have RX5 : Below X4.heap.size X4 (X4.alloc (.cells Z32 26)) := (Below.refl _ _).alloc (Nat.le_refl _) _
              generalize (X4.alloc (.cells Z32 26)) = X5 at hHeld FQX5 RX5 ⊢
              have BX5 := Lib.hid hHeld
              replace FQX5 := Lib.hid FQX5
              replace RX5 := Lib.hid RX5
              have FPX5 := Lib.hid (FPX4.out.keep ((RX5.out).block _ FPX4.out.lt))
              have ne_Q_P : X4.heap.size ≠ X3.heap.size := fun h => by have := FPX4.out.lt; omega
              have ne_P_Q := ne_Q_P.symm
              refine wpAnyH_ready (rs := [9]) (by kernel_rfl) (by simp) ?_
              refine AllReadyH.cons (o := ⟨none, _, _, _, _, _⟩) rfl (fun K hK => ?_) ?_
              · refine step_store_D rfl _ _ rfl rfl X3.heap.size L rfl rfl HLl.out FPX5.out ?_
                refine hK.out _ _ (below_setRow BX5.out (BX3.out.size) _) (fun hHeld => ?_)
                clear hK K
                have FPX6 : DRow (X5.setRow X3.heap.size (bytesV L).toArray) X3.heap.size L := FPX5.out.row _
                have FQX6 := Lib.hid (FQX5.out.keep (w' := (X5.setRow X3.heap.size (bytesV L).toArray)) (setRow_other _ _ _ _ ne_Q_P))
                generalize (X5.setRow X3.heap.size (bytesV L).toArray) = X6 at hHeld FPX6 FQX6 ⊢
                have BX6 := Lib.hid hHeld
                replace FPX6 := Lib.hid FPX6
                refine wpAnyH_ready (rs := [10]) (by kernel_rfl) (by simp) ?_
                refine AllReadyH.cons (o := ⟨none, _, _, _, _, _⟩) rfl (fun K hK => ?_) ?_
                · refine step_store_D rfl _ _ rfl rfl X4.heap.size R rfl rfl HRl.out FQX6.out ?_
                  refine hK.out _ _ (below_setRow BX6.out (BX4.out.size) _) (fun hHeld => ?_)
                  clear hK K
                  have FQX7 : DRow (X6.setRow X4.heap.size (bytesV R).toArray) X4.heap.size R := FQX6.out.row _
                  have FPX7 := Lib.hid (FPX6.out.keep (w' := (X6.setRow X4.heap.size (bytesV R).toArray)) (setRow_other _ _ _ _ ne_P_Q))
                  generalize (X6.setRow X4.heap.size (bytesV R).toArray) = X7 at hHeld FQX7 FPX7 ⊢
                  have BX7 := Lib.hid hHeld
                  replace FQX7 := Lib.hid FQX7
                  refine wpAnyH_done (by kernel_rfl) ?_ _
                  exact hfin7 _ _ _ _ _ _ ne_P_Q FPX7 FQX7 BX7
                exact AllReadyH.nil
              exact AllReadyH.nil
            exact AllReadyH.nil
          refine AllReadyH.cons (o := ⟨some 8, _, _, _, _, _⟩) rfl (fun K hK => ?_) ?_
          · go_simp
            refine hK.out _ _ (hHeld.alloc hHeld.size _) (fun hHeld => ?_)
            clear hK K
            try simp only [Act.put, List.setIfInBounds_toArray, List.set_cons_zero, List.set_cons_succ]
            have FQX8 : IsD (X3.alloc (.cells Z32 26)) X3.heap.size := IsD.new _ _ (heap_alloc_new X3 _)
            have RX8 : Below X3.heap.size X3 (X3.alloc (.cells Z32 26)) := (Below.refl _ _).alloc (Nat.le_refl _) _
            generalize (X3.alloc (.cells Z32 26)) = X8 at hHeld FQX8 RX8 ⊢
            have BX8 := Lib.hid hHeld
            replace FQX8 := Lib.hid FQX8
            replace RX8 := Lib.hid RX8
            refine wpAnyH_ready (rs := [7]) (by kernel_rfl) (by simp) ?_
            refine AllReadyH.cons (o := ⟨some 7, _, _, _, _, _⟩) rfl (fun K hK => ?_) ?_
            · go_simp
              refine hK.out _ _ (hHeld.alloc hHeld.size _) (fun hHeld => ?_)
              clear hK K
              try simp only [Act.put, List.setIfInBounds_toArray, List.set_cons_zero, List.set_cons_succ]
              have FPX9 : IsD (X8.alloc (.cells Z32 26)) X8.heap.size := IsD.new _ _ (heap_alloc_new X8 _)
              have RX9 : Below X8.heap.size X8 (X8.alloc (.cells Z32 26)) := (Below.refl _ _).alloc (Nat.le_refl _) _
              generalize (X8.alloc (.cells Z32 26)) = X9 at hHeld FPX9 RX9 ⊢
              have BX9 := Lib.hid hHeld
              replace FPX9 := Lib.hid FPX9
              replace RX9 := Lib.hid RX9
              have FQX9 := Lib.hid (FQX8.out.keep ((RX9.out).block _ FQX8.out.lt))
              have ne_P_Q : X8.heap.size ≠ X3.heap.size := fun h => by have := FQX8.out.lt; omega
              have ne_Q_P := ne_P_Q.symm
              refine wpAnyH_ready (rs := [9]) (by kernel_rfl) (by simp) ?_
              refine AllReadyH.cons (o := ⟨none, _, _, _, _, _⟩) rfl (fun K hK => ?_) ?_
              · refine step_store_D rfl _ _ rfl rfl X8.heap.size L rfl rfl HLl.out FPX9.out ?_
                refine hK.out _ _ (below_setRow BX9.out (BX8.out.size) _) (fun hHeld => ?_)
                clear hK K
                have FPX10 : DRow (X9.setRow X8.heap.size (bytesV L).toArray) X8.heap.size L := FPX9.out.row _
                have FQX10 := Lib.hid (FQX9.out.keep (w' := (X9.setRow X8.heap.size (bytesV L).toArray)) (setRow_other _ _ _ _ ne_Q_P))
                generalize (X9.setRow X8.heap.size (bytesV L).toArray) = X10 at hHeld FPX10 FQX10 ⊢
                have BX10 := Lib.hid hHeld
                replace FPX10 := Lib.hid FPX10
                refine wpAnyH_ready (rs := [10]) (by kernel_rfl) (by simp) ?_
                refine AllReadyH.cons (o := ⟨none, _, _, _, _, _⟩) rfl (fun K hK => ?_) ?_
                · refine step_store_D rfl _ _ rfl rfl X3.heap.size R rfl rfl HRl.out FQX10.out ?_
                  refine hK.out _ _ (below_setRow BX10.out (BX3.out.size) _) (fun hHeld => ?_)
                  clear hK K
                  have FQX11 : DRow (X10.setRow X3.heap.size (bytesV R).toArray) X3.heap.size R := FQX10.out.row _
                  have FPX11 := Lib.hid (FPX10.out.keep (w' := (X10.setRow X3.heap.size (bytesV R).toArray)) (setRow_other _ _ _ _ ne_P_Q))
                  generalize (X10.setRow X3.heap.size (bytesV R).toArray) = X11 at hHeld FQX11 FPX11 ⊢
                  have BX11 := Lib.hid hHeld
                  replace FQX11 := Lib.hid FQX11
                  refine wpAnyH_done (by kernel_rfl) ?_ _
                  exact hfin7 _ _ _ _ _ _ ne_P_Q FPX11 FQX11 BX11
                exact AllReadyH.nil
              exact AllReadyH.nil
            exact AllReadyH.nil
          exact AllReadyH.nil
        refine AllReadyH.cons (o := ⟨some 7, _, _, _, _, _⟩) rfl (fun K hK => ?_) ?_
        · go_simp
          refine hK.out _ _ (hHeld.alloc hHeld.size _) (fun hHeld => ?_)
          clear hK K
          try simp only [Act.put, List.setIfInBounds_toArray, List.set_cons_zero, List.set_cons_succ]
          have FPX12 : IsD (X2.alloc (.cells Z32 26)) X2.heap.size := IsD.new _ _ (heap_alloc_new X2 _)
          have RX12 : Below X2.heap.size X2 (X2.alloc (.cells Z32 26)) := (Below.refl _ _).alloc (Nat.le_refl _) _
          generalize (X2.alloc (.cells Z32 26)) = X12 at hHeld FPX12 RX12 ⊢
          have BX12 := Lib.hid hHeld
          replace FPX12 := Lib.hid FPX12
          replace RX12 := Lib.hid RX12
          have FDX12 := Lib.hid (FDX2.out.keep ((RX12.out).block _ FDX2.out.lt))
          have ne_P_D : X2.heap.size ≠ X1.heap.size := fun h => by have := FDX2.out.lt; omega
          have ne_D_P := ne_P_D.symm
          refine wpAnyH_ready (rs := [6, 8]) (by kernel_rfl) (by simp) ?_
          refine AllReadyH.cons (o := ⟨some 28, _, _, _, _, _⟩) rfl (fun K hK => ?_) ?_
          · go_simp
            go_at_call 17
            refine (HTRc.out _ _ BX12.out FDX12.out).mono ?_
            rintro e X13 ⟨rfl, bX13⟩
            have RX13 := Lib.hid (bX13)
            go_wp2_with fail
            refine hK.out _ _ (BX12.out.trans (RX13.out.mono BX12.out.size)) (fun hHeld => ?_)
            clear hK K
            try simp only [Act.put, List.setIfInBounds_toArray, List.set_cons_zero, List.set_cons_succ]
            have BX13 := Lib.hid hHeld
            have FPX13 := Lib.hid (FPX12.out.keep ((RX13.out).block _ FPX12.out.lt))
            refine wpAnyH_ready (rs := [8]) (by kernel_rfl) (by simp) ?_
            refine AllReadyH.cons (o := ⟨some 8, _, _, _, _, _⟩) rfl (fun K hK => ?_) ?_
            · go_simp
              refine hK.out _ _ (hHeld.alloc hHeld.size _) (fun hHeld => ?_)
              clear hK K
              try simp only [Act.put, List.setIfInBounds_toArray, List.set_cons_zero, List.set_cons_succ]
              have FQX14 : IsD (X13.alloc (.cells Z32 26)) X13.heap.size := IsD.new _ _ (heap_alloc_new X13 _)
              have RX14 : Below X13.heap.size X13 (X13.alloc (.cells Z32 26)) := (Below.refl _ _).alloc (Nat.le_refl _) _
              generalize (X13.alloc (.cells Z32 26)) = X14 at hHeld FQX14 RX14 ⊢
              have BX14 := Lib.hid hHeld
              replace FQX14 := Lib.hid FQX14
              replace RX14 := Lib.hid RX14
              have FPX14 := Lib.hid (FPX13.out.keep ((RX14.out).block _ FPX13.out.lt))
              have ne_Q_P : X13.heap.size ≠ X2.heap.size := fun h => by have := FPX13.out.lt; omega
              have ne_P_Q := ne_Q_P.symm
              refine wpAnyH_ready (rs := [9]) (by kernel_rfl) (by simp) ?_
              refine AllReadyH.cons (o := ⟨none, _, _, _, _, _⟩) rfl (fun K hK => ?_) ?_
              · refine step_store_D rfl _ _ rfl rfl X2.heap.size L rfl rfl HLl.out FPX14.out ?_
                refine hK.out _ _ (below_setRow BX14.out (BX2.out.size) _) (fun hHeld => ?_)
                clear hK K
                have FPX15 : DRow (X14.setRow X2.heap.size (bytesV L).toArray) X2.heap.size L := FPX14.out.row _
                have FQX15 := Lib.hid (FQX14.out.keep (w' := (X14.setRow X2.heap.size (bytesV L).toArray)) (setRow_other _ _ _ _ ne_Q_P))
                generalize (X14.setRow X2.heap.size (bytesV L).toArray) = X15 at hHeld FPX15 FQX15 ⊢
                have BX15 := Lib.hid hHeld
                replace FPX15 := Lib.hid FPX15
                refine wpAnyH_ready (rs := [10]) (by kernel_rfl) (by simp) ?_
                refine AllReadyH.cons (o := ⟨none, _, _, _, _, _⟩) rfl (fun K hK => ?_) ?_
                · refine step_store_D rfl _ _ rfl rfl X13.heap.size R rfl rfl HRl.out FQX15.out ?_
                  refine hK.out _ _ (below_setRow BX15.out (BX13.out.size) _) (fun hHeld => ?_)
                  clear hK K
                  have FQX16 : DRow (X15.setRow X13.heap.size (bytesV R).toArray) X13.heap.size R := FQX15.out.row _
                  have FPX16 := Lib.hid (FPX15.out.keep (w' := (X15.setRow X13.heap.size (bytesV R).toArray)) (setRow_other _ _ _ _ ne_P_Q))
                  generalize (X15.setRow X13.heap.size (bytesV R).toArray) = X16 at hHeld FQX16 FPX16 ⊢
                  have BX16 := Lib.hid hHeld
                  replace FQX16 := Lib.hid FQX16
                  refine wpAnyH_done (by kernel_rfl) ?_ _
                  exact hfin7 _ _ _ _ _ _ ne_P_Q FPX16 FQX16 BX16
                exact AllReadyH.nil
              exact AllReadyH.nil
            exact AllReadyH.nil
          refine AllReadyH.cons (o := ⟨some 8, _, _, _, _, _⟩) rfl (fun K hK => ?_) ?_
          · go_simp
            refine hK.out _ _ (hHeld.alloc hHeld.size _) (fun hHeld => ?_)
            clear hK K
            try simp only [Act.put, List.setIfInBounds_toArray, List.set_cons_zero, List.set_cons_succ]
            have FQX17 : IsD (X12.alloc (.cells Z32 26)) X12.heap.size := IsD.new _ _ (heap_alloc_new X12 _)
            have RX17 : Below X12.heap.size X12 (X12.alloc (.cells Z32 26)) := (Below.refl _ _).alloc (Nat.le_refl _) _
            generalize (X12.alloc (.cells Z32 26)) = X17 at hHeld FQX17 RX17 ⊢
            have BX17 := Lib.hid hHeld
            replace FQX17 := Lib.hid FQX17
            replace RX17 := Lib.hid RX17
            have FDX17 := Lib.hid (FDX12.out.keep ((RX17.out).block _ FDX12.out.lt))
            have FPX17 := Lib.hid (FPX12.out.keep ((RX17.out).block _ FPX12.out.lt))
            have ne_Q_D : X12.heap.size ≠ X1.heap.size := fun h => by have := FDX12.out.lt; omega
            have ne_D_Q := ne_Q_D.symm
            have ne_Q_P : X12.heap.size ≠ X2.heap.size := fun h => by have := FPX12.out.lt; omega
            have ne_P_Q := ne_Q_P.symm
            refine wpAnyH_ready (rs := [6]) (by kernel_rfl) (by simp) ?_
            refine AllReadyH.cons (o := ⟨some 28, _, _, _, _, _⟩) rfl (fun K hK => ?_) ?_
            · go_simp
              go_at_call 17
              refine (HTRc.out _ _ BX17.out FDX17.out).mono ?_
              rintro e X18 ⟨rfl, bX18⟩
              have RX18 := Lib.hid (bX18)
              go_wp2_with fail
              refine hK.out _ _ (BX17.out.trans (RX18.out.mono BX17.out.size)) (fun hHeld => ?_)
              clear hK K
              try simp only [Act.put, List.setIfInBounds_toArray, List.set_cons_zero, List.set_cons_succ]
              have BX18 := Lib.hid hHeld
              have FPX18 := Lib.hid (FPX17.out.keep ((RX18.out).block _ FPX17.out.lt))
              have FQX18 := Lib.hid (FQX17.out.keep ((RX18.out).block _ FQX17.out.lt))
              refine wpAnyH_ready (rs := [9]) (by kernel_rfl) (by simp) ?_
              refine AllReadyH.cons (o := ⟨none, _, _, _, _, _⟩) rfl (fun K hK => ?_) ?_
              · refine step_store_D rfl _ _ rfl rfl X2.heap.size L rfl rfl HLl.out FPX18.out ?_
                refine hK.out _ _ (below_setRow BX18.out (BX2.out.size) _) (fun hHeld => ?_)
                clear hK K
                have FPX19 : DRow (X18.setRow X2.heap.size (bytesV L).toArray) X2.heap.size L := FPX18.out.row _
                have FQX19 := Lib.hid (FQX18.out.keep (w' := (X18.setRow X2.heap.size (bytesV L).toArray)) (setRow_other _ _ _ _ ne_Q_P))
                generalize (X18.setRow X2.heap.size (bytesV L).toArray) = X19 at hHeld FPX19 FQX19 ⊢
                have BX19 := Lib.hid hHeld
                replace FPX19 := Lib.hid FPX19
                refine wpAnyH_ready (rs := [10]) (by kernel_rfl) (by simp) ?_
                refine AllReadyH.cons (o := ⟨none, _, _, _, _, _⟩) rfl (fun K hK => ?_) ?_
                · refine step_store_D rfl _ _ rfl rfl X12.heap.size R rfl rfl HRl.out FQX19.out ?_
                  refine hK.out _ _ (below_setRow BX19.out (BX12.out.size) _) (fun hHeld => ?_)
                  clear hK K
                  have FQX20 : DRow (X19.setRow X12.heap.size (bytesV R).toArray) X12.heap.size R := FQX19.out.row _
                  have FPX20 := Lib.hid (FPX19.out.keep (w' := (X19.setRow X12.heap.size (bytesV R).toArray)) (setRow_other _ _ _ _ ne_P_Q))
                  generalize (X19.setRow X12.heap.size (bytesV R).toArray) = X20 at hHeld FQX20 FPX20 ⊢
                  have BX20 := Lib.hid hHeld
                  replace FQX20 := Lib.hid FQX20
                  refine wpAnyH_done (by kernel_rfl) ?_ _
                  exact hfin7 _ _ _ _ _ _ ne_P_Q FPX20 FQX20 BX20
                exact AllReadyH.nil
              exact AllReadyH.nil
            exact AllReadyH.nil
          exact AllReadyH.nil
        refine AllReadyH.cons (o := ⟨some 8, _, _, _, _, _⟩) rfl (fun K hK => ?_) ?_
        · go_simp
          refine hK.out _ _ (hHeld.alloc hHeld.size _) (fun hHeld => ?_)
          clear hK K
          try simp only [Act.put, List.setIfInBounds_toArray, List.set_cons_zero, List.set_cons_succ]
          have FQX21 : IsD (X2.alloc (.cells Z32 26)) X2.heap.size := IsD.new _ _ (heap_alloc_new X2 _)
          have RX21 : Below X2.heap.size X2 (X2.alloc (.cells Z32 26)) := (Below.refl _ _).alloc (Nat.le_refl _) _
          generalize (X2.alloc (.cells Z32 26)) = X21 at hHeld FQX21 RX21 ⊢
          have BX21 := Lib.hid hHeld
          replace FQX21 := Lib.hid FQX21
          replace RX21 := Lib.hid RX21
          have FDX21 := Lib.hid (FDX2.out.keep ((RX21.out).block _ FDX2.out.lt))
          have ne_Q_D : X2.heap.size ≠ X1.heap.size := fun h => by have := FDX2.out.lt; omega
          have ne_D_Q := ne_Q_D.symm
          refine wpAnyH_ready (rs := [6, 7]) (by kernel_rfl) (by simp) ?_
          refine AllReadyH.cons (o := ⟨some 28, _, _, _, _, _⟩) rfl (fun K hK => ?_) ?_
          · go_simp
            go_at_call 17
            refine (HTRc.out _ _ BX21.out FDX21.out).mono ?_
            rintro e X22 ⟨rfl, bX22⟩
            have RX22 := Lib.hid (bX22)
            go_wp2_with fail
            refine hK.out _ _ (BX21.out.trans (RX22.out.mono BX21.out.size)) (fun hHeld => ?_)
            clear hK K
            try simp only [Act.put, List.setIfInBounds_toArray, List.set_cons_zero, List.set_cons_succ]
            have BX22 := Lib.hid hHeld
            have FQX22 := Lib.hid (FQX21.out.keep ((RX22.out).block _ FQX21.out.lt))
            refine wpAnyH_ready (rs := [7]) (by kernel_rfl) (by simp) ?_
            refine AllReadyH.cons (o := ⟨some 7, _, _, _, _, _⟩) rfl (fun K hK => ?_) ?_
            · go_simp
              refine hK.out _ _ (hHeld.alloc hHeld.size _) (fun hHeld => ?_)
              clear hK K
              try simp only [Act.put, List.setIfInBounds_toArray, List.set_cons_zero, List.set_cons_succ]
              have FPX23 : IsD (X22.alloc (.cells Z32 26)) X22.heap.size := IsD.new _ _ (heap_alloc_new X22 _)
              have RX23 : Below X22.heap.size X22 (X22.alloc (.cells Z32 26)) := (Below.refl _ _).alloc (Nat.le_refl _) _
              generalize (X22.alloc (.cells Z32 26)) = X23 at hHeld FPX23 RX23 ⊢
              have BX23 := Lib.hid hHeld
              replace FPX23 := Lib.hid FPX23
              replace RX23 := Lib.hid RX23
              have FQX23 := Lib.hid (FQX22.out.keep ((RX23.out).block _ FQX22.out.lt))
              have ne_P_Q : X22.heap.size ≠ X2.heap.size := fun h => by have := FQX22.out.lt; omega
              have ne_Q_P := ne_P_Q.symm
              refine wpAnyH_ready (rs := [9]) (by kernel_rfl) (by simp) ?_
              refine AllReadyH.cons (o := ⟨none, _, _, _, _, _⟩) rfl (fun K hK => ?_) ?_
              · refine step_store_D rfl _ _ rfl rfl X22.heap.size L rfl rfl HLl.out FPX23.out ?_
                refine hK.out _ _ (below_setRow BX23.out (BX22.out.size) _) (fun hHeld => ?_)
                clear hK K
                have FPX24 : DRow (X23.setRow X22.heap.size (bytesV L).toArray) X22.heap.size L := FPX23.out.row _
                have FQX24 := Lib.hid (FQX23.out.keep (w' := (X23.setRow X22.heap.size (bytesV L).toArray)) (setRow_other _ _ _ _ ne_Q_P))
                generalize (X23.setRow X22.heap.size (bytesV L).toArray) = X24 at hHeld FPX24 FQX24 ⊢
                have BX24 := Lib.hid hHeld
                replace FPX24 := Lib.hid FPX24
                refine wpAnyH_ready (rs := [10]) (by kernel_rfl) (by simp) ?_
                refine AllReadyH.cons (o := ⟨none, _, _, _, _, _⟩) rfl (fun K hK => ?_) ?_
                · refine step_store_D rfl _ _ rfl rfl X2.heap.size R rfl rfl HRl.out FQX24.out ?_
                  refine hK.out _ _ (below_setRow BX24.out (BX2.out.size) _) (fun hHeld => ?_)
                  clear hK K
                  have FQX25 : DRow (X24.setRow X2.heap.size (bytesV R).toArray) X2.heap.size R := FQX24.out.row _
                  have FPX25 := Lib.hid (FPX24.out.keep (w' := (X24.setRow X2.heap.size (bytesV R).toArray)) (setRow_other _ _ _ _ ne_P_Q))
                  generalize (X24.setRow X2.heap.size (bytesV R).toArray) = X25 at hHeld FQX25 FPX25 ⊢
                  have BX25 := Lib.hid hHeld
                  replace FQX25 := Lib.hid FQX25
                  refine wpAnyH_done (by kernel_rfl) ?_ _
                  exact hfin7 _ _ _ _ _ _ ne_P_Q FPX25 FQX25 BX25
                exact AllReadyH.nil
              exact AllReadyH.nil
            exact AllReadyH.nil
          refine AllReadyH.cons (o := ⟨some 7, _, _, _, _, _⟩) rfl (fun K hK => ?_) ?_
          · go_simp
            refine hK.out _ _ (hHeld.alloc hHeld.size _) (fun hHeld => ?_)
            clear hK K
            try simp only [Act.put, List.setIfInBounds_toArray, List.set_cons_zero, List.set_cons_succ]
            have FPX26 : IsD (X21.alloc (.cells Z32 26)) X21.heap.size := IsD.new _ _ (heap_alloc_new X21 _)
            have RX26 : Below X21.heap.size X21 (X21.alloc (.cells Z32 26)) := (Below.refl _ _).alloc (Nat.le_refl _) _
            generalize (X21.alloc (.cells Z32 26)) = X26 at hHeld FPX26 RX26 ⊢
            have BX26 := Lib.hid hHeld
            replace FPX26 := Lib.hid FPX26
            replace RX26 := Lib.hid RX26
            have FDX26 := Lib.hid (FDX21.out.keep ((RX26.out).block _ FDX21.out.lt))
            have FQX26 := Lib.hid (FQX21.out.keep ((RX26.out).block _ FQX21.out.lt))
            have ne_P_D : X21.heap.size ≠ X1.heap.size := fun h => by have := FDX21.out.lt; omega
            have ne_D_P := ne_P_D.symm
            have ne_P_Q : X21.heap.size ≠ X2.heap.size := fun h => by have := FQX21.out.lt; omega
            have ne_Q_P := ne_P_Q.symm
            refine wpAnyH_ready (rs := [6]) (by kernel_rfl) (by simp) ?_
            refine AllReadyH.cons (o := ⟨some 28, _, _, _, _, _⟩) rfl (fun K hK => ?_) ?_
            · go_simp
              go_at_call 17
              refine (HTRc.out _ _ BX26.out FDX26.out).mono ?_
              rintro e X27 ⟨rfl, bX27⟩
              have RX27 := Lib.hid (bX27)
              go_wp2_with fail
              refine hK.out _ _ (BX26.out.trans (RX27.out.mono BX26.out.size)) (fun hHeld => ?_)
              clear hK K
              try simp only [Act.put, List.setIfInBounds_toArray, List.set_cons_zero, List.set_cons_succ]
              have BX27 := Lib.hid hHeld
              have FQX27 := Lib.hid (FQX26.out.keep ((RX27.out).block _ FQX26.out.lt))
              have FPX27 := Lib.hid (FPX26.out.keep ((RX27.out).block _ FPX26.out.lt))
              refine wpAnyH_ready (rs := [9]) (by kernel_rfl) (by simp) ?_
              refine AllReadyH.cons (o := ⟨none, _, _, _, _, _⟩) rfl (fun K hK => ?_) ?_
              · refine step_store_D rfl _ _ rfl rfl X21.heap.size L rfl rfl HLl.out FPX27.out ?_
                refine hK.out _ _ (below_setRow BX27.out (BX21.out.size) _) (fun hHeld => ?_)
                clear hK K
                have FPX28 : DRow (X27.setRow X21.heap.size (bytesV L).toArray) X21.heap.size L := FPX27.out.row _
                have FQX28 := Lib.hid (FQX27.out.keep (w' := (X27.setRow X21.heap.size (bytesV L).toArray)) (setRow_other _ _ _ _ ne_Q_P))
                generalize (X27.setRow X21.heap.size (bytesV L).toArray) = X28 at hHeld FPX28 FQX28 ⊢
                have BX28 := Lib.hid hHeld
                replace FPX28 := Lib.hid FPX28
                refine wpAnyH_ready (rs := [10]) (by kernel_rfl) (by simp) ?_
                refine AllReadyH.cons (o := ⟨none, _, _, _, _, _⟩) rfl (fun K hK => ?_) ?_
                · refine step_store_D rfl _ _ rfl rfl X2.heap.size R rfl rfl HRl.out FQX28.out ?_
                  refine hK.out _ _ (below_setRow BX28.out (BX2.out.size) _) (fun hHeld => ?_)
                  clear hK K
                  have FQX29 : DRow (X28.setRow X2.heap.size (bytesV R).toArray) X2.heap.size R := FQX28.out.row _
                  have FPX29 := Lib.hid (FPX28.out.keep (w' := (X28.setRow X2.heap.size (bytesV R).toArray)) (setRow_other _ _ _ _ ne_P_Q))
                  generalize (X28.setRow X2.heap.size (bytesV R).toArray) = X29 at hHeld FQX29 FPX29 ⊢
                  have BX29 := Lib.hid hHeld
                  replace FQX29 := Lib.hid FQX29
                  refine wpAnyH_done (by kernel_rfl) ?_ _
                  exact hfin7 _ _ _ _ _ _ ne_P_Q FPX29 FQX29 BX29
                exact AllReadyH.nil
              exact AllReadyH.nil
            exact AllReadyH.nil
          exact AllReadyH.nil
        exact AllReadyH.nil
      refine AllReadyH.cons (o := ⟨some 7, _, _, _, _, _⟩) rfl (fun K hK => ?_) ?_
      · go_simp
        refine hK.out _ _ (hHeld.alloc hHeld.size _) (fun hHeld => ?_)
        clear hK K
        try simp only [Act.put, List.setIfInBounds_toArray, List.set_cons_zero, List.set_cons_succ]
        have FPX30 : IsD (X1.alloc (.cells Z32 26)) X1.heap.size := IsD.new _ _ (heap_alloc_new X1 _)
        have RX30 : Below X1.heap.size X1 (X1.alloc (.cells Z32 26)) := (Below.refl _ _).alloc (Nat.le_refl _) _
        generalize (X1.alloc (.cells Z32 26)) = X30 at hHeld FPX30 RX30 ⊢
        have BX30 := Lib.hid hHeld
        replace FPX30 := Lib.hid FPX30
        replace RX30 := Lib.hid RX30
        refine wpAnyH_ready (rs := [5, 8]) (by kernel_rfl) (by simp) ?_
        refine AllReadyH.cons (o := ⟨some 27, _, _, _, _, _⟩) rfl (fun K hK => ?_) ?_
        · go_simp
          refine hK.out _ _ (hHeld.alloc hHeld.size _) (fun hHeld => ?_)
          clear hK K
          try simp only [Act.put, List.setIfInBounds_toArray, List.set_cons_zero, List.set_cons_succ]
          have FDX31 : DRow (X30.alloc (.cells (bytesV d).toArray 26)) X30.heap.size d := heap_alloc_new X30 _
          have RX31 : Below X30.heap.size X30 (X30.alloc (.cells (bytesV d).toArray 26)) := (Below.refl _ _).alloc (Nat.le_refl _) _
          generalize (X30.alloc (.cells (bytesV d).toArray 26)) = X31 at hHeld FDX31 RX31 ⊢
          have BX31 := Lib.hid hHeld
          replace FDX31 := Lib.hid FDX31
          replace RX31 := Lib.hid RX31
          have FPX31 := Lib.hid (FPX30.out.keep ((RX31.out).block _ FPX30.out.lt))
          have ne_D_P : X30.heap.size ≠ X1.heap.size := fun h => by have := FPX30.out.lt; omega
          have ne_P_D := ne_D_P.symm
          refine wpAnyH_ready (rs := [6, 8]) (by kernel_rfl) (by simp) ?_
          refine AllReadyH.cons (o := ⟨some 28, _, _, _, _, _⟩) rfl (fun K hK => ?_) ?_
          · go_simp
            go_at_call 17
            refine (HTRc.out _ _ BX31.out FDX31.out).mono ?_
            rintro e X32 ⟨rfl, bX32⟩
            have RX32 := Lib.hid (bX32)
            go_wp2_with fail
            refine hK.out _ _ (BX31.out.trans (RX32.out.mono BX31.out.size)) (fun hHeld => ?_)
            clear hK K
            try simp only [Act.put, List.setIfInBounds_toArray, List.set_cons_zero, List.set_cons_succ]
            have BX32 := Lib.hid hHeld
            have FPX32 := Lib.hid (FPX31.out.keep ((RX32.out).block _ FPX31.out.lt))
            refine wpAnyH_ready (rs := [8]) (by kernel_rfl) (by simp) ?_
            refine AllReadyH.cons (o := ⟨some 8, _, _, _, _, _⟩) rfl (fun K hK => ?_) ?_
            · go_simp
              refine hK.out _ _ (hHeld.alloc hHeld.size _) (fun hHeld => ?_)
              clear hK K
              try simp only [Act.put, List.setIfInBounds_toArray, List.set_cons_zero, List.set_cons_succ]
              have FQX33 : IsD (X32.alloc (.cells Z32 26)) X32.heap.size := IsD.new _ _ (heap_alloc_new X32 _)
              have RX33 : Below X32.heap.size X32 (X32.alloc (.cells Z32 26)) := (Below.refl _ _).alloc (Nat.le_refl _) _
              generalize (X32.alloc (.cells Z32 26)) = X33 at hHeld FQX33 RX33 ⊢
              have BX33 := Lib.hid hHeld
              replace FQX33 := Lib.hid FQX33
              replace RX33 := Lib.hid RX33
              have FPX33 := Lib.hid (FPX32.out.keep ((RX33.out).block _ FPX32.out.lt))
              have ne_Q_P : X32.heap.size ≠ X1.heap.size := fun h => by have := FPX32.out.lt; omega
              have ne_P_Q := ne_Q_P.symm
              refine wpAnyH_ready (rs := [9]) (by kernel_rfl) (by simp) ?_
              refine AllReadyH.cons (o := ⟨none, _, _, _, _, _⟩) rfl (fun K hK => ?_) ?_
              · refine step_store_D rfl _ _ rfl rfl X1.heap.size L rfl rfl HLl.out FPX33.out ?_
                refine hK.out _ _ (below_setRow BX33.out (BX1.out.size) _) (fun hHeld => ?_)
                clear hK K
                have FPX34 : DRow (X33.setRow X1.heap.size (bytesV L).toArray) X1.heap.size L := FPX33.out.row _
                have FQX34 := Lib.hid (FQX33.out.keep (w' := (X33.setRow X1.heap.size (bytesV L).toArray)) (setRow_other _ _ _ _ ne_Q_P))
                generalize (X33.setRow X1.heap.size (bytesV L).toArray) = X34 at hHeld FPX34 FQX34 ⊢
                have BX34 := Lib.hid hHeld
                replace FPX34 := Lib.hid FPX34
                refine wpAnyH_ready (rs := [10]) (by kernel_rfl) (by simp) ?_
                refine AllReadyH.cons (o := ⟨none, _, _, _, _, _⟩) rfl (fun K hK => ?_) ?_
                · refine step_store_D rfl _ _ rfl rfl X32.heap.size R rfl rfl HRl.out FQX34.out ?_
                  refine hK.out _ _ (below_setRow BX34.out (BX32.out.size) _) (fun hHeld => ?_)
                  clear hK K
                  have FQX35 : DRow (X34.setRow X32.heap.size (bytesV R).toArray) X32.heap.size R := FQX34.out.row _
                  have FPX35 := Lib.hid (FPX34.out.keep (w' := (X34.setRow X32.heap.size (bytesV R).toArray)) (setRow_other _ _ _ _ ne_P_Q))
                  generalize (X34.setRow X32.heap.size (bytesV R).toArray) = X35 at hHeld FQX35 FPX35 ⊢
                  have BX35 := Lib.hid hHeld
                  replace FQX35 := Lib.hid FQX35
                  refine wpAnyH_done (by kernel_rfl) ?_ _
                  exact hfin7 _ _ _ _ _ _ ne_P_Q FPX35 FQX35 BX35
                exact AllReadyH.nil
              exact AllReadyH.nil
            exact AllReadyH.nil
          refine AllReadyH.cons (o := ⟨some 8, _, _, _, _, _⟩) rfl (fun K hK => ?_) ?_
          · go_simp
            refine hK.out _ _ (hHeld.alloc hHeld.size _) (fun hHeld => ?_)
            clear hK K
            try simp only [Act.put, List.setIfInBounds_toArray, List.set_cons_zero, List.set_cons_succ]
            have FQX36 : IsD (X31.alloc (.cells Z32 26)) X31.heap.size := IsD.new _ _ (heap_alloc_new X31 _)
            have RX36 : Below X31.heap.size X31 (X31.alloc (.cells Z32 26)) := (Below.refl _ _).alloc (Nat.le_refl _) _
            generalize (X31.alloc (.cells Z32 26)) = X36 at hHeld FQX36 RX36 ⊢
            have BX36 := Lib.hid hHeld
            replace FQX36 := Lib.hid FQX36
            replace RX36 := Lib.hid RX36
            have FPX36 := Lib.hid (FPX31.out.keep ((RX36.out).block _ FPX31.out.lt))
            have FDX36 := Lib.hid (FDX31.out.keep ((RX36.out).block _ FDX31.out.lt))
            have ne_Q_P : X31.heap.size ≠ X1.heap.size := fun h => by have := FPX31.out.lt; omega
            have ne_P_Q := ne_Q_P.symm
            have ne_Q_D : X31.heap.size ≠ X30.heap.size := fun h => by have := FDX31.out.lt; omega
            have ne_D_Q := ne_Q_D.symm
            refine wpAnyH_ready (rs := [6]) (by kernel_rfl) (by simp) ?_
            refine AllReadyH.cons (o := ⟨some 28, _, _, _, _, _⟩) rfl (fun K hK => ?_) ?_
            · go_simp
              go_at_call 17
              refine (HTRc.out _ _ BX36.out FDX36.out).mono ?_
              rintro e X37 ⟨rfl, bX37⟩
              have RX37 := Lib.hid (bX37)
              go_wp2_with fail
              refine hK.out _ _ (BX36.out.trans (RX37.out.mono BX36.out.size)) (fun hHeld => ?_)
              clear hK K
              try simp only [Act.put, List.setIfInBounds_toArray, List.set_cons_zero, List.set_cons_succ]
              have BX37 := Lib.hid hHeld
              have FPX37 := Lib.hid (FPX36.out.keep ((RX37.out).block _ FPX36.out.lt))
              have FQX37 := Lib.hid (FQX36.out.keep ((RX37.out).block _ FQX36.out.lt))
              refine wpAnyH_ready (rs := [9]) (by kernel_rfl) (by simp) ?_
              refine AllReadyH.cons (o := ⟨none, _, _, _, _, _⟩) rfl (fun K hK => ?_) ?_
              · refine step_store_D rfl _ _ rfl rfl X1.heap.size L rfl rfl HLl.out FPX37.out ?_
                refine hK.out _ _ (below_setRow BX37.out (BX1.out.size) _) (fun hHeld => ?_)
                clear hK K
                have FPX38 : DRow (X37.setRow X1.heap.size (bytesV L).toArray) X1.heap.size L := FPX37.out.row _
                have FQX38 := Lib.hid (FQX37.out.keep (w' := (X37.setRow X1.heap.size (bytesV L).toArray)) (setRow_other _ _ _ _ ne_Q_P))
                generalize (X37.setRow X1.heap.size (bytesV L).toArray) = X38 at hHeld FPX38 FQX38 ⊢
                have BX38 := Lib.hid hHeld
                replace FPX38 := Lib.hid FPX38
                refine wpAnyH_ready (rs := [10]) (by kernel_rfl) (by simp) ?_
                refine AllReadyH.cons (o := ⟨none, _, _, _, _, _⟩) rfl (fun K hK => ?_) ?_
                · refine step_store_D rfl _ _ rfl rfl X31.heap.size R rfl rfl HRl.out FQX38.out ?_
                  refine hK.out _ _ (below_setRow BX38.out (BX31.out.size) _) (fun hHeld => ?_)
                  clear hK K
                  have FQX39 : DRow (X38.setRow X31.heap.size (bytesV R).toArray) X31.heap.size R := FQX38.out.row _
                  have FPX39 := Lib.hid (FPX38.out.keep (w' := (X38.setRow X31.heap.size (bytesV R).toArray)) (setRow_other _ _ _ _ ne_P_Q))
                  generalize (X38.setRow X31.heap.size (bytesV R).toArray) = X39 at hHeld FQX39 FPX39 ⊢
                  have BX39 := Lib.hid hHeld
                  replace FQX39 := Lib.hid FQX39
                  refine wpAnyH_done (by kernel_rfl) ?_ _
                  exact hfin7 _ _ _ _ _ _ ne_P_Q FPX39 FQX39 BX39
                exact AllReadyH.nil
              exact AllReadyH.nil
            exact AllReadyH.nil
          exact AllReadyH.nil
        refine AllReadyH.cons (o := ⟨some 8, _, _, _, _, _⟩) rfl (fun K hK => ?_) ?_
        · go_simp
          refine hK.out _ _ (hHeld.alloc hHeld.size _) (fun hHeld => ?_)
          clear hK K
          try simp only [Act.put, List.setIfInBounds_toArray, List.set_cons_zero, List.set_cons_succ]
          have FQX40 : IsD (X30.alloc (.cells Z32 26)) X30.heap.size := IsD.new _ _ (heap_alloc_new X30 _)
          have RX40 : Below X30.heap.size X30 (X30.alloc (.cells Z32 26)) := (Below.refl _ _).alloc (Nat.le_refl _) _
          generalize (X30.alloc (.cells Z32 26)) = X40 at hHeld FQX40 RX40 ⊢
          have BX40 := Lib.hid hHeld
          replace FQX40 := Lib.hid FQX40
          replace RX40 := Lib.hid RX40
          have FPX40 := Lib.hid (FPX30.out.keep ((RX40.out).block _ FPX30.out.lt))
          have ne_Q_P : X30.heap.size ≠ X1.heap.size := fun h => by have := FPX30.out.lt; omega
          have ne_P_Q := ne_Q_P.symm
          refine wpAnyH_ready (rs := [5]) (by kernel_rfl) (by simp) ?_
          refine AllReadyH.cons (o := ⟨some 27, _, _, _, _, _⟩) rfl (fun K hK => ?_) ?_
          · go_simp
            refine hK.out _ _ (hHeld.alloc hHeld.size _) (fun hHeld => ?_)
            clear hK K
            try simp only [Act.put, List.setIfInBounds_toArray, List.set_cons_zero, List.set_cons_succ]
            have FDX41 : DRow (X40.alloc (.cells (bytesV d).toArray 26)) X40.heap.size d := heap_alloc_new X40 _
            have RX41 : Below X40.heap.size X40 (X40.alloc (.cells (bytesV d).toArray 26)) := (Below.refl _ _).alloc (Nat.le_refl _) _
            generalize (X40.alloc (.cells (bytesV d).toArray 26)) = X41 at hHeld FDX41 RX41 ⊢
            have BX41 := Lib.hid hHeld
            replace FDX41 := Lib.hid FDX41
            replace RX41 := Lib.hid RX41
            have FPX41 := Lib.hid (FPX40.out.keep ((RX41.out).block _ FPX40.out.lt))
            have FQX41 := Lib.hid (FQX40.out.keep ((RX41.out).block _ FQX40.out.lt))
            have ne_D_P : X40.heap.size ≠ X1.heap.size := fun h => by have := FPX40.out.lt; omega
            have ne_P_D := ne_D_P.symm
            have ne_D_Q : X40.heap.size ≠ X30.heap.size := fun h => by have := FQX40.out.lt; omega
            have ne_Q_D := ne_D_Q.symm
            refine wpAnyH_ready (rs := [6]) (by kernel_rfl) (by simp) ?_
            refine AllReadyH.cons (o := ⟨some 28, _, _, _, _, _⟩) rfl (fun K hK => ?_) ?_
            · go_simp
              go_at_call 17
              refine (HTRc.out _ _ BX41.out FDX41.out).mono ?_
              rintro e X42 ⟨rfl, bX42⟩
              have RX42 := Lib.hid (bX42)
              go_wp2_with fail
              refine hK.out _ _ (BX41.out.trans (RX42.out.mono BX41.out.size)) (fun hHeld => ?_)
              clear hK K
              try simp only [Act.put, List.setIfInBounds_toArray, List.set_cons_zero, List.set_cons_succ]
              have BX42 := Lib.hid hHeld
              have FPX42 := Lib.hid (FPX41.out.keep ((RX42.out).block _ FPX41.out.lt))
              have FQX42 := Lib.hid (FQX41.out.keep ((RX42.out).block _ FQX41.out.lt))
              refine wpAnyH_ready (rs := [9]) (by kernel_rfl) (by simp) ?_
              refine AllReadyH.cons (o := ⟨none, _, _, _, _, _⟩) rfl (fun K hK => ?_) ?_
              · refine step_store_D rfl _ _ rfl rfl X1.heap.size L rfl rfl HLl.out FPX42.out ?_
                refine hK.out _ _ (below_setRow BX42.out (BX1.out.size) _) (fun hHeld => ?_)
                clear hK K
                have FPX43 : DRow (X42.setRow X1.heap.size (bytesV L).toArray) X1.heap.size L := FPX42.out.row _
                have FQX43 := Lib.hid (FQX42.out.keep (w' := (X42.setRow X1.heap.size (bytesV L).toArray)) (setRow_other _ _ _ _ ne_Q_P))
                generalize (X42.setRow X1.heap.size (bytesV L).toArray) = X43 at hHeld FPX43 FQX43 ⊢
                have BX43 := Lib.hid hHeld
                replace FPX43 := Lib.hid FPX43
                refine wpAnyH_ready (rs := [10]) (by kernel_rfl) (by simp) ?_
                refine AllReadyH.cons (o := ⟨none, _, _, _, _, _⟩) rfl (fun K hK => ?_) ?_
                · refine step_store_D rfl _ _ rfl rfl X30.heap.size R rfl rfl HRl.out FQX43.out ?_
                  refine hK.out _ _ (below_setRow BX43.out (BX30.out.size) _) (fun hHeld => ?_)
                  clear hK K
                  have FQX44 : DRow (X43.setRow X30.heap.size (bytesV R).toArray) X30.heap.size R := FQX43.out.row _
                  have FPX44 := Lib.hid (FPX43.out.keep (w' := (X43.setRow X30.heap.size (bytesV R).toArray)) (setRow_other _ _ _ _ ne_P_Q))
                  generalize (X43.setRow X30.heap.size (bytesV R).toArray) = X44 at hHeld FQX44 FPX44 ⊢
                  have BX44 := Lib.hid hHeld
                  replace FQX44 := Lib.hid FQX44
                  refine wpAnyH_done (by kernel_rfl) ?_ _
                  exact hfin7 _ _ _ _ _ _ ne_P_Q FPX44 FQX44 BX44
                exact AllReadyH.nil
              exact AllReadyH.nil
            exact AllReadyH.nil
          exact AllReadyH.nil
        exact AllReadyH.nil
      refine AllReadyH.cons (o := ⟨some 8, _, _, _, _, _⟩) rfl (fun K hK => ?_) ?_
      · go_simp
        refine hK.out _ _ (hHeld.alloc hHeld.size _) (fun hHeld => ?_)
        clear hK K
        try simp only [Act.put, List.setIfInBounds_toArray, List.set_cons_zero, List.set_cons_succ]
        have FQX45 : IsD (X1.alloc (.cells Z32 26)) X1.heap.size := IsD.new _ _ (heap_alloc_new X1 _)
        have RX45 : Below X1.heap.size X1 (X1.alloc (.cells Z32 26)) := (Below.refl _ _).alloc (Nat.le_refl _) _
        generalize (X1.alloc (.cells Z32 26)) = X45 at hHeld FQX45 RX45 ⊢
        have BX45 := Lib.hid hHeld
        replace FQX45 := Lib.hid FQX45
        replace RX45 := Lib.hid RX45
        refine wpAnyH_ready (rs := [5, 7]) (by kernel_rfl) (by simp) ?_
        refine AllReadyH.cons (o := ⟨some 27, _, _, _, _, _⟩) rfl (fun K hK => ?_) ?_
        · go_simp
          refine hK.out _ _ (hHeld.alloc hHeld.size _) (fun hHeld => ?_)
          clear hK K
          try simp only [Act.put, List.setIfInBounds_toArray, List.set_cons_zero, List.set_cons_succ]
          have FDX46 : DRow (X45.alloc (.cells (bytesV d).toArray 26)) X45.heap.size d := heap_alloc_new X45 _
          have RX46 : Below X45.heap.size X45 (X45.alloc (.cells (bytesV d).toArray 26)) := (Below.refl _ _).alloc (Nat.le_refl _) _
          generalize (X45.alloc (.cells (bytesV d).toArray 26)) = X46 at hHeld FDX46 RX46 ⊢
          have BX46 := Lib.hid hHeld
          replace FDX46 := Lib.hid FDX46
          replace RX46 := Lib.hid RX46
          have FQX46 := Lib.hid (FQX45.out.keep ((RX46.out).block _ FQX45.out.lt))
          have ne_D_Q : X45.heap.size ≠ X1.heap.size := fun h => by have := FQX45.out.lt; omega
          have ne_Q_D := ne_D_Q.symm
          refine wpAnyH_ready (rs := [6, 7]) (by kernel_rfl) (by simp) ?_
          refine AllReadyH.cons (o := ⟨some 28, _, _, _, _, _⟩) rfl (fun K hK => ?_) ?_
          · go_simp
            go_at_call 17
            refine (HTRc.out _ _ BX46.out FDX46.out).mono ?_
            rintro e X47 ⟨rfl, bX47⟩
            have RX47 := Lib.hid (bX47)
            go_wp2_with fail
            refine hK.out _ _ (BX46.out.trans (RX47.out.mono BX46.out.size)) (fun hHeld => ?_)
            clear hK K
            try simp only [Act.put, List.setIfInBounds_toArray, List.set_cons_zero, List.set_cons_succ]
            have BX47 := Lib.hid hHeld
            have FQX47 := Lib.hid (FQX46.out.keep ((RX47.out).block _ FQX46.out.lt))
            refine wpAnyH_ready (rs := [7]) (by kernel_rfl) (by simp) ?_
            refine AllReadyH.cons (o := ⟨some 7, _, _, _, _, _⟩) rfl (fun K hK => ?_) ?_
            · go_simp
              refine hK.out _ _ (hHeld.alloc hHeld.size _) (fun hHeld => ?_)
              clear hK K
              try simp only [Act.put, List.setIfInBounds_toArray, List.set_cons_zero, List.set_cons_succ]
              have FPX48 : IsD (X47.alloc (.cells Z32 26)) X47.heap.size := IsD.new _ _ (heap_alloc_new X47 _)
              have RX48 : Below X47.heap.size X47 (X47.alloc (.cells Z32 26)) := (Below.refl _ _).alloc (Nat.le_refl _) _
              generalize (X47.alloc (.cells Z32 26)) = X48 at hHeld FPX48 RX48 ⊢
              have BX48 := Lib.hid hHeld
              replace FPX48 := Lib.hid FPX48
              replace RX48 := Lib.hid RX48
              have FQX48 := Lib.hid (FQX47.out.keep ((RX48.out).block _ FQX47.out.lt))
              have ne_P_Q : X47.heap.size ≠ X1.heap.size := fun h => by have := FQX47.out.lt; omega
              have ne_Q_P := ne_P_Q.symm
              refine wpAnyH_ready (rs := [9]) (by kernel_rfl) (by simp) ?_
              refine AllReadyH.cons (o := ⟨none, _, _, _, _, _⟩) rfl (fun K hK => ?_) ?_
              · refine step_store_D rfl _ _ rfl rfl X47.heap.size L rfl rfl HLl.out FPX48.out ?_
                refine hK.out _ _ (below_setRow BX48.out (BX47.out.size) _) (fun hHeld => ?_)
                clear hK K
                have FPX49 : DRow (X48.setRow X47.heap.size (bytesV L).toArray) X47.heap.size L := FPX48.out.row _
                have FQX49 := Lib.hid (FQX48.out.keep (w' := (X48.setRow X47.heap.size (bytesV L).toArray)) (setRow_other _ _ _ _ ne_Q_P))
                generalize (X48.setRow X47.heap.size (bytesV L).toArray) = X49 at hHeld FPX49 FQX49 ⊢
                have BX49 := Lib.hid hHeld
                replace FPX49 := Lib.hid FPX49
                refine wpAnyH_ready (rs := [10]) (by kernel_rfl) (by simp) ?_
                refine AllReadyH.cons (o := ⟨none, _, _, _, _, _⟩) rfl (fun K hK => ?_) ?_
                · refine step_store_D rfl _ _ rfl rfl X1.heap.size R rfl rfl HRl.out FQX49.out ?_
                  refine hK.out _ _ (below_setRow BX49.out (BX1.out.size) _) (fun hHeld => ?_)
                  clear hK K
                  have FQX50 : DRow (X49.setRow X1.heap.size (bytesV R).toArray) X1.heap.size R := FQX49.out.row _
                  have FPX50 := Lib.hid (FPX49.out.keep (w' := (X49.setRow X1.heap.size (bytesV R).toArray)) (setRow_other _ _ _ _ ne_P_Q))
                  generalize (X49.setRow X1.heap.size (bytesV R).toArray) = X50 at hHeld FQX50 FPX50 ⊢
                  have BX50 := Lib.hid hHeld
                  replace FQX50 := Lib.hid FQX50
                  refine wpAnyH_done (by kernel_rfl) ?_ _
                  exact hfin7 _ _ _ _ _ _ ne_P_Q FPX50 FQX50 BX50
                exact AllReadyH.nil
              exact AllReadyH.nil
            exact AllReadyH.nil
          refine AllReadyH.cons (o := ⟨some 7, _, _, _, _, _⟩) rfl (fun K hK => ?_) ?_
          · go_simp
            refine hK.out _ _ (hHeld.alloc hHeld.size _) (fun hHeld => ?_)
            clear hK K
            try simp only [Act.put, List.setIfInBounds_toArray, List.set_cons_zero, List.set_cons_succ]
            have FPX51 : IsD (X46.alloc (.cells Z32 26)) X46.heap.size := IsD.new _ _ (heap_alloc_new X46 _)
            have RX51 : Below X46.heap.size X46 (X46.alloc (.cells Z32 26)) := (Below.refl _ _).alloc (Nat.le_refl _) _
            generalize (X46.alloc (.cells Z32 26)) = X51 at hHeld FPX51 RX51 ⊢
            have BX51 := Lib.hid hHeld
            replace FPX51 := Lib.hid FPX51
            replace RX51 := Lib.hid RX51
            have FQX51 := Lib.hid (FQX46.out.keep ((RX51.out).block _ FQX46.out.lt))
            have FDX51 := Lib.hid (FDX46.out.keep ((RX51.out).block _ FDX46.out.lt))
            have ne_P_Q : X46.heap.size ≠ X1.heap.size := fun h => by have := FQX46.out.lt; omega
            have ne_Q_P := ne_P_Q.symm
            have ne_P_D : X46.heap.size ≠ X45.heap.size := fun h => by have := FDX46.out.lt; omega
            have ne_D_P := ne_P_D.symm
            refine wpAnyH_ready (rs := [6]) (by kernel_rfl) (by simp) ?_
            refine AllReadyH.cons (o := ⟨some 28, _, _, _, _, _⟩) rfl (fun K hK => ?_) ?_
            · go_simp
              go_at_call 17
              refine (HTRc.out _ _ BX51.out FDX51.out).mono ?_
              rintro e X52 ⟨rfl, bX52⟩
              have RX52 := Lib.hid (bX52)
              go_wp2_with fail
              refine hK.out _ _ (BX51.out.trans (RX52.out.mono BX51.out.size)) (fun hHeld => ?_)
              clear hK K
              try simp only [Act.put, List.setIfInBounds_toArray, List.set_cons_zero, List.set_cons_succ]
              have BX52 := Lib.hid hHeld
              have FQX52 := Lib.hid (FQX51.out.keep ((RX52.out).block _ FQX51.out.lt))
              have FPX52 := Lib.hid (FPX51.out.keep ((RX52.out).block _ FPX51.out.lt))
              refine wpAnyH_ready (rs := [9]) (by kernel_rfl) (by simp) ?_
              refine AllReadyH.cons (o := ⟨none, _, _, _, _, _⟩) rfl (fun K hK => ?_) ?_
              · refine step_store_D rfl _ _ rfl rfl X46.heap.size L rfl rfl HLl.out FPX52.out ?_
                refine hK.out _ _ (below_setRow BX52.out (BX46.out.size) _) (fun hHeld => ?_)
                clear hK K
                have FPX53 : DRow (X52.setRow X46.heap.size (bytesV L).toArray) X46.heap.size L := FPX52.out.row _
                have FQX53 := Lib.hid (FQX52.out.keep (w' := (X52.setRow X46.heap.size (bytesV L).toArray)) (setRow_other _ _ _ _ ne_Q_P))
                generalize (X52.setRow X46.heap.size (bytesV L).toArray) = X53 at hHeld FPX53 FQX53 ⊢
                have BX53 := Lib.hid hHeld
                replace FPX53 := Lib.hid FPX53
                refine wpAnyH_ready (rs := [10]) (by kernel_rfl) (by simp) ?_
                refine AllReadyH.cons (o := ⟨none, _, _, _, _, _⟩) rfl (fun K hK => ?_) ?_
                · refine step_store_D rfl _ _ rfl rfl X1.heap.size R rfl rfl HRl.out FQX53.out ?_
                  refine hK.out _ _ (below_setRow BX53.out (BX1.out.size) _) (fun hHeld => ?_)
                  clear hK K
                  have FQX54 : DRow (X53.setRow X1.heap.size (bytesV R).toArray) X1.heap.size R := FQX53.out.row _
                  have FPX54 := Lib.hid (FPX53.out.keep (w' := (X53.setRow X1.heap.size (bytesV R).toArray)) (setRow_other _ _ _ _ ne_P_Q))
                  generalize (X53.setRow X1.heap.size (bytesV R).toArray) = X54 at hHeld FQX54 FPX54 ⊢
                  have BX54 := Lib.hid hHeld
                  replace FQX54 := Lib.hid FQX54
                  refine wpAnyH_done (by kernel_rfl) ?_ _
                  exact hfin7 _ _ _ _ _ _ ne_P_Q FPX54 FQX54 BX54
                exact AllReadyH.nil
              exact AllReadyH.nil
            exact AllReadyH.nil
          exact AllReadyH.nil
        refine AllReadyH.cons (o := ⟨some 7, _, _, _, _, _⟩) rfl (fun K hK => ?_) ?_
        · go_simp
          refine hK.out _ _ (hHeld.alloc hHeld.size _) (fun hHeld => ?_)
          clear hK K
          try simp only [Act.put, List.setIfInBounds_toArray, List.set_cons_zero, List.set_cons_succ]
          have FPX55 : IsD (X45.alloc (.cells Z32 26)) X45.heap.size := IsD.new _ _ (heap_alloc_new X45 _)
          have RX55 : Below X45.heap.size X45 (X45.alloc (.cells Z32 26)) := (Below.refl _ _).alloc (Nat.le_refl _) _
          generalize (X45.alloc (.cells Z32 26)) = X55 at hHeld FPX55 RX55 ⊢
          have BX55 := Lib.hid hHeld
          replace FPX55 := Lib.hid FPX55
          replace RX55 := Lib.hid RX55
          have FQX55 := Lib.hid (FQX45.out.keep ((RX55.out).block _ FQX45.out.lt))
          have ne_P_Q : X45.heap.size ≠ X1.heap.size := fun h => by have := FQX45.out.lt; omega
          have ne_Q_P := ne_P_Q.symm
          refine wpAnyH_ready (rs := [5]) (by kernel_rfl) (by simp) ?_
          refine AllReadyH.cons (o := ⟨some 27, _, _, _, _, _⟩) rfl (fun K hK => ?_) ?_
          · go_simp
            refine hK.out _ _ (hHeld.alloc hHeld.size _) (fun hHeld => ?_)
            clear hK K
            try simp only [Act.put, List.setIfInBounds_toArray, List.set_cons_zero, List.set_cons_succ]
            have FDX56 : DRow (X55.alloc (.cells (bytesV d).toArray 26)) X55.heap.size d := heap_alloc_new X55 _
            have RX56 : Below X55.heap.size X55 (X55.alloc (.cells (bytesV d).toArray 26)) := (Below.refl _ _).alloc (Nat.le_refl _) _
            generalize (X55.alloc (.cells (bytesV d).toArray 26)) = X56 at hHeld FDX56 RX56 ⊢
            have BX56 := Lib.hid hHeld
            replace FDX56 := Lib.hid FDX56
            replace RX56 := Lib.hid RX56
            have FQX56 := Lib.hid (FQX55.out.keep ((RX56.out).block _ FQX55.out.lt))
            have FPX56 := Lib.hid (FPX55.out.keep ((RX56.out).block _ FPX55.out.lt))
            have ne_D_Q : X55.heap.size ≠ X1.heap.size := fun h => by have := FQX55.out.lt; omega
            have ne_Q_D := ne_D_Q.symm
            have ne_D_P : X55.heap.size ≠ X45.heap.size := fun h => by have := FPX55.out.lt; omega
            have ne_P_D := ne_D_P.symm
            refine wpAnyH_ready (rs := [6]) (by kernel_rfl) (by simp) ?_
            refine AllReadyH.cons (o := ⟨some 28, _, _, _, _, _⟩) rfl (fun K hK => ?_) ?_
            · go_simp
              go_at_call 17
              refine (HTRc.out _ _ BX56.out FDX56.out).mono ?_
              rintro e X57 ⟨rfl, bX57⟩
              have RX57 := Lib.hid (bX57)
              go_wp2_with fail
              refine hK.out _ _ (BX56.out.trans (RX57.out.mono BX56.out.size)) (fun hHeld => ?_)
              clear hK K
              try simp only [Act.put, List.setIfInBounds_toArray, List.set_cons_zero, List.set_cons_succ]
              have BX57 := Lib.hid hHeld
              have FQX57 := Lib.hid (FQX56.out.keep ((RX57.out).block _ FQX56.out.lt))
              have FPX57 := Lib.hid (FPX56.out.keep ((RX57.out).block _ FPX56.out.lt))
              refine wpAnyH_ready (rs := [9]) (by kernel_rfl) (by simp) ?_
              refine AllReadyH.cons (o := ⟨none, _, _, _, _, _⟩) rfl (fun K hK => ?_) ?_
              · refine step_store_D rfl _ _ rfl rfl X45.heap.size L rfl rfl HLl.out FPX57.out ?_
                refine hK.out _ _ (below_setRow BX57.out (BX45.out.size) _) (fun hHeld => ?_)
                clear hK K
                have FPX58 : DRow (X57.setRow X45.heap.size (bytesV L).toArray) X45.heap.size L := FPX57.out.row _
                have FQX58 := Lib.hid (FQX57.out.keep (w' := (X57.setRow X45.heap.size (bytesV L).toArray)) (setRow_other _ _ _ _ ne_Q_P))
                generalize (X57.setRow X45.heap.size (bytesV L).toArray) = X58 at hHeld FPX58 FQX58 ⊢
                have BX58 := Lib.hid hHeld
                replace FPX58 := Lib.hid FPX58
                refine wpAnyH_ready (rs := [10]) (by kernel_rfl) (by simp) ?_
                refine AllReadyH.cons (o := ⟨none, _, _, _, _, _⟩) rfl (fun K hK => ?_) ?_
                · refine step_store_D rfl _ _ rfl rfl X1.heap.size R rfl rfl HRl.out FQX58.out ?_
                  refine hK.out _ _ (below_setRow BX58.out (BX1.out.size) _) (fun hHeld => ?_)
                  clear hK K
                  have FQX59 : DRow (X58.setRow X1.heap.size (bytesV R).toArray) X1.heap.size R := FQX58.out.row _
                  have FPX59 := Lib.hid (FPX58.out.keep (w' := (X58.setRow X1.heap.size (bytesV R).toArray)) (setRow_other _ _ _ _ ne_P_Q))
                  generalize (X58.setRow X1.heap.size (bytesV R).toArray) = X59 at hHeld FQX59 FPX59 ⊢
                  have BX59 := Lib.hid hHeld
                  replace FQX59 := Lib.hid FQX59
                  refine wpAnyH_done (by kernel_rfl) ?_ _
                  exact hfin7 _ _ _ _ _ _ ne_P_Q FPX59 FQX59 BX59
                exact AllReadyH.nil
              exact AllReadyH.nil
            exact AllReadyH.nil
          exact AllReadyH.nil
        exact AllReadyH.nil
      exact AllReadyH.nil
    refine AllReadyH.cons (o := ⟨some 27, _, _, _, _, _⟩) rfl (fun K hK => ?_) ?_
    · go_simp
      refine hK.out _ _ (hHeld.alloc hHeld.size _) (fun hHeld => ?_)
      clear hK K
      try simp only [Act.put, List.setIfInBounds_toArray, List.set_cons_zero, List.set_cons_succ]
      have FDX60 : DRow (X0.alloc (.cells (bytesV d).toArray 26)) X0.heap.size d := heap_alloc_new X0 _
      have RX60 : Below X0.heap.size X0 (X0.alloc (.cells (bytesV d).toArray 26)) := (Below.refl _ _).alloc (Nat.le_refl _) _
      generalize (X0.alloc (.cells (bytesV d).toArray 26)) = X60 at hHeld FDX60 RX60 ⊢
      have BX60 := Lib.hid hHeld
      replace FDX60 := Lib.hid FDX60
      replace RX60 := Lib.hid RX60
      refine wpAnyH_ready (rs := [3, 7, 8]) (by kernel_rfl) (by simp) ?_
      refine AllReadyH.cons (o := ⟨some 25, _, _, _, _, _⟩) rfl (fun K hK => ?_) ?_
      · go_simp
        go_at_call 17
        refine (HTLc.out _ BX60.out).mono ?_
        rintro e X61 ⟨rfl, bX61⟩
        have RX61 := Lib.hid (bX61)
        go_wp2_with fail
        refine hK.out _ _ (BX60.out.trans (RX61.out.mono BX60.out.size)) (fun hHeld => ?_)
        clear hK K
        try simp only [Act.put, List.setIfInBounds_toArray, List.set_cons_zero, List.set_cons_succ]
        have BX61 := Lib.hid hHeld
        have FDX61 := Lib.hid (FDX60.out.keep ((RX61.out).block _ FDX60.out.lt))
        refine wpAnyH_ready (rs := [6, 7, 8]) (by kernel_rfl) (by simp) ?_
        refine AllReadyH.cons (o := ⟨some 28, _, _, _, _, _⟩) rfl (fun K hK => ?_) ?_
        · go_simp
          go_at_call 17
          refine (HTRc.out _ _ BX61.out FDX61.out).mono ?_
          rintro e X62 ⟨rfl, bX62⟩
          have RX62 := Lib.hid (bX62)
          go_wp2_with fail
          refine hK.out _ _ (BX61.out.trans (RX62.out.mono BX61.out.size)) (fun hHeld => ?_)
          clear hK K
          try simp only [Act.put, List.setIfInBounds_toArray, List.set_cons_zero, List.set_cons_succ]
          have BX62 := Lib.hid hHeld
          refine wpAnyH_ready (rs := [7, 8]) (by kernel_rfl) (by simp) ?_
          refine AllReadyH.cons (o := ⟨some 7, _, _, _, _, _⟩) rfl (fun K hK => ?_) ?_
          · go_simp
            refine hK.out _ _ (hHeld.alloc hHeld.size _) (fun hHeld => ?_)
            clear hK K
            try simp only [Act.put, List.setIfInBounds_toArray, List.set_cons_zero, List.set_cons_succ]
            have FPX63 : IsD (X62.alloc (.cells Z32 26)) X62.heap.size := IsD.new _ _ (heap_alloc_new X62 _)
            have RX63 : Below X62.heap.size X62 (X62.alloc (.cells Z32 26)) := (Below.refl _ _).alloc (Nat.le_refl _) _
            generalize (X62.alloc (.cells Z32 26)) = X63 at hHeld FPX63 RX63 ⊢
            have BX63 := Lib.hid hHeld
            replace FPX63 := Lib.hid FPX63
            replace RX63 := Lib.hid RX63
            refine wpAnyH_ready (rs := [8]) (by kernel_rfl) (by simp) ?_
            refine AllReadyH.cons (o := ⟨some 8, _, _, _, _, _⟩) rfl (fun K hK => ?_) ?_
            · go_simp
              refine hK.out _ _ (hHeld.alloc hHeld.size _) (fun hHeld => ?_)
              clear hK K
              try simp only [Act.put, List.setIfInBounds_toArray, List.set_cons_zero, List.set_cons_succ]
              have FQX64 : IsD (X63.alloc (.cells Z32 26)) X63.heap.size := IsD.new _ _ (heap_alloc_new X63 _)
              have RX64 : Below X63.heap.size X63 (X63.alloc (.cells Z32 26)) := (Below.refl _ _).alloc (Nat.le_refl _) _
              generalize (X63.alloc (.cells Z32 26)) = X64 at hHeld FQX64 RX64 ⊢
              have BX64 := Lib.hid hHeld
              replace FQX64 := Lib.hid FQX64
              replace RX64 := Lib.hid RX64
              have FPX64 := Lib.hid (FPX63.out.keep ((RX64.out).block _ FPX63.out.lt))
              have ne_Q_P : X63.heap.size ≠ X62.heap.size := fun h => by have := FPX63.out.lt; omega
              have ne_P_Q := ne_Q_P.symm
              refine wpAnyH_ready (rs := [9]) (by kernel_rfl) (by simp) ?_
              refine AllReadyH.cons (o := ⟨none, _, _, _, _, _⟩) rfl (fun K hK => ?_) ?_
              · refine step_store_D rfl _ _ rfl rfl X62.heap.size L rfl rfl HLl.out FPX64.out ?_
                refine hK.out _ _ (below_setRow BX64.out (BX62.out.size) _) (fun hHeld => ?_)
                clear hK K
                have FPX65 : DRow (X64.setRow X62.heap.size (bytesV L).toArray) X62.heap.size L := FPX64.out.row _
                have FQX65 := Lib.hid (FQX64.out.keep (w' := (X64.setRow X62.heap.size (bytesV L).toArray)) (setRow_other _ _ _ _ ne_Q_P))
                generalize (X64.setRow X62.heap.size (bytesV L).toArray) = X65 at hHeld FPX65 FQX65 ⊢
                have BX65 := Lib.hid hHeld
                replace FPX65 := Lib.hid FPX65
                refine wpAnyH_ready (rs := [10]) (by kernel_rfl) (by simp) ?_
                refine AllReadyH.cons (o := ⟨none, _, _, _, _, _⟩) rfl (fun K hK => ?_) ?_
                · refine step_store_D rfl _ _ rfl rfl X63.heap.size R rfl rfl HRl.out FQX65.out ?_
                  refine hK.out _ _ (below_setRow BX65.out (BX63.out.size) _) (fun hHeld => ?_)
                  clear hK K
                  have FQX66 : DRow (X65.setRow X63.heap.size (bytesV R).toArray) X63.heap.size R := FQX65.out.row _
                  have FPX66 := Lib.hid (FPX65.out.keep (w' := (X65.setRow X63.heap.size (bytesV R).toArray)) (setRow_other _ _ _ _ ne_P_Q))
                  generalize (X65.setRow X63.heap.size (bytesV R).toArray) = X66 at hHeld FQX66 FPX66 ⊢
                  have BX66 := Lib.hid hHeld
                  replace FQX66 := Lib.hid FQX66
                  refine wpAnyH_done (by kernel_rfl) ?_ _
                  exact hfin7 _ _ _ _ _ _ ne_P_Q FPX66 FQX66 BX66
                exact AllReadyH.nil
              exact AllReadyH.nil
            exact AllReadyH.nil
          refine AllReadyH.cons (o := ⟨some 8, _, _, _, _, _⟩) rfl (fun K hK => ?_) ?_
          · go_simp
            refine hK.out _ _ (hHeld.alloc hHeld.size _) (fun hHeld => ?_)
            clear hK K
            try simp only [Act.put, List.setIfInBounds_toArray, List.set_cons_zero, List.set_cons_succ]
            have FQX67 : IsD (X62.alloc (.cells Z32 26)) X62.heap.size := IsD.new _ _ (heap_alloc_new X62 _)
            have RX67 : Below X62.heap.size X62 (X62.alloc (.cells Z32 26)) := (Below.refl _ _).alloc (Nat.le_refl _) _
            generalize (X62.alloc (.cells Z32 26)) = X67 at hHeld FQX67 RX67 ⊢
            have BX67 := Lib.hid hHeld
            replace FQX67 := Lib.hid FQX67
            replace RX67 := Lib.hid RX67
            refine wpAnyH_ready (rs := [7]) (by kernel_rfl) (by simp) ?_
            refine AllReadyH.cons (o := ⟨some 7, _, _, _, _, _⟩) rfl (fun K hK => ?_) ?_
            · go_simp
              refine hK.out _ _ (hHeld.alloc hHeld.size _) (fun hHeld => ?_)
              clear hK K
              try simp only [Act.put, List.setIfInBounds_toArray, List.set_cons_zero, List.set_cons_succ]
              have FPX68 : IsD (X67.alloc (.cells Z32 26)) X67.heap.size := IsD.new _ _ (heap_alloc_new X67 _)
              have RX68 : Below X67.heap.size X67 (X67.alloc (.cells Z32 26)) := (Below.refl _ _).alloc (Nat.le_refl _) _
              generalize (X67.alloc (.cells Z32 26)) = X68 at hHeld FPX68 RX68 ⊢
              have BX68 := Lib.hid hHeld
              replace FPX68 := Lib.hid FPX68
              replace RX68 := Lib.hid RX68
              have FQX68 := Lib.hid (FQX67.out.keep ((RX68.out).block _ FQX67.out.lt))
              have ne_P_Q : X67.heap.size ≠ X62.heap.size := fun h => by have := FQX67.out.lt; omega
              have ne_Q_P := ne_P_Q.symm
              refine wpAnyH_ready (rs := [9]) (by kernel_rfl) (by simp) ?_
              refine AllReadyH.cons (o := ⟨none, _, _, _, _, _⟩) rfl (fun K hK => ?_) ?_
              · refine step_store_D rfl _ _ rfl rfl X67.heap.size L rfl rfl HLl.out FPX68.out ?_
                refine hK.out _ _ (below_setRow BX68.out (BX67.out.size) _) (fun hHeld => ?_)
                clear hK K
                have FPX69 : DRow (X68.setRow X67.heap.size (bytesV L).toArray) X67.heap.size L := FPX68.out.row _
                have FQX69 := Lib.hid (FQX68.out.keep (w' := (X68.setRow X67.heap.size (bytesV L).toArray)) (setRow_other _ _ _ _ ne_Q_P))
                generalize (X68.setRow X67.heap.size (bytesV L).toArray) = X69 at hHeld FPX69 FQX69 ⊢
                have BX69 := Lib.hid hHeld
                replace FPX69 := Lib.hid FPX69
                refine wpAnyH_ready (rs := [10]) (by kernel_rfl) (by simp) ?_
                refine AllReadyH.cons (o := ⟨none, _, _, _, _, _⟩) rfl (fun K hK => ?_) ?_
                · refine step_store_D rfl _ _ rfl rfl X62.heap.size R rfl rfl HRl.out FQX69.out ?_
                  refine hK.out _ _ (below_setRow BX69.out (BX62.out.size) _) (fun hHeld => ?_)
                  clear hK K
                  have FQX70 : DRow (X69.setRow X62.heap.size (bytesV R).toArray) X62.heap.size R := FQX69.out.row _
                  have FPX70 := Lib.hid (FPX69.out.keep (w' := (X69.setRow X62.heap.size (bytesV R).toArray)) (setRow_other _ _ _ _ ne_P_Q))
                  generalize (X69.setRow X62.heap.size (bytesV R).toArray) = X70 at hHeld FQX70 FPX70 ⊢
                  have BX70 := Lib.hid hHeld
                  replace FQX70 := Lib.hid FQX70
                  refine wpAnyH_done (by kernel_rfl) ?_ _
                  exact hfin7 _ _ _ _ _ _ ne_P_Q FPX70 FQX70 BX70
                exact AllReadyH.nil
              exact AllReadyH.nil
            exact AllReadyH.nil
          exact AllReadyH.nil
        refine AllReadyH.cons (o := ⟨some 7, _, _, _, _, _⟩) rfl (fun K hK => ?_) ?_
        · go_simp
          refine hK.out _ _ (hHeld.alloc hHeld.size _) (fun hHeld => ?_)
          clear hK K
          try simp only [Act.put, List.setIfInBounds_toArray, List.set_cons_zero, List.set_cons_succ]
          have FPX71 : IsD (X61.alloc (.cells Z32 26)) X61.heap.size := IsD.new _ _ (heap_alloc_new X61 _)
          have RX71 : Below X61.heap.size X61 (X61.alloc (.cells Z32 26)) := (Below.refl _ _).alloc (Nat.le_refl _) _
          generalize (X61.alloc (.cells Z32 26)) = X71 at hHeld FPX71 RX71 ⊢
          have BX71 := Lib.hid hHeld
          replace FPX71 := Lib.hid FPX71
          replace RX71 := Lib.hid RX71
          have FDX71 := Lib.hid (FDX61.out.keep ((RX71.out).block _ FDX61.out.lt))
          have ne_P_D : X61.heap.size ≠ X0.heap.size := fun h => by have := FDX61.out.lt; omega
          have ne_D_P := ne_P_D.symm
          refine wpAnyH_ready (rs := [6, 8]) (by kernel_rfl) (by simp) ?_
          refine AllReadyH.cons (o := ⟨some 28, _, _, _, _, _⟩) rfl (fun K hK => ?_) ?_
          · go_simp
            go_at_call 17
            refine (HTRc.out _ _ BX71.out FDX71.out).mono ?_
            rintro e X72 ⟨rfl, bX72⟩
            have RX72 := Lib.hid (bX72)
            go_wp2_with fail
            refine hK.out _ _ (BX71.out.trans (RX72.out.mono BX71.out.size)) (fun hHeld => ?_)
            clear hK K
            try simp only [Act.put, List.setIfInBounds_toArray, List.set_cons_zero, List.set_cons_succ]
            have BX72 := Lib.hid hHeld
            have FPX72 := Lib.hid (FPX71.out.keep ((RX72.out).block _ FPX71.out.lt))
            refine wpAnyH_ready (rs := [8]) (by kernel_rfl) (by simp) ?_
            refine AllReadyH.cons (o := ⟨some 8, _, _, _, _, _⟩) rfl (fun K hK => ?_) ?_
            · go_simp
              refine hK.out _ _ (hHeld.alloc hHeld.size _) (fun hHeld => ?_)
              clear hK K
              try simp only [Act.put, List.setIfInBounds_toArray, List.set_cons_zero, List.set_cons_succ]
              have FQX73 : IsD (X72.alloc (.cells Z32 26)) X72.heap.size := IsD.new _ _ (heap_alloc_new X72 _)
              have RX73 : Below X72.heap.size X72 (X72.alloc (.cells Z32 26)) := (Below.refl _ _).alloc (Nat.le_refl _) _
              generalize (X72.alloc (.cells Z32 26)) = X73 at hHeld FQX73 RX73 ⊢
              have BX73 := Lib.hid hHeld
              replace FQX73 := Lib.hid FQX73
              replace RX73 := Lib.hid RX73
              have FPX73 := Lib.hid (FPX72.out.keep ((RX73.out).block _ FPX72.out.lt))
              have ne_Q_P : X72.heap.size ≠ X61.heap.size := fun h => by have := FPX72.out.lt; omega
              have ne_P_Q := ne_Q_P.symm
              refine wpAnyH_ready (rs := [9]) (by kernel_rfl) (by simp) ?_
              refine AllReadyH.cons (o := ⟨none, _, _, _, _, _⟩) rfl (fun K hK => ?_) ?_
              · refine step_store_D rfl _ _ rfl rfl X61.heap.size L rfl rfl HLl.out FPX73.out ?_
                refine hK.out _ _ (below_setRow BX73.out (BX61.out.size) _) (fun hHeld => ?_)
                clear hK K
                have FPX74 : DRow (X73.setRow X61.heap.size (bytesV L).toArray) X61.heap.size L := FPX73.out.row _
                have FQX74 := Lib.hid (FQX73.out.keep (w' := (X73.setRow X61.heap.size (bytesV L).toArray)) (setRow_other _ _ _ _ ne_Q_P))
                generalize (X73.setRow X61.heap.size (bytesV L).toArray) = X74 at hHeld FPX74 FQX74 ⊢
                have BX74 := Lib.hid hHeld
                replace FPX74 := Lib.hid FPX74
                refine wpAnyH_ready (rs := [10]) (by kernel_rfl) (by simp) ?_
                refine AllReadyH.cons (o := ⟨none, _, _, _, _, _⟩) rfl (fun K hK => ?_) ?_
                · refine step_store_D rfl _ _ rfl rfl X72.heap.size R rfl rfl HRl.out FQX74.out ?_
                  refine hK.out _ _ (below_setRow BX74.out (BX72.out.size) _) (fun hHeld => ?_)
                  clear hK K
                  have FQX75 : DRow (X74.setRow X72.heap.size (bytesV R).toArray) X72.heap.size R := FQX74.out.row _
                  have FPX75 := Lib.hid (FPX74.out.keep (w' := (X74.setRow X72.heap.size (bytesV R).toArray)) (setRow_other _ _ _ _ ne_P_Q))
                  generalize (X74.setRow X72.heap.size (bytesV R).toArray) = X75 at hHeld FQX75 FPX75 ⊢
                  have BX75 := Lib.hid hHeld
                  replace FQX75 := Lib.hid FQX75
                  refine wpAnyH_done (by kernel_rfl) ?_ _
                  exact hfin7 _ _ _ _ _ _ ne_P_Q FPX75 FQX75 BX75
                exact AllReadyH.nil
              exact AllReadyH.nil
            exact AllReadyH.nil
          refine AllReadyH.cons (o := ⟨some 8, _, _, _, _, _⟩) rfl (fun K hK => ?_) ?_
          · go_simp
            refine hK.out _ _ (hHeld.alloc hHeld.size _) (fun hHeld => ?_)
            clear hK K
            try simp only [Act.put, List.setIfInBounds_toArray, List.set_cons_zero, List.set_cons_succ]
            have FQX76 : IsD (X71.alloc (.cells Z32 26)) X71.heap.size := IsD.new _ _ (heap_alloc_new X71 _)
            have RX76 : Below X71.heap.size X71 (X71.alloc (.cells Z32 26)) := (Below.refl _ _).alloc (Nat.le_refl _) _
            generalize (X71.alloc (.cells Z32 26)) = X76 at hHeld FQX76 RX76 ⊢
            have BX76 := Lib.hid hHeld
            replace FQX76 := Lib.hid FQX76
            replace RX76 := Lib.hid RX76
            have FDX76 := Lib.hid (FDX71.out.keep ((RX76.out).block _ FDX71.out.lt))
            have FPX76 := Lib.hid (FPX71.out.keep ((RX76.out).block _ FPX71.out.lt))
            have ne_Q_D : X71.heap.size ≠ X0.heap.size := fun h => by have := FDX71.out.lt; omega
            have ne_D_Q := ne_Q_D.symm
            have ne_Q_P : X71.heap.size ≠ X61.heap.size := fun h => by have := FPX71.out.lt; omega
            have ne_P_Q := ne_Q_P.symm
            refine wpAnyH_ready (rs := [6]) (by kernel_rfl) (by simp) ?_
            refine AllReadyH.cons (o := ⟨some 28, _, _, _, _, _⟩) rfl (fun K hK => ?_) ?_
            · go_simp
              go_at_call 17
              refine (HTRc.out _ _ BX76.out FDX76.out).mono ?_
              rintro e X77 ⟨rfl, bX77⟩
              have RX77 := Lib.hid (bX77)
              go_wp2_with fail
              refine hK.out _ _ (BX76.out.trans (RX77.out.mono BX76.out.size)) (fun hHeld => ?_)
              clear hK K
              try simp only [Act.put, List.setIfInBounds_toArray, List.set_cons_zero, List.set_cons_succ]
              have BX77 := Lib.hid hHeld
              have FPX77 := Lib.hid (FPX76.out.keep ((RX77.out).block _ FPX76.out.lt))
              have FQX77 := Lib.hid (FQX76.out.keep ((RX77.out).block _ FQX76.out.lt))
              refine wpAnyH_ready (rs := [9]) (by kernel_rfl) (by simp) ?_
              refine AllReadyH.cons (o := ⟨none, _, _, _, _, _⟩) rfl (fun K hK => ?_) ?_
              · refine step_store_D rfl _ _ rfl rfl X61.heap.size L rfl rfl HLl.out FPX77.out ?_
                refine hK.out _ _ (below_setRow BX77.out (BX61.out.size) _) (fun hHeld => ?_)
                clear hK K
                have FPX78 : DRow (X77.setRow X61.heap.size (bytesV L).toArray) X61.heap.size L := FPX77.out.row _
                have FQX78 := Lib.hid (FQX77.out.keep (w' := (X77.setRow X61.heap.size (bytesV L).toArray)) (setRow_other _ _ _ _ ne_Q_P))
                generalize (X77.setRow X61.heap.size (bytesV L).toArray) = X78 at hHeld FPX78 FQX78 ⊢
                have BX78 := Lib.hid hHeld
                replace FPX78 := Lib.hid FPX78
                refine wpAnyH_ready (rs := [10]) (by kernel_rfl) (by simp) ?_
                refine AllReadyH.cons (o := ⟨none, _, _, _, _, _⟩) rfl (fun K hK => ?_) ?_
                · refine step_store_D rfl _ _ rfl rfl X71.heap.size R rfl rfl HRl.out FQX78.out ?_
                  refine hK.out _ _ (below_setRow BX78.out (BX71.out.size) _) (fun hHeld => ?_)
                  clear hK K
                  have FQX79 : DRow (X78.setRow X71.heap.size (bytesV R).toArray) X71.heap.size R := FQX78.out.row _
                  have FPX79 := Lib.hid (FPX78.out.keep (w' := (X78.setRow X71.heap.size (bytesV R).toArray)) (setRow_other _ _ _ _ ne_P_Q))
                  generalize (X78.setRow X71.heap.size (bytesV R).toArray) = X79 at hHeld FQX79 FPX79 ⊢
                  have BX79 := Lib.hid hHeld
                  replace FQX79 := Lib.hid FQX79
                  refine wpAnyH_done (by kernel_rfl) ?_ _
                  exact hfin7 _ _ _ _ _ _ ne_P_Q FPX79 FQX79 BX79
                exact AllReadyH.nil
              exact AllReadyH.nil
            exact AllReadyH.nil
          exact AllReadyH.nil
        refine AllReadyH.cons (o := ⟨some 8, _, _, _, _, _⟩) rfl (fun K hK => ?_) ?_
        · go_simp
          refine hK.out _ _ (hHeld.alloc hHeld.size _) (fun hHeld => ?_)
          clear hK K
          try simp only [Act.put, List.setIfInBounds_toArray, List.set_cons_zero, List.set_cons_succ]
          have FQX80 : IsD (X61.alloc (.cells Z32 26)) X61.heap.size := IsD.new _ _ (heap_alloc_new X61 _)
          have RX80 : Below X61.heap.size X61 (X61.alloc (.cells Z32 26)) := (Below.refl _ _).alloc (Nat.le_refl _) _
          generalize (X61.alloc (.cells Z32 26)) = X80 at hHeld FQX80 RX80 ⊢
          have BX80 := Lib.hid hHeld
          replace FQX80 := Lib.hid FQX80
          replace RX80 := Lib.hid RX80
          have FDX80 := Lib.hid (FDX61.out.keep ((RX80.out).block _ FDX61.out.lt))
          have ne_Q_D : X61.heap.size ≠ X0.heap.size := fun h => by have := FDX61.out.lt; omega
          have ne_D_Q := ne_Q_D.symm
          refine wpAnyH_ready (rs := [6, 7]) (by kernel_rfl) (by simp) ?_
          refine AllReadyH.cons (o := ⟨some 28, _, _, _, _, _⟩) rfl (fun K hK => ?_) ?_
          · go_simp
            go_at_call 17
            refine (HTRc.out _ _ BX80.out FDX80.out).mono ?_
            rintro e X81 ⟨rfl, bX81⟩
            have RX81 := Lib.hid (bX81)
            go_wp2_with fail
            refine hK.out _ _ (BX80.out.trans (RX81.out.mono BX80.out.size)) (fun hHeld => ?_)
            clear hK K
            try simp only [Act.put, List.setIfInBounds_toArray, List.set_cons_zero, List.set_cons_succ]
            have BX81 := Lib.hid hHeld
            have FQX81 := Lib.hid (FQX80.out.keep ((RX81.out).block _ FQX80.out.lt))
            refine wpAnyH_ready (rs := [7]) (by kernel_rfl) (by simp) ?_
            refine AllReadyH.cons (o := ⟨some 7, _, _, _, _, _⟩) rfl (fun K hK => ?_) ?_
            · go_simp
              refine hK.out _ _ (hHeld.alloc hHeld.size _) (fun hHeld => ?_)
              clear hK K
              try simp only [Act.put, List.setIfInBounds_toArray, List.set_cons_zero, List.set_cons_succ]
              have FPX82 : IsD (X81.alloc (.cells Z32 26)) X81.heap.size := IsD.new _ _ (heap_alloc_new X81 _)
              have RX82 : Below X81.heap.size X81 (X81.alloc (.cells Z32 26)) := (Below.refl _ _).alloc (Nat.le_refl _) _
              generalize (X81.alloc (.cells Z32 26)) = X82 at hHeld FPX82 RX82 ⊢
              have BX82 := Lib.hid hHeld
              replace FPX82 := Lib.hid FPX82
              replace RX82 := Lib.hid RX82
              have FQX82 := Lib.hid (FQX81.out.keep ((RX82.out).block _ FQX81.out.lt))
              have ne_P_Q : X81.heap.size ≠ X61.heap.size := fun h => by have := FQX81.out.lt; omega
              have ne_Q_P := ne_P_Q.symm
              refine wpAnyH_ready (rs := [9]) (by kernel_rfl) (by simp) ?_
              refine AllReadyH.cons (o := ⟨none, _, _, _, _, _⟩) rfl (fun K hK => ?_) ?_
              · refine step_store_D rfl _ _ rfl rfl X81.heap.size L rfl rfl HLl.out FPX82.out ?_
                refine hK.out _ _ (below_setRow BX82.out (BX81.out.size) _) (fun hHeld => ?_)
                clear hK K
                have FPX83 : DRow (X82.setRow X81.heap.size (bytesV L).toArray) X81.heap.size L := FPX82.out.row _
                have FQX83 := Lib.hid (FQX82.out.keep (w' := (X82.setRow X81.heap.size (bytesV L).toArray)) (setRow_other _ _ _ _ ne_Q_P))
                generalize (X82.setRow X81.heap.size (bytesV L).toArray) = X83 at hHeld FPX83 FQX83 ⊢
                have BX83 := Lib.hid hHeld
                replace FPX83 := Lib.hid FPX83
                refine wpAnyH_ready (rs := [10]) (by kernel_rfl) (by simp) ?_
                refine AllReadyH.cons (o := ⟨none, _, _, _, _, _⟩) rfl (fun K hK => ?_) ?_
                · refine step_store_D rfl _ _ rfl rfl X61.heap.size R rfl rfl HRl.out FQX83.out ?_
                  refine hK.out _ _ (below_setRow BX83.out (BX61.out.size) _) (fun hHeld => ?_)
                  clear hK K
                  have FQX84 : DRow (X83.setRow X61.heap.size (bytesV R).toArray) X61.heap.size R := FQX83.out.row _
                  have FPX84 := Lib.hid (FPX83.out.keep (w' := (X83.setRow X61.heap.size (bytesV R).toArray)) (setRow_other _ _ _ _ ne_P_Q))
                  generalize (X83.setRow X61.heap.size (bytesV R).toArray) = X84 at hHeld FQX84 FPX84 ⊢
                  have BX84 := Lib.hid hHeld
                  replace FQX84 := Lib.hid FQX84
                  refine wpAnyH_done (by kernel_rfl) ?_ _
                  exact hfin7 _ _ _ _ _ _ ne_P_Q FPX84 FQX84 BX84
                exact AllReadyH.nil
              exact AllReadyH.nil
            exact AllReadyH.nil
          refine AllReadyH.cons (o := ⟨some 7, _, _, _, _, _⟩) rfl (fun K hK => ?_) ?_
          · go_simp
            refine hK.out _ _ (hHeld.alloc hHeld.size _) (fun hHeld => ?_)
            clear hK K
            try simp only [Act.put, List.setIfInBounds_toArray, List.set_cons_zero, List.set_cons_succ]
            have FPX85 : IsD (X80.alloc (.cells Z32 26)) X80.heap.size := IsD.new _ _ (heap_alloc_new X80 _)
            have RX85 : Below X80.heap.size X80 (X80.alloc (.cells Z32 26)) := (Below.refl _ _).alloc (Nat.le_refl _) _
            generalize (X80.alloc (.cells Z32 26)) = X85 at hHeld FPX85 RX85 ⊢
            have BX85 := Lib.hid hHeld
            replace FPX85 := Lib.hid FPX85
            replace RX85 := Lib.hid RX85
            have FDX85 := Lib.hid (FDX80.out.keep ((RX85.out).block _ FDX80.out.lt))
            have FQX85 := Lib.hid (FQX80.out.keep ((RX85.out).block _ FQX80.out.lt))
            have ne_P_D : X80.heap.size ≠ X0.heap.size := fun h => by have := FDX80.out.lt; omega
            have ne_D_P := ne_P_D.symm
            have ne_P_Q : X80.heap.size ≠ X61.heap.size := fun h => by have := FQX80.out.lt; omega
            have ne_Q_P := ne_P_Q.symm
            refine wpAnyH_ready (rs := [6]) (by kernel_rfl) (by simp) ?_
            refine AllReadyH.cons (o := ⟨some 28, _, _, _, _, _⟩) rfl (fun K hK => ?_) ?_
            · go_simp
              go_at_call 17
              refine (HTRc.out _ _ BX85.out FDX85.out).mono ?_
              rintro e X86 ⟨rfl, bX86⟩
              have RX86 := Lib.hid (bX86)
              go_wp2_with fail
              refine hK.out _ _ (BX85.out.trans (RX86.out.mono BX85.out.size)) (fun hHeld => ?_)
              clear hK K
              try simp only [Act.put, List.setIfInBounds_toArray, List.set_cons_zero, List.set_cons_succ]
              have BX86 := Lib.hid hHeld
              have FQX86 := Lib.hid (FQX85.out.keep ((RX86.out).block _ FQX85.out.lt))
              have FPX86 := Lib.hid (FPX85.out.keep ((RX86.out).block _ FPX85.out.lt))
              refine wpAnyH_ready (rs := [9]) (by kernel_rfl) (by simp) ?_
              refine AllReadyH.cons (o := ⟨none, _, _, _, _, _⟩) rfl (fun K hK => ?_) ?_
              · refine step_store_D rfl _ _ rfl rfl X80.heap.size L rfl rfl HLl.out FPX86.out ?_
                refine hK.out _ _ (below_setRow BX86.out (BX80.out.size) _) (fun hHeld => ?_)
                clear hK K
                have FPX87 : DRow (X86.setRow X80.heap.size (bytesV L).toArray) X80.heap.size L := FPX86.out.row _
                have FQX87 := Lib.hid (FQX86.out.keep (w' := (X86.setRow X80.heap.size (bytesV L).toArray)) (setRow_other _ _ _ _ ne_Q_P))
                generalize (X86.setRow X80.heap.size (bytesV L).toArray) = X87 at hHeld FPX87 FQX87 ⊢
                have BX87 := Lib.hid hHeld
                replace FPX87 := Lib.hid FPX87
                refine wpAnyH_ready (rs := [10]) (by kernel_rfl) (by simp) ?_
                refine AllReadyH.cons (o := ⟨none, _, _, _, _, _⟩) rfl (fun K hK => ?_) ?_
                · refine step_store_D rfl _ _ rfl rfl X61.heap.size R rfl rfl HRl.out FQX87.out ?_
                  refine hK.out _ _ (below_setRow BX87.out (BX61.out.size) _) (fun hHeld => ?_)
                  clear hK K
                  have FQX88 : DRow (X87.setRow X61.heap.size (bytesV R).toArray) X61.heap.size R := FQX87.out.row _
                  have FPX88 := Lib.hid (FPX87.out.keep (w' := (X87.setRow X61.heap.size (bytesV R).toArray)) (setRow_other _ _ _ _ ne_P_Q))
                  generalize (X87.setRow X61.heap.size (bytesV R).toArray) = X88 at hHeld FQX88 FPX88 ⊢
                  have BX88 := Lib.hid hHeld
                  replace FQX88 := Lib.hid FQX88
                  refine wpAnyH_done (by kernel_rfl) ?_ _
                  exact hfin7 _ _ _ _ _ _ ne_P_Q FPX88 FQX88 BX88
                exact AllReadyH.nil
              exact AllReadyH.nil
            exact AllReadyH.nil
          exact AllReadyH.nil
        exact AllReadyH.nil
      refine AllReadyH.cons (o := ⟨some 7, _, _, _, _, _⟩) rfl (fun K hK => ?_) ?_
      · go_simp
        refine hK.out _ _ (hHeld.alloc hHeld.size _) (fun hHeld => ?_)
        clear hK K
        try simp only [Act.put, List.setIfInBounds_toArray, List.set_cons_zero, List.set_cons_succ]
        have FPX89 : IsD (X60.alloc (.cells Z32 26)) X60.heap.size := IsD.new _ _ (heap_alloc_new X60 _)
        have RX89 : Below X60.heap.size X60 (X60.alloc (.cells Z32 26)) := (Below.refl _ _).alloc (Nat.le_refl _) _
        generalize (X60.alloc (.cells Z32 26)) = X89 at hHeld FPX89 RX89 ⊢
        have BX89 := Lib.hid hHeld
        replace FPX89 := Lib.hid FPX89
        replace RX89 := Lib.hid RX89
        have FDX89 := Lib.hid (FDX60.out.keep ((RX89.out).block _ FDX60.out.lt))
        have ne_P_D : X60.heap.size ≠ X0.heap.size := fun h => by have := FDX60.out.lt; omega
        have ne_D_P := ne_P_D.symm
        refine wpAnyH_ready (rs := [3, 8]) (by kernel_rfl) (by simp) ?_
        refine AllReadyH.cons (o := ⟨some 25, _, _, _, _, _⟩) rfl (fun K hK => ?_) ?_
        · go_simp
          go_at_call 17
          refine (HTLc.out _ BX89.out).mono ?_
          rintro e X90 ⟨rfl, bX90⟩
          have RX90 := Lib.hid (bX90)
          go_wp2_with fail
          refine hK.out _ _ (BX89.out.trans (RX90.out.mono BX89.out.size)) (fun hHeld => ?_)
          clear hK K
          try simp only [Act.put, List.setIfInBounds_toArray, List.set_cons_zero, List.set_cons_succ]
          have BX90 := Lib.hid hHeld
          have FDX90 := Lib.hid (FDX89.out.keep ((RX90.out).block _ FDX89.out.lt))
          have FPX90 := Lib.hid (FPX89.out.keep ((RX90.out).block _ FPX89.out.lt))
          refine wpAnyH_ready (rs := [6, 8]) (by kernel_rfl) (by simp) ?_
          refine AllReadyH.cons (o := ⟨some 28, _, _, _, _, _⟩) rfl (fun K hK => ?_) ?_
          · go_simp
            go_at_call 17
            refine (HTRc.out _ _ BX90.out FDX90.out).mono ?_
            rintro e X91 ⟨rfl, bX91⟩
            have RX91 := Lib.hid (bX91)
            go_wp2_with fail
            refine hK.out _ _ (BX90.out.trans (RX91.out.mono BX90.out.size)) (fun hHeld => ?_)
            clear hK K
            try simp only [Act.put, List.setIfInBounds_toArray, List.set_cons_zero, List.set_cons_succ]
            have BX91 := Lib.hid hHeld
            have FPX91 := Lib.hid (FPX90.out.keep ((RX91.out).block _ FPX90.out.lt))
            refine wpAnyH_ready (rs := [8]) (by kernel_rfl) (by simp) ?_
            refine AllReadyH.cons (o := ⟨some 8, _, _, _, _, _⟩) rfl (fun K hK => ?_) ?_
            · go_simp
              refine hK.out _ _ (hHeld.alloc hHeld.size _) (fun hHeld => ?_)
              clear hK K
              try simp only [Act.put, List.setIfInBounds_toArray, List.set_cons_zero, List.set_cons_succ]
              have FQX92 : IsD (X91.alloc (.cells Z32 26)) X91.heap.size := IsD.new _ _ (heap_alloc_new X91 _)
              have RX92 : Below X91.heap.size X91 (X91.alloc (.cells Z32 26)) := (Below.refl _ _).alloc (Nat.le_refl _) _
              generalize (X91.alloc (.cells Z32 26)) = X92 at hHeld FQX92 RX92 ⊢
              have BX92 := Lib.hid hHeld
              replace FQX92 := Lib.hid FQX92
              replace RX92 := Lib.hid RX92
              have FPX92 := Lib.hid (FPX91.out.keep ((RX92.out).block _ FPX91.out.lt))
              have ne_Q_P : X91.heap.size ≠ X60.heap.size := fun h => by have := FPX91.out.lt; omega
              have ne_P_Q := ne_Q_P.symm
              refine wpAnyH_ready (rs := [9]) (by kernel_rfl) (by simp) ?_
              refine AllReadyH.cons (o := ⟨none, _, _, _, _, _⟩) rfl (fun K hK => ?_) ?_
              · refine step_store_D rfl _ _ rfl rfl X60.heap.size L rfl rfl HLl.out FPX92.out ?_
                refine hK.out _ _ (below_setRow BX92.out (BX60.out.size) _) (fun hHeld => ?_)
                clear hK K
                have FPX93 : DRow (X92.setRow X60.heap.size (bytesV L).toArray) X60.heap.size L := FPX92.out.row _
                have FQX93 := Lib.hid (FQX92.out.keep (w' := (X92.setRow X60.heap.size (bytesV L).toArray)) (setRow_other _ _ _ _ ne_Q_P))
                generalize (X92.setRow X60.heap.size (bytesV L).toArray) = X93 at hHeld FPX93 FQX93 ⊢
                have BX93 := Lib.hid hHeld
                replace FPX93 := Lib.hid FPX93
                refine wpAnyH_ready (rs := [10]) (by kernel_rfl) (by simp) ?_
                refine AllReadyH.cons (o := ⟨none, _, _, _, _, _⟩) rfl (fun K hK => ?_) ?_
                · refine step_store_D rfl _ _ rfl rfl X91.heap.size R rfl rfl HRl.out FQX93.out ?_
                  refine hK.out _ _ (below_setRow BX93.out (BX91.out.size) _) (fun hHeld => ?_)
                  clear hK K
                  have FQX94 : DRow (X93.setRow X91.heap.size (bytesV R).toArray) X91.heap.size R := FQX93.out.row _
                  have FPX94 := Lib.hid (FPX93.out.keep (w' := (X93.setRow X91.heap.size (bytesV R).toArray)) (setRow_other _ _ _ _ ne_P_Q))
                  generalize (X93.setRow X91.heap.size (bytesV R).toArray) = X94 at hHeld FQX94 FPX94 ⊢
                  have BX94 := Lib.hid hHeld
                  replace FQX94 := Lib.hid FQX94
                  refine wpAnyH_done (by kernel_rfl) ?_ _
                  exact hfin7 _ _ _ _ _ _ ne_P_Q FPX94 FQX94 BX94
                exact AllReadyH.nil
              exact AllReadyH.nil
            exact AllReadyH.nil
          refine AllReadyH.cons (o := ⟨some 8, _, _, _, _, _⟩) rfl (fun K hK => ?_) ?_
          · go_simp
            refine hK.out _ _ (hHeld.alloc hHeld.size _) (fun hHeld => ?_)
            clear hK K
            try simp only [Act.put, List.setIfInBounds_toArray, List.set_cons_zero, List.set_cons_succ]
            have FQX95 : IsD (X90.alloc (.cells Z32 26)) X90.heap.size := IsD.new _ _ (heap_alloc_new X90 _)
            have RX95 : Below X90.heap.size X90 (X90.alloc (.cells Z32 26)) := (Below.refl _ _).alloc (Nat.le_refl _) _
            generalize (X90.alloc (.cells Z32 26)) = X95 at hHeld FQX95 RX95 ⊢
            have BX95 := Lib.hid hHeld
            replace FQX95 := Lib.hid FQX95
            replace RX95 := Lib.hid RX95
            have FDX95 := Lib.hid (FDX90.out.keep ((RX95.out).block _ FDX90.out.lt))
            have FPX95 := Lib.hid (FPX90.out.keep ((RX95.out).block _ FPX90.out.lt))
            have ne_Q_D : X90.heap.size ≠ X0.heap.size := fun h => by have := FDX90.out.lt; omega
            have ne_D_Q := ne_Q_D.symm
            have ne_Q_P : X90.heap.size ≠ X60.heap.size := fun h => by have := FPX90.out.lt; omega
            have ne_P_Q := ne_Q_P.symm
            refine wpAnyH_ready (rs := [6]) (by kernel_rfl) (by simp) ?_
            refine AllReadyH.cons (o := ⟨some 28, _, _, _, _, _⟩) rfl (fun K hK => ?_) ?_
            · go_simp
              go_at_call 17
              refine (HTRc.out _ _ BX95.out FDX95.out).mono ?_
              rintro e X96 ⟨rfl, bX96⟩
              have RX96 := Lib.hid (bX96)
              go_wp2_with fail
              refine hK.out _ _ (BX95.out.trans (RX96.out.mono BX95.out.size)) (fun hHeld => ?_)
              clear hK K
              try simp only [Act.put, List.setIfInBounds_toArray, List.set_cons_zero, List.set_cons_succ]
              have BX96 := Lib.hid hHeld
              have FPX96 := Lib.hid (FPX95.out.keep ((RX96.out).block _ FPX95.out.lt))
              have FQX96 := Lib.hid (FQX95.out.keep ((RX96.out).block _ FQX95.out.lt))
              refine wpAnyH_ready (rs := [9]) (by kernel_rfl) (by simp) ?_
              refine AllReadyH.cons (o := ⟨none, _, _, _, _, _⟩) rfl (fun K hK => ?_) ?_
              · refine step_store_D rfl _ _ rfl rfl X60.heap.size L rfl rfl HLl.out FPX96.out ?_
                refine hK.out _ _ (below_setRow BX96.out (BX60.out.size) _) (fun hHeld => ?_)
                clear hK K
                have FPX97 : DRow (X96.setRow X60.heap.size (bytesV L).toArray) X60.heap.size L := FPX96.out.row _
                have FQX97 := Lib.hid (FQX96.out.keep (w' := (X96.setRow X60.heap.size (bytesV L).toArray)) (setRow_other _ _ _ _ ne_Q_P))
                generalize (X96.setRow X60.heap.size (bytesV L).toArray) = X97 at hHeld FPX97 FQX97 ⊢
                have BX97 := Lib.hid hHeld
                replace FPX97 := Lib.hid FPX97
                refine wpAnyH_ready (rs := [10]) (by kernel_rfl) (by simp) ?_
                refine AllReadyH.cons (o := ⟨none, _, _, _, _, _⟩) rfl (fun K hK => ?_) ?_
                · refine step_store_D rfl _ _ rfl rfl X90.heap.size R rfl rfl HRl.out FQX97.out ?_
                  refine hK.out _ _ (below_setRow BX97.out (BX90.out.size) _) (fun hHeld => ?_)
                  clear hK K
                  have FQX98 : DRow (X97.setRow X90.heap.size (bytesV R).toArray) X90.heap.size R := FQX97.out.row _
                  have FPX98 := Lib.hid (FPX97.out.keep (w' := (X97.setRow X90.heap.size (bytesV R).toArray)) (setRow_other _ _ _ _ ne_P_Q))
                  generalize (X97.setRow X90.heap.size (bytesV R).toArray) = X98 at hHeld FQX98 FPX98 ⊢
                  have BX98 := Lib.hid hHeld
                  replace FQX98 := Lib.hid FQX98
                  refine wpAnyH_done (by kernel_rfl) ?_ _
                  exact hfin7 _ _ _ _ _ _ ne_P_Q FPX98 FQX98 BX98
                exact AllReadyH.nil
              exact AllReadyH.nil
            exact AllReadyH.nil
          exact AllReadyH.nil
        refine AllReadyH.cons (o := ⟨some 8, _, _, _, _, _⟩) rfl (fun K hK => ?_) ?_
        · go_simp
          refine hK.out _ _ (hHeld.alloc hHeld.size _) (fun hHeld => ?_)
          clear hK K
          try simp only [Act.put, List.setIfInBounds_toArray, List.set_cons_zero, List.set_cons_succ]
          have FQX99 : IsD (X89.alloc (.cells Z32 26)) X89.heap.size := IsD.new _ _ (heap_alloc_new X89 _)
          have RX99 : Below X89.heap.size X89 (X89.alloc (.cells Z32 26)) := (Below.refl _ _).alloc (Nat.le_refl _) _
          generalize (X89.alloc (.cells Z32 26)) = X99 at hHeld FQX99 RX99 ⊢
          have BX99 := Lib.hid hHeld
          replace FQX99 := Lib.hid FQX99
          replace RX99 := Lib.hid RX99
          have FDX99 := Lib.hid (FDX89.out.keep ((RX99.out).block _ FDX89.out.lt))
          have FPX99 := Lib.hid (FPX89.out.keep ((RX99.out).block _ FPX89.out.lt))
          have ne_Q_D : X89.heap.size ≠ X0.heap.size := fun h => by have := FDX89.out.lt; omega
          have ne_D_Q := ne_Q_D.symm
          have ne_Q_P : X89.heap.size ≠ X60.heap.size := fun h => by have := FPX89.out.lt; omega
          have ne_P_Q := ne_Q_P.symm
          refine wpAnyH_ready (rs := [3]) (by kernel_rfl) (by simp) ?_
          refine AllReadyH.cons (o := ⟨some 25, _, _, _, _, _⟩) rfl (fun K hK => ?_) ?_
          · go_simp
            go_at_call 17
            refine (HTLc.out _ BX99.out).mono ?_
            rintro e X100 ⟨rfl, bX100⟩
            have RX100 := Lib.hid (bX100)
            go_wp2_with fail
            refine hK.out _ _ (BX99.out.trans (RX100.out.mono BX99.out.size)) (fun hHeld => ?_)
            clear hK K
            try simp only [Act.put, List.setIfInBounds_toArray, List.set_cons_zero, List.set_cons_succ]
            have BX100 := Lib.hid hHeld
            have FDX100 := Lib.hid (FDX99.out.keep ((RX100.out).block _ FDX99.out.lt))
            have FPX100 := Lib.hid (FPX99.out.keep ((RX100.out).block _ FPX99.out.lt))
            have FQX100 := Lib.hid (FQX99.out.keep ((RX100.out).block _ FQX99.out.lt))
            refine wpAnyH_ready (rs := [6]) (by kernel_rfl) (by simp) ?_
            refine AllReadyH.cons (o := ⟨some 28, _, _, _, _, _⟩) rfl (fun K hK => ?_) ?_
            · go_simp
              go_at_call 17
              refine (HTRc.out _ _ BX100.out FDX100.out).mono ?_
              rintro e X101 ⟨rfl, bX101⟩
              have RX101 := Lib.hid (bX101)
              go_wp2_with fail
              refine hK.out _ _ (BX100.out.trans (RX101.out.mono BX100.out.size)) (fun hHeld => ?_)
              clear hK K
              try simp only [Act.put, List.setIfInBounds_toArray, List.set_cons_zero, List.set_cons_succ]
              have BX101 := Lib.hid hHeld
              have FPX101 := Lib.hid (FPX100.out.keep ((RX101.out).block _ FPX100.out.lt))
              have FQX101 := Lib.hid (FQX100.out.keep ((RX101.out).block _ FQX100.out.lt))
              refine wpAnyH_ready (rs := [9]) (by kernel_rfl) (by simp) ?_
              refine AllReadyH.cons (o := ⟨none, _, _, _, _, _⟩) rfl (fun K hK => ?_) ?_
              · refine step_store_D rfl _ _ rfl rfl X60.heap.size L rfl rfl HLl.out FPX101.out ?_
                refine hK.out _ _ (below_setRow BX101.out (BX60.out.size) _) (fun hHeld => ?_)
                clear hK K
                have FPX102 : DRow (X101.setRow X60.heap.size (bytesV L).toArray) X60.heap.size L := FPX101.out.row _
                have FQX102 := Lib.hid (FQX101.out.keep (w' := (X101.setRow X60.heap.size (bytesV L).toArray)) (setRow_other _ _ _ _ ne_Q_P))
                generalize (X101.setRow X60.heap.size (bytesV L).toArray) = X102 at hHeld FPX102 FQX102 ⊢
                have BX102 := Lib.hid hHeld
                replace FPX102 := Lib.hid FPX102
                refine wpAnyH_ready (rs := [10]) (by kernel_rfl) (by simp) ?_
                refine AllReadyH.cons (o := ⟨none, _, _, _, _, _⟩) rfl (fun K hK => ?_) ?_
                · refine step_store_D rfl _ _ rfl rfl X89.heap.size R rfl rfl HRl.out FQX102.out ?_
                  refine hK.out _ _ (below_setRow BX102.out (BX89.out.size) _) (fun hHeld => ?_)
                  clear hK K
                  have FQX103 : DRow (X102.setRow X89.heap.size (bytesV R).toArray) X89.heap.size R := FQX102.out.row _
                  have FPX103 := Lib.hid (FPX102.out.keep (w' := (X102.setRow X89.heap.size (bytesV R).toArray)) (setRow_other _ _ _ _ ne_P_Q))
                  generalize (X102.setRow X89.heap.size (bytesV R).toArray) = X103 at hHeld FQX103 FPX103 ⊢
                  have BX103 := Lib.hid hHeld
                  replace FQX103 := Lib.hid FQX103
                  refine wpAnyH_done (by kernel_rfl) ?_ _
                  exact hfin7 _ _ _ _ _ _ ne_P_Q FPX103 FQX103 BX103
                exact AllReadyH.nil
              exact AllReadyH.nil
            exact AllReadyH.nil
          exact AllReadyH.nil
        exact AllReadyH.nil
      refine AllReadyH.cons (o := ⟨some 8, _, _, _, _, _⟩) rfl (fun K hK => ?_) ?_
      · go_simp
        refine hK.out _ _ (hHeld.alloc hHeld.size _) (fun hHeld => ?_)
        clear hK K
        try simp only [Act.put, List.setIfInBounds_toArray, List.set_cons_zero, List.set_cons_succ]
        have FQX104 : IsD (X60.alloc (.cells Z32 26)) X60.heap.size := IsD.new _ _ (heap_alloc_new X60 _)
        have RX104 : Below X60.heap.size X60 (X60.alloc (.cells Z32 26)) := (Below.refl _ _).alloc (Nat.le_refl _) _
        generalize (X60.alloc (.cells Z32 26)) = X104 at hHeld FQX104 RX104 ⊢
        have BX104 := Lib.hid hHeld
        replace FQX104 := Lib.hid FQX104
        replace RX104 := Lib.hid RX104
        have FDX104 := Lib.hid (FDX60.out.keep ((RX104.out).block _ FDX60.out.lt))
        have ne_Q_D : X60.heap.size ≠ X0.heap.size := fun h => by have := FDX60.out.lt; omega
        have ne_D_Q := ne_Q_D.symm
        refine wpAnyH_ready (rs := [3, 7]) (by kernel_rfl) (by simp) ?_
        refine AllReadyH.cons (o := ⟨some 25, _, _, _, _, _⟩) rfl (fun K hK => ?_) ?_
        · go_simp
          go_at_call 17
          refine (HTLc.out _ BX104.out).mono ?_
          rintro e X105 ⟨rfl, bX105⟩
          have RX105 := Lib.hid (bX105)
          go_wp2_with fail
          refine hK.out _ _ (BX104.out.trans (RX105.out.mono BX104.out.size)) (fun hHeld => ?_)
          clear hK K
          try simp only [Act.put, List.setIfInBounds_toArray, List.set_cons_zero, List.set_cons_succ]
          have BX105 := Lib.hid hHeld
          have FDX105 := Lib.hid (FDX104.out.keep ((RX105.out).block _ FDX104.out.lt))
          have FQX105 := Lib.hid (FQX104.out.keep ((RX105.out).block _ FQX104.out.lt))
          refine wpAnyH_ready (rs := [6, 7]) (by kernel_rfl) (by simp) ?_
          refine AllReadyH.cons (o := ⟨some 28, _, _, _, _, _⟩) rfl (fun K hK => ?_) ?_
          · go_simp
            go_at_call 17
            refine (HTRc.out _ _ BX105.out FDX105.out).mono ?_
            rintro e X106 ⟨rfl, bX106⟩
            have RX106 := Lib.hid (bX106)
            go_wp2_with fail
            refine hK.out _ _ (BX105.out.trans (RX106.out.mono BX105.out.size)) (fun hHeld => ?_)
            clear hK K
            try simp only [Act.put, List.setIfInBounds_toArray, List.set_cons_zero, List.set_cons_succ]
            have BX106 := Lib.hid hHeld
            have FQX106 := Lib.hid (FQX105.out.keep ((RX106.out).block _ FQX105.out.lt))
            refine wpAnyH_ready (rs := [7]) (by kernel_rfl) (by simp) ?_
            refine AllReadyH.cons (o := ⟨some 7, _, _, _, _, _⟩) rfl (fun K hK => ?_) ?_
            · go_simp
              refine hK.out _ _ (hHeld.alloc hHeld.size _) (fun hHeld => ?_)
              clear hK K
              try simp only [Act.put, List.setIfInBounds_toArray, List.set_cons_zero, List.set_cons_succ]
              have FPX107 : IsD (X106.alloc (.cells Z32 26)) X106.heap.size := IsD.new _ _ (heap_alloc_new X106 _)
              have RX107 : Below X106.heap.size X106 (X106.alloc (.cells Z32 26)) := (Below.refl _ _).alloc (Nat.le_refl _) _
              generalize (X106.alloc (.cells Z32 26)) = X107 at hHeld FPX107 RX107 ⊢
              have BX107 := Lib.hid hHeld
              replace FPX107 := Lib.hid FPX107
              replace RX107 := Lib.hid RX107
              have FQX107 := Lib.hid (FQX106.out.keep ((RX107.out).block _ FQX106.out.lt))
              have ne_P_Q : X106.heap.size ≠ X60.heap.size := fun h => by have := FQX106.out.lt; omega
              have ne_Q_P := ne_P_Q.symm
              refine wpAnyH_ready (rs := [9]) (by kernel_rfl) (by simp) ?_
              refine AllReadyH.cons (o := ⟨none, _, _, _, _, _⟩) rfl (fun K hK => ?_) ?_
              · refine step_store_D rfl _ _ rfl rfl X106.heap.size L rfl rfl HLl.out FPX107.out ?_
                refine hK.out _ _ (below_setRow BX107.out (BX106.out.size) _) (fun hHeld => ?_)
                clear hK K
                have FPX108 : DRow (X107.setRow X106.heap.size (bytesV L).toArray) X106.heap.size L := FPX107.out.row _
                have FQX108 := Lib.hid (FQX107.out.keep (w' := (X107.setRow X106.heap.size (bytesV L).toArray)) (setRow_other _ _ _ _ ne_Q_P))
                generalize (X107.setRow X106.heap.size (bytesV L).toArray) = X108 at hHeld FPX108 FQX108 ⊢
                have BX108 := Lib.hid hHeld
                replace FPX108 := Lib.hid FPX108
                refine wpAnyH_ready (rs := [10]) (by kernel_rfl) (by simp) ?_
                refine AllReadyH.cons (o := ⟨none, _, _, _, _, _⟩) rfl (fun K hK => ?_) ?_
                · refine step_store_D rfl _ _ rfl rfl X60.heap.size R rfl rfl HRl.out FQX108.out ?_
                  refine hK.out _ _ (below_setRow BX108.out (BX60.out.size) _) (fun hHeld => ?_)
                  clear hK K
                  have FQX109 : DRow (X108.setRow X60.heap.size (bytesV R).toArray) X60.heap.size R := FQX108.out.row _
                  have FPX109 := Lib.hid (FPX108.out.keep (w' := (X108.setRow X60.heap.size (bytesV R).toArray)) (setRow_other _ _ _ _ ne_P_Q))
                  generalize (X108.setRow X60.heap.size (bytesV R).toArray) = X109 at hHeld FQX109 FPX109 ⊢
                  have BX109 := Lib.hid hHeld
                  replace FQX109 := Lib.hid FQX109
                  refine wpAnyH_done (by kernel_rfl) ?_ _
                  exact hfin7 _ _ _ _ _ _ ne_P_Q FPX109 FQX109 BX109
                exact AllReadyH.nil
              exact AllReadyH.nil
            exact AllReadyH.nil
          refine AllReadyH.cons (o := ⟨some 7, _, _, _, _, _⟩) rfl (fun K hK => ?_) ?_
          · go_simp
            refine hK.out _ _ (hHeld.alloc hHeld.size _) (fun hHeld => ?_)
            clear hK K
            try simp only [Act.put, List.setIfInBounds_toArray, List.set_cons_zero, List.set_cons_succ]
            have FPX110 : IsD (X105.alloc (.cells Z32 26)) X105.heap.size := IsD.new _ _ (heap_alloc_new X105 _)
            have RX110 : Below X105.heap.size X105 (X105.alloc (.cells Z32 26)) := (Below.refl _ _).alloc (Nat.le_refl _) _
            generalize (X105.alloc (.cells Z32 26)) = X110 at hHeld FPX110 RX110 ⊢
            have BX110 := Lib.hid hHeld
            replace FPX110 := Lib.hid FPX110
            replace RX110 := Lib.hid RX110
            have FDX110 := Lib.hid (FDX105.out.keep ((RX110.out).block _ FDX105.out.lt))
            have FQX110 := Lib.hid (FQX105.out.keep ((RX110.out).block _ FQX105.out.lt))
            have ne_P_D : X105.heap.size ≠ X0.heap.size := fun h => by have := FDX105.out.lt; omega
            have ne_D_P := ne_P_D.symm
            have ne_P_Q : X105.heap.size ≠ X60.heap.size := fun h => by have := FQX105.out.lt; omega
            have ne_Q_P := ne_P_Q.symm
            refine wpAnyH_ready (rs := [6]) (by kernel_rfl) (by simp) ?_
            refine AllReadyH.cons (o := ⟨some 28, _, _, _, _, _⟩) rfl (fun K hK => ?_) ?_
            · go_simp
              go_at_call 17
              refine (HTRc.out _ _ BX110.out FDX110.out).mono ?_
              rintro e X111 ⟨rfl, bX111⟩
              have RX111 := Lib.hid (bX111)
              go_wp2_with fail
              refine hK.out _ _ (BX110.out.trans (RX111.out.mono BX110.out.size)) (fun hHeld => ?_)
              clear hK K
              try simp only [Act.put, List.setIfInBounds_toArray, List.set_cons_zero, List.set_cons_succ]
              have BX111 := Lib.hid hHeld
              have FQX111 := Lib.hid (FQX110.out.keep ((RX111.out).block _ FQX110.out.lt))
              have FPX111 := Lib.hid (FPX110.out.keep ((RX111.out).block _ FPX110.out.lt))
              refine wpAnyH_ready (rs := [9]) (by kernel_rfl) (by simp) ?_
              refine AllReadyH.cons (o := ⟨none, _, _, _, _, _⟩) rfl (fun K hK => ?_) ?_
              · refine step_store_D rfl _ _ rfl rfl X105.heap.size L rfl rfl HLl.out FPX111.out ?_
                refine hK.out _ _ (below_setRow BX111.out (BX105.out.size) _) (fun hHeld => ?_)
                clear hK K
                have FPX112 : DRow (X111.setRow X105.heap.size (bytesV L).toArray) X105.heap.size L := FPX111.out.row _
                have FQX112 := Lib.hid (FQX111.out.keep (w' := (X111.setRow X105.heap.size (bytesV L).toArray)) (setRow_other _ _ _ _ ne_Q_P))
                generalize (X111.setRow X105.heap.size (bytesV L).toArray) = X112 at hHeld FPX112 FQX112 ⊢
                have BX112 := Lib.hid hHeld
                replace FPX112 := Lib.hid FPX112
                refine wpAnyH_ready (rs := [10]) (by kernel_rfl) (by simp) ?_
                refine AllReadyH.cons (o := ⟨none, _, _, _, _, _⟩) rfl (fun K hK => ?_) ?_
                · refine step_store_D rfl _ _ rfl rfl X60.heap.size R rfl rfl HRl.out FQX112.out ?_
                  refine hK.out _ _ (below_setRow BX112.out (BX60.out.size) _) (fun hHeld => ?_)
                  clear hK K
                  have FQX113 : DRow (X112.setRow X60.heap.size (bytesV R).toArray) X60.heap.size R := FQX112.out.row _
                  have FPX113 := Lib.hid (FPX112.out.keep (w' := (X112.setRow X60.heap.size (bytesV R).toArray)) (setRow_other _ _ _ _ ne_P_Q))
                  generalize (X112.setRow X60.heap.size (bytesV R).toArray) = X113 at hHeld FQX113 FPX113 ⊢
                  have BX113 := Lib.hid hHeld
                  replace FQX113 := Lib.hid FQX113
                  refine wpAnyH_done (by kernel_rfl) ?_ _
                  exact hfin7 _ _ _ _ _ _ ne_P_Q FPX113 FQX113 BX113
                exact AllReadyH.nil
              exact AllReadyH.nil
            exact AllReadyH.nil
          exact AllReadyH.nil
        refine AllReadyH.cons (o := ⟨some 7, _, _, _, _, _⟩) rfl (fun K hK => ?_) ?_
        · go_simp
          refine hK.out _ _ (hHeld.alloc hHeld.size _) (fun hHeld => ?_)
          clear hK K
          try simp only [Act.put, List.setIfInBounds_toArray, List.set_cons_zero, List.set_cons_succ]
          have FPX114 : IsD (X104.alloc (.cells Z32 26)) X104.heap.size := IsD.new _ _ (heap_alloc_new X104 _)
          have RX114 : Below X104.heap.size X104 (X104.alloc (.cells Z32 26)) := (Below.refl _ _).alloc (Nat.le_refl _) _
          generalize (X104.alloc (.cells Z32 26)) = X114 at hHeld FPX114 RX114 ⊢
          have BX114 := Lib.hid hHeld
          replace FPX114 := Lib.hid FPX114
          replace RX114 := Lib.hid RX114
          have FDX114 := Lib.hid (FDX104.out.keep ((RX114.out).block _ FDX104.out.lt))
          have FQX114 := Lib.hid (FQX104.out.keep ((RX114.out).block _ FQX104.out.lt))
          have ne_P_D : X104.heap.size ≠ X0.heap.size := fun h => by have := FDX104.out.lt; omega
          have ne_D_P := ne_P_D.symm
          have ne_P_Q : X104.heap.size ≠ X60.heap.size := fun h => by have := FQX104.out.lt; omega
          have ne_Q_P := ne_P_Q.symm
          refine wpAnyH_ready (rs := [3]) (by kernel_rfl) (by simp) ?_
          refine AllReadyH.cons (o := ⟨some 25, _, _, _, _, _⟩) rfl (fun K hK => ?_) ?_
          · go_simp
            go_at_call 17
            refine (HTLc.out _ BX114.out).mono ?_
            rintro e X115 ⟨rfl, bX115⟩
            have RX115 := Lib.hid (bX115)
            go_wp2_with fail
            refine hK.out _ _ (BX114.out.trans (RX115.out.mono BX114.out.size)) (fun hHeld => ?_)
            clear hK K
            try simp only [Act.put, List.setIfInBounds_toArray, List.set_cons_zero, List.set_cons_succ]
            have BX115 := Lib.hid hHeld
            have FDX115 := Lib.hid (FDX114.out.keep ((RX115.out).block _ FDX114.out.lt))
            have FQX115 := Lib.hid (FQX114.out.keep ((RX115.out).block _ FQX114.out.lt))
            have FPX115 := Lib.hid (FPX114.out.keep ((RX115.out).block _ FPX114.out.lt))
            refine wpAnyH_ready (rs := [6]) (by kernel_rfl) (by simp) ?_
            refine AllReadyH.cons (o := ⟨some 28, _, _, _, _, _⟩) rfl (fun K hK => ?_) ?_
            · go_simp
              go_at_call 17
              refine (HTRc.out _ _ BX115.out FDX115.out).mono ?_
              rintro e X116 ⟨rfl, bX116⟩
              have RX116 := Lib.hid (bX116)
              go_wp2_with fail
              refine hK.out _ _ (BX115.out.trans (RX116.out.mono BX115.out.size)) (fun hHeld => ?_)
              clear hK K
              try simp only [Act.put, List.setIfInBounds_toArray, List.set_cons_zero, List.set_cons_succ]
              have BX116 := Lib.hid hHeld
              have FQX116 := Lib.hid (FQX115.out.keep ((RX116.out).block _ FQX115.out.lt))
              have FPX116 := Lib.hid (FPX115.out.keep ((RX116.out).block _ FPX115.out.lt))
              refine wpAnyH_ready (rs := [9]) (by kernel_rfl) (by simp) ?_
              refine AllReadyH.cons (o := ⟨none, _, _, _, _, _⟩) rfl (fun K hK => ?_) ?_
              · refine step_store_D rfl _ _ rfl rfl X104.heap.size L rfl rfl HLl.out FPX116.out ?_
                refine hK.out _ _ (below_setRow BX116.out (BX104.out.size) _) (fun hHeld => ?_)
                clear hK K
                have FPX117 : DRow (X116.setRow X104.heap.size (bytesV L).toArray) X104.heap.size L := FPX116.out.row _
                have FQX117 := Lib.hid (FQX116.out.keep (w' := (X116.setRow X104.heap.size (bytesV L).toArray)) (setRow_other _ _ _ _ ne_Q_P))
                generalize (X116.setRow X104.heap.size (bytesV L).toArray) = X117 at hHeld FPX117 FQX117 ⊢
                have BX117 := Lib.hid hHeld
                replace FPX117 := Lib.hid FPX117
                refine wpAnyH_ready (rs := [10]) (by kernel_rfl) (by simp) ?_
                refine AllReadyH.cons (o := ⟨none, _, _, _, _, _⟩) rfl (fun K hK => ?_) ?_
                · refine step_store_D rfl _ _ rfl rfl X60.heap.size R rfl rfl HRl.out FQX117.out ?_
                  refine hK.out _ _ (below_setRow BX117.out (BX60.out.size) _) (fun hHeld => ?_)
                  clear hK K
                  have FQX118 : DRow (X117.setRow X60.heap.size (bytesV R).toArray) X60.heap.size R := FQX117.out.row _
                  have FPX118 := Lib.hid (FPX117.out.keep (w' := (X117.setRow X60.heap.size (bytesV R).toArray)) (setRow_other _ _ _ _ ne_P_Q))
                  generalize (X117.setRow X60.heap.size (bytesV R).toArray) = X118 at hHeld FQX118 FPX118 ⊢
                  have BX118 := Lib.hid hHeld
                  replace FQX118 := Lib.hid FQX118
                  refine wpAnyH_done (by kernel_rfl) ?_ _
                  exact hfin7 _ _ _ _ _ _ ne_P_Q FPX118 FQX118 BX118
                exact AllReadyH.nil
              exact AllReadyH.nil
            exact AllReadyH.nil
          exact AllReadyH.nil
        exact AllReadyH.nil
      exact AllReadyH.nil
    refine AllReadyH.cons (o := ⟨some 7, _, _, _, _, _⟩) rfl (fun K hK => ?_) ?_
    · go_simp
      refine hK.out _ _ (hHeld.alloc hHeld.size _) (fun hHeld => ?_)
      clear hK K
      try simp only [Act.put, List.setIfInBounds_toArray, List.set_cons_zero, List.set_cons_succ]
      have FPX119 : IsD (X0.alloc (.cells Z32 26)) X0.heap.size := IsD.new _ _ (heap_alloc_new X0 _)
      have RX119 : Below X0.heap.size X0 (X0.alloc (.cells Z32 26)) := (Below.refl _ _).alloc (Nat.le_refl _) _
      generalize (X0.alloc (.cells Z32 26)) = X119 at hHeld FPX119 RX119 ⊢
      have BX119 := Lib.hid hHeld
      replace FPX119 := Lib.hid FPX119
      replace RX119 := Lib.hid RX119
      refine wpAnyH_ready (rs := [3, 5, 8]) (by kernel_rfl) (by simp) ?_
      refine AllReadyH.cons (o := ⟨some 25, _, _, _, _, _⟩) rfl (fun K hK => ?_) ?_
      · go_simp
        go_at_call 17
        refine (HTLc.out _ BX119.out).mono ?_
        rintro e X120 ⟨rfl, bX120⟩
        have RX120 := Lib.hid (bX120)
        go_wp2_with fail
        refine hK.out _ _ (BX119.out.trans (RX120.out.mono BX119.out.size)) (fun hHeld => ?_)
        clear hK K
        try simp only [Act.put, List.setIfInBounds_toArray, List.set_cons_zero, List.set_cons_succ]
        have BX120 := Lib.hid hHeld
        have FPX120 := Lib.hid (FPX119.out.keep ((RX120.out).block _ FPX119.out.lt))
        refine wpAnyH_ready (rs := [5, 8]) (by kernel_rfl) (by simp) ?_
        refine AllReadyH.cons (o := ⟨some 27, _, _, _, _, _⟩) rfl (fun K hK => ?_) ?_
        · go_simp
          refine hK.out _ _ (hHeld.alloc hHeld.size _) (fun hHeld => ?_)
          clear hK K
          try simp only [Act.put, List.setIfInBounds_toArray, List.set_cons_zero, List.set_cons_succ]
          have FDX121 : DRow (X120.alloc (.cells (bytesV d).toArray 26)) X120.heap.size d := heap_alloc_new X120 _
          have RX121 : Below X120.heap.size X120 (X120.alloc (.cells (bytesV d).toArray 26)) := (Below.refl _ _).alloc (Nat.le_refl _) _
          generalize (X120.alloc (.cells (bytesV d).toArray 26)) = X121 at hHeld FDX121 RX121 ⊢
          have BX121 := Lib.hid hHeld
          replace FDX121 := Lib.hid FDX121
          replace RX121 := Lib.hid RX121
          have FPX121 := Lib.hid (FPX120.out.keep ((RX121.out).block _ FPX120.out.lt))
          have ne_D_P : X120.heap.size ≠ X0.heap.size := fun h => by have := FPX120.out.lt; omega
          have ne_P_D := ne_D_P.symm
          refine wpAnyH_ready (rs := [6, 8]) (by kernel_rfl) (by simp) ?_
          refine AllReadyH.cons (o := ⟨some 28, _, _, _, _, _⟩) rfl (fun K hK => ?_) ?_
          · go_simp
            go_at_call 17
            refine (HTRc.out _ _ BX121.out FDX121.out).mono ?_
            rintro e X122 ⟨rfl, bX122⟩
            have RX122 := Lib.hid (bX122)
            go_wp2_with fail
            refine hK.out _ _ (BX121.out.trans (RX122.out.mono BX121.out.size)) (fun hHeld => ?_)
            clear hK K
            try simp only [Act.put, List.setIfInBounds_toArray, List.set_cons_zero, List.set_cons_succ]
            have BX122 := Lib.hid hHeld
            have FPX122 := Lib.hid (FPX121.out.keep ((RX122.out).block _ FPX121.out.lt))
            refine wpAnyH_ready (rs := [8]) (by kernel_rfl) (by simp) ?_
            refine AllReadyH.cons (o := ⟨some 8, _, _, _, _, _⟩) rfl (fun K hK => ?_) ?_
            · go_simp
              refine hK.out _ _ (hHeld.alloc hHeld.size _) (fun hHeld => ?_)
              clear hK K
              try simp only [Act.put, List.setIfInBounds_toArray, List.set_cons_zero, List.set_cons_succ]
              have FQX123 : IsD (X122.alloc (.cells Z32 26)) X122.heap.size := IsD.new _ _ (heap_alloc_new X122 _)
              have RX123 : Below X122.heap.size X122 (X122.alloc (.cells Z32 26)) := (Below.refl _ _).alloc (Nat.le_refl _) _
              generalize (X122.alloc (.cells Z32 26)) = X123 at hHeld FQX123 RX123 ⊢
              have BX123 := Lib.hid hHeld
              replace FQX123 := Lib.hid FQX123
              replace RX123 := Lib.hid RX123
              have FPX123 := Lib.hid (FPX122.out.keep ((RX123.out).block _ FPX122.out.lt))
              have ne_Q_P : X122.heap.size ≠ X0.heap.size := fun h => by have := FPX122.out.lt; omega
              have ne_P_Q := ne_Q_P.symm
              refine wpAnyH_ready (rs := [9]) (by kernel_rfl) (by simp) ?_
              refine AllReadyH.cons (o := ⟨none, _, _, _, _, _⟩) rfl (fun K hK => ?_) ?_
              · refine step_store_D rfl _ _ rfl rfl X0.heap.size L rfl rfl HLl.out FPX123.out ?_
                refine hK.out _ _ (below_setRow BX123.out (BX0.out.size) _) (fun hHeld => ?_)
                clear hK K
                have FPX124 : DRow (X123.setRow X0.heap.size (bytesV L).toArray) X0.heap.size L := FPX123.out.row _
                have FQX124 := Lib.hid (FQX123.out.keep (w' := (X123.setRow X0.heap.size (bytesV L).toArray)) (setRow_other _ _ _ _ ne_Q_P))
                generalize (X123.setRow X0.heap.size (bytesV L).toArray) = X124 at hHeld FPX124 FQX124 ⊢
                have BX124 := Lib.hid hHeld
                replace FPX124 := Lib.hid FPX124
                refine wpAnyH_ready (rs := [10]) (by kernel_rfl) (by simp) ?_
                refine AllReadyH.cons (o := ⟨none, _, _, _, _, _⟩) rfl (fun K hK => ?_) ?_
                · refine step_store_D rfl _ _ rfl rfl X122.heap.size R rfl rfl HRl.out FQX124.out ?_
                  refine hK.out _ _ (below_setRow BX124.out (BX122.out.size) _) (fun hHeld => ?_)
                  clear hK K
                  have FQX125 : DRow (X124.setRow X122.heap.size (bytesV R).toArray) X122.heap.size R := FQX124.out.row _
                  have FPX125 := Lib.hid (FPX124.out.keep (w' := (X124.setRow X122.heap.size (bytesV R).toArray)) (setRow_other _ _ _ _ ne_P_Q))
                  generalize (X124.setRow X122.heap.size (bytesV R).toArray) = X125 at hHeld FQX125 FPX125 ⊢
                  have BX125 := Lib.hid hHeld
                  replace FQX125 := Lib.hid FQX125
                  refine wpAnyH_done (by kernel_rfl) ?_ _
                  exact hfin7 _ _ _ _ _ _ ne_P_Q FPX125 FQX125 BX125
                exact AllReadyH.nil
              exact AllReadyH.nil
            exact AllReadyH.nil
          refine AllReadyH.cons (o := ⟨some 8, _, _, _, _, _⟩) rfl (fun K hK => ?_) ?_
          · go_simp
            refine hK.out _ _ (hHeld.alloc hHeld.size _) (fun hHeld => ?_)
            clear hK K
            try simp only [Act.put, List.setIfInBounds_toArray, List.set_cons_zero, List.set_cons_succ]
            have FQX126 : IsD (X121.alloc (.cells Z32 26)) X121.heap.size := IsD.new _ _ (heap_alloc_new X121 _)
            have RX126 : Below X121.heap.size X121 (X121.alloc (.cells Z32 26)) := (Below.refl _ _).alloc (Nat.le_refl _) _
            generalize (X121.alloc (.cells Z32 26)) = X126 at hHeld FQX126 RX126 ⊢
            have BX126 := Lib.hid hHeld
            replace FQX126 := Lib.hid FQX126
            replace RX126 := Lib.hid RX126
            have FPX126 := Lib.hid (FPX121.out.keep ((RX126.out).block _ FPX121.out.lt))
            have FDX126 := Lib.hid (FDX121.out.keep ((RX126.out).block _ FDX121.out.lt))
            have ne_Q_P : X121.heap.size ≠ X0.heap.size := fun h => by have := FPX121.out.lt; omega
            have ne_P_Q := ne_Q_P.symm
            have ne_Q_D : X121.heap.size ≠ X120.heap.size := fun h => by have := FDX121.out.lt; omega
            have ne_D_Q := ne_Q_D.symm
            refine wpAnyH_ready (rs := [6]) (by kernel_rfl) (by simp) ?_
            refine AllReadyH.cons (o := ⟨some 28, _, _, _, _, _⟩) rfl (fun K hK => ?_) ?_
            · go_simp
              go_at_call 17
              refine (HTRc.out _ _ BX126.out FDX126.out).mono ?_
              rintro e X127 ⟨rfl, bX127⟩
              have RX127 := Lib.hid (bX127)
              go_wp2_with fail
              refine hK.out _ _ (BX126.out.trans (RX127.out.mono BX126.out.size)) (fun hHeld => ?_)
              clear hK K
              try simp only [Act.put, List.setIfInBounds_toArray, List.set_cons_zero, List.set_cons_succ]
              have BX127 := Lib.hid hHeld
              have FPX127 := Lib.hid (FPX126.out.keep ((RX127.out).block _ FPX126.out.lt))
              have FQX127 := Lib.hid (FQX126.out.keep ((RX127.out).block _ FQX126.out.lt))
              refine wpAnyH_ready (rs := [9]) (by kernel_rfl) (by simp) ?_
              refine AllReadyH.cons (o := ⟨none, _, _, _, _, _⟩) rfl (fun K hK => ?_) ?_
              · refine step_store_D rfl _ _ rfl rfl X0.heap.size L rfl rfl HLl.out FPX127.out ?_
                refine hK.out _ _ (below_setRow BX127.out (BX0.out.size) _) (fun hHeld => ?_)
                clear hK K
                have FPX128 : DRow (X127.setRow X0.heap.size (bytesV L).toArray) X0.heap.size L := FPX127.out.row _
                have FQX128 := Lib.hid (FQX127.out.keep (w' := (X127.setRow X0.heap.size (bytesV L).toArray)) (setRow_other _ _ _ _ ne_Q_P))
                generalize (X127.setRow X0.heap.size (bytesV L).toArray) = X128 at hHeld FPX128 FQX128 ⊢
                have BX128 := Lib.hid hHeld
                replace FPX128 := Lib.hid FPX128
                refine wpAnyH_ready (rs := [10]) (by kernel_rfl) (by simp) ?_
                refine AllReadyH.cons (o := ⟨none, _, _, _, _, _⟩) rfl (fun K hK => ?_) ?_
                · refine step_store_D rfl _ _ rfl rfl X121.heap.size R rfl rfl HRl.out FQX128.out ?_
                  refine hK.out _ _ (below_setRow BX128.out (BX121.out.size) _) (fun hHeld => ?_)
                  clear hK K
                  have FQX129 : DRow (X128.setRow X121.heap.size (bytesV R).toArray) X121.heap.size R := FQX128.out.row _
                  have FPX129 := Lib.hid (FPX128.out.keep (w' := (X128.setRow X121.heap.size (bytesV R).toArray)) (setRow_other _ _ _ _ ne_P_Q))
                  generalize (X128.setRow X121.heap.size (bytesV R).toArray) = X129 at hHeld FQX129 FPX129 ⊢
                  have BX129 := Lib.hid hHeld
                  replace FQX129 := Lib.hid FQX129
                  refine wpAnyH_done (by kernel_rfl) ?_ _
                  exact hfin7 _ _ _ _ _ _ ne_P_Q FPX129 FQX129 BX129
                exact AllReadyH.nil
              exact AllReadyH.nil
            exact AllReadyH.nil
          exact AllReadyH.nil
        refine AllReadyH.cons (o := ⟨some 8, _, _, _, _, _⟩) rfl (fun K hK => ?_) ?_
        · go_simp
          refine hK.out _ _ (hHeld.alloc hHeld.size _) (fun hHeld => ?_)
          clear hK K
          try simp only [Act.put, List.setIfInBounds_toArray, List.set_cons_zero, List.set_cons_succ]
          have FQX130 : IsD (X120.alloc (.cells Z32 26)) X120.heap.size := IsD.new _ _ (heap_alloc_new X120 _)
          have RX130 : Below X120.heap.size X120 (X120.alloc (.cells Z32 26)) := (Below.refl _ _).alloc (Nat.le_refl _) _
          generalize (X120.alloc (.cells Z32 26)) = X130 at hHeld FQX130 RX130 ⊢
          have BX130 := Lib.hid hHeld
          replace FQX130 := Lib.hid FQX130
          replace RX130 := Lib.hid RX130
          have FPX130 := Lib.hid (FPX120.out.keep ((RX130.out).block _ FPX120.out.lt))
          have ne_Q_P : X120.heap.size ≠ X0.heap.size := fun h => by have := FPX120.out.lt; omega
          have ne_P_Q := ne_Q_P.symm
          refine wpAnyH_ready (rs := [5]) (by kernel_rfl) (by simp) ?_
          refine AllReadyH.cons (o := ⟨some 27, _, _, _, _, _⟩) rfl (fun K hK => ?_) ?_
          · go_simp
            refine hK.out _ _ (hHeld.alloc hHeld.size _) (fun hHeld => ?_)
            clear hK K
            try simp only [Act.put, List.setIfInBounds_toArray, List.set_cons_zero, List.set_cons_succ]
            have FDX131 : DRow (X130.alloc (.cells (bytesV d).toArray 26)) X130.heap.size d := heap_alloc_new X130 _
            have RX131 : Below X130.heap.size X130 (X130.alloc (.cells (bytesV d).toArray 26)) := (Below.refl _ _).alloc (Nat.le_refl _) _
            generalize (X130.alloc (.cells (bytesV d).toArray 26)) = X131 at hHeld FDX131 RX131 ⊢
            have BX131 := Lib.hid hHeld
            replace FDX131 := Lib.hid FDX131
            replace RX131 := Lib.hid RX131
            have FPX131 := Lib.hid (FPX130.out.keep ((RX131.out).block _ FPX130.out.lt))
            have FQX131 := Lib.hid (FQX130.out.keep ((RX131.out).block _ FQX130.out.lt))
            have ne_D_P : X130.heap.size ≠ X0.heap.size := fun h => by have := FPX130.out.lt; omega
            have ne_P_D := ne_D_P.symm
            have ne_D_Q : X130.heap.size ≠ X120.heap.size := fun h => by have := FQX130.out.lt; omega
            have ne_Q_D := ne_D_Q.symm
            refine wpAnyH_ready (rs := [6]) (by kernel_rfl) (by simp) ?_
            refine AllReadyH.cons (o := ⟨some 28, _, _, _, _, _⟩) rfl (fun K hK => ?_) ?_
            · go_simp
              go_at_call 17
              refine (HTRc.out _ _ BX131.out FDX131.out).mono ?_
              rintro e X132 ⟨rfl, bX132⟩
              have RX132 := Lib.hid (bX132)
              go_wp2_with fail
              refine hK.out _ _ (BX131.out.trans (RX132.out.mono BX131.out.size)) (fun hHeld => ?_)
              clear hK K
              try simp only [Act.put, List.setIfInBounds_toArray, List.set_cons_zero, List.set_cons_succ]
              have BX132 := Lib.hid hHeld
              have FPX132 := Lib.hid (FPX131.out.keep ((RX132.out).block _ FPX131.out.lt))
              have FQX132 := Lib.hid (FQX131.out.keep ((RX132.out).block _ FQX131.out.lt))
              refine wpAnyH_ready (rs := [9]) (by kernel_rfl) (by simp) ?_
              refine AllReadyH.cons (o := ⟨none, _, _, _, _, _⟩) rfl (fun K hK => ?_) ?_
              · refine step_store_D rfl _ _ rfl rfl X0.heap.size L rfl rfl HLl.out FPX132.out ?_
                refine hK.out _ _ (below_setRow BX132.out (BX0.out.size) _) (fun hHeld => ?_)
                clear hK K
                have FPX133 : DRow (X132.setRow X0.heap.size (bytesV L).toArray) X0.heap.size L := FPX132.out.row _
                have FQX133 := Lib.hid (FQX132.out.keep (w' := (X132.setRow X0.heap.size (bytesV L).toArray)) (setRow_other _ _ _ _ ne_Q_P))
                generalize (X132.setRow X0.heap.size (bytesV L).toArray) = X133 at hHeld FPX133 FQX133 ⊢
                have BX133 := Lib.hid hHeld
                replace FPX133 := Lib.hid FPX133
                refine wpAnyH_ready (rs := [10]) (by kernel_rfl) (by simp) ?_
                refine AllReadyH.cons (o := ⟨none, _, _, _, _, _⟩) rfl (fun K hK => ?_) ?_
                · refine step_store_D rfl _ _ rfl rfl X120.heap.size R rfl rfl HRl.out FQX133.out ?_
                  refine hK.out _ _ (below_setRow BX133.out (BX120.out.size) _) (fun hHeld => ?_)
                  clear hK K
                  have FQX134 : DRow (X133.setRow X120.heap.size (bytesV R).toArray) X120.heap.size R := FQX133.out.row _
                  have FPX134 := Lib.hid (FPX133.out.keep (w' := (X133.setRow X120.heap.size (bytesV R).toArray)) (setRow_other _ _ _ _ ne_P_Q))
                  generalize (X133.setRow X120.heap.size (bytesV R).toArray) = X134 at hHeld FQX134 FPX134 ⊢
                  have BX134 := Lib.hid hHeld
                  replace FQX134 := Lib.hid FQX134
                  refine wpAnyH_done (by kernel_rfl) ?_ _
                  exact hfin7 _ _ _ _ _ _ ne_P_Q FPX134 FQX134 BX134
                exact AllReadyH.nil
              exact AllReadyH.nil
            exact AllReadyH.nil
          exact AllReadyH.nil
        exact AllReadyH.nil
      refine AllReadyH.cons (o := ⟨some 27, _, _, _, _, _⟩) rfl (fun K hK => ?_) ?_
      · go_simp
        refine hK.out _ _ (hHeld.alloc hHeld.size _) (fun hHeld => ?_)
        clear hK K
        try simp only [Act.put, List.setIfInBounds_toArray, List.set_cons_zero, List.set_cons_succ]
        have FDX135 : DRow (X119.alloc (.cells (bytesV d).toArray 26)) X119.heap.size d := heap_alloc_new X119 _
        have RX135 : Below X119.heap.size X119 (X119.alloc (.cells (bytesV d).toArray 26)) := (Below.refl _ _).alloc (Nat.le_refl _) _
        generalize (X119.alloc (.cells (bytesV d).toArray 26)) = X135 at hHeld FDX135 RX135 ⊢
        have BX135 := Lib.hid hHeld
        replace FDX135 := Lib.hid FDX135
        replace RX135 := Lib.hid RX135
        have FPX135 := Lib.hid (FPX119.out.keep ((RX135.out).block _ FPX119.out.lt))
        have ne_D_P : X119.heap.size ≠ X0.heap.size := fun h => by have := FPX119.out.lt; omega
        have ne_P_D := ne_D_P.symm
        refine wpAnyH_ready (rs := [3, 8]) (by kernel_rfl) (by simp) ?_
        refine AllReadyH.cons (o := ⟨some 25, _, _, _, _, _⟩) rfl (fun K hK => ?_) ?_
        · go_simp
          go_at_call 17
          refine (HTLc.out _ BX135.out).mono ?_
          rintro e X136 ⟨rfl, bX136⟩
          have RX136 := Lib.hid (bX136)
          go_wp2_with fail
          refine hK.out _ _ (BX135.out.trans (RX136.out.mono BX135.out.size)) (fun hHeld => ?_)
          clear hK K
          try simp only [Act.put, List.setIfInBounds_toArray, List.set_cons_zero, List.set_cons_succ]
          have BX136 := Lib.hid hHeld
          have FPX136 := Lib.hid (FPX135.out.keep ((RX136.out).block _ FPX135.out.lt))
          have FDX136 := Lib.hid (FDX135.out.keep ((RX136.out).block _ FDX135.out.lt))
          refine wpAnyH_ready (rs := [6, 8]) (by kernel_rfl) (by simp) ?_
          refine AllReadyH.cons (o := ⟨some 28, _, _, _, _, _⟩) rfl (fun K hK => ?_) ?_
          · go_simp
            go_at_call 17
            refine (HTRc.out _ _ BX136.out FDX136.out).mono ?_
            rintro e X137 ⟨rfl, bX137⟩
            have RX137 := Lib.hid (bX137)
            go_wp2_with fail
            refine hK.out _ _ (BX136.out.trans (RX137.out.mono BX136.out.size)) (fun hHeld => ?_)
            clear hK K
            try simp only [Act.put, List.setIfInBounds_toArray, List.set_cons_zero, List.set_cons_succ]
            have BX137 := Lib.hid hHeld
            have FPX137 := Lib.hid (FPX136.out.keep ((RX137.out).block _ FPX136.out.lt))
            refine wpAnyH_ready (rs := [8]) (by kernel_rfl) (by simp) ?_
            refine AllReadyH.cons (o := ⟨some 8, _, _, _, _, _⟩) rfl (fun K hK => ?_) ?_
            · go_simp
              refine hK.out _ _ (hHeld.alloc hHeld.size _) (fun hHeld => ?_)
              clear hK K
              try simp only [Act.put, List.setIfInBounds_toArray, List.set_cons_zero, List.set_cons_succ]
              have FQX138 : IsD (X137.alloc (.cells Z32 26)) X137.heap.size := IsD.new _ _ (heap_alloc_new X137 _)
              have RX138 : Below X137.heap.size X137 (X137.alloc (.cells Z32 26)) := (Below.refl _ _).alloc (Nat.le_refl _) _
              generalize (X137.alloc (.cells Z32 26)) = X138 at hHeld FQX138 RX138 ⊢
              have BX138 := Lib.hid hHeld
              replace FQX138 := Lib.hid FQX138
              replace RX138 := Lib.hid RX138
              have FPX138 := Lib.hid (FPX137.out.keep ((RX138.out).block _ FPX137.out.lt))
              have ne_Q_P : X137.heap.size ≠ X0.heap.size := fun h => by have := FPX137.out.lt; omega
              have ne_P_Q := ne_Q_P.symm
              refine wpAnyH_ready (rs := [9]) (by kernel_rfl) (by simp) ?_
              refine AllReadyH.cons (o := ⟨none, _, _, _, _, _⟩) rfl (fun K hK => ?_) ?_
              · refine step_store_D rfl _ _ rfl rfl X0.heap.size L rfl rfl HLl.out FPX138.out ?_
                refine hK.out _ _ (below_setRow BX138.out (BX0.out.size) _) (fun hHeld => ?_)
                clear hK K
                have FPX139 : DRow (X138.setRow X0.heap.size (bytesV L).toArray) X0.heap.size L := FPX138.out.row _
                have FQX139 := Lib.hid (FQX138.out.keep (w' := (X138.setRow X0.heap.size (bytesV L).toArray)) (setRow_other _ _ _ _ ne_Q_P))
                generalize (X138.setRow X0.heap.size (bytesV L).toArray) = X139 at hHeld FPX139 FQX139 ⊢
                have BX139 := Lib.hid hHeld
                replace FPX139 := Lib.hid FPX139
                refine wpAnyH_ready (rs := [10]) (by kernel_rfl) (by simp) ?_
                refine AllReadyH.cons (o := ⟨none, _, _, _, _, _⟩) rfl (fun K hK => ?_) ?_
                · refine step_store_D rfl _ _ rfl rfl X137.heap.size R rfl rfl HRl.out FQX139.out ?_
                  refine hK.out _ _ (below_setRow BX139.out (BX137.out.size) _) (fun hHeld => ?_)
                  clear hK K
                  have FQX140 : DRow (X139.setRow X137.heap.size (bytesV R).toArray) X137.heap.size R := FQX139.out.row _
                  have FPX140 := Lib.hid (FPX139.out.keep (w' := (X139.setRow X137.heap.size (bytesV R).toArray)) (setRow_other _ _ _ _ ne_P_Q))
                  generalize (X139.setRow X137.heap.size (bytesV R).toArray) = X140 at hHeld FQX140 FPX140 ⊢
                  have BX140 := Lib.hid hHeld
                  replace FQX140 := Lib.hid FQX140
                  refine wpAnyH_done (by kernel_rfl) ?_ _
                  exact hfin7 _ _ _ _ _ _ ne_P_Q FPX140 FQX140 BX140
                exact AllReadyH.nil
              exact AllReadyH.nil
            exact AllReadyH.nil
          refine AllReadyH.cons (o := ⟨some 8, _, _, _, _, _⟩) rfl (fun K hK => ?_) ?_
          · go_simp
            refine hK.out _ _ (hHeld.alloc hHeld.size _) (fun hHeld => ?_)
            clear hK K
            try simp only [Act.put, List.setIfInBounds_toArray, List.set_cons_zero, List.set_cons_succ]
            have FQX141 : IsD (X136.alloc (.cells Z32 26)) X136.heap.size := IsD.new _ _ (heap_alloc_new X136 _)
            have RX141 : Below X136.heap.size X136 (X136.alloc (.cells Z32 26)) := (Below.refl _ _).alloc (Nat.le_refl _) _
            generalize (X136.alloc (.cells Z32 26)) = X141 at hHeld FQX141 RX141 ⊢
            have BX141 := Lib.hid hHeld
            replace FQX141 := Lib.hid FQX141
            replace RX141 := Lib.hid RX141
            have FPX141 := Lib.hid (FPX136.out.keep ((RX141.out).block _ FPX136.out.lt))
            have FDX141 := Lib.hid (FDX136.out.keep ((RX141.out).block _ FDX136.out.lt))
            have ne_Q_P : X136.heap.size ≠ X0.heap.size := fun h => by have := FPX136.out.lt; omega
            have ne_P_Q := ne_Q_P.symm
            have ne_Q_D : X136.heap.size ≠ X119.heap.size := fun h => by have := FDX136.out.lt; omega
            have ne_D_Q := ne_Q_D.symm
            refine wpAnyH_ready (rs := [6]) (by kernel_rfl) (by simp) ?_
            refine AllReadyH.cons (o := ⟨some 28, _, _, _, _, _⟩) rfl (fun K hK => ?_) ?_
            · go_simp
              go_at_call 17
              refine (HTRc.out _ _ BX141.out FDX141.out).mono ?_
              rintro e X142 ⟨rfl, bX142⟩
              have RX142 := Lib.hid (bX142)
              go_wp2_with fail
              refine hK.out _ _ (BX141.out.trans (RX142.out.mono BX141.out.size)) (fun hHeld => ?_)
              clear hK K
              try simp only [Act.put, List.setIfInBounds_toArray, List.set_cons_zero, List.set_cons_succ]
              have BX142 := Lib.hid hHeld
              have FPX142 := Lib.hid (FPX141.out.keep ((RX142.out).block _ FPX141.out.lt))
              have FQX142 := Lib.hid (FQX141.out.keep ((RX142.out).block _ FQX141.out.lt))
              refine wpAnyH_ready (rs := [9]) (by kernel_rfl) (by simp) ?_
              refine AllReadyH.cons (o := ⟨none, _, _, _, _, _⟩) rfl (fun K hK => ?_) ?_
              · refine step_store_D rfl _ _ rfl rfl X0.heap.size L rfl rfl HLl.out FPX142.out ?_
                refine hK.out _ _ (below_setRow BX142.out (BX0.out.size) _) (fun hHeld => ?_)
                clear hK K
                have FPX143 : DRow (X142.setRow X0.heap.size (bytesV L).toArray) X0.heap.size L := FPX142.out.row _
                have FQX143 := Lib.hid (FQX142.out.keep (w' := (X142.setRow X0.heap.size (bytesV L).toArray)) (setRow_other _ _ _ _ ne_Q_P))
                generalize (X142.setRow X0.heap.size (bytesV L).toArray) = X143 at hHeld FPX143 FQX143 ⊢
                have BX143 := Lib.hid hHeld
                replace FPX143 := Lib.hid FPX143
                refine wpAnyH_ready (rs := [10]) (by kernel_rfl) (by simp) ?_
                refine AllReadyH.cons (o := ⟨none, _, _, _, _, _⟩) rfl (fun K hK => ?_) ?_
                · refine step_store_D rfl _ _ rfl rfl X136.heap.size R rfl rfl HRl.out FQX143.out ?_
                  refine hK.out _ _ (below_setRow BX143.out (BX136.out.size) _) (fun hHeld => ?_)
                  clear hK K
                  have FQX144 : DRow (X143.setRow X136.heap.size (bytesV R).toArray) X136.heap.size R := FQX143.out.row _
                  have FPX144 := Lib.hid (FPX143.out.keep (w' := (X143.setRow X136.heap.size (bytesV R).toArray)) (setRow_other _ _ _ _ ne_P_Q))
                  generalize (X143.setRow X136.heap.size (bytesV R).toArray) = X144 at hHeld FQX144 FPX144 ⊢
                  have BX144 := Lib.hid hHeld
                  replace FQX144 := Lib.hid FQX144
                  refine wpAnyH_done (by kernel_rfl) ?_ _
                  exact hfin7 _ _ _ _ _ _ ne_P_Q FPX144 FQX144 BX144
                exact AllReadyH.nil
              exact AllReadyH.nil
            exact AllReadyH.nil
          exact AllReadyH.nil
        refine AllReadyH.cons (o := ⟨some 8, _, _, _, _, _⟩) rfl (fun K hK => ?_) ?_
        · go_simp
          refine hK.out _ _ (hHeld.alloc hHeld.size _) (fun hHeld => ?_)
          clear hK K
          try simp only [Act.put, List.setIfInBounds_toArray, List.set_cons_zero, List.set_cons_succ]
          have FQX145 : IsD (X135.alloc (.cells Z32 26)) X135.heap.size := IsD.new _ _ (heap_alloc_new X135 _)
          have RX145 : Below X135.heap.size X135 (X135.alloc (.cells Z32 26)) := (Below.refl _ _).alloc (Nat.le_refl _) _
          generalize (X135.alloc (.cells Z32 26)) = X145 at hHeld FQX145 RX145 ⊢
          have BX145 := Lib.hid hHeld
          replace FQX145 := Lib.hid FQX145
          replace RX145 := Lib.hid RX145
          have FPX145 := Lib.hid (FPX135.out.keep ((RX145.out).block _ FPX135.out.lt))
          have FDX145 := Lib.hid (FDX135.out.keep ((RX145.out).block _ FDX135.out.lt))
          have ne_Q_P : X135.heap.size ≠ X0.heap.size := fun h => by have := FPX135.out.lt; omega
          have ne_P_Q := ne_Q_P.symm
          have ne_Q_D : X135.heap.size ≠ X119.heap.size := fun h => by have := FDX135.out.lt; omega
          have ne_D_Q := ne_Q_D.symm
          refine wpAnyH_ready (rs := [3]) (by kernel_rfl) (by simp) ?_
          refine AllReadyH.cons (o := ⟨some 25, _, _, _, _, _⟩) rfl (fun K hK => ?_) ?_
          · go_simp
            go_at_call 17
            refine (HTLc.out _ BX145.out).mono ?_
            rintro e X146 ⟨rfl, bX146⟩
            have RX146 := Lib.hid (bX146)
            go_wp2_with fail
            refine hK.out _ _ (BX145.out.trans (RX146.out.mono BX145.out.size)) (fun hHeld => ?_)
            clear hK K
            try simp only [Act.put, List.setIfInBounds_toArray, List.set_cons_zero, List.set_cons_succ]
            have BX146 := Lib.hid hHeld
            have FPX146 := Lib.hid (FPX145.out.keep ((RX146.out).block _ FPX145.out.lt))
            have FDX146 := Lib.hid (FDX145.out.keep ((RX146.out).block _ FDX145.out.lt))
            have FQX146 := Lib.hid (FQX145.out.keep ((RX146.out).block _ FQX145.out.lt))
            refine wpAnyH_ready (rs := [6]) (by kernel_rfl) (by simp) ?_
            refine AllReadyH.cons (o := ⟨some 28, _, _, _, _, _⟩) rfl (fun K hK => ?_) ?_
            · go_simp
              go_at_call 17
              refine (HTRc.out _ _ BX146.out FDX146.out).mono ?_
              rintro e X147 ⟨rfl, bX147⟩
              have RX147 := Lib.hid (bX147)
              go_wp2_with fail
              refine hK.out _ _ (BX146.out.trans (RX147.out.mono BX146.out.size)) (fun hHeld => ?_)
              clear hK K
              try simp only [Act.put, List.setIfInBounds_toArray, List.set_cons_zero, List.set_cons_succ]
              have BX147 := Lib.hid hHeld
              have FPX147 := Lib.hid (FPX146.out.keep ((RX147.out).block _ FPX146.out.lt))
              have FQX147 := Lib.hid (FQX146.out.keep ((RX147.out).block _ FQX146.out.lt))
              refine wpAnyH_ready (rs := [9]) (by kernel_rfl) (by simp) ?_
              refine AllReadyH.cons (o := ⟨none, _, _, _, _, _⟩) rfl (fun K hK => ?_) ?_
              · refine step_store_D rfl _ _ rfl rfl X0.heap.size L rfl rfl HLl.out FPX147.out ?_
                refine hK.out _ _ (below_setRow BX147.out (BX0.out.size) _) (fun hHeld => ?_)
                clear hK K
                have FPX148 : DRow (X147.setRow X0.heap.size (bytesV L).toArray) X0.heap.size L := FPX147.out.row _
                have FQX148 := Lib.hid (FQX147.out.keep (w' := (X147.setRow X0.heap.size (bytesV L).toArray)) (setRow_other _ _ _ _ ne_Q_P))
                generalize (X147.setRow X0.heap.size (bytesV L).toArray) = X148 at hHeld FPX148 FQX148 ⊢
                have BX148 := Lib.hid hHeld
                replace FPX148 := Lib.hid FPX148
                refine wpAnyH_ready (rs := [10]) (by kernel_rfl) (by simp) ?_
                refine AllReadyH.cons (o := ⟨none, _, _, _, _, _⟩) rfl (fun K hK => ?_) ?_
                · refine step_store_D rfl _ _ rfl rfl X135.heap.size R rfl rfl HRl.out FQX148.out ?_
                  refine hK.out _ _ (below_setRow BX148.out (BX135.out.size) _) (fun hHeld => ?_)
                  clear hK K
                  have FQX149 : DRow (X148.setRow X135.heap.size (bytesV R).toArray) X135.heap.size R := FQX148.out.row _
                  have FPX149 := Lib.hid (FPX148.out.keep (w' := (X148.setRow X135.heap.size (bytesV R).toArray)) (setRow_other _ _ _ _ ne_P_Q))
                  generalize (X148.setRow X135.heap.size (bytesV R).toArray) = X149 at hHeld FQX149 FPX149 ⊢
                  have BX149 := Lib.hid hHeld
                  replace FQX149 := Lib.hid FQX149
                  refine wpAnyH_done (by kernel_rfl) ?_ _
                  exact hfin7 _ _ _ _ _ _ ne_P_Q FPX149 FQX149 BX149
                exact AllReadyH.nil
              exact AllReadyH.nil
            exact AllReadyH.nil
          exact AllReadyH.nil
        exact AllReadyH.nil
      refine AllReadyH.cons (o := ⟨some 8, _, _, _, _, _⟩) rfl (fun K hK => ?_) ?_
      · go_simp
        refine hK.out _ _ (hHeld.alloc hHeld.size _) (fun hHeld => ?_)
        clear hK K
        try simp only [Act.put, List.setIfInBounds_toArray, List.set_cons_zero, List.set_cons_succ]
        have FQX150 : IsD (X119.alloc (.cells Z32 26)) X119.heap.size := IsD.new _ _ (heap_alloc_new X119 _)
        have RX150 : Below X119.heap.size X119 (X119.alloc (.cells Z32 26)) := (Below.refl _ _).alloc (Nat.le_refl _) _
        generalize (X119.alloc (.cells Z32 26)) = X150 at hHeld FQX150 RX150 ⊢
        have BX150 := Lib.hid hHeld
        replace FQX150 := Lib.hid FQX150
        replace RX150 := Lib.hid RX150
        have FPX150 := Lib.hid (FPX119.out.keep ((RX150.out).block _ FPX119.out.lt))
        have ne_Q_P : X119.heap.size ≠ X0.heap.size := fun h => by have := FPX119.out.lt; omega
        have ne_P_Q := ne_Q_P.symm
        refine wpAnyH_ready (rs := [3, 5]) (by kernel_rfl) (by simp) ?_
        refine AllReadyH.cons (o := ⟨some 25, _, _, _, _, _⟩) rfl (fun K hK => ?_) ?_
        · go_simp
          go_at_call 17
          refine (HTLc.out _ BX150.out).mono ?_
          rintro e X151 ⟨rfl, bX151⟩
          have RX151 := Lib.hid (bX151)
          go_wp2_with fail
          refine hK.out _ _ (BX150.out.trans (RX151.out.mono BX150.out.size)) (fun hHeld => ?_)
          clear hK K
          try simp only [Act.put, List.setIfInBounds_toArray, List.set_cons_zero, List.set_cons_succ]
          have BX151 := Lib.hid hHeld
          have FPX151 := Lib.hid (FPX150.out.keep ((RX151.out).block _ FPX150.out.lt))
          have FQX151 := Lib.hid (FQX150.out.keep ((RX151.out).block _ FQX150.out.lt))
          refine wpAnyH_ready (rs := [5]) (by kernel_rfl) (by simp) ?_
          refine AllReadyH.cons (o := ⟨some 27, _, _, _, _, _⟩) rfl (fun K hK => ?_) ?_
          · go_simp
            refine hK.out _ _ (hHeld.alloc hHeld.size _) (fun hHeld => ?_)
            clear hK K
            try simp only [Act.put, List.setIfInBounds_toArray, List.set_cons_zero, List.set_cons_succ]
            have FDX152 : DRow (X151.alloc (.cells (bytesV d).toArray 26)) X151.heap.size d := heap_alloc_new X151 _
            have RX152 : Below X151.heap.size X151 (X151.alloc (.cells (bytesV d).toArray 26)) := (Below.refl _ _).alloc (Nat.le_refl _) _
            generalize (X151.alloc (.cells (bytesV d).toArray 26)) = X152 at hHeld FDX152 RX152 ⊢
            have BX152 := Lib.hid hHeld
            replace FDX152 := Lib.hid FDX152
            replace RX152 := Lib.hid RX152
            have FPX152 := Lib.hid (FPX151.out.keep ((RX152.out).block _ FPX151.out.lt))
            have FQX152 := Lib.hid (FQX151.out.keep ((RX152.out).block _ FQX151.out.lt))
            have ne_D_P : X151.heap.size ≠ X0.heap.size := fun h => by have := FPX151.out.lt; omega
            have ne_P_D := ne_D_P.symm
            have ne_D_Q : X151.heap.size ≠ X119.heap.size := fun h => by have := FQX151.out.lt; omega
            have ne_Q_D := ne_D_Q.symm
            refine wpAnyH_ready (rs := [6]) (by kernel_rfl) (by simp) ?_
            refine AllReadyH.cons (o := ⟨some 28, _, _, _, _, _⟩) rfl (fun K hK => ?_) ?_
            · go_simp
              go_at_call 17
              refine (HTRc.out _ _ BX152.out FDX152.out).mono ?_
              rintro e X153 ⟨rfl, bX153⟩
              have RX153 := Lib.hid (bX153)
              go_wp2_with fail
              refine hK.out _ _ (BX152.out.trans (RX153.out.mono BX152.out.size)) (fun hHeld => ?_)
              clear hK K
              try simp only [Act.put, List.setIfInBounds_toArray, List.set_cons_zero, List.set_cons_succ]
              have BX153 := Lib.hid hHeld
              have FPX153 := Lib.hid (FPX152.out.keep ((RX153.out).block _ FPX152.out.lt))
              have FQX153 := Lib.hid (FQX152.out.keep ((RX153.out).block _ FQX152.out.lt))
              refine wpAnyH_ready (rs := [9]) (by kernel_rfl) (by simp) ?_
              refine AllReadyH.cons (o := ⟨none, _, _, _, _, _⟩) rfl (fun K hK => ?_) ?_
              · refine step_store_D rfl _ _ rfl rfl X0.heap.size L rfl rfl HLl.out FPX153.out ?_
                refine hK.out _ _ (below_setRow BX153.out (BX0.out.size) _) (fun hHeld => ?_)
                clear hK K
                have FPX154 : DRow (X153.setRow X0.heap.size (bytesV L).toArray) X0.heap.size L := FPX153.out.row _
                have FQX154 := Lib.hid (FQX153.out.keep (w' := (X153.setRow X0.heap.size (bytesV L).toArray)) (setRow_other _ _ _ _ ne_Q_P))
                generalize (X153.setRow X0.heap.size (bytesV L).toArray) = X154 at hHeld FPX154 FQX154 ⊢
                have BX154 := Lib.hid hHeld
                replace FPX154 := Lib.hid FPX154
                refine wpAnyH_ready (rs := [10]) (by kernel_rfl) (by simp) ?_
                refine AllReadyH.cons (o := ⟨none, _, _, _, _, _⟩) rfl (fun K hK => ?_) ?_
                · refine step_store_D rfl _ _ rfl rfl X119.heap.size R rfl rfl HRl.out FQX154.out ?_
                  refine hK.out _ _ (below_setRow BX154.out (BX119.out.size) _) (fun hHeld => ?_)
                  clear hK K
                  have FQX155 : DRow (X154.setRow X119.heap.size (bytesV R).toArray) X119.heap.size R := FQX154.out.row _
                  have FPX155 := Lib.hid (FPX154.out.keep (w' := (X154.setRow X119.heap.size (bytesV R).toArray)) (setRow_other _ _ _ _ ne_P_Q))
                  generalize (X154.setRow X119.heap.size (bytesV R).toArray) = X155 at hHeld FQX155 FPX155 ⊢
                  have BX155 := Lib.hid hHeld
                  replace FQX155 := Lib.hid FQX155
                  refine wpAnyH_done (by kernel_rfl) ?_ _
                  exact hfin7 _ _ _ _ _ _ ne_P_Q FPX155 FQX155 BX155
                exact AllReadyH.nil
              exact AllReadyH.nil
            exact AllReadyH.nil
          exact AllReadyH.nil
        refine AllReadyH.cons (o := ⟨some 27, _, _, _, _, _⟩) rfl (fun K hK => ?_) ?_
        · go_simp
          refine hK.out _ _ (hHeld.alloc hHeld.size _) (fun hHeld => ?_)
          clear hK K
          try simp only [Act.put, List.setIfInBounds_toArray, List.set_cons_zero, List.set_cons_succ]
          have FDX156 : DRow (X150.alloc (.cells (bytesV d).toArray 26)) X150.heap.size d := heap_alloc_new X150 _
          have RX156 : Below X150.heap.size X150 (X150.alloc (.cells (bytesV d).toArray 26)) := (Below.refl _ _).alloc (Nat.le_refl _) _
          generalize (X150.alloc (.cells (bytesV d).toArray 26)) = X156 at hHeld FDX156 RX156 ⊢
          have BX156 := Lib.hid hHeld
          replace FDX156 := Lib.hid FDX156
          replace RX156 := Lib.hid RX156
          have FPX156 := Lib.hid (FPX150.out.keep ((RX156.out).block _ FPX150.out.lt))
          have FQX156 := Lib.hid (FQX150.out.keep ((RX156.out).block _ FQX150.out.lt))
          have ne_D_P : X150.heap.size ≠ X0.heap.size := fun h => by have := FPX150.out.lt; omega
          have ne_P_D := ne_D_P.symm
          have ne_D_Q : X150.heap.size ≠ X119.heap.size := fun h => by have := FQX150.out.lt; omega
          have ne_Q_D := ne_D_Q.symm
          refine wpAnyH_ready (rs := [3]) (by kernel_rfl) (by simp) ?_
          refine AllReadyH.cons (o := ⟨some 25, _, _, _, _, _⟩) rfl (fun K hK => ?_) ?_
          · go_simp
            go_at_call 17
            refine (HTLc.out _ BX156.out).mono ?_
            rintro e X157 ⟨rfl, bX157⟩
            have RX157 := Lib.hid (bX157)
            go_wp2_with fail
            refine hK.out _ _ (BX156.out.trans (RX157.out.mono BX156.out.size)) (fun hHeld => ?_)
            clear hK K
            try simp only [Act.put, List.setIfInBounds_toArray, List.set_cons_zero, List.set_cons_succ]
            have BX157 := Lib.hid hHeld
            have FPX157 := Lib.hid (FPX156.out.keep ((RX157.out).block _ FPX156.out.lt))
            have FQX157 := Lib.hid (FQX156.out.keep ((RX157.out).block _ FQX156.out.lt))
            have FDX157 := Lib.hid (FDX156.out.keep ((RX157.out).block _ FDX156.out.lt))
            refine wpAnyH_ready (rs := [6]) (by kernel_rfl) (by simp) ?_
            refine AllReadyH.cons (o := ⟨some 28, _, _, _, _, _⟩) rfl (fun K hK => ?_) ?_
            · go_simp
              go_at_call 17
              refine (HTRc.out _ _ BX157.out FDX157.out).mono ?_
              rintro e X158 ⟨rfl, bX158⟩
              have RX158 := Lib.hid (bX158)
              go_wp2_with fail
              refine hK.out _ _ (BX157.out.trans (RX158.out.mono BX157.out.size)) (fun hHeld => ?_)
              clear hK K
              try simp only [Act.put, List.setIfInBounds_toArray, List.set_cons_zero, List.set_cons_succ]
              have BX158 := Lib.hid hHeld
              have FPX158 := Lib.hid (FPX157.out.keep ((RX158.out).block _ FPX157.out.lt))
              have FQX158 := Lib.hid (FQX157.out.keep ((RX158.out).block _ FQX157.out.lt))
              refine wpAnyH_ready (rs := [9]) (by kernel_rfl) (by simp) ?_
              refine AllReadyH.cons (o := ⟨none, _, _, _, _, _⟩) rfl (fun K hK => ?_) ?_
              · refine step_store_D rfl _ _ rfl rfl X0.heap.size L rfl rfl HLl.out FPX158.out ?_
                refine hK.out _ _ (below_setRow BX158.out (BX0.out.size) _) (fun hHeld => ?_)
                clear hK K
                have FPX159 : DRow (X158.setRow X0.heap.size (bytesV L).toArray) X0.heap.size L := FPX158.out.row _
                have FQX159 := Lib.hid (FQX158.out.keep (w' := (X158.setRow X0.heap.size (bytesV L).toArray)) (setRow_other _ _ _ _ ne_Q_P))
                generalize (X158.setRow X0.heap.size (bytesV L).toArray) = X159 at hHeld FPX159 FQX159 ⊢
                have BX159 := Lib.hid hHeld
                replace FPX159 := Lib.hid FPX159
                refine wpAnyH_ready (rs := [10]) (by kernel_rfl) (by simp) ?_
                refine AllReadyH.cons (o := ⟨none, _, _, _, _, _⟩) rfl (fun K hK => ?_) ?_
                · refine step_store_D rfl _ _ rfl rfl X119.heap.size R rfl rfl HRl.out FQX159.out ?_
                  refine hK.out _ _ (below_setRow BX159.out (BX119.out.size) _) (fun hHeld => ?_)
                  clear hK K
                  have FQX160 : DRow (X159.setRow X119.heap.size (bytesV R).toArray) X119.heap.size R := FQX159.out.row _
                  have FPX160 := Lib.hid (FPX159.out.keep (w' := (X159.setRow X119.heap.size (bytesV R).toArray)) (setRow_other _ _ _ _ ne_P_Q))
                  generalize (X159.setRow X119.heap.size (bytesV R).toArray) = X160 at hHeld FQX160 FPX160 ⊢
                  have BX160 := Lib.hid hHeld
                  replace FQX160 := Lib.hid FQX160
                  refine wpAnyH_done (by kernel_rfl) ?_ _
                  exact hfin7 _ _ _ _ _ _ ne_P_Q FPX160 FQX160 BX160
                exact AllReadyH.nil
              exact AllReadyH.nil
            exact AllReadyH.nil
          exact AllReadyH.nil
        exact AllReadyH.nil
      exact AllReadyH.nil
    refine AllReadyH.cons (o := ⟨some 8, _, _, _, _, _⟩) rfl (fun K hK => ?_) ?_
    · go_simp
      refine hK.out _ _ (hHeld.alloc hHeld.size _) (fun hHeld => ?_)
      clear hK K
      try simp only [Act.put, List.setIfInBounds_toArray, List.set_cons_zero, List.set_cons_succ]
      have FQX161 : IsD (X0.alloc (.cells Z32 26)) X0.heap.size := IsD.new _ _ (heap_alloc_new X0 _)
      have RX161 : Below X0.heap.size X0 (X0.alloc (.cells Z32 26)) := (Below.refl _ _).alloc (Nat.le_refl _) _
      generalize (X0.alloc (.cells Z32 26)) = X161 at hHeld FQX161 RX161 ⊢
      have BX161 := Lib.hid hHeld
      replace FQX161 := Lib.hid FQX161
      replace RX161 := Lib.hid RX161
      refine wpAnyH_ready (rs := [3, 5, 7]) (by kernel_rfl) (by simp) ?_
      refine AllReadyH.cons (o := ⟨some 25, _, _, _, _, _⟩) rfl (fun K hK => ?_) ?_
      · go_simp
        go_at_call 17
        refine (HTLc.out _ BX161.out).mono ?_
        rintro e X162 ⟨rfl, bX162⟩
        have RX162 := Lib.hid (bX162)
        go_wp2_with fail
        refine hK.out _ _ (BX161.out.trans (RX162.out.mono BX161.out.size)) (fun hHeld => ?_)
        clear hK K
        try simp only [Act.put, List.setIfInBounds_toArray, List.set_cons_zero, List.set_cons_succ]
        have BX162 := Lib.hid hHeld
        have FQX162 := Lib.hid (FQX161.out.keep ((RX162.out).block _ FQX161.out.lt))
        refine wpAnyH_ready (rs := [5, 7]) (by kernel_rfl) (by simp) ?_
        refine AllReadyH.cons (o := ⟨some 27, _, _, _, _, _⟩) rfl (fun K hK => ?_) ?_
        · go_simp
          refine hK.out _ _ (hHeld.alloc hHeld.size _) (fun hHeld => ?_)
          clear hK K
          try simp only [Act.put, List.setIfInBounds_toArray, List.set_cons_zero, List.set_cons_succ]
          have FDX163 : DRow (X162.alloc (.cells (bytesV d).toArray 26)) X162.heap.size d := heap_alloc_new X162 _
          have RX163 : Below X162.heap.size X162 (X162.alloc (.cells (bytesV d).toArray 26)) := (Below.refl _ _).alloc (Nat.le_refl _) _
          generalize (X162.alloc (.cells (bytesV d).toArray 26)) = X163 at hHeld FDX163 RX163 ⊢
          have BX163 := Lib.hid hHeld
          replace FDX163 := Lib.hid FDX163
          replace RX163 := Lib.hid RX163
          have FQX163 := Lib.hid (FQX162.out.keep ((RX163.out).block _ FQX162.out.lt))
          have ne_D_Q : X162.heap.size ≠ X0.heap.size := fun h => by have := FQX162.out.lt; omega
          have ne_Q_D := ne_D_Q.symm
          refine wpAnyH_ready (rs := [6, 7]) (by kernel_rfl) (by simp) ?_
          refine AllReadyH.cons (o := ⟨some 28, _, _, _, _, _⟩) rfl (fun K hK => ?_) ?_
          · go_simp
            go_at_call 17
            refine (HTRc.out _ _ BX163.out FDX163.out).mono ?_
            rintro e X164 ⟨rfl, bX164⟩
            have RX164 := Lib.hid (bX164)
            go_wp2_with fail
            refine hK.out _ _ (BX163.out.trans (RX164.out.mono BX163.out.size)) (fun hHeld => ?_)
            clear hK K
            try simp only [Act.put, List.setIfInBounds_toArray, List.set_cons_zero, List.set_cons_succ]
            have BX164 := Lib.hid hHeld
            have FQX164 := Lib.hid (FQX163.out.keep ((RX164.out).block _ FQX163.out.lt))
            refine wpAnyH_ready (rs := [7]) (by kernel_rfl) (by simp) ?_
            refine AllReadyH.cons (o := ⟨some 7, _, _, _, _, _⟩) rfl (fun K hK => ?_) ?_
            · go_simp
              refine hK.out _ _ (hHeld.alloc hHeld.size _) (fun hHeld => ?_)
              clear hK K
              try simp only [Act.put, List.setIfInBounds_toArray, List.set_cons_zero, List.set_cons_succ]
              have FPX165 : IsD (X164.alloc (.cells Z32 26)) X164.heap.size := IsD.new _ _ (heap_alloc_new X164 _)
              have RX165 : Below X164.heap.size X164 (X164.alloc (.cells Z32 26)) := (Below.refl _ _).alloc (Nat.le_refl _) _
              generalize (X164.alloc (.cells Z32 26)) = X165 at hHeld FPX165 RX165 ⊢
              have BX165 := Lib.hid hHeld
              replace FPX165 := Lib.hid FPX165
              replace RX165 := Lib.hid RX165
              have FQX165 := Lib.hid (FQX164.out.keep ((RX165.out).block _ FQX164.out.lt))
              have ne_P_Q : X164.heap.size ≠ X0.heap.size := fun h => by have := FQX164.out.lt; omega
              have ne_Q_P := ne_P_Q.symm
              refine wpAnyH_ready (rs := [9]) (by kernel_rfl) (by simp) ?_
              refine AllReadyH.cons (o := ⟨none, _, _, _, _, _⟩) rfl (fun K hK => ?_) ?_
              · refine step_store_D rfl _ _ rfl rfl X164.heap.size L rfl rfl HLl.out FPX165.out ?_
                refine hK.out _ _ (below_setRow BX165.out (BX164.out.size) _) (fun hHeld => ?_)
                clear hK K
                have FPX166 : DRow (X165.setRow X164.heap.size (bytesV L).toArray) X164.heap.size L := FPX165.out.row _
                have FQX166 := Lib.hid (FQX165.out.keep (w' := (X165.setRow X164.heap.size (bytesV L).toArray)) (setRow_other _ _ _ _ ne_Q_P))
                generalize (X165.setRow X164.heap.size (bytesV L).toArray) = X166 at hHeld FPX166 FQX166 ⊢
                have BX166 := Lib.hid hHeld
                replace FPX166 := Lib.hid FPX166
                refine wpAnyH_ready (rs := [10]) (by kernel_rfl) (by simp) ?_
                refine AllReadyH.cons (o := ⟨none, _, _, _, _, _⟩) rfl (fun K hK => ?_) ?_
                · refine step_store_D rfl _ _ rfl rfl X0.heap.size R rfl rfl HRl.out FQX166.out ?_
                  refine hK.out _ _ (below_setRow BX166.out (BX0.out.size) _) (fun hHeld => ?_)
                  clear hK K
                  have FQX167 : DRow (X166.setRow X0.heap.size (bytesV R).toArray) X0.heap.size R := FQX166.out.row _
                  have FPX167 := Lib.hid (FPX166.out.keep (w' := (X166.setRow X0.heap.size (bytesV R).toArray)) (setRow_other _ _ _ _ ne_P_Q))
                  generalize (X166.setRow X0.heap.size (bytesV R).toArray) = X167 at hHeld FQX167 FPX167 ⊢
                  have BX167 := Lib.hid hHeld
                  replace FQX167 := Lib.hid FQX167
                  refine wpAnyH_done (by kernel_rfl) ?_ _
                  exact hfin7 _ _ _ _ _ _ ne_P_Q FPX167 FQX167 BX167
                exact AllReadyH.nil
              exact AllReadyH.nil
            exact AllReadyH.nil
          refine AllReadyH.cons (o := ⟨some 7, _, _, _, _, _⟩) rfl (fun K hK => ?_) ?_
          · go_simp
            refine hK.out _ _ (hHeld.alloc hHeld.size _) (fun hHeld => ?_)
            clear hK K
            try simp only [Act.put, List.setIfInBounds_toArray, List.set_cons_zero, List.set_cons_succ]
            have FPX168 : IsD (X163.alloc (.cells Z32 26)) X163.heap.size := IsD.new _ _ (heap_alloc_new X163 _)
            have RX168 : Below X163.heap.size X163 (X163.alloc (.cells Z32 26)) := (Below.refl _ _).alloc (Nat.le_refl _) _
            generalize (X163.alloc (.cells Z32 26)) = X168 at hHeld FPX168 RX168 ⊢
            have BX168 := Lib.hid hHeld
            replace FPX168 := Lib.hid FPX168
            replace RX168 := Lib.hid RX168
            have FQX168 := Lib.hid (FQX163.out.keep ((RX168.out).block _ FQX163.out.lt))
            have FDX168 := Lib.hid (FDX163.out.keep ((RX168.out).block _ FDX163.out.lt))
            have ne_P_Q : X163.heap.size ≠ X0.heap.size := fun h => by have := FQX163.out.lt; omega
            have ne_Q_P := ne_P_Q.symm
            have ne_P_D : X163.heap.size ≠ X162.heap.size := fun h => by have := FDX163.out.lt; omega
            have ne_D_P := ne_P_D.symm
            refine wpAnyH_ready (rs := [6]) (by kernel_rfl) (by simp) ?_
            refine AllReadyH.cons (o := ⟨some 28, _, _, _, _, _⟩) rfl (fun K hK => ?_) ?_
            · go_simp
              go_at_call 17
              refine (HTRc.out _ _ BX168.out FDX168.out).mono ?_
              rintro e X169 ⟨rfl, bX169⟩
              have RX169 := Lib.hid (bX169)
              go_wp2_with fail
              refine hK.out _ _ (BX168.out.trans (RX169.out.mono BX168.out.size)) (fun hHeld => ?_)
              clear hK K
              try simp only [Act.put, List.setIfInBounds_toArray, List.set_cons_zero, List.set_cons_succ]
              have BX169 := Lib.hid hHeld
              have FQX169 := Lib.hid (FQX168.out.keep ((RX169.out).block _ FQX168.out.lt))
              have FPX169 := Lib.hid (FPX168.out.keep ((RX169.out).block _ FPX168.out.lt))
              refine wpAnyH_ready (rs := [9]) (by kernel_rfl) (by simp) ?_
              refine AllReadyH.cons (o := ⟨none, _, _, _, _, _⟩) rfl (fun K hK => ?_) ?_
              · refine step_store_D rfl _ _ rfl rfl X163.heap.size L rfl rfl HLl.out FPX169.out ?_
                refine hK.out _ _ (below_setRow BX169.out (BX163.out.size) _) (fun hHeld => ?_)
                clear hK K
                have FPX170 : DRow (X169.setRow X163.heap.size (bytesV L).toArray) X163.heap.size L := FPX169.out.row _
                have FQX170 := Lib.hid (FQX169.out.keep (w' := (X169.setRow X163.heap.size (bytesV L).toArray)) (setRow_other _ _ _ _ ne_Q_P))
                generalize (X169.setRow X163.heap.size (bytesV L).toArray) = X170 at hHeld FPX170 FQX170 ⊢
                have BX170 := Lib.hid hHeld
                replace FPX170 := Lib.hid FPX170
                refine wpAnyH_ready (rs := [10]) (by kernel_rfl) (by simp) ?_
                refine AllReadyH.cons (o := ⟨none, _, _, _, _, _⟩) rfl (fun K hK => ?_) ?_
                · refine step_store_D rfl _ _ rfl rfl X0.heap.size R rfl rfl HRl.out FQX170.out ?_
                  refine hK.out _ _ (below_setRow BX170.out (BX0.out.size) _) (fun hHeld => ?_)
                  clear hK K
                  have FQX171 : DRow (X170.setRow X0.heap.size (bytesV R).toArray) X0.heap.size R := FQX170.out.row _
                  have FPX171 := Lib.hid (FPX170.out.keep (w' := (X170.setRow X0.heap.size (bytesV R).toArray)) (setRow_other _ _ _ _ ne_P_Q))
                  generalize (X170.setRow X0.heap.size (bytesV R).toArray) = X171 at hHeld FQX171 FPX171 ⊢
                  have BX171 := Lib.hid hHeld
                  replace FQX171 := Lib.hid FQX171
                  refine wpAnyH_done (by kernel_rfl) ?_ _
                  exact hfin7 _ _ _ _ _ _ ne_P_Q FPX171 FQX171 BX171
                exact AllReadyH.nil
              exact AllReadyH.nil
            exact AllReadyH.nil
          exact AllReadyH.nil
        refine AllReadyH.cons (o := ⟨some 7, _, _, _, _, _⟩) rfl (fun K hK => ?_) ?_
        · go_simp
          refine hK.out _ _ (hHeld.alloc hHeld.size _) (fun hHeld => ?_)
          clear hK K
          try simp only [Act.put, List.setIfInBounds_toArray, List.set_cons_zero, List.set_cons_succ]
          have FPX172 : IsD (X162.alloc (.cells Z32 26)) X162.heap.size := IsD.new _ _ (heap_alloc_new X162 _)
          have RX172 : Below X162.heap.size X162 (X162.alloc (.cells Z32 26)) := (Below.refl _ _).alloc (Nat.le_refl _) _
          generalize (X162.alloc (.cells Z32 26)) = X172 at hHeld FPX172 RX172 ⊢
          have BX172 := Lib.hid hHeld
          replace FPX172 := Lib.hid FPX172
          replace RX172 := Lib.hid RX172
          have FQX172 := Lib.hid (FQX162.out.keep ((RX172.out).block _ FQX162.out.lt))
          have ne_P_Q : X162.heap.size ≠ X0.heap.size := fun h => by have := FQX162.out.lt; omega
          have ne_Q_P := ne_P_Q.symm
          refine wpAnyH_ready (rs := [5]) (by kernel_rfl) (by simp) ?_
          refine AllReadyH.cons (o := ⟨some 27, _, _, _, _, _⟩) rfl (fun K hK => ?_) ?_
          · go_simp
            refine hK.out _ _ (hHeld.alloc hHeld.size _) (fun hHeld => ?_)
            clear hK K
            try simp only [Act.put, List.setIfInBounds_toArray, List.set_cons_zero, List.set_cons_succ]
            have FDX173 : DRow (X172.alloc (.cells (bytesV d).toArray 26)) X172.heap.size d := heap_alloc_new X172 _
            have RX173 : Below X172.heap.size X172 (X172.alloc (.cells (bytesV d).toArray 26)) := (Below.refl _ _).alloc (Nat.le_refl _) _
            generalize (X172.alloc (.cells (bytesV d).toArray 26)) = X173 at hHeld FDX173 RX173 ⊢
            have BX173 := Lib.hid hHeld
            replace FDX173 := Lib.hid FDX173
            replace RX173 := Lib.hid RX173
            have FQX173 := Lib.hid (FQX172.out.keep ((RX173.out).block _ FQX172.out.lt))
            have FPX173 := Lib.hid (FPX172.out.keep ((RX173.out).block _ FPX172.out.lt))
            have ne_D_Q : X172.heap.size ≠ X0.heap.size := fun h => by have := FQX172.out.lt; omega
            have ne_Q_D := ne_D_Q.symm
            have ne_D_P : X172.heap.size ≠ X162.heap.size := fun h => by have := FPX172.out.lt; omega
            have ne_P_D := ne_D_P.symm
            refine wpAnyH_ready (rs := [6]) (by kernel_rfl) (by simp) ?_
            refine AllReadyH.cons (o := ⟨some 28, _, _, _, _, _⟩) rfl (fun K hK => ?_) ?_
            · go_simp
              go_at_call 17
              refine (HTRc.out _ _ BX173.out FDX173.out).mono ?_
              rintro e X174 ⟨rfl, bX174⟩
              have RX174 := Lib.hid (bX174)
              go_wp2_with fail
              refine hK.out _ _ (BX173.out.trans (RX174.out.mono BX173.out.size)) (fun hHeld => ?_)
              clear hK K
              try simp only [Act.put, List.setIfInBounds_toArray, List.set_cons_zero, List.set_cons_succ]
              have BX174 := Lib.hid hHeld
              have FQX174 := Lib.hid (FQX173.out.keep ((RX174.out).block _ FQX173.out.lt))
              have FPX174 := Lib.hid (FPX173.out.keep ((RX174.out).block _ FPX173.out.lt))
              refine wpAnyH_ready (rs := [9]) (by kernel_rfl) (by simp) ?_
              refine AllReadyH.cons (o := ⟨none, _, _, _, _, _⟩) rfl (fun K hK => ?_) ?_
              · refine step_store_D rfl _ _ rfl rfl X162.heap.size L rfl rfl HLl.out FPX174.out ?_
                refine hK.out _ _ (below_setRow BX174.out (BX162.out.size) _) (fun hHeld => ?_)
                clear hK K
                have FPX175 : DRow (X174.setRow X162.heap.size (bytesV L).toArray) X162.heap.size L := FPX174.out.row _
                have FQX175 := Lib.hid (FQX174.out.keep (w' := (X174.setRow X162.heap.size (bytesV L).toArray)) (setRow_other _ _ _ _ ne_Q_P))
                generalize (X174.setRow X162.heap.size (bytesV L).toArray) = X175 at hHeld FPX175 FQX175 ⊢
                have BX175 := Lib.hid hHeld
                replace FPX175 := Lib.hid FPX175
                refine wpAnyH_ready (rs := [10]) (by kernel_rfl) (by simp) ?_
                refine AllReadyH.cons (o := ⟨none, _, _, _, _, _⟩) rfl (fun K hK => ?_) ?_
                · refine step_store_D rfl _ _ rfl rfl X0.heap.size R rfl rfl HRl.out FQX175.out ?_
                  refine hK.out _ _ (below_setRow BX175.out (BX0.out.size) _) (fun hHeld => ?_)
                  clear hK K
                  have FQX176 : DRow (X175.setRow X0.heap.size (bytesV R).toArray) X0.heap.size R := FQX175.out.row _
                  have FPX176 := Lib.hid (FPX175.out.keep (w' := (X175.setRow X0.heap.size (bytesV R).toArray)) (setRow_other _ _ _ _ ne_P_Q))
                  generalize (X175.setRow X0.heap.size (bytesV R).toArray) = X176 at hHeld FQX176 FPX176 ⊢
                  have BX176 := Lib.hid hHeld
                  replace FQX176 := Lib.hid FQX176
                  refine wpAnyH_done (by kernel_rfl) ?_ _
                  exact hfin7 _ _ _ _ _ _ ne_P_Q FPX176 FQX176 BX176
                exact AllReadyH.nil
              exact AllReadyH.nil
            exact AllReadyH.nil
          exact AllReadyH.nil
        exact AllReadyH.nil
      refine AllReadyH.cons (o := ⟨some 27, _, _, _, _, _⟩) rfl (fun K hK => ?_) ?_
      · go_simp
        refine hK.out _ _ (hHeld.alloc hHeld.size _) (fun hHeld => ?_)
        clear hK K
        try simp only [Act.put, List.setIfInBounds_toArray, List.set_cons_zero, List.set_cons_succ]
        have FDX177 : DRow (X161.alloc (.cells (bytesV d).toArray 26)) X161.heap.size d := heap_alloc_new X161 _
        have RX177 : Below X161.heap.size X161 (X161.alloc (.cells (bytesV d).toArray 26)) := (Below.refl _ _).alloc (Nat.le_refl _) _
        generalize (X161.alloc (.cells (bytesV d).toArray 26)) = X177 at hHeld FDX177 RX177 ⊢
        have BX177 := Lib.hid hHeld
        replace FDX177 := Lib.hid FDX177
        replace RX177 := Lib.hid RX177
        have FQX177 := Lib.hid (FQX161.out.keep ((RX177.out).block _ FQX161.out.lt))
        have ne_D_Q : X161.heap.size ≠ X0.heap.size := fun h => by have := FQX161.out.lt; omega
        have ne_Q_D := ne_D_Q.symm
        refine wpAnyH_ready (rs := [3, 7]) (by kernel_rfl) (by simp) ?_
        refine AllReadyH.cons (o := ⟨some 25, _, _, _, _, _⟩) rfl (fun K hK => ?_) ?_
        · go_simp
          go_at_call 17
          refine (HTLc.out _ BX177.out).mono ?_
          rintro e X178 ⟨rfl, bX178⟩
          have RX178 := Lib.hid (bX178)
          go_wp2_with fail
          refine hK.out _ _ (BX177.out.trans (RX178.out.mono BX177.out.size)) (fun hHeld => ?_)
          clear hK K
          try simp only [Act.put, List.setIfInBounds_toArray, List.set_cons_zero, List.set_cons_succ]
          have BX178 := Lib.hid hHeld
          have FQX178 := Lib.hid (FQX177.out.keep ((RX178.out).block _ FQX177.out.lt))
          have FDX178 := Lib.hid (FDX177.out.keep ((RX178.out).block _ FDX177.out.lt))
          refine wpAnyH_ready (rs := [6, 7]) (by kernel_rfl) (by simp) ?_
          refine AllReadyH.cons (o := ⟨some 28, _, _, _, _, _⟩) rfl (fun K hK => ?_) ?_
          · go_simp
            go_at_call 17
            refine (HTRc.out _ _ BX178.out FDX178.out).mono ?_
            rintro e X179 ⟨rfl, bX179⟩
            have RX179 := Lib.hid (bX179)
            go_wp2_with fail
            refine hK.out _ _ (BX178.out.trans (RX179.out.mono BX178.out.size)) (fun hHeld => ?_)
            clear hK K
            try simp only [Act.put, List.setIfInBounds_toArray, List.set_cons_zero, List.set_cons_succ]
            have BX179 := Lib.hid hHeld
            have FQX179 := Lib.hid (FQX178.out.keep ((RX179.out).block _ FQX178.out.lt))
            refine wpAnyH_ready (rs := [7]) (by kernel_rfl) (by simp) ?_
            refine AllReadyH.cons (o := ⟨some 7, _, _, _, _, _⟩) rfl (fun K hK => ?_) ?_
            · go_simp
              refine hK.out _ _ (hHeld.alloc hHeld.size _) (fun hHeld => ?_)
              clear hK K
              try simp only [Act.put, List.setIfInBounds_toArray, List.set_cons_zero, List.set_cons_succ]
              have FPX180 : IsD (X179.alloc (.cells Z32 26)) X179.heap.size := IsD.new _ _ (heap_alloc_new X179 _)
              have RX180 : Below X179.heap.size X179 (X179.alloc (.cells Z32 26)) := (Below.refl _ _).alloc (Nat.le_refl _) _
              generalize (X179.alloc (.cells Z32 26)) = X180 at hHeld FPX180 RX180 ⊢
              have BX180 := Lib.hid hHeld
              replace FPX180 := Lib.hid FPX180
              replace RX180 := Lib.hid RX180
              have FQX180 := Lib.hid (FQX179.out.keep ((RX180.out).block _ FQX179.out.lt))
              have ne_P_Q : X179.heap.size ≠ X0.heap.size := fun h => by have := FQX179.out.lt; omega
              have ne_Q_P := ne_P_Q.symm
              refine wpAnyH_ready (rs := [9]) (by kernel_rfl) (by simp) ?_
              refine AllReadyH.cons (o := ⟨none, _, _, _, _, _⟩) rfl (fun K hK => ?_) ?_
              · refine step_store_D rfl _ _ rfl rfl X179.heap.size L rfl rfl HLl.out FPX180.out ?_
                refine hK.out _ _ (below_setRow BX180.out (BX179.out.size) _) (fun hHeld => ?_)
                clear hK K
                have FPX181 : DRow (X180.setRow X179.heap.size (bytesV L).toArray) X179.heap.size L := FPX180.out.row _
                have FQX181 := Lib.hid (FQX180.out.keep (w' := (X180.setRow X179.heap.size (bytesV L).toArray)) (setRow_other _ _ _ _ ne_Q_P))
                generalize (X180.setRow X179.heap.size (bytesV L).toArray) = X181 at hHeld FPX181 FQX181 ⊢
                have BX181 := Lib.hid hHeld
                replace FPX181 := Lib.hid FPX181
                refine wpAnyH_ready (rs := [10]) (by kernel_rfl) (by simp) ?_
                refine AllReadyH.cons (o := ⟨none, _, _, _, _, _⟩) rfl (fun K hK => ?_) ?_
                · refine step_store_D rfl _ _ rfl rfl X0.heap.size R rfl rfl HRl.out FQX181.out ?_
                  refine hK.out _ _ (below_setRow BX181.out (BX0.out.size) _) (fun hHeld => ?_)
                  clear hK K
                  have FQX182 : DRow (X181.setRow X0.heap.size (bytesV R).toArray) X0.heap.size R := FQX181.out.row _
                  have FPX182 := Lib.hid (FPX181.out.keep (w' := (X181.setRow X0.heap.size (bytesV R).toArray)) (setRow_other _ _ _ _ ne_P_Q))
                  generalize (X181.setRow X0.heap.size (bytesV R).toArray) = X182 at hHeld FQX182 FPX182 ⊢
                  have BX182 := Lib.hid hHeld
                  replace FQX182 := Lib.hid FQX182
                  refine wpAnyH_done (by kernel_rfl) ?_ _
                  exact hfin7 _ _ _ _ _ _ ne_P_Q FPX182 FQX182 BX182
                exact AllReadyH.nil
              exact AllReadyH.nil
            exact AllReadyH.nil
          refine AllReadyH.cons (o := ⟨some 7, _, _, _, _, _⟩) rfl (fun K hK => ?_) ?_
          · go_simp
            refine hK.out _ _ (hHeld.alloc hHeld.size _) (fun hHeld => ?_)
            clear hK K
            try simp only [Act.put, List.setIfInBounds_toArray, List.set_cons_zero, List.set_cons_succ]
            have FPX183 : IsD (X178.alloc (.cells Z32 26)) X178.heap.size := IsD.new _ _ (heap_alloc_new X178 _)
            have RX183 : Below X178.heap.size X178 (X178.alloc (.cells Z32 26)) := (Below.refl _ _).alloc (Nat.le_refl _) _
            generalize (X178.alloc (.cells Z32 26)) = X183 at hHeld FPX183 RX183 ⊢
            have BX183 := Lib.hid hHeld
            replace FPX183 := Lib.hid FPX183
            replace RX183 := Lib.hid RX183
            have FQX183 := Lib.hid (FQX178.out.keep ((RX183.out).block _ FQX178.out.lt))
            have FDX183 := Lib.hid (FDX178.out.keep ((RX183.out).block _ FDX178.out.lt))
            have ne_P_Q : X178.heap.size ≠ X0.heap.size := fun h => by have := FQX178.out.lt; omega
            have ne_Q_P := ne_P_Q.symm
            have ne_P_D : X178.heap.size ≠ X161.heap.size := fun h => by have := FDX178.out.lt; omega
            have ne_D_P := ne_P_D.symm
            refine wpAnyH_ready (rs := [6]) (by kernel_rfl) (by simp) ?_
            refine AllReadyH.cons (o := ⟨some 28, _, _, _, _, _⟩) rfl (fun K hK => ?_) ?_
            · go_simp
              go_at_call 17
              refine (HTRc.out _ _ BX183.out FDX183.out).mono ?_
              rintro e X184 ⟨rfl, bX184⟩
              have RX184 := Lib.hid (bX184)
              go_wp2_with fail
              refine hK.out _ _ (BX183.out.trans (RX184.out.mono BX183.out.size)) (fun hHeld => ?_)
              clear hK K
              try simp only [Act.put, List.setIfInBounds_toArray, List.set_cons_zero, List.set_cons_succ]
              have BX184 := Lib.hid hHeld
              have FQX184 := Lib.hid (FQX183.out.keep ((RX184.out).block _ FQX183.out.lt))
              have FPX184 := Lib.hid (FPX183.out.keep ((RX184.out).block _ FPX183.out.lt))
              refine wpAnyH_ready (rs := [9]) (by kernel_rfl) (by simp) ?_
              refine AllReadyH.cons (o := ⟨none, _, _, _, _, _⟩) rfl (fun K hK => ?_) ?_
              · refine step_store_D rfl _ _ rfl rfl X178.heap.size L rfl rfl HLl.out FPX184.out ?_
                refine hK.out _ _ (below_setRow BX184.out (BX178.out.size) _) (fun hHeld => ?_)
                clear hK K
                have FPX185 : DRow (X184.setRow X178.heap.size (bytesV L).toArray) X178.heap.size L := FPX184.out.row _
                have FQX185 := Lib.hid (FQX184.out.keep (w' := (X184.setRow X178.heap.size (bytesV L).toArray)) (setRow_other _ _ _ _ ne_Q_P))
                generalize (X184.setRow X178.heap.size (bytesV L).toArray) = X185 at hHeld FPX185 FQX185 ⊢
                have BX185 := Lib.hid hHeld
                replace FPX185 := Lib.hid FPX185
                refine wpAnyH_ready (rs := [10]) (by kernel_rfl) (by simp) ?_
                refine AllReadyH.cons (o := ⟨none, _, _, _, _, _⟩) rfl (fun K hK => ?_) ?_
                · refine step_store_D rfl _ _ rfl rfl X0.heap.size R rfl rfl HRl.out FQX185.out ?_
                  refine hK.out _ _ (below_setRow BX185.out (BX0.out.size) _) (fun hHeld => ?_)
                  clear hK K
                  have FQX186 : DRow (X185.setRow X0.heap.size (bytesV R).toArray) X0.heap.size R := FQX185.out.row _
                  have FPX186 := Lib.hid (FPX185.out.keep (w' := (X185.setRow X0.heap.size (bytesV R).toArray)) (setRow_other _ _ _ _ ne_P_Q))
                  generalize (X185.setRow X0.heap.size (bytesV R).toArray) = X186 at hHeld FQX186 FPX186 ⊢
                  have BX186 := Lib.hid hHeld
                  replace FQX186 := Lib.hid FQX186
                  refine wpAnyH_done (by kernel_rfl) ?_ _
                  exact hfin7 _ _ _ _ _ _ ne_P_Q FPX186 FQX186 BX186
                exact AllReadyH.nil
              exact AllReadyH.nil
            exact AllReadyH.nil
          exact AllReadyH.nil
        refine AllReadyH.cons (o := ⟨some 7, _, _, _, _, _⟩) rfl (fun K hK => ?_) ?_
        · go_simp
          refine hK.out _ _ (hHeld.alloc hHeld.size _) (fun hHeld => ?_)
          clear hK K
          try simp only [Act.put, List.setIfInBounds_toArray, List.set_cons_zero, List.set_cons_succ]
          have FPX187 : IsD (X177.alloc (.cells Z32 26)) X177.heap.size := IsD.new _ _ (heap_alloc_new X177 _)
          have RX187 : Below X177.heap.size X177 (X177.alloc (.cells Z32 26)) := (Below.refl _ _).alloc (Nat.le_refl _) _
          generalize (X177.alloc (.cells Z32 26)) = X187 at hHeld FPX187 RX187 ⊢
          have BX187 := Lib.hid hHeld
          replace FPX187 := Lib.hid FPX187
          replace RX187 := Lib.hid RX187
          have FQX187 := Lib.hid (FQX177.out.keep ((RX187.out).block _ FQX177.out.lt))
          have FDX187 := Lib.hid (FDX177.out.keep ((RX187.out).block _ FDX177.out.lt))
          have ne_P_Q : X177.heap.size ≠ X0.heap.size := fun h => by have := FQX177.out.lt; omega
          have ne_Q_P := ne_P_Q.symm
          have ne_P_D : X177.heap.size ≠ X161.heap.size := fun h => by have := FDX177.out.lt; omega
          have ne_D_P := ne_P_D.symm
          refine wpAnyH_ready (rs := [3]) (by kernel_rfl) (by simp) ?_
          refine AllReadyH.cons (o := ⟨some 25, _, _, _, _, _⟩) rfl (fun K hK => ?_) ?_
          · go_simp
            go_at_call 17
            refine (HTLc.out _ BX187.out).mono ?_
            rintro e X188 ⟨rfl, bX188⟩
            have RX188 := Lib.hid (bX188)
            go_wp2_with fail
            refine hK.out _ _ (BX187.out.trans (RX188.out.mono BX187.out.size)) (fun hHeld => ?_)
            clear hK K
            try simp only [Act.put, List.setIfInBounds_toArray, List.set_cons_zero, List.set_cons_succ]
            have BX188 := Lib.hid hHeld
            have FQX188 := Lib.hid (FQX187.out.keep ((RX188.out).block _ FQX187.out.lt))
            have FDX188 := Lib.hid (FDX187.out.keep ((RX188.out).block _ FDX187.out.lt))
            have FPX188 := Lib.hid (FPX187.out.keep ((RX188.out).block _ FPX187.out.lt))
            refine wpAnyH_ready (rs := [6]) (by kernel_rfl) (by simp) ?_
            refine AllReadyH.cons (o := ⟨some 28, _, _, _, _, _⟩) rfl (fun K hK => ?_) ?_
            · go_simp
              go_at_call 17
              refine (HTRc.out _ _ BX188.out FDX188.out).mono ?_
              rintro e X189 ⟨rfl, bX189⟩
              have RX189 := Lib.hid (bX189)
              go_wp2_with fail
              refine hK.out _ _ (BX188.out.trans (RX189.out.mono BX188.out.size)) (fun hHeld => ?_)
              clear hK K
              try simp only [Act.put, List.setIfInBounds_toArray, List.set_cons_zero, List.set_cons_succ]
              have BX189 := Lib.hid hHeld
              have FQX189 := Lib.hid (FQX188.out.keep ((RX189.out).block _ FQX188.out.lt))
              have FPX189 := Lib.hid (FPX188.out.keep ((RX189.out).block _ FPX188.out.lt))
              refine wpAnyH_ready (rs := [9]) (by kernel_rfl) (by simp) ?_
              refine AllReadyH.cons (o := ⟨none, _, _, _, _, _⟩) rfl (fun K hK => ?_) ?_
              · refine step_store_D rfl _ _ rfl rfl X177.heap.size L rfl rfl HLl.out FPX189.out ?_
                refine hK.out _ _ (below_setRow BX189.out (BX177.out.size) _) (fun hHeld => ?_)
                clear hK K
                have FPX190 : DRow (X189.setRow X177.heap.size (bytesV L).toArray) X177.heap.size L := FPX189.out.row _
                have FQX190 := Lib.hid (FQX189.out.keep (w' := (X189.setRow X177.heap.size (bytesV L).toArray)) (setRow_other _ _ _ _ ne_Q_P))
                generalize (X189.setRow X177.heap.size (bytesV L).toArray) = X190 at hHeld FPX190 FQX190 ⊢
                have BX190 := Lib.hid hHeld
                replace FPX190 := Lib.hid FPX190
                refine wpAnyH_ready (rs := [10]) (by kernel_rfl) (by simp) ?_
                refine AllReadyH.cons (o := ⟨none, _, _, _, _, _⟩) rfl (fun K hK => ?_) ?_
                · refine step_store_D rfl _ _ rfl rfl X0.heap.size R rfl rfl HRl.out FQX190.out ?_
                  refine hK.out _ _ (below_setRow BX190.out (BX0.out.size) _) (fun hHeld => ?_)
                  clear hK K
                  have FQX191 : DRow (X190.setRow X0.heap.size (bytesV R).toArray) X0.heap.size R := FQX190.out.row _
                  have FPX191 := Lib.hid (FPX190.out.keep (w' := (X190.setRow X0.heap.size (bytesV R).toArray)) (setRow_other _ _ _ _ ne_P_Q))
                  generalize (X190.setRow X0.heap.size (bytesV R).toArray) = X191 at hHeld FQX191 FPX191 ⊢
                  have BX191 := Lib.hid hHeld
                  replace FQX191 := Lib.hid FQX191
                  refine wpAnyH_done (by kernel_rfl) ?_ _
                  exact hfin7 _ _ _ _ _ _ ne_P_Q FPX191 FQX191 BX191
                exact AllReadyH.nil
              exact AllReadyH.nil
            exact AllReadyH.nil
          exact AllReadyH.nil
        exact AllReadyH.nil
      refine AllReadyH.cons (o := ⟨some 7, _, _, _, _, _⟩) rfl (fun K hK => ?_) ?_
      · go_simp
        refine hK.out _ _ (hHeld.alloc hHeld.size _) (fun hHeld => ?_)
        clear hK K
        try simp only [Act.put, List.setIfInBounds_toArray, List.set_cons_zero, List.set_cons_succ]
        have FPX192 : IsD (X161.alloc (.cells Z32 26)) X161.heap.size := IsD.new _ _ (heap_alloc_new X161 _)
        have RX192 : Below X161.heap.size X161 (X161.alloc (.cells Z32 26)) := (Below.refl _ _).alloc (Nat.le_refl _) _
        generalize (X161.alloc (.cells Z32 26)) = X192 at hHeld FPX192 RX192 ⊢
        have BX192 := Lib.hid hHeld
        replace FPX192 := Lib.hid FPX192
        replace RX192 := Lib.hid RX192
        have FQX192 := Lib.hid (FQX161.out.keep ((RX192.out).block _ FQX161.out.lt))
        have ne_P_Q : X161.heap.size ≠ X0.heap.size := fun h => by have := FQX161.out.lt; omega
        have ne_Q_P := ne_P_Q.symm
        refine wpAnyH_ready (rs := [3, 5]) (by kernel_rfl) (by simp) ?_
        refine AllReadyH.cons (o := ⟨some 25, _, _, _, _, _⟩) rfl (fun K hK => ?_) ?_
        · go_simp
          go_at_call 17
          refine (HTLc.out _ BX192.out).mono ?_
          rintro e X193 ⟨rfl, bX193⟩
          have RX193 := Lib.hid (bX193)
          go_wp2_with fail
          refine hK.out _ _ (BX192.out.trans (RX193.out.mono BX192.out.size)) (fun hHeld => ?_)
          clear hK K
          try simp only [Act.put, List.setIfInBounds_toArray, List.set_cons_zero, List.set_cons_succ]
          have BX193 := Lib.hid hHeld
          have FQX193 := Lib.hid (FQX192.out.keep ((RX193.out).block _ FQX192.out.lt))
          have FPX193 := Lib.hid (FPX192.out.keep ((RX193.out).block _ FPX192.out.lt))
          refine wpAnyH_ready (rs := [5]) (by kernel_rfl) (by simp) ?_
          refine AllReadyH.cons (o := ⟨some 27, _, _, _, _, _⟩) rfl (fun K hK => ?_) ?_
          · go_simp
            refine hK.out _ _ (hHeld.alloc hHeld.size _) (fun hHeld => ?_)
            clear hK K
            try simp only [Act.put, List.setIfInBounds_toArray, List.set_cons_zero, List.set_cons_succ]
            have FDX194 : DRow (X193.alloc (.cells (bytesV d).toArray 26)) X193.heap.size d := heap_alloc_new X193 _
            have RX194 : Below X193.heap.size X193 (X193.alloc (.cells (bytesV d).toArray 26)) := (Below.refl _ _).alloc (Nat.le_refl _) _
            generalize (X193.alloc (.cells (bytesV d).toArray 26)) = X194 at hHeld FDX194 RX194 ⊢
            have BX194 := Lib.hid hHeld
            replace FDX194 := Lib.hid FDX194
            replace RX194 := Lib.hid RX194
            have FQX194 := Lib.hid (FQX193.out.keep ((RX194.out).block _ FQX193.out.lt))
            have FPX194 := Lib.hid (FPX193.out.keep ((RX194.out).block _ FPX193.out.lt))
            have ne_D_Q : X193.heap.size ≠ X0.heap.size := fun h => by have := FQX193.out.lt; omega
            have ne_Q_D := ne_D_Q.symm
            have ne_D_P : X193.heap.size ≠ X161.heap.size := fun h => by have := FPX193.out.lt; omega
            have ne_P_D := ne_D_P.symm
            refine wpAnyH_ready (rs := [6]) (by kernel_rfl) (by simp) ?_
            refine AllReadyH.cons (o := ⟨some 28, _, _, _, _, _⟩) rfl (fun K hK => ?_) ?_
            · go_simp
              go_at_call 17
              refine (HTRc.out _ _ BX194.out FDX194.out).mono ?_
              rintro e X195 ⟨rfl, bX195⟩
              have RX195 := Lib.hid (bX195)
              go_wp2_with fail
              refine hK.out _ _ (BX194.out.trans (RX195.out.mono BX194.out.size)) (fun hHeld => ?_)
              clear hK K
              try simp only [Act.put, List.setIfInBounds_toArray, List.set_cons_zero, List.set_cons_succ]
              have BX195 := Lib.hid hHeld
              have FQX195 := Lib.hid (FQX194.out.keep ((RX195.out).block _ FQX194.out.lt))
              have FPX195 := Lib.hid (FPX194.out.keep ((RX195.out).block _ FPX194.out.lt))
              refine wpAnyH_ready (rs := [9]) (by kernel_rfl) (by simp) ?_
              refine AllReadyH.cons (o := ⟨none, _, _, _, _, _⟩) rfl (fun K hK => ?_) ?_
              · refine step_store_D rfl _ _ rfl rfl X161.heap.size L rfl rfl HLl.out FPX195.out ?_
                refine hK.out _ _ (below_setRow BX195.out (BX161.out.size) _) (fun hHeld => ?_)
                clear hK K
                have FPX196 : DRow (X195.setRow X161.heap.size (bytesV L).toArray) X161.heap.size L := FPX195.out.row _
                have FQX196 := Lib.hid (FQX195.out.keep (w' := (X195.setRow X161.heap.size (bytesV L).toArray)) (setRow_other _ _ _ _ ne_Q_P))
                generalize (X195.setRow X161.heap.size (bytesV L).toArray) = X196 at hHeld FPX196 FQX196 ⊢
                have BX196 := Lib.hid hHeld
                replace FPX196 := Lib.hid FPX196
                refine wpAnyH_ready (rs := [10]) (by kernel_rfl) (by simp) ?_
                refine AllReadyH.cons (o := ⟨none, _, _, _, _, _⟩) rfl (fun K hK => ?_) ?_
                · refine step_store_D rfl _ _ rfl rfl X0.heap.size R rfl rfl HRl.out FQX196.out ?_
                  refine hK.out _ _ (below_setRow BX196.out (BX0.out.size) _) (fun hHeld => ?_)
                  clear hK K
                  have FQX197 : DRow (X196.setRow X0.heap.size (bytesV R).toArray) X0.heap.size R := FQX196.out.row _
                  have FPX197 := Lib.hid (FPX196.out.keep (w' := (X196.setRow X0.heap.size (bytesV R).toArray)) (setRow_other _ _ _ _ ne_P_Q))
                  generalize (X196.setRow X0.heap.size (bytesV R).toArray) = X197 at hHeld FQX197 FPX197 ⊢
                  have BX197 := Lib.hid hHeld
                  replace FQX197 := Lib.hid FQX197
                  refine wpAnyH_done (by kernel_rfl) ?_ _
                  exact hfin7 _ _ _ _ _ _ ne_P_Q FPX197 FQX197 BX197
                exact AllReadyH.nil
              exact AllReadyH.nil
            exact AllReadyH.nil
          exact AllReadyH.nil
        refine AllReadyH.cons (o := ⟨some 27, _, _, _, _, _⟩) rfl (fun K hK => ?_) ?_
        · go_simp
          refine hK.out _ _ (hHeld.alloc hHeld.size _) (fun hHeld => ?_)
          clear hK K
          try simp only [Act.put, List.setIfInBounds_toArray, List.set_cons_zero, List.set_cons_succ]
          have FDX198 : DRow (X192.alloc (.cells (bytesV d).toArray 26)) X192.heap.size d := heap_alloc_new X192 _
          have RX198 : Below X192.heap.size X192 (X192.alloc (.cells (bytesV d).toArray 26)) := (Below.refl _ _).alloc (Nat.le_refl _) _
          generalize (X192.alloc (.cells (bytesV d).toArray 26)) = X198 at hHeld FDX198 RX198 ⊢
          have BX198 := Lib.hid hHeld
          replace FDX198 := Lib.hid FDX198
          replace RX198 := Lib.hid RX198
          have FQX198 := Lib.hid (FQX192.out.keep ((RX198.out).block _ FQX192.out.lt))
          have FPX198 := Lib.hid (FPX192.out.keep ((RX198.out).block _ FPX192.out.lt))
          have ne_D_Q : X192.heap.size ≠ X0.heap.size := fun h => by have := FQX192.out.lt; omega
          have ne_Q_D := ne_D_Q.symm
          have ne_D_P : X192.heap.size ≠ X161.heap.size := fun h => by have := FPX192.out.lt; omega
          have ne_P_D := ne_D_P.symm
          refine wpAnyH_ready (rs := [3]) (by kernel_rfl) (by simp) ?_
          refine AllReadyH.cons (o := ⟨some 25, _, _, _, _, _⟩) rfl (fun K hK => ?_) ?_
          · go_simp
            go_at_call 17
            refine (HTLc.out _ BX198.out).mono ?_
            rintro e X199 ⟨rfl, bX199⟩
            have RX199 := Lib.hid (bX199)
            go_wp2_with fail
            refine hK.out _ _ (BX198.out.trans (RX199.out.mono BX198.out.size)) (fun hHeld => ?_)
            clear hK K
            try simp only [Act.put, List.setIfInBounds_toArray, List.set_cons_zero, List.set_cons_succ]
            have BX199 := Lib.hid hHeld
            have FQX199 := Lib.hid (FQX198.out.keep ((RX199.out).block _ FQX198.out.lt))
            have FPX199 := Lib.hid (FPX198.out.keep ((RX199.out).block _ FPX198.out.lt))
            have FDX199 := Lib.hid (FDX198.out.keep ((RX199.out).block _ FDX198.out.lt))
            refine wpAnyH_ready (rs := [6]) (by kernel_rfl) (by simp) ?_
            refine AllReadyH.cons (o := ⟨some 28, _, _, _, _, _⟩) rfl (fun K hK => ?_) ?_
            · go_simp
              go_at_call 17
              refine (HTRc.out _ _ BX199.out FDX199.out).mono ?_
              rintro e X200 ⟨rfl, bX200⟩
              have RX200 := Lib.hid (bX200)
              go_wp2_with fail
              refine hK.out _ _ (BX199.out.trans (RX200.out.mono BX199.out.size)) (fun hHeld => ?_)
              clear hK K
              try simp only [Act.put, List.setIfInBounds_toArray, List.set_cons_zero, List.set_cons_succ]
              have BX200 := Lib.hid hHeld
              have FQX200 := Lib.hid (FQX199.out.keep ((RX200.out).block _ FQX199.out.lt))
              have FPX200 := Lib.hid (FPX199.out.keep ((RX200.out).block _ FPX199.out.lt))
              refine wpAnyH_ready (rs := [9]) (by kernel_rfl) (by simp) ?_
              refine AllReadyH.cons (o := ⟨none, _, _, _, _, _⟩) rfl (fun K hK => ?_) ?_
              · refine step_store_D rfl _ _ rfl rfl X161.heap.size L rfl rfl HLl.out FPX200.out ?_
                refine hK.out _ _ (below_setRow BX200.out (BX161.out.size) _) (fun hHeld => ?_)
                clear hK K
                have FPX201 : DRow (X200.setRow X161.heap.size (bytesV L).toArray) X161.heap.size L := FPX200.out.row _
                have FQX201 := Lib.hid (FQX200.out.keep (w' := (X200.setRow X161.heap.size (bytesV L).toArray)) (setRow_other _ _ _ _ ne_Q_P))
                generalize (X200.setRow X161.heap.size (bytesV L).toArray) = X201 at hHeld FPX201 FQX201 ⊢
                have BX201 := Lib.hid hHeld
                replace FPX201 := Lib.hid FPX201
                refine wpAnyH_ready (rs := [10]) (by kernel_rfl) (by simp) ?_
                refine AllReadyH.cons (o := ⟨none, _, _, _, _, _⟩) rfl (fun K hK => ?_) ?_
                · refine step_store_D rfl _ _ rfl rfl X0.heap.size R rfl rfl HRl.out FQX201.out ?_
                  refine hK.out _ _ (below_setRow BX201.out (BX0.out.size) _) (fun hHeld => ?_)
                  clear hK K
                  have FQX202 : DRow (X201.setRow X0.heap.size (bytesV R).toArray) X0.heap.size R := FQX201.out.row _
                  have FPX202 := Lib.hid (FPX201.out.keep (w' := (X201.setRow X0.heap.size (bytesV R).toArray)) (setRow_other _ _ _ _ ne_P_Q))
                  generalize (X201.setRow X0.heap.size (bytesV R).toArray) = X202 at hHeld FQX202 FPX202 ⊢
                  have BX202 := Lib.hid hHeld
                  replace FQX202 := Lib.hid FQX202
                  refine wpAnyH_done (by kernel_rfl) ?_ _
                  exact hfin7 _ _ _ _ _ _ ne_P_Q FPX202 FQX202 BX202
                exact AllReadyH.nil
              exact AllReadyH.nil
            exact AllReadyH.nil
          exact AllReadyH.nil
        exact AllReadyH.nil
      exact AllReadyH.nil
    exact AllReadyH.nil
end Go.Proofs.YtfolmglafnfcbaaDoor
