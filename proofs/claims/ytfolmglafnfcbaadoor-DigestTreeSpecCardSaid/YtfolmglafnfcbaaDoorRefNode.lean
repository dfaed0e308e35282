/- Contracts of the reference's node and Chain. -/
import Derived.Test.YtfolmglafnfcbaaDoorRefTag
import Derived.Test.YtfolmglafnfcbaaDoorLawHalves
namespace Go.Proofs.YtfolmglafnfcbaaDoor
open Go.RowKit

set_option maxRecDepth 100000 in
set_option maxHeartbeats 1000000 in
theorem refnode_any (a b : List UInt8) (w : World) (ha : a.length = 32) (hb : b.length = 32) :
    Calls Tryd.prog 39 #[.agg (bytesV a).toArray, .agg (bytesV b).toArray] w fun e w' => e = .returned (dgV (tagged [110, 111, 100, 101] (a ++ b))) ∧ Below w.heap.size w w' := by
  obtain ⟨w3, hw3⟩ : ∃ w3, ((w.alloc (.cells (bytesV a).toArray 26)).alloc (.cells (bytesV b).toArray 26)).alloc (.cells Z32 26) = w3 := ⟨_, rfl⟩
  have hb3 : Below w.heap.size w w3 := by rw [← hw3]; exact (((Below.refl _ _).alloc (Nat.le_refl _) _).alloc (by simp) _).alloc (by simp; omega) _
  have hz3 : w3.heap.size = w.heap.size + 3 := by rw [← hw3]; simp
  have hda : DRow w3 w.heap.size a := by rw [← hw3]; exact (heap_alloc_old _ _ (by simp; omega)).trans ((heap_alloc_old _ _ (by simp)).trans (heap_alloc_new _ _))
  have hdb : DRow w3 (w.heap.size + 1) b := by
    rw [← hw3]
    refine (heap_alloc_old _ _ (by simp)).trans ?_
    have h := heap_alloc_new (w.alloc (.cells (bytesV a).toArray 26)) (.cells (bytesV b).toArray 26)
    simpa using h
  have hdz : w3.heap[w.heap.size + 1 + 1]? = some (.cells Z32 26 (0, 0)) := by
    rw [← hw3]
    have h := heap_alloc_new ((w.alloc (.cells (bytesV a).toArray 26)).alloc (.cells (bytesV b).toArray 26)) (.cells Z32 26)
    simpa using h
  have HB3 := Lib.hid hb3
  have FA := Lib.hid hda
  have FB := Lib.hid hdb
  have FZ := Lib.hid (IsD.new _ _ hdz)
  have HW3 := Lib.hid hw3
  have HLA := Lib.hid ha
  have HLB := Lib.hid hb
  obtain ⟨t, ht⟩ : ∃ t, t = tagged [110, 111, 100, 101] (a ++ b) := ⟨_, rfl⟩
  have htl : t.length = 32 := by rw [ht]; exact tagged_length _ _
  have HT := Lib.hid ht
  have HTL := Lib.hid htl
  have hlow : w.heap.size ≤ w3.heap.size := by omega
  have hlz : w.heap.size ≤ w.heap.size + 1 + 1 := by omega
  have ne_A_Z : w.heap.size ≠ w.heap.size + 1 + 1 := by omega
  have ne_B_Z : w.heap.size + 1 ≠ w.heap.size + 1 + 1 := by omega
  rw [← ht]
  clear hw3 hb3 hda hdb hdz ha hb hz3 ht htl
  obtain ⟨iB, hiB, hzB, h1B, h2B⟩ := info_parts byteInfo
  have HTG : Hid (∀ (u : World) (g' cap' : Nat), Owns u w.heap.size 5 1 g' (32 + 32) cap' (bytesV a ++ bytesV b) → Calls Tryd.prog 15 #[.string ⟨#[110, 111, 100, 101]⟩, .slice (some ⟨g', 0, none⟩) (32 + 32) cap'] u fun e u' => e = .returned (.agg (bytesV t).toArray) ∧ Below u.heap.size u u') := fun u g' cap' ho => by
    rw [HT.out]
    rw [← bytesV_append] at ho
    have ho' : OwnB u w.heap.size g' (32 + 32) cap' (a ++ b) := ho
    exact reftag_any ⟨#[110, 111, 100, 101]⟩ _ _ _ (a ++ b) u (by show (4 : Nat) ≤ _; omega) (ho'.rdb ho'.lt) (by omega)
  have HIT := Lib.hid (dg_info t HTL.out)
  go_enter Tryd.func39, Tryd.ntmps39
  go_wp2_with fail
  rw [HW3.out]
  refine wp_region_held_drew (S := fun u => Below w.heap.size w3 u) (by kernel_rfl) (Below.refl _ _).drew (fun hHeld => ?_)
  have FA := Lib.hid (FA.out.keep (w' := w3.drew) rfl)
  have FB := Lib.hid (FB.out.keep (w' := w3.drew) rfl)
  have FZ := Lib.hid (FZ.out.keep (w' := w3.drew) rfl)
  generalize w3.drew = X0 at hHeld FA FB FZ ⊢
  have BX0 := Lib.hid hHeld
  refine wpAnyH_take (i := 1) (oi := ⟨some 6, _, _, _, _, _⟩) (v := ?_) rfl (by kernel_rfl) (by kernel_rfl) (by kernel_rfl) (fun _ _ _ h => h) (Or.inl ⟨by rfl, ?_⟩) (by assumption) ?_
  rotate_left
  · (intro w hSw; go_simp) <;> with_reducible rfl
  try simp only [Act.put, List.setIfInBounds_toArray, List.set_cons_zero, List.set_cons_succ]
  refine wpAnyH_take (i := 3) (oi := ⟨some 8, _, _, _, _, _⟩) (v := ?_) rfl (by kernel_rfl) (by kernel_rfl) (by kernel_rfl) (fun _ _ _ h => h) (Or.inl ⟨by rfl, ?_⟩) (by assumption) ?_
  rotate_left
  · (intro w hSw; go_simp) <;> with_reducible rfl
  try simp only [Act.put, List.setIfInBounds_toArray, List.set_cons_zero, List.set_cons_succ]
  refine wpAnyH_ready (rs := [0]) (by kernel_rfl) (by simp) ?_
  refine AllReadyH.cons (o := ⟨some 5, _, _, _, _, _⟩) rfl (fun K hK => ?_) ?_
  · go_simp
    refine hK.out _ _ (hHeld.alloc (Nat.le_trans hlow BX0.out.size) _) (fun hHeld => ?_)
    clear hK K
    try simp only [Act.put, List.setIfInBounds_toArray, List.set_cons_zero, List.set_cons_succ]
    have FEX1 : Owns (X0.alloc (.cells #[] 5)) w.heap.size 5 1 X0.heap.size 0 0 [] := owns0 _ _ (Nat.le_trans hlow BX0.out.size)
    have RX1 : Below X0.heap.size X0 (X0.alloc (.cells #[] 5)) := (Below.refl _ _).alloc (Nat.le_refl _) _
    generalize (X0.alloc (.cells #[] 5)) = X1 at hHeld FEX1 RX1 ⊢
    have BX1 := Lib.hid hHeld
    replace FEX1 := Lib.hid FEX1
    replace RX1 := Lib.hid RX1
    have FAX1 := Lib.hid (FA.out.keep ((RX1.out).block _ FA.out.lt))
    have FBX1 := Lib.hid (FB.out.keep ((RX1.out).block _ FB.out.lt))
    have FZX1 := Lib.hid (FZ.out.keep ((RX1.out).block _ FZ.out.lt))
    have ne_E_A : X0.heap.size ≠ w.heap.size := fun h => by have := FA.out.lt; omega
    have ne_A_E := ne_E_A.symm
    have ne_E_B : X0.heap.size ≠ (w.heap.size + 1) := fun h => by have := FB.out.lt; omega
    have ne_B_E := ne_E_B.symm
    have ne_E_Z : X0.heap.size ≠ (w.heap.size + 1 + 1) := fun h => by have := FZ.out.lt; omega
    have ne_Z_E := ne_E_Z.symm
    refine wpAnyH_ready (rs := [2]) (by kernel_rfl) (by simp) ?_
    refine AllReadyH.cons (o := ⟨some 7, _, _, _, _, _⟩) rfl (fun K hK => ?_) ?_
    · refine step_append_owns _ rfl (.tmp 5) (.tmp 6) 22 22 rfl w.heap.size 5 iB _ 1 1 Tryd.underlying22 hiB hzB h1B h2B rfl X0.heap.size 0 0 [] rfl FEX1.out _ rfl 32 (bytesV a) ((FAX1.out.rdb FAX1.out.lt HLA.out.symm).srcA) (by unfold maxLen; omega) (by omega) (Nat.le_trans hlow BX1.out.size) ?_
      intro g2_X2 c2_X2 X2 FMX2 TX2 GX2
      simp only [Nat.zero_add, List.nil_append] at FMX2 ⊢
      refine hK.out _ _ (BX1.out.trans (TX2.out.below (B := w.heap.size) FEX1.out.2.1 FEX1.out.lt)) (fun hHeld => ?_)
      clear hK K
      try simp only [Act.put, List.setIfInBounds_toArray, List.set_cons_zero, List.set_cons_succ]
      have BX2 := Lib.hid hHeld
      have FBX2 := Lib.hid (FBX1.out.keep ((TX2.out).block _ FBX1.out.lt (by simp only [ne_eq, Option.some.injEq]; have h := ne_B_E; omega)))
      have FZX2 := Lib.hid (FZX1.out.keep ((TX2.out).block _ FZX1.out.lt (by simp only [ne_eq, Option.some.injEq]; have h := ne_Z_E; omega)))
      have ne_M_B : g2_X2 ≠ (w.heap.size + 1) := fun h => by
        have h1 := GX2.out
        have h2 := FBX1.out.lt
        have h3 := ne_E_B
        omega
      have ne_B_M := ne_M_B.symm
      have ne_M_Z : g2_X2 ≠ (w.heap.size + 1 + 1) := fun h => by
        have h1 := GX2.out
        have h2 := FZX1.out.lt
        have h3 := ne_E_Z
        omega
      have ne_Z_M := ne_M_Z.symm
      refine wpAnyH_ready (rs := [4]) (by kernel_rfl) (by simp) ?_
      refine AllReadyH.cons (o := ⟨some 9, _, _, _, _, _⟩) rfl (fun K hK => ?_) ?_
      · refine step_append_owns _ rfl (.tmp 7) (.tmp 8) 22 22 rfl w.heap.size 5 iB _ 1 1 Tryd.underlying22 hiB hzB h1B h2B rfl g2_X2 32 c2_X2 (bytesV a) rfl FMX2.out _ rfl 32 (bytesV b) ((FBX2.out.rdb FBX2.out.lt HLB.out.symm).srcA) (by unfold maxLen; omega) (by omega) (Nat.le_trans hlow BX2.out.size) ?_
        intro g4_X3 c4_X3 X3 FRX3 TX3 GX3
        refine hK.out _ _ (BX2.out.trans (TX3.out.below (B := w.heap.size) FMX2.out.2.1 FMX2.out.lt)) (fun hHeld => ?_)
        clear hK K
        try simp only [Act.put, List.setIfInBounds_toArray, List.set_cons_zero, List.set_cons_succ]
        have BX3 := Lib.hid hHeld
        have FZX3 := Lib.hid (FZX2.out.keep ((TX3.out).block _ FZX2.out.lt (by simp only [ne_eq, Option.some.injEq]; have h := ne_Z_M; omega)))
        have ne_R_Z : g4_X3 ≠ (w.heap.size + 1 + 1) := fun h => by
          have h1 := GX3.out
          have h2 := FZX2.out.lt
          have h3 := ne_M_Z
          omega
        have ne_Z_R := ne_R_Z.symm
        refine wpAnyH_ready (rs := [5]) (by kernel_rfl) (by simp) ?_
        refine AllReadyH.cons (o := ⟨some 10, _, _, _, _, _⟩) rfl (fun K hK => ?_) ?_
        · go_simp
          go_at_call 15
          refine (HTG.out _ _ _ FRX3.out).mono ?_
          rintro e X4 ⟨rfl, bX4⟩
          have RX4 := Lib.hid (bX4)
          go_wp2_with fail
          refine hK.out _ _ (BX3.out.trans (RX4.out.mono (Nat.le_trans hlow BX3.out.size))) (fun hHeld => ?_)
          clear hK K
          try simp only [Act.put, List.setIfInBounds_toArray, List.set_cons_zero, List.set_cons_succ]
          have BX4 := Lib.hid hHeld
          have FZX4 := Lib.hid (FZX3.out.keep ((RX4.out).block _ FZX3.out.lt))
          refine wpAnyH_ready (rs := [6]) (by kernel_rfl) (by simp) ?_
          refine AllReadyH.cons (o := ⟨none, _, _, _, _, _⟩) rfl (fun K hK => ?_) ?_
          · refine step_store_D rfl _ _ rfl rfl (w.heap.size + 1 + 1) t rfl rfl HTL.out FZX4.out ?_
            refine hK.out _ _ (below_setRow BX4.out (hlz) _) (fun hHeld => ?_)
            clear hK K
            have FZX5 : DRow (X4.setRow (w.heap.size + 1 + 1) (bytesV t).toArray) (w.heap.size + 1 + 1) t := FZX4.out.row _
            generalize (X4.setRow (w.heap.size + 1 + 1) (bytesV t).toArray) = X5 at hHeld FZX5  ⊢
            have BX5 := Lib.hid hHeld
            replace FZX5 := Lib.hid FZX5
            refine wpAnyH_done (by kernel_rfl) ?_ _
            go_wp2_with fail
            exact bodyPost_ret (results_cell_row rfl _ _ _ _ _ _ _ rfl FZX5.out Tryd.underlying26 rfl HIT.out) rfl ⟨rfl, HB3.out.trans BX5.out⟩
          exact AllReadyH.nil
        exact AllReadyH.nil
      exact AllReadyH.nil
    exact AllReadyH.nil
  exact AllReadyH.nil

set_option maxRecDepth 100000 in
set_option maxHeartbeats 1000000 in
theorem refchain_any (a b : List UInt8) (w : World) (ha : a.length = 32) (hb : b.length = 32) :
    Calls Tryd.prog 26 #[.agg (bytesV a).toArray, .agg (bytesV b).toArray] w fun e w' => e = .returned (dgV (tagged [99, 104, 97, 105, 110] (a ++ b))) ∧ Below w.heap.size w w' := by
  obtain ⟨w3, hw3⟩ : ∃ w3, ((w.alloc (.cells (bytesV a).toArray 26)).alloc (.cells (bytesV b).toArray 26)).alloc (.cells Z32 26) = w3 := ⟨_, rfl⟩
  have hb3 : Below w.heap.size w w3 := by rw [← hw3]; exact (((Below.refl _ _).alloc (Nat.le_refl _) _).alloc (by simp) _).alloc (by simp; omega) _
  have hz3 : w3.heap.size = w.heap.size + 3 := by rw [← hw3]; simp
  have hda : DRow w3 w.heap.size a := by rw [← hw3]; exact (heap_alloc_old _ _ (by simp; omega)).trans ((heap_alloc_old _ _ (by simp)).trans (heap_alloc_new _ _))
  have hdb : DRow w3 (w.heap.size + 1) b := by
    rw [← hw3]
    refine (heap_alloc_old _ _ (by simp)).trans ?_
    have h := heap_alloc_new (w.alloc (.cells (bytesV a).toArray 26)) (.cells (bytesV b).toArray 26)
    simpa using h
  have hdz : w3.heap[w.heap.size + 1 + 1]? = some (.cells Z32 26 (0, 0)) := by
    rw [← hw3]
    have h := heap_alloc_new ((w.alloc (.cells (bytesV a).toArray 26)).alloc (.cells (bytesV b).toArray 26)) (.cells Z32 26)
    simpa using h
  have HB3 := Lib.hid hb3
  have FA := Lib.hid hda
  have FB := Lib.hid hdb
  have FZ := Lib.hid (IsD.new _ _ hdz)
  have HW3 := Lib.hid hw3
  have HLA := Lib.hid ha
  have HLB := Lib.hid hb
  obtain ⟨t, ht⟩ : ∃ t, t = tagged [99, 104, 97, 105, 110] (a ++ b) := ⟨_, rfl⟩
  have htl : t.length = 32 := by rw [ht]; exact tagged_length _ _
  have HT := Lib.hid ht
  have HTL := Lib.hid htl
  have hlow : w.heap.size ≤ w3.heap.size := by omega
  have hlz : w.heap.size ≤ w.heap.size + 1 + 1 := by omega
  have ne_A_Z : w.heap.size ≠ w.heap.size + 1 + 1 := by omega
  have ne_B_Z : w.heap.size + 1 ≠ w.heap.size + 1 + 1 := by omega
  rw [← ht]
  clear hw3 hb3 hda hdb hdz ha hb hz3 ht htl
  obtain ⟨iB, hiB, hzB, h1B, h2B⟩ := info_parts byteInfo
  have HTG : Hid (∀ (u : World) (g' cap' : Nat), Owns u w.heap.size 5 1 g' (32 + 32) cap' (bytesV a ++ bytesV b) → Calls Tryd.prog 15 #[.string ⟨#[99, 104, 97, 105, 110]⟩, .slice (some ⟨g', 0, none⟩) (32 + 32) cap'] u fun e u' => e = .returned (.agg (bytesV t).toArray) ∧ Below u.heap.size u u') := fun u g' cap' ho => by
    rw [HT.out]
    rw [← bytesV_append] at ho
    have ho' : OwnB u w.heap.size g' (32 + 32) cap' (a ++ b) := ho
    exact reftag_any ⟨#[99, 104, 97, 105, 110]⟩ _ _ _ (a ++ b) u (by show (5 : Nat) ≤ _; omega) (ho'.rdb ho'.lt) (by omega)
  have HIT := Lib.hid (dg_info t HTL.out)
  go_enter Tryd.func26, Tryd.ntmps26
  go_wp2_with fail
  rw [HW3.out]
  refine wp_region_held_drew (S := fun u => Below w.heap.size w3 u) (by kernel_rfl) (Below.refl _ _).drew (fun hHeld => ?_)
  have FA := Lib.hid (FA.out.keep (w' := w3.drew) rfl)
  have FB := Lib.hid (FB.out.keep (w' := w3.drew) rfl)
  have FZ := Lib.hid (FZ.out.keep (w' := w3.drew) rfl)
  generalize w3.drew = X0 at hHeld FA FB FZ ⊢
  have BX0 := Lib.hid hHeld
  refine wpAnyH_take (i := 1) (oi := ⟨some 6, _, _, _, _, _⟩) (v := ?_) rfl (by kernel_rfl) (by kernel_rfl) (by kernel_rfl) (fun _ _ _ h => h) (Or.inl ⟨by rfl, ?_⟩) (by assumption) ?_
  rotate_left
  · (intro w hSw; go_simp) <;> with_reducible rfl
  try simp only [Act.put, List.setIfInBounds_toArray, List.set_cons_zero, List.set_cons_succ]
  refine wpAnyH_take (i := 3) (oi := ⟨some 8, _, _, _, _, _⟩) (v := ?_) rfl (by kernel_rfl) (by kernel_rfl) (by kernel_rfl) (fun _ _ _ h => h) (Or.inl ⟨by rfl, ?_⟩) (by assumption) ?_
  rotate_left
  · (intro w hSw; go_simp) <;> with_reducible rfl
  try simp only [Act.put, List.setIfInBounds_toArray, List.set_cons_zero, List.set_cons_succ]
  refine wpAnyH_ready (rs := [0]) (by kernel_rfl) (by simp) ?_
  refine AllReadyH.cons (o := ⟨some 5, _, _, _, _, _⟩) rfl (fun K hK => ?_) ?_
  · go_simp
    refine hK.out _ _ (hHeld.alloc (Nat.le_trans hlow BX0.out.size) _) (fun hHeld => ?_)
    clear hK K
    try simp only [Act.put, List.setIfInBounds_toArray, List.set_cons_zero, List.set_cons_succ]
    have FEX1 : Owns (X0.alloc (.cells #[] 5)) w.heap.size 5 1 X0.heap.size 0 0 [] := owns0 _ _ (Nat.le_trans hlow BX0.out.size)
    have RX1 : Below X0.heap.size X0 (X0.alloc (.cells #[] 5)) := (Below.refl _ _).alloc (Nat.le_refl _) _
    generalize (X0.alloc (.cells #[] 5)) = X1 at hHeld FEX1 RX1 ⊢
    have BX1 := Lib.hid hHeld
    replace FEX1 := Lib.hid FEX1
    replace RX1 := Lib.hid RX1
    have FAX1 := Lib.hid (FA.out.keep ((RX1.out).block _ FA.out.lt))
    have FBX1 := Lib.hid (FB.out.keep ((RX1.out).block _ FB.out.lt))
    have FZX1 := Lib.hid (FZ.out.keep ((RX1.out).block _ FZ.out.lt))
    have ne_E_A : X0.heap.size ≠ w.heap.size := fun h => by have := FA.out.lt; omega
    have ne_A_E := ne_E_A.symm
    have ne_E_B : X0.heap.size ≠ (w.heap.size + 1) := fun h => by have := FB.out.lt; omega
    have ne_B_E := ne_E_B.symm
    have ne_E_Z : X0.heap.size ≠ (w.heap.size + 1 + 1) := fun h => by have := FZ.out.lt; omega
    have ne_Z_E := ne_E_Z.symm
    refine wpAnyH_ready (rs := [2]) (by kernel_rfl) (by simp) ?_
    refine AllReadyH.cons (o := ⟨some 7, _, _, _, _, _⟩) rfl (fun K hK => ?_) ?_
    · refine step_append_owns _ rfl (.tmp 5) (.tmp 6) 22 22 rfl w.heap.size 5 iB _ 1 1 Tryd.underlying22 hiB hzB h1B h2B rfl X0.heap.size 0 0 [] rfl FEX1.out _ rfl 32 (bytesV a) ((FAX1.out.rdb FAX1.out.lt HLA.out.symm).srcA) (by unfold maxLen; omega) (by omega) (Nat.le_trans hlow BX1.out.size) ?_
      intro g2_X2 c2_X2 X2 FMX2 TX2 GX2
      simp only [Nat.zero_add, List.nil_append] at FMX2 ⊢
      refine hK.out _ _ (BX1.out.trans (TX2.out.below (B := w.heap.size) FEX1.out.2.1 FEX1.out.lt)) (fun hHeld => ?_)
      clear hK K
      try simp only [Act.put, List.setIfInBounds_toArray, List.set_cons_zero, List.set_cons_succ]
      have BX2 := Lib.hid hHeld
      have FBX2 := Lib.hid (FBX1.out.keep ((TX2.out).block _ FBX1.out.lt (by simp only [ne_eq, Option.some.injEq]; have h := ne_B_E; omega)))
      have FZX2 := Lib.hid (FZX1.out.keep ((TX2.out).block _ FZX1.out.lt (by simp only [ne_eq, Option.some.injEq]; have h := ne_Z_E; omega)))
      have ne_M_B : g2_X2 ≠ (w.heap.size + 1) := fun h => by
        have h1 := GX2.out
        have h2 := FBX1.out.lt
        have h3 := ne_E_B
        omega
      have ne_B_M := ne_M_B.symm
      have ne_M_Z : g2_X2 ≠ (w.heap.size + 1 + 1) := fun h => by
        have h1 := GX2.out
        have h2 := FZX1.out.lt
        have h3 := ne_E_Z
        omega
      have ne_Z_M := ne_M_Z.symm
      refine wpAnyH_ready (rs := [4]) (by kernel_rfl) (by simp) ?_
      refine AllReadyH.cons (o := ⟨some 9, _, _, _, _, _⟩) rfl (fun K hK => ?_) ?_
      · refine step_append_owns _ rfl (.tmp 7) (.tmp 8) 22 22 rfl w.heap.size 5 iB _ 1 1 Tryd.underlying22 hiB hzB h1B h2B rfl g2_X2 32 c2_X2 (bytesV a) rfl FMX2.out _ rfl 32 (bytesV b) ((FBX2.out.rdb FBX2.out.lt HLB.out.symm).srcA) (by unfold maxLen; omega) (by omega) (Nat.le_trans hlow BX2.out.size) ?_
        intro g4_X3 c4_X3 X3 FRX3 TX3 GX3
        refine hK.out _ _ (BX2.out.trans (TX3.out.below (B := w.heap.size) FMX2.out.2.1 FMX2.out.lt)) (fun hHeld => ?_)
        clear hK K
        try simp only [Act.put, List.setIfInBounds_toArray, List.set_cons_zero, List.set_cons_succ]
        have BX3 := Lib.hid hHeld
        have FZX3 := Lib.hid (FZX2.out.keep ((TX3.out).block _ FZX2.out.lt (by simp only [ne_eq, Option.some.injEq]; have h := ne_Z_M; omega)))
        have ne_R_Z : g4_X3 ≠ (w.heap.size + 1 + 1) := fun h => by
          have h1 := GX3.out
          have h2 := FZX2.out.lt
          have h3 := ne_M_Z
          omega
        have ne_Z_R := ne_R_Z.symm
        refine wpAnyH_ready (rs := [5]) (by kernel_rfl) (by simp) ?_
        refine AllReadyH.cons (o := ⟨some 10, _, _, _, _, _⟩) rfl (fun K hK => ?_) ?_
        · go_simp
          go_at_call 15
          refine (HTG.out _ _ _ FRX3.out).mono ?_
          rintro e X4 ⟨rfl, bX4⟩
          have RX4 := Lib.hid (bX4)
          go_wp2_with fail
          refine hK.out _ _ (BX3.out.trans (RX4.out.mono (Nat.le_trans hlow BX3.out.size))) (fun hHeld => ?_)
          clear hK K
          try simp only [Act.put, List.setIfInBounds_toArray, List.set_cons_zero, List.set_cons_succ]
          have BX4 := Lib.hid hHeld
          have FZX4 := Lib.hid (FZX3.out.keep ((RX4.out).block _ FZX3.out.lt))
          refine wpAnyH_ready (rs := [6]) (by kernel_rfl) (by simp) ?_
          refine AllReadyH.cons (o := ⟨none, _, _, _, _, _⟩) rfl (fun K hK => ?_) ?_
          · refine step_store_D rfl _ _ rfl rfl (w.heap.size + 1 + 1) t rfl rfl HTL.out FZX4.out ?_
            refine hK.out _ _ (below_setRow BX4.out (hlz) _) (fun hHeld => ?_)
            clear hK K
            have FZX5 : DRow (X4.setRow (w.heap.size + 1 + 1) (bytesV t).toArray) (w.heap.size + 1 + 1) t := FZX4.out.row _
            generalize (X4.setRow (w.heap.size + 1 + 1) (bytesV t).toArray) = X5 at hHeld FZX5  ⊢
            have BX5 := Lib.hid hHeld
            replace FZX5 := Lib.hid FZX5
            refine wpAnyH_done (by kernel_rfl) ?_ _
            go_wp2_with fail
            exact bodyPost_ret (results_cell_row rfl _ _ _ _ _ _ _ rfl FZX5.out Tryd.underlying26 rfl HIT.out) rfl ⟨rfl, HB3.out.trans BX5.out⟩
          exact AllReadyH.nil
        exact AllReadyH.nil
      exact AllReadyH.nil
    exact AllReadyH.nil
  exact AllReadyH.nil
end Go.Proofs.YtfolmglafnfcbaaDoor
