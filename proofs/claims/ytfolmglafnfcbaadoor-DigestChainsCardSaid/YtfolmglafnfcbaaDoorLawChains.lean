/- The law DigestChains, walked. -/
import Derived.Test.YtfolmglafnfcbaaDoorRefNode
import Derived.Test.YtfolmglafnfcbaaDoorDs
namespace Go.Proofs.YtfolmglafnfcbaaDoor
open Go.RowKit

set_option maxRecDepth 100000 in
set_option maxHeartbeats 4000000 in
theorem law_chains (fd : D) (A : Option Addr) (n c : Nat) (bs : List UInt8) (w : World) (hfl : fd.length = 32) (hr : RdB w w.heap.size A n bs) (hK : KOK w) :
    Calls Tryd.prog 10 #[.agg (bytesV fd).toArray, .slice A n c] w fun e w' => e = .returned (.bool true) ∧ Below w.heap.size w w' := by
  have hK0 := hK.pos
  obtain ⟨w0, hw0⟩ : ∃ w0, w.alloc (.cells (bytesV fd).toArray 26) = w0 := ⟨_, rfl⟩
  have hb0 : Below w.heap.size w w0 := by rw [← hw0]; exact Below.new1 w _
  have hd0 : DRow w0 w.heap.size fd := by rw [← hw0]; exact heap_alloc_new _ _
  have HW0 := Lib.hid hw0
  have HD0 := Lib.hid hd0
  have HFL := Lib.hid hfl
  have B0 := Lib.hid hb0
  have HS := Lib.hid (sane_any w0 (hK.below hb0 hK0))
  have HR := Lib.hid hr
  have HK := Lib.hid hK
  clear hr hK hw0 hb0 hd0 hfl
  go_enter Tryd.func10, Tryd.ntmps10
  go_wp2_with fail
  rw [HW0.out]
  refine HS.out.mono ?_
  rintro e w1 ⟨rfl, hb1⟩
  have B1 := Lib.hid (B0.out.trans (hb1.mono B0.out.size))
  have HD1 := Lib.hid (HD0.out.below hb1 HD0.out.lt)
  have z1 := B1.out.size
  have HFI := Lib.hid (dg_size fd HFL.out)
  clear hb1 HS HD0
  go_wp2_with fail
  refine wp_region_held_drew (S := fun x => Below w1.heap.size w1 x) (by kernel_rfl) (Below.refl _ _).drew (fun hHeld => ?_)
  generalize w1.drew = X0 at hHeld ⊢
  have BX0 := Lib.hid hHeld
  refine wpAnyH_take (i := 0) (oi := ⟨some 12, _, _, _, _, _⟩) rfl (by kernel_rfl) (by kernel_rfl) (by kernel_rfl) (fun _ _ _ h => h) (yieldsIf_load_mid (by rfl) _ _ rfl w.heap.size 0 rfl _ _ (fun w' h => range_below (DRow.range HD1.out) h HD1.out.lt) Tryd.underlying26 rfl HFI.out) (by assumption) ?_
  try simp only [Act.put, List.setIfInBounds_toArray, List.set_cons_zero, List.set_cons_succ]
  refine wpAnyH_take (i := 1) (oi := ⟨some 13, _, _, _, _, _⟩) rfl (by kernel_rfl) (by kernel_rfl) (by kernel_rfl) (fun _ _ _ h => h) (yieldsIf_load_mid (by rfl) _ _ rfl w.heap.size 0 rfl _ _ (fun w' h => range_below (DRow.range HD1.out) h HD1.out.lt) Tryd.underlying26 rfl HFI.out) (by assumption) ?_
  try simp only [Act.put, List.setIfInBounds_toArray, List.set_cons_zero, List.set_cons_succ]
  show wpAnyH _ _ _ ?Qhfin3 _ _ _ ?ahfin3 _
  have hfin3 : ∀ (p q : Nat) (u : World), w1.heap.size ≤ p → w1.heap.size ≤ q → p ≠ q → Hid (DRow u p fd) → Hid (DRow u q fd) → Hid (Below w1.heap.size w1 u) → ?Qhfin3 .normal (Act.put (Act.put ?ahfin3 (some 5) (.pointer (some ⟨p, 0, none⟩))) (some 6) (.pointer (some ⟨q, 0, none⟩))) u := by
    intro p q u hp hq hpq HP3 HQ3 HB3
    simp only [Act.put, List.setIfInBounds_toArray, List.set_cons_zero, List.set_cons_succ]
    clear hHeld
    have HBW3 : Hid (Below w.heap.size w u) := B1.out.trans (HB3.out.mono z1)
    have HR3 := Lib.hid (HR.out.below HBW3.out HBW3.out.size)
    go_wp2_with fail
    refine (ds_any A n c bs u HR3.out).mono ?_
    rintro e w4 ⟨g, N, cap, rfl, hN, hO, hb4⟩
    have hN24 : N ≤ 24 := by omega
    have HP4 := Lib.hid (HP3.out.below hb4 HP3.out.lt)
    have HQ4 := Lib.hid (HQ3.out.below hb4 HQ3.out.lt)
    have HB4 : Hid (Below w.heap.size w w4) := HBW3.out.trans (hb4.mono HBW3.out.size)
    obtain ⟨ds, hds⟩ : ∃ ds, ds = dsTo bs N := ⟨_, rfl⟩
    have hall : ∀ x ∈ ds, x.length = 32 := by rw [hds]; exact dsTo_all bs N
    have hlen : ds.length = N := by rw [hds]; exact dsTo_length bs N
    rw [← hds] at hO
    obtain ⟨U3, hU3⟩ : ∃ U3, U3 = u.heap.size := ⟨_, rfl⟩
    rw [← hU3] at hO
    have HO4 := Lib.hid hO
    have HALL := Lib.hid hall
    have HLEN := Lib.hid hlen
    have hpg : p ≠ g := by rw [hU3] at hO; have h := hO.2.1; have h' := HP3.out.lt; omega
    have hqg : q ≠ g := by rw [hU3] at hO; have h := hO.2.1; have h' := HQ3.out.lt; omega
    have hwp : w.heap.size ≤ p := by omega
    have hwq : w.heap.size ≤ q := by omega
    have hcap : N ≤ cap := hO.2.2.1
    obtain ⟨iB, hiB, hzB, h1B, h2B⟩ := info_parts byteInfo
    have hgd : Tryd.prog.eqGuardType Tryd.prog.depth 26 = false := by kernel_rfl
    have hgl0 : g < w4.heap.size := hO.lt
    clear hN hO hb4 hds hall hlen HR3 HR
    go_wp2_with fail
    go_loopw [17] (fun v wr => ∃ (k : Nat) (ed : D), v = .int .i64 k ∧ k ≤ N ∧ ed.length = 32 ∧ Hid (DRow wr p ed) ∧ Hid (DRow wr q ed) ∧ Hid (Owns wr U3 26 32 g N cap (flatD ds)) ∧ Hid (Below w.heap.size w wr)) (fun v _ => 24 - (intOf v).toNat)
    case atStart => exact ⟨0, fd, rfl, by omega, HFL.out, HP4, HQ4, HO4, HB4⟩
    case round =>
      obtain ⟨k, ed, rfl, hkN, hel, HP, HQ, HO, HB⟩ := hrel
      clear HP4 HQ4 HO4 HB4
      by_cases hend : k = N
      · subst hend
        go_wp2_with fail
        go_ret
        exact ⟨rfl, HB.out⟩
      have hk : k < N := by omega
      have hk' : (k : Int) < (N : Int) := by omega
      have i0 : (0 : Int) ≤ (k : Int) := by omega
      obtain ⟨d, hd⟩ : ∃ d, ds[k]? = some d := ⟨ds[k]'(by have h := HLEN.out; omega), List.getElem?_eq_getElem _⟩
      have hdl : d.length = 32 := HALL.out d (List.mem_of_getElem? hd)
      have hrdr := (OwnsN.rdd (.inr ⟨g, rfl, HO.out⟩) HALL.out).1
      have hrg : wr.rangeAt g (0 + k * 32) (bytesV d) := by
        obtain ⟨b', o', e, _, hc⟩ := hrdr.2.2 (by omega)
        injection e with e
        injection e with e1 e2
        subst e1 e2
        exact hc k d hd
      rw [Nat.zero_add] at hrg
      have HRG := Lib.hid hrg
      have HDI := Lib.hid (dg_size d hdl)
      have HDII := Lib.hid (dg_info d hdl)
      have HEI0 := Lib.hid (dg_size ed hel)
      have HEII := Lib.hid (dg_info ed hel)
      have HDL := Lib.hid hdl
      have HEL := Lib.hid hel
      -- the two new places
      obtain ⟨w5, hw5⟩ : ∃ w5, wr.alloc (.cells (bytesV d).toArray 26) = w5 := ⟨_, rfl⟩
      have hz5 : w5.heap.size = wr.heap.size + 1 := by rw [← hw5]; simp
      have hb5 : Below wr.heap.size wr w5 := by rw [← hw5]; exact Below.new1 wr _
      have hX5 : DRow w5 wr.heap.size d := by rw [← hw5]; exact heap_alloc_new _ _
      obtain ⟨w6, hw6⟩ : ∃ w6, w5.alloc (.cells (bytesV ed).toArray 26) = w6 := ⟨_, rfl⟩
      have hb6 : Below w5.heap.size w5 w6 := by rw [← hw6]; exact Below.new1 w5 _
      have hY6 : DRow w6 w5.heap.size ed := by rw [← hw6]; exact heap_alloc_new _ _
      have hb56 : Below wr.heap.size wr w6 := hb5.trans (hb6.mono hb5.size)
      have HW5 := Lib.hid hw5
      have HW6 := Lib.hid hw6
      have HP5 := Lib.hid (HP.out.below hb5 HP.out.lt)
      have FP := Lib.hid (HP.out.below hb56 HP.out.lt)
      have FQ := Lib.hid (HQ.out.below hb56 HQ.out.lt)
      have FX := Lib.hid (hX5.below hb6 hX5.lt)
      have FY := Lib.hid hY6
      have FO := Lib.hid (HO.out.keep (hb56.block _ HO.out.lt))
      have HB6 : Hid (Below w.heap.size w w6) := HB.out.trans (hb56.mono HB.out.size)
      have hXp : wr.heap.size ≠ p := by have h := HP.out.lt; omega
      have hXq : wr.heap.size ≠ q := by have h := HQ.out.lt; omega
      have hYp : w5.heap.size ≠ p := by have h := HP.out.lt; omega
      have hYq : w5.heap.size ≠ q := by have h := HQ.out.lt; omega
      obtain ⟨X, hX⟩ : ∃ X, X = wr.heap.size := ⟨_, rfl⟩
      obtain ⟨Y, hY⟩ : ∃ Y, Y = w5.heap.size := ⟨_, rfl⟩
      rw [← hX] at FX hXp hXq hz5
      rw [← hY] at FY hYp hYq hz5
      obtain ⟨e2, he2⟩ : ∃ e2, e2 = tagged [99, 104, 97, 105, 110] (ed ++ d) := ⟨_, rfl⟩
      have HE2 : Hid (e2.length = 32) := by unfold Hid; rw [he2]; exact tagged_length _ _
      have HEE := Lib.hid he2
      have HXX := Lib.hid hX
      have HYY := Lib.hid hY
      have hw6p : w.heap.size ≤ w6.heap.size := HB6.out.size
      clear hz5 hd hdl hel hrdr hrg hw5 hb5 hX5 hw6 hb6 hY6 hb56 he2 hend hX hY
      go_wp2_with (first
        | (refine wpList_load_mid rfl 26 _ rfl g (k * 32) rfl _ _ HRG.out Tryd.underlying26 rfl HDI.out ?_)
        | (refine wpList_store_row rfl 26 _ _ rfl _ _ rfl rfl _ _ (heap_alloc_new _ _) HDII.out (z32_size _ HDL.out) (bytesV_all _) ?_; rw [World.setRow_alloc_new, HW5.out])
        | (refine wpList_load_mid rfl 26 _ rfl p 0 rfl _ _ (DRow.range HP5.out) Tryd.underlying26 rfl HEI0.out ?_)
        | (refine wpList_store_row rfl 26 _ _ rfl _ _ rfl rfl _ _ (heap_alloc_new _ _) HEII.out (z32_size _ HEL.out) (bytesV_all _) ?_; rw [World.setRow_alloc_new, HW6.out]))
      have HKr := Lib.hid (HK.out.below HB6.out hK0)
      have HC1 : Hid (∀ u, Below w.heap.size w6 u → Calls Tryd.prog 25 #[.agg (bytesV ed).toArray, .agg (bytesV d).toArray] u fun e u' => e = .returned (.agg (bytesV e2).toArray) ∧ Below u.heap.size u u') := fun u hu => by
        rw [HEE.out]
        exact chain_any ed d u HEL.out HDL.out (HKr.out.below hu hK0)
      have HC2 : Hid (∀ u, Calls Tryd.prog 26 #[.agg (bytesV ed).toArray, .agg (bytesV d).toArray] u fun e u' => e = .returned (.agg (bytesV e2).toArray) ∧ Below u.heap.size u u') := fun u => by
        rw [HEE.out]
        exact refchain_any ed d u HEL.out HDL.out
      try rw [← HXX.out]
      try rw [← HYY.out]
      refine wp_region_held_drew (S := fun u => Below w.heap.size w6 u ∧ DRow u X d) (by kernel_rfl) ⟨(Below.refl _ _).drew, FX.out.keep (w' := w6.drew) rfl⟩ (fun hHeld => ?_)
      have FP := Lib.hid (FP.out.keep (w' := w6.drew) rfl)
      have FQ := Lib.hid (FQ.out.keep (w' := w6.drew) rfl)
      have FY := Lib.hid (FY.out.keep (w' := w6.drew) rfl)
      have FO := Lib.hid (FO.out.keep (w' := w6.drew) rfl)
      generalize w6.drew = X0 at hHeld FP FQ FY FO ⊢
      have BX0 := Lib.hid hHeld.1
      have FX := Lib.hid hHeld.2
      refine wpAnyH_take (i := 1) (oi := ⟨some 23, _, _, _, _, _⟩) rfl (by kernel_rfl) (by kernel_rfl) (by kernel_rfl) (fun _ _ _ h => h) (yieldsIf_load_mid (by rfl) _ _ rfl X 0 rfl _ _ (fun w' h => DRow.range h.2) Tryd.underlying26 rfl HDI.out) (by assumption) ?_
      try simp only [Act.put, List.setIfInBounds_toArray, List.set_cons_zero, List.set_cons_succ]
      refine wpAnyH_take (i := 4) (oi := ⟨some 26, _, _, _, _, _⟩) rfl (by kernel_rfl) (by kernel_rfl) (by kernel_rfl) (fun _ _ _ h => h) (yieldsIf_load_mid (by rfl) _ _ rfl X 0 rfl _ _ (fun w' h => DRow.range h.2) Tryd.underlying26 rfl HDI.out) (by assumption) ?_
      try simp only [Act.put, List.setIfInBounds_toArray, List.set_cons_zero, List.set_cons_succ]
      show wpAnyH _ _ _ ?Qhfin8 _ _ _ ?ahfin8 _
      have hfin8 : ∀ (v22 v24 v25 v27 : Value) (u : World), Hid (DRow u p e2) → Hid (DRow u q e2) → Hid (DRow u X d) → Hid (DRow u Y ed) → Hid (Owns u U3 26 32 g N cap (flatD ds)) → Hid (Below w.heap.size w6 u) → ?Qhfin8 .normal (Act.put (Act.put (Act.put (Act.put ?ahfin8 (some 22) v22) (some 24) v24) (some 25) v25) (some 27) v27) u := by
        intro v22 v24 v25 v27 u HP9 HQ9 HX9 HY9 HO9 HBB
        simp only [Act.put, List.setIfInBounds_toArray, List.set_cons_zero, List.set_cons_succ]
        clear hHeld BX0 FP FQ FX FY FO HP HQ HO HP5 HRG HKr HC1 HC2
        have HBW : Hid (Below w.heap.size w u) := HB6.out.trans (HBB.out.mono (Nat.le_refl _))
        have HKu := Lib.hid (HK.out.below HBW.out hK0)
        have HEI := Lib.hid (dg_size e2 HE2.out)
        have hu0 : 0 < u.heap.size := by have h := HBW.out.size; omega
        have hne : ∀ u : World, (binOp .neq 26 (.agg (bytesV e2).toArray) (.agg (bytesV e2).toArray)).run Tryd.prog u = .ok (.bool false) u := fun u => by rw [run_neq_dg u e2 e2 HE2.out HE2.out, beq_self_eq_true]; rfl
        have HS1 : Hid (∀ x, Below u.heap.size u x → Src Tryd.prog 1 22 (.slice (some ⟨Y, 0, none⟩) 32 32) 32 (bytesV ed) x) := fun x hb => ((HY9.out.below hb HY9.out.lt).rdb (B := u.heap.size) HY9.out.lt HEL.out.symm).srcA
        have HS2 : Hid (∀ x, Below u.heap.size u x → Src Tryd.prog 1 22 (.slice (some ⟨X, 0, none⟩) 32 32) 32 (bytesV d) x) := fun x hb => ((HX9.out.below hb HX9.out.lt).rdb (B := u.heap.size) HX9.out.lt HDL.out.symm).srcA
        have HTG : Hid (∀ (x : World) (g' cap' : Nat), Below u.heap.size u x → Owns x u.heap.size 5 1 g' (32 + 32) cap' (bytesV ed ++ bytesV d) → Calls Tryd.prog 14 #[.string ⟨#[99, 104, 97, 105, 110]⟩, .slice (some ⟨g', 0, none⟩) (32 + 32) cap'] x fun e u' => e = .returned (.agg (bytesV e2).toArray) ∧ Below x.heap.size x u') := fun x g' cap' hb ho => by
          rw [HEE.out]
          rw [← bytesV_append] at ho
          have ho' : OwnB x u.heap.size g' (32 + 32) cap' (ed ++ d) := ho
          exact tagged_any ⟨#[99, 104, 97, 105, 110]⟩ _ _ _ (ed ++ d) x (by show (5 : Nat) ≤ _; omega) (ho'.rdb ho'.lt) (by omega) (HKu.out.below hb hu0)
        go_wp2_with fail
        refine wp_region_held_drew (S := fun x => Below u.heap.size u x) (by kernel_rfl) (Below.refl _ _).drew (fun hHeld => ?_)
        generalize u.drew = X500 at hHeld ⊢
        have BX500 := Lib.hid hHeld
        refine wpAnyH_take (i := 0) (oi := ⟨some 28, _, _, _, _, _⟩) rfl (by kernel_rfl) (by kernel_rfl) (by kernel_rfl) (fun _ _ _ h => h) (yieldsIf_load_mid (by rfl) _ _ rfl p 0 rfl _ _ (fun w' h => range_below (DRow.range HP9.out) h HP9.out.lt) Tryd.underlying26 rfl HEI.out) (by assumption) ?_
        try simp only [Act.put, List.setIfInBounds_toArray, List.set_cons_zero, List.set_cons_succ]
        refine wpAnyH_take (i := 1) (oi := ⟨some 29, _, _, _, _, _⟩) rfl (by kernel_rfl) (by kernel_rfl) (by kernel_rfl) (fun _ _ _ h => h) (yieldsIf_load_mid (by rfl) _ _ rfl q 0 rfl _ _ (fun w' h => range_below (DRow.range HQ9.out) h HQ9.out.lt) Tryd.underlying26 rfl HEI.out) (by assumption) ?_
        try simp only [Act.put, List.setIfInBounds_toArray, List.set_cons_zero, List.set_cons_succ]
        refine wpAnyH_take (i := 2) (oi := ⟨some 30, _, _, _, _, _⟩) (v := ?_) rfl (by kernel_rfl) (by kernel_rfl) (by kernel_rfl) (fun _ _ _ h => h) (Or.inl ⟨by rfl, ?_⟩) (by assumption) ?_
        rotate_left
        · (intro w hSw; go_simp) <;> with_reducible rfl
        try simp only [Act.put, List.setIfInBounds_toArray, List.set_cons_zero, List.set_cons_succ]
        refine wpAnyH_take (i := 3) (oi := ⟨some 31, _, _, _, _, _⟩) (v := ?_) rfl (by kernel_rfl) (by kernel_rfl) (by kernel_rfl) (fun _ _ _ h => h) (Or.inl ⟨by rfl, ?_⟩) (by assumption) ?_
        rotate_left
        · (intro w hSw; go_simp) <;> with_reducible rfl
        try simp only [Act.put, List.setIfInBounds_toArray, List.set_cons_zero, List.set_cons_succ]
        refine wpAnyH_take (i := 4) (oi := ⟨some 32, _, _, _, _, _⟩) rfl (by kernel_rfl) (by kernel_rfl) (by kernel_rfl) (fun _ _ _ h => h) (yieldsIf_load_mid (by rfl) _ _ rfl p 0 rfl _ _ (fun w' h => range_below (DRow.range HP9.out) h HP9.out.lt) Tryd.underlying26 rfl HEI.out) (by assumption) ?_
        try simp only [Act.put, List.setIfInBounds_toArray, List.set_cons_zero, List.set_cons_succ]
        refine wpAnyH_take (i := 6) (oi := ⟨some 34, _, _, _, _, _⟩) (v := ?_) rfl (by kernel_rfl) (by kernel_rfl) (by kernel_rfl) (fun _ _ _ h => h) (Or.inl ⟨by rfl, ?_⟩) (by assumption) ?_
        rotate_left
        · (intro w hSw; go_simp) <;> with_reducible rfl
        try simp only [Act.put, List.setIfInBounds_toArray, List.set_cons_zero, List.set_cons_succ]
        refine wpAnyH_take (i := 8) (oi := ⟨some 36, _, _, _, _, _⟩) (v := ?_) rfl (by kernel_rfl) (by kernel_rfl) (by kernel_rfl) (fun _ _ _ h => h) (Or.inl ⟨by rfl, ?_⟩) (by assumption) ?_
        rotate_left
        · (intro w hSw; go_simp) <;> with_reducible rfl
        try simp only [Act.put, List.setIfInBounds_toArray, List.set_cons_zero, List.set_cons_succ]
        refine wpAnyH_ready (rs := [5]) (by kernel_rfl) (by simp) ?_
        refine AllReadyH.cons (o := ⟨some 33, _, _, _, _, _⟩) rfl (fun K hK => ?_) ?_
        · go_simp
          refine hK.out _ _ (hHeld.alloc BX500.out.size _) (fun hHeld => ?_)
          clear hK K
          try simp only [Act.put, List.setIfInBounds_toArray, List.set_cons_zero, List.set_cons_succ]
          have FEX501 : Owns (X500.alloc (.cells #[] 5)) u.heap.size 5 1 X500.heap.size 0 0 [] := owns0 _ _ BX500.out.size
          have RX501 : Below X500.heap.size X500 (X500.alloc (.cells #[] 5)) := (Below.refl _ _).alloc (Nat.le_refl _) _
          generalize (X500.alloc (.cells #[] 5)) = X501 at hHeld FEX501 RX501 ⊢
          have BX501 := Lib.hid hHeld
          replace FEX501 := Lib.hid FEX501
          replace RX501 := Lib.hid RX501
          refine wpAnyH_ready (rs := [7]) (by kernel_rfl) (by simp) ?_
          refine AllReadyH.cons (o := ⟨some 35, _, _, _, _, _⟩) rfl (fun K hK => ?_) ?_
          · rw [if_pos (by rfl)]
            refine wp_append_owns _ (.tmp 33) (.tmp 34) 22 22 rfl u.heap.size 5 iB _ 1 1 Tryd.underlying22 hiB hzB h1B h2B rfl X500.heap.size 0 0 [] rfl FEX501.out _ rfl 32 (bytesV ed) (HS1.out _ BX501.out) (by unfold maxLen; omega) (by omega) BX501.out.size ?_
            intro g7_X502 c7_X502 X502 FMX502 TX502 GX502
            simp only [Nat.zero_add, List.nil_append] at FMX502 ⊢
            refine hK.out _ _ (BX501.out.trans (TX502.out.below (B := u.heap.size) FEX501.out.2.1 FEX501.out.lt)) (fun hHeld => ?_)
            clear hK K
            try simp only [Act.put, List.setIfInBounds_toArray, List.set_cons_zero, List.set_cons_succ]
            have BX502 := Lib.hid hHeld
            refine wpAnyH_ready (rs := [9]) (by kernel_rfl) (by simp) ?_
            refine AllReadyH.cons (o := ⟨some 37, _, _, _, _, _⟩) rfl (fun K hK => ?_) ?_
            · rw [if_pos (by rfl)]
              refine wp_append_owns _ (.tmp 35) (.tmp 36) 22 22 rfl u.heap.size 5 iB _ 1 1 Tryd.underlying22 hiB hzB h1B h2B rfl g7_X502 32 c7_X502 (bytesV ed) rfl FMX502.out _ rfl 32 (bytesV d) (HS2.out _ BX502.out) (by unfold maxLen; omega) (by omega) BX502.out.size ?_
              intro g9_X503 c9_X503 X503 FRX503 TX503 GX503
              refine hK.out _ _ (BX502.out.trans (TX503.out.below (B := u.heap.size) FMX502.out.2.1 FMX502.out.lt)) (fun hHeld => ?_)
              clear hK K
              try simp only [Act.put, List.setIfInBounds_toArray, List.set_cons_zero, List.set_cons_succ]
              have BX503 := Lib.hid hHeld
              refine wpAnyH_ready (rs := [10]) (by kernel_rfl) (by simp) ?_
              refine AllReadyH.cons (o := ⟨some 38, _, _, _, _, _⟩) rfl (fun K hK => ?_) ?_
              · go_simp
                go_at_call 14
                refine (HTG.out _ _ _ BX503.out FRX503.out).mono ?_
                rintro e X504 ⟨rfl, bX504⟩
                have RX504 := Lib.hid (bX504)
                go_wp2_with fail
                refine hK.out _ _ (BX503.out.trans (RX504.out.mono BX503.out.size)) (fun hHeld => ?_)
                clear hK K
                try simp only [Act.put, List.setIfInBounds_toArray, List.set_cons_zero, List.set_cons_succ]
                have BX504 := Lib.hid hHeld
                refine wpAnyH_take (i := 11) (oi := ⟨some 39, _, _, _, _, _⟩) (v := ?_) rfl (by kernel_rfl) (by kernel_rfl) (by kernel_rfl) (fun _ _ _ h => h) (Or.inl ⟨by rfl, ?_⟩) (by assumption) ?_
                rotate_left
                · (intro w hSw; go_simp) <;> with_reducible rfl
                try simp only [Act.put, List.setIfInBounds_toArray, List.set_cons_zero, List.set_cons_succ]
                refine wpAnyH_take (i := 12) (oi := ⟨some 40, _, _, _, _, _⟩) (v := ?_) rfl (by kernel_rfl) (by kernel_rfl) (by kernel_rfl) (fun _ _ _ h => h) (Or.inl ⟨by rfl, ?_⟩) (by assumption) ?_
                rotate_left
                · (intro w hSw; go_simp) <;> with_reducible rfl
                try simp only [Act.put, List.setIfInBounds_toArray, List.set_cons_zero, List.set_cons_succ]
                refine wpAnyH_done (by kernel_rfl) ?_ _
                clear hHeld
                have HW9 : Hid (Below w.heap.size w X504) := HBW.out.trans (BX504.out.mono HBW.out.size)
                have HPE := Lib.hid (HP9.out.below BX504.out HP9.out.lt)
                have HQE := Lib.hid (HQ9.out.below BX504.out HQ9.out.lt)
                have HOE := Lib.hid (HO9.out.keep (BX504.out.block _ HO9.out.lt))
                go_wp2_with fail
                go_roundw
                case rel => exact ⟨k + 1, e2, by go_num, by omega, HE2.out, HPE, HQE, HOE, HW9⟩
                case measure => simp [intOf]; omega
              exact AllReadyH.nil
            exact AllReadyH.nil
          exact AllReadyH.nil
        exact AllReadyH.nil
      simp only [Act.put, List.setIfInBounds_toArray, List.set_cons_zero, List.set_cons_succ] at hfin8
      refine wpAnyH_ready (rs := [0, 3]) (by kernel_rfl) (by simp) ?_
      refine AllReadyH.cons (o := ⟨some 22, _, _, _, _, _⟩) rfl (fun K hK => ?_) ?_
      · rw [if_pos (by rfl)]
        refine wp_load_mid _ _ rfl p 0 rfl _ _ (DRow.range FP.out) Tryd.underlying26 rfl HEI0.out ?_
        refine hK.out _ _ ⟨BX0.out, FX.out⟩ (fun hHeld => ?_)
        clear hK K
        try simp only [Act.put, List.setIfInBounds_toArray, List.set_cons_zero, List.set_cons_succ]
        refine wpAnyH_ready (rs := [2, 3]) (by kernel_rfl) (by simp) ?_
        refine AllReadyH.cons (o := ⟨some 24, _, _, _, _, _⟩) rfl (fun K hK => ?_) ?_
        · go_simp
          go_at_call 25
          refine (HC1.out _ BX0.out).mono ?_
          rintro e Z1 ⟨rfl, bZ1⟩
          have RZ1 := Lib.hid bZ1
          go_wp2_with fail
          have FPZ1 := Lib.hid (FP.out.keep (RZ1.out.block _ FP.out.lt))
          have FQZ1 := Lib.hid (FQ.out.keep (RZ1.out.block _ FQ.out.lt))
          have FXZ1 := Lib.hid (FX.out.keep (RZ1.out.block _ FX.out.lt))
          have FYZ1 := Lib.hid (FY.out.keep (RZ1.out.block _ FY.out.lt))
          have FOZ1 := Lib.hid (FO.out.keep (RZ1.out.block _ FO.out.lt))
          refine hK.out _ _ ⟨BX0.out.trans (RZ1.out.mono (Nat.le_trans hw6p BX0.out.size)), FXZ1.out⟩ (fun hHeld => ?_)
          clear hK K
          try simp only [Act.put, List.setIfInBounds_toArray, List.set_cons_zero, List.set_cons_succ]
          have BZ1 := Lib.hid hHeld.1
          refine wpAnyH_ready (rs := [3]) (by kernel_rfl) (by simp) ?_
          refine AllReadyH.cons (o := ⟨some 25, _, _, _, _, _⟩) rfl (fun K hK => ?_) ?_
          · rw [if_pos (by rfl)]
            refine wp_load_mid _ _ rfl q 0 rfl _ _ (DRow.range FQZ1.out) Tryd.underlying26 rfl HEI0.out ?_
            refine hK.out _ _ ⟨BZ1.out, FXZ1.out⟩ (fun hHeld => ?_)
            clear hK K
            try simp only [Act.put, List.setIfInBounds_toArray, List.set_cons_zero, List.set_cons_succ]
            refine wpAnyH_ready (rs := [5]) (by kernel_rfl) (by simp) ?_
            refine AllReadyH.cons (o := ⟨some 27, _, _, _, _, _⟩) rfl (fun K hK => ?_) ?_
            · go_simp
              go_at_call 26
              refine (HC2.out _).mono ?_
              rintro e Z2 ⟨rfl, bZ2⟩
              have RZ2 := Lib.hid bZ2
              go_wp2_with fail
              have FPZ2 := Lib.hid (FPZ1.out.keep (RZ2.out.block _ FPZ1.out.lt))
              have FQZ2 := Lib.hid (FQZ1.out.keep (RZ2.out.block _ FQZ1.out.lt))
              have FXZ2 := Lib.hid (FXZ1.out.keep (RZ2.out.block _ FXZ1.out.lt))
              have FYZ2 := Lib.hid (FYZ1.out.keep (RZ2.out.block _ FYZ1.out.lt))
              have FOZ2 := Lib.hid (FOZ1.out.keep (RZ2.out.block _ FOZ1.out.lt))
              refine hK.out _ _ ⟨BZ1.out.trans (RZ2.out.mono (Nat.le_trans hw6p BZ1.out.size)), FXZ2.out⟩ (fun hHeld => ?_)
              clear hK K
              try simp only [Act.put, List.setIfInBounds_toArray, List.set_cons_zero, List.set_cons_succ]
              have BZ2 := Lib.hid hHeld.1
              refine wpAnyH_ready (rs := [6]) (by kernel_rfl) (by simp) ?_
              refine AllReadyH.cons (o := ⟨none, _, _, _, _, _⟩) rfl (fun K hK => ?_) ?_
              · refine step_store_D rfl _ _ rfl rfl p e2 rfl rfl HE2.out ⟨_, FPZ2.out, by rw [List.size_toArray, bytesV_length, HEL.out]⟩ ?_
                have FPZ3 : Hid (DRow (Z2.setRow p (bytesV e2).toArray) p e2) := IsD.row ⟨_, FPZ2.out, by rw [List.size_toArray, bytesV_length, HEL.out]⟩ _
                have FQZ3 := Lib.hid (FQZ2.out.keep (w' := (Z2.setRow p (bytesV e2).toArray)) (setRow_other _ _ _ _ hpq.symm))
                have FXZ3 := Lib.hid (FXZ2.out.keep (w' := (Z2.setRow p (bytesV e2).toArray)) (setRow_other _ _ _ _ hXp))
                have FYZ3 := Lib.hid (FYZ2.out.keep (w' := (Z2.setRow p (bytesV e2).toArray)) (setRow_other _ _ _ _ hYp))
                have FOZ3 := Lib.hid (FOZ2.out.keep (w' := (Z2.setRow p (bytesV e2).toArray)) (setRow_other _ _ _ _ hpg.symm))
                refine hK.out _ _ ⟨below_setRow BZ2.out hwp _, FXZ3.out⟩ (fun hHeld => ?_)
                clear hK K
                generalize (Z2.setRow p (bytesV e2).toArray) = Z3 at hHeld FPZ3 FQZ3 FXZ3 FYZ3 FOZ3 ⊢
                have BZ3 := Lib.hid hHeld.1
                refine wpAnyH_ready (rs := [7]) (by kernel_rfl) (by simp) ?_
                refine AllReadyH.cons (o := ⟨none, _, _, _, _, _⟩) rfl (fun K hK => ?_) ?_
                · refine step_store_D rfl _ _ rfl rfl q e2 rfl rfl HE2.out ⟨_, FQZ3.out, by rw [List.size_toArray, bytesV_length, HEL.out]⟩ ?_
                  have FPZ4 := Lib.hid (FPZ3.out.keep (w' := (Z3.setRow q (bytesV e2).toArray)) (setRow_other _ _ _ _ hpq))
                  have FQZ4 : Hid (DRow (Z3.setRow q (bytesV e2).toArray) q e2) := IsD.row ⟨_, FQZ3.out, by rw [List.size_toArray, bytesV_length, HEL.out]⟩ _
                  have FXZ4 := Lib.hid (FXZ3.out.keep (w' := (Z3.setRow q (bytesV e2).toArray)) (setRow_other _ _ _ _ hXq))
                  have FYZ4 := Lib.hid (FYZ3.out.keep (w' := (Z3.setRow q (bytesV e2).toArray)) (setRow_other _ _ _ _ hYq))
                  have FOZ4 := Lib.hid (FOZ3.out.keep (w' := (Z3.setRow q (bytesV e2).toArray)) (setRow_other _ _ _ _ hqg.symm))
                  refine hK.out _ _ ⟨below_setRow BZ3.out hwq _, FXZ4.out⟩ (fun hHeld => ?_)
                  clear hK K
                  generalize (Z3.setRow q (bytesV e2).toArray) = Z4 at hHeld FPZ4 FQZ4 FXZ4 FYZ4 FOZ4 ⊢
                  have BZ4 := Lib.hid hHeld.1
                  refine wpAnyH_done (by kernel_rfl) ?_ _
                  exact hfin8 _ _ _ _ _ FPZ4 FQZ4 FXZ4 FYZ4 FOZ4 BZ4
                exact AllReadyH.nil
              exact AllReadyH.nil
            exact AllReadyH.nil
          exact AllReadyH.nil
        refine AllReadyH.cons (o := ⟨some 25, _, _, _, _, _⟩) rfl (fun K hK => ?_) ?_
        · rw [if_pos (by rfl)]
          refine wp_load_mid _ _ rfl q 0 rfl _ _ (DRow.range FQ.out) Tryd.underlying26 rfl HEI0.out ?_
          refine hK.out _ _ ⟨BX0.out, FX.out⟩ (fun hHeld => ?_)
          clear hK K
          try simp only [Act.put, List.setIfInBounds_toArray, List.set_cons_zero, List.set_cons_succ]
          refine wpAnyH_ready (rs := [2]) (by kernel_rfl) (by simp) ?_
          refine AllReadyH.cons (o := ⟨some 24, _, _, _, _, _⟩) rfl (fun K hK => ?_) ?_
          · go_simp
            go_at_call 25
            refine (HC1.out _ BX0.out).mono ?_
            rintro e Z5 ⟨rfl, bZ5⟩
            have RZ5 := Lib.hid bZ5
            go_wp2_with fail
            have FPZ5 := Lib.hid (FP.out.keep (RZ5.out.block _ FP.out.lt))
            have FQZ5 := Lib.hid (FQ.out.keep (RZ5.out.block _ FQ.out.lt))
            have FXZ5 := Lib.hid (FX.out.keep (RZ5.out.block _ FX.out.lt))
            have FYZ5 := Lib.hid (FY.out.keep (RZ5.out.block _ FY.out.lt))
            have FOZ5 := Lib.hid (FO.out.keep (RZ5.out.block _ FO.out.lt))
            refine hK.out _ _ ⟨BX0.out.trans (RZ5.out.mono (Nat.le_trans hw6p BX0.out.size)), FXZ5.out⟩ (fun hHeld => ?_)
            clear hK K
            try simp only [Act.put, List.setIfInBounds_toArray, List.set_cons_zero, List.set_cons_succ]
            have BZ5 := Lib.hid hHeld.1
            refine wpAnyH_ready (rs := [5]) (by kernel_rfl) (by simp) ?_
            refine AllReadyH.cons (o := ⟨some 27, _, _, _, _, _⟩) rfl (fun K hK => ?_) ?_
            · go_simp
              go_at_call 26
              refine (HC2.out _).mono ?_
              rintro e Z6 ⟨rfl, bZ6⟩
              have RZ6 := Lib.hid bZ6
              go_wp2_with fail
              have FPZ6 := Lib.hid (FPZ5.out.keep (RZ6.out.block _ FPZ5.out.lt))
              have FQZ6 := Lib.hid (FQZ5.out.keep (RZ6.out.block _ FQZ5.out.lt))
              have FXZ6 := Lib.hid (FXZ5.out.keep (RZ6.out.block _ FXZ5.out.lt))
              have FYZ6 := Lib.hid (FYZ5.out.keep (RZ6.out.block _ FYZ5.out.lt))
              have FOZ6 := Lib.hid (FOZ5.out.keep (RZ6.out.block _ FOZ5.out.lt))
              refine hK.out _ _ ⟨BZ5.out.trans (RZ6.out.mono (Nat.le_trans hw6p BZ5.out.size)), FXZ6.out⟩ (fun hHeld => ?_)
              clear hK K
              try simp only [Act.put, List.setIfInBounds_toArray, List.set_cons_zero, List.set_cons_succ]
              have BZ6 := Lib.hid hHeld.1
              refine wpAnyH_ready (rs := [6]) (by kernel_rfl) (by simp) ?_
              refine AllReadyH.cons (o := ⟨none, _, _, _, _, _⟩) rfl (fun K hK => ?_) ?_
              · refine step_store_D rfl _ _ rfl rfl p e2 rfl rfl HE2.out ⟨_, FPZ6.out, by rw [List.size_toArray, bytesV_length, HEL.out]⟩ ?_
                have FPZ7 : Hid (DRow (Z6.setRow p (bytesV e2).toArray) p e2) := IsD.row ⟨_, FPZ6.out, by rw [List.size_toArray, bytesV_length, HEL.out]⟩ _
                have FQZ7 := Lib.hid (FQZ6.out.keep (w' := (Z6.setRow p (bytesV e2).toArray)) (setRow_other _ _ _ _ hpq.symm))
                have FXZ7 := Lib.hid (FXZ6.out.keep (w' := (Z6.setRow p (bytesV e2).toArray)) (setRow_other _ _ _ _ hXp))
                have FYZ7 := Lib.hid (FYZ6.out.keep (w' := (Z6.setRow p (bytesV e2).toArray)) (setRow_other _ _ _ _ hYp))
                have FOZ7 := Lib.hid (FOZ6.out.keep (w' := (Z6.setRow p (bytesV e2).toArray)) (setRow_other _ _ _ _ hpg.symm))
                refine hK.out _ _ ⟨below_setRow BZ6.out hwp _, FXZ7.out⟩ (fun hHeld => ?_)
                clear hK K
                generalize (Z6.setRow p (bytesV e2).toArray) = Z7 at hHeld FPZ7 FQZ7 FXZ7 FYZ7 FOZ7 ⊢
                have BZ7 := Lib.hid hHeld.1
                refine wpAnyH_ready (rs := [7]) (by kernel_rfl) (by simp) ?_
                refine AllReadyH.cons (o := ⟨none, _, _, _, _, _⟩) rfl (fun K hK => ?_) ?_
                · refine step_store_D rfl _ _ rfl rfl q e2 rfl rfl HE2.out ⟨_, FQZ7.out, by rw [List.size_toArray, bytesV_length, HEL.out]⟩ ?_
                  have FPZ8 := Lib.hid (FPZ7.out.keep (w' := (Z7.setRow q (bytesV e2).toArray)) (setRow_other _ _ _ _ hpq))
                  have FQZ8 : Hid (DRow (Z7.setRow q (bytesV e2).toArray) q e2) := IsD.row ⟨_, FQZ7.out, by rw [List.size_toArray, bytesV_length, HEL.out]⟩ _
                  have FXZ8 := Lib.hid (FXZ7.out.keep (w' := (Z7.setRow q (bytesV e2).toArray)) (setRow_other _ _ _ _ hXq))
                  have FYZ8 := Lib.hid (FYZ7.out.keep (w' := (Z7.setRow q (bytesV e2).toArray)) (setRow_other _ _ _ _ hYq))
                  have FOZ8 := Lib.hid (FOZ7.out.keep (w' := (Z7.setRow q (bytesV e2).toArray)) (setRow_other _ _ _ _ hqg.symm))
                  refine hK.out _ _ ⟨below_setRow BZ7.out hwq _, FXZ8.out⟩ (fun hHeld => ?_)
                  clear hK K
                  generalize (Z7.setRow q (bytesV e2).toArray) = Z8 at hHeld FPZ8 FQZ8 FXZ8 FYZ8 FOZ8 ⊢
                  have BZ8 := Lib.hid hHeld.1
                  refine wpAnyH_done (by kernel_rfl) ?_ _
                  exact hfin8 _ _ _ _ _ FPZ8 FQZ8 FXZ8 FYZ8 FOZ8 BZ8
                exact AllReadyH.nil
              exact AllReadyH.nil
            exact AllReadyH.nil
          exact AllReadyH.nil
        exact AllReadyH.nil
      refine AllReadyH.cons (o := ⟨some 25, _, _, _, _, _⟩) rfl (fun K hK => ?_) ?_
      · rw [if_pos (by rfl)]
        refine wp_load_mid _ _ rfl q 0 rfl _ _ (DRow.range FQ.out) Tryd.underlying26 rfl HEI0.out ?_
        refine hK.out _ _ ⟨BX0.out, FX.out⟩ (fun hHeld => ?_)
        clear hK K
        try simp only [Act.put, List.setIfInBounds_toArray, List.set_cons_zero, List.set_cons_succ]
        refine wpAnyH_ready (rs := [0]) (by kernel_rfl) (by simp) ?_
        refine AllReadyH.cons (o := ⟨some 22, _, _, _, _, _⟩) rfl (fun K hK => ?_) ?_
        · rw [if_pos (by rfl)]
          refine wp_load_mid _ _ rfl p 0 rfl _ _ (DRow.range FP.out) Tryd.underlying26 rfl HEI0.out ?_
          refine hK.out _ _ ⟨BX0.out, FX.out⟩ (fun hHeld => ?_)
          clear hK K
          try simp only [Act.put, List.setIfInBounds_toArray, List.set_cons_zero, List.set_cons_succ]
          refine wpAnyH_ready (rs := [2]) (by kernel_rfl) (by simp) ?_
          refine AllReadyH.cons (o := ⟨some 24, _, _, _, _, _⟩) rfl (fun K hK => ?_) ?_
          · go_simp
            go_at_call 25
            refine (HC1.out _ BX0.out).mono ?_
            rintro e Z9 ⟨rfl, bZ9⟩
            have RZ9 := Lib.hid bZ9
            go_wp2_with fail
            have FPZ9 := Lib.hid (FP.out.keep (RZ9.out.block _ FP.out.lt))
            have FQZ9 := Lib.hid (FQ.out.keep (RZ9.out.block _ FQ.out.lt))
            have FXZ9 := Lib.hid (FX.out.keep (RZ9.out.block _ FX.out.lt))
            have FYZ9 := Lib.hid (FY.out.keep (RZ9.out.block _ FY.out.lt))
            have FOZ9 := Lib.hid (FO.out.keep (RZ9.out.block _ FO.out.lt))
            refine hK.out _ _ ⟨BX0.out.trans (RZ9.out.mono (Nat.le_trans hw6p BX0.out.size)), FXZ9.out⟩ (fun hHeld => ?_)
            clear hK K
            try simp only [Act.put, List.setIfInBounds_toArray, List.set_cons_zero, List.set_cons_succ]
            have BZ9 := Lib.hid hHeld.1
            refine wpAnyH_ready (rs := [5]) (by kernel_rfl) (by simp) ?_
            refine AllReadyH.cons (o := ⟨some 27, _, _, _, _, _⟩) rfl (fun K hK => ?_) ?_
            · go_simp
              go_at_call 26
              refine (HC2.out _).mono ?_
              rintro e Z10 ⟨rfl, bZ10⟩
              have RZ10 := Lib.hid bZ10
              go_wp2_with fail
              have FPZ10 := Lib.hid (FPZ9.out.keep (RZ10.out.block _ FPZ9.out.lt))
              have FQZ10 := Lib.hid (FQZ9.out.keep (RZ10.out.block _ FQZ9.out.lt))
              have FXZ10 := Lib.hid (FXZ9.out.keep (RZ10.out.block _ FXZ9.out.lt))
              have FYZ10 := Lib.hid (FYZ9.out.keep (RZ10.out.block _ FYZ9.out.lt))
              have FOZ10 := Lib.hid (FOZ9.out.keep (RZ10.out.block _ FOZ9.out.lt))
              refine hK.out _ _ ⟨BZ9.out.trans (RZ10.out.mono (Nat.le_trans hw6p BZ9.out.size)), FXZ10.out⟩ (fun hHeld => ?_)
              clear hK K
              try simp only [Act.put, List.setIfInBounds_toArray, List.set_cons_zero, List.set_cons_succ]
              have BZ10 := Lib.hid hHeld.1
              refine wpAnyH_ready (rs := [6]) (by kernel_rfl) (by simp) ?_
              refine AllReadyH.cons (o := ⟨none, _, _, _, _, _⟩) rfl (fun K hK => ?_) ?_
              · refine step_store_D rfl _ _ rfl rfl p e2 rfl rfl HE2.out ⟨_, FPZ10.out, by rw [List.size_toArray, bytesV_length, HEL.out]⟩ ?_
                have FPZ11 : Hid (DRow (Z10.setRow p (bytesV e2).toArray) p e2) := IsD.row ⟨_, FPZ10.out, by rw [List.size_toArray, bytesV_length, HEL.out]⟩ _
                have FQZ11 := Lib.hid (FQZ10.out.keep (w' := (Z10.setRow p (bytesV e2).toArray)) (setRow_other _ _ _ _ hpq.symm))
                have FXZ11 := Lib.hid (FXZ10.out.keep (w' := (Z10.setRow p (bytesV e2).toArray)) (setRow_other _ _ _ _ hXp))
                have FYZ11 := Lib.hid (FYZ10.out.keep (w' := (Z10.setRow p (bytesV e2).toArray)) (setRow_other _ _ _ _ hYp))
                have FOZ11 := Lib.hid (FOZ10.out.keep (w' := (Z10.setRow p (bytesV e2).toArray)) (setRow_other _ _ _ _ hpg.symm))
                refine hK.out _ _ ⟨below_setRow BZ10.out hwp _, FXZ11.out⟩ (fun hHeld => ?_)
                clear hK K
                generalize (Z10.setRow p (bytesV e2).toArray) = Z11 at hHeld FPZ11 FQZ11 FXZ11 FYZ11 FOZ11 ⊢
                have BZ11 := Lib.hid hHeld.1
                refine wpAnyH_ready (rs := [7]) (by kernel_rfl) (by simp) ?_
                refine AllReadyH.cons (o := ⟨none, _, _, _, _, _⟩) rfl (fun K hK => ?_) ?_
                · refine step_store_D rfl _ _ rfl rfl q e2 rfl rfl HE2.out ⟨_, FQZ11.out, by rw [List.size_toArray, bytesV_length, HEL.out]⟩ ?_
                  have FPZ12 := Lib.hid (FPZ11.out.keep (w' := (Z11.setRow q (bytesV e2).toArray)) (setRow_other _ _ _ _ hpq))
                  have FQZ12 : Hid (DRow (Z11.setRow q (bytesV e2).toArray) q e2) := IsD.row ⟨_, FQZ11.out, by rw [List.size_toArray, bytesV_length, HEL.out]⟩ _
                  have FXZ12 := Lib.hid (FXZ11.out.keep (w' := (Z11.setRow q (bytesV e2).toArray)) (setRow_other _ _ _ _ hXq))
                  have FYZ12 := Lib.hid (FYZ11.out.keep (w' := (Z11.setRow q (bytesV e2).toArray)) (setRow_other _ _ _ _ hYq))
                  have FOZ12 := Lib.hid (FOZ11.out.keep (w' := (Z11.setRow q (bytesV e2).toArray)) (setRow_other _ _ _ _ hqg.symm))
                  refine hK.out _ _ ⟨below_setRow BZ11.out hwq _, FXZ12.out⟩ (fun hHeld => ?_)
                  clear hK K
                  generalize (Z11.setRow q (bytesV e2).toArray) = Z12 at hHeld FPZ12 FQZ12 FXZ12 FYZ12 FOZ12 ⊢
                  have BZ12 := Lib.hid hHeld.1
                  refine wpAnyH_done (by kernel_rfl) ?_ _
                  exact hfin8 _ _ _ _ _ FPZ12 FQZ12 FXZ12 FYZ12 FOZ12 BZ12
                exact AllReadyH.nil
              exact AllReadyH.nil
            exact AllReadyH.nil
          exact AllReadyH.nil
        exact AllReadyH.nil
      exact AllReadyH.nil
  simp only [Act.put, List.setIfInBounds_toArray, List.set_cons_zero, List.set_cons_succ] at hfin3
  refine wpAnyH_ready (rs := [2, 3]) (by kernel_rfl) (by simp) ?_
  refine AllReadyH.cons (o := ⟨some 5, _, _, _, _, _⟩) rfl (fun K hK => ?_) ?_
  · go_simp
    refine hK.out _ _ (hHeld.alloc BX0.out.size _) (fun hHeld => ?_)
    clear hK K
    try simp only [Act.put, List.setIfInBounds_toArray, List.set_cons_zero, List.set_cons_succ]
    have FPX1 : IsD (X0.alloc (.cells Z32 26)) X0.heap.size := IsD.new _ _ (heap_alloc_new X0 _)
    have RX1 : Below X0.heap.size X0 (X0.alloc (.cells Z32 26)) := (Below.refl _ _).alloc (Nat.le_refl _) _
    generalize (X0.alloc (.cells Z32 26)) = X1 at hHeld FPX1 RX1 ⊢
    have BX1 := Lib.hid hHeld
    replace FPX1 := Lib.hid FPX1
    replace RX1 := Lib.hid RX1
    refine wpAnyH_ready (rs := [3]) (by kernel_rfl) (by simp) ?_
    refine AllReadyH.cons (o := ⟨some 6, _, _, _, _, _⟩) rfl (fun K hK => ?_) ?_
    · go_simp
      refine hK.out _ _ (hHeld.alloc BX1.out.size _) (fun hHeld => ?_)
      clear hK K
      try simp only [Act.put, List.setIfInBounds_toArray, List.set_cons_zero, List.set_cons_succ]
      have FQX2 : IsD (X1.alloc (.cells Z32 26)) X1.heap.size := IsD.new _ _ (heap_alloc_new X1 _)
      have RX2 : Below X1.heap.size X1 (X1.alloc (.cells Z32 26)) := (Below.refl _ _).alloc (Nat.le_refl _) _
      generalize (X1.alloc (.cells Z32 26)) = X2 at hHeld FQX2 RX2 ⊢
      have BX2 := Lib.hid hHeld
      replace FQX2 := Lib.hid FQX2
      replace RX2 := Lib.hid RX2
      have FPX2 := Lib.hid (FPX1.out.keep ((RX2.out).block _ FPX1.out.lt))
      have ne_Q_P : X1.heap.size ≠ X0.heap.size := fun h => by have := FPX1.out.lt; omega
      have ne_P_Q := ne_Q_P.symm
      refine wpAnyH_ready (rs := [4]) (by kernel_rfl) (by simp) ?_
      refine AllReadyH.cons (o := ⟨none, _, _, _, _, _⟩) rfl (fun K hK => ?_) ?_
      · refine step_store_D rfl _ _ rfl rfl X0.heap.size fd rfl rfl HFL.out FPX2.out ?_
        refine hK.out _ _ (below_setRow BX2.out (BX0.out.size) _) (fun hHeld => ?_)
        clear hK K
        have FPX3 : DRow (X2.setRow X0.heap.size (bytesV fd).toArray) X0.heap.size fd := FPX2.out.row _
        have FQX3 := Lib.hid (FQX2.out.keep (w' := (X2.setRow X0.heap.size (bytesV fd).toArray)) (setRow_other _ _ _ _ ne_Q_P))
        generalize (X2.setRow X0.heap.size (bytesV fd).toArray) = X3 at hHeld FPX3 FQX3 ⊢
        have BX3 := Lib.hid hHeld
        replace FPX3 := Lib.hid FPX3
        refine wpAnyH_ready (rs := [5]) (by kernel_rfl) (by simp) ?_
        refine AllReadyH.cons (o := ⟨none, _, _, _, _, _⟩) rfl (fun K hK => ?_) ?_
        · refine step_store_D rfl _ _ rfl rfl X1.heap.size fd rfl rfl HFL.out FQX3.out ?_
          refine hK.out _ _ (below_setRow BX3.out (BX1.out.size) _) (fun hHeld => ?_)
          clear hK K
          have FQX4 : DRow (X3.setRow X1.heap.size (bytesV fd).toArray) X1.heap.size fd := FQX3.out.row _
          have FPX4 := Lib.hid (FPX3.out.keep (w' := (X3.setRow X1.heap.size (bytesV fd).toArray)) (setRow_other _ _ _ _ ne_P_Q))
          generalize (X3.setRow X1.heap.size (bytesV fd).toArray) = X4 at hHeld FQX4 FPX4 ⊢
          have BX4 := Lib.hid hHeld
          replace FQX4 := Lib.hid FQX4
          refine wpAnyH_done (by kernel_rfl) ?_ _
          exact hfin3 _ _ _ BX0.out.size BX1.out.size ne_P_Q FPX4 FQX4 BX4
        exact AllReadyH.nil
      exact AllReadyH.nil
    exact AllReadyH.nil
  refine AllReadyH.cons (o := ⟨some 6, _, _, _, _, _⟩) rfl (fun K hK => ?_) ?_
  · go_simp
    refine hK.out _ _ (hHeld.alloc BX0.out.size _) (fun hHeld => ?_)
    clear hK K
    try simp only [Act.put, List.setIfInBounds_toArray, List.set_cons_zero, List.set_cons_succ]
    have FQX5 : IsD (X0.alloc (.cells Z32 26)) X0.heap.size := IsD.new _ _ (heap_alloc_new X0 _)
    have RX5 : Below X0.heap.size X0 (X0.alloc (.cells Z32 26)) := (Below.refl _ _).alloc (Nat.le_refl _) _
    generalize (X0.alloc (.cells Z32 26)) = X5 at hHeld FQX5 RX5 ⊢
    have BX5 := Lib.hid hHeld
    replace FQX5 := Lib.hid FQX5
    replace RX5 := Lib.hid RX5
    refine wpAnyH_ready (rs := [2]) (by kernel_rfl) (by simp) ?_
    refine AllReadyH.cons (o := ⟨some 5, _, _, _, _, _⟩) rfl (fun K hK => ?_) ?_
    · go_simp
      refine hK.out _ _ (hHeld.alloc BX5.out.size _) (fun hHeld => ?_)
      clear hK K
      try simp only [Act.put, List.setIfInBounds_toArray, List.set_cons_zero, List.set_cons_succ]
      have FPX6 : IsD (X5.alloc (.cells Z32 26)) X5.heap.size := IsD.new _ _ (heap_alloc_new X5 _)
      have RX6 : Below X5.heap.size X5 (X5.alloc (.cells Z32 26)) := (Below.refl _ _).alloc (Nat.le_refl _) _
      generalize (X5.alloc (.cells Z32 26)) = X6 at hHeld FPX6 RX6 ⊢
      have BX6 := Lib.hid hHeld
      replace FPX6 := Lib.hid FPX6
      replace RX6 := Lib.hid RX6
      have FQX6 := Lib.hid (FQX5.out.keep ((RX6.out).block _ FQX5.out.lt))
      have ne_P_Q : X5.heap.size ≠ X0.heap.size := fun h => by have := FQX5.out.lt; omega
      have ne_Q_P := ne_P_Q.symm
      refine wpAnyH_ready (rs := [4]) (by kernel_rfl) (by simp) ?_
      refine AllReadyH.cons (o := ⟨none, _, _, _, _, _⟩) rfl (fun K hK => ?_) ?_
      · refine step_store_D rfl _ _ rfl rfl X5.heap.size fd rfl rfl HFL.out FPX6.out ?_
        refine hK.out _ _ (below_setRow BX6.out (BX5.out.size) _) (fun hHeld => ?_)
        clear hK K
        have FPX7 : DRow (X6.setRow X5.heap.size (bytesV fd).toArray) X5.heap.size fd := FPX6.out.row _
        have FQX7 := Lib.hid (FQX6.out.keep (w' := (X6.setRow X5.heap.size (bytesV fd).toArray)) (setRow_other _ _ _ _ ne_Q_P))
        generalize (X6.setRow X5.heap.size (bytesV fd).toArray) = X7 at hHeld FPX7 FQX7 ⊢
        have BX7 := Lib.hid hHeld
        replace FPX7 := Lib.hid FPX7
        refine wpAnyH_ready (rs := [5]) (by kernel_rfl) (by simp) ?_
        refine AllReadyH.cons (o := ⟨none, _, _, _, _, _⟩) rfl (fun K hK => ?_) ?_
        · refine step_store_D rfl _ _ rfl rfl X0.heap.size fd rfl rfl HFL.out FQX7.out ?_
          refine hK.out _ _ (below_setRow BX7.out (BX0.out.size) _) (fun hHeld => ?_)
          clear hK K
          have FQX8 : DRow (X7.setRow X0.heap.size (bytesV fd).toArray) X0.heap.size fd := FQX7.out.row _
          have FPX8 := Lib.hid (FPX7.out.keep (w' := (X7.setRow X0.heap.size (bytesV fd).toArray)) (setRow_other _ _ _ _ ne_P_Q))
          generalize (X7.setRow X0.heap.size (bytesV fd).toArray) = X8 at hHeld FQX8 FPX8 ⊢
          have BX8 := Lib.hid hHeld
          replace FQX8 := Lib.hid FQX8
          refine wpAnyH_done (by kernel_rfl) ?_ _
          exact hfin3 _ _ _ BX5.out.size BX0.out.size ne_P_Q FPX8 FQX8 BX8
        exact AllReadyH.nil
      exact AllReadyH.nil
    exact AllReadyH.nil
  exact AllReadyH.nil
end Go.Proofs.YtfolmglafnfcbaaDoor
