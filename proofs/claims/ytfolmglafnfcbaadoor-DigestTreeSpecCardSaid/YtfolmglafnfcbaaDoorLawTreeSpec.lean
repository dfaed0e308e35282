/- The law DigestTreeSpec, walked. -/
import Derived.Test.YtfolmglafnfcbaaDoorLawHalves
import Derived.Test.YtfolmglafnfcbaaDoorTwo
namespace Go.Proofs.YtfolmglafnfcbaaDoor
open Go.RowKit

theorem two_ints (w : World) (x0 x1 : Int) (t : TypeId) (k : Nat) (hk : k < 2) : ∃ x : Int, (w.alloc (.cells #[.int .i64 x0, .int .i64 x1] t)).cell? ⟨w.heap.size, k, none⟩ = some (.int .i64 x) := by
  rw [cell_of_row _ _ k _ _ _ (heap_alloc_new _ _)]
  match k, hk with
  | 0, _ => exact ⟨x0, rfl⟩
  | 1, _ => exact ⟨x1, rfl⟩
theorem three_slices (w : World) (v0 v1 v2 : Value) (t : TypeId) : (w.alloc (.cells #[v0, v1, v2] t)).cell? ⟨w.heap.size, 0, none⟩ = some v0 ∧ (w.alloc (.cells #[v0, v1, v2] t)).cell? ⟨w.heap.size, 1, none⟩ = some v1 ∧ (w.alloc (.cells #[v0, v1, v2] t)).cell? ⟨w.heap.size, 2, none⟩ = some v2 := by
  refine ⟨?_, ?_, ?_⟩
  · rw [cell_of_row _ _ 0 _ _ _ (heap_alloc_new _ _)]; rfl
  · rw [cell_of_row _ _ 1 _ _ _ (heap_alloc_new _ _)]; rfl
  · rw [cell_of_row _ _ 2 _ _ _ (heap_alloc_new _ _)]; rfl

set_option maxRecDepth 100000 in
set_option maxHeartbeats 8000000 in
theorem law_treespec (A : Option Addr) (n c : Nat) (bs : List UInt8) (at' nn : Int) (d : D) (w : World) (hd : d.length = 32) (hr : RdB w w.heap.size A n bs) (hK : KOK w) :
    Calls Tryd.prog 4 #[.slice A n c, .int .i64 at', .int .i64 nn, .agg (bytesV d).toArray] w fun e w' => e = .returned (.bool true) ∧ Below w.heap.size w w' := by
  have hK0 := hK.pos
  obtain ⟨w0, hw0⟩ : ∃ w0, w.alloc (.cells (bytesV d).toArray 26) = w0 := ⟨_, rfl⟩
  have hb0 : Below w.heap.size w w0 := by rw [← hw0]; exact (Below.refl _ _).alloc (Nat.le_refl _) _
  have hd0 : DRow w0 w.heap.size d := by rw [← hw0]; exact heap_alloc_new _ _
  have HW0 := Lib.hid hw0
  have HD0 := Lib.hid hd0
  have HDL := Lib.hid hd
  have B0 := Lib.hid hb0
  have HS := Lib.hid (sane_any w0 (hK.below hb0 hK0))
  have HR := Lib.hid hr
  have HK := Lib.hid hK
  clear hr hK hw0 hb0 hd0 hd
  go_enter Tryd.func4, Tryd.ntmps4
  go_wp2_with fail
  rw [HW0.out]
  refine HS.out.mono ?_
  rintro e w1 ⟨rfl, hb1⟩
  have B1 := Lib.hid (B0.out.trans (hb1.mono B0.out.size))
  have HD1 := Lib.hid (HD0.out.below hb1 HD0.out.lt)
  have HR1 := Lib.hid (HR.out.below B1.out B1.out.size)
  have z1 := B1.out.size
  clear hb1
  go_wp2_with fail
  refine (ds_any A n c bs w1 HR1.out).mono ?_
  rintro e w2 ⟨g, N, cap, rfl, hN, hO, hb2⟩
  have hN24 : N ≤ 24 := by omega
  have B2 := Lib.hid (B1.out.trans (hb2.mono z1))
  have HD2 := Lib.hid (HD1.out.below hb2 HD1.out.lt)
  have HO := Lib.hid hO
  have HK2 := Lib.hid (HK.out.below B2.out hK0)
  have z2 := hb2.size
  clear hN hO hb2 HR1 HR HD0 HD1 HS
  have hcap : N ≤ cap := HO.out.2.2.1
  have hcm : cap ≤ maxLen := HO.out.2.2.2.1
  obtain ⟨ds, hds⟩ : ∃ ds, ds = dsTo bs N := ⟨_, rfl⟩
  have hall : ∀ x ∈ ds, x.length = 32 := by rw [hds]; exact dsTo_all bs N
  have hlen : ds.length = N := by rw [hds]; exact dsTo_length bs N
  rw [← hds] at HO
  have hrd : RdD w2 w2.heap.size (some ⟨g, 0, none⟩) N ds := (OwnsN.rdd (.inr ⟨g, rfl, HO.out⟩) hall).1
  have HRD := Lib.hid hrd
  have HLEN := Lib.hid hlen
  have HALL := Lib.hid hall
  clear hds hrd hlen hall
  have hw2 : 0 < w2.heap.size := by omega
  have hgd : Tryd.prog.eqGuardType Tryd.prog.depth 26 = false := by kernel_rfl
  obtain ⟨iD, hiD, hzD, h1D, h2D⟩ := dg_parts
  obtain ⟨iD, hiD, hzD, h1D, h2D⟩ := dg_parts
  have hl5 : (bytesV d).length = 32 := by rw [bytesV_length]; exact HDL.out
  have hff := fold_zero d HDL.out
  have HLI := Lib.hid (dg_size d HDL.out)
  obtain ⟨t, ht⟩ : ∃ t, t = tree ds := ⟨_, rfl⟩
  have htl : t.length = 32 := by rw [ht]; exact tree_length _
  have hneT : ∀ u : World, (binOp .neq 26 (.agg (bytesV t).toArray) (.agg (bytesV t).toArray)).run Tryd.prog u = .ok (.bool false) u := fun u => by rw [run_neq_dg u t t htl htl, beq_self_eq_true]; rfl
  have HT1 : Hid (Calls Tryd.prog 17 #[.slice (some ⟨g, 0, none⟩) N cap] w2 fun e u' => e = .returned (.agg (bytesV t).toArray) ∧ Below w2.heap.size w2 u') := by
    rw [ht]
    exact tree_any (some ⟨g, 0, none⟩) N cap ds w2 HRD.out (by omega) hcap hcm HK2.out
  have HT2 : Hid (∀ u, Below w2.heap.size w2 u → Calls Tryd.prog 18 #[.slice (some ⟨g, 0, none⟩) N cap] u fun e u' => e = .returned (.agg (bytesV t).toArray) ∧ Below u.heap.size u u') := fun u hu => by
    rw [ht]
    exact reftree_any (some ⟨g, 0, none⟩) N cap ds u (HRD.out.below hu hu.size) (by omega) hcap hcm
  clear ht htl
  go_wp2_with fail
  refine HT1.out.mono ?_
  rintro e w3 ⟨rfl, hb3⟩
  have HB3 := Lib.hid hb3
  go_wp2_with fail
  refine (HT2.out _ hb3).mono ?_
  rintro e w4 ⟨rfl, hb4⟩
  have HB4 : Hid (Below w2.heap.size w2 w4) := HB3.out.trans (hb4.mono HB3.out.size)
  clear hb3 hb4 HT1 HT2
  go_wp2_with fail
  clear hneT
  obtain ⟨w5, hw5⟩ : ∃ w5, w4.alloc (.cells #[.int .i64 at', .int .i64 (bits .and .i64 at' 15)] 3) = w5 := ⟨_, rfl⟩
  have H2 : Hid (∀ j, j < 2 → ∃ x : Int, w5.cell? ⟨w4.heap.size, j, none⟩ = some (.int .i64 x)) := fun j hj => by rw [← hw5]; exact two_ints w4 _ _ _ j hj
  have hb5 : Below w4.heap.size w4 w5 := by rw [← hw5]; exact Below.new1 w4 _
  have hz5 : w4.heap.size < w5.heap.size := by rw [← hw5]; simp
  have HB5 : Hid (Below w2.heap.size w2 w5) := HB4.out.trans (hb5.mono HB4.out.size)
  rw [hw5]
  clear hw5 hb5 HB3 HB4
  go_loopw [38] (fun v wr => ∃ j : Nat, v = .int .i64 j ∧ j ≤ 2 ∧ Hid (Below w5.heap.size w5 wr)) (fun v _ => 2 - (intOf v).toNat)
  case atStart => exact ⟨0, rfl, by omega, Below.refl _ _⟩
  case round =>
    obtain ⟨j, rfl, hj, HB⟩ := hrel
    rename World => v1
    by_cases hend : j = 2
    · subst hend
      go_wp2_with fail
      go_ret
      exact ⟨rfl, (B2.out.trans (HB5.out.mono B2.out.size)).trans (HB.out.mono (by have h1 := B2.out.size; have h2 := HB5.out.size; omega))⟩
    have hj2 : j < 2 := by omega
    have hj2' : (j : Int) < 2 := by omega
    have j0 : (0 : Int) ≤ (j : Int) := by omega
    obtain ⟨i, hi5⟩ := H2.out j hj2
    have hci : v1.cell? ⟨w4.heap.size, j, none⟩ = some (.int .i64 i) := by rw [HB.out.cell (by exact hz5)]; exact hi5
    have HB1 : Hid (Below w2.heap.size w2 v1) := HB5.out.trans (HB.out.mono HB5.out.size)
    have hv1 := HB1.out.size
    obtain ⟨ps, er, hps5, hpall, hP1, hP2⟩ := path_both i (some ⟨g, 0, none⟩) N cap ds v1 (HRD.out.below HB1.out hv1) (by omega) hcap hcm (HK2.out.below HB1.out hw2)
    have HP1 := Lib.hid (hP1 v1 (Below.refl _ _))
    have HP2 := Lib.hid hP2
    have HPALL := Lib.hid hpall
    clear hP1 hP2 hpall hi5 hend
    go_wp2_with fail
    refine HP1.out.mono ?_
    rintro e w6 ⟨A1, m1, c1, rfl, hr1, hm1, hc1, hb6⟩
    have HR1 := Lib.hid hr1
    have HB6 := Lib.hid hb6
    clear hr1 hb6 hci
    go_wp2_with fail
    refine (HP2.out _ HB6.out).mono ?_
    rintro e w7 ⟨A2, m2, c2, rfl, hr2, hm2, hc2, hb7⟩
    have hm25 : m2 ≤ 5 := by have h := hr2.1; omega
    have HSM := Lib.hid (refsame_any A1 A2 m1 m2 c1 c2 ps w7 (HR1.out.below hb7 hb7.size) hr2 (by have h := HR1.out.1; omega))
    have HR2 := Lib.hid hr2
    have HB7 : Hid (Below v1.heap.size v1 w7) := HB6.out.trans (hb7.mono HB6.out.size)
    clear hr2 hb7 HP1 HP2 HR1 HB6
    go_wp2_with fail
    refine HSM.out.mono ?_
    rintro e w8 ⟨rfl, hb8⟩
    have HR8 := Lib.hid (HR2.out.below hb8 hb8.size)
    have HB8 : Hid (Below v1.heap.size v1 w8) := HB7.out.trans (hb8.mono HB7.out.size)
    clear hb8 HSM HR2 HB7
    go_wp2_with fail
    obtain ⟨w9, hw9⟩ : ∃ w9, w8.alloc (.cells #[.int .i64 nn, .int .i64 (N : Int)] 3) = w9 := ⟨_, rfl⟩
    have H9 : Hid (∀ j, j < 2 → ∃ x : Int, w9.cell? ⟨w8.heap.size, j, none⟩ = some (.int .i64 x)) := fun j hj => by rw [← hw9]; exact two_ints w8 _ _ _ j hj
    have hb9 : Below w8.heap.size w8 w9 := by rw [← hw9]; exact Below.new1 w8 _
    have hz9 : w8.heap.size < w9.heap.size := by rw [← hw9]; simp
    have HB9 : Hid (Below v1.heap.size v1 w9) := HB8.out.trans (hb9.mono HB8.out.size)
    have HR9 := Lib.hid (HR8.out.below hb9 hb9.size)
    have HB29 : Hid (Below w2.heap.size w2 w9) := HB1.out.trans (HB9.out.mono hv1)
    rw [hw9]
    clear hw9 hb9 HR8 HB8
    go_loopw [68] (fun v wr => ∃ j : Nat, v = .int .i64 j ∧ j ≤ 2 ∧ Hid (Below w9.heap.size w9 wr)) (fun v _ => 2 - (intOf v).toNat)
    case atStart => exact ⟨0, rfl, by omega, Below.refl _ _⟩
    case round =>
      obtain ⟨k, rfl, hk, HBk⟩ := hrel
      rename World => v2
      by_cases hend : k = 2
      · subst hend
        go_wp2_with fail
        go_roundw
        case rel => exact ⟨j + 1, by go_num, by omega, HB.out.trans ((HB9.out.trans (HBk.out.mono HB9.out.size)).mono HB.out.size)⟩
        case measure => simp [intOf]; omega
      have hk2 : k < 2 := by omega
      have hk2' : (k : Int) < 2 := by omega
      have k0 : (0 : Int) ≤ (k : Int) := by omega
      obtain ⟨m, hm9⟩ := H9.out k hk2
      have hcm' : v2.cell? ⟨w8.heap.size, k, none⟩ = some (.int .i64 m) := by rw [HBk.out.cell (by exact hz9)]; exact hm9
      have hv2 := HBk.out.size
      have HRk := Lib.hid (HR9.out.below HBk.out hv2)
      have HB2k : Hid (Below w2.heap.size w2 v2) := HB29.out.trans (HBk.out.mono HB29.out.size)
      have HDk := Lib.hid (HD2.out.below HB2k.out HD2.out.lt)
      have HKk := Lib.hid (HK2.out.below HB2k.out hw2)
      have h2c : m2 / 2 ≤ m2 := Nat.div_le_self _ _
      obtain ⟨hq, hhq⟩ : ∃ hq, hq = m2 / 2 := ⟨_, rfl⟩
      rw [← hhq] at h2c
      have HWQ : Hid (IntKind.i64.wrap ((m2 : Int) / 2) = (hq : Int)) := by
        unfold Hid
        rw [IntWalk.i64_in _ (by omega), hhq]
        rfl
      have q0 : (0 : Int) ≤ (hq : Int) := by omega
      have q1 : (hq : Int) ≤ (c2 : Int) := by omega
      clear hhq
      clear hm9 hend
      go_wp2_with fail
      refine wp_region_held_drew (S := fun x => Below v2.heap.size v2 x) (by kernel_rfl) (Below.refl _ _).drew (fun hHeld => ?_)
      generalize v2.drew = X0 at hHeld ⊢
      have BX0 := Lib.hid hHeld
      refine wpAnyH_take (i := 0) (oi := ⟨some 72, _, _, _, _, _⟩) (v := ?_) rfl (by kernel_rfl) (by kernel_rfl) (by kernel_rfl) (fun _ _ _ h => h) (Or.inl ⟨by rfl, ?_⟩) (by assumption) ?_
      rotate_left
      · (intro w hSw; go_simp) <;> with_reducible rfl
      try simp only [Act.put, List.setIfInBounds_toArray, List.set_cons_zero, List.set_cons_succ]
      refine wpAnyH_take (i := 2) (oi := ⟨some 74, _, _, _, _, _⟩) (v := ?_) rfl (by kernel_rfl) (by kernel_rfl) (by kernel_rfl) (fun _ _ _ h => h) (Or.inl ⟨by rfl, ?_⟩) (by assumption) ?_
      rotate_left
      · (intro w hSw; go_simp) <;> with_reducible rfl
      try simp only [Act.put, List.setIfInBounds_toArray, List.set_cons_zero, List.set_cons_succ]
      refine wpAnyH_take (i := 4) (oi := ⟨some 76, _, _, _, _, _⟩) rfl (by kernel_rfl) (by kernel_rfl) (by kernel_rfl) (fun _ _ _ h => h) (yieldsIf_load_mid (by rfl) _ _ rfl w.heap.size 0 rfl _ _ (fun w' h => range_below (DRow.range HDk.out) h HDk.out.lt) Tryd.underlying26 rfl HLI.out) (by assumption) ?_
      try simp only [Act.put, List.setIfInBounds_toArray, List.set_cons_zero, List.set_cons_succ]
      refine wpAnyH_take (i := 7) (oi := ⟨some 79, _, _, _, _, _⟩) (v := ?_) rfl (by kernel_rfl) (by kernel_rfl) (by kernel_rfl) (fun _ _ _ h => h) (Or.inl ⟨by rfl, ?_⟩) (by assumption) ?_
      rotate_left
      · (intro w hSw; go_simp) <;> with_reducible rfl
      try simp only [Act.put, List.setIfInBounds_toArray, List.set_cons_zero, List.set_cons_succ]
      refine wpAnyH_take (i := 8) (oi := ⟨some 80, _, _, _, _, _⟩) (v := ?_) rfl (by kernel_rfl) (by kernel_rfl) (by kernel_rfl) (fun _ _ _ h => h) (Or.inl ⟨by rfl, ?_⟩) (by assumption) ?_
      rotate_left
      · (intro w hSw; go_simp) <;> with_reducible rfl
      try simp only [Act.put, List.setIfInBounds_toArray, List.set_cons_zero, List.set_cons_succ]
      refine wpAnyH_take (i := 9) (oi := ⟨some 81, _, _, _, _, _⟩) (v := ?_) rfl (by kernel_rfl) (by kernel_rfl) (by kernel_rfl) (fun _ _ _ h => h) (Or.inl ⟨by rfl, ?_⟩) (by assumption) ?_
      rotate_left
      · (intro w hSw; go_simp) <;> with_reducible rfl
      try simp only [Act.put, List.setIfInBounds_toArray, List.set_cons_zero, List.set_cons_succ]
      refine wpAnyH_take (i := 10) (oi := ⟨some 82, _, _, _, _, _⟩) (v := ?_) rfl (by kernel_rfl) (by kernel_rfl) (by kernel_rfl) (fun _ _ _ h => h) (Or.inl ⟨by rfl, ?_⟩) (by assumption) ?_
      rotate_left
      · (intro w hSw; go_simp) <;> with_reducible rfl
      try simp only [Act.put, List.setIfInBounds_toArray, List.set_cons_zero, List.set_cons_succ]
      simp only [HWQ.out]
      refine wpAnyH_take (i := 11) (oi := ⟨some 83, _, _, _, _, _⟩) (v := ?_) rfl (by kernel_rfl) (by kernel_rfl) (by kernel_rfl) (fun _ _ _ h => h) (Or.inl ⟨by rfl, ?_⟩) (by assumption) ?_
      rotate_left
      · (intro w hSw; go_simp) <;> with_reducible rfl
      try simp only [Act.put, List.setIfInBounds_toArray, List.set_cons_zero, List.set_cons_succ]
      refine wpAnyH_take (i := 14) (oi := ⟨some 86, _, _, _, _, _⟩) (v := ?_) rfl (by kernel_rfl) (by kernel_rfl) (by kernel_rfl) (fun _ _ _ h => h) (Or.inl ⟨by rfl, ?_⟩) (by assumption) ?_
      rotate_left
      · (intro w hSw; go_simp) <;> with_reducible rfl
      try simp only [Act.put, List.setIfInBounds_toArray, List.set_cons_zero, List.set_cons_succ]
      show wpAnyH _ _ _ ?Qhfin _ _ _ ?ahfin _
      have hfin : ∀ (v73 v75 v77 v78 : Value) (gR cR G : Nat) (u : World), Hid (Owns u v2.heap.size 26 32 gR (m2 + 1) cR (flatD ps ++ bytesV d)) → (u.cell? ⟨G, 0, none⟩ = some (.slice A2 m2 c2) ∧ u.cell? ⟨G, 1, none⟩ = some (.slice (some ⟨gR, 0, none⟩) (m2 + 1) cR) ∧ u.cell? ⟨G, 2, none⟩ = some (.slice A2 hq c2)) → G < u.heap.size → Hid (Below v2.heap.size v2 u) → ?Qhfin .normal (Act.put (Act.put (Act.put (Act.put (Act.put (Act.put (Act.put ?ahfin (some 73) v73) (some 75) v75) (some 77) v77) (some 78) v78) (some 84) (.slice (some ⟨G, 0, none⟩) 3 3)) (some 85) (.int .i64 3)) (some 86) (.int .i64 0)) u := by
        intro v73 v75 v77 v78 gR cR G u HOR h3 hGl HBu
        simp only [Act.put, List.setIfInBounds_toArray, List.set_cons_zero, List.set_cons_succ]
        clear hHeld
        have hu := HBu.out.size
        have hor := HOR.out
        rw [← flatD_one, ← flatD_append] at hor
        obtain ⟨hrr, hcr1, hcr2⟩ := OwnsN.rdd (.inr ⟨gR, rfl, hor⟩) (by
          intro x hx
          rcases List.mem_append.1 hx with h | h
          · exact HPALL.out x h
          · rw [List.mem_singleton.1 h]; exact HDL.out)
        have H3 : Hid (∀ j, j < 3 → ∃ (A' : Option Addr) (n' c' : Nat) (xs : List D), u.cell? ⟨G, j, none⟩ = some (.slice A' n' c') ∧ RdD u u.heap.size A' n' xs ∧ n' ≤ c' ∧ c' ≤ maxLen) := fun j hj => by
          match j, hj with
          | 0, _ => exact ⟨A2, m2, c2, ps, h3.1, HRk.out.below HBu.out hu, hm2, hc2⟩
          | 1, _ => exact ⟨_, m2 + 1, cR, _, h3.2.1, hrr, hcr1, hcr2⟩
          | 2, _ => exact ⟨A2, hq, c2, ps.take hq, h3.2.2, (HRk.out.below HBu.out hu).take (by omega), by omega, hc2⟩
        have HDu := Lib.hid (HDk.out.below HBu.out HDk.out.lt)
        have HKu := Lib.hid (HKk.out.below HBu.out (by omega))
        clear hor hrr hcr1 hcr2 HOR h3
        go_wp2_with fail
        go_loopw [86] (fun v wr => ∃ l : Nat, v = .int .i64 l ∧ l ≤ 3 ∧ Hid (Below u.heap.size u wr)) (fun v _ => 3 - (intOf v).toNat)
        case atStart => exact ⟨0, rfl, by omega, Below.refl _ _⟩
        case round =>
          obtain ⟨l, rfl, hl, HBl⟩ := hrel
          by_cases hend : l = 3
          · subst hend
            go_wp2_with fail
            go_roundw
            case rel => exact ⟨k + 1, by go_num, by omega, HBk.out.trans ((HBu.out.trans (HBl.out.mono hu)).mono hv2)⟩
            case measure => simp [intOf]; omega
          have hl3 : l < 3 := by omega
          have hl3' : (l : Int) < 3 := by omega
          have l0 : (0 : Int) ≤ (l : Int) := by omega
          obtain ⟨A3, n3, c3, xs, hx3, hr3, hn3, hc3⟩ := H3.out l hl3
          have zr := HBl.out.size
          have hcx : wr.cell? ⟨G, l, none⟩ = some (.slice A3 n3 c3) := by rw [HBl.out.cell (by exact hGl)]; exact hx3
          obtain ⟨x, er2, hxl, hC1, hC2⟩ := climb_both i m A3 n3 c3 d xs wr HDL.out (hr3.below HBl.out zr) hn3 hc3 (HKu.out.below HBl.out (by omega))
          have HC1 := Lib.hid (hC1 wr (Below.refl _ _))
          have HC2 := Lib.hid hC2
          have HXL := Lib.hid hxl
          have HXI := Lib.hid (dg_info x hxl)
          have HXS := Lib.hid (dg_size x hxl)
          have HDR := Lib.hid (HDu.out.below HBl.out HDu.out.lt)
          have hneX : ∀ u : World, (binOp .neq 26 (.agg (bytesV x).toArray) (.agg (bytesV x).toArray)).run Tryd.prog u = .ok (.bool false) u := fun u => by rw [run_neq_dg u x x hxl hxl, beq_self_eq_true]; rfl
          clear hC1 hC2 hxl hx3 hr3 hend
          go_wp2_with (first
            | (refine wpList_load_mid rfl 26 _ rfl w.heap.size 0 rfl _ _ (DRow.range HDR.out) Tryd.underlying26 rfl HLI.out ?_))
          refine HC1.out.mono ?_
          rintro e u1 ⟨rfl, b1⟩
          obtain ⟨u2, hu2⟩ : ∃ u2, u1.alloc (.cells (bytesV x).toArray 26) = u2 := ⟨_, rfl⟩
          have hb2 : Below wr.heap.size wr u2 := by rw [← hu2]; exact b1.trans ((Below.new1 u1 _).mono b1.size)
          have hx2 : DRow u2 u1.heap.size x := by rw [← hu2]; exact heap_alloc_new _ _
          have HU2 := Lib.hid hu2
          have HB2' := Lib.hid hb2
          have HX2 := Lib.hid hx2
          have HDR2 := Lib.hid (HDR.out.below hb2 HDR.out.lt)
          clear hu2 hb2 hx2 b1 HC1
          go_wp2_with (first
            | (refine wpList_store_row rfl 26 _ _ rfl _ _ rfl rfl _ _ (heap_alloc_new _ _) HXI.out (z32_size _ HXL.out) (bytesV_all _) ?_; rw [World.setRow_alloc_new, HU2.out])
            | (refine wpList_load_mid rfl 26 _ rfl w.heap.size 0 rfl _ _ (DRow.range HDR2.out) Tryd.underlying26 rfl HLI.out ?_))
          refine (HC2.out _ HB2'.out).mono ?_
          rintro e u3 ⟨rfl, b3⟩
          obtain ⟨u4, hu4⟩ : ∃ u4, u3.alloc (.cells (bytesV x).toArray 26) = u4 := ⟨_, rfl⟩
          have hb4 : Below u2.heap.size u2 u4 := by rw [← hu4]; exact b3.trans ((Below.new1 u3 _).mono b3.size)
          have hx4 : DRow u4 u3.heap.size x := by rw [← hu4]; exact heap_alloc_new _ _
          have HU4 := Lib.hid hu4
          have HB4 : Hid (Below wr.heap.size wr u4) := HB2'.out.trans (hb4.mono HB2'.out.size)
          have HX4 := Lib.hid hx4
          have HX24 := Lib.hid (HX2.out.below hb4 HX2.out.lt)
          clear hu4 hb4 hx4 b3 HC2
          go_wp2_with (first
            | (refine wpList_store_row rfl 26 _ _ rfl _ _ rfl rfl _ _ (heap_alloc_new _ _) HXI.out (z32_size _ HXL.out) (bytesV_all _) ?_; rw [World.setRow_alloc_new, HU4.out])
            | (refine wpList_load_mid rfl 26 _ rfl u1.heap.size 0 rfl _ _ (DRow.range HX24.out) Tryd.underlying26 rfl HXS.out ?_)
            | (refine wpList_load_mid rfl 26 _ rfl u3.heap.size 0 rfl _ _ (DRow.range HX4.out) Tryd.underlying26 rfl HXS.out ?_))
          go_roundw
          case rel => exact ⟨l + 1, by go_num, by omega, HBl.out.trans (HB4.out.mono zr)⟩
          case measure => simp [intOf]; omega
      simp only [Act.put, List.setIfInBounds_toArray, List.set_cons_zero, List.set_cons_succ] at hfin
      refine wpAnyH_ready (rs := [1, 5]) (by kernel_rfl) (by simp) ?_
      refine AllReadyH.cons (o := ⟨some 73, _, _, _, _, _⟩) rfl (fun K hK => ?_) ?_
      · go_simp
        refine hK.out _ _ (hHeld.alloc BX0.out.size _) (fun hHeld => ?_)
        clear hK K
        try simp only [Act.put, List.setIfInBounds_toArray, List.set_cons_zero, List.set_cons_succ]
        have FEX1 : Owns (X0.alloc (.cells #[] 26)) v2.heap.size 26 32 X0.heap.size 0 0 [] := owns0 _ _ BX0.out.size
        have RX1 : Below X0.heap.size X0 (X0.alloc (.cells #[] 26)) := (Below.refl _ _).alloc (Nat.le_refl _) _
        generalize (X0.alloc (.cells #[] 26)) = X1 at hHeld FEX1 RX1 ⊢
        have BX1 := Lib.hid hHeld
        replace FEX1 := Lib.hid FEX1
        replace RX1 := Lib.hid RX1
        refine wpAnyH_ready (rs := [3, 5]) (by kernel_rfl) (by simp) ?_
        refine AllReadyH.cons (o := ⟨some 75, _, _, _, _, _⟩) rfl (fun K hK => ?_) ?_
        · refine step_append_owns _ rfl (.tmp 73) (.tmp 74) 30 30 rfl v2.heap.size 26 iD _ 32 32 Tryd.underlying30 hiD hzD h1D h2D rfl X0.heap.size 0 0 [] rfl FEX1.out _ rfl m2 (flatD ps) ((HRk.out.below BX1.out BX1.out.size).src) (by unfold maxLen; omega) (by omega) BX1.out.size ?_
          intro g3_X2 c3_X2 X2 FMX2 TX2 GX2
          simp only [Nat.zero_add, List.nil_append] at FMX2 ⊢
          refine hK.out _ _ (BX1.out.trans (TX2.out.below (B := v2.heap.size) FEX1.out.2.1 FEX1.out.lt)) (fun hHeld => ?_)
          clear hK K
          try simp only [Act.put, List.setIfInBounds_toArray, List.set_cons_zero, List.set_cons_succ]
          have BX2 := Lib.hid hHeld
          refine wpAnyH_ready (rs := [5]) (by kernel_rfl) (by simp) ?_
          refine AllReadyH.cons (o := ⟨some 77, _, _, _, _, _⟩) rfl (fun K hK => ?_) ?_
          · go_simp
            refine hK.out _ _ (hHeld.alloc BX2.out.size _) (fun hHeld => ?_)
            clear hK K
            try simp only [Act.put, List.setIfInBounds_toArray, List.set_cons_zero, List.set_cons_succ]
            have FDX3 : DRow (X2.alloc (.cells (bytesV d).toArray 26)) X2.heap.size d := heap_alloc_new X2 _
            have RX3 : Below X2.heap.size X2 (X2.alloc (.cells (bytesV d).toArray 26)) := (Below.refl _ _).alloc (Nat.le_refl _) _
            generalize (X2.alloc (.cells (bytesV d).toArray 26)) = X3 at hHeld FDX3 RX3 ⊢
            have BX3 := Lib.hid hHeld
            replace FDX3 := Lib.hid FDX3
            replace RX3 := Lib.hid RX3
            have FMX3 := Lib.hid (FMX2.out.keep ((RX3.out).block _ FMX2.out.lt))
            have ne_D_M : X2.heap.size ≠ g3_X2 := fun h => by have := FMX2.out.lt; omega
            have ne_M_D := ne_D_M.symm
            refine wpAnyH_ready (rs := [6]) (by kernel_rfl) (by simp) ?_
            refine AllReadyH.cons (o := ⟨some 78, _, _, _, _, _⟩) rfl (fun K hK => ?_) ?_
            · refine step_append_owns _ rfl (.tmp 75) (.tmp 77) 30 30 rfl v2.heap.size 26 iD _ 32 32 Tryd.underlying30 hiD hzD h1D h2D rfl g3_X2 m2 c3_X2 (flatD ps) rfl FMX3.out _ rfl 1 (bytesV d) (FDX3.out.src1 HDL.out) (by unfold maxLen; omega) (by omega) BX3.out.size ?_
              intro g6_X4 c6_X4 X4 FRX4 TX4 GX4
              refine hK.out _ _ (BX3.out.trans (TX4.out.below (B := v2.heap.size) FMX3.out.2.1 FMX3.out.lt)) (fun hHeld => ?_)
              clear hK K
              try simp only [Act.put, List.setIfInBounds_toArray, List.set_cons_zero, List.set_cons_succ]
              have BX4 := Lib.hid hHeld
              refine wpAnyH_ready (rs := [12]) (by kernel_rfl) (by simp) ?_
              refine AllReadyH.cons (o := ⟨some 84, _, _, _, _, _⟩) rfl (fun K hK => ?_) ?_
              · go_simp
                refine hK.out _ _ (hHeld.alloc BX4.out.size _) (fun hHeld => ?_)
                clear hK K
                try simp only [Act.put, List.setIfInBounds_toArray, List.set_cons_zero, List.set_cons_succ]
                have h3 := three_slices X4 (.slice A2 m2 c2) (.slice (some ⟨g6_X4, 0, none⟩) (m2 + 1) c6_X4) (.slice A2 hq c2) 30
                have RX5 : Below X4.heap.size X4 (X4.alloc (.cells #[.slice A2 m2 c2, .slice (some ⟨g6_X4, 0, none⟩) (m2 + 1) c6_X4, .slice A2 hq c2] 30)) := (Below.refl _ _).alloc (Nat.le_refl _) _
                have hlh3 : X4.heap.size < (X4.alloc (.cells #[.slice A2 m2 c2, .slice (some ⟨g6_X4, 0, none⟩) (m2 + 1) c6_X4, .slice A2 hq c2] 30)).heap.size := by simp
                generalize (X4.alloc (.cells #[.slice A2 m2 c2, .slice (some ⟨g6_X4, 0, none⟩) (m2 + 1) c6_X4, .slice A2 hq c2] 30)) = X5 at hHeld h3 RX5 hlh3 ⊢
                have BX5 := Lib.hid hHeld
                replace RX5 := Lib.hid RX5
                have FRX5 := Lib.hid (FRX4.out.keep ((RX5.out).block _ FRX4.out.lt))
                refine wpAnyH_take (i := 13) (oi := ⟨some 85, _, _, _, _, _⟩) (v := ?_) rfl (by kernel_rfl) (by kernel_rfl) (by kernel_rfl) (fun _ _ _ h => h) (Or.inl ⟨by rfl, ?_⟩) (by assumption) ?_
                rotate_left
                · (intro w hSw; go_simp) <;> with_reducible rfl
                try simp only [Act.put, List.setIfInBounds_toArray, List.set_cons_zero, List.set_cons_succ]
                refine wpAnyH_done (by kernel_rfl) ?_ _
                exact hfin _ _ _ _ _ _ _ _ FRX5 h3 hlh3 BX5
              exact AllReadyH.nil
            exact AllReadyH.nil
          exact AllReadyH.nil
        refine AllReadyH.cons (o := ⟨some 77, _, _, _, _, _⟩) rfl (fun K hK => ?_) ?_
        · go_simp
          refine hK.out _ _ (hHeld.alloc BX1.out.size _) (fun hHeld => ?_)
          clear hK K
          try simp only [Act.put, List.setIfInBounds_toArray, List.set_cons_zero, List.set_cons_succ]
          have FDX6 : DRow (X1.alloc (.cells (bytesV d).toArray 26)) X1.heap.size d := heap_alloc_new X1 _
          have RX6 : Below X1.heap.size X1 (X1.alloc (.cells (bytesV d).toArray 26)) := (Below.refl _ _).alloc (Nat.le_refl _) _
          generalize (X1.alloc (.cells (bytesV d).toArray 26)) = X6 at hHeld FDX6 RX6 ⊢
          have BX6 := Lib.hid hHeld
          replace FDX6 := Lib.hid FDX6
          replace RX6 := Lib.hid RX6
          have FEX6 := Lib.hid (FEX1.out.keep ((RX6.out).block _ FEX1.out.lt))
          have ne_D_E : X1.heap.size ≠ X0.heap.size := fun h => by have := FEX1.out.lt; omega
          have ne_E_D := ne_D_E.symm
          refine wpAnyH_ready (rs := [3]) (by kernel_rfl) (by simp) ?_
          refine AllReadyH.cons (o := ⟨some 75, _, _, _, _, _⟩) rfl (fun K hK => ?_) ?_
          · refine step_append_owns _ rfl (.tmp 73) (.tmp 74) 30 30 rfl v2.heap.size 26 iD _ 32 32 Tryd.underlying30 hiD hzD h1D h2D rfl X0.heap.size 0 0 [] rfl FEX6.out _ rfl m2 (flatD ps) ((HRk.out.below BX6.out BX6.out.size).src) (by unfold maxLen; omega) (by omega) BX6.out.size ?_
            intro g3_X7 c3_X7 X7 FMX7 TX7 GX7
            simp only [Nat.zero_add, List.nil_append] at FMX7 ⊢
            refine hK.out _ _ (BX6.out.trans (TX7.out.below (B := v2.heap.size) FEX6.out.2.1 FEX6.out.lt)) (fun hHeld => ?_)
            clear hK K
            try simp only [Act.put, List.setIfInBounds_toArray, List.set_cons_zero, List.set_cons_succ]
            have BX7 := Lib.hid hHeld
            have FDX7 := Lib.hid (FDX6.out.keep ((TX7.out).block _ FDX6.out.lt (by simp only [ne_eq, Option.some.injEq]; have h := ne_D_E; omega)))
            have ne_M_D : g3_X7 ≠ X1.heap.size := fun h => by
              have h1 := GX7.out
              have h2 := FDX6.out.lt
              have h3 := ne_E_D
              omega
            have ne_D_M := ne_M_D.symm
            refine wpAnyH_ready (rs := [6]) (by kernel_rfl) (by simp) ?_
            refine AllReadyH.cons (o := ⟨some 78, _, _, _, _, _⟩) rfl (fun K hK => ?_) ?_
            · refine step_append_owns _ rfl (.tmp 75) (.tmp 77) 30 30 rfl v2.heap.size 26 iD _ 32 32 Tryd.underlying30 hiD hzD h1D h2D rfl g3_X7 m2 c3_X7 (flatD ps) rfl FMX7.out _ rfl 1 (bytesV d) (FDX7.out.src1 HDL.out) (by unfold maxLen; omega) (by omega) BX7.out.size ?_
              intro g6_X8 c6_X8 X8 FRX8 TX8 GX8
              refine hK.out _ _ (BX7.out.trans (TX8.out.below (B := v2.heap.size) FMX7.out.2.1 FMX7.out.lt)) (fun hHeld => ?_)
              clear hK K
              try simp only [Act.put, List.setIfInBounds_toArray, List.set_cons_zero, List.set_cons_succ]
              have BX8 := Lib.hid hHeld
              refine wpAnyH_ready (rs := [12]) (by kernel_rfl) (by simp) ?_
              refine AllReadyH.cons (o := ⟨some 84, _, _, _, _, _⟩) rfl (fun K hK => ?_) ?_
              · go_simp
                refine hK.out _ _ (hHeld.alloc BX8.out.size _) (fun hHeld => ?_)
                clear hK K
                try simp only [Act.put, List.setIfInBounds_toArray, List.set_cons_zero, List.set_cons_succ]
                have h3 := three_slices X8 (.slice A2 m2 c2) (.slice (some ⟨g6_X8, 0, none⟩) (m2 + 1) c6_X8) (.slice A2 hq c2) 30
                have RX9 : Below X8.heap.size X8 (X8.alloc (.cells #[.slice A2 m2 c2, .slice (some ⟨g6_X8, 0, none⟩) (m2 + 1) c6_X8, .slice A2 hq c2] 30)) := (Below.refl _ _).alloc (Nat.le_refl _) _
                have hlh3 : X8.heap.size < (X8.alloc (.cells #[.slice A2 m2 c2, .slice (some ⟨g6_X8, 0, none⟩) (m2 + 1) c6_X8, .slice A2 hq c2] 30)).heap.size := by simp
                generalize (X8.alloc (.cells #[.slice A2 m2 c2, .slice (some ⟨g6_X8, 0, none⟩) (m2 + 1) c6_X8, .slice A2 hq c2] 30)) = X9 at hHeld h3 RX9 hlh3 ⊢
                have BX9 := Lib.hid hHeld
                replace RX9 := Lib.hid RX9
                have FRX9 := Lib.hid (FRX8.out.keep ((RX9.out).block _ FRX8.out.lt))
                refine wpAnyH_take (i := 13) (oi := ⟨some 85, _, _, _, _, _⟩) (v := ?_) rfl (by kernel_rfl) (by kernel_rfl) (by kernel_rfl) (fun _ _ _ h => h) (Or.inl ⟨by rfl, ?_⟩) (by assumption) ?_
                rotate_left
                · (intro w hSw; go_simp) <;> with_reducible rfl
                try simp only [Act.put, List.setIfInBounds_toArray, List.set_cons_zero, List.set_cons_succ]
                refine wpAnyH_done (by kernel_rfl) ?_ _
                exact hfin _ _ _ _ _ _ _ _ FRX9 h3 hlh3 BX9
              exact AllReadyH.nil
            exact AllReadyH.nil
          exact AllReadyH.nil
        exact AllReadyH.nil
      refine AllReadyH.cons (o := ⟨some 77, _, _, _, _, _⟩) rfl (fun K hK => ?_) ?_
      · go_simp
        refine hK.out _ _ (hHeld.alloc BX0.out.size _) (fun hHeld => ?_)
        clear hK K
        try simp only [Act.put, List.setIfInBounds_toArray, List.set_cons_zero, List.set_cons_succ]
        have FDX10 : DRow (X0.alloc (.cells (bytesV d).toArray 26)) X0.heap.size d := heap_alloc_new X0 _
        have RX10 : Below X0.heap.size X0 (X0.alloc (.cells (bytesV d).toArray 26)) := (Below.refl _ _).alloc (Nat.le_refl _) _
        generalize (X0.alloc (.cells (bytesV d).toArray 26)) = X10 at hHeld FDX10 RX10 ⊢
        have BX10 := Lib.hid hHeld
        replace FDX10 := Lib.hid FDX10
        replace RX10 := Lib.hid RX10
        refine wpAnyH_ready (rs := [1]) (by kernel_rfl) (by simp) ?_
        refine AllReadyH.cons (o := ⟨some 73, _, _, _, _, _⟩) rfl (fun K hK => ?_) ?_
        · go_simp
          refine hK.out _ _ (hHeld.alloc BX10.out.size _) (fun hHeld => ?_)
          clear hK K
          try simp only [Act.put, List.setIfInBounds_toArray, List.set_cons_zero, List.set_cons_succ]
          have FEX11 : Owns (X10.alloc (.cells #[] 26)) v2.heap.size 26 32 X10.heap.size 0 0 [] := owns0 _ _ BX10.out.size
          have RX11 : Below X10.heap.size X10 (X10.alloc (.cells #[] 26)) := (Below.refl _ _).alloc (Nat.le_refl _) _
          generalize (X10.alloc (.cells #[] 26)) = X11 at hHeld FEX11 RX11 ⊢
          have BX11 := Lib.hid hHeld
          replace FEX11 := Lib.hid FEX11
          replace RX11 := Lib.hid RX11
          have FDX11 := Lib.hid (FDX10.out.keep ((RX11.out).block _ FDX10.out.lt))
          have ne_E_D : X10.heap.size ≠ X0.heap.size := fun h => by have := FDX10.out.lt; omega
          have ne_D_E := ne_E_D.symm
          refine wpAnyH_ready (rs := [3]) (by kernel_rfl) (by simp) ?_
          refine AllReadyH.cons (o := ⟨some 75, _, _, _, _, _⟩) rfl (fun K hK => ?_) ?_
          · refine step_append_owns _ rfl (.tmp 73) (.tmp 74) 30 30 rfl v2.heap.size 26 iD _ 32 32 Tryd.underlying30 hiD hzD h1D h2D rfl X10.heap.size 0 0 [] rfl FEX11.out _ rfl m2 (flatD ps) ((HRk.out.below BX11.out BX11.out.size).src) (by unfold maxLen; omega) (by omega) BX11.out.size ?_
            intro g3_X12 c3_X12 X12 FMX12 TX12 GX12
            simp only [Nat.zero_add, List.nil_append] at FMX12 ⊢
            refine hK.out _ _ (BX11.out.trans (TX12.out.below (B := v2.heap.size) FEX11.out.2.1 FEX11.out.lt)) (fun hHeld => ?_)
            clear hK K
            try simp only [Act.put, List.setIfInBounds_toArray, List.set_cons_zero, List.set_cons_succ]
            have BX12 := Lib.hid hHeld
            have FDX12 := Lib.hid (FDX11.out.keep ((TX12.out).block _ FDX11.out.lt (by simp only [ne_eq, Option.some.injEq]; have h := ne_D_E; omega)))
            have ne_M_D : g3_X12 ≠ X0.heap.size := fun h => by
              have h1 := GX12.out
              have h2 := FDX11.out.lt
              have h3 := ne_E_D
              omega
            have ne_D_M := ne_M_D.symm
            refine wpAnyH_ready (rs := [6]) (by kernel_rfl) (by simp) ?_
            refine AllReadyH.cons (o := ⟨some 78, _, _, _, _, _⟩) rfl (fun K hK => ?_) ?_
            · refine step_append_owns _ rfl (.tmp 75) (.tmp 77) 30 30 rfl v2.heap.size 26 iD _ 32 32 Tryd.underlying30 hiD hzD h1D h2D rfl g3_X12 m2 c3_X12 (flatD ps) rfl FMX12.out _ rfl 1 (bytesV d) (FDX12.out.src1 HDL.out) (by unfold maxLen; omega) (by omega) BX12.out.size ?_
              intro g6_X13 c6_X13 X13 FRX13 TX13 GX13
              refine hK.out _ _ (BX12.out.trans (TX13.out.below (B := v2.heap.size) FMX12.out.2.1 FMX12.out.lt)) (fun hHeld => ?_)
              clear hK K
              try simp only [Act.put, List.setIfInBounds_toArray, List.set_cons_zero, List.set_cons_succ]
              have BX13 := Lib.hid hHeld
              refine wpAnyH_ready (rs := [12]) (by kernel_rfl) (by simp) ?_
              refine AllReadyH.cons (o := ⟨some 84, _, _, _, _, _⟩) rfl (fun K hK => ?_) ?_
              · go_simp
                refine hK.out _ _ (hHeld.alloc BX13.out.size _) (fun hHeld => ?_)
                clear hK K
                try simp only [Act.put, List.setIfInBounds_toArray, List.set_cons_zero, List.set_cons_succ]
                have h3 := three_slices X13 (.slice A2 m2 c2) (.slice (some ⟨g6_X13, 0, none⟩) (m2 + 1) c6_X13) (.slice A2 hq c2) 30
                have RX14 : Below X13.heap.size X13 (X13.alloc (.cells #[.slice A2 m2 c2, .slice (some ⟨g6_X13, 0, none⟩) (m2 + 1) c6_X13, .slice A2 hq c2] 30)) := (Below.refl _ _).alloc (Nat.le_refl _) _
                have hlh3 : X13.heap.size < (X13.alloc (.cells #[.slice A2 m2 c2, .slice (some ⟨g6_X13, 0, none⟩) (m2 + 1) c6_X13, .slice A2 hq c2] 30)).heap.size := by simp
                generalize (X13.alloc (.cells #[.slice A2 m2 c2, .slice (some ⟨g6_X13, 0, none⟩) (m2 + 1) c6_X13, .slice A2 hq c2] 30)) = X14 at hHeld h3 RX14 hlh3 ⊢
                have BX14 := Lib.hid hHeld
                replace RX14 := Lib.hid RX14
                have FRX14 := Lib.hid (FRX13.out.keep ((RX14.out).block _ FRX13.out.lt))
                refine wpAnyH_take (i := 13) (oi := ⟨some 85, _, _, _, _, _⟩) (v := ?_) rfl (by kernel_rfl) (by kernel_rfl) (by kernel_rfl) (fun _ _ _ h => h) (Or.inl ⟨by rfl, ?_⟩) (by assumption) ?_
                rotate_left
                · (intro w hSw; go_simp) <;> with_reducible rfl
                try simp only [Act.put, List.setIfInBounds_toArray, List.set_cons_zero, List.set_cons_succ]
                refine wpAnyH_done (by kernel_rfl) ?_ _
                exact hfin _ _ _ _ _ _ _ _ FRX14 h3 hlh3 BX14
              exact AllReadyH.nil
            exact AllReadyH.nil
          exact AllReadyH.nil
        exact AllReadyH.nil
      exact AllReadyH.nil
end Go.Proofs.YtfolmglafnfcbaaDoor
