/- The law DigestHalves, walked. -/
import Derived.Test.YtfolmglafnfcbaaDoorLawTags
import Derived.Test.YtfolmglafnfcbaaDoorDs
namespace Go.Proofs.YtfolmglafnfcbaaDoor
open Go.RowKit

theorem IsD.lt {w : World} {g : Nat} (h : IsD w g) : g < w.heap.size := by
  obtain ⟨o, h1, _⟩ := h
  exact (Array.getElem?_eq_some_iff.1 h1).1
theorem tree_small (ds : List D) (h : ds.length = 1) : tree ds = tagged [108, 101, 97, 102] (ds.getD 0 []) := by
  match ds, h with
  | [d], _ => exact tree_one d

/-- the bytes of one digest of a list -/
theorem RdD.bytes {w w' : World} {B b o n : Nat} {ds : List D} (h : RdD w B (some ⟨b, o, none⟩) n ds) (j : Nat) (d : D) (hj : ds[j]? = some d) (hb : Below B w w') : RdB w' B (some ⟨b, o + j * 32, none⟩) 32 d := by
  have hj' : j < ds.length := (List.getElem?_eq_some_iff.1 hj).1
  obtain ⟨b', o', e, hlt, hc⟩ := h.2.2 (by rw [h.1]; omega)
  injection e with e
  injection e with e1 e2
  subst e1 e2
  refine ⟨(h.2.1 d (List.mem_of_getElem? hj)).symm, fun _ => ⟨_, _, rfl, hlt, fun i u hu => ?_⟩⟩
  refine (hb.cell hlt).trans (hc j d hj i _ ?_)
  unfold bytesV
  rw [List.getElem?_map, hu]
  rfl

set_option maxRecDepth 100000 in
set_option maxHeartbeats 4000000 in
theorem law_halves (A : Option Addr) (n c : Nat) (bs : List UInt8) (w : World) (hr : RdB w w.heap.size A n bs) (hK : KOK w) :
    Calls Tryd.prog 7 #[.slice A n c] w fun e w' => e = .returned (.bool true) ∧ Below w.heap.size w w' := by
  have hK0 := hK.pos
  have HS := Lib.hid (sane_any w hK)
  have HR := Lib.hid hr
  have HK := Lib.hid hK
  clear hr hK
  go_enter Tryd.func7, Tryd.ntmps7
  go_wp2_with fail
  refine HS.out.mono ?_
  rintro e w1 ⟨rfl, hb1⟩
  have B1 := Lib.hid hb1
  have HR1 := Lib.hid (HR.out.below hb1 hb1.size)
  have z1 := hb1.size
  clear hb1
  go_wp2_with fail
  refine (ds_any A n c bs w1 HR1.out).mono ?_
  rintro e w2 ⟨g, N, cap, rfl, hN, hO, hb2⟩
  have hN24 : N ≤ 24 := by omega
  have B2 := Lib.hid (B1.out.trans (hb2.mono z1))
  have HO := Lib.hid hO
  have HK2 := Lib.hid (HK.out.below B2.out hK0)
  have z2 := hb2.size
  clear hN hO hb2 HR1 HR
  have hcap : N ≤ cap := HO.out.2.2.1
  have hcm : cap ≤ maxLen := HO.out.2.2.2.1
  obtain ⟨ds, hds⟩ : ∃ ds, ds = dsTo bs N := ⟨_, rfl⟩
  have hall : ∀ x ∈ ds, x.length = 32 := by rw [hds]; exact dsTo_all bs N
  have hlen : ds.length = N := by rw [hds]; exact dsTo_length bs N
  rw [← hds] at HO
  have hrd : RdD w2 w2.heap.size (some ⟨g, 0, none⟩) N ds := (OwnsN.rdd (.inr ⟨g, rfl, HO.out⟩) hall).1
  have HRD := Lib.hid hrd
  have HLEN := Lib.hid hlen
  have HALL := Lib.hid hall
  have HT := Lib.hid (tree_any (some ⟨g, 0, none⟩) N cap ds w2 hrd (by omega) hcap hcm HK2.out)
  have HTL := Lib.hid (tree_length ds)
  clear hds hrd hlen hall
  have hw2 : 0 < w2.heap.size := by omega
  have hgd : Tryd.prog.eqGuardType Tryd.prog.depth 26 = false := by kernel_rfl
  obtain ⟨dt, hdt⟩ : ∃ dt, dt = tree ds := ⟨_, rfl⟩
  have HDT := Lib.hid hdt
  rw [← hdt] at HT HTL
  clear hdt
  have heq1 : ∀ u : World, (binOp .eql 26 (.agg (bytesV dt).toArray) (.agg (bytesV dt).toArray)).run Tryd.prog u = .ok (.bool true) u := fun u => run_eql_same u dt HTL.out
  unfold dgV at HT
  by_cases h0 : N = 0
  · subst h0
    have HNIL : Hid (ds = []) := List.eq_nil_of_length_eq_zero HLEN.out
    go_wp2_with fail
    refine HT.out.mono ?_
    rintro e w3 ⟨rfl, hb3⟩
    have B3 := Lib.hid (B2.out.trans (hb3.mono (by omega)))
    have HE := Lib.hid (tagged_empty w3 (HK2.out.below hb3 hw2))
    rw [show tree [] = dt by rw [HDT.out, HNIL.out]] at HE
    unfold dgV at HE
    clear hb3
    go_wp2_with fail
    refine HE.out.mono ?_
    rintro e w4 ⟨rfl, hb4⟩
    go_wp2_with fail
    exact bodyPost_ret (v := .bool true) (by simp [results, Tryd.results7, go_sem]) rfl ⟨rfl, B3.out.trans (hb4.mono B3.out.size)⟩
  by_cases h1 : N = 1
  · subst h1
    obtain ⟨d, hd⟩ : ∃ d, ds = [d] := by
      have h := HLEN.out
      match ds, h with
      | [d], _ => exact ⟨d, rfl⟩
    have HD : Hid (tagged [108, 101, 97, 102] d = dt) := by
      unfold Hid
      rw [HDT.out, hd, tree_one]
    have HTT : Hid (∀ w', Below w2.heap.size w2 w' → Calls Tryd.prog 17 #[.slice (some ⟨g, 0, none⟩) 1 cap] w' fun e w'' => e = .returned (.agg (bytesV dt).toArray) ∧ Hid (Below w2.heap.size w2 w'')) := fun w' hb => by
      rw [HDT.out]
      exact (tree_any (some ⟨g, 0, none⟩) 1 cap ds w' (HRD.out.below hb hb.size) (by omega) hcap hcm (HK2.out.below hb hw2)).mono fun _ _ ⟨e, q⟩ => ⟨e, hb.trans (q.mono hb.size)⟩
    have HTG : Hid (∀ w', Below w2.heap.size w2 w' → Calls Tryd.prog 14 #[.string ⟨#[108, 101, 97, 102]⟩, .slice (some ⟨g, 0, none⟩) 32 32] w' fun e w'' => e = .returned (.agg (bytesV dt).toArray) ∧ Hid (Below w2.heap.size w2 w'')) := fun w' hb => by
      have hb' := hb.size
      have h := (HRD.out.bytes 0 d (by rw [hd]; rfl) hb).keep (w' := w') (B' := w'.heap.size) hb' (fun p _ => rfl)
      rw [Nat.zero_mul, Nat.add_zero] at h
      rw [← HD.out]
      exact (tagged_any ⟨#[108, 101, 97, 102]⟩ (some ⟨g, 0, none⟩) 32 32 d w' (by show (4 : Nat) ≤ _; omega) h (by omega) (HK2.out.below hb hw2)).mono fun _ _ ⟨e, q⟩ => ⟨e, hb.trans (q.mono hb')⟩
    clear hd
    go_wp2_with fail
    go_region_held3 (fun w' => Below w2.heap.size w2 w')
      (first | exact (Below.refl _ _).drew | exact HB3.out | exact HB4.out)
      (first
        | (go_at_call 17; with_reducible refine (HTT.out _ ‹Below w2.heap.size w2 _›).mono ?_; rintro e w3 ⟨rfl, HB3⟩)
        | (go_at_call 14; with_reducible refine (HTG.out _ ‹Below w2.heap.size w2 _›).mono ?_; rintro e w4 ⟨rfl, HB4⟩))
    all_goals go_wp2_with fail
    all_goals exact bodyPost_ret (v := .bool true) (by simp [results, Tryd.results7, go_sem]) rfl ⟨rfl, B2.out.trans (HB4.out.mono B2.out.size)⟩
  have hne0 : ((N : Int) == 0) = false := by rw [beq_eq_false_iff_ne]; omega
  have hne1 : ((N : Int) == 1) = false := by rw [beq_eq_false_iff_ne]; omega
  go_wp2_with fail
  go_loop [4] (fun i => ∃ k : Nat, i = .int .i64 k ∧ k < N ∧ Hid (∃ j, k = 2 ^ j)) (fun i => 24 - (intOf i).toNat)
  case atStart => exact ⟨1, rfl, by omega, 0, rfl⟩
  case round =>
    obtain ⟨k, rfl, hk, HJ⟩ := hrel
    by_cases h2k : 2 * k < N
    · have h2k' : 2 * (k : Int) < (N : Int) := by omega
      go_wp2_with fail
      go_round
      case rel =>
        refine ⟨k * 2, by go_num, by omega, ?_⟩
        obtain ⟨j, hj⟩ := HJ.out
        exact ⟨j + 1, by rw [hj, Nat.pow_succ]⟩
      case measure =>
        obtain ⟨j, hj⟩ := HJ.out
        have := Nat.pow_pos (n := j) (show 0 < 2 by omega)
        simp [intOf]
        omega
    · have h2k' : ¬ 2 * (k : Int) < (N : Int) := by omega
      have HH : Hid (k = half N) := by
        obtain ⟨j, hj⟩ := HJ.out
        exact half_uniq N k j (by omega) (by omega) hj hk (by omega)
      obtain ⟨L, hL⟩ : ∃ L, L = tree (ds.take k) := ⟨_, rfl⟩
      obtain ⟨R, hR⟩ : ∃ R, R = tree (ds.drop k) := ⟨_, rfl⟩
      have HL := Lib.hid hL
      have HR' := Lib.hid hR
      have hLl : L.length = 32 := by rw [hL]; exact tree_length _
      have hRl : R.length = 32 := by rw [hR]; exact tree_length _
      have HNODE : Hid (tagged [110, 111, 100, 101] (L ++ R) = dt) := by
        have hl := HLEN.out
        have h := tree_node ds (by omega) (by omega)
        rw [hl, ← HH.out, ← hL, ← hR] at h
        unfold Hid
        rw [HDT.out, h]
      have hcc : ¬ cap = k := by omega
      have i0 : (0 : Int) ≤ (k : Int) := by omega
      have i1 : (k : Int) ≤ (N : Int) := by omega
      have i2 : (k : Int) ≤ (cap : Int) := by omega
      have i3 : (N : Int) ≤ (cap : Int) := by omega
      have HTLc : Hid (∀ w', Below w2.heap.size w2 w' → Calls Tryd.prog 17 #[.slice (some ⟨g, 0, none⟩) k cap] w' fun e w'' => e = .returned (.agg (bytesV L).toArray) ∧ Hid (Below w2.heap.size w2 w'') ∧ Hid (Below w'.heap.size w' w'')) := fun w' hb => by
        rw [HL.out]
        exact (tree_any (some ⟨g, 0, none⟩) k cap _ w' ((HRD.out.take (by omega)).below hb hb.size) (by omega) (by omega) hcm (HK2.out.below hb hw2)).mono fun _ _ ⟨e, q⟩ => ⟨e, hb.trans (q.mono hb.size), q⟩
      have HTRc : Hid (∀ w', Below w2.heap.size w2 w' → Calls Tryd.prog 17 #[.slice (some ⟨g, k * 32, none⟩) (N - k) (cap - k)] w' fun e w'' => e = .returned (.agg (bytesV R).toArray) ∧ Hid (Below w2.heap.size w2 w'') ∧ Hid (Below w'.heap.size w' w'')) := fun w' hb => by
        rw [HR'.out]
        have h := (HRD.out.drop (m := k) (by omega)).below hb hb.size
        have e : (some ⟨g, 0, none⟩ : Option Addr).map (·.add (k * 32)) = some ⟨g, k * 32, none⟩ := by simp [add_lit']
        rw [e] at h
        exact (tree_any (some ⟨g, k * 32, none⟩) (N - k) (cap - k) _ w' h (by omega) (by omega) (by omega) (HK2.out.below hb hw2)).mono fun _ _ ⟨e, q⟩ => ⟨e, hb.trans (q.mono hb.size), q⟩
      have HLl := Lib.hid hLl
      have HRl := Lib.hid hRl
      clear hL hR hLl hRl h2k HJ
      go_wp2_with fail
      have hlL := bytesV_one L
      have hlR := bytesV_one R
      have hiL := dg_info L HLl.out
      have hiR := dg_info R HRl.out
      refine wp_region_held_drew (S := fun w' => Below w2.heap.size w2 w') (by kernel_rfl) (Below.refl _ _).drew (fun hHeld => ?_)
      show wpAnyH _ _ _ ?QQ _ _ _ ?aa _
      refine wpAnyH_take (i := 0) (oi := { dst := some 35, op := _, type := _, pos := _, after := _, guard := _ }) (v := ?_) rfl (by kernel_rfl) (by kernel_rfl) (by kernel_rfl) (fun _ _ _ h => h) (Or.inl ⟨by rfl, ?_⟩) (by assumption) ?_
      rotate_left
      · (intro w hSw; go_simp) <;> with_reducible rfl
      try simp only [Act.put, List.setIfInBounds_toArray, List.set_cons_zero, List.set_cons_succ]
      refine wpAnyH_take (i := 1) (oi := { dst := some 36, op := _, type := _, pos := _, after := _, guard := _ }) (v := ?_) rfl (by kernel_rfl) (by kernel_rfl) (by kernel_rfl) (fun _ _ _ h => h) (Or.inl ⟨by rfl, ?_⟩) (by assumption) ?_
      rotate_left
      · (intro w hSw; go_simp) <;> with_reducible rfl
      try simp only [Act.put, List.setIfInBounds_toArray, List.set_cons_zero, List.set_cons_succ]
      refine wpAnyH_take (i := 2) (oi := { dst := some 37, op := _, type := _, pos := _, after := _, guard := _ }) (v := ?_) rfl (by kernel_rfl) (by kernel_rfl) (by kernel_rfl) (fun _ _ _ h => h) (Or.inl ⟨by rfl, ?_⟩) (by assumption) ?_
      rotate_left
      · (intro w hSw; go_simp) <;> with_reducible rfl
      try simp only [Act.put, List.setIfInBounds_toArray, List.set_cons_zero, List.set_cons_succ]
      refine wpAnyH_take (i := 4) (oi := { dst := some 39, op := _, type := _, pos := _, after := _, guard := _ }) (v := ?_) rfl (by kernel_rfl) (by kernel_rfl) (by kernel_rfl) (fun _ _ _ h => h) (Or.inl ⟨by rfl, ?_⟩) (by assumption) ?_
      rotate_left
      · (intro w hSw; go_simp) <;> with_reducible rfl
      try simp only [Act.put, List.setIfInBounds_toArray, List.set_cons_zero, List.set_cons_succ]
      refine wpAnyH_take (i := 5) (oi := { dst := some 40, op := _, type := _, pos := _, after := _, guard := _ }) (v := ?_) rfl (by kernel_rfl) (by kernel_rfl) (by kernel_rfl) (fun _ _ _ h => h) (Or.inl ⟨by rfl, ?_⟩) (by assumption) ?_
      rotate_left
      · (intro w hSw; go_simp) <;> with_reducible rfl
      try simp only [Act.put, List.setIfInBounds_toArray, List.set_cons_zero, List.set_cons_succ]
      refine wpAnyH_take (i := 6) (oi := { dst := some 41, op := _, type := _, pos := _, after := _, guard := _ }) (v := ?_) rfl (by kernel_rfl) (by kernel_rfl) (by kernel_rfl) (fun _ _ _ h => h) (Or.inl ⟨by rfl, ?_⟩) (by assumption) ?_
      rotate_left
      · (intro w hSw; go_simp) <;> with_reducible rfl
      try simp only [Act.put, List.setIfInBounds_toArray, List.set_cons_zero, List.set_cons_succ]
      show wpAnyH _ _ _ ?Q2 _ _ _ ?a2 _
      have hfin : ∀ (p q : Nat) (w' : World), p ≠ q → Hid (DRow w' p L) → Hid (DRow w' q R) → Hid (Below w2.heap.size w2 w') → ?Q2 .normal ((((Act.put ?a2 (some 38) (.agg (bytesV L).toArray)).put (some 42) (.agg (bytesV R).toArray)).put (some 5) (.pointer (some ⟨p, 0, none⟩))).put (some 6) (.pointer (some ⟨q, 0, none⟩))) w' := by
        intro p q w' hpq HDL HDR HBB
        simp only [Act.put, List.setIfInBounds_toArray, List.set_cons_zero, List.set_cons_succ]
        have HKw := Lib.hid (HK2.out.below HBB.out hw2)
        have zw := HBB.out.size
        have hwp : 0 < w'.heap.size := by omega
        obtain ⟨i0, hi, hzz, hz1', hz2'⟩ := info_parts byteInfo
        have HTT : Hid (∀ u, Below w'.heap.size w' u → Calls Tryd.prog 17 #[.slice (some ⟨g, 0, none⟩) N cap] u fun e u' => e = .returned (.agg (bytesV dt).toArray) ∧ Hid (Below w'.heap.size w' u') ∧ Hid (Below u.heap.size u u')) := fun u hb => by
          rw [HDT.out]
          have h2 := HBB.out.trans (hb.mono zw)
          exact (tree_any (some ⟨g, 0, none⟩) N cap ds u (HRD.out.below h2 h2.size) (by omega) hcap hcm (HKw.out.below hb hwp)).mono fun _ _ ⟨e, q⟩ => ⟨e, hb.trans (q.mono hb.size), q⟩
        have HS1 : Hid (∀ u, Below w'.heap.size w' u → Src Tryd.prog 1 22 (.slice (some ⟨p, 0, none⟩) 32 32) 32 (bytesV L) u) := fun u hb => ((HDL.out.below hb HDL.out.lt).rdb (B := w'.heap.size) HDL.out.lt HLl.out.symm).srcA
        have HS2 : Hid (∀ u, Below w'.heap.size w' u → Src Tryd.prog 1 22 (.slice (some ⟨q, 0, none⟩) 32 32) 32 (bytesV R) u) := fun u hb => ((HDR.out.below hb HDR.out.lt).rdb (B := w'.heap.size) HDR.out.lt HRl.out.symm).srcA
        have HTG : Hid (∀ (u : World) (g' cap' : Nat), Below w'.heap.size w' u → Owns u w'.heap.size 5 1 g' (0 + 32 + 32) cap' (bytesV [] ++ bytesV L ++ bytesV R) → Calls Tryd.prog 14 #[.string ⟨#[110, 111, 100, 101]⟩, .slice (some ⟨g', 0, none⟩) (0 + 32 + 32) cap'] u fun e u' => e = .returned (.agg (bytesV dt).toArray) ∧ Hid (Below w'.heap.size w' u')) := fun u g' cap' hb ho => by
          rw [← HNODE.out]
          rw [← bytesV_append, ← bytesV_append] at ho
          have ho' : OwnB u w'.heap.size g' (0 + 32 + 32) cap' ([] ++ L ++ R) := ho
          exact (tagged_any ⟨#[110, 111, 100, 101]⟩ _ _ _ (L ++ R) u (by show (4 : Nat) ≤ _; omega) (ho'.rdb ho'.lt) (by omega) (HKw.out.below hb hwp)).mono fun _ _ ⟨e, q⟩ => ⟨e, hb.trans (q.mono hb.size)⟩
        clear hpq hHeld
        go_wp2_with fail
        go_region_held3 (fun u => Below w'.heap.size w' u)
          (first | exact (Below.refl _ _).drew | exact HB4.out | exact HB5.out | exact HBT.out | exact HBF.out | (have hX := ‹Below w'.heap.size w' _›; first | exact hX.alloc hX.size _ | exact (hX.alloc hX.size _).drew))
          (first
            | (go_at_call 17; with_reducible refine (HTT.out _ ‹Below w'.heap.size w' _›).mono ?_; rintro e wT ⟨rfl, HBT, HBT'⟩)
            | (refine step_append_owns _ rfl (.tmp 45) (.tmp 46) 22 22 rfl w'.heap.size 5 i0 _ 1 1 Tryd.underlying22 hi hzz hz1' hz2' rfl _ 0 0 (bytesV []) rfl (by first | exact owns_empty _ _ (Nat.le_refl _) | exact owns_empty _ _ HBT.out.size | exact Owns.below (w := (w'.alloc (.cells #[] 5)).drew) (owns_empty w' _ (Nat.le_refl _)) HBT'.out (by simp)) _ rfl 32 (bytesV L) (HS1.out _ ‹Below w'.heap.size w' _›) (by unfold maxLen; omega) (by omega) (‹Below w'.heap.size w' _›).size ?_
               intro g4 cap4 w4 HO4 HT4 HG4
               have HB4 : Hid (Below w'.heap.size w' w4) := (‹Below w'.heap.size w' _›).trans (HT4.out.below (B := w'.heap.size) (by first | exact Nat.le_refl _ | exact HBT.out.size) (by first | (simp; done) | (have h := HBT'.out.size; simp at h; omega))))
            | (refine step_append_owns _ rfl (.tmp 47) (.tmp 48) 22 22 rfl w'.heap.size 5 i0 _ 1 1 Tryd.underlying22 hi hzz hz1' hz2' rfl g4 (0 + 32) cap4 (bytesV [] ++ bytesV L) rfl (by first | exact HO4.out | exact HO4.out.below HBT'.out HO4.out.lt) _ rfl 32 (bytesV R) (HS2.out _ ‹Below w'.heap.size w' _›) (by unfold maxLen; omega) (by omega) (‹Below w'.heap.size w' _›).size ?_
               intro g5 cap5 w5 HO5 HT5 HG5
               have HB5 : Hid (Below w'.heap.size w' w5) := (‹Below w'.heap.size w' _›).trans (HT5.out.below (B := w'.heap.size) HO4.out.2.1 (by first | exact HO4.out.lt | exact (HO4.out.below HBT'.out HO4.out.lt).lt)))
            | (go_at_call 14; with_reducible refine (HTG.out _ _ _ ‹Below w'.heap.size w' _› (by first | exact HO5.out | exact HO5.out.below HBT'.out HO5.out.lt)).mono ?_; rintro e wF ⟨rfl, HBF⟩))
        all_goals go_wp2_with fail
        all_goals exact bodyPost_ret (v := .bool true) (by simp [results, Tryd.results7, go_sem]) rfl ⟨rfl, (B2.out.trans (HBB.out.mono B2.out.size)).trans (HBF.out.mono (by have h := B2.out.size; omega))⟩
      simp only [Act.put, List.setIfInBounds_toArray, List.set_cons_zero, List.set_cons_succ] at hfin
      refine wpAnyH_ready (rs := [3, 8, 9]) (by kernel_rfl) (by simp) ?_
      refine AllReadyH.cons (o := { dst := some 38, op := _, type := _, pos := _, after := _, guard := _ }) rfl (fun K hK => ?_) ?_
      · go_simp
        go_at_call 17
        refine (HTLc.out _ hHeld).mono ?_
        rintro e X1 ⟨rfl, BX1, RX1⟩
        go_wp2_with fail
        refine hK.out _ _ (BX1.out) (fun hHeld => ?_)
        clear hK K
        try simp only [Act.put, List.setIfInBounds_toArray, List.set_cons_zero, List.set_cons_succ]
        refine wpAnyH_ready (rs := [7, 8, 9]) (by kernel_rfl) (by simp) ?_
        refine AllReadyH.cons (o := { dst := some 42, op := _, type := _, pos := _, after := _, guard := _ }) rfl (fun K hK => ?_) ?_
        · go_simp
          go_at_call 17
          refine (HTRc.out _ hHeld).mono ?_
          rintro e X2 ⟨rfl, BX2, RX2⟩
          go_wp2_with fail
          refine hK.out _ _ (BX2.out) (fun hHeld => ?_)
          clear hK K
          try simp only [Act.put, List.setIfInBounds_toArray, List.set_cons_zero, List.set_cons_succ]
          refine wpAnyH_ready (rs := [8, 9]) (by kernel_rfl) (by simp) ?_
          refine AllReadyH.cons (o := { dst := some 5, op := _, type := _, pos := _, after := _, guard := _ }) rfl (fun K hK => ?_) ?_
          · go_simp
            refine hK.out _ _ (by first | exact hHeld.alloc hHeld.size _ | exact ((Below.refl w2.heap.size w2).alloc (Nat.le_refl _) _).drew) (fun hHeld => ?_)
            clear hK K
            try simp only [Act.put, List.setIfInBounds_toArray, List.set_cons_zero, List.set_cons_succ]
            have D8X3' : IsD (X2.alloc (.cells Z32 26)) X2.heap.size := IsD.new _ _ (heap_alloc_new X2 (.cells Z32 26))
            have RX3 : Below X2.heap.size X2 (X2.alloc (.cells Z32 26)) := ((Below.refl X2.heap.size X2).alloc (Nat.le_refl _) _)
            generalize (X2.alloc (.cells Z32 26)) = X3 at hHeld D8X3' RX3 ⊢
            have BX3 := Lib.hid hHeld
            have D8X3 := Lib.hid D8X3'
            have RX3 := Lib.hid RX3
            clear D8X3'
            refine wpAnyH_ready (rs := [9]) (by kernel_rfl) (by simp) ?_
            refine AllReadyH.cons (o := { dst := some 6, op := _, type := _, pos := _, after := _, guard := _ }) rfl (fun K hK => ?_) ?_
            · go_simp
              refine hK.out _ _ (by first | exact hHeld.alloc hHeld.size _ | exact ((Below.refl w2.heap.size w2).alloc (Nat.le_refl _) _).drew) (fun hHeld => ?_)
              clear hK K
              try simp only [Act.put, List.setIfInBounds_toArray, List.set_cons_zero, List.set_cons_succ]
              have D9X4' : IsD (X3.alloc (.cells Z32 26)) X3.heap.size := IsD.new _ _ (heap_alloc_new X3 (.cells Z32 26))
              have RX4 : Below X3.heap.size X3 (X3.alloc (.cells Z32 26)) := ((Below.refl X3.heap.size X3).alloc (Nat.le_refl _) _)
              generalize (X3.alloc (.cells Z32 26)) = X4 at hHeld D9X4' RX4 ⊢
              have BX4 := Lib.hid hHeld
              have D9X4 := Lib.hid D9X4'
              have RX4 := Lib.hid RX4
              have D8X4 := Lib.hid (IsD.below D8X3.out RX4.out D8X3.out.lt)
              have hne : X2.heap.size ≠ X3.heap.size := by
                have h := D8X3.out.lt
                omega
              clear D9X4'
              have ht5 := D8X4.out.there L HLl.out
              have Hs5 := Lib.hid (setCells_row D8X4.out HLl.out)
              have BY : Hid (Below w2.heap.size w2 (X4.setRow X2.heap.size (bytesV L).toArray)) := below_setRow BX4.out (BX2.out.size) _
              have DP : Hid (DRow (X4.setRow X2.heap.size (bytesV L).toArray) X2.heap.size L) := D8X4.out.row _
              have DQ : Hid (IsD (X4.setRow X2.heap.size (bytesV L).toArray) X3.heap.size) := by
                obtain ⟨o, h1, h2⟩ := D9X4.out
                exact ⟨o, (setRow_other _ _ _ _ hne.symm).trans h1, h2⟩
              refine wpAnyH_ready (rs := [10]) (by kernel_rfl) (by simp) ?_
              refine AllReadyH.cons (o := { dst := none, op := _, type := _, pos := _, after := _, guard := _ }) rfl (fun K hK => ?_) AllReadyH.nil
              rw [if_pos (by rfl)]
              refine wp_store_mid _ _ _ rfl _ _ (List.toArray _) rfl rfl ?_ ?_ (all_oneCell_toArray hlL) ?_
              · first | assumption | (simp only [List.size_toArray, *] <;> assumption)
              · (first | assumption | (simp only [List.size_toArray] <;> assumption) | (simp only [List.size_toArray, *]))
              simp only [Act.put]
              refine hK.out _ _ (by rw [Hs5.out]; exact BY.out) (fun hHeld => ?_)
              clear hK K
              rw [Hs5.out]
              generalize X4.setRow X2.heap.size (bytesV L).toArray = Y at BY DP DQ ⊢
              have ht6 := DQ.out.there R HRl.out
              have Hs6 := Lib.hid (setCells_row DQ.out HRl.out)
              have BZ : Hid (Below w2.heap.size w2 (Y.setRow X3.heap.size (bytesV R).toArray)) := below_setRow BY.out (BX3.out.size) _
              have DP2 : Hid (DRow (Y.setRow X3.heap.size (bytesV R).toArray) X2.heap.size L) := (setRow_other _ _ _ _ hne).trans DP.out
              have DQ2 : Hid (DRow (Y.setRow X3.heap.size (bytesV R).toArray) X3.heap.size R) := DQ.out.row _
              refine wpAnyH_ready (rs := [11]) (by kernel_rfl) (by simp) ?_
              refine AllReadyH.cons (o := { dst := none, op := _, type := _, pos := _, after := _, guard := _ }) rfl (fun K hK => ?_) AllReadyH.nil
              rw [if_pos (by rfl)]
              refine wp_store_mid _ _ _ rfl _ _ (List.toArray _) rfl rfl ?_ ?_ (all_oneCell_toArray hlR) ?_
              · first | assumption | (simp only [List.size_toArray, *] <;> assumption)
              · (first | assumption | (simp only [List.size_toArray] <;> assumption) | (simp only [List.size_toArray, *]))
              simp only [Act.put]
              refine hK.out _ _ (by rw [Hs6.out]; exact BZ.out) (fun hHeld => ?_)
              clear hK K
              rw [Hs6.out]
              refine wpAnyH_done (by kernel_rfl) ?_ _
              exact hfin _ _ _ hne DP2 DQ2 BZ
            exact AllReadyH.nil
          refine AllReadyH.cons (o := { dst := some 6, op := _, type := _, pos := _, after := _, guard := _ }) rfl (fun K hK => ?_) ?_
          · go_simp
            refine hK.out _ _ (by first | exact hHeld.alloc hHeld.size _ | exact ((Below.refl w2.heap.size w2).alloc (Nat.le_refl _) _).drew) (fun hHeld => ?_)
            clear hK K
            try simp only [Act.put, List.setIfInBounds_toArray, List.set_cons_zero, List.set_cons_succ]
            have D9X5' : IsD (X2.alloc (.cells Z32 26)) X2.heap.size := IsD.new _ _ (heap_alloc_new X2 (.cells Z32 26))
            have RX5 : Below X2.heap.size X2 (X2.alloc (.cells Z32 26)) := ((Below.refl X2.heap.size X2).alloc (Nat.le_refl _) _)
            generalize (X2.alloc (.cells Z32 26)) = X5 at hHeld D9X5' RX5 ⊢
            have BX5 := Lib.hid hHeld
            have D9X5 := Lib.hid D9X5'
            have RX5 := Lib.hid RX5
            clear D9X5'
            refine wpAnyH_ready (rs := [8]) (by kernel_rfl) (by simp) ?_
            refine AllReadyH.cons (o := { dst := some 5, op := _, type := _, pos := _, after := _, guard := _ }) rfl (fun K hK => ?_) ?_
            · go_simp
              refine hK.out _ _ (by first | exact hHeld.alloc hHeld.size _ | exact ((Below.refl w2.heap.size w2).alloc (Nat.le_refl _) _).drew) (fun hHeld => ?_)
              clear hK K
              try simp only [Act.put, List.setIfInBounds_toArray, List.set_cons_zero, List.set_cons_succ]
              have D8X6' : IsD (X5.alloc (.cells Z32 26)) X5.heap.size := IsD.new _ _ (heap_alloc_new X5 (.cells Z32 26))
              have RX6 : Below X5.heap.size X5 (X5.alloc (.cells Z32 26)) := ((Below.refl X5.heap.size X5).alloc (Nat.le_refl _) _)
              generalize (X5.alloc (.cells Z32 26)) = X6 at hHeld D8X6' RX6 ⊢
              have BX6 := Lib.hid hHeld
              have D8X6 := Lib.hid D8X6'
              have RX6 := Lib.hid RX6
              have D9X6 := Lib.hid (IsD.below D9X5.out RX6.out D9X5.out.lt)
              have hne : X5.heap.size ≠ X2.heap.size := by
                have h := D9X5.out.lt
                omega
              clear D8X6'
              have ht5 := D8X6.out.there L HLl.out
              have Hs5 := Lib.hid (setCells_row D8X6.out HLl.out)
              have BY : Hid (Below w2.heap.size w2 (X6.setRow X5.heap.size (bytesV L).toArray)) := below_setRow BX6.out (BX5.out.size) _
              have DP : Hid (DRow (X6.setRow X5.heap.size (bytesV L).toArray) X5.heap.size L) := D8X6.out.row _
              have DQ : Hid (IsD (X6.setRow X5.heap.size (bytesV L).toArray) X2.heap.size) := by
                obtain ⟨o, h1, h2⟩ := D9X6.out
                exact ⟨o, (setRow_other _ _ _ _ hne.symm).trans h1, h2⟩
              refine wpAnyH_ready (rs := [10]) (by kernel_rfl) (by simp) ?_
              refine AllReadyH.cons (o := { dst := none, op := _, type := _, pos := _, after := _, guard := _ }) rfl (fun K hK => ?_) AllReadyH.nil
              rw [if_pos (by rfl)]
              refine wp_store_mid _ _ _ rfl _ _ (List.toArray _) rfl rfl ?_ ?_ (all_oneCell_toArray hlL) ?_
              · first | assumption | (simp only [List.size_toArray, *] <;> assumption)
              · (first | assumption | (simp only [List.size_toArray] <;> assumption) | (simp only [List.size_toArray, *]))
              simp only [Act.put]
              refine hK.out _ _ (by rw [Hs5.out]; exact BY.out) (fun hHeld => ?_)
              clear hK K
              rw [Hs5.out]
              generalize X6.setRow X5.heap.size (bytesV L).toArray = Y at BY DP DQ ⊢
              have ht6 := DQ.out.there R HRl.out
              have Hs6 := Lib.hid (setCells_row DQ.out HRl.out)
              have BZ : Hid (Below w2.heap.size w2 (Y.setRow X2.heap.size (bytesV R).toArray)) := below_setRow BY.out (BX2.out.size) _
              have DP2 : Hid (DRow (Y.setRow X2.heap.size (bytesV R).toArray) X5.heap.size L) := (setRow_other _ _ _ _ hne).trans DP.out
              have DQ2 : Hid (DRow (Y.setRow X2.heap.size (bytesV R).toArray) X2.heap.size R) := DQ.out.row _
              refine wpAnyH_ready (rs := [11]) (by kernel_rfl) (by simp) ?_
              refine AllReadyH.cons (o := { dst := none, op := _, type := _, pos := _, after := _, guard := _ }) rfl (fun K hK => ?_) AllReadyH.nil
              rw [if_pos (by rfl)]
              refine wp_store_mid _ _ _ rfl _ _ (List.toArray _) rfl rfl ?_ ?_ (all_oneCell_toArray hlR) ?_
              · first | assumption | (simp only [List.size_toArray, *] <;> assumption)
              · (first | assumption | (simp only [List.size_toArray] <;> assumption) | (simp only [List.size_toArray, *]))
              simp only [Act.put]
              refine hK.out _ _ (by rw [Hs6.out]; exact BZ.out) (fun hHeld => ?_)
              clear hK K
              rw [Hs6.out]
              refine wpAnyH_done (by kernel_rfl) ?_ _
              exact hfin _ _ _ hne DP2 DQ2 BZ
            exact AllReadyH.nil
          exact AllReadyH.nil
        refine AllReadyH.cons (o := { dst := some 5, op := _, type := _, pos := _, after := _, guard := _ }) rfl (fun K hK => ?_) ?_
        · go_simp
          refine hK.out _ _ (by first | exact hHeld.alloc hHeld.size _ | exact ((Below.refl w2.heap.size w2).alloc (Nat.le_refl _) _).drew) (fun hHeld => ?_)
          clear hK K
          try simp only [Act.put, List.setIfInBounds_toArray, List.set_cons_zero, List.set_cons_succ]
          have D8X7' : IsD (X1.alloc (.cells Z32 26)) X1.heap.size := IsD.new _ _ (heap_alloc_new X1 (.cells Z32 26))
          have RX7 : Below X1.heap.size X1 (X1.alloc (.cells Z32 26)) := ((Below.refl X1.heap.size X1).alloc (Nat.le_refl _) _)
          generalize (X1.alloc (.cells Z32 26)) = X7 at hHeld D8X7' RX7 ⊢
          have BX7 := Lib.hid hHeld
          have D8X7 := Lib.hid D8X7'
          have RX7 := Lib.hid RX7
          clear D8X7'
          refine wpAnyH_ready (rs := [7, 9]) (by kernel_rfl) (by simp) ?_
          refine AllReadyH.cons (o := { dst := some 42, op := _, type := _, pos := _, after := _, guard := _ }) rfl (fun K hK => ?_) ?_
          · go_simp
            go_at_call 17
            refine (HTRc.out _ hHeld).mono ?_
            rintro e X8 ⟨rfl, BX8, RX8⟩
            go_wp2_with fail
            refine hK.out _ _ (BX8.out) (fun hHeld => ?_)
            clear hK K
            try simp only [Act.put, List.setIfInBounds_toArray, List.set_cons_zero, List.set_cons_succ]
            have D8X8 := Lib.hid (IsD.below D8X7.out RX8.out D8X7.out.lt)
            refine wpAnyH_ready (rs := [9]) (by kernel_rfl) (by simp) ?_
            refine AllReadyH.cons (o := { dst := some 6, op := _, type := _, pos := _, after := _, guard := _ }) rfl (fun K hK => ?_) ?_
            · go_simp
              refine hK.out _ _ (by first | exact hHeld.alloc hHeld.size _ | exact ((Below.refl w2.heap.size w2).alloc (Nat.le_refl _) _).drew) (fun hHeld => ?_)
              clear hK K
              try simp only [Act.put, List.setIfInBounds_toArray, List.set_cons_zero, List.set_cons_succ]
              have D9X9' : IsD (X8.alloc (.cells Z32 26)) X8.heap.size := IsD.new _ _ (heap_alloc_new X8 (.cells Z32 26))
              have RX9 : Below X8.heap.size X8 (X8.alloc (.cells Z32 26)) := ((Below.refl X8.heap.size X8).alloc (Nat.le_refl _) _)
              generalize (X8.alloc (.cells Z32 26)) = X9 at hHeld D9X9' RX9 ⊢
              have BX9 := Lib.hid hHeld
              have D9X9 := Lib.hid D9X9'
              have RX9 := Lib.hid RX9
              have D8X9 := Lib.hid (IsD.below D8X8.out RX9.out D8X8.out.lt)
              have hne : X1.heap.size ≠ X8.heap.size := by
                have h := D8X8.out.lt
                omega
              clear D9X9'
              have ht5 := D8X9.out.there L HLl.out
              have Hs5 := Lib.hid (setCells_row D8X9.out HLl.out)
              have BY : Hid (Below w2.heap.size w2 (X9.setRow X1.heap.size (bytesV L).toArray)) := below_setRow BX9.out (BX1.out.size) _
              have DP : Hid (DRow (X9.setRow X1.heap.size (bytesV L).toArray) X1.heap.size L) := D8X9.out.row _
              have DQ : Hid (IsD (X9.setRow X1.heap.size (bytesV L).toArray) X8.heap.size) := by
                obtain ⟨o, h1, h2⟩ := D9X9.out
                exact ⟨o, (setRow_other _ _ _ _ hne.symm).trans h1, h2⟩
              refine wpAnyH_ready (rs := [10]) (by kernel_rfl) (by simp) ?_
              refine AllReadyH.cons (o := { dst := none, op := _, type := _, pos := _, after := _, guard := _ }) rfl (fun K hK => ?_) AllReadyH.nil
              rw [if_pos (by rfl)]
              refine wp_store_mid _ _ _ rfl _ _ (List.toArray _) rfl rfl ?_ ?_ (all_oneCell_toArray hlL) ?_
              · first | assumption | (simp only [List.size_toArray, *] <;> assumption)
              · (first | assumption | (simp only [List.size_toArray] <;> assumption) | (simp only [List.size_toArray, *]))
              simp only [Act.put]
              refine hK.out _ _ (by rw [Hs5.out]; exact BY.out) (fun hHeld => ?_)
              clear hK K
              rw [Hs5.out]
              generalize X9.setRow X1.heap.size (bytesV L).toArray = Y at BY DP DQ ⊢
              have ht6 := DQ.out.there R HRl.out
              have Hs6 := Lib.hid (setCells_row DQ.out HRl.out)
              have BZ : Hid (Below w2.heap.size w2 (Y.setRow X8.heap.size (bytesV R).toArray)) := below_setRow BY.out (BX8.out.size) _
              have DP2 : Hid (DRow (Y.setRow X8.heap.size (bytesV R).toArray) X1.heap.size L) := (setRow_other _ _ _ _ hne).trans DP.out
              have DQ2 : Hid (DRow (Y.setRow X8.heap.size (bytesV R).toArray) X8.heap.size R) := DQ.out.row _
              refine wpAnyH_ready (rs := [11]) (by kernel_rfl) (by simp) ?_
              refine AllReadyH.cons (o := { dst := none, op := _, type := _, pos := _, after := _, guard := _ }) rfl (fun K hK => ?_) AllReadyH.nil
              rw [if_pos (by rfl)]
              refine wp_store_mid _ _ _ rfl _ _ (List.toArray _) rfl rfl ?_ ?_ (all_oneCell_toArray hlR) ?_
              · first | assumption | (simp only [List.size_toArray, *] <;> assumption)
              · (first | assumption | (simp only [List.size_toArray] <;> assumption) | (simp only [List.size_toArray, *]))
              simp only [Act.put]
              refine hK.out _ _ (by rw [Hs6.out]; exact BZ.out) (fun hHeld => ?_)
              clear hK K
              rw [Hs6.out]
              refine wpAnyH_done (by kernel_rfl) ?_ _
              exact hfin _ _ _ hne DP2 DQ2 BZ
            exact AllReadyH.nil
          refine AllReadyH.cons (o := { dst := some 6, op := _, type := _, pos := _, after := _, guard := _ }) rfl (fun K hK => ?_) ?_
          · go_simp
            refine hK.out _ _ (by first | exact hHeld.alloc hHeld.size _ | exact ((Below.refl w2.heap.size w2).alloc (Nat.le_refl _) _).drew) (fun hHeld => ?_)
            clear hK K
            try simp only [Act.put, List.setIfInBounds_toArray, List.set_cons_zero, List.set_cons_succ]
            have D9X10' : IsD (X7.alloc (.cells Z32 26)) X7.heap.size := IsD.new _ _ (heap_alloc_new X7 (.cells Z32 26))
            have RX10 : Below X7.heap.size X7 (X7.alloc (.cells Z32 26)) := ((Below.refl X7.heap.size X7).alloc (Nat.le_refl _) _)
            generalize (X7.alloc (.cells Z32 26)) = X10 at hHeld D9X10' RX10 ⊢
            have BX10 := Lib.hid hHeld
            have D9X10 := Lib.hid D9X10'
            have RX10 := Lib.hid RX10
            have D8X10 := Lib.hid (IsD.below D8X7.out RX10.out D8X7.out.lt)
            have hne : X1.heap.size ≠ X7.heap.size := by
              have h := D8X7.out.lt
              omega
            clear D9X10'
            refine wpAnyH_ready (rs := [7]) (by kernel_rfl) (by simp) ?_
            refine AllReadyH.cons (o := { dst := some 42, op := _, type := _, pos := _, after := _, guard := _ }) rfl (fun K hK => ?_) ?_
            · go_simp
              go_at_call 17
              refine (HTRc.out _ hHeld).mono ?_
              rintro e X11 ⟨rfl, BX11, RX11⟩
              go_wp2_with fail
              refine hK.out _ _ (BX11.out) (fun hHeld => ?_)
              clear hK K
              try simp only [Act.put, List.setIfInBounds_toArray, List.set_cons_zero, List.set_cons_succ]
              have D8X11 := Lib.hid (IsD.below D8X10.out RX11.out D8X10.out.lt)
              have D9X11 := Lib.hid (IsD.below D9X10.out RX11.out D9X10.out.lt)
              have ht5 := D8X11.out.there L HLl.out
              have Hs5 := Lib.hid (setCells_row D8X11.out HLl.out)
              have BY : Hid (Below w2.heap.size w2 (X11.setRow X1.heap.size (bytesV L).toArray)) := below_setRow BX11.out (BX1.out.size) _
              have DP : Hid (DRow (X11.setRow X1.heap.size (bytesV L).toArray) X1.heap.size L) := D8X11.out.row _
              have DQ : Hid (IsD (X11.setRow X1.heap.size (bytesV L).toArray) X7.heap.size) := by
                obtain ⟨o, h1, h2⟩ := D9X11.out
                exact ⟨o, (setRow_other _ _ _ _ hne.symm).trans h1, h2⟩
              refine wpAnyH_ready (rs := [10]) (by kernel_rfl) (by simp) ?_
              refine AllReadyH.cons (o := { dst := none, op := _, type := _, pos := _, after := _, guard := _ }) rfl (fun K hK => ?_) AllReadyH.nil
              rw [if_pos (by rfl)]
              refine wp_store_mid _ _ _ rfl _ _ (List.toArray _) rfl rfl ?_ ?_ (all_oneCell_toArray hlL) ?_
              · first | assumption | (simp only [List.size_toArray, *] <;> assumption)
              · (first | assumption | (simp only [List.size_toArray] <;> assumption) | (simp only [List.size_toArray, *]))
              simp only [Act.put]
              refine hK.out _ _ (by rw [Hs5.out]; exact BY.out) (fun hHeld => ?_)
              clear hK K
              rw [Hs5.out]
              generalize X11.setRow X1.heap.size (bytesV L).toArray = Y at BY DP DQ ⊢
              have ht6 := DQ.out.there R HRl.out
              have Hs6 := Lib.hid (setCells_row DQ.out HRl.out)
              have BZ : Hid (Below w2.heap.size w2 (Y.setRow X7.heap.size (bytesV R).toArray)) := below_setRow BY.out (BX7.out.size) _
              have DP2 : Hid (DRow (Y.setRow X7.heap.size (bytesV R).toArray) X1.heap.size L) := (setRow_other _ _ _ _ hne).trans DP.out
              have DQ2 : Hid (DRow (Y.setRow X7.heap.size (bytesV R).toArray) X7.heap.size R) := DQ.out.row _
              refine wpAnyH_ready (rs := [11]) (by kernel_rfl) (by simp) ?_
              refine AllReadyH.cons (o := { dst := none, op := _, type := _, pos := _, after := _, guard := _ }) rfl (fun K hK => ?_) AllReadyH.nil
              rw [if_pos (by rfl)]
              refine wp_store_mid _ _ _ rfl _ _ (List.toArray _) rfl rfl ?_ ?_ (all_oneCell_toArray hlR) ?_
              · first | assumption | (simp only [List.size_toArray, *] <;> assumption)
              · (first | assumption | (simp only [List.size_toArray] <;> assumption) | (simp only [List.size_toArray, *]))
              simp only [Act.put]
              refine hK.out _ _ (by rw [Hs6.out]; exact BZ.out) (fun hHeld => ?_)
              clear hK K
              rw [Hs6.out]
              refine wpAnyH_done (by kernel_rfl) ?_ _
              exact hfin _ _ _ hne DP2 DQ2 BZ
            exact AllReadyH.nil
          exact AllReadyH.nil
        refine AllReadyH.cons (o := { dst := some 6, op := _, type := _, pos := _, after := _, guard := _ }) rfl (fun K hK => ?_) ?_
        · go_simp
          refine hK.out _ _ (by first | exact hHeld.alloc hHeld.size _ | exact ((Below.refl w2.heap.size w2).alloc (Nat.le_refl _) _).drew) (fun hHeld => ?_)
          clear hK K
          try simp only [Act.put, List.setIfInBounds_toArray, List.set_cons_zero, List.set_cons_succ]
          have D9X12' : IsD (X1.alloc (.cells Z32 26)) X1.heap.size := IsD.new _ _ (heap_alloc_new X1 (.cells Z32 26))
          have RX12 : Below X1.heap.size X1 (X1.alloc (.cells Z32 26)) := ((Below.refl X1.heap.size X1).alloc (Nat.le_refl _) _)
          generalize (X1.alloc (.cells Z32 26)) = X12 at hHeld D9X12' RX12 ⊢
          have BX12 := Lib.hid hHeld
          have D9X12 := Lib.hid D9X12'
          have RX12 := Lib.hid RX12
          clear D9X12'
          refine wpAnyH_ready (rs := [7, 8]) (by kernel_rfl) (by simp) ?_
          refine AllReadyH.cons (o := { dst := some 42, op := _, type := _, pos := _, after := _, guard := _ }) rfl (fun K hK => ?_) ?_
          · go_simp
            go_at_call 17
            refine (HTRc.out _ hHeld).mono ?_
            rintro e X13 ⟨rfl, BX13, RX13⟩
            go_wp2_with fail
            refine hK.out _ _ (BX13.out) (fun hHeld => ?_)
            clear hK K
            try simp only [Act.put, List.setIfInBounds_toArray, List.set_cons_zero, List.set_cons_succ]
            have D9X13 := Lib.hid (IsD.below D9X12.out RX13.out D9X12.out.lt)
            refine wpAnyH_ready (rs := [8]) (by kernel_rfl) (by simp) ?_
            refine AllReadyH.cons (o := { dst := some 5, op := _, type := _, pos := _, after := _, guard := _ }) rfl (fun K hK => ?_) ?_
            · go_simp
              refine hK.out _ _ (by first | exact hHeld.alloc hHeld.size _ | exact ((Below.refl w2.heap.size w2).alloc (Nat.le_refl _) _).drew) (fun hHeld => ?_)
              clear hK K
              try simp only [Act.put, List.setIfInBounds_toArray, List.set_cons_zero, List.set_cons_succ]
              have D8X14' : IsD (X13.alloc (.cells Z32 26)) X13.heap.size := IsD.new _ _ (heap_alloc_new X13 (.cells Z32 26))
              have RX14 : Below X13.heap.size X13 (X13.alloc (.cells Z32 26)) := ((Below.refl X13.heap.size X13).alloc (Nat.le_refl _) _)
              generalize (X13.alloc (.cells Z32 26)) = X14 at hHeld D8X14' RX14 ⊢
              have BX14 := Lib.hid hHeld
              have D8X14 := Lib.hid D8X14'
              have RX14 := Lib.hid RX14
              have D9X14 := Lib.hid (IsD.below D9X13.out RX14.out D9X13.out.lt)
              have hne : X13.heap.size ≠ X1.heap.size := by
                have h := D9X13.out.lt
                omega
              clear D8X14'
              have ht5 := D8X14.out.there L HLl.out
              have Hs5 := Lib.hid (setCells_row D8X14.out HLl.out)
              have BY : Hid (Below w2.heap.size w2 (X14.setRow X13.heap.size (bytesV L).toArray)) := below_setRow BX14.out (BX13.out.size) _
              have DP : Hid (DRow (X14.setRow X13.heap.size (bytesV L).toArray) X13.heap.size L) := D8X14.out.row _
              have DQ : Hid (IsD (X14.setRow X13.heap.size (bytesV L).toArray) X1.heap.size) := by
                obtain ⟨o, h1, h2⟩ := D9X14.out
                exact ⟨o, (setRow_other _ _ _ _ hne.symm).trans h1, h2⟩
              refine wpAnyH_ready (rs := [10]) (by kernel_rfl) (by simp) ?_
              refine AllReadyH.cons (o := { dst := none, op := _, type := _, pos := _, after := _, guard := _ }) rfl (fun K hK => ?_) AllReadyH.nil
              rw [if_pos (by rfl)]
              refine wp_store_mid _ _ _ rfl _ _ (List.toArray _) rfl rfl ?_ ?_ (all_oneCell_toArray hlL) ?_
              · first | assumption | (simp only [List.size_toArray, *] <;> assumption)
              · (first | assumption | (simp only [List.size_toArray] <;> assumption) | (simp only [List.size_toArray, *]))
              simp only [Act.put]
              refine hK.out _ _ (by rw [Hs5.out]; exact BY.out) (fun hHeld => ?_)
              clear hK K
              rw [Hs5.out]
              generalize X14.setRow X13.heap.size (bytesV L).toArray = Y at BY DP DQ ⊢
              have ht6 := DQ.out.there R HRl.out
              have Hs6 := Lib.hid (setCells_row DQ.out HRl.out)
              have BZ : Hid (Below w2.heap.size w2 (Y.setRow X1.heap.size (bytesV R).toArray)) := below_setRow BY.out (BX1.out.size) _
              have DP2 : Hid (DRow (Y.setRow X1.heap.size (bytesV R).toArray) X13.heap.size L) := (setRow_other _ _ _ _ hne).trans DP.out
              have DQ2 : Hid (DRow (Y.setRow X1.heap.size (bytesV R).toArray) X1.heap.size R) := DQ.out.row _
              refine wpAnyH_ready (rs := [11]) (by kernel_rfl) (by simp) ?_
              refine AllReadyH.cons (o := { dst := none, op := _, type := _, pos := _, after := _, guard := _ }) rfl (fun K hK => ?_) AllReadyH.nil
              rw [if_pos (by rfl)]
              refine wp_store_mid _ _ _ rfl _ _ (List.toArray _) rfl rfl ?_ ?_ (all_oneCell_toArray hlR) ?_
              · first | assumption | (simp only [List.size_toArray, *] <;> assumption)
              · (first | assumption | (simp only [List.size_toArray] <;> assumption) | (simp only [List.size_toArray, *]))
              simp only [Act.put]
              refine hK.out _ _ (by rw [Hs6.out]; exact BZ.out) (fun hHeld => ?_)
              clear hK K
              rw [Hs6.out]
              refine wpAnyH_done (by kernel_rfl) ?_ _
              exact hfin _ _ _ hne DP2 DQ2 BZ
            exact AllReadyH.nil
          refine AllReadyH.cons (o := { dst := some 5, op := _, type := _, pos := _, after := _, guard := _ }) rfl (fun K hK => ?_) ?_
          · go_simp
            refine hK.out _ _ (by first | exact hHeld.alloc hHeld.size _ | exact ((Below.refl w2.heap.size w2).alloc (Nat.le_refl _) _).drew) (fun hHeld => ?_)
            clear hK K
            try simp only [Act.put, List.setIfInBounds_toArray, List.set_cons_zero, List.set_cons_succ]
            have D8X15' : IsD (X12.alloc (.cells Z32 26)) X12.heap.size := IsD.new _ _ (heap_alloc_new X12 (.cells Z32 26))
            have RX15 : Below X12.heap.size X12 (X12.alloc (.cells Z32 26)) := ((Below.refl X12.heap.size X12).alloc (Nat.le_refl _) _)
            generalize (X12.alloc (.cells Z32 26)) = X15 at hHeld D8X15' RX15 ⊢
            have BX15 := Lib.hid hHeld
            have D8X15 := Lib.hid D8X15'
            have RX15 := Lib.hid RX15
            have D9X15 := Lib.hid (IsD.below D9X12.out RX15.out D9X12.out.lt)
            have hne : X12.heap.size ≠ X1.heap.size := by
              have h := D9X12.out.lt
              omega
            clear D8X15'
            refine wpAnyH_ready (rs := [7]) (by kernel_rfl) (by simp) ?_
            refine AllReadyH.cons (o := { dst := some 42, op := _, type := _, pos := _, after := _, guard := _ }) rfl (fun K hK => ?_) ?_
            · go_simp
              go_at_call 17
              refine (HTRc.out _ hHeld).mono ?_
              rintro e X16 ⟨rfl, BX16, RX16⟩
              go_wp2_with fail
              refine hK.out _ _ (BX16.out) (fun hHeld => ?_)
              clear hK K
              try simp only [Act.put, List.setIfInBounds_toArray, List.set_cons_zero, List.set_cons_succ]
              have D9X16 := Lib.hid (IsD.below D9X15.out RX16.out D9X15.out.lt)
              have D8X16 := Lib.hid (IsD.below D8X15.out RX16.out D8X15.out.lt)
              have ht5 := D8X16.out.there L HLl.out
              have Hs5 := Lib.hid (setCells_row D8X16.out HLl.out)
              have BY : Hid (Below w2.heap.size w2 (X16.setRow X12.heap.size (bytesV L).toArray)) := below_setRow BX16.out (BX12.out.size) _
              have DP : Hid (DRow (X16.setRow X12.heap.size (bytesV L).toArray) X12.heap.size L) := D8X16.out.row _
              have DQ : Hid (IsD (X16.setRow X12.heap.size (bytesV L).toArray) X1.heap.size) := by
                obtain ⟨o, h1, h2⟩ := D9X16.out
                exact ⟨o, (setRow_other _ _ _ _ hne.symm).trans h1, h2⟩
              refine wpAnyH_ready (rs := [10]) (by kernel_rfl) (by simp) ?_
              refine AllReadyH.cons (o := { dst := none, op := _, type := _, pos := _, after := _, guard := _ }) rfl (fun K hK => ?_) AllReadyH.nil
              rw [if_pos (by rfl)]
              refine wp_store_mid _ _ _ rfl _ _ (List.toArray _) rfl rfl ?_ ?_ (all_oneCell_toArray hlL) ?_
              · first | assumption | (simp only [List.size_toArray, *] <;> assumption)
              · (first | assumption | (simp only [List.size_toArray] <;> assumption) | (simp only [List.size_toArray, *]))
              simp only [Act.put]
              refine hK.out _ _ (by rw [Hs5.out]; exact BY.out) (fun hHeld => ?_)
              clear hK K
              rw [Hs5.out]
              generalize X16.setRow X12.heap.size (bytesV L).toArray = Y at BY DP DQ ⊢
              have ht6 := DQ.out.there R HRl.out
              have Hs6 := Lib.hid (setCells_row DQ.out HRl.out)
              have BZ : Hid (Below w2.heap.size w2 (Y.setRow X1.heap.size (bytesV R).toArray)) := below_setRow BY.out (BX1.out.size) _
              have DP2 : Hid (DRow (Y.setRow X1.heap.size (bytesV R).toArray) X12.heap.size L) := (setRow_other _ _ _ _ hne).trans DP.out
              have DQ2 : Hid (DRow (Y.setRow X1.heap.size (bytesV R).toArray) X1.heap.size R) := DQ.out.row _
              refine wpAnyH_ready (rs := [11]) (by kernel_rfl) (by simp) ?_
              refine AllReadyH.cons (o := { dst := none, op := _, type := _, pos := _, after := _, guard := _ }) rfl (fun K hK => ?_) AllReadyH.nil
              rw [if_pos (by rfl)]
              refine wp_store_mid _ _ _ rfl _ _ (List.toArray _) rfl rfl ?_ ?_ (all_oneCell_toArray hlR) ?_
              · first | assumption | (simp only [List.size_toArray, *] <;> assumption)
              · (first | assumption | (simp only [List.size_toArray] <;> assumption) | (simp only [List.size_toArray, *]))
              simp only [Act.put]
              refine hK.out _ _ (by rw [Hs6.out]; exact BZ.out) (fun hHeld => ?_)
              clear hK K
              rw [Hs6.out]
              refine wpAnyH_done (by kernel_rfl) ?_ _
              exact hfin _ _ _ hne DP2 DQ2 BZ
            exact AllReadyH.nil
          exact AllReadyH.nil
        exact AllReadyH.nil
      refine AllReadyH.cons (o := { dst := some 5, op := _, type := _, pos := _, after := _, guard := _ }) rfl (fun K hK => ?_) ?_
      · go_simp
        refine hK.out _ _ (by first | exact hHeld.alloc hHeld.size _ | exact ((Below.refl w2.heap.size w2).alloc (Nat.le_refl _) _).drew) (fun hHeld => ?_)
        clear hK K
        try simp only [Act.put, List.setIfInBounds_toArray, List.set_cons_zero, List.set_cons_succ]
        have D8X17' : IsD ((w2.alloc (.cells Z32 26)).drew) w2.heap.size := IsD.new _ _ (heap_alloc_new w2 (.cells Z32 26))
        have RX17 : Below w2.heap.size w2 ((w2.alloc (.cells Z32 26)).drew) := ((Below.refl w2.heap.size w2).alloc (Nat.le_refl _) _).drew
        generalize ((w2.alloc (.cells Z32 26)).drew) = X17 at hHeld D8X17' RX17 ⊢
        have BX17 := Lib.hid hHeld
        have D8X17 := Lib.hid D8X17'
        have RX17 := Lib.hid RX17
        clear D8X17'
        refine wpAnyH_ready (rs := [3, 9]) (by kernel_rfl) (by simp) ?_
        refine AllReadyH.cons (o := { dst := some 38, op := _, type := _, pos := _, after := _, guard := _ }) rfl (fun K hK => ?_) ?_
        · go_simp
          go_at_call 17
          refine (HTLc.out _ hHeld).mono ?_
          rintro e X18 ⟨rfl, BX18, RX18⟩
          go_wp2_with fail
          refine hK.out _ _ (BX18.out) (fun hHeld => ?_)
          clear hK K
          try simp only [Act.put, List.setIfInBounds_toArray, List.set_cons_zero, List.set_cons_succ]
          have D8X18 := Lib.hid (IsD.below D8X17.out RX18.out D8X17.out.lt)
          refine wpAnyH_ready (rs := [7, 9]) (by kernel_rfl) (by simp) ?_
          refine AllReadyH.cons (o := { dst := some 42, op := _, type := _, pos := _, after := _, guard := _ }) rfl (fun K hK => ?_) ?_
          · go_simp
            go_at_call 17
            refine (HTRc.out _ hHeld).mono ?_
            rintro e X19 ⟨rfl, BX19, RX19⟩
            go_wp2_with fail
            refine hK.out _ _ (BX19.out) (fun hHeld => ?_)
            clear hK K
            try simp only [Act.put, List.setIfInBounds_toArray, List.set_cons_zero, List.set_cons_succ]
            have D8X19 := Lib.hid (IsD.below D8X18.out RX19.out D8X18.out.lt)
            refine wpAnyH_ready (rs := [9]) (by kernel_rfl) (by simp) ?_
            refine AllReadyH.cons (o := { dst := some 6, op := _, type := _, pos := _, after := _, guard := _ }) rfl (fun K hK => ?_) ?_
            · go_simp
              refine hK.out _ _ (by first | exact hHeld.alloc hHeld.size _ | exact ((Below.refl w2.heap.size w2).alloc (Nat.le_refl _) _).drew) (fun hHeld => ?_)
              clear hK K
              try simp only [Act.put, List.setIfInBounds_toArray, List.set_cons_zero, List.set_cons_succ]
              have D9X20' : IsD (X19.alloc (.cells Z32 26)) X19.heap.size := IsD.new _ _ (heap_alloc_new X19 (.cells Z32 26))
              have RX20 : Below X19.heap.size X19 (X19.alloc (.cells Z32 26)) := ((Below.refl X19.heap.size X19).alloc (Nat.le_refl _) _)
              generalize (X19.alloc (.cells Z32 26)) = X20 at hHeld D9X20' RX20 ⊢
              have BX20 := Lib.hid hHeld
              have D9X20 := Lib.hid D9X20'
              have RX20 := Lib.hid RX20
              have D8X20 := Lib.hid (IsD.below D8X19.out RX20.out D8X19.out.lt)
              have hne : w2.heap.size ≠ X19.heap.size := by
                have h := D8X19.out.lt
                omega
              clear D9X20'
              have ht5 := D8X20.out.there L HLl.out
              have Hs5 := Lib.hid (setCells_row D8X20.out HLl.out)
              have BY : Hid (Below w2.heap.size w2 (X20.setRow w2.heap.size (bytesV L).toArray)) := below_setRow BX20.out (Nat.le_refl _) _
              have DP : Hid (DRow (X20.setRow w2.heap.size (bytesV L).toArray) w2.heap.size L) := D8X20.out.row _
              have DQ : Hid (IsD (X20.setRow w2.heap.size (bytesV L).toArray) X19.heap.size) := by
                obtain ⟨o, h1, h2⟩ := D9X20.out
                exact ⟨o, (setRow_other _ _ _ _ hne.symm).trans h1, h2⟩
              refine wpAnyH_ready (rs := [10]) (by kernel_rfl) (by simp) ?_
              refine AllReadyH.cons (o := { dst := none, op := _, type := _, pos := _, after := _, guard := _ }) rfl (fun K hK => ?_) AllReadyH.nil
              rw [if_pos (by rfl)]
              refine wp_store_mid _ _ _ rfl _ _ (List.toArray _) rfl rfl ?_ ?_ (all_oneCell_toArray hlL) ?_
              · first | assumption | (simp only [List.size_toArray, *] <;> assumption)
              · (first | assumption | (simp only [List.size_toArray] <;> assumption) | (simp only [List.size_toArray, *]))
              simp only [Act.put]
              refine hK.out _ _ (by rw [Hs5.out]; exact BY.out) (fun hHeld => ?_)
              clear hK K
              rw [Hs5.out]
              generalize X20.setRow w2.heap.size (bytesV L).toArray = Y at BY DP DQ ⊢
              have ht6 := DQ.out.there R HRl.out
              have Hs6 := Lib.hid (setCells_row DQ.out HRl.out)
              have BZ : Hid (Below w2.heap.size w2 (Y.setRow X19.heap.size (bytesV R).toArray)) := below_setRow BY.out (BX19.out.size) _
              have DP2 : Hid (DRow (Y.setRow X19.heap.size (bytesV R).toArray) w2.heap.size L) := (setRow_other _ _ _ _ hne).trans DP.out
              have DQ2 : Hid (DRow (Y.setRow X19.heap.size (bytesV R).toArray) X19.heap.size R) := DQ.out.row _
              refine wpAnyH_ready (rs := [11]) (by kernel_rfl) (by simp) ?_
              refine AllReadyH.cons (o := { dst := none, op := _, type := _, pos := _, after := _, guard := _ }) rfl (fun K hK => ?_) AllReadyH.nil
              rw [if_pos (by rfl)]
              refine wp_store_mid _ _ _ rfl _ _ (List.toArray _) rfl rfl ?_ ?_ (all_oneCell_toArray hlR) ?_
              · first | assumption | (simp only [List.size_toArray, *] <;> assumption)
              · (first | assumption | (simp only [List.size_toArray] <;> assumption) | (simp only [List.size_toArray, *]))
              simp only [Act.put]
              refine hK.out _ _ (by rw [Hs6.out]; exact BZ.out) (fun hHeld => ?_)
              clear hK K
              rw [Hs6.out]
              refine wpAnyH_done (by kernel_rfl) ?_ _
              exact hfin _ _ _ hne DP2 DQ2 BZ
            exact AllReadyH.nil
          refine AllReadyH.cons (o := { dst := some 6, op := _, type := _, pos := _, after := _, guard := _ }) rfl (fun K hK => ?_) ?_
          · go_simp
            refine hK.out _ _ (by first | exact hHeld.alloc hHeld.size _ | exact ((Below.refl w2.heap.size w2).alloc (Nat.le_refl _) _).drew) (fun hHeld => ?_)
            clear hK K
            try simp only [Act.put, List.setIfInBounds_toArray, List.set_cons_zero, List.set_cons_succ]
            have D9X21' : IsD (X18.alloc (.cells Z32 26)) X18.heap.size := IsD.new _ _ (heap_alloc_new X18 (.cells Z32 26))
            have RX21 : Below X18.heap.size X18 (X18.alloc (.cells Z32 26)) := ((Below.refl X18.heap.size X18).alloc (Nat.le_refl _) _)
            generalize (X18.alloc (.cells Z32 26)) = X21 at hHeld D9X21' RX21 ⊢
            have BX21 := Lib.hid hHeld
            have D9X21 := Lib.hid D9X21'
            have RX21 := Lib.hid RX21
            have D8X21 := Lib.hid (IsD.below D8X18.out RX21.out D8X18.out.lt)
            have hne : w2.heap.size ≠ X18.heap.size := by
              have h := D8X18.out.lt
              omega
            clear D9X21'
            refine wpAnyH_ready (rs := [7]) (by kernel_rfl) (by simp) ?_
            refine AllReadyH.cons (o := { dst := some 42, op := _, type := _, pos := _, after := _, guard := _ }) rfl (fun K hK => ?_) ?_
            · go_simp
              go_at_call 17
              refine (HTRc.out _ hHeld).mono ?_
              rintro e X22 ⟨rfl, BX22, RX22⟩
              go_wp2_with fail
              refine hK.out _ _ (BX22.out) (fun hHeld => ?_)
              clear hK K
              try simp only [Act.put, List.setIfInBounds_toArray, List.set_cons_zero, List.set_cons_succ]
              have D8X22 := Lib.hid (IsD.below D8X21.out RX22.out D8X21.out.lt)
              have D9X22 := Lib.hid (IsD.below D9X21.out RX22.out D9X21.out.lt)
              have ht5 := D8X22.out.there L HLl.out
              have Hs5 := Lib.hid (setCells_row D8X22.out HLl.out)
              have BY : Hid (Below w2.heap.size w2 (X22.setRow w2.heap.size (bytesV L).toArray)) := below_setRow BX22.out (Nat.le_refl _) _
              have DP : Hid (DRow (X22.setRow w2.heap.size (bytesV L).toArray) w2.heap.size L) := D8X22.out.row _
              have DQ : Hid (IsD (X22.setRow w2.heap.size (bytesV L).toArray) X18.heap.size) := by
                obtain ⟨o, h1, h2⟩ := D9X22.out
                exact ⟨o, (setRow_other _ _ _ _ hne.symm).trans h1, h2⟩
              refine wpAnyH_ready (rs := [10]) (by kernel_rfl) (by simp) ?_
              refine AllReadyH.cons (o := { dst := none, op := _, type := _, pos := _, after := _, guard := _ }) rfl (fun K hK => ?_) AllReadyH.nil
              rw [if_pos (by rfl)]
              refine wp_store_mid _ _ _ rfl _ _ (List.toArray _) rfl rfl ?_ ?_ (all_oneCell_toArray hlL) ?_
              · first | assumption | (simp only [List.size_toArray, *] <;> assumption)
              · (first | assumption | (simp only [List.size_toArray] <;> assumption) | (simp only [List.size_toArray, *]))
              simp only [Act.put]
              refine hK.out _ _ (by rw [Hs5.out]; exact BY.out) (fun hHeld => ?_)
              clear hK K
              rw [Hs5.out]
              generalize X22.setRow w2.heap.size (bytesV L).toArray = Y at BY DP DQ ⊢
              have ht6 := DQ.out.there R HRl.out
              have Hs6 := Lib.hid (setCells_row DQ.out HRl.out)
              have BZ : Hid (Below w2.heap.size w2 (Y.setRow X18.heap.size (bytesV R).toArray)) := below_setRow BY.out (BX18.out.size) _
              have DP2 : Hid (DRow (Y.setRow X18.heap.size (bytesV R).toArray) w2.heap.size L) := (setRow_other _ _ _ _ hne).trans DP.out
              have DQ2 : Hid (DRow (Y.setRow X18.heap.size (bytesV R).toArray) X18.heap.size R) := DQ.out.row _
              refine wpAnyH_ready (rs := [11]) (by kernel_rfl) (by simp) ?_
              refine AllReadyH.cons (o := { dst := none, op := _, type := _, pos := _, after := _, guard := _ }) rfl (fun K hK => ?_) AllReadyH.nil
              rw [if_pos (by rfl)]
              refine wp_store_mid _ _ _ rfl _ _ (List.toArray _) rfl rfl ?_ ?_ (all_oneCell_toArray hlR) ?_
              · first | assumption | (simp only [List.size_toArray, *] <;> assumption)
              · (first | assumption | (simp only [List.size_toArray] <;> assumption) | (simp only [List.size_toArray, *]))
              simp only [Act.put]
              refine hK.out _ _ (by rw [Hs6.out]; exact BZ.out) (fun hHeld => ?_)
              clear hK K
              rw [Hs6.out]
              refine wpAnyH_done (by kernel_rfl) ?_ _
              exact hfin _ _ _ hne DP2 DQ2 BZ
            exact AllReadyH.nil
          exact AllReadyH.nil
        refine AllReadyH.cons (o := { dst := some 6, op := _, type := _, pos := _, after := _, guard := _ }) rfl (fun K hK => ?_) ?_
        · go_simp
          refine hK.out _ _ (by first | exact hHeld.alloc hHeld.size _ | exact ((Below.refl w2.heap.size w2).alloc (Nat.le_refl _) _).drew) (fun hHeld => ?_)
          clear hK K
          try simp only [Act.put, List.setIfInBounds_toArray, List.set_cons_zero, List.set_cons_succ]
          have D9X23' : IsD (X17.alloc (.cells Z32 26)) X17.heap.size := IsD.new _ _ (heap_alloc_new X17 (.cells Z32 26))
          have RX23 : Below X17.heap.size X17 (X17.alloc (.cells Z32 26)) := ((Below.refl X17.heap.size X17).alloc (Nat.le_refl _) _)
          generalize (X17.alloc (.cells Z32 26)) = X23 at hHeld D9X23' RX23 ⊢
          have BX23 := Lib.hid hHeld
          have D9X23 := Lib.hid D9X23'
          have RX23 := Lib.hid RX23
          have D8X23 := Lib.hid (IsD.below D8X17.out RX23.out D8X17.out.lt)
          have hne : w2.heap.size ≠ X17.heap.size := by
            have h := D8X17.out.lt
            omega
          clear D9X23'
          refine wpAnyH_ready (rs := [3]) (by kernel_rfl) (by simp) ?_
          refine AllReadyH.cons (o := { dst := some 38, op := _, type := _, pos := _, after := _, guard := _ }) rfl (fun K hK => ?_) ?_
          · go_simp
            go_at_call 17
            refine (HTLc.out _ hHeld).mono ?_
            rintro e X24 ⟨rfl, BX24, RX24⟩
            go_wp2_with fail
            refine hK.out _ _ (BX24.out) (fun hHeld => ?_)
            clear hK K
            try simp only [Act.put, List.setIfInBounds_toArray, List.set_cons_zero, List.set_cons_succ]
            have D8X24 := Lib.hid (IsD.below D8X23.out RX24.out D8X23.out.lt)
            have D9X24 := Lib.hid (IsD.below D9X23.out RX24.out D9X23.out.lt)
            refine wpAnyH_ready (rs := [7]) (by kernel_rfl) (by simp) ?_
            refine AllReadyH.cons (o := { dst := some 42, op := _, type := _, pos := _, after := _, guard := _ }) rfl (fun K hK => ?_) ?_
            · go_simp
              go_at_call 17
              refine (HTRc.out _ hHeld).mono ?_
              rintro e X25 ⟨rfl, BX25, RX25⟩
              go_wp2_with fail
              refine hK.out _ _ (BX25.out) (fun hHeld => ?_)
              clear hK K
              try simp only [Act.put, List.setIfInBounds_toArray, List.set_cons_zero, List.set_cons_succ]
              have D8X25 := Lib.hid (IsD.below D8X24.out RX25.out D8X24.out.lt)
              have D9X25 := Lib.hid (IsD.below D9X24.out RX25.out D9X24.out.lt)
              have ht5 := D8X25.out.there L HLl.out
              have Hs5 := Lib.hid (setCells_row D8X25.out HLl.out)
              have BY : Hid (Below w2.heap.size w2 (X25.setRow w2.heap.size (bytesV L).toArray)) := below_setRow BX25.out (Nat.le_refl _) _
              have DP : Hid (DRow (X25.setRow w2.heap.size (bytesV L).toArray) w2.heap.size L) := D8X25.out.row _
              have DQ : Hid (IsD (X25.setRow w2.heap.size (bytesV L).toArray) X17.heap.size) := by
                obtain ⟨o, h1, h2⟩ := D9X25.out
                exact ⟨o, (setRow_other _ _ _ _ hne.symm).trans h1, h2⟩
              refine wpAnyH_ready (rs := [10]) (by kernel_rfl) (by simp) ?_
              refine AllReadyH.cons (o := { dst := none, op := _, type := _, pos := _, after := _, guard := _ }) rfl (fun K hK => ?_) AllReadyH.nil
              rw [if_pos (by rfl)]
              refine wp_store_mid _ _ _ rfl _ _ (List.toArray _) rfl rfl ?_ ?_ (all_oneCell_toArray hlL) ?_
              · first | assumption | (simp only [List.size_toArray, *] <;> assumption)
              · (first | assumption | (simp only [List.size_toArray] <;> assumption) | (simp only [List.size_toArray, *]))
              simp only [Act.put]
              refine hK.out _ _ (by rw [Hs5.out]; exact BY.out) (fun hHeld => ?_)
              clear hK K
              rw [Hs5.out]
              generalize X25.setRow w2.heap.size (bytesV L).toArray = Y at BY DP DQ ⊢
              have ht6 := DQ.out.there R HRl.out
              have Hs6 := Lib.hid (setCells_row DQ.out HRl.out)
              have BZ : Hid (Below w2.heap.size w2 (Y.setRow X17.heap.size (bytesV R).toArray)) := below_setRow BY.out (BX17.out.size) _
              have DP2 : Hid (DRow (Y.setRow X17.heap.size (bytesV R).toArray) w2.heap.size L) := (setRow_other _ _ _ _ hne).trans DP.out
              have DQ2 : Hid (DRow (Y.setRow X17.heap.size (bytesV R).toArray) X17.heap.size R) := DQ.out.row _
              refine wpAnyH_ready (rs := [11]) (by kernel_rfl) (by simp) ?_
              refine AllReadyH.cons (o := { dst := none, op := _, type := _, pos := _, after := _, guard := _ }) rfl (fun K hK => ?_) AllReadyH.nil
              rw [if_pos (by rfl)]
              refine wp_store_mid _ _ _ rfl _ _ (List.toArray _) rfl rfl ?_ ?_ (all_oneCell_toArray hlR) ?_
              · first | assumption | (simp only [List.size_toArray, *] <;> assumption)
              · (first | assumption | (simp only [List.size_toArray] <;> assumption) | (simp only [List.size_toArray, *]))
              simp only [Act.put]
              refine hK.out _ _ (by rw [Hs6.out]; exact BZ.out) (fun hHeld => ?_)
              clear hK K
              rw [Hs6.out]
              refine wpAnyH_done (by kernel_rfl) ?_ _
              exact hfin _ _ _ hne DP2 DQ2 BZ
            exact AllReadyH.nil
          exact AllReadyH.nil
        exact AllReadyH.nil
      refine AllReadyH.cons (o := { dst := some 6, op := _, type := _, pos := _, after := _, guard := _ }) rfl (fun K hK => ?_) ?_
      · go_simp
        refine hK.out _ _ (by first | exact hHeld.alloc hHeld.size _ | exact ((Below.refl w2.heap.size w2).alloc (Nat.le_refl _) _).drew) (fun hHeld => ?_)
        clear hK K
        try simp only [Act.put, List.setIfInBounds_toArray, List.set_cons_zero, List.set_cons_succ]
        have D9X26' : IsD ((w2.alloc (.cells Z32 26)).drew) w2.heap.size := IsD.new _ _ (heap_alloc_new w2 (.cells Z32 26))
        have RX26 : Below w2.heap.size w2 ((w2.alloc (.cells Z32 26)).drew) := ((Below.refl w2.heap.size w2).alloc (Nat.le_refl _) _).drew
        generalize ((w2.alloc (.cells Z32 26)).drew) = X26 at hHeld D9X26' RX26 ⊢
        have BX26 := Lib.hid hHeld
        have D9X26 := Lib.hid D9X26'
        have RX26 := Lib.hid RX26
        clear D9X26'
        refine wpAnyH_ready (rs := [3, 8]) (by kernel_rfl) (by simp) ?_
        refine AllReadyH.cons (o := { dst := some 38, op := _, type := _, pos := _, after := _, guard := _ }) rfl (fun K hK => ?_) ?_
        · go_simp
          go_at_call 17
          refine (HTLc.out _ hHeld).mono ?_
          rintro e X27 ⟨rfl, BX27, RX27⟩
          go_wp2_with fail
          refine hK.out _ _ (BX27.out) (fun hHeld => ?_)
          clear hK K
          try simp only [Act.put, List.setIfInBounds_toArray, List.set_cons_zero, List.set_cons_succ]
          have D9X27 := Lib.hid (IsD.below D9X26.out RX27.out D9X26.out.lt)
          refine wpAnyH_ready (rs := [7, 8]) (by kernel_rfl) (by simp) ?_
          refine AllReadyH.cons (o := { dst := some 42, op := _, type := _, pos := _, after := _, guard := _ }) rfl (fun K hK => ?_) ?_
          · go_simp
            go_at_call 17
            refine (HTRc.out _ hHeld).mono ?_
            rintro e X28 ⟨rfl, BX28, RX28⟩
            go_wp2_with fail
            refine hK.out _ _ (BX28.out) (fun hHeld => ?_)
            clear hK K
            try simp only [Act.put, List.setIfInBounds_toArray, List.set_cons_zero, List.set_cons_succ]
            have D9X28 := Lib.hid (IsD.below D9X27.out RX28.out D9X27.out.lt)
            refine wpAnyH_ready (rs := [8]) (by kernel_rfl) (by simp) ?_
            refine AllReadyH.cons (o := { dst := some 5, op := _, type := _, pos := _, after := _, guard := _ }) rfl (fun K hK => ?_) ?_
            · go_simp
              refine hK.out _ _ (by first | exact hHeld.alloc hHeld.size _ | exact ((Below.refl w2.heap.size w2).alloc (Nat.le_refl _) _).drew) (fun hHeld => ?_)
              clear hK K
              try simp only [Act.put, List.setIfInBounds_toArray, List.set_cons_zero, List.set_cons_succ]
              have D8X29' : IsD (X28.alloc (.cells Z32 26)) X28.heap.size := IsD.new _ _ (heap_alloc_new X28 (.cells Z32 26))
              have RX29 : Below X28.heap.size X28 (X28.alloc (.cells Z32 26)) := ((Below.refl X28.heap.size X28).alloc (Nat.le_refl _) _)
              generalize (X28.alloc (.cells Z32 26)) = X29 at hHeld D8X29' RX29 ⊢
              have BX29 := Lib.hid hHeld
              have D8X29 := Lib.hid D8X29'
              have RX29 := Lib.hid RX29
              have D9X29 := Lib.hid (IsD.below D9X28.out RX29.out D9X28.out.lt)
              have hne : X28.heap.size ≠ w2.heap.size := by
                have h := D9X28.out.lt
                omega
              clear D8X29'
              have ht5 := D8X29.out.there L HLl.out
              have Hs5 := Lib.hid (setCells_row D8X29.out HLl.out)
              have BY : Hid (Below w2.heap.size w2 (X29.setRow X28.heap.size (bytesV L).toArray)) := below_setRow BX29.out (BX28.out.size) _
              have DP : Hid (DRow (X29.setRow X28.heap.size (bytesV L).toArray) X28.heap.size L) := D8X29.out.row _
              have DQ : Hid (IsD (X29.setRow X28.heap.size (bytesV L).toArray) w2.heap.size) := by
                obtain ⟨o, h1, h2⟩ := D9X29.out
                exact ⟨o, (setRow_other _ _ _ _ hne.symm).trans h1, h2⟩
              refine wpAnyH_ready (rs := [10]) (by kernel_rfl) (by simp) ?_
              refine AllReadyH.cons (o := { dst := none, op := _, type := _, pos := _, after := _, guard := _ }) rfl (fun K hK => ?_) AllReadyH.nil
              rw [if_pos (by rfl)]
              refine wp_store_mid _ _ _ rfl _ _ (List.toArray _) rfl rfl ?_ ?_ (all_oneCell_toArray hlL) ?_
              · first | assumption | (simp only [List.size_toArray, *] <;> assumption)
              · (first | assumption | (simp only [List.size_toArray] <;> assumption) | (simp only [List.size_toArray, *]))
              simp only [Act.put]
              refine hK.out _ _ (by rw [Hs5.out]; exact BY.out) (fun hHeld => ?_)
              clear hK K
              rw [Hs5.out]
              generalize X29.setRow X28.heap.size (bytesV L).toArray = Y at BY DP DQ ⊢
              have ht6 := DQ.out.there R HRl.out
              have Hs6 := Lib.hid (setCells_row DQ.out HRl.out)
              have BZ : Hid (Below w2.heap.size w2 (Y.setRow w2.heap.size (bytesV R).toArray)) := below_setRow BY.out (Nat.le_refl _) _
              have DP2 : Hid (DRow (Y.setRow w2.heap.size (bytesV R).toArray) X28.heap.size L) := (setRow_other _ _ _ _ hne).trans DP.out
              have DQ2 : Hid (DRow (Y.setRow w2.heap.size (bytesV R).toArray) w2.heap.size R) := DQ.out.row _
              refine wpAnyH_ready (rs := [11]) (by kernel_rfl) (by simp) ?_
              refine AllReadyH.cons (o := { dst := none, op := _, type := _, pos := _, after := _, guard := _ }) rfl (fun K hK => ?_) AllReadyH.nil
              rw [if_pos (by rfl)]
              refine wp_store_mid _ _ _ rfl _ _ (List.toArray _) rfl rfl ?_ ?_ (all_oneCell_toArray hlR) ?_
              · first | assumption | (simp only [List.size_toArray, *] <;> assumption)
              · (first | assumption | (simp only [List.size_toArray] <;> assumption) | (simp only [List.size_toArray, *]))
              simp only [Act.put]
              refine hK.out _ _ (by rw [Hs6.out]; exact BZ.out) (fun hHeld => ?_)
              clear hK K
              rw [Hs6.out]
              refine wpAnyH_done (by kernel_rfl) ?_ _
              exact hfin _ _ _ hne DP2 DQ2 BZ
            exact AllReadyH.nil
          refine AllReadyH.cons (o := { dst := some 5, op := _, type := _, pos := _, after := _, guard := _ }) rfl (fun K hK => ?_) ?_
          · go_simp
            refine hK.out _ _ (by first | exact hHeld.alloc hHeld.size _ | exact ((Below.refl w2.heap.size w2).alloc (Nat.le_refl _) _).drew) (fun hHeld => ?_)
            clear hK K
            try simp only [Act.put, List.setIfInBounds_toArray, List.set_cons_zero, List.set_cons_succ]
            have D8X30' : IsD (X27.alloc (.cells Z32 26)) X27.heap.size := IsD.new _ _ (heap_alloc_new X27 (.cells Z32 26))
            have RX30 : Below X27.heap.size X27 (X27.alloc (.cells Z32 26)) := ((Below.refl X27.heap.size X27).alloc (Nat.le_refl _) _)
            generalize (X27.alloc (.cells Z32 26)) = X30 at hHeld D8X30' RX30 ⊢
            have BX30 := Lib.hid hHeld
            have D8X30 := Lib.hid D8X30'
            have RX30 := Lib.hid RX30
            have D9X30 := Lib.hid (IsD.below D9X27.out RX30.out D9X27.out.lt)
            have hne : X27.heap.size ≠ w2.heap.size := by
              have h := D9X27.out.lt
              omega
            clear D8X30'
            refine wpAnyH_ready (rs := [7]) (by kernel_rfl) (by simp) ?_
            refine AllReadyH.cons (o := { dst := some 42, op := _, type := _, pos := _, after := _, guard := _ }) rfl (fun K hK => ?_) ?_
            · go_simp
              go_at_call 17
              refine (HTRc.out _ hHeld).mono ?_
              rintro e X31 ⟨rfl, BX31, RX31⟩
              go_wp2_with fail
              refine hK.out _ _ (BX31.out) (fun hHeld => ?_)
              clear hK K
              try simp only [Act.put, List.setIfInBounds_toArray, List.set_cons_zero, List.set_cons_succ]
              have D9X31 := Lib.hid (IsD.below D9X30.out RX31.out D9X30.out.lt)
              have D8X31 := Lib.hid (IsD.below D8X30.out RX31.out D8X30.out.lt)
              have ht5 := D8X31.out.there L HLl.out
              have Hs5 := Lib.hid (setCells_row D8X31.out HLl.out)
              have BY : Hid (Below w2.heap.size w2 (X31.setRow X27.heap.size (bytesV L).toArray)) := below_setRow BX31.out (BX27.out.size) _
              have DP : Hid (DRow (X31.setRow X27.heap.size (bytesV L).toArray) X27.heap.size L) := D8X31.out.row _
              have DQ : Hid (IsD (X31.setRow X27.heap.size (bytesV L).toArray) w2.heap.size) := by
                obtain ⟨o, h1, h2⟩ := D9X31.out
                exact ⟨o, (setRow_other _ _ _ _ hne.symm).trans h1, h2⟩
              refine wpAnyH_ready (rs := [10]) (by kernel_rfl) (by simp) ?_
              refine AllReadyH.cons (o := { dst := none, op := _, type := _, pos := _, after := _, guard := _ }) rfl (fun K hK => ?_) AllReadyH.nil
              rw [if_pos (by rfl)]
              refine wp_store_mid _ _ _ rfl _ _ (List.toArray _) rfl rfl ?_ ?_ (all_oneCell_toArray hlL) ?_
              · first | assumption | (simp only [List.size_toArray, *] <;> assumption)
              · (first | assumption | (simp only [List.size_toArray] <;> assumption) | (simp only [List.size_toArray, *]))
              simp only [Act.put]
              refine hK.out _ _ (by rw [Hs5.out]; exact BY.out) (fun hHeld => ?_)
              clear hK K
              rw [Hs5.out]
              generalize X31.setRow X27.heap.size (bytesV L).toArray = Y at BY DP DQ ⊢
              have ht6 := DQ.out.there R HRl.out
              have Hs6 := Lib.hid (setCells_row DQ.out HRl.out)
              have BZ : Hid (Below w2.heap.size w2 (Y.setRow w2.heap.size (bytesV R).toArray)) := below_setRow BY.out (Nat.le_refl _) _
              have DP2 : Hid (DRow (Y.setRow w2.heap.size (bytesV R).toArray) X27.heap.size L) := (setRow_other _ _ _ _ hne).trans DP.out
              have DQ2 : Hid (DRow (Y.setRow w2.heap.size (bytesV R).toArray) w2.heap.size R) := DQ.out.row _
              refine wpAnyH_ready (rs := [11]) (by kernel_rfl) (by simp) ?_
              refine AllReadyH.cons (o := { dst := none, op := _, type := _, pos := _, after := _, guard := _ }) rfl (fun K hK => ?_) AllReadyH.nil
              rw [if_pos (by rfl)]
              refine wp_store_mid _ _ _ rfl _ _ (List.toArray _) rfl rfl ?_ ?_ (all_oneCell_toArray hlR) ?_
              · first | assumption | (simp only [List.size_toArray, *] <;> assumption)
              · (first | assumption | (simp only [List.size_toArray] <;> assumption) | (simp only [List.size_toArray, *]))
              simp only [Act.put]
              refine hK.out _ _ (by rw [Hs6.out]; exact BZ.out) (fun hHeld => ?_)
              clear hK K
              rw [Hs6.out]
              refine wpAnyH_done (by kernel_rfl) ?_ _
              exact hfin _ _ _ hne DP2 DQ2 BZ
            exact AllReadyH.nil
          exact AllReadyH.nil
        refine AllReadyH.cons (o := { dst := some 5, op := _, type := _, pos := _, after := _, guard := _ }) rfl (fun K hK => ?_) ?_
        · go_simp
          refine hK.out _ _ (by first | exact hHeld.alloc hHeld.size _ | exact ((Below.refl w2.heap.size w2).alloc (Nat.le_refl _) _).drew) (fun hHeld => ?_)
          clear hK K
          try simp only [Act.put, List.setIfInBounds_toArray, List.set_cons_zero, List.set_cons_succ]
          have D8X32' : IsD (X26.alloc (.cells Z32 26)) X26.heap.size := IsD.new _ _ (heap_alloc_new X26 (.cells Z32 26))
          have RX32 : Below X26.heap.size X26 (X26.alloc (.cells Z32 26)) := ((Below.refl X26.heap.size X26).alloc (Nat.le_refl _) _)
          generalize (X26.alloc (.cells Z32 26)) = X32 at hHeld D8X32' RX32 ⊢
          have BX32 := Lib.hid hHeld
          have D8X32 := Lib.hid D8X32'
          have RX32 := Lib.hid RX32
          have D9X32 := Lib.hid (IsD.below D9X26.out RX32.out D9X26.out.lt)
          have hne : X26.heap.size ≠ w2.heap.size := by
            have h := D9X26.out.lt
            omega
          clear D8X32'
          refine wpAnyH_ready (rs := [3]) (by kernel_rfl) (by simp) ?_
          refine AllReadyH.cons (o := { dst := some 38, op := _, type := _, pos := _, after := _, guard := _ }) rfl (fun K hK => ?_) ?_
          · go_simp
            go_at_call 17
            refine (HTLc.out _ hHeld).mono ?_
            rintro e X33 ⟨rfl, BX33, RX33⟩
            go_wp2_with fail
            refine hK.out _ _ (BX33.out) (fun hHeld => ?_)
            clear hK K
            try simp only [Act.put, List.setIfInBounds_toArray, List.set_cons_zero, List.set_cons_succ]
            have D9X33 := Lib.hid (IsD.below D9X32.out RX33.out D9X32.out.lt)
            have D8X33 := Lib.hid (IsD.below D8X32.out RX33.out D8X32.out.lt)
            refine wpAnyH_ready (rs := [7]) (by kernel_rfl) (by simp) ?_
            refine AllReadyH.cons (o := { dst := some 42, op := _, type := _, pos := _, after := _, guard := _ }) rfl (fun K hK => ?_) ?_
            · go_simp
              go_at_call 17
              refine (HTRc.out _ hHeld).mono ?_
              rintro e X34 ⟨rfl, BX34, RX34⟩
              go_wp2_with fail
              refine hK.out _ _ (BX34.out) (fun hHeld => ?_)
              clear hK K
              try simp only [Act.put, List.setIfInBounds_toArray, List.set_cons_zero, List.set_cons_succ]
              have D9X34 := Lib.hid (IsD.below D9X33.out RX34.out D9X33.out.lt)
              have D8X34 := Lib.hid (IsD.below D8X33.out RX34.out D8X33.out.lt)
              have ht5 := D8X34.out.there L HLl.out
              have Hs5 := Lib.hid (setCells_row D8X34.out HLl.out)
              have BY : Hid (Below w2.heap.size w2 (X34.setRow X26.heap.size (bytesV L).toArray)) := below_setRow BX34.out (BX26.out.size) _
              have DP : Hid (DRow (X34.setRow X26.heap.size (bytesV L).toArray) X26.heap.size L) := D8X34.out.row _
              have DQ : Hid (IsD (X34.setRow X26.heap.size (bytesV L).toArray) w2.heap.size) := by
                obtain ⟨o, h1, h2⟩ := D9X34.out
                exact ⟨o, (setRow_other _ _ _ _ hne.symm).trans h1, h2⟩
              refine wpAnyH_ready (rs := [10]) (by kernel_rfl) (by simp) ?_
              refine AllReadyH.cons (o := { dst := none, op := _, type := _, pos := _, after := _, guard := _ }) rfl (fun K hK => ?_) AllReadyH.nil
              rw [if_pos (by rfl)]
              refine wp_store_mid _ _ _ rfl _ _ (List.toArray _) rfl rfl ?_ ?_ (all_oneCell_toArray hlL) ?_
              · first | assumption | (simp only [List.size_toArray, *] <;> assumption)
              · (first | assumption | (simp only [List.size_toArray] <;> assumption) | (simp only [List.size_toArray, *]))
              simp only [Act.put]
              refine hK.out _ _ (by rw [Hs5.out]; exact BY.out) (fun hHeld => ?_)
              clear hK K
              rw [Hs5.out]
              generalize X34.setRow X26.heap.size (bytesV L).toArray = Y at BY DP DQ ⊢
              have ht6 := DQ.out.there R HRl.out
              have Hs6 := Lib.hid (setCells_row DQ.out HRl.out)
              have BZ : Hid (Below w2.heap.size w2 (Y.setRow w2.heap.size (bytesV R).toArray)) := below_setRow BY.out (Nat.le_refl _) _
              have DP2 : Hid (DRow (Y.setRow w2.heap.size (bytesV R).toArray) X26.heap.size L) := (setRow_other _ _ _ _ hne).trans DP.out
              have DQ2 : Hid (DRow (Y.setRow w2.heap.size (bytesV R).toArray) w2.heap.size R) := DQ.out.row _
              refine wpAnyH_ready (rs := [11]) (by kernel_rfl) (by simp) ?_
              refine AllReadyH.cons (o := { dst := none, op := _, type := _, pos := _, after := _, guard := _ }) rfl (fun K hK => ?_) AllReadyH.nil
              rw [if_pos (by rfl)]
              refine wp_store_mid _ _ _ rfl _ _ (List.toArray _) rfl rfl ?_ ?_ (all_oneCell_toArray hlR) ?_
              · first | assumption | (simp only [List.size_toArray, *] <;> assumption)
              · (first | assumption | (simp only [List.size_toArray] <;> assumption) | (simp only [List.size_toArray, *]))
              simp only [Act.put]
              refine hK.out _ _ (by rw [Hs6.out]; exact BZ.out) (fun hHeld => ?_)
              clear hK K
              rw [Hs6.out]
              refine wpAnyH_done (by kernel_rfl) ?_ _
              exact hfin _ _ _ hne DP2 DQ2 BZ
            exact AllReadyH.nil
          exact AllReadyH.nil
        exact AllReadyH.nil
      exact AllReadyH.nil
end Go.Proofs.YtfolmglafnfcbaaDoor
