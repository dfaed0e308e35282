/- Contract of the laws' sane. -/
import Derived.Test.YtfolmglafnfcbaaDoorClimbX
import Derived.Lib.SlBytesConst
import Derived.Test.YtfolmglafnfcbaaDoorShaAt
namespace Go.Proofs.YtfolmglafnfcbaaDoor
open Go.RowKit

theorem sha_empty : (sha []).take 4 = [227, 176, 196, 66] := by kernel_rfl
theorem pathNil_any (w : World) : Calls Tryd.prog 19 #[.slice none 0 0, .int .i64 0] w fun e w' => e = .returned (.tuple #[.slice none 0 0, .int .i64 1]) ∧ w = w' := by
  go_enter Tryd.func19, Tryd.ntmps19
  go_wp2_with fail
  exact bodyPost_ret (v := .tuple #[.slice none 0 0, .int .i64 1]) (by simp [results, Tryd.results19, go_sem]) rfl ⟨rfl, rfl⟩
/-- the digest that sane makes -/
def oneD : D := 1 :: List.replicate 31 0
theorem first4 {d : D} {a b c e : UInt8} (h : d.take 4 = [a, b, c, e]) : d[0]? = some a ∧ d[1]? = some b ∧ d[2]? = some c ∧ d[3]? = some e := by
  have g : ∀ i, i < 4 → d[i]? = (d.take 4)[i]? := fun i hi => by rw [List.getElem?_take, if_pos hi]
  rw [g 0 (by omega), g 1 (by omega), g 2 (by omega), g 3 (by omega), h]
  exact ⟨rfl, rfl, rfl, rfl⟩

/-- three bytes, converted to their own type -/
theorem abc_rdb (w : World) : RdB (w.alloc (.cells #[.int .u8 97, .int .u8 98, .int .u8 99] 5 (3, 4))) (w.heap.size + 1) (some ⟨w.heap.size, 0, none⟩) 3 [97, 98, 99] := by
  refine ⟨rfl, fun _ => ⟨_, _, rfl, by omega, fun j u hj => ?_⟩⟩
  rw [Nat.zero_add, cell_of_row _ _ j _ _ _ (heap_alloc_new _ _)]
  match j, hj with
  | 0, hj => simp at hj; subst hj; rfl
  | 1, hj => simp at hj; subst hj; rfl
  | 2, hj => simp at hj; subst hj; rfl
  | j + 3, hj => simp at hj

abbrev ONE : Array Value := #[.int .u8 1, .int .u8 0, .int .u8 0, .int .u8 0, .int .u8 0, .int .u8 0, .int .u8 0, .int .u8 0, .int .u8 0, .int .u8 0, .int .u8 0, .int .u8 0, .int .u8 0, .int .u8 0, .int .u8 0, .int .u8 0, .int .u8 0, .int .u8 0, .int .u8 0, .int .u8 0, .int .u8 0, .int .u8 0, .int .u8 0, .int .u8 0, .int .u8 0, .int .u8 0, .int .u8 0, .int .u8 0, .int .u8 0, .int .u8 0, .int .u8 0, .int .u8 0]
theorem one_eq : (bytesV oneD).toArray = ONE := by rfl
theorem zd_eq : (bytesV zd).toArray = Z32 := by rfl
theorem climbX_one (w : World) (hK : KOK w) : Calls Tryd.prog 22 #[.agg ONE, .int .i64 0, .int .i64 1, .slice none 0 0] w fun e w' => e = .returned (.tuple #[dgV (tree [oneD]), .int .i64 0]) ∧ Below w.heap.size w w' := by
  have h := climbX_any 0 1 none 0 0 oneD [] w rfl (RdD.nil _ _ _) (steps_one 0).symm (by omega) (by omega) (by omega) (by omega) (by unfold maxLen; omega) hK
  rw [climb_one, ← tree_one] at h
  unfold dgV at h
  rw [one_eq] at h
  exact h
theorem climbX_two (w : World) : Calls Tryd.prog 22 #[.agg Z32, .int .i64 0, .int .i64 2, .slice none 0 0] w fun e w' => (∃ x : D, x.length = 32 ∧ e = .returned (.tuple #[dgV x, .int .i64 1])) ∧ Below w.heap.size w w' := by
  have h := climbX_bad zd w
  unfold dgV at h
  rw [zd_eq] at h
  exact h
theorem tree_oneD (w : World) (hK : KOK w) : Calls Tryd.prog 17 #[.slice (some ⟨w.heap.size, 0, none⟩) 1 1] (w.alloc (.cells ONE 26)) fun e w' => e = .returned (dgV (tree [oneD])) ∧ Below w.heap.size w w' := by
  have hb : Below w.heap.size w (w.alloc (.cells ONE 26)) := (Below.refl _ _).alloc (Nat.le_refl _) _
  have hr : RdD (w.alloc (.cells ONE 26)) (w.alloc (.cells ONE 26)).heap.size (some ⟨w.heap.size, 0, none⟩) 1 [oneD] := by
    refine ⟨rfl, by simp; rfl, fun _ => ⟨_, _, rfl, by simp, fun j d hj => ?_⟩⟩
    match j, hj with
    | 0, hj =>
      simp at hj
      subst hj
      have h : DRow (w.alloc (.cells ONE 26)) w.heap.size oneD := by
        unfold DRow
        rw [one_eq]
        exact heap_alloc_new _ _
      exact h.range
    | j + 1, hj => simp at hj
  exact (tree_any _ 1 1 [oneD] _ hr (by omega) (by omega) (by unfold maxLen; omega) (hK.below hb hK.pos)).mono fun _ _ ⟨e, k⟩ => ⟨e, hb.trans (k.mono hb.size)⟩
theorem tree_none (w : World) (hK : KOK w) : Calls Tryd.prog 17 #[.slice none 0 0] w fun e w' => e = .returned (dgV (tree [])) ∧ Below w.heap.size w w' := tree_any none 0 0 [] w (RdD.nil _ _ _) (by omega) (by omega) (by unfold maxLen; omega) hK
theorem tagged_empty (w : World) (hK : KOK w) : Calls Tryd.prog 14 #[.string ⟨#[101, 109, 112, 116, 121]⟩, .slice none 0 0] w fun e w' => e = .returned (dgV (tree [])) ∧ Below w.heap.size w w' := by
  rw [tree_nil]
  exact tagged_any ⟨#[101, 109, 112, 116, 121]⟩ none 0 0 [] w (by show (5 : Nat) ≤ _; omega) ⟨rfl, fun h => absurd h (by omega)⟩ (by omega) hK
theorem chain_zero (w : World) (hK : KOK w) : Calls Tryd.prog 25 #[.agg Z32, .agg Z32] w fun e w' => e = .returned (dgV (tagged [99, 104, 97, 105, 110] (zd ++ zd))) ∧ Below w.heap.size w w' := by
  have h := chain_any zd zd w rfl rfl hK
  unfold dgV at h ⊢
  rw [zd_eq] at h
  exact h

set_option maxRecDepth 100000 in
set_option maxHeartbeats 4000000 in
theorem sane_any (w : World) (hK : KOK w) : Calls Tryd.prog 11 #[] w fun e w' => e = .returned (.bool true) ∧ Below w.heap.size w w' := by
  have hK0 := hK.pos
  go_enter Tryd.func11, Tryd.ntmps11
  go_wp2_with fail
  rw [Lib.run_convert_bytes_const w 22 5 #[.int .u8 97, .int .u8 98, .int .u8 99] 3 3 Tryd.underlying22 Tryd.underlying5]
  have hr1 := abc_rdb w
  obtain ⟨w1, hw1⟩ : ∃ w1, w.alloc (.cells #[.int .u8 97, .int .u8 98, .int .u8 99] 5 (3, 4)) = w1 := ⟨_, rfl⟩
  have hb1 : Below w.heap.size w w1 := by rw [← hw1]; exact (Below.refl _ _).alloc (Nat.le_refl _) _
  have hz1 : w1.heap.size = w.heap.size + 1 := by rw [← hw1]; simp
  rw [hw1] at hr1
  have HW1 := Lib.hid hw1
  have B1 := Lib.hid hb1
  have HK1 := Lib.hid (hK.below hb1 hK0)
  have HR1 := Lib.hid hr1
  rw [show #[Value.int IntKind.u8 97, Value.int IntKind.u8 98, Value.int IntKind.u8 99].size = 3 from rfl, show 3 + 1 = 4 from rfl, HW1.out]
  clear hw1 hb1 hr1
  go_wp2_with fail
  refine (sum_any _ 3 3 [97, 98, 99] w1 (by rw [hz1]; exact HR1.out) (Nat.le_refl _) (by unfold maxLen; omega) (by omega) HK1.out).mono ?_
  rintro e w2 ⟨rfl, hb2⟩
  have z2 : w1.heap.size ≤ w2.heap.size := hb2.size
  have B2 := Lib.hid (B1.out.trans (hb2.mono (by omega)))
  clear hb2
  go_wp2_with fail
  refine (sum_any none 0 0 [] w2 ⟨rfl, fun h => absurd h (by omega)⟩ (Nat.le_refl _) (by unfold maxLen; omega) (by omega) (hK.below B2.out hK0)).mono ?_
  rintro e w3 ⟨rfl, hb3⟩
  have z3 : w2.heap.size ≤ w3.heap.size := hb3.size
  have B3 := Lib.hid (B2.out.trans (hb3.mono (by omega)))
  clear hb3
  have HS1 := Lib.hid (sha_length [97, 98, 99])
  have HS2 := Lib.hid (sha_length [])
  unfold dgV
  obtain ⟨sa, hsa⟩ : ∃ sa, sa = sha [97, 98, 99] := ⟨_, rfl⟩
  obtain ⟨se, hse⟩ : ∃ se, se = sha [] := ⟨_, rfl⟩
  have HSA := Lib.hid hsa
  have HSE := Lib.hid hse
  rw [← hsa] at HS1 ⊢
  rw [← hse] at HS2 ⊢
  clear hsa hse
  have hA : ((w3.alloc (.cells Z32 26)).alloc (.cells Z32 26)).heap[w3.heap.size]? = some (.cells Z32 26 (0, 0)) := (heap_alloc_old _ _ _ (by simp)).trans (heap_alloc_new _ _)
  have hB : ((w3.alloc (.cells Z32 26)).alloc (.cells Z32 26)).heap[w3.heap.size + 1]? = some (.cells Z32 26 (0, 0)) := by
    have h := heap_alloc_new (w3.alloc (.cells Z32 26)) (.cells Z32 26)
    simpa using h
  have hB' : (((w3.alloc (.cells Z32 26)).alloc (.cells Z32 26)).setRow w3.heap.size (bytesV sa).toArray).heap[w3.heap.size + 1]? = some (.cells Z32 26 (0, 0)) := by
    rw [setRow_other _ _ _ _ (by omega)]
    exact hB
  obtain ⟨w4, hw4⟩ : ∃ w4, (((w3.alloc (.cells Z32 26)).alloc (.cells Z32 26)).setRow w3.heap.size (bytesV sa).toArray).setRow (w3.heap.size + 1) (bytesV se).toArray = w4 := ⟨_, rfl⟩
  have hda : DRow w4 w3.heap.size sa := by
    rw [← hw4]
    refine (setRow_other _ _ _ _ (by omega)).trans ?_
    exact setRow_heap _ _ _ _ _ _ hA
  have hdb : DRow w4 (w3.heap.size + 1) se := by
    rw [← hw4]
    exact setRow_heap _ _ _ _ _ _ hB'
  have hb4 : Below w.heap.size w w4 := by
    rw [← hw4]
    exact below_setRow (below_setRow ((B3.out.alloc (by omega) _).alloc (by simp; omega) _) (by omega) _) (by omega) _
  have hz4 : w4.heap.size = w3.heap.size + 2 := by rw [← hw4]; simp
  have HA := Lib.hid hA
  have HB' := Lib.hid hB'
  have HW4 := Lib.hid hw4
  have DA := Lib.hid hda
  have DB := Lib.hid hdb
  have B4 := Lib.hid hb4
  have HIA := Lib.hid (dg_info sa HS1.out)
  have HIB := Lib.hid (dg_info se HS2.out)
  clear hA hB hB' hw4 hda hdb hb4
  go_wp2_with (first
    | (refine wpList_store_row rfl 26 _ _ rfl _ _ rfl rfl _ _ HA.out HIA.out (z32_size _ HS1.out) (bytesV_all _) ?_)
    | (refine wpList_store_row rfl 26 _ _ rfl _ _ rfl rfl _ _ HB'.out HIB.out (z32_size _ HS2.out) (bytesV_all _) ?_))
  rw [HW4.out]
  refine (pathNil_any w4).mono ?_
  rintro e w' ⟨rfl, rfl⟩
  go_wp2_with fail
  refine (climbX_two w4).mono ?_
  rintro e w5 ⟨⟨x, hx, rfl⟩, hb5⟩
  have z5 : w4.heap.size ≤ w5.heap.size := hb5.size
  have HX5 := Lib.hid hx
  have B5' := Lib.hid hb5
  clear hb5 hx
  have HZ5 := Lib.hid (heap_alloc_new w5 (.cells Z32 26))
  have HIX := Lib.hid (dg_info x HX5.out)
  unfold dgV
  go_wp2_with (refine wpList_store_row rfl 26 _ _ rfl _ _ rfl rfl _ _ HZ5.out HIX.out (z32_size _ HX5.out) (bytesV_all _) ?_)
  obtain ⟨w6, hw6⟩ : ∃ w6, (w5.alloc (.cells Z32 26)).setRow w5.heap.size (bytesV x).toArray = w6 := ⟨_, rfl⟩
  have hb6 : Below w4.heap.size w4 w6 := by rw [← hw6]; exact below_setRow (B5'.out.alloc z5 _) z5 _
  have HW6 := Lib.hid hw6
  have B6' := Lib.hid hb6
  clear hw6 hb6
  rw [HW6.out]
  refine (climbX_one w6 (hK.below (B4.out.trans (B6'.out.mono (by omega))) hK0)).mono ?_
  rintro e w7 ⟨rfl, hb7⟩
  have hb7' : Below w4.heap.size w4 w7 := B6'.out.trans (hb7.mono B6'.out.size)
  have B7' := Lib.hid hb7'
  have z7 : w4.heap.size ≤ w7.heap.size := hb7'.size
  clear hb7 hb7'
  have HT1 := Lib.hid (tree_length [oneD])
  obtain ⟨dl, hdl⟩ : ∃ dl, dl = tree [oneD] := ⟨_, rfl⟩
  have HDL := Lib.hid hdl
  rw [← hdl] at HT1 ⊢
  clear hdl
  have HZ7 := Lib.hid (heap_alloc_new w7 (.cells Z32 26))
  have HID := Lib.hid (dg_info dl HT1.out)
  obtain ⟨w8, hw8⟩ : ∃ w8, (w7.alloc (.cells Z32 26)).setRow w7.heap.size (bytesV dl).toArray = w8 := ⟨_, rfl⟩
  have hd8 : DRow w8 w7.heap.size dl := by rw [← hw8]; exact setRow_heap _ _ _ _ _ _ HZ7.out
  have hb8 : Below w4.heap.size w4 w8 := by rw [← hw8]; exact below_setRow (B7'.out.alloc z7 _) z7 _
  have hz8 : w8.heap.size = w7.heap.size + 1 := by rw [← hw8]; simp
  have HW8 := Lib.hid hw8
  have D8 := Lib.hid hd8
  have B8 := Lib.hid (B4.out.trans (hb8.mono (by omega)))
  have DA8 := Lib.hid (DA.out.below hb8 (by omega))
  have DB8 := Lib.hid (DB.out.below hb8 (by omega))
  clear hw8 hd8 hb8
  have fa := first4 (show sa.take 4 = [186, 120, 22, 191] by rw [HSA.out]; exact sha_abc)
  have fe := first4 (show se.take 4 = [227, 176, 196, 66] by rw [HSE.out]; exact sha_empty)
  have a0 : ((w7.alloc (.cells Z32 26)).setRow w7.heap.size (bytesV dl).toArray).cell? ⟨w3.heap.size, 0, none⟩ = some (.int .u8 186) := by rw [HW8.out]; exact DA8.out.cell fa.1
  have a1 : ((w7.alloc (.cells Z32 26)).setRow w7.heap.size (bytesV dl).toArray).cell? ⟨w3.heap.size, 1, none⟩ = some (.int .u8 120) := by rw [HW8.out]; exact DA8.out.cell fa.2.1
  have a2 : ((w7.alloc (.cells Z32 26)).setRow w7.heap.size (bytesV dl).toArray).cell? ⟨w3.heap.size, 2, none⟩ = some (.int .u8 22) := by rw [HW8.out]; exact DA8.out.cell fa.2.2.1
  have a3 : ((w7.alloc (.cells Z32 26)).setRow w7.heap.size (bytesV dl).toArray).cell? ⟨w3.heap.size, 3, none⟩ = some (.int .u8 191) := by rw [HW8.out]; exact DA8.out.cell fa.2.2.2
  have e0 : ((w7.alloc (.cells Z32 26)).setRow w7.heap.size (bytesV dl).toArray).cell? ⟨w3.heap.size + 1, 0, none⟩ = some (.int .u8 227) := by rw [HW8.out]; exact DB8.out.cell fe.1
  have e1 : ((w7.alloc (.cells Z32 26)).setRow w7.heap.size (bytesV dl).toArray).cell? ⟨w3.heap.size + 1, 1, none⟩ = some (.int .u8 176) := by rw [HW8.out]; exact DB8.out.cell fe.2.1
  have e2 : ((w7.alloc (.cells Z32 26)).setRow w7.heap.size (bytesV dl).toArray).cell? ⟨w3.heap.size + 1, 2, none⟩ = some (.int .u8 196) := by rw [HW8.out]; exact DB8.out.cell fe.2.2.1
  have e3 : ((w7.alloc (.cells Z32 26)).setRow w7.heap.size (bytesV dl).toArray).cell? ⟨w3.heap.size + 1, 3, none⟩ = some (.int .u8 66) := by rw [HW8.out]; exact DB8.out.cell fe.2.2.2
  clear fa fe
  unfold dgV
  go_wp2_with (refine wpList_store_row rfl 26 _ _ rfl _ _ rfl rfl _ _ HZ7.out HID.out (z32_size _ HT1.out) (bytesV_all _) ?_)
  rw [HW8.out]
  clear a0 a1 a2 a3 e0 e1 e2 e3
  have HTE := Lib.hid (tree_length [])
  obtain ⟨de, hde⟩ : ∃ de, de = tree [] := ⟨_, rfl⟩
  have HDE := Lib.hid hde
  rw [← hde] at HTE
  have HTCL := Lib.hid (tagged_length [99, 104, 97, 105, 110] (zd ++ zd))
  obtain ⟨dc, hdc⟩ : ∃ dc, dc = tagged [99, 104, 97, 105, 110] (zd ++ zd) := ⟨_, rfl⟩
  have HDC := Lib.hid hdc
  rw [← hdc] at HTCL
  clear hde hdc
  have HK8 := Lib.hid (hK.below B8.out hK0)
  have HKP : 0 < w8.heap.size := by omega
  have hlt8 : w7.heap.size < w8.heap.size := by omega
  clear hz8 hz4 hz1
  have HT1c : Hid (∀ w', Below w8.heap.size w8 w' → Calls Tryd.prog 17 #[.slice (some ⟨w'.heap.size, 0, none⟩) 1 1] (w'.alloc (.cells ONE 26)) fun e w'' => e = .returned (.agg (bytesV dl).toArray) ∧ Hid (Below w8.heap.size w8 w'')) := fun w' hb => by
    rw [HDL.out]
    exact (tree_oneD w' (HK8.out.below hb HKP)).mono fun _ _ ⟨e, q⟩ => ⟨e, hb.trans (q.mono hb.size)⟩
  have HT1a : Hid (Calls Tryd.prog 17 #[.slice (some ⟨w8.heap.size, 0, none⟩) 1 1] (w8.drew.alloc (.cells ONE 26)) fun e w'' => e = .returned (.agg (bytesV dl).toArray) ∧ Hid (Below w8.heap.size w8 w'')) := HT1c.out _ (Below.refl _ _).drew
  have HT1b : Hid (Calls Tryd.prog 17 #[.slice (some ⟨w8.heap.size, 0, none⟩) 1 1] (w8.alloc (.cells ONE 26)).drew fun e w'' => e = .returned (.agg (bytesV dl).toArray) ∧ Hid (Below w8.heap.size w8 w'')) := HT1c.out _ (Below.refl _ _).drew
  have HT0c : Hid (∀ w', Below w8.heap.size w8 w' → Calls Tryd.prog 17 #[.slice none 0 0] w' fun e w'' => e = .returned (.agg (bytesV de).toArray) ∧ Hid (Below w8.heap.size w8 w'')) := fun w' hb => by
    rw [HDE.out]
    exact (tree_none w' (HK8.out.below hb HKP)).mono fun _ _ ⟨e, q⟩ => ⟨e, hb.trans (q.mono hb.size)⟩
  have HTEc : Hid (∀ w', Below w8.heap.size w8 w' → Calls Tryd.prog 14 #[.string ⟨#[101, 109, 112, 116, 121]⟩, .slice none 0 0] w' fun e w'' => e = .returned (.agg (bytesV de).toArray) ∧ Hid (Below w8.heap.size w8 w'')) := fun w' hb => by
    rw [HDE.out]
    exact (tagged_empty w' (HK8.out.below hb HKP)).mono fun _ _ ⟨e, q⟩ => ⟨e, hb.trans (q.mono hb.size)⟩
  have HCHc : Hid (∀ w', Below w8.heap.size w8 w' → Calls Tryd.prog 25 #[.agg Z32, .agg Z32] w' fun e w'' => e = .returned (.agg (bytesV dc).toArray) ∧ Hid (Below w8.heap.size w8 w'') ∧ Hid (Below w'.heap.size w' w'')) := fun w' hb => by
    rw [HDC.out]
    exact (chain_zero w' (HK8.out.below hb HKP)).mono fun _ _ ⟨e, q⟩ => ⟨e, hb.trans (q.mono hb.size), q⟩
  have heq1 : ∀ u : World, (binOp .eql 26 (.agg (bytesV dl).toArray) (.agg (bytesV dl).toArray)).run Tryd.prog u = .ok (.bool true) u := fun u => run_eql_same u dl HT1.out
  have heq2 : ∀ u : World, (binOp .eql 26 (.agg (bytesV de).toArray) (.agg (bytesV de).toArray)).run Tryd.prog u = .ok (.bool true) u := fun u => run_eql_same u de HTE.out
  have heq3 : ∀ u : World, (binOp .eql 26 (.agg (bytesV dc).toArray) (.agg (bytesV dc).toArray)).run Tryd.prog u = .ok (.bool true) u := fun u => run_eql_same u dc HTCL.out
  have hmk : ∀ u : World, (Instr.makeSlice 22 (.int .i64 64) (.int .i64 64)).run Tryd.prog u = .ok (.slice (some ⟨u.heap.size, 0, none⟩) 64 64) (u.alloc (.cells (bytesV (zd ++ zd)).toArray 5)) := fun u => make64 (zd ++ zd) (by rfl) u
  have HTCc : Hid (∀ w' w'', Below w8.heap.size w8 w' → Below (w'.alloc (.cells (bytesV (zd ++ zd)).toArray 5)).heap.size (w'.alloc (.cells (bytesV (zd ++ zd)).toArray 5)) w'' → Calls Tryd.prog 14 #[.string ⟨#[99, 104, 97, 105, 110]⟩, .slice (some ⟨w'.heap.size, 0, none⟩) 64 64] w'' fun e w3 => e = .returned (.agg (bytesV dc).toArray) ∧ Hid (Below w8.heap.size w8 w3)) := fun w' w'' hb hb2 => by
    have hb3 : Below w8.heap.size w8 (w'.alloc (.cells (bytesV (zd ++ zd)).toArray 5)) := hb.alloc hb.size _
    have hb4 : Below w8.heap.size w8 w'' := hb3.trans (hb2.mono hb3.size)
    rw [HDC.out]
    refine (tagged_any ⟨#[99, 104, 97, 105, 110]⟩ (some ⟨w'.heap.size, 0, none⟩) 64 64 (zd ++ zd) w'' (by show (5 : Nat) ≤ _; omega) ⟨rfl, fun _ => ⟨_, _, rfl, ?_, fun j u hj => ?_⟩⟩ (by omega) (HK8.out.below hb4 HKP)).mono fun _ _ ⟨e, q⟩ => ⟨e, hb4.trans (q.mono hb4.size)⟩
    · have := hb2.size
      simp at this
      omega
    · refine (hb2.cell (by simp)).trans ?_
      rw [Nat.zero_add, cell_of_row _ _ j _ _ _ (heap_alloc_new _ _)]
      rw [List.getElem?_toArray]
      unfold bytesV
      rw [List.getElem?_map, hj]
      rfl
  have hgd : Tryd.prog.eqGuardType Tryd.prog.depth 26 = false := by kernel_rfl
  have hu := Tryd.underlying26
  have hi1 := dg_size dl HT1.out
  have HSS : Hid (∀ w', Below w8.heap.size w8 w' → (Below w8.heap.size w8 w' ∧ w'.rangeAt w7.heap.size 0 (bytesV dl))) := fun w' hb => ⟨hb, range_below D8.out.range hb (by omega)⟩
  go_region_held3 (fun w' => Below w8.heap.size w8 w' ∧ w'.rangeAt w7.heap.size 0 (bytesV dl))
    (first | exact HSS.out _ (Below.refl _ _).drew | exact HSS.out _ HSA.out | exact HSS.out _ HSB.out | exact HSS.out _ HSC.out | exact HSS.out _ HSD.out | exact HSS.out _ HSF.out | (have hX := ‹Below w8.heap.size w8 _ ∧ _›; exact HSS.out _ (hX.1.alloc hX.1.size _)) | (have hX := ‹Below w8.heap.size w8 _ ∧ _›; exact HSS.out _ (hX.1.alloc hX.1.size _).drew))
    (first
      | (go_at_call 17; (first | with_reducible refine HT1a.out.mono ?_ | with_reducible refine HT1b.out.mono ?_); rintro e wA ⟨rfl, HSA⟩)
      | (go_at_call 17; with_reducible refine (HT0c.out _ (by first | exact HSC.out | exact HSA.out)).mono ?_; rintro e wB ⟨rfl, HSB⟩)
      | (go_at_call 14; with_reducible refine (HTEc.out _ (by first | exact HSB.out | exact HSA.out)).mono ?_; rintro e wC ⟨rfl, HSC⟩)
      | (go_at_call 25; with_reducible refine (HCHc.out _ (And.left ‹Below w8.heap.size w8 _ ∧ _›)).mono ?_; rintro e wD ⟨rfl, HSD, HSD'⟩)
      | (go_at_call 14; with_reducible refine (HTCc.out _ _ (by first | exact HSD.out | exact HSC.out | exact HSB.out) (by first | exact HSD'.out | exact Below.refl _ _)).mono ?_; rintro e wF ⟨rfl, HSF⟩))
  all_goals go_wp2_with fail
  all_goals exact bodyPost_ret (v := .bool true) (by simp [results, Tryd.results11, go_sem]) rfl ⟨rfl, B8.out.trans (HSF.out.mono B8.out.size)⟩
end Go.Proofs.YtfolmglafnfcbaaDoor
