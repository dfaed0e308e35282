/- Contracts of the reference's climb and Climb. -/
import Derived.Test.YtfolmglafnfcbaaDoorRefPath
import Derived.Test.YtfolmglafnfcbaaDoorPlaces
namespace Go.Proofs.YtfolmglafnfcbaaDoor
open Go.RowKit

theorem DRow.rdb' {w : World} {g : Nat} {l : List UInt8} (h : DRow w g l) (hl : l.length = 32) : RdB w w.heap.size (some ⟨g, 0, none⟩) 32 l := h.rdb h.lt hl.symm

set_option maxRecDepth 100000 in
set_option maxHeartbeats 1000000 in
theorem refclimb1_any (a : Int) (A : Option Addr) (m c : Nat) (d : D) (w : World) (hd : d.length = 32) :
    Calls Tryd.prog 45 #[dgV d, .int .i64 a, .int .i64 1, .slice A m c] w fun e w' => e = .returned (dgV (tagged [108, 101, 97, 102] d)) ∧ Below w.heap.size w w' := by
  obtain ⟨w0, hw0⟩ : ∃ w0, (w.alloc (.cells (bytesV d).toArray 26)).alloc (.cells Z32 26) = w0 := ⟨_, rfl⟩
  have hbx := box1 w d
  rw [hw0] at hbx
  obtain ⟨h1, h2, h3, h4⟩ := hbx
  have HZ := Lib.hid (IsD.new _ _ h2)
  have HB0 := Lib.hid h3
  have HW0 := Lib.hid hw0
  have HRB := Lib.hid (h1.rdb' hd)
  have HI := Lib.hid (dg_info (tagged [108, 101, 97, 102] d) (tagged_length _ _))
  clear hw0 h1 h2 h3 hd
  unfold dgV
  go_enter Tryd.func45, Tryd.ntmps45
  go_wp2_with fail
  rw [HW0.out]
  refine (reftag_any ⟨#[108, 101, 97, 102]⟩ _ 32 32 d w0 (by show (4 : Nat) ≤ _; omega) HRB.out (by omega)).mono ?_
  rintro e w1 ⟨rfl, hb1⟩
  obtain ⟨old, HD1, HDs⟩ := HZ.out.below hb1 (by omega)
  have HB1 := Lib.hid (HB0.out.trans (hb1.mono (by omega)))
  clear hb1
  unfold dgV
  go_wp2_with (refine wpList_store_row rfl 26 _ _ rfl _ _ rfl rfl _ _ HD1 HI.out (HDs.trans (by rw [List.size_toArray, bytesV_length, tagged_length])) (bytesV_all _) ?_)
  exact bodyPost_ret (results_cell_row rfl _ _ _ _ _ _ _ rfl (setRow_heap _ _ _ _ _ _ HD1) Tryd.underlying26 rfl HI.out) rfl ⟨rfl, below_setRow HB1.out (by omega) _⟩

/-- what a contract of the reference's climb says of lists up to a length -/
def RefClimbOk (f : Nat) : Prop := ∀ (a n : Nat) (A : Option Addr) (m c : Nat) (d : D) (ps : List D) (w : World), d.length = 32 → RdD w w.heap.size A m ps → m = Go.Proofs.YtfolmglafnfcbaaDoor.steps a n → 1 ≤ n → n ≤ f → a < n → n ≤ 1099511627776 → m ≤ c → c ≤ maxLen →
  Calls Tryd.prog 45 #[dgV d, .int .i64 a, .int .i64 n, .slice A m c] w fun e w' => e = .returned (dgV (climb d a n ps)) ∧ Below w.heap.size w w'

set_option maxRecDepth 100000 in
set_option maxHeartbeats 2000000 in
theorem refclimbLeft (f : Nat) (ih : RefClimbOk f) (a n : Nat) (b o k c : Nat) (d x : D) (ps : List D) (w : World) (hd : d.length = 32) (hr : RdD w w.heap.size (some ⟨b, o, none⟩) (k + 1) ps) (hx : ps[k]? = some x) (hbl : b < w.heap.size)
    (hrx : w.rangeAt b (o + k * 32) (bytesV x)) (hs : k + 1 = Go.Proofs.YtfolmglafnfcbaaDoor.steps a n) (h2 : 2 ≤ n) (hf : n ≤ f + 1) (ha : a < half n) (han : a < n) (hn : n ≤ 1099511627776) (hc : k + 1 ≤ c) (hcm : c ≤ maxLen) :
    Calls Tryd.prog 45 #[dgV d, .int .i64 a, .int .i64 n, .slice (some ⟨b, o, none⟩) (k + 1) c] w fun e w' => e = .returned (dgV (tagged [110, 111, 100, 101] (climb d a (half n) (ps.take k) ++ x))) ∧ Below w.heap.size w w' := by
  have a1 := half_lt n h2 hn
  have a2 := half_pos n
  have h40 := steps_40 a n (by omega) han hn
  rw [steps_left a n h2 hn ha] at hs h40
  obtain ⟨h, hh⟩ : ∃ h, h = half n := ⟨_, rfl⟩
  have HH := Lib.hid hh
  rw [← hh] at a1 a2 hs h40 ha ⊢
  have hn' : h ≤ 1099511627776 := Nat.le_trans (Nat.le_of_lt a1) hn
  have hxl : x.length = 32 := hr.2.1 x (List.mem_of_getElem? hx)
  have hk40 : k + 1 ≤ 40 := by rw [hs]; exact h40
  have hcc : ¬ c = k := by omega
  have i0 : (0 : Int) ≤ (k : Int) := by omega
  have i1 : (k : Int) ≤ (k : Int) + 1 := by omega
  have i2 : (k : Int) ≤ (c : Int) := by omega
  have i3 : (k : Int) + 1 ≤ (c : Int) := by omega
  have i4 : (k : Int) < (k : Int) + 1 := by omega
  have hne1 : ((n : Int) == 1) = false := by rw [beq_eq_false_iff_ne]; omega
  have HWM : Hid (IntKind.i64.wrap (k : Int) = (k : Int)) := IntWalk.i64_in _ (by omega)
  obtain ⟨w0, hw0⟩ : ∃ w0, (w.alloc (.cells (bytesV d).toArray 26)).alloc (.cells Z32 26) = w0 := ⟨_, rfl⟩
  have hbx := box1 w d
  rw [hw0] at hbx
  obtain ⟨h1, h2', h3, h4⟩ := hbx
  obtain ⟨w1, hw1⟩ : ∃ w1, w0.alloc (.cells (bytesV x).toArray 26) = w1 := ⟨_, rfl⟩
  have hb1 : Below w0.heap.size w0 w1 := by rw [← hw1]; exact Below.new1 w0 _
  have hX1 : DRow w1 w0.heap.size x := by rw [← hw1]; exact heap_alloc_new _ _
  have hb01 : Below w.heap.size w w1 := h3.trans (hb1.mono (by omega))
  have HCL : Hid (∀ w', Below (w.heap.size + 1) w1 w' → Calls Tryd.prog 45 #[.agg (bytesV d).toArray, .int .i64 a, .int .i64 h, .slice (some ⟨b, o, none⟩) k c] w' fun e w'' => e = .returned (.agg (bytesV (climb d a h (ps.take k))).toArray) ∧ Below w'.heap.size w' w'') := fun w' hb =>
    ih a h _ k c d (ps.take k) w' hd ((hr.below (hb01.trans (hb.mono (Nat.le_succ _))) (hb01.trans (hb.mono (Nat.le_succ _))).size).take (by omega)) (by omega) (by omega) (by omega) (by omega) hn' (by omega) hcm
  have HRP : Hid (RdD w w.heap.size (some ⟨b, o, none⟩) (k + 1) ps) := hr
  have HR2 : Hid (w0.rangeAt b (o + k * 32) (bytesV x)) := range_below hrx h3 hbl
  have HX2 : Hid ((w0.alloc (.cells Z32 26)).rangeAt b (o + k * 32) (bytesV x)) := World.rangeAt_alloc HR2.out _
  have HD0 := Lib.hid (h1.below hb1 h1.lt)
  have HZ := Lib.hid ((IsD.new _ _ h2').below hb1 (by omega))
  have HX1 := Lib.hid hX1
  have HB1 := Lib.hid hb01
  have HW0 := Lib.hid hw0
  have HW1 := Lib.hid hw1
  obtain ⟨t, ht⟩ : ∃ t, t = tagged [110, 111, 100, 101] (climb d a h (ps.take k) ++ x) := ⟨_, rfl⟩
  have htl : t.length = 32 := by rw [ht]; exact tagged_length _ _
  have HTL := Lib.hid htl
  have HI := Lib.hid (dg_info t htl)
  have hcl : (climb d a h (ps.take k)).length = 32 := climb_length _ _ _ _ (by omega) hn'
  have HCN : Hid (∀ w', Calls Tryd.prog 39 #[.agg (bytesV (climb d a h (ps.take k))).toArray, .agg (bytesV (x)).toArray] w' fun e w'' => e = .returned (.agg (bytesV t).toArray) ∧ Below w'.heap.size w' w'') := fun w' => by
    rw [ht]
    exact refnode_any _ _ w' hcl hxl
  have hu := Tryd.underlying26
  have HI1 := Lib.hid (dg_size d hd)
  have HI2 := Lib.hid (dg_size x hxl)
  have HII2 := Lib.hid (dg_info x hxl)
  have HXL := Lib.hid hxl
  have hlow : w.heap.size + 1 ≤ w1.heap.size := by have := hb1.size; omega
  have hneX : w0.heap.size ≠ w.heap.size + 1 := by omega
  obtain ⟨X, hX⟩ : ∃ X, X = w0.heap.size := ⟨_, rfl⟩
  rw [← hX] at HX1 hneX
  have HXX := Lib.hid hX
  have HSP := Lib.hid (refhalf_any n w0 h2 hn)
  rw [← ht]
  clear hw0 hw1 hh hs h40 hn' h1 h2' h3 h4 hd hr hrx hx hxl hbl hb1 hX1 hb01 ht htl hcl hX
  unfold dgV
  go_enter Tryd.func45, Tryd.ntmps45
  go_wp2_with fail
  rw [HW0.out]
  refine HSP.out.mono ?_
  rintro e w' ⟨rfl, rfl⟩
  rw [← HH.out]
  go_wp2_with (first
    | (refine wpList_load_mid rfl 26 _ rfl b (o + k * 32) rfl _ _ HR2.out Tryd.underlying26 rfl HI2.out ?_)
    | (refine wpList_store_row rfl 26 _ _ rfl _ _ rfl rfl _ _ (heap_alloc_new _ _) HII2.out (z32_size _ HXL.out) (bytesV_all _) ?_; rw [World.setRow_alloc_new, HW1.out]))
  try rw [← HXX.out]
  refine wp_region_held_drew (S := fun u => Below (w.heap.size + 1) w1 u ∧ DRow u X x) (by kernel_rfl) ⟨(Below.refl _ _).drew, HX1.out.keep (w' := w1.drew) rfl⟩ (fun hHeld => ?_)
  have HZX := Lib.hid (HZ.out.keep (w' := w1.drew) rfl)
  generalize w1.drew = X0 at hHeld HZX ⊢
  have BX0 := Lib.hid hHeld.1
  have FX := Lib.hid hHeld.2
  have FZ : Hid (IsD X0 (w.heap.size + 1)) := HZX.out
  refine wpAnyH_take (i := 0) (oi := ⟨some 26, _, _, _, _, _⟩) rfl (by kernel_rfl) (by kernel_rfl) (by kernel_rfl) (fun _ _ _ h => h) (yieldsIf_load_mid (by rfl) _ _ rfl w.heap.size 0 rfl _ _ (fun w' h => DRow.range (HD0.out.below h.1 (Nat.lt_succ_self _))) Tryd.underlying26 rfl HI1.out) (by assumption) ?_
  try simp only [Act.put, List.setIfInBounds_toArray, List.set_cons_zero, List.set_cons_succ]
  refine wpAnyH_take (i := 1) (oi := ⟨some 27, _, _, _, _, _⟩) (v := ?_) rfl (by kernel_rfl) (by kernel_rfl) (by kernel_rfl) (fun _ _ _ h => h) (Or.inl ⟨by rfl, ?_⟩) (by assumption) ?_
  rotate_left
  · (intro w hSw; go_simp) <;> with_reducible rfl
  try simp only [Act.put, List.setIfInBounds_toArray, List.set_cons_zero, List.set_cons_succ]
  refine wpAnyH_take (i := 2) (oi := ⟨some 28, _, _, _, _, _⟩) (v := ?_) rfl (by kernel_rfl) (by kernel_rfl) (by kernel_rfl) (fun _ _ _ h => h) (Or.inl ⟨by rfl, ?_⟩) (by assumption) ?_
  rotate_left
  · (intro w hSw; go_simp) <;> with_reducible rfl
  try simp only [Act.put, List.setIfInBounds_toArray, List.set_cons_zero, List.set_cons_succ]
  refine wpAnyH_take (i := 3) (oi := ⟨some 29, _, _, _, _, _⟩) (v := ?_) rfl (by kernel_rfl) (by kernel_rfl) (by kernel_rfl) (fun _ _ _ h => h) (Or.inl ⟨by rfl, ?_⟩) (by assumption) ?_
  rotate_left
  · (intro w hSw; go_simp) <;> with_reducible rfl
  try simp only [Act.put, List.setIfInBounds_toArray, List.set_cons_zero, List.set_cons_succ]
  refine wpAnyH_take (i := 4) (oi := ⟨some 30, _, _, _, _, _⟩) (v := ?_) rfl (by kernel_rfl) (by kernel_rfl) (by kernel_rfl) (fun _ _ _ h => h) (Or.inl ⟨by rfl, ?_⟩) (by assumption) ?_
  rotate_left
  · (intro w hSw; go_simp) <;> with_reducible rfl
  try simp only [Act.put, List.setIfInBounds_toArray, List.set_cons_zero, List.set_cons_succ]
  refine wpAnyH_take (i := 5) (oi := ⟨some 31, _, _, _, _, _⟩) (v := ?_) rfl (by kernel_rfl) (by kernel_rfl) (by kernel_rfl) (fun _ _ _ h => h) (Or.inl ⟨by rfl, ?_⟩) (by assumption) ?_
  rotate_left
  · (intro w hSw; go_simp) <;> with_reducible rfl
  try simp only [Act.put, List.setIfInBounds_toArray, List.set_cons_zero, List.set_cons_succ]
  refine wpAnyH_take (i := 6) (oi := ⟨some 32, _, _, _, _, _⟩) (v := ?_) rfl (by kernel_rfl) (by kernel_rfl) (by kernel_rfl) (fun _ _ _ h => h) (Or.inl ⟨by rfl, ?_⟩) (by assumption) ?_
  rotate_left
  · (intro w hSw; go_simp) <;> with_reducible rfl
  try simp only [Act.put, List.setIfInBounds_toArray, List.set_cons_zero, List.set_cons_succ]
  try simp only [HWM.out]
  refine wpAnyH_take (i := 7) (oi := ⟨some 33, _, _, _, _, _⟩) (v := ?_) rfl (by kernel_rfl) (by kernel_rfl) (by kernel_rfl) (fun _ _ _ h => h) (Or.inl ⟨by rfl, ?_⟩) (by assumption) ?_
  rotate_left
  · (intro w hSw; go_simp) <;> with_reducible rfl
  try simp only [Act.put, List.setIfInBounds_toArray, List.set_cons_zero, List.set_cons_succ]
  refine wpAnyH_take (i := 9) (oi := ⟨some 35, _, _, _, _, _⟩) rfl (by kernel_rfl) (by kernel_rfl) (by kernel_rfl) (fun _ _ _ h => h) (yieldsIf_load_mid (by rfl) _ _ rfl X 0 rfl _ _ (fun w' h => DRow.range h.2) Tryd.underlying26 rfl HI2.out) (by assumption) ?_
  try simp only [Act.put, List.setIfInBounds_toArray, List.set_cons_zero, List.set_cons_succ]
  refine wpAnyH_ready (rs := [8]) (by kernel_rfl) (by simp) ?_
  refine AllReadyH.cons (o := ⟨some 34, _, _, _, _, _⟩) rfl (fun K hK => ?_) AllReadyH.nil
  go_simp
  go_at_call 45
  refine (HCL.out _ BX0.out).mono ?_
  rintro e X1 ⟨rfl, b1⟩
  have FZ1 := Lib.hid (FZ.out.keep (b1.block _ FZ.out.lt))
  have FX1 := Lib.hid (FX.out.keep (b1.block _ FX.out.lt))
  have BX1 : Hid (Below (w.heap.size + 1) w1 X1) := BX0.out.trans (b1.mono (Nat.le_trans hlow BX0.out.size))
  clear b1
  go_wp2_with fail
  refine hK.out _ _ ⟨BX1.out, FX1.out⟩ (fun hHeld => ?_)
  clear hK K
  try simp only [Act.put, List.setIfInBounds_toArray, List.set_cons_zero, List.set_cons_succ]
  refine wpAnyH_ready (rs := [10]) (by kernel_rfl) (by simp) ?_
  refine AllReadyH.cons (o := ⟨some 36, _, _, _, _, _⟩) rfl (fun K hK => ?_) AllReadyH.nil
  go_simp
  go_at_call 39
  refine (HCN.out _).mono ?_
  rintro e X2 ⟨rfl, b2⟩
  have FX2 := Lib.hid (FX1.out.keep (b2.block _ FX1.out.lt))
  have BX2 : Hid (Below (w.heap.size + 1) w1 X2) := BX1.out.trans (b2.mono (Nat.le_trans hlow BX1.out.size))
  have HZ2 := Lib.hid (FZ1.out.keep (b2.block _ FZ1.out.lt))
  clear b2
  go_wp2_with fail
  refine hK.out _ _ ⟨BX2.out, FX2.out⟩ (fun hHeld => ?_)
  clear hK K
  try simp only [Act.put, List.setIfInBounds_toArray, List.set_cons_zero, List.set_cons_succ]
  refine wpAnyH_ready (rs := [11]) (by kernel_rfl) (by simp) ?_
  refine AllReadyH.cons (o := ⟨none, _, _, _, _, _⟩) rfl (fun K hK => ?_) AllReadyH.nil
  refine step_store_D rfl _ _ rfl rfl (w.heap.size + 1) t rfl rfl HTL.out HZ2.out ?_
  refine hK.out _ _ ⟨below_setRow BX2.out (Nat.le_refl _) _, FX2.out.keep (setRow_other _ _ _ _ hneX)⟩ (fun hHeld => ?_)
  clear hK K
  refine wpAnyH_done (by kernel_rfl) ?_ _
  go_wp2_with fail
  exact bodyPost_ret (results_cell_row rfl _ _ _ _ _ _ _ rfl (HZ2.out.row _) Tryd.underlying26 rfl HI.out) rfl ⟨rfl, HB1.out.trans (below_setRow (BX2.out.mono (by omega)) (by omega) _)⟩

set_option maxRecDepth 100000 in
set_option maxHeartbeats 2000000 in
theorem refclimbRight (f : Nat) (ih : RefClimbOk f) (a n : Nat) (b o k c : Nat) (d x : D) (ps : List D) (w : World) (hd : d.length = 32) (hr : RdD w w.heap.size (some ⟨b, o, none⟩) (k + 1) ps) (hx : ps[k]? = some x) (hbl : b < w.heap.size)
    (hrx : w.rangeAt b (o + k * 32) (bytesV x)) (hs : k + 1 = Go.Proofs.YtfolmglafnfcbaaDoor.steps a n) (h2 : 2 ≤ n) (hf : n ≤ f + 1) (ha : ¬ a < half n) (han : a < n) (hn : n ≤ 1099511627776) (hc : k + 1 ≤ c) (hcm : c ≤ maxLen) :
    Calls Tryd.prog 45 #[dgV d, .int .i64 a, .int .i64 n, .slice (some ⟨b, o, none⟩) (k + 1) c] w fun e w' => e = .returned (dgV (tagged [110, 111, 100, 101] (x ++ climb d (a - half n) (n - half n) (ps.take k)))) ∧ Below w.heap.size w w' := by
  have a1 := half_lt n h2 hn
  have a2 := half_pos n
  have h40 := steps_40 a n (by omega) han hn
  rw [steps_right a n h2 hn ha] at hs h40
  obtain ⟨h, hh⟩ : ∃ h, h = half n := ⟨_, rfl⟩
  have HH := Lib.hid hh
  rw [← hh] at a1 a2 hs h40 ha ⊢
  obtain ⟨a', ha'⟩ : ∃ a', a' = a - h := ⟨_, rfl⟩
  obtain ⟨n', hn1⟩ : ∃ n', n' = n - h := ⟨_, rfl⟩
  rw [← ha', ← hn1] at hs h40 ⊢
  have hn' : n' ≤ 1099511627776 := by omega
  have HWA : Hid (IntKind.i64.wrap ((a : Int) - (h : Int)) = (a' : Int)) := by
    unfold Hid
    rw [IntWalk.i64_in _ (by omega)]
    omega
  have HWN : Hid (IntKind.i64.wrap ((n : Int) - (h : Int)) = (n' : Int)) := by
    unfold Hid
    rw [IntWalk.i64_in _ (by omega)]
    omega
  have hxl : x.length = 32 := hr.2.1 x (List.mem_of_getElem? hx)
  have hk40 : k + 1 ≤ 40 := by rw [hs]; exact h40
  have hcc : ¬ c = k := by omega
  have i0 : (0 : Int) ≤ (k : Int) := by omega
  have i1 : (k : Int) ≤ (k : Int) + 1 := by omega
  have i2 : (k : Int) ≤ (c : Int) := by omega
  have i3 : (k : Int) + 1 ≤ (c : Int) := by omega
  have i4 : (k : Int) < (k : Int) + 1 := by omega
  have hne1 : ((n : Int) == 1) = false := by rw [beq_eq_false_iff_ne]; omega
  have HWM : Hid (IntKind.i64.wrap (k : Int) = (k : Int)) := IntWalk.i64_in _ (by omega)
  obtain ⟨w0, hw0⟩ : ∃ w0, (w.alloc (.cells (bytesV d).toArray 26)).alloc (.cells Z32 26) = w0 := ⟨_, rfl⟩
  have hbx := box1 w d
  rw [hw0] at hbx
  obtain ⟨h1, h2', h3, h4⟩ := hbx
  obtain ⟨w1, hw1⟩ : ∃ w1, w0.alloc (.cells (bytesV x).toArray 26) = w1 := ⟨_, rfl⟩
  have hb1 : Below w0.heap.size w0 w1 := by rw [← hw1]; exact Below.new1 w0 _
  have hX1 : DRow w1 w0.heap.size x := by rw [← hw1]; exact heap_alloc_new _ _
  have hb01 : Below w.heap.size w w1 := h3.trans (hb1.mono (by omega))
  have HCL : Hid (∀ w', Below (w.heap.size + 1) w1 w' → Calls Tryd.prog 45 #[.agg (bytesV d).toArray, .int .i64 a', .int .i64 n', .slice (some ⟨b, o, none⟩) k c] w' fun e w'' => e = .returned (.agg (bytesV (climb d a' n' (ps.take k))).toArray) ∧ Below w'.heap.size w' w'') := fun w' hb =>
    ih a' n' _ k c d (ps.take k) w' hd ((hr.below (hb01.trans (hb.mono (Nat.le_succ _))) (hb01.trans (hb.mono (Nat.le_succ _))).size).take (by omega)) (by omega) (by omega) (by omega) (by omega) hn' (by omega) hcm
  have HRP : Hid (RdD w w.heap.size (some ⟨b, o, none⟩) (k + 1) ps) := hr
  have HR2 : Hid (w0.rangeAt b (o + k * 32) (bytesV x)) := range_below hrx h3 hbl
  have HX2 : Hid ((w0.alloc (.cells Z32 26)).rangeAt b (o + k * 32) (bytesV x)) := World.rangeAt_alloc HR2.out _
  have HD0 := Lib.hid (h1.below hb1 h1.lt)
  have HZ := Lib.hid ((IsD.new _ _ h2').below hb1 (by omega))
  have HX1 := Lib.hid hX1
  have HB1 := Lib.hid hb01
  have HW0 := Lib.hid hw0
  have HW1 := Lib.hid hw1
  obtain ⟨t, ht⟩ : ∃ t, t = tagged [110, 111, 100, 101] (x ++ climb d a' n' (ps.take k)) := ⟨_, rfl⟩
  have htl : t.length = 32 := by rw [ht]; exact tagged_length _ _
  have HTL := Lib.hid htl
  have HI := Lib.hid (dg_info t htl)
  have hcl : (climb d a' n' (ps.take k)).length = 32 := climb_length _ _ _ _ (by omega) hn'
  have HCN : Hid (∀ w', Calls Tryd.prog 39 #[.agg (bytesV (x)).toArray, .agg (bytesV (climb d a' n' (ps.take k))).toArray] w' fun e w'' => e = .returned (.agg (bytesV t).toArray) ∧ Below w'.heap.size w' w'') := fun w' => by
    rw [ht]
    exact refnode_any _ _ w' hxl hcl
  have hu := Tryd.underlying26
  have HI1 := Lib.hid (dg_size d hd)
  have HI2 := Lib.hid (dg_size x hxl)
  have HII2 := Lib.hid (dg_info x hxl)
  have HXL := Lib.hid hxl
  have hlow : w.heap.size + 1 ≤ w1.heap.size := by have := hb1.size; omega
  have hneX : w0.heap.size ≠ w.heap.size + 1 := by omega
  obtain ⟨X, hX⟩ : ∃ X, X = w0.heap.size := ⟨_, rfl⟩
  rw [← hX] at HX1 hneX
  have HXX := Lib.hid hX
  have HSP := Lib.hid (refhalf_any n w0 h2 hn)
  rw [← ht]
  clear hw0 hw1 hh hs h40 hn' h1 h2' h3 h4 hd hr hrx hx hxl hbl hb1 hX1 hb01 ht htl hcl hX ha' hn1
  unfold dgV
  go_enter Tryd.func45, Tryd.ntmps45
  go_wp2_with fail
  rw [HW0.out]
  refine HSP.out.mono ?_
  rintro e w' ⟨rfl, rfl⟩
  rw [← HH.out]
  go_wp2_with (first
    | (refine wpList_load_mid rfl 26 _ rfl b (o + k * 32) rfl _ _ HR2.out Tryd.underlying26 rfl HI2.out ?_)
    | (refine wpList_store_row rfl 26 _ _ rfl _ _ rfl rfl _ _ (heap_alloc_new _ _) HII2.out (z32_size _ HXL.out) (bytesV_all _) ?_; rw [World.setRow_alloc_new, HW1.out]))
  try rw [← HXX.out]
  refine wp_region_held_drew (S := fun u => Below (w.heap.size + 1) w1 u ∧ DRow u X x) (by kernel_rfl) ⟨(Below.refl _ _).drew, HX1.out.keep (w' := w1.drew) rfl⟩ (fun hHeld => ?_)
  have HZX := Lib.hid (HZ.out.keep (w' := w1.drew) rfl)
  generalize w1.drew = X0 at hHeld HZX ⊢
  have BX0 := Lib.hid hHeld.1
  have FX := Lib.hid hHeld.2
  have FZ : Hid (IsD X0 (w.heap.size + 1)) := HZX.out
  refine wpAnyH_take (i := 0) (oi := ⟨some 37, _, _, _, _, _⟩) rfl (by kernel_rfl) (by kernel_rfl) (by kernel_rfl) (fun _ _ _ h => h) (yieldsIf_load_mid (by rfl) _ _ rfl X 0 rfl _ _ (fun w' h => DRow.range h.2) Tryd.underlying26 rfl HI2.out) (by assumption) ?_
  try simp only [Act.put, List.setIfInBounds_toArray, List.set_cons_zero, List.set_cons_succ]
  refine wpAnyH_take (i := 1) (oi := ⟨some 38, _, _, _, _, _⟩) rfl (by kernel_rfl) (by kernel_rfl) (by kernel_rfl) (fun _ _ _ h => h) (yieldsIf_load_mid (by rfl) _ _ rfl w.heap.size 0 rfl _ _ (fun w' h => DRow.range (HD0.out.below h.1 (Nat.lt_succ_self _))) Tryd.underlying26 rfl HI1.out) (by assumption) ?_
  try simp only [Act.put, List.setIfInBounds_toArray, List.set_cons_zero, List.set_cons_succ]
  refine wpAnyH_take (i := 2) (oi := ⟨some 39, _, _, _, _, _⟩) (v := ?_) rfl (by kernel_rfl) (by kernel_rfl) (by kernel_rfl) (fun _ _ _ h => h) (Or.inl ⟨by rfl, ?_⟩) (by assumption) ?_
  rotate_left
  · (intro w hSw; go_simp) <;> with_reducible rfl
  try simp only [Act.put, List.setIfInBounds_toArray, List.set_cons_zero, List.set_cons_succ]
  refine wpAnyH_take (i := 3) (oi := ⟨some 40, _, _, _, _, _⟩) (v := ?_) rfl (by kernel_rfl) (by kernel_rfl) (by kernel_rfl) (fun _ _ _ h => h) (Or.inl ⟨by rfl, ?_⟩) (by assumption) ?_
  rotate_left
  · (intro w hSw; go_simp) <;> with_reducible rfl
  try simp only [Act.put, List.setIfInBounds_toArray, List.set_cons_zero, List.set_cons_succ]
  refine wpAnyH_take (i := 4) (oi := ⟨some 41, _, _, _, _, _⟩) (v := ?_) rfl (by kernel_rfl) (by kernel_rfl) (by kernel_rfl) (fun _ _ _ h => h) (Or.inl ⟨by rfl, ?_⟩) (by assumption) ?_
  rotate_left
  · (intro w hSw; go_simp) <;> with_reducible rfl
  try simp only [Act.put, List.setIfInBounds_toArray, List.set_cons_zero, List.set_cons_succ]
  try simp only [HWA.out]
  refine wpAnyH_take (i := 5) (oi := ⟨some 42, _, _, _, _, _⟩) (v := ?_) rfl (by kernel_rfl) (by kernel_rfl) (by kernel_rfl) (fun _ _ _ h => h) (Or.inl ⟨by rfl, ?_⟩) (by assumption) ?_
  rotate_left
  · (intro w hSw; go_simp) <;> with_reducible rfl
  try simp only [Act.put, List.setIfInBounds_toArray, List.set_cons_zero, List.set_cons_succ]
  refine wpAnyH_take (i := 6) (oi := ⟨some 43, _, _, _, _, _⟩) (v := ?_) rfl (by kernel_rfl) (by kernel_rfl) (by kernel_rfl) (fun _ _ _ h => h) (Or.inl ⟨by rfl, ?_⟩) (by assumption) ?_
  rotate_left
  · (intro w hSw; go_simp) <;> with_reducible rfl
  try simp only [Act.put, List.setIfInBounds_toArray, List.set_cons_zero, List.set_cons_succ]
  refine wpAnyH_take (i := 7) (oi := ⟨some 44, _, _, _, _, _⟩) (v := ?_) rfl (by kernel_rfl) (by kernel_rfl) (by kernel_rfl) (fun _ _ _ h => h) (Or.inl ⟨by rfl, ?_⟩) (by assumption) ?_
  rotate_left
  · (intro w hSw; go_simp) <;> with_reducible rfl
  try simp only [Act.put, List.setIfInBounds_toArray, List.set_cons_zero, List.set_cons_succ]
  try simp only [HWN.out]
  refine wpAnyH_take (i := 8) (oi := ⟨some 45, _, _, _, _, _⟩) (v := ?_) rfl (by kernel_rfl) (by kernel_rfl) (by kernel_rfl) (fun _ _ _ h => h) (Or.inl ⟨by rfl, ?_⟩) (by assumption) ?_
  rotate_left
  · (intro w hSw; go_simp) <;> with_reducible rfl
  try simp only [Act.put, List.setIfInBounds_toArray, List.set_cons_zero, List.set_cons_succ]
  refine wpAnyH_take (i := 9) (oi := ⟨some 46, _, _, _, _, _⟩) (v := ?_) rfl (by kernel_rfl) (by kernel_rfl) (by kernel_rfl) (fun _ _ _ h => h) (Or.inl ⟨by rfl, ?_⟩) (by assumption) ?_
  rotate_left
  · (intro w hSw; go_simp) <;> with_reducible rfl
  try simp only [Act.put, List.setIfInBounds_toArray, List.set_cons_zero, List.set_cons_succ]
  refine wpAnyH_take (i := 10) (oi := ⟨some 47, _, _, _, _, _⟩) (v := ?_) rfl (by kernel_rfl) (by kernel_rfl) (by kernel_rfl) (fun _ _ _ h => h) (Or.inl ⟨by rfl, ?_⟩) (by assumption) ?_
  rotate_left
  · (intro w hSw; go_simp) <;> with_reducible rfl
  try simp only [Act.put, List.setIfInBounds_toArray, List.set_cons_zero, List.set_cons_succ]
  refine wpAnyH_take (i := 11) (oi := ⟨some 48, _, _, _, _, _⟩) (v := ?_) rfl (by kernel_rfl) (by kernel_rfl) (by kernel_rfl) (fun _ _ _ h => h) (Or.inl ⟨by rfl, ?_⟩) (by assumption) ?_
  rotate_left
  · (intro w hSw; go_simp) <;> with_reducible rfl
  try simp only [Act.put, List.setIfInBounds_toArray, List.set_cons_zero, List.set_cons_succ]
  try simp only [HWM.out]
  refine wpAnyH_take (i := 12) (oi := ⟨some 49, _, _, _, _, _⟩) (v := ?_) rfl (by kernel_rfl) (by kernel_rfl) (by kernel_rfl) (fun _ _ _ h => h) (Or.inl ⟨by rfl, ?_⟩) (by assumption) ?_
  rotate_left
  · (intro w hSw; go_simp) <;> with_reducible rfl
  try simp only [Act.put, List.setIfInBounds_toArray, List.set_cons_zero, List.set_cons_succ]
  refine wpAnyH_ready (rs := [13]) (by kernel_rfl) (by simp) ?_
  refine AllReadyH.cons (o := ⟨some 50, _, _, _, _, _⟩) rfl (fun K hK => ?_) AllReadyH.nil
  go_simp
  go_at_call 45
  refine (HCL.out _ BX0.out).mono ?_
  rintro e X1 ⟨rfl, b1⟩
  have FZ1 := Lib.hid (FZ.out.keep (b1.block _ FZ.out.lt))
  have FX1 := Lib.hid (FX.out.keep (b1.block _ FX.out.lt))
  have BX1 : Hid (Below (w.heap.size + 1) w1 X1) := BX0.out.trans (b1.mono (Nat.le_trans hlow BX0.out.size))
  clear b1
  go_wp2_with fail
  refine hK.out _ _ ⟨BX1.out, FX1.out⟩ (fun hHeld => ?_)
  clear hK K
  try simp only [Act.put, List.setIfInBounds_toArray, List.set_cons_zero, List.set_cons_succ]
  refine wpAnyH_ready (rs := [14]) (by kernel_rfl) (by simp) ?_
  refine AllReadyH.cons (o := ⟨some 51, _, _, _, _, _⟩) rfl (fun K hK => ?_) AllReadyH.nil
  go_simp
  go_at_call 39
  refine (HCN.out _).mono ?_
  rintro e X2 ⟨rfl, b2⟩
  have FX2 := Lib.hid (FX1.out.keep (b2.block _ FX1.out.lt))
  have BX2 : Hid (Below (w.heap.size + 1) w1 X2) := BX1.out.trans (b2.mono (Nat.le_trans hlow BX1.out.size))
  have HZ2 := Lib.hid (FZ1.out.keep (b2.block _ FZ1.out.lt))
  clear b2
  go_wp2_with fail
  refine hK.out _ _ ⟨BX2.out, FX2.out⟩ (fun hHeld => ?_)
  clear hK K
  try simp only [Act.put, List.setIfInBounds_toArray, List.set_cons_zero, List.set_cons_succ]
  refine wpAnyH_ready (rs := [15]) (by kernel_rfl) (by simp) ?_
  refine AllReadyH.cons (o := ⟨none, _, _, _, _, _⟩) rfl (fun K hK => ?_) AllReadyH.nil
  refine step_store_D rfl _ _ rfl rfl (w.heap.size + 1) t rfl rfl HTL.out HZ2.out ?_
  refine hK.out _ _ ⟨below_setRow BX2.out (Nat.le_refl _) _, FX2.out.keep (setRow_other _ _ _ _ hneX)⟩ (fun hHeld => ?_)
  clear hK K
  refine wpAnyH_done (by kernel_rfl) ?_ _
  go_wp2_with fail
  exact bodyPost_ret (results_cell_row rfl _ _ _ _ _ _ _ rfl (HZ2.out.row _) Tryd.underlying26 rfl HI.out) rfl ⟨rfl, HB1.out.trans (below_setRow (BX2.out.mono (by omega)) (by omega) _)⟩

theorem refclimbOk : ∀ f, RefClimbOk f
  | 0 => by
    intro a n A m c d ps w _ _ _ h1 hf
    omega
  | f + 1 => by
    intro a n A m c d ps w hd hr hs h1 hf ha hn hc hcm
    by_cases he : n = 1
    · subst he
      rw [climb_one]
      exact refclimb1_any a A m c d w hd
    · have h2 : 2 ≤ n := by omega
      have hm : 1 ≤ m := by
        rw [hs]
        by_cases hl : a < half n
        · rw [steps_left a n h2 hn hl]; omega
        · rw [steps_right a n h2 hn hl]; omega
      obtain ⟨k, rfl⟩ : ∃ k, m = k + 1 := ⟨m - 1, by omega⟩
      obtain ⟨b, o, rfl, hb, hcell⟩ := hr.2.2 (by omega)
      have hpl := hr.1
      obtain ⟨x, hx⟩ : ∃ x, ps[k]? = some x := ⟨ps[k]'(by omega), List.getElem?_eq_getElem (by omega)⟩
      have e1 : ps.dropLast = ps.take k := by rw [List.dropLast_eq_take, ← hpl]; rfl
      have e2 : ps.getD (ps.length - 1) [] = x := by
        rw [← hpl, Nat.add_sub_cancel, List.getD_eq_getElem?_getD, hx]; rfl
      by_cases hl : a < half n
      · rw [climb_left d a n ps h2 hn hl, e1, e2]
        exact refclimbLeft f (refclimbOk f) a n b o k c d x ps w hd hr hx hb (hcell k x hx) hs h2 hf hl ha hn hc hcm
      · rw [climb_right d a n ps h2 hn hl, e1, e2]
        exact refclimbRight f (refclimbOk f) a n b o k c d x ps w hd hr hx hb (hcell k x hx) hs h2 hf hl ha hn hc hcm
end Go.Proofs.YtfolmglafnfcbaaDoor
