/- Contract of climb. -/
import Derived.Test.YtfolmglafnfcbaaDoorEq
namespace Go.Proofs.YtfolmglafnfcbaaDoor
open Go.RowKit

theorem DRow.range {w : World} {g : Nat} {l : List UInt8} (h : DRow w g l) : w.rangeAt g 0 (bytesV l) := by
  intro j v hv
  rw [Nat.zero_add, cell_of_row w g j _ _ _ h]
  simpa using hv
theorem range_below {w w' : World} {B b o : Nat} {cs : List Value} (h : w.rangeAt b o cs) (hb : Below B w w') (hg : b < B) : w'.rangeAt b o cs := fun j v hv => (hb.cell hg).trans (h j v hv)
theorem dg_size (d : D) (hd : d.length = 32) : (Tryd.prog.info? 26).map (·.size) = some (bytesV d).length := by rw [bytesV_length, hd]; kernel_rfl

/-- two new places: a digest, and the zero digest -/
theorem box1 (w : World) (a : List UInt8) :
    DRow ((w.alloc (.cells (bytesV a).toArray 26)).alloc (.cells Z32 26)) w.heap.size a ∧
    ((w.alloc (.cells (bytesV a).toArray 26)).alloc (.cells Z32 26)).heap[w.heap.size + 1]? = some (.cells Z32 26 (0, 0)) ∧
    Below w.heap.size w ((w.alloc (.cells (bytesV a).toArray 26)).alloc (.cells Z32 26)) ∧
    ((w.alloc (.cells (bytesV a).toArray 26)).alloc (.cells Z32 26)).heap.size = w.heap.size + 2 := by
  refine ⟨(heap_alloc_old _ _ _ (by simp)).trans (heap_alloc_new _ _), ?_, ((Below.refl _ _).alloc (Nat.le_refl _) _).alloc (by simp) _, by simp⟩
  have h := heap_alloc_new (w.alloc (.cells (bytesV a).toArray 26)) (.cells Z32 26)
  simpa using h

set_option maxRecDepth 100000 in
set_option maxHeartbeats 1000000 in
theorem climb1_any (a : Int) (A : Option Addr) (m c : Nat) (d : D) (w : World) (hd : d.length = 32) (hK : KOK w) :
    Calls Tryd.prog 43 #[dgV d, .int .i64 a, .int .i64 1, .slice A m c] w fun e w' => e = .returned (dgV (tagged [108, 101, 97, 102] d)) ∧ Below w.heap.size w w' := by
  have hK0 := hK.pos
  obtain ⟨w0, hw0⟩ : ∃ w0, (w.alloc (.cells (bytesV d).toArray 26)).alloc (.cells Z32 26) = w0 := ⟨_, rfl⟩
  have hbx := box1 w d
  rw [hw0] at hbx
  obtain ⟨h1, h2, h3, h4⟩ := hbx
  have HR : Hid (((w.alloc (.cells (bytesV d).toArray 26)).alloc (.cells Z32 26)).rangeAt w.heap.size 0 (bytesV d)) := by rw [hw0]; exact h1.range
  have HZ := Lib.hid (IsD.new _ _ h2)
  have HB0 := Lib.hid h3
  have HW0 := Lib.hid hw0
  have HK := Lib.hid (hK.below h3 hK0)
  have HLI := Lib.hid (dg_size d hd)
  have HID := Lib.hid (dg_info d hd)
  have HLD := Lib.hid hd
  have HI := Lib.hid (dg_info (tagged [108, 101, 97, 102] d) (tagged_length _ _))
  clear hw0 h1 h2 h3 hK hd
  unfold dgV
  go_enter Tryd.func43, Tryd.ntmps43
  go_wp2_with (refine wpList_load_mid rfl 26 _ rfl w.heap.size 0 rfl _ _ HR.out Tryd.underlying26 rfl HLI.out ?_)
  rw [HW0.out]
  refine (leaf_any d w0 HLD.out HK.out).mono ?_
  rintro e w1 ⟨rfl, hb1⟩
  obtain ⟨old, HD1, HDs⟩ := HZ.out.below hb1 (by omega)
  have HB1 := Lib.hid (HB0.out.trans (hb1.mono (by omega)))
  clear hb1
  unfold dgV
  go_wp2_with (refine wpList_store_row rfl 26 _ _ rfl _ _ rfl rfl _ _ HD1 HI.out (HDs.trans (by rw [List.size_toArray, bytesV_length, tagged_length])) (bytesV_all _) ?_)
  exact bodyPost_ret (results_cell_row rfl _ _ _ _ _ _ _ rfl (setRow_heap _ _ _ _ _ _ HD1) Tryd.underlying26 rfl HI.out) rfl ⟨rfl, below_setRow HB1.out (by omega) _⟩

/-- what a contract of climb says of lists up to a length -/
def ClimbOk (f : Nat) : Prop := ∀ (a n : Nat) (A : Option Addr) (m c : Nat) (d : D) (ps : List D) (w : World), d.length = 32 → RdD w w.heap.size A m ps → m = Go.Proofs.YtfolmglafnfcbaaDoor.steps a n → 1 ≤ n → n ≤ f → a < n → n ≤ 1099511627776 → m ≤ c → c ≤ maxLen → KOK w →
  Calls Tryd.prog 43 #[dgV d, .int .i64 a, .int .i64 n, .slice A m c] w fun e w' => e = .returned (dgV (climb d a n ps)) ∧ Below w.heap.size w w'

set_option maxRecDepth 100000 in
set_option maxHeartbeats 2000000 in
theorem climbLeft (f : Nat) (ih : ClimbOk f) (a n : Nat) (b o k m c : Nat) (hm : m = k + 1) (d x : D) (ps : List D) (w : World) (hd : d.length = 32) (hr : RdD w w.heap.size (some ⟨b, o, none⟩) m ps) (hx : ps[k]? = some x) (hbl : b < w.heap.size)
    (hrx : w.rangeAt b (o + k * 32) (bytesV x)) (hs : m = Go.Proofs.YtfolmglafnfcbaaDoor.steps a n) (h2 : 2 ≤ n) (hf : n ≤ f + 1) (ha : a < half n) (hn : n ≤ 1099511627776) (hc : m ≤ c) (hcm : c ≤ maxLen) (hK : KOK w) :
    Calls Tryd.prog 43 #[dgV d, .int .i64 a, .int .i64 n, .slice (some ⟨b, o, none⟩) m c] w fun e w' => e = .returned (dgV (tagged [110, 111, 100, 101] (climb d a (half n) (ps.take k) ++ x))) ∧ Below w.heap.size w w' := by
  have hK0 := hK.pos
  have a1 := half_lt n h2 hn
  have a2 := half_pos n
  have h40 := steps_40 a n (by omega) (by omega) hn
  rw [steps_left a n h2 hn ha] at hs h40
  obtain ⟨h, hh⟩ : ∃ h, h = half n := ⟨_, rfl⟩
  have HH := Lib.hid hh
  rw [← hh] at a1 a2 hs h40 ha ⊢
  have hxl : x.length = 32 := hr.2.1 x (List.mem_of_getElem? hx)
  have hcc : ¬ c = k := by omega
  have i0 : (0 : Int) ≤ (k : Int) := by omega
  have i1 : (k : Int) ≤ (m : Int) := by omega
  have i2 : (k : Int) ≤ (c : Int) := by omega
  have i3 : (m : Int) ≤ (c : Int) := by omega
  have i4 : (k : Int) < (m : Int) := by omega
  have i5 : k < m := by omega
  have hn' : h ≤ 1099511627776 := Nat.le_trans (Nat.le_of_lt a1) hn
  have hne1 : ((n : Int) == 1) = false := by rw [beq_eq_false_iff_ne]; omega
  have hk40 : m ≤ 40 := by rw [hs]; exact h40
  have hlen : wrap64 ((m : Int) - 1) = (k : Int) := by
    rw [show (m : Int) - 1 = (k : Int) by omega]
    exact wrap64_small k (by omega)
  obtain ⟨w0, hw0⟩ : ∃ w0, (w.alloc (.cells (bytesV d).toArray 26)).alloc (.cells Z32 26) = w0 := ⟨_, rfl⟩
  have hbx := box1 w d
  rw [hw0] at hbx
  obtain ⟨h1, h2', h3, h4⟩ := hbx
  have hK0' := hK.below h3 hK0
  have hr0 := hr.below h3 (Nat.le_refl _)
  have HT : Hid (climb d a h (ps.take k) = climb d a h (ps.take k)) := Lib.hid rfl
  have HCL : Hid (∀ w', Below w0.heap.size w0 w' → Calls Tryd.prog 43 #[dgV d, .int .i64 a, .int .i64 h, .slice (some ⟨b, o, none⟩) k c] w' fun e w'' => e = .returned (dgV (climb d a h (ps.take k))) ∧ Hid (Below w0.heap.size w0 w'')) := fun w' hb =>
    (ih a h _ k c d (ps.take k) w' hd ((hr0.take (by omega)).keep (by have := hb.size; omega) fun p hp => hb.cell (by omega)) (by omega) (by omega) (by omega) ha hn' (by omega) hcm (hK0'.below hb (by omega))).mono fun _ _ ⟨e, q⟩ => ⟨e, hb.trans (q.mono hb.size)⟩
  have HCN : Hid (∀ w', Below w0.heap.size w0 w' → Calls Tryd.prog 37 #[dgV (climb d a h (ps.take k)), dgV x] w' fun e w'' => e = .returned (dgV (tagged [110, 111, 100, 101] (climb d a h (ps.take k) ++ x))) ∧ Hid (Below w0.heap.size w0 w'')) := fun w' hb =>
    (node_any _ _ w' (climb_length _ _ _ _ (by omega) hn') hxl (hK0'.below hb (by omega))).mono fun _ _ ⟨e, q⟩ => ⟨e, hb.trans (q.mono hb.size)⟩
  have HR1 : Hid (w0.rangeAt w.heap.size 0 (bytesV d)) := h1.range
  have HR2 : Hid (w0.rangeAt b (o + k * 32) (bytesV x)) := range_below hrx h3 hbl
  have HS : Hid (∀ w', Below (w.heap.size + 1) w0 w' → (Below (w.heap.size + 1) w0 w' ∧ w'.rangeAt w.heap.size 0 (bytesV d) ∧ w'.rangeAt b (o + k * 32) (bytesV x))) := fun w' hb => ⟨hb, range_below HR1.out hb (by omega), range_below HR2.out hb (by omega)⟩
  have HZ := Lib.hid (IsD.new _ _ h2')
  have HB0 := Lib.hid h3
  have HW0 := Lib.hid hw0
  have HI := Lib.hid (dg_info (tagged [110, 111, 100, 101] (climb d a h (ps.take k) ++ x)) (tagged_length _ _))
  have hu := Tryd.underlying26
  have hi1 := dg_size d hd
  have hi2 := dg_size x hxl
  have hz0 : w.heap.size + 1 < w0.heap.size := by omega
  have HSP := Lib.hid (split_any n w0 h2 hn)
  clear hw0 hh hs h40 hk40 hm hn' h1 h2' h3 hK hd hK0' hr hr0 hrx hx h4 hxl hbl
  unfold dgV
  go_enter Tryd.func43, Tryd.ntmps43
  go_wp2_with fail
  rw [HW0.out]
  refine HSP.out.mono ?_
  rintro e w' ⟨rfl, rfl⟩
  rw [← HH.out]
  go_wp2_with fail
  simp only [hlen]
  refine wp_region_held_drew (S := fun w' => Below (w.heap.size + 1) w0 w' ∧ w'.rangeAt w.heap.size 0 (bytesV d) ∧ w'.rangeAt b (o + k * 32) (bytesV x)) (by kernel_rfl) (HS.out _ (Below.refl _ _).drew) (fun hHeld => ?_)
  refine wpAnyH_take (i := 0) (oi := { dst := some 23, op := _, type := _, pos := _, after := _, guard := _ }) rfl (by kernel_rfl) (by kernel_rfl) (by kernel_rfl) (fun _ _ _ h => h) (yieldsIf_load_mid (by rfl) _ _ rfl w.heap.size 0 rfl _ _ (fun w' h => h.2.1) hu rfl hi1) (by assumption) ?_
  simp only [Act.put, List.setIfInBounds_toArray, List.set_cons_zero, List.set_cons_succ]
  refine wpAnyH_take (i := 1) (oi := { dst := some 24, op := _, type := _, pos := _, after := _, guard := _ }) (v := ?_) rfl (by kernel_rfl) (by kernel_rfl) (by kernel_rfl) (fun _ _ _ h => h) (Or.inl ⟨by rfl, ?_⟩) (by assumption) ?_
  rotate_left
  · (intro w hSw; go_simp) <;> with_reducible rfl
  simp only [Act.put, List.setIfInBounds_toArray, List.set_cons_zero, List.set_cons_succ]
  refine wpAnyH_take (i := 2) (oi := { dst := some 25, op := _, type := _, pos := _, after := _, guard := _ }) (v := ?_) rfl (by kernel_rfl) (by kernel_rfl) (by kernel_rfl) (fun _ _ _ h => h) (Or.inl ⟨by rfl, ?_⟩) (by assumption) ?_
  rotate_left
  · (intro w hSw; go_simp) <;> with_reducible rfl
  simp only [Act.put, List.setIfInBounds_toArray, List.set_cons_zero, List.set_cons_succ]
  refine wpAnyH_take (i := 3) (oi := { dst := some 26, op := _, type := _, pos := _, after := _, guard := _ }) (v := ?_) rfl (by kernel_rfl) (by kernel_rfl) (by kernel_rfl) (fun _ _ _ h => h) (Or.inl ⟨by rfl, ?_⟩) (by assumption) ?_
  rotate_left
  · (intro w hSw; go_simp) <;> with_reducible rfl
  simp only [Act.put, List.setIfInBounds_toArray, List.set_cons_zero, List.set_cons_succ]
  refine wpAnyH_take (i := 4) (oi := { dst := some 27, op := _, type := _, pos := _, after := _, guard := _ }) (v := ?_) rfl (by kernel_rfl) (by kernel_rfl) (by kernel_rfl) (fun _ _ _ h => h) (Or.inl ⟨by rfl, ?_⟩) (by assumption) ?_
  rotate_left
  · (intro w hSw; go_simp) <;> with_reducible rfl
  simp only [Act.put, List.setIfInBounds_toArray, List.set_cons_zero, List.set_cons_succ]
  refine wpAnyH_take (i := 5) (oi := { dst := some 28, op := _, type := _, pos := _, after := _, guard := _ }) (v := ?_) rfl (by kernel_rfl) (by kernel_rfl) (by kernel_rfl) (fun _ _ _ h => h) (Or.inl ⟨by rfl, ?_⟩) (by assumption) ?_
  rotate_left
  · (intro w hSw; go_simp) <;> with_reducible rfl
  simp only [Act.put, List.setIfInBounds_toArray, List.set_cons_zero, List.set_cons_succ]
  refine wpAnyH_take (i := 7) (oi := { dst := some 30, op := _, type := _, pos := _, after := _, guard := _ }) (v := ?_) rfl (by kernel_rfl) (by kernel_rfl) (by kernel_rfl) (fun _ _ _ h => h) (Or.inl ⟨by rfl, ?_⟩) (by assumption) ?_
  rotate_left
  · (intro w hSw; go_simp) <;> with_reducible rfl
  simp only [Act.put, List.setIfInBounds_toArray, List.set_cons_zero, List.set_cons_succ]
  refine wpAnyH_take (i := 8) (oi := { dst := some 31, op := _, type := _, pos := _, after := _, guard := _ }) (v := ?_) rfl (by kernel_rfl) (by kernel_rfl) (by kernel_rfl) (fun _ _ _ h => h) (Or.inl ⟨by rfl, ?_⟩) (by assumption) ?_
  rotate_left
  · (intro w hSw; go_simp) <;> with_reducible rfl
  simp only [Act.put, List.setIfInBounds_toArray, List.set_cons_zero, List.set_cons_succ]
  refine wpAnyH_take (i := 9) (oi := { dst := some 32, op := _, type := _, pos := _, after := _, guard := _ }) (v := ?_) rfl (by kernel_rfl) (by kernel_rfl) (by kernel_rfl) (fun _ _ _ h => h) (Or.inl ⟨by rfl, ?_⟩) (by assumption) ?_
  rotate_left
  · (intro w hSw; go_simp) <;> with_reducible rfl
  simp only [Act.put, List.setIfInBounds_toArray, List.set_cons_zero, List.set_cons_succ]
  refine wpAnyH_take (i := 10) (oi := { dst := some 33, op := _, type := _, pos := _, after := _, guard := _ }) rfl (by kernel_rfl) (by kernel_rfl) (by kernel_rfl) (fun _ _ _ h => h) (yieldsIf_load_mid (by rfl) _ _ rfl b (o + k * 32) rfl _ _ (fun w' h => h.2.2) hu rfl hi2) (by assumption) ?_
  simp only [Act.put, List.setIfInBounds_toArray, List.set_cons_zero, List.set_cons_succ]
  refine wpAnyH_ready (rs := [6]) (by kernel_rfl) (by simp) ?_
  refine AllReadyH.cons (o := { dst := some 29, op := _, type := _, pos := _, after := _, guard := _ }) rfl (fun K hK => ?_) AllReadyH.nil
  go_simp
  go_at_call 43
  refine (HCL.out _ (Below.refl _ _).drew).mono ?_
  rintro e wL ⟨rfl, HSL⟩
  go_wp2_with fail
  refine hK.out _ _ (HS.out _ (HSL.out.mono (by omega))) (fun hHL => ?_)
  clear hK K
  try simp only [Act.put, List.setIfInBounds_toArray, List.set_cons_zero, List.set_cons_succ]
  refine wpAnyH_ready (rs := [11]) (by kernel_rfl) (by simp) ?_
  refine AllReadyH.cons (o := { dst := some 34, op := _, type := _, pos := _, after := _, guard := _ }) rfl (fun K hK => ?_) AllReadyH.nil
  go_simp
  go_at_call 37
  refine (HCN.out _ HSL.out).mono ?_
  rintro e wN ⟨rfl, HSN⟩
  go_wp2_with fail
  refine hK.out _ _ (HS.out _ (HSN.out.mono (by omega))) (fun hHN => ?_)
  clear hK K
  try simp only [Act.put, List.setIfInBounds_toArray, List.set_cons_zero, List.set_cons_succ]
  have ht5 := (HZ.out.below HSN.out (by omega)).there _ (tagged_length [110, 111, 100, 101] (climb d a h (ps.take k) ++ x))
  have hl5 := bytesV_one (tagged [110, 111, 100, 101] (climb d a h (ps.take k) ++ x))
  have hi5 := HI.out
  have Hs5 : Hid (wN.setCells (w.heap.size + 1) 0 (bytesV (tagged [110, 111, 100, 101] (climb d a h (ps.take k) ++ x))) = wN.setRow (w.heap.size + 1) (bytesV (tagged [110, 111, 100, 101] (climb d a h (ps.take k) ++ x))).toArray) := setCells_row (HZ.out.below HSN.out (by omega)) (tagged_length _ _)
  unfold dgV
  refine wpAnyH_ready (rs := [12]) (by kernel_rfl) (by simp) ?_
  refine AllReadyH.cons (o := { dst := none, op := _, type := _, pos := _, after := _, guard := _ }) rfl (fun K hK => ?_) AllReadyH.nil
  rw [if_pos (by rfl)]
  refine wp_store_mid _ _ _ rfl _ _ (List.toArray _) rfl rfl ?_ ?_ (all_oneCell_toArray hl5) ?_
  · first | assumption | (simp only [List.size_toArray, *] <;> assumption)
  · (first | assumption | (simp only [List.size_toArray] <;> assumption) | (simp only [List.size_toArray, *]))
  simp only [Act.put]
  refine hK.out _ _ (by rw [Hs5.out]; exact HS.out _ (below_setRow (HSN.out.mono (by omega)) (Nat.le_refl _) _)) (fun hHS => ?_)
  clear hK K
  try simp only [Act.put, List.setIfInBounds_toArray, List.set_cons_zero, List.set_cons_succ]
  refine wpAnyH_done (by kernel_rfl) ?_ _
  rw [Hs5.out]
  go_wp2_with fail
  exact bodyPost_ret (results_cell_row rfl _ _ _ _ _ _ _ rfl ((HZ.out.below HSN.out (by omega)).row _) Tryd.underlying26 rfl hi5) rfl ⟨rfl, HB0.out.trans (below_setRow (HSN.out.mono (by omega)) (by omega) _)⟩

set_option maxRecDepth 100000 in
set_option maxHeartbeats 2000000 in
theorem climbRight (f : Nat) (ih : ClimbOk f) (a n : Nat) (b o k m c : Nat) (hm : m = k + 1) (d x : D) (ps : List D) (w : World) (hd : d.length = 32) (hr : RdD w w.heap.size (some ⟨b, o, none⟩) m ps) (hx : ps[k]? = some x) (hbl : b < w.heap.size)
    (hrx : w.rangeAt b (o + k * 32) (bytesV x)) (hs : m = Go.Proofs.YtfolmglafnfcbaaDoor.steps a n) (h2 : 2 ≤ n) (hf : n ≤ f + 1) (ha : ¬ a < half n) (han : a < n) (hn : n ≤ 1099511627776) (hc : m ≤ c) (hcm : c ≤ maxLen) (hK : KOK w) :
    Calls Tryd.prog 43 #[dgV d, .int .i64 a, .int .i64 n, .slice (some ⟨b, o, none⟩) m c] w fun e w' => e = .returned (dgV (tagged [110, 111, 100, 101] (x ++ climb d (a - half n) (n - half n) (ps.take k)))) ∧ Below w.heap.size w w' := by
  have hK0 := hK.pos
  have a1 := half_lt n h2 hn
  have a2 := half_pos n
  have h40 := steps_40 a n (by omega) han hn
  rw [steps_right a n h2 hn ha] at hs h40
  obtain ⟨h, hh⟩ : ∃ h, h = half n := ⟨_, rfl⟩
  have HH := Lib.hid hh
  rw [← hh] at a1 a2 hs h40 ha ⊢
  obtain ⟨a', ha'⟩ : ∃ a', a' = a - h := ⟨_, rfl⟩
  obtain ⟨n', hn1⟩ : ∃ n', n' = n - h := ⟨_, rfl⟩
  rw [← ha', ← hn1] at hs h40 ⊢
  have hn' : n' ≤ 1099511627776 := by omega
  have HWA : Hid (IntKind.i64.wrap ((a : Int) - (h : Int)) = (a' : Int)) := by
    unfold Hid
    rw [IntWalk.i64_in _ (by omega)]
    omega
  have HWN : Hid (IntKind.i64.wrap ((n : Int) - (h : Int)) = (n' : Int)) := by
    unfold Hid
    rw [IntWalk.i64_in _ (by omega)]
    omega
  have hxl : x.length = 32 := hr.2.1 x (List.mem_of_getElem? hx)
  have hcc : ¬ c = k := by omega
  have i0 : (0 : Int) ≤ (k : Int) := by omega
  have i1 : (k : Int) ≤ (m : Int) := by omega
  have i2 : (k : Int) ≤ (c : Int) := by omega
  have i3 : (m : Int) ≤ (c : Int) := by omega
  have i4 : (k : Int) < (m : Int) := by omega
  have i5 : k < m := by omega
  have hne1 : ((n : Int) == 1) = false := by rw [beq_eq_false_iff_ne]; omega
  have hk40 : m ≤ 40 := by rw [hs]; exact h40
  have hlen : wrap64 ((m : Int) - 1) = (k : Int) := by
    rw [show (m : Int) - 1 = (k : Int) by omega]
    exact wrap64_small k (by omega)
  obtain ⟨w0, hw0⟩ : ∃ w0, (w.alloc (.cells (bytesV d).toArray 26)).alloc (.cells Z32 26) = w0 := ⟨_, rfl⟩
  have hbx := box1 w d
  rw [hw0] at hbx
  obtain ⟨h1, h2', h3, h4⟩ := hbx
  have hK0' := hK.below h3 hK0
  have hr0 := hr.below h3 (Nat.le_refl _)
  have HT : Hid (climb d a' n' (ps.take k) = climb d a' n' (ps.take k)) := Lib.hid rfl
  have HCL : Hid (∀ w', Below w0.heap.size w0 w' → Calls Tryd.prog 43 #[dgV d, .int .i64 a', .int .i64 n', .slice (some ⟨b, o, none⟩) k c] w' fun e w'' => e = .returned (dgV (climb d a' n' (ps.take k))) ∧ Hid (Below w0.heap.size w0 w'')) := fun w' hb =>
    (ih a' n' _ k c d (ps.take k) w' hd ((hr0.take (by omega)).keep (by have := hb.size; omega) fun p hp => hb.cell (by omega)) (by omega) (by omega) (by omega) (by omega) hn' (by omega) hcm (hK0'.below hb (by omega))).mono fun _ _ ⟨e, q⟩ => ⟨e, hb.trans (q.mono hb.size)⟩
  have HCN : Hid (∀ w', Below w0.heap.size w0 w' → Calls Tryd.prog 37 #[dgV x, dgV (climb d a' n' (ps.take k))] w' fun e w'' => e = .returned (dgV (tagged [110, 111, 100, 101] (x ++ climb d a' n' (ps.take k)))) ∧ Hid (Below w0.heap.size w0 w'')) := fun w' hb =>
    (node_any _ _ w' hxl (climb_length _ _ _ _ (by omega) hn') (hK0'.below hb (by omega))).mono fun _ _ ⟨e, q⟩ => ⟨e, hb.trans (q.mono hb.size)⟩
  have HR1 : Hid (w0.rangeAt w.heap.size 0 (bytesV d)) := h1.range
  have HR2 : Hid (w0.rangeAt b (o + k * 32) (bytesV x)) := range_below hrx h3 hbl
  have HS : Hid (∀ w', Below (w.heap.size + 1) w0 w' → (Below (w.heap.size + 1) w0 w' ∧ w'.rangeAt w.heap.size 0 (bytesV d) ∧ w'.rangeAt b (o + k * 32) (bytesV x))) := fun w' hb => ⟨hb, range_below HR1.out hb (by omega), range_below HR2.out hb (by omega)⟩
  have HZ := Lib.hid (IsD.new _ _ h2')
  have HB0 := Lib.hid h3
  have HW0 := Lib.hid hw0
  have HI := Lib.hid (dg_info (tagged [110, 111, 100, 101] (x ++ climb d a' n' (ps.take k))) (tagged_length _ _))
  have hu := Tryd.underlying26
  have hi1 := dg_size d hd
  have hi2 := dg_size x hxl
  have hz0 : w.heap.size + 1 < w0.heap.size := by omega
  have HSP := Lib.hid (split_any n w0 h2 hn)
  clear hw0 hh ha' hn1 hs h40 hk40 hm hn' h1 h2' h3 hK hd hK0' hr hr0 hrx hx h4 hxl hbl
  unfold dgV
  go_enter Tryd.func43, Tryd.ntmps43
  go_wp2_with fail
  rw [HW0.out]
  refine HSP.out.mono ?_
  rintro e w' ⟨rfl, rfl⟩
  rw [← HH.out]
  go_wp2_with fail
  simp only [hlen]
  refine wp_region_held_drew (S := fun w' => Below (w.heap.size + 1) w0 w' ∧ w'.rangeAt w.heap.size 0 (bytesV d) ∧ w'.rangeAt b (o + k * 32) (bytesV x)) (by kernel_rfl) (HS.out _ (Below.refl _ _).drew) (fun hHeld => ?_)
  refine wpAnyH_take (i := 0) (oi := { dst := some 35, op := _, type := _, pos := _, after := _, guard := _ }) (v := ?_) rfl (by kernel_rfl) (by kernel_rfl) (by kernel_rfl) (fun _ _ _ h => h) (Or.inl ⟨by rfl, ?_⟩) (by assumption) ?_
  rotate_left
  · (intro w hSw; go_simp) <;> with_reducible rfl
  try simp only [Act.put, List.setIfInBounds_toArray, List.set_cons_zero, List.set_cons_succ]
  refine wpAnyH_take (i := 1) (oi := { dst := some 36, op := _, type := _, pos := _, after := _, guard := _ }) (v := ?_) rfl (by kernel_rfl) (by kernel_rfl) (by kernel_rfl) (fun _ _ _ h => h) (Or.inl ⟨by rfl, ?_⟩) (by assumption) ?_
  rotate_left
  · (intro w hSw; go_simp) <;> with_reducible rfl
  try simp only [Act.put, List.setIfInBounds_toArray, List.set_cons_zero, List.set_cons_succ]
  refine wpAnyH_take (i := 2) (oi := { dst := some 37, op := _, type := _, pos := _, after := _, guard := _ }) (v := ?_) rfl (by kernel_rfl) (by kernel_rfl) (by kernel_rfl) (fun _ _ _ h => h) (Or.inl ⟨by rfl, ?_⟩) (by assumption) ?_
  rotate_left
  · (intro w hSw; go_simp) <;> with_reducible rfl
  try simp only [Act.put, List.setIfInBounds_toArray, List.set_cons_zero, List.set_cons_succ]
  refine wpAnyH_take (i := 3) (oi := { dst := some 38, op := _, type := _, pos := _, after := _, guard := _ }) rfl (by kernel_rfl) (by kernel_rfl) (by kernel_rfl) (fun _ _ _ h => h) (yieldsIf_load_mid (by rfl) _ _ rfl b (o + k * 32) rfl _ _ (fun w' h => h.2.2) hu rfl hi2) (by assumption) ?_
  try simp only [Act.put, List.setIfInBounds_toArray, List.set_cons_zero, List.set_cons_succ]
  refine wpAnyH_take (i := 4) (oi := { dst := some 39, op := _, type := _, pos := _, after := _, guard := _ }) rfl (by kernel_rfl) (by kernel_rfl) (by kernel_rfl) (fun _ _ _ h => h) (yieldsIf_load_mid (by rfl) _ _ rfl w.heap.size 0 rfl _ _ (fun w' h => h.2.1) hu rfl hi1) (by assumption) ?_
  try simp only [Act.put, List.setIfInBounds_toArray, List.set_cons_zero, List.set_cons_succ]
  refine wpAnyH_take (i := 5) (oi := { dst := some 40, op := _, type := _, pos := _, after := _, guard := _ }) (v := ?_) rfl (by kernel_rfl) (by kernel_rfl) (by kernel_rfl) (fun _ _ _ h => h) (Or.inl ⟨by rfl, ?_⟩) (by assumption) ?_
  rotate_left
  · (intro w hSw; go_simp) <;> with_reducible rfl
  try simp only [Act.put, List.setIfInBounds_toArray, List.set_cons_zero, List.set_cons_succ]
  refine wpAnyH_take (i := 6) (oi := { dst := some 41, op := _, type := _, pos := _, after := _, guard := _ }) (v := ?_) rfl (by kernel_rfl) (by kernel_rfl) (by kernel_rfl) (fun _ _ _ h => h) (Or.inl ⟨by rfl, ?_⟩) (by assumption) ?_
  rotate_left
  · (intro w hSw; go_simp) <;> with_reducible rfl
  try simp only [Act.put, List.setIfInBounds_toArray, List.set_cons_zero, List.set_cons_succ]
  refine wpAnyH_take (i := 7) (oi := { dst := some 42, op := _, type := _, pos := _, after := _, guard := _ }) (v := ?_) rfl (by kernel_rfl) (by kernel_rfl) (by kernel_rfl) (fun _ _ _ h => h) (Or.inl ⟨by rfl, ?_⟩) (by assumption) ?_
  rotate_left
  · (intro w hSw; go_simp) <;> with_reducible rfl
  try simp only [Act.put, List.setIfInBounds_toArray, List.set_cons_zero, List.set_cons_succ]
  simp only [HWA.out]
  refine wpAnyH_take (i := 8) (oi := { dst := some 43, op := _, type := _, pos := _, after := _, guard := _ }) (v := ?_) rfl (by kernel_rfl) (by kernel_rfl) (by kernel_rfl) (fun _ _ _ h => h) (Or.inl ⟨by rfl, ?_⟩) (by assumption) ?_
  rotate_left
  · (intro w hSw; go_simp) <;> with_reducible rfl
  try simp only [Act.put, List.setIfInBounds_toArray, List.set_cons_zero, List.set_cons_succ]
  refine wpAnyH_take (i := 9) (oi := { dst := some 44, op := _, type := _, pos := _, after := _, guard := _ }) (v := ?_) rfl (by kernel_rfl) (by kernel_rfl) (by kernel_rfl) (fun _ _ _ h => h) (Or.inl ⟨by rfl, ?_⟩) (by assumption) ?_
  rotate_left
  · (intro w hSw; go_simp) <;> with_reducible rfl
  try simp only [Act.put, List.setIfInBounds_toArray, List.set_cons_zero, List.set_cons_succ]
  refine wpAnyH_take (i := 10) (oi := { dst := some 45, op := _, type := _, pos := _, after := _, guard := _ }) (v := ?_) rfl (by kernel_rfl) (by kernel_rfl) (by kernel_rfl) (fun _ _ _ h => h) (Or.inl ⟨by rfl, ?_⟩) (by assumption) ?_
  rotate_left
  · (intro w hSw; go_simp) <;> with_reducible rfl
  try simp only [Act.put, List.setIfInBounds_toArray, List.set_cons_zero, List.set_cons_succ]
  simp only [HWN.out]
  refine wpAnyH_take (i := 11) (oi := { dst := some 46, op := _, type := _, pos := _, after := _, guard := _ }) (v := ?_) rfl (by kernel_rfl) (by kernel_rfl) (by kernel_rfl) (fun _ _ _ h => h) (Or.inl ⟨by rfl, ?_⟩) (by assumption) ?_
  rotate_left
  · (intro w hSw; go_simp) <;> with_reducible rfl
  try simp only [Act.put, List.setIfInBounds_toArray, List.set_cons_zero, List.set_cons_succ]
  refine wpAnyH_take (i := 12) (oi := { dst := some 47, op := _, type := _, pos := _, after := _, guard := _ }) (v := ?_) rfl (by kernel_rfl) (by kernel_rfl) (by kernel_rfl) (fun _ _ _ h => h) (Or.inl ⟨by rfl, ?_⟩) (by assumption) ?_
  rotate_left
  · (intro w hSw; go_simp) <;> with_reducible rfl
  try simp only [Act.put, List.setIfInBounds_toArray, List.set_cons_zero, List.set_cons_succ]
  refine wpAnyH_take (i := 13) (oi := { dst := some 48, op := _, type := _, pos := _, after := _, guard := _ }) (v := ?_) rfl (by kernel_rfl) (by kernel_rfl) (by kernel_rfl) (fun _ _ _ h => h) (Or.inl ⟨by rfl, ?_⟩) (by assumption) ?_
  rotate_left
  · (intro w hSw; go_simp) <;> with_reducible rfl
  try simp only [Act.put, List.setIfInBounds_toArray, List.set_cons_zero, List.set_cons_succ]
  refine wpAnyH_ready (rs := [14]) (by kernel_rfl) (by simp) ?_
  refine AllReadyH.cons (o := { dst := some 49, op := _, type := _, pos := _, after := _, guard := _ }) rfl (fun K hK => ?_) AllReadyH.nil
  go_simp
  go_at_call 43
  refine (HCL.out _ (Below.refl _ _).drew).mono ?_
  rintro e wL ⟨rfl, HSL⟩
  go_wp2_with fail
  refine hK.out _ _ (HS.out _ (HSL.out.mono (by omega))) (fun hHL => ?_)
  clear hK K
  try simp only [Act.put, List.setIfInBounds_toArray, List.set_cons_zero, List.set_cons_succ]
  refine wpAnyH_ready (rs := [15]) (by kernel_rfl) (by simp) ?_
  refine AllReadyH.cons (o := { dst := some 50, op := _, type := _, pos := _, after := _, guard := _ }) rfl (fun K hK => ?_) AllReadyH.nil
  go_simp
  go_at_call 37
  refine (HCN.out _ HSL.out).mono ?_
  rintro e wN ⟨rfl, HSN⟩
  go_wp2_with fail
  refine hK.out _ _ (HS.out _ (HSN.out.mono (by omega))) (fun hHN => ?_)
  clear hK K
  try simp only [Act.put, List.setIfInBounds_toArray, List.set_cons_zero, List.set_cons_succ]
  have ht5 := (HZ.out.below HSN.out (by omega)).there _ (tagged_length [110, 111, 100, 101] (x ++ climb d a' n' (ps.take k)))
  have hl5 := bytesV_one (tagged [110, 111, 100, 101] (x ++ climb d a' n' (ps.take k)))
  have hi5 := HI.out
  have Hs5 : Hid (wN.setCells (w.heap.size + 1) 0 (bytesV (tagged [110, 111, 100, 101] (x ++ climb d a' n' (ps.take k)))) = wN.setRow (w.heap.size + 1) (bytesV (tagged [110, 111, 100, 101] (x ++ climb d a' n' (ps.take k)))).toArray) := setCells_row (HZ.out.below HSN.out (by omega)) (tagged_length _ _)
  unfold dgV
  refine wpAnyH_ready (rs := [16]) (by kernel_rfl) (by simp) ?_
  refine AllReadyH.cons (o := { dst := none, op := _, type := _, pos := _, after := _, guard := _ }) rfl (fun K hK => ?_) AllReadyH.nil
  rw [if_pos (by rfl)]
  refine wp_store_mid _ _ _ rfl _ _ (List.toArray _) rfl rfl ?_ ?_ (all_oneCell_toArray hl5) ?_
  · first | assumption | (simp only [List.size_toArray, *] <;> assumption)
  · (first | assumption | (simp only [List.size_toArray] <;> assumption) | (simp only [List.size_toArray, *]))
  simp only [Act.put]
  refine hK.out _ _ (by rw [Hs5.out]; exact HS.out _ (below_setRow (HSN.out.mono (by omega)) (Nat.le_refl _) _)) (fun hHS => ?_)
  clear hK K
  try simp only [Act.put, List.setIfInBounds_toArray, List.set_cons_zero, List.set_cons_succ]
  refine wpAnyH_done (by kernel_rfl) ?_ _
  rw [Hs5.out]
  go_wp2_with fail
  exact bodyPost_ret (results_cell_row rfl _ _ _ _ _ _ _ rfl ((HZ.out.below HSN.out (by omega)).row _) Tryd.underlying26 rfl hi5) rfl ⟨rfl, HB0.out.trans (below_setRow (HSN.out.mono (by omega)) (by omega) _)⟩

theorem climbOk : ∀ f, ClimbOk f
  | 0 => by
    intro a n A m c d ps w _ _ _ h1 hf
    omega
  | f + 1 => by
    intro a n A m c d ps w hd hr hs h1 hf ha hn hc hcm hK
    by_cases he : n = 1
    · subst he
      rw [climb_one]
      exact climb1_any a A m c d w hd hK
    · have h2 : 2 ≤ n := by omega
      have hm : 1 ≤ m := by
        rw [hs]
        by_cases hl : a < half n
        · rw [steps_left a n h2 hn hl]; omega
        · rw [steps_right a n h2 hn hl]; omega
      obtain ⟨k, rfl⟩ : ∃ k, m = k + 1 := ⟨m - 1, by omega⟩
      obtain ⟨b, o, rfl, hb, hcell⟩ := hr.2.2 (by omega)
      have hpl := hr.1
      obtain ⟨x, hx⟩ : ∃ x, ps[k]? = some x := ⟨ps[k]'(by omega), List.getElem?_eq_getElem (by omega)⟩
      have e1 : ps.dropLast = ps.take k := by rw [List.dropLast_eq_take, ← hpl]; rfl
      have e2 : ps.getD (ps.length - 1) [] = x := by
        rw [← hpl, Nat.add_sub_cancel, List.getD_eq_getElem?_getD, hx]; rfl
      by_cases hl : a < half n
      · rw [climb_left d a n ps h2 hn hl, e1, e2]
        exact climbLeft f (climbOk f) a n b o k (k + 1) c rfl d x ps w hd hr hx hb (hcell k x hx) hs h2 hf hl hn hc hcm hK
      · rw [climb_right d a n ps h2 hn hl, e1, e2]
        exact climbRight f (climbOk f) a n b o k (k + 1) c rfl d x ps w hd hr hx hb (hcell k x hx) hs h2 hf hl ha hn hc hcm hK
theorem climb_any (a n : Nat) (A : Option Addr) (m c : Nat) (d : D) (ps : List D) (w : World) (hd : d.length = 32) (hr : RdD w w.heap.size A m ps) (hs : m = Go.Proofs.YtfolmglafnfcbaaDoor.steps a n) (h1 : 1 ≤ n) (ha : a < n) (hn : n ≤ 1099511627776) (hc : m ≤ c) (hcm : c ≤ maxLen) (hK : KOK w) :
    Calls Tryd.prog 43 #[dgV d, .int .i64 a, .int .i64 n, .slice A m c] w fun e w' => e = .returned (dgV (climb d a n ps)) ∧ Below w.heap.size w w' := climbOk n a n A m c d ps w hd hr hs h1 (Nat.le_refl _) ha hn hc hcm hK
end Go.Proofs.YtfolmglafnfcbaaDoor
