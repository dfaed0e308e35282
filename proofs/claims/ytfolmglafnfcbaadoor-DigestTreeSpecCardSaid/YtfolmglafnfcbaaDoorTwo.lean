/- The program and the reference side by side: Climb, Path; the reference's Same. -/
import Derived.Test.YtfolmglafnfcbaaDoorRefClimbX
import Derived.Test.YtfolmglafnfcbaaDoorEq
namespace Go.Proofs.YtfolmglafnfcbaaDoor
open Go.RowKit

set_option maxRecDepth 100000 in
set_option maxHeartbeats 1000000 in
theorem climbZ_len (a n : Nat) (A : Option Addr) (m c : Nat) (d : D) (w : World) (hs : m ≠ Go.Proofs.YtfolmglafnfcbaaDoor.steps a n) (h1 : 1 ≤ n) (ha : a < n) (hn : n ≤ 1099511627776) :
    Calls Tryd.prog 22 #[dgV d, .int .i64 a, .int .i64 n, .slice A m c] w fun e w' => e = .returned (.tuple #[dgV zd, .int .i64 1]) ∧ Below w.heap.size w w' := by
  obtain ⟨w0, hw0⟩ : ∃ w0, (w.alloc (.cells (bytesV d).toArray 26)).alloc (.cells Z32 26) = w0 := ⟨_, rfl⟩
  have hbx := box1 w d
  rw [hw0] at hbx
  obtain ⟨_, h2, h3, _⟩ := hbx
  have HZ := Lib.hid h2
  have HB0 := Lib.hid h3
  have HW0 := Lib.hid hw0
  have HST := Lib.hid (steps_any n n a (Nat.le_refl _) h1 ha hn w0)
  obtain ⟨s, hss⟩ : ∃ s, s = Go.Proofs.YtfolmglafnfcbaaDoor.steps a n := ⟨_, rfl⟩
  rw [← hss] at hs
  have HS := Lib.hid hss
  have g1 : ¬ (n : Int) < 1 := by omega
  have g2 : ¬ (n : Int) > 1099511627776 := by omega
  have g2' : ¬ (1099511627776 : Int) < (n : Int) := by omega
  have g3 : ¬ (a : Int) < 0 := by omega
  have g4 : ¬ (a : Int) ≥ (n : Int) := by omega
  have g4' : ¬ (n : Int) ≤ (a : Int) := by omega
  have g5 : ¬ n ≤ a := by omega
  have g6 : ¬ m = s := hs
  have g7 : ¬ (m : Int) = (s : Int) := by omega
  have g8 : ((m : Int) == (s : Int)) = false := by rw [beq_eq_false_iff_ne]; exact g7
  have HI := Lib.hid (dg_info zd (by rfl))
  have hzz : (bytesV zd).toArray = Z32 := by rfl
  rw [hzz] at HI
  clear hw0 h2 h3 hss
  unfold dgV
  go_enter Tryd.func22, Tryd.ntmps22
  go_wp2_with fail
  rw [HW0.out]
  refine HST.out.mono ?_
  rintro e w' ⟨rfl, rfl⟩
  rw [← HS.out]
  go_wp2_with (refine wpList_store_row rfl 26 _ _ rfl _ Z32 rfl rfl _ _ HZ.out HI.out rfl (by rw [← hzz]; exact bytesV_all _) ?_)
  exact bodyPost_ret (results_cell_row2 rfl _ _ _ _ _ _ _ _ rfl rfl (setRow_heap _ _ _ _ _ _ HZ.out) Tryd.underlying26 rfl HI.out) rfl ⟨rfl, below_setRow HB0.out (by omega) _⟩


set_option maxRecDepth 100000 in
set_option maxHeartbeats 1000000 in
/-- Climb refuses numbers of elements and indices beyond their limits -/
theorem climbZ_out (a n : Int) (A : Option Addr) (m c : Nat) (d : D) (w : World) (hbad : n < 1 ∨ n > 1099511627776 ∨ a < 0 ∨ a ≥ n) :
    Calls Tryd.prog 22 #[dgV d, .int .i64 a, .int .i64 n, .slice A m c] w fun e w' => e = .returned (.tuple #[dgV zd, .int .i64 1]) ∧ Below w.heap.size w w' := by
  obtain ⟨w0, hw0⟩ : ∃ w0, (w.alloc (.cells (bytesV d).toArray 26)).alloc (.cells Z32 26) = w0 := ⟨_, rfl⟩
  have hbx := box1 w d
  rw [hw0] at hbx
  obtain ⟨_, h2, h3, _⟩ := hbx
  have HZ := Lib.hid h2
  have HB0 := Lib.hid h3
  have HW0 := Lib.hid hw0
  have HI := Lib.hid (dg_info zd (by rfl))
  have hzz : (bytesV zd).toArray = Z32 := by rfl
  rw [hzz] at HI
  clear hw0 h2 h3
  unfold dgV
  by_cases g1 : n < 1
  · clear hbad
    go_enter Tryd.func22, Tryd.ntmps22
    go_wp2_with (refine wpList_store_row rfl 26 _ _ rfl _ Z32 rfl rfl _ _ (by rw [HW0.out]; exact HZ.out) HI.out rfl (by rw [← hzz]; exact bytesV_all _) ?_)
    rw [HW0.out]
    exact bodyPost_ret (results_cell_row2 rfl _ _ _ _ _ _ _ _ rfl rfl (setRow_heap _ _ _ _ _ _ HZ.out) Tryd.underlying26 rfl HI.out) rfl ⟨rfl, below_setRow HB0.out (by omega) _⟩
  by_cases g2 : n > 1099511627776
  · have g2' : 1099511627776 < n := g2
    clear hbad
    go_enter Tryd.func22, Tryd.ntmps22
    go_wp2_with (refine wpList_store_row rfl 26 _ _ rfl _ Z32 rfl rfl _ _ (by rw [HW0.out]; exact HZ.out) HI.out rfl (by rw [← hzz]; exact bytesV_all _) ?_)
    rw [HW0.out]
    exact bodyPost_ret (results_cell_row2 rfl _ _ _ _ _ _ _ _ rfl rfl (setRow_heap _ _ _ _ _ _ HZ.out) Tryd.underlying26 rfl HI.out) rfl ⟨rfl, below_setRow HB0.out (by omega) _⟩
  by_cases g3 : a < 0
  · have g2' : ¬ 1099511627776 < n := g2
    clear hbad
    go_enter Tryd.func22, Tryd.ntmps22
    go_wp2_with (refine wpList_store_row rfl 26 _ _ rfl _ Z32 rfl rfl _ _ (by rw [HW0.out]; exact HZ.out) HI.out rfl (by rw [← hzz]; exact bytesV_all _) ?_)
    rw [HW0.out]
    exact bodyPost_ret (results_cell_row2 rfl _ _ _ _ _ _ _ _ rfl rfl (setRow_heap _ _ _ _ _ _ HZ.out) Tryd.underlying26 rfl HI.out) rfl ⟨rfl, below_setRow HB0.out (by omega) _⟩
  have g4 : a ≥ n := by omega
  have g4' : n ≤ a := g4
  have g2' : ¬ 1099511627776 < n := g2
  clear hbad
  go_enter Tryd.func22, Tryd.ntmps22
  go_wp2_with (refine wpList_store_row rfl 26 _ _ rfl _ Z32 rfl rfl _ _ (by rw [HW0.out]; exact HZ.out) HI.out rfl (by rw [← hzz]; exact bytesV_all _) ?_)
  rw [HW0.out]
  exact bodyPost_ret (results_cell_row2 rfl _ _ _ _ _ _ _ _ rfl rfl (setRow_heap _ _ _ _ _ _ HZ.out) Tryd.underlying26 rfl HI.out) rfl ⟨rfl, below_setRow HB0.out (by omega) _⟩


set_option maxRecDepth 100000 in
set_option maxHeartbeats 1000000 in
theorem refclimbZ_len (a n : Nat) (A : Option Addr) (m c : Nat) (d : D) (w : World) (hs : m ≠ Go.Proofs.YtfolmglafnfcbaaDoor.steps a n) (h1 : 1 ≤ n) (ha : a < n) (hn : n ≤ 1099511627776) :
    Calls Tryd.prog 23 #[dgV d, .int .i64 a, .int .i64 n, .slice A m c] w fun e w' => e = .returned (.tuple #[dgV zd, .int .i64 1]) ∧ Below w.heap.size w w' := by
  obtain ⟨w0, hw0⟩ : ∃ w0, (w.alloc (.cells (bytesV d).toArray 26)).alloc (.cells Z32 26) = w0 := ⟨_, rfl⟩
  have hbx := box1 w d
  rw [hw0] at hbx
  obtain ⟨_, h2, h3, _⟩ := hbx
  have HZ := Lib.hid h2
  have HB0 := Lib.hid h3
  have HW0 := Lib.hid hw0
  have HST := Lib.hid (reflength_any n n a (Nat.le_refl _) h1 ha hn w0)
  obtain ⟨s, hss⟩ : ∃ s, s = Go.Proofs.YtfolmglafnfcbaaDoor.steps a n := ⟨_, rfl⟩
  rw [← hss] at hs
  have HS := Lib.hid hss
  have g1 : ¬ (n : Int) < 1 := by omega
  have g2 : ¬ (n : Int) > 1099511627776 := by omega
  have g2' : ¬ (1099511627776 : Int) < (n : Int) := by omega
  have g3 : ¬ (a : Int) < 0 := by omega
  have g4 : ¬ (a : Int) ≥ (n : Int) := by omega
  have g4' : ¬ (n : Int) ≤ (a : Int) := by omega
  have g5 : ¬ n ≤ a := by omega
  have g6 : ¬ m = s := hs
  have g7 : ¬ (m : Int) = (s : Int) := by omega
  have g8 : ((m : Int) == (s : Int)) = false := by rw [beq_eq_false_iff_ne]; exact g7
  have HI := Lib.hid (dg_info zd (by rfl))
  have hzz : (bytesV zd).toArray = Z32 := by rfl
  rw [hzz] at HI
  clear hw0 h2 h3 hss
  unfold dgV
  go_enter Tryd.func23, Tryd.ntmps23
  go_wp2_with fail
  rw [HW0.out]
  refine HST.out.mono ?_
  rintro e w' ⟨rfl, rfl⟩
  rw [← HS.out]
  go_wp2_with (refine wpList_store_row rfl 26 _ _ rfl _ Z32 rfl rfl _ _ HZ.out HI.out rfl (by rw [← hzz]; exact bytesV_all _) ?_)
  exact bodyPost_ret (results_cell_row2 rfl _ _ _ _ _ _ _ _ rfl rfl (setRow_heap _ _ _ _ _ _ HZ.out) Tryd.underlying26 rfl HI.out) rfl ⟨rfl, below_setRow HB0.out (by omega) _⟩



set_option maxRecDepth 100000 in
set_option maxHeartbeats 1000000 in
/-- Climb refuses numbers of elements and indices beyond their limits -/
theorem refclimbZ_out (a n : Int) (A : Option Addr) (m c : Nat) (d : D) (w : World) (hbad : n < 1 ∨ n > 1099511627776 ∨ a < 0 ∨ a ≥ n) :
    Calls Tryd.prog 23 #[dgV d, .int .i64 a, .int .i64 n, .slice A m c] w fun e w' => e = .returned (.tuple #[dgV zd, .int .i64 1]) ∧ Below w.heap.size w w' := by
  obtain ⟨w0, hw0⟩ : ∃ w0, (w.alloc (.cells (bytesV d).toArray 26)).alloc (.cells Z32 26) = w0 := ⟨_, rfl⟩
  have hbx := box1 w d
  rw [hw0] at hbx
  obtain ⟨_, h2, h3, _⟩ := hbx
  have HZ := Lib.hid h2
  have HB0 := Lib.hid h3
  have HW0 := Lib.hid hw0
  have HI := Lib.hid (dg_info zd (by rfl))
  have hzz : (bytesV zd).toArray = Z32 := by rfl
  rw [hzz] at HI
  clear hw0 h2 h3
  unfold dgV
  by_cases g1 : n < 1
  · clear hbad
    go_enter Tryd.func23, Tryd.ntmps23
    go_wp2_with (refine wpList_store_row rfl 26 _ _ rfl _ Z32 rfl rfl _ _ (by rw [HW0.out]; exact HZ.out) HI.out rfl (by rw [← hzz]; exact bytesV_all _) ?_)
    rw [HW0.out]
    exact bodyPost_ret (results_cell_row2 rfl _ _ _ _ _ _ _ _ rfl rfl (setRow_heap _ _ _ _ _ _ HZ.out) Tryd.underlying26 rfl HI.out) rfl ⟨rfl, below_setRow HB0.out (by omega) _⟩
  by_cases g2 : n > 1099511627776
  · have g2' : 1099511627776 < n := g2
    clear hbad
    go_enter Tryd.func23, Tryd.ntmps23
    go_wp2_with (refine wpList_store_row rfl 26 _ _ rfl _ Z32 rfl rfl _ _ (by rw [HW0.out]; exact HZ.out) HI.out rfl (by rw [← hzz]; exact bytesV_all _) ?_)
    rw [HW0.out]
    exact bodyPost_ret (results_cell_row2 rfl _ _ _ _ _ _ _ _ rfl rfl (setRow_heap _ _ _ _ _ _ HZ.out) Tryd.underlying26 rfl HI.out) rfl ⟨rfl, below_setRow HB0.out (by omega) _⟩
  by_cases g3 : a < 0
  · have g2' : ¬ 1099511627776 < n := g2
    clear hbad
    go_enter Tryd.func23, Tryd.ntmps23
    go_wp2_with (refine wpList_store_row rfl 26 _ _ rfl _ Z32 rfl rfl _ _ (by rw [HW0.out]; exact HZ.out) HI.out rfl (by rw [← hzz]; exact bytesV_all _) ?_)
    rw [HW0.out]
    exact bodyPost_ret (results_cell_row2 rfl _ _ _ _ _ _ _ _ rfl rfl (setRow_heap _ _ _ _ _ _ HZ.out) Tryd.underlying26 rfl HI.out) rfl ⟨rfl, below_setRow HB0.out (by omega) _⟩
  have g4 : a ≥ n := by omega
  have g4' : n ≤ a := g4
  have g2' : ¬ 1099511627776 < n := g2
  clear hbad
  go_enter Tryd.func23, Tryd.ntmps23
  go_wp2_with (refine wpList_store_row rfl 26 _ _ rfl _ Z32 rfl rfl _ _ (by rw [HW0.out]; exact HZ.out) HI.out rfl (by rw [← hzz]; exact bytesV_all _) ?_)
  rw [HW0.out]
  exact bodyPost_ret (results_cell_row2 rfl _ _ _ _ _ _ _ _ rfl rfl (setRow_heap _ _ _ _ _ _ HZ.out) Tryd.underlying26 rfl HI.out) rfl ⟨rfl, below_setRow HB0.out (by omega) _⟩




/-- Climb and the reference's Climb answer alike -/
theorem climb_both (i m : Int) (A : Option Addr) (n c : Nat) (d : D) (ps : List D) (w : World) (hd : d.length = 32) (hr : RdD w w.heap.size A n ps) (hc : n ≤ c) (hcm : c ≤ maxLen) (hK : KOK w) :
    ∃ (x : D) (g : Int), x.length = 32 ∧
      (∀ u, Below w.heap.size w u → Calls Tryd.prog 22 #[.agg (bytesV d).toArray, .int .i64 i, .int .i64 m, .slice A n c] u fun e u' => e = .returned (.tuple #[.agg (bytesV x).toArray, .int .i64 g]) ∧ Below u.heap.size u u') ∧
      (∀ u, Below w.heap.size w u → Calls Tryd.prog 23 #[.agg (bytesV d).toArray, .int .i64 i, .int .i64 m, .slice A n c] u fun e u' => e = .returned (.tuple #[.agg (bytesV x).toArray, .int .i64 g]) ∧ Below u.heap.size u u') := by
  by_cases hout : m < 1 ∨ m > 1099511627776 ∨ i < 0 ∨ i ≥ m
  · exact ⟨zd, 1, rfl, fun u _ => climbZ_out i m A n c d u hout, fun u _ => refclimbZ_out i m A n c d u hout⟩
  · obtain ⟨a, rfl⟩ : ∃ a : Nat, i = (a : Int) := ⟨i.toNat, by omega⟩
    obtain ⟨k, rfl⟩ : ∃ k : Nat, m = (k : Int) := ⟨m.toNat, by omega⟩
    by_cases hs : n = Go.Proofs.YtfolmglafnfcbaaDoor.steps a k
    · exact ⟨climb d a k ps, 0, climb_length d a k ps (by omega) (by omega),
        fun u hu => climbX_any a k A n c d ps u hd (hr.below hu hu.size) hs (by omega) (by omega) (by omega) hc hcm (hK.below hu hK.pos),
        fun u hu => refclimbX_any a k A n c d ps u hd (hr.below hu hu.size) hs (by omega) (by omega) (by omega) hc hcm⟩
    · exact ⟨zd, 1, rfl, fun u _ => climbZ_len a k A n c d u hs (by omega) (by omega) (by omega), fun u _ => refclimbZ_len a k A n c d u hs (by omega) (by omega) (by omega)⟩

/-- what Path and the reference's Path hand back -/
def PathIs (u u' : World) (ps : List D) (g : Int) (e : Ending) : Prop :=
  ∃ (A : Option Addr) (m cap : Nat), e = .returned (.tuple #[.slice A m cap, .int .i64 g]) ∧ RdD u' u'.heap.size A m ps ∧ m ≤ cap ∧ cap ≤ maxLen ∧ Below u.heap.size u u'
theorem path_both (i : Int) (A : Option Addr) (n c : Nat) (ds : List D) (w : World) (hr : RdD w w.heap.size A n ds) (hn : n ≤ 32) (hc : n ≤ c) (hcm : c ≤ maxLen) (hK : KOK w) :
    ∃ (ps : List D) (g : Int), ps.length ≤ 5 ∧ (∀ x ∈ ps, x.length = 32) ∧
      (∀ u, Below w.heap.size w u → Calls Tryd.prog 19 #[.slice A n c, .int .i64 i] u fun e u' => PathIs u u' ps g e) ∧
      (∀ u, Below w.heap.size w u → Calls Tryd.prog 20 #[.slice A n c, .int .i64 i] u fun e u' => PathIs u u' ps g e) := by
  by_cases hbad : i < 0 ∨ (n : Int) ≤ i
  · refine ⟨[], 1, by simp, (by simp), fun u _ => (pathX_bad A n c i u hbad).mono fun e u' ⟨h1, h2⟩ => ?_, fun u _ => (refpathX_bad A n c i u hbad).mono fun e u' ⟨h1, h2⟩ => ?_⟩
    all_goals exact ⟨none, 0, 0, h1, RdD.nil _ _ _, Nat.le_refl _, Nat.zero_le _, by rw [← h2]; exact Below.refl _ _⟩
  · obtain ⟨a, rfl⟩ : ∃ a : Nat, i = (a : Int) := ⟨i.toNat, by omega⟩
    have hl := hr.1
    have hall : ∀ x ∈ path ds a, x.length = 32 := path_all _ _ _ (Nat.le_refl _) (by omega)
    refine ⟨path ds a, 0, path_short ds a (by omega) (by omega), hall, fun u hu => ?_, fun u hu => ?_⟩
    · refine (pathX_any A n c a ds u (hr.below hu hu.size) (by omega) (by omega) hc hcm (hK.below hu hK.pos)).mono fun e u' ⟨A1, m1, cap1, h1, h2, h3⟩ => ?_
      obtain ⟨q1, q2, q3⟩ := OwnsN.rdd h2 hall
      exact ⟨A1, m1, cap1, h1, q1, q2, q3, h3⟩
    · refine (refpathX_any A n c a ds u (hr.below hu hu.size) (by omega) (by omega) hc hcm).mono fun e u' ⟨A1, m1, cap1, h1, h2, h3⟩ => ?_
      obtain ⟨q1, q2, q3⟩ := OwnsN.rdd h2 hall
      exact ⟨A1, m1, cap1, h1, q1, q2, q3, h3⟩

set_option maxRecDepth 100000 in
set_option maxHeartbeats 1000000 in
/-- the reference's Same of two lists of the same digests -/
theorem refsame_any (A B : Option Addr) (n m c c' : Nat) (ps : List D) (w : World) (hr : RdD w w.heap.size A n ps) (hs : RdD w w.heap.size B m ps) (hn : n ≤ 40) :
    Calls Tryd.prog 21 #[.slice A n c, .slice B m c'] w fun e w' => e = .returned (.bool true) ∧ Below w.heap.size w w' := by
  have hl : m = n := by have h1 := hr.1; have h2 := hs.1; omega
  subst hl
  have HR := Lib.hid hr
  have HSS := Lib.hid hs
  have hgd : Tryd.prog.eqGuardType Tryd.prog.depth 26 = false := by kernel_rfl
  clear hr hs
  go_enter Tryd.func21, Tryd.ntmps21
  go_wp2_with fail
  go_loopw [5] (fun v wr => ∃ j : Nat, v = .int .i64 j ∧ j ≤ m ∧ Hid (Below w.heap.size w wr)) (fun v _ => 40 - (intOf v).toNat)
  case atStart => exact ⟨0, rfl, by omega, Below.refl _ _⟩
  case round =>
    obtain ⟨j, rfl, hj, HB⟩ := hrel
    by_cases hend : j = m
    · subst hend
      go_wp2_with fail
      go_ret
      exact ⟨rfl, HB.out⟩
    have hjm : j < m := by omega
    have hjm' : (j : Int) < (m : Int) := by omega
    have i0 : (0 : Int) ≤ (j : Int) := by omega
    obtain ⟨d, hd⟩ : ∃ d, ps[j]? = some d := ⟨ps[j]'(by have h := HR.out.1; omega), List.getElem?_eq_getElem _⟩
    have hdl : d.length = 32 := HR.out.2.1 d (List.mem_of_getElem? hd)
    obtain ⟨b1, o1, rfl, _, hc1⟩ := (HR.out.below HB.out (Nat.le_refl _)).2.2 (by omega)
    obtain ⟨b2, o2, rfl, _, hc2⟩ := (HSS.out.below HB.out (Nat.le_refl _)).2.2 (by omega)
    have zr := HB.out.size
    have HC1 : Hid (wr.rangeAt b1 (o1 + j * 32) (bytesV d)) := hc1 j d hd
    have HC2 : Hid (wr.rangeAt b2 (o2 + j * 32) (bytesV d)) := hc2 j d hd
    have hi1 := dg_size d hdl
    have hneq : ∀ u : World, (binOp .neq 26 (.agg (bytesV d).toArray) (.agg (bytesV d).toArray)).run Tryd.prog u = .ok (.bool false) u := fun u => by rw [run_neq_dg u d d hdl hdl, beq_self_eq_true]; rfl
    clear hd hc1 hc2 hend
    go_wp2_with fail
    refine wp_region_held_drew (S := fun u => u.rangeAt b1 (o1 + j * 32) (bytesV d) ∧ u.rangeAt b2 (o2 + j * 32) (bytesV d) ∧ Below w.heap.size w u) (by kernel_rfl) ⟨HC1.out, HC2.out, HB.out.drew⟩ (fun hHeld => ?_)
    have HBD := Lib.hid hHeld.2.2
    refine wpAnyH_take (i := 0) (oi := ⟨some 17, _, _, _, _, _⟩) (v := ?_) rfl (by kernel_rfl) (by kernel_rfl) (by kernel_rfl) (fun _ _ _ h => h) (Or.inl ⟨by rfl, ?_⟩) (by assumption) ?_
    rotate_left
    · (intro w hSw; go_simp) <;> with_reducible rfl
    try simp only [Act.put, List.setIfInBounds_toArray, List.set_cons_zero, List.set_cons_succ]
    refine wpAnyH_take (i := 1) (oi := ⟨some 18, _, _, _, _, _⟩) (v := ?_) rfl (by kernel_rfl) (by kernel_rfl) (by kernel_rfl) (fun _ _ _ h => h) (Or.inl ⟨by rfl, ?_⟩) (by assumption) ?_
    rotate_left
    · (intro w hSw; go_simp) <;> with_reducible rfl
    try simp only [Act.put, List.setIfInBounds_toArray, List.set_cons_zero, List.set_cons_succ]
    refine wpAnyH_take (i := 2) (oi := ⟨some 19, _, _, _, _, _⟩) (v := ?_) rfl (by kernel_rfl) (by kernel_rfl) (by kernel_rfl) (fun _ _ _ h => h) (Or.inl ⟨by rfl, ?_⟩) (by assumption) ?_
    rotate_left
    · (intro w hSw; go_simp) <;> with_reducible rfl
    try simp only [Act.put, List.setIfInBounds_toArray, List.set_cons_zero, List.set_cons_succ]
    refine wpAnyH_take (i := 3) (oi := ⟨some 20, _, _, _, _, _⟩) rfl (by kernel_rfl) (by kernel_rfl) (by kernel_rfl) (fun _ _ _ h => h) (yieldsIf_load_mid (by rfl) _ _ rfl b1 (o1 + j * 32) rfl _ _ (fun w' h => h.1) Tryd.underlying26 rfl hi1) (by assumption) ?_
    try simp only [Act.put, List.setIfInBounds_toArray, List.set_cons_zero, List.set_cons_succ]
    refine wpAnyH_take (i := 4) (oi := ⟨some 21, _, _, _, _, _⟩) (v := ?_) rfl (by kernel_rfl) (by kernel_rfl) (by kernel_rfl) (fun _ _ _ h => h) (Or.inl ⟨by rfl, ?_⟩) (by assumption) ?_
    rotate_left
    · (intro w hSw; go_simp) <;> with_reducible rfl
    try simp only [Act.put, List.setIfInBounds_toArray, List.set_cons_zero, List.set_cons_succ]
    refine wpAnyH_take (i := 5) (oi := ⟨some 22, _, _, _, _, _⟩) (v := ?_) rfl (by kernel_rfl) (by kernel_rfl) (by kernel_rfl) (fun _ _ _ h => h) (Or.inl ⟨by rfl, ?_⟩) (by assumption) ?_
    rotate_left
    · (intro w hSw; go_simp) <;> with_reducible rfl
    try simp only [Act.put, List.setIfInBounds_toArray, List.set_cons_zero, List.set_cons_succ]
    refine wpAnyH_take (i := 6) (oi := ⟨some 23, _, _, _, _, _⟩) (v := ?_) rfl (by kernel_rfl) (by kernel_rfl) (by kernel_rfl) (fun _ _ _ h => h) (Or.inl ⟨by rfl, ?_⟩) (by assumption) ?_
    rotate_left
    · (intro w hSw; go_simp) <;> with_reducible rfl
    try simp only [Act.put, List.setIfInBounds_toArray, List.set_cons_zero, List.set_cons_succ]
    refine wpAnyH_take (i := 7) (oi := ⟨some 24, _, _, _, _, _⟩) rfl (by kernel_rfl) (by kernel_rfl) (by kernel_rfl) (fun _ _ _ h => h) (yieldsIf_load_mid (by rfl) _ _ rfl b2 (o2 + j * 32) rfl _ _ (fun w' h => h.2.1) Tryd.underlying26 rfl hi1) (by assumption) ?_
    try simp only [Act.put, List.setIfInBounds_toArray, List.set_cons_zero, List.set_cons_succ]
    refine wpAnyH_take (i := 8) (oi := ⟨some 25, _, _, _, _, _⟩) (v := ?_) rfl (by kernel_rfl) (by kernel_rfl) (by kernel_rfl) (fun _ _ _ h => h) (Or.inl ⟨by rfl, ?_⟩) (by assumption) ?_
    rotate_left
    · (intro w hSw; go_simp) <;> with_reducible rfl
    try simp only [Act.put, List.setIfInBounds_toArray, List.set_cons_zero, List.set_cons_succ]
    refine wpAnyH_done (by kernel_rfl) ?_ _
    go_wp2_with fail
    go_roundw
    case rel => exact ⟨j + 1, by go_num, by omega, HBD⟩
    case measure => simp [intOf]; omega
end Go.Proofs.YtfolmglafnfcbaaDoor
