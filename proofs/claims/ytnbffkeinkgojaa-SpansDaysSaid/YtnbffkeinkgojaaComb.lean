/- Contracts of Normal, Union, Meet and Minus of the program. -/
import Derived.Test.YtnbffkeinkgojaaListP
namespace Go.Proofs.Ytnbffkeinkgojaa
open Go.RowKit

set_option maxRecDepth 100000 in
set_option maxHeartbeats 1000000 in
theorem opU_any (a b : Bool) (w : World) : Calls Try.prog 33 #[.bool a, .bool b] w fun e w' => e = .returned (.bool (uOp a b)) ∧ w = w' := by
  cases a <;> cases b
  · go_enter Try.func33, Try.ntmps33
    go_wp2_with fail
    go_ret
    exact ⟨rfl, rfl⟩
  · go_enter Try.func33, Try.ntmps33
    go_wp2_with fail
    go_ret
    exact ⟨rfl, rfl⟩
  · go_enter Try.func33, Try.ntmps33
    go_wp2_with fail
    go_ret
    exact ⟨rfl, rfl⟩
  · go_enter Try.func33, Try.ntmps33
    go_wp2_with fail
    go_ret
    exact ⟨rfl, rfl⟩
set_option maxRecDepth 100000 in
set_option maxHeartbeats 1000000 in
theorem opM_any (a b : Bool) (w : World) : Calls Try.prog 34 #[.bool a, .bool b] w fun e w' => e = .returned (.bool (mOp a b)) ∧ w = w' := by
  cases a <;> cases b
  · go_enter Try.func34, Try.ntmps34
    go_wp2_with fail
    go_ret
    exact ⟨rfl, rfl⟩
  · go_enter Try.func34, Try.ntmps34
    go_wp2_with fail
    go_ret
    exact ⟨rfl, rfl⟩
  · go_enter Try.func34, Try.ntmps34
    go_wp2_with fail
    go_ret
    exact ⟨rfl, rfl⟩
  · go_enter Try.func34, Try.ntmps34
    go_wp2_with fail
    go_ret
    exact ⟨rfl, rfl⟩
set_option maxRecDepth 100000 in
set_option maxHeartbeats 1000000 in
theorem opD_any (a b : Bool) (w : World) : Calls Try.prog 35 #[.bool a, .bool b] w fun e w' => e = .returned (.bool (dOp a b)) ∧ w = w' := by
  cases a <;> cases b
  · go_enter Try.func35, Try.ntmps35
    go_wp2_with fail
    go_ret
    exact ⟨rfl, rfl⟩
  · go_enter Try.func35, Try.ntmps35
    go_wp2_with fail
    go_ret
    exact ⟨rfl, rfl⟩
  · go_enter Try.func35, Try.ntmps35
    go_wp2_with fail
    go_ret
    exact ⟨rfl, rfl⟩
  · go_enter Try.func35, Try.ntmps35
    go_wp2_with fail
    go_ret
    exact ⟨rfl, rfl⟩

set_option maxRecDepth 100000 in
set_option maxHeartbeats 1000000 in
theorem combU_any (A B : Option Addr) (n m c c' : Nat) (l l' : List Sp) (w : World) (hr : RdS w w.heap.size A n l) (hs : RdS w w.heap.size B m l') (hn : n ≤ 4611686018427387904) (hm : m ≤ 4611686018427387904) :
    Calls Try.prog 32 #[.slice A n c, .slice B m c', .func (.func 33) #[] #[]] w fun e w' => SpansIs w w' (normal fun k => uOp (dayIn l k) (dayIn l' k)) e := by
  have HD := Lib.hid (daysOf_any A n c l w hr hn)
  have HS := Lib.hid hs
  obtain ⟨zb, hzb⟩ : ∃ z, z = rowV 1024 (dayF fun _ => false) := ⟨_, rfl⟩
  have hz43 := (zero_of_info zero_days).1
  have hn43 : ¬ zb = #[] := by rw [hzb]; exact rowV_ne (by omega) _
  rw [← hzb] at hz43
  have HZB := Lib.hid hzb
  have HSZ : Hid (∀ f, zb.size = (rowV 1024 (dayF f)).size) := fun f => by rw [hzb, rowV_size, rowV_size]
  clear hr hs hzb
  go_enter Try.func32, Try.ntmps32
  go_wp2_with fail
  refine HD.out.mono ?_
  rintro e w1 ⟨rfl, hb1⟩
  have HB1 := Lib.hid hb1
  have HD2 := Lib.hid (daysOf_any B m c' l' w1 (HS.out.below hb1 hb1.size) hm)
  clear hb1 HD HS
  go_wp2_with fail
  refine HD2.out.mono ?_
  rintro e w2 ⟨rfl, hb2⟩
  have HB2 : Hid (Below w.heap.size w w2) := HB1.out.trans (hb2.mono HB1.out.size)
  clear hb2 HD2 HB1
  have HI1 := Lib.hid (info_days' (dayIn l))
  have HI2 := Lib.hid (info_days' (dayIn l'))
  have hA : ((w2.alloc (.cells zb 43)).alloc (.cells zb 43)).heap[w2.heap.size]? = some (.cells zb 43 (0, 0)) := (Below.heap_alloc _ _ _ (by simp)).trans (heap_alloc_new _ _)
  have hB : (((w2.alloc (.cells zb 43)).alloc (.cells zb 43)).setRow w2.heap.size (rowV 1024 (dayF (dayIn l)))).heap[w2.heap.size + 1]? = some (.cells zb 43 (0, 0)) := (setRow_other _ _ _ _ (by omega)).trans (heap_alloc2_new _ _ _ _)
  have hC := setRow_heap _ _ _ (rowV 1024 (dayF (dayIn l))) _ _ hA
  have hD := setRow_heap _ _ _ (rowV 1024 (dayF (dayIn l'))) _ _ hB
  have hC2 := (setRow_other _ (w2.heap.size + 1) w2.heap.size (rowV 1024 (dayF (dayIn l'))) (by omega)).trans hC
  have HA := Lib.hid hA
  have HBB := Lib.hid hB
  have hE : Below w.heap.size w ((((w2.alloc (.cells zb 43)).alloc (.cells zb 43)).setRow w2.heap.size (rowV 1024 (dayF (dayIn l)))).setRow (w2.heap.size + 1) (rowV 1024 (dayF (dayIn l')))) :=
    below_setRow (below_setRow (((HB2.out.alloc HB2.out.size _).alloc (by have := HB2.out.size; simp; omega) _)) HB2.out.size _) (by have := HB2.out.size; omega) _
  obtain ⟨X2, hX2⟩ : ∃ X2, ((((w2.alloc (.cells zb 43)).alloc (.cells zb 43)).setRow w2.heap.size (rowV 1024 (dayF (dayIn l)))).setRow (w2.heap.size + 1) (rowV 1024 (dayF (dayIn l')))) = X2 := ⟨_, rfl⟩
  have hz2 : X2.heap.size = w2.heap.size + 2 := by rw [← hX2]; simp
  rw [hX2] at hC2 hD hE
  have hW2 := HB2.out.size
  obtain ⟨gx, hgx⟩ : ∃ g, g = w2.heap.size := ⟨_, rfl⟩
  have HX2 := Lib.hid hX2
  have b3 := Below.new1 X2 (.cells zb 43)
  have d3 : DRow (X2.alloc (.cells zb 43)) X2.heap.size (fun _ => false) := by
    rw [HZB.out]
    exact heap_alloc_new _ _
  have d1 : DRow (X2.alloc (.cells zb 43)) w2.heap.size (dayIn l) := RowF.below hC2 b3 (by omega)
  have d2 : DRow (X2.alloc (.cells zb 43)) (w2.heap.size + 1) (dayIn l') := RowF.below hD b3 (by omega)
  have e3 : Below w.heap.size w (X2.alloc (.cells zb 43)) := hE.trans (b3.mono (by omega))
  obtain ⟨g3, hg3⟩ : ∃ g, X2.heap.size = g := ⟨_, rfl⟩
  obtain ⟨g2, hg2⟩ : ∃ g, w2.heap.size + 1 = g := ⟨_, rfl⟩
  obtain ⟨g1, hg1⟩ : ∃ g, w2.heap.size = g := ⟨_, rfl⟩
  obtain ⟨w3, hw3⟩ : ∃ w3, X2.alloc (.cells zb 43) = w3 := ⟨_, rfl⟩
  have n13 : g1 ≠ g3 := by omega
  have n23 : g2 ≠ g3 := by omega
  have o3 : w.heap.size ≤ g3 := by omega
  rw [hw3, hg3] at d3
  rw [hw3, hg2] at d2
  rw [hw3, hg1] at d1
  rw [hw3] at e3
  have H1 := Lib.hid d1
  have H2 := Lib.hid d2
  have H3 := Lib.hid d3
  have HB3 := Lib.hid e3
  have HG1 := Lib.hid hg1
  have HG2 := Lib.hid hg2
  have HG3 := Lib.hid hg3
  have HW3 := Lib.hid hw3
  clear hA hB hC hD hC2 hE hX2 hz2 hW2 hgx b3 d1 d2 d3 e3 hg1 hg2 hg3 hw3
  unfold dayV
  go_wp2_with (first
    | (refine wpList_store_row rfl 43 _ _ rfl w2.heap.size (rowV 1024 (dayF (dayIn l))) rfl rfl _ _ HA.out HI1.out (HSZ.out _) (days_one _) ?_)
    | (refine wpList_store_row rfl 43 _ _ rfl (w2.heap.size + 1) (rowV 1024 (dayF (dayIn l'))) rfl rfl _ _ HBB.out HI2.out (HSZ.out _) (days_one _) ?_; rw [HX2.out]))
  rw [HW3.out, HG3.out, HG2.out, HG1.out]
  clear HA HBB HX2 HG1 HG2 HG3 HW3 HI1 HI2 HZB HSZ hz43 hn43
  go_loopw [15] (fun v wr => ∃ k : Nat, v = .int .i64 k ∧ k ≤ 1024 ∧ Hid (DRow wr g1 (dayIn l)) ∧ Hid (DRow wr g2 (dayIn l')) ∧ Hid (DRow wr g3 (fun j => if j < k then uOp (dayIn l j) (dayIn l' j) else false)) ∧ Hid (Below w.heap.size w wr)) (fun v _ => 1024 - (intOf v).toNat)
  case atStart => exact ⟨0, rfl, by omega, H1, H2, H3.out.congr (fun j _ => by simp), HB3⟩
  case round =>
    clear H1 H2 H3 HB3
    obtain ⟨k, rfl, hk, H1, H2, H3, HB⟩ := hrel
    by_cases hend : k = 1024
    · subst hend
      have HE : Hid (DRow wr g3 (fun j => uOp (dayIn l j) (dayIn l' j))) := H3.out.congr fun j hj => if_pos hj
      have HK := Lib.hid (listP_any g3 _ wr HE.out)
      go_wp2_with fail
      refine HK.out.mono ?_
      rintro e w4 ⟨A4, n4, c4, rfl, q1, q2, q3, q4⟩
      have HB4 : Hid (Below w.heap.size w w4) := HB.out.trans (q4.mono HB.out.size)
      have HQ := Lib.hid q1
      clear HK q1 q4
      go_wp2_with fail
      exact bodyPost_ret (v := .slice A4 n4 c4) (by simp [results, Try.results32, go_sem]) rfl ⟨A4, n4, c4, rfl, HQ.out, q2, q3, HB4.out⟩
    have hk1 : k < 1024 := by omega
    have hk1' : (k : Int) < 1024 := by omega
    have k0 : (0 : Int) ≤ (k : Int) := by omega
    have hcx := H1.out.cell k hk1
    have hcy := H2.out.cell k hk1
    have hcz := H3.out.cell k hk1
    have hfz := RowF.frozen H3.out k
    simp only [Nat.lt_irrefl, if_false] at hcz
    obtain ⟨x, hx⟩ : ∃ x, x = dayIn l k := ⟨_, rfl⟩
    obtain ⟨y, hy⟩ : ∃ y, y = dayIn l' k := ⟨_, rfl⟩
    rw [← hx] at hcx
    rw [← hy] at hcy
    have HX := Lib.hid hx
    have HY := Lib.hid hy
    clear hend hx hy
    have HC := Lib.hid (opU_any x y)
    go_wp2_with fail
    refine wp_region_still_tail 10 (by kernel_rfl) (by kernel_rfl) ?_
    simp only [List.take_succ_cons, List.take_zero, List.drop_succ_cons, List.drop_zero]
    repeat still_step
    still_call ((HC.out _).mono fun _ _ h => ⟨h.1, h.2.symm⟩)
    repeat still_step
    refine wpStill_nil ?_
    change wpList _ _ _ _ _ wr.drew
    have HN3 : Hid (DRow (wr.drew.setCell ⟨g3, k, none⟩ (.bool (uOp x y))) g3 (fun j => if j < k + 1 then uOp (dayIn l j) (dayIn l' j) else false)) := by
      refine (DRow.set (w := wr.drew) H3.out k (uOp x y)).congr fun j _ => ?_
      by_cases e : j = k
      · subst e
        rw [if_pos rfl, if_pos (by omega), HX.out, HY.out]
      · rw [if_neg e]
        by_cases e2 : j < k
        · rw [if_pos e2, if_pos (by omega)]
        · rw [if_neg e2, if_neg (by omega)]
    have HN1 : Hid (DRow (wr.drew.setCell ⟨g3, k, none⟩ (.bool (uOp x y))) g1 (dayIn l)) := RowF.keep (w := wr.drew) H1.out (heap_setCell_other _ _ _ _ n13)
    have HN2 : Hid (DRow (wr.drew.setCell ⟨g3, k, none⟩ (.bool (uOp x y))) g2 (dayIn l')) := RowF.keep (w := wr.drew) H2.out (heap_setCell_other _ _ _ _ n23)
    have HNB : Hid (Below w.heap.size w (wr.drew.setCell ⟨g3, k, none⟩ (.bool (uOp x y)))) := Below.setCell HB.out.drew o3 _
    clear HC H1 H2 H3 HB
    go_wp2_with fail
    go_roundw
    case rel => exact ⟨k + 1, by go_num, by omega, HN1, HN2, HN3, HNB⟩
    case measure => simp [intOf]; omega

set_option maxRecDepth 100000 in
set_option maxHeartbeats 1000000 in
theorem union_any (A B : Option Addr) (n m c c' : Nat) (l l' : List Sp) (w : World) (hr : RdS w w.heap.size A n l) (hs : RdS w w.heap.size B m l') (hn : n ≤ 4611686018427387904) (hm : m ≤ 4611686018427387904) :
    Calls Try.prog 17 #[.slice A n c, .slice B m c'] w fun e w' => SpansIs w w' (normal fun k => uOp (dayIn l k) (dayIn l' k)) e := by
  have HK := Lib.hid (combU_any A B n m c c' l l' w hr hs hn hm)
  clear hr hs
  go_enter Try.func17, Try.ntmps17
  go_wp2_with fail
  refine HK.out.mono ?_
  rintro e w4 ⟨A4, n4, c4, rfl, q1, q2, q3, q4⟩
  have HQ := Lib.hid q1
  have HB := Lib.hid q4
  clear q1 q4 HK
  go_wp2_with fail
  exact bodyPost_ret (v := .slice A4 n4 c4) (by simp [results, Try.results17, go_sem]) rfl ⟨A4, n4, c4, rfl, HQ.out, q2, q3, HB.out⟩

set_option maxRecDepth 100000 in
set_option maxHeartbeats 1000000 in
theorem combM_any (A B : Option Addr) (n m c c' : Nat) (l l' : List Sp) (w : World) (hr : RdS w w.heap.size A n l) (hs : RdS w w.heap.size B m l') (hn : n ≤ 4611686018427387904) (hm : m ≤ 4611686018427387904) :
    Calls Try.prog 32 #[.slice A n c, .slice B m c', .func (.func 34) #[] #[]] w fun e w' => SpansIs w w' (normal fun k => mOp (dayIn l k) (dayIn l' k)) e := by
  have HD := Lib.hid (daysOf_any A n c l w hr hn)
  have HS := Lib.hid hs
  obtain ⟨zb, hzb⟩ : ∃ z, z = rowV 1024 (dayF fun _ => false) := ⟨_, rfl⟩
  have hz43 := (zero_of_info zero_days).1
  have hn43 : ¬ zb = #[] := by rw [hzb]; exact rowV_ne (by omega) _
  rw [← hzb] at hz43
  have HZB := Lib.hid hzb
  have HSZ : Hid (∀ f, zb.size = (rowV 1024 (dayF f)).size) := fun f => by rw [hzb, rowV_size, rowV_size]
  clear hr hs hzb
  go_enter Try.func32, Try.ntmps32
  go_wp2_with fail
  refine HD.out.mono ?_
  rintro e w1 ⟨rfl, hb1⟩
  have HB1 := Lib.hid hb1
  have HD2 := Lib.hid (daysOf_any B m c' l' w1 (HS.out.below hb1 hb1.size) hm)
  clear hb1 HD HS
  go_wp2_with fail
  refine HD2.out.mono ?_
  rintro e w2 ⟨rfl, hb2⟩
  have HB2 : Hid (Below w.heap.size w w2) := HB1.out.trans (hb2.mono HB1.out.size)
  clear hb2 HD2 HB1
  have HI1 := Lib.hid (info_days' (dayIn l))
  have HI2 := Lib.hid (info_days' (dayIn l'))
  have hA : ((w2.alloc (.cells zb 43)).alloc (.cells zb 43)).heap[w2.heap.size]? = some (.cells zb 43 (0, 0)) := (Below.heap_alloc _ _ _ (by simp)).trans (heap_alloc_new _ _)
  have hB : (((w2.alloc (.cells zb 43)).alloc (.cells zb 43)).setRow w2.heap.size (rowV 1024 (dayF (dayIn l)))).heap[w2.heap.size + 1]? = some (.cells zb 43 (0, 0)) := (setRow_other _ _ _ _ (by omega)).trans (heap_alloc2_new _ _ _ _)
  have hC := setRow_heap _ _ _ (rowV 1024 (dayF (dayIn l))) _ _ hA
  have hD := setRow_heap _ _ _ (rowV 1024 (dayF (dayIn l'))) _ _ hB
  have hC2 := (setRow_other _ (w2.heap.size + 1) w2.heap.size (rowV 1024 (dayF (dayIn l'))) (by omega)).trans hC
  have HA := Lib.hid hA
  have HBB := Lib.hid hB
  have hE : Below w.heap.size w ((((w2.alloc (.cells zb 43)).alloc (.cells zb 43)).setRow w2.heap.size (rowV 1024 (dayF (dayIn l)))).setRow (w2.heap.size + 1) (rowV 1024 (dayF (dayIn l')))) :=
    below_setRow (below_setRow (((HB2.out.alloc HB2.out.size _).alloc (by have := HB2.out.size; simp; omega) _)) HB2.out.size _) (by have := HB2.out.size; omega) _
  obtain ⟨X2, hX2⟩ : ∃ X2, ((((w2.alloc (.cells zb 43)).alloc (.cells zb 43)).setRow w2.heap.size (rowV 1024 (dayF (dayIn l)))).setRow (w2.heap.size + 1) (rowV 1024 (dayF (dayIn l')))) = X2 := ⟨_, rfl⟩
  have hz2 : X2.heap.size = w2.heap.size + 2 := by rw [← hX2]; simp
  rw [hX2] at hC2 hD hE
  have hW2 := HB2.out.size
  obtain ⟨gx, hgx⟩ : ∃ g, g = w2.heap.size := ⟨_, rfl⟩
  have HX2 := Lib.hid hX2
  have b3 := Below.new1 X2 (.cells zb 43)
  have d3 : DRow (X2.alloc (.cells zb 43)) X2.heap.size (fun _ => false) := by
    rw [HZB.out]
    exact heap_alloc_new _ _
  have d1 : DRow (X2.alloc (.cells zb 43)) w2.heap.size (dayIn l) := RowF.below hC2 b3 (by omega)
  have d2 : DRow (X2.alloc (.cells zb 43)) (w2.heap.size + 1) (dayIn l') := RowF.below hD b3 (by omega)
  have e3 : Below w.heap.size w (X2.alloc (.cells zb 43)) := hE.trans (b3.mono (by omega))
  obtain ⟨g3, hg3⟩ : ∃ g, X2.heap.size = g := ⟨_, rfl⟩
  obtain ⟨g2, hg2⟩ : ∃ g, w2.heap.size + 1 = g := ⟨_, rfl⟩
  obtain ⟨g1, hg1⟩ : ∃ g, w2.heap.size = g := ⟨_, rfl⟩
  obtain ⟨w3, hw3⟩ : ∃ w3, X2.alloc (.cells zb 43) = w3 := ⟨_, rfl⟩
  have n13 : g1 ≠ g3 := by omega
  have n23 : g2 ≠ g3 := by omega
  have o3 : w.heap.size ≤ g3 := by omega
  rw [hw3, hg3] at d3
  rw [hw3, hg2] at d2
  rw [hw3, hg1] at d1
  rw [hw3] at e3
  have H1 := Lib.hid d1
  have H2 := Lib.hid d2
  have H3 := Lib.hid d3
  have HB3 := Lib.hid e3
  have HG1 := Lib.hid hg1
  have HG2 := Lib.hid hg2
  have HG3 := Lib.hid hg3
  have HW3 := Lib.hid hw3
  clear hA hB hC hD hC2 hE hX2 hz2 hW2 hgx b3 d1 d2 d3 e3 hg1 hg2 hg3 hw3
  unfold dayV
  go_wp2_with (first
    | (refine wpList_store_row rfl 43 _ _ rfl w2.heap.size (rowV 1024 (dayF (dayIn l))) rfl rfl _ _ HA.out HI1.out (HSZ.out _) (days_one _) ?_)
    | (refine wpList_store_row rfl 43 _ _ rfl (w2.heap.size + 1) (rowV 1024 (dayF (dayIn l'))) rfl rfl _ _ HBB.out HI2.out (HSZ.out _) (days_one _) ?_; rw [HX2.out]))
  rw [HW3.out, HG3.out, HG2.out, HG1.out]
  clear HA HBB HX2 HG1 HG2 HG3 HW3 HI1 HI2 HZB HSZ hz43 hn43
  go_loopw [15] (fun v wr => ∃ k : Nat, v = .int .i64 k ∧ k ≤ 1024 ∧ Hid (DRow wr g1 (dayIn l)) ∧ Hid (DRow wr g2 (dayIn l')) ∧ Hid (DRow wr g3 (fun j => if j < k then mOp (dayIn l j) (dayIn l' j) else false)) ∧ Hid (Below w.heap.size w wr)) (fun v _ => 1024 - (intOf v).toNat)
  case atStart => exact ⟨0, rfl, by omega, H1, H2, H3.out.congr (fun j _ => by simp), HB3⟩
  case round =>
    clear H1 H2 H3 HB3
    obtain ⟨k, rfl, hk, H1, H2, H3, HB⟩ := hrel
    by_cases hend : k = 1024
    · subst hend
      have HE : Hid (DRow wr g3 (fun j => mOp (dayIn l j) (dayIn l' j))) := H3.out.congr fun j hj => if_pos hj
      have HK := Lib.hid (listP_any g3 _ wr HE.out)
      go_wp2_with fail
      refine HK.out.mono ?_
      rintro e w4 ⟨A4, n4, c4, rfl, q1, q2, q3, q4⟩
      have HB4 : Hid (Below w.heap.size w w4) := HB.out.trans (q4.mono HB.out.size)
      have HQ := Lib.hid q1
      clear HK q1 q4
      go_wp2_with fail
      exact bodyPost_ret (v := .slice A4 n4 c4) (by simp [results, Try.results32, go_sem]) rfl ⟨A4, n4, c4, rfl, HQ.out, q2, q3, HB4.out⟩
    have hk1 : k < 1024 := by omega
    have hk1' : (k : Int) < 1024 := by omega
    have k0 : (0 : Int) ≤ (k : Int) := by omega
    have hcx := H1.out.cell k hk1
    have hcy := H2.out.cell k hk1
    have hcz := H3.out.cell k hk1
    have hfz := RowF.frozen H3.out k
    simp only [Nat.lt_irrefl, if_false] at hcz
    obtain ⟨x, hx⟩ : ∃ x, x = dayIn l k := ⟨_, rfl⟩
    obtain ⟨y, hy⟩ : ∃ y, y = dayIn l' k := ⟨_, rfl⟩
    rw [← hx] at hcx
    rw [← hy] at hcy
    have HX := Lib.hid hx
    have HY := Lib.hid hy
    clear hend hx hy
    have HC := Lib.hid (opM_any x y)
    go_wp2_with fail
    refine wp_region_still_tail 10 (by kernel_rfl) (by kernel_rfl) ?_
    simp only [List.take_succ_cons, List.take_zero, List.drop_succ_cons, List.drop_zero]
    repeat still_step
    still_call ((HC.out _).mono fun _ _ h => ⟨h.1, h.2.symm⟩)
    repeat still_step
    refine wpStill_nil ?_
    change wpList _ _ _ _ _ wr.drew
    have HN3 : Hid (DRow (wr.drew.setCell ⟨g3, k, none⟩ (.bool (mOp x y))) g3 (fun j => if j < k + 1 then mOp (dayIn l j) (dayIn l' j) else false)) := by
      refine (DRow.set (w := wr.drew) H3.out k (mOp x y)).congr fun j _ => ?_
      by_cases e : j = k
      · subst e
        rw [if_pos rfl, if_pos (by omega), HX.out, HY.out]
      · rw [if_neg e]
        by_cases e2 : j < k
        · rw [if_pos e2, if_pos (by omega)]
        · rw [if_neg e2, if_neg (by omega)]
    have HN1 : Hid (DRow (wr.drew.setCell ⟨g3, k, none⟩ (.bool (mOp x y))) g1 (dayIn l)) := RowF.keep (w := wr.drew) H1.out (heap_setCell_other _ _ _ _ n13)
    have HN2 : Hid (DRow (wr.drew.setCell ⟨g3, k, none⟩ (.bool (mOp x y))) g2 (dayIn l')) := RowF.keep (w := wr.drew) H2.out (heap_setCell_other _ _ _ _ n23)
    have HNB : Hid (Below w.heap.size w (wr.drew.setCell ⟨g3, k, none⟩ (.bool (mOp x y)))) := Below.setCell HB.out.drew o3 _
    clear HC H1 H2 H3 HB
    go_wp2_with fail
    go_roundw
    case rel => exact ⟨k + 1, by go_num, by omega, HN1, HN2, HN3, HNB⟩
    case measure => simp [intOf]; omega

set_option maxRecDepth 100000 in
set_option maxHeartbeats 1000000 in
theorem meet_any (A B : Option Addr) (n m c c' : Nat) (l l' : List Sp) (w : World) (hr : RdS w w.heap.size A n l) (hs : RdS w w.heap.size B m l') (hn : n ≤ 4611686018427387904) (hm : m ≤ 4611686018427387904) :
    Calls Try.prog 19 #[.slice A n c, .slice B m c'] w fun e w' => SpansIs w w' (normal fun k => mOp (dayIn l k) (dayIn l' k)) e := by
  have HK := Lib.hid (combM_any A B n m c c' l l' w hr hs hn hm)
  clear hr hs
  go_enter Try.func19, Try.ntmps19
  go_wp2_with fail
  refine HK.out.mono ?_
  rintro e w4 ⟨A4, n4, c4, rfl, q1, q2, q3, q4⟩
  have HQ := Lib.hid q1
  have HB := Lib.hid q4
  clear q1 q4 HK
  go_wp2_with fail
  exact bodyPost_ret (v := .slice A4 n4 c4) (by simp [results, Try.results19, go_sem]) rfl ⟨A4, n4, c4, rfl, HQ.out, q2, q3, HB.out⟩

set_option maxRecDepth 100000 in
set_option maxHeartbeats 1000000 in
theorem combD_any (A B : Option Addr) (n m c c' : Nat) (l l' : List Sp) (w : World) (hr : RdS w w.heap.size A n l) (hs : RdS w w.heap.size B m l') (hn : n ≤ 4611686018427387904) (hm : m ≤ 4611686018427387904) :
    Calls Try.prog 32 #[.slice A n c, .slice B m c', .func (.func 35) #[] #[]] w fun e w' => SpansIs w w' (normal fun k => dOp (dayIn l k) (dayIn l' k)) e := by
  have HD := Lib.hid (daysOf_any A n c l w hr hn)
  have HS := Lib.hid hs
  obtain ⟨zb, hzb⟩ : ∃ z, z = rowV 1024 (dayF fun _ => false) := ⟨_, rfl⟩
  have hz43 := (zero_of_info zero_days).1
  have hn43 : ¬ zb = #[] := by rw [hzb]; exact rowV_ne (by omega) _
  rw [← hzb] at hz43
  have HZB := Lib.hid hzb
  have HSZ : Hid (∀ f, zb.size = (rowV 1024 (dayF f)).size) := fun f => by rw [hzb, rowV_size, rowV_size]
  clear hr hs hzb
  go_enter Try.func32, Try.ntmps32
  go_wp2_with fail
  refine HD.out.mono ?_
  rintro e w1 ⟨rfl, hb1⟩
  have HB1 := Lib.hid hb1
  have HD2 := Lib.hid (daysOf_any B m c' l' w1 (HS.out.below hb1 hb1.size) hm)
  clear hb1 HD HS
  go_wp2_with fail
  refine HD2.out.mono ?_
  rintro e w2 ⟨rfl, hb2⟩
  have HB2 : Hid (Below w.heap.size w w2) := HB1.out.trans (hb2.mono HB1.out.size)
  clear hb2 HD2 HB1
  have HI1 := Lib.hid (info_days' (dayIn l))
  have HI2 := Lib.hid (info_days' (dayIn l'))
  have hA : ((w2.alloc (.cells zb 43)).alloc (.cells zb 43)).heap[w2.heap.size]? = some (.cells zb 43 (0, 0)) := (Below.heap_alloc _ _ _ (by simp)).trans (heap_alloc_new _ _)
  have hB : (((w2.alloc (.cells zb 43)).alloc (.cells zb 43)).setRow w2.heap.size (rowV 1024 (dayF (dayIn l)))).heap[w2.heap.size + 1]? = some (.cells zb 43 (0, 0)) := (setRow_other _ _ _ _ (by omega)).trans (heap_alloc2_new _ _ _ _)
  have hC := setRow_heap _ _ _ (rowV 1024 (dayF (dayIn l))) _ _ hA
  have hD := setRow_heap _ _ _ (rowV 1024 (dayF (dayIn l'))) _ _ hB
  have hC2 := (setRow_other _ (w2.heap.size + 1) w2.heap.size (rowV 1024 (dayF (dayIn l'))) (by omega)).trans hC
  have HA := Lib.hid hA
  have HBB := Lib.hid hB
  have hE : Below w.heap.size w ((((w2.alloc (.cells zb 43)).alloc (.cells zb 43)).setRow w2.heap.size (rowV 1024 (dayF (dayIn l)))).setRow (w2.heap.size + 1) (rowV 1024 (dayF (dayIn l')))) :=
    below_setRow (below_setRow (((HB2.out.alloc HB2.out.size _).alloc (by have := HB2.out.size; simp; omega) _)) HB2.out.size _) (by have := HB2.out.size; omega) _
  obtain ⟨X2, hX2⟩ : ∃ X2, ((((w2.alloc (.cells zb 43)).alloc (.cells zb 43)).setRow w2.heap.size (rowV 1024 (dayF (dayIn l)))).setRow (w2.heap.size + 1) (rowV 1024 (dayF (dayIn l')))) = X2 := ⟨_, rfl⟩
  have hz2 : X2.heap.size = w2.heap.size + 2 := by rw [← hX2]; simp
  rw [hX2] at hC2 hD hE
  have hW2 := HB2.out.size
  obtain ⟨gx, hgx⟩ : ∃ g, g = w2.heap.size := ⟨_, rfl⟩
  have HX2 := Lib.hid hX2
  have b3 := Below.new1 X2 (.cells zb 43)
  have d3 : DRow (X2.alloc (.cells zb 43)) X2.heap.size (fun _ => false) := by
    rw [HZB.out]
    exact heap_alloc_new _ _
  have d1 : DRow (X2.alloc (.cells zb 43)) w2.heap.size (dayIn l) := RowF.below hC2 b3 (by omega)
  have d2 : DRow (X2.alloc (.cells zb 43)) (w2.heap.size + 1) (dayIn l') := RowF.below hD b3 (by omega)
  have e3 : Below w.heap.size w (X2.alloc (.cells zb 43)) := hE.trans (b3.mono (by omega))
  obtain ⟨g3, hg3⟩ : ∃ g, X2.heap.size = g := ⟨_, rfl⟩
  obtain ⟨g2, hg2⟩ : ∃ g, w2.heap.size + 1 = g := ⟨_, rfl⟩
  obtain ⟨g1, hg1⟩ : ∃ g, w2.heap.size = g := ⟨_, rfl⟩
  obtain ⟨w3, hw3⟩ : ∃ w3, X2.alloc (.cells zb 43) = w3 := ⟨_, rfl⟩
  have n13 : g1 ≠ g3 := by omega
  have n23 : g2 ≠ g3 := by omega
  have o3 : w.heap.size ≤ g3 := by omega
  rw [hw3, hg3] at d3
  rw [hw3, hg2] at d2
  rw [hw3, hg1] at d1
  rw [hw3] at e3
  have H1 := Lib.hid d1
  have H2 := Lib.hid d2
  have H3 := Lib.hid d3
  have HB3 := Lib.hid e3
  have HG1 := Lib.hid hg1
  have HG2 := Lib.hid hg2
  have HG3 := Lib.hid hg3
  have HW3 := Lib.hid hw3
  clear hA hB hC hD hC2 hE hX2 hz2 hW2 hgx b3 d1 d2 d3 e3 hg1 hg2 hg3 hw3
  unfold dayV
  go_wp2_with (first
    | (refine wpList_store_row rfl 43 _ _ rfl w2.heap.size (rowV 1024 (dayF (dayIn l))) rfl rfl _ _ HA.out HI1.out (HSZ.out _) (days_one _) ?_)
    | (refine wpList_store_row rfl 43 _ _ rfl (w2.heap.size + 1) (rowV 1024 (dayF (dayIn l'))) rfl rfl _ _ HBB.out HI2.out (HSZ.out _) (days_one _) ?_; rw [HX2.out]))
  rw [HW3.out, HG3.out, HG2.out, HG1.out]
  clear HA HBB HX2 HG1 HG2 HG3 HW3 HI1 HI2 HZB HSZ hz43 hn43
  go_loopw [15] (fun v wr => ∃ k : Nat, v = .int .i64 k ∧ k ≤ 1024 ∧ Hid (DRow wr g1 (dayIn l)) ∧ Hid (DRow wr g2 (dayIn l')) ∧ Hid (DRow wr g3 (fun j => if j < k then dOp (dayIn l j) (dayIn l' j) else false)) ∧ Hid (Below w.heap.size w wr)) (fun v _ => 1024 - (intOf v).toNat)
  case atStart => exact ⟨0, rfl, by omega, H1, H2, H3.out.congr (fun j _ => by simp), HB3⟩
  case round =>
    clear H1 H2 H3 HB3
    obtain ⟨k, rfl, hk, H1, H2, H3, HB⟩ := hrel
    by_cases hend : k = 1024
    · subst hend
      have HE : Hid (DRow wr g3 (fun j => dOp (dayIn l j) (dayIn l' j))) := H3.out.congr fun j hj => if_pos hj
      have HK := Lib.hid (listP_any g3 _ wr HE.out)
      go_wp2_with fail
      refine HK.out.mono ?_
      rintro e w4 ⟨A4, n4, c4, rfl, q1, q2, q3, q4⟩
      have HB4 : Hid (Below w.heap.size w w4) := HB.out.trans (q4.mono HB.out.size)
      have HQ := Lib.hid q1
      clear HK q1 q4
      go_wp2_with fail
      exact bodyPost_ret (v := .slice A4 n4 c4) (by simp [results, Try.results32, go_sem]) rfl ⟨A4, n4, c4, rfl, HQ.out, q2, q3, HB4.out⟩
    have hk1 : k < 1024 := by omega
    have hk1' : (k : Int) < 1024 := by omega
    have k0 : (0 : Int) ≤ (k : Int) := by omega
    have hcx := H1.out.cell k hk1
    have hcy := H2.out.cell k hk1
    have hcz := H3.out.cell k hk1
    have hfz := RowF.frozen H3.out k
    simp only [Nat.lt_irrefl, if_false] at hcz
    obtain ⟨x, hx⟩ : ∃ x, x = dayIn l k := ⟨_, rfl⟩
    obtain ⟨y, hy⟩ : ∃ y, y = dayIn l' k := ⟨_, rfl⟩
    rw [← hx] at hcx
    rw [← hy] at hcy
    have HX := Lib.hid hx
    have HY := Lib.hid hy
    clear hend hx hy
    have HC := Lib.hid (opD_any x y)
    go_wp2_with fail
    refine wp_region_still_tail 10 (by kernel_rfl) (by kernel_rfl) ?_
    simp only [List.take_succ_cons, List.take_zero, List.drop_succ_cons, List.drop_zero]
    repeat still_step
    still_call ((HC.out _).mono fun _ _ h => ⟨h.1, h.2.symm⟩)
    repeat still_step
    refine wpStill_nil ?_
    change wpList _ _ _ _ _ wr.drew
    have HN3 : Hid (DRow (wr.drew.setCell ⟨g3, k, none⟩ (.bool (dOp x y))) g3 (fun j => if j < k + 1 then dOp (dayIn l j) (dayIn l' j) else false)) := by
      refine (DRow.set (w := wr.drew) H3.out k (dOp x y)).congr fun j _ => ?_
      by_cases e : j = k
      · subst e
        rw [if_pos rfl, if_pos (by omega), HX.out, HY.out]
      · rw [if_neg e]
        by_cases e2 : j < k
        · rw [if_pos e2, if_pos (by omega)]
        · rw [if_neg e2, if_neg (by omega)]
    have HN1 : Hid (DRow (wr.drew.setCell ⟨g3, k, none⟩ (.bool (dOp x y))) g1 (dayIn l)) := RowF.keep (w := wr.drew) H1.out (heap_setCell_other _ _ _ _ n13)
    have HN2 : Hid (DRow (wr.drew.setCell ⟨g3, k, none⟩ (.bool (dOp x y))) g2 (dayIn l')) := RowF.keep (w := wr.drew) H2.out (heap_setCell_other _ _ _ _ n23)
    have HNB : Hid (Below w.heap.size w (wr.drew.setCell ⟨g3, k, none⟩ (.bool (dOp x y)))) := Below.setCell HB.out.drew o3 _
    clear HC H1 H2 H3 HB
    go_wp2_with fail
    go_roundw
    case rel => exact ⟨k + 1, by go_num, by omega, HN1, HN2, HN3, HNB⟩
    case measure => simp [intOf]; omega

set_option maxRecDepth 100000 in
set_option maxHeartbeats 1000000 in
theorem minus_any (A B : Option Addr) (n m c c' : Nat) (l l' : List Sp) (w : World) (hr : RdS w w.heap.size A n l) (hs : RdS w w.heap.size B m l') (hn : n ≤ 4611686018427387904) (hm : m ≤ 4611686018427387904) :
    Calls Try.prog 21 #[.slice A n c, .slice B m c'] w fun e w' => SpansIs w w' (normal fun k => dOp (dayIn l k) (dayIn l' k)) e := by
  have HK := Lib.hid (combD_any A B n m c c' l l' w hr hs hn hm)
  clear hr hs
  go_enter Try.func21, Try.ntmps21
  go_wp2_with fail
  refine HK.out.mono ?_
  rintro e w4 ⟨A4, n4, c4, rfl, q1, q2, q3, q4⟩
  have HQ := Lib.hid q1
  have HB := Lib.hid q4
  clear q1 q4 HK
  go_wp2_with fail
  exact bodyPost_ret (v := .slice A4 n4 c4) (by simp [results, Try.results21, go_sem]) rfl ⟨A4, n4, c4, rfl, HQ.out, q2, q3, HB.out⟩

set_option maxRecDepth 100000 in
set_option maxHeartbeats 1000000 in
theorem normal_any (A : Option Addr) (n c : Nat) (l : List Sp) (w : World) (hr : RdS w w.heap.size A n l) (hn : n ≤ 4611686018427387904) :
    Calls Try.prog 15 #[.slice A n c] w fun e w' => SpansIs w w' (normal (dayIn l)) e := by
  have HD := Lib.hid (daysOf_any A n c l w hr hn)
  obtain ⟨zb, hzb⟩ : ∃ z, z = rowV 1024 (dayF fun _ => false) := ⟨_, rfl⟩
  have hz43 := (zero_of_info zero_days).1
  have hn43 : ¬ zb = #[] := by rw [hzb]; exact rowV_ne (by omega) _
  rw [← hzb] at hz43
  have HSZ : Hid (∀ f, zb.size = (rowV 1024 (dayF f)).size) := fun f => by rw [hzb, rowV_size, rowV_size]
  clear hr hzb
  go_enter Try.func15, Try.ntmps15
  go_wp2_with fail
  refine HD.out.mono ?_
  rintro e w1 ⟨rfl, hb1⟩
  have HB1 := Lib.hid hb1
  have HI1 := Lib.hid (info_days' (dayIn l))
  have hb2 := Below.new1 w1 (.cells (rowV 1024 (dayF (dayIn l))) 43)
  have HB2 : Hid (Below w.heap.size w (w1.alloc (.cells (rowV 1024 (dayF (dayIn l))) 43))) := HB1.out.trans (hb2.mono HB1.out.size)
  have HK := Lib.hid (listP_any w1.heap.size (dayIn l) (w1.alloc (.cells (rowV 1024 (dayF (dayIn l))) 43)) (heap_alloc_new _ _))
  clear hb1 hb2 HD HB1
  unfold dayV
  go_wp2_with (refine wpList_store_row rfl 43 _ _ rfl _ _ rfl rfl _ _ (heap_alloc_new _ _) HI1.out (HSZ.out _) (days_one _) ?_; rw [World.setRow_alloc_new])
  refine HK.out.mono ?_
  rintro e w4 ⟨A4, n4, c4, rfl, q1, q2, q3, q4⟩
  have HQ := Lib.hid q1
  have HB : Hid (Below w.heap.size w w4) := HB2.out.trans (q4.mono HB2.out.size)
  clear q1 q4 HK HB2
  go_wp2_with fail
  exact bodyPost_ret (v := .slice A4 n4 c4) (by simp [results, Try.results15, go_sem]) rfl ⟨A4, n4, c4, rfl, HQ.out, q2, q3, HB.out⟩
end Go.Proofs.Ytnbffkeinkgojaa
