/- Contract of the reference's Tree. -/
import Derived.Test.YtfolmglafnfcbaaDoorRefNode
namespace Go.Proofs.YtfolmglafnfcbaaDoor
open Go.RowKit

set_option maxRecDepth 100000 in
set_option maxHeartbeats 1000000 in
theorem reftree0_any (A : Option Addr) (c : Nat) (w : World) : Calls Tryd.prog 18 #[.slice A 0 c] w fun e w' => e = .returned (dgV (tree [])) ∧ Below w.heap.size w w' := by
  rw [tree_nil]
  obtain ⟨w0, hw0⟩ : ∃ w0, w.alloc (.cells Z32 26) = w0 := ⟨_, rfl⟩
  have hb0 : Below w.heap.size w w0 := by rw [← hw0]; exact (Below.refl _ _).alloc (Nat.le_refl _) _
  have hz0 : w0.heap.size = w.heap.size + 1 := by rw [← hw0]; simp
  have hd0 : w0.heap[w.heap.size]? = some (.cells Z32 26 (0, 0)) := by rw [← hw0]; exact heap_alloc_new _ _
  have HD0 := Lib.hid hd0
  have HB0 := Lib.hid hb0
  have HW0 := Lib.hid hw0
  have HI := Lib.hid (dg_info (tagged [101, 109, 112, 116, 121] []) (tagged_length _ _))
  clear hw0 hb0 hd0
  go_enter Tryd.func18, Tryd.ntmps18
  go_wp2_with fail
  rw [HW0.out]
  refine (reftag_any ⟨#[101, 109, 112, 116, 121]⟩ none 0 0 [] w0 (by show (5 : Nat) ≤ _; omega) ⟨rfl, fun h => by omega⟩ (by omega)).mono ?_
  rintro e w1 ⟨rfl, hb1⟩
  have HD1 : Hid (w1.heap[w.heap.size]? = some (.cells Z32 26 (0, 0))) := (hb1.block _ (by omega)).trans HD0.out
  have HB1 := Lib.hid (HB0.out.trans (hb1.mono (by omega)))
  clear hb1
  unfold dgV
  go_wp2_with (refine wpList_store_row rfl 26 _ _ rfl _ _ rfl rfl _ _ HD1.out HI.out (z32_size _ (tagged_length _ _)) (bytesV_all _) ?_)
  exact bodyPost_ret (results_cell_row rfl _ _ _ _ _ _ _ rfl (setRow_heap _ _ _ _ _ _ HD1.out) Tryd.underlying26 rfl HI.out) rfl ⟨rfl, below_setRow HB1.out (Nat.le_refl _) _⟩

set_option maxRecDepth 100000 in
set_option maxHeartbeats 1000000 in
theorem reftree1_any (b o c : Nat) (d : D) (w : World) (hd : d.length = 32) (hbl : b < w.heap.size) (hr : w.rangeAt b o (bytesV d)) : Calls Tryd.prog 18 #[.slice (some ⟨b, o, none⟩) 1 c] w fun e w' => e = .returned (dgV (tree [d])) ∧ Below w.heap.size w w' := by
  rw [tree_one]
  obtain ⟨w0, hw0⟩ : ∃ w0, w.alloc (.cells Z32 26) = w0 := ⟨_, rfl⟩
  have hb0 : Below w.heap.size w w0 := by rw [← hw0]; exact (Below.refl _ _).alloc (Nat.le_refl _) _
  have hz0 : w0.heap.size = w.heap.size + 1 := by rw [← hw0]; simp
  have hd0 : w0.heap[w.heap.size]? = some (.cells Z32 26 (0, 0)) := by rw [← hw0]; exact heap_alloc_new _ _
  have HD0 := Lib.hid hd0
  have HB0 := Lib.hid hb0
  have HW0 := Lib.hid hw0
  have HRB : Hid (RdB w0 w0.heap.size (some ⟨b, o, none⟩) 32 d) := ⟨hd.symm, fun _ => ⟨b, o, rfl, by omega, fun j u hu => by
    refine (hb0.cell hbl).trans (hr j _ ?_)
    unfold bytesV
    rw [List.getElem?_map, hu]
    rfl⟩⟩
  have HI := Lib.hid (dg_info (tagged [108, 101, 97, 102] d) (tagged_length _ _))
  clear hw0 hb0 hd0 hr hd
  go_enter Tryd.func18, Tryd.ntmps18
  go_wp2_with fail
  rw [HW0.out]
  refine (reftag_any ⟨#[108, 101, 97, 102]⟩ _ 32 32 d w0 (by show (4 : Nat) ≤ _; omega) HRB.out (by omega)).mono ?_
  rintro e w1 ⟨rfl, hb1⟩
  have HD1 : Hid (w1.heap[w.heap.size]? = some (.cells Z32 26 (0, 0))) := (hb1.block _ (by omega)).trans HD0.out
  have HB1 := Lib.hid (HB0.out.trans (hb1.mono (by omega)))
  clear hb1
  unfold dgV
  go_wp2_with (refine wpList_store_row rfl 26 _ _ rfl _ _ rfl rfl _ _ HD1.out HI.out (z32_size _ (tagged_length _ _)) (bytesV_all _) ?_)
  exact bodyPost_ret (results_cell_row rfl _ _ _ _ _ _ _ rfl (setRow_heap _ _ _ _ _ _ HD1.out) Tryd.underlying26 rfl HI.out) rfl ⟨rfl, below_setRow HB1.out (Nat.le_refl _) _⟩

/-- what a contract of Tree says of lists up to a length -/
def RefTreeOk (f : Nat) : Prop := ∀ (A : Option Addr) (n c : Nat) (ds : List D) (w : World), RdD w w.heap.size A n ds → n ≤ f → n ≤ 1073741824 → n ≤ c → c ≤ maxLen →
  Calls Tryd.prog 18 #[.slice A n c] w fun e w' => e = .returned (dgV (tree ds)) ∧ Below w.heap.size w w'

set_option maxRecDepth 100000 in
set_option maxHeartbeats 2000000 in
theorem reftreeStep (f : Nat) (ih : RefTreeOk f) (A : Option Addr) (n c : Nat) (ds : List D) (w : World) (hr : RdD w w.heap.size A n ds) (h2 : 2 ≤ n) (hf : n ≤ f + 1) (hn : n ≤ 1073741824) (hc : n ≤ c) (hcm : c ≤ maxLen) :
    Calls Tryd.prog 18 #[.slice A n c] w fun e w' => e = .returned (dgV (tree ds)) ∧ Below w.heap.size w w' := by
  have hl := hr.1
  have a1 := half_lt n h2 (by omega)
  have a2 := half_pos n
  obtain ⟨h, hh⟩ : ∃ h, h = half n := ⟨_, rfl⟩
  have HH := Lib.hid hh
  rw [← hh] at a1 a2
  have hcc : ¬ c = h := by omega
  have i0 : (0 : Int) ≤ (h : Int) := by omega
  have i1 : (h : Int) ≤ (n : Int) := by omega
  have i2 : (h : Int) ≤ (c : Int) := by omega
  have i3 : (n : Int) ≤ (c : Int) := by omega
  have hne0 : ((n : Int) == 0) = false := by rw [beq_eq_false_iff_ne]; omega
  have hne1 : ((n : Int) == 1) = false := by rw [beq_eq_false_iff_ne]; omega
  obtain ⟨w0, hw0⟩ : ∃ w0, w.alloc (.cells Z32 26) = w0 := ⟨_, rfl⟩
  have hb0 : Below w.heap.size w w0 := by rw [← hw0]; exact (Below.refl _ _).alloc (Nat.le_refl _) _
  have hz0 : w0.heap.size = w.heap.size + 1 := by rw [← hw0]; simp
  have hd0 : w0.heap[w.heap.size]? = some (.cells Z32 26 (0, 0)) := by rw [← hw0]; exact heap_alloc_new _ _
  have hr0 := hr.below hb0 (Nat.le_refl _)
  have HT : Hid (tree ds = tagged [110, 111, 100, 101] (tree (ds.take h) ++ tree (ds.drop h))) := by
    have e := tree_node ds (by omega) (by omega)
    rw [← hl, ← hh] at e
    exact e
  have HCL : Hid (∀ w', Below w0.heap.size w0 w' → Calls Tryd.prog 18 #[.slice A h c] w' fun e w'' => e = .returned (dgV (tree (ds.take h))) ∧ Hid (Below w0.heap.size w0 w'')) := fun w' hb =>
    (ih A h c (ds.take h) w' ((hr0.take (by omega)).keep (by have := hb.size; omega) fun p hp => hb.cell (by omega)) (by omega) (by omega) (by omega) hcm).mono fun _ _ ⟨e, k⟩ => ⟨e, hb.trans (k.mono hb.size)⟩
  have HCR : Hid (∀ w', Below w0.heap.size w0 w' → Calls Tryd.prog 18 #[.slice (A.map (·.add (h * 32))) (n - h) (c - h)] w' fun e w'' => e = .returned (dgV (tree (ds.drop h))) ∧ Hid (Below w0.heap.size w0 w'')) := fun w' hb =>
    (ih _ (n - h) (c - h) (ds.drop h) w' ((hr0.drop (by omega)).keep (by have := hb.size; omega) fun p hp => hb.cell (by omega)) (by omega) (by omega) (by omega) (by omega)).mono fun _ _ ⟨e, k⟩ => ⟨e, hb.trans (k.mono hb.size)⟩
  have HCN : Hid (∀ w', Below w0.heap.size w0 w' → Calls Tryd.prog 39 #[dgV (tree (ds.take h)), dgV (tree (ds.drop h))] w' fun e w'' => e = .returned (dgV (tree ds)) ∧ Hid (Below w0.heap.size w0 w'')) := fun w' hb =>
    (refnode_any _ _ w' (tree_length _) (tree_length _)).mono fun _ _ ⟨e, k⟩ => ⟨by rw [HT.out]; exact e, hb.trans (k.mono hb.size)⟩
  have HD0 := Lib.hid (IsD.new _ _ hd0)
  have HB0 := Lib.hid hb0
  have HW0 := Lib.hid hw0
  have HI := Lib.hid (dg_info (tree ds) (tree_length _))
  clear hw0 hb0 hd0 hr hr0 hl hh
  go_enter Tryd.func18, Tryd.ntmps18
  go_wp2_with fail
  rw [HW0.out]
  refine (refhalf_any n w0 h2 (by omega)).mono ?_
  rintro e w' ⟨rfl, rfl⟩
  rw [← HH.out]
  go_wp2_with fail
  go_region_held3 (fun w' => Below w.heap.size w0 w')
    (first | assumption | exact (Below.refl _ _).drew | exact HSL.out.mono (by omega) | exact HSR.out.mono (by omega) | exact HSN.out.mono (by omega) | (rw [Hs5.out]; exact below_setRow (HSN.out.mono (by omega)) (Nat.le_refl _) _))
    (first
      | (go_at_call 18; with_reducible refine (HCL.out _ (by first | exact HSR.out | exact (Below.refl _ _).drew)).mono ?_; rintro e wL ⟨rfl, HSL⟩)
      | (go_at_call 18; with_reducible refine (HCR.out _ (by first | exact HSL.out | exact (Below.refl _ _).drew)).mono ?_; rintro e wR ⟨rfl, HSR⟩)
      | (go_at_call 39; with_reducible refine (HCN.out _ (by first | exact HSR.out | exact HSL.out)).mono ?_; rintro e wN ⟨rfl, HSN⟩
         have ht5 := (HD0.out.below HSN.out (by omega)).there _ (tree_length ds)
         have hl5 := bytesV_one (tree ds)
         have hi5 := HI.out
         have Hs5 : Hid (wN.setCells w.heap.size 0 (bytesV (tree ds)) = wN.setRow w.heap.size (bytesV (tree ds)).toArray) := setCells_row (HD0.out.below HSN.out (by omega)) (tree_length ds)
         unfold dgV))
  rw [Hs5.out]
  go_wp2_with fail
  exact bodyPost_ret (results_cell_row rfl _ _ _ _ _ _ _ rfl ((HD0.out.below HSN.out (by omega)).row _) Tryd.underlying26 rfl hi5) rfl ⟨rfl, HB0.out.trans (below_setRow (HSN.out.mono (by omega)) (Nat.le_refl _) _)⟩

theorem reftreeOk : ∀ f, RefTreeOk f
  | 0 => by
    intro A n c ds w hr hf hn hc hcm
    have e : n = 0 := by omega
    subst e
    have e : ds = [] := List.eq_nil_of_length_eq_zero hr.1.symm
    subst e
    exact reftree0_any A c w
  | f + 1 => by
    intro A n c ds w hr hf hn hc hcm
    by_cases h0 : n = 0
    · exact reftreeOk f A n c ds w hr (by omega) hn hc hcm
    · by_cases h1 : n = 1
      · subst h1
        obtain ⟨d, rfl⟩ : ∃ d, ds = [d] := by
          have hl := hr.1
          match ds, hl with
          | [d], _ => exact ⟨d, rfl⟩
        obtain ⟨b, o, rfl, hbl, hcell⟩ := hr.2.2 (by omega)
        exact reftree1_any b o c d w (hr.2.1 d (by simp)) hbl (by simpa using hcell 0 d rfl)
      · exact reftreeStep f (reftreeOk f) A n c ds w hr (by omega) hf hn hc hcm
theorem reftree_any (A : Option Addr) (n c : Nat) (ds : List D) (w : World) (hr : RdD w w.heap.size A n ds) (hn : n ≤ 1073741824) (hc : n ≤ c) (hcm : c ≤ maxLen) :
    Calls Tryd.prog 18 #[.slice A n c] w fun e w' => e = .returned (dgV (tree ds)) ∧ Below w.heap.size w w' := reftreeOk n A n c ds w hr (Nat.le_refl _) hn hc hcm
end Go.Proofs.YtfolmglafnfcbaaDoor
