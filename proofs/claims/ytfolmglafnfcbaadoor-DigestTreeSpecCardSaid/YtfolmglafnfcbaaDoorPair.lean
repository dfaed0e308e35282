/- Contracts of pair, node, leaf and Chain. -/
import Derived.Test.YtfolmglafnfcbaaDoorTagged
import Derived.Deep.RegionHeld3
namespace Go.Proofs.YtfolmglafnfcbaaDoor
open Go.RowKit

/-- block g is a place for a digest -/
def IsD (w : World) (g : Nat) : Prop := ∃ old : Array Value, w.heap[g]? = some (.cells old 26 (0, 0)) ∧ old.size = 32
theorem IsD.new (w : World) (g : Nat) (h : w.heap[g]? = some (.cells Z32 26 (0, 0))) : IsD w g := ⟨_, h, rfl⟩
theorem IsD.below {w w' : World} {B g : Nat} (h : IsD w g) (hb : Below B w w') (hg : g < B) : IsD w' g := by
  obtain ⟨o, h1, h2⟩ := h
  exact ⟨o, (hb.block g hg).trans h1, h2⟩
theorem store_digest (w : World) (g : Nat) (d : List UInt8) (h : IsD w g) (hd : d.length = 32) : (Instr.storeAt 26 (.pointer (some ⟨g, 0, none⟩)) (.agg (bytesV d).toArray)).run Tryd.prog w = .ok () (w.setRow g (bytesV d).toArray) := by
  obtain ⟨old, h1, h2⟩ := h
  have hs : (bytesV d).toArray.size = 32 := by rw [List.size_toArray, bytesV_length, hd]
  simp only [Instr.storeAt, Instr.sureAddr, Sem.run_bind, Sem.run_pure, Result.andThen_ok, run_storeVar_row w g 26 26 old (bytesV d).toArray h1 (dg_info d hd) (h2.trans hs.symm) (bytesV_all d)]
theorem IsD.row {w : World} {g : Nat} (h : IsD w g) (cs : Array Value) : (w.setRow g cs).heap[g]? = some (.cells cs 26 (0, 0)) := by
  obtain ⟨o, h1, _⟩ := h
  exact setRow_heap _ _ _ _ _ _ h1
theorem IsD.there {w : World} {g : Nat} (h : IsD w g) (d : List UInt8) (hd : d.length = 32) : w.there g 0 (bytesV d).length := by
  obtain ⟨o, h1, h2⟩ := h
  intro j hj
  rw [bytesV_length, hd] at hj
  rw [Nat.zero_add, cell_of_row w g j _ _ _ h1]
  exact ⟨by rw [Array.getElem?_eq_getElem (by omega)]; rfl, frozen_of_row w g j _ _ h1⟩

theorem setCells_row {w : World} {g : Nat} (h : IsD w g) {d : List UInt8} (hd : d.length = 32) : w.setCells g 0 (bytesV d) = w.setRow g (bytesV d).toArray := by
  obtain ⟨old, h1, h2⟩ := h
  have hs : (bytesV d).toArray.size = 32 := by rw [List.size_toArray, bytesV_length, hd]
  have e1 := run_storeVar_row (P := Tryd.prog) w g 26 26 old (bytesV d).toArray h1 (dg_info d hd) (h2.trans hs.symm) (bytesV_all d)
  have e2 := run_storeVar_mid (P := Tryd.prog) w g 0 26 (bytesV d).toArray (by rw [List.size_toArray]; exact IsD.there ⟨old, h1, h2⟩ d hd) (dg_info d hd) (bytesV_all d)
  rw [e1] at e2
  injection e2 with _ e2
  exact e2.symm

set_option maxRecDepth 100000 in
set_option maxHeartbeats 2000000 in
theorem pair_any (s : ByteArray) (a b : List UInt8) (w : World) (hs : s.size ≤ 34359738000) (ha : a.length = 32) (hb : b.length = 32) (hK : KOK w) :
    Calls Tryd.prog 46 #[.string s, .agg (bytesV a).toArray, .agg (bytesV b).toArray] w fun e w' => e = .returned (dgV (tagged s.data.toList (a ++ b))) ∧ Below w.heap.size w w' := by
  have hK0 := hK.pos
  obtain ⟨w3, hw3⟩ : ∃ w3, ((w.alloc (.cells (bytesV a).toArray 26)).alloc (.cells (bytesV b).toArray 26)).alloc (.cells Z32 26) = w3 := ⟨_, rfl⟩
  have hb3 : Below w.heap.size w w3 := by rw [← hw3]; exact (((Below.refl _ _).alloc (Nat.le_refl _) _).alloc (by simp) _).alloc (by simp; omega) _
  have hz3 : w3.heap.size = w.heap.size + 3 := by rw [← hw3]; simp
  have hda : DRow w3 w.heap.size a := by rw [← hw3]; exact (heap_alloc_old _ _ _ (by simp; omega)).trans ((heap_alloc_old _ _ _ (by simp)).trans (heap_alloc_new _ _))
  have hdb : DRow w3 (w.heap.size + 1) b := by
    rw [← hw3]
    refine (heap_alloc_old _ _ _ (by simp)).trans ?_
    have h := heap_alloc_new (w.alloc (.cells (bytesV a).toArray 26)) (.cells (bytesV b).toArray 26)
    simpa using h
  have hdz : w3.heap[w.heap.size + 1 + 1]? = some (.cells Z32 26 (0, 0)) := by
    rw [← hw3]
    have h := heap_alloc_new ((w.alloc (.cells (bytesV a).toArray 26)).alloc (.cells (bytesV b).toArray 26)) (.cells Z32 26)
    simpa using h
  have HB3 := Lib.hid hb3
  have HA := Lib.hid hda
  have HB := Lib.hid hdb
  have HZ := Lib.hid (IsD.new _ _ hdz)
  have HK := Lib.hid (hK.below hb3 hK0)
  have HW3 := Lib.hid hw3
  have hl := tagged_length s.data.toList (a ++ b)
  have HT := Lib.hid hl
  have HLA := Lib.hid ha
  have HLB := Lib.hid hb
  have hle3 : w.heap.size + 2 < w3.heap.size := by omega
  clear hw3 hb3 hda hdb hdz hK hl ha hb hz3
  go_enter Tryd.func46, Tryd.ntmps46
  go_wp2_with fail
  rw [HW3.out]
  obtain ⟨W4, hW4⟩ : ∃ W4, (w3.alloc (.cells #[.slice (some ⟨w.heap.size, 0, none⟩) 32 32, .slice (some ⟨w.heap.size + 1, 0, none⟩) 32 32] 22)).drew = W4 := ⟨_, rfl⟩
  have hb4 : Below w3.heap.size w3 W4 := by rw [← hW4]; exact ((Below.refl _ _).alloc (Nat.le_refl _) _).drew
  have hz4 : W4.heap.size = w3.heap.size + 1 := by rw [← hW4]; exact World.size_alloc w3 _
  have hn4 : W4.heap[w3.heap.size]? = some (.cells #[.slice (some ⟨w.heap.size, 0, none⟩) 32 32, .slice (some ⟨w.heap.size + 1, 0, none⟩) 32 32] 22 (0, 0)) := by rw [← hW4]; exact heap_alloc_new w3 _
  have HCC : Hid (Calls Tryd.prog 34 #[.slice (some ⟨w3.heap.size, 0, none⟩) 2 2] W4 (Joined W4 (a ++ b))) :=
    concat_any _ _ 32 32 32 32 (some ⟨w.heap.size, 0, none⟩) (some ⟨w.heap.size + 1, 0, none⟩) a b W4 ((HA.out.below hb4 (by omega)).rdb (by omega) HLA.out.symm) ((HB.out.below hb4 (by omega)).rdb (by omega) HLB.out.symm) (by omega) (by omega) (by omega) (cell_of_row _ _ 0 _ _ _ hn4) (cell_of_row _ _ 1 _ _ _ hn4)
  have HB4 : Hid (Below w.heap.size w3 W4) := hb4.mono (by omega)
  have HB4' := Lib.hid hb4
  have HW4 := Lib.hid hW4
  have hle4 : w3.heap.size ≤ W4.heap.size := by omega
  clear hb4 hz4 hn4 hW4
  go_region_held3 (fun w' => Below w.heap.size w3 w')
    (first | assumption | exact (Below.refl _ _).drew | (rw [HW4.out]; exact HB4.out) | exact Hb4.out.mono (by omega) | exact Hb5.out.mono (by omega) | (rw [Hs5.out]; exact below_setRow (Hb5.out.mono (by omega)) (by omega) _))
    (first
      | (go_at_call 34
         rw [HW4.out]
         with_reducible refine HCC.out.mono ?_
         rintro e w4 ⟨g4, cap4, N4, rfl, HN4, hNc4, hcm4, hO4, hb4⟩
         have Hb4 : Hid (Below w3.heap.size w3 w4) := HB4'.out.trans (hb4.mono hle4)
         have HR4 := Lib.hid (hO4.rdb (B := w4.heap.size) hO4.lt)
         clear hO4 hb4)
      | (go_at_call 14
         refine (tagged_any s _ N4 cap4 (a ++ b) w4 (by omega) HR4.out (by have h := HN4.out; rw [List.length_append, HLA.out, HLB.out] at h; omega) (HK.out.below Hb4.out (by omega))).mono ?_
         rintro e w5 ⟨rfl, hb5⟩
         have Hb5 : Hid (Below w3.heap.size w3 w5) := Hb4.out.trans (hb5.mono Hb4.out.size)
         have ht5 := (HZ.out.below Hb5.out (by omega)).there _ HT.out
         have hl5 := bytesV_one (tagged s.data.toList (a ++ b))
         have hi5 := dg_info (tagged s.data.toList (a ++ b)) HT.out
         have Hs5 : Hid (w5.setCells (w.heap.size + 1 + 1) 0 (bytesV (tagged s.data.toList (a ++ b))) = w5.setRow (w.heap.size + 1 + 1) (bytesV (tagged s.data.toList (a ++ b))).toArray) := setCells_row (HZ.out.below Hb5.out (by omega)) HT.out
         unfold dgV
         clear hb5))
  rw [Hs5.out]
  go_wp2_with fail
  exact bodyPost_ret (results_cell_row rfl _ _ _ _ _ _ _ rfl ((HZ.out.below Hb5.out (by omega)).row _) Tryd.underlying26 rfl hi5) rfl ⟨rfl, HB3.out.trans (below_setRow (Hb5.out.mono (by omega)) (by omega) _)⟩

theorem boxes2 (w : World) (a b : List UInt8) :
    DRow (((w.alloc (.cells (bytesV a).toArray 26)).alloc (.cells (bytesV b).toArray 26)).alloc (.cells Z32 26)) w.heap.size a ∧
    DRow (((w.alloc (.cells (bytesV a).toArray 26)).alloc (.cells (bytesV b).toArray 26)).alloc (.cells Z32 26)) (w.heap.size + 1) b ∧
    (((w.alloc (.cells (bytesV a).toArray 26)).alloc (.cells (bytesV b).toArray 26)).alloc (.cells Z32 26)).heap[w.heap.size + 1 + 1]? = some (.cells Z32 26 (0, 0)) ∧
    Below w.heap.size w (((w.alloc (.cells (bytesV a).toArray 26)).alloc (.cells (bytesV b).toArray 26)).alloc (.cells Z32 26)) ∧
    (((w.alloc (.cells (bytesV a).toArray 26)).alloc (.cells (bytesV b).toArray 26)).alloc (.cells Z32 26)).heap.size = w.heap.size + 3 := by
  refine ⟨(heap_alloc_old _ _ _ (by simp; omega)).trans ((heap_alloc_old _ _ _ (by simp)).trans (heap_alloc_new _ _)), ?_, ?_, (((Below.refl _ _).alloc (Nat.le_refl _) _).alloc (by simp) _).alloc (by simp; omega) _, by simp⟩
  · refine (heap_alloc_old _ _ _ (by simp)).trans ?_
    have h := heap_alloc_new (w.alloc (.cells (bytesV a).toArray 26)) (.cells (bytesV b).toArray 26)
    simpa using h
  · have h := heap_alloc_new ((w.alloc (.cells (bytesV a).toArray 26)).alloc (.cells (bytesV b).toArray 26)) (.cells Z32 26)
    simpa using h

set_option maxRecDepth 100000 in
set_option maxHeartbeats 1000000 in
theorem node_any (a b : List UInt8) (w : World) (ha : a.length = 32) (hb : b.length = 32) (hK : KOK w) :
    Calls Tryd.prog 37 #[dgV a, dgV b] w fun e w' => e = .returned (dgV (tagged [110, 111, 100, 101] (a ++ b))) ∧ Below w.heap.size w w' := by
  unfold dgV
  have hK0 := hK.pos
  obtain ⟨w3, hw3⟩ : ∃ w3, ((w.alloc (.cells (bytesV a).toArray 26)).alloc (.cells (bytesV b).toArray 26)).alloc (.cells Z32 26) = w3 := ⟨_, rfl⟩
  have HX := boxes2 w a b
  obtain ⟨hda, hdb, hdz, hb3, hz3⟩ := boxes2 w a b
  have HA := Lib.hid hda
  have HB := Lib.hid hdb
  have HI1 := Lib.hid (dg_info a ha)
  have HI2 := Lib.hid (dg_info b hb)
  have HI3 := Lib.hid (dg_info (tagged [110, 111, 100, 101] (a ++ b)) (tagged_length _ _))
  rw [hw3] at hdz hb3 hz3
  have HZ := Lib.hid (IsD.new _ _ hdz)
  have HB3 := Lib.hid hb3
  have HK := Lib.hid (hK.below hb3 hK0)
  have HW3 := Lib.hid hw3
  have HLA := Lib.hid ha
  have HLB := Lib.hid hb
  have HT := Lib.hid (tagged_length [110, 111, 100, 101] (a ++ b))
  clear HX hda hdb hdz hb3 hw3 ha hb hK
  go_enter Tryd.func37, Tryd.ntmps37
  go_wp2_with (first
    | (refine wpList_load_row rfl 26 _ rfl _ rfl _ _ _ _ HA.out Tryd.underlying26 rfl HI1.out ?_)
    | (refine wpList_load_row rfl 26 _ rfl _ rfl _ _ _ _ HB.out Tryd.underlying26 rfl HI2.out ?_))
  rw [HW3.out]
  refine (pair_any ⟨#[110, 111, 100, 101]⟩ a b w3 (by show (4 : Nat) ≤ _; omega) HLA.out HLB.out HK.out).mono ?_
  rintro e w4 ⟨rfl, hb4⟩
  obtain ⟨old, ho1, ho2⟩ := HZ.out.below hb4 (by omega)
  have HO := Lib.hid ho1
  have HB4 := Lib.hid (HB3.out.trans (hb4.mono (by omega)))
  have HOS := Lib.hid ho2
  clear hb4 ho1 ho2 hz3
  unfold dgV
  go_wp2_with (refine wpList_store_row rfl 26 _ _ rfl _ _ rfl rfl _ _ HO.out HI3.out (by rw [HOS.out, List.size_toArray, bytesV_length, HT.out]) (bytesV_all _) ?_)
  exact bodyPost_ret (results_cell_row rfl _ _ _ _ _ _ _ rfl (setRow_heap _ _ _ _ _ _ HO.out) Tryd.underlying26 rfl HI3.out) rfl ⟨rfl, below_setRow HB4.out (by omega) _⟩

set_option maxRecDepth 100000 in
set_option maxHeartbeats 1000000 in
theorem chain_any (a b : List UInt8) (w : World) (ha : a.length = 32) (hb : b.length = 32) (hK : KOK w) :
    Calls Tryd.prog 25 #[dgV a, dgV b] w fun e w' => e = .returned (dgV (tagged [99, 104, 97, 105, 110] (a ++ b))) ∧ Below w.heap.size w w' := by
  unfold dgV
  have hK0 := hK.pos
  obtain ⟨w3, hw3⟩ : ∃ w3, ((w.alloc (.cells (bytesV a).toArray 26)).alloc (.cells (bytesV b).toArray 26)).alloc (.cells Z32 26) = w3 := ⟨_, rfl⟩
  have HX := boxes2 w a b
  obtain ⟨hda, hdb, hdz, hb3, hz3⟩ := boxes2 w a b
  have HA := Lib.hid hda
  have HB := Lib.hid hdb
  have HI1 := Lib.hid (dg_info a ha)
  have HI2 := Lib.hid (dg_info b hb)
  have HI3 := Lib.hid (dg_info (tagged [99, 104, 97, 105, 110] (a ++ b)) (tagged_length _ _))
  rw [hw3] at hdz hb3 hz3
  have HZ := Lib.hid (IsD.new _ _ hdz)
  have HB3 := Lib.hid hb3
  have HK := Lib.hid (hK.below hb3 hK0)
  have HW3 := Lib.hid hw3
  have HLA := Lib.hid ha
  have HLB := Lib.hid hb
  have HT := Lib.hid (tagged_length [99, 104, 97, 105, 110] (a ++ b))
  clear HX hda hdb hdz hb3 hw3 ha hb hK
  go_enter Tryd.func25, Tryd.ntmps25
  go_wp2_with (first
    | (refine wpList_load_row rfl 26 _ rfl _ rfl _ _ _ _ HA.out Tryd.underlying26 rfl HI1.out ?_)
    | (refine wpList_load_row rfl 26 _ rfl _ rfl _ _ _ _ HB.out Tryd.underlying26 rfl HI2.out ?_))
  rw [HW3.out]
  refine (pair_any ⟨#[99, 104, 97, 105, 110]⟩ a b w3 (by show (5 : Nat) ≤ _; omega) HLA.out HLB.out HK.out).mono ?_
  rintro e w4 ⟨rfl, hb4⟩
  obtain ⟨old, ho1, ho2⟩ := HZ.out.below hb4 (by omega)
  have HO := Lib.hid ho1
  have HB4 := Lib.hid (HB3.out.trans (hb4.mono (by omega)))
  have HOS := Lib.hid ho2
  clear hb4 ho1 ho2 hz3
  unfold dgV
  go_wp2_with (refine wpList_store_row rfl 26 _ _ rfl _ _ rfl rfl _ _ HO.out HI3.out (by rw [HOS.out, List.size_toArray, bytesV_length, HT.out]) (bytesV_all _) ?_)
  exact bodyPost_ret (results_cell_row rfl _ _ _ _ _ _ _ rfl (setRow_heap _ _ _ _ _ _ HO.out) Tryd.underlying26 rfl HI3.out) rfl ⟨rfl, below_setRow HB4.out (by omega) _⟩

set_option maxRecDepth 100000 in
set_option maxHeartbeats 1000000 in
theorem leaf_any (a : List UInt8) (w : World) (ha : a.length = 32) (hK : KOK w) :
    Calls Tryd.prog 35 #[dgV a] w fun e w' => e = .returned (dgV (tagged [108, 101, 97, 102] a)) ∧ Below w.heap.size w w' := by
  unfold dgV
  have hK0 := hK.pos
  obtain ⟨w3, hw3⟩ : ∃ w3, (w.alloc (.cells (bytesV a).toArray 26)).alloc (.cells Z32 26) = w3 := ⟨_, rfl⟩
  have hb3 : Below w.heap.size w w3 := by rw [← hw3]; exact ((Below.refl _ _).alloc (Nat.le_refl _) _).alloc (by simp) _
  have hz3 : w3.heap.size = w.heap.size + 2 := by rw [← hw3]; simp
  have hda : DRow w3 w.heap.size a := by rw [← hw3]; exact (heap_alloc_old _ _ _ (by simp)).trans (heap_alloc_new _ _)
  have hdz : w3.heap[w.heap.size + 1]? = some (.cells Z32 26 (0, 0)) := by
    rw [← hw3]
    have h := heap_alloc_new (w.alloc (.cells (bytesV a).toArray 26)) (.cells Z32 26)
    simpa using h
  have HR := Lib.hid (hda.rdb (B := w3.heap.size) (by omega) ha.symm)
  have HI3 := Lib.hid (dg_info (tagged [108, 101, 97, 102] a) (tagged_length _ _))
  have HZ := Lib.hid (IsD.new _ _ hdz)
  have HB3 := Lib.hid hb3
  have HK := Lib.hid (hK.below hb3 hK0)
  have HW3 := Lib.hid hw3
  have HT := Lib.hid (tagged_length [108, 101, 97, 102] a)
  clear hda hdz hb3 hw3 ha hK
  go_enter Tryd.func35, Tryd.ntmps35
  go_wp2_with fail
  rw [HW3.out]
  refine (tagged_any ⟨#[108, 101, 97, 102]⟩ _ 32 32 a w3 (by show (4 : Nat) ≤ _; omega) HR.out (by omega) HK.out).mono ?_
  rintro e w4 ⟨rfl, hb4⟩
  obtain ⟨old, ho1, ho2⟩ := HZ.out.below hb4 (by omega)
  have HO := Lib.hid ho1
  have HB4 := Lib.hid (HB3.out.trans (hb4.mono (by omega)))
  have HOS := Lib.hid ho2
  clear hb4 ho1 ho2 hz3
  unfold dgV
  go_wp2_with (refine wpList_store_row rfl 26 _ _ rfl _ _ rfl rfl _ _ HO.out HI3.out (by rw [HOS.out, List.size_toArray, bytesV_length, HT.out]) (bytesV_all _) ?_)
  exact bodyPost_ret (results_cell_row rfl _ _ _ _ _ _ _ rfl (setRow_heap _ _ _ _ _ _ HO.out) Tryd.underlying26 rfl HI3.out) rfl ⟨rfl, below_setRow HB4.out (by omega) _⟩
end Go.Proofs.YtfolmglafnfcbaaDoor
