/- Contract of Tree. -/
import Derived.Test.YtfolmglafnfcbaaDoorPair
import Derived.Test.YtfolmglafnfcbaaDoorTreeM
namespace Go.Proofs.YtfolmglafnfcbaaDoor
open Go.RowKit

/-- a list of digests that can be read below block B -/
def RdD (w : World) (B : Nat) (A : Option Addr) (n : Nat) (ds : List D) : Prop :=
  n = ds.length ∧ (∀ d ∈ ds, d.length = 32) ∧ (0 < n → ∃ b o, A = some ⟨b, o, none⟩ ∧ b < B ∧ ∀ (j : Nat) (d : D), ds[j]? = some d → w.rangeAt b (o + j * 32) (bytesV d))
theorem RdD.keep {w w' : World} {B B' n : Nat} {A : Option Addr} {ds : List D} (h : RdD w B A n ds) (hB : B ≤ B') (hk : ∀ p : Addr, p.block < B → w'.cell? p = w.cell? p) : RdD w' B' A n ds :=
  ⟨h.1, h.2.1, fun hn => by
    obtain ⟨b, o, e, hb, hc⟩ := h.2.2 hn
    exact ⟨b, o, e, by omega, fun j d hd i v hv => (hk _ hb).trans (hc j d hd i v hv)⟩⟩
theorem RdD.below {w w' : World} {B B' n : Nat} {A : Option Addr} {ds : List D} (h : RdD w B A n ds) (hb : Below B w w') (hB : B ≤ B') : RdD w' B' A n ds := h.keep hB fun _ hp => hb.cell hp
theorem RdD.take {w : World} {B n m : Nat} {A : Option Addr} {ds : List D} (h : RdD w B A n ds) (hm : m ≤ n) : RdD w B A m (ds.take m) := by
  refine ⟨by rw [List.length_take, ← h.1]; omega, fun d hd => h.2.1 d (List.mem_of_mem_take hd), fun hn => ?_⟩
  obtain ⟨b, o, e, hb, hc⟩ := h.2.2 (by omega)
  refine ⟨b, o, e, hb, fun j d hd => hc j d ?_⟩
  rw [List.getElem?_take] at hd
  split at hd
  · exact hd
  · cases hd
theorem RdD.drop {w : World} {B n m : Nat} {A : Option Addr} {ds : List D} (h : RdD w B A n ds) (hm : m ≤ n) : RdD w B (A.map (·.add (m * 32))) (n - m) (ds.drop m) := by
  refine ⟨by rw [List.length_drop, ← h.1], fun d hd => h.2.1 d (List.mem_of_mem_drop hd), fun hn => ?_⟩
  obtain ⟨b, o, e, hb, hc⟩ := h.2.2 (by omega)
  subst e
  refine ⟨b, o + m * 32, by simp [add_lit'], hb, fun j d hd => ?_⟩
  rw [List.getElem?_drop] at hd
  have := hc _ d hd
  rw [Nat.add_mul, ← Nat.add_assoc] at this
  exact this
theorem RdD.nil (w : World) (B : Nat) (A : Option Addr) : RdD w B A 0 [] := ⟨rfl, (fun d hd => by simp at hd), (fun h => absurd h (by omega))⟩

set_option maxRecDepth 100000 in
set_option maxHeartbeats 1000000 in
theorem tree0_any (A : Option Addr) (c : Nat) (w : World) (hK : KOK w) : Calls Tryd.prog 17 #[.slice A 0 c] w fun e w' => e = .returned (dgV (tree [])) ∧ Below w.heap.size w w' := by
  have hK0 := hK.pos
  rw [tree_nil]
  obtain ⟨w0, hw0⟩ : ∃ w0, w.alloc (.cells Z32 26) = w0 := ⟨_, rfl⟩
  have hb0 : Below w.heap.size w w0 := by rw [← hw0]; exact (Below.refl _ _).alloc (Nat.le_refl _) _
  have hz0 : w0.heap.size = w.heap.size + 1 := by rw [← hw0]; simp
  have hd0 : w0.heap[w.heap.size]? = some (.cells Z32 26 (0, 0)) := by rw [← hw0]; exact heap_alloc_new _ _
  have HD0 := Lib.hid hd0
  have HB0 := Lib.hid hb0
  have HW0 := Lib.hid hw0
  have HK := Lib.hid (hK.below hb0 hK0)
  have HI := Lib.hid (dg_info (tagged [101, 109, 112, 116, 121] []) (tagged_length _ _))
  clear hw0 hb0 hd0 hK
  go_enter Tryd.func17, Tryd.ntmps17
  go_wp2_with fail
  rw [HW0.out]
  refine (tagged_any ⟨#[101, 109, 112, 116, 121]⟩ none 0 0 [] w0 (by show (5 : Nat) ≤ _; omega) ⟨rfl, fun h => by omega⟩ (by omega) HK.out).mono ?_
  rintro e w1 ⟨rfl, hb1⟩
  have HD1 : Hid (w1.heap[w.heap.size]? = some (.cells Z32 26 (0, 0))) := (hb1.block _ (by omega)).trans HD0.out
  have HB1 := Lib.hid (HB0.out.trans (hb1.mono (by omega)))
  clear hb1
  unfold dgV
  go_wp2_with (refine wpList_store_row rfl 26 _ _ rfl _ _ rfl rfl _ _ HD1.out HI.out (z32_size _ (tagged_length _ _)) (bytesV_all _) ?_)
  exact bodyPost_ret (results_cell_row rfl _ _ _ _ _ _ _ rfl (setRow_heap _ _ _ _ _ _ HD1.out) Tryd.underlying26 rfl HI.out) rfl ⟨rfl, below_setRow HB1.out (Nat.le_refl _) _⟩

set_option maxRecDepth 100000 in
set_option maxHeartbeats 1000000 in
theorem tree1_any (b o c : Nat) (d : D) (w : World) (hd : d.length = 32) (hr : w.rangeAt b o (bytesV d)) (hK : KOK w) : Calls Tryd.prog 17 #[.slice (some ⟨b, o, none⟩) 1 c] w fun e w' => e = .returned (dgV (tree [d])) ∧ Below w.heap.size w w' := by
  have hK0 := hK.pos
  rw [tree_one]
  obtain ⟨w0, hw0⟩ : ∃ w0, w.alloc (.cells Z32 26) = w0 := ⟨_, rfl⟩
  have hb0 : Below w.heap.size w w0 := by rw [← hw0]; exact (Below.refl _ _).alloc (Nat.le_refl _) _
  have hz0 : w0.heap.size = w.heap.size + 1 := by rw [← hw0]; simp
  have hd0 : w0.heap[w.heap.size]? = some (.cells Z32 26 (0, 0)) := by rw [← hw0]; exact heap_alloc_new _ _
  have HD0 := Lib.hid hd0
  have HB0 := Lib.hid hb0
  have HW0 := Lib.hid hw0
  have HK := Lib.hid (hK.below hb0 hK0)
  have HR : Hid ((w.alloc (.cells Z32 26)).rangeAt b o (bytesV d)) := World.rangeAt_alloc hr _
  have hli : (Tryd.prog.info? 26).map (·.size) = some (bytesV d).length := by rw [bytesV_length, hd]; kernel_rfl
  have HLI := Lib.hid hli
  have HI := Lib.hid (dg_info (tagged [108, 101, 97, 102] d) (tagged_length _ _))
  have HLD := Lib.hid hd
  clear hw0 hb0 hd0 hK hr hli hd
  go_enter Tryd.func17, Tryd.ntmps17
  go_wp2_with (refine wpList_load_mid rfl 26 _ rfl b o rfl _ _ HR.out Tryd.underlying26 rfl HLI.out ?_)
  rw [HW0.out]
  refine (leaf_any d w0 HLD.out HK.out).mono ?_
  rintro e w1 ⟨rfl, hb1⟩
  have HD1 : Hid (w1.heap[w.heap.size]? = some (.cells Z32 26 (0, 0))) := (hb1.block _ (by omega)).trans HD0.out
  have HB1 := Lib.hid (HB0.out.trans (hb1.mono (by omega)))
  clear hb1
  unfold dgV
  go_wp2_with (refine wpList_store_row rfl 26 _ _ rfl _ _ rfl rfl _ _ HD1.out HI.out (z32_size _ (tagged_length _ _)) (bytesV_all _) ?_)
  exact bodyPost_ret (results_cell_row rfl _ _ _ _ _ _ _ rfl (setRow_heap _ _ _ _ _ _ HD1.out) Tryd.underlying26 rfl HI.out) rfl ⟨rfl, below_setRow HB1.out (Nat.le_refl _) _⟩

/-- what a contract of Tree says of lists up to a length -/
def TreeOk (f : Nat) : Prop := ∀ (A : Option Addr) (n c : Nat) (ds : List D) (w : World), RdD w w.heap.size A n ds → n ≤ f → n ≤ 1073741824 → n ≤ c → c ≤ maxLen → KOK w →
  Calls Tryd.prog 17 #[.slice A n c] w fun e w' => e = .returned (dgV (tree ds)) ∧ Below w.heap.size w w'

set_option maxRecDepth 100000 in
set_option maxHeartbeats 2000000 in
theorem treeStep (f : Nat) (ih : TreeOk f) (A : Option Addr) (n c : Nat) (ds : List D) (w : World) (hr : RdD w w.heap.size A n ds) (h2 : 2 ≤ n) (hf : n ≤ f + 1) (hn : n ≤ 1073741824) (hc : n ≤ c) (hcm : c ≤ maxLen) (hK : KOK w) :
    Calls Tryd.prog 17 #[.slice A n c] w fun e w' => e = .returned (dgV (tree ds)) ∧ Below w.heap.size w w' := by
  have hK0 := hK.pos
  have hl := hr.1
  have a1 := half_lt n h2 (by omega)
  have a2 := half_pos n
  obtain ⟨h, hh⟩ : ∃ h, h = half n := ⟨_, rfl⟩
  have HH := Lib.hid hh
  rw [← hh] at a1 a2
  have hcc : ¬ c = h := by omega
  have i0 : (0 : Int) ≤ (h : Int) := by omega
  have i1 : (h : Int) ≤ (n : Int) := by omega
  have i2 : (h : Int) ≤ (c : Int) := by omega
  have i3 : (n : Int) ≤ (c : Int) := by omega
  have hne0 : ((n : Int) == 0) = false := by rw [beq_eq_false_iff_ne]; omega
  have hne1 : ((n : Int) == 1) = false := by rw [beq_eq_false_iff_ne]; omega
  obtain ⟨w0, hw0⟩ : ∃ w0, w.alloc (.cells Z32 26) = w0 := ⟨_, rfl⟩
  have hb0 : Below w.heap.size w w0 := by rw [← hw0]; exact (Below.refl _ _).alloc (Nat.le_refl _) _
  have hz0 : w0.heap.size = w.heap.size + 1 := by rw [← hw0]; simp
  have hd0 : w0.heap[w.heap.size]? = some (.cells Z32 26 (0, 0)) := by rw [← hw0]; exact heap_alloc_new _ _
  have hK0' := hK.below hb0 hK0
  have hr0 := hr.below hb0 (Nat.le_refl _)
  have HT : Hid (tree ds = tagged [110, 111, 100, 101] (tree (ds.take h) ++ tree (ds.drop h))) := by
    have e := tree_node ds (by omega) (by omega)
    rw [← hl, ← hh] at e
    exact e
  have HCL : Hid (∀ w', Below w0.heap.size w0 w' → Calls Tryd.prog 17 #[.slice A h c] w' fun e w'' => e = .returned (dgV (tree (ds.take h))) ∧ Hid (Below w0.heap.size w0 w'')) := fun w' hb =>
    (ih A h c (ds.take h) w' ((hr0.take (by omega)).keep (by have := hb.size; omega) fun p hp => hb.cell (by omega)) (by omega) (by omega) (by omega) hcm (hK0'.below hb (by omega))).mono fun _ _ ⟨e, k⟩ => ⟨e, hb.trans (k.mono hb.size)⟩
  have HCR : Hid (∀ w', Below w0.heap.size w0 w' → Calls Tryd.prog 17 #[.slice (A.map (·.add (h * 32))) (n - h) (c - h)] w' fun e w'' => e = .returned (dgV (tree (ds.drop h))) ∧ Hid (Below w0.heap.size w0 w'')) := fun w' hb =>
    (ih _ (n - h) (c - h) (ds.drop h) w' ((hr0.drop (by omega)).keep (by have := hb.size; omega) fun p hp => hb.cell (by omega)) (by omega) (by omega) (by omega) (by omega) (hK0'.below hb (by omega))).mono fun _ _ ⟨e, k⟩ => ⟨e, hb.trans (k.mono hb.size)⟩
  have HCN : Hid (∀ w', Below w0.heap.size w0 w' → Calls Tryd.prog 37 #[dgV (tree (ds.take h)), dgV (tree (ds.drop h))] w' fun e w'' => e = .returned (dgV (tree ds)) ∧ Hid (Below w0.heap.size w0 w'')) := fun w' hb =>
    (node_any _ _ w' (tree_length _) (tree_length _) (hK0'.below hb (by omega))).mono fun _ _ ⟨e, k⟩ => ⟨by rw [HT.out]; exact e, hb.trans (k.mono hb.size)⟩
  have HD0 := Lib.hid (IsD.new _ _ hd0)
  have HB0 := Lib.hid hb0
  have HW0 := Lib.hid hw0
  have HI := Lib.hid (dg_info (tree ds) (tree_length _))
  clear hw0 hb0 hd0 hK hK0' hr hr0 hl hh
  go_enter Tryd.func17, Tryd.ntmps17
  go_wp2_with fail
  rw [HW0.out]
  refine (split_any n w0 h2 (by omega)).mono ?_
  rintro e w' ⟨rfl, rfl⟩
  rw [← HH.out]
  go_wp2_with fail
  go_region_held3 (fun w' => Below w.heap.size w0 w')
    (first | assumption | exact (Below.refl _ _).drew | exact HSL.out.mono (by omega) | exact HSR.out.mono (by omega) | exact HSN.out.mono (by omega) | (rw [Hs5.out]; exact below_setRow (HSN.out.mono (by omega)) (Nat.le_refl _) _))
    (first
      | (go_at_call 17; with_reducible refine (HCL.out _ (by first | exact HSR.out | exact (Below.refl _ _).drew)).mono ?_; rintro e wL ⟨rfl, HSL⟩)
      | (go_at_call 17; with_reducible refine (HCR.out _ (by first | exact HSL.out | exact (Below.refl _ _).drew)).mono ?_; rintro e wR ⟨rfl, HSR⟩)
      | (go_at_call 37; with_reducible refine (HCN.out _ (by first | exact HSR.out | exact HSL.out)).mono ?_; rintro e wN ⟨rfl, HSN⟩
         have ht5 := (HD0.out.below HSN.out (by omega)).there _ (tree_length ds)
         have hl5 := bytesV_one (tree ds)
         have hi5 := HI.out
         have Hs5 : Hid (wN.setCells w.heap.size 0 (bytesV (tree ds)) = wN.setRow w.heap.size (bytesV (tree ds)).toArray) := setCells_row (HD0.out.below HSN.out (by omega)) (tree_length ds)
         unfold dgV))
  rw [Hs5.out]
  go_wp2_with fail
  exact bodyPost_ret (results_cell_row rfl _ _ _ _ _ _ _ rfl ((HD0.out.below HSN.out (by omega)).row _) Tryd.underlying26 rfl hi5) rfl ⟨rfl, HB0.out.trans (below_setRow (HSN.out.mono (by omega)) (Nat.le_refl _) _)⟩

theorem treeOk : ∀ f, TreeOk f
  | 0 => by
    intro A n c ds w hr hf hn hc hcm hK
    have e : n = 0 := by omega
    subst e
    have e : ds = [] := List.eq_nil_of_length_eq_zero hr.1.symm
    subst e
    exact tree0_any A c w hK
  | f + 1 => by
    intro A n c ds w hr hf hn hc hcm hK
    by_cases h0 : n = 0
    · exact treeOk f A n c ds w hr (by omega) hn hc hcm hK
    · by_cases h1 : n = 1
      · subst h1
        obtain ⟨d, rfl⟩ : ∃ d, ds = [d] := by
          have hl := hr.1
          match ds, hl with
          | [d], _ => exact ⟨d, rfl⟩
        obtain ⟨b, o, rfl, _, hcell⟩ := hr.2.2 (by omega)
        exact tree1_any b o c d w (hr.2.1 d (by simp)) (by simpa using hcell 0 d rfl) hK
      · exact treeStep f (treeOk f) A n c ds w hr (by omega) hf hn hc hcm hK
theorem tree_any (A : Option Addr) (n c : Nat) (ds : List D) (w : World) (hr : RdD w w.heap.size A n ds) (hn : n ≤ 1073741824) (hc : n ≤ c) (hcm : c ≤ maxLen) (hK : KOK w) :
    Calls Tryd.prog 17 #[.slice A n c] w fun e w' => e = .returned (dgV (tree ds)) ∧ Below w.heap.size w w' := treeOk n A n c ds w hr (Nat.le_refl _) hn hc hcm hK
end Go.Proofs.YtfolmglafnfcbaaDoor
