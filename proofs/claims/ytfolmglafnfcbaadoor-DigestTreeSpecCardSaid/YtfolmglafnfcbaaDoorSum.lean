/- Contract of Sum. -/
import Derived.Test.YtfolmglafnfcbaaDoorForBlocks
import Derived.Test.YtfolmglafnfcbaaDoorStBytes
namespace Go.Proofs.YtfolmglafnfcbaaDoor
open Go.RowKit

abbrev Z32 : Array Value := #[.int .u8 0, .int .u8 0, .int .u8 0, .int .u8 0, .int .u8 0, .int .u8 0, .int .u8 0, .int .u8 0, .int .u8 0, .int .u8 0, .int .u8 0, .int .u8 0, .int .u8 0, .int .u8 0, .int .u8 0, .int .u8 0, .int .u8 0, .int .u8 0, .int .u8 0, .int .u8 0, .int .u8 0, .int .u8 0, .int .u8 0, .int .u8 0, .int .u8 0, .int .u8 0, .int .u8 0, .int .u8 0, .int .u8 0, .int .u8 0, .int .u8 0, .int .u8 0]
theorem z32_size (d : List UInt8) (hd : d.length = 32) : Z32.size = (bytesV d).toArray.size := by
  have h : (bytesV d).toArray.size = 32 := by rw [List.size_toArray, bytesV_length, hd]
  exact (show Z32.size = 32 from rfl).trans h.symm

theorem RdB.dropO {w : World} {B n m : Nat} {A : Option Addr} {xs : List UInt8} (h : RdB w B A n xs) (hm : m ≤ n) : RdB w B (A.map (·.add m)) (n - m) (xs.drop m) := by
  refine ⟨by rw [List.length_drop, ← h.1], fun hn => ?_⟩
  obtain ⟨b, o, e, hb, hc⟩ := h.2 (by omega)
  subst e
  refine ⟨b, o + m, by simp [add_lit'], hb, fun j u hu => ?_⟩
  rw [List.getElem?_drop] at hu
  rw [Nat.add_assoc]
  exact hc _ u hu
theorem RdB.empty {w : World} {B n m : Nat} {A : Option Addr} {xs : List UInt8} (hn : n = 0) (hx : xs.length ≤ m) : RdB w B A n (xs.drop m) :=
  ⟨by rw [List.length_drop]; omega, fun h => by omega⟩

set_option maxRecDepth 100000 in
set_option maxHeartbeats 1000000 in
theorem sum_core (A : Option Addr) (n k c : Nat) (bs : List UInt8) (w : World) (hr : RdB w w.heap.size A n bs) (hc : n ≤ c) (hcm : c ≤ maxLen) (hn : n ≤ 1152921504606846975) (hK : KOK w) (hk : Hid (n - n % 64 = 64 * k)) (hcase : ¬ c = n - n % 64) :
    Calls Tryd.prog 12 #[.slice A n c] w fun e w' => e = .returned (dgV (sha bs)) ∧ Below w.heap.size w w' := by
  have hK0 := hK.pos
  obtain ⟨w0, hw0⟩ : ∃ w0, w.alloc (.cells Z32 26) = w0 := ⟨_, rfl⟩
  have hb0 : Below w.heap.size w w0 := by rw [← hw0]; exact (Below.refl _ _).alloc (Nat.le_refl _) _
  have hz0 : w0.heap.size = w.heap.size + 1 := by rw [← hw0]; simp
  have hd0 : w0.heap[w.heap.size]? = some (.cells Z32 26 (0, 0)) := by rw [← hw0]; exact heap_alloc_new _ _
  have HD0 := Lib.hid hd0
  have HR := Lib.hid (hr.below hb0 (Nat.le_refl _))
  have HK := Lib.hid (hK.below hb0 hK0)
  have HB0 := Lib.hid hb0
  have HW0 := Lib.hid hw0
  clear hr hK hd0 hb0 hw0
  have HI8 := Lib.hid (row_info (t := 51) (n := 8) st0.list rfl (by kernel_rfl))
  have HI32 := Lib.hid (dg_info (sha bs) (sha_length bs))
  go_enter Tryd.func12, Tryd.ntmps12
  go_wp2_with fail
  rw [HW0.out]
  refine (beginning_any _).mono ?_
  rintro e w1 ⟨rfl, hb1⟩
  have hz1 := hb1.size
  have HB1 := Lib.hid hb1
  clear hb1
  go_wp2_with (refine wpList_store_row rfl 51 _ _ rfl _ _ rfl rfl _ _ (heap_alloc_new _ _) HI8.out (by rw [rowOf_size]; rfl) (rowOf_one _) ?_; rw [World.setRow_alloc_new])
  obtain ⟨w2, hw2⟩ : ∃ w2, w1.alloc (.cells (rowOf st0.list) 51) = w2 := ⟨_, rfl⟩
  have hn2 : Below w1.heap.size w1 w2 := by rw [← hw2]; exact (Below.refl _ _).alloc (Nat.le_refl _) _
  have hz2 : w2.heap.size = w1.heap.size + 1 := by rw [← hw2]; simp
  have hS2 : WRow w2 w1.heap.size 51 st0.list := by rw [← hw2]; exact heap_alloc_new _ _
  have hB02 : Below w0.heap.size w0 w2 := HB1.out.trans (hn2.mono hz1)
  have HR2 : Hid (RdB w2 w.heap.size A n bs) := HR.out.keep (Nat.le_refl _) fun p hp => hB02.cell (by omega)
  have HK2 : Hid (KOK w2) := HK.out.below hB02 (by omega)
  have HD2 : Hid (w2.heap[w.heap.size]? = some (.cells Z32 26 (0, 0))) := (hB02.block _ (by omega)).trans HD0.out
  have HB2 : Hid (Below w.heap.size w w2) := HB0.out.trans (hB02.mono (by omega))
  have HS2 := Lib.hid hS2
  rw [hw2]
  clear hw2 hn2 hS2 hB02 HR HK HD0 HB0 HB1 HW0 HI8
  obtain ⟨r, hr⟩ : ∃ r, r = w1.heap.size := ⟨_, rfl⟩
  rw [← hr] at HS2 hz2 ⊢
  have hr1 : w.heap.size < r := by omega
  clear hr hz1
  have hle : n - n % 64 ≤ n := by omega
  have hrd2 : RdB w2 w2.heap.size A (n - n % 64) (bs.take (n - n % 64)) := (HR2.out.take (by omega)).keep (by omega) fun _ _ => rfl
  have har : ∀ b o, 0 < n → A = some ⟨b, o, none⟩ → b < w.heap.size := by
    intro b o hp e
    obtain ⟨b', o', e', hb', _⟩ := HR2.out.2 hp
    rw [e] at e'
    injection e' with e'
    injection e' with e'
    omega
  refine (forBlocks_eq r A k _ c hk.out _ st0 w2 (by omega) hcm hrd2 ?_ HS2.out st0_u HK2.out (by omega)).mono ?_
  · intro b o hp e
    have := har b o (by have := hk.out; omega) e
    omega
  rintro e w3 ⟨rfl, ht3, hs3⟩
  have hz3 := ht3.size
  have HS3 := Lib.hid hs3
  have HT3 := Lib.hid ht3
  have HK3 : Hid (KOK w3) := HK2.out.turn ht3 (by omega)
  have HR3 : Hid (RdB w3 w.heap.size A n bs) := HR2.out.keep (Nat.le_refl _) fun p hp => ht3.cell (by omega) (by omega)
  have HD3 : Hid (w3.heap[w.heap.size]? = some (.cells Z32 26 (0, 0))) := (ht3.block _ (by omega) fun e => by injection e with e; omega).trans HD2.out
  have HB3 : Hid (Below w.heap.size w w3) := HB2.out.trans ((ht3.below (B := w.heap.size) (by omega) (by omega)))
  clear hs3 ht3 hrd2 HS2 HK2 HR2 HD2 HB2
  go_wp2_with fail
  have hlen : n = bs.length := HR3.out.1
  have HLEN := Lib.hid hlen
  have hrest : (bs.drop (n - n % 64)).length = n % 64 := by rw [List.length_drop, ← hlen]; omega
  have HREST := Lib.hid hrest
  clear hlen hrest
  refine (padded_any _ _ _ n (bs.drop (n - n % 64)) w3 ?_ (by omega) hn).mono ?_
  · exact (HR3.out.dropO (by omega)).keep (by omega) fun _ _ => rfl
  rintro e w4 ⟨g, N, rfl, HN, hBR, hg, hb4⟩
  have hz4 := hb4.size
  have hps := padSize_64 (bs.drop (n - n % 64)).length
  rw [← HN.out] at hps
  have hNle : N ≤ 128 := by
    have h := HN.out
    unfold padSize at h
    split at h <;> omega
  have HS4 : Hid (WRow w4 r 51 (runTo (bs.take (n - n % 64)) st0 k).list) := HS3.out.below hb4 (by omega)
  have HK4 : Hid (KOK w4) := HK3.out.below hb4 (by omega)
  have HD4 : Hid (w4.heap[w.heap.size]? = some (.cells Z32 26 (0, 0))) := (hb4.block _ (by omega)).trans HD3.out
  have HB4 : Hid (Below w.heap.size w w4) := HB3.out.trans (hb4.mono (by omega))
  have HBR := Lib.hid hBR
  have hgl := hBR.lt
  have HPS := Lib.hid hps
  clear hBR hb4 hps HS3 HT3 HK3 HR3 HD3 HB3 hcase
  go_wp2_with fail
  have hN : N = 64 * (N / 64) := by have := HPS.out; omega
  have HNN := Lib.hid hN
  clear hN
  refine (forBlocks_eq r (some ⟨g, 0, none⟩) (N / 64) N N HNN.out (padTail (bs.drop (n - n % 64)) n) (runTo (bs.take (n - n % 64)) st0 k) w4 (Nat.le_refl _) (by unfold maxLen; omega)
    (HBR.out.rdb hgl (by rw [padTail_length _ _ (by rw [HREST.out]; omega)]; exact HN.out)) ?_ HS4.out (runTo_u _ st0_u _) HK4.out (by omega)).mono ?_
  · intro b o _ e
    injection e with e
    injection e with e
    omega
  rintro e w5 ⟨rfl, ht5, hs5⟩
  have hz5 := ht5.size
  have HS5 := Lib.hid hs5
  have HD5 : Hid (w5.heap[w.heap.size]? = some (.cells Z32 26 (0, 0))) := (ht5.block _ (by omega) fun e => by injection e with e; omega).trans HD4.out
  have HB5 : Hid (Below w.heap.size w w5) := HB4.out.trans ((ht5.below (B := w.heap.size) (by omega) (by omega)))
  clear hs5 ht5 HS4 HK4 HD4 HB4 HBR
  go_wp2_with fail
  refine (digest_any r _ w5 HS5.out (runTo_u _ (runTo_u _ st0_u _) _)).mono ?_
  rintro e w6 ⟨rfl, hb6⟩
  have hz6 := hb6.size
  have hsha : stBytes (runTo (padTail (bs.drop (n - n % 64)) n) (runTo (bs.take (n - n % 64)) st0 k) (N / 64)) = sha bs := by
    have h := sha_parts bs k (by rw [← HLEN.out]; exact hk.out)
    rw [h, ← HLEN.out, ← hk.out, HN.out, HREST.out, show n - (n - n % 64) = n % 64 by omega]
  rw [hsha]
  have HD6 : Hid (w6.heap[w.heap.size]? = some (.cells Z32 26 (0, 0))) := (hb6.block _ (by omega)).trans HD5.out
  have HB6 : Hid (Below w.heap.size w w6) := HB5.out.trans (hb6.mono (by omega))
  clear hb6 HS5 HD5 HB5 hsha
  unfold dgV
  go_wp2_with (refine wpList_store_row rfl 26 _ _ rfl _ _ rfl rfl _ _ HD6.out HI32.out (z32_size _ (sha_length bs)) (bytesV_all _) ?_)
  exact bodyPost_ret (results_cell_row rfl _ _ _ _ _ _ _ rfl (setRow_heap _ _ _ _ _ _ HD6.out) Tryd.underlying26 rfl HI32.out) rfl ⟨rfl, below_setRow HB6.out (Nat.le_refl _) _⟩

set_option maxRecDepth 100000 in
set_option maxHeartbeats 1000000 in
theorem sum_full (A : Option Addr) (n k : Nat) (bs : List UInt8) (w : World) (hr : RdB w w.heap.size A n bs) (hcm : n ≤ maxLen) (hn : n ≤ 1152921504606846975) (hK : KOK w) (hk : Hid (n = 64 * k)) (hcase : (n : Int) % 64 = 0) :
    Calls Tryd.prog 12 #[.slice A n n] w fun e w' => e = .returned (dgV (sha bs)) ∧ Below w.heap.size w w' := by
  have hK0 := hK.pos
  obtain ⟨w0, hw0⟩ : ∃ w0, w.alloc (.cells Z32 26) = w0 := ⟨_, rfl⟩
  have hb0 : Below w.heap.size w w0 := by rw [← hw0]; exact (Below.refl _ _).alloc (Nat.le_refl _) _
  have hz0 : w0.heap.size = w.heap.size + 1 := by rw [← hw0]; simp
  have hd0 : w0.heap[w.heap.size]? = some (.cells Z32 26 (0, 0)) := by rw [← hw0]; exact heap_alloc_new _ _
  have HD0 := Lib.hid hd0
  have HR := Lib.hid (hr.below hb0 (Nat.le_refl _))
  have HK := Lib.hid (hK.below hb0 hK0)
  have HB0 := Lib.hid hb0
  have HW0 := Lib.hid hw0
  clear hr hK hd0 hb0 hw0
  have HI8 := Lib.hid (row_info (t := 51) (n := 8) st0.list rfl (by kernel_rfl))
  have HI32 := Lib.hid (dg_info (sha bs) (sha_length bs))
  go_enter Tryd.func12, Tryd.ntmps12
  go_wp2_with fail
  rw [HW0.out]
  refine (beginning_any _).mono ?_
  rintro e w1 ⟨rfl, hb1⟩
  have hz1 := hb1.size
  have HB1 := Lib.hid hb1
  clear hb1
  go_wp2_with (refine wpList_store_row rfl 51 _ _ rfl _ _ rfl rfl _ _ (heap_alloc_new _ _) HI8.out (by rw [rowOf_size]; rfl) (rowOf_one _) ?_; rw [World.setRow_alloc_new])
  obtain ⟨w2, hw2⟩ : ∃ w2, w1.alloc (.cells (rowOf st0.list) 51) = w2 := ⟨_, rfl⟩
  have hn2 : Below w1.heap.size w1 w2 := by rw [← hw2]; exact (Below.refl _ _).alloc (Nat.le_refl _) _
  have hz2 : w2.heap.size = w1.heap.size + 1 := by rw [← hw2]; simp
  have hS2 : WRow w2 w1.heap.size 51 st0.list := by rw [← hw2]; exact heap_alloc_new _ _
  have hB02 : Below w0.heap.size w0 w2 := HB1.out.trans (hn2.mono hz1)
  have HR2 : Hid (RdB w2 w.heap.size A n bs) := HR.out.keep (Nat.le_refl _) fun p hp => hB02.cell (by omega)
  have HK2 : Hid (KOK w2) := HK.out.below hB02 (by omega)
  have HD2 : Hid (w2.heap[w.heap.size]? = some (.cells Z32 26 (0, 0))) := (hB02.block _ (by omega)).trans HD0.out
  have HB2 : Hid (Below w.heap.size w w2) := HB0.out.trans (hB02.mono (by omega))
  have HS2 := Lib.hid hS2
  rw [hw2]
  clear hw2 hn2 hS2 hB02 HR HK HD0 HB0 HB1 HW0 HI8
  obtain ⟨r, hr⟩ : ∃ r, r = w1.heap.size := ⟨_, rfl⟩
  rw [← hr] at HS2 hz2 ⊢
  have hr1 : w.heap.size < r := by omega
  clear hr hz1
  have hle : n ≤ n := by omega
  have hrd2 : RdB w2 w2.heap.size A (n) (bs.take (n)) := (HR2.out.take (by omega)).keep (by omega) fun _ _ => rfl
  have har : ∀ b o, 0 < n → A = some ⟨b, o, none⟩ → b < w.heap.size := by
    intro b o hp e
    obtain ⟨b', o', e', hb', _⟩ := HR2.out.2 hp
    rw [e] at e'
    injection e' with e'
    injection e' with e'
    omega
  refine (forBlocks_eq r A k _ n hk.out _ st0 w2 (by omega) hcm hrd2 ?_ HS2.out st0_u HK2.out (by omega)).mono ?_
  · intro b o hp e
    have := har b o (by have := hk.out; omega) e
    omega
  rintro e w3 ⟨rfl, ht3, hs3⟩
  have hz3 := ht3.size
  have HS3 := Lib.hid hs3
  have HT3 := Lib.hid ht3
  have HK3 : Hid (KOK w3) := HK2.out.turn ht3 (by omega)
  have HR3 : Hid (RdB w3 w.heap.size A n bs) := HR2.out.keep (Nat.le_refl _) fun p hp => ht3.cell (by omega) (by omega)
  have HD3 : Hid (w3.heap[w.heap.size]? = some (.cells Z32 26 (0, 0))) := (ht3.block _ (by omega) fun e => by injection e with e; omega).trans HD2.out
  have HB3 : Hid (Below w.heap.size w w3) := HB2.out.trans ((ht3.below (B := w.heap.size) (by omega) (by omega)))
  clear hs3 ht3 hrd2 HS2 HK2 HR2 HD2 HB2
  go_wp2_with fail
  have hlen : n = bs.length := HR3.out.1
  have HLEN := Lib.hid hlen
  have hrest : (bs.drop (n)).length = 0 := by rw [List.length_drop, ← hlen]; omega
  have HREST := Lib.hid hrest
  clear hlen hrest
  refine (padded_any _ _ _ n (bs.drop (n)) w3 ?_ (by omega) hn).mono ?_
  · exact RdB.empty (by omega) (by rw [← HLEN.out]; omega)
  rintro e w4 ⟨g, N, rfl, HN, hBR, hg, hb4⟩
  have hz4 := hb4.size
  have hps := padSize_64 (bs.drop (n)).length
  rw [← HN.out] at hps
  have hNle : N ≤ 128 := by
    have h := HN.out
    unfold padSize at h
    split at h <;> omega
  have HS4 : Hid (WRow w4 r 51 (runTo (bs.take (n)) st0 k).list) := HS3.out.below hb4 (by omega)
  have HK4 : Hid (KOK w4) := HK3.out.below hb4 (by omega)
  have HD4 : Hid (w4.heap[w.heap.size]? = some (.cells Z32 26 (0, 0))) := (hb4.block _ (by omega)).trans HD3.out
  have HB4 : Hid (Below w.heap.size w w4) := HB3.out.trans (hb4.mono (by omega))
  have HBR := Lib.hid hBR
  have hgl := hBR.lt
  have HPS := Lib.hid hps
  clear hBR hb4 hps HS3 HT3 HK3 HR3 HD3 HB3 hcase
  go_wp2_with fail
  have hN : N = 64 * (N / 64) := by have := HPS.out; omega
  have HNN := Lib.hid hN
  clear hN
  refine (forBlocks_eq r (some ⟨g, 0, none⟩) (N / 64) N N HNN.out (padTail (bs.drop (n)) n) (runTo (bs.take (n)) st0 k) w4 (Nat.le_refl _) (by unfold maxLen; omega)
    (HBR.out.rdb hgl (by rw [padTail_length _ _ (by rw [HREST.out]; omega)]; exact HN.out)) ?_ HS4.out (runTo_u _ st0_u _) HK4.out (by omega)).mono ?_
  · intro b o _ e
    injection e with e
    injection e with e
    omega
  rintro e w5 ⟨rfl, ht5, hs5⟩
  have hz5 := ht5.size
  have HS5 := Lib.hid hs5
  have HD5 : Hid (w5.heap[w.heap.size]? = some (.cells Z32 26 (0, 0))) := (ht5.block _ (by omega) fun e => by injection e with e; omega).trans HD4.out
  have HB5 : Hid (Below w.heap.size w w5) := HB4.out.trans ((ht5.below (B := w.heap.size) (by omega) (by omega)))
  clear hs5 ht5 HS4 HK4 HD4 HB4 HBR
  go_wp2_with fail
  refine (digest_any r _ w5 HS5.out (runTo_u _ (runTo_u _ st0_u _) _)).mono ?_
  rintro e w6 ⟨rfl, hb6⟩
  have hz6 := hb6.size
  have hsha : stBytes (runTo (padTail (bs.drop (n)) n) (runTo (bs.take (n)) st0 k) (N / 64)) = sha bs := by
    have h := sha_parts bs k (by rw [← HLEN.out]; have := hk.out; omega)
    rw [h, ← HLEN.out, ← hk.out, HN.out, HREST.out, show n - n = 0 by omega]
  rw [hsha]
  have HD6 : Hid (w6.heap[w.heap.size]? = some (.cells Z32 26 (0, 0))) := (hb6.block _ (by omega)).trans HD5.out
  have HB6 : Hid (Below w.heap.size w w6) := HB5.out.trans (hb6.mono (by omega))
  clear hb6 HS5 HD5 HB5 hsha
  unfold dgV
  go_wp2_with (refine wpList_store_row rfl 26 _ _ rfl _ _ rfl rfl _ _ HD6.out HI32.out (z32_size _ (sha_length bs)) (bytesV_all _) ?_)
  exact bodyPost_ret (results_cell_row rfl _ _ _ _ _ _ _ rfl (setRow_heap _ _ _ _ _ _ HD6.out) Tryd.underlying26 rfl HI32.out) rfl ⟨rfl, below_setRow HB6.out (Nat.le_refl _) _⟩

theorem sum_any (A : Option Addr) (n c : Nat) (bs : List UInt8) (w : World) (hr : RdB w w.heap.size A n bs) (hc : n ≤ c) (hcm : c ≤ maxLen) (hn : n ≤ 1152921504606846975) (hK : KOK w) :
    Calls Tryd.prog 12 #[.slice A n c] w fun e w' => e = .returned (dgV (sha bs)) ∧ Below w.heap.size w w' := by
  have hk : n - n % 64 = 64 * (n / 64) := by omega
  by_cases h : c = n - n % 64
  · have e : c = n := by omega
    subst e
    exact sum_full A c (c / 64) bs w hr hcm hn hK (show c = _ by omega) (by omega)
  · exact sum_core A n (n / 64) c bs w hr hc hcm hn hK hk h
end Go.Proofs.YtfolmglafnfcbaaDoor
