/- The law DigestPlaces, walked. -/
import Derived.Test.YtfolmglafnfcbaaDoorLawHalves
import Derived.Test.YtfolmglafnfcbaaDoorPlaces
import Derived.Test.YtfolmglafnfcbaaDoorHand
namespace Go.Proofs.YtfolmglafnfcbaaDoor
open Go.RowKit

theorem four_cells (w : World) (x0 x1 x2 x3 : Int) (t : TypeId) (k : Nat) (hk : k < 4) : ∃ x : Int, (w.alloc (.cells #[.int .i64 x0, .int .i64 x1, .int .i64 x2, .int .i64 x3] t)).cell? ⟨w.heap.size, k, none⟩ = some (.int .i64 x) := by
  rw [cell_of_row _ _ k _ _ _ (heap_alloc_new _ _)]
  match k, hk with
  | 0, _ => exact ⟨x0, rfl⟩
  | 1, _ => exact ⟨x1, rfl⟩
  | 2, _ => exact ⟨x2, rfl⟩
  | 3, _ => exact ⟨x3, rfl⟩

set_option maxRecDepth 100000 in
set_option maxHeartbeats 4000000 in
theorem law_places (A : Option Addr) (n c : Nat) (bs : List UInt8) (at' nn : Int) (w : World) (hr : RdB w w.heap.size A n bs) (hK : KOK w) :
    Calls Tryd.prog 9 #[.slice A n c, .int .i64 at', .int .i64 nn] w fun e w' => e = .returned (.bool true) ∧ Below w.heap.size w w' := by
  have hK0 := hK.pos
  have HS := Lib.hid (sane_any w hK)
  have HR := Lib.hid hr
  have HK := Lib.hid hK
  clear hr hK
  go_enter Tryd.func9, Tryd.ntmps9
  go_wp2_with fail
  refine HS.out.mono ?_
  rintro e w1 ⟨rfl, hb1⟩
  have B1 := Lib.hid hb1
  have HR1 := Lib.hid (HR.out.below hb1 hb1.size)
  have z1 := hb1.size
  clear hb1
  go_wp2_with fail
  refine (ds_any A n c bs w1 HR1.out).mono ?_
  rintro e w2 ⟨g, N, cap, rfl, hN, hO, hb2⟩
  have hN24 : N ≤ 24 := by omega
  have B2 := Lib.hid (B1.out.trans (hb2.mono z1))
  have HO := Lib.hid hO
  have HK2 := Lib.hid (HK.out.below B2.out hK0)
  have z2 := hb2.size
  clear hN hO hb2 HR1 HR
  have hcap : N ≤ cap := HO.out.2.2.1
  have hcm : cap ≤ maxLen := HO.out.2.2.2.1
  obtain ⟨ds, hds⟩ : ∃ ds, ds = dsTo bs N := ⟨_, rfl⟩
  have hall : ∀ x ∈ ds, x.length = 32 := by rw [hds]; exact dsTo_all bs N
  have hlen : ds.length = N := by rw [hds]; exact dsTo_length bs N
  rw [← hds] at HO
  have hrd : RdD w2 w2.heap.size (some ⟨g, 0, none⟩) N ds := (OwnsN.rdd (.inr ⟨g, rfl, HO.out⟩) hall).1
  have HRD := Lib.hid hrd
  have HLEN := Lib.hid hlen
  have HALL := Lib.hid hall
  clear hds hrd hlen hall
  have hw2 : 0 < w2.heap.size := by omega
  by_cases hbad : at' < 0 ∨ (N : Int) ≤ at'
  · have HPB := Lib.hid (pathX_bad (some ⟨g, 0, none⟩) N cap at' w2 hbad)
    go_wp2_with fail
    refine HPB.out.mono ?_
    rintro e w3 ⟨rfl, rfl⟩
    rcases hbad with hb | hb
    · go_wp2_with fail
      go_ret
      exact ⟨rfl, B2.out⟩
    · have hb' : at' ≥ (N : Int) := hb
      have hb'' : ¬ at' < 0 := by omega
      go_wp2_with fail
      go_ret
      exact ⟨rfl, B2.out⟩
  obtain ⟨k, rfl⟩ : ∃ k : Nat, at' = (k : Int) := ⟨at'.toNat, by omega⟩
  have hkN : k < N := by omega
  have hkN' : (k : Int) < (N : Int) := by omega
  have g3 : ¬ (k : Int) < 0 := by omega
  have g4 : ¬ (k : Int) ≥ (N : Int) := by omega
  have g4' : ¬ (N : Int) ≤ (k : Int) := by omega
  have g5 : ¬ N ≤ k := by omega
  have i0 : (0 : Int) ≤ (k : Int) := by omega
  clear hbad
  have HP := Lib.hid (pathX_any (some ⟨g, 0, none⟩) N cap k ds w2 HRD.out hkN (by omega) hcap hcm HK2.out)
  go_wp2_with fail
  refine HP.out.mono ?_
  rintro e w3 ⟨A1, m1, cap1, rfl, HO3, HB3⟩
  have hpa : ∀ x ∈ path ds k, x.length = 32 := path_all _ _ _ (Nat.le_refl _) (by have h := HLEN.out; omega)
  obtain ⟨hr3, hm3, hcm3⟩ := OwnsN.rdd HO3 hpa
  have hpl : (path ds k).length = Go.Proofs.YtfolmglafnfcbaaDoor.steps k N := by
    have h := path_length ds.length ds k (Nat.le_refl _) (by have h := HLEN.out; omega) (by have h := HLEN.out; omega)
    rw [HLEN.out] at h
    exact h
  have HM1 : Hid (m1 = Go.Proofs.YtfolmglafnfcbaaDoor.steps k N) := hr3.1.trans hpl
  have HR3 := Lib.hid hr3
  have HB3' := Lib.hid HB3
  have z3 := HB3.size
  have HLS := Lib.hid (lawsteps_any k N w3 (by omega) hkN (by omega))
  rw [← HM1.out] at HLS
  clear hpa hr3 hpl HO3 HB3
  go_wp2_with fail
  refine HLS.out.mono ?_
  rintro e w4 ⟨rfl, rfl⟩
  go_wp2_with fail
  obtain ⟨w5, hw5⟩ : ∃ w5, w3.alloc (.cells #[.int .i64 nn, .int .i64 (bits .and .i64 nn 31), .int .i64 ((N : Int) + 1), .int .i64 (2 * (N : Int))] 3) = w5 := ⟨_, rfl⟩
  have H4 : Hid (∀ j, j < 4 → ∃ x : Int, w5.cell? ⟨w3.heap.size, j, none⟩ = some (.int .i64 x)) := fun j hj => by rw [← hw5]; exact four_cells w3 _ _ _ _ _ j hj
  have hb5 : Below w3.heap.size w3 w5 := by rw [← hw5]; exact (Below.refl _ _).alloc (Nat.le_refl _) _
  have hz5 : w3.heap.size < w5.heap.size := by rw [← hw5]; simp
  have HB35 := Lib.hid hb5
  rw [hw5]
  clear hw5 hb5 HP HLS HS
  go_loopw [62] (fun i wr => ∃ j : Nat, i = .int .i64 j ∧ j ≤ 4 ∧ Hid (Below w5.heap.size w5 wr)) (fun i _ => 4 - (intOf i).toNat)
  case atStart => exact ⟨0, rfl, by omega, Below.refl _ _⟩
  case round =>
    obtain ⟨j, rfl, hj, HB⟩ := hrel
    by_cases hend : j = 4
    · subst hend
      go_wp2_with fail
      go_ret
      exact ⟨rfl, ((B2.out.trans (HB3'.out.mono B2.out.size)).trans (HB35.out.mono (by have h1 := B2.out.size; omega))).trans (HB.out.mono (by have h1 := B2.out.size; omega))⟩
    have hj4 : j < 4 := by omega
    have hj4' : (j : Int) < 4 := by omega
    have j0 : (0 : Int) ≤ (j : Int) := by omega
    obtain ⟨x, hx5⟩ := H4.out j hj4
    have hcx : wr.cell? ⟨w3.heap.size, j, none⟩ = some (.int .i64 x) := by rw [HB.out.cell (by exact hz5)]; exact hx5
    obtain ⟨d, hd⟩ : ∃ d, ds[k]? = some d := ⟨ds[k]'(by have h := HLEN.out; omega), List.getElem?_eq_getElem _⟩
    have hdl : d.length = 32 := HALL.out d (List.mem_of_getElem? hd)
    have hb3r : Below w3.heap.size w3 wr := HB35.out.trans (HB.out.mono (by omega))
    have hb2r : Below w2.heap.size w2 wr := HB3'.out.trans (hb3r.mono (by omega))
    have zr := hb3r.size
    have hrdr := HRD.out.below hb2r hb2r.size
    have hrg : wr.rangeAt g (0 + k * 32) (bytesV d) := by
      obtain ⟨b', o', e, _, hc⟩ := hrdr.2.2 (by omega)
      injection e with e
      injection e with e1 e2
      subst e1 e2
      exact hc k d hd
    rw [Nat.zero_add] at hrg
    have HRG := Lib.hid hrg
    have HLI := Lib.hid (dg_size d hdl)
    have HDL := Lib.hid hdl
    have HKr := Lib.hid (HK2.out.below hb2r hw2)
    have HRr := Lib.hid (HR3.out.below hb3r hb3r.size)
    have hend' : ∀ (u v : World) (y : D), Below wr.heap.size wr u → u.alloc (.cells (bytesV y).toArray 26) = v → Below w5.heap.size w5 v := fun u v y hu hv => by
      rw [← hv]
      exact HB.out.trans ((hu.alloc hu.size _).mono HB.out.size)
    have HEND := Lib.hid hend'
    clear hend hx5 hd hdl hb3r hb2r hrdr hrg hend'
    by_cases hout : x ≤ (k : Int) ∨ (1099511627776 : Int) < x
    · have HC := Lib.hid (climbX_out k x A1 m1 cap1 d wr (by omega))
      unfold dgV at HC
      by_cases hx1 : x ≤ (k : Int)
      · have hx1' : ¬ x > (k : Int) := by omega
        clear hout
        go_wp2_with (refine wpList_load_mid rfl 26 _ rfl g (k * 32) rfl _ _ HRG.out Tryd.underlying26 rfl HLI.out ?_)
        refine HC.out.mono ?_
        rintro e w7 ⟨⟨y, hy, rfl⟩, hb7⟩
        obtain ⟨w8, hw8⟩ : ∃ w8, w7.alloc (.cells (bytesV y).toArray 26) = w8 := ⟨_, rfl⟩
        have HW8 := Lib.hid hw8
        have HB8 : Hid (Below w5.heap.size w5 w8) := HEND.out w7 w8 y hb7 hw8
        have HIY := Lib.hid (dg_info y hy)
        have HYL := Lib.hid hy
        clear hw8 hb7 hy
        go_wp2_with (refine wpList_store_row rfl 26 _ _ rfl _ _ rfl rfl _ _ (heap_alloc_new _ _) HIY.out (z32_size _ HYL.out) (bytesV_all _) ?_; rw [World.setRow_alloc_new, HW8.out])
        go_roundw
        case rel => exact ⟨j + 1, by go_num, by omega, HB8⟩
        case measure => simp [intOf]; omega
      · have hx2 : (1099511627776 : Int) < x := by omega
        have hx2' : ¬ x ≤ 1099511627776 := by omega
        have hx3 : x > (k : Int) := by omega
        have hx3' : (k : Int) < x := by omega
        clear hout hx1
        go_wp2_with (refine wpList_load_mid rfl 26 _ rfl g (k * 32) rfl _ _ HRG.out Tryd.underlying26 rfl HLI.out ?_)
        refine HC.out.mono ?_
        rintro e w7 ⟨⟨y, hy, rfl⟩, hb7⟩
        obtain ⟨w8, hw8⟩ : ∃ w8, w7.alloc (.cells (bytesV y).toArray 26) = w8 := ⟨_, rfl⟩
        have HW8 := Lib.hid hw8
        have HB8 : Hid (Below w5.heap.size w5 w8) := HEND.out w7 w8 y hb7 hw8
        have HIY := Lib.hid (dg_info y hy)
        have HYL := Lib.hid hy
        clear hw8 hb7 hy
        go_wp2_with (refine wpList_store_row rfl 26 _ _ rfl _ _ rfl rfl _ _ (heap_alloc_new _ _) HIY.out (z32_size _ HYL.out) (bytesV_all _) ?_; rw [World.setRow_alloc_new, HW8.out])
        go_roundw
        case rel => exact ⟨j + 1, by go_num, by omega, HB8⟩
        case measure => simp [intOf]; omega
    · obtain ⟨M, rfl⟩ : ∃ M : Nat, x = (M : Int) := ⟨x.toNat, by omega⟩
      have hkM : k < M := by omega
      have hM : M ≤ 1099511627776 := by omega
      have hkM' : (M : Int) > (k : Int) := by omega
      have hkM'' : (k : Int) < (M : Int) := by omega
      have hMi : (M : Int) ≤ 1099511627776 := by omega
      have HLS := Lib.hid (lawsteps_any k M wr (by omega) hkM hM)
      obtain ⟨s, hs⟩ : ∃ s, s = Go.Proofs.YtfolmglafnfcbaaDoor.steps k M := ⟨_, rfl⟩
      have HSS := Lib.hid hs
      rw [← hs] at HLS
      clear hout hs
      by_cases hsm : s = m1
      · subst hsm
        have HCL := Lib.hid (climb_length d k M (path ds k) (by omega) hM)
        obtain ⟨y, hy⟩ : ∃ y, y = climb d k M (path ds k) := ⟨_, rfl⟩
        have HC := Lib.hid (climbX_any k M A1 s cap1 d (path ds k) wr HDL.out HRr.out HSS.out (by omega) hkM hM hm3 hcm3 HKr.out)
        rw [← hy] at HC HCL
        unfold dgV at HC
        clear hy
        have HIY := Lib.hid (dg_info y HCL.out)
        go_wp2_with fail
        refine HLS.out.mono ?_
        rintro e w6 ⟨rfl, rfl⟩
        go_wp2_with (refine wpList_load_mid rfl 26 _ rfl g (k * 32) rfl _ _ HRG.out Tryd.underlying26 rfl HLI.out ?_)
        refine HC.out.mono ?_
        rintro e w7 ⟨rfl, hb7⟩
        obtain ⟨w8, hw8⟩ : ∃ w8, w7.alloc (.cells (bytesV y).toArray 26) = w8 := ⟨_, rfl⟩
        have HW8 := Lib.hid hw8
        have HB8 : Hid (Below w5.heap.size w5 w8) := HEND.out w7 w8 y hb7 hw8
        clear hw8 hb7
        go_wp2_with (refine wpList_store_row rfl 26 _ _ rfl _ _ rfl rfl _ _ (heap_alloc_new _ _) HIY.out (z32_size _ HCL.out) (bytesV_all _) ?_; rw [World.setRow_alloc_new, HW8.out])
        go_roundw
        case rel => exact ⟨j + 1, by go_num, by omega, HB8⟩
        case measure => simp [intOf]; omega
      · have hsm' : ¬ (s : Int) = (m1 : Int) := by omega
        have hsm'' : ((s : Int) == (m1 : Int)) = false := by rw [beq_eq_false_iff_ne]; exact hsm'
        have HC := Lib.hid (climbX_len k M A1 m1 cap1 d wr (by have h := HSS.out; omega) (by omega) hkM hM)
        unfold dgV at HC
        go_wp2_with fail
        refine HLS.out.mono ?_
        rintro e w6 ⟨rfl, rfl⟩
        go_wp2_with (refine wpList_load_mid rfl 26 _ rfl g (k * 32) rfl _ _ HRG.out Tryd.underlying26 rfl HLI.out ?_)
        refine HC.out.mono ?_
        rintro e w7 ⟨⟨y, hy, rfl⟩, hb7⟩
        obtain ⟨w8, hw8⟩ : ∃ w8, w7.alloc (.cells (bytesV y).toArray 26) = w8 := ⟨_, rfl⟩
        have HW8 := Lib.hid hw8
        have HB8 : Hid (Below w5.heap.size w5 w8) := HEND.out w7 w8 y hb7 hw8
        have HIY := Lib.hid (dg_info y hy)
        have HYL := Lib.hid hy
        clear hw8 hb7 hy
        go_wp2_with (refine wpList_store_row rfl 26 _ _ rfl _ _ rfl rfl _ _ (heap_alloc_new _ _) HIY.out (z32_size _ HYL.out) (bytesV_all _) ?_; rw [World.setRow_alloc_new, HW8.out])
        go_roundw
        case rel => exact ⟨j + 1, by go_num, by omega, HB8⟩
        case measure => simp [intOf]; omega
end Go.Proofs.YtfolmglafnfcbaaDoor
