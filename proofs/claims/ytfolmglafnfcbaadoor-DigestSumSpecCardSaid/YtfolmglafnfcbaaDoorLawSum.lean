/- The law DigestSumSpec, walked. -/
import Derived.Test.YtfolmglafnfcbaaDoorLawTags
import Derived.Test.YtfolmglafnfcbaaDoorRefTag
import Derived.Test.YtfolmglafnfcbaaDoorEq
namespace Go.Proofs.YtfolmglafnfcbaaDoor
open Go.RowKit

theorem below_of_grown {a b : World} (h : a.grownBy b none) : Below a.heap.size a b := ⟨h.os, h.tape, h.output, h.size, fun k hk => h.block k hk (by simp)⟩
theorem brow_of_owns {w : World} {base g n : Nat} {ys : List UInt8} (h : Owns w base 5 1 g n n (bytesV ys)) : BRow w g ys := by
  obtain ⟨h1, _, _, _, cur, h5, h6, h7⟩ := h
  rw [Nat.mul_one] at h1 h6 h7
  have e : cur = (bytesV ys).toArray := by
    rw [← h7, List.take_of_length_le (by rw [Array.length_toList]; omega)]
  rw [e] at h5
  exact h5
theorem made_bytes (n : Nat) : (madeCells #[Value.int .u8 0] n).toList = bytesV (List.replicate n 0) := by
  rw [toList_madeCells_one]
  unfold bytesV
  rw [List.map_replicate]
  rfl

theorem ofNat_small (i : Nat) (h : i < 256) : ((UInt8.ofNat i).toNat : Int) = (i : Int) := by
  rw [UInt8.toNat_ofNat']
  omega
theorem two_slices (w : World) (v0 v1 : Value) (t : TypeId) : (w.alloc (.cells #[v0, v1] t)).cell? ⟨w.heap.size, 0, none⟩ = some v0 ∧ (w.alloc (.cells #[v0, v1] t)).cell? ⟨w.heap.size, 1, none⟩ = some v1 := by
  constructor
  · rw [cell_of_row _ _ 0 _ _ _ (heap_alloc_new _ _)]; rfl
  · rw [cell_of_row _ _ 1 _ _ _ (heap_alloc_new _ _)]; rfl

set_option maxRecDepth 100000 in
set_option maxHeartbeats 4000000 in
theorem law_sum (A : Option Addr) (n c : Nat) (bs : List UInt8) (s : ByteArray) (m : Nat) (w : World) (hr : RdB w w.heap.size A n bs) (hc : n ≤ c) (hcm : c ≤ maxLen) (hm : m < 256) (hK : KOK w) :
    Calls Tryd.prog 3 #[.slice A n c, .string s, .int .u8 m] w fun e w' => e = .returned (.bool true) ∧ Below w.heap.size w w' := by
  have hK0 := hK.pos
  have HS := Lib.hid (sane_any w hK)
  have HR := Lib.hid hr
  have HK := Lib.hid hK
  clear hr hK
  go_enter Tryd.func3, Tryd.ntmps3
  go_wp2_with fail
  refine HS.out.mono ?_
  rintro e w1 ⟨rfl, hb1⟩
  have B1 := Lib.hid hb1
  have HR1 := Lib.hid (HR.out.below hb1 hb1.size)
  have HK1 := Lib.hid (HK.out.below hb1 hK0)
  have z1 := hb1.size
  clear hb1 HS HR
  by_cases h1 : 300 < n
  · have h1' : (300 : Int) < (n : Int) := by omega
    go_wp2_with fail
    go_ret
    exact ⟨rfl, B1.out⟩
  by_cases h2 : 300 < s.size
  · have h1' : ¬ (300 : Int) < (n : Int) := by omega
    have h2' : (300 : Int) < (s.size : Int) := by omega
    go_wp2_with fail
    go_ret
    exact ⟨rfl, B1.out⟩
  have h1' : ¬ (300 : Int) < (n : Int) := by omega
  have h2' : ¬ (300 : Int) < (s.size : Int) := by omega
  obtain ⟨iB, hiB, hzB, h1B, h2B⟩ := info_parts byteInfo
  go_wp2_with (first
    | (refine wpList_make_full _ rfl (.tmp 23) (.tmp 23) 22 rfl w1.heap.size 5 iB _ 1 Tryd.underlying22 hiB hzB h1B .i64 .i64 _ _ (m + 1) rfl rfl (by omega) (by omega) (by rw [h2B]; omega) (by unfold maxLen; omega) (Nat.le_refl _) ?rest))
  case rest =>
    intro w2 ho2 hg2
    have hb2 := below_of_grown hg2
    have hbr2 : BRow w2 w1.heap.size (List.replicate (m + 1) 0) := by
      have h := Owns.of ho2
      rw [made_bytes] at h
      exact brow_of_owns h
    have HB2 := Lib.hid hb2
    have HBR2 := Lib.hid hbr2
    have z2 := hb2.size
    have zl := hbr2.lt
    obtain ⟨g, hg⟩ : ∃ g, g = w1.heap.size := ⟨_, rfl⟩
    rw [← hg] at HBR2 zl ⊢
    have HGG := Lib.hid hg
    clear ho2 hg2 hb2 hbr2 hg
    obtain ⟨M, hM⟩ : ∃ M, M = m + 1 := ⟨_, rfl⟩
    have hM1 : 1 ≤ M := by omega
    have hM2 : M ≤ 256 := by omega
    rw [← hM] at HBR2 ⊢
    clear hM
    go_wp2_with fail
    go_loopw [27] (fun v wr => ∃ (i : Nat) (ys : List UInt8), v = .int .i64 i ∧ i ≤ M ∧ ys.length = M ∧ Hid (BRow wr g ys) ∧ Hid (Below w1.heap.size w1 wr) ∧ g < wr.heap.size) (fun v _ => 256 - (intOf v).toNat)
    case atStart => exact ⟨0, _, rfl, by omega, by simp, HBR2, HB2, zl⟩
    case round =>
      obtain ⟨i, ys, rfl, hi, hyl, HBR, HB, hgl⟩ := hrel
      have zr := HB.out.size
      by_cases hend : i = M
      · subst hend
        have hrl : RdB wr wr.heap.size (some ⟨g, 0, none⟩) i ys := HBR.out.rdb hgl hyl.symm
        have hra : RdB wr wr.heap.size A n bs := HR1.out.below HB.out zr
        rename World => wv
        obtain ⟨w5, hw5⟩ : ∃ w5, wv.alloc (.cells #[.slice A n c, .slice (some ⟨g, 0, none⟩) i i] 22) = w5 := ⟨_, rfl⟩
        have h2s := two_slices wv (.slice A n c) (.slice (some ⟨g, 0, none⟩) i i) 22
        have hb5 : Below wv.heap.size wv w5 := by rw [← hw5]; exact Below.new1 wv _
        rw [hw5] at h2s
        have hz5 : wv.heap.size < w5.heap.size := by rw [← hw5]; simp
        have H2 : Hid (∀ j, j < 2 → ∃ (A' : Option Addr) (n' c' : Nat) (xs : List UInt8), w5.cell? ⟨wv.heap.size, j, none⟩ = some (.slice A' n' c') ∧ RdB w5 w5.heap.size A' n' xs ∧ n' ≤ 300 ∧ n' ≤ c' ∧ c' ≤ maxLen) := fun j hj => by
          match j, hj with
          | 0, _ => exact ⟨A, n, c, bs, h2s.1, hra.below hb5 hb5.size, by omega, hc, hcm⟩
          | 1, _ => exact ⟨_, i, i, ys, h2s.2, hrl.below hb5 hb5.size, by omega, Nat.le_refl _, by unfold maxLen; omega⟩
        have HW5 := Lib.hid hw5
        have HB15 : Hid (Below w1.heap.size w1 w5) := HB.out.trans (hb5.mono zr)
        have HK5 : Hid (KOK w5) := HK1.out.below HB15.out (by omega)
        have hw5p : 0 < w5.heap.size := by omega
        clear hrl hra h2s hb5 hw5 HB HBR HR1 hyl HBR2 HB2
        have hgd : Tryd.prog.eqGuardType Tryd.prog.depth 26 = false := by kernel_rfl
        go_wp2_with fail
        rw [HW5.out]
        go_loopw [53] (fun v wr => ∃ j : Nat, v = .int .i64 j ∧ j ≤ 2 ∧ Hid (Below w5.heap.size w5 wr)) (fun v _ => 2 - (intOf v).toNat)
        case atStart => exact ⟨0, rfl, by omega, Below.refl _ _⟩
        case round =>
          obtain ⟨j, rfl, hj, HB⟩ := hrel
          have zr5 := HB.out.size
          by_cases hend : j = 2
          · subst hend
            go_wp2_with fail
            go_ret
            exact ⟨rfl, (B1.out.trans (HB15.out.mono z1)).trans (HB.out.mono (by have h := HB15.out.size; omega))⟩
          have hj2 : j < 2 := by omega
          have hj2' : (j : Int) < 2 := by omega
          have j0 : (0 : Int) ≤ (j : Int) := by omega
          obtain ⟨A', n', c', xs, hcell, hrx, hn', hc', hcm'⟩ := H2.out j hj2
          have hcr : wr.cell? ⟨wv.heap.size, j, none⟩ = some (.slice A' n' c') := by rw [HB.out.cell (by exact hz5)]; exact hcell
          have HRX := Lib.hid (hrx.below HB.out zr5)
          have HKr := Lib.hid (HK5.out.below HB.out hw5p)
          obtain ⟨d, hd⟩ : ∃ d, d = sha xs := ⟨_, rfl⟩
          obtain ⟨t, ht⟩ : ∃ t, t = tagged s.data.toList xs := ⟨_, rfl⟩
          have hdl : d.length = 32 := by rw [hd]; exact sha_length _
          have htl : t.length = 32 := by rw [ht]; exact tagged_length _ _
          have HD := Lib.hid hd
          have HT := Lib.hid ht
          have hne1 : ∀ u : World, (binOp .neq 26 (.agg (bytesV d).toArray) (.agg (bytesV d).toArray)).run Tryd.prog u = .ok (.bool false) u := fun u => by rw [run_neq_dg u d d hdl hdl, beq_self_eq_true]; rfl
          have hne2 : ∀ u : World, (binOp .neq 26 (.agg (bytesV t).toArray) (.agg (bytesV t).toArray)).run Tryd.prog u = .ok (.bool false) u := fun u => by rw [run_neq_dg u t t htl htl, beq_self_eq_true]; rfl
          have HC1 : Hid (∀ u, Below wr.heap.size wr u → Calls Tryd.prog 12 #[.slice A' n' c'] u fun e u' => e = .returned (.agg (bytesV d).toArray) ∧ Below u.heap.size u u') := fun u hu => by
            rw [HD.out]
            exact sum_any A' n' c' xs u (HRX.out.below hu hu.size) hc' hcm' (by omega) (HKr.out.below hu (by omega))
          have HC2 : Hid (∀ u, Below wr.heap.size wr u → Calls Tryd.prog 13 #[.slice A' n' c'] u fun e u' => e = .returned (.agg (bytesV d).toArray) ∧ Below u.heap.size u u') := fun u hu => by
            rw [HD.out]
            exact refsum_any A' n' c' xs u (HRX.out.below hu hu.size) (by omega)
          have HC3 : Hid (∀ u, Below wr.heap.size wr u → Calls Tryd.prog 14 #[.string s, .slice A' n' c'] u fun e u' => e = .returned (.agg (bytesV t).toArray) ∧ Below u.heap.size u u') := fun u hu => by
            rw [HT.out]
            exact tagged_any s A' n' c' xs u (by omega) (HRX.out.below hu hu.size) (by omega) (HKr.out.below hu (by omega))
          have HC4 : Hid (∀ u, Below wr.heap.size wr u → Calls Tryd.prog 15 #[.string s, .slice A' n' c'] u fun e u' => e = .returned (.agg (bytesV t).toArray) ∧ Below u.heap.size u u') := fun u hu => by
            rw [HT.out]
            exact reftag_any s A' n' c' xs u (by omega) (HRX.out.below hu hu.size) (by omega)
          clear hrx hcell hd ht hdl htl hend
          go_wp2_with fail
          refine (HC1.out _ (Below.refl _ _)).mono ?_
          rintro e u1 ⟨rfl, b1⟩
          have B1' := Lib.hid b1
          clear b1
          go_wp2_with fail
          refine (HC2.out _ B1'.out).mono ?_
          rintro e u2 ⟨rfl, b2⟩
          have B2' : Hid (Below wr.heap.size wr u2) := B1'.out.trans (b2.mono B1'.out.size)
          clear b2
          go_wp2_with fail
          refine (HC3.out _ B2'.out).mono ?_
          rintro e u3 ⟨rfl, b3⟩
          have B3' : Hid (Below wr.heap.size wr u3) := B2'.out.trans (b3.mono B2'.out.size)
          clear b3
          go_wp2_with fail
          refine (HC4.out _ B3'.out).mono ?_
          rintro e u4 ⟨rfl, b4⟩
          have B4' : Hid (Below wr.heap.size wr u4) := B3'.out.trans (b4.mono B3'.out.size)
          clear b4
          go_wp2_with fail
          go_roundw
          case rel => exact ⟨j + 1, by go_num, by omega, HB.out.trans (B4'.out.mono zr5)⟩
          case measure => simp [intOf]; omega
      · have hiM : i < M := by omega
        have hiM' : (i : Int) < (M : Int) := by omega
        have i0 : (0 : Int) ≤ (i : Int) := by omega
        have hc1 := HBR.out.cellD (i := i) (by omega)
        have hf1 := HBR.out.frozen i
        have hge : w1.heap.size ≤ g := by have h := HGG.out; omega
        by_cases hn0 : n = 0
        · have hn0' : ¬ (0 : Int) < (n : Int) := by omega
          go_wp2_with fail
          go_roundw
          case rel =>
            have h := HBR.out.set i (UInt8.ofNat i)
            rw [ofNat_small i (by omega)] at h
            exact ⟨i + 1, _, rfl, by omega, by rw [List.length_set]; exact hyl, h, Below.setCell HB.out hge _, by simpa using hgl⟩
          case measure => simp [intOf]; omega
        · have hn0' : (0 : Int) < (n : Int) := by omega
          obtain ⟨b, o, rfl, hbl, _⟩ := HR1.out.2 (by omega)
          have hx := (HR1.out.below HB.out zr).one (i % n) (Nat.mod_lt _ (by omega))
          have hbg : b ≠ g := by have h := HGG.out; omega
          have hmod : ((i % n : Nat) : Int) = (i : Int) % (n : Int) := Int.natCast_emod i n
          have m0 : (0 : Int) ≤ (i : Int) % (n : Int) := by rw [← hmod]; omega
          have m1 : (i : Int) % (n : Int) < (n : Int) := Int.emod_lt_of_pos _ hn0'
          go_wp2_with fail
          go_roundw
          case rel =>
            have h := HBR.out.set i (UInt8.ofNat i)
            rw [ofNat_small i (by omega)] at h
            have h' := h.set i (byteAt bs (i % n))
            exact ⟨i + 1, _, rfl, by omega, by rw [List.length_set, List.length_set]; exact hyl, h', Below.setCell (Below.setCell HB.out hge _) hge _, by simpa using hgl⟩
          case measure => simp [intOf]; omega
end Go.Proofs.YtfolmglafnfcbaaDoor
