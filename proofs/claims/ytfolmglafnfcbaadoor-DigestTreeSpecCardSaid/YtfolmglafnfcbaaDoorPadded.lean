/- Contract of padded. -/
import Derived.Test.YtfolmglafnfcbaaDoorPadM
import Derived.Laws.CopyOwn
namespace Go.Proofs.YtfolmglafnfcbaaDoor
open Go.RowKit

/-- block g is a row of bytes -/
def BRow (w : World) (g : Nat) (l : List UInt8) : Prop := w.heap[g]? = some (.cells (bytesV l).toArray 5 (0, 0))
theorem BRow.lt {w : World} {g : Nat} {l : List UInt8} (h : BRow w g l) : g < w.heap.size := (Array.getElem?_eq_some_iff.1 h).1
theorem BRow.cell {w : World} {g : Nat} {l : List UInt8} (h : BRow w g l) {i : Nat} {u : UInt8} (hi : l[i]? = some u) : w.cell? ⟨g, i, none⟩ = some (.int .u8 u.toNat) := by
  rw [cell_of_row w g i _ _ _ h, List.getElem?_toArray]
  unfold bytesV
  rw [List.getElem?_map, hi]
  rfl
theorem BRow.cellD {w : World} {g : Nat} {l : List UInt8} (h : BRow w g l) {i : Nat} (hi : i < l.length) : w.cell? ⟨g, i, none⟩ = some (.int .u8 (byteAt l i).toNat) := by
  refine h.cell ?_
  unfold byteAt
  rw [List.getD_eq_getElem?_getD, List.getElem?_eq_getElem hi]
  rfl
theorem BRow.frozen {w : World} {g : Nat} {l : List UInt8} (h : BRow w g l) (i : Nat) : w.frozen? ⟨g, i, none⟩ = false := frozen_of_row w g i _ _ h
theorem BRow.set {w : World} {g : Nat} {l : List UInt8} (h : BRow w g l) (i : Nat) (x : UInt8) : BRow (w.setCell ⟨g, i, none⟩ (.int .u8 x.toNat)) g (l.set i x) := by
  unfold BRow at h ⊢
  rw [heap_setCell_same w g i _ _ _ h]
  congr 2
  unfold bytesV
  simp [List.map_set]
theorem BRow.below {w w' : World} {B g : Nat} {l : List UInt8} (h : BRow w g l) (hb : Below B w w') (hg : g < B) : BRow w' g l := (hb.block g hg).trans h
theorem BRow.drewN {w : World} {g k : Nat} {l : List UInt8} (h : BRow w g l) : BRow (w.drewN k) g l := h
theorem BRow.rdb {w : World} {g B n : Nat} {l : List UInt8} (h : BRow w g l) (hB : g < B) (hn : n = l.length) : RdB w B (some ⟨g, 0, none⟩) n l :=
  ⟨hn, fun _ => ⟨g, 0, rfl, hB, fun j u hu => by rw [Nat.zero_add]; exact h.cell hu⟩⟩

theorem make_bytes (N : Nat) (hN : N ≤ 281474976710656) (w : World) :
    (Instr.makeSlice 22 (.int .i64 (N : Int)) (.int .i64 (N : Int))).run Tryd.prog w = .ok (.slice (some ⟨w.heap.size, 0, none⟩) N N) (w.alloc (.cells (madeCells #[.int .u8 0] N) 5)) := by
  obtain ⟨i0, hi, hz0, hz1, hz2⟩ := info_parts byteInfo
  have hr := run_make (P := Tryd.prog) w 22 5 i0 _ Tryd.underlying22 hi hz0 .i64 .i64 N N (by omega) (by omega) (by rw [hz2]; omega) (by omega)
  simp only [Int.toNat_natCast, hz1, Nat.mul_one] at hr
  exact hr
theorem made64 : madeCells #[.int .u8 0] 64 = (bytesV (List.replicate 64 0)).toArray := by kernel_rfl
theorem made128 : madeCells #[.int .u8 0] 128 = (bytesV (List.replicate 128 0)).toArray := by kernel_rfl
theorem make64 (Z : List UInt8) (hZ : Z = List.replicate 64 0) (w : World) :
    (Instr.makeSlice 22 (.int .i64 64) (.int .i64 64)).run Tryd.prog w = .ok (.slice (some ⟨w.heap.size, 0, none⟩) 64 64) (w.alloc (.cells (bytesV Z).toArray 5)) := by
  subst hZ
  have h := make_bytes 64 (by omega) w
  rw [made64] at h
  exact h
theorem make128 (Z : List UInt8) (hZ : Z = List.replicate 128 0) (w : World) :
    (Instr.makeSlice 22 (.int .i64 128) (.int .i64 128)).run Tryd.prog w = .ok (.slice (some ⟨w.heap.size, 0, none⟩) 128 128) (w.alloc (.cells (bytesV Z).toArray 5)) := by
  subst hZ
  have h := make_bytes 128 (by omega) w
  rw [made128] at h
  exact h
theorem brow_splice {w : World} {g N : Nat} {Z rest : List UInt8} (h : w.heap[g]? = some (.cells (splice (bytesV Z) 0 (bytesV rest)).toArray 5 (0, 0))) (hZ : Z = List.replicate N 0) : BRow w g (rest ++ List.replicate (N - rest.length) 0) := by
  subst hZ
  unfold BRow
  rw [h]
  congr 2
  unfold splice
  rw [bytesV_length, bytesV_append]
  simp [bytesV]

theorem lenByte_toNat (many i : Nat) : ((lenByte many i).toNat : Int) = (many : Int) * 8 / 2 ^ (8 * i) % 256 := by
  unfold lenByte
  rw [UInt8.toNat_ofNat', Int.natCast_emod, Int.natCast_ediv, Int.natCast_mul, Int.natCast_pow]
  rfl
/-- what padded returns -/
def Padded (w : World) (rest : List UInt8) (many : Nat) (e : Ending) (w' : World) : Prop :=
  ∃ g N, e = .returned (.slice (some ⟨g, 0, none⟩) N N) ∧ Hid (N = padSize rest.length) ∧ BRow w' g (padTail rest many) ∧ w.heap.size ≤ g ∧ Below w.heap.size w w'

set_option maxRecDepth 100000 in
set_option maxHeartbeats 1000000 in
theorem padded_64 (A : Option Addr) (n c many : Nat) (rest : List UInt8) (w : World) (hr : RdB w w.heap.size A n rest) (hn : n + 9 ≤ 64) (hm : many ≤ 1152921504606846975) :
    Calls Tryd.prog 30 #[.slice A n c, .int .i64 many] w (Padded w rest many) := by
  have hlen := hr.1
  have hps : padSize n = 64 := by unfold padSize; rw [if_neg (by omega)]
  have HP := Lib.hid hps
  have HL := Lib.hid hlen
  have HR := Lib.hid hr
  obtain ⟨Z, hZ⟩ : ∃ Z : List UInt8, Z = List.replicate 64 0 := ⟨_, rfl⟩
  have hzl : Z.length = 64 := by rw [hZ]; simp
  have HZ := Lib.hid hZ
  have HZL := Lib.hid hzl
  have hmk := make64 Z hZ
  have h64 : ¬ (64 : Int) < (n : Int) + 1 + 8 := by omega
  clear hr hlen hps hZ hzl
  go_enter Tryd.func30, Tryd.ntmps30
  go_wp2_with (refine wpList_copy_splice rfl (.tmp 16) (.tmp 17) 22 22 rfl 5 Tryd.underlying22 (by kernel_rfl) _ A _ _ n c rfl rfl w.heap.size 0 (bytesV Z) 5 (heap_alloc_new _ _) (bytesV rest) ?c1 ?c2 ?c3 (bytesV_one _) w.heap.size w ((Below.refl _ _).alloc (Nat.le_refl _) _) (Nat.le_refl _) ?c4)
  case c1 => rw [bytesV_length, ← HL.out]; exact (Nat.min_eq_left (by omega)).symm
  case c2 =>
    intro hpos
    obtain ⟨b, o, e, hb, hc⟩ := HR.out.2 (by rw [bytesV_length, ← HL.out] at hpos; exact hpos)
    refine ⟨_, e, fun j v hv => ?_⟩
    obtain ⟨x, hx, rfl⟩ := bytesV_at hv
    rw [add_lit', World.cell?_alloc_lt _ _ _ hb]
    exact hc j x hx
  case c3 => rw [bytesV_length, bytesV_length, ← HL.out, HZL.out]; omega
  case c4 =>
    intro w2 HG2 hB2
    have hz2 := hB2.size
    have HR2 := Lib.hid (brow_splice HG2.out HZ.out)
    have HB2 := Lib.hid hB2
    clear hmk HG2 hB2
    have hlt : n < 64 := by omega
    have hc0 := HR2.out.cellD (i := n) (by rw [List.length_append, List.length_replicate, ← HL.out]; omega)
    have hf0 := HR2.out.frozen n
    have hin : (n : Int) < 64 := by omega
    go_wp2_with fail
    have HR3 : Hid (BRow (w2.setCell ⟨w.heap.size, n, none⟩ (.int .u8 128)) w.heap.size (padTo rest many 0)) := by
      have h := HR2.out.set n 128
      have e := padTo_zero rest many (by rw [← HL.out]; omega)
      rw [← HL.out, HP.out] at e
      rw [← HL.out, e] at h
      exact h
    have HB3 := Lib.hid (Below.setCell (p := ⟨w.heap.size, n, none⟩) HB2.out (Nat.le_refl _) (.int .u8 128))
    clear HR2 HB2 hc0 hf0
    go_loopw [26] (fun t wr => ∃ i : Nat, i ≤ 8 ∧ t = .int .i64 i ∧ Hid (BRow wr w.heap.size (padTo rest many i)) ∧ Hid (Below w.heap.size w wr)) (fun t _ => 8 - (intOf t).toNat)
    case atStart => exact ⟨0, by omega, rfl, HR3, HB3⟩
    case round =>
      obtain ⟨i, hi, rfl, HR4, HB4⟩ := hrel
      clear HR3 HB3
      by_cases hi8 : i < 8
      · have hc1 := HR4.out.cellD (i := 63 - i) (by rw [padTo_length _ _ _ (by rw [← HL.out]; omega) (by omega), ← HL.out, HP.out]; omega)
        have hf1 := HR4.out.frozen (63 - i)
        have x0 : (0 : Int) ≤ 63 - (i : Int) := by omega
        have x1 : 63 - (i : Int) < 64 := by omega
        go_wp2_with fail
        go_roundw
        case rel =>
          refine ⟨i + 1, by omega, by go_num, ?_, Below.setCell HB4.out (Nat.le_refl _) _⟩
          have h := HR4.out.set (63 - i) (lenByte many i)
          have e := padTo_step rest many i hi8
          rw [padPre_length _ (by rw [← HL.out]; omega), ← HL.out, HP.out, show 64 - 8 + (7 - i) = 63 - i by omega] at e
          rw [e, lenByte_toNat] at h
          exact h
        case measure => simp [intOf]; omega
      · have HR5 : Hid (BRow wr w.heap.size (padTail rest many)) := by
          have e : i = 8 := by omega
          have h := HR4.out
          rw [e, padTo_all] at h
          exact h
        go_wp2_with fail
        go_ret
        exact ⟨w.heap.size, 64, rfl, by rw [← HL.out]; exact HP.out.symm, HR5.out, Nat.le_refl _, HB4.out⟩
set_option maxRecDepth 100000 in
set_option maxHeartbeats 1000000 in
theorem padded_128 (A : Option Addr) (n c many : Nat) (rest : List UInt8) (w : World) (hr : RdB w w.heap.size A n rest) (hn : 64 < n + 9) (hn' : n < 64) (hm : many ≤ 1152921504606846975) :
    Calls Tryd.prog 30 #[.slice A n c, .int .i64 many] w (Padded w rest many) := by
  have hlen := hr.1
  have hps : padSize n = 128 := by unfold padSize; rw [if_pos (by omega)]
  have HP := Lib.hid hps
  have HL := Lib.hid hlen
  have HR := Lib.hid hr
  obtain ⟨Z, hZ⟩ : ∃ Z : List UInt8, Z = List.replicate 128 0 := ⟨_, rfl⟩
  have hzl : Z.length = 128 := by rw [hZ]; simp
  have HZ := Lib.hid hZ
  have HZL := Lib.hid hzl
  have hmk := make128 Z hZ
  have h64 : (64 : Int) < (n : Int) + 1 + 8 := by omega
  clear hr hlen hps hZ hzl
  go_enter Tryd.func30, Tryd.ntmps30
  go_wp2_with (refine wpList_copy_splice rfl (.tmp 16) (.tmp 17) 22 22 rfl 5 Tryd.underlying22 (by kernel_rfl) _ A _ _ n c rfl rfl w.heap.size 0 (bytesV Z) 5 (heap_alloc_new _ _) (bytesV rest) ?c1 ?c2 ?c3 (bytesV_one _) w.heap.size w ((Below.refl _ _).alloc (Nat.le_refl _) _) (Nat.le_refl _) ?c4)
  case c1 => rw [bytesV_length, ← HL.out]; exact (Nat.min_eq_left (by omega)).symm
  case c2 =>
    intro hpos
    obtain ⟨b, o, e, hb, hc⟩ := HR.out.2 (by rw [bytesV_length, ← HL.out] at hpos; exact hpos)
    refine ⟨_, e, fun j v hv => ?_⟩
    obtain ⟨x, hx, rfl⟩ := bytesV_at hv
    rw [add_lit', World.cell?_alloc_lt _ _ _ hb]
    exact hc j x hx
  case c3 => rw [bytesV_length, bytesV_length, ← HL.out, HZL.out]; omega
  case c4 =>
    intro w2 HG2 hB2
    have hz2 := hB2.size
    have HR2 := Lib.hid (brow_splice HG2.out HZ.out)
    have HB2 := Lib.hid hB2
    clear hmk HG2 hB2
    have hlt : n < 128 := by omega
    have hc0 := HR2.out.cellD (i := n) (by rw [List.length_append, List.length_replicate, ← HL.out]; omega)
    have hf0 := HR2.out.frozen n
    have hin : (n : Int) < 128 := by omega
    go_wp2_with fail
    have HR3 : Hid (BRow (w2.setCell ⟨w.heap.size, n, none⟩ (.int .u8 128)) w.heap.size (padTo rest many 0)) := by
      have h := HR2.out.set n 128
      have e := padTo_zero rest many (by rw [← HL.out]; omega)
      rw [← HL.out, HP.out] at e
      rw [← HL.out, e] at h
      exact h
    have HB3 := Lib.hid (Below.setCell (p := ⟨w.heap.size, n, none⟩) HB2.out (Nat.le_refl _) (.int .u8 128))
    clear HR2 HB2 hc0 hf0
    go_loopw [26] (fun t wr => ∃ i : Nat, i ≤ 8 ∧ t = .int .i64 i ∧ Hid (BRow wr w.heap.size (padTo rest many i)) ∧ Hid (Below w.heap.size w wr)) (fun t _ => 8 - (intOf t).toNat)
    case atStart => exact ⟨0, by omega, rfl, HR3, HB3⟩
    case round =>
      obtain ⟨i, hi, rfl, HR4, HB4⟩ := hrel
      clear HR3 HB3
      by_cases hi8 : i < 8
      · have hc1 := HR4.out.cellD (i := 127 - i) (by rw [padTo_length _ _ _ (by rw [← HL.out]; omega) (by omega), ← HL.out, HP.out]; omega)
        have hf1 := HR4.out.frozen (127 - i)
        have x0 : (0 : Int) ≤ 127 - (i : Int) := by omega
        have x1 : 127 - (i : Int) < 128 := by omega
        go_wp2_with fail
        go_roundw
        case rel =>
          refine ⟨i + 1, by omega, by go_num, ?_, Below.setCell HB4.out (Nat.le_refl _) _⟩
          have h := HR4.out.set (127 - i) (lenByte many i)
          have e := padTo_step rest many i hi8
          rw [padPre_length _ (by rw [← HL.out]; omega), ← HL.out, HP.out, show 128 - 8 + (7 - i) = 127 - i by omega] at e
          rw [e, lenByte_toNat] at h
          exact h
        case measure => simp [intOf]; omega
      · have HR5 : Hid (BRow wr w.heap.size (padTail rest many)) := by
          have e : i = 8 := by omega
          have h := HR4.out
          rw [e, padTo_all] at h
          exact h
        go_wp2_with fail
        go_ret
        exact ⟨w.heap.size, 128, rfl, by rw [← HL.out]; exact HP.out.symm, HR5.out, Nat.le_refl _, HB4.out⟩
theorem padded_any (A : Option Addr) (n c many : Nat) (rest : List UInt8) (w : World) (hr : RdB w w.heap.size A n rest) (hn : n < 64) (hm : many ≤ 1152921504606846975) :
    Calls Tryd.prog 30 #[.slice A n c, .int .i64 many] w (Padded w rest many) := by
  by_cases h : n + 9 ≤ 64
  · exact padded_64 A n c many rest w hr h hm
  · exact padded_128 A n c many rest w hr (by omega) hn hm
end Go.Proofs.YtfolmglafnfcbaaDoor
