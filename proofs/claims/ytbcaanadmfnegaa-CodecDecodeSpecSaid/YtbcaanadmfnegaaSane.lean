/- Contract of the laws' sane. -/
import Derived.Test.YtbcaanadmfnegaaCons
import Derived.Test.YtbcaanadmfnegaaEnc
namespace Go.Proofs.Ytbcaanadmfnegaa
open Go.RowKit

theorem rd_pair {w : World} {B g : Nat} (hg : g < B) (hc : ∀ i u, [Value.int .i64 1, .int .i64 100, .string ⟨#[]⟩, .slice none 0 0, .int .i64 2, .int .i64 0, .string ⟨#[97, 98]⟩, .slice none 0 0][i]? = some u → w.cell? ⟨g, i, none⟩ = some u) :
    Rd w B vab (.agg #[.int .i64 3, .int .i64 0, .string ⟨#[]⟩, .slice (some ⟨g, 0, none⟩) 2 2]) := by
  refine ⟨some ⟨g, 0, none⟩, 2, rfl, by unfold I64; omega, by unfold I64; omega, by unfold maxLen; exact Nat.zero_le _, Nat.le_refl _, by unfold maxLen; omega, ?_⟩
  refine ⟨⟨g, 0, .int .i64 1, .int .i64 100, .string ⟨#[]⟩, .slice none 0 0, rfl, hg, hc 0 _ rfl, hc 1 _ rfl, hc 2 _ rfl, hc 3 _ rfl, Rd.flat _ _ (by unfold I64; omega) (by unfold I64; omega) (by unfold maxLen; exact Nat.zero_le _)⟩, ?_⟩
  exact ⟨⟨g, 0, .int .i64 2, .int .i64 0, .string ⟨#[97, 98]⟩, .slice none 0 0, rfl, hg, hc 4 _ rfl, hc 5 _ rfl, hc 6 _ rfl, hc 7 _ rfl, Rd.flat _ _ (by unfold I64; omega) (by unfold I64; omega) (by unfold maxLen; decide)⟩, trivial⟩

theorem vab_bulk : vab.bulk ≤ 1099511627776 := by
  have e : vab.bulk = vab.bulk := rfl
  simp [vab, V.bulk, V.bulkAll, ByteArray.size]
theorem i3_bulk : i3.bulk ≤ 1099511627776 := by
  simp [i3, V.bulk, V.bulkAll, ByteArray.size]

/-- []byte(s) -/
theorem conv_bytes (w : World) (s : ByteArray) (n : Nat) (hn : s.size = n) : ∃ (X : World) (C : Nat), (convert 9 27 (.string s)).run Try.prog w = .ok (.slice (some ⟨w.heap.size, 0, none⟩) n C) X ∧ Below w.heap.size w X ∧ w.heap.size ≤ X.heap.size ∧
    RdB X X.heap.size (some ⟨w.heap.size, 0, none⟩) n s.data.toList ∧ n ≤ C := by
  subst hn
  refine ⟨_, _, run_bytes_of_string w 9 27 5 s Try.underlying9 Try.underlying27 Try.underlying5, (Below.refl _ _).drew.alloc (by show w.heap.size ≤ w.drew.heap.size; exact Nat.le_refl _) _, by simp, ⟨rfl, fun _ => ⟨w.heap.size, 0, rfl, by simp, fun j u hu => ?_⟩⟩, grownCap_ge _ _ _ _⟩
  have hj : j < s.data.size := by
    have := (List.getElem?_eq_some_iff.1 hu).1
    simpa using this
  have hnew := heap_alloc_new w.drew (.cells (bytesRow s (grownCap w s.size 0 5)) 5 ((bytesRow s (grownCap w s.size 0 5)).size, (bytesRow s (grownCap w s.size 0 5)).size + 1))
  rw [Nat.zero_add, show (⟨w.heap.size, j, none⟩ : Addr) = ⟨w.drew.heap.size, j, none⟩ from rfl, cell_of_row _ _ j _ _ _ hnew, bytesRow, Array.getElem?_append_left (by simpa using hj)]
  have hu' : s.data[j]? = some u := by simpa using hu
  simp [hu']

/-- what sane decodes in vain -/
def BadRow (w : World) (g : Nat) : Prop := ∀ j : Nat, j < 4 → ∃ (s : ByteArray) (n : Nat), w.cell? ⟨g, j, none⟩ = some (.string s) ∧ s.size = n ∧ n ≤ 3 ∧ dec s.data.toList = none
theorem BadRow.below {w w' : World} {g : Nat} (h : BadRow w g) (hb : Below w.heap.size w w') : BadRow w' g := fun j hj => by
  obtain ⟨s, n, h1, h2⟩ := h j hj
  exact ⟨s, n, (hb.cell (World.block_lt_of_cell? w _ h1)).trans h1, h2⟩
theorem badRow_new (w : World) : BadRow (w.alloc (.cells #[.string ⟨#[]⟩, .string ⟨#[1, 128, 0]⟩, .string ⟨#[1, 5, 0]⟩, .string ⟨#[2, 3, 97]⟩] 9)) w.heap.size := by
  intro j hj
  have hc := fun i => cell_of_row _ w.heap.size i _ _ _ (heap_alloc_new w (.cells #[.string ⟨#[]⟩, .string ⟨#[1, 128, 0]⟩, .string ⟨#[1, 5, 0]⟩, .string ⟨#[2, 3, 97]⟩] 9))
  have hj4 : j = 0 ∨ j = 1 ∨ j = 2 ∨ j = 3 := by omega
  rcases hj4 with rfl | rfl | rfl | rfl
  · exact ⟨⟨#[]⟩, 0, hc 0, rfl, by omega, by kernel_rfl⟩
  · exact ⟨⟨#[1, 128, 0]⟩, 3, hc 1, rfl, by omega, by kernel_rfl⟩
  · exact ⟨⟨#[1, 5, 0]⟩, 3, hc 2, rfl, by omega, by kernel_rfl⟩
  · exact ⟨⟨#[2, 3, 97]⟩, 3, hc 3, rfl, by omega, by kernel_rfl⟩

set_option maxRecDepth 100000 in
set_option maxHeartbeats 4000000 in
theorem sane_any (w : World) : Calls Try.prog 10 #[] w fun e w' => e = .returned (.bool true) ∧ Below w.heap.size w w' := by
  go_enter Try.func10, Try.ntmps10
  go_wp2_with fail
  refine (refInt_any _ _).mono ?_
  rintro e w1 ⟨rfl, hb1⟩
  have z1 : w.heap.size ≤ w1.heap.size := hb1.size
  have B1 := Lib.hid hb1
  clear hb1
  go_wp2_with fail
  refine (encode_any i3 w1 0 _ (Nat.zero_le _) (Rd.flat _ _ (by unfold I64; omega) (by unfold I64; omega) (by unfold maxLen; exact Nat.zero_le _)) i3_bulk).mono ?_
  rintro e w2 ⟨hb2, ⟨_, g2, cap2, N2, rfl, hN2, hg2, hO2⟩ | ⟨hbad, _⟩⟩
  rotate_left
  · exact absurd i3_check hbad
  rw [i3_enc] at hN2 hO2
  have hN2' : N2 = 2 := hN2.out
  subst hN2'
  have z2 : w1.heap.size ≤ w2.heap.size := hb2.size
  have B2 := Lib.hid (B1.out.trans (hb2.mono z1))
  have O2 := Lib.hid hO2
  clear hb2 hN2 hO2
  go_wp2_with fail
  refine (refInt_any _ _).mono ?_
  rintro e w3 ⟨rfl, hb3⟩
  have z3 : w2.heap.size ≤ w3.heap.size := hb3.size
  have B3 := Lib.hid (B2.out.trans (hb3.mono (by omega)))
  have O3 := Lib.hid (O2.out.below hb3)
  clear hb3
  go_wp2_with fail
  refine (refText_any _ _).mono ?_
  rintro e w4 ⟨rfl, hb4⟩
  have z4 : w3.heap.size ≤ w4.heap.size := hb4.size
  have B4 := Lib.hid (B3.out.trans (hb4.mono (by omega)))
  have O4 := Lib.hid (O3.out.below hb4)
  clear hb4
  go_wp2_with fail
  have hcs : ∀ i u, [Value.int .i64 1, .int .i64 100, .string ⟨#[]⟩, .slice none 0 0, .int .i64 2, .int .i64 0, .string ⟨#[97, 98]⟩, .slice none 0 0][i]? = some u → (w4.alloc (.cells #[.int .i64 1, .int .i64 100, .string ⟨#[]⟩, .slice none 0 0, .int .i64 2, .int .i64 0, .string ⟨#[97, 98]⟩, .slice none 0 0] 24)).cell? ⟨w4.heap.size, i, none⟩ = some u := fun i u hi => by
    rw [cell_of_row _ _ i _ _ _ (heap_alloc_new w4 _)]
    simpa using hi
  have R4 := Lib.hid (rd_pair (B := (w4.alloc (.cells #[.int .i64 1, .int .i64 100, .string ⟨#[]⟩, .slice none 0 0, .int .i64 2, .int .i64 0, .string ⟨#[97, 98]⟩, .slice none 0 0] 24)).heap.size) (by simp) hcs)
  clear hcs
  refine (refList_any _ _ _ _).mono ?_
  rintro e w5 ⟨rfl, hb5⟩
  have z5 : w4.heap.size + 1 ≤ w5.heap.size := by have := hb5.size; simpa using this
  have hn5 : Below w4.heap.size w4 w5 := ((Below.refl _ _).alloc (Nat.le_refl _) _).trans (hb5.mono (by simp))
  have B5 := Lib.hid (B4.out.trans (hn5.mono (by omega)))
  have O5 := Lib.hid (O4.out.below hn5)
  have R5 := Lib.hid (Rd.below (B' := w5.heap.size) R4.out hb5 hb5.size)
  clear hb5 hn5 R4
  obtain ⟨w6, hw6⟩ : ∃ w6, w6 = w5.alloc (.cells #[.int .i64 3, .int .i64 0, .string ⟨#[]⟩, .slice (some ⟨w4.heap.size, 0, none⟩) 2 2] 24) := ⟨_, rfl⟩
  have hn6 : Below w5.heap.size w5 w6 := by rw [hw6]; exact (Below.refl _ _).alloc (Nat.le_refl _) _
  have z6 : w6.heap.size = w5.heap.size + 1 := by rw [hw6]; simp
  have B6 := Lib.hid (B5.out.trans (hn6.mono (by omega)))
  have O6 := Lib.hid (O5.out.below hn6)
  have R6 := Lib.hid (Rd.below (B' := w6.heap.size) R5.out hn6 (by omega))
  have V6 : Hid (VB w6 w5.heap.size 3 0 (.string ⟨#[]⟩) (.slice (some ⟨w4.heap.size, 0, none⟩) 2 2)) := by
    unfold Hid VB; rw [hw6]; exact heap_alloc_new w5 _
  have W6 := Lib.hid hw6
  clear hn6 hw6 R5 O5
  go_wp2_with fail
  rw [← W6.out]
  refine (encode_any vab w6 w6.heap.size _ (Nat.le_refl _) R6.out vab_bulk).mono ?_
  rintro e w7 ⟨hb7, ⟨_, g7, cap7, N7, rfl, hN7, hg7, hO7⟩ | ⟨hbad, _⟩⟩
  rotate_left
  · exact absurd vab_check hbad
  rw [vab_enc] at hN7 hO7
  have hN7' : N7 = 9 := hN7.out
  subst hN7'
  have z7 : w6.heap.size ≤ w7.heap.size := hb7.size
  have B7 := Lib.hid (B6.out.trans (hb7.mono (by omega)))
  have O7 := Lib.hid hO7
  have O7' := Lib.hid (O6.out.below hb7)
  have R7 := Lib.hid (Rd.below (B' := w7.heap.size) R6.out hb7 z7)
  have V7 := Lib.hid (V6.out.below hb7)
  have hl7 : g7 < w7.heap.size := (World.ownsRow.lt hO7 g7 rfl).2
  have hl2 : g2 < w7.heap.size := (World.ownsRow.lt O7'.out g2 rfl).2
  have hcap7 : 9 ≤ cap7 := by
    rcases hO7.2 with ⟨e, _⟩ | ⟨_, _, _, e, _, _, h1, _⟩
    · cases e
    · injection e with _ _ e; subst e; exact h1
  clear hb7 hN7 hO7 R6 V6 O6
  go_wp2_with fail
  refine (decode_any 9 cap7 (some ⟨g7, 0, none⟩) [3, 2, 1, 200, 1, 2, 2, 97, 98] w7 (O7.out.rdb rfl hl7) (by omega) hcap7).mono ?_
  rintro e w8 ⟨hb8, hd8⟩
  rw [vab_dec] at hd8
  obtain ⟨A8, c8, rfl, hri8⟩ := hd8
  have z8 : w7.heap.size ≤ w8.heap.size := hb8.size
  have B8 := Lib.hid (B7.out.trans (hb8.mono (by omega)))
  have O8 := Lib.hid (O7.out.below hb8)
  have O8' := Lib.hid (O7'.out.below hb8)
  have R8 := Lib.hid (Rd.below (B' := w8.heap.size) R7.out hb8 z8)
  have V8 := Lib.hid (V7.out.below hb8)
  have D8 := Lib.hid hri8.rd
  clear hb8 hri8 R7 V7 O7 O7'
  obtain ⟨w9, hw9⟩ : ∃ w9, w9 = w8.alloc (.cells #[.int .i64 3, .int .i64 0, .string ⟨#[]⟩, .slice A8 2 c8] 24) := ⟨_, rfl⟩
  have hn9 : Below w8.heap.size w8 w9 := by rw [hw9]; exact (Below.refl _ _).alloc (Nat.le_refl _) _
  have z9 : w9.heap.size = w8.heap.size + 1 := by rw [hw9]; simp
  have B9 := Lib.hid (B8.out.trans (hn9.mono (by omega)))
  have O9 := Lib.hid (O8.out.below hn9)
  have O9' := Lib.hid (O8'.out.below hn9)
  have R9 := Lib.hid (Rd.below (B' := w9.heap.size) R8.out hn9 (by omega))
  have D9 := Lib.hid (Rd.below (B' := w9.heap.size) D8.out hn9 (by omega))
  have V9 := Lib.hid (V8.out.below hn9)
  have D9b : Hid (VB w9 w8.heap.size 3 0 (.string ⟨#[]⟩) (.slice A8 2 c8)) := by
    unfold Hid VB; rw [hw9]; exact heap_alloc_new w8 _
  have a0 := V9.out.cell 0
  have a1 := V9.out.cell 1
  have a2 := V9.out.cell 2
  have a3 := V9.out.cell 3
  rw [hw9] at a0 a1 a2 a3
  have W9 := Lib.hid hw9
  clear hn9 hw9 R8 D8 V8 O8 O8'
  go_wp2_with fail
  rw [← W9.out]
  refine (codecSize_any vab w9 w9.heap.size _ (Nat.le_refl _) R9.out vab_bulk).mono ?_
  rintro e w10 ⟨he, hb10⟩
  rw [vab_check, if_pos rfl, vab_enc] at he
  subst he
  have z10 : w9.heap.size ≤ w10.heap.size := hb10.size
  have B10 := Lib.hid (B9.out.trans (hb10.mono (by omega)))
  have O10 := O9.out.below hb10
  have O10' := O9'.out.below hb10
  have R10 := Lib.hid (Rd.below (B' := w10.heap.size) R9.out hb10 z10)
  have D10 := Lib.hid (Rd.below (B' := w10.heap.size) D9.out hb10 z10)
  have V10 := V9.out.below hb10
  have E10 := D9b.out.below hb10
  have cv1 : (convert 27 9 (.slice (some ⟨g2, 0, none⟩) 2 cap2)).run Try.prog w10 = .ok (.string ⟨#[1, 5]⟩) w10 := run_str (O10'.rdb rfl (by omega)) cap2
  have cv2 : (convert 27 9 (.slice (some ⟨g7, 0, none⟩) 9 cap7)).run Try.prog w10 = .ok (.string ⟨#[3, 2, 1, 200, 1, 2, 2, 97, 98]⟩) w10 := run_str (O10.rdb rfl (by omega)) cap7
  clear a0 a1 a2 a3
  have a0 := V10.cell 0
  have a1 := V10.cell 1
  have a2 := V10.cell 2
  have a3 := V10.cell 3
  have e0 := E10.cell 0
  have e1 := E10.cell 1
  have e2 := E10.cell 2
  have e3 := E10.cell 3
  clear hb10 V10 E10 O10 O10' R9 D9 V9 D9b O9 O9'
  go_wp2_with fail
  refine (same_any vab vab w10 w10.heap.size _ _ (Nat.le_refl _) R10.out D10.out).mono ?_
  rintro e w11 ⟨he, hb11⟩
  rw [V.same_refl] at he
  subst he
  have z11 : w10.heap.size ≤ w11.heap.size := hb11.size
  have B11 := Lib.hid (B10.out.trans (hb11.mono (by omega)))
  clear a0 a1 a2 a3 e0 e1 e2 e3 cv1 cv2 hb11
  go_wp2_with fail
  refine (refText_any _ _).mono ?_
  rintro e w12 ⟨rfl, hb12⟩
  have z12 : w11.heap.size ≤ w12.heap.size := hb12.size
  have B12 := Lib.hid (B11.out.trans (hb12.mono (by omega)))
  clear hb12
  go_wp2_with fail
  refine (refList_any _ _ _ _).mono ?_
  rintro e w13 ⟨rfl, hb13⟩
  have z13 : w12.heap.size ≤ w13.heap.size := hb13.size
  have B13 := Lib.hid (B12.out.trans (hb13.mono (by omega)))
  clear hb13
  go_wp2_with fail
  refine (same_any (.mk 2 0 ⟨#[]⟩ []) (.mk 3 0 ⟨#[]⟩ []) w13 0 _ _ (Nat.zero_le _) (Rd.flat _ _ (by unfold I64; omega) (by unfold I64; omega) (by unfold maxLen; exact Nat.zero_le _)) (Rd.flat _ _ (by unfold I64; omega) (by unfold I64; omega) (by unfold maxLen; exact Nat.zero_le _))).mono ?_
  rintro e w14 ⟨he, hb14⟩
  have hs : V.same (.mk 2 0 ⟨#[]⟩ []) (.mk 3 0 ⟨#[]⟩ []) = false := by kernel_rfl
  rw [hs] at he
  subst he
  have z14 : w13.heap.size ≤ w14.heap.size := hb14.size
  have B14 := Lib.hid (B13.out.trans (hb14.mono (by omega)))
  clear hb14 hs
  go_wp2_with fail
  go_loopw [79] (fun i wr => ∃ j : Nat, j ≤ 4 ∧ i = .int .i64 j ∧ Hid (Below w.heap.size w wr) ∧ Hid (BadRow wr w14.heap.size) ∧ w.heap.size ≤ wr.heap.size) (fun i _ => 4 - (intOf i).toNat)
  case atStart => exact ⟨0, by omega, rfl, B14.out.trans (((Below.refl _ _).alloc (Nat.le_refl _) _).mono (by omega)), badRow_new w14, by simp; omega⟩
  case round =>
    obtain ⟨j, hj, rfl, HB, HR, hz⟩ := hrel
    by_cases hlt : j < 4
    · obtain ⟨s, n, hcell, hsn, hn3, hdec⟩ := HR.out j hlt
      obtain ⟨X, C, hcv, hbX, hzX, hrX, hC⟩ := conv_bytes wr s n hsn
      have HBX := Lib.hid hbX
      have HRX := Lib.hid hrX
      have HDE := Lib.hid hdec
      clear hbX hrX hdec hsn
      go_wp2_with fail
      refine (decode_any n C (some ⟨wr.heap.size, 0, none⟩) s.data.toList X HRX.out (by omega) hC).mono ?_
      rintro e w15 ⟨hb15, hd15⟩
      rw [HDE.out] at hd15
      replace hd15 : e = .returned (.tuple #[.agg #[.int .i64 0, .int .i64 0, .string ⟨#[]⟩, .slice none 0 0], .int .i64 10]) := hd15
      subst hd15
      have z15 : X.heap.size ≤ w15.heap.size := hb15.size
      have hn15 : Below wr.heap.size wr w15 := HBX.out.trans (hb15.mono hzX)
      have hn16 : ∀ o, Below wr.heap.size wr (w15.alloc o) := fun o => hn15.alloc (by omega) o
      have HB15 : Hid (∀ o, Below w.heap.size w (w15.alloc o)) := fun o => HB.out.trans ((hn16 o).mono hz)
      have HR15 : Hid (∀ o, BadRow (w15.alloc o) w14.heap.size) := fun o => HR.out.below (hn16 o)
      clear hb15 hn15 hn16 hcell hcv
      go_wp2_with fail
      go_roundw
      case rel => exact ⟨j + 1, by omega, by go_num, HB15.out _, HR15.out _, by simp; omega⟩
      case measure => simp [intOf]; omega
    · have hje : j = 4 := by omega
      subst hje
      go_wp2_with fail
      refine (check_any (.mk 0 0 ⟨#[]⟩ []) wr 0 _ (Nat.zero_le _) (Rd.flat _ _ (by unfold I64; omega) (by unfold I64; omega) (by unfold maxLen; exact Nat.zero_le _)) (by simp [V.bulk, V.bulkAll, ByteArray.size])).mono ?_
      rintro e w15 ⟨he, hb15⟩
      have hck : V.check (.mk 0 0 ⟨#[]⟩ []) = 1 := by kernel_rfl
      rw [hck] at he
      subst he
      have HB15 := Lib.hid (HB.out.trans (hb15.mono hz))
      clear hb15 hck
      go_wp2_with fail
      go_ret
      exact ⟨rfl, HB15.out⟩
end Go.Proofs.Ytbcaanadmfnegaa
