/- The reference's Value at an integer. -/
import Derived.Test.YtbcaanadmfnegaaRv
namespace Go.Proofs.Ytbcaanadmfnegaa
open Go.RowKit

set_option maxRecDepth 100000 in
set_option maxHeartbeats 4000000 in
theorem rv_int (d r n c p B : Nat) (A : Option Addr) (xs : List UInt8) (w : World) (h : RR w r A n c p false) (hb : RdB w B A n xs) (hB : B ≤ r) (hn : n ≤ 1099511627776) (hc : n ≤ c) (b : UInt8) (hbx : xs[p]? = some b) (e1 : b.toNat = 1) :
    Calls Try.prog 35 #[.pointer (some ⟨r, 0, none⟩), .int .i64 (16 - (d : Int))] w (RVal w r A n c p xs d) := by
  have hxl1 : xs.length ≤ n := by rw [hb.1]; exact Nat.le_refl _
  have hxl2 : n ≤ xs.length := by rw [← hb.1]; exact Nat.le_refl _
  have hr := h.lt
  obtain ⟨W, hW⟩ : ∃ W : World, W = w.alloc (.cells #[.int .i64 0, .int .i64 0, .string ⟨#[]⟩, .slice none 0 0] 24) := ⟨_, rfl⟩
  have hWb : Below w.heap.size w W := by rw [hW]; exact below_box _
  have hWz : W.heap.size = w.heap.size + 1 := by rw [hW]; simp
  have HWV : Hid (VB W w.heap.size 0 0 (.string ⟨#[]⟩) (.slice none 0 0)) := by unfold Hid; rw [hW]; exact vb_new _ _ _ _ _
  have HWR := Lib.hid (h.below hWb)
  have HWT : Hid (Turn w W r) := Turn.of_below hWb
  have HB := Lib.hid (hb.below (hWb.mono (by omega)))
  have HW := Lib.hid hW
  clear h hb hWb hW
  have hlt : p < xs.length := (List.getElem?_eq_some_iff.1 hbx).1
  obtain ⟨bb, o, rfl, hbb, _⟩ := HB.out.2 (by omega)
  have hdr : xs.drop p = b :: xs.drop (p + 1) := by
    rw [List.drop_eq_getElem_cons hlt]
    congr 1
    rw [List.getElem?_eq_getElem hlt] at hbx
    exact Option.some.inj hbx
  have HBX := Lib.hid hbx
  have HDR := Lib.hid hdr
  clear hdr hbx
  have hbi : (b.toNat : Int) = 1 := by omega
  have HRV : Hid (rval d (xs.drop p) = rint (xs.drop (p + 1))) := by
    have hb1 : b = 1 := UInt8.toNat_inj.1 e1
    unfold Hid; rw [HDR.out, rval_not3 d b _ (by rw [hb1]; decide), if_pos hb1]
  go_enter Try.func35, Try.ntmps35
  go_wp2_with fail
  rw [← HW.out]
  refine (next_yes r n c p B _ false xs b W HWR.out HB.out hB hn hc HBX.out).mono ?_
  rintro e w1 ⟨he, h1, h2⟩
  rw [hbi] at he
  subst he
  have hz1 : W.heap.size ≤ w1.heap.size := h2.size
  have v1 := HWV.out.grown h2 (by intro e; injection e with e; omega)
  have HV1 := Lib.hid v1
  have H1 := Lib.hid h1
  have H2 := Lib.hid (HWT.out.trans h2)
  have HB1 := Lib.hid (HB.out.below (h2.below hB HWR.out.lt))
  clear h1 h2 v1 hbi e1
  go_wp2_with fail
  refine (number_any r n c (p + 1) B _ xs w1 H1.out HB1.out hB hn hc (by omega)).mono ?_
  rintro e w2 ⟨h3, q, hq1, hq2, hm⟩
  have hz2 : w1.heap.size ≤ w2.heap.size := h3.size
  have v2 := HV1.out.grown h3 (by intro e; injection e with e; omega)
  have HV2 := Lib.hid v2
  have b0 := v2.cell 0
  have b1 := v2.cell 1
  have b2 := v2.cell 2
  have b3 := v2.cell 3
  have q0 := v2.frozen 0
  have q1 := v2.frozen 1
  have q2 := v2.frozen 2
  have q3 := v2.frozen 3
  have H3 := Lib.hid (H2.out.trans h3)
  have HB2 := Lib.hid (HB1.out.below (h3.below hB H1.out.lt))
  clear h3 v2
  cases hres : rnum 0 0 (xs.drop (p + 1)) with
  | none =>
    rw [hres] at hm
    have HX : Hid (rval d (xs.drop p) = none) := by unfold Hid; rw [HRV.out, rint, hres]
    obtain ⟨⟨u, hu, rfl⟩, h4⟩ := hm
    have H4 := Lib.hid h4
    clear h4 hres
    by_cases hpar : (u : Int) % 2 = 1
    · skip
      have hb : ((u : Int) % 2 == 1) = true := by simpa using hpar
      clear hpar
      go_wp2_with fail
      refine bodyPost_ret (v := .agg #[.int .i64 1, .int .i64 (-((u : Int) / 2) - 1), .string ⟨#[]⟩, .slice none 0 0]) (by simp [results, Try.results35, go_sem, b0, b1, b2, b3]) rfl ?_
      exact rval_end (bad := true) hr H3.out (by omega) H4.out (by omega) hq2 (by rw [if_pos rfl]; exact HX.out)
    · skip
      have hb : ((u : Int) % 2 == 1) = false := by simpa using hpar
      clear hpar
      go_wp2_with fail
      refine bodyPost_ret (v := .agg #[.int .i64 1, .int .i64 ((u : Int) / 2), .string ⟨#[]⟩, .slice none 0 0]) (by simp [results, Try.results35, go_sem, b0, b1, b2, b3]) rfl ?_
      exact rval_end (bad := true) hr H3.out (by omega) H4.out (by omega) hq2 (by rw [if_pos rfl]; exact HX.out)
  | some pr =>
    obtain ⟨u, rest⟩ := pr
    have hul := (rnum_inv0 hres).2
    rw [hres] at hm
    have HX : Hid (rval d (xs.drop p) = some (.mk 1 (sform (u : Int)) ⟨#[]⟩ [], rest)) := by unfold Hid; rw [HRV.out, rint, hres]
    obtain ⟨rfl, h4, h5⟩ := hm
    have H4 := Lib.hid h4
    have H5 := Lib.hid h5
    clear h4 h5 hres
    by_cases hpar : (u : Int) % 2 = 1
    · skip
      have E : Hid (sform (u : Int) = -((u : Int) / 2) - 1) := by unfold Hid; unfold sform; rw [if_pos hpar]
      have hb : ((u : Int) % 2 == 1) = true := by simpa using hpar
      clear hpar
      go_wp2_with fail
      refine bodyPost_ret (v := .agg #[.int .i64 1, .int .i64 (-((u : Int) / 2) - 1), .string ⟨#[]⟩, .slice none 0 0]) (by simp [results, Try.results35, go_sem, b0, b1, b2, b3]) rfl ?_
      exact rval_end (bad := false) hr H3.out (by omega) H4.out (by omega) hq2 (by rw [if_neg (by decide)]; exact ⟨[], rfl, by rw [HX.out, H5.out, E.out], rdi_flat _ _ _ _ _ _ (by unfold I64; omega) (by unfold I64; omega) (by unfold maxLen; exact Nat.zero_le _)⟩)
    · skip
      have E : Hid (sform (u : Int) = (u : Int) / 2) := by unfold Hid; unfold sform; rw [if_neg hpar]
      have hb : ((u : Int) % 2 == 1) = false := by simpa using hpar
      clear hpar
      go_wp2_with fail
      refine bodyPost_ret (v := .agg #[.int .i64 1, .int .i64 ((u : Int) / 2), .string ⟨#[]⟩, .slice none 0 0]) (by simp [results, Try.results35, go_sem, b0, b1, b2, b3]) rfl ?_
      exact rval_end (bad := false) hr H3.out (by omega) H4.out (by omega) hq2 (by rw [if_neg (by decide)]; exact ⟨[], rfl, by rw [HX.out, H5.out, E.out], rdi_flat _ _ _ _ _ _ (by unfold I64; omega) (by unfold I64; omega) (by unfold maxLen; exact Nat.zero_le _)⟩)
end Go.Proofs.Ytbcaanadmfnegaa
