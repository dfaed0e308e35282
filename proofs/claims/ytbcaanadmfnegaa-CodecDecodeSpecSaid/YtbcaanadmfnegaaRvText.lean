/- The reference's Value at a text. -/
import Derived.Test.YtbcaanadmfnegaaRv
namespace Go.Proofs.Ytbcaanadmfnegaa
open Go.RowKit

theorem rdB_none (w : World) (B : Nat) (A : Option Addr) (xs : List UInt8) : RdB w B A 0 (xs.take 0) := ⟨rfl, fun h => absurd h (by omega)⟩

set_option maxRecDepth 100000 in
set_option maxHeartbeats 4000000 in
theorem rv_text (d r n c p B : Nat) (A : Option Addr) (xs : List UInt8) (w : World) (h : RR w r A n c p false) (hb : RdB w B A n xs) (hB : B ≤ r) (hn : n ≤ 1099511627776) (hc : n ≤ c) (b : UInt8) (hbx : xs[p]? = some b) (e1 : b.toNat = 2) :
    Calls Try.prog 35 #[.pointer (some ⟨r, 0, none⟩), .int .i64 (16 - (d : Int))] w (RVal w r A n c p xs d) := by
  have hxl1 : xs.length ≤ n := by rw [hb.1]; exact Nat.le_refl _
  have hxl2 : n ≤ xs.length := by rw [← hb.1]; exact Nat.le_refl _
  have hr := h.lt
  obtain ⟨W, hW⟩ : ∃ W : World, W = w.alloc (.cells #[.int .i64 0, .int .i64 0, .string ⟨#[]⟩, .slice none 0 0] 24) := ⟨_, rfl⟩
  have hWb : Below w.heap.size w W := by rw [hW]; exact below_box _
  have hWz : W.heap.size = w.heap.size + 1 := by rw [hW]; simp
  have HWV : Hid (VB W w.heap.size 0 0 (.string ⟨#[]⟩) (.slice none 0 0)) := by unfold Hid; rw [hW]; exact vb_new _ _ _ _ _
  have HWR := Lib.hid (h.below hWb)
  have HWT : Hid (Turn w W r) := Turn.of_below hWb
  have HB := Lib.hid (hb.below (hWb.mono (by omega)))
  have HW := Lib.hid hW
  clear h hb hWb hW
  have hlt : p < xs.length := (List.getElem?_eq_some_iff.1 hbx).1
  obtain ⟨bb, o, rfl, hbb, _⟩ := HB.out.2 (by omega)
  have hdr : xs.drop p = b :: xs.drop (p + 1) := by
    rw [List.drop_eq_getElem_cons hlt]
    congr 1
    rw [List.getElem?_eq_getElem hlt] at hbx
    exact Option.some.inj hbx
  have HBX := Lib.hid hbx
  have HDR := Lib.hid hdr
  clear hdr hbx
  have hbi : (b.toNat : Int) = 2 := by omega
  have HRV : Hid (rval d (xs.drop p) = rtext (xs.drop (p + 1))) := by
    have hb1 : b = 2 := UInt8.toNat_inj.1 e1
    unfold Hid; rw [HDR.out, rval_not3 d b _ (by rw [hb1]; decide), if_neg (by rw [hb1]; decide), if_pos hb1]
  go_enter Try.func35, Try.ntmps35
  go_wp2_with fail
  rw [← HW.out]
  refine (next_yes r n c p B _ false xs b W HWR.out HB.out hB hn hc HBX.out).mono ?_
  rintro e w1 ⟨he, h1, h2⟩
  rw [hbi] at he
  subst he
  have hz1 : W.heap.size ≤ w1.heap.size := h2.size
  have v1 := HWV.out.grown h2 (by intro e; injection e with e; omega)
  have HV1 := Lib.hid v1
  have H1 := Lib.hid h1
  have H2 := Lib.hid (HWT.out.trans h2)
  have HB1 := Lib.hid (HB.out.below (h2.below hB HWR.out.lt))
  clear h1 h2 v1 hbi e1
  go_wp2_with fail
  refine (number_any r n c (p + 1) B _ xs w1 H1.out HB1.out hB hn hc (by omega)).mono ?_
  rintro e w2 ⟨h3, q, hq1, hq2, hm⟩
  have hz2 : w1.heap.size ≤ w2.heap.size := h3.size
  have v2 := HV1.out.grown h3 (by intro e; injection e with e; omega)
  have HV2 := Lib.hid v2
  have b0 := v2.cell 0
  have b1 := v2.cell 1
  have b2 := v2.cell 2
  have b3 := v2.cell 3
  have q0 := v2.frozen 0
  have q1 := v2.frozen 1
  have q2 := v2.frozen 2
  have q3 := v2.frozen 3
  have H3 := Lib.hid (H2.out.trans h3)
  have HB2 := Lib.hid (HB1.out.below (h3.below hB H1.out.lt))
  clear h3 v2
  cases hres : rnum 0 0 (xs.drop (p + 1)) with
  | none =>
    rw [hres] at hm
    have HX : Hid (rval d (xs.drop p) = none) := by unfold Hid; rw [HRV.out, rtext, hres]
    obtain ⟨⟨u, hu, rfl⟩, h4⟩ := hm
    have H4 := Lib.hid h4
    clear h4 hres
    have k0 := H4.out.cell0
    have k1 := H4.out.cell1
    have k2 := H4.out.cell2
    have f2 := H4.out.frozen 2
    have f1 := H4.out.frozen 1
    go_wp2_with fail
    go_quiet (fail)
    go_wp2_with fail
    refine bodyPost_ret (v := .agg #[.int .i64 0, .int .i64 0, .string ⟨#[]⟩, .slice none 0 0]) (by simp [results, Try.results35, go_sem, b0, b1, b2, b3]) rfl ?_
    exact (rval_bad hr H3.out (by omega) H4.out (by omega) hq2 HX.out).drewN _
  | some pr =>
    obtain ⟨u, rest⟩ := pr
    have hul := (rnum_inv0 hres).2
    rw [hres] at hm
    have HRT : Hid (rval d (xs.drop p) = if u ≤ rest.length then some (.mk 2 0 ⟨(rest.take u).toArray⟩ [], rest.drop u) else none) := by unfold Hid; rw [HRV.out, rtext, hres]
    obtain ⟨rfl, h4, h5⟩ := hm
    have hrl1 : rest.length ≤ n - q := by rw [← h5, List.length_drop]; omega
    have hrl2 : n - q ≤ rest.length := by rw [← h5, List.length_drop]; omega
    have H4 := Lib.hid h4
    have H5 := Lib.hid h5
    clear h4 h5 hres
    have k0 := H4.out.drew.cell0
    have k1 := H4.out.drew.cell1
    have k2 := H4.out.drew.cell2
    have f2 := H4.out.drew.frozen 2
    have f1 := H4.out.drew.frozen 1
    have j1 : IntKind.i64.wrap ((n : Int) - (q : Int)) = (n : Int) - (q : Int) := IntWalk.i64_in _ (by omega)
    have j2 : IntKind.u64.wrap ((n : Int) - (q : Int)) = (n : Int) - (q : Int) := IntWalk.u64_in _ (by omega)
    by_cases hu : u ≤ n - q
    · have g1 : decide ((n : Int) - (q : Int) < (u : Int)) = false := by simp; omega
      have HX : Hid (rval d (xs.drop p) = some (.mk 2 0 ⟨((xs.drop q).take u).toArray⟩ [], xs.drop (q + u))) := by
        unfold Hid; rw [HRT.out, if_pos (by omega), ← H5.out, List.drop_drop]
      go_wp2_with fail
      go_region_held3 (fun w' => w'.cell? ⟨r, 0, none⟩ = some (.slice (some ⟨bb, o, none⟩) n c) ∧ w'.cell? ⟨r, 1, none⟩ = some (.int .i64 (q : Int)) ∧ w'.cell? ⟨r, 2, none⟩ = some (.bool false)) (first | assumption | exact ⟨k0, k1, k2⟩) (fail)
      go_wp2_with fail
      generalize hW3 : (w2.setCell ⟨r, 1, none⟩ (.int .i64 ((q : Int) + (u : Int)))).drew = W3
      have e3 : ((q + u : Nat) : Int) = (q : Int) + (u : Int) := by omega
      have HR3 : Hid (RR W3 r (some ⟨bb, o, none⟩) n c (q + u) false) := by
        unfold Hid; rw [← hW3, ← e3]; exact H4.out.setAt (q + u)
      have HT3 : Hid (Turn w W3 r) := by
        unfold Hid; rw [← hW3]
        exact (H3.out.trans (turn_setCell _ r 1 _)).drew
      have hz3 : w2.heap.size ≤ W3.heap.size := by rw [← hW3]; simp [World.setCell]
      have HB3 : Hid (RdB W3 B (some ⟨bb, o, none⟩) n xs) := by
        unfold Hid; rw [← hW3]; exact HB2.out.set (by exact hB) _
      have HV3 : Hid (VB W3 w.heap.size 0 0 (.string ⟨#[]⟩) (.slice none 0 0)) := by
        unfold Hid; rw [← hW3]; exact HV2.out.far (by show w.heap.size ≠ r; omega) _
      clear hW3 b0 b1 b2 b3 q0 q1 q2 q3 k0 k1 k2 f1 f2 j1 j2 g1
      have v3 := HV3.out
      have b0 := v3.cell 0
      have b1 := v3.cell 1
      have b2 := v3.cell 2
      have b3 := v3.cell 3
      have q0 := v3.frozen 0
      have q1 := v3.frozen 1
      have q2 := v3.frozen 2
      have q3 := v3.frozen 3
      have k0 := HR3.out.cell0
      have k1 := HR3.out.cell1
      rw [e3] at k1
      clear v3 e3
      have j3 : IntKind.i64.wrap ((q : Int) + (u : Int) - (u : Int)) = (q : Int) := by
        rw [show (q : Int) + (u : Int) - (u : Int) = (q : Int) by omega]; exact IntWalk.i64_in _ (by omega)
      have j4 : IntKind.i64.wrap (q : Int) = (q : Int) := IntWalk.i64_in _ (by omega)
      have j5 : IntKind.i64.wrap (u : Int) = (u : Int) := IntWalk.i64_in _ (by omega)
      obtain ⟨s1, hs1⟩ : ∃ s1 : ByteArray, s1 = ⟨((xs.drop q).take u).toArray⟩ := ⟨_, rfl⟩
      have hsz : Hid (s1.size ≤ maxLen) := by
        unfold Hid; rw [hs1]
        show (List.toArray _).size ≤ _
        rw [List.size_toArray]
        exact Nat.le_trans (List.length_take_le _ _) (by unfold maxLen; omega)
      have i0 : (0 : Int) ≤ (q : Int) := by omega
      have i1 : (q : Int) ≤ (q : Int) + (u : Int) := by omega
      have i2 : (q : Int) + (u : Int) ≤ (c : Int) := by omega
      have i3 : ((q : Int) + (u : Int)).toNat = q + u := by omega
      have j6 : (q : Int) + (u : Int) - (u : Int) = (q : Int) := by omega
      by_cases hqc : q < c
      · have hcq : ¬ c = q := by omega
        have HS0 : Hid ((fun w' : World => w'.cell? ⟨r, 0, none⟩ = some (.slice (some ⟨bb, o, none⟩) n c) ∧ w'.cell? ⟨r, 1, none⟩ = some (.int .i64 ((q : Int) + (u : Int))) ∧ (convert 27 9 (.slice (some ⟨bb, o + q, none⟩) u (c - q))).run Try.prog w' = .ok (.string s1) w') W3.drew) := ⟨k0, k1, by rw [hs1]; exact run_str (B := B) (RdB.keep (w' := W3.drew) (rdB_sub HB3.out (by omega)) fun _ _ => rfl) (c - q)⟩
        have HK : Hid (∀ (k m : Int) (t : ByteArray) (x : Value), (fun w' : World => w'.cell? ⟨r, 0, none⟩ = some (.slice (some ⟨bb, o, none⟩) n c) ∧ w'.cell? ⟨r, 1, none⟩ = some (.int .i64 ((q : Int) + (u : Int))) ∧ (convert 27 9 (.slice (some ⟨bb, o + q, none⟩) u (c - q))).run Try.prog w' = .ok (.string s1) w') (box4 W3.drew w.heap.size k m t x)) := fun k m t x => by
          refine ⟨?_, ?_, ?_⟩
          · rw [cell_box4 _ _ _ _ (by show r ≠ w.heap.size; omega)]; exact k0
          · rw [cell_box4 _ _ _ _ (by show r ≠ w.heap.size; omega)]; exact k1
          · rw [hs1]; exact run_str (B := B) (RdB.keep (w' := box4 W3.drew w.heap.size k m t x) (rdB_sub HB3.out (by omega)) fun p hp => cell_box4 _ _ _ _ (by omega)) (c - q)
        have HS1 := Lib.hid hs1
        clear hs1 HB3
        go_region_held3 (fun w' => w'.cell? ⟨r, 0, none⟩ = some (.slice (some ⟨bb, o, none⟩) n c) ∧ w'.cell? ⟨r, 1, none⟩ = some (.int .i64 ((q : Int) + (u : Int))) ∧ (convert 27 9 (.slice (some ⟨bb, o + q, none⟩) u (c - q))).run Try.prog w' = .ok (.string s1) w')
          (first | assumption | exact HS0.out | exact HK.out _ _ _ _) (fail)
        all_goals
          go_wp2_with fail
          refine bodyPost_ret (v := .agg #[.int .i64 2, .int .i64 0, .string s1, .slice none 0 0]) (by simp [results, Try.results35, go_sem, b0, b1, b2, b3]) rfl ?_
          refine (rval_end (bad := false) hr HT3.out (by omega) HR3.out (by omega) (by omega) ?_).drew
          rw [if_neg (by decide)]
          exact ⟨[], rfl, by rw [HX.out, HS1.out], rdi_flat _ _ _ _ _ _ (by unfold I64; omega) (by unfold I64; omega) hsz.out⟩
      · obtain rfl : c = q := by omega
        obtain rfl : u = 0 := by omega
        have k1c : W3.drew.cell? ⟨r, 1, none⟩ = some (.int .i64 (c : Int)) := by simpa using k1
        have i4 : (0 : Int) ≤ (c : Int) := by omega
        have w0 : IntKind.i64.wrap 0 = 0 := by decide
        clear k1 i0 i1 i2 i3 j3 j6
        have HS0 : Hid ((fun w' : World => w'.cell? ⟨r, 0, none⟩ = some (.slice (some ⟨bb, o, none⟩) n c) ∧ w'.cell? ⟨r, 1, none⟩ = some (.int .i64 (c : Int)) ∧ (convert 27 9 (.slice (some ⟨bb, o, none⟩) 0 0)).run Try.prog w' = .ok (.string s1) w') W3.drew) := ⟨k0, k1c, by rw [hs1]; exact run_str (B := B) (RdB.keep (w' := W3.drew) (rdB_none _ _ _ _) fun _ _ => rfl) 0⟩
        have HK : Hid (∀ (k m : Int) (t : ByteArray) (x : Value), (fun w' : World => w'.cell? ⟨r, 0, none⟩ = some (.slice (some ⟨bb, o, none⟩) n c) ∧ w'.cell? ⟨r, 1, none⟩ = some (.int .i64 (c : Int)) ∧ (convert 27 9 (.slice (some ⟨bb, o, none⟩) 0 0)).run Try.prog w' = .ok (.string s1) w') (box4 W3.drew w.heap.size k m t x)) := fun k m t x => by
          refine ⟨?_, ?_, ?_⟩
          · rw [cell_box4 _ _ _ _ (by show r ≠ w.heap.size; omega)]; exact k0
          · rw [cell_box4 _ _ _ _ (by show r ≠ w.heap.size; omega)]; exact k1c
          · rw [hs1]; exact run_str (B := B) (RdB.keep (w' := box4 W3.drew w.heap.size k m t x) (rdB_none _ _ _ _) fun p hp => cell_box4 _ _ _ _ (by omega)) 0
        have HS1 := Lib.hid hs1
        clear hs1 HB3
        go_region_held3 (fun w' => w'.cell? ⟨r, 0, none⟩ = some (.slice (some ⟨bb, o, none⟩) n c) ∧ w'.cell? ⟨r, 1, none⟩ = some (.int .i64 (c : Int)) ∧ (convert 27 9 (.slice (some ⟨bb, o, none⟩) 0 0)).run Try.prog w' = .ok (.string s1) w')
          (first | assumption | exact HS0.out | exact HK.out _ _ _ _) (fail)
        all_goals
          go_wp2_with fail
          refine bodyPost_ret (v := .agg #[.int .i64 2, .int .i64 0, .string s1, .slice none 0 0]) (by simp [results, Try.results35, go_sem, b0, b1, b2, b3]) rfl ?_
          refine (rval_end (bad := false) hr HT3.out (by omega) HR3.out (by omega) (by omega) ?_).drew
          rw [if_neg (by decide)]
          exact ⟨[], rfl, by rw [HX.out, HS1.out], rdi_flat _ _ _ _ _ _ (by unfold I64; omega) (by unfold I64; omega) hsz.out⟩
    · have g1 : decide ((n : Int) - (q : Int) < (u : Int)) = true := by simp; omega
      have HX : Hid (rval d (xs.drop p) = none) := by unfold Hid; rw [HRT.out, if_neg (by omega)]
      go_wp2_with fail
      go_region_held3 (fun w' => w'.cell? ⟨r, 0, none⟩ = some (.slice (some ⟨bb, o, none⟩) n c) ∧ w'.cell? ⟨r, 1, none⟩ = some (.int .i64 (q : Int)) ∧ w'.cell? ⟨r, 2, none⟩ = some (.bool false)) (first | assumption | exact ⟨k0, k1, k2⟩) (fail)
      go_wp2_with fail
      refine bodyPost_ret (v := .agg #[.int .i64 0, .int .i64 0, .string ⟨#[]⟩, .slice none 0 0]) (by simp [results, Try.results35, go_sem, b0, b1, b2, b3]) rfl ?_
      exact (rval_bad hr H3.out (by omega) H4.out (by omega) hq2 HX.out).drew
end Go.Proofs.Ytbcaanadmfnegaa
