/- The reference's Value at a list: the walk. -/
import Derived.Test.YtbcaanadmfnegaaRvList
namespace Go.Proofs.Ytbcaanadmfnegaa
open Go.RowKit

set_option maxRecDepth 100000 in
set_option maxHeartbeats 4000000 in
theorem rv_list (d r n c p B : Nat) (A : Option Addr) (xs : List UInt8) (w : World) (h : RR w r A n c p false) (hb : RdB w B A n xs) (hB : B ≤ r) (hn : n ≤ 1099511627776) (hc : n ≤ c) (b : UInt8) (hbx : xs[p]? = some b) (e1 : b.toNat = 3) (IH : ∀ d', d = d' + 1 → VOkR d') (hd : d ≤ 16) :
    Calls Try.prog 35 #[.pointer (some ⟨r, 0, none⟩), .int .i64 (16 - (d : Int))] w (RVal w r A n c p xs d) := by
  have hxl1 : xs.length ≤ n := by rw [hb.1]; exact Nat.le_refl _
  have hxl2 : n ≤ xs.length := by rw [← hb.1]; exact Nat.le_refl _
  have hr := h.lt
  obtain ⟨W, hW⟩ : ∃ W : World, W = w.alloc (.cells #[.int .i64 0, .int .i64 0, .string ⟨#[]⟩, .slice none 0 0] 24) := ⟨_, rfl⟩
  have hWb : Below w.heap.size w W := by rw [hW]; exact below_box _
  have hWz : W.heap.size = w.heap.size + 1 := by rw [hW]; simp
  have HWV : Hid (VB W w.heap.size 0 0 (.string ⟨#[]⟩) (.slice none 0 0)) := by unfold Hid; rw [hW]; exact vb_new _ _ _ _ _
  have HWR := Lib.hid (h.below hWb)
  have HWT : Hid (Turn w W r) := Turn.of_below hWb
  have HB := Lib.hid (hb.below (hWb.mono (by omega)))
  have HB0 := Lib.hid hb
  have HW := Lib.hid hW
  clear h hb hWb hW
  have hlt : p < xs.length := (List.getElem?_eq_some_iff.1 hbx).1
  obtain ⟨bb, o, rfl, hbb, _⟩ := HB.out.2 (by omega)
  have hdr : xs.drop p = b :: xs.drop (p + 1) := by
    rw [List.drop_eq_getElem_cons hlt]
    congr 1
    rw [List.getElem?_eq_getElem hlt] at hbx
    exact Option.some.inj hbx
  have HBX := Lib.hid hbx
  have HDR := Lib.hid hdr
  clear hdr hbx
  have HIH := Lib.hid IH
  clear IH
  have hbi : (b.toNat : Int) = 3 := by omega
  have HR0 : Hid (d = 0 → rval d (xs.drop p) = none) := by
    have hb1 : b = 3 := UInt8.toNat_inj.1 e1
    rintro rfl
    rw [HDR.out, hb1]; rfl
  have HRS : Hid (∀ d', d = d' + 1 → rval d (xs.drop p) = rlst (rval d') (xs.drop (p + 1))) := by
    have hb1 : b = 3 := UInt8.toNat_inj.1 e1
    rintro d' rfl
    rw [HDR.out, hb1]; rfl
  go_enter Try.func35, Try.ntmps35
  go_wp2_with fail
  rw [← HW.out]
  refine (next_yes r n c p B _ false xs b W HWR.out HB.out hB hn hc HBX.out).mono ?_
  rintro e w1 ⟨he, h1, h2⟩
  rw [hbi] at he
  subst he
  have hz1 : W.heap.size ≤ w1.heap.size := h2.size
  have v1 := HWV.out.grown h2 (by intro e; injection e with e; omega)
  have HV1 := Lib.hid v1
  have H1 := Lib.hid h1
  have H2 := Lib.hid (HWT.out.trans h2)
  have HB1 := Lib.hid (HB.out.below (h2.below hB HWR.out.lt))
  clear h1 h2 v1 hbi e1
  go_wp2_with fail
  refine (number_any r n c (p + 1) B _ xs w1 H1.out HB1.out hB hn hc (by omega)).mono ?_
  rintro e w2 ⟨h3, q, hq1, hq2, hm⟩
  have hz2 : w1.heap.size ≤ w2.heap.size := h3.size
  have v2 := HV1.out.grown h3 (by intro e; injection e with e; omega)
  have HV2 := Lib.hid v2
  have b0 := v2.cell 0
  have b1 := v2.cell 1
  have b2 := v2.cell 2
  have b3 := v2.cell 3
  have q0 := v2.frozen 0
  have q1 := v2.frozen 1
  have q2 := v2.frozen 2
  have q3 := v2.frozen 3
  have H3 := Lib.hid (H2.out.trans h3)
  have HB2 := Lib.hid (HB1.out.below (h3.below hB H1.out.lt))
  clear h3 v2
  cases hres : rnum 0 0 (xs.drop (p + 1)) with
  | none =>
    rw [hres] at hm
    have HX : Hid (rval d (xs.drop p) = none) := by
      unfold Hid
      rcases Nat.eq_zero_or_pos d with h0 | h0
      · exact HR0.out h0
      · rw [HRS.out (d - 1) (by omega), rlst, hres]
    obtain ⟨⟨u, hu, rfl⟩, h4⟩ := hm
    have H4 := Lib.hid h4
    clear h4 hres
    have k0 := H4.out.cell0
    have k1 := H4.out.cell1
    have k2 := H4.out.cell2
    have f2 := H4.out.frozen 2
    go_wp2_with fail
    go_quiet (fail)
    go_wp2_with fail
    refine bodyPost_ret (v := .agg #[.int .i64 0, .int .i64 0, .string ⟨#[]⟩, .slice none 0 0]) (by simp [results, Try.results35, go_sem, b0, b1, b2, b3]) rfl ?_
    exact (rval_bad hr H3.out (by omega) H4.out (by omega) hq2 HX.out).drewN _
  | some pr =>
    obtain ⟨u, rest⟩ := pr
    have hul := (rnum_inv0 hres).2
    rw [hres] at hm
    have HRT : Hid (∀ d', d = d' + 1 → rval d (xs.drop p) = match rlist (rval d') u rest with | none => none | some (l, r') => some (.mk 3 0 ⟨#[]⟩ l, r')) := by
      intro d' hd'; rw [HRS.out d' hd', rlst, hres]; rfl
    obtain ⟨rfl, h4, h5⟩ := hm
    have hrl1 : rest.length ≤ n - q := by rw [← h5, List.length_drop]; omega
    have H4 := Lib.hid h4
    have H5 := Lib.hid h5
    clear h4 h5 hres
    have j1 : IntKind.i64.wrap ((n : Int) - (q : Int)) = (n : Int) - (q : Int) := IntWalk.i64_in _ (by omega)
    have j2 : IntKind.u64.wrap ((n : Int) - (q : Int)) = (n : Int) - (q : Int) := IntWalk.u64_in _ (by omega)
    by_cases hu : u ≤ n - q
    · have g1 : decide ((n : Int) - (q : Int) < (u : Int)) = false := by simp; omega
      have k0 := H4.out.drew.cell0
      have k1 := H4.out.drew.cell1
      have k2 := H4.out.drew.cell2
      have f2 := H4.out.drew.frozen 2
      cases d with
      | zero =>
        have HX := Lib.hid (HR0.out rfl)
        go_wp2_with fail
        go_region_held3 (fun w' => w'.cell? ⟨r, 0, none⟩ = some (.slice (some ⟨bb, o, none⟩) n c) ∧ w'.cell? ⟨r, 1, none⟩ = some (.int .i64 (q : Int)) ∧ w'.cell? ⟨r, 2, none⟩ = some (.bool false)) (first | assumption | exact ⟨k0, k1, k2⟩) (fail)
        go_wp2_with fail
        refine bodyPost_ret (v := .agg #[.int .i64 0, .int .i64 0, .string ⟨#[]⟩, .slice none 0 0]) (by simp [results, Try.results35, go_sem, b0, b1, b2, b3]) rfl ?_
        exact (rval_bad hr H3.out (by omega) H4.out (by omega) hq2 HX.out).drew
      | succ d =>
        have gd : (16 - (((d + 1 : Nat)) : Int) == 16) = false := by simp; omega
        have gd2 : (16 - ((d : Int) + 1) == 16) = false := by simp; omega
        go_wp2_with fail
        go_region_held3 (fun w' => w'.cell? ⟨r, 0, none⟩ = some (.slice (some ⟨bb, o, none⟩) n c) ∧ w'.cell? ⟨r, 1, none⟩ = some (.int .i64 (q : Int)) ∧ w'.cell? ⟨r, 2, none⟩ = some (.bool false)) (first | assumption | exact ⟨k0, k1, k2⟩) (fail)
        go_wp2_with fail
        obtain ⟨gv, hgv⟩ : ∃ gv, gv = w2.heap.size := ⟨_, rfl⟩
        obtain ⟨X, hX⟩ : ∃ X : World, X = (w2.alloc (.cells #[.int .i64 3, .int .i64 0, .string ⟨#[]⟩, .slice none 0 0] 24)).drew := ⟨_, rfl⟩
        have hXb : Below w2.heap.size w2 X := by rw [hX]; exact (below_box _).drew
        have hXv : VB X gv 3 0 (.string ⟨#[]⟩) (.slice none 0 0) := by rw [hX, hgv]; exact vb_new _ _ _ _ _
        have hXz : X.heap.size = w2.heap.size + 1 := by rw [hX]; show (w2.alloc _).heap.size = _; simp
        have HRL0 : Hid (RL w X r (some ⟨bb, o, none⟩) n c gv d u rest xs 0 q [] [] (.slice none 0 0) false) := by
          refine ⟨?_, hXv, HV2.out.below hXb, World.ownsRow_nil _ _ _ _, H4.out.below hXb, H3.out.trans (Turn.of_below hXb), by omega⟩
          rw [if_neg (by decide)]
          refine ⟨?_, rfl, Elems.nil _ _ _⟩
          rw [Nat.sub_zero, H5.out]
          cases rlist (rval d) u rest <;> rfl
        have HX := Lib.hid hX
        have HGV := Lib.hid hgv
        have hgw : w.heap.size < gv := by omega
        have HXB := Lib.hid (HB2.out.below (hXb.mono (by omega)))
        clear hX hXb hXv hgv b0 b1 b2 b3 q0 q1 q2 q3 k0 k1 k2 f2 j1 j2 g1 gd gd2
        rw [← HX.out, ← HGV.out]
        have ed2 : 16 - ((d : Int) + 1) + 1 = 16 - (d : Int) := by omega
        have ed1 : IntKind.i64.wrap (16 - ((d : Int) + 1) + 1) = 16 - (d : Int) := by rw [ed2]; exact IntWalk.i64_in _ (by omega)
        have ed3 : IntKind.i64.wrap (16 - (d : Int)) = 16 - (d : Int) := IntWalk.i64_in _ (by omega)
        go_loopw [9] (fun i wr => ∃ (j q' : Nat) (vs : List V) (ys : List Value) (cur : Value) (bad : Bool), j ≤ u ∧ i = .int .u64 (j : Int) ∧ q ≤ q' ∧ q' ≤ n ∧ Hid (RL w wr r (some ⟨bb, o, none⟩) n c gv d u rest xs j q' vs ys cur bad)) (fun i _ => u - (intOf i).toNat)
        case atStart => exact ⟨0, q, [], [], .slice none 0 0, false, Nat.zero_le _, rfl, Nat.le_refl _, hq2, HRL0.out⟩
        case round =>
          obtain ⟨j, q', vs, ys, cur, bad, hj, rfl, hq3, hq4, HI⟩ := hrel
          have hwz := HI.out.2.2.2.2.2.2
          have c2 := HI.out.2.2.2.2.1.cell2
          cases bad with
          | true =>
            by_cases hlt : j < u
            · skip
              obtain ⟨Ac, mc, cc, rfl⟩ := HI.out.cur
              have vb := HI.out.2.1
              have ub := HI.out.2.2.1
              have b0 := ub.cell 0
              have b1 := ub.cell 1
              have b2 := ub.cell 2
              have b3 := ub.cell 3
              have q0 := ub.frozen 0
              have q1 := ub.frozen 1
              have q2 := ub.frozen 2
              have q3 := ub.frozen 3
              have m0 := vb.cell 0
              have m1 := vb.cell 1
              have m2 := vb.cell 2
              have m3 := vb.cell 3
              clear vb ub
              go_wp2_with fail
              refine bodyPost_ret (v := .agg #[.int .i64 3, .int .i64 0, .string ⟨#[]⟩, .slice Ac mc cc]) (by simp [results, Try.results35, go_sem, b0, b1, b2, b3]) rfl ?_
              refine rval_end (bad := true) hr HI.out.2.2.2.2.2.1 (by have := HI.out.2.2.2.2.2.2; omega) HI.out.2.2.2.2.1 (by omega) hq4 ?_
              rw [if_pos rfl, HRT.out d rfl]
              have h1 := HI.out.1
              rw [if_pos rfl] at h1
              rw [h1]
            · skip
              obtain ⟨Ac, mc, cc, rfl⟩ := HI.out.cur
              have vb := HI.out.2.1
              have ub := HI.out.2.2.1
              have b0 := ub.cell 0
              have b1 := ub.cell 1
              have b2 := ub.cell 2
              have b3 := ub.cell 3
              have q0 := ub.frozen 0
              have q1 := ub.frozen 1
              have q2 := ub.frozen 2
              have q3 := ub.frozen 3
              have m0 := vb.cell 0
              have m1 := vb.cell 1
              have m2 := vb.cell 2
              have m3 := vb.cell 3
              clear vb ub
              go_wp2_with fail
              refine bodyPost_ret (v := .agg #[.int .i64 3, .int .i64 0, .string ⟨#[]⟩, .slice Ac mc cc]) (by simp [results, Try.results35, go_sem, b0, b1, b2, b3]) rfl ?_
              refine rval_end (bad := true) hr HI.out.2.2.2.2.2.1 (by have := HI.out.2.2.2.2.2.2; omega) HI.out.2.2.2.2.1 (by omega) hq4 ?_
              rw [if_pos rfl, HRT.out d rfl]
              have h1 := HI.out.1
              rw [if_pos rfl] at h1
              rw [h1]
          | false =>
            by_cases hlt : j < u
            · obtain ⟨i0, hi, hz0, hzz1, hzz2⟩ := info_parts elemInfo
              have HRD := HI.out.2.2.2.2.1
              have HVC := Lib.hid (HIH.out d rfl r n c q' B (some ⟨bb, o, none⟩) xs wr.drew HRD.drew (RdB.keep (w' := wr.drew) (HB0.out.below ((HI.out.2.2.2.2.2.1).below hB hr)) fun _ _ => rfl) hB hn hc hq4)
              have HVB := HI.out.2.1
              have HOW := HI.out.2.2.2.1
              have c3 := HVB.cell 3
              have hvl := HVB.lt
              have hrl : r < wr.heap.size := HRD.lt
              have hne1 : gv ≠ r := by omega
              have hrow : ∀ g, cur.ownBlock = some g → gv + 1 ≤ g := fun g hg => (HOW.lt g hg).1
              have hrne : cur.ownBlock = none ∨ cur.ownBlock ≠ some r := .inr fun e => by have := hrow r e; omega
              have HVB := Lib.hid HVB
              have HOW := Lib.hid HOW
              clear HRD
              go_wp2_with fail
              go_region_law (first
                | (go_simp; go_at_call 35
                   refine HVC.out.mono ?_
                   rintro e w3 ⟨ht3, q5, bad3, kv, mv, sv, Av, lenv, cv, hq5, hq6, m1, rfl, hL⟩
                   have HL3 := Lib.hid hL
                   have M1 := Lib.hid m1
                   have ht3 := ht3.drew0
                   have HT3 := Lib.hid ht3
                   have c3' : w3.cell? ⟨gv, 3, none⟩ = some cur := (ht3.cell (p := ⟨gv, 3, none⟩) hvl hne1).trans c3
                   have hz3 : wr.heap.size ≤ w3.heap.size := ht3.size
                   have c3'' : ∀ O, (w3.alloc O).cell? ⟨gv, 3, none⟩ = some cur := fun O => (World.cell?_alloc_lt w3 O ⟨gv, 3, none⟩ (Nat.lt_of_lt_of_le hvl hz3)).trans c3'
                   have HOW3 := Lib.hid (World.ownsRow.kept HOW.out HT3.out hrne)
                   clear hL m1 ht3)
                | (refine step_append_lies _ (by rfl) _ _ _ (by rfl) (gv + 1) 24 i0 _ 4 56 Try.underlying22 hi hz0 hzz1 hzz2 rfl (by omega) cur j ys (by rfl) (World.ownsRow.alloc HOW3.out _) ⟨w3.heap.size, 0, none⟩ 1 1 [.int .i64 kv, .int .i64 mv, .string sv, .slice Av lenv cv] (by rfl) (by rfl) (World.news_of_block (cs := #[.int .i64 kv, .int .i64 mv, .string sv, .slice Av lenv cv]) (t := 24) (fr := (0, 0)) (heap_alloc_new w3 _)) (by simp [Value.oneCell']) (by omega) (by unfold maxLen; omega) (by omega) (by simp; omega) (w3.heap.size + 1) (by simp) ?_
                   intro g4 cap4 w4 hown4 hgrow4 hat4 hlt4
                   have v4 : VB w4 gv 3 0 (.string ⟨#[]⟩) cur := ((HVB.out.grown HT3.out (by intro e; injection e with e; exact hne1 e)).below ((Below.refl _ _).alloc (Nat.le_refl _) _)).grown hgrow4 (by intro e; have := hrow _ e.symm; omega)
                   have d4 := v4.cell 3
                   have f4 := v4.frozen 3
                   have HI4 := Lib.hid (RL.step HI.out hr hgw hlt HT3.out HL3.out M1.out hown4 hgrow4 hat4)
                   clear hown4 hgrow4 hat4 v4))
              all_goals
                go_wp2_with fail
                go_roundw
                case rel =>
                  obtain ⟨vs4, h4⟩ := HI4.out
                  exact ⟨j + 1, q5, vs4, _, _, bad3, by omega, by go_num, by omega, hq6, h4⟩
                case measure => simp [intOf]; omega
            · obtain rfl : j = u := by omega
              obtain ⟨Ac, mc, cc, rfl⟩ := HI.out.cur
              have vb := HI.out.2.1
              have ub := HI.out.2.2.1
              have b0 := ub.cell 0
              have b1 := ub.cell 1
              have b2 := ub.cell 2
              have b3 := ub.cell 3
              have q0 := ub.frozen 0
              have q1 := ub.frozen 1
              have q2 := ub.frozen 2
              have q3 := ub.frozen 3
              have m0 := vb.cell 0
              have m1 := vb.cell 1
              have m2 := vb.cell 2
              have m3 := vb.cell 3
              clear vb ub
              go_wp2_with fail
              refine bodyPost_ret (v := .agg #[.int .i64 3, .int .i64 0, .string ⟨#[]⟩, .slice Ac mc cc]) (by simp [results, Try.results35, go_sem, b0, b1, b2, b3]) rfl ?_
              obtain ⟨l, g1, g2, g3⟩ := HI.out.done
              refine rval_end (bad := false) hr HI.out.2.2.2.2.2.1 (by have := HI.out.2.2.2.2.2.2; omega) HI.out.2.2.2.2.1 (by omega) hq4 ?_
              rw [if_neg (by decide)]
              exact ⟨l, g1, by rw [HRT.out d rfl, g2], g3.keep (by omega) (Nat.le_refl _) fun _ _ _ => rfl⟩
    · have g1 : decide ((n : Int) - (q : Int) < (u : Int)) = true := by simp; omega
      have HX : Hid (rval d (xs.drop p) = none) := by
        unfold Hid
        rcases Nat.eq_zero_or_pos d with h0 | h0
        · exact HR0.out h0
        · rw [HRT.out (d - 1) (by omega), rlist_short (by omega)]
      have k0 := H4.out.cell0
      have k1 := H4.out.cell1
      have k2 := H4.out.cell2
      have f2 := H4.out.frozen 2
      go_wp2_with fail
      go_quiet (fail)
      go_wp2_with fail
      refine bodyPost_ret (v := .agg #[.int .i64 0, .int .i64 0, .string ⟨#[]⟩, .slice none 0 0]) (by simp [results, Try.results35, go_sem, b0, b1, b2, b3]) rfl ?_
      exact (rval_bad hr H3.out (by omega) H4.out (by omega) hq2 HX.out).drewN _
end Go.Proofs.Ytbcaanadmfnegaa
