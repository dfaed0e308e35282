/- Contract of the reference's Sum. -/
import Derived.Test.YtfolmglafnfcbaaDoorRefPad
import Derived.Test.YtfolmglafnfcbaaDoorSum
import Derived.Test.YtfolmglafnfcbaaDoorHand2
namespace Go.Proofs.YtfolmglafnfcbaaDoor
open Go.RowKit

/-- a whole row is stored: a step of a drawn region -/
theorem step_store_row {P : Program} {ops : Array Oper} {o : Oper} {a : Act} {w : World} {K : Act → World → Prop} {Q : Exit → Act → World → Prop} {E : Prop} (hgd : o.guard = none) (ty : TypeId) (x y : Operand)
    (ho : o.op = .store ty x y) (hdst : o.dst = none) (g : Nat) (t : TypeId) (old cs : Array Value) (hx : a.eval x = .pointer (some ⟨g, 0, none⟩)) (hy : a.eval y = .agg cs) (hg : w.heap[g]? = some (.cells old t (0, 0)))
    (hi : (P.info? ty).map (·.size) = some cs.size) (hsz : old.size = cs.size) (h1 : cs.all (·.oneCell') = true)
    (h : K a (w.setRow g cs)) : if Region.wanted o (yielded ops a.tmps) = true then Oper.wp P o a w K Q else E := by
  have hw : Region.wanted o (yielded ops a.tmps) = true := by simp [Region.wanted, hgd]
  rw [if_pos hw]
  unfold Oper.wp execOp
  simp only [ho, hx, hy, Instr.storeAt, Instr.sureAddr, Sem.run_bind, Sem.run_pure, Result.andThen_ok, run_storeVar_row w g t ty old cs hg hi hsz h1]
  have h' : K (a.put o.dst undef) (w.setRow g cs) := by rw [hdst]; exact h
  exact h'
theorem heap_alloc2_new (w : World) (A : Obj) (c : Array Value) (t : TypeId) : ((w.alloc A).alloc (.cells c t)).heap[w.heap.size + 1]? = some (.cells c t (0, 0)) := by
  have h := heap_alloc_new (w.alloc A) (.cells c t)
  simpa using h
theorem setRow_alloc2_new (w : World) (A : Obj) (c c' : Array Value) (t : TypeId) : ((w.alloc A).alloc (.cells c t)).setRow (w.heap.size + 1) c' = (w.alloc A).alloc (.cells c' t) := by
  have h := World.setRow_alloc_new (w.alloc A) c c' t
  simpa using h
theorem Turn.setRow {w w' : World} {r : Nat} (h : Turn w w' r) (cs : Array Value) : Turn w (w'.setRow r cs) r :=
  h.trans ⟨rfl, rfl, rfl, by simp, fun k _ hk => setRow_other w' r k _ (fun e => hk (by simp [e]))⟩
theorem Turn.drew1 (w : World) (r : Nat) : Turn w w.drew r := by
  have h := Turn.refl w r
  exact ⟨h.os, h.tape, h.output, h.size, h.block⟩
theorem sha_eq (b : List UInt8) : stBytes (runTo (padAll b) st0 ((padAll b).length / 64)) = sha b := by
  unfold sha
  rfl
theorem padAll_64 (b : List UInt8) : (padAll b).length = 64 * ((padAll b).length / 64) := by
  have h := (zeroN_at b.length).2
  have e := padAll_len b
  omega

theorem WRow.range {w : World} {g : Nat} {ty : TypeId} {l : List Int} (h : WRow w g ty l) : w.rangeAt g 0 (l.map (Value.int .u32)) := by
  intro j v hv
  rw [Nat.zero_add, cell_of_row w g j _ _ _ h]
  unfold rowOf
  simpa using hv

set_option maxRecDepth 100000 in
set_option maxHeartbeats 4000000 in
theorem refsum_any (A : Option Addr) (n c : Nat) (bs : List UInt8) (w : World) (hr : RdB w w.heap.size A n bs) (hn : n ≤ 34359738368) :
    Calls Tryd.prog 13 #[.slice A n c] w fun e w' => e = .returned (dgV (sha bs)) ∧ Below w.heap.size w w' := by
  have HLB := Lib.hid hr.1
  have hla := padAll_len bs
  have hz := (zeroN_at bs.length).1
  obtain ⟨P, hP⟩ : ∃ P, P = padAll bs := ⟨_, rfl⟩
  have h64 := padAll_64 bs
  have hsha := sha_eq bs
  rw [← hP] at hla h64 hsha
  obtain ⟨K, hK⟩ : ∃ K, K = P.length / 64 := ⟨_, rfl⟩
  rw [← hK] at h64 hsha
  have hmax : P.length ≤ 34359738500 := by have h := HLB.out; omega
  have HSHA := Lib.hid hsha
  have HPP := Lib.hid hP
  have H64 := Lib.hid h64
  have HR := Lib.hid hr
  clear hla hz hP hK hsha hr h64
  have HI8 := Lib.hid (row_info (t := 50) (n := 8) st0.list rfl (by kernel_rfl))
  go_enter Tryd.func13, Tryd.ntmps13
  go_wp2_with (first
    | (refine wpList_build_to rfl 50 _ rfl (rowOf st0.list) (by kernel_rfl) ?_)
    | (refine wpList_store_row rfl 50 _ _ rfl _ _ rfl rfl _ _ (heap_alloc2_new _ _ _ _) HI8.out (by rw [rowOf_size]; rfl) (rowOf_one _) ?_))
  rw [setRow_alloc2_new]
  obtain ⟨w2, hw2⟩ : ∃ w2, (w.alloc (.cells Z32 26)).alloc (.cells (rowOf st0.list) 50) = w2 := ⟨_, rfl⟩
  have hb2 : Below w.heap.size w w2 := by rw [← hw2]; exact ((Below.refl _ _).alloc (Nat.le_refl _) _).alloc (by simp) _
  have hs2 : WRow w2 (w.heap.size + 1) 50 st0.list := by rw [← hw2]; exact heap_alloc2_new _ _ _ _
  have hd2 : w2.heap[w.heap.size]? = some (.cells Z32 26 (0, 0)) := by rw [← hw2]; exact (heap_alloc_old _ _ (by simp)).trans (heap_alloc_new _ _)
  have hz2 : w2.heap.size = w.heap.size + 2 := by rw [← hw2]; simp
  have HB2 := Lib.hid hb2
  have HS2 := Lib.hid hs2
  have HD2 := Lib.hid (IsD.new _ _ hd2)
  have HW2 := Lib.hid hw2
  have HPX := Lib.hid (refpad_any A n c bs w2 (HR.out.below hb2 hb2.size) hn)
  have hr1 : w.heap.size + 1 < w2.heap.size := by omega
  clear hw2 hb2 hs2 hd2 hz2 HR HI8
  rw [HW2.out]
  refine HPX.out.mono ?_
  rintro e w3 ⟨g, m, cap, rfl, HO, hb3⟩
  rw [← HPP.out] at HO
  have hm : m = P.length := HO.len
  subst hm
  have hgw : w2.heap.size ≤ g := HO.2.1
  have hgl : g < w3.heap.size := HO.lt
  have hcap1 : P.length ≤ cap := HO.2.2.1
  have hcap2 : cap ≤ maxLen := HO.2.2.2.1
  have HO3 := Lib.hid HO
  have HB3 : Hid (Below w.heap.size w w3) := HB2.out.trans (hb3.mono HB2.out.size)
  have HS3 : Hid (WRow w3 (w.heap.size + 1) 50 st0.list) := HS2.out.below hb3 hr1
  have HD3 := Lib.hid (HD2.out.below hb3 (Nat.lt_trans (Nat.lt_succ_self _) hr1))
  clear HO hb3 HS2 HD2 HB2 HPX
  obtain ⟨r, hr⟩ : ∃ r, r = w.heap.size + 1 := ⟨_, rfl⟩
  rw [← hr] at HS3 hr1 ⊢
  have hrl : r < w3.heap.size := by omega
  have hrw : w.heap.size < r := by omega
  have hrg : r ≠ g := by omega
  clear hr
  go_wp2_with fail
  go_loopw [5] (fun v wr => ∃ q N : Nat, v = .int .i64 N ∧ Hid (N = 64 * q) ∧ q ≤ K ∧ Hid (Turn w3 wr r) ∧ Hid (WRow wr r 50 (runTo P st0 q).list)) (fun v _ => P.length + 64 - (intOf v).toNat)
  case atStart => exact ⟨0, 0, rfl, rfl, by omega, Turn.refl _ _, HS3⟩
  case round =>
    obtain ⟨q, N, rfl, hN, hqK, HT, HS⟩ := hrel
    clear HS3
    by_cases hend : q = K
    · have hNP : ¬ (N : Int) < (P.length : Int) := by have h := hN.out; have h' := H64.out; omega
      rename World => wv
      have hzz : (bytesV zd).toArray = Z32 := by rfl
      have HIZ := Lib.hid (dg_info zd (by rfl))
      rw [hzz] at HIZ
      obtain ⟨st, hst⟩ : ∃ st, st = runTo P st0 q := ⟨_, rfl⟩
      have hsu : st.U := by rw [hst]; exact runTo_u _ st0_u _
      have hsb : stBytes st = sha bs := by rw [hst, hend]; exact HSHA.out
      have HSB := Lib.hid hsb
      rw [← hst] at HS
      have zr := HT.out.size
      have hrl' : r < wv.heap.size := by omega
      have hdr : IsD wv w.heap.size := HD3.out.keep (HT.out.block _ (by omega) (by simp only [ne_eq, Option.some.injEq]; omega))
      have hbr : Below w.heap.size w wv := HB3.out.trans (HT.out.below (Nat.le_of_lt hrw) hrl)
      have HDR := Lib.hid hdr
      have HBR := Lib.hid hbr
      have hwl : w.heap.size < wv.heap.size := by omega
      clear hst hsb HT hdr hbr hend hN
      go_wp2_with (first
        | (refine wpList_store_row rfl 26 _ _ rfl _ Z32 rfl rfl _ _ (heap_alloc_new _ _) HIZ.out rfl (by rw [← hzz]; exact bytesV_all _) ?_; rw [World.setRow_alloc_new]))
      have HD5 : Hid (DRow (wv.alloc (.cells Z32 26)) wv.heap.size (dTo st 0)) := heap_alloc_new _ _
      have HB5 : Hid (Below wv.heap.size wv (wv.alloc (.cells Z32 26))) := (Below.refl _ _).alloc (Nat.le_refl _) _
      go_loopw [7] (fun t wr => ∃ i : Nat, i ≤ 32 ∧ t = .int .i64 i ∧ Hid (DRow wr wv.heap.size (dTo st i)) ∧ Hid (Below wv.heap.size wv wr)) (fun t _ => 32 - (intOf t).toNat)
      case atStart => exact ⟨0, by omega, rfl, HD5, HB5⟩
      case round =>
        obtain ⟨i, hi, rfl, HR4, HB4⟩ := hrel
        clear HD5 HB5
        by_cases hi8 : i < 32
        · have hc0 := (HS.out.below HB4.out hrl').cell (i := i / 4) (by simp [St.list]; omega)
          have hc1 := HR4.out.cellD (i := i) (by rw [dTo_length _ _ hi]; omega)
          have hf1 := HR4.out.frozen i
          obtain ⟨x, hx⟩ : ∃ x, x = st.list.getD (i / 4) 0 := ⟨_, rfl⟩
          rw [← hx] at hc0
          have HX := Lib.hid hx
          clear hx
          have x0 : (i : Int) < 32 := by omega
          have x1 : (i : Int) / 4 < 8 := by omega
          go_wp2_with fail
          go_roundw
          case rel =>
            refine ⟨i + 1, by omega, by go_num, ?_, Below.setCell HB4.out (Nat.le_refl _) _⟩
            have h := HR4.out.set i (stByte st i)
            rw [dTo_step st i hi8, stByte_toNat st hsu i hi8, ← HX.out] at h
            exact h
          case measure => simp [intOf]; omega
        · have HD : Hid (DRow wr wv.heap.size (sha bs)) := by
            have e : i = 32 := by omega
            have h := HR4.out
            rw [e, dTo_all, HSB.out] at h
            exact h
          have HI := Lib.hid (dg_info (sha bs) (sha_length bs))
          obtain ⟨old, HO1, HOs⟩ := HDR.out.below HB4.out hwl
          have HBE : Hid (Below w.heap.size w wr) := HBR.out.trans (HB4.out.mono HBR.out.size)
          have hle : w.heap.size ≤ w.heap.size := Nat.le_refl _
          go_wp2_with (first
            | (refine wpList_load_row rfl 26 _ rfl _ rfl _ _ _ _ HD.out Tryd.underlying26 rfl HI.out ?_)
            | (refine wpList_store_row rfl 26 _ _ rfl _ _ rfl rfl _ _ HO1 HI.out (HOs.trans (by rw [List.size_toArray, bytesV_length, sha_length])) (bytesV_all _) ?_))
          exact bodyPost_ret (results_cell_row rfl _ _ _ _ _ _ _ rfl (setRow_heap _ _ _ _ _ _ HO1) Tryd.underlying26 rfl HI.out) rfl ⟨rfl, below_setRow HBE.out hle _⟩
    · have hNP : (N : Int) < (P.length : Int) := by have h := hN.out; have h' := H64.out; omega
      have hNP' : N + 64 ≤ P.length := by have h := hN.out; have h' := H64.out; omega
      have zr := HT.out.size
      have i0 : (0 : Int) ≤ (N : Int) := by omega
      have i1 : (N : Int) ≤ (N : Int) + 64 := by omega
      have i2 : (N : Int) + 64 ≤ (cap : Int) := by omega
      have hcN : ¬ cap = N := by omega
      have hw64 : IntKind.i64.wrap ((N : Int) + 64) = (N : Int) + 64 := by unfold maxLen at hcap2; exact IntWalk.i64_in _ (by omega)
      go_wp2_with fail
      refine wp_region_held_drew (S := fun u => Turn wr u r) (by kernel_rfl) (Turn.drew1 wr r) (fun hHeld => ?_)
      have HT0 : Hid (Below wr.heap.size wr wr.drew) := (Below.refl _ _).drew
      generalize wr.drew = X0 at hHeld HT0 ⊢
      have hi8 : (Tryd.prog.info? 50).map (·.size) = some ((runTo P st0 q).list.map (Value.int .u32)).length := by
        rw [List.length_map]
        kernel_rfl
      refine wpAnyH_take (i := 1) (oi := ⟨some 18, _, _, _, _, _⟩) (v := ?_) rfl (by kernel_rfl) (by kernel_rfl) (by kernel_rfl) (fun _ _ _ h => h) (Or.inl ⟨by rfl, ?_⟩) (by assumption) ?_
      rotate_left
      · (intro w hSw; go_simp) <;> with_reducible rfl
      try simp only [Act.put, List.setIfInBounds_toArray, List.set_cons_zero, List.set_cons_succ]
      refine wpAnyH_take (i := 2) (oi := ⟨some 19, _, _, _, _, _⟩) (v := ?_) rfl (by kernel_rfl) (by kernel_rfl) (by kernel_rfl) (fun _ _ _ h => h) (Or.inl ⟨by rfl, ?_⟩) (by assumption) ?_
      rotate_left
      · (intro w hSw; go_simp) <;> with_reducible rfl
      try simp only [Act.put, List.setIfInBounds_toArray, List.set_cons_zero, List.set_cons_succ]
      refine wpAnyH_take (i := 3) (oi := ⟨some 20, _, _, _, _, _⟩) (v := ?_) rfl (by kernel_rfl) (by kernel_rfl) (by kernel_rfl) (fun _ _ _ h => h) (Or.inl ⟨by rfl, ?_⟩) (by assumption) ?_
      rotate_left
      · (intro w hSw; go_simp) <;> with_reducible rfl
      try simp only [Act.put, List.setIfInBounds_toArray, List.set_cons_zero, List.set_cons_succ]
      refine wpAnyH_take (i := 4) (oi := ⟨some 21, _, _, _, _, _⟩) (v := ?_) rfl (by kernel_rfl) (by kernel_rfl) (by kernel_rfl) (fun _ _ _ h => h) (Or.inl ⟨by rfl, ?_⟩) (by assumption) ?_
      rotate_left
      · (intro w hSw; go_simp) <;> with_reducible rfl
      try simp only [Act.put, List.setIfInBounds_toArray, List.set_cons_zero, List.set_cons_succ]
      refine wpAnyH_take (i := 5) (oi := ⟨some 22, _, _, _, _, _⟩) (v := ?_) rfl (by kernel_rfl) (by kernel_rfl) (by kernel_rfl) (fun _ _ _ h => h) (Or.inl ⟨by rfl, ?_⟩) (by assumption) ?_
      rotate_left
      · (intro w hSw; go_simp) <;> with_reducible rfl
      try simp only [Act.put, List.setIfInBounds_toArray, List.set_cons_zero, List.set_cons_succ]
      refine wpAnyH_ready (rs := [0]) (by kernel_rfl) (by simp) ?_
      refine AllReadyH.cons (o := ⟨some 17, _, _, _, _, _⟩) rfl (fun K hK => ?_) AllReadyH.nil
      rw [if_pos (by rfl)]
      refine wp_load_mid _ _ rfl r 0 rfl _ _ (WRow.range (HS.out.below HT0.out HS.out.lt)) Tryd.underlying50 rfl hi8 ?_
      refine hK.out _ _ hHeld (fun hHeld => ?_)
      clear hK K
      try simp only [Act.put, List.setIfInBounds_toArray, List.set_cons_zero, List.set_cons_succ]
      have HCB : Hid (Calls Tryd.prog 33 #[.agg ((runTo P st0 q).list.map (Value.int .u32)).toArray, .slice (some ⟨g, N, none⟩) 64 (cap - N)] X0 fun e w' => e = .returned (.agg (rowOf (runTo P st0 (q + 1)).list)) ∧ Below X0.heap.size X0 w') := by
        have ho : OwnB X0 w2.heap.size g P.length cap P := Owns.keep (Owns.keep HO3.out (HT.out.block g hgl (by simp only [ne_eq, Option.some.injEq]; omega))) (HT0.out.block g (by omega))
        have hrd := ((ho.rdb (B := X0.heap.size) ho.lt).drop (m := N) (by omega)).take (m := 64) (by omega)
        rw [Nat.zero_add] at hrd
        have h := refblock_any g N 64 (cap - N) _ (runTo P st0 q) X0 (Nat.le_refl _) (by omega) (by omega) hrd (runTo_u _ st0_u _)
        have e : blockSt ((P.drop N).take 64) (runTo P st0 q) = runTo P st0 (q + 1) := by rw [hN.out]; rfl
        rw [e] at h
        exact h
      refine wpAnyH_ready (rs := [6]) (by kernel_rfl) (by simp) ?_
      refine AllReadyH.cons (o := ⟨some 23, _, _, _, _, _⟩) rfl (fun K hK => ?_) AllReadyH.nil
      go_simp
      go_at_call 33
      rw [show ((N : Int) + 64).toNat - N = 64 by omega]
      refine HCB.out.mono ?_
      rintro e X1 ⟨rfl, b1⟩
      have RX1 := Lib.hid b1
      go_wp2_with fail
      refine hK.out _ _ (hHeld.trans (Turn.of_below RX1.out)) (fun hHeld => ?_)
      clear hK K
      try simp only [Act.put, List.setIfInBounds_toArray, List.set_cons_zero, List.set_cons_succ]
      have HIr := row_info (t := 50) (n := 8) (runTo P st0 (q + 1)).list rfl (by kernel_rfl)
      have HB1 : Hid (Below wr.heap.size wr X1) := HT0.out.trans (RX1.out.mono HT0.out.size)
      have HS1 : Hid (WRow X1 r 50 (runTo P st0 q).list) := HS.out.below HB1.out HS.out.lt
      refine wpAnyH_ready (rs := [7]) (by kernel_rfl) (by simp) ?_
      refine AllReadyH.cons (o := ⟨none, _, _, _, _, _⟩) rfl (fun K hK => ?_) AllReadyH.nil
      refine step_store_row rfl _ _ _ rfl rfl r _ _ (rowOf (runTo P st0 (q + 1)).list) rfl rfl HS1.out HIr (by rw [rowOf_size, rowOf_size]; rfl) (rowOf_one _) ?_
      refine hK.out _ _ (hHeld.setRow _) (fun hHeld => ?_)
      clear hK K
      refine wpAnyH_done (by kernel_rfl) ?_ _
      have HT2 : Hid (Turn w3 (X1.setRow r (rowOf (runTo P st0 (q + 1)).list)) r) := HT.out.trans hHeld
      have HS2 : Hid (WRow (X1.setRow r (rowOf (runTo P st0 (q + 1)).list)) r 50 (runTo P st0 (q + 1)).list) := setRow_heap _ _ _ _ _ _ HS1.out
      generalize X1.setRow r (rowOf (runTo P st0 (q + 1)).list) = X2 at HT2 HS2 ⊢
      clear hHeld HS1 HB1 HIr RX1 HCB hi8 HT0
      go_wp2_with fail
      go_roundw
      case rel => exact ⟨q + 1, N + 64, by go_num, by have h := hN.out; unfold Hid; omega, by have h := hN.out; have h' := H64.out; omega, HT2, HS2⟩
      case measure => simp [intOf]; omega
end Go.Proofs.YtfolmglafnfcbaaDoor
