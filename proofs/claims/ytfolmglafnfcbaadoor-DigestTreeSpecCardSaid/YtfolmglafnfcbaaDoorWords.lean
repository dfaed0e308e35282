/- Contract of words. -/
import Derived.Test.YtfolmglafnfcbaaDoorWordsM
import Derived.StillTailTactics
import Derived.BigRegion
import Derived.Laws.CopyRow
import Derived.BigQuiet
namespace Go.Proofs.YtfolmglafnfcbaaDoor
open Go.RowKit

theorem below_drewN {B : Nat} {a w : World} (h : Below B a w) (k : Nat) : Below B a (w.drewN k) := ⟨h.os, h.tape, h.output, h.size, h.block⟩
theorem RdB.one {w : World} {B n b o : Nat} {bs : List UInt8} (h : RdB w B (some ⟨b, o, none⟩) n bs) (i : Nat) (hi : i < n) : w.cell? ⟨b, o + i, none⟩ = some (.int .u8 (byteAt bs i).toNat) := by
  obtain ⟨b', o', e, _, hc⟩ := h.2 (by omega)
  injection e with e
  injection e with e1 e2
  subst e1 e2
  have hl : i < bs.length := by have := h.1; omega
  refine hc i _ ?_
  unfold byteAt
  rw [List.getD_eq_getElem?_getD, List.getElem?_eq_getElem hl]
  rfl
theorem RdB.four {w : World} {B n b o : Nat} {bs : List UInt8} (h : RdB w B (some ⟨b, o, none⟩) n bs) (i : Nat) (hi : i + 4 ≤ n) :
    w.cell? ⟨b, o + i, none⟩ = some (.int .u8 (byteAt bs i).toNat) ∧ w.cell? ⟨b, o + i + 1, none⟩ = some (.int .u8 (byteAt bs (i + 1)).toNat) ∧
    w.cell? ⟨b, o + i + 2, none⟩ = some (.int .u8 (byteAt bs (i + 2)).toNat) ∧ w.cell? ⟨b, o + i + 3, none⟩ = some (.int .u8 (byteAt bs (i + 3)).toNat) :=
  ⟨h.one i (by omega), h.one (i + 1) (by omega), h.one (i + 2) (by omega), h.one (i + 3) (by omega)⟩

set_option maxRecDepth 100000 in
set_option maxHeartbeats 2000000 in
theorem words_any (b o n c : Nat) (bs : List UInt8) (w : World) (hn : 64 ≤ n) (hc : n ≤ c) (hc63 : c ≤ maxLen) (hr : RdB w w.heap.size (some ⟨b, o, none⟩) n bs) :
    Calls Tryd.prog 48 #[.slice (some ⟨b, o, none⟩) n c] w fun e w' => e = .returned (.agg (rowOf (wsTo bs 64))) ∧ Below w.heap.size w w' := by
  have HR := Lib.hid hr
  unfold maxLen at hc63
  clear hr
  go_enter Tryd.func48, Tryd.ntmps48
  go_wp2_with fail
  go_loopw [7] (fun i wr => ∃ t : Nat, t ≤ 16 ∧ i = .int .i64 t ∧ Hid (WRow wr w.heap.size 69 (wsTo bs t)) ∧ Hid (Below w.heap.size w wr)) (fun i _ => 16 - (intOf i).toNat)
  case atStart =>
    refine ⟨0, by omega, rfl, ?_, ?_⟩
    · exact heap_alloc_new w _
    · exact (Below.refl _ _).alloc (Nat.le_refl _) _
  case round =>
    obtain ⟨t, ht, rfl, hW, hB⟩ := hrel
    by_cases hlt : t < 16
    · have hcc : ¬ c = t * 4 := by omega
      obtain ⟨q0, q1, q2, q3⟩ := RdB.four (HR.out.below hB.out (Nat.le_refl _)) (t * 4) (by omega)
      have c0 := hW.out.cell (i := t) (by rw [wsTo_length]; omega)
      have f0 := hW.out.frozen t
      go_wp2_with fail
      refine (word_any b (o + t * 4) _ _ _ _ _ _ _ (by omega) q0 q1 q2 q3).mono ?_
      rintro e w' ⟨rfl, rfl⟩
      have hx := wordI_u32 (byteAt bs (t * 4)) (byteAt bs (t * 4 + 1)) (byteAt bs (t * 4 + 2)) (byteAt bs (t * 4 + 3))
      clear q0 q1 q2 q3
      go_wp2_with fail
      go_roundw
      case rel => 
        refine ⟨t + 1, by omega, by go_num, ?_, ?_⟩
        · have e : wsTo bs (t + 1) = (wsTo bs t).set t (wordI (byteAt bs (t * 4)) (byteAt bs (t * 4 + 1)) (byteAt bs (t * 4 + 2)) (byteAt bs (t * 4 + 3))) := by simp only [wsTo, wval]; rw [if_pos hlt]
          unfold Hid
          rw [e]
          exact hW.out.set t _
        · exact hB.out.setCell (Nat.le_refl _) _
      case measure => simp [intOf]; omega
    · have hW16 : Hid (WRow wr w.heap.size 69 (wsTo bs 16)) := by
        have e : t = 16 := by omega
        unfold Hid
        rw [← e]
        exact hW.out
      go_wp2_with fail
      go_loopw [4] (fun i wr => ∃ t : Nat, 16 ≤ t ∧ t ≤ 64 ∧ i = .int .i64 t ∧ Hid (WRow wr w.heap.size 69 (wsTo bs t)) ∧ Hid (Below w.heap.size w wr)) (fun i _ => 64 - (intOf i).toNat)
      case atStart => exact ⟨16, by omega, by omega, rfl, hW16, hB⟩
      case round =>
        rename Nat => t0
        obtain ⟨t, h16, h64, rfl, hW2, hB2⟩ := hrel
        clear hW hB hW16 ht hlt
        by_cases hlt2 : t < 64
        · obtain ⟨x, hx⟩ : ∃ x, x = (wsTo bs t).getD (t - 15) 0 := ⟨_, rfl⟩
          obtain ⟨y, hy⟩ : ∃ x, x = (wsTo bs t).getD (t - 2) 0 := ⟨_, rfl⟩
          obtain ⟨z, hz⟩ : ∃ x, x = (wsTo bs t).getD (t - 16) 0 := ⟨_, rfl⟩
          obtain ⟨v, hv⟩ : ∃ x, x = (wsTo bs t).getD (t - 7) 0 := ⟨_, rfl⟩
          have c15 := hW2.out.cell (i := t - 15) (by rw [wsTo_length]; omega)
          have c2 := hW2.out.cell (i := t - 2) (by rw [wsTo_length]; omega)
          have c16 := hW2.out.cell (i := t - 16) (by rw [wsTo_length]; omega)
          have c7 := hW2.out.cell (i := t - 7) (by rw [wsTo_length]; omega)
          have c0 := hW2.out.cell (i := t) (by rw [wsTo_length]; omega)
          obtain ⟨v0, hv0⟩ : ∃ x, x = (wsTo bs t).getD t 0 := ⟨_, rfl⟩
          have f0 := hW2.out.frozen t
          rw [← hx] at c15; rw [← hy] at c2; rw [← hz] at c16; rw [← hv] at c7; rw [← hv0] at c0
          have ux : U32 x := by rw [hx]; exact (wsTo_u32 bs t).getD _
          have uy : U32 y := by rw [hy]; exact (wsTo_u32 bs t).getD _
          obtain ⟨x0, x1⟩ := ux
          obtain ⟨y0, y1⟩ := uy
          have HX := Lib.hid hx; have HY := Lib.hid hy; have HZ := Lib.hid hz; have HV := Lib.hid hv
          clear hx hy hz hv hv0
          go_wp2_with fail
          go_quiet (fail)
          go_wp2_with fail
          obtain ⟨w1, hw1⟩ : ∃ w1, w1 = wr.drewN nq := ⟨_, rfl⟩
          have c16' : w1.cell? ⟨w.heap.size, t - 16, none⟩ = some (.int .u32 z) := by rw [hw1]; exact c16
          have c7' : w1.cell? ⟨w.heap.size, t - 7, none⟩ = some (.int .u32 v) := by rw [hw1]; exact c7
          have c0' : w1.cell? ⟨w.heap.size, t, none⟩ = some (.int .u32 v0) := by rw [hw1]; exact c0
          have f0' : w1.frozen? ⟨w.heap.size, t, none⟩ = false := by rw [hw1]; exact f0
          have HW3 : Hid (WRow w1 w.heap.size 69 (wsTo bs t)) := by unfold Hid; rw [hw1]; exact hW2.out.drewN
          have HB3 : Hid (Below w.heap.size w w1) := by unfold Hid; rw [hw1]; exact below_drewN hB2.out nq
          rw [← hw1]
          clear hw1 c15 c2 c16 c7 c0 f0 hW2 hB2
          have e16 : IntKind.i64.wrap ((t : Int) - 16) = (t : Int) - 16 := IntWalk.i64_in _ (by omega)
          have e7 : IntKind.i64.wrap ((t : Int) - 7) = (t : Int) - 7 := IntWalk.i64_in _ (by omega)
          have n16 : ((t : Int) - 16).toNat = t - 16 := by omega
          have n7 : ((t : Int) - 7).toNat = t - 7 := by omega
          have p16 : (16 : Int) ≤ (t : Int) := by omega
          have p7 : (7 : Int) ≤ (t : Int) := by omega
          have q16 : (t : Int) - 16 < 64 := by omega
          have q7 : (t : Int) - 7 < 64 := by omega
          have q0 : (t : Int) < 64 := by omega
          go_still_tail 29, (by kernel_rfl)
          still_call ((ror_any x 7 _ x0 x1 (by omega) (by omega)).mono fun _ _ ⟨a, b⟩ => ⟨a, b.symm⟩)
          repeat still_step
          still_call ((ror_any x 18 _ x0 x1 (by omega) (by omega)).mono fun _ _ ⟨a, b⟩ => ⟨a, b.symm⟩)
          repeat still_step
          still_call ((ror_any y 17 _ y0 y1 (by omega) (by omega)).mono fun _ _ ⟨a, b⟩ => ⟨a, b.symm⟩)
          repeat still_step
          still_call ((ror_any y 19 _ y0 y1 (by omega) (by omega)).mono fun _ _ ⟨a, b⟩ => ⟨a, b.symm⟩)
          repeat still_step
          refine wpStill_nil ?_
          change wpList _ _ _ _ _ w1.drew
          go_wp2_with fail
          go_roundw
          case rel =>
            refine ⟨t + 1, by omega, by omega, by go_num, ?_, ?_⟩
            · have e : wsTo bs (t + 1) = (wsTo bs t).set t (wval bs t (wsTo bs t)) := rfl
              have e2 : wval bs t (wsTo bs t) = (z + sg0 x + v + sg1 y) % 4294967296 := by
                simp only [wval]
                rw [if_neg (by omega), HX.out, HY.out, HZ.out, HV.out]
              unfold Hid
              rw [e, e2]
              exact WRow.set HW3.out t _
            · exact (Below.setCell HB3.out (Nat.le_refl _) _).drew
          case measure => simp [intOf]; omega
        · obtain rfl : t = 64 := by omega
          have hg := hW2.out
          have hsz : (rowOf (wsTo bs 64)).size = 64 := by rw [rowOf_size, wsTo_length]
          have hi : (Tryd.prog.info? 69).map (·.size) = some (rowOf (wsTo bs 64)).size := by rw [hsz]; kernel_rfl
          have HG := Lib.hid hg
          have HI := Lib.hid hi
          have HS := Lib.hid hsz
          clear hg hi hsz
          go_wp2_with (first
            | (refine wpList_load_row rfl 69 _ rfl _ rfl _ _ _ _ HG.out Tryd.underlying69 rfl HI.out ?_)
            | (refine wpList_store_row rfl 69 _ _ rfl _ _ rfl rfl _ _ HG.out HI.out rfl (rowOf_one _) ?_))
          rw [setRow_self _ _ _ _ _ HG.out]
          exact bodyPost_ret (results_cell_row rfl _ _ _ _ _ _ _ rfl HG.out Tryd.underlying69 rfl HI.out) rfl ⟨rfl, hB2.out⟩
end Go.Proofs.YtfolmglafnfcbaaDoor
