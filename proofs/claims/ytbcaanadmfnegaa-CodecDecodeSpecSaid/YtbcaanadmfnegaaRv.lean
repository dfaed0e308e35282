/- Contract of the reference's Reader: Value. -/
import Derived.Test.YtbcaanadmfnegaaRn
import Derived.Deep.AppendLies
namespace Go.Proofs.Ytbcaanadmfnegaa
open Go.RowKit

/-- what a reading says: bad and none, or good and the value -/
def RLog (xs : List UInt8) (d p q : Nat) (bad : Bool) (w w' : World) (k m : Int) (s : ByteArray) (A' : Option Addr) (len cap : Nat) : Prop :=
  if bad = true then rval d (xs.drop p) = none else ∃ l : List V, l.length = len ∧ rval d (xs.drop p) = some (.mk k m s l, xs.drop q) ∧ RdI w' w.heap.size w'.heap.size (.mk k m s l) (.agg #[.int .i64 k, .int .i64 m, .string s, .slice A' len cap])
def RVal (w : World) (r : Nat) (A : Option Addr) (n c p : Nat) (xs : List UInt8) (d : Nat) (e : Ending) (w' : World) : Prop :=
  Turn w w' r ∧ ∃ (q : Nat) (bad : Bool) (k m : Int) (s : ByteArray) (A' : Option Addr) (len cap : Nat), p ≤ q ∧ q ≤ n ∧ RR w' r A n c q bad ∧ e = .returned (.agg #[.int .i64 k, .int .i64 m, .string s, .slice A' len cap]) ∧ RLog xs d p q bad w w' k m s A' len cap
def VOkR (d : Nat) : Prop := ∀ (r n c p B : Nat) (A : Option Addr) (xs : List UInt8) (w : World), RR w r A n c p false → RdB w B A n xs → B ≤ r → n ≤ 1099511627776 → n ≤ c → p ≤ n →
    Calls Try.prog 35 #[.pointer (some ⟨r, 0, none⟩), .int .i64 (16 - (d : Int))] w (RVal w r A n c p xs d)

/-- the result's box is written -/
theorem rval_end {w w1 : World} {r n c p q d : Nat} {A : Option Addr} {bad : Bool} {xs : List UInt8} {k m : Int} {s : ByteArray} {A' : Option Addr} {len cap : Nat} (hr : r < w.heap.size) (ht : Turn w w1 r) (_ : w.heap.size < w1.heap.size) (hR : RR w1 r A n c q bad) (hp : p ≤ q) (hq : q ≤ n)
    (hL : if bad = true then rval d (xs.drop p) = none else ∃ l : List V, l.length = len ∧ rval d (xs.drop p) = some (.mk k m s l, xs.drop q) ∧ RdI w1 (w.heap.size + 1) w1.heap.size (.mk k m s l) (.agg #[.int .i64 k, .int .i64 m, .string s, .slice A' len cap])) :
    RVal w r A n c p xs d (.returned (.agg #[.int .i64 k, .int .i64 m, .string s, .slice A' len cap])) (box4 w1 w.heap.size k m s (.slice A' len cap)) := by
  refine ⟨(((ht.set_new (Nat.le_refl _) _).set_new (Nat.le_refl _) _).set_new (Nat.le_refl _) _).set_new (Nat.le_refl _) _, q, bad, k, m, s, A', len, cap, hp, hq, ?_, rfl, ?_⟩
  · exact (((hR.far (by show r ≠ w.heap.size; omega) _).far (by show r ≠ w.heap.size; omega) _).far (by show r ≠ w.heap.size; omega) _).far (by show r ≠ w.heap.size; omega) _
  · unfold RLog
    split
    · rename_i hb; rw [if_pos hb] at hL; exact hL
    · rename_i hb
      rw [if_neg hb] at hL
      obtain ⟨l, h1, h2, h3⟩ := hL
      exact ⟨l, h1, h2, h3.keep (by omega) (by simp [World.setCell]) fun p hp1 hp2 => cell_box4 _ _ _ _ (by omega)⟩

/-- a reading that fails ends so -/
theorem rval_bad {w w1 : World} {r n c p q d : Nat} {A : Option Addr} {b0 : Bool} {xs : List UInt8} (hr : r < w.heap.size) (ht : Turn w w1 r) (hz : w.heap.size < w1.heap.size) (hR : RR w1 r A n c q b0) (hp : p ≤ q) (hq : q ≤ n) (hX : rval d (xs.drop p) = none) :
    RVal w r A n c p xs d (.returned (.agg #[.int .i64 0, .int .i64 0, .string ⟨#[]⟩, .slice none 0 0])) (box4 (w1.setCell ⟨r, 2, none⟩ (.bool true)) w.heap.size 0 0 ⟨#[]⟩ (.slice none 0 0)) :=
  rval_end (bad := true) hr (ht.trans (turn_setCell w1 r 2 _)) (by simpa [World.setCell] using hz) hR.setBad hp hq (by rw [if_pos rfl]; exact hX)
theorem RVal.drew {w w' : World} {r n c p d : Nat} {A : Option Addr} {xs : List UInt8} {e : Ending} (h : RVal w r A n c p xs d e w') : RVal w r A n c p xs d e w'.drew := by
  obtain ⟨ht, q, bad, k, m, s, A', len, cap, h1, h2, h3, h4, h5⟩ := h
  refine ⟨ht.drew, q, bad, k, m, s, A', len, cap, h1, h2, h3.drew, h4, ?_⟩
  unfold RLog at h5 ⊢
  split
  · rename_i hb; rw [if_pos hb] at h5; exact h5
  · rename_i hb
    rw [if_neg hb] at h5
    obtain ⟨l, g1, g2, g3⟩ := h5
    exact ⟨l, g1, g2, g3.keep (Nat.le_refl _) (Nat.le_refl _) fun _ _ _ => rfl⟩
theorem RVal.drewN {w w' : World} {r n c p d : Nat} {A : Option Addr} {xs : List UInt8} {e : Ending} (h : RVal w r A n c p xs d e w') (k : Nat) : RVal w r A n c p xs d e (w'.drewN k) := by
  obtain ⟨ht, q, bad, k', m, s, A', len, cap, h1, h2, h3, h4, h5⟩ := h
  refine ⟨⟨ht.os, ht.tape, ht.output, ht.size, ht.block⟩, q, bad, k', m, s, A', len, cap, h1, h2, h3, h4, ?_⟩
  unfold RLog at h5 ⊢
  split
  · rename_i hb; rw [if_pos hb] at h5; exact h5
  · rename_i hb
    rw [if_neg hb] at h5
    obtain ⟨l, g1, g2, g3⟩ := h5
    exact ⟨l, g1, g2, g3.keep (Nat.le_refl _) (Nat.le_refl _) fun _ _ _ => rfl⟩
/-- a part of the bytes -/
theorem rdB_sub {w : World} {B bb o n q u : Nat} {xs : List UInt8} (h : RdB w B (some ⟨bb, o, none⟩) n xs) (hq : q + u ≤ n) : RdB w B (some ⟨bb, o + q, none⟩) u ((xs.drop q).take u) := by
  have h1 := h.1
  refine ⟨by rw [List.length_take, List.length_drop, ← h1]; omega, fun hu => ?_⟩
  obtain ⟨b', o', e, hb, hc⟩ := h.2 (by omega)
  injection e with e
  injection e with e1 e2 _
  subst e1; subst e2
  refine ⟨_, _, rfl, hb, fun j y hj => ?_⟩
  rw [List.getElem?_take] at hj
  split at hj
  · rw [List.getElem?_drop] at hj
    rw [Nat.add_assoc]
    exact hc _ y hj
  · cases hj
theorem rval_not3 (d : Nat) (b : UInt8) (q : List UInt8) (h : b ≠ 3) : rval d (b :: q) = if b = 1 then rint q else if b = 2 then rtext q else none := by
  cases d with
  | zero => rw [rval]
  | succ d => rw [rval, if_neg h]

set_option maxRecDepth 100000 in
set_option maxHeartbeats 4000000 in
theorem rv_nil (d r n c p B : Nat) (A : Option Addr) (xs : List UInt8) (w : World) (h : RR w r A n c p false) (hb : RdB w B A n xs) (hB : B ≤ r) (_ : n ≤ 1099511627776) (_ : n ≤ c) (hp : p = n) :
    Calls Try.prog 35 #[.pointer (some ⟨r, 0, none⟩), .int .i64 (16 - (d : Int))] w (RVal w r A n c p xs d) := by
  have hxl1 : xs.length ≤ n := by rw [hb.1]; exact Nat.le_refl _
  have hxl2 : n ≤ xs.length := by rw [← hb.1]; exact Nat.le_refl _
  have hr := h.lt
  obtain ⟨W, hW⟩ : ∃ W : World, W = w.alloc (.cells #[.int .i64 0, .int .i64 0, .string ⟨#[]⟩, .slice none 0 0] 24) := ⟨_, rfl⟩
  have hWb : Below w.heap.size w W := by rw [hW]; exact below_box _
  have hWz : W.heap.size = w.heap.size + 1 := by rw [hW]; simp
  have HWV : Hid (VB W w.heap.size 0 0 (.string ⟨#[]⟩) (.slice none 0 0)) := by unfold Hid; rw [hW]; exact vb_new _ _ _ _ _
  have HWR := Lib.hid (h.below hWb)
  have HWT : Hid (Turn w W r) := Turn.of_below hWb
  have HB := Lib.hid (hb.below (hWb.mono (by omega)))
  have HW := Lib.hid hW
  clear h hb hWb hW
  have HX : Hid (rval d (xs.drop p) = none) := by
    unfold Hid; rw [List.drop_of_length_le (by omega)]; cases d <;> rfl
  go_enter Try.func35, Try.ntmps35
  go_wp2_with fail
  rw [← HW.out]
  refine (next_no r n c p A false W HWR.out (by omega)).mono ?_
  rintro e w1 ⟨rfl, h1, h2⟩
  have hz1 : W.heap.size ≤ w1.heap.size := h2.size
  have f2 := h1.frozen 2
  have d2 := h1.cell2
  have v1 := HWV.out.grown h2 (by intro e; injection e with e; omega)
  have b0 := v1.cell 0
  have b1 := v1.cell 1
  have b2 := v1.cell 2
  have b3 := v1.cell 3
  have q0 := v1.frozen 0
  have q1 := v1.frozen 1
  have q2 := v1.frozen 2
  have q3 := v1.frozen 3
  have H1 := Lib.hid h1
  have H2 := Lib.hid h2
  clear h1 h2 v1
  go_wp2_with fail
  refine bodyPost_ret (v := .agg #[.int .i64 0, .int .i64 0, .string ⟨#[]⟩, .slice none 0 0]) (by simp [results, Try.results35, go_sem, b0, b1, b2, b3]) rfl ?_
  exact rval_bad hr (HWT.out.trans H2.out) (by omega) H1.out (Nat.le_refl _) (by omega) HX.out

set_option maxRecDepth 100000 in
set_option maxHeartbeats 4000000 in
theorem rv_other (d r n c p B : Nat) (A : Option Addr) (xs : List UInt8) (w : World) (h : RR w r A n c p false) (hb : RdB w B A n xs) (hB : B ≤ r) (hn : n ≤ 1099511627776) (hc : n ≤ c) (b : UInt8) (hbx : xs[p]? = some b) (e1 : b.toNat ≠ 1) (e2 : b.toNat ≠ 2) (e3 : b.toNat ≠ 3) :
    Calls Try.prog 35 #[.pointer (some ⟨r, 0, none⟩), .int .i64 (16 - (d : Int))] w (RVal w r A n c p xs d) := by
  have hxl1 : xs.length ≤ n := by rw [hb.1]; exact Nat.le_refl _
  have hxl2 : n ≤ xs.length := by rw [← hb.1]; exact Nat.le_refl _
  have hr := h.lt
  obtain ⟨W, hW⟩ : ∃ W : World, W = w.alloc (.cells #[.int .i64 0, .int .i64 0, .string ⟨#[]⟩, .slice none 0 0] 24) := ⟨_, rfl⟩
  have hWb : Below w.heap.size w W := by rw [hW]; exact below_box _
  have hWz : W.heap.size = w.heap.size + 1 := by rw [hW]; simp
  have HWV : Hid (VB W w.heap.size 0 0 (.string ⟨#[]⟩) (.slice none 0 0)) := by unfold Hid; rw [hW]; exact vb_new _ _ _ _ _
  have HWR := Lib.hid (h.below hWb)
  have HWT : Hid (Turn w W r) := Turn.of_below hWb
  have HB := Lib.hid (hb.below (hWb.mono (by omega)))
  have HW := Lib.hid hW
  clear h hb hWb hW
  have hlt : p < xs.length := (List.getElem?_eq_some_iff.1 hbx).1
  obtain ⟨bb, o, rfl, hbb, _⟩ := HB.out.2 (by omega)
  have hdr : xs.drop p = b :: xs.drop (p + 1) := by
    rw [List.drop_eq_getElem_cons hlt]
    congr 1
    rw [List.getElem?_eq_getElem hlt] at hbx
    exact Option.some.inj hbx
  have HBX := Lib.hid hbx
  have HDR := Lib.hid hdr
  clear hdr hbx
  have g1 : ((b.toNat : Int) == 1) = false := by simp; omega
  have g2 : ((b.toNat : Int) == 2) = false := by simp; omega
  have g3 : ((b.toNat : Int) == 3) = false := by simp; omega
  have hbi : (b.toNat : Int) = (b.toNat : Int) := rfl
  have HX : Hid (rval d (xs.drop p) = none) := by
    unfold Hid
    rw [HDR.out, rval_not3 d b _ (fun h => e3 (by rw [h]; rfl)), if_neg (fun h => e1 (by rw [h]; rfl)), if_neg (fun h => e2 (by rw [h]; rfl))]
  go_enter Try.func35, Try.ntmps35
  go_wp2_with fail
  rw [← HW.out]
  refine (next_yes r n c p B _ false xs b W HWR.out HB.out hB hn hc HBX.out).mono ?_
  rintro e w1 ⟨he, h1, h2⟩
  subst he
  have hz1 : W.heap.size ≤ w1.heap.size := h2.size
  have v1 := HWV.out.grown h2 (by intro e; injection e with e; omega)
  have HV1 := Lib.hid v1
  have H1 := Lib.hid h1
  have H2 := Lib.hid (HWT.out.trans h2)
  have HB1 := Lib.hid (HB.out.below (h2.below hB HWR.out.lt))
  have f2 := h1.frozen 2
  have d2 := h1.cell2
  have b0 := v1.cell 0
  have b1 := v1.cell 1
  have b2 := v1.cell 2
  have b3 := v1.cell 3
  have q0 := v1.frozen 0
  have q1 := v1.frozen 1
  have q2 := v1.frozen 2
  have q3 := v1.frozen 3
  clear h1 h2 v1 hbi e1 e2 e3
  go_wp2_with fail
  refine bodyPost_ret (v := .agg #[.int .i64 0, .int .i64 0, .string ⟨#[]⟩, .slice none 0 0]) (by simp [results, Try.results35, go_sem, b0, b1, b2, b3]) rfl ?_
  exact rval_bad hr H2.out (by omega) H1.out (by omega) (by omega) HX.out
end Go.Proofs.Ytbcaanadmfnegaa
