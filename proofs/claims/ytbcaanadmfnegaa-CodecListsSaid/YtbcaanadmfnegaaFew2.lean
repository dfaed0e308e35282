/- few, over any slice of values. -/
import Derived.Test.YtbcaanadmfnegaaFew
namespace Go.Proofs.Ytbcaanadmfnegaa
open Go.RowKit

set_option maxRecDepth 100000 in
set_option maxHeartbeats 1000000 in
/-- few, over a slice of values -/
theorem few_wide (l : List V) (A : Option Addr) (cap : Nat) (w : World) (B : Nat) (hB : B ≤ w.heap.size) (hl : RdAll w B l A 0) (hlc : l.length ≤ maxLen) :
    Calls Try.prog 11 #[.slice A l.length cap] w fun e w' => e = .returned (.bool (fewAll l)) ∧ Below w.heap.size w w' := by
  have hl0 := Lib.hid hl
  unfold maxLen at hlc
  clear hl
  go_enter Try.func11, Try.ntmps11
  go_wp2_with fail
  go_loopw [7] (fun i wr => ∃ j : Nat, j ≤ l.length ∧ i = .int .i64 j ∧ Hid (fewAll (l.take j) = true) ∧ Below w.heap.size w wr) (fun i _ => l.length - (intOf i).toNat)
  case atStart => exact ⟨0, Nat.zero_le _, rfl, by simp [Hid, fewAll], Below.refl _ _⟩
  case round =>
    obtain ⟨j, hj, rfl, hfj, hwr⟩ := hrel
    have hwz : w.heap.size ≤ wr.heap.size := hwr.size
    by_cases hlt : j < l.length
    · obtain ⟨b, o, k', n', s', m', A', cap', rfl, hbB, e0, e1, e2, e3, hx, hr⟩ := hl0.out.open_ hlt
      have hm := List.mem_of_getElem? hx
      have hbb : b < w.heap.size := by omega
      rw [← hwr.cell (p := ⟨b, _, none⟩) hbb] at e0 e1 e2 e3
      have hrr := Lib.hid (Rd.below (B' := B) hr (hwr.mono hB) (Nat.le_refl _))
      have htk := Lib.hid (fewAll_take l j _ hx)
      have HX := Lib.hid hx
      clear hr hx
      cases hf : decide (V.count (.mk k' n' s' m') 20 ≤ 200) with
      | false =>
        have HF : Hid (fewAll l = false) := fewAll_false hm hf
        have HM := Lib.hid hf
        clear hf
        go_wp2_with fail
        refine (refFew_any _ _ B _ _ (by simp; omega) (Rd.below (B' := B) hrr.out (((Below.refl _ _).alloc (Nat.le_refl _) _).mono (by omega)) (Nat.le_refl _)) (by omega) (by omega)).mono ?_
        rintro e w2 ⟨rfl, hb2⟩
        rw [HM.out]
        go_wp2_with fail
        go_ret
        refine ⟨by rw [HF.out]; rfl, hwr.trans (((Below.refl _ _).alloc (by omega) _).trans (hb2.mono ?_))⟩
        simp; omega
      | true =>
        have HK : Hid (fewAll (l.take (j + 1)) = true) := by unfold Hid; rw [htk.out, hfj.out, hf]; rfl
        have HM := Lib.hid hf
        clear hf
        go_wp2_with fail
        refine (refFew_any _ _ B _ _ (by simp; omega) (Rd.below (B' := B) hrr.out (((Below.refl _ _).alloc (Nat.le_refl _) _).mono (by omega)) (Nat.le_refl _)) (by omega) (by omega)).mono ?_
        rintro e w2 ⟨rfl, hb2⟩
        rw [HM.out]
        go_wp2_with fail
        go_roundw
        case rel => exact ⟨j + 1, by omega, by go_num, HK, hwr.trans (((Below.refl _ _).alloc (by omega) _).trans (hb2.mono (by simp; omega)))⟩
        case measure => simp [intOf]; omega
    · have hje : j = l.length := by omega
      subst hje
      rw [List.take_length] at *
      have HK : Hid (fewAll l = true) := hfj
      clear hfj
      go_wp2_with fail
      go_ret
      exact ⟨by rw [HK.out]; rfl, hwr⟩
end Go.Proofs.Ytbcaanadmfnegaa
