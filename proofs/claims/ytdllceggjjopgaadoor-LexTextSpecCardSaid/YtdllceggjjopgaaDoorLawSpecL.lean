/- The law LexSpec, walked. -/
import Derived.Test.YtdllceggjjopgaaDoorSaneL
namespace Go.Proofs.YtdllceggjjopgaaDoor
open Go.RowKit

theorem eqTk_refl (t : Tk) : eqTk t t = true := by simp [eqTk, sameTk]
theorem sameTk_refl (t : Tk) : sameTk t t = true := by simp [sameTk]
theorem zipAll_refl {p : Tk → Tk → Bool} (h : ∀ t, p t t = true) : ∀ l, zipAll p l l = true
  | [] => rfl
  | t :: l => by unfold zipAll; rw [h, zipAll_refl h l]; rfl

set_option maxRecDepth 100000 in
set_option maxHeartbeats 4000000 in
theorem law_spec (s : List UInt8) (hs0 : s.length ≤ reachBytes) (w : World) (hK : KOK w) : Calls Tryd.prog 3 #[.string ⟨s.toArray⟩] w fun e w' => e = .returned (.bool true) ∧ Below w.heap.size w w' := by
  have HK := Lib.hid hK
  have hs : s.length ≤ maxLen := by unfold maxLen; unfold reachBytes at hs0; omega
  have HSL := Lib.hid hs
  clear hs0
  have HB0 : Hid (Below w.heap.size w w) := Below.refl _ _
  unfold maxLen at hs
  clear hK
  go_enter Tryd.func3, Tryd.ntmps3
  go_wp2_with fail
  refine (sane_any w HK.out).mono ?_
  rintro e w1 ⟨rfl, b1⟩
  have HB1 : Hid (Below w.heap.size w w1) := b1
  have HK1 := Lib.hid (HK.out.below b1 HK.out.pos)
  clear b1
  by_cases hlen : (70000 : Int) < (s.length : Int)
  · go_wp2_with fail
    go_ret
    exact ⟨rfl, HB1.out⟩
  go_wp2_with fail
  refine (lexP_any s HSL.out w1 HK1.out).mono ?_
  rintro e w2 ⟨A, n, cap, rfl, r2, h2a, h2b, b2⟩
  have HB2 : Hid (Below w.heap.size w w2) := HB1.out.trans (b2.mono HB1.out.size)
  have R2 := Lib.hid r2
  have H2 := Lib.hid (Nat.le_trans h2a h2b)
  clear r2 h2a h2b b2
  go_wp2_with fail
  refine (reflex_any s HSL.out w2).mono ?_
  rintro e w3 ⟨A', n', cap', rfl, r3, h3a, h3b, b3⟩
  have HB3 : Hid (Below w.heap.size w w3) := HB2.out.trans (b3.mono HB2.out.size)
  have R2 := Lib.hid (R2.out.below b3 b3.size)
  have R3 := Lib.hid r3
  have H3 := Lib.hid (Nat.le_trans h3a h3b)
  clear r3 h3a h3b b3
  go_wp2_with fail
  refine (refequal_any A A' n n' cap cap' _ _ w3 R2.out R3.out H2.out H3.out).mono ?_
  rintro e w4 ⟨rfl, b4⟩
  rw [zipAll_refl eqTk_refl]
  have HB4 : Hid (Below w.heap.size w w4) := HB3.out.trans (b4.mono HB3.out.size)
  clear b4
  go_wp2_with fail
  go_ret
  exact ⟨rfl, HB4.out⟩
end Go.Proofs.YtdllceggjjopgaaDoor
