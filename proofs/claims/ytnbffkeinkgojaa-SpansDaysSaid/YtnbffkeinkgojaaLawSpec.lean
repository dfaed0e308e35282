/- The law SpansSpec, walked, out of the contracts of the program's functions. -/
import Derived.Test.YtnbffkeinkgojaaSaneS
namespace Go.Proofs.Ytnbffkeinkgojaa
open Go.RowKit

def DaysAre (l : List Sp) (f : Nat → Bool) : Prop := ∀ k, k < 1024 → dayIn l k = f k
theorem comb_eq (op : Bool → Bool → Bool) {l l' : List Sp} {f g : Nat → Bool} (h : DaysAre l f) (h' : DaysAre l' g) : (normal fun k => op (dayIn l k) (dayIn l' k)) = normal fun k => op (f k) (g k) :=
  norm_congr fun k hk => by rw [h k hk, h' k hk]
theorem norm_days_eq {l : List Sp} {f : Nat → Bool} (h : DaysAre l f) : normal (dayIn l) = normal fun k => f k := norm_congr h
set_option maxRecDepth 100000 in
set_option maxHeartbeats 20000000 in
theorem law_spec (P : ProgOk) (Aa : Option Addr) (na ca : Nat) (la : List Sp) (w : World) (hra : RdS w w.heap.size Aa na la) (h1a : na ≤ ca) (h2a : ca ≤ maxLen) :
    Calls Try.prog 3 #[.slice Aa na ca] w fun e w' => e = .returned (.bool true) ∧ Below w.heap.size w w' := by
  have HB0 : Hid (Below w.heap.size w w) := Below.refl _ _
  have PP := Lib.hid P
  have Ra := Lib.hid hra
  have Da : Hid (DaysAre la (fun k => dayIn la k)) := fun _ _ => rfl
  clear P hra
  go_enter Try.func3, Try.ntmps3
  go_wp2_with fail
  refine (sane_any PP.out w).mono ?_
  rintro e w1 ⟨rfl, b1⟩
  have HB1 : Hid (Below w.heap.size w w1) := HB0.out.trans (b1.mono HB0.out.size)
  have Ra := Lib.hid (Ra.out.below b1 b1.size)
  clear b1
  go_wp2_with fail
  refine (reffew_any Aa na ca w1).mono ?_
  rintro e wx ⟨rfl, rfl⟩
  by_cases hfa : na ≤ 40
  case neg =>
    rw [decide_eq_false hfa]
    go_wp2_with fail
    go_ret
    exact ⟨rfl, HB1.out⟩
  rw [decide_eq_true hfa]
  go_wp2_with fail
  refine (PP.out.check Aa na ca _ w1 Ra.out h1a h2a (by omega)).mono ?_
  rintro e w2 ⟨rfl, b2⟩
  have HB2 : Hid (Below w.heap.size w w2) := HB1.out.trans (b2.mono HB1.out.size)
  have Ra := Lib.hid (Ra.out.below b2 b2.size)
  clear b2
  go_wp2_with fail
  refine (refcheck_any Aa na ca _ w2 Ra.out (by omega)).mono ?_
  rintro e w3 ⟨rfl, b3⟩
  have HB3 : Hid (Below w.heap.size w w3) := HB2.out.trans (b3.mono HB2.out.size)
  have Ra := Lib.hid (Ra.out.below b3 b3.size)
  clear b3
  go_wp2_with fail
  refine (PP.out.nrm Aa na ca _ w3 Ra.out h1a h2a (by omega)).mono ?_
  rintro e w4 ⟨Ax, nx, cx, rfl, r4, h1x, h2x, b4⟩
  have HB4 : Hid (Below w.heap.size w w4) := HB3.out.trans (b4.mono HB3.out.size)
  have Ra := Lib.hid (Ra.out.below b4 b4.size)
  rw [norm_days_eq Da.out] at r4
  have hnx : nx ≤ 512 := by rw [r4.1]; exact norm_many _
  have Dx : Hid (DaysAre (normal fun k => dayIn la k) (fun k => dayIn la k)) := fun k hk => norm_day _ k hk
  have Rx := Lib.hid r4
  clear r4
  clear b4
  go_wp2_with fail
  refine (refnormal_any Aa na ca _ w4 Ra.out (by omega)).mono ?_
  rintro e w5 ⟨Ay, ny, cy, rfl, r5, h1y, h2y, b5⟩
  have HB5 : Hid (Below w.heap.size w w5) := HB4.out.trans (b5.mono HB4.out.size)
  have Ra := Lib.hid (Ra.out.below b5 b5.size)
  have Rx := Lib.hid (Rx.out.below b5 b5.size)
  rw [norm_days_eq Da.out] at r5
  have hny : ny ≤ 512 := by rw [r5.1]; exact norm_many _
  have Dy : Hid (DaysAre (normal fun k => dayIn la k) (fun k => dayIn la k)) := fun k hk => norm_day _ k hk
  have Ry := Lib.hid r5
  clear r5
  clear b5
  go_wp2_with fail
  have Ry' : Hid (RdS w5 w5.heap.size Ay ny (normal fun k => dayIn la k)) := by
    rw [show (normal fun k => dayIn la k) = (normal fun k => dayIn la k) from rfl]
    exact Ry.out
  refine (refsame_eq Ax Ay nx ny cx cy _ w5 Rx.out Ry'.out (by omega)).mono ?_
  rintro e w6 ⟨rfl, b6⟩
  have HB6 : Hid (Below w.heap.size w w6) := HB5.out.trans (b6.mono HB5.out.size)
  have Ra := Lib.hid (Ra.out.below b6 b6.size)
  have Rx := Lib.hid (Rx.out.below b6 b6.size)
  have Ry := Lib.hid (Ry.out.below b6 b6.size)
  clear Ry'
  clear b6
  go_wp2_with fail
  go_ret
  exact ⟨rfl, HB6.out⟩

end Go.Proofs.Ytnbffkeinkgojaa
