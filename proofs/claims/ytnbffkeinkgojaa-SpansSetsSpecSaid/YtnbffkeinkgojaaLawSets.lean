/- The law SpansSetsSpec, walked. -/
import Derived.Test.YtnbffkeinkgojaaLawSpec
namespace Go.Proofs.Ytnbffkeinkgojaa
open Go.RowKit

set_option maxRecDepth 100000 in
set_option maxHeartbeats 20000000 in
theorem law_sets (P : ProgOk) (Aa : Option Addr) (na ca : Nat) (la : List Sp) (Ab : Option Addr) (nb cb : Nat) (lb : List Sp) (w : World) (hra : RdS w w.heap.size Aa na la) (h1a : na ≤ ca) (h2a : ca ≤ maxLen) (hrb : RdS w w.heap.size Ab nb lb) (h1b : nb ≤ cb) (h2b : cb ≤ maxLen) :
    Calls Try.prog 4 #[.slice Aa na ca, .slice Ab nb cb] w fun e w' => e = .returned (.bool true) ∧ Below w.heap.size w w' := by
  have HB0 : Hid (Below w.heap.size w w) := Below.refl _ _
  have PP := Lib.hid P
  have Ra := Lib.hid hra
  have Da : Hid (DaysAre la (fun k => dayIn la k)) := fun _ _ => rfl
  have Rb := Lib.hid hrb
  have Db : Hid (DaysAre lb (fun k => dayIn lb k)) := fun _ _ => rfl
  clear P hra hrb
  go_enter Try.func4, Try.ntmps4
  go_wp2_with fail
  refine (sane_any PP.out w).mono ?_
  rintro e w1 ⟨rfl, b1⟩
  have HB1 : Hid (Below w.heap.size w w1) := HB0.out.trans (b1.mono HB0.out.size)
  have Ra := Lib.hid (Ra.out.below b1 b1.size)
  have Rb := Lib.hid (Rb.out.below b1 b1.size)
  clear b1
  go_wp2_with fail
  refine (reffew_any Aa na ca w1).mono ?_
  rintro e wx ⟨rfl, rfl⟩
  by_cases hfa : na ≤ 40
  case neg =>
    rw [decide_eq_false hfa]
    go_wp2_with fail
    go_ret
    exact ⟨rfl, HB1.out⟩
  rw [decide_eq_true hfa]
  go_wp2_with fail
  refine (reffew_any Ab nb cb w1).mono ?_
  rintro e wx ⟨rfl, rfl⟩
  by_cases hfb : nb ≤ 40
  case neg =>
    rw [decide_eq_false hfb]
    go_wp2_with fail
    go_ret
    exact ⟨rfl, HB1.out⟩
  rw [decide_eq_true hfb]
  go_wp2_with fail
  refine (PP.out.union Aa Ab na nb ca cb _ _ w1 Ra.out Rb.out h1a h2a h1b h2b (by omega) (by omega)).mono ?_
  rintro e w2 ⟨Ax, nx, cx, rfl, r2, h1x, h2x, b2⟩
  have HB2 : Hid (Below w.heap.size w w2) := HB1.out.trans (b2.mono HB1.out.size)
  have Ra := Lib.hid (Ra.out.below b2 b2.size)
  have Rb := Lib.hid (Rb.out.below b2 b2.size)
  rw [comb_eq uOp Da.out Db.out] at r2
  have hnx : nx ≤ 512 := by rw [r2.1]; exact norm_many _
  have Dx : Hid (DaysAre (normal fun k => uOp (dayIn la k) (dayIn lb k)) (fun k => uOp (dayIn la k) (dayIn lb k))) := fun k hk => norm_day _ k hk
  have Rx := Lib.hid r2
  clear r2
  clear b2
  go_wp2_with fail
  refine (refunion_any Aa Ab na nb ca cb _ _ w2 Ra.out Rb.out (by omega) (by omega)).mono ?_
  rintro e w3 ⟨Ay, ny, cy, rfl, r3, h1y, h2y, b3⟩
  have HB3 : Hid (Below w.heap.size w w3) := HB2.out.trans (b3.mono HB2.out.size)
  have Ra := Lib.hid (Ra.out.below b3 b3.size)
  have Rb := Lib.hid (Rb.out.below b3 b3.size)
  have Rx := Lib.hid (Rx.out.below b3 b3.size)
  rw [comb_eq uOp Da.out Db.out] at r3
  have hny : ny ≤ 512 := by rw [r3.1]; exact norm_many _
  have Dy : Hid (DaysAre (normal fun k => uOp (dayIn la k) (dayIn lb k)) (fun k => uOp (dayIn la k) (dayIn lb k))) := fun k hk => norm_day _ k hk
  have Ry := Lib.hid r3
  clear r3
  clear b3
  go_wp2_with fail
  have Ry' : Hid (RdS w3 w3.heap.size Ay ny (normal fun k => uOp (dayIn la k) (dayIn lb k))) := by
    rw [show (normal fun k => uOp (dayIn la k) (dayIn lb k)) = (normal fun k => uOp (dayIn la k) (dayIn lb k)) from rfl]
    exact Ry.out
  refine (refsame_eq Ax Ay nx ny cx cy _ w3 Rx.out Ry'.out (by omega)).mono ?_
  rintro e w4 ⟨rfl, b4⟩
  have HB4 : Hid (Below w.heap.size w w4) := HB3.out.trans (b4.mono HB3.out.size)
  have Ra := Lib.hid (Ra.out.below b4 b4.size)
  have Rb := Lib.hid (Rb.out.below b4 b4.size)
  have Rx := Lib.hid (Rx.out.below b4 b4.size)
  have Ry := Lib.hid (Ry.out.below b4 b4.size)
  clear Ry'
  clear b4
  go_wp2_with fail
  clear Rx Dx
  clear Ry Dy
  refine (PP.out.meet Aa Ab na nb ca cb _ _ w4 Ra.out Rb.out h1a h2a h1b h2b (by omega) (by omega)).mono ?_
  rintro e w5 ⟨Ax, nx, cx, rfl, r5, h1x, h2x, b5⟩
  have HB5 : Hid (Below w.heap.size w w5) := HB4.out.trans (b5.mono HB4.out.size)
  have Ra := Lib.hid (Ra.out.below b5 b5.size)
  have Rb := Lib.hid (Rb.out.below b5 b5.size)
  rw [comb_eq mOp Da.out Db.out] at r5
  have hnx : nx ≤ 512 := by rw [r5.1]; exact norm_many _
  have Dx : Hid (DaysAre (normal fun k => mOp (dayIn la k) (dayIn lb k)) (fun k => mOp (dayIn la k) (dayIn lb k))) := fun k hk => norm_day _ k hk
  have Rx := Lib.hid r5
  clear r5
  clear b5
  go_wp2_with fail
  refine (refmeet_any Aa Ab na nb ca cb _ _ w5 Ra.out Rb.out (by omega) (by omega)).mono ?_
  rintro e w6 ⟨Ay, ny, cy, rfl, r6, h1y, h2y, b6⟩
  have HB6 : Hid (Below w.heap.size w w6) := HB5.out.trans (b6.mono HB5.out.size)
  have Ra := Lib.hid (Ra.out.below b6 b6.size)
  have Rb := Lib.hid (Rb.out.below b6 b6.size)
  have Rx := Lib.hid (Rx.out.below b6 b6.size)
  rw [comb_eq mOp Da.out Db.out] at r6
  have hny : ny ≤ 512 := by rw [r6.1]; exact norm_many _
  have Dy : Hid (DaysAre (normal fun k => mOp (dayIn la k) (dayIn lb k)) (fun k => mOp (dayIn la k) (dayIn lb k))) := fun k hk => norm_day _ k hk
  have Ry := Lib.hid r6
  clear r6
  clear b6
  go_wp2_with fail
  have Ry' : Hid (RdS w6 w6.heap.size Ay ny (normal fun k => mOp (dayIn la k) (dayIn lb k))) := by
    rw [show (normal fun k => mOp (dayIn la k) (dayIn lb k)) = (normal fun k => mOp (dayIn la k) (dayIn lb k)) from rfl]
    exact Ry.out
  refine (refsame_eq Ax Ay nx ny cx cy _ w6 Rx.out Ry'.out (by omega)).mono ?_
  rintro e w7 ⟨rfl, b7⟩
  have HB7 : Hid (Below w.heap.size w w7) := HB6.out.trans (b7.mono HB6.out.size)
  have Ra := Lib.hid (Ra.out.below b7 b7.size)
  have Rb := Lib.hid (Rb.out.below b7 b7.size)
  have Rx := Lib.hid (Rx.out.below b7 b7.size)
  have Ry := Lib.hid (Ry.out.below b7 b7.size)
  clear Ry'
  clear b7
  go_wp2_with fail
  clear Rx Dx
  clear Ry Dy
  refine (PP.out.minus Aa Ab na nb ca cb _ _ w7 Ra.out Rb.out h1a h2a h1b h2b (by omega) (by omega)).mono ?_
  rintro e w8 ⟨Ax, nx, cx, rfl, r8, h1x, h2x, b8⟩
  have HB8 : Hid (Below w.heap.size w w8) := HB7.out.trans (b8.mono HB7.out.size)
  have Ra := Lib.hid (Ra.out.below b8 b8.size)
  have Rb := Lib.hid (Rb.out.below b8 b8.size)
  rw [comb_eq dOp Da.out Db.out] at r8
  have hnx : nx ≤ 512 := by rw [r8.1]; exact norm_many _
  have Dx : Hid (DaysAre (normal fun k => dOp (dayIn la k) (dayIn lb k)) (fun k => dOp (dayIn la k) (dayIn lb k))) := fun k hk => norm_day _ k hk
  have Rx := Lib.hid r8
  clear r8
  clear b8
  go_wp2_with fail
  refine (refminus_any Aa Ab na nb ca cb _ _ w8 Ra.out Rb.out (by omega) (by omega)).mono ?_
  rintro e w9 ⟨Ay, ny, cy, rfl, r9, h1y, h2y, b9⟩
  have HB9 : Hid (Below w.heap.size w w9) := HB8.out.trans (b9.mono HB8.out.size)
  have Ra := Lib.hid (Ra.out.below b9 b9.size)
  have Rb := Lib.hid (Rb.out.below b9 b9.size)
  have Rx := Lib.hid (Rx.out.below b9 b9.size)
  rw [comb_eq dOp Da.out Db.out] at r9
  have hny : ny ≤ 512 := by rw [r9.1]; exact norm_many _
  have Dy : Hid (DaysAre (normal fun k => dOp (dayIn la k) (dayIn lb k)) (fun k => dOp (dayIn la k) (dayIn lb k))) := fun k hk => norm_day _ k hk
  have Ry := Lib.hid r9
  clear r9
  clear b9
  go_wp2_with fail
  have Ry' : Hid (RdS w9 w9.heap.size Ay ny (normal fun k => dOp (dayIn la k) (dayIn lb k))) := by
    rw [show (normal fun k => dOp (dayIn la k) (dayIn lb k)) = (normal fun k => dOp (dayIn la k) (dayIn lb k)) from rfl]
    exact Ry.out
  refine (refsame_eq Ax Ay nx ny cx cy _ w9 Rx.out Ry'.out (by omega)).mono ?_
  rintro e w10 ⟨rfl, b10⟩
  have HB10 : Hid (Below w.heap.size w w10) := HB9.out.trans (b10.mono HB9.out.size)
  have Ra := Lib.hid (Ra.out.below b10 b10.size)
  have Rb := Lib.hid (Rb.out.below b10 b10.size)
  have Rx := Lib.hid (Rx.out.below b10 b10.size)
  have Ry := Lib.hid (Ry.out.below b10 b10.size)
  clear Ry'
  clear b10
  go_wp2_with fail
  clear Rx Dx
  clear Ry Dy
  go_ret
  exact ⟨rfl, HB10.out⟩

end Go.Proofs.Ytnbffkeinkgojaa
