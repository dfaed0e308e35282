/- The law SpansDivide, walked. -/
import Derived.Test.YtnbffkeinkgojaaLawSpec
namespace Go.Proofs.Ytnbffkeinkgojaa
open Go.RowKit

set_option maxRecDepth 100000 in
set_option maxHeartbeats 20000000 in
theorem law_divide (P : ProgOk) (Aa : Option Addr) (na ca : Nat) (la : List Sp) (Ab : Option Addr) (nb cb : Nat) (lb : List Sp) (w : World) (hra : RdS w w.heap.size Aa na la) (h1a : na ≤ ca) (h2a : ca ≤ maxLen) (hrb : RdS w w.heap.size Ab nb lb) (h1b : nb ≤ cb) (h2b : cb ≤ maxLen) :
    Calls Try.prog 8 #[.slice Aa na ca, .slice Ab nb cb] w fun e w' => e = .returned (.bool true) ∧ Below w.heap.size w w' := by
  have HB0 : Hid (Below w.heap.size w w) := Below.refl _ _
  have PP := Lib.hid P
  have Ra := Lib.hid hra
  have Da : Hid (DaysAre la (fun k => dayIn la k)) := fun _ _ => rfl
  have Rb := Lib.hid hrb
  have Db : Hid (DaysAre lb (fun k => dayIn lb k)) := fun _ _ => rfl
  clear P hra hrb
  go_enter Try.func8, Try.ntmps8
  go_wp2_with fail
  refine (sane_any PP.out w).mono ?_
  rintro e w1 ⟨rfl, b1⟩
  have HB1 : Hid (Below w.heap.size w w1) := HB0.out.trans (b1.mono HB0.out.size)
  have Ra := Lib.hid (Ra.out.below b1 b1.size)
  have Rb := Lib.hid (Rb.out.below b1 b1.size)
  clear b1
  go_wp2_with fail
  refine (reffew_any Aa na ca w1).mono ?_
  rintro e wx ⟨rfl, rfl⟩
  by_cases hfa : na ≤ 40
  case neg =>
    rw [decide_eq_false hfa]
    go_wp2_with fail
    go_ret
    exact ⟨rfl, HB1.out⟩
  rw [decide_eq_true hfa]
  go_wp2_with fail
  refine (reffew_any Ab nb cb w1).mono ?_
  rintro e wx ⟨rfl, rfl⟩
  by_cases hfb : nb ≤ 40
  case neg =>
    rw [decide_eq_false hfb]
    go_wp2_with fail
    go_ret
    exact ⟨rfl, HB1.out⟩
  rw [decide_eq_true hfb]
  go_wp2_with fail
  refine (PP.out.minus Aa Ab na nb ca cb _ _ w1 Ra.out Rb.out h1a h2a h1b h2b (by omega) (by omega)).mono ?_
  rintro e w2 ⟨Ad, nd, cd, rfl, r2, h1d, h2d, b2⟩
  have HB2 : Hid (Below w.heap.size w w2) := HB1.out.trans (b2.mono HB1.out.size)
  have Ra := Lib.hid (Ra.out.below b2 b2.size)
  have Rb := Lib.hid (Rb.out.below b2 b2.size)
  rw [comb_eq dOp Da.out Db.out] at r2
  have hnd : nd ≤ 512 := by rw [r2.1]; exact norm_many _
  have Dd : Hid (DaysAre (normal fun k => dOp (dayIn la k) (dayIn lb k)) (fun k => dOp (dayIn la k) (dayIn lb k))) := fun k hk => norm_day _ k hk
  have Rd := Lib.hid r2
  clear r2
  clear b2
  go_wp2_with fail
  refine (PP.out.meet Aa Ab na nb ca cb _ _ w2 Ra.out Rb.out h1a h2a h1b h2b (by omega) (by omega)).mono ?_
  rintro e w3 ⟨Am, nm, cm, rfl, r3, h1m, h2m, b3⟩
  have HB3 : Hid (Below w.heap.size w w3) := HB2.out.trans (b3.mono HB2.out.size)
  have Ra := Lib.hid (Ra.out.below b3 b3.size)
  have Rb := Lib.hid (Rb.out.below b3 b3.size)
  have Rd := Lib.hid (Rd.out.below b3 b3.size)
  rw [comb_eq mOp Da.out Db.out] at r3
  have hnm : nm ≤ 512 := by rw [r3.1]; exact norm_many _
  have Dm : Hid (DaysAre (normal fun k => mOp (dayIn la k) (dayIn lb k)) (fun k => mOp (dayIn la k) (dayIn lb k))) := fun k hk => norm_day _ k hk
  have Rm := Lib.hid r3
  clear r3
  clear b3
  go_wp2_with fail
  refine (PP.out.meet Ad Am nd nm cd cm _ _ w3 Rd.out Rm.out h1d h2d h1m h2m (by omega) (by omega)).mono ?_
  rintro e w4 ⟨Ax, nx, cx, rfl, r4, h1x, h2x, b4⟩
  have HB4 : Hid (Below w.heap.size w w4) := HB3.out.trans (b4.mono HB3.out.size)
  have Ra := Lib.hid (Ra.out.below b4 b4.size)
  have Rb := Lib.hid (Rb.out.below b4 b4.size)
  have Rd := Lib.hid (Rd.out.below b4 b4.size)
  have Rm := Lib.hid (Rm.out.below b4 b4.size)
  rw [comb_eq mOp Dd.out Dm.out, (norm_nil_iff _).2 (fun k _ => by
      simp only [mOp, dOp]
      cases dayIn la k <;> cases dayIn lb k <;> rfl)] at r4
  obtain rfl : nx = 0 := r4.1
  clear r4
  clear b4
  go_wp2_with fail
  refine (PP.out.meet Ad Ab nd nb cd cb _ _ w4 Rd.out Rb.out h1d h2d h1b h2b (by omega) (by omega)).mono ?_
  rintro e w5 ⟨Ax, nx, cx, rfl, r5, h1x, h2x, b5⟩
  have HB5 : Hid (Below w.heap.size w w5) := HB4.out.trans (b5.mono HB4.out.size)
  have Ra := Lib.hid (Ra.out.below b5 b5.size)
  have Rb := Lib.hid (Rb.out.below b5 b5.size)
  have Rd := Lib.hid (Rd.out.below b5 b5.size)
  have Rm := Lib.hid (Rm.out.below b5 b5.size)
  rw [comb_eq mOp Dd.out Db.out, (norm_nil_iff _).2 (fun k _ => by
      simp only [mOp, dOp]
      cases dayIn la k <;> cases dayIn lb k <;> rfl)] at r5
  obtain rfl : nx = 0 := r5.1
  clear r5
  clear b5
  go_wp2_with fail
  refine (PP.out.union Ad Am nd nm cd cm _ _ w5 Rd.out Rm.out h1d h2d h1m h2m (by omega) (by omega)).mono ?_
  rintro e w6 ⟨Ax, nx, cx, rfl, r6, h1x, h2x, b6⟩
  have HB6 : Hid (Below w.heap.size w w6) := HB5.out.trans (b6.mono HB5.out.size)
  have Ra := Lib.hid (Ra.out.below b6 b6.size)
  have Rb := Lib.hid (Rb.out.below b6 b6.size)
  have Rd := Lib.hid (Rd.out.below b6 b6.size)
  have Rm := Lib.hid (Rm.out.below b6 b6.size)
  rw [comb_eq uOp Dd.out Dm.out] at r6
  have hnx : nx ≤ 512 := by rw [r6.1]; exact norm_many _
  have Dx : Hid (DaysAre (normal fun k => uOp (dOp (dayIn la k) (dayIn lb k)) (mOp (dayIn la k) (dayIn lb k))) (fun k => uOp (dOp (dayIn la k) (dayIn lb k)) (mOp (dayIn la k) (dayIn lb k)))) := fun k hk => norm_day _ k hk
  have Rx := Lib.hid r6
  clear r6
  clear b6
  go_wp2_with fail
  refine (PP.out.nrm Aa na ca _ w6 Ra.out h1a h2a (by omega)).mono ?_
  rintro e w7 ⟨Ay, ny, cy, rfl, r7, h1y, h2y, b7⟩
  have HB7 : Hid (Below w.heap.size w w7) := HB6.out.trans (b7.mono HB6.out.size)
  have Ra := Lib.hid (Ra.out.below b7 b7.size)
  have Rb := Lib.hid (Rb.out.below b7 b7.size)
  have Rd := Lib.hid (Rd.out.below b7 b7.size)
  have Rm := Lib.hid (Rm.out.below b7 b7.size)
  have Rx := Lib.hid (Rx.out.below b7 b7.size)
  rw [norm_days_eq Da.out] at r7
  have hny : ny ≤ 512 := by rw [r7.1]; exact norm_many _
  have Dy : Hid (DaysAre (normal fun k => dayIn la k) (fun k => dayIn la k)) := fun k hk => norm_day _ k hk
  have Ry := Lib.hid r7
  clear r7
  clear b7
  go_wp2_with fail
  have Ry' : Hid (RdS w7 w7.heap.size Ay ny (normal fun k => uOp (dOp (dayIn la k) (dayIn lb k)) (mOp (dayIn la k) (dayIn lb k)))) := by
    rw [show (normal fun k => uOp (dOp (dayIn la k) (dayIn lb k)) (mOp (dayIn la k) (dayIn lb k))) = (normal fun k => dayIn la k) from norm_congr (fun k _ => by
      simp only [uOp, mOp, dOp]
      cases dayIn la k <;> cases dayIn lb k <;> rfl)]
    exact Ry.out
  refine (refsame_eq Ax Ay nx ny cx cy _ w7 Rx.out Ry'.out (by omega)).mono ?_
  rintro e w8 ⟨rfl, b8⟩
  have HB8 : Hid (Below w.heap.size w w8) := HB7.out.trans (b8.mono HB7.out.size)
  have Ra := Lib.hid (Ra.out.below b8 b8.size)
  have Rb := Lib.hid (Rb.out.below b8 b8.size)
  have Rd := Lib.hid (Rd.out.below b8 b8.size)
  have Rm := Lib.hid (Rm.out.below b8 b8.size)
  have Rx := Lib.hid (Rx.out.below b8 b8.size)
  have Ry := Lib.hid (Ry.out.below b8 b8.size)
  clear Ry'
  clear b8
  go_wp2_with fail
  clear Rx Dx
  clear Ry Dy
  refine (PP.out.union Ad Ab nd nb cd cb _ _ w8 Rd.out Rb.out h1d h2d h1b h2b (by omega) (by omega)).mono ?_
  rintro e w9 ⟨Ax, nx, cx, rfl, r9, h1x, h2x, b9⟩
  have HB9 : Hid (Below w.heap.size w w9) := HB8.out.trans (b9.mono HB8.out.size)
  have Ra := Lib.hid (Ra.out.below b9 b9.size)
  have Rb := Lib.hid (Rb.out.below b9 b9.size)
  have Rd := Lib.hid (Rd.out.below b9 b9.size)
  have Rm := Lib.hid (Rm.out.below b9 b9.size)
  rw [comb_eq uOp Dd.out Db.out] at r9
  have hnx : nx ≤ 512 := by rw [r9.1]; exact norm_many _
  have Dx : Hid (DaysAre (normal fun k => uOp (dOp (dayIn la k) (dayIn lb k)) (dayIn lb k)) (fun k => uOp (dOp (dayIn la k) (dayIn lb k)) (dayIn lb k))) := fun k hk => norm_day _ k hk
  have Rx := Lib.hid r9
  clear r9
  clear b9
  go_wp2_with fail
  refine (PP.out.union Aa Ab na nb ca cb _ _ w9 Ra.out Rb.out h1a h2a h1b h2b (by omega) (by omega)).mono ?_
  rintro e w10 ⟨Ay, ny, cy, rfl, r10, h1y, h2y, b10⟩
  have HB10 : Hid (Below w.heap.size w w10) := HB9.out.trans (b10.mono HB9.out.size)
  have Ra := Lib.hid (Ra.out.below b10 b10.size)
  have Rb := Lib.hid (Rb.out.below b10 b10.size)
  have Rd := Lib.hid (Rd.out.below b10 b10.size)
  have Rm := Lib.hid (Rm.out.below b10 b10.size)
  have Rx := Lib.hid (Rx.out.below b10 b10.size)
  rw [comb_eq uOp Da.out Db.out] at r10
  have hny : ny ≤ 512 := by rw [r10.1]; exact norm_many _
  have Dy : Hid (DaysAre (normal fun k => uOp (dayIn la k) (dayIn lb k)) (fun k => uOp (dayIn la k) (dayIn lb k))) := fun k hk => norm_day _ k hk
  have Ry := Lib.hid r10
  clear r10
  clear b10
  go_wp2_with fail
  have Ry' : Hid (RdS w10 w10.heap.size Ay ny (normal fun k => uOp (dOp (dayIn la k) (dayIn lb k)) (dayIn lb k))) := by
    rw [show (normal fun k => uOp (dOp (dayIn la k) (dayIn lb k)) (dayIn lb k)) = (normal fun k => uOp (dayIn la k) (dayIn lb k)) from norm_congr (fun k _ => by
      simp only [uOp, dOp]
      cases dayIn la k <;> cases dayIn lb k <;> rfl)]
    exact Ry.out
  refine (refsame_eq Ax Ay nx ny cx cy _ w10 Rx.out Ry'.out (by omega)).mono ?_
  rintro e w11 ⟨rfl, b11⟩
  have HB11 : Hid (Below w.heap.size w w11) := HB10.out.trans (b11.mono HB10.out.size)
  have Ra := Lib.hid (Ra.out.below b11 b11.size)
  have Rb := Lib.hid (Rb.out.below b11 b11.size)
  have Rd := Lib.hid (Rd.out.below b11 b11.size)
  have Rm := Lib.hid (Rm.out.below b11 b11.size)
  have Rx := Lib.hid (Rx.out.below b11 b11.size)
  have Ry := Lib.hid (Ry.out.below b11 b11.size)
  clear Ry'
  clear b11
  go_wp2_with fail
  go_ret
  exact ⟨rfl, HB11.out⟩

end Go.Proofs.Ytnbffkeinkgojaa
