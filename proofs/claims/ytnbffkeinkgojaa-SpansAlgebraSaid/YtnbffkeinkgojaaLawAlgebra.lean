/- The law SpansAlgebra, walked. -/
import Derived.Test.YtnbffkeinkgojaaLawSpec
namespace Go.Proofs.Ytnbffkeinkgojaa
open Go.RowKit

set_option maxRecDepth 100000 in
set_option maxHeartbeats 20000000 in
theorem law_algebra (P : ProgOk) (Aa : Option Addr) (na ca : Nat) (la : List Sp) (Ab : Option Addr) (nb cb : Nat) (lb : List Sp) (Ac : Option Addr) (nc cc : Nat) (lc : List Sp) (w : World) (hra : RdS w w.heap.size Aa na la) (h1a : na ≤ ca) (h2a : ca ≤ maxLen) (hrb : RdS w w.heap.size Ab nb lb) (h1b : nb ≤ cb) (h2b : cb ≤ maxLen) (hrc : RdS w w.heap.size Ac nc lc) (h1c : nc ≤ cc) (h2c : cc ≤ maxLen) :
    Calls Try.prog 7 #[.slice Aa na ca, .slice Ab nb cb, .slice Ac nc cc] w fun e w' => e = .returned (.bool true) ∧ Below w.heap.size w w' := by
  have HB0 : Hid (Below w.heap.size w w) := Below.refl _ _
  have PP := Lib.hid P
  have Ra := Lib.hid hra
  have Da : Hid (DaysAre la (fun k => dayIn la k)) := fun _ _ => rfl
  have Rb := Lib.hid hrb
  have Db : Hid (DaysAre lb (fun k => dayIn lb k)) := fun _ _ => rfl
  have Rc := Lib.hid hrc
  have Dc : Hid (DaysAre lc (fun k => dayIn lc k)) := fun _ _ => rfl
  clear P hra hrb hrc
  go_enter Try.func7, Try.ntmps7
  go_wp2_with fail
  refine (sane_any PP.out w).mono ?_
  rintro e w1 ⟨rfl, b1⟩
  have HB1 : Hid (Below w.heap.size w w1) := HB0.out.trans (b1.mono HB0.out.size)
  have Ra := Lib.hid (Ra.out.below b1 b1.size)
  have Rb := Lib.hid (Rb.out.below b1 b1.size)
  have Rc := Lib.hid (Rc.out.below b1 b1.size)
  clear b1
  go_wp2_with fail
  refine (reffew_any Aa na ca w1).mono ?_
  rintro e wx ⟨rfl, rfl⟩
  by_cases hfa : na ≤ 40
  case neg =>
    rw [decide_eq_false hfa]
    go_wp2_with fail
    go_ret
    exact ⟨rfl, HB1.out⟩
  rw [decide_eq_true hfa]
  go_wp2_with fail
  refine (reffew_any Ab nb cb w1).mono ?_
  rintro e wx ⟨rfl, rfl⟩
  by_cases hfb : nb ≤ 40
  case neg =>
    rw [decide_eq_false hfb]
    go_wp2_with fail
    go_ret
    exact ⟨rfl, HB1.out⟩
  rw [decide_eq_true hfb]
  go_wp2_with fail
  refine (reffew_any Ac nc cc w1).mono ?_
  rintro e wx ⟨rfl, rfl⟩
  by_cases hfc : nc ≤ 40
  case neg =>
    rw [decide_eq_false hfc]
    go_wp2_with fail
    go_ret
    exact ⟨rfl, HB1.out⟩
  rw [decide_eq_true hfc]
  go_wp2_with fail
  refine (PP.out.nrm Aa na ca _ w1 Ra.out h1a h2a (by omega)).mono ?_
  rintro e w2 ⟨An, nn, cn, rfl, r2, h1n, h2n, b2⟩
  have HB2 : Hid (Below w.heap.size w w2) := HB1.out.trans (b2.mono HB1.out.size)
  have Ra := Lib.hid (Ra.out.below b2 b2.size)
  have Rb := Lib.hid (Rb.out.below b2 b2.size)
  have Rc := Lib.hid (Rc.out.below b2 b2.size)
  rw [norm_days_eq Da.out] at r2
  have hnn : nn ≤ 512 := by rw [r2.1]; exact norm_many _
  have Dn : Hid (DaysAre (normal fun k => dayIn la k) (fun k => dayIn la k)) := fun k hk => norm_day _ k hk
  have Rn := Lib.hid r2
  clear r2
  clear b2
  go_wp2_with fail
  refine (PP.out.union Aa Ab na nb ca cb _ _ w2 Ra.out Rb.out h1a h2a h1b h2b (by omega) (by omega)).mono ?_
  rintro e w3 ⟨Ax, nx, cx, rfl, r3, h1x, h2x, b3⟩
  have HB3 : Hid (Below w.heap.size w w3) := HB2.out.trans (b3.mono HB2.out.size)
  have Ra := Lib.hid (Ra.out.below b3 b3.size)
  have Rb := Lib.hid (Rb.out.below b3 b3.size)
  have Rc := Lib.hid (Rc.out.below b3 b3.size)
  have Rn := Lib.hid (Rn.out.below b3 b3.size)
  rw [comb_eq uOp Da.out Db.out] at r3
  have hnx : nx ≤ 512 := by rw [r3.1]; exact norm_many _
  have Dx : Hid (DaysAre (normal fun k => uOp (dayIn la k) (dayIn lb k)) (fun k => uOp (dayIn la k) (dayIn lb k))) := fun k hk => norm_day _ k hk
  have Rx := Lib.hid r3
  clear r3
  clear b3
  go_wp2_with fail
  refine (PP.out.union Ab Aa nb na cb ca _ _ w3 Rb.out Ra.out h1b h2b h1a h2a (by omega) (by omega)).mono ?_
  rintro e w4 ⟨Ay, ny, cy, rfl, r4, h1y, h2y, b4⟩
  have HB4 : Hid (Below w.heap.size w w4) := HB3.out.trans (b4.mono HB3.out.size)
  have Ra := Lib.hid (Ra.out.below b4 b4.size)
  have Rb := Lib.hid (Rb.out.below b4 b4.size)
  have Rc := Lib.hid (Rc.out.below b4 b4.size)
  have Rn := Lib.hid (Rn.out.below b4 b4.size)
  have Rx := Lib.hid (Rx.out.below b4 b4.size)
  rw [comb_eq uOp Db.out Da.out] at r4
  have hny : ny ≤ 512 := by rw [r4.1]; exact norm_many _
  have Dy : Hid (DaysAre (normal fun k => uOp (dayIn lb k) (dayIn la k)) (fun k => uOp (dayIn lb k) (dayIn la k))) := fun k hk => norm_day _ k hk
  have Ry := Lib.hid r4
  clear r4
  clear b4
  go_wp2_with fail
  have Ry' : Hid (RdS w4 w4.heap.size Ay ny (normal fun k => uOp (dayIn la k) (dayIn lb k))) := by
    rw [show (normal fun k => uOp (dayIn la k) (dayIn lb k)) = (normal fun k => uOp (dayIn lb k) (dayIn la k)) from norm_congr (fun k _ => by
      simp only [uOp]
      cases dayIn la k <;> cases dayIn lb k <;> rfl)]
    exact Ry.out
  refine (refsame_eq Ax Ay nx ny cx cy _ w4 Rx.out Ry'.out (by omega)).mono ?_
  rintro e w5 ⟨rfl, b5⟩
  have HB5 : Hid (Below w.heap.size w w5) := HB4.out.trans (b5.mono HB4.out.size)
  have Ra := Lib.hid (Ra.out.below b5 b5.size)
  have Rb := Lib.hid (Rb.out.below b5 b5.size)
  have Rc := Lib.hid (Rc.out.below b5 b5.size)
  have Rn := Lib.hid (Rn.out.below b5 b5.size)
  have Rx := Lib.hid (Rx.out.below b5 b5.size)
  have Ry := Lib.hid (Ry.out.below b5 b5.size)
  clear Ry'
  clear b5
  go_wp2_with fail
  clear Rx Dx
  clear Ry Dy
  refine (PP.out.meet Aa Ab na nb ca cb _ _ w5 Ra.out Rb.out h1a h2a h1b h2b (by omega) (by omega)).mono ?_
  rintro e w6 ⟨Ax, nx, cx, rfl, r6, h1x, h2x, b6⟩
  have HB6 : Hid (Below w.heap.size w w6) := HB5.out.trans (b6.mono HB5.out.size)
  have Ra := Lib.hid (Ra.out.below b6 b6.size)
  have Rb := Lib.hid (Rb.out.below b6 b6.size)
  have Rc := Lib.hid (Rc.out.below b6 b6.size)
  have Rn := Lib.hid (Rn.out.below b6 b6.size)
  rw [comb_eq mOp Da.out Db.out] at r6
  have hnx : nx ≤ 512 := by rw [r6.1]; exact norm_many _
  have Dx : Hid (DaysAre (normal fun k => mOp (dayIn la k) (dayIn lb k)) (fun k => mOp (dayIn la k) (dayIn lb k))) := fun k hk => norm_day _ k hk
  have Rx := Lib.hid r6
  clear r6
  clear b6
  go_wp2_with fail
  refine (PP.out.meet Ab Aa nb na cb ca _ _ w6 Rb.out Ra.out h1b h2b h1a h2a (by omega) (by omega)).mono ?_
  rintro e w7 ⟨Ay, ny, cy, rfl, r7, h1y, h2y, b7⟩
  have HB7 : Hid (Below w.heap.size w w7) := HB6.out.trans (b7.mono HB6.out.size)
  have Ra := Lib.hid (Ra.out.below b7 b7.size)
  have Rb := Lib.hid (Rb.out.below b7 b7.size)
  have Rc := Lib.hid (Rc.out.below b7 b7.size)
  have Rn := Lib.hid (Rn.out.below b7 b7.size)
  have Rx := Lib.hid (Rx.out.below b7 b7.size)
  rw [comb_eq mOp Db.out Da.out] at r7
  have hny : ny ≤ 512 := by rw [r7.1]; exact norm_many _
  have Dy : Hid (DaysAre (normal fun k => mOp (dayIn lb k) (dayIn la k)) (fun k => mOp (dayIn lb k) (dayIn la k))) := fun k hk => norm_day _ k hk
  have Ry := Lib.hid r7
  clear r7
  clear b7
  go_wp2_with fail
  have Ry' : Hid (RdS w7 w7.heap.size Ay ny (normal fun k => mOp (dayIn la k) (dayIn lb k))) := by
    rw [show (normal fun k => mOp (dayIn la k) (dayIn lb k)) = (normal fun k => mOp (dayIn lb k) (dayIn la k)) from norm_congr (fun k _ => by
      simp only [mOp]
      cases dayIn la k <;> cases dayIn lb k <;> rfl)]
    exact Ry.out
  refine (refsame_eq Ax Ay nx ny cx cy _ w7 Rx.out Ry'.out (by omega)).mono ?_
  rintro e w8 ⟨rfl, b8⟩
  have HB8 : Hid (Below w.heap.size w w8) := HB7.out.trans (b8.mono HB7.out.size)
  have Ra := Lib.hid (Ra.out.below b8 b8.size)
  have Rb := Lib.hid (Rb.out.below b8 b8.size)
  have Rc := Lib.hid (Rc.out.below b8 b8.size)
  have Rn := Lib.hid (Rn.out.below b8 b8.size)
  have Rx := Lib.hid (Rx.out.below b8 b8.size)
  have Ry := Lib.hid (Ry.out.below b8 b8.size)
  clear Ry'
  clear b8
  go_wp2_with fail
  clear Rx Dx
  clear Ry Dy
  refine (PP.out.union Aa Ab na nb ca cb _ _ w8 Ra.out Rb.out h1a h2a h1b h2b (by omega) (by omega)).mono ?_
  rintro e w9 ⟨Ap, np, cp, rfl, r9, h1p, h2p, b9⟩
  have HB9 : Hid (Below w.heap.size w w9) := HB8.out.trans (b9.mono HB8.out.size)
  have Ra := Lib.hid (Ra.out.below b9 b9.size)
  have Rb := Lib.hid (Rb.out.below b9 b9.size)
  have Rc := Lib.hid (Rc.out.below b9 b9.size)
  have Rn := Lib.hid (Rn.out.below b9 b9.size)
  rw [comb_eq uOp Da.out Db.out] at r9
  have hnp : np ≤ 512 := by rw [r9.1]; exact norm_many _
  have Dp : Hid (DaysAre (normal fun k => uOp (dayIn la k) (dayIn lb k)) (fun k => uOp (dayIn la k) (dayIn lb k))) := fun k hk => norm_day _ k hk
  have Rp := Lib.hid r9
  clear r9
  clear b9
  go_wp2_with fail
  refine (PP.out.union Ap Ac np nc cp cc _ _ w9 Rp.out Rc.out h1p h2p h1c h2c (by omega) (by omega)).mono ?_
  rintro e w10 ⟨Ax, nx, cx, rfl, r10, h1x, h2x, b10⟩
  have HB10 : Hid (Below w.heap.size w w10) := HB9.out.trans (b10.mono HB9.out.size)
  have Ra := Lib.hid (Ra.out.below b10 b10.size)
  have Rb := Lib.hid (Rb.out.below b10 b10.size)
  have Rc := Lib.hid (Rc.out.below b10 b10.size)
  have Rn := Lib.hid (Rn.out.below b10 b10.size)
  have Rp := Lib.hid (Rp.out.below b10 b10.size)
  rw [comb_eq uOp Dp.out Dc.out] at r10
  have hnx : nx ≤ 512 := by rw [r10.1]; exact norm_many _
  have Dx : Hid (DaysAre (normal fun k => uOp (uOp (dayIn la k) (dayIn lb k)) (dayIn lc k)) (fun k => uOp (uOp (dayIn la k) (dayIn lb k)) (dayIn lc k))) := fun k hk => norm_day _ k hk
  have Rx := Lib.hid r10
  clear r10
  clear b10
  go_wp2_with fail
  refine (PP.out.union Ab Ac nb nc cb cc _ _ w10 Rb.out Rc.out h1b h2b h1c h2c (by omega) (by omega)).mono ?_
  rintro e w11 ⟨Aq, nq, cq, rfl, r11, h1q, h2q, b11⟩
  have HB11 : Hid (Below w.heap.size w w11) := HB10.out.trans (b11.mono HB10.out.size)
  have Ra := Lib.hid (Ra.out.below b11 b11.size)
  have Rb := Lib.hid (Rb.out.below b11 b11.size)
  have Rc := Lib.hid (Rc.out.below b11 b11.size)
  have Rn := Lib.hid (Rn.out.below b11 b11.size)
  have Rp := Lib.hid (Rp.out.below b11 b11.size)
  have Rx := Lib.hid (Rx.out.below b11 b11.size)
  rw [comb_eq uOp Db.out Dc.out] at r11
  have hnq : nq ≤ 512 := by rw [r11.1]; exact norm_many _
  have Dq : Hid (DaysAre (normal fun k => uOp (dayIn lb k) (dayIn lc k)) (fun k => uOp (dayIn lb k) (dayIn lc k))) := fun k hk => norm_day _ k hk
  have Rq := Lib.hid r11
  clear r11
  clear b11
  go_wp2_with fail
  refine (PP.out.union Aa Aq na nq ca cq _ _ w11 Ra.out Rq.out h1a h2a h1q h2q (by omega) (by omega)).mono ?_
  rintro e w12 ⟨Ay, ny, cy, rfl, r12, h1y, h2y, b12⟩
  have HB12 : Hid (Below w.heap.size w w12) := HB11.out.trans (b12.mono HB11.out.size)
  have Ra := Lib.hid (Ra.out.below b12 b12.size)
  have Rb := Lib.hid (Rb.out.below b12 b12.size)
  have Rc := Lib.hid (Rc.out.below b12 b12.size)
  have Rn := Lib.hid (Rn.out.below b12 b12.size)
  have Rp := Lib.hid (Rp.out.below b12 b12.size)
  have Rx := Lib.hid (Rx.out.below b12 b12.size)
  have Rq := Lib.hid (Rq.out.below b12 b12.size)
  rw [comb_eq uOp Da.out Dq.out] at r12
  have hny : ny ≤ 512 := by rw [r12.1]; exact norm_many _
  have Dy : Hid (DaysAre (normal fun k => uOp (dayIn la k) (uOp (dayIn lb k) (dayIn lc k))) (fun k => uOp (dayIn la k) (uOp (dayIn lb k) (dayIn lc k)))) := fun k hk => norm_day _ k hk
  have Ry := Lib.hid r12
  clear r12
  clear b12
  go_wp2_with fail
  have Ry' : Hid (RdS w12 w12.heap.size Ay ny (normal fun k => uOp (uOp (dayIn la k) (dayIn lb k)) (dayIn lc k))) := by
    rw [show (normal fun k => uOp (uOp (dayIn la k) (dayIn lb k)) (dayIn lc k)) = (normal fun k => uOp (dayIn la k) (uOp (dayIn lb k) (dayIn lc k))) from norm_congr (fun k _ => by
      simp only [uOp]
      cases dayIn la k <;> cases dayIn lb k <;> cases dayIn lc k <;> rfl)]
    exact Ry.out
  refine (refsame_eq Ax Ay nx ny cx cy _ w12 Rx.out Ry'.out (by omega)).mono ?_
  rintro e w13 ⟨rfl, b13⟩
  have HB13 : Hid (Below w.heap.size w w13) := HB12.out.trans (b13.mono HB12.out.size)
  have Ra := Lib.hid (Ra.out.below b13 b13.size)
  have Rb := Lib.hid (Rb.out.below b13 b13.size)
  have Rc := Lib.hid (Rc.out.below b13 b13.size)
  have Rn := Lib.hid (Rn.out.below b13 b13.size)
  have Rp := Lib.hid (Rp.out.below b13 b13.size)
  have Rx := Lib.hid (Rx.out.below b13 b13.size)
  have Rq := Lib.hid (Rq.out.below b13 b13.size)
  have Ry := Lib.hid (Ry.out.below b13 b13.size)
  clear Ry'
  clear b13
  go_wp2_with fail
  clear Rp Dp
  clear Rq Dq
  clear Rx Dx
  clear Ry Dy
  refine (PP.out.meet Aa Ab na nb ca cb _ _ w13 Ra.out Rb.out h1a h2a h1b h2b (by omega) (by omega)).mono ?_
  rintro e w14 ⟨Ap, np, cp, rfl, r14, h1p, h2p, b14⟩
  have HB14 : Hid (Below w.heap.size w w14) := HB13.out.trans (b14.mono HB13.out.size)
  have Ra := Lib.hid (Ra.out.below b14 b14.size)
  have Rb := Lib.hid (Rb.out.below b14 b14.size)
  have Rc := Lib.hid (Rc.out.below b14 b14.size)
  have Rn := Lib.hid (Rn.out.below b14 b14.size)
  rw [comb_eq mOp Da.out Db.out] at r14
  have hnp : np ≤ 512 := by rw [r14.1]; exact norm_many _
  have Dp : Hid (DaysAre (normal fun k => mOp (dayIn la k) (dayIn lb k)) (fun k => mOp (dayIn la k) (dayIn lb k))) := fun k hk => norm_day _ k hk
  have Rp := Lib.hid r14
  clear r14
  clear b14
  go_wp2_with fail
  refine (PP.out.meet Ap Ac np nc cp cc _ _ w14 Rp.out Rc.out h1p h2p h1c h2c (by omega) (by omega)).mono ?_
  rintro e w15 ⟨Ax, nx, cx, rfl, r15, h1x, h2x, b15⟩
  have HB15 : Hid (Below w.heap.size w w15) := HB14.out.trans (b15.mono HB14.out.size)
  have Ra := Lib.hid (Ra.out.below b15 b15.size)
  have Rb := Lib.hid (Rb.out.below b15 b15.size)
  have Rc := Lib.hid (Rc.out.below b15 b15.size)
  have Rn := Lib.hid (Rn.out.below b15 b15.size)
  have Rp := Lib.hid (Rp.out.below b15 b15.size)
  rw [comb_eq mOp Dp.out Dc.out] at r15
  have hnx : nx ≤ 512 := by rw [r15.1]; exact norm_many _
  have Dx : Hid (DaysAre (normal fun k => mOp (mOp (dayIn la k) (dayIn lb k)) (dayIn lc k)) (fun k => mOp (mOp (dayIn la k) (dayIn lb k)) (dayIn lc k))) := fun k hk => norm_day _ k hk
  have Rx := Lib.hid r15
  clear r15
  clear b15
  go_wp2_with fail
  refine (PP.out.meet Ab Ac nb nc cb cc _ _ w15 Rb.out Rc.out h1b h2b h1c h2c (by omega) (by omega)).mono ?_
  rintro e w16 ⟨Aq, nq, cq, rfl, r16, h1q, h2q, b16⟩
  have HB16 : Hid (Below w.heap.size w w16) := HB15.out.trans (b16.mono HB15.out.size)
  have Ra := Lib.hid (Ra.out.below b16 b16.size)
  have Rb := Lib.hid (Rb.out.below b16 b16.size)
  have Rc := Lib.hid (Rc.out.below b16 b16.size)
  have Rn := Lib.hid (Rn.out.below b16 b16.size)
  have Rp := Lib.hid (Rp.out.below b16 b16.size)
  have Rx := Lib.hid (Rx.out.below b16 b16.size)
  rw [comb_eq mOp Db.out Dc.out] at r16
  have hnq : nq ≤ 512 := by rw [r16.1]; exact norm_many _
  have Dq : Hid (DaysAre (normal fun k => mOp (dayIn lb k) (dayIn lc k)) (fun k => mOp (dayIn lb k) (dayIn lc k))) := fun k hk => norm_day _ k hk
  have Rq := Lib.hid r16
  clear r16
  clear b16
  go_wp2_with fail
  refine (PP.out.meet Aa Aq na nq ca cq _ _ w16 Ra.out Rq.out h1a h2a h1q h2q (by omega) (by omega)).mono ?_
  rintro e w17 ⟨Ay, ny, cy, rfl, r17, h1y, h2y, b17⟩
  have HB17 : Hid (Below w.heap.size w w17) := HB16.out.trans (b17.mono HB16.out.size)
  have Ra := Lib.hid (Ra.out.below b17 b17.size)
  have Rb := Lib.hid (Rb.out.below b17 b17.size)
  have Rc := Lib.hid (Rc.out.below b17 b17.size)
  have Rn := Lib.hid (Rn.out.below b17 b17.size)
  have Rp := Lib.hid (Rp.out.below b17 b17.size)
  have Rx := Lib.hid (Rx.out.below b17 b17.size)
  have Rq := Lib.hid (Rq.out.below b17 b17.size)
  rw [comb_eq mOp Da.out Dq.out] at r17
  have hny : ny ≤ 512 := by rw [r17.1]; exact norm_many _
  have Dy : Hid (DaysAre (normal fun k => mOp (dayIn la k) (mOp (dayIn lb k) (dayIn lc k))) (fun k => mOp (dayIn la k) (mOp (dayIn lb k) (dayIn lc k)))) := fun k hk => norm_day _ k hk
  have Ry := Lib.hid r17
  clear r17
  clear b17
  go_wp2_with fail
  have Ry' : Hid (RdS w17 w17.heap.size Ay ny (normal fun k => mOp (mOp (dayIn la k) (dayIn lb k)) (dayIn lc k))) := by
    rw [show (normal fun k => mOp (mOp (dayIn la k) (dayIn lb k)) (dayIn lc k)) = (normal fun k => mOp (dayIn la k) (mOp (dayIn lb k) (dayIn lc k))) from norm_congr (fun k _ => by
      simp only [mOp]
      cases dayIn la k <;> cases dayIn lb k <;> cases dayIn lc k <;> rfl)]
    exact Ry.out
  refine (refsame_eq Ax Ay nx ny cx cy _ w17 Rx.out Ry'.out (by omega)).mono ?_
  rintro e w18 ⟨rfl, b18⟩
  have HB18 : Hid (Below w.heap.size w w18) := HB17.out.trans (b18.mono HB17.out.size)
  have Ra := Lib.hid (Ra.out.below b18 b18.size)
  have Rb := Lib.hid (Rb.out.below b18 b18.size)
  have Rc := Lib.hid (Rc.out.below b18 b18.size)
  have Rn := Lib.hid (Rn.out.below b18 b18.size)
  have Rp := Lib.hid (Rp.out.below b18 b18.size)
  have Rx := Lib.hid (Rx.out.below b18 b18.size)
  have Rq := Lib.hid (Rq.out.below b18 b18.size)
  have Ry := Lib.hid (Ry.out.below b18 b18.size)
  clear Ry'
  clear b18
  go_wp2_with fail
  clear Rp Dp
  clear Rq Dq
  clear Rx Dx
  clear Ry Dy
  refine (PP.out.union Ab Ac nb nc cb cc _ _ w18 Rb.out Rc.out h1b h2b h1c h2c (by omega) (by omega)).mono ?_
  rintro e w19 ⟨Ap, np, cp, rfl, r19, h1p, h2p, b19⟩
  have HB19 : Hid (Below w.heap.size w w19) := HB18.out.trans (b19.mono HB18.out.size)
  have Ra := Lib.hid (Ra.out.below b19 b19.size)
  have Rb := Lib.hid (Rb.out.below b19 b19.size)
  have Rc := Lib.hid (Rc.out.below b19 b19.size)
  have Rn := Lib.hid (Rn.out.below b19 b19.size)
  rw [comb_eq uOp Db.out Dc.out] at r19
  have hnp : np ≤ 512 := by rw [r19.1]; exact norm_many _
  have Dp : Hid (DaysAre (normal fun k => uOp (dayIn lb k) (dayIn lc k)) (fun k => uOp (dayIn lb k) (dayIn lc k))) := fun k hk => norm_day _ k hk
  have Rp := Lib.hid r19
  clear r19
  clear b19
  go_wp2_with fail
  refine (PP.out.meet Aa Ap na np ca cp _ _ w19 Ra.out Rp.out h1a h2a h1p h2p (by omega) (by omega)).mono ?_
  rintro e w20 ⟨Ax, nx, cx, rfl, r20, h1x, h2x, b20⟩
  have HB20 : Hid (Below w.heap.size w w20) := HB19.out.trans (b20.mono HB19.out.size)
  have Ra := Lib.hid (Ra.out.below b20 b20.size)
  have Rb := Lib.hid (Rb.out.below b20 b20.size)
  have Rc := Lib.hid (Rc.out.below b20 b20.size)
  have Rn := Lib.hid (Rn.out.below b20 b20.size)
  have Rp := Lib.hid (Rp.out.below b20 b20.size)
  rw [comb_eq mOp Da.out Dp.out] at r20
  have hnx : nx ≤ 512 := by rw [r20.1]; exact norm_many _
  have Dx : Hid (DaysAre (normal fun k => mOp (dayIn la k) (uOp (dayIn lb k) (dayIn lc k))) (fun k => mOp (dayIn la k) (uOp (dayIn lb k) (dayIn lc k)))) := fun k hk => norm_day _ k hk
  have Rx := Lib.hid r20
  clear r20
  clear b20
  go_wp2_with fail
  refine (PP.out.meet Aa Ab na nb ca cb _ _ w20 Ra.out Rb.out h1a h2a h1b h2b (by omega) (by omega)).mono ?_
  rintro e w21 ⟨Aq, nq, cq, rfl, r21, h1q, h2q, b21⟩
  have HB21 : Hid (Below w.heap.size w w21) := HB20.out.trans (b21.mono HB20.out.size)
  have Ra := Lib.hid (Ra.out.below b21 b21.size)
  have Rb := Lib.hid (Rb.out.below b21 b21.size)
  have Rc := Lib.hid (Rc.out.below b21 b21.size)
  have Rn := Lib.hid (Rn.out.below b21 b21.size)
  have Rp := Lib.hid (Rp.out.below b21 b21.size)
  have Rx := Lib.hid (Rx.out.below b21 b21.size)
  rw [comb_eq mOp Da.out Db.out] at r21
  have hnq : nq ≤ 512 := by rw [r21.1]; exact norm_many _
  have Dq : Hid (DaysAre (normal fun k => mOp (dayIn la k) (dayIn lb k)) (fun k => mOp (dayIn la k) (dayIn lb k))) := fun k hk => norm_day _ k hk
  have Rq := Lib.hid r21
  clear r21
  clear b21
  go_wp2_with fail
  refine (PP.out.meet Aa Ac na nc ca cc _ _ w21 Ra.out Rc.out h1a h2a h1c h2c (by omega) (by omega)).mono ?_
  rintro e w22 ⟨Ar, nr, cr, rfl, r22, h1r, h2r, b22⟩
  have HB22 : Hid (Below w.heap.size w w22) := HB21.out.trans (b22.mono HB21.out.size)
  have Ra := Lib.hid (Ra.out.below b22 b22.size)
  have Rb := Lib.hid (Rb.out.below b22 b22.size)
  have Rc := Lib.hid (Rc.out.below b22 b22.size)
  have Rn := Lib.hid (Rn.out.below b22 b22.size)
  have Rp := Lib.hid (Rp.out.below b22 b22.size)
  have Rx := Lib.hid (Rx.out.below b22 b22.size)
  have Rq := Lib.hid (Rq.out.below b22 b22.size)
  rw [comb_eq mOp Da.out Dc.out] at r22
  have hnr : nr ≤ 512 := by rw [r22.1]; exact norm_many _
  have Dr : Hid (DaysAre (normal fun k => mOp (dayIn la k) (dayIn lc k)) (fun k => mOp (dayIn la k) (dayIn lc k))) := fun k hk => norm_day _ k hk
  have Rr := Lib.hid r22
  clear r22
  clear b22
  go_wp2_with fail
  refine (PP.out.union Aq Ar nq nr cq cr _ _ w22 Rq.out Rr.out h1q h2q h1r h2r (by omega) (by omega)).mono ?_
  rintro e w23 ⟨Ay, ny, cy, rfl, r23, h1y, h2y, b23⟩
  have HB23 : Hid (Below w.heap.size w w23) := HB22.out.trans (b23.mono HB22.out.size)
  have Ra := Lib.hid (Ra.out.below b23 b23.size)
  have Rb := Lib.hid (Rb.out.below b23 b23.size)
  have Rc := Lib.hid (Rc.out.below b23 b23.size)
  have Rn := Lib.hid (Rn.out.below b23 b23.size)
  have Rp := Lib.hid (Rp.out.below b23 b23.size)
  have Rx := Lib.hid (Rx.out.below b23 b23.size)
  have Rq := Lib.hid (Rq.out.below b23 b23.size)
  have Rr := Lib.hid (Rr.out.below b23 b23.size)
  rw [comb_eq uOp Dq.out Dr.out] at r23
  have hny : ny ≤ 512 := by rw [r23.1]; exact norm_many _
  have Dy : Hid (DaysAre (normal fun k => uOp (mOp (dayIn la k) (dayIn lb k)) (mOp (dayIn la k) (dayIn lc k))) (fun k => uOp (mOp (dayIn la k) (dayIn lb k)) (mOp (dayIn la k) (dayIn lc k)))) := fun k hk => norm_day _ k hk
  have Ry := Lib.hid r23
  clear r23
  clear b23
  go_wp2_with fail
  have Ry' : Hid (RdS w23 w23.heap.size Ay ny (normal fun k => mOp (dayIn la k) (uOp (dayIn lb k) (dayIn lc k)))) := by
    rw [show (normal fun k => mOp (dayIn la k) (uOp (dayIn lb k) (dayIn lc k))) = (normal fun k => uOp (mOp (dayIn la k) (dayIn lb k)) (mOp (dayIn la k) (dayIn lc k))) from norm_congr (fun k _ => by
      simp only [uOp, mOp]
      cases dayIn la k <;> cases dayIn lb k <;> cases dayIn lc k <;> rfl)]
    exact Ry.out
  refine (refsame_eq Ax Ay nx ny cx cy _ w23 Rx.out Ry'.out (by omega)).mono ?_
  rintro e w24 ⟨rfl, b24⟩
  have HB24 : Hid (Below w.heap.size w w24) := HB23.out.trans (b24.mono HB23.out.size)
  have Ra := Lib.hid (Ra.out.below b24 b24.size)
  have Rb := Lib.hid (Rb.out.below b24 b24.size)
  have Rc := Lib.hid (Rc.out.below b24 b24.size)
  have Rn := Lib.hid (Rn.out.below b24 b24.size)
  have Rp := Lib.hid (Rp.out.below b24 b24.size)
  have Rx := Lib.hid (Rx.out.below b24 b24.size)
  have Rq := Lib.hid (Rq.out.below b24 b24.size)
  have Rr := Lib.hid (Rr.out.below b24 b24.size)
  have Ry := Lib.hid (Ry.out.below b24 b24.size)
  clear Ry'
  clear b24
  go_wp2_with fail
  clear Rp Dp
  clear Rq Dq
  clear Rr Dr
  clear Rx Dx
  clear Ry Dy
  refine (PP.out.union Aa Aa na na ca ca _ _ w24 Ra.out Ra.out h1a h2a h1a h2a (by omega) (by omega)).mono ?_
  rintro e w25 ⟨Ax, nx, cx, rfl, r25, h1x, h2x, b25⟩
  have HB25 : Hid (Below w.heap.size w w25) := HB24.out.trans (b25.mono HB24.out.size)
  have Ra := Lib.hid (Ra.out.below b25 b25.size)
  have Rb := Lib.hid (Rb.out.below b25 b25.size)
  have Rc := Lib.hid (Rc.out.below b25 b25.size)
  have Rn := Lib.hid (Rn.out.below b25 b25.size)
  rw [comb_eq uOp Da.out Da.out] at r25
  have hnx : nx ≤ 512 := by rw [r25.1]; exact norm_many _
  have Dx : Hid (DaysAre (normal fun k => uOp (dayIn la k) (dayIn la k)) (fun k => uOp (dayIn la k) (dayIn la k))) := fun k hk => norm_day _ k hk
  have Rx := Lib.hid r25
  clear r25
  clear b25
  go_wp2_with fail
  have Rn' : Hid (RdS w25 w25.heap.size An nn (normal fun k => uOp (dayIn la k) (dayIn la k))) := by
    rw [show (normal fun k => uOp (dayIn la k) (dayIn la k)) = (normal fun k => dayIn la k) from norm_congr (fun k _ => by
      simp only [uOp]
      cases dayIn la k <;> rfl)]
    exact Rn.out
  refine (refsame_eq Ax An nx nn cx cn _ w25 Rx.out Rn'.out (by omega)).mono ?_
  rintro e w26 ⟨rfl, b26⟩
  have HB26 : Hid (Below w.heap.size w w26) := HB25.out.trans (b26.mono HB25.out.size)
  have Ra := Lib.hid (Ra.out.below b26 b26.size)
  have Rb := Lib.hid (Rb.out.below b26 b26.size)
  have Rc := Lib.hid (Rc.out.below b26 b26.size)
  have Rn := Lib.hid (Rn.out.below b26 b26.size)
  have Rx := Lib.hid (Rx.out.below b26 b26.size)
  clear Rn'
  clear b26
  go_wp2_with fail
  clear Rx Dx
  refine (PP.out.meet Aa Aa na na ca ca _ _ w26 Ra.out Ra.out h1a h2a h1a h2a (by omega) (by omega)).mono ?_
  rintro e w27 ⟨Ax, nx, cx, rfl, r27, h1x, h2x, b27⟩
  have HB27 : Hid (Below w.heap.size w w27) := HB26.out.trans (b27.mono HB26.out.size)
  have Ra := Lib.hid (Ra.out.below b27 b27.size)
  have Rb := Lib.hid (Rb.out.below b27 b27.size)
  have Rc := Lib.hid (Rc.out.below b27 b27.size)
  have Rn := Lib.hid (Rn.out.below b27 b27.size)
  rw [comb_eq mOp Da.out Da.out] at r27
  have hnx : nx ≤ 512 := by rw [r27.1]; exact norm_many _
  have Dx : Hid (DaysAre (normal fun k => mOp (dayIn la k) (dayIn la k)) (fun k => mOp (dayIn la k) (dayIn la k))) := fun k hk => norm_day _ k hk
  have Rx := Lib.hid r27
  clear r27
  clear b27
  go_wp2_with fail
  have Rn' : Hid (RdS w27 w27.heap.size An nn (normal fun k => mOp (dayIn la k) (dayIn la k))) := by
    rw [show (normal fun k => mOp (dayIn la k) (dayIn la k)) = (normal fun k => dayIn la k) from norm_congr (fun k _ => by
      simp only [mOp]
      cases dayIn la k <;> rfl)]
    exact Rn.out
  refine (refsame_eq Ax An nx nn cx cn _ w27 Rx.out Rn'.out (by omega)).mono ?_
  rintro e w28 ⟨rfl, b28⟩
  have HB28 : Hid (Below w.heap.size w w28) := HB27.out.trans (b28.mono HB27.out.size)
  have Ra := Lib.hid (Ra.out.below b28 b28.size)
  have Rb := Lib.hid (Rb.out.below b28 b28.size)
  have Rc := Lib.hid (Rc.out.below b28 b28.size)
  have Rn := Lib.hid (Rn.out.below b28 b28.size)
  have Rx := Lib.hid (Rx.out.below b28 b28.size)
  clear Rn'
  clear b28
  go_wp2_with fail
  clear Rx Dx
  refine (PP.out.nrm An nn cn _ w28 Rn.out h1n h2n (by omega)).mono ?_
  rintro e w29 ⟨Ax, nx, cx, rfl, r29, h1x, h2x, b29⟩
  have HB29 : Hid (Below w.heap.size w w29) := HB28.out.trans (b29.mono HB28.out.size)
  have Ra := Lib.hid (Ra.out.below b29 b29.size)
  have Rb := Lib.hid (Rb.out.below b29 b29.size)
  have Rc := Lib.hid (Rc.out.below b29 b29.size)
  have Rn := Lib.hid (Rn.out.below b29 b29.size)
  rw [norm_days_eq Dn.out] at r29
  have hnx : nx ≤ 512 := by rw [r29.1]; exact norm_many _
  have Dx : Hid (DaysAre (normal fun k => dayIn la k) (fun k => dayIn la k)) := fun k hk => norm_day _ k hk
  have Rx := Lib.hid r29
  clear r29
  clear b29
  go_wp2_with fail
  have Rn' : Hid (RdS w29 w29.heap.size An nn (normal fun k => dayIn la k)) := by
    rw [show (normal fun k => dayIn la k) = (normal fun k => dayIn la k) from rfl]
    exact Rn.out
  refine (refsame_eq Ax An nx nn cx cn _ w29 Rx.out Rn'.out (by omega)).mono ?_
  rintro e w30 ⟨rfl, b30⟩
  have HB30 : Hid (Below w.heap.size w w30) := HB29.out.trans (b30.mono HB29.out.size)
  have Ra := Lib.hid (Ra.out.below b30 b30.size)
  have Rb := Lib.hid (Rb.out.below b30 b30.size)
  have Rc := Lib.hid (Rc.out.below b30 b30.size)
  have Rn := Lib.hid (Rn.out.below b30 b30.size)
  have Rx := Lib.hid (Rx.out.below b30 b30.size)
  clear Rn'
  clear b30
  go_wp2_with fail
  clear Rx Dx
  refine (PP.out.union Ab Ac nb nc cb cc _ _ w30 Rb.out Rc.out h1b h2b h1c h2c (by omega) (by omega)).mono ?_
  rintro e w31 ⟨Ap, np, cp, rfl, r31, h1p, h2p, b31⟩
  have HB31 : Hid (Below w.heap.size w w31) := HB30.out.trans (b31.mono HB30.out.size)
  have Ra := Lib.hid (Ra.out.below b31 b31.size)
  have Rb := Lib.hid (Rb.out.below b31 b31.size)
  have Rc := Lib.hid (Rc.out.below b31 b31.size)
  have Rn := Lib.hid (Rn.out.below b31 b31.size)
  rw [comb_eq uOp Db.out Dc.out] at r31
  have hnp : np ≤ 512 := by rw [r31.1]; exact norm_many _
  have Dp : Hid (DaysAre (normal fun k => uOp (dayIn lb k) (dayIn lc k)) (fun k => uOp (dayIn lb k) (dayIn lc k))) := fun k hk => norm_day _ k hk
  have Rp := Lib.hid r31
  clear r31
  clear b31
  go_wp2_with fail
  refine (PP.out.minus Aa Ap na np ca cp _ _ w31 Ra.out Rp.out h1a h2a h1p h2p (by omega) (by omega)).mono ?_
  rintro e w32 ⟨Ax, nx, cx, rfl, r32, h1x, h2x, b32⟩
  have HB32 : Hid (Below w.heap.size w w32) := HB31.out.trans (b32.mono HB31.out.size)
  have Ra := Lib.hid (Ra.out.below b32 b32.size)
  have Rb := Lib.hid (Rb.out.below b32 b32.size)
  have Rc := Lib.hid (Rc.out.below b32 b32.size)
  have Rn := Lib.hid (Rn.out.below b32 b32.size)
  have Rp := Lib.hid (Rp.out.below b32 b32.size)
  rw [comb_eq dOp Da.out Dp.out] at r32
  have hnx : nx ≤ 512 := by rw [r32.1]; exact norm_many _
  have Dx : Hid (DaysAre (normal fun k => dOp (dayIn la k) (uOp (dayIn lb k) (dayIn lc k))) (fun k => dOp (dayIn la k) (uOp (dayIn lb k) (dayIn lc k)))) := fun k hk => norm_day _ k hk
  have Rx := Lib.hid r32
  clear r32
  clear b32
  go_wp2_with fail
  refine (PP.out.minus Aa Ab na nb ca cb _ _ w32 Ra.out Rb.out h1a h2a h1b h2b (by omega) (by omega)).mono ?_
  rintro e w33 ⟨Aq, nq, cq, rfl, r33, h1q, h2q, b33⟩
  have HB33 : Hid (Below w.heap.size w w33) := HB32.out.trans (b33.mono HB32.out.size)
  have Ra := Lib.hid (Ra.out.below b33 b33.size)
  have Rb := Lib.hid (Rb.out.below b33 b33.size)
  have Rc := Lib.hid (Rc.out.below b33 b33.size)
  have Rn := Lib.hid (Rn.out.below b33 b33.size)
  have Rp := Lib.hid (Rp.out.below b33 b33.size)
  have Rx := Lib.hid (Rx.out.below b33 b33.size)
  rw [comb_eq dOp Da.out Db.out] at r33
  have hnq : nq ≤ 512 := by rw [r33.1]; exact norm_many _
  have Dq : Hid (DaysAre (normal fun k => dOp (dayIn la k) (dayIn lb k)) (fun k => dOp (dayIn la k) (dayIn lb k))) := fun k hk => norm_day _ k hk
  have Rq := Lib.hid r33
  clear r33
  clear b33
  go_wp2_with fail
  refine (PP.out.minus Aq Ac nq nc cq cc _ _ w33 Rq.out Rc.out h1q h2q h1c h2c (by omega) (by omega)).mono ?_
  rintro e w34 ⟨Ay, ny, cy, rfl, r34, h1y, h2y, b34⟩
  have HB34 : Hid (Below w.heap.size w w34) := HB33.out.trans (b34.mono HB33.out.size)
  have Ra := Lib.hid (Ra.out.below b34 b34.size)
  have Rb := Lib.hid (Rb.out.below b34 b34.size)
  have Rc := Lib.hid (Rc.out.below b34 b34.size)
  have Rn := Lib.hid (Rn.out.below b34 b34.size)
  have Rp := Lib.hid (Rp.out.below b34 b34.size)
  have Rx := Lib.hid (Rx.out.below b34 b34.size)
  have Rq := Lib.hid (Rq.out.below b34 b34.size)
  rw [comb_eq dOp Dq.out Dc.out] at r34
  have hny : ny ≤ 512 := by rw [r34.1]; exact norm_many _
  have Dy : Hid (DaysAre (normal fun k => dOp (dOp (dayIn la k) (dayIn lb k)) (dayIn lc k)) (fun k => dOp (dOp (dayIn la k) (dayIn lb k)) (dayIn lc k))) := fun k hk => norm_day _ k hk
  have Ry := Lib.hid r34
  clear r34
  clear b34
  go_wp2_with fail
  have Ry' : Hid (RdS w34 w34.heap.size Ay ny (normal fun k => dOp (dayIn la k) (uOp (dayIn lb k) (dayIn lc k)))) := by
    rw [show (normal fun k => dOp (dayIn la k) (uOp (dayIn lb k) (dayIn lc k))) = (normal fun k => dOp (dOp (dayIn la k) (dayIn lb k)) (dayIn lc k)) from norm_congr (fun k _ => by
      simp only [uOp, dOp]
      cases dayIn la k <;> cases dayIn lb k <;> cases dayIn lc k <;> rfl)]
    exact Ry.out
  refine (refsame_eq Ax Ay nx ny cx cy _ w34 Rx.out Ry'.out (by omega)).mono ?_
  rintro e w35 ⟨rfl, b35⟩
  have HB35 : Hid (Below w.heap.size w w35) := HB34.out.trans (b35.mono HB34.out.size)
  have Ra := Lib.hid (Ra.out.below b35 b35.size)
  have Rb := Lib.hid (Rb.out.below b35 b35.size)
  have Rc := Lib.hid (Rc.out.below b35 b35.size)
  have Rn := Lib.hid (Rn.out.below b35 b35.size)
  have Rp := Lib.hid (Rp.out.below b35 b35.size)
  have Rx := Lib.hid (Rx.out.below b35 b35.size)
  have Rq := Lib.hid (Rq.out.below b35 b35.size)
  have Ry := Lib.hid (Ry.out.below b35 b35.size)
  clear Ry'
  clear b35
  go_wp2_with fail
  clear Rp Dp
  clear Rq Dq
  clear Rx Dx
  clear Ry Dy
  refine (PP.out.minus Aa Aa na na ca ca _ _ w35 Ra.out Ra.out h1a h2a h1a h2a (by omega) (by omega)).mono ?_
  rintro e w36 ⟨Ax, nx, cx, rfl, r36, h1x, h2x, b36⟩
  have HB36 : Hid (Below w.heap.size w w36) := HB35.out.trans (b36.mono HB35.out.size)
  have Ra := Lib.hid (Ra.out.below b36 b36.size)
  have Rb := Lib.hid (Rb.out.below b36 b36.size)
  have Rc := Lib.hid (Rc.out.below b36 b36.size)
  have Rn := Lib.hid (Rn.out.below b36 b36.size)
  rw [comb_eq dOp Da.out Da.out, (norm_nil_iff _).2 (fun k _ => by
      simp only [dOp]
      cases dayIn la k <;> rfl)] at r36
  obtain rfl : nx = 0 := r36.1
  clear r36
  clear b36
  go_wp2_with fail
  go_ret
  exact ⟨rfl, HB36.out⟩

end Go.Proofs.Ytnbffkeinkgojaa
