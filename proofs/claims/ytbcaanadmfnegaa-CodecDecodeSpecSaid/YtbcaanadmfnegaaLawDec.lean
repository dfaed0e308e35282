/- backflushlaw01.CodecDecodeSpec is true for all bytes. -/
import Derived.Test.YtbcaanadmfnegaaRdec
import Derived.Test.YtbcaanadmfnegaaOpenB
namespace Go.Proofs.Ytbcaanadmfnegaa
open Go.ChangeShapes Go.WideShapes Go.ChangeAt Go.RowKit

/-- the value and the error -/
def decr (bs : List UInt8) : V × Int := match dec bs with
  | some v => (v, 0)
  | none => (.mk 0 0 ⟨#[]⟩ [], 10)
theorem DecOut.uni {w w' : World} {bs : List UInt8} {e : Ending} (h : DecOut w bs e w') : ∃ (k m : Int) (s : ByteArray) (l : List V) (A : Option Addr) (cap : Nat) (code : Int),
    e = .returned (.tuple #[.agg #[.int .i64 k, .int .i64 m, .string s, .slice A l.length cap], .int .i64 code]) ∧ Below w.heap.size w w' ∧ Rd w' w'.heap.size (.mk k m s l) (.agg #[.int .i64 k, .int .i64 m, .string s, .slice A l.length cap]) ∧ decr bs = (.mk k m s l, code) := by
  obtain ⟨hb, hm⟩ := h
  unfold decr
  cases hd : dec bs with
  | none =>
    rw [hd] at hm
    exact ⟨0, 0, ⟨#[]⟩, [], none, 0, 10, hm, hb, Rd.flat _ _ (by unfold I64; omega) (by unfold I64; omega) (by unfold maxLen; exact Nat.zero_le _), rfl⟩
  | some v =>
    cases v with
    | mk k m s l =>
      rw [hd] at hm
      obtain ⟨A, cap, he, hr⟩ := hm
      exact ⟨k, m, s, l, A, cap, 0, he, hb, hr.rd, rfl⟩
theorem RdB.lift {w : World} {B B' n : Nat} {A : Option Addr} {xs : List UInt8} (h : RdB w B A n xs) (hB : B ≤ B') : RdB w B' A n xs :=
  ⟨h.1, fun hn => let ⟨b, o, e, hb, hc⟩ := h.2 hn; ⟨b, o, e, Nat.lt_of_lt_of_le hb hB, hc⟩⟩

set_option maxRecDepth 100000 in
set_option maxHeartbeats 4000000 in
theorem law_dec_any (A : Option Addr) (n cap : Nat) (bs : List UInt8) (w : World) (hraw : RdB w w.heap.size A n bs) (hn : n ≤ cap) : Calls Try.prog 4 #[.slice A n cap] w fun e w' => e = .returned (.bool true) ∧ Below w.heap.size w w' := by
  have HRAW := Lib.hid hraw
  clear hraw
  go_enter Try.func4, Try.ntmps4
  go_wp2_with fail
  refine (sane_any _).mono ?_
  rintro e w1 ⟨rfl, hb1⟩
  have z1 : w.heap.size ≤ w1.heap.size := hb1.size
  have B1 := Lib.hid hb1
  have HR1 := Lib.hid ((HRAW.out.below hb1).lift z1)
  clear hb1
  by_cases h2000 : 2000 < n
  · have hg : decide (2000 < n) = true := by simpa using h2000
    go_wp2_with fail
    go_ret
    exact ⟨rfl, B1.out⟩
  · have hn2 : n ≤ 2000 := by omega
    go_wp2_with fail
    refine (decode_any n cap A bs w1 HR1.out (by omega) hn).mono ?_
    rintro e w2 hd
    obtain ⟨k, m, s, l, A2, c2, code, rfl, hb2, hr2, hd2⟩ := hd.uni
    have z2 : w1.heap.size ≤ w2.heap.size := hb2.size
    obtain ⟨X, hX⟩ : ∃ X, X = w2.alloc (.cells #[.int .i64 k, .int .i64 m, .string s, .slice A2 l.length c2] 24) := ⟨_, rfl⟩
    have hXb : Below w2.heap.size w2 X := by rw [hX]; exact below_box _
    have hXz : X.heap.size = w2.heap.size + 1 := by rw [hX]; simp
    have HV : Hid (VB X w2.heap.size k m (.string s) (.slice A2 l.length c2)) := by unfold Hid; rw [hX]; exact vb_new _ _ _ _ _
    have BX := Lib.hid (B1.out.trans ((hb2.trans (hXb.mono z2)).mono z1))
    have HRX := Lib.hid (((HRAW.out.below (B1.out.trans ((hb2.trans (hXb.mono z2)).mono z1)))).lift (B' := X.heap.size) (by omega))
    have R2 := Lib.hid (Rd.below (B' := X.heap.size) hr2 hXb (by omega))
    have HD2 := Lib.hid hd2
    have HX := Lib.hid hX
    clear hX hXb hb2 hr2 hd2 hd
    go_wp2_with fail
    rw [← HX.out]
    refine (refDecode_any n cap A bs X HRX.out (by omega) hn).mono ?_
    rintro e w3 hd
    obtain ⟨k', m', s', l', A3, c3, code', rfl, hb3, hr3, hd3⟩ := hd.uni
    rw [HD2.out] at hd3
    injection hd3 with e1 e2
    injection e1 with e3 e4 e5 e6
    subst e2; subst e3; subst e4; subst e5; subst e6
    have z3 : X.heap.size ≤ w3.heap.size := hb3.size
    obtain ⟨Y, hY⟩ : ∃ Y, Y = w3.alloc (.cells #[.int .i64 k, .int .i64 m, .string s, .slice A3 l.length c3] 24) := ⟨_, rfl⟩
    have hYb : Below w3.heap.size w3 Y := by rw [hY]; exact below_box _
    have hYz : Y.heap.size = w3.heap.size + 1 := by rw [hY]; simp
    have hU : VB Y w3.heap.size k m (.string s) (.slice A3 l.length c3) := by rw [hY]; exact vb_new _ _ _ _ _
    have hXY : Below X.heap.size X Y := hb3.trans (hYb.mono z3)
    have hV := HV.out.below hXY
    have BY := Lib.hid (BX.out.trans (hXY.mono (by omega)))
    have RY := Lib.hid (Rd.below (B' := Y.heap.size) R2.out hXY hXY.size)
    have QY := Lib.hid (Rd.below (B' := Y.heap.size) hr3 hYb (by omega))
    have a0 := hV.cell 0
    have a1 := hV.cell 1
    have a2 := hV.cell 2
    have a3 := hV.cell 3
    have b0 := hU.cell 0
    have b1 := hU.cell 1
    have b2 := hU.cell 2
    have b3 := hU.cell 3
    have HY := Lib.hid hY
    rw [hY] at a0 a1 a2 a3 b0 b1 b2 b3
    clear hY hYb hU hV hXY hb3 hr3 hd
    go_wp2_with fail
    rw [← HY.out]
    refine (refSame_any (.mk k m s l) (.mk k m s l) Y _ _ _ (Nat.le_refl _) RY.out QY.out).mono ?_
    rintro e w4 ⟨he, hb4⟩
    rw [V.same_refl] at he
    subst he
    have B4 := Lib.hid (BY.out.trans (hb4.mono (by omega)))
    clear hb4
    go_wp2_with fail
    go_ret
    exact ⟨rfl, B4.out⟩
end Go.Proofs.Ytbcaanadmfnegaa
