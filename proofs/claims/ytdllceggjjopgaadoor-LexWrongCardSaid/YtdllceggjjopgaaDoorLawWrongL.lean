/- The law LexWrong, walked. -/
import Derived.Test.YtdllceggjjopgaaDoorSaneL
import Derived.Test.YtdllceggjjopgaaDoorLawM
namespace Go.Proofs.YtdllceggjjopgaaDoor
open Go.RowKit

theorem ba_cat (c : UInt8) (s m : List UInt8) : (⟨s.toArray⟩ : ByteArray) ++ (⟨#[c]⟩ : ByteArray) ++ (⟨m.toArray⟩ : ByteArray) = ⟨(s ++ c :: m).toArray⟩ := by
  apply ba_ext
  simp [ByteArray.data_append]

set_option maxRecDepth 100000 in
set_option maxHeartbeats 4000000 in
theorem law_wrong (s m : List UInt8) (hs0 : s.length ≤ reachBytes) (hm0 : m.length ≤ reachBytes) (w : World) (hK : KOK w) : Calls Tryd.prog 9 #[.string ⟨s.toArray⟩, .string ⟨m.toArray⟩] w fun e w' => e = .returned (.bool true) ∧ Below w.heap.size w w' := by
  have HK := Lib.hid hK
  have HB0 : Hid (Below w.heap.size w w) := Below.refl _ _
  unfold reachBytes at hs0 hm0
  clear hK
  go_enter Tryd.func9, Tryd.ntmps9
  go_wp2_with fail
  refine (sane_any w HK.out).mono ?_
  rintro e w1 ⟨rfl, b1⟩
  have HB1 : Hid (Below w.heap.size w w1) := b1
  have HK1 := Lib.hid (HK.out.below b1 HK.out.pos)
  clear b1
  by_cases hlen : (3000 : Int) < (s.length : Int) + (m.length : Int)
  · go_wp2_with fail
    go_ret
    exact ⟨rfl, HB1.out⟩
  have hs : s.length ≤ 3000 := by omega
  have hm : m.length ≤ 3000 := by omega
  clear hs0 hm0
  go_wp2_with fail
  refine (lexP_any s (by unfold maxLen; omega) w1 HK1.out).mono ?_
  rintro e w2 ⟨A, n, cap, rfl, r2, h2a, h2b, b2⟩
  have HB2 : Hid (Below w.heap.size w w2) := HB1.out.trans (b2.mono HB1.out.size)
  have HK2 := Lib.hid (HK1.out.below b2 HK1.out.pos)
  clear r2 h2a h2b b2
  cases hl : lex 0 s with
  | inl l =>
    rw [lexOut_ok (by omega) hl]
    go_wp2_with fail
    go_ret
    exact ⟨rfl, HB2.out⟩
  | inr q =>
    rw [lexOut_bad (by omega) hl]
    obtain ⟨-, hq, ⟨l, hq1⟩, hq2, hq3⟩ := lex_wrong s.length s 0 q (Nat.le_refl _) hl
    rw [Nat.zero_add] at hq
    rw [Nat.sub_zero] at hq1 hq3
    have hq0 : (q : Int) < (s.length : Int) := by omega
    have hq4 : ¬ (q : Int) < 0 := by omega
    have Hq1 := Lib.hid hq1
    have Hq2 := Lib.hid (hq2 m)
    have Hq3 := Lib.hid (hq3 0)
    clear hq1 hq2 hq3 hl
    go_wp2_with fail
    rw [ba_extract, List.drop_zero, Nat.sub_zero]
    refine (lexP_any (s.take q) (by rw [List.length_take]; unfold maxLen; omega) w2 HK2.out).mono ?_
    unfold LexP
    rw [lexOut_ok (by rw [List.length_take]; omega) Hq1.out]
    rintro e w3 ⟨A3, n3, cap3, rfl, r3, h3a, h3b, b3⟩
    have HB3 : Hid (Below w.heap.size w w3) := HB2.out.trans (b3.mono HB2.out.size)
    have HK3 := Lib.hid (HK2.out.below b3 HK2.out.pos)
    clear r3 h3a h3b b3
    go_wp2_with fail
    rw [ba_cat]
    refine (lexP_any (s ++ 32 :: m) (by rw [List.length_append, List.length_cons]; unfold maxLen; omega) w3 HK3.out).mono ?_
    unfold LexP
    rw [lexOut_bad (by rw [List.length_append, List.length_cons]; omega) Hq2.out]
    rintro e w4 ⟨A4, n4, cap4, rfl, r4, h4a, h4b, b4⟩
    have HB4 : Hid (Below w.heap.size w w4) := HB3.out.trans (b4.mono HB3.out.size)
    have HK4 := Lib.hid (HK3.out.below b4 HK3.out.pos)
    clear r4 h4a h4b b4
    go_wp2_with fail
    rw [ba_drop]
    refine (lexP_any (s.drop q) (by rw [List.length_drop]; unfold maxLen; omega) w4 HK4.out).mono ?_
    unfold LexP
    rw [lexOut_bad (by rw [List.length_drop]; omega) Hq3.out]
    rintro e w5 ⟨A5, n5, cap5, rfl, r5, h5a, h5b, b5⟩
    have HB5 : Hid (Below w.heap.size w w5) := HB4.out.trans (b5.mono HB4.out.size)
    clear r5 h5a h5b b5
    go_wp2_with fail
    go_ret
    exact ⟨rfl, HB5.out⟩
end Go.Proofs.YtdllceggjjopgaaDoor
