/- The law LexNames, walked. -/
import Derived.Test.YtdllceggjjopgaaDoorSaneL
import Derived.Test.YtdllceggjjopgaaDoorTokM
namespace Go.Proofs.YtdllceggjjopgaaDoor
open Go.RowKit

theorem textL1 (s : List UInt8) : textL [⟨1, 0, s, 0⟩] = s := by
  simp [textL, Lib.join, Lib.joinTail, wordL]
theorem textOut1 (s : List UInt8) : textOut [⟨1, 0, s, 0⟩] = if isName s then (s, 0) else ([], 50) := by
  unfold textOut
  rw [textL1]
  simp [ok_name]

set_option maxRecDepth 100000 in
set_option maxHeartbeats 4000000 in
theorem law_names (s : List UInt8) (hs0 : s.length ≤ reachBytes) (w : World) (hK : KOK w) : Calls Tryd.prog 10 #[.string ⟨s.toArray⟩] w fun e w' => e = .returned (.bool true) ∧ Below w.heap.size w w' := by
  have HK := Lib.hid hK
  have HB0 : Hid (Below w.heap.size w w) := Below.refl _ _
  unfold reachBytes at hs0
  clear hK
  go_enter Tryd.func10, Tryd.ntmps10
  go_wp2_with fail
  refine (sane_any w HK.out).mono ?_
  rintro e w1 ⟨rfl, b1⟩
  have HB1 : Hid (Below w.heap.size w w1) := b1
  have HK1 := Lib.hid (HK.out.below b1 HK.out.pos)
  clear b1
  by_cases hlen : (1000 : Int) < (s.length : Int)
  · go_wp2_with fail
    go_ret
    exact ⟨rfl, HB1.out⟩
  have hs : s.length ≤ 1000 := by omega
  clear hs0
  go_wp2_with fail
  refine (lexP_any s (by unfold maxLen; omega) w1 HK1.out).mono ?_
  rintro e w2 ⟨A, n, cap, rfl, r2, h2a, h2b, b2⟩
  have HB2 : Hid (Below w.heap.size w w2) := HB1.out.trans (b2.mono HB1.out.size)
  have HK2 := Lib.hid (HK1.out.below b2 HK1.out.pos)
  clear b2
  have HT := Lib.hid (textOut1 s)
  cases hnm : isName s with
  | true =>
    rw [lexOut_ok (by omega) (lex_name hnm 0)] at r2 ⊢
    rw [hnm, if_pos rfl] at HT
    have HN := Lib.hid hnm
    have hn : n = 1 := r2.1
    subst hn
    obtain ⟨b1, o1, ⟨k, p, x, nn⟩, rfl, hb1, hx, hc⟩ := r2.one 0 (by omega)
    cases hx
    obtain ⟨c0, c1, c2, c3⟩ := tk0_cells hc
    clear r2 hc hnm h2a h2b
    go_wp2_with fail
    have HR := Lib.hid (rdt_lit w2 [⟨1, 0, s, 0⟩] #[.int .i64 1, .int .i64 0, .string ⟨s.toArray⟩, .int .i64 0] rfl 1 rfl (by unfold maxLen; omega))
    have HBn := Lib.hid (Below.new1 w2 (.cells #[.int .i64 1, .int .i64 0, .string ⟨s.toArray⟩, .int .i64 0] 35))
    have HKn := Lib.hid (HK2.out.below HBn.out HK2.out.pos)
    have HB3 : Hid (Below w.heap.size w (w2.alloc (.cells #[.int .i64 1, .int .i64 0, .string ⟨s.toArray⟩, .int .i64 0] 35))) := HB2.out.trans (HBn.out.mono HB2.out.size)
    refine (text_any _ 1 1 [⟨1, 0, s, 0⟩] _ HR.out (by omega) (by simp; unfold maxLen; omega) (by rw [textL1]; omega) HKn.out).mono ?_
    rw [HT.out]
    rintro e w4 ⟨rfl, b4⟩
    have HB4 : Hid (Below w.heap.size w w4) := HB3.out.trans (b4.mono HB3.out.size)
    have HK4 := Lib.hid (HKn.out.below b4 HKn.out.pos)
    clear b4
    go_wp2_with fail
    refine (name_any s (by unfold maxLen; omega) w4 HK4.out).mono ?_
    rw [HN.out]
    rintro e w5 ⟨rfl, rfl⟩
    go_wp2_with fail
    go_ret
    exact ⟨rfl, HB4.out⟩
  | false =>
    have HN := Lib.hid hnm
    rw [hnm, if_neg (by decide)] at HT
    cases hl : lex 0 s with
    | inr q =>
      rw [lexOut_bad (by omega) hl] at r2 ⊢
      clear r2 h2a h2b hl hnm
      go_wp2_with fail
      have HR := Lib.hid (rdt_lit w2 [⟨1, 0, s, 0⟩] #[.int .i64 1, .int .i64 0, .string ⟨s.toArray⟩, .int .i64 0] rfl 1 rfl (by unfold maxLen; omega))
      have HBn := Lib.hid (Below.new1 w2 (.cells #[.int .i64 1, .int .i64 0, .string ⟨s.toArray⟩, .int .i64 0] 35))
      have HKn := Lib.hid (HK2.out.below HBn.out HK2.out.pos)
      have HB3 : Hid (Below w.heap.size w (w2.alloc (.cells #[.int .i64 1, .int .i64 0, .string ⟨s.toArray⟩, .int .i64 0] 35))) := HB2.out.trans (HBn.out.mono HB2.out.size)
      refine (text_any _ 1 1 [⟨1, 0, s, 0⟩] _ HR.out (by omega) (by simp; unfold maxLen; omega) (by rw [textL1]; omega) HKn.out).mono ?_
      rw [HT.out]
      rintro e w4 ⟨rfl, b4⟩
      have HB4 : Hid (Below w.heap.size w w4) := HB3.out.trans (b4.mono HB3.out.size)
      have HK4 := Lib.hid (HKn.out.below b4 HKn.out.pos)
      clear b4
      go_wp2_with fail
      refine (name_any s (by unfold maxLen; omega) w4 HK4.out).mono ?_
      rw [HN.out]
      rintro e w5 ⟨rfl, rfl⟩
      go_wp2_with fail
      go_ret
      exact ⟨rfl, HB4.out⟩
    | inl l =>
      rw [lexOut_ok (by omega) hl] at r2 ⊢
      have hn : n = l.length := r2.1
      by_cases h1 : n = 1
      · obtain ⟨t, rfl⟩ : ∃ t, l = [t] := by
          match l, hn.symm.trans h1 with
          | [t], _ => exact ⟨t, rfl⟩
        have hs1 := name_single hnm hl
        subst h1
        obtain ⟨b1, o1, ⟨k, p, x, nn⟩, rfl, hb1, hx, hc⟩ := r2.one 0 (by omega)
        cases hx
        obtain ⟨c0, c1, c2, c3⟩ := tk0_cells hc
        clear r2 hc hl hn h2a h2b hnm
        by_cases hk : k = 1
        · have hxs : (x == s) = false := beq_eq_false_iff_ne.2 (hs1 hk)
          subst hk
          clear hs1
          go_wp2_with fail
          have HR := Lib.hid (rdt_lit w2 [⟨1, 0, s, 0⟩] #[.int .i64 1, .int .i64 0, .string ⟨s.toArray⟩, .int .i64 0] rfl 1 rfl (by unfold maxLen; omega))
          have HBn := Lib.hid (Below.new1 w2 (.cells #[.int .i64 1, .int .i64 0, .string ⟨s.toArray⟩, .int .i64 0] 35))
          have HKn := Lib.hid (HK2.out.below HBn.out HK2.out.pos)
          have HB3 : Hid (Below w.heap.size w (w2.alloc (.cells #[.int .i64 1, .int .i64 0, .string ⟨s.toArray⟩, .int .i64 0] 35))) := HB2.out.trans (HBn.out.mono HB2.out.size)
          refine (text_any _ 1 1 [⟨1, 0, s, 0⟩] _ HR.out (by omega) (by simp; unfold maxLen; omega) (by rw [textL1]; omega) HKn.out).mono ?_
          rw [HT.out]
          rintro e w4 ⟨rfl, b4⟩
          have HB4 : Hid (Below w.heap.size w w4) := HB3.out.trans (b4.mono HB3.out.size)
          have HK4 := Lib.hid (HKn.out.below b4 HKn.out.pos)
          clear b4
          go_wp2_with fail
          refine (name_any s (by unfold maxLen; omega) w4 HK4.out).mono ?_
          rw [HN.out]
          rintro e w5 ⟨rfl, rfl⟩
          go_wp2_with fail
          go_ret
          exact ⟨rfl, HB4.out⟩
        · have hk1 := beq_off hk
          clear hs1 hk
          go_wp2_with fail
          have HR := Lib.hid (rdt_lit w2 [⟨1, 0, s, 0⟩] #[.int .i64 1, .int .i64 0, .string ⟨s.toArray⟩, .int .i64 0] rfl 1 rfl (by unfold maxLen; omega))
          have HBn := Lib.hid (Below.new1 w2 (.cells #[.int .i64 1, .int .i64 0, .string ⟨s.toArray⟩, .int .i64 0] 35))
          have HKn := Lib.hid (HK2.out.below HBn.out HK2.out.pos)
          have HB3 : Hid (Below w.heap.size w (w2.alloc (.cells #[.int .i64 1, .int .i64 0, .string ⟨s.toArray⟩, .int .i64 0] 35))) := HB2.out.trans (HBn.out.mono HB2.out.size)
          refine (text_any _ 1 1 [⟨1, 0, s, 0⟩] _ HR.out (by omega) (by simp; unfold maxLen; omega) (by rw [textL1]; omega) HKn.out).mono ?_
          rw [HT.out]
          rintro e w4 ⟨rfl, b4⟩
          have HB4 : Hid (Below w.heap.size w w4) := HB3.out.trans (b4.mono HB3.out.size)
          have HK4 := Lib.hid (HKn.out.below b4 HKn.out.pos)
          clear b4
          go_wp2_with fail
          refine (name_any s (by unfold maxLen; omega) w4 HK4.out).mono ?_
          rw [HN.out]
          rintro e w5 ⟨rfl, rfl⟩
          go_wp2_with fail
          go_ret
          exact ⟨rfl, HB4.out⟩
      · have hn1 : ((n : Int) == 1) = false := beq_off (by omega)
        clear r2 hl hn h1 h2a h2b hnm
        go_wp2_with fail
        have HR := Lib.hid (rdt_lit w2 [⟨1, 0, s, 0⟩] #[.int .i64 1, .int .i64 0, .string ⟨s.toArray⟩, .int .i64 0] rfl 1 rfl (by unfold maxLen; omega))
        have HBn := Lib.hid (Below.new1 w2 (.cells #[.int .i64 1, .int .i64 0, .string ⟨s.toArray⟩, .int .i64 0] 35))
        have HKn := Lib.hid (HK2.out.below HBn.out HK2.out.pos)
        have HB3 : Hid (Below w.heap.size w (w2.alloc (.cells #[.int .i64 1, .int .i64 0, .string ⟨s.toArray⟩, .int .i64 0] 35))) := HB2.out.trans (HBn.out.mono HB2.out.size)
        refine (text_any _ 1 1 [⟨1, 0, s, 0⟩] _ HR.out (by omega) (by simp; unfold maxLen; omega) (by rw [textL1]; omega) HKn.out).mono ?_
        rw [HT.out]
        rintro e w4 ⟨rfl, b4⟩
        have HB4 : Hid (Below w.heap.size w w4) := HB3.out.trans (b4.mono HB3.out.size)
        have HK4 := Lib.hid (HKn.out.below b4 HKn.out.pos)
        clear b4
        go_wp2_with fail
        refine (name_any s (by unfold maxLen; omega) w4 HK4.out).mono ?_
        rw [HN.out]
        rintro e w5 ⟨rfl, rfl⟩
        go_wp2_with fail
        go_ret
        exact ⟨rfl, HB4.out⟩
end Go.Proofs.YtdllceggjjopgaaDoor
