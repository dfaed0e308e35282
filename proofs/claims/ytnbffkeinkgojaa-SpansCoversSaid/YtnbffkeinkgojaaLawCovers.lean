/- The law SpansCovers, walked, out of the contracts of the program's functions. -/
import Derived.Test.YtnbffkeinkgojaaLawSpec
namespace Go.Proofs.Ytnbffkeinkgojaa
open Go.RowKit

theorem wrap64_id (x : Int) (h : 0 ≤ x) (h' : x ≤ 1099511627776) : wrap64 x = x := by
  simp only [wrap64]
  omega

set_option maxRecDepth 100000 in
set_option maxHeartbeats 4000000 in
theorem law_covers (P : ProgOk) (Aa : Option Addr) (na ca : Nat) (la : List Sp) (F T C : Int) (w : World) (hra : RdS w w.heap.size Aa na la) (h1a : na ≤ ca) (h2a : ca ≤ maxLen)
    (hF : 0 ≤ F ∧ F < 65536) (hT : 0 ≤ T ∧ T < 65536) (hC : 0 ≤ C ∧ C < 65536) :
    Calls Try.prog 9 #[.slice Aa na ca, .int .u16 F, .int .u16 T, .int .u16 C] w fun e w' => e = .returned (.bool true) ∧ Below w.heap.size w w' := by
  have HB0 : Hid (Below w.heap.size w w) := Below.refl _ _
  have PP := Lib.hid P
  have Ra := Lib.hid hra
  clear P hra
  go_enter Try.func9, Try.ntmps9
  go_wp2_with fail
  refine (sane_any PP.out w).mono ?_
  rintro e w1 ⟨rfl, b1⟩
  have HB1 : Hid (Below w.heap.size w w1) := HB0.out.trans (b1.mono HB0.out.size)
  have Ra := Lib.hid (Ra.out.below b1 b1.size)
  clear b1
  go_wp2_with fail
  refine (reffew_any Aa na ca w1).mono ?_
  rintro e wx ⟨rfl, rfl⟩
  by_cases hfa : na ≤ 40
  case neg =>
    rw [decide_eq_false hfa]
    go_wp2_with fail
    go_ret
    exact ⟨rfl, HB1.out⟩
  rw [decide_eq_true hfa]
  have La : Hid (LS w1 Aa na ca la) := ⟨Ra.out, h1a, h2a, by omega⟩
  clear Ra h1a h2a hfa
  go_wp2_with fail
  obtain ⟨a, ha⟩ : ∃ x, x = F % 1025 := ⟨_, rfl⟩
  obtain ⟨b, hb⟩ : ∃ x, x = T % 1025 := ⟨_, rfl⟩
  have ha1 : 0 ≤ a ∧ a ≤ 1024 := by omega
  have hb1 : 0 ≤ b ∧ b ≤ 1024 := by omega
  have HA := Lib.hid ha
  have HB := Lib.hid hb
  clear ha hb
  rw [← HA.out, ← HB.out]
  obtain ⟨g, hg⟩ : ∃ x, x = w1.heap.size := ⟨_, rfl⟩
  have h0 := heap_alloc_new w1 (.cells #[.int .i64 a, .int .i64 b] 31)
  have h1 := Below.new1 w1 (.cells #[.int .i64 a, .int .i64 b] 31)
  have La2 := La.out.below h1 rfl
  have HBx : Hid (Below w.heap.size w (w1.alloc (.cells #[.int .i64 a, .int .i64 b] 31))) := HB1.out.trans (h1.mono HB1.out.size)
  have hs1 : g < (w1.alloc (.cells #[.int .i64 a, .int .i64 b] 31)).heap.size := by rw [hg]; simp
  rw [← hg] at h0 ⊢
  obtain ⟨v1, hv1⟩ : ∃ x, x = w1.alloc (.cells #[.int .i64 a, .int .i64 b] 31) := ⟨_, rfl⟩
  rw [← hv1] at h0 La2 HBx hs1 ⊢
  have hc0 : v1.cell? ⟨g, 0, none⟩ = some (.int .i64 a) := by rw [cell_of_row _ _ 0 _ _ _ h0]; rfl
  have hc1 : v1.cell? ⟨g, 1, none⟩ = some (.int .i64 b) := by rw [cell_of_row _ _ 1 _ _ _ h0]; rfl
  have HC0 := Lib.hid hc0
  have HC1 := Lib.hid hc1
  have HS := Lib.hid hs1
  have Lb := Lib.hid La2
  clear La HA HB HB1 h0 h1 La2 hs1 hc0 hc1 hv1 hg hF hT
  obtain ⟨r, hr⟩ : ∃ x, covM la a b = x := ⟨_, rfl⟩
  refine (pCovers PP.out Lb.out a b (by unfold I64; omega) (by unfold I64; omega) r hr).mono ?_
  rintro e w2 ⟨rfl, b2⟩
  have HB2 : Hid (Below w.heap.size w w2) := HBx.out.trans (b2.mono HBx.out.size)
  have La := Lib.hid (Lb.out.below b2 rfl)
  have k0 : w2.cell? ⟨g, 0, none⟩ = some (.int .i64 a) := by rw [b2.cell HS.out]; exact HC0.out
  have k1 : w2.cell? ⟨g, 1, none⟩ = some (.int .i64 b) := by rw [b2.cell HS.out]; exact HC1.out
  have HR := Lib.hid hr
  clear HBx Lb b2 HC0 HC1 HS hr
  by_cases hab : b ≤ a
  · have hr1 : r = true := by rw [← HR.out]; exact covM_true (.inl hab)
    subst hr1
    clear HR ha1 hb1 hC k0 k1
    go_wp2_with fail
    go_ret
    exact ⟨rfl, HB2.out⟩
  obtain ⟨m, hm⟩ : ∃ x, x = a + C % (b - a + 1) := ⟨_, rfl⟩
  have hm1 : a ≤ m ∧ m ≤ b := by
    have q1 := Int.emod_nonneg C (b := b - a + 1) (by omega)
    have q2 := Int.emod_lt_of_pos C (b := b - a + 1) (by omega)
    omega
  have hw : wrap64 (a + C % (b - a + 1)) = m := by rw [← hm]; exact wrap64_id m (by omega) (by omega)
  have HW := Lib.hid hw
  clear hm hw
  go_wp2_with fail
  rw [HW.out]
  clear HW
  have h0 := heap_alloc_new w2 (.cells #[.int .i64 a, .int .i64 b] 31)
  have h1 := Below.new1 w2 (.cells #[.int .i64 a, .int .i64 b] 31)
  have La2 := La.out.below h1 rfl
  have HBx : Hid (Below w.heap.size w (w2.alloc (.cells #[.int .i64 a, .int .i64 b] 31))) := HB2.out.trans (h1.mono HB2.out.size)
  have Ls : Hid (LS (w2.alloc (.cells #[.int .i64 a, .int .i64 b] 31)) (some ⟨w2.heap.size, 0, none⟩) 1 1 [(a, b)]) := by
    refine ⟨⟨rfl, by simp; unfold I64; omega, fun _ => ⟨_, 0, rfl, by simp, fun j s hs => ?_⟩⟩, by omega, by unfold maxLen; omega, by omega⟩
    match j, hs with
    | 0, hs =>
      simp at hs
      subst hs
      exact ⟨by rw [cell_of_row _ _ 0 _ _ _ h0]; rfl, by rw [cell_of_row _ _ 1 _ _ _ h0]; rfl⟩
  obtain ⟨v2, hv2⟩ : ∃ x, x = w2.alloc (.cells #[.int .i64 a, .int .i64 b] 31) := ⟨_, rfl⟩
  rw [← hv2] at La2 HBx Ls ⊢
  have Lb := Lib.hid La2
  clear La h0 h1 La2 hv2 HB2 k0 k1
  refine (PP.out.minus _ _ _ _ _ _ _ _ v2 Ls.out.1 Lb.out.1 Ls.out.2.1 Ls.out.2.2.1 Lb.out.2.1 Lb.out.2.2.1 Ls.out.2.2.2 Lb.out.2.2.2).mono ?_
  rintro e w3 ⟨Ad, nd, cd, rfl, rd, -, -, b3⟩
  have HB3 : Hid (Below w.heap.size w w3) := HBx.out.trans (b3.mono HBx.out.size)
  have La := Lib.hid (Lb.out.below b3 rfl)
  have hd : (nd = 0) ↔ r = true := by
    rw [← HR.out, covM_iff, rd.1, List.length_eq_zero_iff, norm_nil_iff]
    constructor
    · intro h
      refine .inr ⟨ha1.1, hb1.2, fun k q1 q2 => ?_⟩
      have q := h k (by omega)
      rw [day1] at q
      simpa [dOp, q1, q2] using q
    · rintro (h | ⟨-, -, h⟩) k hk
      · omega
      · rw [day1]
        by_cases q1 : a ≤ (k : Int)
        · by_cases q2 : (k : Int) < b
          · simp [dOp, h k q1 q2]
          · simp [dOp, q2]
        · simp [dOp, q1]
  have HD := Lib.hid hd
  clear rd b3 HBx Lb Ls hd
  have hu : ¬ b = a := by omega
  have hk2 : covM la a m = true ∧ covM la m b = true ↔ r = true := by
    rw [← HR.out, covM_iff, covM_iff, covM_iff]
    constructor
    · rintro ⟨h, k⟩
      refine .inr ⟨ha1.1, hb1.2, fun x q1 q2 => ?_⟩
      by_cases q3 : (x : Int) < m
      · rcases h with h | h
        · omega
        · exact h.2.2 x q1 q3
      · rcases k with h | h
        · omega
        · exact h.2.2 x (by omega) q2
    · rintro (h | ⟨h1, h2, h3⟩)
      · omega
      · exact ⟨.inr ⟨h1, by omega, fun x q1 q2 => h3 x q1 (by omega)⟩, .inr ⟨by omega, h2, fun x q1 q2 => h3 x (by omega) q2⟩⟩
  have HK := Lib.hid hk2
  have HE : Hid (covM la a (1025 + C) = false) := covM_false (by omega)
  clear hk2 hu HR
  obtain ⟨x1, hx1⟩ : ∃ x, covM la a m = x := ⟨_, rfl⟩
  obtain ⟨x2, hx2⟩ : ∃ x, covM la m b = x := ⟨_, rfl⟩
  rw [hx1, hx2] at HK
  have HX1 := Lib.hid hx1
  have HX2 := Lib.hid hx2
  clear hx1 hx2
  by_cases hn : nd = 0
  · have hr1 := HD.out.1 hn
    subst hr1 hn
    obtain ⟨y1, y2⟩ := HK.out.2 rfl
    subst y1 y2
    clear HK HD
    go_wp2_with fail
    refine (pCovers PP.out La.out (a) (m) (by unfold I64; omega) (by unfold I64; omega) true HX1.out).mono ?_
    rintro e w4 ⟨rfl, b4⟩
    have HB4 : Hid (Below w.heap.size w w4) := HB3.out.trans (b4.mono HB3.out.size)
    have La' := Lib.hid (La.out.below b4 rfl)
    clear La b4
    have La := La'
    clear La'
    go_wp2_with fail
    refine (pCovers PP.out La.out (m) (b) (by unfold I64; omega) (by unfold I64; omega) true HX2.out).mono ?_
    rintro e w5 ⟨rfl, b5⟩
    have HB5 : Hid (Below w.heap.size w w5) := HB4.out.trans (b5.mono HB4.out.size)
    have La' := Lib.hid (La.out.below b5 rfl)
    clear La b5
    have La := La'
    clear La'
    go_wp2_with fail
    refine (pCovers PP.out La.out (a) (1025 + C) (by unfold I64; omega) (by unfold I64; omega) false HE.out).mono ?_
    rintro e w6 ⟨rfl, b6⟩
    have HB6 : Hid (Below w.heap.size w w6) := HB5.out.trans (b6.mono HB5.out.size)
    have La' := Lib.hid (La.out.below b6 rfl)
    clear La b6
    have La := La'
    clear La'
    go_wp2_with fail
    go_ret
    exact ⟨rfl, HB6.out⟩
  have hr1 : r = false := by rw [← Bool.not_eq_true]; exact fun e => hn (HD.out.2 e)
  subst hr1
  have hk3 : x1 = true → x2 = false := fun e => by rw [← Bool.not_eq_true]; exact fun e' => absurd (HK.out.1 ⟨e, e'⟩) (by simp)
  have HK3 := Lib.hid hk3
  have hn' : ¬ (nd : Int) = 0 := by omega
  have hz := Lib.hid (show ((nd : Int) == 0) = false by rw [beq_eq_false_iff_ne]; exact hn')
  clear HK HD hk3
  cases x1
  · go_wp2_with fail
    refine (pCovers PP.out La.out (a) (m) (by unfold I64; omega) (by unfold I64; omega) false HX1.out).mono ?_
    rintro e w4 ⟨rfl, b4⟩
    have HB4 : Hid (Below w.heap.size w w4) := HB3.out.trans (b4.mono HB3.out.size)
    have La' := Lib.hid (La.out.below b4 rfl)
    clear La b4
    have La := La'
    clear La'
    go_wp2_with fail
    refine (pCovers PP.out La.out (a) (1025 + C) (by unfold I64; omega) (by unfold I64; omega) false HE.out).mono ?_
    rintro e w5 ⟨rfl, b5⟩
    have HB5 : Hid (Below w.heap.size w w5) := HB4.out.trans (b5.mono HB4.out.size)
    have La' := Lib.hid (La.out.below b5 rfl)
    clear La b5
    have La := La'
    clear La'
    go_wp2_with fail
    go_ret
    refine ⟨?_, HB5.out⟩
    show Ending.returned (Value.bool (!((nd : Int) == 0))) = _
    rw [hz.out]
    rfl
  · have y2 := HK3.out rfl
    subst y2
    go_wp2_with fail
    refine (pCovers PP.out La.out (a) (m) (by unfold I64; omega) (by unfold I64; omega) true HX1.out).mono ?_
    rintro e w4 ⟨rfl, b4⟩
    have HB4 : Hid (Below w.heap.size w w4) := HB3.out.trans (b4.mono HB3.out.size)
    have La' := Lib.hid (La.out.below b4 rfl)
    clear La b4
    have La := La'
    clear La'
    go_wp2_with fail
    refine (pCovers PP.out La.out (m) (b) (by unfold I64; omega) (by unfold I64; omega) false HX2.out).mono ?_
    rintro e w5 ⟨rfl, b5⟩
    have HB5 : Hid (Below w.heap.size w w5) := HB4.out.trans (b5.mono HB4.out.size)
    have La' := Lib.hid (La.out.below b5 rfl)
    clear La b5
    have La := La'
    clear La'
    go_wp2_with fail
    refine (pCovers PP.out La.out (a) (1025 + C) (by unfold I64; omega) (by unfold I64; omega) false HE.out).mono ?_
    rintro e w6 ⟨rfl, b6⟩
    have HB6 : Hid (Below w.heap.size w w6) := HB5.out.trans (b6.mono HB5.out.size)
    have La' := Lib.hid (La.out.below b6 rfl)
    clear La b6
    have La := La'
    clear La'
    go_wp2_with fail
    go_ret
    refine ⟨?_, HB6.out⟩
    show Ending.returned (Value.bool (!((nd : Int) == 0))) = _
    rw [hz.out]
    rfl
end Go.Proofs.Ytnbffkeinkgojaa
