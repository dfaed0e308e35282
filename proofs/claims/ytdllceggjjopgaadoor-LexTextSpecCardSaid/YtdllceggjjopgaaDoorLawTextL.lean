/- The law LexTextSpec, walked. -/
import Derived.Test.YtdllceggjjopgaaDoorLawSpecL
import Derived.Test.YtdllceggjjopgaaDoorLawBackL
import Derived.Test.YtdllceggjjopgaaDoorRefText
namespace Go.Proofs.YtdllceggjjopgaaDoor
open Go.RowKit

set_option maxRecDepth 100000 in
set_option maxHeartbeats 4000000 in
theorem law_text (A : Option Addr) (n cap : Nat) (l : List Tk) (A' : Option Addr) (n' cap' : Nat) (l' : List Tk) (s : List UInt8) (w : World) (hr : RdT w w.heap.size A n l) (hnc : n ≤ cap) (hcm : cap ≤ maxLen) (hb : ∀ v ∈ l, (I64 v.kind ∧ I64 v.place ∧ I64 v.n) ∧ v.text.length ≤ reachBytes)
    (hr' : RdT w w.heap.size A' n' l') (hnc' : n' ≤ cap') (hcm' : cap' ≤ maxLen) (hb' : ∀ v ∈ l', (I64 v.kind ∧ I64 v.place ∧ I64 v.n) ∧ v.text.length ≤ reachBytes) (hs0 : s.length ≤ reachBytes) (hK : KOK w) :
    Calls Tryd.prog 4 #[.slice A n cap, .slice A' n' cap', .string ⟨s.toArray⟩] w fun e w' => e = .returned (.bool true) ∧ Below w.heap.size w w' := by
  have HK := Lib.hid hK
  have R0 := Lib.hid hr
  have S0 := Lib.hid hr'
  have HB0 : Hid (Below w.heap.size w w) := Below.refl _ _
  have HI : Hid (∀ t ∈ l, I64 t.n) := fun t ht => (hb t ht).1.2.2
  have HX : Hid (∀ t ∈ l, t.text.length ≤ 140737488355328) := fun t ht => by have := (hb t ht).2; unfold reachBytes at this; omega
  have HX' : Hid (∀ t ∈ l', t.text.length ≤ 140737488355328) := fun t ht => by have := (hb' t ht).2; unfold reachBytes at this; omega
  have HX2 : Hid (∀ t ∈ l, t.text.length ≤ maxLen) := fun t ht => by have := (hb t ht).2; unfold reachBytes at this; unfold maxLen; omega
  have HN := Lib.hid (Nat.le_trans hnc hcm)
  have HN' := Lib.hid (Nat.le_trans hnc' hcm')
  unfold reachBytes at hs0
  clear hK hr hnc hcm hb hr' hnc' hcm' hb'
  go_enter Tryd.func4, Tryd.ntmps4
  go_wp2_with fail
  refine (sane_any w HK.out).mono ?_
  rintro e w1 ⟨rfl, b1⟩
  have HB1 : Hid (Below w.heap.size w w1) := b1
  have HK1 := Lib.hid (HK.out.below b1 HK.out.pos)
  have R1 := Lib.hid (R0.out.below b1 b1.size)
  have S1 := Lib.hid (S0.out.below b1 b1.size)
  clear b1
  go_wp2_with fail
  refine (reffew_any A n cap l w1 R1.out HN.out HX.out).mono ?_
  rintro e w' ⟨rfl, rfl⟩
  cases hfw : fewTk l with
  | false =>
    clear hfw
    go_wp2_with fail
    go_ret
    exact ⟨rfl, HB1.out⟩
  | true =>
    have HT := Lib.hid hfw
    have hn : n ≤ 200 := by have h : n = l.length := R1.out.1; have := (few_text hfw HI.out).2; omega
    clear hfw
    go_wp2_with fail
    refine (reffew_any A' n' cap' l' w1 S1.out HN'.out HX'.out).mono ?_
    rintro e w' ⟨rfl, rfl⟩
    cases hfw : fewTk l' with
    | false =>
      clear hfw
      go_wp2_with fail
      go_ret
      exact ⟨rfl, HB1.out⟩
    | true =>
      clear hfw
      by_cases hlen : (1000 : Int) < (s.length : Int)
      · go_wp2_with fail
        go_ret
        exact ⟨rfl, HB1.out⟩
      have hs : s.length ≤ 1000 := by omega
      clear hs0
      have HF := Lib.hid (few_text HT.out HI.out)
      have HLN : Hid (Lib.lens (l.map wordL) + l.length ≤ 65536) := by
        have h1 := lens_few l HI.out
        have h2 := HT.out
        unfold fewTk at h2
        simp only [Bool.and_eq_true, decide_eq_true_eq] at h2
        unfold Hid
        omega
      go_wp2_with fail
      refine (text_any A n cap l w1 R1.out (by omega) HX2.out (by have := HF.out.1; omega) HK1.out).mono ?_
      rintro e w2 ⟨rfl, b2⟩
      have HB2 : Hid (Below w.heap.size w w2) := HB1.out.trans (b2.mono HB1.out.size)
      have HK2 := Lib.hid (HK1.out.below b2 HK1.out.pos)
      have R2 := Lib.hid (R1.out.below b2 b2.size)
      have S2 := Lib.hid (S1.out.below b2 b2.size)
      clear b2
      have hcall := reftext_any A n cap l w2 R2.out (by omega) HX2.out HLN.out
      obtain ⟨⟨tx, te⟩, hto⟩ : ∃ x, x = textOut l := ⟨_, rfl⟩
      rw [← hto] at hcall ⊢
      have HC := Lib.hid hcall
      clear hcall hto
      go_wp2_with fail
      refine HC.out.mono ?_
      rintro e w3 ⟨rfl, b3⟩
      have HB3 : Hid (Below w.heap.size w w3) := HB2.out.trans (b3.mono HB2.out.size)
      have HK3 := Lib.hid (HK2.out.below b3 HK2.out.pos)
      have R3 := Lib.hid (R2.out.below b3 b3.size)
      have S3 := Lib.hid (S2.out.below b3 b3.size)
      clear b3 HC
      go_wp2_with fail
      refine (same_any A A' n n' cap cap' l l' w3 R3.out S3.out HN.out HN'.out).mono ?_
      obtain ⟨z, hz⟩ : ∃ z, z = zipAll sameTk l l' := ⟨_, rfl⟩
      rw [← hz]
      have HZ := Lib.hid hz
      clear hz
      rintro e w4 ⟨rfl, b4⟩
      have HB4 : Hid (Below w.heap.size w w4) := HB3.out.trans (b4.mono HB3.out.size)
      have HK4 := Lib.hid (HK3.out.below b4 HK3.out.pos)
      have R4 := Lib.hid (R3.out.below b4 b4.size)
      have S4 := Lib.hid (S3.out.below b4 b4.size)
      clear b4
      go_wp2_with fail
      refine (refsame_any A A' n n' cap cap' l l' w4 R4.out S4.out HN.out HN'.out).mono ?_
      rw [← HZ.out]
      rintro e w5 ⟨rfl, b5⟩
      have HB5 : Hid (Below w.heap.size w w5) := HB4.out.trans (b5.mono HB4.out.size)
      have HK5 := Lib.hid (HK4.out.below b5 HK4.out.pos)
      have R5 := Lib.hid (R4.out.below b5 b5.size)
      clear b5
      go_wp2_with fail
      refine (same_any A A n n cap cap l l w5 R5.out R5.out HN.out HN.out).mono ?_
      rw [zipAll_refl sameTk_refl]
      rintro e w6 ⟨rfl, b6⟩
      have HB6 : Hid (Below w.heap.size w w6) := HB5.out.trans (b6.mono HB5.out.size)
      have HK6 := Lib.hid (HK5.out.below b6 HK5.out.pos)
      clear b6
      go_wp2_with fail
      refine (name_any s (by unfold maxLen; omega) w6 HK6.out).mono ?_
      obtain ⟨nm, hnm⟩ : ∃ z, z = isName s := ⟨_, rfl⟩
      rw [← hnm]
      have HM := Lib.hid hnm
      clear hnm
      rintro e w' ⟨rfl, rfl⟩
      go_wp2_with fail
      refine (refname_any s (by unfold maxLen; omega) w6).mono ?_
      rw [← HM.out]
      rintro e w' ⟨rfl, rfl⟩
      go_wp2_with fail
      go_ret
      exact ⟨rfl, HB6.out⟩
end Go.Proofs.YtdllceggjjopgaaDoor
