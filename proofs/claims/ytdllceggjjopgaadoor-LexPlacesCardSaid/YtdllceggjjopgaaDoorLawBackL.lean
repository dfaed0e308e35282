/- The law LexBack, walked. -/
import Derived.Test.YtdllceggjjopgaaDoorSaneL
import Derived.Test.YtdllceggjjopgaaDoorTextM
namespace Go.Proofs.YtdllceggjjopgaaDoor
open Go.RowKit

theorem word_len_any {t : Tk} (h : I64 t.n) : (wordL t).length ≤ t.text.length + 20 := by
  unfold wordL
  split
  · rw [dec_len_eq]
    have := nDig_le 18 t.n.toNat (by unfold I64 at h; omega)
    omega
  · omega
theorem lens_few : ∀ (l : List Tk), (∀ t ∈ l, I64 t.n) → Lib.lens (l.map wordL) ≤ textSum l + 20 * l.length
  | [], _ => by simp [Lib.lens]
  | t :: l, h => by
    have i := lens_few l fun u hu => h u (List.mem_cons_of_mem _ hu)
    have j := word_len_any (h t (List.mem_cons_self ..))
    simp only [Lib.lens, textSum, List.map_cons, List.sum_cons, List.length_cons] at i ⊢
    omega
/-- few tokens have a short text -/
theorem few_text {l : List Tk} (hf : fewTk l = true) (h : ∀ t ∈ l, I64 t.n) : (textL l).length ≤ 6400 ∧ l.length ≤ 200 := by
  unfold fewTk at hf
  simp only [Bool.and_eq_true, decide_eq_true_eq] at hf
  have := lens_few l h
  have := textL_len l
  omega
theorem source_text {s : List UInt8} {l : List Tk} (h : lex 0 s = .inl l) : (textL l).length ≤ 14 * s.length ∧ l.length ≤ s.length := by
  have h1 := (lex_within s.length s 0 l (Nat.le_refl _) h).1
  have h2 := lex_words s.length s 0 l (Nat.le_refl _) h
  have := textL_len l
  omega
/-- the texts of a source's tokens are short -/
theorem source_texts {s : List UInt8} {l : List Tk} (h : lex 0 s = .inl l) : ∀ t ∈ l, t.text.length ≤ maxLen := fun t ht => by
  have hv := List.all_eq_true.1 (lex_valid s.length s 0 l (Nat.le_refl _) h) t ht
  obtain ⟨k, p, x, n⟩ := t
  show x.length ≤ maxLen
  unfold maxLen
  by_cases k1 : k = 1
  · subst k1
    rw [ok_name] at hv
    unfold isName at hv
    simp only [Bool.and_eq_true, decide_eq_true_eq] at hv
    omega
  by_cases k2 : k = 2
  · subst k2
    rw [ok_num] at hv
    simp only [Bool.and_eq_true, decide_eq_true_eq] at hv
    rw [hv.1]
    simp
  by_cases k3 : k = 3
  · subst k3
    rw [ok_sgn] at hv
    simp only [Bool.and_eq_true, decide_eq_true_eq] at hv
    match x, hv.2 with
    | [c], _ => simp
  · rw [ok_none k1 k2 k3] at hv; cases hv

set_option maxRecDepth 100000 in
set_option maxHeartbeats 4000000 in
theorem law_back (A : Option Addr) (n cap : Nat) (l : List Tk) (s : List UInt8) (w : World) (hr : RdT w w.heap.size A n l) (hnc : n ≤ cap) (hcm : cap ≤ maxLen) (hb : ∀ v ∈ l, (I64 v.kind ∧ I64 v.place ∧ I64 v.n) ∧ v.text.length ≤ reachBytes) (hs0 : s.length ≤ reachBytes) (hK : KOK w) :
    Calls Tryd.prog 5 #[.slice A n cap, .string ⟨s.toArray⟩] w fun e w' => e = .returned (.bool true) ∧ Below w.heap.size w w' := by
  have HK := Lib.hid hK
  have R0 := Lib.hid hr
  have HB0 : Hid (Below w.heap.size w w) := Below.refl _ _
  have HI : Hid (∀ t ∈ l, I64 t.n) := fun t ht => (hb t ht).1.2.2
  have HX : Hid (∀ t ∈ l, t.text.length ≤ 140737488355328) := fun t ht => by have := (hb t ht).2; unfold reachBytes at this; omega
  have HX2 : Hid (∀ t ∈ l, t.text.length ≤ maxLen) := fun t ht => by have := (hb t ht).2; unfold reachBytes at this; unfold maxLen; omega
  have HN := Lib.hid (Nat.le_trans hnc hcm)
  unfold reachBytes at hs0
  clear hK hr hnc hcm hb
  go_enter Tryd.func5, Tryd.ntmps5
  go_wp2_with fail
  refine (sane_any w HK.out).mono ?_
  rintro e w1 ⟨rfl, b1⟩
  have HB1 : Hid (Below w.heap.size w w1) := b1
  have HK1 := Lib.hid (HK.out.below b1 HK.out.pos)
  have R1 := Lib.hid (R0.out.below b1 b1.size)
  clear b1
  go_wp2_with fail
  refine (reffew_any A n cap l w1 R1.out HN.out HX.out).mono ?_
  rintro e w' ⟨rfl, rfl⟩
  by_cases hlen : (3000 : Int) < (s.length : Int)
  · obtain ⟨fw, hfw⟩ : ∃ b, b = fewTk l := ⟨_, rfl⟩
    rw [← hfw]
    clear hfw
    cases fw
    · go_wp2_with fail
      go_ret
      exact ⟨rfl, HB1.out⟩
    · go_wp2_with fail
      go_ret
      exact ⟨rfl, HB1.out⟩
  cases hfw : fewTk l with
  | false =>
    clear hfw
    go_wp2_with fail
    go_ret
    exact ⟨rfl, HB1.out⟩
  | true =>
    obtain ⟨hf1, hf2⟩ := few_text hfw HI.out
    have hn : n ≤ 200 := by have h : n = l.length := R1.out.1; omega
    have HTX : Hid ((textL l).length ≤ 65536) := by unfold Hid; omega
    have hs : s.length ≤ 3000 := by omega
    clear hfw hf1 hf2 hs0
    go_wp2_with fail
    refine (text_any A n cap l w1 R1.out (by omega) HX2.out (by have := HTX.out; omega) HK1.out).mono ?_
    rintro e w2 ⟨rfl, b2⟩
    have HB2 : Hid (Below w.heap.size w w2) := HB1.out.trans (b2.mono HB1.out.size)
    have HK2 := Lib.hid (HK1.out.below b2 HK1.out.pos)
    have R2 := Lib.hid (R1.out.below b2 b2.size)
    clear b2
    cases hok : l.all okTk with
    | false =>
      rw [textOut_bad hok]
      clear hok
      go_wp2_with fail
      refine (lexP_any s (by unfold maxLen; omega) w2 HK2.out).mono ?_
      rintro e x1 ⟨Ax, nx, capx, rfl, rx, hxa, hxb, bx⟩
      have HBx : Hid (Below w.heap.size w x1) := HB2.out.trans (bx.mono HB2.out.size)
      have HKx := Lib.hid (HK2.out.below bx HK2.out.pos)
      clear bx
      cases hl : lex 0 s with
      | inr q =>
        rw [lexOut_bad (by omega) hl] at rx ⊢
        have hn : nx = 0 := rx.1
        subst hn
        clear rx hl hxa hxb
        go_wp2_with fail
        go_ret
        exact ⟨rfl, HBx.out⟩
      | inl l2 =>
        rw [lexOut_ok (by omega) hl] at rx ⊢
        have hq := source_text hl
        have HQ := Lib.hid (source_texts hl)
        have HV := Lib.hid (lex_valid s.length s 0 l2 (Nat.le_refl _) hl)
        have hnx : nx = l2.length := rx.1
        have HNX := Lib.hid (Nat.le_trans hxa hxb)
        have RX := Lib.hid rx
        have hn2 : nx ≤ 3000 := by omega
        have HTL : Hid ((textL l2).length ≤ 65536) := by have := hq.1; unfold Hid; omega
        clear rx hl hxa hxb hq hnx
        go_wp2_with fail
        refine (text_any Ax nx capx l2 x1 RX.out (by omega) HQ.out (by have := HTL.out; omega) HKx.out).mono ?_
        rw [textOut_ok HV.out]
        rintro e x2 ⟨rfl, bx⟩
        have HBy : Hid (Below w.heap.size w x2) := HBx.out.trans (bx.mono HBx.out.size)
        have HKy := Lib.hid (HKx.out.below bx HKx.out.pos)
        have RX2 := Lib.hid (RX.out.below bx bx.size)
        clear bx
        obtain ⟨l3, i1, i2⟩ := lex_text l2 0 HV.out
        have HI3 := Lib.hid i1
        have HZ3 := Lib.hid i2
        clear i1 i2
        obtain ⟨tx, htx⟩ : ∃ y, y = textL l2 := ⟨_, rfl⟩
        rw [← htx] at HTL HI3 ⊢
        clear htx
        go_wp2_with fail
        refine (lexP_any tx (by have := HTL.out; unfold maxLen; omega) x2 HKy.out).mono ?_
        unfold LexP
        rw [lexOut_ok HTL.out HI3.out]
        rintro e x3 ⟨Ay, ny, capy, rfl, ry, hya, hyb, bx⟩
        have HBz : Hid (Below w.heap.size w x3) := HBy.out.trans (bx.mono HBy.out.size)
        have RX3 := Lib.hid (RX2.out.below bx bx.size)
        have RY3 := Lib.hid ry
        have HNY := Lib.hid (Nat.le_trans hya hyb)
        clear bx ry hya hyb
        go_wp2_with fail
        refine (same_any Ax Ay nx ny capx capy l2 l3 x3 RX3.out RY3.out HNX.out HNY.out).mono ?_
        rw [HZ3.out]
        rintro e x4 ⟨rfl, bx⟩
        have HBu : Hid (Below w.heap.size w x4) := HBz.out.trans (bx.mono HBz.out.size)
        clear bx
        go_wp2_with fail
        go_ret
        exact ⟨rfl, HBu.out⟩
    | true =>
      rw [textOut_ok hok]
      obtain ⟨l1, i1, i2⟩ := lex_text l 0 hok
      have HI1 := Lib.hid i1
      have HZ1 := Lib.hid i2
      clear i1 i2 hok
      obtain ⟨ta, hta⟩ : ∃ y, y = textL l := ⟨_, rfl⟩
      rw [← hta] at HTX HI1 ⊢
      clear hta
      go_wp2_with fail
      refine (lexP_any ta (by have := HTX.out; unfold maxLen; omega) w2 HK2.out).mono ?_
      unfold LexP
      rw [lexOut_ok HTX.out HI1.out]
      rintro e w3 ⟨Am, nm, capm, rfl, rm, hma, hmb, b3⟩
      have HB3 : Hid (Below w.heap.size w w3) := HB2.out.trans (b3.mono HB2.out.size)
      have HK3 := Lib.hid (HK2.out.below b3 HK2.out.pos)
      have R3 := Lib.hid (R2.out.below b3 b3.size)
      have RM3 := Lib.hid rm
      have HNM := Lib.hid (Nat.le_trans hma hmb)
      clear b3 rm hma hmb
      go_wp2_with fail
      refine (same_any A Am n nm cap capm l l1 w3 R3.out RM3.out HN.out HNM.out).mono ?_
      rw [HZ1.out]
      rintro e w4 ⟨rfl, b4⟩
      have HB4 : Hid (Below w.heap.size w w4) := HB3.out.trans (b4.mono HB3.out.size)
      have HK4 := Lib.hid (HK3.out.below b4 HK3.out.pos)
      clear b4
      go_wp2_with fail
      refine (lexP_any s (by unfold maxLen; omega) w4 HK4.out).mono ?_
      rintro e x1 ⟨Ax, nx, capx, rfl, rx, hxa, hxb, bx⟩
      have HBx : Hid (Below w.heap.size w x1) := HB4.out.trans (bx.mono HB4.out.size)
      have HKx := Lib.hid (HK4.out.below bx HK4.out.pos)
      clear bx
      cases hl : lex 0 s with
      | inr q =>
        rw [lexOut_bad (by omega) hl] at rx ⊢
        have hn : nx = 0 := rx.1
        subst hn
        clear rx hl hxa hxb
        go_wp2_with fail
        go_ret
        exact ⟨rfl, HBx.out⟩
      | inl l2 =>
        rw [lexOut_ok (by omega) hl] at rx ⊢
        have hq := source_text hl
        have HQ := Lib.hid (source_texts hl)
        have HV := Lib.hid (lex_valid s.length s 0 l2 (Nat.le_refl _) hl)
        have hnx : nx = l2.length := rx.1
        have HNX := Lib.hid (Nat.le_trans hxa hxb)
        have RX := Lib.hid rx
        have hn2 : nx ≤ 3000 := by omega
        have HTL : Hid ((textL l2).length ≤ 65536) := by have := hq.1; unfold Hid; omega
        clear rx hl hxa hxb hq hnx
        go_wp2_with fail
        refine (text_any Ax nx capx l2 x1 RX.out (by omega) HQ.out (by have := HTL.out; omega) HKx.out).mono ?_
        rw [textOut_ok HV.out]
        rintro e x2 ⟨rfl, bx⟩
        have HBy : Hid (Below w.heap.size w x2) := HBx.out.trans (bx.mono HBx.out.size)
        have HKy := Lib.hid (HKx.out.below bx HKx.out.pos)
        have RX2 := Lib.hid (RX.out.below bx bx.size)
        clear bx
        obtain ⟨l3, i1, i2⟩ := lex_text l2 0 HV.out
        have HI3 := Lib.hid i1
        have HZ3 := Lib.hid i2
        clear i1 i2
        obtain ⟨tx, htx⟩ : ∃ y, y = textL l2 := ⟨_, rfl⟩
        rw [← htx] at HTL HI3 ⊢
        clear htx
        go_wp2_with fail
        refine (lexP_any tx (by have := HTL.out; unfold maxLen; omega) x2 HKy.out).mono ?_
        unfold LexP
        rw [lexOut_ok HTL.out HI3.out]
        rintro e x3 ⟨Ay, ny, capy, rfl, ry, hya, hyb, bx⟩
        have HBz : Hid (Below w.heap.size w x3) := HBy.out.trans (bx.mono HBy.out.size)
        have RX3 := Lib.hid (RX2.out.below bx bx.size)
        have RY3 := Lib.hid ry
        have HNY := Lib.hid (Nat.le_trans hya hyb)
        clear bx ry hya hyb
        go_wp2_with fail
        refine (same_any Ax Ay nx ny capx capy l2 l3 x3 RX3.out RY3.out HNX.out HNY.out).mono ?_
        rw [HZ3.out]
        rintro e x4 ⟨rfl, bx⟩
        have HBu : Hid (Below w.heap.size w x4) := HBz.out.trans (bx.mono HBz.out.size)
        clear bx
        go_wp2_with fail
        go_ret
        exact ⟨rfl, HBu.out⟩
end Go.Proofs.YtdllceggjjopgaaDoor
