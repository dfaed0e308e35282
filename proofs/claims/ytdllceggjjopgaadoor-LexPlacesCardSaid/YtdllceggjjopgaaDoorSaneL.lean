/- Contract of the laws' sane. -/
import Derived.Test.YtdllceggjjopgaaDoorTextP
import Derived.Test.YtdllceggjjopgaaDoorRefLex
namespace Go.Proofs.YtdllceggjjopgaaDoor
open Go.RowKit

theorem lexP_pos {s : List UInt8} {l : List Tk} {e : Int} (h : lexOut s = (l, 0, e)) (hl : s.length ≤ maxLen) {m : Nat} (hm : l.length = m) (h0 : 0 < m) (w : World) (hK : KOK w) :
    Calls Tryd.prog 12 #[.string ⟨s.toArray⟩] w fun en w' => ∃ b o cap : Nat, en = .returned (.tuple #[.slice (some ⟨b, o, none⟩) m cap, .int .i64 0, .int .i64 e]) ∧ RdT w' w'.heap.size (some ⟨b, o, none⟩) m l ∧ m ≤ cap ∧ cap ≤ maxLen ∧ Below w.heap.size w w' :=
  (lexP_any s hl w hK).mono fun en w' ⟨A, n, cap, he, hr, h1, h2, hb⟩ => by
    rw [h] at he hr
    have hn : n = m := by rw [hr.1]; exact hm
    subst hn
    obtain ⟨b, o, rfl, hq⟩ := hr.2 h0
    exact ⟨b, o, cap, he, hr, h1, h2, hb⟩
theorem lexP_none {s : List UInt8} {p e : Int} {q : Nat} (h : lexOut s = ([], q, e)) (hl : s.length ≤ maxLen) (hp : (q : Int) = p) (w : World) (hK : KOK w) :
    Calls Tryd.prog 12 #[.string ⟨s.toArray⟩] w fun en w' => ∃ (A : Option Addr) (cap : Nat), en = .returned (.tuple #[.slice A 0 cap, .int .i64 p, .int .i64 e]) ∧ Below w.heap.size w w' :=
  (lexP_any s hl w hK).mono fun en w' ⟨A, n, cap, he, hr, h1, h2, hb⟩ => by
    rw [h] at he hr
    have hn : n = 0 := hr.1
    subst hn
    subst hp
    exact ⟨A, cap, he, hb⟩

theorem l_earn : lexOut [101, 97, 114, 110, 32, 51, 48, 59] = ([⟨1, 0, [101, 97, 114, 110], 0⟩, ⟨2, 5, [], 30⟩, ⟨3, 7, [59], 0⟩], 0, 0) := by kernel_rfl
theorem l_007 : lexOut [48, 48, 55] = ([], 0, 50) := by kernel_rfl
theorem l_big : lexOut [49, 48, 57, 57, 53, 49, 49, 54, 50, 55, 55, 55, 54] = ([⟨2, 0, [], 1099511627776⟩], 0, 0) := by kernel_rfl
theorem l_a : lexOut [97, 32, 47, 47, 32, 98] = ([⟨1, 0, [97], 0⟩], 0, 0) := by kernel_rfl
theorem l_bad : lexOut [97, 32, 36] = ([], 2, 50) := by kernel_rfl
theorem l_b : lexOut [97, 61, 49] = ([⟨1, 0, [97], 0⟩, ⟨3, 1, [61], 0⟩, ⟨2, 2, [], 1⟩], 0, 0) := by kernel_rfl
theorem l_none : lexOut [] = ([], 0, 0) := by kernel_rfl
theorem t_b : textOut [⟨1, 0, [97], 0⟩, ⟨3, 1, [61], 0⟩, ⟨2, 2, [], 1⟩] = ([97, 32, 61, 32, 49], 0) := by kernel_rfl
theorem t_zero : textOut [⟨0, 0, [], 0⟩] = ([], 50) := by kernel_rfl
theorem rdt_cells {w : World} {B b o n j : Nat} {l : List Tk} {x : Tk} (h : RdT w B (some ⟨b, o, none⟩) n l) (hx : l[j]? = some x) : w.rangeAt b (o + j * 4) (tkV x) := by
  obtain ⟨b', o', e, _, hc⟩ := h.2 (by rw [h.1]; have := (List.getElem?_eq_some_iff.1 hx).1; omega)
  cases e
  exact hc j x hx
theorem tk0_cells {w : World} {b o : Nat} {k p n : Int} {x : List UInt8} (h : w.rangeAt b (o + 0 * 4) (tkV ⟨k, p, x, n⟩)) :
    w.cell? ⟨b, o, none⟩ = some (.int .i64 k) ∧ w.cell? ⟨b, o + 1, none⟩ = some (.int .i64 p) ∧ w.cell? ⟨b, o + 2, none⟩ = some (.string ⟨x.toArray⟩) ∧ w.cell? ⟨b, o + 3, none⟩ = some (.int .i64 n) := by
  rw [Nat.zero_mul, Nat.add_zero] at h
  exact tk_cells h
/-- a slice literal of tokens -/
theorem rdt_lit (w : World) (l : List Tk) (cs : Array Value) (h : cs = (flatE tkV l).toArray) (n : Nat) (hn : l.length = n) (hc : n ≤ maxLen) : RdT (w.alloc (.cells cs 35)) (w.alloc (.cells cs 35)).heap.size (some ⟨w.heap.size, 0, none⟩) n l := by
  subst h
  have ho : Owns (w.alloc (.cells (flatE tkV l).toArray 35)) w.heap.size 35 4 w.heap.size n n (flatE tkV l) :=
    ⟨by rw [flatE_length tkV_len, hn], Nat.le_refl _, Nat.le_refl _, hc, _, heap_alloc_new _ _, by rw [List.size_toArray, flatE_length tkV_len, hn], by
      show List.take (n * 4) (flatE tkV l) = _
      rw [List.take_of_length_le (by rw [flatE_length tkV_len, hn]; omega)]⟩
  exact RdE.of_owns ho tkV_len (by omega) ho.lt

set_option maxRecDepth 100000 in
set_option maxHeartbeats 8000000 in
theorem sane_any (w : World) (hK : KOK w) : Calls Tryd.prog 11 #[] w fun e w' => e = .returned (.bool true) ∧ Below w.heap.size w w' := by
  have hML : (65537 : Nat) ≤ maxLen := by unfold maxLen; omega
  have HML := Lib.hid hML
  have HK := Lib.hid hK
  have HB0 : Hid (Below w.heap.size w w) := Below.refl _ _
  clear hK hML
  go_enter Tryd.func11, Tryd.ntmps11
  go_wp2_with fail
  refine (lexP_pos l_earn (Nat.le_trans (by decide) HML.out) (m := 3) rfl (by omega) w (HK.out.below HB0.out HK.out.pos)).mono ?_
  rintro e w1 ⟨b1, o1, c1, rfl, r1, h1a, h1b, bb⟩
  have HB1 : Hid (Below w.heap.size w w1) := HB0.out.trans (bb.mono HB0.out.size)
  have R1 := Lib.hid r1
  have H1a := Lib.hid h1a
  have H1b := Lib.hid h1b
  clear r1 h1a h1b
  clear bb
  go_wp2_with fail
  have bb := Below.new1 w1 (.cells #[.int .i64 1, .int .i64 0, .string ⟨#[101, 97, 114, 110]⟩, .int .i64 0, .int .i64 2, .int .i64 5, .string ⟨#[]⟩, .int .i64 30, .int .i64 3, .int .i64 7, .string ⟨#[59]⟩, .int .i64 0] 35)
  have rr := rdt_lit w1 [⟨1, 0, [101, 97, 114, 110], 0⟩, ⟨2, 5, [], 30⟩, ⟨3, 7, [59], 0⟩] #[.int .i64 1, .int .i64 0, .string ⟨#[101, 97, 114, 110]⟩, .int .i64 0, .int .i64 2, .int .i64 5, .string ⟨#[]⟩, .int .i64 30, .int .i64 3, .int .i64 7, .string ⟨#[59]⟩, .int .i64 0] rfl 3 rfl (Nat.le_trans (by decide) HML.out)
  obtain ⟨gw, hg⟩ : ∃ x, x = w1.heap.size := ⟨_, rfl⟩
  rw [← hg] at rr
  rw [← hg]
  obtain ⟨w2, hw⟩ : ∃ x, x = w1.alloc (.cells #[.int .i64 1, .int .i64 0, .string ⟨#[101, 97, 114, 110]⟩, .int .i64 0, .int .i64 2, .int .i64 5, .string ⟨#[]⟩, .int .i64 30, .int .i64 3, .int .i64 7, .string ⟨#[59]⟩, .int .i64 0] 35) := ⟨_, rfl⟩
  rw [← hw] at bb rr
  rw [← hw]
  have HB2 : Hid (Below w.heap.size w w2) := HB1.out.trans (bb.mono HB1.out.size)
  have R1 := Lib.hid (R1.out.below bb bb.size)
  have RW := Lib.hid rr
  clear bb rr hg hw
  refine (lexP_none (p := 0) l_007 (Nat.le_trans (by decide) HML.out) rfl w2 (HK.out.below HB2.out HK.out.pos)).mono ?_
  rintro e w3 ⟨A3, c3, rfl, bb⟩
  have HB3 : Hid (Below w.heap.size w w3) := HB2.out.trans (bb.mono HB2.out.size)
  have R1 := Lib.hid (R1.out.below bb bb.size)
  have RW := Lib.hid (RW.out.below bb bb.size)
  clear bb
  go_wp2_with fail
  refine (lexP_pos l_big (Nat.le_trans (by decide) HML.out) (m := 1) rfl (by omega) w3 (HK.out.below HB3.out HK.out.pos)).mono ?_
  rintro e w4 ⟨b3, o3, c3, rfl, r3, h3a, h3b, bb⟩
  have HB4 : Hid (Below w.heap.size w w4) := HB3.out.trans (bb.mono HB3.out.size)
  have R1 := Lib.hid (R1.out.below bb bb.size)
  have RW := Lib.hid (RW.out.below bb bb.size)
  have RB := Lib.hid r3
  have H3a := Lib.hid h3a
  have H3b := Lib.hid h3b
  clear r3 h3a h3b
  clear bb
  go_wp2_with fail
  refine (lexP_pos l_a (Nat.le_trans (by decide) HML.out) (m := 1) rfl (by omega) w4 (HK.out.below HB4.out HK.out.pos)).mono ?_
  rintro e w5 ⟨b4, o4, c4, rfl, r4, h4a, h4b, bb⟩
  have HB5 : Hid (Below w.heap.size w w5) := HB4.out.trans (bb.mono HB4.out.size)
  have R1 := Lib.hid (R1.out.below bb bb.size)
  have RW := Lib.hid (RW.out.below bb bb.size)
  have RB := Lib.hid (RB.out.below bb bb.size)
  have RA := Lib.hid r4
  have H4a := Lib.hid h4a
  have H4b := Lib.hid h4b
  clear r4 h4a h4b
  clear bb
  go_wp2_with fail
  refine (lexP_none (p := 2) l_bad (Nat.le_trans (by decide) HML.out) rfl w5 (HK.out.below HB5.out HK.out.pos)).mono ?_
  rintro e w6 ⟨A6, c6, rfl, bb⟩
  have HB6 : Hid (Below w.heap.size w w6) := HB5.out.trans (bb.mono HB5.out.size)
  have R1 := Lib.hid (R1.out.below bb bb.size)
  have RW := Lib.hid (RW.out.below bb bb.size)
  have RB := Lib.hid (RB.out.below bb bb.size)
  have RA := Lib.hid (RA.out.below bb bb.size)
  clear bb
  go_wp2_with fail
  refine (lexP_pos l_b (Nat.le_trans (by decide) HML.out) (m := 3) rfl (by omega) w6 (HK.out.below HB6.out HK.out.pos)).mono ?_
  rintro e w7 ⟨b6, o6, c6, rfl, r6, h6a, h6b, bb⟩
  have HB7 : Hid (Below w.heap.size w w7) := HB6.out.trans (bb.mono HB6.out.size)
  have R1 := Lib.hid (R1.out.below bb bb.size)
  have RW := Lib.hid (RW.out.below bb bb.size)
  have RB := Lib.hid (RB.out.below bb bb.size)
  have RA := Lib.hid (RA.out.below bb bb.size)
  have Rb := Lib.hid r6
  have H6a := Lib.hid h6a
  have H6b := Lib.hid h6b
  clear r6 h6a h6b
  clear bb
  go_wp2_with fail
  refine (text_any (some ⟨b6, o6, none⟩) 3 c6 [⟨1, 0, [97], 0⟩, ⟨3, 1, [61], 0⟩, ⟨2, 2, [], 1⟩] w7 Rb.out (by omega) (fun t ht => by have h : ∀ t ∈ ([⟨1, 0, [97], 0⟩, ⟨3, 1, [61], 0⟩, ⟨2, 2, [], 1⟩] : List Tk), t.text.length ≤ 65537 := (by decide); exact Nat.le_trans (h t ht) HML.out) (by decide +kernel) (HK.out.below HB7.out HK.out.pos)).mono ?_
  rintro e w8 ⟨rfl, bb⟩
  have HB8 : Hid (Below w.heap.size w w8) := HB7.out.trans (bb.mono HB7.out.size)
  have R1 := Lib.hid (R1.out.below bb bb.size)
  have RW := Lib.hid (RW.out.below bb bb.size)
  have RB := Lib.hid (RB.out.below bb bb.size)
  have RA := Lib.hid (RA.out.below bb bb.size)
  have Rb := Lib.hid (Rb.out.below bb bb.size)
  clear bb
  rw [t_b]
  go_wp2_with fail
  refine (lexP_none (p := 0) l_none (Nat.le_trans (by decide) HML.out) rfl w8 (HK.out.below HB8.out HK.out.pos)).mono ?_
  rintro e w9 ⟨A9, c9, rfl, bb⟩
  have HB9 : Hid (Below w.heap.size w w9) := HB8.out.trans (bb.mono HB8.out.size)
  have R1 := Lib.hid (R1.out.below bb bb.size)
  have RW := Lib.hid (RW.out.below bb bb.size)
  have RB := Lib.hid (RB.out.below bb bb.size)
  have RA := Lib.hid (RA.out.below bb bb.size)
  have Rb := Lib.hid (Rb.out.below bb bb.size)
  clear bb
  go_wp2_with fail
  have bb := Below.new1 w9 (.cells #[.int .i64 0, .int .i64 0, .string ⟨#[]⟩, .int .i64 0] 35)
  have rr := rdt_lit w9 [⟨0, 0, [], 0⟩] #[.int .i64 0, .int .i64 0, .string ⟨#[]⟩, .int .i64 0] rfl 1 rfl (Nat.le_trans (by decide) HML.out)
  obtain ⟨gz, hg⟩ : ∃ x, x = w9.heap.size := ⟨_, rfl⟩
  rw [← hg] at rr
  rw [← hg]
  obtain ⟨w10, hw⟩ : ∃ x, x = w9.alloc (.cells #[.int .i64 0, .int .i64 0, .string ⟨#[]⟩, .int .i64 0] 35) := ⟨_, rfl⟩
  rw [← hw] at bb rr
  rw [← hw]
  have HB10 : Hid (Below w.heap.size w w10) := HB9.out.trans (bb.mono HB9.out.size)
  have R1 := Lib.hid (R1.out.below bb bb.size)
  have RW := Lib.hid (RW.out.below bb bb.size)
  have RB := Lib.hid (RB.out.below bb bb.size)
  have RA := Lib.hid (RA.out.below bb bb.size)
  have Rb := Lib.hid (Rb.out.below bb bb.size)
  have RZ := Lib.hid rr
  clear bb rr hg hw
  refine (text_any (some ⟨gz, 0, none⟩) 1 1 [⟨0, 0, [], 0⟩] w10 RZ.out (by omega) (fun t ht => by have h : ∀ t ∈ ([⟨0, 0, [], 0⟩] : List Tk), t.text.length ≤ 65537 := (by decide); exact Nat.le_trans (h t ht) HML.out) (by decide +kernel) (HK.out.below HB10.out HK.out.pos)).mono ?_
  rintro e w11 ⟨rfl, bb⟩
  have HB11 : Hid (Below w.heap.size w w11) := HB10.out.trans (bb.mono HB10.out.size)
  have R1 := Lib.hid (R1.out.below bb bb.size)
  have RW := Lib.hid (RW.out.below bb bb.size)
  have RB := Lib.hid (RB.out.below bb bb.size)
  have RA := Lib.hid (RA.out.below bb bb.size)
  have Rb := Lib.hid (Rb.out.below bb bb.size)
  have RZ := Lib.hid (RZ.out.below bb bb.size)
  clear bb
  rw [t_zero]
  clear RZ
  go_wp2_with fail
  refine (refequal_any (some ⟨b1, o1, none⟩) (some ⟨gw, 0, none⟩) 3 3 c1 3 [⟨1, 0, [101, 97, 114, 110], 0⟩, ⟨2, 5, [], 30⟩, ⟨3, 7, [59], 0⟩] [⟨1, 0, [101, 97, 114, 110], 0⟩, ⟨2, 5, [], 30⟩, ⟨3, 7, [59], 0⟩] w11 R1.out RW.out (Nat.le_trans (by decide) HML.out) (Nat.le_trans (by decide) HML.out)).mono ?_
  rintro e w12 ⟨rfl, bb⟩
  have HB12 : Hid (Below w.heap.size w w12) := HB11.out.trans (bb.mono HB11.out.size)
  have R1 := Lib.hid (R1.out.below bb bb.size)
  have RW := Lib.hid (RW.out.below bb bb.size)
  have RB := Lib.hid (RB.out.below bb bb.size)
  have RA := Lib.hid (RA.out.below bb bb.size)
  have Rb := Lib.hid (Rb.out.below bb bb.size)
  clear bb
  rw [show zipAll eqTk [⟨1, 0, [101, 97, 114, 110], 0⟩, ⟨2, 5, [], 30⟩, ⟨3, 7, [59], 0⟩] [⟨1, 0, [101, 97, 114, 110], 0⟩, ⟨2, 5, [], 30⟩, ⟨3, 7, [59], 0⟩] = true from by kernel_rfl]
  have kb : w12.cell? ⟨b3, o3 + 3, none⟩ = some (.int .i64 1099511627776) := (tk0_cells (rdt_cells RB.out (j := 0) rfl)).2.2.2
  have ka : w12.cell? ⟨b4, o4 + 2, none⟩ = some (.string ⟨#[97]⟩) := (tk0_cells (rdt_cells RA.out (j := 0) rfl)).2.2.1
  go_wp2_with fail
  clear ka kb
  refine (name_any [66, 95, 49, 50] (Nat.le_trans (by decide) HML.out) w12 (HK.out.below HB12.out HK.out.pos)).mono ?_
  rintro e w13 ⟨rfl, hww⟩
  rw [show isName [66, 95, 49, 50] = true from by kernel_rfl]
  subst hww
  go_wp2_with fail
  refine (name_any [95, 49, 50] (Nat.le_trans (by decide) HML.out) w12 (HK.out.below HB12.out HK.out.pos)).mono ?_
  rintro e w13 ⟨rfl, hww⟩
  rw [show isName [95, 49, 50] = false from by kernel_rfl]
  subst hww
  go_wp2_with fail
  refine (same_any (some ⟨b4, o4, none⟩) (some ⟨b6, o6, none⟩) 1 3 c4 c6 [⟨1, 0, [97], 0⟩] [⟨1, 0, [97], 0⟩, ⟨3, 1, [61], 0⟩, ⟨2, 2, [], 1⟩] w12 RA.out Rb.out (Nat.le_trans (by decide) HML.out) (Nat.le_trans (by decide) HML.out)).mono ?_
  rintro e w13 ⟨rfl, bb⟩
  have HB13 : Hid (Below w.heap.size w w13) := HB12.out.trans (bb.mono HB12.out.size)
  have RB := Lib.hid (RB.out.below bb bb.size)
  have RA := Lib.hid (RA.out.below bb bb.size)
  have Rb := Lib.hid (Rb.out.below bb bb.size)
  clear bb
  rw [show zipAll sameTk [⟨1, 0, [97], 0⟩] [⟨1, 0, [97], 0⟩, ⟨3, 1, [61], 0⟩, ⟨2, 2, [], 1⟩] = false from by kernel_rfl]
  clear Rb RB
  go_wp2_with fail
  have bb := Below.new1 w13 (.cells #[.int .i64 1, .int .i64 9, .string ⟨#[97]⟩, .int .i64 0] 35)
  have rr := rdt_lit w13 [⟨1, 9, [97], 0⟩] #[.int .i64 1, .int .i64 9, .string ⟨#[97]⟩, .int .i64 0] rfl 1 rfl (Nat.le_trans (by decide) HML.out)
  obtain ⟨gl, hg⟩ : ∃ x, x = w13.heap.size := ⟨_, rfl⟩
  rw [← hg] at rr
  rw [← hg]
  obtain ⟨w14, hw⟩ : ∃ x, x = w13.alloc (.cells #[.int .i64 1, .int .i64 9, .string ⟨#[97]⟩, .int .i64 0] 35) := ⟨_, rfl⟩
  rw [← hw] at bb rr
  rw [← hw]
  have HB14 : Hid (Below w.heap.size w w14) := HB13.out.trans (bb.mono HB13.out.size)
  have RA := Lib.hid (RA.out.below bb bb.size)
  have RL := Lib.hid rr
  clear bb rr hg hw
  refine (same_any (some ⟨b4, o4, none⟩) (some ⟨gl, 0, none⟩) 1 1 c4 1 [⟨1, 0, [97], 0⟩] [⟨1, 9, [97], 0⟩] w14 RA.out RL.out (Nat.le_trans (by decide) HML.out) (Nat.le_trans (by decide) HML.out)).mono ?_
  rintro e w15 ⟨rfl, bb⟩
  have HB15 : Hid (Below w.heap.size w w15) := HB14.out.trans (bb.mono HB14.out.size)
  have RA := Lib.hid (RA.out.below bb bb.size)
  have RL := Lib.hid (RL.out.below bb bb.size)
  clear bb
  rw [show zipAll sameTk [⟨1, 0, [97], 0⟩] [⟨1, 9, [97], 0⟩] = true from by kernel_rfl]
  go_wp2_with fail
  go_ret
  exact ⟨rfl, HB15.out⟩
end Go.Proofs.YtdllceggjjopgaaDoor
