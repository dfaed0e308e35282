/- The law SpansDays, walked, out of the contracts of the program's functions. -/
import Derived.Test.YtnbffkeinkgojaaLawSpec
namespace Go.Proofs.Ytnbffkeinkgojaa
open Go.RowKit

theorem bits_i64 (a b : Int) : I64 (bits .and .i64 a b) := by
  have e : bits .and .i64 a b = IntKind.wrap .i64 (((BitVec.ofInt 64 a) &&& (BitVec.ofInt 64 b)).toNat : Int) := rfl
  rw [e, IntKind.wrap_i64]
  unfold I64
  omega
theorem LS.norm {w : World} {A : Option Addr} {n c : Nat} {f : Nat → Bool} (h : RdS w w.heap.size A n (normal f)) (h1 : n ≤ c) (h2 : c ≤ maxLen) : LS w A n c (normal f) :=
  ⟨h, h1, h2, by rw [h.1]; have := norm_many f; omega⟩
theorem NormFrom.next : ∀ {l : List Sp} {lo : Int} {j : Nat} {s t : Sp}, NormFrom lo l → l[j]? = some s → l[j + 1]? = some t → s.2 < t.1
  | [], _, _, _, _, _, h, _ => by simp at h
  | [_], _, _, _, _, _, _, h => by simp at h
  | a :: b :: r, _, 0, s, t, h, h1, h2 => by
    simp at h1 h2
    subst h1 h2
    have := h.2.2.2.1
    omega
  | a :: b :: r, _, j + 1, s, t, h, h1, h2 => by
    simp at h1
    exact NormFrom.next (l := b :: r) h.2.2.2 h1 (by simpa using h2)
theorem norm_check (f : Nat → Bool) : checkM (normal f) = 0 := by
  unfold checkM
  rw [if_pos]
  rw [List.all_eq_true]
  intro s hs
  have h := NormFrom.each (norm_isNorm f) s hs
  unfold okSpan
  simp
  omega
theorem has_norm (f : Nat → Bool) (x : Int) : hasM (normal f) x = (decide (0 ≤ x) && decide (x < 1024) && f x.toNat) := by
  unfold hasM
  by_cases h1 : 0 ≤ x
  · by_cases h2 : x < 1024
    · rw [norm_day f _ (by omega)]
    · simp [h2]
  · simp [h1]
/-- four slices of normal lists lie in block q -/
def Row4 (w : World) (q : Nat) : Prop := q < w.heap.size ∧ ∀ j : Nat, j < 4 → ∃ (A : Option Addr) (n c : Nat) (f : Nat → Bool), w.cell? ⟨q, j, none⟩ = some (.slice A n c) ∧ LS w A n c (normal f)
theorem Row4.below {w w' : World} {q : Nat} (h : Row4 w q) (hb : Below w.heap.size w w') : Row4 w' q :=
  ⟨Nat.lt_of_lt_of_le h.1 hb.size, fun j hj => by
    obtain ⟨A, n, c, f, h1, h2⟩ := h.2 j hj
    exact ⟨A, n, c, f, (hb.cell h.1).trans h1, h2.below hb rfl⟩⟩
theorem row4_new {w : World} {A B C D : Option Addr} {n m k o n' m' k' o' : Nat} {f g h i : Nat → Bool} (ha : LS w A n n' (normal f)) (hb : LS w B m m' (normal g)) (hc : LS w C k k' (normal h)) (hd : LS w D o o' (normal i)) :
    Row4 (w.alloc (.cells #[.slice A n n', .slice B m m', .slice C k k', .slice D o o'] 22)) w.heap.size := by
  have h0 := heap_alloc_new w (.cells #[.slice A n n', .slice B m m', .slice C k k', .slice D o o'] 22)
  have h1 := Below.new1 w (.cells #[.slice A n n', .slice B m m', .slice C k k', .slice D o o'] 22)
  refine ⟨by simp, fun j hj => ?_⟩
  match j, hj with
  | 0, _ => exact ⟨A, n, n', f, by rw [cell_of_row _ _ 0 _ _ _ h0]; rfl, ha.below h1 rfl⟩
  | 1, _ => exact ⟨B, m, m', g, by rw [cell_of_row _ _ 1 _ _ _ h0]; rfl, hb.below h1 rfl⟩
  | 2, _ => exact ⟨C, k, k', h, by rw [cell_of_row _ _ 2 _ _ _ h0]; rfl, hc.below h1 rfl⟩
  | 3, _ => exact ⟨D, o, o', i, by rw [cell_of_row _ _ 3 _ _ _ h0]; rfl, hd.below h1 rfl⟩
/-- four days lie in block q -/
def Days4 (w : World) (q : Nat) : Prop := q < w.heap.size ∧ ∀ j : Nat, j < 4 → ∃ x : Int, w.cell? ⟨q, j, none⟩ = some (.int .i64 x) ∧ I64 x
theorem Days4.below {w w' : World} {q : Nat} (h : Days4 w q) (hb : Below w.heap.size w w') : Days4 w' q :=
  ⟨Nat.lt_of_lt_of_le h.1 hb.size, fun j hj => by
    obtain ⟨x, h1, h2⟩ := h.2 j hj
    exact ⟨x, (hb.cell h.1).trans h1, h2⟩⟩
theorem days4_new (w : World) (a b c d : Int) (ha : I64 a) (hb : I64 b) (hc : I64 c) (hd : I64 d) : Days4 (w.alloc (.cells #[.int .i64 a, .int .i64 b, .int .i64 c, .int .i64 d] 3)) w.heap.size := by
  have h0 := heap_alloc_new w (.cells #[.int .i64 a, .int .i64 b, .int .i64 c, .int .i64 d] 3)
  refine ⟨by simp, fun j hj => ?_⟩
  match j, hj with
  | 0, _ => exact ⟨a, by rw [cell_of_row _ _ 0 _ _ _ h0]; rfl, ha⟩
  | 1, _ => exact ⟨b, by rw [cell_of_row _ _ 1 _ _ _ h0]; rfl, hb⟩
  | 2, _ => exact ⟨c, by rw [cell_of_row _ _ 2 _ _ _ h0]; rfl, hc⟩
  | 3, _ => exact ⟨d, by rw [cell_of_row _ _ 3 _ _ _ h0]; rfl, hd⟩

theorem has_op (op : Bool → Bool → Bool) (hop : ∀ p q : Bool, (false && op p q) = op false false) {la lb : List Sp} {x : Int} {a b r : Bool} (hr : op a b = r) (ha : hasM la x = a) (hb : hasM lb x = b) : hasM (normal fun k => op (dayIn la k) (dayIn lb k)) x = r := by
  rw [has_norm, ← hr, ← ha, ← hb]
  unfold hasM
  cases decide (0 ≤ x)
  · simpa using hop (dayIn la x.toNat) (dayIn lb x.toNat)
  · cases decide (x < 1024)
    · simpa using hop (dayIn la x.toNat) (dayIn lb x.toNat)
    · simp
set_option maxRecDepth 100000 in
set_option maxHeartbeats 8000000 in
theorem law_days (P : ProgOk) (Aa : Option Addr) (na ca : Nat) (la : List Sp) (Ab : Option Addr) (nb cb : Nat) (lb : List Sp) (D : Int) (w : World) (hra : RdS w w.heap.size Aa na la) (h1a : na ≤ ca) (h2a : ca ≤ maxLen) (hrb : RdS w w.heap.size Ab nb lb) (h1b : nb ≤ cb) (h2b : cb ≤ maxLen) (hD : I64 D) :
    Calls Try.prog 6 #[.slice Aa na ca, .slice Ab nb cb, .int .i64 D] w fun e w' => e = .returned (.bool true) ∧ Below w.heap.size w w' := by
  have HB0 : Hid (Below w.heap.size w w) := Below.refl _ _
  have PP := Lib.hid P
  have Ra := Lib.hid hra
  have Rb := Lib.hid hrb
  have HD := Lib.hid hD
  clear P hra hrb hD
  go_enter Try.func6, Try.ntmps6
  go_wp2_with fail
  refine (sane_any PP.out w).mono ?_
  rintro e w1 ⟨rfl, b1⟩
  have HB1 : Hid (Below w.heap.size w w1) := HB0.out.trans (b1.mono HB0.out.size)
  have Ra := Lib.hid (Ra.out.below b1 b1.size)
  have Rb := Lib.hid (Rb.out.below b1 b1.size)
  clear b1
  go_wp2_with fail
  refine (reffew_any Aa na ca w1).mono ?_
  rintro e wx ⟨rfl, rfl⟩
  by_cases hfa : na ≤ 40
  case neg =>
    rw [decide_eq_false hfa]
    go_wp2_with fail
    go_ret
    exact ⟨rfl, HB1.out⟩
  rw [decide_eq_true hfa]
  have La : Hid (LS w1 Aa na ca la) := ⟨Ra.out, h1a, h2a, by omega⟩
  clear Ra h1a h2a hfa
  go_wp2_with fail
  refine (reffew_any Ab nb cb w1).mono ?_
  rintro e wx ⟨rfl, rfl⟩
  by_cases hfb : nb ≤ 40
  case neg =>
    rw [decide_eq_false hfb]
    go_wp2_with fail
    go_ret
    exact ⟨rfl, HB1.out⟩
  rw [decide_eq_true hfb]
  have Lb : Hid (LS w1 Ab nb cb lb) := ⟨Rb.out, h1b, h2b, by omega⟩
  clear Rb h1b h2b hfb
  go_wp2_with fail
  refine (PP.out.union _ _ _ _ _ _ _ _ w1 La.out.1 Lb.out.1 La.out.2.1 La.out.2.2.1 Lb.out.2.1 Lb.out.2.2.1 La.out.2.2.2 Lb.out.2.2.2).mono ?_
  rintro e w2 ⟨Au, nu, cu, rfl, r2, h1u, h2u, b2⟩
  have HB2 : Hid (Below w.heap.size w w2) := HB1.out.trans (b2.mono HB1.out.size)
  have La' := Lib.hid (La.out.below b2 rfl)
  clear La
  have La := La'
  clear La'
  have Lb' := Lib.hid (Lb.out.below b2 rfl)
  clear Lb
  have Lb := Lb'
  clear Lb'
  have Lu := Lib.hid (LS.norm r2 h1u h2u)
  clear r2 h1u h2u
  clear b2
  go_wp2_with fail
  refine (PP.out.meet _ _ _ _ _ _ _ _ w2 La.out.1 Lb.out.1 La.out.2.1 La.out.2.2.1 Lb.out.2.1 Lb.out.2.2.1 La.out.2.2.2 Lb.out.2.2.2).mono ?_
  rintro e w3 ⟨Am, nm, cm, rfl, r3, h1m, h2m, b3⟩
  have HB3 : Hid (Below w.heap.size w w3) := HB2.out.trans (b3.mono HB2.out.size)
  have La' := Lib.hid (La.out.below b3 rfl)
  clear La
  have La := La'
  clear La'
  have Lb' := Lib.hid (Lb.out.below b3 rfl)
  clear Lb
  have Lb := Lb'
  clear Lb'
  have Lu' := Lib.hid (Lu.out.below b3 rfl)
  clear Lu
  have Lu := Lu'
  clear Lu'
  have Lm := Lib.hid (LS.norm r3 h1m h2m)
  clear r3 h1m h2m
  clear b3
  go_wp2_with fail
  refine (PP.out.minus _ _ _ _ _ _ _ _ w3 La.out.1 Lb.out.1 La.out.2.1 La.out.2.2.1 Lb.out.2.1 Lb.out.2.2.1 La.out.2.2.2 Lb.out.2.2.2).mono ?_
  rintro e w4 ⟨Ad, nd, cd, rfl, r4, h1d, h2d, b4⟩
  have HB4 : Hid (Below w.heap.size w w4) := HB3.out.trans (b4.mono HB3.out.size)
  have La' := Lib.hid (La.out.below b4 rfl)
  clear La
  have La := La'
  clear La'
  have Lb' := Lib.hid (Lb.out.below b4 rfl)
  clear Lb
  have Lb := Lb'
  clear Lb'
  have Lu' := Lib.hid (Lu.out.below b4 rfl)
  clear Lu
  have Lu := Lu'
  clear Lu'
  have Lm' := Lib.hid (Lm.out.below b4 rfl)
  clear Lm
  have Lm := Lm'
  clear Lm'
  have Ld := Lib.hid (LS.norm r4 h1d h2d)
  clear r4 h1d h2d
  clear b4
  go_wp2_with fail
  refine (PP.out.nrm _ _ _ _ w4 La.out.1 La.out.2.1 La.out.2.2.1 La.out.2.2.2).mono ?_
  rintro e w5 ⟨Ax, nx, cx, rfl, r5, h1x, h2x, b5⟩
  have HB5 : Hid (Below w.heap.size w w5) := HB4.out.trans (b5.mono HB4.out.size)
  have La' := Lib.hid (La.out.below b5 rfl)
  clear La
  have La := La'
  clear La'
  have Lb' := Lib.hid (Lb.out.below b5 rfl)
  clear Lb
  have Lb := Lb'
  clear Lb'
  have Lu' := Lib.hid (Lu.out.below b5 rfl)
  clear Lu
  have Lu := Lu'
  clear Lu'
  have Lm' := Lib.hid (Lm.out.below b5 rfl)
  clear Lm
  have Lm := Lm'
  clear Lm'
  have Ld' := Lib.hid (Ld.out.below b5 rfl)
  clear Ld
  have Ld := Ld'
  clear Ld'
  have Lx := Lib.hid (LS.norm r5 h1x h2x)
  clear r5 h1x h2x
  clear b5
  go_wp2_with fail
  have hq := row4_new Lu.out Lm.out Ld.out Lx.out
  have hb := Below.new1 w5 (.cells #[.slice Au nu cu, .slice Am nm cm, .slice Ad nd cd, .slice Ax nx cx] 22)
  have La' := La.out.below hb rfl
  clear La
  have Lb' := Lb.out.below hb rfl
  clear Lb
  have Lu' := Lu.out.below hb rfl
  clear Lu
  have Lm' := Lm.out.below hb rfl
  clear Lm
  have Ld' := Ld.out.below hb rfl
  clear Ld
  have HB6' := HB5.out.trans (hb.mono HB5.out.size)
  obtain ⟨q, hqq⟩ : ∃ q, q = w5.heap.size := ⟨_, rfl⟩
  obtain ⟨w6, hw6⟩ : ∃ x, x = w5.alloc (.cells #[.slice Au nu cu, .slice Am nm cm, .slice Ad nd cd, .slice Ax nx cx] 22) := ⟨_, rfl⟩
  rw [← hqq, ← hw6] at hq
  rw [← hw6] at La' Lb' Lu' Lm' Ld' HB6'
  rw [← hqq, ← hw6]
  have HB6 := Lib.hid HB6'
  have HQ := Lib.hid hq
  have La := Lib.hid La'
  have Lb := Lib.hid Lb'
  have Lu := Lib.hid Lu'
  have Lm := Lib.hid Lm'
  have Ld := Lib.hid Ld'
  clear hq hb La' Lb' Lu' Lm' Ld' HB6' hqq hw6 Lx HB5
  go_loopw [44] (fun v wr => ∃ j : Nat, v = .int .i64 j ∧ j ≤ 4 ∧ Hid (Below w6.heap.size w6 wr)) (fun v _ => 4 - (intOf v).toNat)
  case atStart => exact ⟨0, rfl, by omega, Below.refl _ _⟩
  case round =>
    obtain ⟨j, rfl, hj, HB⟩ := hrel
    rename World => v1
    by_cases hend : j = 4
    · have hj4 : ¬ (j : Int) < 4 := by omega
      have hBA := HB.out
      have La' := La.out.below hBA rfl
      clear La
      have Lb' := Lb.out.below hBA rfl
      clear Lb
      have Lu' := Lu.out.below hBA rfl
      clear Lu
      have Lm' := Lm.out.below hBA rfl
      clear Lm
      have Ld' := Ld.out.below hBA rfl
      clear Ld
      have HB1 : Hid (Below w.heap.size w v1) := HB6.out.trans (hBA.mono HB6.out.size)
      clear hBA
      have hb := Below.new1 v1 (.cells #[.int .i64 D, .int .i64 (bits .and .i64 D 511), .int .i64 0, .int .i64 1023] 3)
      have hq := days4_new v1 D (bits .and .i64 D 511) 0 1023 HD.out (bits_i64 _ _) (by unfold I64; omega) (by unfold I64; omega)
      have La := Lib.hid (La'.below hb rfl)
      clear La'
      have Lb := Lib.hid (Lb'.below hb rfl)
      clear Lb'
      have Lu := Lib.hid (Lu'.below hb rfl)
      clear Lu'
      have Lm := Lib.hid (Lm'.below hb rfl)
      clear Lm'
      have Ld := Lib.hid (Ld'.below hb rfl)
      clear Ld'
      have HB2' : Below w.heap.size w (v1.alloc (.cells #[.int .i64 D, .int .i64 (bits .and .i64 D 511), .int .i64 0, .int .i64 1023] 3)) := HB1.out.trans (hb.mono HB1.out.size)
      have HB2 := Lib.hid HB2'
      have HQ2 := Lib.hid hq
      clear hb hq HB2' HB1 HB HQ HB6
      go_wp2_with fail
      obtain ⟨q3, hq3⟩ : ∃ q, v1.heap.size = q := ⟨_, rfl⟩
      obtain ⟨v3, hv3⟩ : ∃ x, v1.alloc (.cells #[.int .i64 D, .int .i64 (bits .and .i64 D 511), .int .i64 0, .int .i64 1023] 3) = x := ⟨_, rfl⟩
      rw [hq3, hv3] at HQ2
      rw [hv3] at HB2 La Lb Lu Lm Ld
      rw [hq3, hv3]
      clear hq3 hv3
      go_loopw [95] (fun v wr => ∃ i : Nat, v = .int .i64 i ∧ i ≤ 4 ∧ Hid (Below v3.heap.size v3 wr)) (fun v _ => 4 - (intOf v).toNat)
      case atStart => exact ⟨0, rfl, by omega, Below.refl _ _⟩
      case round =>
        obtain ⟨i, rfl, hi, HBi⟩ := hrel
        rename World => v4
        by_cases hie : i = 4
        · have hi4 : ¬ (i : Int) < 4 := by omega
          go_wp2_with fail
          go_ret
          exact ⟨rfl, HB2.out.trans (HBi.out.mono HB2.out.size)⟩
        have hi4 : i < 4 := by omega
        have hi4' : (i : Int) < 4 := by omega
        have i00 : (0 : Int) ≤ (i : Int) := by omega
        obtain ⟨x, hc, hx⟩ := (HQ2.out.below HBi.out).2 i hi4
        have HX := Lib.hid hx
        have HC := Lib.hid hc
        have HBx := Lib.hid (Below.refl v4.heap.size v4)
        have La' := Lib.hid (La.out.below HBi.out rfl)
        clear La
        have Lb' := Lib.hid (Lb.out.below HBi.out rfl)
        clear Lb
        have Lu' := Lib.hid (Lu.out.below HBi.out rfl)
        clear Lu
        have Lm' := Lib.hid (Lm.out.below HBi.out rfl)
        clear Lm
        have Ld' := Lib.hid (Ld.out.below HBi.out rfl)
        clear Ld
        have La := La'
        clear La'
        have Lb := Lb'
        clear Lb'
        have Lu := Lu'
        clear Lu'
        have Lm := Lm'
        clear Lm'
        have Ld := Ld'
        clear Ld'
        clear hx hie
        cases ha : hasM la x <;> cases hb : hasM lb x
        · have HU : Hid (hasM (normal fun k => uOp (dayIn la k) (dayIn lb k)) x = false) := has_op uOp (fun p q => by cases p <;> cases q <;> rfl) rfl ha hb
          have HM : Hid (hasM (normal fun k => mOp (dayIn la k) (dayIn lb k)) x = false) := has_op mOp (fun p q => by cases p <;> cases q <;> rfl) rfl ha hb
          have HDD : Hid (hasM (normal fun k => dOp (dayIn la k) (dayIn lb k)) x = false) := has_op dOp (fun p q => by cases p <;> cases q <;> rfl) rfl ha hb
          have HN : Hid (hasM (normal (dayIn la)) x = false) := has_op (fun p _ => p) (fun p q => by cases p <;> rfl) rfl ha hb
          have HA := Lib.hid ha
          have HBB := Lib.hid hb
          clear ha hb
          go_wp2_with fail
          refine (pHas PP.out La.out x HX.out false HA.out).mono ?_
          rintro e v5 ⟨rfl, b5⟩
          have HY5 : Hid (Below v4.heap.size v4 v5) := HBx.out.trans (b5.mono HBx.out.size)
          clear HBx HA
          have La' := Lib.hid (La.out.below b5 rfl)
          clear La
          have La := La'
          clear La'
          have Lb' := Lib.hid (Lb.out.below b5 rfl)
          clear Lb
          have Lb := Lb'
          clear Lb'
          have Lu' := Lib.hid (Lu.out.below b5 rfl)
          clear Lu
          have Lu := Lu'
          clear Lu'
          have Lm' := Lib.hid (Lm.out.below b5 rfl)
          clear Lm
          have Lm := Lm'
          clear Lm'
          have Ld' := Lib.hid (Ld.out.below b5 rfl)
          clear Ld
          have Ld := Ld'
          clear Ld'
          clear b5
          go_wp2_with fail
          refine (pHas PP.out Lb.out x HX.out false HBB.out).mono ?_
          rintro e v6 ⟨rfl, b6⟩
          have HY6 : Hid (Below v4.heap.size v4 v6) := HY5.out.trans (b6.mono HY5.out.size)
          clear HY5 HBB
          clear Lb
          have La' := Lib.hid (La.out.below b6 rfl)
          clear La
          have La := La'
          clear La'
          have Lu' := Lib.hid (Lu.out.below b6 rfl)
          clear Lu
          have Lu := Lu'
          clear Lu'
          have Lm' := Lib.hid (Lm.out.below b6 rfl)
          clear Lm
          have Lm := Lm'
          clear Lm'
          have Ld' := Lib.hid (Ld.out.below b6 rfl)
          clear Ld
          have Ld := Ld'
          clear Ld'
          clear b6
          go_wp2_with fail
          refine (pHas PP.out Lu.out x HX.out false HU.out).mono ?_
          rintro e v7 ⟨rfl, b7⟩
          have HY7 : Hid (Below v4.heap.size v4 v7) := HY6.out.trans (b7.mono HY6.out.size)
          clear HY6 HU
          clear Lu
          have La' := Lib.hid (La.out.below b7 rfl)
          clear La
          have La := La'
          clear La'
          have Lm' := Lib.hid (Lm.out.below b7 rfl)
          clear Lm
          have Lm := Lm'
          clear Lm'
          have Ld' := Lib.hid (Ld.out.below b7 rfl)
          clear Ld
          have Ld := Ld'
          clear Ld'
          clear b7
          go_wp2_with fail
          refine (pHas PP.out Lm.out x HX.out false HM.out).mono ?_
          rintro e v8 ⟨rfl, b8⟩
          have HY8 : Hid (Below v4.heap.size v4 v8) := HY7.out.trans (b8.mono HY7.out.size)
          clear HY7 HM
          clear Lm
          have La' := Lib.hid (La.out.below b8 rfl)
          clear La
          have La := La'
          clear La'
          have Ld' := Lib.hid (Ld.out.below b8 rfl)
          clear Ld
          have Ld := Ld'
          clear Ld'
          clear b8
          go_wp2_with fail
          refine (pHas PP.out Ld.out x HX.out false HDD.out).mono ?_
          rintro e v9 ⟨rfl, b9⟩
          have HY9 : Hid (Below v4.heap.size v4 v9) := HY8.out.trans (b9.mono HY8.out.size)
          clear HY8 HDD
          clear Ld
          have La' := Lib.hid (La.out.below b9 rfl)
          clear La
          have La := La'
          clear La'
          clear b9
          go_wp2_with fail
          refine (PP.out.nrm _ _ _ _ v9 La.out.1 La.out.2.1 La.out.2.2.1 La.out.2.2.2).mono ?_
          rintro e v10 ⟨Az, nz, cz, rfl, r10, h1z, h2z, b10⟩
          have HY10 : Hid (Below v4.heap.size v4 v10) := HY9.out.trans (b10.mono HY9.out.size)
          have Lz := Lib.hid (LS.norm r10 h1z h2z)
          clear r10 h1z h2z b10 HY9 La
          go_wp2_with fail
          refine (pHas PP.out Lz.out x HX.out false HN.out).mono ?_
          rintro e v11 ⟨rfl, b11⟩
          have HY11 : Hid (Below v4.heap.size v4 v11) := HY10.out.trans (b11.mono HY10.out.size)
          clear b11 HY10 HN Lz
          go_wp2_with fail
          go_roundw
          case rel => exact ⟨i + 1, by go_num, by omega, HBi.out.trans (HY11.out.mono HBi.out.size)⟩
          case measure => simp [intOf]; omega
        · have HU : Hid (hasM (normal fun k => uOp (dayIn la k) (dayIn lb k)) x = true) := has_op uOp (fun p q => by cases p <;> cases q <;> rfl) rfl ha hb
          have HM : Hid (hasM (normal fun k => mOp (dayIn la k) (dayIn lb k)) x = false) := has_op mOp (fun p q => by cases p <;> cases q <;> rfl) rfl ha hb
          have HDD : Hid (hasM (normal fun k => dOp (dayIn la k) (dayIn lb k)) x = false) := has_op dOp (fun p q => by cases p <;> cases q <;> rfl) rfl ha hb
          have HN : Hid (hasM (normal (dayIn la)) x = false) := has_op (fun p _ => p) (fun p q => by cases p <;> rfl) rfl ha hb
          have HA := Lib.hid ha
          have HBB := Lib.hid hb
          clear ha hb
          go_wp2_with fail
          refine (pHas PP.out La.out x HX.out false HA.out).mono ?_
          rintro e v5 ⟨rfl, b5⟩
          have HY5 : Hid (Below v4.heap.size v4 v5) := HBx.out.trans (b5.mono HBx.out.size)
          clear HBx HA
          have La' := Lib.hid (La.out.below b5 rfl)
          clear La
          have La := La'
          clear La'
          have Lb' := Lib.hid (Lb.out.below b5 rfl)
          clear Lb
          have Lb := Lb'
          clear Lb'
          have Lu' := Lib.hid (Lu.out.below b5 rfl)
          clear Lu
          have Lu := Lu'
          clear Lu'
          have Lm' := Lib.hid (Lm.out.below b5 rfl)
          clear Lm
          have Lm := Lm'
          clear Lm'
          have Ld' := Lib.hid (Ld.out.below b5 rfl)
          clear Ld
          have Ld := Ld'
          clear Ld'
          clear b5
          go_wp2_with fail
          refine (pHas PP.out Lb.out x HX.out true HBB.out).mono ?_
          rintro e v6 ⟨rfl, b6⟩
          have HY6 : Hid (Below v4.heap.size v4 v6) := HY5.out.trans (b6.mono HY5.out.size)
          clear HY5 HBB
          clear Lb
          have La' := Lib.hid (La.out.below b6 rfl)
          clear La
          have La := La'
          clear La'
          have Lu' := Lib.hid (Lu.out.below b6 rfl)
          clear Lu
          have Lu := Lu'
          clear Lu'
          have Lm' := Lib.hid (Lm.out.below b6 rfl)
          clear Lm
          have Lm := Lm'
          clear Lm'
          have Ld' := Lib.hid (Ld.out.below b6 rfl)
          clear Ld
          have Ld := Ld'
          clear Ld'
          clear b6
          go_wp2_with fail
          refine (pHas PP.out Lu.out x HX.out true HU.out).mono ?_
          rintro e v7 ⟨rfl, b7⟩
          have HY7 : Hid (Below v4.heap.size v4 v7) := HY6.out.trans (b7.mono HY6.out.size)
          clear HY6 HU
          clear Lu
          have La' := Lib.hid (La.out.below b7 rfl)
          clear La
          have La := La'
          clear La'
          have Lm' := Lib.hid (Lm.out.below b7 rfl)
          clear Lm
          have Lm := Lm'
          clear Lm'
          have Ld' := Lib.hid (Ld.out.below b7 rfl)
          clear Ld
          have Ld := Ld'
          clear Ld'
          clear b7
          go_wp2_with fail
          refine (pHas PP.out Lm.out x HX.out false HM.out).mono ?_
          rintro e v8 ⟨rfl, b8⟩
          have HY8 : Hid (Below v4.heap.size v4 v8) := HY7.out.trans (b8.mono HY7.out.size)
          clear HY7 HM
          clear Lm
          have La' := Lib.hid (La.out.below b8 rfl)
          clear La
          have La := La'
          clear La'
          have Ld' := Lib.hid (Ld.out.below b8 rfl)
          clear Ld
          have Ld := Ld'
          clear Ld'
          clear b8
          go_wp2_with fail
          refine (pHas PP.out Ld.out x HX.out false HDD.out).mono ?_
          rintro e v9 ⟨rfl, b9⟩
          have HY9 : Hid (Below v4.heap.size v4 v9) := HY8.out.trans (b9.mono HY8.out.size)
          clear HY8 HDD
          clear Ld
          have La' := Lib.hid (La.out.below b9 rfl)
          clear La
          have La := La'
          clear La'
          clear b9
          go_wp2_with fail
          refine (PP.out.nrm _ _ _ _ v9 La.out.1 La.out.2.1 La.out.2.2.1 La.out.2.2.2).mono ?_
          rintro e v10 ⟨Az, nz, cz, rfl, r10, h1z, h2z, b10⟩
          have HY10 : Hid (Below v4.heap.size v4 v10) := HY9.out.trans (b10.mono HY9.out.size)
          have Lz := Lib.hid (LS.norm r10 h1z h2z)
          clear r10 h1z h2z b10 HY9 La
          go_wp2_with fail
          refine (pHas PP.out Lz.out x HX.out false HN.out).mono ?_
          rintro e v11 ⟨rfl, b11⟩
          have HY11 : Hid (Below v4.heap.size v4 v11) := HY10.out.trans (b11.mono HY10.out.size)
          clear b11 HY10 HN Lz
          go_wp2_with fail
          go_roundw
          case rel => exact ⟨i + 1, by go_num, by omega, HBi.out.trans (HY11.out.mono HBi.out.size)⟩
          case measure => simp [intOf]; omega
        · have HU : Hid (hasM (normal fun k => uOp (dayIn la k) (dayIn lb k)) x = true) := has_op uOp (fun p q => by cases p <;> cases q <;> rfl) rfl ha hb
          have HM : Hid (hasM (normal fun k => mOp (dayIn la k) (dayIn lb k)) x = false) := has_op mOp (fun p q => by cases p <;> cases q <;> rfl) rfl ha hb
          have HDD : Hid (hasM (normal fun k => dOp (dayIn la k) (dayIn lb k)) x = true) := has_op dOp (fun p q => by cases p <;> cases q <;> rfl) rfl ha hb
          have HN : Hid (hasM (normal (dayIn la)) x = true) := has_op (fun p _ => p) (fun p q => by cases p <;> rfl) rfl ha hb
          have HA := Lib.hid ha
          have HBB := Lib.hid hb
          clear ha hb
          go_wp2_with fail
          refine (pHas PP.out La.out x HX.out true HA.out).mono ?_
          rintro e v5 ⟨rfl, b5⟩
          have HY5 : Hid (Below v4.heap.size v4 v5) := HBx.out.trans (b5.mono HBx.out.size)
          clear HBx HA
          have La' := Lib.hid (La.out.below b5 rfl)
          clear La
          have La := La'
          clear La'
          have Lb' := Lib.hid (Lb.out.below b5 rfl)
          clear Lb
          have Lb := Lb'
          clear Lb'
          have Lu' := Lib.hid (Lu.out.below b5 rfl)
          clear Lu
          have Lu := Lu'
          clear Lu'
          have Lm' := Lib.hid (Lm.out.below b5 rfl)
          clear Lm
          have Lm := Lm'
          clear Lm'
          have Ld' := Lib.hid (Ld.out.below b5 rfl)
          clear Ld
          have Ld := Ld'
          clear Ld'
          clear b5
          go_wp2_with fail
          refine (pHas PP.out Lb.out x HX.out false HBB.out).mono ?_
          rintro e v6 ⟨rfl, b6⟩
          have HY6 : Hid (Below v4.heap.size v4 v6) := HY5.out.trans (b6.mono HY5.out.size)
          clear HY5 HBB
          clear Lb
          have La' := Lib.hid (La.out.below b6 rfl)
          clear La
          have La := La'
          clear La'
          have Lu' := Lib.hid (Lu.out.below b6 rfl)
          clear Lu
          have Lu := Lu'
          clear Lu'
          have Lm' := Lib.hid (Lm.out.below b6 rfl)
          clear Lm
          have Lm := Lm'
          clear Lm'
          have Ld' := Lib.hid (Ld.out.below b6 rfl)
          clear Ld
          have Ld := Ld'
          clear Ld'
          clear b6
          go_wp2_with fail
          refine (pHas PP.out Lu.out x HX.out true HU.out).mono ?_
          rintro e v7 ⟨rfl, b7⟩
          have HY7 : Hid (Below v4.heap.size v4 v7) := HY6.out.trans (b7.mono HY6.out.size)
          clear HY6 HU
          clear Lu
          have La' := Lib.hid (La.out.below b7 rfl)
          clear La
          have La := La'
          clear La'
          have Lm' := Lib.hid (Lm.out.below b7 rfl)
          clear Lm
          have Lm := Lm'
          clear Lm'
          have Ld' := Lib.hid (Ld.out.below b7 rfl)
          clear Ld
          have Ld := Ld'
          clear Ld'
          clear b7
          go_wp2_with fail
          refine (pHas PP.out Lm.out x HX.out false HM.out).mono ?_
          rintro e v8 ⟨rfl, b8⟩
          have HY8 : Hid (Below v4.heap.size v4 v8) := HY7.out.trans (b8.mono HY7.out.size)
          clear HY7 HM
          clear Lm
          have La' := Lib.hid (La.out.below b8 rfl)
          clear La
          have La := La'
          clear La'
          have Ld' := Lib.hid (Ld.out.below b8 rfl)
          clear Ld
          have Ld := Ld'
          clear Ld'
          clear b8
          go_wp2_with fail
          refine (pHas PP.out Ld.out x HX.out true HDD.out).mono ?_
          rintro e v9 ⟨rfl, b9⟩
          have HY9 : Hid (Below v4.heap.size v4 v9) := HY8.out.trans (b9.mono HY8.out.size)
          clear HY8 HDD
          clear Ld
          have La' := Lib.hid (La.out.below b9 rfl)
          clear La
          have La := La'
          clear La'
          clear b9
          go_wp2_with fail
          refine (PP.out.nrm _ _ _ _ v9 La.out.1 La.out.2.1 La.out.2.2.1 La.out.2.2.2).mono ?_
          rintro e v10 ⟨Az, nz, cz, rfl, r10, h1z, h2z, b10⟩
          have HY10 : Hid (Below v4.heap.size v4 v10) := HY9.out.trans (b10.mono HY9.out.size)
          have Lz := Lib.hid (LS.norm r10 h1z h2z)
          clear r10 h1z h2z b10 HY9 La
          go_wp2_with fail
          refine (pHas PP.out Lz.out x HX.out true HN.out).mono ?_
          rintro e v11 ⟨rfl, b11⟩
          have HY11 : Hid (Below v4.heap.size v4 v11) := HY10.out.trans (b11.mono HY10.out.size)
          clear b11 HY10 HN Lz
          go_wp2_with fail
          go_roundw
          case rel => exact ⟨i + 1, by go_num, by omega, HBi.out.trans (HY11.out.mono HBi.out.size)⟩
          case measure => simp [intOf]; omega
        · have HU : Hid (hasM (normal fun k => uOp (dayIn la k) (dayIn lb k)) x = true) := has_op uOp (fun p q => by cases p <;> cases q <;> rfl) rfl ha hb
          have HM : Hid (hasM (normal fun k => mOp (dayIn la k) (dayIn lb k)) x = true) := has_op mOp (fun p q => by cases p <;> cases q <;> rfl) rfl ha hb
          have HDD : Hid (hasM (normal fun k => dOp (dayIn la k) (dayIn lb k)) x = false) := has_op dOp (fun p q => by cases p <;> cases q <;> rfl) rfl ha hb
          have HN : Hid (hasM (normal (dayIn la)) x = true) := has_op (fun p _ => p) (fun p q => by cases p <;> rfl) rfl ha hb
          have HA := Lib.hid ha
          have HBB := Lib.hid hb
          clear ha hb
          go_wp2_with fail
          refine (pHas PP.out La.out x HX.out true HA.out).mono ?_
          rintro e v5 ⟨rfl, b5⟩
          have HY5 : Hid (Below v4.heap.size v4 v5) := HBx.out.trans (b5.mono HBx.out.size)
          clear HBx HA
          have La' := Lib.hid (La.out.below b5 rfl)
          clear La
          have La := La'
          clear La'
          have Lb' := Lib.hid (Lb.out.below b5 rfl)
          clear Lb
          have Lb := Lb'
          clear Lb'
          have Lu' := Lib.hid (Lu.out.below b5 rfl)
          clear Lu
          have Lu := Lu'
          clear Lu'
          have Lm' := Lib.hid (Lm.out.below b5 rfl)
          clear Lm
          have Lm := Lm'
          clear Lm'
          have Ld' := Lib.hid (Ld.out.below b5 rfl)
          clear Ld
          have Ld := Ld'
          clear Ld'
          clear b5
          go_wp2_with fail
          refine (pHas PP.out Lb.out x HX.out true HBB.out).mono ?_
          rintro e v6 ⟨rfl, b6⟩
          have HY6 : Hid (Below v4.heap.size v4 v6) := HY5.out.trans (b6.mono HY5.out.size)
          clear HY5 HBB
          clear Lb
          have La' := Lib.hid (La.out.below b6 rfl)
          clear La
          have La := La'
          clear La'
          have Lu' := Lib.hid (Lu.out.below b6 rfl)
          clear Lu
          have Lu := Lu'
          clear Lu'
          have Lm' := Lib.hid (Lm.out.below b6 rfl)
          clear Lm
          have Lm := Lm'
          clear Lm'
          have Ld' := Lib.hid (Ld.out.below b6 rfl)
          clear Ld
          have Ld := Ld'
          clear Ld'
          clear b6
          go_wp2_with fail
          refine (pHas PP.out Lu.out x HX.out true HU.out).mono ?_
          rintro e v7 ⟨rfl, b7⟩
          have HY7 : Hid (Below v4.heap.size v4 v7) := HY6.out.trans (b7.mono HY6.out.size)
          clear HY6 HU
          clear Lu
          have La' := Lib.hid (La.out.below b7 rfl)
          clear La
          have La := La'
          clear La'
          have Lm' := Lib.hid (Lm.out.below b7 rfl)
          clear Lm
          have Lm := Lm'
          clear Lm'
          have Ld' := Lib.hid (Ld.out.below b7 rfl)
          clear Ld
          have Ld := Ld'
          clear Ld'
          clear b7
          go_wp2_with fail
          refine (pHas PP.out Lm.out x HX.out true HM.out).mono ?_
          rintro e v8 ⟨rfl, b8⟩
          have HY8 : Hid (Below v4.heap.size v4 v8) := HY7.out.trans (b8.mono HY7.out.size)
          clear HY7 HM
          clear Lm
          have La' := Lib.hid (La.out.below b8 rfl)
          clear La
          have La := La'
          clear La'
          have Ld' := Lib.hid (Ld.out.below b8 rfl)
          clear Ld
          have Ld := Ld'
          clear Ld'
          clear b8
          go_wp2_with fail
          refine (pHas PP.out Ld.out x HX.out false HDD.out).mono ?_
          rintro e v9 ⟨rfl, b9⟩
          have HY9 : Hid (Below v4.heap.size v4 v9) := HY8.out.trans (b9.mono HY8.out.size)
          clear HY8 HDD
          clear Ld
          have La' := Lib.hid (La.out.below b9 rfl)
          clear La
          have La := La'
          clear La'
          clear b9
          go_wp2_with fail
          refine (PP.out.nrm _ _ _ _ v9 La.out.1 La.out.2.1 La.out.2.2.1 La.out.2.2.2).mono ?_
          rintro e v10 ⟨Az, nz, cz, rfl, r10, h1z, h2z, b10⟩
          have HY10 : Hid (Below v4.heap.size v4 v10) := HY9.out.trans (b10.mono HY9.out.size)
          have Lz := Lib.hid (LS.norm r10 h1z h2z)
          clear r10 h1z h2z b10 HY9 La
          go_wp2_with fail
          refine (pHas PP.out Lz.out x HX.out true HN.out).mono ?_
          rintro e v11 ⟨rfl, b11⟩
          have HY11 : Hid (Below v4.heap.size v4 v11) := HY10.out.trans (b11.mono HY10.out.size)
          clear b11 HY10 HN Lz
          go_wp2_with fail
          go_roundw
          case rel => exact ⟨i + 1, by go_num, by omega, HBi.out.trans (HY11.out.mono HBi.out.size)⟩
          case measure => simp [intOf]; omega
    have hj4 : j < 4 := by omega
    have hj4' : (j : Int) < 4 := by omega
    have i0 : (0 : Int) ≤ (j : Int) := by omega
    obtain ⟨A, n, c, f, hc, hL⟩ := (HQ.out.below HB.out).2 j hj4
    have HL := Lib.hid hL
    clear hL hend
    have z1 := HB.out.size
    go_wp2_with fail
    clear hc
    go_loopw [50] (fun v wr => ∃ k : Nat, v = .int .i64 k ∧ k ≤ n ∧ Hid (Below v1.heap.size v1 wr)) (fun v _ => n - (intOf v).toNat)
    case atStart => exact ⟨0, rfl, by omega, Below.refl _ _⟩
    case round =>
      obtain ⟨k, rfl, hk, HBk⟩ := hrel
      rename World => v2
      have z2 := HBk.out.size
      by_cases hend : k = n
      · have hkn : ¬ (k : Int) < (n : Int) := by omega
        have HL2 := HL.out.below HBk.out rfl
        go_wp2_with fail
        refine (pCheck PP.out HL2 0 (norm_check f)).mono ?_
        rintro e v3 ⟨rfl, b3⟩
        clear HL2
        go_wp2_with fail
        go_roundw
        case rel => exact ⟨j + 1, by go_num, by omega, HB.out.trans ((HBk.out.trans (b3.mono HBk.out.size)).mono HB.out.size)⟩
        case measure => simp [intOf]; omega
      have hkn : k < n := by omega
      have hkn' : (k : Int) < (n : Int) := by omega
      have k0 : (0 : Int) ≤ (k : Int) := by omega
      have hn46 := HL.out.2.2.2
      have HR2 := HL.out.1.below HBk.out HBk.out.size
      obtain ⟨b1, o1, F, T, rfl, hbz, hs1, hF, hT, hc1, hc2⟩ := HR2.one k hkn
      have hok := NormFrom.each (norm_isNorm f) _ (List.mem_of_getElem? hs1)
      dsimp only at hok
      have f1 : ¬ F < 0 := by omega
      have f2 : ¬ F ≥ T := by omega
      have f3 : ¬ T > 1024 := by omega
      unfold I64 at hF hT
      by_cases hk0 : k = 0
      · subst hk0
        simp only [Nat.zero_mul, Nat.add_zero] at hc1 hc2
        have hz2 : v2.heap.size < (v2.alloc (.cells #[.int .i64 F, .int .i64 T] 31)).heap.size := by simp
        have HBX : Hid (Below v1.heap.size v1 (v2.alloc (.cells #[.int .i64 F, .int .i64 T] 31)).drew) := (HBk.out.trans ((Below.new1 v2 _).mono z2)).drew
        have hn0 := heap_alloc_new v2 (.cells #[.int .i64 F, .int .i64 T] 31)
        have HSX := Lib.hid (show (v2.alloc (.cells #[.int .i64 F, .int .i64 T] 31)).drew.cell? ⟨v2.heap.size, 0, none⟩ = some (.int .i64 F) ∧ (v2.alloc (.cells #[.int .i64 F, .int .i64 T] 31)).drew.cell? ⟨v2.heap.size, 1, none⟩ = some (.int .i64 T) from ⟨(cell_of_row _ _ 0 _ _ _ hn0).trans rfl, (cell_of_row _ _ 1 _ _ _ hn0).trans rfl⟩)
        clear hs1 hok HR2 hend hn46 hz2 hn0
        go_wp2_with fail
        clear hc1 hc2
        have f1' : ¬ F < 0 := by omega
        have f2' : ¬ T ≤ F := by omega
        have f3' : ¬ 1024 < T := by omega
        refine wp_region_held_drew (S := fun u => u.cell? ⟨v2.heap.size, 0, none⟩ = some (.int .i64 F) ∧ u.cell? ⟨v2.heap.size, 1, none⟩ = some (.int .i64 T)) (by kernel_rfl) HSX.out (fun hHeld => ?_)
        generalize (v2.alloc (.cells #[.int .i64 F, .int .i64 T] 31)).drew = X0 at hHeld HBX ⊢
        refine wpAnyH_take (i := 0) (oi := ⟨some 55, _, _, _, _, _⟩) (v := ?_) rfl (by kernel_rfl) (by kernel_rfl) (by kernel_rfl) (fun _ _ _ h => h) (Or.inl ⟨by rfl, ?_⟩) (by assumption) ?_
        rotate_left
        · (intro w hSw; (try dsimp only at hSw); go_simp) <;> with_reducible rfl
        try simp only [Act.put, List.setIfInBounds_toArray, List.set_cons_zero, List.set_cons_succ]
        refine wpAnyH_take (i := 1) (oi := ⟨some 56, _, _, _, _, _⟩) (v := ?_) rfl (by kernel_rfl) (by kernel_rfl) (by kernel_rfl) (fun _ _ _ h => h) (Or.inl ⟨by rfl, ?_⟩) (by assumption) ?_
        rotate_left
        · (intro w hSw; (try dsimp only at hSw); go_simp) <;> with_reducible rfl
        try simp only [Act.put, List.setIfInBounds_toArray, List.set_cons_zero, List.set_cons_succ]
        refine wpAnyH_take (i := 2) (oi := ⟨some 57, _, _, _, _, _⟩) (v := ?_) rfl (by kernel_rfl) (by kernel_rfl) (by kernel_rfl) (fun _ _ _ h => h) (Or.inl ⟨by rfl, ?_⟩) (by assumption) ?_
        rotate_left
        · (intro w hSw; (try dsimp only at hSw); go_simp) <;> with_reducible rfl
        try simp only [Act.put, List.setIfInBounds_toArray, List.set_cons_zero, List.set_cons_succ]
        refine wpAnyH_take (i := 3) (oi := ⟨some 58, _, _, _, _, _⟩) (v := ?_) rfl (by kernel_rfl) (by kernel_rfl) (by kernel_rfl) (fun _ _ _ h => h) (Or.inl ⟨by rfl, ?_⟩) (by assumption) ?_
        rotate_left
        · (intro w hSw; (try dsimp only at hSw); go_simp) <;> with_reducible rfl
        try simp only [Act.put, List.setIfInBounds_toArray, List.set_cons_zero, List.set_cons_succ]
        refine wpAnyH_take (i := 4) (oi := ⟨some 59, _, _, _, _, _⟩) (v := ?_) rfl (by kernel_rfl) (by kernel_rfl) (by kernel_rfl) (fun _ _ _ h => h) (Or.inl ⟨by rfl, ?_⟩) (by assumption) ?_
        rotate_left
        · (intro w hSw; (try dsimp only at hSw); go_simp) <;> with_reducible rfl
        try simp only [Act.put, List.setIfInBounds_toArray, List.set_cons_zero, List.set_cons_succ]
        refine wpAnyH_take (i := 5) (oi := ⟨some 60, _, _, _, _, _⟩) (v := ?_) rfl (by kernel_rfl) (by kernel_rfl) (by kernel_rfl) (fun _ _ _ h => h) (Or.inl ⟨by rfl, ?_⟩) (by assumption) ?_
        rotate_left
        · (intro w hSw; (try dsimp only at hSw); go_simp) <;> with_reducible rfl
        try simp only [Act.put, List.setIfInBounds_toArray, List.set_cons_zero, List.set_cons_succ]
        refine wpAnyH_take (i := 6) (oi := ⟨some 61, _, _, _, _, _⟩) (v := ?_) rfl (by kernel_rfl) (by kernel_rfl) (by kernel_rfl) (fun _ _ _ h => h) (Or.inl ⟨by rfl, ?_⟩) (by assumption) ?_
        rotate_left
        · (intro w hSw; (try dsimp only at hSw); go_simp) <;> with_reducible rfl
        try simp only [Act.put, List.setIfInBounds_toArray, List.set_cons_zero, List.set_cons_succ]
        refine wpAnyH_take (i := 7) (oi := ⟨some 62, _, _, _, _, _⟩) (v := ?_) rfl (by kernel_rfl) (by kernel_rfl) (by kernel_rfl) (fun _ _ _ h => h) (Or.inl ⟨by rfl, ?_⟩) (by assumption) ?_
        rotate_left
        · (intro w hSw; (try dsimp only at hSw); go_simp) <;> with_reducible rfl
        try simp only [Act.put, List.setIfInBounds_toArray, List.set_cons_zero, List.set_cons_succ]
        refine wpAnyH_take (i := 8) (oi := ⟨some 63, _, _, _, _, _⟩) (v := ?_) rfl (by kernel_rfl) (by kernel_rfl) (by kernel_rfl) (fun _ _ _ h => h) (Or.inl ⟨by rfl, ?_⟩) (by assumption) ?_
        rotate_left
        · (intro w hSw; (try dsimp only at hSw); go_simp) <;> with_reducible rfl
        try simp only [Act.put, List.setIfInBounds_toArray, List.set_cons_zero, List.set_cons_succ]
        refine wpAnyH_take (i := 9) (oi := ⟨some 64, _, _, _, _, _⟩) (v := ?_) rfl (by kernel_rfl) (by kernel_rfl) (by kernel_rfl) (fun _ _ _ h => h) (Or.inl ⟨by rfl, ?_⟩) (by assumption) ?_
        rotate_left
        · (intro w hSw; (try dsimp only at hSw); go_simp) <;> with_reducible rfl
        try simp only [Act.put, List.setIfInBounds_toArray, List.set_cons_zero, List.set_cons_succ]
        refine wpAnyH_take (i := 10) (oi := ⟨some 65, _, _, _, _, _⟩) (v := ?_) rfl (by kernel_rfl) (by kernel_rfl) (by kernel_rfl) (fun _ _ _ h => h) (Or.inl ⟨by rfl, ?_⟩) (by assumption) ?_
        rotate_left
        · (intro w hSw; (try dsimp only at hSw); go_simp) <;> with_reducible rfl
        try simp only [Act.put, List.setIfInBounds_toArray, List.set_cons_zero, List.set_cons_succ]
        refine wpAnyH_take (i := 11) (oi := ⟨some 66, _, _, _, _, _⟩) (v := ?_) rfl (by kernel_rfl) (by kernel_rfl) (by kernel_rfl) (fun _ _ _ h => h) (Or.inl ⟨by rfl, ?_⟩) (by assumption) ?_
        rotate_left
        · (intro w hSw; (try dsimp only at hSw); go_simp) <;> with_reducible rfl
        try simp only [Act.put, List.setIfInBounds_toArray, List.set_cons_zero, List.set_cons_succ]
        refine wpAnyH_take (i := 12) (oi := ⟨some 67, _, _, _, _, _⟩) (v := ?_) rfl (by kernel_rfl) (by kernel_rfl) (by kernel_rfl) (fun _ _ _ h => h) (Or.inl ⟨by rfl, ?_⟩) (by assumption) ?_
        rotate_left
        · (intro w hSw; (try dsimp only at hSw); go_simp) <;> with_reducible rfl
        try simp only [Act.put, List.setIfInBounds_toArray, List.set_cons_zero, List.set_cons_succ]
        refine wpAnyH_take (i := 13) (oi := ⟨some 68, _, _, _, _, _⟩) (v := ?_) rfl (by kernel_rfl) (by kernel_rfl) (by kernel_rfl) (fun _ _ _ h => h) (Or.inl ⟨by rfl, ?_⟩) (by assumption) ?_
        rotate_left
        · (intro w hSw; (try dsimp only at hSw); go_simp) <;> with_reducible rfl
        try simp only [Act.put, List.setIfInBounds_toArray, List.set_cons_zero, List.set_cons_succ]
        refine wpAnyH_take (i := 14) (oi := ⟨some 69, _, _, _, _, _⟩) (v := ?_) rfl (by kernel_rfl) (by kernel_rfl) (by kernel_rfl) (fun _ _ _ h => h) (Or.inl ⟨by rfl, ?_⟩) (by assumption) ?_
        rotate_left
        · (intro w hSw; (try dsimp only at hSw); go_simp) <;> with_reducible rfl
        try simp only [Act.put, List.setIfInBounds_toArray, List.set_cons_zero, List.set_cons_succ]
        refine wpAnyH_take (i := 15) (oi := ⟨some 70, _, _, _, _, _⟩) (v := ?_) rfl (by kernel_rfl) (by kernel_rfl) (by kernel_rfl) (fun _ _ _ h => h) (Or.inl ⟨by rfl, ?_⟩) (by assumption) ?_
        rotate_left
        · (intro w hSw; (try dsimp only at hSw); go_simp) <;> with_reducible rfl
        try simp only [Act.put, List.setIfInBounds_toArray, List.set_cons_zero, List.set_cons_succ]
        refine wpAnyH_take (i := 16) (oi := ⟨some 71, _, _, _, _, _⟩) (v := ?_) rfl (by kernel_rfl) (by kernel_rfl) (by kernel_rfl) (fun _ _ _ h => h) (Or.inl ⟨by rfl, ?_⟩) (by assumption) ?_
        rotate_left
        · (intro w hSw; (try dsimp only at hSw); go_simp) <;> with_reducible rfl
        try simp only [Act.put, List.setIfInBounds_toArray, List.set_cons_zero, List.set_cons_succ]
        refine wpAnyH_take (i := 17) (oi := ⟨some 72, _, _, _, _, _⟩) (v := ?_) rfl (by kernel_rfl) (by kernel_rfl) (by kernel_rfl) (fun _ _ _ h => h) (Or.inl ⟨by rfl, ?_⟩) (by assumption) ?_
        rotate_left
        · (intro w hSw; (try dsimp only at hSw); go_simp) <;> with_reducible rfl
        try simp only [Act.put, List.setIfInBounds_toArray, List.set_cons_zero, List.set_cons_succ]
        refine wpAnyH_take (i := 18) (oi := ⟨some 73, _, _, _, _, _⟩) (v := ?_) rfl (by kernel_rfl) (by kernel_rfl) (by kernel_rfl) (fun _ _ _ h => h) (Or.inl ⟨by rfl, ?_⟩) (by assumption) ?_
        rotate_left
        · (intro w hSw; (try dsimp only at hSw); go_simp) <;> with_reducible rfl
        try simp only [Act.put, List.setIfInBounds_toArray, List.set_cons_zero, List.set_cons_succ]
        refine wpAnyH_take (i := 19) (oi := ⟨some 74, _, _, _, _, _⟩) (v := undef) rfl (by kernel_rfl) (by kernel_rfl) (by kernel_rfl) (fun _ _ _ h => h) (Or.inr ⟨by rfl, rfl⟩) (by assumption) ?_
        try simp only [Act.put, List.setIfInBounds_toArray, List.set_cons_zero, List.set_cons_succ]
        refine wpAnyH_take (i := 20) (oi := ⟨some 75, _, _, _, _, _⟩) (v := undef) rfl (by kernel_rfl) (by kernel_rfl) (by kernel_rfl) (fun _ _ _ h => h) (Or.inr ⟨by rfl, rfl⟩) (by assumption) ?_
        try simp only [Act.put, List.setIfInBounds_toArray, List.set_cons_zero, List.set_cons_succ]
        refine wpAnyH_take (i := 21) (oi := ⟨some 76, _, _, _, _, _⟩) (v := undef) rfl (by kernel_rfl) (by kernel_rfl) (by kernel_rfl) (fun _ _ _ h => h) (Or.inr ⟨by rfl, rfl⟩) (by assumption) ?_
        try simp only [Act.put, List.setIfInBounds_toArray, List.set_cons_zero, List.set_cons_succ]
        refine wpAnyH_take (i := 22) (oi := ⟨some 77, _, _, _, _, _⟩) (v := undef) rfl (by kernel_rfl) (by kernel_rfl) (by kernel_rfl) (fun _ _ _ h => h) (Or.inr ⟨by rfl, rfl⟩) (by assumption) ?_
        try simp only [Act.put, List.setIfInBounds_toArray, List.set_cons_zero, List.set_cons_succ]
        refine wpAnyH_take (i := 23) (oi := ⟨some 78, _, _, _, _, _⟩) (v := undef) rfl (by kernel_rfl) (by kernel_rfl) (by kernel_rfl) (fun _ _ _ h => h) (Or.inr ⟨by rfl, rfl⟩) (by assumption) ?_
        try simp only [Act.put, List.setIfInBounds_toArray, List.set_cons_zero, List.set_cons_succ]
        refine wpAnyH_take (i := 24) (oi := ⟨some 79, _, _, _, _, _⟩) (v := undef) rfl (by kernel_rfl) (by kernel_rfl) (by kernel_rfl) (fun _ _ _ h => h) (Or.inr ⟨by rfl, rfl⟩) (by assumption) ?_
        try simp only [Act.put, List.setIfInBounds_toArray, List.set_cons_zero, List.set_cons_succ]
        refine wpAnyH_take (i := 25) (oi := ⟨some 80, _, _, _, _, _⟩) (v := undef) rfl (by kernel_rfl) (by kernel_rfl) (by kernel_rfl) (fun _ _ _ h => h) (Or.inr ⟨by rfl, rfl⟩) (by assumption) ?_
        try simp only [Act.put, List.setIfInBounds_toArray, List.set_cons_zero, List.set_cons_succ]
        refine wpAnyH_take (i := 26) (oi := ⟨some 81, _, _, _, _, _⟩) (v := undef) rfl (by kernel_rfl) (by kernel_rfl) (by kernel_rfl) (fun _ _ _ h => h) (Or.inr ⟨by rfl, rfl⟩) (by assumption) ?_
        try simp only [Act.put, List.setIfInBounds_toArray, List.set_cons_zero, List.set_cons_succ]
        refine wpAnyH_take (i := 27) (oi := ⟨some 82, _, _, _, _, _⟩) (v := undef) rfl (by kernel_rfl) (by kernel_rfl) (by kernel_rfl) (fun _ _ _ h => h) (Or.inr ⟨by rfl, rfl⟩) (by assumption) ?_
        try simp only [Act.put, List.setIfInBounds_toArray, List.set_cons_zero, List.set_cons_succ]
        refine wpAnyH_take (i := 28) (oi := ⟨some 83, _, _, _, _, _⟩) (v := ?_) rfl (by kernel_rfl) (by kernel_rfl) (by kernel_rfl) (fun _ _ _ h => h) (Or.inl ⟨by rfl, ?_⟩) (by assumption) ?_
        rotate_left
        · (intro w hSw; (try dsimp only at hSw); go_simp) <;> with_reducible rfl
        try simp only [Act.put, List.setIfInBounds_toArray, List.set_cons_zero, List.set_cons_succ]
        refine wpAnyH_take (i := 29) (oi := ⟨some 84, _, _, _, _, _⟩) (v := ?_) rfl (by kernel_rfl) (by kernel_rfl) (by kernel_rfl) (fun _ _ _ h => h) (Or.inl ⟨by rfl, ?_⟩) (by assumption) ?_
        rotate_left
        · (intro w hSw; (try dsimp only at hSw); go_simp) <;> with_reducible rfl
        try simp only [Act.put, List.setIfInBounds_toArray, List.set_cons_zero, List.set_cons_succ]
        refine wpAnyH_done (by kernel_rfl) ?_ _
        clear hHeld
        go_wp2_with fail
        go_roundw
        case rel => exact ⟨0 + 1, by go_num, by omega, HBX⟩
        case measure => simp [intOf]; omega
      · obtain ⟨p, hp⟩ : ∃ p, k = p + 1 := ⟨k - 1, by omega⟩
        obtain ⟨b2, o2, F2, T2, e2, _, hs2, hF2, hT2, hd1, hd2⟩ := HR2.one p (by omega)
        cases e2
        have hnx := NormFrom.next (norm_isNorm f) hs2 (by rw [← hp]; exact hs1)
        have f4 : ¬ T2 ≥ F := by dsimp only at hnx; omega
        have g0 : 0 < k := by omega
        have hz2 : v2.heap.size < (v2.alloc (.cells #[.int .i64 F, .int .i64 T] 31)).heap.size := by simp
        have HBX : Hid (Below v1.heap.size v1 (v2.alloc (.cells #[.int .i64 F, .int .i64 T] 31)).drew) := (HBk.out.trans ((Below.new1 v2 _).mono z2)).drew
        have hn0 := heap_alloc_new v2 (.cells #[.int .i64 F, .int .i64 T] 31)
        have hd3 : (v2.alloc (.cells #[.int .i64 F, .int .i64 T] 31)).drew.cell? ⟨b1, o1 + p * 2 + 1, none⟩ = some (.int .i64 T2) := ((Below.new1 v2 (.cells #[.int .i64 F, .int .i64 T] 31)).cell (by exact hbz)).trans hd2
        have HSX := Lib.hid (show (v2.alloc (.cells #[.int .i64 F, .int .i64 T] 31)).drew.cell? ⟨v2.heap.size, 0, none⟩ = some (.int .i64 F) ∧ (v2.alloc (.cells #[.int .i64 F, .int .i64 T] 31)).drew.cell? ⟨v2.heap.size, 1, none⟩ = some (.int .i64 T) ∧ (v2.alloc (.cells #[.int .i64 F, .int .i64 T] 31)).drew.cell? ⟨b1, o1 + p * 2 + 1, none⟩ = some (.int .i64 T2) from ⟨(cell_of_row _ _ 0 _ _ _ hn0).trans rfl, (cell_of_row _ _ 1 _ _ _ hn0).trans rfl, hd3⟩)
        have g5 : (1 : Int) ≤ (k : Int) := by omega
        have g1 : IntKind.i64.wrap ((k : Int) - 1) = (k : Int) - 1 := IntWalk.i64_in _ (by omega)
        have g2 : (0 : Int) ≤ (k : Int) - 1 := by omega
        have g3 : (k : Int) - 1 < (n : Int) := by omega
        have g4 : ((k : Int) - 1).toNat = p := by omega
        unfold I64 at hF2 hT2
        clear hs1 hs2 hnx hok HR2 hend hk0 hp hd3 hd1 hd2 hz2 hn0
        go_wp2_with fail
        clear hc1 hc2
        have f1' : ¬ F < 0 := by omega
        have f2' : ¬ T ≤ F := by omega
        have f3' : ¬ 1024 < T := by omega
        have f4' : ¬ F ≤ T2 := by omega
        refine wp_region_held_drew (S := fun u => u.cell? ⟨v2.heap.size, 0, none⟩ = some (.int .i64 F) ∧ u.cell? ⟨v2.heap.size, 1, none⟩ = some (.int .i64 T) ∧ u.cell? ⟨b1, o1 + p * 2 + 1, none⟩ = some (.int .i64 T2)) (by kernel_rfl) HSX.out (fun hHeld => ?_)
        generalize (v2.alloc (.cells #[.int .i64 F, .int .i64 T] 31)).drew = X0 at hHeld HBX ⊢
        refine wpAnyH_take (i := 0) (oi := ⟨some 55, _, _, _, _, _⟩) (v := ?_) rfl (by kernel_rfl) (by kernel_rfl) (by kernel_rfl) (fun _ _ _ h => h) (Or.inl ⟨by rfl, ?_⟩) (by assumption) ?_
        rotate_left
        · (intro w hSw; (try dsimp only at hSw); go_simp) <;> with_reducible rfl
        try simp only [Act.put, List.setIfInBounds_toArray, List.set_cons_zero, List.set_cons_succ]
        refine wpAnyH_take (i := 1) (oi := ⟨some 56, _, _, _, _, _⟩) (v := ?_) rfl (by kernel_rfl) (by kernel_rfl) (by kernel_rfl) (fun _ _ _ h => h) (Or.inl ⟨by rfl, ?_⟩) (by assumption) ?_
        rotate_left
        · (intro w hSw; (try dsimp only at hSw); go_simp) <;> with_reducible rfl
        try simp only [Act.put, List.setIfInBounds_toArray, List.set_cons_zero, List.set_cons_succ]
        refine wpAnyH_take (i := 2) (oi := ⟨some 57, _, _, _, _, _⟩) (v := ?_) rfl (by kernel_rfl) (by kernel_rfl) (by kernel_rfl) (fun _ _ _ h => h) (Or.inl ⟨by rfl, ?_⟩) (by assumption) ?_
        rotate_left
        · (intro w hSw; (try dsimp only at hSw); go_simp) <;> with_reducible rfl
        try simp only [Act.put, List.setIfInBounds_toArray, List.set_cons_zero, List.set_cons_succ]
        refine wpAnyH_take (i := 3) (oi := ⟨some 58, _, _, _, _, _⟩) (v := ?_) rfl (by kernel_rfl) (by kernel_rfl) (by kernel_rfl) (fun _ _ _ h => h) (Or.inl ⟨by rfl, ?_⟩) (by assumption) ?_
        rotate_left
        · (intro w hSw; (try dsimp only at hSw); go_simp) <;> with_reducible rfl
        try simp only [Act.put, List.setIfInBounds_toArray, List.set_cons_zero, List.set_cons_succ]
        refine wpAnyH_take (i := 4) (oi := ⟨some 59, _, _, _, _, _⟩) (v := ?_) rfl (by kernel_rfl) (by kernel_rfl) (by kernel_rfl) (fun _ _ _ h => h) (Or.inl ⟨by rfl, ?_⟩) (by assumption) ?_
        rotate_left
        · (intro w hSw; (try dsimp only at hSw); go_simp) <;> with_reducible rfl
        try simp only [Act.put, List.setIfInBounds_toArray, List.set_cons_zero, List.set_cons_succ]
        refine wpAnyH_take (i := 5) (oi := ⟨some 60, _, _, _, _, _⟩) (v := ?_) rfl (by kernel_rfl) (by kernel_rfl) (by kernel_rfl) (fun _ _ _ h => h) (Or.inl ⟨by rfl, ?_⟩) (by assumption) ?_
        rotate_left
        · (intro w hSw; (try dsimp only at hSw); go_simp) <;> with_reducible rfl
        try simp only [Act.put, List.setIfInBounds_toArray, List.set_cons_zero, List.set_cons_succ]
        refine wpAnyH_take (i := 6) (oi := ⟨some 61, _, _, _, _, _⟩) (v := ?_) rfl (by kernel_rfl) (by kernel_rfl) (by kernel_rfl) (fun _ _ _ h => h) (Or.inl ⟨by rfl, ?_⟩) (by assumption) ?_
        rotate_left
        · (intro w hSw; (try dsimp only at hSw); go_simp) <;> with_reducible rfl
        try simp only [Act.put, List.setIfInBounds_toArray, List.set_cons_zero, List.set_cons_succ]
        refine wpAnyH_take (i := 7) (oi := ⟨some 62, _, _, _, _, _⟩) (v := ?_) rfl (by kernel_rfl) (by kernel_rfl) (by kernel_rfl) (fun _ _ _ h => h) (Or.inl ⟨by rfl, ?_⟩) (by assumption) ?_
        rotate_left
        · (intro w hSw; (try dsimp only at hSw); go_simp) <;> with_reducible rfl
        try simp only [Act.put, List.setIfInBounds_toArray, List.set_cons_zero, List.set_cons_succ]
        refine wpAnyH_take (i := 8) (oi := ⟨some 63, _, _, _, _, _⟩) (v := ?_) rfl (by kernel_rfl) (by kernel_rfl) (by kernel_rfl) (fun _ _ _ h => h) (Or.inl ⟨by rfl, ?_⟩) (by assumption) ?_
        rotate_left
        · (intro w hSw; (try dsimp only at hSw); go_simp) <;> with_reducible rfl
        try simp only [Act.put, List.setIfInBounds_toArray, List.set_cons_zero, List.set_cons_succ]
        refine wpAnyH_take (i := 9) (oi := ⟨some 64, _, _, _, _, _⟩) (v := ?_) rfl (by kernel_rfl) (by kernel_rfl) (by kernel_rfl) (fun _ _ _ h => h) (Or.inl ⟨by rfl, ?_⟩) (by assumption) ?_
        rotate_left
        · (intro w hSw; (try dsimp only at hSw); go_simp) <;> with_reducible rfl
        try simp only [Act.put, List.setIfInBounds_toArray, List.set_cons_zero, List.set_cons_succ]
        refine wpAnyH_take (i := 10) (oi := ⟨some 65, _, _, _, _, _⟩) (v := ?_) rfl (by kernel_rfl) (by kernel_rfl) (by kernel_rfl) (fun _ _ _ h => h) (Or.inl ⟨by rfl, ?_⟩) (by assumption) ?_
        rotate_left
        · (intro w hSw; (try dsimp only at hSw); go_simp) <;> with_reducible rfl
        try simp only [Act.put, List.setIfInBounds_toArray, List.set_cons_zero, List.set_cons_succ]
        refine wpAnyH_take (i := 11) (oi := ⟨some 66, _, _, _, _, _⟩) (v := ?_) rfl (by kernel_rfl) (by kernel_rfl) (by kernel_rfl) (fun _ _ _ h => h) (Or.inl ⟨by rfl, ?_⟩) (by assumption) ?_
        rotate_left
        · (intro w hSw; (try dsimp only at hSw); go_simp) <;> with_reducible rfl
        try simp only [Act.put, List.setIfInBounds_toArray, List.set_cons_zero, List.set_cons_succ]
        refine wpAnyH_take (i := 12) (oi := ⟨some 67, _, _, _, _, _⟩) (v := ?_) rfl (by kernel_rfl) (by kernel_rfl) (by kernel_rfl) (fun _ _ _ h => h) (Or.inl ⟨by rfl, ?_⟩) (by assumption) ?_
        rotate_left
        · (intro w hSw; (try dsimp only at hSw); go_simp) <;> with_reducible rfl
        try simp only [Act.put, List.setIfInBounds_toArray, List.set_cons_zero, List.set_cons_succ]
        refine wpAnyH_take (i := 13) (oi := ⟨some 68, _, _, _, _, _⟩) (v := ?_) rfl (by kernel_rfl) (by kernel_rfl) (by kernel_rfl) (fun _ _ _ h => h) (Or.inl ⟨by rfl, ?_⟩) (by assumption) ?_
        rotate_left
        · (intro w hSw; (try dsimp only at hSw); go_simp) <;> with_reducible rfl
        try simp only [Act.put, List.setIfInBounds_toArray, List.set_cons_zero, List.set_cons_succ]
        refine wpAnyH_take (i := 14) (oi := ⟨some 69, _, _, _, _, _⟩) (v := ?_) rfl (by kernel_rfl) (by kernel_rfl) (by kernel_rfl) (fun _ _ _ h => h) (Or.inl ⟨by rfl, ?_⟩) (by assumption) ?_
        rotate_left
        · (intro w hSw; (try dsimp only at hSw); go_simp) <;> with_reducible rfl
        try simp only [Act.put, List.setIfInBounds_toArray, List.set_cons_zero, List.set_cons_succ]
        refine wpAnyH_take (i := 15) (oi := ⟨some 70, _, _, _, _, _⟩) (v := ?_) rfl (by kernel_rfl) (by kernel_rfl) (by kernel_rfl) (fun _ _ _ h => h) (Or.inl ⟨by rfl, ?_⟩) (by assumption) ?_
        rotate_left
        · (intro w hSw; (try dsimp only at hSw); go_simp) <;> with_reducible rfl
        try simp only [Act.put, List.setIfInBounds_toArray, List.set_cons_zero, List.set_cons_succ]
        refine wpAnyH_take (i := 16) (oi := ⟨some 71, _, _, _, _, _⟩) (v := ?_) rfl (by kernel_rfl) (by kernel_rfl) (by kernel_rfl) (fun _ _ _ h => h) (Or.inl ⟨by rfl, ?_⟩) (by assumption) ?_
        rotate_left
        · (intro w hSw; (try dsimp only at hSw); go_simp) <;> with_reducible rfl
        try simp only [Act.put, List.setIfInBounds_toArray, List.set_cons_zero, List.set_cons_succ]
        refine wpAnyH_take (i := 17) (oi := ⟨some 72, _, _, _, _, _⟩) (v := ?_) rfl (by kernel_rfl) (by kernel_rfl) (by kernel_rfl) (fun _ _ _ h => h) (Or.inl ⟨by rfl, ?_⟩) (by assumption) ?_
        rotate_left
        · (intro w hSw; (try dsimp only at hSw); go_simp) <;> with_reducible rfl
        try simp only [Act.put, List.setIfInBounds_toArray, List.set_cons_zero, List.set_cons_succ]
        refine wpAnyH_take (i := 18) (oi := ⟨some 73, _, _, _, _, _⟩) (v := ?_) rfl (by kernel_rfl) (by kernel_rfl) (by kernel_rfl) (fun _ _ _ h => h) (Or.inl ⟨by rfl, ?_⟩) (by assumption) ?_
        rotate_left
        · (intro w hSw; (try dsimp only at hSw); go_simp) <;> with_reducible rfl
        try simp only [Act.put, List.setIfInBounds_toArray, List.set_cons_zero, List.set_cons_succ]
        refine wpAnyH_take (i := 19) (oi := ⟨some 74, _, _, _, _, _⟩) (v := ?_) rfl (by kernel_rfl) (by kernel_rfl) (by kernel_rfl) (fun _ _ _ h => h) (Or.inl ⟨by rfl, ?_⟩) (by assumption) ?_
        rotate_left
        · (intro w hSw; (try dsimp only at hSw); go_simp) <;> with_reducible rfl
        try simp only [Act.put, List.setIfInBounds_toArray, List.set_cons_zero, List.set_cons_succ]
        refine wpAnyH_take (i := 20) (oi := ⟨some 75, _, _, _, _, _⟩) (v := ?_) rfl (by kernel_rfl) (by kernel_rfl) (by kernel_rfl) (fun _ _ _ h => h) (Or.inl ⟨by rfl, ?_⟩) (by assumption) ?_
        rotate_left
        · (intro w hSw; (try dsimp only at hSw); go_simp) <;> with_reducible rfl
        try simp only [Act.put, List.setIfInBounds_toArray, List.set_cons_zero, List.set_cons_succ]
        refine wpAnyH_take (i := 21) (oi := ⟨some 76, _, _, _, _, _⟩) (v := ?_) rfl (by kernel_rfl) (by kernel_rfl) (by kernel_rfl) (fun _ _ _ h => h) (Or.inl ⟨by rfl, ?_⟩) (by assumption) ?_
        rotate_left
        · (intro w hSw; (try dsimp only at hSw); go_simp) <;> with_reducible rfl
        try simp only [Act.put, List.setIfInBounds_toArray, List.set_cons_zero, List.set_cons_succ]
        refine wpAnyH_take (i := 22) (oi := ⟨some 77, _, _, _, _, _⟩) (v := ?_) rfl (by kernel_rfl) (by kernel_rfl) (by kernel_rfl) (fun _ _ _ h => h) (Or.inl ⟨by rfl, ?_⟩) (by assumption) ?_
        rotate_left
        · (intro w hSw; (try dsimp only at hSw); go_simp) <;> with_reducible rfl
        try simp only [Act.put, List.setIfInBounds_toArray, List.set_cons_zero, List.set_cons_succ]
        refine wpAnyH_take (i := 23) (oi := ⟨some 78, _, _, _, _, _⟩) (v := ?_) rfl (by kernel_rfl) (by kernel_rfl) (by kernel_rfl) (fun _ _ _ h => h) (Or.inl ⟨by rfl, ?_⟩) (by assumption) ?_
        rotate_left
        · (intro w hSw; (try dsimp only at hSw); go_simp) <;> with_reducible rfl
        try simp only [Act.put, List.setIfInBounds_toArray, List.set_cons_zero, List.set_cons_succ]
        refine wpAnyH_take (i := 24) (oi := ⟨some 79, _, _, _, _, _⟩) (v := ?_) rfl (by kernel_rfl) (by kernel_rfl) (by kernel_rfl) (fun _ _ _ h => h) (Or.inl ⟨by rfl, ?_⟩) (by assumption) ?_
        rotate_left
        · (intro w hSw; (try dsimp only at hSw); go_simp) <;> with_reducible rfl
        try simp only [Act.put, List.setIfInBounds_toArray, List.set_cons_zero, List.set_cons_succ]
        refine wpAnyH_take (i := 25) (oi := ⟨some 80, _, _, _, _, _⟩) (v := ?_) rfl (by kernel_rfl) (by kernel_rfl) (by kernel_rfl) (fun _ _ _ h => h) (Or.inl ⟨by rfl, ?_⟩) (by assumption) ?_
        rotate_left
        · (intro w hSw; (try dsimp only at hSw); go_simp) <;> with_reducible rfl
        try simp only [Act.put, List.setIfInBounds_toArray, List.set_cons_zero, List.set_cons_succ]
        refine wpAnyH_take (i := 26) (oi := ⟨some 81, _, _, _, _, _⟩) (v := ?_) rfl (by kernel_rfl) (by kernel_rfl) (by kernel_rfl) (fun _ _ _ h => h) (Or.inl ⟨by rfl, ?_⟩) (by assumption) ?_
        rotate_left
        · (intro w hSw; (try dsimp only at hSw); go_simp) <;> with_reducible rfl
        try simp only [Act.put, List.setIfInBounds_toArray, List.set_cons_zero, List.set_cons_succ]
        refine wpAnyH_take (i := 27) (oi := ⟨some 82, _, _, _, _, _⟩) (v := ?_) rfl (by kernel_rfl) (by kernel_rfl) (by kernel_rfl) (fun _ _ _ h => h) (Or.inl ⟨by rfl, ?_⟩) (by assumption) ?_
        rotate_left
        · (intro w hSw; (try dsimp only at hSw); go_simp) <;> with_reducible rfl
        try simp only [Act.put, List.setIfInBounds_toArray, List.set_cons_zero, List.set_cons_succ]
        refine wpAnyH_take (i := 28) (oi := ⟨some 83, _, _, _, _, _⟩) (v := ?_) rfl (by kernel_rfl) (by kernel_rfl) (by kernel_rfl) (fun _ _ _ h => h) (Or.inl ⟨by rfl, ?_⟩) (by assumption) ?_
        rotate_left
        · (intro w hSw; (try dsimp only at hSw); go_simp) <;> with_reducible rfl
        try simp only [Act.put, List.setIfInBounds_toArray, List.set_cons_zero, List.set_cons_succ]
        refine wpAnyH_take (i := 29) (oi := ⟨some 84, _, _, _, _, _⟩) (v := ?_) rfl (by kernel_rfl) (by kernel_rfl) (by kernel_rfl) (fun _ _ _ h => h) (Or.inl ⟨by rfl, ?_⟩) (by assumption) ?_
        rotate_left
        · (intro w hSw; (try dsimp only at hSw); go_simp) <;> with_reducible rfl
        try simp only [Act.put, List.setIfInBounds_toArray, List.set_cons_zero, List.set_cons_succ]
        refine wpAnyH_done (by kernel_rfl) ?_ _
        clear hHeld
        go_wp2_with fail
        go_roundw
        case rel => exact ⟨k + 1, by go_num, by omega, HBX⟩
        case measure => simp [intOf]; omega
end Go.Proofs.Ytnbffkeinkgojaa
