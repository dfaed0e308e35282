/- What the program's functions are to satisfy, and the laws' sane under it. -/
import Derived.Test.YtnbffkeinkgojaaListS
namespace Go.Proofs.Ytnbffkeinkgojaa
open Go.RowKit

/-- the contracts of the program's functions -/
structure ProgOk : Prop where
  check : ∀ (A : Option Addr) (n c : Nat) (l : List Sp) (w : World), RdS w w.heap.size A n l → n ≤ c → c ≤ maxLen → n ≤ 4096 → Calls Try.prog 12 #[.slice A n c] w fun e w' => e = .returned (.int .i64 (checkM l)) ∧ Below w.heap.size w w'
  nrm : ∀ (A : Option Addr) (n c : Nat) (l : List Sp) (w : World), RdS w w.heap.size A n l → n ≤ c → c ≤ maxLen → n ≤ 4096 → Calls Try.prog 15 #[.slice A n c] w fun e w' => SpansIs w w' (normal (dayIn l)) e
  union : ∀ (A B : Option Addr) (n m c c' : Nat) (l l' : List Sp) (w : World), RdS w w.heap.size A n l → RdS w w.heap.size B m l' → n ≤ c → c ≤ maxLen → m ≤ c' → c' ≤ maxLen → n ≤ 4096 → m ≤ 4096 → Calls Try.prog 17 #[.slice A n c, .slice B m c'] w fun e w' => SpansIs w w' (normal fun k => uOp (dayIn l k) (dayIn l' k)) e
  meet : ∀ (A B : Option Addr) (n m c c' : Nat) (l l' : List Sp) (w : World), RdS w w.heap.size A n l → RdS w w.heap.size B m l' → n ≤ c → c ≤ maxLen → m ≤ c' → c' ≤ maxLen → n ≤ 4096 → m ≤ 4096 → Calls Try.prog 19 #[.slice A n c, .slice B m c'] w fun e w' => SpansIs w w' (normal fun k => mOp (dayIn l k) (dayIn l' k)) e
  minus : ∀ (A B : Option Addr) (n m c c' : Nat) (l l' : List Sp) (w : World), RdS w w.heap.size A n l → RdS w w.heap.size B m l' → n ≤ c → c ≤ maxLen → m ≤ c' → c' ≤ maxLen → n ≤ 4096 → m ≤ 4096 → Calls Try.prog 21 #[.slice A n c, .slice B m c'] w fun e w' => SpansIs w w' (normal fun k => dOp (dayIn l k) (dayIn l' k)) e
  has : ∀ (A : Option Addr) (n c : Nat) (l : List Sp) (d : Int) (w : World), RdS w w.heap.size A n l → n ≤ c → c ≤ maxLen → n ≤ 4096 → I64 d → Calls Try.prog 23 #[.slice A n c, .int .i64 d] w fun e w' => e = .returned (.bool (hasM l d)) ∧ Below w.heap.size w w'
  covers : ∀ (A : Option Addr) (n c : Nat) (l : List Sp) (F T : Int) (w : World), RdS w w.heap.size A n l → n ≤ c → c ≤ maxLen → n ≤ 4096 → I64 F → I64 T → Calls Try.prog 25 #[.slice A n c, .agg #[.int .i64 F, .int .i64 T]] w fun e w' => e = .returned (.bool (covM l F T)) ∧ Below w.heap.size w w'

theorem normal_eq {f : Nat → Bool} {l' : List Sp} (h : IsNorm l') (hd : ∀ m, m < 1024 → f m = dayIn l' m) : normal f = l' := by
  rw [norm_congr hd, norm_of_isNorm h]
theorem day1 (a b : Int) (m : Nat) : dayIn [(a, b)] m = (decide (a ≤ (m : Int)) && decide ((m : Int) < b)) := by simp [dayIn_cons, dayIn_nil]
theorem day2 (a b c d : Int) (m : Nat) : dayIn [(a, b), (c, d)] m = ((decide (a ≤ (m : Int)) && decide ((m : Int) < b)) || (decide (c ≤ (m : Int)) && decide ((m : Int) < d))) := by simp [dayIn_cons, dayIn_nil]
theorem list2 (a b : Int) (u : World) (ha : I64 a) (hb : I64 b) : Calls Try.prog 27 #[.slice (some ⟨u.heap.size, 0, none⟩) 2 2] (u.alloc (.cells #[.int .i64 a, .int .i64 b] 3)) fun e w' => SpansIs u w' [(a, b)] e := by
  have h := heap_alloc_new u (.cells #[.int .i64 a, .int .i64 b] 3)
  refine (list_any u.heap.size 2 2 [a, b] _ ⟨rfl, by simp, fun j x hx => ?_⟩ (by omega) (by omega) (by simp [pairs]; exact ⟨ha, hb⟩)).mono fun e w' hq => ?_
  · rw [cell_of_row _ _ j _ _ _ h]
    match j, hx with
    | 0, hx => simpa using hx
    | 1, hx => simpa using hx
  · obtain ⟨A, m, cap, h1, h2, h3, h4, h5⟩ := hq
    exact ⟨A, m, cap, h1, h2, h3, h4, (Below.new1 u _).trans (h5.mono (by simp))⟩
theorem list4 (a b c d : Int) (u : World) (ha : I64 a) (hb : I64 b) (hc : I64 c) (hd : I64 d) : Calls Try.prog 27 #[.slice (some ⟨u.heap.size, 0, none⟩) 4 4] (u.alloc (.cells #[.int .i64 a, .int .i64 b, .int .i64 c, .int .i64 d] 3)) fun e w' => SpansIs u w' [(a, b), (c, d)] e := by
  have h := heap_alloc_new u (.cells #[.int .i64 a, .int .i64 b, .int .i64 c, .int .i64 d] 3)
  refine (list_any u.heap.size 4 4 [a, b, c, d] _ ⟨rfl, by simp, fun j x hx => ?_⟩ (by omega) (by omega) (by simp [pairs]; exact ⟨⟨ha, hb⟩, hc, hd⟩)).mono fun e w' hq => ?_
  · rw [cell_of_row _ _ j _ _ _ h]
    match j, hx with
    | 0, hx => simpa using hx
    | 1, hx => simpa using hx
    | 2, hx => simpa using hx
    | 3, hx => simpa using hx
  · obtain ⟨A, m, cap, h1, h2, h3, h4, h5⟩ := hq
    exact ⟨A, m, cap, h1, h2, h3, h4, (Below.new1 u _).trans (h5.mono (by simp))⟩

/-- a slice of the list l in this world, short -/
def LS (w : World) (A : Option Addr) (n c : Nat) (l : List Sp) : Prop := RdS w w.heap.size A n l ∧ n ≤ c ∧ c ≤ maxLen ∧ n ≤ 4096
theorem LS.below {w w' : World} {B n c : Nat} {A : Option Addr} {l : List Sp} (h : LS w A n c l) (hb : Below B w w') (hB : B = w.heap.size) : LS w' A n c l := by
  subst hB; exact ⟨h.1.below hb hb.size, h.2⟩
theorem LS.len {w : World} {n c : Nat} {A : Option Addr} {l : List Sp} (h : LS w A n c l) : n = l.length := h.1.1
def NewL (u u' : World) (l : List Sp) (e : Ending) : Prop := ∃ (A : Option Addr) (n c : Nat), e = .returned (.slice A n c) ∧ LS u' A n c l ∧ Below u.heap.size u u'
theorem NewL.of {u u' : World} {l l' : List Sp} {e : Ending} (h : SpansIs u u' l e) (hl : l = l') (hs : l'.length ≤ 4096) : NewL u u' l' e := by
  subst hl
  obtain ⟨A, m, cap, h1, h2, h3, h4, h5⟩ := h
  exact ⟨A, m, cap, h1, ⟨h2, h3, h4, by rw [h2.1]; exact hs⟩, h5⟩
theorem new2 (a b : Int) (u : World) (ha : I64 a) (hb : I64 b) : Calls Try.prog 27 #[.slice (some ⟨u.heap.size, 0, none⟩) 2 2] (u.alloc (.cells #[.int .i64 a, .int .i64 b] 3)) fun e w' => NewL u w' [(a, b)] e :=
  (list2 a b u ha hb).mono fun _ _ h => .of h rfl (by simp)
theorem new4 (a b c d : Int) (u : World) (ha : I64 a) (hb : I64 b) (hc : I64 c) (hd : I64 d) : Calls Try.prog 27 #[.slice (some ⟨u.heap.size, 0, none⟩) 4 4] (u.alloc (.cells #[.int .i64 a, .int .i64 b, .int .i64 c, .int .i64 d] 3)) fun e w' => NewL u w' [(a, b), (c, d)] e :=
  (list4 a b c d u ha hb hc hd).mono fun _ _ h => .of h rfl (by simp)
theorem pNrm (P : ProgOk) {A : Option Addr} {n c : Nat} {l : List Sp} {w : World} (h : LS w A n c l) (l' : List Sp) (hn : IsNorm l') (hd : ∀ m, m < 1024 → dayIn l m = dayIn l' m) (hs : l'.length ≤ 4096) : Calls Try.prog 15 #[.slice A n c] w fun e w' => NewL w w' l' e :=
  (P.nrm A n c l w h.1 h.2.1 h.2.2.1 h.2.2.2).mono fun _ _ hq => .of hq (normal_eq hn hd) hs
theorem pUnion (P : ProgOk) {A B : Option Addr} {n c m c' : Nat} {l k : List Sp} {w : World} (h : LS w A n c l) (h' : LS w B m c' k) (l' : List Sp) (hn : IsNorm l') (hd : ∀ m, m < 1024 → uOp (dayIn l m) (dayIn k m) = dayIn l' m) (hs : l'.length ≤ 4096) : Calls Try.prog 17 #[.slice A n c, .slice B m c'] w fun e w' => NewL w w' l' e :=
  (P.union A B n m c c' l k w h.1 h'.1 h.2.1 h.2.2.1 h'.2.1 h'.2.2.1 h.2.2.2 h'.2.2.2).mono fun _ _ hq => .of hq (normal_eq hn hd) hs
theorem pMeet (P : ProgOk) {A B : Option Addr} {n c m c' : Nat} {l k : List Sp} {w : World} (h : LS w A n c l) (h' : LS w B m c' k) (l' : List Sp) (hn : IsNorm l') (hd : ∀ m, m < 1024 → mOp (dayIn l m) (dayIn k m) = dayIn l' m) (hs : l'.length ≤ 4096) : Calls Try.prog 19 #[.slice A n c, .slice B m c'] w fun e w' => NewL w w' l' e :=
  (P.meet A B n m c c' l k w h.1 h'.1 h.2.1 h.2.2.1 h'.2.1 h'.2.2.1 h.2.2.2 h'.2.2.2).mono fun _ _ hq => .of hq (normal_eq hn hd) hs
theorem pMinus (P : ProgOk) {A B : Option Addr} {n c m c' : Nat} {l k : List Sp} {w : World} (h : LS w A n c l) (h' : LS w B m c' k) (l' : List Sp) (hn : IsNorm l') (hd : ∀ m, m < 1024 → dOp (dayIn l m) (dayIn k m) = dayIn l' m) (hs : l'.length ≤ 4096) : Calls Try.prog 21 #[.slice A n c, .slice B m c'] w fun e w' => NewL w w' l' e :=
  (P.minus A B n m c c' l k w h.1 h'.1 h.2.1 h.2.2.1 h'.2.1 h'.2.2.1 h.2.2.2 h'.2.2.2).mono fun _ _ hq => .of hq (normal_eq hn hd) hs
theorem pSame {A B : Option Addr} {n c m c' : Nat} {l l' : List Sp} {w : World} (h : LS w A n c l) (h' : LS w B m c' l') (he : l = l') : Calls Try.prog 14 #[.slice A n c, .slice B m c'] w fun e w' => e = .returned (.bool true) ∧ Below w.heap.size w w' :=
  refsame_eq A B n m c c' l w h.1 (he ▸ h'.1) (by have := h.2.2.2; omega)
theorem pCheck (P : ProgOk) {A : Option Addr} {n c : Nat} {l : List Sp} {w : World} (h : LS w A n c l) (r : Int) (hr : checkM l = r) : Calls Try.prog 12 #[.slice A n c] w fun e w' => e = .returned (.int .i64 r) ∧ Below w.heap.size w w' :=
  hr ▸ P.check A n c l w h.1 h.2.1 h.2.2.1 h.2.2.2
theorem pHas (P : ProgOk) {A : Option Addr} {n c : Nat} {l : List Sp} {w : World} (h : LS w A n c l) (d : Int) (hd : I64 d) (r : Bool) (hr : hasM l d = r) : Calls Try.prog 23 #[.slice A n c, .int .i64 d] w fun e w' => e = .returned (.bool r) ∧ Below w.heap.size w w' :=
  hr ▸ P.has A n c l d w h.1 h.2.1 h.2.2.1 h.2.2.2 hd
theorem pCovers (P : ProgOk) {A : Option Addr} {n c : Nat} {l : List Sp} {w : World} (h : LS w A n c l) (F T : Int) (hF : I64 F) (hT : I64 T) (r : Bool) (hr : covM l F T = r) : Calls Try.prog 25 #[.slice A n c, .agg #[.int .i64 F, .int .i64 T]] w fun e w' => e = .returned (.bool r) ∧ Below w.heap.size w w' :=
  hr ▸ P.covers A n c l F T w h.1 h.2.1 h.2.2.1 h.2.2.2 hF hT
theorem LS.nil (w : World) : LS w none 0 0 [] := ⟨RdS.nil _ _ _, Nat.le_refl _, Nat.zero_le _, by omega⟩

set_option maxRecDepth 100000 in
set_option maxHeartbeats 4000000 in
theorem sane_any (P : ProgOk) (w : World) : Calls Try.prog 10 #[] w fun e w' => e = .returned (.bool true) ∧ Below w.heap.size w w' := by
  have HB0 : Hid (Below w.heap.size w w) := Below.refl _ _
  have PP := Lib.hid P
  clear P
  go_enter Try.func10, Try.ntmps10
  go_wp2_with fail
  refine (new2 (0) (1024) w (by unfold I64; omega) (by unfold I64; omega)).mono ?_
  rintro e w1 ⟨Aa, na, ca, rfl, r1, b1⟩
  have HB1 : Hid (Below w.heap.size w w1) := HB0.out.trans (b1.mono HB0.out.size)
  clear HB0
  have Ra := Lib.hid r1
  clear r1
  clear b1
  go_wp2_with fail
  refine (new4 (10) (20) (15) (30) w1 (by unfold I64; omega) (by unfold I64; omega) (by unfold I64; omega) (by unfold I64; omega)).mono ?_
  rintro e w2 ⟨Ab, nb, cb, rfl, r2, b2⟩
  have HB2 : Hid (Below w.heap.size w w2) := HB1.out.trans (b2.mono HB1.out.size)
  clear HB1
  have Ra' := Lib.hid (Ra.out.below b2 rfl)
  clear Ra
  have Ra := Ra'
  clear Ra'
  have Rb := Lib.hid r2
  clear r2
  clear b2
  go_wp2_with fail
  refine (pNrm PP.out Rb.out [(10, 30)] (by unfold IsNorm NormFrom; simp [NormFrom]) (fun m hm => by
    rw [Bool.eq_iff_iff]
    simp [day2, day1]
    omega) (by simp)).mono ?_
  rintro e w3 ⟨Ad, nd, cd, rfl, r3, b3⟩
  have HB3 : Hid (Below w.heap.size w w3) := HB2.out.trans (b3.mono HB2.out.size)
  clear HB2
  have Ra' := Lib.hid (Ra.out.below b3 rfl)
  clear Ra
  have Ra := Ra'
  clear Ra'
  have Rb' := Lib.hid (Rb.out.below b3 rfl)
  clear Rb
  have Rb := Rb'
  clear Rb'
  have Rd := Lib.hid r3
  clear r3
  clear b3
  go_wp2_with fail
  clear Rb
  refine (new2 (10) (30) w3 (by unfold I64; omega) (by unfold I64; omega)).mono ?_
  rintro e w4 ⟨Ae, ne, ce, rfl, r4, b4⟩
  have HB4 : Hid (Below w.heap.size w w4) := HB3.out.trans (b4.mono HB3.out.size)
  clear HB3
  have Ra' := Lib.hid (Ra.out.below b4 rfl)
  clear Ra
  have Ra := Ra'
  clear Ra'
  have Rd' := Lib.hid (Rd.out.below b4 rfl)
  clear Rd
  have Rd := Rd'
  clear Rd'
  have Re := Lib.hid r4
  clear r4
  clear b4
  go_wp2_with fail
  refine (pSame Rd.out Re.out rfl).mono ?_
  rintro e w5 ⟨rfl, b5⟩
  have HB5 : Hid (Below w.heap.size w w5) := HB4.out.trans (b5.mono HB4.out.size)
  clear HB4
  have Ra' := Lib.hid (Ra.out.below b5 rfl)
  clear Ra
  have Ra := Ra'
  clear Ra'
  have Rd' := Lib.hid (Rd.out.below b5 rfl)
  clear Rd
  have Rd := Rd'
  clear Rd'
  have Re' := Lib.hid (Re.out.below b5 rfl)
  clear Re
  have Re := Re'
  clear Re'
  clear b5
  go_wp2_with fail
  clear Rd
  clear Re
  refine (new2 (-5) (2000) w5 (by unfold I64; omega) (by unfold I64; omega)).mono ?_
  rintro e w6 ⟨Ab, nb, cb, rfl, r6, b6⟩
  have HB6 : Hid (Below w.heap.size w w6) := HB5.out.trans (b6.mono HB5.out.size)
  clear HB5
  have Ra' := Lib.hid (Ra.out.below b6 rfl)
  clear Ra
  have Ra := Ra'
  clear Ra'
  have Rb := Lib.hid r6
  clear r6
  clear b6
  go_wp2_with fail
  refine (pNrm PP.out Rb.out [(0, 1024)] (by unfold IsNorm NormFrom; simp [NormFrom]) (fun m hm => by
    rw [Bool.eq_iff_iff]
    simp [day1]
    omega) (by simp)).mono ?_
  rintro e w7 ⟨Ad, nd, cd, rfl, r7, b7⟩
  have HB7 : Hid (Below w.heap.size w w7) := HB6.out.trans (b7.mono HB6.out.size)
  clear HB6
  have Ra' := Lib.hid (Ra.out.below b7 rfl)
  clear Ra
  have Ra := Ra'
  clear Ra'
  have Rb' := Lib.hid (Rb.out.below b7 rfl)
  clear Rb
  have Rb := Rb'
  clear Rb'
  have Rd := Lib.hid r7
  clear r7
  clear b7
  go_wp2_with fail
  clear Rb
  refine (pSame Rd.out Ra.out rfl).mono ?_
  rintro e w8 ⟨rfl, b8⟩
  have HB8 : Hid (Below w.heap.size w w8) := HB7.out.trans (b8.mono HB7.out.size)
  clear HB7
  have Ra' := Lib.hid (Ra.out.below b8 rfl)
  clear Ra
  have Ra := Ra'
  clear Ra'
  have Rd' := Lib.hid (Rd.out.below b8 rfl)
  clear Rd
  have Rd := Rd'
  clear Rd'
  clear b8
  go_wp2_with fail
  clear Rd
  refine (new2 (5) (5) w8 (by unfold I64; omega) (by unfold I64; omega)).mono ?_
  rintro e w9 ⟨Ab, nb, cb, rfl, r9, b9⟩
  have HB9 : Hid (Below w.heap.size w w9) := HB8.out.trans (b9.mono HB8.out.size)
  clear HB8
  have Ra' := Lib.hid (Ra.out.below b9 rfl)
  clear Ra
  have Ra := Ra'
  clear Ra'
  have Rb := Lib.hid r9
  clear r9
  clear b9
  go_wp2_with fail
  refine (pNrm PP.out Rb.out [] (by trivial) (fun m hm => by
    rw [day1, dayIn_nil, Bool.and_eq_false_iff, decide_eq_false_iff_not, decide_eq_false_iff_not]
    omega) (by simp)).mono ?_
  rintro e w10 ⟨Ad, nd, cd, rfl, r10, b10⟩
  have HB10 : Hid (Below w.heap.size w w10) := HB9.out.trans (b10.mono HB9.out.size)
  clear HB9
  have Ra' := Lib.hid (Ra.out.below b10 rfl)
  clear Ra
  have Ra := Ra'
  clear Ra'
  have Rb' := Lib.hid (Rb.out.below b10 rfl)
  clear Rb
  have Rb := Rb'
  clear Rb'
  have hnd : nd = 0 := r10.len
  have Rd := Lib.hid r10
  clear r10
  clear b10
  go_wp2_with fail
  clear Rb
  clear Rd
  refine (new2 (0) (10) w10 (by unfold I64; omega) (by unfold I64; omega)).mono ?_
  rintro e w11 ⟨Ab, nb, cb, rfl, r11, b11⟩
  have HB11 : Hid (Below w.heap.size w w11) := HB10.out.trans (b11.mono HB10.out.size)
  clear HB10
  have Ra' := Lib.hid (Ra.out.below b11 rfl)
  clear Ra
  have Ra := Ra'
  clear Ra'
  have Rb := Lib.hid r11
  clear r11
  clear b11
  go_wp2_with fail
  refine (pMinus PP.out Ra.out Rb.out [(10, 1024)] (by unfold IsNorm NormFrom; simp [NormFrom]) (fun m hm => by
    rw [Bool.eq_iff_iff]
    simp [dOp, day1]
    omega) (by simp)).mono ?_
  rintro e w12 ⟨Ad, nd, cd, rfl, r12, b12⟩
  have HB12 : Hid (Below w.heap.size w w12) := HB11.out.trans (b12.mono HB11.out.size)
  clear HB11
  have Ra' := Lib.hid (Ra.out.below b12 rfl)
  clear Ra
  have Ra := Ra'
  clear Ra'
  have Rb' := Lib.hid (Rb.out.below b12 rfl)
  clear Rb
  have Rb := Rb'
  clear Rb'
  have Rd := Lib.hid r12
  clear r12
  clear b12
  go_wp2_with fail
  clear Rb
  refine (new2 (10) (1024) w12 (by unfold I64; omega) (by unfold I64; omega)).mono ?_
  rintro e w13 ⟨Ae, ne, ce, rfl, r13, b13⟩
  have HB13 : Hid (Below w.heap.size w w13) := HB12.out.trans (b13.mono HB12.out.size)
  clear HB12
  have Ra' := Lib.hid (Ra.out.below b13 rfl)
  clear Ra
  have Ra := Ra'
  clear Ra'
  have Rd' := Lib.hid (Rd.out.below b13 rfl)
  clear Rd
  have Rd := Rd'
  clear Rd'
  have Re := Lib.hid r13
  clear r13
  clear b13
  go_wp2_with fail
  refine (pSame Rd.out Re.out rfl).mono ?_
  rintro e w14 ⟨rfl, b14⟩
  have HB14 : Hid (Below w.heap.size w w14) := HB13.out.trans (b14.mono HB13.out.size)
  clear HB13
  have Ra' := Lib.hid (Ra.out.below b14 rfl)
  clear Ra
  have Ra := Ra'
  clear Ra'
  have Rd' := Lib.hid (Rd.out.below b14 rfl)
  clear Rd
  have Rd := Rd'
  clear Rd'
  have Re' := Lib.hid (Re.out.below b14 rfl)
  clear Re
  have Re := Re'
  clear Re'
  clear b14
  go_wp2_with fail
  clear Rd
  clear Re
  refine (new2 (3) (4) w14 (by unfold I64; omega) (by unfold I64; omega)).mono ?_
  rintro e w15 ⟨Ab, nb, cb, rfl, r15, b15⟩
  have HB15 : Hid (Below w.heap.size w w15) := HB14.out.trans (b15.mono HB14.out.size)
  clear HB14
  have Ra' := Lib.hid (Ra.out.below b15 rfl)
  clear Ra
  have Ra := Ra'
  clear Ra'
  have Rb := Lib.hid r15
  clear r15
  clear b15
  go_wp2_with fail
  refine (new2 (4) (5) w15 (by unfold I64; omega) (by unfold I64; omega)).mono ?_
  rintro e w16 ⟨Af, nf, cf, rfl, r16, b16⟩
  have HB16 : Hid (Below w.heap.size w w16) := HB15.out.trans (b16.mono HB15.out.size)
  clear HB15
  have Ra' := Lib.hid (Ra.out.below b16 rfl)
  clear Ra
  have Ra := Ra'
  clear Ra'
  have Rb' := Lib.hid (Rb.out.below b16 rfl)
  clear Rb
  have Rb := Rb'
  clear Rb'
  have Rf := Lib.hid r16
  clear r16
  clear b16
  go_wp2_with fail
  refine (pUnion PP.out Rb.out Rf.out [(3, 5)] (by unfold IsNorm NormFrom; simp [NormFrom]) (fun m hm => by
    rw [Bool.eq_iff_iff]
    simp [uOp, day1]
    omega) (by simp)).mono ?_
  rintro e w17 ⟨Ad, nd, cd, rfl, r17, b17⟩
  have HB17 : Hid (Below w.heap.size w w17) := HB16.out.trans (b17.mono HB16.out.size)
  clear HB16
  have Ra' := Lib.hid (Ra.out.below b17 rfl)
  clear Ra
  have Ra := Ra'
  clear Ra'
  have Rb' := Lib.hid (Rb.out.below b17 rfl)
  clear Rb
  have Rb := Rb'
  clear Rb'
  have Rf' := Lib.hid (Rf.out.below b17 rfl)
  clear Rf
  have Rf := Rf'
  clear Rf'
  have Rd := Lib.hid r17
  clear r17
  clear b17
  go_wp2_with fail
  clear Rb
  clear Rf
  refine (new2 (3) (5) w17 (by unfold I64; omega) (by unfold I64; omega)).mono ?_
  rintro e w18 ⟨Ae, ne, ce, rfl, r18, b18⟩
  have HB18 : Hid (Below w.heap.size w w18) := HB17.out.trans (b18.mono HB17.out.size)
  clear HB17
  have Ra' := Lib.hid (Ra.out.below b18 rfl)
  clear Ra
  have Ra := Ra'
  clear Ra'
  have Rd' := Lib.hid (Rd.out.below b18 rfl)
  clear Rd
  have Rd := Rd'
  clear Rd'
  have Re := Lib.hid r18
  clear r18
  clear b18
  go_wp2_with fail
  refine (pSame Rd.out Re.out rfl).mono ?_
  rintro e w19 ⟨rfl, b19⟩
  have HB19 : Hid (Below w.heap.size w w19) := HB18.out.trans (b19.mono HB18.out.size)
  clear HB18
  have Ra' := Lib.hid (Ra.out.below b19 rfl)
  clear Ra
  have Ra := Ra'
  clear Ra'
  have Rd' := Lib.hid (Rd.out.below b19 rfl)
  clear Rd
  have Rd := Rd'
  clear Rd'
  have Re' := Lib.hid (Re.out.below b19 rfl)
  clear Re
  have Re := Re'
  clear Re'
  clear b19
  go_wp2_with fail
  clear Rd
  clear Re
  refine (new2 (3) (9) w19 (by unfold I64; omega) (by unfold I64; omega)).mono ?_
  rintro e w20 ⟨Ab, nb, cb, rfl, r20, b20⟩
  have HB20 : Hid (Below w.heap.size w w20) := HB19.out.trans (b20.mono HB19.out.size)
  clear HB19
  have Ra' := Lib.hid (Ra.out.below b20 rfl)
  clear Ra
  have Ra := Ra'
  clear Ra'
  have Rb := Lib.hid r20
  clear r20
  clear b20
  go_wp2_with fail
  refine (new2 (5) (12) w20 (by unfold I64; omega) (by unfold I64; omega)).mono ?_
  rintro e w21 ⟨Af, nf, cf, rfl, r21, b21⟩
  have HB21 : Hid (Below w.heap.size w w21) := HB20.out.trans (b21.mono HB20.out.size)
  clear HB20
  have Ra' := Lib.hid (Ra.out.below b21 rfl)
  clear Ra
  have Ra := Ra'
  clear Ra'
  have Rb' := Lib.hid (Rb.out.below b21 rfl)
  clear Rb
  have Rb := Rb'
  clear Rb'
  have Rf := Lib.hid r21
  clear r21
  clear b21
  go_wp2_with fail
  refine (pMeet PP.out Rb.out Rf.out [(5, 9)] (by unfold IsNorm NormFrom; simp [NormFrom]) (fun m hm => by
    rw [Bool.eq_iff_iff]
    simp [mOp, day1]
    omega) (by simp)).mono ?_
  rintro e w22 ⟨Ad, nd, cd, rfl, r22, b22⟩
  have HB22 : Hid (Below w.heap.size w w22) := HB21.out.trans (b22.mono HB21.out.size)
  clear HB21
  have Ra' := Lib.hid (Ra.out.below b22 rfl)
  clear Ra
  have Ra := Ra'
  clear Ra'
  have Rb' := Lib.hid (Rb.out.below b22 rfl)
  clear Rb
  have Rb := Rb'
  clear Rb'
  have Rf' := Lib.hid (Rf.out.below b22 rfl)
  clear Rf
  have Rf := Rf'
  clear Rf'
  have Rd := Lib.hid r22
  clear r22
  clear b22
  go_wp2_with fail
  clear Rb
  clear Rf
  refine (new2 (5) (9) w22 (by unfold I64; omega) (by unfold I64; omega)).mono ?_
  rintro e w23 ⟨Ae, ne, ce, rfl, r23, b23⟩
  have HB23 : Hid (Below w.heap.size w w23) := HB22.out.trans (b23.mono HB22.out.size)
  clear HB22
  have Ra' := Lib.hid (Ra.out.below b23 rfl)
  clear Ra
  have Ra := Ra'
  clear Ra'
  have Rd' := Lib.hid (Rd.out.below b23 rfl)
  clear Rd
  have Rd := Rd'
  clear Rd'
  have Re := Lib.hid r23
  clear r23
  clear b23
  go_wp2_with fail
  refine (pSame Rd.out Re.out rfl).mono ?_
  rintro e w24 ⟨rfl, b24⟩
  have HB24 : Hid (Below w.heap.size w w24) := HB23.out.trans (b24.mono HB23.out.size)
  clear HB23
  have Ra' := Lib.hid (Ra.out.below b24 rfl)
  clear Ra
  have Ra := Ra'
  clear Ra'
  have Rd' := Lib.hid (Rd.out.below b24 rfl)
  clear Rd
  have Rd := Rd'
  clear Rd'
  have Re' := Lib.hid (Re.out.below b24 rfl)
  clear Re
  have Re := Re'
  clear Re'
  clear b24
  go_wp2_with fail
  clear Rd
  clear Re
  refine (new4 (0) (10) (10) (20) w24 (by unfold I64; omega) (by unfold I64; omega) (by unfold I64; omega) (by unfold I64; omega)).mono ?_
  rintro e w25 ⟨Ab, nb, cb, rfl, r25, b25⟩
  have HB25 : Hid (Below w.heap.size w w25) := HB24.out.trans (b25.mono HB24.out.size)
  clear HB24
  have Ra' := Lib.hid (Ra.out.below b25 rfl)
  clear Ra
  have Ra := Ra'
  clear Ra'
  have Rb := Lib.hid r25
  clear r25
  clear b25
  go_wp2_with fail
  refine (pCovers PP.out Rb.out 5 15 (by unfold I64; omega) (by unfold I64; omega) true (covM_true (.inr ⟨by omega, by omega, fun m h1 h2 => by rw [day2]; simp; omega⟩))).mono ?_
  rintro e w26 ⟨rfl, b26⟩
  have HB26 : Hid (Below w.heap.size w w26) := HB25.out.trans (b26.mono HB25.out.size)
  clear HB25
  have Ra' := Lib.hid (Ra.out.below b26 rfl)
  clear Ra
  have Ra := Ra'
  clear Ra'
  have Rb' := Lib.hid (Rb.out.below b26 rfl)
  clear Rb
  have Rb := Rb'
  clear Rb'
  clear b26
  go_wp2_with fail
  clear Rb
  refine (pCovers PP.out (LS.nil _) 7 7 (by unfold I64; omega) (by unfold I64; omega) true (covM_true (.inl (by omega)))).mono ?_
  rintro e w27 ⟨rfl, b27⟩
  have HB27 : Hid (Below w.heap.size w w27) := HB26.out.trans (b27.mono HB26.out.size)
  clear HB26
  have Ra' := Lib.hid (Ra.out.below b27 rfl)
  clear Ra
  have Ra := Ra'
  clear Ra'
  clear b27
  go_wp2_with fail
  refine (pCovers PP.out Ra.out 1023 1025 (by unfold I64; omega) (by unfold I64; omega) false (covM_false (by omega))).mono ?_
  rintro e w28 ⟨rfl, b28⟩
  have HB28 : Hid (Below w.heap.size w w28) := HB27.out.trans (b28.mono HB27.out.size)
  clear HB27
  have Ra' := Lib.hid (Ra.out.below b28 rfl)
  clear Ra
  have Ra := Ra'
  clear Ra'
  clear b28
  go_wp2_with fail
  refine (pHas PP.out Ra.out 1023 (by unfold I64; omega) true (by decide)).mono ?_
  rintro e w29 ⟨rfl, b29⟩
  have HB29 : Hid (Below w.heap.size w w29) := HB28.out.trans (b29.mono HB28.out.size)
  clear HB28
  have Ra' := Lib.hid (Ra.out.below b29 rfl)
  clear Ra
  have Ra := Ra'
  clear Ra'
  clear b29
  go_wp2_with fail
  refine (pHas PP.out Ra.out 1024 (by unfold I64; omega) false (by decide)).mono ?_
  rintro e w30 ⟨rfl, b30⟩
  have HB30 : Hid (Below w.heap.size w w30) := HB29.out.trans (b30.mono HB29.out.size)
  clear HB29
  have Ra' := Lib.hid (Ra.out.below b30 rfl)
  clear Ra
  have Ra := Ra'
  clear Ra'
  clear b30
  go_wp2_with fail
  refine (new2 (0) (0) w30 (by unfold I64; omega) (by unfold I64; omega)).mono ?_
  rintro e w31 ⟨Ab, nb, cb, rfl, r31, b31⟩
  have HB31 : Hid (Below w.heap.size w w31) := HB30.out.trans (b31.mono HB30.out.size)
  clear HB30
  have Ra' := Lib.hid (Ra.out.below b31 rfl)
  clear Ra
  have Ra := Ra'
  clear Ra'
  have Rb := Lib.hid r31
  clear r31
  clear b31
  go_wp2_with fail
  refine (pCheck PP.out Rb.out 30 (by decide)).mono ?_
  rintro e w32 ⟨rfl, b32⟩
  have HB32 : Hid (Below w.heap.size w w32) := HB31.out.trans (b32.mono HB31.out.size)
  clear HB31
  have Ra' := Lib.hid (Ra.out.below b32 rfl)
  clear Ra
  have Ra := Ra'
  clear Ra'
  have Rb' := Lib.hid (Rb.out.below b32 rfl)
  clear Rb
  have Rb := Rb'
  clear Rb'
  clear b32
  go_wp2_with fail
  clear Rb
  refine (pCheck PP.out Ra.out 0 (by decide)).mono ?_
  rintro e w33 ⟨rfl, b33⟩
  have HB33 : Hid (Below w.heap.size w w33) := HB32.out.trans (b33.mono HB32.out.size)
  clear HB32
  have Ra' := Lib.hid (Ra.out.below b33 rfl)
  clear Ra
  have Ra := Ra'
  clear Ra'
  clear b33
  go_wp2_with fail
  go_ret
  exact ⟨rfl, HB33.out⟩
end Go.Proofs.Ytnbffkeinkgojaa
