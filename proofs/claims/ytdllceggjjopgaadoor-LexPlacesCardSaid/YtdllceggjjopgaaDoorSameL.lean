/- Contracts of Same and Equal, of both sides. -/
import Derived.Test.YtdllceggjjopgaaDoorValidL
namespace Go.Proofs.YtdllceggjjopgaaDoor
open Go.RowKit

def sameTk (t u : Tk) : Bool := decide (t.kind = u.kind) && (decide (t.text = u.text) && decide (t.n = u.n))
def eqTk (t u : Tk) : Bool := sameTk t u && decide (t.place = u.place)
/-- equally long, and p of each pair -/
def zipAll (p : Tk → Tk → Bool) : List Tk → List Tk → Bool
  | [], [] => true
  | t :: a, u :: b => p t u && zipAll p a b
  | _, _ => false
theorem zipAll_iff {p : Tk → Tk → Bool} : ∀ {a b : List Tk}, zipAll p a b = true ↔ a.length = b.length ∧ ∀ (i : Nat) t u, a[i]? = some t → b[i]? = some u → p t u = true
  | [], [] => by simp [zipAll]
  | [], u :: b => by simp [zipAll]
  | t :: a, [] => by simp [zipAll]
  | t :: a, u :: b => by
    have ih := @zipAll_iff p a b
    unfold zipAll
    rw [Bool.and_eq_true, ih]
    constructor
    · rintro ⟨h1, h2, h3⟩
      refine ⟨by simp [h2], fun i x y hx hy => ?_⟩
      cases i with
      | zero => simp at hx hy; subst hx hy; exact h1
      | succ i => exact h3 i x y (by simpa using hx) (by simpa using hy)
    · rintro ⟨h1, h2⟩
      refine ⟨h2 0 t u rfl rfl, by simpa using h1, fun i x y hx hy => h2 (i + 1) x y (by simpa using hx) (by simpa using hy)⟩
theorem zipAll_false {p : Tk → Tk → Bool} {a b : List Tk} {i : Nat} {t u : Tk} (ht : a[i]? = some t) (hu : b[i]? = some u) (h : p t u = false) : zipAll p a b = false := by
  rw [← Bool.not_eq_true, zipAll_iff]
  rintro ⟨_, h2⟩
  have := h2 i t u ht hu
  rw [h] at this
  cases this
theorem zipAll_len {p : Tk → Tk → Bool} {a b : List Tk} (h : ¬ a.length = b.length) : zipAll p a b = false := by
  rw [← Bool.not_eq_true, zipAll_iff]
  exact fun h2 => h h2.1
/-- so far -/
def UpToP (p : Tk → Tk → Bool) (a b : List Tk) (j : Nat) : Prop := ∀ i t u, i < j → a[i]? = some t → b[i]? = some u → p t u = true
theorem UpToP.zero (p : Tk → Tk → Bool) (a b : List Tk) : UpToP p a b 0 := fun i _ _ h => by omega
theorem UpToP.next {p : Tk → Tk → Bool} {a b : List Tk} {j : Nat} {t u : Tk} (h : UpToP p a b j) (ht : a[j]? = some t) (hu : b[j]? = some u) (hp : p t u = true) : UpToP p a b (j + 1) := fun i x y hi hx hy => by
  by_cases e : i = j
  · subst e
    rw [ht] at hx
    rw [hu] at hy
    cases hx
    cases hy
    exact hp
  · exact h i x y (by omega) hx hy
theorem UpToP.done {p : Tk → Tk → Bool} {a b : List Tk} {j : Nat} (h : UpToP p a b j) (hl : a.length = b.length) (hj : a.length ≤ j) : zipAll p a b = true :=
  zipAll_iff.2 ⟨hl, fun i t u ht hu => h i t u (by have := (List.getElem?_eq_some_iff.1 ht).1; omega) ht hu⟩

/-- the ways in which two tokens are the same, or not -/
theorem same_ways {k p n k' p' n' : Int} {x x' : List UInt8} (Q : Prop) (q1 : ¬ k = k' → sameTk ⟨k, p, x, n⟩ ⟨k', p', x', n'⟩ = false → Q) (q2 : k = k' → ¬ x = x' → sameTk ⟨k, p, x, n⟩ ⟨k', p', x', n'⟩ = false → Q)
    (q3 : k = k' → x = x' → ¬ n = n' → sameTk ⟨k, p, x, n⟩ ⟨k', p', x', n'⟩ = false → Q) (q4 : k = k' → x = x' → n = n' → sameTk ⟨k, p, x, n⟩ ⟨k', p', x', n'⟩ = true → Q) : Q := by
  by_cases h1 : k = k'
  · by_cases h2 : x = x'
    · by_cases h3 : n = n'
      · exact q4 h1 h2 h3 (by simp [sameTk, h1, h2, h3])
      · exact q3 h1 h2 h3 (by simp [sameTk, h3])
    · exact q2 h1 h2 (by simp [sameTk, h2])
  · exact q1 h1 (by simp [sameTk, h1])

set_option maxRecDepth 100000 in
set_option maxHeartbeats 1000000 in
theorem same1_any (k p n k' p' n' : Int) (x x' : List UInt8) (w : World) :
    Calls Tryd.prog 37 #[.agg #[.int .i64 k, .int .i64 p, .string ⟨x.toArray⟩, .int .i64 n], .agg #[.int .i64 k', .int .i64 p', .string ⟨x'.toArray⟩, .int .i64 n']] w fun e w' =>
      e = .returned (.bool (sameTk ⟨k, p, x, n⟩ ⟨k', p', x', n'⟩)) ∧ Below w.heap.size w w' := by
  have HB : Hid (∀ o1 o2, Below w.heap.size w ((w.alloc o1).alloc o2)) := fun o1 o2 => ((Below.refl _ _).alloc (Nat.le_refl _) _).alloc (by simp) _
  refine same_ways (k := k) (p := p) (n := n) (k' := k') (p' := p') (n' := n') (x := x) (x' := x') _ (fun h1 he => ?_) (fun h1 h2 he => ?_) (fun h1 h2 h3 he => ?_) (fun h1 h2 h3 he => ?_)
  · have HE := Lib.hid he
    have b1 : (k == k') = false := beq_off h1
    clear he h1
    go_enter Tryd.func37, Tryd.ntmps37
    go_wp2_with fail
    go_ret
    exact ⟨by rw [HE.out]; rfl, HB.out _ _⟩
  · have HE := Lib.hid he
    subst h1
    have b1 : (x == x') = false := by simpa using h2
    clear he h2
    go_enter Tryd.func37, Tryd.ntmps37
    go_wp2_with fail
    go_ret
    exact ⟨by rw [HE.out]; rfl, HB.out _ _⟩
  · have HE := Lib.hid he
    subst h1 h2
    have b1 : (n == n') = false := beq_off h3
    clear he h3
    go_enter Tryd.func37, Tryd.ntmps37
    go_wp2_with fail
    go_ret
    exact ⟨by rw [HE.out]; rfl, HB.out _ _⟩
  · have HE := Lib.hid he
    subst h1 h2 h3
    clear he
    go_enter Tryd.func37, Tryd.ntmps37
    go_wp2_with fail
    go_ret
    exact ⟨by rw [HE.out]; rfl, HB.out _ _⟩

set_option maxRecDepth 100000 in
set_option maxHeartbeats 1000000 in
theorem equalFunc_any (A A' : Option Addr) (na nb ca cb : Nat) (a b : List Tk) (w : World) (ha : RdT w w.heap.size A na a) (hb : RdT w w.heap.size A' nb b) (hla : na ≤ maxLen) (hlb : nb ≤ maxLen) :
    Calls Tryd.prog 36 #[.slice A na ca, .slice A' nb cb, .func (Fn.func 37) #[] #[]] w fun e w' => e = .returned (.bool (zipAll sameTk a b)) ∧ Below w.heap.size w w' := by
  have RA := Lib.hid ha
  have RB := Lib.hid hb
  have eA := ha.1
  have eB := hb.1
  unfold maxLen at hla hlb
  clear ha hb
  by_cases el : na = nb
  · subst el
    have HEL : Hid (a.length = b.length) := eA.symm.trans eB
    have hb4 : ((na : Int) != (na : Int)) = false := by simp
    have EA := Lib.hid eA
    clear eB eA
    go_enter Tryd.func36, Tryd.ntmps36
    go_wp2_with fail
    go_loopw [17] (fun i wr => ∃ j : Nat, j ≤ na ∧ i = .int .i64 j ∧ Hid (UpToP sameTk a b j) ∧ Hid (Below w.heap.size w wr)) (fun i _ => na - (intOf i).toNat)
    case atStart => exact ⟨0, Nat.zero_le _, rfl, UpToP.zero _ _ _, Below.refl _ _⟩
    case round =>
      obtain ⟨j, hj, rfl, HU, HB⟩ := hrel
      by_cases hlt : j < na
      · obtain ⟨b1, o1, ⟨k, p, x, n⟩, rfl, hb1, hx, hc⟩ := (RA.out.below HB.out HB.out.size).one j hlt
        obtain ⟨b2, o2, ⟨k', p', x', n'⟩, rfl, hb2, hx', hc'⟩ := (RB.out.below HB.out HB.out.size).one j hlt
        obtain ⟨c0, c1, c2, c3⟩ := tk_cells hc
        obtain ⟨d0, d1, d2, d3⟩ := tk_cells hc'
        have g0 : ∀ O, (wr.alloc O).cell? ⟨b2, o2 + j * 4, none⟩ = some (.int .i64 k') := fun O => (World.cell?_alloc_lt wr O ⟨b2, _, none⟩ hb2).trans d0
        have g1 : ∀ O, (wr.alloc O).cell? ⟨b2, o2 + j * 4 + 1, none⟩ = some (.int .i64 p') := fun O => (World.cell?_alloc_lt wr O ⟨b2, _, none⟩ hb2).trans d1
        have g2 : ∀ O, (wr.alloc O).cell? ⟨b2, o2 + j * 4 + 2, none⟩ = some (.string ⟨x'.toArray⟩) := fun O => (World.cell?_alloc_lt wr O ⟨b2, _, none⟩ hb2).trans d2
        have g3 : ∀ O, (wr.alloc O).cell? ⟨b2, o2 + j * 4 + 3, none⟩ = some (.int .i64 n') := fun O => (World.cell?_alloc_lt wr O ⟨b2, _, none⟩ hb2).trans d3
        have zr := HB.out.size
        have HB2 : Hid (∀ o1 o2, Below w.heap.size w ((wr.alloc o1).alloc o2)) := fun o1 o2 => HB.out.trans (((Below.refl _ _).alloc zr o1).alloc (by simp; omega) o2)
        clear d0 d1 d2 d3 hc hc'
        cases hf : sameTk ⟨k, p, x, n⟩ ⟨k', p', x', n'⟩ with
        | false =>
          have HF := Lib.hid (zipAll_false hx hx' hf)
          have HM := Lib.hid hf
          clear hf hx hx'
          go_wp2_with fail
          refine (same1_any k p n k' p' n' x x' _).mono ?_
          rintro e w2 ⟨rfl, hb2⟩
          rw [HM.out]
          go_wp2_with fail
          go_ret
          exact ⟨by rw [HF.out]; rfl, (HB2.out _ _).trans (hb2.mono (by simp; omega))⟩
        | true =>
          have HK := Lib.hid (HU.out.next hx hx' hf)
          have HM := Lib.hid hf
          clear hf hx hx'
          go_wp2_with fail
          refine (same1_any k p n k' p' n' x x' _).mono ?_
          rintro e w2 ⟨rfl, hb2⟩
          rw [HM.out]
          go_wp2_with fail
          go_roundw
          case rel => exact ⟨j + 1, by omega, by go_num, HK, (HB2.out _ _).trans (hb2.mono (by simp; omega))⟩
          case measure => simp [intOf]; omega
      · have HK := Lib.hid (HU.out.done HEL.out (by have := EA.out; omega))
        have hn : ¬ ((j : Int) < (na : Int)) := by omega
        go_wp2_with fail
        go_ret
        exact ⟨by rw [HK.out]; rfl, HB.out⟩
  · have HE : Hid (zipAll sameTk a b = false) := zipAll_len (by omega)
    have hb4 : ((na : Int) != (nb : Int)) = true := by simp; omega
    clear el eA eB
    go_enter Tryd.func36, Tryd.ntmps36
    go_wp2_with fail
    go_ret
    exact ⟨by rw [HE.out]; rfl, Below.refl _ _⟩

set_option maxRecDepth 100000 in
set_option maxHeartbeats 1000000 in
theorem same_any (A A' : Option Addr) (na nb ca cb : Nat) (a b : List Tk) (w : World) (ha : RdT w w.heap.size A na a) (hb : RdT w w.heap.size A' nb b) (hla : na ≤ maxLen) (hlb : nb ≤ maxLen) :
    Calls Tryd.prog 18 #[.slice A na ca, .slice A' nb cb] w fun e w' => e = .returned (.bool (zipAll sameTk a b)) ∧ Below w.heap.size w w' := by
  have HK := Lib.hid (equalFunc_any A A' na nb ca cb a b w ha hb hla hlb)
  clear ha hb
  go_enter Tryd.func18, Tryd.ntmps18
  go_wp2_with fail
  refine HK.out.mono ?_
  rintro e w2 ⟨rfl, hb2⟩
  go_wp2_with fail
  go_ret
  exact ⟨rfl, hb2⟩

theorem eq_ways {k p n k' p' n' : Int} {x x' : List UInt8} (Q : Prop) (q1 : ¬ p = p' → eqTk ⟨k, p, x, n⟩ ⟨k', p', x', n'⟩ = false → Q) (q2 : p = p' → eqTk ⟨k, p, x, n⟩ ⟨k', p', x', n'⟩ = sameTk ⟨k, p, x, n⟩ ⟨k', p', x', n'⟩ → Q) : Q := by
  by_cases h : p = p'
  · exact q2 h (by simp [eqTk, h])
  · exact q1 h (by simp [eqTk, h])
theorem zip_sub {a b : List Tk} (h : zipAll eqTk a b = true) : zipAll sameTk a b = true := by
  rw [zipAll_iff] at h ⊢
  refine ⟨h.1, fun i t u ht hu => ?_⟩
  have := h.2 i t u ht hu
  unfold eqTk at this
  rw [Bool.and_eq_true] at this
  exact this.1

set_option maxRecDepth 100000 in
set_option maxHeartbeats 4000000 in
theorem refsame_any (A A' : Option Addr) (na nb ca cb : Nat) (a b : List Tk) (w : World) (ha : RdT w w.heap.size A na a) (hb : RdT w w.heap.size A' nb b) (hla : na ≤ maxLen) (hlb : nb ≤ maxLen) :
    Calls Tryd.prog 19 #[.slice A na ca, .slice A' nb cb] w fun e w' => e = .returned (.bool (zipAll sameTk a b)) ∧ Below w.heap.size w w' := by
  have RA := Lib.hid ha
  have RB := Lib.hid hb
  have eA := ha.1
  have eB := hb.1
  unfold maxLen at hla hlb
  clear ha hb
  by_cases el : na = nb
  · subst el
    have HEL : Hid (a.length = b.length) := eA.symm.trans eB
    have hb4 : ((na : Int) != (na : Int)) = false := by simp
    have EA := Lib.hid eA
    clear eB eA
    go_enter Tryd.func19, Tryd.ntmps19
    go_wp2_with fail
    go_loopw [5] (fun i wr => ∃ j : Nat, j ≤ na ∧ i = .int .i64 j ∧ Hid (UpToP sameTk a b j) ∧ Hid (Below w.heap.size w wr)) (fun i _ => na - (intOf i).toNat)
    case atStart => exact ⟨0, Nat.zero_le _, rfl, UpToP.zero _ _ _, Below.refl _ _⟩
    case round =>
      obtain ⟨j, hj, rfl, HU, HB⟩ := hrel
      by_cases hlt : j < na
      · obtain ⟨b1, o1, ⟨k, p, x, n⟩, rfl, hb1, hx, hc⟩ := (RA.out.below HB.out HB.out.size).one j hlt
        obtain ⟨b2, o2, ⟨k', p', x', n'⟩, rfl, hb2, hx', hc'⟩ := (RB.out.below HB.out HB.out.size).one j hlt
        obtain ⟨c0, c1, c2, c3⟩ := tk_cells hc
        obtain ⟨d0, d1, d2, d3⟩ := tk_cells hc'
        clear hc hc' c1 d1
        refine same_ways (k := k) (p := p) (n := n) (k' := k') (p' := p') (n' := n') (x := x) (x' := x') _ (fun h1 he => ?_) (fun h1 h2 he => ?_) (fun h1 h2 h3 he => ?_) (fun h1 h2 h3 he => ?_)
        · have HF := Lib.hid (zipAll_false hx hx' he)
          have e1 : (k != k') = true := by simpa using h1
          have e2 : (k == k') = false := by simpa using h1
          clear he h1 hx hx'
          go_wp2_with fail
          go_quiet (fail)
          go_wp2_with fail
          go_ret
          exact ⟨by rw [HF.out]; rfl, below_drewN HB.out _⟩
        · have HF := Lib.hid (zipAll_false hx hx' he)
          subst h1
          have e1 : (x != x') = true := by simpa using h2
          have e2 : (x == x') = false := by simpa using h2
          clear he h2 hx hx'
          go_wp2_with fail
          go_quiet (fail)
          go_wp2_with fail
          go_ret
          exact ⟨by rw [HF.out]; rfl, below_drewN HB.out _⟩
        · have HF := Lib.hid (zipAll_false hx hx' he)
          subst h1 h2
          have e1 : (n != n') = true := by simpa using h3
          have e2 : (n == n') = false := by simpa using h3
          clear he h3 hx hx'
          go_wp2_with fail
          go_quiet (fail)
          go_wp2_with fail
          go_ret
          exact ⟨by rw [HF.out]; rfl, below_drewN HB.out _⟩
        · have HK := Lib.hid (HU.out.next hx hx' he)
          subst h1 h2 h3
          clear he hx hx'
          go_wp2_with fail
          go_quiet (fail)
          go_wp2_with fail
          go_roundw
          case rel => exact ⟨j + 1, by omega, by go_num, HK, below_drewN HB.out _⟩
          case measure => simp [intOf]; omega
      · have HK := Lib.hid (HU.out.done HEL.out (by have := EA.out; omega))
        have hn : ¬ ((j : Int) < (na : Int)) := by omega
        go_wp2_with fail
        go_ret
        exact ⟨by rw [HK.out]; rfl, HB.out⟩
  · have HE : Hid (zipAll sameTk a b = false) := zipAll_len (by omega)
    have hb4 : ((na : Int) != (nb : Int)) = true := by simp; omega
    clear el eA eB
    go_enter Tryd.func19, Tryd.ntmps19
    go_wp2_with fail
    go_ret
    exact ⟨by rw [HE.out]; rfl, Below.refl _ _⟩

set_option maxRecDepth 100000 in
set_option maxHeartbeats 4000000 in
theorem refequal_any (A A' : Option Addr) (na nb ca cb : Nat) (a b : List Tk) (w : World) (ha : RdT w w.heap.size A na a) (hb : RdT w w.heap.size A' nb b) (hla : na ≤ maxLen) (hlb : nb ≤ maxLen) :
    Calls Tryd.prog 14 #[.slice A na ca, .slice A' nb cb] w fun e w' => e = .returned (.bool (zipAll eqTk a b)) ∧ Below w.heap.size w w' := by
  have HS := Lib.hid (refsame_any A A' na nb ca cb a b w ha hb hla hlb)
  have RA := Lib.hid ha
  have RB := Lib.hid hb
  unfold maxLen at hla hlb
  cases hsl : zipAll sameTk a b with
  | false =>
    have HE : Hid (zipAll eqTk a b = false) := by
      unfold Hid
      rw [← Bool.not_eq_true]
      intro h
      rw [zip_sub h] at hsl
      cases hsl
    rw [hsl] at HS
    clear hsl ha hb
    go_enter Tryd.func14, Tryd.ntmps14
    go_wp2_with fail
    refine HS.out.mono ?_
    rintro e w1 ⟨rfl, hb1⟩
    go_wp2_with fail
    go_ret
    exact ⟨by rw [HE.out]; rfl, hb1⟩
  | true =>
    have HEL : Hid (a.length = b.length) := (zipAll_iff.1 hsl).1
    have HSA : Hid (∀ (i : Nat) t u, a[i]? = some t → b[i]? = some u → sameTk t u = true) := (zipAll_iff.1 hsl).2
    have el : nb = na := by rw [ha.1, hb.1]; exact HEL.out.symm
    subst el
    have EA := Lib.hid ha.1
    rw [hsl] at HS
    clear hsl ha hb
    go_enter Tryd.func14, Tryd.ntmps14
    go_wp2_with fail
    refine HS.out.mono ?_
    rintro e w1 ⟨rfl, hb1⟩
    have HB1 := Lib.hid hb1
    clear hb1
    go_wp2_with fail
    go_loopw [5] (fun i wr => ∃ j : Nat, j ≤ nb ∧ i = .int .i64 j ∧ Hid (UpToP eqTk a b j) ∧ Hid (Below w.heap.size w wr)) (fun i _ => nb - (intOf i).toNat)
    case atStart => exact ⟨0, Nat.zero_le _, rfl, UpToP.zero _ _ _, HB1⟩
    case round =>
      obtain ⟨j, hj, rfl, HU, HB⟩ := hrel
      by_cases hlt : j < nb
      · obtain ⟨b1, o1, ⟨k, p, x, n⟩, rfl, hb1, hx, hc⟩ := (RA.out.below HB.out HB.out.size).one j hlt
        obtain ⟨b2, o2, ⟨k', p', x', n'⟩, rfl, hb2, hx', hc'⟩ := (RB.out.below HB.out HB.out.size).one j hlt
        obtain ⟨c0, c1, c2, c3⟩ := tk_cells hc
        obtain ⟨d0, d1, d2, d3⟩ := tk_cells hc'
        clear hc hc' c0 c2 c3 d0 d2 d3
        refine eq_ways (k := k) (p := p) (n := n) (k' := k') (p' := p') (n' := n') (x := x) (x' := x') _ (fun h1 he => ?_) (fun h1 he => ?_)
        · have HF := Lib.hid (zipAll_false hx hx' he)
          have e1 : (p != p') = true := by simpa using h1
          have e2 : (p == p') = false := by simpa using h1
          clear he h1 hx hx'
          go_wp2_with fail
          go_quiet (fail)
          go_wp2_with fail
          go_ret
          exact ⟨by rw [HF.out]; rfl, below_drewN HB.out _⟩
        · have HK := Lib.hid (HU.out.next hx hx' (he.trans (HSA.out j _ _ hx hx')))
          subst h1
          clear he hx hx'
          go_wp2_with fail
          go_quiet (fail)
          go_wp2_with fail
          go_roundw
          case rel => exact ⟨j + 1, by omega, by go_num, HK, below_drewN HB.out _⟩
          case measure => simp [intOf]; omega
      · have HK := Lib.hid (HU.out.done HEL.out (by have := EA.out; omega))
        have hn : ¬ ((j : Int) < (nb : Int)) := by omega
        go_wp2_with fail
        go_ret
        exact ⟨by rw [HK.out]; rfl, HB.out⟩

/-- how many bytes the texts of some tokens have -/
def textSum (l : List Tk) : Nat := (l.map (·.text.length)).sum
theorem textSum_take {l : List Tk} {j : Nat} {t : Tk} (h : l[j]? = some t) : textSum (l.take (j + 1)) = textSum (l.take j) + t.text.length := by
  unfold textSum
  rw [List.take_add_one, h]
  simp
def fewTk (l : List Tk) : Bool := decide (l.length ≤ 200) && decide (textSum l ≤ 2000)
set_option maxRecDepth 100000 in
set_option maxHeartbeats 4000000 in
theorem reffew_any (A : Option Addr) (na ca : Nat) (a : List Tk) (w : World) (ha : RdT w w.heap.size A na a) (hla : na ≤ maxLen) (ht : ∀ t ∈ a, t.text.length ≤ 140737488355328) :
    Calls Tryd.prog 15 #[.slice A na ca] w fun e w' => e = .returned (.bool (fewTk a)) ∧ w = w' := by
  have RA := Lib.hid ha
  have EA := Lib.hid ha.1
  have HT := Lib.hid ht
  unfold maxLen at hla
  clear ha ht
  go_enter Tryd.func15, Tryd.ntmps15
  go_wp2_with fail
  go_loop [3, 4] (fun s i => ∃ (j : Nat) (v : Int), j ≤ na ∧ i = .int .i64 j ∧ s = .int .i64 v ∧ Hid (na ≤ 200 → v = (textSum (a.take j) : Nat) ∧ textSum (a.take j) ≤ j * 140737488355328)) (fun _ i => na - (intOf i).toNat)
  case atStart => exact ⟨0, 0, Nat.zero_le _, rfl, rfl, fun _ => ⟨rfl, Nat.zero_le _⟩⟩
  case round =>
    obtain ⟨j, v, hj, rfl, rfl, HV⟩ := hrel
    by_cases hlt : j < na
    · obtain ⟨b1, o1, ⟨k, p, x, n⟩, rfl, hb1, hx, hc⟩ := RA.out.one j hlt
      obtain ⟨c0, c1, c2, c3⟩ := tk_cells hc
      have hxl := HT.out _ (List.mem_of_getElem? hx)
      have HV2 : Hid (na ≤ 200 → wrap64 (v + (x.length : Int)) = (textSum (a.take (j + 1)) : Nat) ∧ textSum (a.take (j + 1)) ≤ (j + 1) * 140737488355328) := fun h => by
        obtain ⟨e1, e2⟩ := HV.out h
        rw [textSum_take hx]
        have hj2 : j * 140737488355328 ≤ 200 * 140737488355328 := Nat.mul_le_mul_right _ (by omega)
        simp only at hxl ⊢
        simp only [wrap64]
        omega
      clear c0 c1 c3 hc hx hxl
      go_wp2_with fail
      go_round
      case rel => exact ⟨j + 1, _, by omega, by go_num, rfl, HV2⟩
      case measure => simp [intOf]; omega
    · have HE : Hid (fewTk a = (decide (na ≤ 200) && decide (v ≤ 2000))) := by
        unfold Hid fewTk
        have e := EA.out
        rw [← e]
        by_cases h : na ≤ 200
        · have h2 := (HV.out h).1
          rw [List.take_of_length_le (by omega)] at h2
          rw [h2, decide_eq_true h, Bool.true_and, Bool.true_and, decide_eq_decide]
          omega
        · rw [decide_eq_false h]; rfl
      have hn : ¬ ((j : Int) < (na : Int)) := by omega
      clear HV
      by_cases h1 : na ≤ 200
      · rw [decide_eq_true h1] at HE
        have h1' : (na : Int) ≤ 200 := by omega
        by_cases h2 : v ≤ 2000
        · rw [decide_eq_true h2] at HE
          go_wp2_with fail
          go_ret
          exact ⟨by rw [HE.out]; rfl, rfl⟩
        · rw [decide_eq_false h2] at HE
          go_wp2_with fail
          go_ret
          exact ⟨by rw [HE.out]; rfl, rfl⟩
      · rw [decide_eq_false h1] at HE
        have h1' : ¬ (na : Int) ≤ 200 := by omega
        go_wp2_with fail
        go_ret
        exact ⟨by rw [HE.out]; rfl, rfl⟩
end Go.Proofs.YtdllceggjjopgaaDoor
