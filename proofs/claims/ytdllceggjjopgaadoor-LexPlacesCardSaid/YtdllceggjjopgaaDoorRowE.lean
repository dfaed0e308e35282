/- Slices of elements of m cells each in memory, for every layer. -/
import Derived.Test.YtdllceggjjopgaaDoorBase
namespace Go.Proofs.YtdllceggjjopgaaDoor
open Go.RowKit

def flatE {α : Type} (enc : α → List Value) (l : List α) : List Value := l.flatMap enc
theorem flatE_nil {α : Type} (enc : α → List Value) : flatE enc [] = [] := rfl
theorem flatE_cons {α : Type} (enc : α → List Value) (x : α) (l : List α) : flatE enc (x :: l) = enc x ++ flatE enc l := rfl
theorem flatE_append {α : Type} (enc : α → List Value) (a b : List α) : flatE enc (a ++ b) = flatE enc a ++ flatE enc b := List.flatMap_append
theorem flatE_one {α : Type} (enc : α → List Value) (x : α) : flatE enc [x] = enc x := by simp [flatE]
theorem flatE_length {α : Type} {enc : α → List Value} {m : Nat} (hm : ∀ x, (enc x).length = m) : ∀ l : List α, (flatE enc l).length = l.length * m
  | [] => by simp [flatE]
  | x :: r => by rw [flatE_cons, List.length_append, flatE_length hm r, hm, List.length_cons, Nat.succ_mul, Nat.add_comm]
theorem flatE_one' {α : Type} {enc : α → List Value} (h : ∀ x, ∀ u ∈ enc x, u.oneCell' = true) (l : List α) : ∀ u ∈ flatE enc l, u.oneCell' = true := by
  intro u hu
  obtain ⟨x, _, hx⟩ := List.mem_flatMap.1 hu
  exact h x u hx
theorem flatE_at {α : Type} {enc : α → List Value} {m : Nat} (hm : ∀ x, (enc x).length = m) : ∀ (l : List α) (j : Nat) (x : α), l[j]? = some x → ∀ i v, (enc x)[i]? = some v → (flatE enc l)[j * m + i]? = some v
  | [], _, _, h, _, _, _ => by simp at h
  | y :: r, 0, x, h, i, v, hv => by
    simp at h
    subst h
    have hi := (List.getElem?_eq_some_iff.1 hv).1
    rw [flatE_cons, Nat.zero_mul, Nat.zero_add, List.getElem?_append_left hi]
    exact hv
  | y :: r, j + 1, x, h, i, v, hv => by
    have ih := flatE_at hm r j x (by simpa using h) i v hv
    rw [flatE_cons, List.getElem?_append_right (by rw [hm, Nat.succ_mul]; omega), hm, show (j + 1) * m + i - m = j * m + i by rw [Nat.succ_mul]; omega]
    exact ih

/-- a slice of n elements of m cells, its memory below block B -/
def RdE {α : Type} (m : Nat) (enc : α → List Value) (w : World) (B : Nat) (A : Option Addr) (n : Nat) (l : List α) : Prop :=
  n = l.length ∧ (0 < n → ∃ b o : Nat, A = some ⟨b, o, none⟩ ∧ b < B ∧ ∀ (j : Nat) (x : α), l[j]? = some x → w.rangeAt b (o + j * m) (enc x))
section
variable {α : Type} {m : Nat} {enc : α → List Value} {w w' : World} {B B' n : Nat} {A : Option Addr} {l : List α}
theorem RdE.keep (h : RdE m enc w B A n l) (hB : B ≤ B') (hk : ∀ p : Addr, p.block < B → w'.cell? p = w.cell? p) : RdE m enc w' B' A n l :=
  ⟨h.1, fun hn => by
    obtain ⟨b, o, e, hb, hc⟩ := h.2 hn
    exact ⟨b, o, e, by omega, fun j x hx i v hv => (hk _ hb).trans (hc j x hx i v hv)⟩⟩
theorem RdE.below (h : RdE m enc w B A n l) (hb : Below B w w') (hB : B ≤ B') : RdE m enc w' B' A n l := h.keep hB fun _ hp => hb.cell hp
theorem RdE.nil (w : World) (B : Nat) (A : Option Addr) : RdE m enc w B A 0 [] := ⟨rfl, fun h => absurd h (by omega)⟩
theorem RdE.of_owns {base g cap : Nat} {t : TypeId} (h : Owns w base t m g n cap (flatE enc l)) (hm : ∀ x, (enc x).length = m) (hm0 : 0 < m) (hB : g < B) : RdE m enc w B (some ⟨g, 0, none⟩) n l := by
  have hl := h.1
  rw [flatE_length hm] at hl
  refine ⟨(Nat.eq_of_mul_eq_mul_right hm0 hl).symm, fun _ => ⟨g, 0, rfl, hB, fun j x hx i v hv => ?_⟩⟩
  rw [Nat.zero_add]
  exact h.cell _ _ (flatE_at hm l j x hx i v hv)
theorem RdE.one (h : RdE m enc w B A n l) (j : Nat) (hj : j < n) : ∃ (b o : Nat) (x : α), A = some ⟨b, o, none⟩ ∧ b < B ∧ l[j]? = some x ∧ w.rangeAt b (o + j * m) (enc x) := by
  obtain ⟨x, hx⟩ : ∃ x, l[j]? = some x := ⟨l[j]'(by have := h.1; omega), List.getElem?_eq_getElem _⟩
  obtain ⟨b, o, e, hb, hc⟩ := h.2 (by omega)
  exact ⟨b, o, x, e, hb, hx, hc j x hx⟩
theorem RdE.take (h : RdE m enc w B A n l) {k : Nat} (hk : k ≤ n) : RdE m enc w B A k (l.take k) :=
  ⟨by rw [List.length_take]; have := h.1; omega, fun hn => by
    obtain ⟨b, o, e, hb, hc⟩ := h.2 (by omega)
    refine ⟨b, o, e, hb, fun j x hx => hc j x ?_⟩
    rw [List.getElem?_take] at hx
    split at hx
    · exact hx
    · cases hx⟩
theorem RdE.drop (h : RdE m enc w B A n l) {k : Nat} (hk : k ≤ n) : RdE m enc w B (A.map fun a => ⟨a.block, a.off + k * m, a.spot⟩) (n - k) (l.drop k) :=
  ⟨by rw [List.length_drop]; have := h.1; omega, fun hn => by
    obtain ⟨b, o, rfl, hb, hc⟩ := h.2 (by omega)
    refine ⟨b, o + k * m, rfl, hb, fun j x hx => ?_⟩
    rw [List.getElem?_drop] at hx
    have := hc (k + j) x hx
    rwa [show o + (k + j) * m = o + k * m + j * m by rw [Nat.add_mul]; omega] at this⟩
theorem OwnsN.rde {base cap : Nat} {t : TypeId} (h : OwnsN w base t m A n cap (flatE enc l)) (hm : ∀ x, (enc x).length = m) (hm0 : 0 < m) : RdE m enc w w.heap.size A n l ∧ n ≤ cap ∧ cap ≤ maxLen := by
  rcases h with ⟨rfl, rfl, rfl, hx⟩ | ⟨g, rfl, ho⟩
  · have hl := flatE_length hm l
    rw [hx] at hl
    have h0 : l.length * m = 0 := hl.symm
    have e : l = [] := List.eq_nil_of_length_eq_zero (by rcases Nat.mul_eq_zero.1 h0 with h | h <;> omega)
    subst e
    exact ⟨RdE.nil _ _ _, Nat.le_refl _, Nat.zero_le _⟩
  · exact ⟨RdE.of_owns ho hm hm0 ho.lt, ho.2.2.1, ho.2.2.2.1⟩
end
/-- what a call that makes a slice hands back -/
def NewE {α : Type} (m : Nat) (enc : α → List Value) (u u' : World) (l : List α) (e : Ending) : Prop :=
  ∃ (A : Option Addr) (n cap : Nat), e = .returned (.slice A n cap) ∧ RdE m enc u' u'.heap.size A n l ∧ n ≤ cap ∧ cap ≤ maxLen ∧ Below u.heap.size u u'
/-- one element in a place of its own, as append takes it -/
theorem src_new {P : Program} {t : TypeId} (e : TypeId) {m : Nat} {cs : List Value} (ht : P.underlying t = some (.slice e)) (hl : cs.length = m) (h1 : ∀ u ∈ cs, u.oneCell' = true) (w : World) :
    Src P m t (.slice (some ⟨w.heap.size, 0, none⟩) 1 1) 1 cs (w.alloc (.cells cs.toArray e)) := by
  refine Src.ofSlice _ ht _ 1 1 cs (by rw [Nat.one_mul]; exact hl) (fun j v hv => ?_) h1
  rw [add_lit', Nat.zero_add, cell_of_row _ _ j _ _ _ (heap_alloc_new _ _)]
  simpa using hv
/-- a whole slice, as append takes it -/
theorem src_rde {P : Program} {t e : TypeId} {α : Type} {m : Nat} {enc : α → List Value} (ht : P.underlying t = some (.slice e)) (hm : ∀ x, (enc x).length = m) (h1 : ∀ x, ∀ u ∈ enc x, u.oneCell' = true)
    {w : World} {B b o n c : Nat} {l : List α} (h : RdE m enc w B (some ⟨b, o, none⟩) n l) : Src P m t (.slice (some ⟨b, o, none⟩) n c) n (flatE enc l) w := by
  refine Src.ofSlice _ ht _ n c (flatE enc l) (by rw [flatE_length hm, h.1]) (fun j v hv => ?_) (flatE_one' h1 l)
  rw [add_lit']
  have hj := (List.getElem?_eq_some_iff.1 hv).1
  rw [flatE_length hm] at hj
  have hm0 : 0 < m := by
    rcases Nat.eq_zero_or_pos m with e | e
    · subst e; simp at hj
    · exact e
  have hq : j / m < l.length := by rw [Nat.div_lt_iff_lt_mul hm0]; exact hj
  obtain ⟨b', o', e, _, hc⟩ := h.2 (by rw [h.1]; exact Nat.lt_of_le_of_lt (Nat.zero_le _) hq)
  injection e with e
  injection e with e1 e2
  subst e1 e2
  obtain ⟨x, hx⟩ : ∃ x, l[j / m]? = some x := ⟨l[j / m], List.getElem?_eq_getElem hq⟩
  have hr : j % m < (enc x).length := by rw [hm]; exact Nat.mod_lt _ hm0
  have hd := Nat.div_add_mod j m
  have hv' := flatE_at hm l (j / m) x hx (j % m) _ (List.getElem?_eq_getElem hr)
  rw [show j / m * m + j % m = j by rw [Nat.mul_comm]; exact hd, hv] at hv'
  have := hc (j / m) x hx (j % m) _ (List.getElem?_eq_getElem hr)
  rw [show o + j / m * m + j % m = o + j by rw [Nat.mul_comm]; omega] at this
  rw [this, ← hv']
end Go.Proofs.YtdllceggjjopgaaDoor
