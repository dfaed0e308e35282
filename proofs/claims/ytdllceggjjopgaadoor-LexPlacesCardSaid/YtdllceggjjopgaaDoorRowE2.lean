/- Slices of elements as append takes them. -/
import Derived.Test.YtdllceggjjopgaaDoorRowE
namespace Go.Proofs.YtdllceggjjopgaaDoor
open Go.RowKit

theorem src_rdeN {P : Program} {t e : TypeId} {α : Type} {m : Nat} {enc : α → List Value} (ht : P.underlying t = some (.slice e)) (hm : ∀ x, (enc x).length = m) (h1 : ∀ x, ∀ u ∈ enc x, u.oneCell' = true)
    {w : World} {B n c : Nat} {A : Option Addr} {l : List α} (h : RdE m enc w B A n l) : Src P m t (.slice A n c) n (flatE enc l) w := by
  rcases Nat.eq_zero_or_pos n with e | hn
  · subst e
    have hl : l = [] := List.eq_nil_of_length_eq_zero h.1.symm
    subst hl
    cases A with
    | none => exact Src.ofNil _ ht c
    | some a => exact Src.ofSlice _ ht a 0 c [] (by simp) (by simp) (by simp)
  · obtain ⟨b, o, rfl, _⟩ := h.2 hn
    exact src_rde ht hm h1 h
/-- one element in a row of its own, known whole -/
theorem src_row {P : Program} {t e te : TypeId} {m : Nat} {cs : List Value} (ht : P.underlying t = some (.slice e)) (hl : cs.length = m) (h1 : ∀ u ∈ cs, u.oneCell' = true) {w : World} {g : Nat}
    (hg : w.heap[g]? = some (.cells cs.toArray te (0, 0))) : Src P m t (.slice (some ⟨g, 0, none⟩) 1 1) 1 cs w := by
  refine Src.ofSlice _ ht _ 1 1 cs (by rw [Nat.one_mul]; exact hl) (fun j v hv => ?_) h1
  rw [add_lit', Nat.zero_add, cell_of_row _ _ j _ _ _ hg]
  simpa using hv
end Go.Proofs.YtdllceggjjopgaaDoor
