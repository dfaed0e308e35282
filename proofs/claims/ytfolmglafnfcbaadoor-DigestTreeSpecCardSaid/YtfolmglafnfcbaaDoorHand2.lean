/- More small laws for regions that are walked by hand. -/
import Derived.Test.YtfolmglafnfcbaaDoorHand
namespace Go.Proofs.YtfolmglafnfcbaaDoor
open Go.RowKit

/-- one digest in a place, as a list -/
theorem DRow.rdd1 {w : World} {g : Nat} {d : D} (h : DRow w g d) (hd : d.length = 32) : RdD w w.heap.size (some ⟨g, 0, none⟩) 1 [d] :=
  ⟨rfl, fun x hx => by rw [List.mem_singleton.1 hx]; exact hd, fun _ => ⟨g, 0, rfl, h.lt, fun j x hj i v hv => by
    have e : j = 0 := by
      have := (List.getElem?_eq_some_iff.1 hj).1
      simp at this
      exact this
    subst e
    simp at hj
    subst hj
    rw [cell_of_row _ _ _ _ _ _ h]
    simpa using hv⟩⟩
/-- a digest is stored in its place: a step of a drawn region -/
theorem step_store_D {ops : Array Oper} {o : Oper} {a : Act} {w : World} {K : Act → World → Prop} {Q : Exit → Act → World → Prop} {E : Prop} (hgd : o.guard = none) (x y : Operand)
    (ho : o.op = .store 26 x y) (hdst : o.dst = none) (g : Nat) (d : D) (hx : a.eval x = .pointer (some ⟨g, 0, none⟩)) (hy : a.eval y = .agg (bytesV d).toArray) (hd : d.length = 32) (hF : IsD w g)
    (h : K a (w.setRow g (bytesV d).toArray)) : if Region.wanted o (yielded ops a.tmps) = true then Oper.wp Tryd.prog o a w K Q else E := by
  have hw : Region.wanted o (yielded ops a.tmps) = true := by simp [Region.wanted, hgd]
  rw [if_pos hw]
  refine wp_store_mid (P := Tryd.prog) _ x y ho g 0 (bytesV d).toArray hx hy ?_ ?_ (all_oneCell_toArray (bytesV_one d)) ?_
  · rw [List.size_toArray]; exact hF.there d hd
  · exact dg_info d hd
  · rw [hdst]
    simp only [Act.put]
    rw [show w.setCells g 0 ((bytesV d).toArray.toList) = w.setRow g (bytesV d).toArray from setCells_row hF hd]
    exact h
end Go.Proofs.YtfolmglafnfcbaaDoor
