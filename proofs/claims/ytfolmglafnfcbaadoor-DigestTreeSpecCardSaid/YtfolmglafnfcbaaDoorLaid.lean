/- What the row's condition on the package variable gives: the table lies in block 0. -/
import Derived.Test.YtfolmglafnfcbaaDoorRows
import Derived.Test.YtfolmglafnfcbaaDoorSane
import Derived.ProofKit
import Derived.LaidMore
import Derived.OpenShut
import Derived.Stop.Joined
namespace Go.Proofs.YtfolmglafnfcbaaDoor
open Go.ChangeShapes Go.WideShapes Go.ChangeAt Go.RowKit

theorem own : ownKnob Tryd.prog.godebug = .none := by kernel_rfl
theorem laidOut : laidOutB Tryd.prog = true := by kernel_rfl
theorem kNamed : Tryd.prog.globalNamed "backflush/digest.k" = some 0 := by kernel_rfl
theorem kType : (Tryd.prog.globals[0]?).map (·.type) = some 69 := by kernel_rfl
abbrev laidK : List (String × DataW Unit) := [("backflush/digest.k", Rows.laid_backflush_digest_k)]
theorem laid_eq : (Rows.laid_backflush_digest_k : DataW Unit) = .agg (KL.map fun x => .lit (.int .u32 x)) := by kernel_rfl
/-- the door's own heap meets the condition -/
theorem door_met (os : Os) (args : Array Value) : laidMetH Tryd.prog laidK ((World.doorLaid Tryd.prog 400 os).forCall (fun _ _ => 0) ⟨#[], args, []⟩).memory :=
  laidMetH_of_parts3 (fuel := 8) (laidMet_of_run' 8 (by kernel_rfl) (by kernel_rfl)) (by kernel_rfl) (by kernel_rfl)

theorem kok_of_laid {W : World} (h : laidMetH Tryd.prog laidK W) : KOK W := by
  rw [MakeChecks.laidMetH_plain _ _ _ (by kernel_rfl)] at h
  obtain ⟨ps, ⟨g, t, cs, fuel, p, q, hg, ht, hvar, hd, _, _⟩, _⟩ := h
  obtain rfl := Option.some.inj (kNamed.symm.trans hg)
  obtain rfl := Option.some.inj (kType.symm.trans ht)
  obtain ⟨xs, m, rfl, hx, hlen, hn, hel⟩ := DataW.trod_array Tryd.underlying69 hd
  have ce : Tryd.prog.cellsOf 49 = 1 := by kernel_rfl
  have ca : Tryd.prog.cellsOf 69 = 64 := by kernel_rfl
  rw [ca] at hlen
  simp only [Prod.mk.injEq] at hx
  have hx1 := hx.1
  rw [laid_eq] at hx1
  injection hx1 with hx1
  intro i hi
  have hii : i < xs.length := by omega
  have h1 := hel i hi
  rw [ce, Nat.mul_one, List.getElem?_eq_getElem hii] at h1
  obtain ⟨k, e1, e2, _⟩ := DataW.trod_int Tryd.underlying49 h1
  have hcell := World.var?_cell hg hvar i
  have hc1 : cs[i]? = some (.int .u32 k) := by
    have h2 := congrArg (·[0]?) e1
    simp at h2
    simpa using h2
  rw [hcell, hc1]
  have hk : (KL.map fun x => (DataW.lit (.int .u32 x) : DataW Unit))[i]? = some (DataW.lit (.int .u32 k)) := by
    rw [hx1, List.getElem?_map, List.getElem?_eq_getElem hii, e2]
    rfl
  rw [List.getElem?_map] at hk
  cases hK : KL[i]? with
  | none => rw [hK] at hk; cases hk
  | some y =>
    rw [hK] at hk
    simp at hk
    rw [List.getD_eq_getElem?_getD, hK, ← hk]
    rfl
end Go.Proofs.YtfolmglafnfcbaaDoor
