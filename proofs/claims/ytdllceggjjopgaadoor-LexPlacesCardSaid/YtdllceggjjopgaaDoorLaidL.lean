/- What the row's condition on the package variables gives: the tables lie where they lie. -/
import Derived.Test.YtdllceggjjopgaaDoorSaneL
import Derived.Test.YtdllceggjjopgaaDoorPost
import Derived.Test.YtdllceggjjopgaaDoorRows
import Derived.LaidMore
import Derived.Stop.Joined
import Derived.ChangeMaps5
import Derived.SevenTiedAt
import Derived.SizedLaws
import Derived.Stop.LaidErr
namespace Go.Proofs.YtdllceggjjopgaaDoor
open Go.ChangeShapes Go.WideShapes Go.ChangeAt Go.RowKit

abbrev laidK : List (String × DataW Unit) := [("math/bits.deBruijn32tab", Rows.laid_math_bits_deBruijn32tab), ("math/bits.deBruijn64tab", Rows.laid_math_bits_deBruijn64tab), ("internal/strconv.uint64pow10", Rows.laid_internal_strconv_uint64pow10), ("backflush/lex.classes", Rows.laid_backflush_lex_classes)]
theorem clNamed : Tryd.prog.globalNamed "backflush/lex.classes" = some 0 := by kernel_rfl
theorem clType : (Tryd.prog.globals[0]?).map (·.type) = some 73 := by kernel_rfl
theorem powType : (Tryd.prog.globals[2]?).map (·.type) = some 89 := by kernel_rfl
theorem cl_eq : (Rows.laid_backflush_lex_classes : DataW Unit) = Lib.tabData .i64 (classL.map (Int.ofNat)) := by kernel_rfl
theorem pow_eq : (Rows.laid_internal_strconv_uint64pow10 : DataW Unit) = Lib.tabData .u64 Lib.pow10Tab := by kernel_rfl
/-- the door's own heap meets the condition -/
theorem door_met (os : Os) (args : Array Value) : laidMetH Tryd.prog laidK ((World.doorLaid Tryd.prog 400 os).forCall (fun _ _ => 0) ⟨#[], args, []⟩).memory :=
  laidMetH_of_parts3 (fuel := 8) (laidMet_of_run' 8 (by kernel_rfl) (by kernel_rfl)) (by kernel_rfl) (by kernel_rfl)

theorem kok_of_laid {W : World} (h : laidMetH Tryd.prog laidK W) : KOK W := by
  rw [MakeChecks.laidMetH_plain _ _ _ (by kernel_rfl)] at h
  have h3 : laidMet Tryd.prog (("internal/strconv.uint64pow10", Lib.tabData .u64 Lib.pow10Tab) :: [("backflush/lex.classes", Lib.tabData .i64 (classL.map (Int.ofNat)))]) W := by
    rw [← pow_eq, ← cl_eq]
    exact Go.laidMet.tail (Go.laidMet.tail h)
  have hp := Lib.tabIs_of_head powNamed powType Tryd.underlying89 Tryd.underlying82 (by kernel_rfl) (by kernel_rfl) h3
  have hc := Lib.tabIs_of_head clNamed clType Tryd.underlying73 Tryd.underlying54 (by kernel_rfl) (by kernel_rfl) (Go.laidMet.tail h3)
  refine ⟨fun i c hi => ?_, hp⟩
  rw [World.var?_cell clNamed hc i]
  simp [hi]
end Go.Proofs.YtdllceggjjopgaaDoor
