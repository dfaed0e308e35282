/- Equality of two digests. -/
import Derived.Test.YtfolmglafnfcbaaDoorTree
import Derived.ChangeKeysEq
namespace Go.Proofs.YtfolmglafnfcbaaDoor
open Go.RowKit

theorem eqItems_dg (w : World) (d : Nat) (a b : D) (ha : a.length = 32) (hb : b.length = 32) : ∀ (k s : Nat), s + k = 32 →
    (Op.eqItems (d + 1) 5 1 (bytesV a).toArray (bytesV b).toArray (List.range' s k)).run Tryd.prog w = .ok (a.drop s == b.drop s) w
  | 0, s, h => by
    rw [List.drop_of_length_le (by omega), List.drop_of_length_le (by omega)]
    simp [Op.eqItems]
  | k + 1, s, h => by
    have e1 : a.drop s = a[s]'(by omega) :: a.drop (s + 1) := List.drop_eq_getElem_cons (by omega)
    have e2 : b.drop s = b[s]'(by omega) :: b.drop (s + 1) := List.drop_eq_getElem_cons (by omega)
    have g1 : (bytesV a).toArray[s * 1]? = some (.int .u8 ((a[s]'(by omega)).toNat : Int)) := by
      rw [Nat.mul_one, List.getElem?_toArray]
      simp [bytesV, List.getElem?_eq_getElem (show s < a.length by omega)]
    have g2 : (bytesV b).toArray[s * 1]? = some (.int .u8 ((b[s]'(by omega)).toNat : Int)) := by
      rw [Nat.mul_one, List.getElem?_toArray]
      simp [bytesV, List.getElem?_eq_getElem (show s < b.length by omega)]
    have hp : Tryd.prog.plainKey 5 = true := by kernel_rfl
    rw [List.range'_succ]
    simp only [Op.eqItems, Sem.run_bind, run_part_plain w hp g1, run_part_plain w hp g2, run_equalIn_int w d 5 .u8 .u8 _ _ Tryd.underlying5, Result.andThen_ok]
    rw [e1, e2]
    have hc : (((a[s]'(by omega)).toNat : Int) == ((b[s]'(by omega)).toNat : Int)) = (a[s]'(by omega) == b[s]'(by omega)) := by
      rw [Bool.eq_iff_iff]
      simp only [beq_iff_eq]
      constructor
      · intro h
        exact UInt8.toNat_inj.1 (by omega)
      · intro h; rw [h]
    rw [hc]
    cases hq : (a[s]'(by omega) == b[s]'(by omega))
    · simp only [Bool.not_false, if_true, Sem.run_pure, List.cons_beq_cons, hq, Bool.false_and]
    · simp only [Bool.not_true, Bool.false_eq_true, if_false, List.cons_beq_cons, hq, Bool.true_and]
      exact eqItems_dg w d a b ha hb k (s + 1) (by omega)

theorem u8_info : ∃ i, Tryd.prog.info? 5 = some i := by
  have h : (Tryd.prog.info? 5).isSome = true := by kernel_rfl
  exact Option.isSome_iff_exists.1 h
/-- the operation == on two digests -/
theorem run_eql_dg (w : World) (a b : D) (ha : a.length = 32) (hb : b.length = 32) : (binOp .eql 26 (.agg (bytesV a).toArray) (.agg (bytesV b).toArray)).run Tryd.prog w = .ok (.bool (a == b)) w := by
  rw [run_eql_struct, show (10000 : Nat) = 9998 + 1 + 1 from rfl, run_equalIn_array w (9998 + 1) _ _ Tryd.underlying26 u8_info.choose_spec, show Tryd.prog.cellsOf 5 = 1 by kernel_rfl, List.range_eq_range', eqItems_dg w 9998 a b ha hb 32 0 rfl]
  rfl
theorem run_neq_dg (w : World) (a b : D) (ha : a.length = 32) (hb : b.length = 32) : (binOp .neq 26 (.agg (bytesV a).toArray) (.agg (bytesV b).toArray)).run Tryd.prog w = .ok (.bool (!(a == b))) w := by
  rw [run_neq_struct, show (10000 : Nat) = 9998 + 1 + 1 from rfl, run_equalIn_array w (9998 + 1) _ _ Tryd.underlying26 u8_info.choose_spec, show Tryd.prog.cellsOf 5 = 1 by kernel_rfl, List.range_eq_range', eqItems_dg w 9998 a b ha hb 32 0 rfl]
  rfl
theorem run_eql_same (w : World) (a : D) (ha : a.length = 32) : (binOp .eql 26 (.agg (bytesV a).toArray) (.agg (bytesV a).toArray)).run Tryd.prog w = .ok (.bool true) w := by
  rw [run_eql_dg w a a ha ha, beq_self_eq_true]
theorem dg_guard (op : BinOp) (x y : Operand) (w : World) (a b : Array Value) : (eqGuard op 26 x y (.agg a) (.agg b)).run Tryd.prog w = .ok () w := run_eqGuard_agg w op _ x y a b (by kernel_rfl)
end Go.Proofs.YtfolmglafnfcbaaDoor
