/- Small laws for regions that are walked by hand: facts of a block are carried as long as the block is as it was. -/
import Derived.Test.YtfolmglafnfcbaaDoorPath
import Derived.Test.YtfolmglafnfcbaaDoorClimbL
namespace Go.Proofs.YtfolmglafnfcbaaDoor
open Go.RowKit

/-- a load of a long array behind a guard that says yes -/
theorem wpList_load_want {P : Program} {ops : Array Oper} {rest : List Oper} {op : Oper} {a : Act} {w : World} {Q : Exit → Act → World → Prop} (hw : Region.wanted op (yielded ops a.tmps) = true) (ty : TypeId) (x : Operand) (ho : op.op = .load ty x)
    (b o : Nat) (hx : a.eval x = .pointer (some ⟨b, o, none⟩)) (cs : List Value) (d : TypeDesc) (hc : w.rangeAt b o cs)
    (hu : P.underlying ty = some d) (hd : d.isRow = true) (hi : (P.info? ty).map (·.size) = some cs.length)
    (h : wpList P ops Q rest (a.put op.dst (.agg cs.toArray)) w) : wpList P ops Q (op :: rest) a w :=
  BigFrame.wpList_want hw fun _ hK => wp_load_mid ty x ho b o hx cs d hc hu hd hi (hK _ _ h)
theorem owns0 {e : TypeId} {size : Nat} (u : World) (base : Nat) (hb : base ≤ u.heap.size) : Owns (u.alloc (.cells #[] e)) base e size u.heap.size 0 0 [] :=
  ⟨(Nat.zero_mul _).symm, hb, Nat.le_refl _, Nat.zero_le _, #[], heap_alloc_new _ _, (Nat.zero_mul _).symm, by simp⟩
theorem Owns.keep {w w' : World} {base g n cap : Nat} {e : TypeId} {size : Nat} {xs : List Value} (h : Owns w base e size g n cap xs) (k : w'.heap[g]? = w.heap[g]?) : Owns w' base e size g n cap xs := by
  obtain ⟨h1, h2, h3, h4, cur, h5, h6, h7⟩ := h
  exact ⟨h1, h2, h3, h4, cur, k.trans h5, h6, h7⟩
theorem IsD.keep {w w' : World} {g : Nat} (h : IsD w g) (k : w'.heap[g]? = w.heap[g]?) : IsD w' g := by
  obtain ⟨o, h1, h2⟩ := h
  exact ⟨o, k.trans h1, h2⟩
theorem DRow.keep {w w' : World} {g : Nat} {l : List UInt8} (h : DRow w g l) (k : w'.heap[g]? = w.heap[g]?) : DRow w' g l := k.trans h
/-- one digest in a place, as append takes it -/
theorem DRow.src1 {w : World} {g : Nat} {d : D} (h : DRow w g d) (hd : d.length = 32) : Src Tryd.prog 32 30 (.slice (some ⟨g, 0, none⟩) 1 1) 1 (bytesV d) w := by
  refine Src.ofSlice _ Tryd.underlying30 _ 1 1 (bytesV d) (by rw [bytesV_length, hd]) (fun j v hv => ?_) (bytesV_one d)
  rw [add_lit', Nat.zero_add, cell_of_row _ _ j _ _ _ h]
  simpa using hv
theorem flatD_one' (ps : List D) : ∀ u ∈ flatD ps, u.oneCell' = true := by
  intro u hu
  unfold flatD at hu
  obtain ⟨d, _, h⟩ := List.mem_flatMap.1 hu
  exact bytesV_one d u h
/-- a list of digests, as append takes it -/
theorem RdD.src {w : World} {B n c : Nat} {A : Option Addr} {ps : List D} (h : RdD w B A n ps) : Src Tryd.prog 32 30 (.slice A n c) n (flatD ps) w := by
  by_cases h0 : n = 0
  · have hx : ps = [] := List.eq_nil_of_length_eq_zero (by have := h.1; omega)
    subst h0 hx
    cases A with
    | none => exact Src.ofNil w Tryd.underlying30 c
    | some a => exact Src.ofSlice w Tryd.underlying30 a 0 c [] rfl (fun j u hu => by cases hu) (fun u hu => by cases hu)
  · obtain ⟨b, o, rfl, _, hcell⟩ := h.2.2 (by omega)
    refine Src.ofSlice w Tryd.underlying30 _ n c (flatD ps) (by rw [flatD_length ps h.2.1, ← h.1]) (fun j u hu => ?_) (flatD_one' ps)
    have hj : j < ps.length * 32 := by rw [← flatD_length ps h.2.1]; exact (List.getElem?_eq_some_iff.1 hu).1
    have hq : j / 32 < ps.length := by omega
    have hpd := List.getElem?_eq_getElem hq
    have hdl : (ps[j / 32]'hq).length = 32 := h.2.1 _ (List.getElem_mem hq)
    obtain ⟨v, hv⟩ : ∃ v, (bytesV (ps[j / 32]'hq))[j % 32]? = some v := ⟨_, List.getElem?_eq_getElem (by rw [bytesV_length, hdl]; omega)⟩
    have e := flatD_at ps (j / 32) (j % 32) _ v h.2.1 hpd hv
    rw [show j / 32 * 32 + j % 32 = j by omega, hu] at e
    injection e with e
    subst e
    have hc := hcell (j / 32) _ hpd (j % 32) _ hv
    rw [add_lit', show o + j = o + j / 32 * 32 + j % 32 by omega]
    exact hc
end Go.Proofs.YtfolmglafnfcbaaDoor
