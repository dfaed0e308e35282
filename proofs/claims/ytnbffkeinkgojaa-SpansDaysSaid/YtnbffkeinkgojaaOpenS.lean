/- Arguments of types []Span and Span, as the reading finds them. -/
import Derived.Test.YtnbffkeinkgojaaPost
import Derived.Test.YtnbffkeinkgojaaMemS
namespace Go.Proofs.Ytnbffkeinkgojaa
open Go.ChangeShapes Go.WideShapes Go.ChangeAt Go.RowKit

section
variable {H : Type} {enc : TypeId × Value → H} {w : World} {base : Nat} {spare : Nat → Bool} {held : Bool}

set_option maxRecDepth 100000 in
theorem span_cells (fuel : Nat) (cs : List Value) (x : DataW H × List MemPlace) (h : DataW.trod enc Try.prog w base spare held fuel 31 cs = some x) :
    ∃ F T : Int, cs = [.int .i64 F, .int .i64 T] ∧ I64 F ∧ I64 T := by
  have k2 : Try.prog.cellsOf 31 = 2 := by kernel_rfl
  have kint : Try.prog.cellsOf 3 = 1 := by kernel_rfl
  obtain ⟨xs, n, rfl, _, hlen, hxl, hf⟩ := DataW.trod_struct Try.underlying31 h
  rw [k2] at hlen
  match cs, hlen with
  | [c0, c1], _ =>
    match xs, hxl with
    | [y0, y1], _ =>
      have e0 : DataW.trod enc Try.prog w base spare held n 3 [c0] = some y0 := by simpa [kint] using hf 0 _ rfl
      have e1 : DataW.trod enc Try.prog w base spare held n 3 [c1] = some y1 := by simpa [kint] using hf 1 _ rfl
      obtain ⟨k, h0, _, hk⟩ := DataW.trod_int Try.underlying3 e0
      obtain ⟨m, h1, _, hm⟩ := DataW.trod_int Try.underlying3 e1
      injection h0 with h0
      injection h1 with h1
      subst h0
      subst h1
      exact ⟨k, m, rfl, i64_bd hk, i64_bd hm⟩
theorem open_span {r : Reach} {b0 : Nat} {x : Value} {d : DataW H} {p : List MemPlace} (hv : Value.okWide Try.prog w r b0 31 x) (h : DataW.Trod enc Try.prog w base spare held 31 x d p) :
    ∃ F T : Int, x = .agg #[.int .i64 F, .int .i64 T] ∧ I64 F ∧ I64 T := by
  obtain ⟨cs, rfl, _⟩ := okWide_struct Try.underlying31 hv
  obtain ⟨fuel, hf⟩ := h
  obtain ⟨F, T, hcs, hF, hT⟩ := span_cells fuel _ _ hf
  refine ⟨F, T, ?_, hF, hT⟩
  obtain ⟨l⟩ := cs
  have hl : l = [.int .i64 F, .int .i64 T] := by simpa [Value.cells] using hcs
  rw [hl]

set_option maxRecDepth 100000 in
theorem open_spans {r : Reach} {b0 : Nat} {x : Value} {d : DataW H} {p : List MemPlace} (hv : Value.okWide Try.prog w r b0 22 x) (h : DataW.Trod enc Try.prog w base spare held 22 x d p) :
    ∃ (A : Option Addr) (n cap : Nat) (l : List Sp), x = .slice A n cap ∧ RdS w w.heap.size A n l ∧ n ≤ cap ∧ cap ≤ maxLen := by
  obtain ⟨a0, len0, cap0, rfl⟩ := okWide_slice Try.underlying22 hv
  obtain ⟨fuel, hf⟩ := h
  have k2 : Try.prog.cellsOf 31 = 2 := by kernel_rfl
  rcases Go.Deep.open_slice Try.underlying22 hf with ⟨h1, _⟩ | ⟨a, len, cap, m, n, D, Pl, h1, _, hlc, hcm, hm, _, hat⟩
  · injection h1 with h1
    rw [h1]
    exact ⟨none, 0, 0, [], rfl, RdS.nil _ _ _, Nat.le_refl _, by unfold maxLen; omega⟩
  · injection h1 with h1
    rw [h1]
    have hlm : len ≤ m := by rw [hm]; split <;> omega
    rw [k2] at hat
    have hex : ∀ i, ∃ v : Sp, i < len → w.cells? base (a.add (i * 2)) 2 = some [.int .i64 v.1, .int .i64 v.2] ∧ I64 v.1 ∧ I64 v.2 := by
      intro i
      by_cases hi : i < len
      · obtain ⟨cs', h7, h8⟩ := hat i (by omega)
        obtain ⟨F, T, rfl, hF, hT⟩ := span_cells n cs' _ h8
        exact ⟨(F, T), fun _ => ⟨h7, hF, hT⟩⟩
      · exact ⟨(0, 0), fun h => absurd h hi⟩
    obtain ⟨f, hf2⟩ := Classical.axiomOfChoice hex
    have hll : ((List.range len).map f).length = len := by simp
    refine ⟨some a, len, cap, (List.range len).map f, rfl, ⟨hll.symm, fun s hs => ?_, fun hn => ?_⟩, hlc, hcm⟩
    · obtain ⟨j, hj, rfl⟩ := List.mem_map.1 hs
      exact (hf2 j (List.mem_range.1 hj)).2
    have hsp : a.spot = .none := by
      obtain ⟨h7', _⟩ := hf2 0 hn
      obtain ⟨_, _, hc'⟩ := World.cells?_some h7'
      have g00 := hc' 0 (by omega)
      have ea : (a.add (0 * 2)).add 0 = a := by simp [Addr.add]
      rw [ea] at g00
      exact flat_of_cell g00
    obtain ⟨b, o, sp⟩ := a
    have hsp' : sp = .none := hsp
    subst hsp'
    have hcell : ∀ j, j < len → w.cell? ⟨b, o + j * 2, none⟩ = some (.int .i64 (f j).1) ∧ w.cell? ⟨b, o + j * 2 + 1, none⟩ = some (.int .i64 (f j).2) := fun j hj => by
      obtain ⟨_, _, hc⟩ := World.cells?_some (hf2 j hj).1
      have g0 : w.cell? ((⟨b, o, none⟩ : Addr).add (j * 2) |>.add 0) = some (.int .i64 (f j).1) := hc 0 (by omega)
      have g1 : w.cell? ((⟨b, o, none⟩ : Addr).add (j * 2) |>.add 1) = some (.int .i64 (f j).2) := hc 1 (by omega)
      rw [add_lit', add_lit'] at g0 g1
      exact ⟨g0, g1⟩
    refine ⟨b, o, rfl, World.block_lt_of_cell? w _ (hcell 0 hn).1, fun j s hs => ?_⟩
    have hj : j < len := by
      have := (List.getElem?_eq_some_iff.1 hs).1
      rwa [hll] at this
    have hxe : s = f j := by
      rw [List.getElem?_map, List.getElem?_range hj] at hs
      exact (Option.some.inj hs).symm
    subst hxe
    exact hcell j hj
end
end Go.Proofs.Ytnbffkeinkgojaa
