/- A slice argument of elements of m cells, as the reading finds it: for every layer. -/
import Derived.Test.YtdllceggjjopgaaDoorPost
import Derived.Test.YtdllceggjjopgaaDoorRowE
namespace Go.Proofs.YtdllceggjjopgaaDoor
open Go.ChangeShapes Go.WideShapes Go.ChangeAt Go.RowKit

theorem open_rows {H : Type} {enc : TypeId × Value → H} {w : World} {base : Nat} {spare : Nat → Bool} {held : Bool} {α : Type} {m : Nat} {f : α → List Value} {ok : α → Prop} {tS tE : TypeId} {r : Reach} {b0 : Nat} {x : Value} {d : DataW H} {p : List MemPlace}
    (hu : Tryd.prog.underlying tS = some (.slice tE)) (hk : Tryd.prog.cellsOf tE = m) (hm : 0 < m) (x0 : α) (hlen : ∀ x, (f x).length = m)
    (hel : ∀ fuel cs y, DataW.trod enc Tryd.prog w base spare held fuel tE cs = some y → ∃ v, cs = f v ∧ ok v)
    (hv : Value.okWide Tryd.prog w r b0 tS x) (h : DataW.Trod enc Tryd.prog w base spare held tS x d p) :
    ∃ (A : Option Addr) (n cap : Nat) (l : List α), x = .slice A n cap ∧ RdE m f w w.heap.size A n l ∧ n ≤ cap ∧ cap ≤ maxLen ∧ ∀ v ∈ l, ok v := by
  obtain ⟨a0, len0, cap0, rfl⟩ := okWide_slice hu hv
  obtain ⟨fuel, hf⟩ := h
  rcases Go.Deep.open_slice hu hf with ⟨h1, _⟩ | ⟨a, len, cap, k, n, D, Pl, h1, _, hlc, hcm, hk2, _, hat⟩
  · injection h1 with h1
    rw [h1]
    exact ⟨none, 0, 0, [], rfl, RdE.nil _ _ _, Nat.le_refl _, by unfold maxLen; omega, fun _ hv => by cases hv⟩
  · injection h1 with h1
    rw [h1]
    have hlm : len ≤ k := by rw [hk2]; split <;> omega
    rw [hk] at hat
    have hex : ∀ i, ∃ v : α, i < len → w.cells? base (a.add (i * m)) m = some (f v) ∧ ok v := by
      intro i
      by_cases hi : i < len
      · obtain ⟨cs', h7, h8⟩ := hat i (by omega)
        obtain ⟨v, rfl, hv⟩ := hel n cs' _ h8
        exact ⟨v, fun _ => ⟨h7, hv⟩⟩
      · exact ⟨x0, fun h => absurd h hi⟩
    obtain ⟨g, hg⟩ := Classical.axiomOfChoice hex
    have hll : ((List.range len).map g).length = len := by simp
    have hval : ∀ j, j < len → ∀ i v, (f (g j))[i]? = some v → w.cell? ((a.add (j * m)).add i) = some v := fun j hj i v hiv => by
      obtain ⟨_, hl, hc⟩ := World.cells?_some (hg j hj).1
      have hi := (List.getElem?_eq_some_iff.1 hiv).1
      rw [hlen] at hi
      rw [hc i hi, hiv]
    refine ⟨some a, len, cap, (List.range len).map g, rfl, ⟨hll.symm, fun hn => ?_⟩, hlc, hcm, fun v hv => ?_⟩
    · obtain ⟨c0, hc0⟩ : ∃ c, (f (g 0))[0]? = some c := ⟨_, List.getElem?_eq_getElem (by rw [hlen]; exact hm)⟩
      have h00 := hval 0 hn 0 c0 hc0
      have ea : (a.add (0 * m)).add 0 = a := by simp [Addr.add]
      rw [ea] at h00
      have hsp : a.spot = .none := flat_of_cell h00
      obtain ⟨b, o, sp⟩ := a
      have hsp' : sp = .none := hsp
      subst hsp'
      refine ⟨b, o, rfl, World.block_lt_of_cell? w _ h00, fun j s hs i v hiv => ?_⟩
      have hj : j < len := by
        have := (List.getElem?_eq_some_iff.1 hs).1
        rwa [hll] at this
      have hxe : s = g j := by
        rw [List.getElem?_map, List.getElem?_range hj] at hs
        exact (Option.some.inj hs).symm
      subst hxe
      have h2 := hval j hj i v hiv
      rw [add_lit', add_lit'] at h2
      exact h2
    · obtain ⟨j, hj, rfl⟩ := List.mem_map.1 hv
      exact (hg j (List.mem_range.1 hj)).2
end Go.Proofs.YtdllceggjjopgaaDoor
