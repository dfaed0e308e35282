/- Arguments of types []byte and []Value, as the reading finds them. -/
import Derived.Test.YtbcaanadmfnegaaOpen
import Derived.OpenShut
import Derived.SliceStrings
namespace Go.Proofs.Ytbcaanadmfnegaa
open Go.ChangeShapes Go.WideShapes Go.ChangeAt Go.RowKit

section
variable {H : Type} {enc : TypeId × Value → H} {w : World} {base : Nat} {spare : Nat → Bool} {held : Bool}

theorem open_bytes {r : Reach} {b0 : Nat} {x : Value} {d : DataW H} {p : List MemPlace} (hv : Value.okWide Try.prog w r b0 27 x) (h : DataW.Trod enc Try.prog w base spare held 27 x d p) :
    ∃ (A : Option Addr) (n cap : Nat) (bs : List UInt8), x = .slice A n cap ∧ RdB w w.heap.size A n bs ∧ n ≤ cap ∧ cap ≤ maxLen := by
  obtain ⟨a0, len0, cap0, rfl⟩ := okWide_slice Try.underlying27 hv
  obtain ⟨fuel, hf⟩ := h
  rcases Go.Deep.open_slice1 Try.underlying27 (by kernel_rfl) hf with ⟨h1, _⟩ | ⟨a, len, cap, m, n, U, D, Pl, h1, _, hlc, hcm, hm, _, hat⟩
  · injection h1 with h1
    rw [h1]
    exact ⟨none, 0, 0, [], rfl, ⟨rfl, fun h => absurd h (by omega)⟩, Nat.le_refl _, by unfold maxLen; omega⟩
  · injection h1 with h1
    rw [h1]
    have hlm : len ≤ m := by rw [hm]; split <;> omega
    have hu : ∀ i, i < len → ∃ u : UInt8, U i = .int .u8 (u.toNat : Int) := fun i hi => by
      obtain ⟨_, h2⟩ := hat i (by omega)
      obtain ⟨k, h3, _, hk⟩ := DataW.trod_int Try.underlying5 h2
      injection h3 with h3
      have hb := bounds_u8 hk
      refine ⟨UInt8.ofNat k.toNat, ?_⟩
      rw [h3]
      congr 1
      simp
      omega
    have hu2 : ∀ i, ∃ u : UInt8, i < len → U i = .int .u8 (u.toNat : Int) := fun i => by
      by_cases hi : i < len
      · obtain ⟨u, h⟩ := hu i hi; exact ⟨u, fun _ => h⟩
      · exact ⟨0, fun h => absurd h hi⟩
    obtain ⟨f, hfu⟩ := Classical.axiomOfChoice hu2
    refine ⟨some a, len, cap, (List.range len).map f, rfl, ⟨by simp, fun hn => ?_⟩, hlc, hcm⟩
    have hsp := flat_of_cell (hat 0 (by omega)).1
    obtain ⟨b, o, sp⟩ := a
    have hz : (⟨b, o, sp⟩ : Addr).add 0 = ⟨b, o, sp⟩ := by simp [Addr.add]
    rw [hz] at hsp
    have hsp' : sp = .none := hsp
    subst hsp'
    have hbl : b < w.heap.size := by
      have := (hat 0 (by omega)).1
      rw [hz] at this
      exact World.block_lt_of_cell? w _ this
    refine ⟨b, o, rfl, hbl, fun j u hj => ?_⟩
    have hjl : j < len := by
      have := (List.getElem?_eq_some_iff.1 hj).1
      simpa using this
    rw [List.getElem?_map, List.getElem?_range hjl] at hj
    have hj' : f j = u := Option.some.inj hj
    have h5 := (hat j (by omega)).1
    rw [add_lit', hfu j hjl, hj'] at h5
    exact h5

set_option maxRecDepth 100000 in
theorem open_vals {r : Reach} {b0 : Nat} {x : Value} {d : DataW H} {p : List MemPlace} (hv : Value.okWide Try.prog w r b0 22 x) (h : DataW.Trod enc Try.prog w base spare held 22 x d p) :
    ∃ (A : Option Addr) (cap : Nat) (l : List V), x = .slice A l.length cap ∧ RdAll w w.heap.size l A 0 ∧ l.length ≤ cap ∧ cap ≤ maxLen := by
  obtain ⟨a0, len0, cap0, rfl⟩ := okWide_slice Try.underlying22 hv
  obtain ⟨fuel, hf⟩ := h
  have k24 : Try.prog.cellsOf 24 = 4 := by kernel_rfl
  rcases Go.Deep.open_slice Try.underlying22 hf with ⟨h1, _⟩ | ⟨a, len, cap, m, n, D, Pl, h1, _, hlc, hcm, hm, _, hat⟩
  · injection h1 with h1
    rw [h1]
    exact ⟨none, 0, [], rfl, trivial, Nat.le_refl _, by unfold maxLen; omega⟩
  · injection h1 with h1
    rw [h1]
    have hlm : len ≤ m := by rw [hm]; split <;> omega
    rw [k24] at hat
    have hex : ∀ i, ∃ v : V, i < len → ∃ (c0 c1 c2 c3 : Value), w.cells? base (a.add (i * 4)) 4 = some [c0, c1, c2, c3] ∧ Rd w w.heap.size v (.agg #[c0, c1, c2, c3]) := by
      intro i
      by_cases hi : i < len
      · obtain ⟨cs', h7, h8⟩ := hat i (by omega)
        obtain ⟨v, c0, c1, c2, c3, rfl, h9⟩ := open_cells n cs' _ h8
        exact ⟨v, fun _ => ⟨c0, c1, c2, c3, h7, h9⟩⟩
      · exact ⟨.mk 0 0 ⟨#[]⟩ [], fun h => absurd h hi⟩
    obtain ⟨f, hf2⟩ := Classical.axiomOfChoice hex
    have hll : ((List.range len).map f).length = len := by simp
    refine ⟨some a, cap, (List.range len).map f, by rw [hll], RdAll.mk_ _ 0 fun j x hx => ?_, by rw [hll]; exact hlc, hcm⟩
    have hj : j < len := by
      have := (List.getElem?_eq_some_iff.1 hx).1
      rwa [hll] at this
    have hxe : x = f j := by
      rw [List.getElem?_map, List.getElem?_range hj] at hx
      exact (Option.some.inj hx).symm
    subst hxe
    obtain ⟨c0, c1, c2, c3, h7, h9⟩ := hf2 j hj
    obtain ⟨_, _, hc⟩ := World.cells?_some h7
    have g0 : w.cell? ((a.add (j * 4)).add 0) = some c0 := hc 0 (by omega)
    have g1 : w.cell? ((a.add (j * 4)).add 1) = some c1 := hc 1 (by omega)
    have g2 : w.cell? ((a.add (j * 4)).add 2) = some c2 := hc 2 (by omega)
    have g3 : w.cell? ((a.add (j * 4)).add 3) = some c3 := hc 3 (by omega)
    have hsp : a.spot = .none := by
      obtain ⟨_, _, _, _, h7', _⟩ := hf2 0 (by omega)
      obtain ⟨_, _, hc'⟩ := World.cells?_some h7'
      have g00 := hc' 0 (by omega)
      have ea : (a.add (0 * 4)).add 0 = a := by simp [Addr.add]
      rw [ea] at g00
      exact flat_of_cell g00
    obtain ⟨b, o, sp⟩ := a
    have hsp' : sp = .none := hsp
    subst hsp'
    rw [add_lit', add_lit'] at g0 g1 g2 g3
    have hbl : b < w.heap.size := World.block_lt_of_cell? w _ g0
    rw [Nat.zero_add]
    exact ⟨b, o, c0, c1, c2, c3, rfl, hbl, g0, g1, g2, g3, h9⟩
end
end Go.Proofs.Ytbcaanadmfnegaa
