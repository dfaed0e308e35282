/- An argument that is a digest, as the reading finds it. -/
import Derived.Test.YtfolmglafnfcbaaDoorOpens
import Derived.Test.YtfolmglafnfcbaaDoorPair
namespace Go.Proofs.YtfolmglafnfcbaaDoor
open Go.ChangeShapes Go.WideShapes Go.ChangeAt Go.RowKit

section
variable {H : Type} {enc : TypeId × Value → H} {w : World} {base : Nat} {spare : Nat → Bool} {held : Bool}

theorem open_dg {r : Reach} {b0 : Nat} {x : Value} {d : DataW H} {p : List MemPlace} (hv : Value.okWide Tryd.prog w r b0 26 x) (h : DataW.Trod enc Tryd.prog w base spare held 26 x d p) :
    ∃ l : List UInt8, l.length = 32 ∧ x = .agg (bytesV l).toArray ∧ p = [] := by
  have hv' := hv
  simp only [Value.okWide, Tryd.underlying26] at hv'
  obtain ⟨cs, rfl, hsz, _⟩ := hv'
  have ce : Tryd.prog.cellsOf 5 = 1 := by kernel_rfl
  have ca : Tryd.prog.cellsOf 26 = 32 := by kernel_rfl
  rw [ca] at hsz
  obtain ⟨fuel, hf⟩ := h
  obtain ⟨xs, m, rfl, hx, hlen, hn, hel⟩ := DataW.trod_array Tryd.underlying26 hf
  simp only [Prod.mk.injEq] at hx
  have hcl : (Value.agg cs).cells.toList = cs.toList := rfl
  rw [hcl] at hel
  have hat : ∀ i, i < 32 → ∃ u : UInt8, cs.toList[i]? = some (.int .u8 (u.toNat : Int)) ∧ ∃ y, xs[i]? = some (y, []) := fun i hi => by
    have hii : i < xs.length := by omega
    have h1 := hel i hi
    rw [ce, Nat.mul_one, List.getElem?_eq_getElem hii] at h1
    obtain ⟨k, e1, e2, hk⟩ := DataW.trod_int Tryd.underlying5 h1
    have hb := bounds_u8 hk
    have hc1 : cs.toList[i]? = some (.int .u8 k) := by
      have h2 := congrArg (·[0]?) e1
      simp at h2
      simpa using h2
    refine ⟨UInt8.ofNat k.toNat, ?_, _, by rw [List.getElem?_eq_getElem hii, e2]⟩
    rw [hc1]
    congr 2
    simp
    omega
  have hu2 : ∀ i, ∃ u : UInt8, i < 32 → cs.toList[i]? = some (.int .u8 (u.toNat : Int)) := fun i => by
    by_cases hi : i < 32
    · obtain ⟨u, h, _⟩ := hat i hi; exact ⟨u, fun _ => h⟩
    · exact ⟨0, fun h => absurd h hi⟩
  obtain ⟨f, hfu⟩ := Classical.axiomOfChoice hu2
  refine ⟨(List.range 32).map f, by simp, ?_, ?_⟩
  · congr 1
    apply Array.ext'
    apply List.ext_getElem?
    intro i
    by_cases hi : i < 32
    · rw [hfu i hi]
      unfold bytesV
      rw [List.toList_toArray, List.getElem?_map, List.getElem?_map, List.getElem?_range hi]
      rfl
    · rw [List.getElem?_eq_none (by simp; omega), List.getElem?_eq_none (by simp [bytesV]; omega)]
  · rw [hx.2]
    rw [List.flatMap_eq_nil_iff]
    intro y hy
    obtain ⟨i, hi, e⟩ := List.mem_iff_getElem.1 hy
    obtain ⟨_, _, z, hz⟩ := hat i (by omega)
    rw [List.getElem?_eq_getElem hi, e] at hz
    injection hz with hz
    rw [hz]
end
end Go.Proofs.YtfolmglafnfcbaaDoor
