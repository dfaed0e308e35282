/- Arguments, as the reading finds them, and the last step of a law. -/
import Derived.Test.YtfolmglafnfcbaaDoorLaid
import Derived.WalkKit
import Derived.Below
import Derived.ChangeSame
import Derived.Carry
import Derived.ChangeArms
import Derived.SliceStrings
import Derived.ChangeMaps5
import Derived.Deep.Slices
import Derived.SevenTiedAt
namespace Go.Proofs.YtfolmglafnfcbaaDoor
open Go.ChangeShapes Go.WideShapes Go.ChangeAt Go.RowKit

/-- no second look at the end is asked: the frame out of 'Below' alone -/
theorem post_made {H : Type} {enc : TypeId × Value → H} {P : Program} {f : Func} {s : ChangeSpec} {apart fresh handsOn : Bool} {W W' : World} {args : Array Value} {v : Value} {ds gs : List (DataW H)} {before pa pv : List MemPlace}
    (hW : DataW.Whole enc P f.params.toList s.vars apart W args.toList ds gs before)
    (hres : ∀ b, DataW.TrodAll enc P W' b (fun _ => false) handsOn f.resultTypes.toList (v.resultList f.resultTypes.size) (s.fn H (ds ++ gs)).results [])
    (hargs : DataW.TrodAll enc P W' 0 (fun b => decide (b < W.heap.size)) true f.params.toList args.toList (s.fn H (ds ++ gs)).args pa)
    (hvars : DataW.TrodVars enc P W' (fun b => decide (b < W.heap.size)) s.vars (s.fn H (ds ++ gs)).vars pv)
    (hps : before = pa ++ pv) (hb : Below W.heap.size W W') : s.post enc P f apart fresh handsOn false W args v W' := by
  refine ⟨ds, gs, before, [], pa, pv, hW, hres _, hargs, hvars, World.keptBut_mono (fun p hp => ⟨hp, ?_⟩) (hb.frame (· ∈ before)), fun h => by cases h⟩
  rw [hps, List.mem_append] at hp
  exact .inr hp
theorem flat_of_cell {w : World} {p : Addr} {u : Value} (h : w.cell? p = some u) : p.spot = .none := by
  unfold World.cell? at h
  split at h
  · split at h
    · cases h
    · next hn => simpa using hn
  · cases h

section
variable {H : Type} {enc : TypeId × Value → H} {w : World} {base : Nat} {spare : Nat → Bool} {held : Bool}

theorem open_bytes {r : Reach} {b0 : Nat} {x : Value} {d : DataW H} {p : List MemPlace} (hv : Value.okWide Tryd.prog w r b0 22 x) (h : DataW.Trod enc Tryd.prog w base spare held 22 x d p) :
    ∃ (A : Option Addr) (n cap : Nat) (bs : List UInt8), x = .slice A n cap ∧ RdB w w.heap.size A n bs ∧ n ≤ cap ∧ cap ≤ maxLen := by
  obtain ⟨a0, len0, cap0, rfl⟩ := okWide_slice Tryd.underlying22 hv
  obtain ⟨fuel, hf⟩ := h
  rcases Go.Deep.open_slice1 Tryd.underlying22 (by kernel_rfl) hf with ⟨h1, _⟩ | ⟨a, len, cap, m, n, U, D, Pl, h1, _, hlc, hcm, hm, _, hat⟩
  · injection h1 with h1
    rw [h1]
    exact ⟨none, 0, 0, [], rfl, ⟨rfl, fun h => absurd h (by omega)⟩, Nat.le_refl _, by unfold maxLen; omega⟩
  · injection h1 with h1
    rw [h1]
    have hlm : len ≤ m := by rw [hm]; split <;> omega
    have hu : ∀ i, i < len → ∃ u : UInt8, U i = .int .u8 (u.toNat : Int) := fun i hi => by
      obtain ⟨_, h2⟩ := hat i (by omega)
      obtain ⟨k, h3, _, hk⟩ := DataW.trod_int Tryd.underlying5 h2
      injection h3 with h3
      have hb := bounds_u8 hk
      refine ⟨UInt8.ofNat k.toNat, ?_⟩
      rw [h3]
      congr 1
      simp
      omega
    have hu2 : ∀ i, ∃ u : UInt8, i < len → U i = .int .u8 (u.toNat : Int) := fun i => by
      by_cases hi : i < len
      · obtain ⟨u, h⟩ := hu i hi; exact ⟨u, fun _ => h⟩
      · exact ⟨0, fun h => absurd h hi⟩
    obtain ⟨f, hfu⟩ := Classical.axiomOfChoice hu2
    refine ⟨some a, len, cap, (List.range len).map f, rfl, ⟨by simp, fun hn => ?_⟩, hlc, hcm⟩
    have hsp := flat_of_cell (hat 0 (by omega)).1
    obtain ⟨b, o, sp⟩ := a
    have hz : (⟨b, o, sp⟩ : Addr).add 0 = ⟨b, o, sp⟩ := by simp [Addr.add]
    rw [hz] at hsp
    have hsp' : sp = .none := hsp
    subst hsp'
    have hbl : b < w.heap.size := by
      have := (hat 0 (by omega)).1
      rw [hz] at this
      exact World.block_lt_of_cell? w _ this
    refine ⟨b, o, rfl, hbl, fun j u hj => ?_⟩
    have hjl : j < len := by
      have := (List.getElem?_eq_some_iff.1 hj).1
      simpa using this
    rw [List.getElem?_map, List.getElem?_range hjl] at hj
    have hj' : f j = u := Option.some.inj hj
    have h5 := (hat j (by omega)).1
    rw [add_lit', hfu j hjl, hj'] at h5
    exact h5

end
end Go.Proofs.YtfolmglafnfcbaaDoor
