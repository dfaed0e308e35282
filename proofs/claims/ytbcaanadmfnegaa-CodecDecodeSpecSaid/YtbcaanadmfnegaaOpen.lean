/- An argument of type Value, as the reading finds it. -/
import Derived.Test.YtbcaanadmfnegaaTake
import Derived.Test.YtbcaanadmfnegaaPost
import Derived.Carry
import Derived.ChangeArms
namespace Go.Proofs.Ytbcaanadmfnegaa
open Go.ChangeShapes Go.WideShapes Go.ChangeAt Go.RowKit

theorem laidOut : laidOutB Try.prog = true := by kernel_rfl

theorem i64_of_wf {a : Int} (h : (Lit.int .i64 a).wf = true) : I64 a := by
  have hmin : IntKind.i64.min = -9223372036854775808 := rfl
  have hmax : IntKind.i64.max = 9223372036854775807 := rfl
  simp only [Lit.wf, Bool.and_eq_true, decide_eq_true_eq] at h
  unfold I64
  omega

theorem flat_of_cell {w : World} {p : Addr} {u : Value} (h : w.cell? p = some u) : p.spot = .none := by
  unfold World.cell? at h
  split at h
  · split at h
    · cases h
    · next hn => simpa using hn
  · cases h

section
variable {H : Type} {enc : TypeId × Value → H} {w : World} {base : Nat} {spare : Nat → Bool} {held : Bool}

set_option maxRecDepth 100000 in
theorem open_cells : ∀ (fuel : Nat) (cs : List Value) (x : DataW H × List MemPlace), DataW.trod enc Try.prog w base spare held fuel 24 cs = some x →
    ∃ (v : V) (c0 c1 c2 c3 : Value), cs = [c0, c1, c2, c3] ∧ Rd w w.heap.size v (.agg #[c0, c1, c2, c3]) := by
  intro fuel
  induction fuel using Nat.strongRecOn with
  | _ fuel ih =>
    intro cs x h
    have k24 : Try.prog.cellsOf 24 = 4 := by kernel_rfl
    have kint : Try.prog.cellsOf 3 = 1 := by kernel_rfl
    have kstr : Try.prog.cellsOf 9 = 1 := by kernel_rfl
    have ksl : Try.prog.cellsOf 22 = 1 := by kernel_rfl
    obtain ⟨xs, n, rfl, _, hlen, hxl, hf⟩ := DataW.trod_struct Try.underlying24 h
    rw [k24] at hlen
    match cs, hlen with
    | [c0, c1, c2, c3], _ =>
      match xs, hxl with
      | [y0, y1, y2, y3], _ =>
        have e0 : DataW.trod enc Try.prog w base spare held n 3 [c0] = some y0 := by simpa [kint] using hf 0 _ rfl
        have e1 : DataW.trod enc Try.prog w base spare held n 3 [c1] = some y1 := by simpa [kint] using hf 1 _ rfl
        have e2 : DataW.trod enc Try.prog w base spare held n 9 [c2] = some y2 := by simpa [kstr] using hf 2 _ rfl
        have e3 : DataW.trod enc Try.prog w base spare held n 22 [c3] = some y3 := by simpa [ksl] using hf 3 _ rfl
        obtain ⟨k, h0, _, hk⟩ := DataW.trod_int Try.underlying3 e0
        obtain ⟨m, h1, _, hm⟩ := DataW.trod_int Try.underlying3 e1
        obtain ⟨s, h2, _, hs⟩ := DataW.trod_string Try.underlying9 e2
        injection h0 with h0; injection h1 with h1; injection h2 with h2
        subst h0; subst h1; subst h2
        rcases DataW.trod_slice Try.underlying22 e3 with ⟨h3, _⟩ | ⟨a, len, cap, elems, rest, n', hn', h3, _, _, hlc, hcm, hel, hat, _, _⟩
        · injection h3 with h3
          subst h3
          exact ⟨.mk k m s [], _, _, _, _, rfl, .none, 0, rfl, i64_of_wf hk, i64_of_wf hm, hs, Nat.le_refl _, by unfold maxLen; omega, trivial⟩
        · injection h3 with h3
          subst h3; subst hn'
          rw [k24] at hat
          have hex : ∀ i, ∃ v : V, i < len → ∃ (c0 c1 c2 c3 : Value), w.cells? base (a.add (i * 4)) 4 = some [c0, c1, c2, c3] ∧ Rd w w.heap.size v (.agg #[c0, c1, c2, c3]) := by
            intro i
            by_cases hi : i < len
            · have h5 := hat i hi
              have h6 : elems[i]? = some (elems[i]'(by omega)) := List.getElem?_eq_getElem (by omega)
              rw [h6] at h5
              obtain ⟨cs', h7, h8⟩ := Option.bind_eq_some_iff.1 h5
              obtain ⟨v, c0, c1, c2, c3, rfl, h9⟩ := ih n' (by omega) cs' _ h8
              exact ⟨v, fun _ => ⟨c0, c1, c2, c3, h7, h9⟩⟩
            · exact ⟨.mk 0 0 ⟨#[]⟩ [], fun h => absurd h hi⟩
          obtain ⟨f, hf2⟩ := Classical.axiomOfChoice hex
          have hll : ((List.range len).map f).length = len := by simp
          refine ⟨.mk k m s ((List.range len).map f), _, _, _, _, rfl, some a, cap, by rw [hll], i64_of_wf hk, i64_of_wf hm, hs, by rw [hll]; exact hlc, hcm, RdAll.mk_ _ 0 fun j x hx => ?_⟩
          have hj : j < len := by
            have := (List.getElem?_eq_some_iff.1 hx).1
            rwa [hll] at this
          have hxe : x = f j := by
            rw [List.getElem?_map, List.getElem?_range hj] at hx
            exact (Option.some.inj hx).symm
          subst hxe
          obtain ⟨c0, c1, c2, c3, h7, h9⟩ := hf2 j hj
          obtain ⟨_, _, hc⟩ := World.cells?_some h7
          have g0 : w.cell? ((a.add (j * 4)).add 0) = some c0 := hc 0 (by omega)
          have g1 : w.cell? ((a.add (j * 4)).add 1) = some c1 := hc 1 (by omega)
          have g2 : w.cell? ((a.add (j * 4)).add 2) = some c2 := hc 2 (by omega)
          have g3 : w.cell? ((a.add (j * 4)).add 3) = some c3 := hc 3 (by omega)
          have hsp : a.spot = .none := by
            obtain ⟨_, _, _, _, h7', _⟩ := hf2 0 (by omega)
            obtain ⟨_, _, hc'⟩ := World.cells?_some h7'
            have g00 := hc' 0 (by omega)
            have ea : (a.add (0 * 4)).add 0 = a := by simp [Addr.add]
            rw [ea] at g00
            exact flat_of_cell g00
          obtain ⟨b, o, sp⟩ := a
          have hsp' : sp = .none := hsp
          subst hsp'
          rw [add_lit', add_lit'] at g0 g1 g2 g3
          have hbl : b < w.heap.size := World.block_lt_of_cell? w _ g0
          rw [Nat.zero_add]
          exact ⟨b, o, c0, c1, c2, c3, rfl, hbl, g0, g1, g2, g3, h9⟩

theorem open_val {r : Reach} {b0 : Nat} {x : Value} {d : DataW H} {p : List MemPlace} (hv : Value.okWide Try.prog w r b0 24 x) (h : DataW.Trod enc Try.prog w base spare held 24 x d p) : ∃ v, Rd w w.heap.size v x := by
  obtain ⟨cs, rfl, _⟩ := okWide_struct Try.underlying24 hv
  obtain ⟨fuel, hf⟩ := h
  obtain ⟨v, c0, c1, c2, c3, hcs, hr⟩ := open_cells fuel _ _ hf
  refine ⟨v, ?_⟩
  obtain ⟨l⟩ := cs
  have hl : l = [c0, c1, c2, c3] := by simpa [Value.cells] using hcs
  rw [hl]
  exact hr
end
end Go.Proofs.Ytbcaanadmfnegaa
