/- Arguments of type []api.Token, as the reading finds them, with the bounds on their texts. -/
import Derived.Test.YtdllceggjjopgaaDoorOpenE
import Derived.Test.YtdllceggjjopgaaDoorMemT
import Derived.SizedLaws
import Derived.ChangeArms
import Derived.Deep.Slices
namespace Go.Proofs.YtdllceggjjopgaaDoor
open Go.ChangeShapes Go.WideShapes Go.ChangeAt Go.RowKit

section
variable {H : Type} {enc : TypeId × Value → H} {w : World} {base : Nat} {spare : Nat → Bool} {held : Bool}

theorem weightsAll_mem {P : Program} {e : TypeId} {d : DataW H} : ∀ {l : List (DataW H)}, d ∈ l → ∀ n ∈ d.weights P e, n ∈ DataW.weightsAll P e l
  | x :: l, hd, n, hn => by
    simp only [DataW.weightsAll, List.mem_append]
    rcases List.mem_cons.1 hd with rfl | hd
    · exact .inl hn
    · exact .inr (weightsAll_mem hd n hn)

set_option maxRecDepth 100000 in
theorem token_cells (fuel : Nat) (cs : List Value) (x : DataW H × List MemPlace) (h : DataW.trod enc Tryd.prog w base spare held fuel 35 cs = some x) :
    ∃ t : Tk, cs = tkV t ∧ (I64 t.kind ∧ I64 t.place ∧ I64 t.n) ∧ t.text.length ∈ x.1.weights Tryd.prog 35 := by
  have k0 : Tryd.prog.cellsOf 35 = 4 := by kernel_rfl
  have ki : Tryd.prog.cellsOf 3 = 1 := by kernel_rfl
  have ks : Tryd.prog.cellsOf 9 = 1 := by kernel_rfl
  obtain ⟨xs, n, rfl, hx, hlen, hxl, hf⟩ := DataW.trod_struct Tryd.underlying35 h
  rw [k0] at hlen
  match cs, hlen with
  | [c0, c1, c2, c3], _ =>
    match xs, hxl with
    | [y0, y1, y2, y3], _ =>
      have e0 := by simpa [ki] using hf 0 _ rfl
      obtain ⟨a, h0, _, b0⟩ := DataW.trod_int Tryd.underlying3 e0
      injection h0 with h0
      subst h0
      have e1 := by simpa [ki] using hf 1 _ rfl
      obtain ⟨b, h1, _, b1⟩ := DataW.trod_int Tryd.underlying3 e1
      injection h1 with h1
      subst h1
      have e2 := by simpa [ks] using hf 2 _ rfl
      obtain ⟨s, h2, h2', _⟩ := DataW.trod_string Tryd.underlying9 e2
      injection h2 with h2
      subst h2
      have e3 := by simpa [ki] using hf 3 _ rfl
      obtain ⟨c, h3, _, b3⟩ := DataW.trod_int Tryd.underlying3 e3
      injection h3 with h3
      subst h3
      refine ⟨⟨a, b, s.data.toList, c⟩, rfl, ⟨i64_bd b0, i64_bd b1, i64_bd b3⟩, ?_⟩
      rw [hx, h2']
      simp [DataW.weights, DataW.weightsEach, Tryd.underlying35]

set_option maxRecDepth 100000 in
theorem open_tokens {r : Reach} {b0 : Nat} {x : Value} {d : DataW H} {p : List MemPlace} (hv : Value.okWide Tryd.prog w r b0 23 x) (h : DataW.Trod enc Tryd.prog w base spare held 23 x d p)
    (hw : ∀ y ∈ d.weights Tryd.prog 23, decide (y ≤ reachBytes) = true) :
    ∃ (A : Option Addr) (n cap : Nat) (l : List Tk), x = .slice A n cap ∧ RdT w w.heap.size A n l ∧ n ≤ cap ∧ cap ≤ maxLen ∧ ∀ v ∈ l, (I64 v.kind ∧ I64 v.place ∧ I64 v.n) ∧ v.text.length ≤ reachBytes := by
  have hu := Tryd.underlying23
  have hk : Tryd.prog.cellsOf 35 = 4 := by kernel_rfl
  obtain ⟨a0, len0, cap0, rfl⟩ := okWide_slice hu hv
  obtain ⟨fuel, hf⟩ := h
  rcases Go.Deep.open_slice hu hf with ⟨h1, _⟩ | ⟨a, len, cap, k, n, D, Pl, h1, _, hlc, hcm, hk2, hx, hat⟩
  · injection h1 with h1
    rw [h1]
    exact ⟨none, 0, 0, [], rfl, RdE.nil _ _ _, Nat.le_refl _, by unfold maxLen; omega, fun _ hv => by cases hv⟩
  · injection h1 with h1
    rw [h1]
    have hd : d = .slice ((List.range len).map D) ((List.range (k - len)).map fun j => D (len + j)) := congrArg Prod.fst hx
    have hlm : len ≤ k := by rw [hk2]; split <;> omega
    rw [hk] at hat
    have hex : ∀ i, ∃ v : Tk, i < len → w.cells? base (a.add (i * 4)) 4 = some (tkV v) ∧ (I64 v.kind ∧ I64 v.place ∧ I64 v.n) ∧ v.text.length ≤ reachBytes := by
      intro i
      by_cases hi : i < len
      · obtain ⟨cs', h7, h8⟩ := hat i (by omega)
        obtain ⟨v, rfl, hv, hwt⟩ := token_cells n cs' _ h8
        refine ⟨v, fun _ => ⟨h7, hv, of_decide_eq_true (hw _ ?_)⟩⟩
        rw [hd]
        simp only [DataW.weights, hu, List.mem_cons, List.mem_append]
        exact .inr (.inl (weightsAll_mem (List.mem_map.2 ⟨i, List.mem_range.2 hi, rfl⟩) _ hwt))
      · exact ⟨⟨0, 0, [], 0⟩, fun h => absurd h hi⟩
    obtain ⟨g, hg⟩ := Classical.axiomOfChoice hex
    have hll : ((List.range len).map g).length = len := by simp
    have hval : ∀ j, j < len → ∀ i v, (tkV (g j))[i]? = some v → w.cell? ((a.add (j * 4)).add i) = some v := fun j hj i v hiv => by
      obtain ⟨_, hl, hc⟩ := World.cells?_some (hg j hj).1
      have hi := (List.getElem?_eq_some_iff.1 hiv).1
      rw [tkV_len] at hi
      rw [hc i hi, hiv]
    refine ⟨some a, len, cap, (List.range len).map g, rfl, ⟨hll.symm, fun hn => ?_⟩, hlc, hcm, fun v hv => ?_⟩
    · obtain ⟨c0, hc0⟩ : ∃ c, (tkV (g 0))[0]? = some c := ⟨_, rfl⟩
      have h00 := hval 0 hn 0 c0 hc0
      have ea : (a.add (0 * 4)).add 0 = a := by simp [Addr.add]
      rw [ea] at h00
      have hsp : a.spot = .none := flat_of_cell h00
      obtain ⟨b, o, sp⟩ := a
      have hsp' : sp = .none := hsp
      subst hsp'
      refine ⟨b, o, rfl, World.block_lt_of_cell? w _ h00, fun j s hs i v hiv => ?_⟩
      have hj : j < len := by
        have := (List.getElem?_eq_some_iff.1 hs).1
        rwa [hll] at this
      have hxe : s = g j := by
        rw [List.getElem?_map, List.getElem?_range hj] at hs
        exact (Option.some.inj hs).symm
      subst hxe
      have h2 := hval j hj i v hiv
      rw [add_lit', add_lit'] at h2
      exact h2
    · obtain ⟨j, hj, rfl⟩ := List.mem_map.1 hv
      exact (hg j (List.mem_range.1 hj)).2
end
end Go.Proofs.YtdllceggjjopgaaDoor
