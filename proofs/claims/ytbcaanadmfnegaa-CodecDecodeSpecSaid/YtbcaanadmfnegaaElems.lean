/- Elements of a list that is being read: a row of the call's own, whose elements' memory lies elsewhere. -/
import Derived.Test.YtbcaanadmfnegaaRval
import Derived.Deep.AppendLies
namespace Go.Proofs.Ytbcaanadmfnegaa
open Go.RowKit

def Elems (w : World) (base : Nat) (row : Option Nat) (vs : List V) (xs : List Value) : Prop :=
  xs.length = vs.length * 4 ∧ ∀ (i : Nat) (v : V), vs[i]? = some v → ∃ (lo hi : Nat) (k m : Int) (s : ByteArray) (l : List V) (A : Option Addr) (cap : Nat), base ≤ lo ∧ hi ≤ w.heap.size ∧ (∀ b, row = some b → b < lo ∨ hi ≤ b) ∧ v = .mk k m s l ∧
    xs[i * 4]? = some (.int .i64 k) ∧ xs[i * 4 + 1]? = some (.int .i64 m) ∧ xs[i * 4 + 2]? = some (.string s) ∧ xs[i * 4 + 3]? = some (.slice A l.length cap) ∧ RdI w lo hi v (.agg #[.int .i64 k, .int .i64 m, .string s, .slice A l.length cap])

theorem Elems.nil (w : World) (base : Nat) (row : Option Nat) : Elems w base row [] [] := ⟨rfl, fun i v h => by simp at h⟩

theorem Elems.keep {w w' : World} {base : Nat} {row row' : Option Nat} {vs : List V} {xs : List Value} (h : Elems w base row vs xs) (hs : w.heap.size ≤ w'.heap.size)
    (hk : ∀ p : Addr, base ≤ p.block → p.block < w.heap.size → row ≠ some p.block → w'.cell? p = w.cell? p) (hr : row' = row ∨ ∃ g, row' = some g ∧ w.heap.size ≤ g) : Elems w' base row' vs xs := by
  refine ⟨h.1, fun i v hv => ?_⟩
  obtain ⟨lo, hi, k, m, s, l, A, cap, h1, h2, h3, h4, h5, h6, h7, h8, h9⟩ := h.2 i v hv
  refine ⟨lo, hi, k, m, s, l, A, cap, h1, by omega, ?_, h4, h5, h6, h7, h8, h9.keep (Nat.le_refl _) (Nat.le_refl _) fun p hp1 hp2 => hk p (by omega) (by omega) fun e => ?_⟩
  · rintro b hb
    rcases hr with hr | ⟨g, hr, hg⟩
    · exact h3 b (hr ▸ hb)
    · rw [hr] at hb
      injection hb with hb
      exact .inr (by omega)
  · have := h3 _ e
    omega

theorem Elems.snoc {w : World} {base : Nat} {row : Option Nat} {vs : List V} {xs : List Value} (h : Elems w base row vs xs) {lo hi : Nat} {k m : Int} {s : ByteArray} {l : List V} {A : Option Addr} {cap : Nat}
    (h1 : base ≤ lo) (h2 : hi ≤ w.heap.size) (h3 : ∀ b, row = some b → b < lo ∨ hi ≤ b) (h4 : RdI w lo hi (.mk k m s l) (.agg #[.int .i64 k, .int .i64 m, .string s, .slice A l.length cap])) :
    Elems w base row (vs ++ [.mk k m s l]) (xs ++ [.int .i64 k, .int .i64 m, .string s, .slice A l.length cap]) := by
  have hl := h.1
  refine ⟨by rw [List.length_append, List.length_append, hl]; simp; omega, fun i v hv => ?_⟩
  by_cases hlt : i < vs.length
  · rw [List.getElem?_append_left hlt] at hv
    obtain ⟨lo, hi', k, m, s, l, A, cap, g1, g2, g3, g4, g5, g6, g7, g8, g9⟩ := h.2 i v hv
    exact ⟨lo, hi', k, m, s, l, A, cap, g1, g2, g3, g4, by rw [List.getElem?_append_left (by omega)]; exact g5, by rw [List.getElem?_append_left (by omega)]; exact g6, by rw [List.getElem?_append_left (by omega)]; exact g7, by rw [List.getElem?_append_left (by omega)]; exact g8, g9⟩
  · rw [List.getElem?_append_right (by omega)] at hv
    have hi0 : i = vs.length := by
      have := (List.getElem?_eq_some_iff.1 hv).1
      simp at this
      omega
    subst hi0
    simp at hv
    subst hv
    refine ⟨lo, hi, k, m, s, l, A, cap, h1, h2, h3, rfl, ?_, ?_, ?_, ?_, h4⟩
    · rw [List.getElem?_append_right (by omega), show vs.length * 4 - xs.length = 0 by omega]; rfl
    · rw [List.getElem?_append_right (by omega), show vs.length * 4 + 1 - xs.length = 1 by omega]; rfl
    · rw [List.getElem?_append_right (by omega), show vs.length * 4 + 2 - xs.length = 2 by omega]; rfl
    · rw [List.getElem?_append_right (by omega), show vs.length * 4 + 3 - xs.length = 3 by omega]; rfl

/-- the row and its elements are a list's reading -/
theorem Elems.list {w : World} {base g cap : Nat} {vs : List V} {xs : List Value} (h : Elems w base (some g) vs xs) (hr : w.ownsRow base 24 4 (.slice (some ⟨g, 0, none⟩) vs.length cap) vs.length xs) (hgl : g < w.heap.size) :
    RdI w base w.heap.size (.mk 3 0 ⟨#[]⟩ vs) (.agg #[.int .i64 3, .int .i64 0, .string ⟨#[]⟩, .slice (some ⟨g, 0, none⟩) vs.length cap]) := by
  intro w' hk
  have hcells : ∀ j u, xs[j]? = some u → w.cell? ((⟨g, 0, none⟩ : Addr).add j) = some u := World.ownsRow.cells hr (g := g) rfl
  have hb := (hr.lt g rfl).1
  obtain ⟨hc1, hc2⟩ : vs.length ≤ cap ∧ cap ≤ maxLen := by
    rcases hr.2 with ⟨e, _⟩ | ⟨g', cap', cur, e, _, _, h1, h2, _⟩
    · cases e
    · injection e with _ _ e
      subst e
      exact ⟨h1, h2⟩
  refine ⟨some ⟨g, 0, none⟩, cap, rfl, by unfold I64; omega, by unfold I64; omega, by unfold maxLen; exact Nat.zero_le _, hc1, hc2, RdAll.mk_ vs 0 fun j v hv => ?_⟩
  obtain ⟨lo, hi, k, m, s, l, A, c, h1, h2, h3, rfl, h5, h6, h7, h8, h9⟩ := h.2 j v hv
  have cell : ∀ i u, xs[i]? = some u → w'.cell? ⟨g, 0 + i, none⟩ = some u := fun i u hu => by
    rw [hk ⟨g, 0 + i, none⟩ hb hgl]
    have := hcells i u hu
    rwa [add_lit'] at this
  refine ⟨g, 0, .int .i64 k, .int .i64 m, .string s, .slice A l.length c, rfl, hgl, ?_, ?_, ?_, ?_, ?_⟩
  · have := cell _ _ h5; rwa [show 0 + (0 + j) * 4 = 0 + j * 4 by omega]
  · have := cell _ _ h6; rwa [show 0 + (0 + j) * 4 + 1 = 0 + (j * 4 + 1) by omega]
  · have := cell _ _ h7; rwa [show 0 + (0 + j) * 4 + 2 = 0 + (j * 4 + 2) by omega]
  · have := cell _ _ h8; rwa [show 0 + (0 + j) * 4 + 3 = 0 + (j * 4 + 3) by omega]
  · exact Rd.keep (w := w') (w' := w') h2 (fun _ _ => rfl) _ _ (h9 w' fun p hp1 hp2 => hk p (by omega) (by omega))
end Go.Proofs.Ytbcaanadmfnegaa
