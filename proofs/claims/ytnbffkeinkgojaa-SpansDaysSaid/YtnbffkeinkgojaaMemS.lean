/- Lists of spans and rows of days in memory. -/
import Derived.Test.YtnbffkeinkgojaaBase
import Derived.Test.YtnbffkeinkgojaaDaysM
namespace Go.Proofs.Ytnbffkeinkgojaa
open Go.RowKit

def I64 (n : Int) : Prop := -9223372036854775808 ≤ n ∧ n ≤ 9223372036854775807
def spanV (s : Sp) : List Value := [.int .i64 s.1, .int .i64 s.2]
def flatS (l : List Sp) : List Value := l.flatMap spanV
theorem flatS_append (a b : List Sp) : flatS (a ++ b) = flatS a ++ flatS b := List.flatMap_append
theorem flatS_one (s : Sp) : flatS [s] = spanV s := by simp [flatS]
theorem flatS_length : ∀ (l : List Sp), (flatS l).length = l.length * 2
  | [] => rfl
  | s :: r => by
    have ih := flatS_length r
    have e : flatS (s :: r) = spanV s ++ flatS r := rfl
    rw [e, List.length_append, ih, List.length_cons]
    show 2 + _ = _
    omega
theorem flatS_one' (l : List Sp) : ∀ u ∈ flatS l, u.oneCell' = true := by
  intro u hu
  unfold flatS at hu
  obtain ⟨d, _, h⟩ := List.mem_flatMap.1 hu
  simp [spanV] at h
  rcases h with rfl | rfl <;> rfl
theorem flatS_at : ∀ (l : List Sp) (j : Nat) (s : Sp), l[j]? = some s → (flatS l)[j * 2]? = some (.int .i64 s.1) ∧ (flatS l)[j * 2 + 1]? = some (.int .i64 s.2)
  | [], _, _, h => by simp at h
  | t :: r, 0, s, h => by
    simp at h
    subst h
    exact ⟨rfl, rfl⟩
  | t :: r, j + 1, s, h => by
    have ih := flatS_at r j s (by simpa using h)
    have e : flatS (t :: r) = .int .i64 t.1 :: .int .i64 t.2 :: flatS r := rfl
    rw [e, show (j + 1) * 2 = j * 2 + 1 + 1 by omega]
    exact ⟨by simpa using ih.1, by simpa using ih.2⟩

/-- a slice of n spans, its memory below block B -/
def RdS (w : World) (B : Nat) (A : Option Addr) (n : Nat) (l : List Sp) : Prop :=
  n = l.length ∧ (∀ s ∈ l, I64 s.1 ∧ I64 s.2) ∧ (0 < n → ∃ b o : Nat, A = some ⟨b, o, none⟩ ∧ b < B ∧ ∀ (j : Nat) (s : Sp), l[j]? = some s → w.cell? ⟨b, o + j * 2, none⟩ = some (.int .i64 s.1) ∧ w.cell? ⟨b, o + j * 2 + 1, none⟩ = some (.int .i64 s.2))
theorem RdS.keep {w w' : World} {B B' n : Nat} {A : Option Addr} {l : List Sp} (h : RdS w B A n l) (hB : B ≤ B') (hk : ∀ p : Addr, p.block < B → w'.cell? p = w.cell? p) : RdS w' B' A n l :=
  ⟨h.1, h.2.1, fun hn => by
    obtain ⟨b, o, e, hb, hc⟩ := h.2.2 hn
    exact ⟨b, o, e, by omega, fun j s hs => ⟨(hk _ hb).trans (hc j s hs).1, (hk _ hb).trans (hc j s hs).2⟩⟩⟩
theorem RdS.below {w w' : World} {B B' n : Nat} {A : Option Addr} {l : List Sp} (h : RdS w B A n l) (hb : Below B w w') (hB : B ≤ B') : RdS w' B' A n l := h.keep hB fun _ hp => hb.cell hp
theorem RdS.nil (w : World) (B : Nat) (A : Option Addr) : RdS w B A 0 [] := ⟨rfl, (by simp), fun h => absurd h (by omega)⟩
theorem RdS.of_owns {w : World} {base g n cap B : Nat} {l : List Sp} {t : TypeId} (h : Owns w base t 2 g n cap (flatS l)) (hi : ∀ s ∈ l, I64 s.1 ∧ I64 s.2) (hB : g < B) : RdS w B (some ⟨g, 0, none⟩) n l := by
  have hl := h.1
  rw [flatS_length] at hl
  refine ⟨by omega, hi, fun _ => ⟨g, 0, rfl, hB, fun j s hs => ?_⟩⟩
  obtain ⟨h1, h2⟩ := flatS_at l j s hs
  rw [Nat.zero_add]
  exact ⟨h.cell _ _ h1, h.cell _ _ h2⟩

/-- block g holds the row of days of f -/
def boolV (f : Nat → Bool) : Array Value := ((List.range 1024).map fun k => Value.bool (f k)).toArray
def BoolRow (w : World) (g : Nat) (f : Nat → Bool) : Prop := w.heap[g]? = some (.cells (boolV f) 4 (0, 0))
def upd (f : Nat → Bool) (m : Nat) (b : Bool) : Nat → Bool := fun k => if k = m then b else f k
theorem boolV_congr {f g : Nat → Bool} (h : ∀ k, k < 1024 → f k = g k) : boolV f = boolV g := by
  have e : (List.range 1024).map (fun k => Value.bool (f k)) = (List.range 1024).map (fun k => Value.bool (g k)) := List.map_congr_left fun k hk => by rw [h k (List.mem_range.1 hk)]
  unfold boolV
  rw [e]
theorem BoolRow.congr {w : World} {g : Nat} {f f' : Nat → Bool} (h : BoolRow w g f) (hf : ∀ k, k < 1024 → f k = f' k) : BoolRow w g f' := by
  unfold BoolRow at h ⊢
  rw [← boolV_congr hf]
  exact h
theorem BoolRow.lt {w : World} {g : Nat} {f : Nat → Bool} (h : BoolRow w g f) : g < w.heap.size := (Array.getElem?_eq_some_iff.1 h).1
theorem BoolRow.cell {w : World} {g : Nat} {f : Nat → Bool} (h : BoolRow w g f) (k : Nat) (hk : k < 1024) : w.cell? ⟨g, k, none⟩ = some (.bool (f k)) := by
  rw [cell_of_row w g k _ _ _ h]
  unfold boolV
  rw [List.getElem?_toArray, List.getElem?_map, List.getElem?_range hk]
  rfl
theorem BoolRow.frozen {w : World} {g : Nat} {f : Nat → Bool} (h : BoolRow w g f) (i : Nat) : w.frozen? ⟨g, i, none⟩ = false := frozen_of_row w g i _ _ h
theorem BoolRow.below {w w' : World} {B g : Nat} {f : Nat → Bool} (h : BoolRow w g f) (hb : Below B w w') (hg : g < B) : BoolRow w' g f := (hb.block g hg).trans h
theorem BoolRow.keep {w w' : World} {g : Nat} {f : Nat → Bool} (h : BoolRow w g f) (k : w'.heap[g]? = w.heap[g]?) : BoolRow w' g f := k.trans h
theorem boolV_set (f : Nat → Bool) (m : Nat) (b : Bool) : (boolV f).setIfInBounds m (.bool b) = boolV (upd f m b) := by
  unfold boolV upd
  apply Array.ext'
  apply List.ext_getElem?
  intro k
  simp only [List.setIfInBounds_toArray, List.toList_toArray, List.getElem?_set, List.length_map, List.length_range, List.getElem?_map]
  by_cases hk : k < 1024
  · rw [List.getElem?_range hk]
    by_cases e : m = k
    · subst e
      simp [hk]
    · rw [if_neg e]
      simp [Ne.symm e]
  · rw [List.getElem?_eq_none (by simp; omega)]
    by_cases e : m = k
    · subst e; simp [hk]
    · rw [if_neg e]; rfl
theorem BoolRow.set {w : World} {g : Nat} {f : Nat → Bool} (h : BoolRow w g f) (m : Nat) (b : Bool) : BoolRow (w.setCell ⟨g, m, none⟩ (.bool b)) g (upd f m b) := by
  unfold BoolRow at h ⊢
  rw [heap_setCell_same w g m _ _ _ h, boolV_set]
theorem made_bools : madeCells #[Value.bool false] 1024 = boolV fun _ => false := by
  unfold boolV
  apply Array.ext'
  rw [toList_madeCells_one, List.toList_toArray, List.map_const', List.length_range]
theorem boolInfo : (Try.prog.info? 4).map (fun i => (i.zero, i.size, i.bytes)) = some (some (.bool false), 1, 1) := by kernel_rfl
theorem bool_of_owns {w : World} {base g N : Nat} (hN : N = 1024) (h : Owns w base 4 1 g 1024 1024 (madeCells #[Value.bool false] N).toList) : BoolRow w g fun _ => false := by
  have h' := owns_full h
  have e : (madeCells #[Value.bool false] N).toList.toArray = boolV fun _ => false := by rw [hN, made_bools, Array.toArray_toList]
  rw [e] at h'
  exact h'
end Go.Proofs.Ytnbffkeinkgojaa
