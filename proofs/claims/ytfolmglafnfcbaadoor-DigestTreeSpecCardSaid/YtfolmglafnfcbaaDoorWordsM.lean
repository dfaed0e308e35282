/- The words of a block, as a list of 64 that is filled from the left. -/
import Derived.Test.YtfolmglafnfcbaaDoorWord
namespace Go.Proofs.YtfolmglafnfcbaaDoor
open Go.RowKit

def byteAt (bs : List UInt8) (i : Nat) : UInt8 := bs.getD i 0
def sg0 (x : Int) : Int := bits .xor .u32 (bits .xor .u32 (rorI x 7) (rorI x 18)) (x / 8)
def sg1 (y : Int) : Int := bits .xor .u32 (bits .xor .u32 (rorI y 17) (rorI y 19)) (y / 1024)
/-- the word with the index t, where l holds the words before it -/
def wval (bs : List UInt8) (t : Nat) (l : List Int) : Int :=
  if t < 16 then wordI (byteAt bs (t * 4)) (byteAt bs (t * 4 + 1)) (byteAt bs (t * 4 + 2)) (byteAt bs (t * 4 + 3))
  else (l.getD (t - 16) 0 + sg0 (l.getD (t - 15) 0) + l.getD (t - 7) 0 + sg1 (l.getD (t - 2) 0)) % 4294967296
def wsTo (bs : List UInt8) : Nat → List Int
  | 0 => List.replicate 64 0
  | t + 1 => (wsTo bs t).set t (wval bs t (wsTo bs t))
theorem wval_u32 (bs : List UInt8) (t : Nat) (l : List Int) : U32 (wval bs t l) := by
  unfold wval
  split
  · exact wordI_u32 _ _ _ _
  · exact mod_u32 _
theorem wsTo_length (bs : List UInt8) (t : Nat) : (wsTo bs t).length = 64 := by
  induction t with
  | zero => simp [wsTo]
  | succ t ih => simp [wsTo, ih]
def AllU32 (l : List Int) : Prop := ∀ (i : Nat) (x : Int), l[i]? = some x → U32 x
theorem AllU32.set {l : List Int} (h : AllU32 l) (i : Nat) {x : Int} (hx : U32 x) : AllU32 (l.set i x) := by
  intro j y hy
  by_cases e : i = j
  · subst e
    rw [List.getElem?_set] at hy
    simp at hy
    rw [← hy.2]
    exact hx
  · rw [List.getElem?_set_ne e] at hy
    exact h j y hy
theorem wsTo_u32 (bs : List UInt8) (t : Nat) : AllU32 (wsTo bs t) := by
  induction t with
  | zero =>
    intro i x hx
    simp only [wsTo, List.getElem?_replicate] at hx
    split at hx
    · injection hx with hx; subst hx; unfold U32; omega
    · cases hx
  | succ t ih => exact ih.set t (wval_u32 _ _ _)
theorem AllU32.getD {l : List Int} (h : AllU32 l) (i : Nat) : U32 (l.getD i 0) := by
  rw [List.getD_eq_getElem?_getD]
  cases e : l[i]? with
  | none => simp [U32]
  | some x => exact h i x e

/-- the cells of a row of words -/
def rowOf (l : List Int) : Array Value := (l.map (Value.int .u32)).toArray
theorem rowOf_at {l : List Int} {i : Nat} (h : i < l.length) : (rowOf l)[i]? = some (.int .u32 (l.getD i 0)) := by
  unfold rowOf
  rw [List.getElem?_toArray, List.getElem?_map, List.getD_eq_getElem?_getD, List.getElem?_eq_getElem h]
  rfl
theorem rowOf_size (l : List Int) : (rowOf l).size = l.length := by simp [rowOf]
theorem rowOf_set (l : List Int) (i : Nat) (x : Int) : (rowOf l).setIfInBounds i (.int .u32 x) = rowOf (l.set i x) := by
  unfold rowOf
  simp [List.map_set]
theorem rowOf_one (l : List Int) : (rowOf l).all (·.oneCell') = true := by
  unfold rowOf
  rw [Array.all_eq_true_iff_forall_mem]
  intro v hv
  simp only [List.mem_toArray, List.mem_map] at hv
  obtain ⟨x, _, rfl⟩ := hv
  rfl
/-- block g is a row of words -/
def WRow (w : World) (g : Nat) (ty : TypeId) (l : List Int) : Prop := w.heap[g]? = some (.cells (rowOf l) ty (0, 0))
theorem WRow.cell {w : World} {g : Nat} {ty : TypeId} {l : List Int} (h : WRow w g ty l) {i : Nat} (hi : i < l.length) : w.cell? ⟨g, i, none⟩ = some (.int .u32 (l.getD i 0)) := by
  rw [cell_of_row w g i _ _ _ h, rowOf_at hi]
theorem WRow.lt {w : World} {g : Nat} {ty : TypeId} {l : List Int} (h : WRow w g ty l) : g < w.heap.size := (Array.getElem?_eq_some_iff.1 h).1
theorem WRow.frozen {w : World} {g : Nat} {ty : TypeId} {l : List Int} (h : WRow w g ty l) (i : Nat) : w.frozen? ⟨g, i, none⟩ = false := frozen_of_row w g i _ _ h
theorem WRow.set {w : World} {g : Nat} {ty : TypeId} {l : List Int} (h : WRow w g ty l) (i : Nat) (x : Int) : WRow (w.setCell ⟨g, i, none⟩ (.int .u32 x)) g ty (l.set i x) := by
  unfold WRow at h ⊢
  rw [heap_setCell_same w g i _ ty _ h, rowOf_set]
theorem WRow.below {w w' : World} {B g : Nat} {ty : TypeId} {l : List Int} (h : WRow w g ty l) (hb : Below B w w') (hg : g < B) : WRow w' g ty l := (hb.block g hg).trans h
theorem WRow.drewN {w : World} {g k : Nat} {ty : TypeId} {l : List Int} (h : WRow w g ty l) : WRow (w.drewN k) g ty l := h
end Go.Proofs.YtfolmglafnfcbaaDoor
