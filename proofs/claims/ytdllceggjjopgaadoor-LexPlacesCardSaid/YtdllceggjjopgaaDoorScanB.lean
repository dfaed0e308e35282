/- What scan leaves, and words for its contract. -/
import Derived.Test.YtdllceggjjopgaaDoorPassL
namespace Go.Proofs.YtdllceggjjopgaaDoor
open Go.RowKit

/-- what a panic at a place is -/
def placeChain (i : Nat) : List PanicEntry := [{ v := .iface 42 (.int .i64 i), recovered := false }]

theorem takeWhile_at {t : List UInt8} {p : UInt8 → Bool} {k : Nat} {d : UInt8} (h : (t.take k).all p = true) (hd : t[k]? = some d) (hp : p d = false) : t.take k = t.takeWhile p := by
  conv => rhs; rw [← List.take_append_drop k t]
  rw [List.takeWhile_append_of_pos (fun x hx => List.all_eq_true.1 h x hx)]
  have e : t.drop k = d :: t.drop (k + 1) := by
    rw [List.drop_eq_getElem_cons (List.getElem?_eq_some_iff.1 hd).1, (List.getElem?_eq_some_iff.1 hd).2]
  rw [e, List.takeWhile_cons, if_neg (by rw [hp]; decide), List.append_nil]
theorem takeWhile_all {t : List UInt8} {p : UInt8 → Bool} (h : t.all p = true) : t.takeWhile p = t := by
  have h2 := List.takeWhile_append_of_pos (l₂ := []) (fun x hx => List.all_eq_true.1 h x hx)
  simpa using h2
theorem Turn.set_new {a b : World} {r k i : Nat} {v : Value} (h : Turn a b r) (hk : a.heap.size ≤ k) : Turn a (b.setCell ⟨k, i, none⟩ v) r :=
  ⟨h.os, h.tape, h.output, by have := h.size; simpa [World.setCell] using this, fun j hj hne => (Below.heap_setCell b ⟨k, i, none⟩ v j (by show j ≠ k; omega)).trans (h.block j hj hne)⟩
theorem Scn.far {w : World} {r i k o : Nat} {s : List UInt8} {v : Value} (h : Scn w r s i) (hne : r ≠ k) : Scn (w.setCell ⟨k, o, none⟩ v) r s i := (Below.heap_setCell w ⟨k, o, none⟩ v r hne).trans h
/-- what scan leaves: a token of m bytes, or a panic -/
def Scanned (w : World) (r : Nat) (s : List UInt8) (i m : Nat) (k : Tk) (e : Ending) (w' : World) : Prop :=
  Turn w w' r ∧ ((okTk k = true ∧ e = .returned (.agg #[.int .i64 k.kind, .int .i64 i, .string ⟨k.text.toArray⟩, .int .i64 k.n]) ∧ Scn w' r s (i + m)) ∨ (okTk k = false ∧ e = .panicked (placeChain i)))

end Go.Proofs.YtdllceggjjopgaaDoor
