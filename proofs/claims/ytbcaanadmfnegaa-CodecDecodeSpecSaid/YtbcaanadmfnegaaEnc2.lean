/- Encode's contracts of both packages, parted by the answer of Check; what a law's prologue needs. -/
import Derived.Test.YtbcaanadmfnegaaSane
namespace Go.Proofs.Ytbcaanadmfnegaa
open Go.RowKit

/-- what an Encode that accepts leaves; N is the length -/
def EncYes (w : World) (v : V) (N : Nat) (e : Ending) (w' : World) : Prop :=
  ∃ g cap, e = .returned (.tuple #[.slice (some ⟨g, 0, none⟩) N cap, .int .i64 0]) ∧ Below w.heap.size w w' ∧ RdB w' w'.heap.size (some ⟨g, 0, none⟩) N v.enc ∧ N ≤ cap ∧ cap ≤ maxLen

theorem Encoded.yes {w w' : World} {v : V} {e : Ending} (h : Encoded w v e w') (hc : v.check = 0) {N : Nat} (hN : N = v.enc.length) : EncYes w v N e w' := by
  obtain ⟨hb, ⟨_, g, cap, N', rfl, hN', hg, hO⟩ | ⟨hbad, _⟩⟩ := h
  · have e1 : N' = N := by rw [hN, hN'.out]
    subst e1
    have hl := (World.ownsRow.lt hO g rfl).2
    refine ⟨g, cap, rfl, hb, hO.rdb hN hl, ?_, ?_⟩
    all_goals
      rcases hO.2 with ⟨e, _⟩ | ⟨_, _, _, e, _, _, h1, h2, _⟩
      · cases e
      · injection e with _ _ e; subst e
        first | exact h2 | (rw [hN]; exact h1)
  · exact absurd hc hbad
theorem Encoded.no {w w' : World} {v : V} {e : Ending} (h : Encoded w v e w') {c : Int} (hc : v.check = c) (hn : c ≠ 0) : e = .returned (.tuple #[.slice none 0 0, .int .i64 c]) ∧ Below w.heap.size w w' := by
  subst hc
  obtain ⟨hb, ⟨h0, _⟩ | ⟨_, rfl⟩⟩ := h
  · exact absurd h0 hn
  · exact ⟨rfl, hb⟩

section
variable (v : V) (w : World) (B : Nat) (x : Value) (hB : B ≤ w.heap.size) (hr : Rd w B v x) (hbk : v.bulk ≤ 1099511627776)
include hB hr hbk
theorem encode_yes (hc : v.check = 0) {N : Nat} (hN : N = v.enc.length) : Calls Try.prog 12 #[x] w (EncYes w v N) :=
  (encode_any v w B x hB hr hbk).mono fun _ _ h => h.yes hc hN
theorem encode_no {c : Int} (hc : v.check = c) (hn : c ≠ 0) : Calls Try.prog 12 #[x] w fun e w' => e = .returned (.tuple #[.slice none 0 0, .int .i64 c]) ∧ Below w.heap.size w w' :=
  (encode_any v w B x hB hr hbk).mono fun _ _ h => h.no hc hn
theorem refEncode_yes (hc : v.check = 0) {N : Nat} (hN : N = v.enc.length) : Calls Try.prog 13 #[x] w (EncYes w v N) :=
  (refEncodeE_any v w B x hB hr hbk).mono fun _ _ h => h.yes hc hN
theorem refEncode_no {c : Int} (hc : v.check = c) (hn : c ≠ 0) : Calls Try.prog 13 #[x] w fun e w' => e = .returned (.tuple #[.slice none 0 0, .int .i64 c]) ∧ Below w.heap.size w w' :=
  (refEncodeE_any v w B x hB hr hbk).mono fun _ _ h => h.no hc hn
end

theorem below_next {W X Y : World} (h : Below W.heap.size W X) (hb : Below X.heap.size X Y) : Below W.heap.size W Y := h.trans (hb.mono h.size)
theorem below_next' {W X Y : World} (R : Prop) (h : Below W.heap.size W X ∧ R) (hb : Below X.heap.size X Y) : Below W.heap.size W Y := below_next h.1 hb
theorem below_box {W : World} (o : Obj) : Below W.heap.size W (W.alloc o) := (Below.refl _ _).alloc (Nat.le_refl _) o
theorem rdB_nil (w : World) (B : Nat) : RdB w B none 0 [] := ⟨rfl, fun h => absurd h (by omega)⟩

/-- a literal of one value -/
theorem rdAll_one {w : World} {B g : Nat} {v : V} {x0 x1 x2 x3 : Value} (hg : g < B) (hc : ∀ i z, [x0, x1, x2, x3][i]? = some z → w.cell? ⟨g, i, none⟩ = some z) (hv : Rd w B v (.agg #[x0, x1, x2, x3])) : RdAll w B [v] (some ⟨g, 0, none⟩) 0 :=
  ⟨⟨g, 0, x0, x1, x2, x3, rfl, hg, hc 0 _ rfl, hc 1 _ rfl, hc 2 _ rfl, hc 3 _ rfl, hv⟩, trivial⟩

theorem fewAll_bulk {l : List V} (h : fewAll l = true) : ∀ v ∈ l, v.bulk ≤ 42000 := fun v hv => by
  have := List.all_eq_true.1 h v hv
  have h1 : v.count 20 ≤ 200 := by simpa using this
  have := count_bulk v 20 h1
  omega
/-- what a boxed argument is -/
theorem vb_new (w : World) (k n : Int) (s : ByteArray) (u : Value) : VB (w.alloc (.cells #[.int .i64 k, .int .i64 n, .string s, u] 24)) w.heap.size k n (.string s) u := heap_alloc_new w _
end Go.Proofs.Ytbcaanadmfnegaa
