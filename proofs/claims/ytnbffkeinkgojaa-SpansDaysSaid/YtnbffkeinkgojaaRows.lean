/-
  No cell of these rows narrows 'for every input' (looked for: loops, veiled, ifaces, maps, wideKeys, modest, calm, conditions, laid).
  DERIVED. THE GIVEN ROWS OF THIS SEAT. 7 by the template 'for every input the law returns true; each argument reads behind the call as it read before'; 0 by the template 'total and deterministic' (their statements: YtnbffkeinkgojaaTotals.lean).
  GIVEN WITH THE SEED: the statements are not yours to turn. If you find one false, say at which input.
  Laid BY PROGRAM, IN A SANDBOX (cutbox-rows.mjs): the forced cells as the released guide's own fill.sh prints them over the translation 2459d64aee44bc1f… (all of the seat's roots in one cut). By AI agents, Wed Nov 11 2026. No macro, syntax, notation, axiom, sorry.
-/
import Derived.Test.YtnbffkeinkgojaaChecked
import GoSem.Claim
import GoSem.ClaimJoined
import GoSem.ClaimMapViews
import Derived.JoinedTies
import Derived.KernelRfl
namespace Go.Proofs.Ytnbffkeinkgojaa
/- THE CELL 'sum', in the pinned program and in every row, IS THE sha256 OF THE DUMP (.gsa) THAT YtnbffkeinkgojaaProg.lean LOADS. Nothing in Lean hashes anything: it is a label: what it is worth is what the hold of that sum in a sandbox is worth. -/
noncomputable def Try.pinned : Pinned := { name := "ytnbffkeinkgojaa", sum := "2459d64aee44bc1f8514ad1463990766727a5b2fcaca730ceee8f61ba56c3885", checked := Try.checked }
namespace Rows
def none {H : Type} : Left H := { results := [], args := [] }

/-- 'backflushlaw03.SpansSpec': WHATEVER THE INPUT: true; the input reads as it did. -/
def spansSpecSpec : ChangeSpec := { name := "spansSpec", fn := fun _ => fun
  | [d] => { results := [.lit (.bool true)], args := [d] }
  | _ => none }
def spansSpecRow : OpenClaim := { program := "ytnbffkeinkgojaa", sum := "2459d64aee44bc1f8514ad1463990766727a5b2fcaca730ceee8f61ba56c3885", func := "backflush/backflushlaw03.SpansSpec", spec := "spansSpec", unfollowed := true, recurses := true, apart := false }
def SpansSpecSaid : Prop := spansSpecRow.holds Try.pinned (OpenSpec.ofChange spansSpecSpec)

/-- ITS FALSE NEIGHBOUR: 'it returns false'. Refute it at one input. -/
def spansSpecWrong : ChangeSpec := { name := "spansSpec", fn := fun _ => fun
  | [d] => { results := [.lit (.bool false)], args := [d] }
  | _ => none }
def SpansSpecWrongFalsely : Prop := spansSpecRow.holds Try.pinned (OpenSpec.ofChange spansSpecWrong)

/-- 'backflushlaw03.SpansSetsSpec': WHATEVER THE INPUT: true; the input reads as it did. -/
def spansSetsSpecSpec : ChangeSpec := { name := "spansSetsSpec", fn := fun _ => fun
  | [d1, d2] => { results := [.lit (.bool true)], args := [d1, d2] }
  | _ => none }
def spansSetsSpecRow : OpenClaim := { program := "ytnbffkeinkgojaa", sum := "2459d64aee44bc1f8514ad1463990766727a5b2fcaca730ceee8f61ba56c3885", func := "backflush/backflushlaw03.SpansSetsSpec", spec := "spansSetsSpec", unfollowed := true, recurses := true, apart := false }
def SpansSetsSpecSaid : Prop := spansSetsSpecRow.holds Try.pinned (OpenSpec.ofChange spansSetsSpecSpec)

/-- ITS FALSE NEIGHBOUR: 'it returns false'. Refute it at one input. -/
def spansSetsSpecWrong : ChangeSpec := { name := "spansSetsSpec", fn := fun _ => fun
  | [d1, d2] => { results := [.lit (.bool false)], args := [d1, d2] }
  | _ => none }
def SpansSetsSpecWrongFalsely : Prop := spansSetsSpecRow.holds Try.pinned (OpenSpec.ofChange spansSetsSpecWrong)

/-- 'backflushlaw03.SpansHasSpec': WHATEVER THE INPUT: true; the input reads as it did. -/
def spansHasSpecSpec : ChangeSpec := { name := "spansHasSpec", fn := fun _ => fun
  | [d1, d2, d3] => { results := [.lit (.bool true)], args := [d1, d2, d3] }
  | _ => none }
def spansHasSpecRow : OpenClaim := { program := "ytnbffkeinkgojaa", sum := "2459d64aee44bc1f8514ad1463990766727a5b2fcaca730ceee8f61ba56c3885", func := "backflush/backflushlaw03.SpansHasSpec", spec := "spansHasSpec", unfollowed := true, recurses := true, apart := false }
def SpansHasSpecSaid : Prop := spansHasSpecRow.holds Try.pinned (OpenSpec.ofChange spansHasSpecSpec)

/-- ITS FALSE NEIGHBOUR: 'it returns false'. Refute it at one input. -/
def spansHasSpecWrong : ChangeSpec := { name := "spansHasSpec", fn := fun _ => fun
  | [d1, d2, d3] => { results := [.lit (.bool false)], args := [d1, d2, d3] }
  | _ => none }
def SpansHasSpecWrongFalsely : Prop := spansHasSpecRow.holds Try.pinned (OpenSpec.ofChange spansHasSpecWrong)

/-- 'backflushlaw03.SpansDays': WHATEVER THE INPUT: true; the input reads as it did. -/
def spansDaysSpec : ChangeSpec := { name := "spansDays", fn := fun _ => fun
  | [d1, d2, d3] => { results := [.lit (.bool true)], args := [d1, d2, d3] }
  | _ => none }
def spansDaysRow : OpenClaim := { program := "ytnbffkeinkgojaa", sum := "2459d64aee44bc1f8514ad1463990766727a5b2fcaca730ceee8f61ba56c3885", func := "backflush/backflushlaw03.SpansDays", spec := "spansDays", unfollowed := true, recurses := true, apart := false }
def SpansDaysSaid : Prop := spansDaysRow.holds Try.pinned (OpenSpec.ofChange spansDaysSpec)

/-- ITS FALSE NEIGHBOUR: 'it returns false'. Refute it at one input. -/
def spansDaysWrong : ChangeSpec := { name := "spansDays", fn := fun _ => fun
  | [d1, d2, d3] => { results := [.lit (.bool false)], args := [d1, d2, d3] }
  | _ => none }
def SpansDaysWrongFalsely : Prop := spansDaysRow.holds Try.pinned (OpenSpec.ofChange spansDaysWrong)

/-- 'backflushlaw03.SpansAlgebra': WHATEVER THE INPUT: true; the input reads as it did. -/
def spansAlgebraSpec : ChangeSpec := { name := "spansAlgebra", fn := fun _ => fun
  | [d1, d2, d3] => { results := [.lit (.bool true)], args := [d1, d2, d3] }
  | _ => none }
def spansAlgebraRow : OpenClaim := { program := "ytnbffkeinkgojaa", sum := "2459d64aee44bc1f8514ad1463990766727a5b2fcaca730ceee8f61ba56c3885", func := "backflush/backflushlaw03.SpansAlgebra", spec := "spansAlgebra", unfollowed := true, recurses := true, apart := false }
def SpansAlgebraSaid : Prop := spansAlgebraRow.holds Try.pinned (OpenSpec.ofChange spansAlgebraSpec)

/-- ITS FALSE NEIGHBOUR: 'it returns false'. Refute it at one input. -/
def spansAlgebraWrong : ChangeSpec := { name := "spansAlgebra", fn := fun _ => fun
  | [d1, d2, d3] => { results := [.lit (.bool false)], args := [d1, d2, d3] }
  | _ => none }
def SpansAlgebraWrongFalsely : Prop := spansAlgebraRow.holds Try.pinned (OpenSpec.ofChange spansAlgebraWrong)

/-- 'backflushlaw03.SpansDivide': WHATEVER THE INPUT: true; the input reads as it did. -/
def spansDivideSpec : ChangeSpec := { name := "spansDivide", fn := fun _ => fun
  | [d1, d2] => { results := [.lit (.bool true)], args := [d1, d2] }
  | _ => none }
def spansDivideRow : OpenClaim := { program := "ytnbffkeinkgojaa", sum := "2459d64aee44bc1f8514ad1463990766727a5b2fcaca730ceee8f61ba56c3885", func := "backflush/backflushlaw03.SpansDivide", spec := "spansDivide", unfollowed := true, recurses := true, apart := false }
def SpansDivideSaid : Prop := spansDivideRow.holds Try.pinned (OpenSpec.ofChange spansDivideSpec)

/-- ITS FALSE NEIGHBOUR: 'it returns false'. Refute it at one input. -/
def spansDivideWrong : ChangeSpec := { name := "spansDivide", fn := fun _ => fun
  | [d1, d2] => { results := [.lit (.bool false)], args := [d1, d2] }
  | _ => none }
def SpansDivideWrongFalsely : Prop := spansDivideRow.holds Try.pinned (OpenSpec.ofChange spansDivideWrong)

/-- 'backflushlaw03.SpansCovers': WHATEVER THE INPUT: true; the input reads as it did. -/
def spansCoversSpec : ChangeSpec := { name := "spansCovers", fn := fun _ => fun
  | [d1, d2, d3, d4] => { results := [.lit (.bool true)], args := [d1, d2, d3, d4] }
  | _ => none }
def spansCoversRow : OpenClaim := { program := "ytnbffkeinkgojaa", sum := "2459d64aee44bc1f8514ad1463990766727a5b2fcaca730ceee8f61ba56c3885", func := "backflush/backflushlaw03.SpansCovers", spec := "spansCovers", unfollowed := true, recurses := true, apart := false }
def SpansCoversSaid : Prop := spansCoversRow.holds Try.pinned (OpenSpec.ofChange spansCoversSpec)

/-- ITS FALSE NEIGHBOUR: 'it returns false'. Refute it at one input. -/
def spansCoversWrong : ChangeSpec := { name := "spansCovers", fn := fun _ => fun
  | [d1, d2, d3, d4] => { results := [.lit (.bool false)], args := [d1, d2, d3, d4] }
  | _ => none }
def SpansCoversWrongFalsely : Prop := spansCoversRow.holds Try.pinned (OpenSpec.ofChange spansCoversWrong)

/- THE SECOND FORM. 'bulk': how many values and letters a reading holds, each counted each time it is reached (what is shared counts as often as it is met; a slice's spare places count too). A statement '..UptoSaid' is the law's where the arguments, and the package variables that the reading takes, are together of bulk at most 1048576: NARROWER than '..Said'. Prove '..Said' where nothing that the law and all that it calls make is longer than what came in: it says more and counts as full. Else prove '..UptoSaid'. A law counts once. -/
mutual
def uptoBulk {H : Type} : DataW H → Nat
  | .lit (.string bytes) => bytes.length + 1
  | .lit _ => 1
  | .nil => 1
  | .ptr d => uptoBulk d + 1
  | .slice elems spare => uptoBulkAll elems + uptoBulkAll spare + 1
  | .agg parts => uptoBulkAll parts + 1
  | .iface _ d => uptoBulk d + 1
  | .map entries => uptoBulkEntries entries + 1
  | .held _ => 1
def uptoBulkAll {H : Type} : List (DataW H) → Nat
  | [] => 0
  | d :: r => uptoBulk d + uptoBulkAll r
def uptoBulkEntries {H : Type} : List (Lit × DataW H) → Nat
  | [] => 0
  | x :: r => uptoBulkEntry x + uptoBulkEntries r
def uptoBulkEntry {H : Type} : Lit × DataW H → Nat
  | (.string bytes, d) => bytes.length + uptoBulk d + 1
  | (_, d) => uptoBulk d + 1
 end
def uptoSmall : (H : Type) → List (DataW H) → Bool := fun _ ds => decide (uptoBulkAll ds ≤ 1048576)
def OpenSpec.upto (s : _root_.Go.ChangeSpec) : _root_.Go.OpenSpec := { _root_.Go.OpenSpec.ofChange s with cond := some uptoSmall }

/-- 'backflushlaw03.SpansSpec', WHERE WHAT IT READS IS OF BULK AT MOST 1048576: true; the input reads as it did. -/
def spansSpecUptoRow : OpenClaim := { program := "ytnbffkeinkgojaa", sum := "2459d64aee44bc1f8514ad1463990766727a5b2fcaca730ceee8f61ba56c3885", func := "backflush/backflushlaw03.SpansSpec", spec := "spansSpec", unfollowed := true, recurses := true, apart := false, narrowed := true }
def SpansSpecUptoSaid : Prop := spansSpecUptoRow.holds Try.pinned (OpenSpec.upto spansSpecSpec)

/-- 'backflushlaw03.SpansSetsSpec', WHERE WHAT IT READS IS OF BULK AT MOST 1048576: true; the input reads as it did. -/
def spansSetsSpecUptoRow : OpenClaim := { program := "ytnbffkeinkgojaa", sum := "2459d64aee44bc1f8514ad1463990766727a5b2fcaca730ceee8f61ba56c3885", func := "backflush/backflushlaw03.SpansSetsSpec", spec := "spansSetsSpec", unfollowed := true, recurses := true, apart := false, narrowed := true }
def SpansSetsSpecUptoSaid : Prop := spansSetsSpecUptoRow.holds Try.pinned (OpenSpec.upto spansSetsSpecSpec)

/-- 'backflushlaw03.SpansHasSpec', WHERE WHAT IT READS IS OF BULK AT MOST 1048576: true; the input reads as it did. -/
def spansHasSpecUptoRow : OpenClaim := { program := "ytnbffkeinkgojaa", sum := "2459d64aee44bc1f8514ad1463990766727a5b2fcaca730ceee8f61ba56c3885", func := "backflush/backflushlaw03.SpansHasSpec", spec := "spansHasSpec", unfollowed := true, recurses := true, apart := false, narrowed := true }
def SpansHasSpecUptoSaid : Prop := spansHasSpecUptoRow.holds Try.pinned (OpenSpec.upto spansHasSpecSpec)

/-- 'backflushlaw03.SpansDays', WHERE WHAT IT READS IS OF BULK AT MOST 1048576: true; the input reads as it did. -/
def spansDaysUptoRow : OpenClaim := { program := "ytnbffkeinkgojaa", sum := "2459d64aee44bc1f8514ad1463990766727a5b2fcaca730ceee8f61ba56c3885", func := "backflush/backflushlaw03.SpansDays", spec := "spansDays", unfollowed := true, recurses := true, apart := false, narrowed := true }
def SpansDaysUptoSaid : Prop := spansDaysUptoRow.holds Try.pinned (OpenSpec.upto spansDaysSpec)

/-- 'backflushlaw03.SpansAlgebra', WHERE WHAT IT READS IS OF BULK AT MOST 1048576: true; the input reads as it did. -/
def spansAlgebraUptoRow : OpenClaim := { program := "ytnbffkeinkgojaa", sum := "2459d64aee44bc1f8514ad1463990766727a5b2fcaca730ceee8f61ba56c3885", func := "backflush/backflushlaw03.SpansAlgebra", spec := "spansAlgebra", unfollowed := true, recurses := true, apart := false, narrowed := true }
def SpansAlgebraUptoSaid : Prop := spansAlgebraUptoRow.holds Try.pinned (OpenSpec.upto spansAlgebraSpec)

/-- 'backflushlaw03.SpansDivide', WHERE WHAT IT READS IS OF BULK AT MOST 1048576: true; the input reads as it did. -/
def spansDivideUptoRow : OpenClaim := { program := "ytnbffkeinkgojaa", sum := "2459d64aee44bc1f8514ad1463990766727a5b2fcaca730ceee8f61ba56c3885", func := "backflush/backflushlaw03.SpansDivide", spec := "spansDivide", unfollowed := true, recurses := true, apart := false, narrowed := true }
def SpansDivideUptoSaid : Prop := spansDivideUptoRow.holds Try.pinned (OpenSpec.upto spansDivideSpec)

/-- 'backflushlaw03.SpansCovers', WHERE WHAT IT READS IS OF BULK AT MOST 1048576: true; the input reads as it did. -/
def spansCoversUptoRow : OpenClaim := { program := "ytnbffkeinkgojaa", sum := "2459d64aee44bc1f8514ad1463990766727a5b2fcaca730ceee8f61ba56c3885", func := "backflush/backflushlaw03.SpansCovers", spec := "spansCovers", unfollowed := true, recurses := true, apart := false, narrowed := true }
def SpansCoversUptoSaid : Prop := spansCoversUptoRow.holds Try.pinned (OpenSpec.upto spansCoversSpec)

end Rows
end Go.Proofs.Ytnbffkeinkgojaa
