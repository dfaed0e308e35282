/- Contracts of the rotations. -/
import Derived.Test.YtfolmglafnfcbaaDoorBits
import Derived.WalkSpells
import Derived.WalkLawsBesides
import Derived.Lib.Hide
import Derived.Deep.QuietTactic
import Derived.BigQuiet
namespace Go.Proofs.YtfolmglafnfcbaaDoor
open Go.RowKit

set_option maxRecDepth 100000 in
set_option maxHeartbeats 1000000 in
theorem rotl_any (v s : Int) (w : World) (_h0 : 0 ≤ v) (_h1 : v ≤ 4294967295) (hs : 0 < s) (hs' : s < 32) :
    Calls Tryd.prog 57 #[.int .u32 v, .int .i64 (-s)] w fun e w' => e = .returned (.int .u32 (rorI v s)) ∧ w = w' := by
  have E := and31 s hs hs'
  go_enter Tryd.func57, Tryd.ntmps57
  go_wp2_with fail
  go_ret
  rw [rorI, bits_or_comm, show 32 - (32 - s) = s from by omega]
  exact ⟨rfl, rfl⟩
set_option maxRecDepth 100000 in
set_option maxHeartbeats 1000000 in
theorem ror_any (v s : Int) (w : World) (h0 : 0 ≤ v) (h1 : v ≤ 4294967295) (hs : 0 < s) (hs' : s < 32) :
    Calls Tryd.prog 49 #[.int .u32 v, .int .i64 s] w fun e w' => e = .returned (.int .u32 (rorI v s)) ∧ w = w' := by
  have e1 : IntKind.i64.wrap (-s) = -s := IntWalk.i64_in _ (by omega)
  go_enter Tryd.func49, Tryd.ntmps49
  go_wp2_with fail
  refine (rotl_any v s _ h0 h1 hs hs').mono ?_
  rintro e w' ⟨rfl, rfl⟩
  go_wp2_with fail
  go_ret
  exact ⟨rfl, rfl⟩
set_option maxRecDepth 100000 in
set_option maxHeartbeats 1000000 in
theorem refror_any (v s : Int) (w : World) (_ : 0 ≤ v) (_ : v ≤ 4294967295) (hs : 0 < s) (hs' : s < 32) :
    Calls Tryd.prog 51 #[.int .u32 v, .int .i64 s] w fun e w' => e = .returned (.int .u32 (rorI v s)) ∧ ∃ n, w' = w.drewN n := by
  go_enter Tryd.func51, Tryd.ntmps51
  go_wp2_with fail
  go_quiet (fail)
  go_wp2_with fail
  go_ret
  exact ⟨rfl, _, rfl⟩
end Go.Proofs.YtfolmglafnfcbaaDoor
