/- The hash at the bytes that the laws' examples name. -/
import Derived.Test.YtfolmglafnfcbaaDoorPadM
import Derived.KernelRfl
namespace Go.Proofs.YtfolmglafnfcbaaDoor
theorem sha_abc : (sha [97, 98, 99]).take 4 = [186, 120, 22, 191] := by kernel_rfl
end Go.Proofs.YtfolmglafnfcbaaDoor
