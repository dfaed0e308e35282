/- Contracts of the reference's constructors. -/
import Derived.Test.YtbcaanadmfnegaaDecode
import Derived.Test.YtbcaanadmfnegaaRefEnc
import Derived.Test.YtbcaanadmfnegaaFew
import Derived.Test.YtbcaanadmfnegaaSame
namespace Go.Proofs.Ytbcaanadmfnegaa
open Go.RowKit

set_option maxRecDepth 100000 in
theorem refInt_any (n : Int) (w : World) : Calls Try.prog 23 #[.int .i64 n] w fun e w' => e = .returned (.agg #[.int .i64 1, .int .i64 n, .string ⟨#[]⟩, .slice none 0 0]) ∧ Below w.heap.size w w' := by
  go_enter Try.func23, Try.ntmps23
  go_wp2_with fail
  exact bodyPost_ret (v := .agg #[.int .i64 1, .int .i64 n, .string ⟨#[]⟩, .slice none 0 0]) (by simp [results, Try.results23, go_sem]) rfl ⟨rfl, (Below.refl _ _).alloc (Nat.le_refl _) _⟩

set_option maxRecDepth 100000 in
theorem refText_any (s : ByteArray) (w : World) : Calls Try.prog 24 #[.string s] w fun e w' => e = .returned (.agg #[.int .i64 2, .int .i64 0, .string s, .slice none 0 0]) ∧ Below w.heap.size w w' := by
  go_enter Try.func24, Try.ntmps24
  go_wp2_with fail
  exact bodyPost_ret (v := .agg #[.int .i64 2, .int .i64 0, .string s, .slice none 0 0]) (by simp [results, Try.results24, go_sem]) rfl ⟨rfl, (Below.refl _ _).alloc (Nat.le_refl _) _⟩

set_option maxRecDepth 100000 in
theorem refList_any (A : Option Addr) (n c : Nat) (w : World) : Calls Try.prog 22 #[.slice A n c] w fun e w' => e = .returned (.agg #[.int .i64 3, .int .i64 0, .string ⟨#[]⟩, .slice A n c]) ∧ Below w.heap.size w w' := by
  go_enter Try.func22, Try.ntmps22
  go_wp2_with fail
  exact bodyPost_ret (v := .agg #[.int .i64 3, .int .i64 0, .string ⟨#[]⟩, .slice A n c]) (by simp [results, Try.results22, go_sem]) rfl ⟨rfl, (Below.refl _ _).alloc (Nat.le_refl _) _⟩

theorem Rd.flat (w : World) (B : Nat) {k m : Int} {s : ByteArray} (hk : I64 k) (hm : I64 m) (hs : s.size ≤ maxLen) : Rd w B (.mk k m s []) (.agg #[.int .i64 k, .int .i64 m, .string s, .slice none 0 0]) :=
  ⟨none, 0, rfl, hk, hm, hs, Nat.le_refl _, by unfold maxLen; omega, trivial⟩

/-- the bytes of a row of one's own can be read -/
theorem Own.rdb {w : World} {base g N cap : Nat} {xs : List UInt8} (h : Own w base (.slice (some ⟨g, 0, none⟩) N cap) xs) (hN : N = xs.length) (hg : g < w.heap.size) : RdB w w.heap.size (some ⟨g, 0, none⟩) N xs :=
  ⟨hN, fun _ => ⟨g, 0, rfl, hg, fun j u hu => by
    have := World.ownsRow.cells h (g := g) rfl j (.int .u8 u.toNat) (by simp [bytesV, hu])
    rwa [add_lit'] at this⟩⟩

def i3 : V := .mk 1 (-3) ⟨#[]⟩ []
def vab : V := .mk 3 0 ⟨#[]⟩ [.mk 1 100 ⟨#[]⟩ [], .mk 2 0 ⟨#[97, 98]⟩ []]
theorem i3_check : i3.check = 0 := by kernel_rfl
theorem vab_check : vab.check = 0 := by kernel_rfl
theorem i3_enc : i3.enc = [1, 5] := by
  simp [i3, V.enc, uform, num]
theorem vab_enc : vab.enc = [3, 2, 1, 200, 1, 2, 2, 97, 98] := by
  simp [vab, V.enc, V.encAll, uform, num, ByteArray.size]
theorem vab_dec : dec [3, 2, 1, 200, 1, 2, 2, 97, 98] = some vab := by kernel_rfl
end Go.Proofs.Ytbcaanadmfnegaa
