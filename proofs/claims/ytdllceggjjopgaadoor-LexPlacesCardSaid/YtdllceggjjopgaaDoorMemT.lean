/- Tokens in memory, the table of classes, and the small functions of package lex. -/
import Derived.Test.YtdllceggjjopgaaDoorRowE2
import Derived.Test.YtdllceggjjopgaaDoorLexM
import Derived.Lib.LaidTab
import Derived.FnData
namespace Go.Proofs.YtdllceggjjopgaaDoor
open Go.RowKit

def I64 (n : Int) : Prop := -9223372036854775808 ≤ n ∧ n ≤ 9223372036854775807
def tkV (t : Tk) : List Value := [.int .i64 t.kind, .int .i64 t.place, .string ⟨t.text.toArray⟩, .int .i64 t.n]
theorem tkV_len (t : Tk) : (tkV t).length = 4 := rfl
theorem tkV_one (k : Tk) : ∀ u ∈ tkV k, u.oneCell' = true := by
  intro u hu
  simp only [tkV, List.mem_cons, List.not_mem_nil, or_false] at hu
  rcases hu with rfl | rfl | rfl | rfl <;> rfl
abbrev RdT := RdE 4 tkV
theorem tk_cells {w : World} {b o : Nat} {k p n : Int} {x : List UInt8} (h : w.rangeAt b o (tkV ⟨k, p, x, n⟩)) :
    w.cell? ⟨b, o, none⟩ = some (.int .i64 k) ∧ w.cell? ⟨b, o + 1, none⟩ = some (.int .i64 p) ∧ w.cell? ⟨b, o + 2, none⟩ = some (.string ⟨x.toArray⟩) ∧ w.cell? ⟨b, o + 3, none⟩ = some (.int .i64 n) :=
  ⟨h 0 _ rfl, h 1 _ rfl, h 2 _ rfl, h 3 _ rfl⟩
theorem tokenInfo : (Tryd.prog.info? 35).map (fun i => (i.zero, i.size, i.bytes)) = some (some (.agg #[.int .i64 0, .int .i64 0, .string ⟨#[]⟩, .int .i64 0]), 4, 40) := by kernel_rfl

theorem powNamed : Tryd.prog.globalNamed "internal/strconv.uint64pow10" = some 2 := by kernel_rfl
theorem below_drewN {B : Nat} {w w' : World} (h : Below B w w') (n : Nat) : Below B w (w'.drewN n) := ⟨h.os, h.tape, h.output, h.size, h.block⟩
/-- the tables lie where they lie: that of the classes in block 0, the powers of ten in block 2 -/
def KOK (w : World) : Prop := (∀ i c, classL[i]? = some c → w.cell? ⟨0, i, none⟩ = some (.int .i64 (c : Nat))) ∧ Lib.TabIs Tryd.prog w "internal/strconv.uint64pow10" .u64 Lib.pow10Tab
theorem KOK.pos {w : World} (h : KOK w) : 2 < w.heap.size := by
  have h2 := World.var?_cell powNamed h.2 0
  exact World.block_lt_of_cell? w (a := ⟨2, 0, none⟩) (u := .int .u64 1) (by rw [h2]; rfl)
theorem KOK.below {w w' : World} {B : Nat} (h : KOK w) (hb : Below B w w') (hB : 2 < B) : KOK w' :=
  ⟨fun i c hc => (hb.cell (p := ⟨0, i, none⟩) (by show 0 < B; omega)).trans (h.1 i c hc), by
    have h2 := h.2
    unfold Lib.TabIs World.var? at h2 ⊢
    rw [powNamed] at h2 ⊢
    simp only [Option.bind_some] at h2 ⊢
    rw [hb.block 2 hB]
    exact h2⟩

set_option maxRecDepth 100000 in
set_option maxHeartbeats 1000000 in
theorem classOf_any (c : UInt8) (w : World) (hK : KOK w) : Calls Tryd.prog 38 #[.int .u8 (c.toNat : Int)] w fun e w' => e = .returned (.int .i64 (cls c : Nat)) ∧ w = w' := by
  have hc : c.toNat < 256 := c.toNat_lt
  by_cases h : c.toNat < 128
  · have h0 := hK.1 _ _ (cls_at c h)
    have h1 : (c.toNat : Int) < 128 := by omega
    generalize cls c = y at *
    generalize c.toNat = k at *
    clear hK
    go_enter Tryd.func38, Tryd.ntmps38
    go_wp2_with fail
    go_ret
    exact ⟨rfl, rfl⟩
  · have h1 : ¬ (c.toNat : Int) < 128 := by omega
    have hy := cls_high c h
    rw [hy]
    clear hK hy
    generalize c.toNat = k at *
    go_enter Tryd.func38, Tryd.ntmps38
    go_wp2_with fail
    go_ret
    exact ⟨rfl, rfl⟩
end Go.Proofs.YtdllceggjjopgaaDoor
