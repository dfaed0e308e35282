/- The law SpansHasSpec, walked, out of the contracts of the program's functions. -/
import Derived.Test.YtnbffkeinkgojaaLawSpec
import Derived.Deep.RegionHeld3
namespace Go.Proofs.Ytnbffkeinkgojaa
open Go.RowKit

/-- a box of two cells, kept by what only makes memory -/
theorem box1_keep {W w1 w2 : World} {g : Nat} {x0 x1 : Value} (k : Below W.heap.size W w1 ∧ w1.cell? ⟨g, 0, none⟩ = some x0 ∧ w1.cell? ⟨g, 1, none⟩ = some x1) (hb : Below w1.heap.size w1 w2) :
    Below W.heap.size W w2 ∧ w2.cell? ⟨g, 0, none⟩ = some x0 ∧ w2.cell? ⟨g, 1, none⟩ = some x1 := by
  obtain ⟨k0, c0, c1⟩ := k
  have l0 := World.block_lt_of_cell? w1 _ c0
  exact ⟨k0.trans (hb.mono k0.size), by rw [hb.cell (by simpa using l0)]; exact c0, by rw [hb.cell (by simpa using l0)]; exact c1⟩

set_option maxRecDepth 100000 in
set_option maxHeartbeats 4000000 in
theorem law_has (P : ProgOk) (Aa : Option Addr) (na ca : Nat) (la : List Sp) (D F T : Int) (w : World) (hra : RdS w w.heap.size Aa na la) (h1a : na ≤ ca) (h2a : ca ≤ maxLen)
    (hD : I64 D) (hF : I64 F) (hT : I64 T) :
    Calls Try.prog 5 #[.slice Aa na ca, .int .i64 D, .agg #[.int .i64 F, .int .i64 T]] w fun e w' => e = .returned (.bool true) ∧ Below w.heap.size w w' := by
  have PP := Lib.hid P
  have h0 := heap_alloc_new w (.cells #[.int .i64 F, .int .i64 T] 31)
  have h1 := Below.new1 w (.cells #[.int .i64 F, .int .i64 T] 31)
  have Ra := Lib.hid (hra.below h1 (by simp : w.heap.size ≤ (w.alloc (.cells #[.int .i64 F, .int .i64 T] 31)).heap.size))
  have hs0 : w.heap.size < (w.alloc (.cells #[.int .i64 F, .int .i64 T] 31)).heap.size := by simp
  go_enter Try.func5, Try.ntmps5
  go_wp2_with fail
  obtain ⟨v1, hv1⟩ : ∃ x, x = w.alloc (.cells #[.int .i64 F, .int .i64 T] 31) := ⟨_, rfl⟩
  rw [← hv1] at h0 h1 Ra hs0 ⊢
  have c0 : v1.cell? ⟨w.heap.size, 0, none⟩ = some (.int .i64 F) := by rw [cell_of_row _ _ 0 _ _ _ h0]; rfl
  have c1 : v1.cell? ⟨w.heap.size, 1, none⟩ = some (.int .i64 T) := by rw [cell_of_row _ _ 1 _ _ _ h0]; rfl
  have HC0 := Lib.hid c0
  have HC1 := Lib.hid c1
  have HB0 := Lib.hid h1
  have HS := Lib.hid hs0
  have GD := Lib.hid hD
  have GF := Lib.hid hF
  have GT := Lib.hid hT
  clear P hra h0 h1 hs0 hv1 c0 c1 hD hF hT
  refine (sane_any PP.out v1).mono ?_
  rintro e w2 ⟨rfl, b2⟩
  have HB2 : Hid (Below w.heap.size w w2) := HB0.out.trans (b2.mono HB0.out.size)
  have Rb := Lib.hid (Ra.out.below b2 b2.size)
  have k0 : w2.cell? ⟨w.heap.size, 0, none⟩ = some (.int .i64 F) := by rw [b2.cell HS.out]; exact HC0.out
  have k1 : w2.cell? ⟨w.heap.size, 1, none⟩ = some (.int .i64 T) := by rw [b2.cell HS.out]; exact HC1.out
  clear b2 Ra HC0 HC1 HS HB0
  go_wp2_with fail
  refine (reffew_any Aa na ca w2).mono ?_
  rintro e wx ⟨rfl, rfl⟩
  by_cases hfa : na ≤ 40
  case neg =>
    rw [decide_eq_false hfa]
    go_wp2_with fail
    go_ret
    exact ⟨rfl, HB2.out⟩
  rw [decide_eq_true hfa]
  have La : Hid (LS w2 Aa na ca la) := ⟨Rb.out, h1a, h2a, by omega⟩
  clear Rb h1a h2a hfa
  obtain ⟨x, hx⟩ : ∃ x, hasM la D = x := ⟨_, rfl⟩
  obtain ⟨y, hy⟩ : ∃ x, covM la F T = x := ⟨_, rfl⟩
  have HX := Lib.hid hx
  have HY := Lib.hid hy
  clear hx hy
  have C1 : Hid (∀ w' : World, (Below w2.heap.size w2 w' ∧ w'.cell? ⟨w.heap.size, 0, none⟩ = some (.int .i64 F) ∧ w'.cell? ⟨w.heap.size, 1, none⟩ = some (.int .i64 T)) → Calls Try.prog 23 #[.slice Aa na ca, .int .i64 D] w' fun e w6 => e = .returned (.bool x) ∧ Below w'.heap.size w' w6) := fun w' h => by
    have hL := La.out.below h.1 rfl
    rw [← HX.out]
    exact PP.out.has Aa na ca la D w' hL.1 hL.2.1 hL.2.2.1 hL.2.2.2 GD.out
  have C2 : Hid (∀ w' : World, (Below w2.heap.size w2 w' ∧ w'.cell? ⟨w.heap.size, 0, none⟩ = some (.int .i64 F) ∧ w'.cell? ⟨w.heap.size, 1, none⟩ = some (.int .i64 T)) → Calls Try.prog 24 #[.slice Aa na ca, .int .i64 D] w' fun e w6 => e = .returned (.bool x) ∧ Below w'.heap.size w' w6) := fun w' h => by
    have hL := La.out.below h.1 rfl
    rw [← HX.out]
    exact refhas_any Aa na ca la D w' hL.1 (by have := hL.2.2.2; omega)
  have C3 : Hid (∀ w' : World, (Below w2.heap.size w2 w' ∧ w'.cell? ⟨w.heap.size, 0, none⟩ = some (.int .i64 F) ∧ w'.cell? ⟨w.heap.size, 1, none⟩ = some (.int .i64 T)) → Calls Try.prog 25 #[.slice Aa na ca, .agg #[.int .i64 F, .int .i64 T]] w' fun e w6 => e = .returned (.bool y) ∧ Below w'.heap.size w' w6) := fun w' h => by
    have hL := La.out.below h.1 rfl
    rw [← HY.out]
    exact PP.out.covers Aa na ca la F T w' hL.1 hL.2.1 hL.2.2.1 hL.2.2.2 GF.out GT.out
  have C4 : Hid (∀ w' : World, (Below w2.heap.size w2 w' ∧ w'.cell? ⟨w.heap.size, 0, none⟩ = some (.int .i64 F) ∧ w'.cell? ⟨w.heap.size, 1, none⟩ = some (.int .i64 T)) → Calls Try.prog 26 #[.slice Aa na ca, .agg #[.int .i64 F, .int .i64 T]] w' fun e w6 => e = .returned (.bool y) ∧ Below w'.heap.size w' w6) := fun w' h => by
    have hL := La.out.below h.1 rfl
    rw [← HY.out]
    exact refcovers_any Aa na ca la F T w' hL.1 (by have := hL.2.2.2; omega)
  have HFIN : Hid (∀ w' : World, (Below w2.heap.size w2 w' ∧ w'.cell? ⟨w.heap.size, 0, none⟩ = some (.int .i64 F) ∧ w'.cell? ⟨w.heap.size, 1, none⟩ = some (.int .i64 T)) → Below w.heap.size w w') := fun w' h => HB2.out.trans (h.1.mono HB2.out.size)
  clear La HX HY PP GD GF GT
  go_wp2_with fail
  go_region_held3 (fun w' => Below w2.heap.size w2 w' ∧ w'.cell? ⟨w.heap.size, 0, none⟩ = some (.int .i64 F) ∧ w'.cell? ⟨w.heap.size, 1, none⟩ = some (.int .i64 T))
    (first | assumption | exact ⟨(Below.refl _ _).drew, k0, k1⟩ | (refine box1_keep ?_ hb5; assumption))
    (first
      | (go_at_call 23; ((with_reducible refine (C1.out _ (by assumption)).mono ?_); rintro e w5 ⟨rfl, hb5⟩))
      | (go_at_call 24; ((with_reducible refine (C2.out _ (by assumption)).mono ?_); rintro e w5 ⟨rfl, hb5⟩))
      | (go_at_call 25; ((with_reducible refine (C3.out _ (by assumption)).mono ?_); rintro e w5 ⟨rfl, hb5⟩))
      | (go_at_call 26; ((with_reducible refine (C4.out _ (by assumption)).mono ?_); rintro e w5 ⟨rfl, hb5⟩)))
  go_wp2_with fail
  go_ret
  exact ⟨rfl, HFIN.out _ (by assumption)⟩
end Go.Proofs.Ytnbffkeinkgojaa
