/- backflushlaw01.CodecSameSpec answers true for every two values, and its arguments read afterwards as before. No condition. -/
import Derived.Test.YtbcaanadmfnegaaSane
import Derived.Test.YtbcaanadmfnegaaOpen
namespace Go.Proofs.Ytbcaanadmfnegaa
open Go.ChangeShapes Go.WideShapes Go.ChangeAt Go.RowKit

/-- two boxes of four cells -/
def Box2 (g h : Nat) (x0 x1 x2 x3 y0 y1 y2 y3 : Value) (W w' : World) : Prop :=
  Below W.heap.size W w' ∧ w'.cell? ⟨g, 0, none⟩ = some x0 ∧ w'.cell? ⟨g, 1, none⟩ = some x1 ∧ w'.cell? ⟨g, 2, none⟩ = some x2 ∧ w'.cell? ⟨g, 3, none⟩ = some x3 ∧ w'.cell? ⟨h, 0, none⟩ = some y0 ∧ w'.cell? ⟨h, 1, none⟩ = some y1 ∧ w'.cell? ⟨h, 2, none⟩ = some y2 ∧ w'.cell? ⟨h, 3, none⟩ = some y3
theorem box2_keep {W w1 w2 : World} {g h : Nat} {x0 x1 x2 x3 y0 y1 y2 y3 : Value} (k : Below W.heap.size W w1 ∧ w1.cell? ⟨g, 0, none⟩ = some x0 ∧ w1.cell? ⟨g, 1, none⟩ = some x1 ∧ w1.cell? ⟨g, 2, none⟩ = some x2 ∧ w1.cell? ⟨g, 3, none⟩ = some x3 ∧ w1.cell? ⟨h, 0, none⟩ = some y0 ∧ w1.cell? ⟨h, 1, none⟩ = some y1 ∧ w1.cell? ⟨h, 2, none⟩ = some y2 ∧ w1.cell? ⟨h, 3, none⟩ = some y3) (hb : Below w1.heap.size w1 w2) :
    Below W.heap.size W w2 ∧ w2.cell? ⟨g, 0, none⟩ = some x0 ∧ w2.cell? ⟨g, 1, none⟩ = some x1 ∧ w2.cell? ⟨g, 2, none⟩ = some x2 ∧ w2.cell? ⟨g, 3, none⟩ = some x3 ∧ w2.cell? ⟨h, 0, none⟩ = some y0 ∧ w2.cell? ⟨h, 1, none⟩ = some y1 ∧ w2.cell? ⟨h, 2, none⟩ = some y2 ∧ w2.cell? ⟨h, 3, none⟩ = some y3 := by
  obtain ⟨k0, c0, c1, c2, c3, d0, d1, d2, d3⟩ := k
  have l0 := World.block_lt_of_cell? w1 _ c0
  have l1 := World.block_lt_of_cell? w1 _ d0
  exact ⟨k0.trans (hb.mono k0.size), by rw [hb.cell (by simpa using l0)]; exact c0, by rw [hb.cell (by simpa using l0)]; exact c1, by rw [hb.cell (by simpa using l0)]; exact c2, by rw [hb.cell (by simpa using l0)]; exact c3,
    by rw [hb.cell (by simpa using l1)]; exact d0, by rw [hb.cell (by simpa using l1)]; exact d1, by rw [hb.cell (by simpa using l1)]; exact d2, by rw [hb.cell (by simpa using l1)]; exact d3⟩

/-- a literal of two values, of which each can be read -/
theorem rdAll_two {w : World} {B g : Nat} {v u : V} {x0 x1 x2 x3 y0 y1 y2 y3 : Value} (hg : g < B) (hc : ∀ i z, [x0, x1, x2, x3, y0, y1, y2, y3][i]? = some z → w.cell? ⟨g, i, none⟩ = some z) (hv : Rd w B v (.agg #[x0, x1, x2, x3])) (hu : Rd w B u (.agg #[y0, y1, y2, y3])) :
    RdAll w B [v, u] (some ⟨g, 0, none⟩) 0 :=
  ⟨⟨g, 0, x0, x1, x2, x3, rfl, hg, hc 0 _ rfl, hc 1 _ rfl, hc 2 _ rfl, hc 3 _ rfl, hv⟩, ⟨g, 0, y0, y1, y2, y3, rfl, hg, hc 4 _ rfl, hc 5 _ rfl, hc 6 _ rfl, hc 7 _ rfl, hu⟩, trivial⟩

set_option maxRecDepth 100000 in
set_option maxHeartbeats 4000000 in
theorem law_same_any (v u : V) (x y : Value) (w : World) (hv : Rd w w.heap.size v x) (hu : Rd w w.heap.size u y) : Calls Try.prog 5 #[x, y] w fun e w' => e = .returned (.bool true) ∧ Below w.heap.size w w' := by
  have HV := Lib.hid hv
  have HU := Lib.hid hu
  obtain ⟨k, n, s, l, rfl⟩ : ∃ k n s l, v = V.mk k n s l := by cases v with | mk k n s l => exact ⟨k, n, s, l, rfl⟩
  obtain ⟨A, cap, rfl, hr⟩ := hv
  obtain ⟨k', n', s', l', rfl⟩ : ∃ k n s l, u = V.mk k n s l := by cases u with | mk k n s l => exact ⟨k, n, s, l, rfl⟩
  obtain ⟨A', cap', rfl, hr'⟩ := hu
  clear hr hr'
  obtain ⟨W, hW⟩ : ∃ W, W = (w.alloc (.cells #[.int .i64 k, .int .i64 n, .string s, .slice A l.length cap] 24)).alloc (.cells #[.int .i64 k', .int .i64 n', .string s', .slice A' l'.length cap'] 24) := ⟨_, rfl⟩
  have hWb : Below w.heap.size w W := by rw [hW]; exact ((Below.refl _ _).alloc (Nat.le_refl _) _).alloc (by simp) _
  have hWz : W.heap.size = w.heap.size + 2 := by rw [hW]; simp
  have hVB : VB W w.heap.size k n (.string s) (.slice A l.length cap) := by
    unfold VB; rw [hW, Below.heap_alloc _ _ _ (by simp)]
    exact heap_alloc_new w _
  have hUB : VB W (w.heap.size + 1) k' n' (.string s') (.slice A' l'.length cap') := by
    unfold VB; rw [hW]
    have := heap_alloc_new (w.alloc (.cells #[.int .i64 k, .int .i64 n, .string s, .slice A l.length cap] 24)) (.cells #[.int .i64 k', .int .i64 n', .string s', .slice A' l'.length cap'] 24)
    simpa using this
  have HW := Lib.hid hW
  have HWB := Lib.hid hWb
  have HVB := Lib.hid hVB
  have HUB := Lib.hid hUB
  have HRV := Lib.hid (Rd.below (B' := W.heap.size) HV.out hWb (by omega))
  have HRU := Lib.hid (Rd.below (B' := W.heap.size) HU.out hWb (by omega))
  clear hW hWb hVB hUB
  go_enter Try.func5, Try.ntmps5
  go_wp2_with fail
  rw [← HW.out]
  refine (sane_any _).mono ?_
  rintro e w1 ⟨rfl, hb1⟩
  have z1 : W.heap.size ≤ w1.heap.size := hb1.size
  have B1 := Lib.hid (HWB.out.trans (hb1.mono (by omega)))
  have V1 := HVB.out.below hb1
  have U1 := HUB.out.below hb1
  have R1 := Lib.hid (Rd.below (B' := w1.heap.size) HRV.out hb1 z1)
  have Q1 := Lib.hid (Rd.below (B' := w1.heap.size) HRU.out hb1 z1)
  have a0 := V1.cell 0
  have a1 := V1.cell 1
  have a2 := V1.cell 2
  have a3 := V1.cell 3
  have b0 := U1.cell 0
  have b1 := U1.cell 1
  have b2 := U1.cell 2
  have b3 := U1.cell 3
  have HV1 := Lib.hid V1
  have HU1 := Lib.hid U1
  clear hb1 V1 U1
  go_wp2_with fail
  obtain ⟨X, hX⟩ : ∃ X, X = w1.alloc (.cells #[.int .i64 k, .int .i64 n, .string s, .slice A l.length cap, .int .i64 k', .int .i64 n', .string s', .slice A' l'.length cap'] 24) := ⟨_, rfl⟩
  have hXb : Below w1.heap.size w1 X := by rw [hX]; exact (Below.refl _ _).alloc (Nat.le_refl _) _
  have hXz : X.heap.size = w1.heap.size + 1 := by rw [hX]; simp
  have hXc : ∀ i z, [Value.int .i64 k, .int .i64 n, .string s, .slice A l.length cap, .int .i64 k', .int .i64 n', .string s', .slice A' l'.length cap'][i]? = some z → X.cell? ⟨w1.heap.size, i, none⟩ = some z := fun i z hi => by
    rw [hX, cell_of_row _ _ i _ _ _ (heap_alloc_new w1 _)]
    simpa using hi
  have R2 := Lib.hid (Rd.below (B' := X.heap.size) R1.out hXb (by omega))
  have Q2 := Lib.hid (Rd.below (B' := X.heap.size) Q1.out hXb (by omega))
  have HA := Lib.hid (rdAll_two (by omega) hXc R2.out Q2.out)
  have B2 := Lib.hid (B1.out.trans (hXb.mono (by omega)))
  have HV2 := Lib.hid (HV1.out.below hXb)
  have HU2 := Lib.hid (HU1.out.below hXb)
  have HX := Lib.hid hX
  clear hXb hXc hX a0 a1 a2 a3 b0 b1 b2 b3
  rw [← HX.out]
  refine (few_any [.mk k n s l, .mk k' n' s' l'] _ 2 X X.heap.size (Nat.le_refl _) HA.out (by simp)).mono ?_
  rintro e w2 ⟨rfl, hb2⟩
  have z2 : X.heap.size ≤ w2.heap.size := hb2.size
  have B3 := Lib.hid (B2.out.trans (hb2.mono (by omega)))
  have R3 := Lib.hid (Rd.below (B' := w2.heap.size) R2.out hb2 z2)
  have Q3 := Lib.hid (Rd.below (B' := w2.heap.size) Q2.out hb2 z2)
  have V3 := HV2.out.below hb2
  have U3 := HU2.out.below hb2
  have a0 := V3.cell 0
  have a1 := V3.cell 1
  have a2 := V3.cell 2
  have a3 := V3.cell 3
  have b0 := U3.cell 0
  have b1 := U3.cell 1
  have b2 := U3.cell 2
  have b3 := U3.cell 3
  have HS : Hid (∀ w' : World, (Below w2.heap.size w2 w' ∧ w'.cell? ⟨w.heap.size, 0, none⟩ = some (.int .i64 k) ∧ w'.cell? ⟨w.heap.size, 1, none⟩ = some (.int .i64 n) ∧ w'.cell? ⟨w.heap.size, 2, none⟩ = some (.string s) ∧ w'.cell? ⟨w.heap.size, 3, none⟩ = some (.slice A l.length cap) ∧ w'.cell? ⟨w.heap.size + 1, 0, none⟩ = some (.int .i64 k') ∧ w'.cell? ⟨w.heap.size + 1, 1, none⟩ = some (.int .i64 n') ∧ w'.cell? ⟨w.heap.size + 1, 2, none⟩ = some (.string s') ∧ w'.cell? ⟨w.heap.size + 1, 3, none⟩ = some (.slice A' l'.length cap')) →
      Rd w' w'.heap.size (.mk k n s l) (.agg #[.int .i64 k, .int .i64 n, .string s, .slice A l.length cap]) ∧ Rd w' w'.heap.size (.mk k' n' s' l') (.agg #[.int .i64 k', .int .i64 n', .string s', .slice A' l'.length cap'])) :=
    fun w' h => ⟨Rd.below R3.out h.1 h.1.size, Rd.below Q3.out h.1 h.1.size⟩
  have HFIN : Hid (∀ w' : World, (Below w2.heap.size w2 w' ∧ w'.cell? ⟨w.heap.size, 0, none⟩ = some (.int .i64 k) ∧ w'.cell? ⟨w.heap.size, 1, none⟩ = some (.int .i64 n) ∧ w'.cell? ⟨w.heap.size, 2, none⟩ = some (.string s) ∧ w'.cell? ⟨w.heap.size, 3, none⟩ = some (.slice A l.length cap) ∧ w'.cell? ⟨w.heap.size + 1, 0, none⟩ = some (.int .i64 k') ∧ w'.cell? ⟨w.heap.size + 1, 1, none⟩ = some (.int .i64 n') ∧ w'.cell? ⟨w.heap.size + 1, 2, none⟩ = some (.string s') ∧ w'.cell? ⟨w.heap.size + 1, 3, none⟩ = some (.slice A' l'.length cap')) → Below w.heap.size w w') := fun w' h => B3.out.trans (h.1.mono (by omega))
  have eV := V.same_refl (.mk k n s l)
  have eU := V.same_refl (.mk k' n' s' l')
  have EV := Lib.hid eV
  have EU := Lib.hid eU
  clear hb2 V3 U3 eV eU
  cases hfew : fewAll [V.mk k n s l, V.mk k' n' s' l'] with
  | false =>
    clear hfew
    go_wp2_with fail
    go_ret
    exact ⟨rfl, B3.out⟩
  | true =>
    clear hfew
    go_wp2_with fail
    cases hsm : V.same (.mk k n s l) (.mk k' n' s' l') with
    | false =>
      have HSM := Lib.hid hsm
      have C1 : Hid (∀ w' : World, (Below w2.heap.size w2 w' ∧ w'.cell? ⟨w.heap.size, 0, none⟩ = some (.int .i64 k) ∧ w'.cell? ⟨w.heap.size, 1, none⟩ = some (.int .i64 n) ∧ w'.cell? ⟨w.heap.size, 2, none⟩ = some (.string s) ∧ w'.cell? ⟨w.heap.size, 3, none⟩ = some (.slice A l.length cap) ∧ w'.cell? ⟨w.heap.size + 1, 0, none⟩ = some (.int .i64 k') ∧ w'.cell? ⟨w.heap.size + 1, 1, none⟩ = some (.int .i64 n') ∧ w'.cell? ⟨w.heap.size + 1, 2, none⟩ = some (.string s') ∧ w'.cell? ⟨w.heap.size + 1, 3, none⟩ = some (.slice A' l'.length cap')) → Calls Try.prog 20 #[(.agg #[.int .i64 k, .int .i64 n, .string s, .slice A l.length cap]), (.agg #[.int .i64 k', .int .i64 n', .string s', .slice A' l'.length cap'])] w' fun e w6 => e = .returned (.bool false) ∧ Below w'.heap.size w' w6) := fun w' h => by
        have := refSame_any (.mk k n s l) (.mk k' n' s' l') w' _ _ _ (Nat.le_refl _) (HS.out _ h).1 (HS.out _ h).2
        rwa [hsm] at this
      have C2 : Hid (∀ w' : World, (Below w2.heap.size w2 w' ∧ w'.cell? ⟨w.heap.size, 0, none⟩ = some (.int .i64 k) ∧ w'.cell? ⟨w.heap.size, 1, none⟩ = some (.int .i64 n) ∧ w'.cell? ⟨w.heap.size, 2, none⟩ = some (.string s) ∧ w'.cell? ⟨w.heap.size, 3, none⟩ = some (.slice A l.length cap) ∧ w'.cell? ⟨w.heap.size + 1, 0, none⟩ = some (.int .i64 k') ∧ w'.cell? ⟨w.heap.size + 1, 1, none⟩ = some (.int .i64 n') ∧ w'.cell? ⟨w.heap.size + 1, 2, none⟩ = some (.string s') ∧ w'.cell? ⟨w.heap.size + 1, 3, none⟩ = some (.slice A' l'.length cap')) → Calls Try.prog 21 #[(.agg #[.int .i64 k, .int .i64 n, .string s, .slice A l.length cap]), (.agg #[.int .i64 k', .int .i64 n', .string s', .slice A' l'.length cap'])] w' fun e w6 => e = .returned (.bool false) ∧ Below w'.heap.size w' w6) := fun w' h => by
        have := same_any (.mk k n s l) (.mk k' n' s' l') w' _ _ _ (Nat.le_refl _) (HS.out _ h).1 (HS.out _ h).2
        rwa [hsm] at this
      have C3 : Hid (∀ w' : World, (Below w2.heap.size w2 w' ∧ w'.cell? ⟨w.heap.size, 0, none⟩ = some (.int .i64 k) ∧ w'.cell? ⟨w.heap.size, 1, none⟩ = some (.int .i64 n) ∧ w'.cell? ⟨w.heap.size, 2, none⟩ = some (.string s) ∧ w'.cell? ⟨w.heap.size, 3, none⟩ = some (.slice A l.length cap) ∧ w'.cell? ⟨w.heap.size + 1, 0, none⟩ = some (.int .i64 k') ∧ w'.cell? ⟨w.heap.size + 1, 1, none⟩ = some (.int .i64 n') ∧ w'.cell? ⟨w.heap.size + 1, 2, none⟩ = some (.string s') ∧ w'.cell? ⟨w.heap.size + 1, 3, none⟩ = some (.slice A' l'.length cap')) → Calls Try.prog 21 #[(.agg #[.int .i64 k, .int .i64 n, .string s, .slice A l.length cap]), (.agg #[.int .i64 k, .int .i64 n, .string s, .slice A l.length cap])] w' fun e w6 => e = .returned (.bool true) ∧ Below w'.heap.size w' w6) := fun w' h => by
        have := same_any (.mk k n s l) (.mk k n s l) w' _ _ _ (Nat.le_refl _) (HS.out _ h).1 (HS.out _ h).1
        rwa [EV.out] at this
      have C4 : Hid (∀ w' : World, (Below w2.heap.size w2 w' ∧ w'.cell? ⟨w.heap.size, 0, none⟩ = some (.int .i64 k) ∧ w'.cell? ⟨w.heap.size, 1, none⟩ = some (.int .i64 n) ∧ w'.cell? ⟨w.heap.size, 2, none⟩ = some (.string s) ∧ w'.cell? ⟨w.heap.size, 3, none⟩ = some (.slice A l.length cap) ∧ w'.cell? ⟨w.heap.size + 1, 0, none⟩ = some (.int .i64 k') ∧ w'.cell? ⟨w.heap.size + 1, 1, none⟩ = some (.int .i64 n') ∧ w'.cell? ⟨w.heap.size + 1, 2, none⟩ = some (.string s') ∧ w'.cell? ⟨w.heap.size + 1, 3, none⟩ = some (.slice A' l'.length cap')) → Calls Try.prog 21 #[(.agg #[.int .i64 k', .int .i64 n', .string s', .slice A' l'.length cap']), (.agg #[.int .i64 k', .int .i64 n', .string s', .slice A' l'.length cap'])] w' fun e w6 => e = .returned (.bool true) ∧ Below w'.heap.size w' w6) := fun w' h => by
        have := same_any (.mk k' n' s' l') (.mk k' n' s' l') w' _ _ _ (Nat.le_refl _) (HS.out _ h).2 (HS.out _ h).2
        rwa [EU.out] at this
      clear hsm
      go_region_held3 (fun w' => Below w2.heap.size w2 w' ∧ w'.cell? ⟨w.heap.size, 0, none⟩ = some (.int .i64 k) ∧ w'.cell? ⟨w.heap.size, 1, none⟩ = some (.int .i64 n) ∧ w'.cell? ⟨w.heap.size, 2, none⟩ = some (.string s) ∧ w'.cell? ⟨w.heap.size, 3, none⟩ = some (.slice A l.length cap) ∧ w'.cell? ⟨w.heap.size + 1, 0, none⟩ = some (.int .i64 k') ∧ w'.cell? ⟨w.heap.size + 1, 1, none⟩ = some (.int .i64 n') ∧ w'.cell? ⟨w.heap.size + 1, 2, none⟩ = some (.string s') ∧ w'.cell? ⟨w.heap.size + 1, 3, none⟩ = some (.slice A' l'.length cap'))
        (first | assumption | exact ⟨(Below.refl _ _).drew, a0, a1, a2, a3, b0, b1, b2, b3⟩ | (refine box2_keep ?_ hb5; assumption))
        (first
          | (go_at_call 20; ((with_reducible refine (C1.out _ (by assumption)).mono ?_); rintro e w5 ⟨rfl, hb5⟩))
          | (go_at_call 21; ((with_reducible refine (C2.out _ (by assumption)).mono ?_); rintro e w5 ⟨rfl, hb5⟩))
          | (go_at_call 21; ((with_reducible refine (C3.out _ (by assumption)).mono ?_); rintro e w5 ⟨rfl, hb5⟩))
          | (go_at_call 21; ((with_reducible refine (C4.out _ (by assumption)).mono ?_); rintro e w5 ⟨rfl, hb5⟩)))
      go_wp2_with fail
      go_ret
      exact ⟨rfl, HFIN.out _ (by assumption)⟩
    | true =>
      have HSM := Lib.hid hsm
      have C1 : Hid (∀ w' : World, (Below w2.heap.size w2 w' ∧ w'.cell? ⟨w.heap.size, 0, none⟩ = some (.int .i64 k) ∧ w'.cell? ⟨w.heap.size, 1, none⟩ = some (.int .i64 n) ∧ w'.cell? ⟨w.heap.size, 2, none⟩ = some (.string s) ∧ w'.cell? ⟨w.heap.size, 3, none⟩ = some (.slice A l.length cap) ∧ w'.cell? ⟨w.heap.size + 1, 0, none⟩ = some (.int .i64 k') ∧ w'.cell? ⟨w.heap.size + 1, 1, none⟩ = some (.int .i64 n') ∧ w'.cell? ⟨w.heap.size + 1, 2, none⟩ = some (.string s') ∧ w'.cell? ⟨w.heap.size + 1, 3, none⟩ = some (.slice A' l'.length cap')) → Calls Try.prog 20 #[(.agg #[.int .i64 k, .int .i64 n, .string s, .slice A l.length cap]), (.agg #[.int .i64 k', .int .i64 n', .string s', .slice A' l'.length cap'])] w' fun e w6 => e = .returned (.bool true) ∧ Below w'.heap.size w' w6) := fun w' h => by
        have := refSame_any (.mk k n s l) (.mk k' n' s' l') w' _ _ _ (Nat.le_refl _) (HS.out _ h).1 (HS.out _ h).2
        rwa [hsm] at this
      have C2 : Hid (∀ w' : World, (Below w2.heap.size w2 w' ∧ w'.cell? ⟨w.heap.size, 0, none⟩ = some (.int .i64 k) ∧ w'.cell? ⟨w.heap.size, 1, none⟩ = some (.int .i64 n) ∧ w'.cell? ⟨w.heap.size, 2, none⟩ = some (.string s) ∧ w'.cell? ⟨w.heap.size, 3, none⟩ = some (.slice A l.length cap) ∧ w'.cell? ⟨w.heap.size + 1, 0, none⟩ = some (.int .i64 k') ∧ w'.cell? ⟨w.heap.size + 1, 1, none⟩ = some (.int .i64 n') ∧ w'.cell? ⟨w.heap.size + 1, 2, none⟩ = some (.string s') ∧ w'.cell? ⟨w.heap.size + 1, 3, none⟩ = some (.slice A' l'.length cap')) → Calls Try.prog 21 #[(.agg #[.int .i64 k, .int .i64 n, .string s, .slice A l.length cap]), (.agg #[.int .i64 k', .int .i64 n', .string s', .slice A' l'.length cap'])] w' fun e w6 => e = .returned (.bool true) ∧ Below w'.heap.size w' w6) := fun w' h => by
        have := same_any (.mk k n s l) (.mk k' n' s' l') w' _ _ _ (Nat.le_refl _) (HS.out _ h).1 (HS.out _ h).2
        rwa [hsm] at this
      have C3 : Hid (∀ w' : World, (Below w2.heap.size w2 w' ∧ w'.cell? ⟨w.heap.size, 0, none⟩ = some (.int .i64 k) ∧ w'.cell? ⟨w.heap.size, 1, none⟩ = some (.int .i64 n) ∧ w'.cell? ⟨w.heap.size, 2, none⟩ = some (.string s) ∧ w'.cell? ⟨w.heap.size, 3, none⟩ = some (.slice A l.length cap) ∧ w'.cell? ⟨w.heap.size + 1, 0, none⟩ = some (.int .i64 k') ∧ w'.cell? ⟨w.heap.size + 1, 1, none⟩ = some (.int .i64 n') ∧ w'.cell? ⟨w.heap.size + 1, 2, none⟩ = some (.string s') ∧ w'.cell? ⟨w.heap.size + 1, 3, none⟩ = some (.slice A' l'.length cap')) → Calls Try.prog 21 #[(.agg #[.int .i64 k, .int .i64 n, .string s, .slice A l.length cap]), (.agg #[.int .i64 k, .int .i64 n, .string s, .slice A l.length cap])] w' fun e w6 => e = .returned (.bool true) ∧ Below w'.heap.size w' w6) := fun w' h => by
        have := same_any (.mk k n s l) (.mk k n s l) w' _ _ _ (Nat.le_refl _) (HS.out _ h).1 (HS.out _ h).1
        rwa [EV.out] at this
      have C4 : Hid (∀ w' : World, (Below w2.heap.size w2 w' ∧ w'.cell? ⟨w.heap.size, 0, none⟩ = some (.int .i64 k) ∧ w'.cell? ⟨w.heap.size, 1, none⟩ = some (.int .i64 n) ∧ w'.cell? ⟨w.heap.size, 2, none⟩ = some (.string s) ∧ w'.cell? ⟨w.heap.size, 3, none⟩ = some (.slice A l.length cap) ∧ w'.cell? ⟨w.heap.size + 1, 0, none⟩ = some (.int .i64 k') ∧ w'.cell? ⟨w.heap.size + 1, 1, none⟩ = some (.int .i64 n') ∧ w'.cell? ⟨w.heap.size + 1, 2, none⟩ = some (.string s') ∧ w'.cell? ⟨w.heap.size + 1, 3, none⟩ = some (.slice A' l'.length cap')) → Calls Try.prog 21 #[(.agg #[.int .i64 k', .int .i64 n', .string s', .slice A' l'.length cap']), (.agg #[.int .i64 k', .int .i64 n', .string s', .slice A' l'.length cap'])] w' fun e w6 => e = .returned (.bool true) ∧ Below w'.heap.size w' w6) := fun w' h => by
        have := same_any (.mk k' n' s' l') (.mk k' n' s' l') w' _ _ _ (Nat.le_refl _) (HS.out _ h).2 (HS.out _ h).2
        rwa [EU.out] at this
      clear hsm
      go_region_held3 (fun w' => Below w2.heap.size w2 w' ∧ w'.cell? ⟨w.heap.size, 0, none⟩ = some (.int .i64 k) ∧ w'.cell? ⟨w.heap.size, 1, none⟩ = some (.int .i64 n) ∧ w'.cell? ⟨w.heap.size, 2, none⟩ = some (.string s) ∧ w'.cell? ⟨w.heap.size, 3, none⟩ = some (.slice A l.length cap) ∧ w'.cell? ⟨w.heap.size + 1, 0, none⟩ = some (.int .i64 k') ∧ w'.cell? ⟨w.heap.size + 1, 1, none⟩ = some (.int .i64 n') ∧ w'.cell? ⟨w.heap.size + 1, 2, none⟩ = some (.string s') ∧ w'.cell? ⟨w.heap.size + 1, 3, none⟩ = some (.slice A' l'.length cap'))
        (first | assumption | exact ⟨(Below.refl _ _).drew, a0, a1, a2, a3, b0, b1, b2, b3⟩ | (refine box2_keep ?_ hb5; assumption))
        (first
          | (go_at_call 20; ((with_reducible refine (C1.out _ (by assumption)).mono ?_); rintro e w5 ⟨rfl, hb5⟩))
          | (go_at_call 21; ((with_reducible refine (C2.out _ (by assumption)).mono ?_); rintro e w5 ⟨rfl, hb5⟩))
          | (go_at_call 21; ((with_reducible refine (C3.out _ (by assumption)).mono ?_); rintro e w5 ⟨rfl, hb5⟩))
          | (go_at_call 21; ((with_reducible refine (C4.out _ (by assumption)).mono ?_); rintro e w5 ⟨rfl, hb5⟩)))
      go_wp2_with fail
      go_ret
      exact ⟨rfl, HFIN.out _ (by assumption)⟩
end Go.Proofs.Ytbcaanadmfnegaa
