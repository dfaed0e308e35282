/- Contract of the laws' list. -/
import Derived.Test.YtnbffkeinkgojaaRefCov
namespace Go.Proofs.Ytnbffkeinkgojaa
open Go.RowKit

/-- spans out of pairs of numbers -/
def pairs : List Int → List Sp
  | a :: b :: r => (a, b) :: pairs r
  | _ => []
def RdI (w : World) (B b n : Nat) (xs : List Int) : Prop := n = xs.length ∧ b < B ∧ ∀ j x, xs[j]? = some x → w.cell? ⟨b, j, none⟩ = some (.int .i64 x)
theorem pairs_append : ∀ (k : Nat) (xs : List Int) (a b : Int), xs[2 * k]? = some a → xs[2 * k + 1]? = some b → pairs (xs.take (2 * (k + 1))) = pairs (xs.take (2 * k)) ++ [(a, b)]
  | 0, x :: y :: r, a, b, ha, hb => by
    simp at ha hb
    subst ha hb
    simp [pairs]
  | k + 1, x :: y :: r, a, b, ha, hb => by
    have ih := pairs_append k r a b (by rw [show 2 * (k + 1) = 2 * k + 1 + 1 by omega] at ha; simpa using ha) (by rw [show 2 * (k + 1) + 1 = 2 * k + 1 + 1 + 1 by omega] at hb; simpa using hb)
    rw [show 2 * (k + 1 + 1) = 2 * (k + 1) + 1 + 1 by omega, show 2 * (k + 1) = 2 * k + 1 + 1 by omega]
    simp only [List.take_succ_cons, pairs, List.cons_append]
    rw [show 2 * k + 1 + 1 = 2 * (k + 1) by omega, ih]
  | _, [], _, _, ha, _ => by simp at ha
  | 0, [_], _, _, _, hb => by simp at hb
  | k + 1, [_], _, _, ha, _ => by
    rw [show 2 * (k + 1) = 2 * k + 1 + 1 by omega] at ha
    simp at ha
theorem OwnsN.spans {w : World} {base n cap : Nat} {A : Option Addr} {l : List Sp} {t : TypeId} (h : OwnsN w base t 2 A n cap (flatS l)) (hi : ∀ s ∈ l, I64 s.1 ∧ I64 s.2) : RdS w w.heap.size A n l ∧ n ≤ cap ∧ cap ≤ maxLen := by
  rcases h with ⟨rfl, rfl, rfl, hx⟩ | ⟨g, rfl, ho⟩
  · have hl := flatS_length l
    rw [hx] at hl
    have e : l = [] := List.eq_nil_of_length_eq_zero (by simp at hl; omega)
    subst e
    exact ⟨RdS.nil _ _ _, Nat.le_refl _, Nat.zero_le _⟩
  · exact ⟨RdS.of_owns ho hi ho.lt, ho.2.2.1, ho.2.2.2.1⟩

set_option maxRecDepth 100000 in
set_option maxHeartbeats 2000000 in
theorem list_any (b n c : Nat) (xs : List Int) (w : World) (hr : RdI w w.heap.size b n xs) (hn : n ≤ 100) (h2 : n % 2 = 0) (hi : ∀ s ∈ pairs xs, I64 s.1 ∧ I64 s.2) :
    Calls Try.prog 27 #[.slice (some ⟨b, 0, none⟩) n c] w fun e w' => SpansIs w w' (pairs xs) e := by
  have HR := Lib.hid hr
  have HI := Lib.hid hi
  have H2 := Lib.hid h2
  clear hr hi h2
  obtain ⟨iS, hiS, hzS, h1S, h2S⟩ := info_parts spanInfo
  go_enter Try.func27, Try.ntmps27
  go_wp2_with fail
  go_loopw [2, 3] (fun v i wr => ∃ (k j : Nat) (A : Option Addr) (cap : Nat), i = .int .i64 j ∧ Hid (j = 2 * k) ∧ j ≤ n ∧ v = .slice A k cap ∧ Hid (OwnsN wr w.heap.size 31 2 A k cap (flatS (pairs (xs.take j)))) ∧ Hid (Below w.heap.size w wr)) (fun _ i _ => n + 2 - (intOf i).toNat)
  case atStart => exact ⟨0, 0, none, 0, rfl, rfl, by omega, rfl, .inl ⟨rfl, rfl, rfl, rfl⟩, Below.refl _ _⟩
  case round =>
    obtain ⟨k, j, A, cap, rfl, hjk, hj, rfl, HO, HB⟩ := hrel
    have zr := HB.out.size
    by_cases hend : j + 1 < n
    · obtain ⟨a, ha⟩ : ∃ a, xs[j]? = some a := ⟨xs[j]'(by have := HR.out.1; omega), List.getElem?_eq_getElem _⟩
      obtain ⟨d, hd⟩ : ∃ d, xs[j + 1]? = some d := ⟨xs[j + 1]'(by have := HR.out.1; omega), List.getElem?_eq_getElem _⟩
      have hca := (HB.out.cell (p := ⟨b, j, none⟩) HR.out.2.1).trans (HR.out.2.2 j a ha)
      have hcd := (HB.out.cell (p := ⟨b, j + 1, none⟩) HR.out.2.1).trans (HR.out.2.2 (j + 1) d hd)
      have hpa : pairs (xs.take (j + 2)) = pairs (xs.take j) ++ [(a, d)] := by
        have e := hjk.out
        rw [e, show 2 * k + 2 = 2 * (k + 1) by omega]
        exact pairs_append k xs a d (by rw [← e]; exact ha) (by rw [← e]; exact hd)
      have HPA := Lib.hid hpa
      have hkn : k ≤ 100 := by have := hjk.out; omega
      have hjn : (j : Int) + 1 < (n : Int) := by omega
      have j0 : (0 : Int) ≤ (j : Int) := by omega
      have j1 : (j : Int) < (n : Int) := by omega
      have j2 : (0 : Int) ≤ (j : Int) + 1 := by omega
      have hbl := HR.out.2.1
      have HS : Hid (∀ u, Below w.heap.size wr u → (u.cell? ⟨b, j, none⟩ = some (.int .i64 a) ∧ u.cell? ⟨b, j + 1, none⟩ = some (.int .i64 d) ∧ Below w.heap.size wr u)) := fun u hu => ⟨(hu.cell hbl).trans hca, (hu.cell hbl).trans hcd, hu⟩
      have hwj : IntKind.i64.wrap ((j : Int) + 1) = (j : Int) + 1 := IntWalk.i64_in _ (by omega)
      have htn : ((j : Int) + 1).toNat = j + 1 := by omega
      clear ha hd hpa
      go_wp2_with fail
      refine wp_region_held_drew (S := fun u => u.cell? ⟨b, j, none⟩ = some (.int .i64 a) ∧ u.cell? ⟨b, j + 1, none⟩ = some (.int .i64 d) ∧ Below w.heap.size wr u) (by kernel_rfl) (HS.out _ (Below.refl _ _).drew) (fun hHeld => ?_)
      have HO0 := Lib.hid (HO.out.below (Below.refl _ _).drew (Nat.le_refl _))
      generalize wr.drew = X0 at hHeld HO0 ⊢
      have BX0 := Lib.hid hHeld.2.2
      have hx0 : w.heap.size ≤ X0.heap.size := by have := BX0.out.size; omega
      refine wpAnyH_take (i := 0) (oi := ⟨some 11, _, _, _, _, _⟩) (v := ?_) rfl (by kernel_rfl) (by kernel_rfl) (by kernel_rfl) (fun _ _ _ h => h) (Or.inl ⟨by rfl, ?_⟩) (by assumption) ?_
      rotate_left
      · (intro w hSw; (try dsimp only at hSw); go_simp) <;> with_reducible rfl
      try simp only [Act.put, List.setIfInBounds_toArray, List.set_cons_zero, List.set_cons_succ]
      refine wpAnyH_take (i := 1) (oi := ⟨some 12, _, _, _, _, _⟩) (v := ?_) rfl (by kernel_rfl) (by kernel_rfl) (by kernel_rfl) (fun _ _ _ h => h) (Or.inl ⟨by rfl, ?_⟩) (by assumption) ?_
      rotate_left
      · (intro w hSw; (try dsimp only at hSw); go_simp) <;> with_reducible rfl
      try simp only [Act.put, List.setIfInBounds_toArray, List.set_cons_zero, List.set_cons_succ]
      refine wpAnyH_take (i := 2) (oi := ⟨some 13, _, _, _, _, _⟩) (v := ?_) rfl (by kernel_rfl) (by kernel_rfl) (by kernel_rfl) (fun _ _ _ h => h) (Or.inl ⟨by rfl, ?_⟩) (by assumption) ?_
      rotate_left
      · (intro w hSw; (try dsimp only at hSw); go_simp) <;> with_reducible rfl
      try simp only [Act.put, List.setIfInBounds_toArray, List.set_cons_zero, List.set_cons_succ]
      refine wpAnyH_take (i := 3) (oi := ⟨some 14, _, _, _, _, _⟩) (v := ?_) rfl (by kernel_rfl) (by kernel_rfl) (by kernel_rfl) (fun _ _ _ h => h) (Or.inl ⟨by rfl, ?_⟩) (by assumption) ?_
      rotate_left
      · (intro w hSw; (try dsimp only at hSw); go_simp) <;> with_reducible rfl
      try simp only [Act.put, List.setIfInBounds_toArray, List.set_cons_zero, List.set_cons_succ]
      refine wpAnyH_take (i := 4) (oi := ⟨some 15, _, _, _, _, _⟩) (v := ?_) rfl (by kernel_rfl) (by kernel_rfl) (by kernel_rfl) (fun _ _ _ h => h) (Or.inl ⟨by rfl, ?_⟩) (by assumption) ?_
      rotate_left
      · (intro w hSw; (try dsimp only at hSw); go_simp) <;> with_reducible rfl
      try simp only [Act.put, List.setIfInBounds_toArray, List.set_cons_zero, List.set_cons_succ]
      refine wpAnyH_take (i := 5) (oi := ⟨some 16, _, _, _, _, _⟩) (v := ?_) rfl (by kernel_rfl) (by kernel_rfl) (by kernel_rfl) (fun _ _ _ h => h) (Or.inl ⟨by rfl, ?_⟩) (by assumption) ?_
      rotate_left
      · (intro w hSw; (try dsimp only at hSw); go_simp) <;> with_reducible rfl
      try simp only [Act.put, List.setIfInBounds_toArray, List.set_cons_zero, List.set_cons_succ]
      refine wpAnyH_take (i := 6) (oi := ⟨some 17, _, _, _, _, _⟩) (v := ?_) rfl (by kernel_rfl) (by kernel_rfl) (by kernel_rfl) (fun _ _ _ h => h) (Or.inl ⟨by rfl, ?_⟩) (by assumption) ?_
      rotate_left
      · (intro w hSw; (try dsimp only at hSw); go_simp) <;> with_reducible rfl
      try simp only [Act.put, List.setIfInBounds_toArray, List.set_cons_zero, List.set_cons_succ]
      refine wpAnyH_take (i := 7) (oi := ⟨some 18, _, _, _, _, _⟩) (v := ?_) rfl (by kernel_rfl) (by kernel_rfl) (by kernel_rfl) (fun _ _ _ h => h) (Or.inl ⟨by rfl, ?_⟩) (by assumption) ?_
      rotate_left
      · (intro w hSw; (try dsimp only at hSw); go_simp) <;> with_reducible rfl
      try simp only [Act.put, List.setIfInBounds_toArray, List.set_cons_zero, List.set_cons_succ]
      refine wpAnyH_take (i := 8) (oi := ⟨some 19, _, _, _, _, _⟩) (v := ?_) rfl (by kernel_rfl) (by kernel_rfl) (by kernel_rfl) (fun _ _ _ h => h) (Or.inl ⟨by rfl, ?_⟩) (by assumption) ?_
      rotate_left
      · (intro w hSw; (try dsimp only at hSw); go_simp) <;> with_reducible rfl
      try simp only [Act.put, List.setIfInBounds_toArray, List.set_cons_zero, List.set_cons_succ]
      refine wpAnyH_take (i := 9) (oi := ⟨some 20, _, _, _, _, _⟩) (v := ?_) rfl (by kernel_rfl) (by kernel_rfl) (by kernel_rfl) (fun _ _ _ h => h) (Or.inl ⟨by rfl, ?_⟩) (by assumption) ?_
      rotate_left
      · (intro w hSw; (try dsimp only at hSw); go_simp) <;> with_reducible rfl
      try simp only [Act.put, List.setIfInBounds_toArray, List.set_cons_zero, List.set_cons_succ]
      refine wpAnyH_take (i := 10) (oi := ⟨some 21, _, _, _, _, _⟩) (v := ?_) rfl (by kernel_rfl) (by kernel_rfl) (by kernel_rfl) (fun _ _ _ h => h) (Or.inl ⟨by rfl, ?_⟩) (by assumption) ?_
      rotate_left
      · (intro w hSw; (try dsimp only at hSw); go_simp) <;> with_reducible rfl
      try simp only [Act.put, List.setIfInBounds_toArray, List.set_cons_zero, List.set_cons_succ]
      refine wpAnyH_ready (rs := [11]) (by kernel_rfl) (by simp) ?_
      refine AllReadyH.cons (o := ⟨some 22, _, _, _, _, _⟩) rfl (fun K hK => ?_) AllReadyH.nil
      go_simp
      refine hK.out _ _ (HS.out _ (BX0.out.alloc (by omega) _)) (fun hHeld => ?_)
      clear hK K
      try simp only [Act.put, List.setIfInBounds_toArray, List.set_cons_zero, List.set_cons_succ]
      have HSRC := Lib.hid (src_span X0 a d)
      have HO1 := Lib.hid (HO0.out.below (Below.new1 X0 (.cells #[.int .i64 a, .int .i64 d] 31)) (Nat.le_refl _))
      have hz1 : X0.heap.size < (X0.alloc (.cells #[.int .i64 a, .int .i64 d] 31)).heap.size := by simp
      generalize X0.alloc (.cells #[.int .i64 a, .int .i64 d] 31) = X1 at hHeld HSRC HO1 hz1 ⊢
      have BX1 := Lib.hid hHeld.2.2
      refine wpAnyH_ready (rs := [12]) (by kernel_rfl) (by simp) ?_
      refine AllReadyH.cons (o := ⟨some 23, _, _, _, _, _⟩) rfl (fun K hK => ?_) AllReadyH.nil
      refine step_append_N _ rfl (.tmp 11) (.tmp 22) 22 22 rfl w.heap.size 31 iS _ 2 16 Try.underlying22 hiS hzS h1S h2S rfl A k cap _ rfl HO1.out _ rfl 1 _ HSRC.out (by omega) (by unfold maxLen; omega) (by omega) (by omega) ?_
      intro g4 cap4 X2 HO4 HB4
      refine hK.out _ _ (HS.out _ (BX1.out.trans HB4.out)) (fun hHeld => ?_)
      clear hK K
      try simp only [Act.put, List.setIfInBounds_toArray, List.set_cons_zero, List.set_cons_succ]
      have BX2 : Hid (Below w.heap.size w X2) := HB.out.trans hHeld.2.2
      refine wpAnyH_take (i := 13) (oi := ⟨some 2, _, _, _, _, _⟩) (v := ?_) rfl (by kernel_rfl) (by kernel_rfl) (by kernel_rfl) (fun _ _ _ h => h) (Or.inl ⟨by rfl, ?_⟩) (by assumption) ?_
      rotate_left
      · (intro w hSw; (try dsimp only at hSw); go_simp) <;> with_reducible rfl
      try simp only [Act.put, List.setIfInBounds_toArray, List.set_cons_zero, List.set_cons_succ]
      refine wpAnyH_done (by kernel_rfl) ?_ _
      clear hHeld
      go_wp2_with fail
      go_roundw
      case rel =>
        have h := HO4.out
        rw [← flatS_one, ← flatS_append, ← HPA.out] at h
        exact ⟨k + 1, j + 2, _, cap4, by go_num, by have := hjk.out; unfold Hid; omega, by omega, rfl, .inr ⟨g4, rfl, h⟩, BX2⟩
      case measure => simp [intOf]; omega
    · have hje : j = n := by have := hjk.out; have := H2.out; omega
      have hjn : ¬ (j : Int) + 1 < (n : Int) := by omega
      have HE : Hid (OwnsN wr w.heap.size 31 2 A k cap (flatS (pairs xs))) := by
        have h := HO.out
        rw [List.take_of_length_le (by have := HR.out.1; omega)] at h
        exact h
      go_wp2_with fail
      obtain ⟨h1, h2, h3⟩ := HE.out.spans HI.out
      exact bodyPost_ret (v := .slice A k cap) (by simp [results, Try.results27, go_sem]) rfl ⟨A, k, cap, rfl, h1, h2, h3, HB.out⟩
end Go.Proofs.Ytnbffkeinkgojaa
