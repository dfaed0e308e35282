/- Contract of the reference's Spans. -/
import Derived.Test.YtnbffkeinkgojaaRefDays
namespace Go.Proofs.Ytnbffkeinkgojaa
open Go.RowKit

theorem spanInfo : (Try.prog.info? 31).map (fun i => (i.zero, i.size, i.bytes)) = some (some (.agg #[.int .i64 0, .int .i64 0]), 2, 16) := by kernel_rfl
/-- one span in a place, as append takes it -/
theorem src_span (w : World) (a b : Int) : Src Try.prog 2 22 (.slice (some ⟨w.heap.size, 0, none⟩) 1 1) 1 (spanV (a, b)) (w.alloc (.cells #[.int .i64 a, .int .i64 b] 31)) := by
  refine Src.ofSlice _ Try.underlying22 _ 1 1 (spanV (a, b)) rfl (fun j v hv => ?_) (by simp [spanV]; exact ⟨rfl, rfl⟩)
  rw [add_lit', Nat.zero_add, cell_of_row _ _ j _ _ _ (heap_alloc_new _ _)]
  simpa [spanV] using hv
theorem flatS_grow (l : List Sp) (a b b' : Int) : (flatS (l ++ [(a, b)])).set (l.length * 2 + 1) (.int .i64 b') = flatS (l ++ [(a, b')]) := by
  rw [flatS_append, flatS_append, flatS_one, flatS_one, List.set_append_right _ _ (by rw [flatS_length]; omega), flatS_length, show l.length * 2 + 1 - l.length * 2 = 1 by omega]
  rfl
theorem UpTo.many {f : Nat → Bool} {m : Nat} {l : List Sp} (h : UpTo f m l) : l.length ≤ 512 := by
  rcases NormFrom.many h.norm with k | rfl
  · omega
  · simp
theorem UpTo.i64 {f : Nat → Bool} {m : Nat} {l : List Sp} (h : UpTo f m l) : ∀ s ∈ l, I64 s.1 ∧ I64 s.2 := fun s hs => by
  have := h.norm.each s hs
  unfold I64
  omega
theorem normal_i64 (f : Nat → Bool) : ∀ s ∈ normal f, I64 s.1 ∧ I64 s.2 := (norm_upTo f).i64

set_option maxRecDepth 100000 in
set_option maxHeartbeats 2000000 in
theorem refspans_any (g : Nat) (f : Nat → Bool) (w : World) (hr : BoolRow w g f) :
    Calls Try.prog 30 #[.slice (some ⟨g, 0, none⟩) 1024 1024] w fun e w' => ∃ g' N cap : Nat, e = .returned (.slice (some ⟨g', 0, none⟩) N cap) ∧ Owns w' w.heap.size 31 2 g' N cap (flatS (normal f)) ∧ Below w.heap.size w w' := by
  have hgl := hr.lt
  have HR := Lib.hid hr
  clear hr
  obtain ⟨iS, hiS, hzS, h1S, h2S⟩ := info_parts spanInfo
  have hb1 : Below w.heap.size w (w.alloc (.cells #[] 31)) := Below.new1 w _
  have ho1 : Owns (w.alloc (.cells #[] 31)) w.heap.size 31 2 w.heap.size 0 0 [] := owns0 w _ (Nat.le_refl _)
  have HB1 := Lib.hid hb1
  have HO1 := Lib.hid ho1
  clear hb1 ho1
  go_enter Try.func30, Try.ntmps30
  go_wp2_with fail
  go_loopw [3, 4] (fun v3 v4 wr => ∃ (m g1 cap : Nat) (l : List Sp) (N : Nat), v4 = .int .i64 m ∧ m ≤ 1024 ∧ v3 = .slice (some ⟨g1, 0, none⟩) N cap ∧ N ≤ 512 ∧ Hid (N = l.length) ∧ Hid (UpTo f m l) ∧ Hid (Owns wr w.heap.size 31 2 g1 N cap (flatS l)) ∧ Hid (Below w.heap.size w wr)) (fun _ v4 _ => 1024 - (intOf v4).toNat)
  case atStart => exact ⟨0, w.heap.size, 0, [], 0, rfl, by omega, rfl, by omega, rfl, UpTo.zero f, HO1, HB1⟩
  case round =>
    obtain ⟨m, g1, cap, l, N, rfl, hm, rfl, hN, HN, HU, HO, HB⟩ := hrel
    clear HO1 HB1
    have zr := HB.out.size
    by_cases hend : m = 1024
    · subst hend
      have HE : Hid (Owns wr w.heap.size 31 2 g1 N cap (flatS (normal f))) := by
        have h := HO.out
        rw [HU.out.eq_norm] at h
        exact h
      go_wp2_with fail
      refine bodyPost_ret (v := .slice (some ⟨g1, 0, none⟩) N cap) (by simp [results, Try.results30, go_sem]) rfl ⟨g1, N, cap, rfl, HE.out, HB.out⟩
    have hm1 : m < 1024 := by omega
    have hm1' : (m : Int) < 1024 := by omega
    have m0 : (0 : Int) ≤ (m : Int) := by omega
    have hcm := (HR.out.below HB.out hgl).cell m hm1
    clear hend
    cases hf : f m with
    | false =>
      rw [hf] at hcm
      have HU' := Lib.hid (HU.out.skip hf)
      go_wp2_with fail
      go_roundw
      case rel => exact ⟨m + 1, g1, cap, l, N, by go_num, by omega, rfl, hN, HN, HU', HO, HB⟩
      case measure => simp [intOf]; omega
    | true =>
      rw [hf] at hcm
      by_cases hN0 : N = 0
      · subst hN0
        have hl : l = [] := List.eq_nil_of_length_eq_zero HN.out.symm
        have HU' : Hid (UpTo f (m + 1) (l ++ [((m : Int), (m : Int) + 1)])) := HU.out.fresh hf hm1 (by rw [hl]; simp)
        clear hl
        go_wp2_with (first
          | (at_builtin; refine wpList_append_owns _ rfl (.tmp 39) (.tmp 44) 22 22 rfl w.heap.size 31 iS _ 2 16 Try.underlying22 hiS hzS h1S h2S rfl g1 0 cap _ rfl (HO.out.below (Below.new1 wr _) HO.out.lt) _ rfl 1 (spanV ((m : Int), (m : Int) + 1)) (src_span wr (m : Int) ((m : Int) + 1)) (by unfold maxLen; omega) (by omega) (Nat.le_trans zr (Below.new1 wr _).size) ?_
             intro g4 cap4 w4 HO4 HT4 HG4
             have HB4 : Hid (Below w.heap.size w w4) := (HB.out.trans ((Below.new1 wr _).mono zr)).trans (HT4.out.below HO.out.2.1 (Nat.lt_of_lt_of_le HO.out.lt (Below.new1 wr _).size))))
        go_roundw
        case rel =>
          have h := HO4.out
          rw [← flatS_one, ← flatS_append] at h
          exact ⟨m + 1, g4, cap4, _, 0 + 1, by go_num, by omega, rfl, by have h := HU'.out.many; rw [List.length_append] at h; have h' := HN.out; simp at h; omega, by unfold Hid; rw [List.length_append, ← HN.out]; rfl, HU', h, HB4⟩
        case measure => simp [intOf]; omega
      have hN1 : (0 : Int) < (N : Int) := by omega
      obtain ⟨l0, s, hls⟩ : ∃ l0 s, l = l0 ++ [s] := by
        rcases List.eq_nil_or_concat l with h | ⟨l0, s, h⟩
        · exact absurd (by have h' := HN.out; rw [h] at h'; exact h') hN0
        · exact ⟨l0, s, by rw [h, List.concat_eq_append]⟩
      have hl0 : N = l0.length + 1 := by have h := HN.out; rw [hls, List.length_append] at h; exact h
      obtain ⟨h1, h2⟩ := flatS_at l (N - 1) s (by rw [hls, hl0]; simp)
      obtain ⟨N', hN'⟩ : ∃ N', N' = N - 1 := ⟨_, rfl⟩
      rw [← hN'] at h1 h2
      have hwN : IntKind.i64.wrap ((N : Int) - 1) = (N' : Int) := by rw [IntWalk.i64_in _ (by omega)]; omega
      have hc2 := HO.out.cell _ _ h2
      have hf2 := HO.out.frozen (N' * 2 + 1)
      have n0 : (0 : Int) ≤ (N : Int) - 1 := by omega
      have n1 : (N : Int) - 1 < (N : Int) := by omega
      have n2 : ((N : Int) - 1).toNat = N' := by omega
      have HL0 : Hid (l0.length = N') := by unfold Hid; omega
      have HLS := Lib.hid hls
      obtain ⟨a, b⟩ := s
      have hg1 := HO.out.2.1
      clear hl0 hls h1 h2 hN0 hN'
      by_cases hsm : b = (m : Int)
      · subst hsm
        have HU' : Hid (UpTo f (m + 1) (l0 ++ [(a, (m : Int) + 1)])) := by
          have h := HU.out
          rw [HLS.out] at h
          exact h.grow hf hm1
        have HO' : Hid (Owns (wr.setCell ⟨g1, N' * 2 + 1, none⟩ (.int .i64 ((m : Int) + 1))) w.heap.size 31 2 g1 N cap (flatS (l0 ++ [(a, (m : Int) + 1)]))) := by
          have h := HO.out.setCell (N' * 2 + 1) (.int .i64 ((m : Int) + 1))
          rw [HLS.out, ← HL0.out, flatS_grow] at h
          rw [← HL0.out]
          exact h
        have HB' : Hid (Below w.heap.size w (wr.setCell ⟨g1, N' * 2 + 1, none⟩ (.int .i64 ((m : Int) + 1)))) := Below.setCell HB.out hg1 _
        go_wp2_with fail
        go_roundw
        case rel => exact ⟨m + 1, g1, cap, _, N, by go_num, by omega, rfl, hN, by have h := HN.out; rw [HLS.out] at h; unfold Hid; rw [h, List.length_append, List.length_append]; rfl, HU', HO', HB'⟩
        case measure => simp [intOf]; omega
      · have hsm' : ¬ b = (m : Int) := hsm
        have HU' : Hid (UpTo f (m + 1) (l ++ [((m : Int), (m : Int) + 1)])) := HU.out.fresh hf hm1 (by
          have h := HU.out
          rw [HLS.out] at h ⊢
          exact h.last_ne hsm)
        go_wp2_with (first
          | (at_builtin; refine wpList_append_owns _ rfl (.tmp 39) (.tmp 44) 22 22 rfl w.heap.size 31 iS _ 2 16 Try.underlying22 hiS hzS h1S h2S rfl g1 N cap _ rfl (HO.out.below (Below.new1 wr _) HO.out.lt) _ rfl 1 (spanV ((m : Int), (m : Int) + 1)) (src_span wr (m : Int) ((m : Int) + 1)) (by unfold maxLen; omega) (by omega) (Nat.le_trans zr (Below.new1 wr _).size) ?_
             intro g4 cap4 w4 HO4 HT4 HG4
             have HB4 : Hid (Below w.heap.size w w4) := (HB.out.trans ((Below.new1 wr _).mono zr)).trans (HT4.out.below HO.out.2.1 (Nat.lt_of_lt_of_le HO.out.lt (Below.new1 wr _).size))))
        go_roundw
        case rel =>
          have h := HO4.out
          rw [← flatS_one, ← flatS_append] at h
          exact ⟨m + 1, g4, cap4, _, N + 1, by go_num, by omega, rfl, by have h := HU'.out.many; rw [List.length_append] at h; have h' := HN.out; simp at h; omega, by unfold Hid; rw [List.length_append, ← HN.out]; rfl, HU', h, HB4⟩
        case measure => simp [intOf]; omega
end Go.Proofs.Ytnbffkeinkgojaa
