/- CodecNumbers is true for every two numbers. -/
import Derived.Test.YtbcaanadmfnegaaSane
import Derived.Test.YtbcaanadmfnegaaDecEnc
namespace Go.Proofs.Ytbcaanadmfnegaa
open Go.RowKit

theorem mono_num {a b : Int} (h : (0 ≤ a ∧ a ≤ b) ∨ (a < 0 ∧ b ≤ a)) : (V.enc (.mk 1 a ⟨#[]⟩ [])).length ≤ (V.enc (.mk 1 b ⟨#[]⟩ [])).length := by
  rw [enc_int_len, enc_int_len]
  have := digs_mono (uform b).toNat (uform a).toNat (by unfold uform; split <;> split <;> omega)
  omega
theorem num_bounds {a : Int} (h : I64 a) : 2 ≤ (V.enc (.mk 1 a ⟨#[]⟩ [])).length ∧ (V.enc (.mk 1 a ⟨#[]⟩ [])).length ≤ 11 := by
  rw [enc_int_len]
  have hb := uform_bd a h.1 h.2
  have h1 := digs_pos (uform a).toNat
  have h2 := digs_ten (u := (uform a).toNat) (by omega)
  omega
theorem int_bulk (a : Int) : V.bulk (.mk 1 a ⟨#[]⟩ []) ≤ 1099511627776 := by
  simp [V.bulk, V.bulkAll, ByteArray.size]
theorem rd_int (w : World) (B : Nat) {a : Int} (h : I64 a) : Rd w B (.mk 1 a ⟨#[]⟩ []) (.agg #[.int .i64 1, .int .i64 a, .string ⟨#[]⟩, .slice none 0 0]) :=
  Rd.flat _ _ (by unfold I64; omega) h (by unfold maxLen; exact Nat.zero_le _)

set_option maxRecDepth 100000 in
set_option maxHeartbeats 4000000 in
theorem numbers_any (a b : Int) (ha : I64 a) (hb : I64 b) (w : World) : Calls Try.prog 9 #[.int .i64 a, .int .i64 b] w fun e w' => e = .returned (.bool true) ∧ Below w.heap.size w w' := by
  obtain ⟨M, hM⟩ : ∃ M, M = (V.enc (.mk 1 a ⟨#[]⟩ [])).length := ⟨_, rfl⟩
  obtain ⟨N, hN⟩ : ∃ N, N = (V.enc (.mk 1 b ⟨#[]⟩ [])).length := ⟨_, rfl⟩
  have hM2 := num_bounds ha
  have hN2 := num_bounds hb
  rw [← hM] at hM2
  rw [← hN] at hN2
  have hmono : (0 ≤ a ∧ a ≤ b) ∨ (a < 0 ∧ b ≤ a) → M ≤ N := fun h => by rw [hM, hN]; exact mono_num h
  have HMONO := Lib.hid hmono
  have HM := Lib.hid hM
  have HN := Lib.hid hN
  have HA := Lib.hid ha
  have HB := Lib.hid hb
  have m2 : ¬ (M : Int) < 2 := by omega
  have m11 : ¬ (11 : Int) < (M : Int) := by omega
  have n2 : ¬ (N : Int) < 2 := by omega
  have n11 : ¬ (11 : Int) < (N : Int) := by omega
  clear hM hN ha hb hM2 hN2 hmono
  go_enter Try.func9, Try.ntmps9
  go_wp2_with fail
  refine (sane_any _).mono ?_
  rintro e w1 ⟨rfl, hb1⟩
  have z1 : w.heap.size ≤ w1.heap.size := hb1.size
  have B1 := Lib.hid hb1
  clear hb1
  go_wp2_with fail
  refine (refInt_any _ _).mono ?_
  rintro e w2 ⟨rfl, hb2⟩
  have z2 : w1.heap.size ≤ w2.heap.size := hb2.size
  have B2 := Lib.hid (B1.out.trans (hb2.mono (by omega)))
  clear hb2
  go_wp2_with fail
  refine (codecSize_any _ w2 0 _ (Nat.zero_le _) (rd_int _ _ HA.out) (int_bulk a)).mono ?_
  rintro e w3 ⟨he, hb3⟩
  rw [int_check, if_pos rfl, ← HM.out] at he
  subst he
  have z3 : w2.heap.size ≤ w3.heap.size := hb3.size
  have B3 := Lib.hid (B2.out.trans (hb3.mono (by omega)))
  clear hb3
  go_wp2_with fail
  refine (refInt_any _ _).mono ?_
  rintro e w4 ⟨rfl, hb4⟩
  have z4 : w3.heap.size ≤ w4.heap.size := hb4.size
  have B4 := Lib.hid (B3.out.trans (hb4.mono (by omega)))
  clear hb4
  go_wp2_with fail
  refine (codecSize_any _ w4 0 _ (Nat.zero_le _) (rd_int _ _ HB.out) (int_bulk b)).mono ?_
  rintro e w5 ⟨he, hb5⟩
  rw [int_check, if_pos rfl, ← HN.out] at he
  subst he
  have z5 : w4.heap.size ≤ w5.heap.size := hb5.size
  have B5 := Lib.hid (B4.out.trans (hb5.mono (by omega)))
  clear hb5
  have key : ∀ (Q : Prop), (∀ (x : 0 ≤ a), a ≤ b → ¬ (N : Int) < (M : Int) → Q) → (∀ (x : 0 ≤ a), ¬ a ≤ b → Q) → (∀ (x : ¬ 0 ≤ a), b ≤ a → ¬ (N : Int) < (M : Int) → Q) → (∀ (x : ¬ 0 ≤ a), ¬ b ≤ a → Q) → Q := fun Q q1 q2 q3 q4 => by
    by_cases h : 0 ≤ a
    · by_cases h' : a ≤ b
      · exact q1 h h' (by have := HMONO.out (.inl ⟨h, h'⟩); omega)
      · exact q2 h h'
    · by_cases h' : b ≤ a
      · exact q3 h h' (by have := HMONO.out (.inr ⟨by omega, h'⟩); omega)
      · exact q4 h h'
  have KEY := Lib.hid key
  clear key
  refine KEY.out _ ?_ ?_ ?_ ?_
  all_goals
    intros
    go_wp2_with fail
    refine (refInt_any _ _).mono ?_
    rintro e w6 ⟨rfl, hb6⟩
    have z6 : w5.heap.size ≤ w6.heap.size := hb6.size
    have B6 := Lib.hid (B5.out.trans (hb6.mono (by omega)))
    clear hb6
    go_wp2_with fail
    refine (encode_any _ w6 0 _ (Nat.zero_le _) (rd_int _ _ HA.out) (int_bulk a)).mono ?_
    rintro e w7 ⟨hb7, ⟨_, g7, cap7, N7, rfl, hN7, hg7, hO7⟩ | ⟨hbad, _⟩⟩
    rotate_left
    · exact absurd (int_check a) hbad
    have hl7 : g7 < w7.heap.size := (World.ownsRow.lt hO7 g7 rfl).2
    have hcap7 : N7 ≤ cap7 := by
      rcases hO7.2 with ⟨e, _⟩ | ⟨_, _, _, e, _, _, h1, _⟩
      · cases e
      · injection e with _ _ e; subst e; rw [hN7.out]; exact h1
    have z7 : w6.heap.size ≤ w7.heap.size := hb7.size
    have B7 := Lib.hid (B6.out.trans (hb7.mono (by omega)))
    have H7 := Lib.hid (hO7.rdb hN7.out hl7)
    have hn7 : N7 ≤ 1099511627776 := by have := (num_bounds HA.out).2; rw [hN7.out]; omega
    clear hb7 hO7 hN7
    go_wp2_with fail
    refine (decode_any N7 cap7 (some ⟨g7, 0, none⟩) _ w7 H7.out hn7 hcap7).mono ?_
    rintro e w8 ⟨hb8, hd8⟩
    rw [dec_int a HA.out] at hd8
    obtain ⟨A8, c8, rfl, hri8⟩ := hd8
    have hn8 : ∀ o, Below w7.heap.size w7 (w8.alloc o) := fun o => hb8.alloc hb8.size o
    have B8 : Hid (∀ o, Below w.heap.size w (w8.alloc o)) := fun o => B7.out.trans ((hn8 o).mono (by omega))
    clear hb8 hri8 hn8
    go_wp2_with fail
    go_ret
    exact ⟨rfl, B8.out _⟩
end Go.Proofs.Ytbcaanadmfnegaa
