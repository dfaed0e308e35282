/- Contracts of codec.Size and codec.Encode. -/
import Derived.Test.YtbcaanadmfnegaaWrite
namespace Go.Proofs.Ytbcaanadmfnegaa
open Go.RowKit

theorem V.check_ok {v : V} (h : v.check = 0) : v.form = true ∧ v.depth ≤ 16 := by
  unfold V.check at h
  split at h
  · split at h
    · omega
    · exact ⟨by assumption, by omega⟩
  · omega

set_option maxRecDepth 100000 in
set_option maxHeartbeats 1000000 in
theorem codecSize_any (v : V) (w : World) (B : Nat) (x : Value) (hB : B ≤ w.heap.size) (hr : Rd w B v x) (hbk : v.bulk ≤ 1099511627776) :
    Calls Try.prog 14 #[x] w fun e w' => e = .returned (.tuple #[.int .i64 (if v.check = 0 then v.enc.length else 0 : Nat), .int .i64 v.check]) ∧ Below w.heap.size w w' := by
  have HR := Lib.hid hr
  obtain ⟨k, n, s, l, rfl⟩ : ∃ k n s l, v = V.mk k n s l := by cases v with | mk k n s l => exact ⟨k, n, s, l, rfl⟩
  obtain ⟨A, cap, rfl, h0⟩ := hr
  clear h0
  have HR1 : Hid (∀ (o : Obj), Rd (w.alloc o) B (V.mk k n s l) (.agg #[.int .i64 k, .int .i64 n, .string s, .slice A l.length cap])) := fun o => HR.out.below (((Below.refl _ _).alloc (Nat.le_refl _) o).mono hB) (Nat.le_refl _)
  have hw : ∀ {o : Obj} {w1 : World}, Below (w.alloc o).heap.size (w.alloc o) w1 → Below w.heap.size w w1 := fun {o w1} h => ((Below.refl _ _).alloc (Nat.le_refl _) o).trans (h.mono (by simp))
  have HOK := Lib.hid (V.check_ok (v := V.mk k n s l))
  generalize hc : V.check (.mk k n s l) = c at *
  by_cases h : c = 0
  · subst h
    have HF := Lib.hid (HOK.out rfl).1
    have HC := Lib.hid hc
    clear hc
    go_enter Try.func14, Try.ntmps14
    go_wp2_with fail
    refine (check_any _ _ B _ (by simp; omega) (HR1.out _) hbk).mono ?_
    rw [HC.out]
    rintro e w1 ⟨rfl, hb1⟩
    have c0 : w1.cell? ⟨w.heap.size, 0, none⟩ = some (.int .i64 k) := by rw [hb1.cell (by simp)]; simp
    have c1 : w1.cell? ⟨w.heap.size, 1, none⟩ = some (.int .i64 n) := by rw [hb1.cell (by simp)]; simp
    have c2 : w1.cell? ⟨w.heap.size, 2, none⟩ = some (.string s) := by rw [hb1.cell (by simp)]; simp
    have c3 : w1.cell? ⟨w.heap.size, 3, none⟩ = some (.slice A l.length cap) := by rw [hb1.cell (by simp)]; simp
    have hw1 := hw hb1
    have hz1 : w.heap.size ≤ w1.heap.size := hw1.size
    go_wp2_with fail
    refine (size_any _ w1 B _ (by omega) (HR.out.below (hw1.mono hB) (Nat.le_refl _)) HF.out hbk).mono ?_
    rintro e w2 ⟨rfl, hb2⟩
    have hw2 := hw1.trans (hb2.mono hz1)
    go_wp2_with fail
    go_ret2
    exact ⟨rfl, hw2⟩
  · have HC := Lib.hid hc
    have hn : (c != 0) = true := by simpa using h
    have HH := Lib.hid h
    clear hc h
    go_enter Try.func14, Try.ntmps14
    go_wp2_with fail
    refine (check_any _ _ B _ (by simp; omega) (HR1.out _) hbk).mono ?_
    rw [HC.out]
    rintro e w1 ⟨rfl, hb1⟩
    have hw1 := hw hb1
    go_wp2_with fail
    go_ret2
    exact ⟨rfl, hw1⟩

theorem box_keep2 {W w1 w2 : World} {g b : Nat} {x0 x1 x2 x3 : Value} (h : Below W.heap.size W w1 ∧ w1.cell? ⟨g, 0, none⟩ = some x0 ∧ w1.cell? ⟨g, 1, none⟩ = some x1 ∧ w1.cell? ⟨g, 2, none⟩ = some x2 ∧ w1.cell? ⟨g, 3, none⟩ = some x3)
    (hb : Below b w1 w2) (hW : W.heap.size ≤ b) (hg : g < b) : Below W.heap.size W w2 ∧ w2.cell? ⟨g, 0, none⟩ = some x0 ∧ w2.cell? ⟨g, 1, none⟩ = some x1 ∧ w2.cell? ⟨g, 2, none⟩ = some x2 ∧ w2.cell? ⟨g, 3, none⟩ = some x3 := by
  obtain ⟨h0, c0, c1, c2, c3⟩ := h
  exact ⟨h0.trans (hb.mono hW), by rw [hb.cell (by exact hg)]; exact c0, by rw [hb.cell (by exact hg)]; exact c1, by rw [hb.cell (by exact hg)]; exact c2, by rw [hb.cell (by exact hg)]; exact c3⟩

theorem run_make_bytes (c : Nat) (hc : c ≤ 281474976710656) (w : World) :
    (Instr.makeSlice 27 (.int .i64 0) (.int .i64 (c : Int))).run Try.prog w = .ok (.slice (some ⟨w.heap.size, 0, none⟩) 0 c) (w.alloc (.cells (madeCells #[.int .u8 0] c) 5)) := by
  obtain ⟨i0, hi, hz0, hz1, hz2⟩ := info_parts byteInfo
  have hr := run_make (P := Try.prog) w 27 5 i0 _ Try.underlying27 hi hz0 .i64 .i64 0 c (by omega) (by omega) (by rw [hz2]; omega) (by omega)
  simp only [Int.toNat_natCast, hz1, Nat.mul_one] at hr
  exact hr
theorem own_made (w : World) (c : Nat) (hc : c ≤ 281474976710656) : Own (w.alloc (.cells (madeCells #[.int .u8 0] c) 5)) w.heap.size (.slice (some ⟨w.heap.size, 0, none⟩) 0 c) [] := by
  refine ⟨rfl, .inr ⟨w.heap.size, c, _, rfl, Nat.le_refl _, heap_alloc_new w _, Nat.zero_le _, by unfold maxLen; omega, by rw [size_madeCells]; omega, rfl⟩⟩

theorem Own.lower {w : World} {base base' : Nat} {v : Value} {xs : List UInt8} (h : Own w base v xs) (hb : base' ≤ base) : Own w base' v xs := by
  obtain ⟨h1, h2⟩ := h
  refine ⟨h1, ?_⟩
  rcases h2 with h2 | ⟨g, cap, cur, hv, hg, r⟩
  · exact .inl h2
  · exact .inr ⟨g, cap, cur, hv, by omega, r⟩

/-- what Encode leaves -/
def Encoded (w : World) (v : V) (e : Ending) (w' : World) : Prop :=
  Below w.heap.size w w' ∧ ((v.check = 0 ∧ ∃ g cap N, e = .returned (.tuple #[.slice (some ⟨g, 0, none⟩) N cap, .int .i64 0]) ∧ Hid (N = v.enc.length) ∧ w.heap.size ≤ g ∧ Own w' w.heap.size (.slice (some ⟨g, 0, none⟩) N cap) v.enc) ∨
    (v.check ≠ 0 ∧ e = .returned (.tuple #[.slice none 0 0, .int .i64 v.check])))

set_option maxRecDepth 100000 in
set_option maxHeartbeats 1000000 in
theorem encode_any (v : V) (w : World) (B : Nat) (x : Value) (hB : B ≤ w.heap.size) (hr : Rd w B v x) (hbk : v.bulk ≤ 1099511627776) :
    Calls Try.prog 12 #[x] w (Encoded w v) := by
  have hen := Rd.enc_le _ _ hr hbk
  have HR := Lib.hid hr
  obtain ⟨k, n, s, l, rfl⟩ : ∃ k n s l, v = V.mk k n s l := by cases v with | mk k n s l => exact ⟨k, n, s, l, rfl⟩
  obtain ⟨A, cap, rfl, h0⟩ := hr
  clear h0
  have HR1 : Hid (∀ (o : Obj), Rd (w.alloc o) B (V.mk k n s l) (.agg #[.int .i64 k, .int .i64 n, .string s, .slice A l.length cap])) := fun o => HR.out.below (((Below.refl _ _).alloc (Nat.le_refl _) o).mono hB) (Nat.le_refl _)
  have hw : ∀ {o : Obj} {w1 : World}, Below (w.alloc o).heap.size (w.alloc o) w1 → Below w.heap.size w w1 := fun {o w1} h => ((Below.refl _ _).alloc (Nat.le_refl _) o).trans (h.mono (by simp))
  have HOK := Lib.hid (V.check_ok (v := V.mk k n s l))
  generalize hc : V.check (.mk k n s l) = c at *
  by_cases h : c = 0
  · subst h
    have HF := Lib.hid (HOK.out rfl).1
    have HC := Lib.hid hc
    have hle : (V.enc (.mk k n s l)).length ≤ 1099511627776 := by omega
    clear hc
    have hyy : True := trivial
    clear hyy
    go_enter Try.func12, Try.ntmps12
    go_wp2_with fail
    refine (check_any _ _ B _ (by simp; omega) (HR1.out _) hbk).mono ?_
    rw [HC.out]
    rintro e w1 ⟨rfl, hb1⟩
    have c0 : w1.cell? ⟨w.heap.size, 0, none⟩ = some (.int .i64 k) := by rw [hb1.cell (by simp)]; simp
    have c1 : w1.cell? ⟨w.heap.size, 1, none⟩ = some (.int .i64 n) := by rw [hb1.cell (by simp)]; simp
    have c2 : w1.cell? ⟨w.heap.size, 2, none⟩ = some (.string s) := by rw [hb1.cell (by simp)]; simp
    have c3 : w1.cell? ⟨w.heap.size, 3, none⟩ = some (.slice A l.length cap) := by rw [hb1.cell (by simp)]; simp
    have hw1 := hw hb1
    have hz1 : w.heap.size ≤ w1.heap.size := hw1.size
    have hzl : w.heap.size < w1.heap.size := World.block_lt_of_cell? w1 _ c0
    have HRw : Hid (∀ w', Below w1.heap.size w1 w' → Rd w' B (V.mk k n s l) (.agg #[.int .i64 k, .int .i64 n, .string s, .slice A l.length cap])) := fun w' h => HR.out.below ((hw1.mono hB).trans (h.mono (by omega))) (Nat.le_refl _)
    have hmk := run_make_bytes (V.enc (.mk k n s l)).length (by omega)
    go_wp2_with fail
    go_region_held3 (fun w' => Below w1.heap.size w1 w' ∧ w'.cell? ⟨w.heap.size, 0, none⟩ = some (.int .i64 k) ∧ w'.cell? ⟨w.heap.size, 1, none⟩ = some (.int .i64 n) ∧ w'.cell? ⟨w.heap.size, 2, none⟩ = some (.string s) ∧ w'.cell? ⟨w.heap.size, 3, none⟩ = some (.slice A l.length cap))
        (first | assumption | exact ⟨(Below.refl _ _).drew, c0, c1, c2, c3⟩ | (refine box_keep ?_ hb2; assumption) | (refine box_keep ?_ ((Below.refl _ _).alloc (Nat.le_refl _) _); assumption) | (refine box_keep2 ?_ hb3 hz3 (by omega); assumption))
        (first
          | (go_at_call 27; refine (size_any _ _ B _ (by show B ≤ w1.heap.size; omega) (HRw.out _ (Below.refl _ _).drew) HF.out hbk).mono ?_; rintro e w2 ⟨rfl, hb2⟩)
          | (go_at_call 26
             refine (write_any _ _ B w2.heap.size _ _ [] (HRw.out _ (((Below.refl _ _).drew.trans hb2).alloc (by have := hb2.size; exact this) _)) (by have := hb2.size; have h2 : w1.heap.size ≤ w2.heap.size := this; omega) (by simp) (own_made _ _ (by omega)) HF.out hbk (by simp; omega)).mono ?_
             rintro e w3 ⟨g3, cap3, N3, rfl, HN3, hO3, hT3⟩
             have hb3 := hT3.below (B := w2.heap.size) (by simp) (fun g hg => (by simp [Value.ownBlock] at hg; omega))
             have hz3 : w1.heap.size ≤ w2.heap.size := hb2.size))
    go_wp2_with fail
    go_ret2
    have hbe : Below w1.heap.size w1 w3 := ((Below.refl _ _).drew.trans (hb2.mono (Nat.le_refl _))).trans (((Below.refl _ _).alloc hz3 _).trans (hb3.mono hz3))
    refine ⟨hw1.trans (hbe.mono hz1), .inl ⟨HC.out, g3, cap3, N3, rfl, ?_, ?_, ?_⟩⟩
    · unfold Hid; rw [HN3.out]; simp
    · have := hO3.lt g3 rfl; omega
    · exact Own.lower hO3 (by omega)
  · have HC := Lib.hid hc
    have hn : (c != 0) = true := by simpa using h
    have HH := Lib.hid h
    clear hc h
    go_enter Try.func12, Try.ntmps12
    go_wp2_with fail
    refine (check_any _ _ B _ (by simp; omega) (HR1.out _) hbk).mono ?_
    rw [HC.out]
    rintro e w1 ⟨rfl, hb1⟩
    have hw1 := hw hb1
    go_wp2_with fail
    go_ret2
    exact ⟨hw1, .inr ⟨by rw [HC.out]; exact HH.out, by rw [HC.out]; rfl⟩⟩
end Go.Proofs.Ytbcaanadmfnegaa
