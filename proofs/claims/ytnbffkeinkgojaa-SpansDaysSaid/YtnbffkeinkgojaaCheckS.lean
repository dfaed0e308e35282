/- Contracts of Check, Has and what Has calls. -/
import Derived.Test.YtnbffkeinkgojaaDaysOf
namespace Go.Proofs.Ytnbffkeinkgojaa
open Go.RowKit

set_option maxRecDepth 100000 in
set_option maxHeartbeats 2000000 in
theorem check_any (A : Option Addr) (n c : Nat) (l : List Sp) (w : World) (hr : RdS w w.heap.size A n l) (hn : n ≤ 4611686018427387904) :
    Calls Try.prog 12 #[.slice A n c] w fun e w' => e = .returned (.int .i64 (checkM l)) ∧ Below w.heap.size w w' := by
  have HR := Lib.hid hr
  clear hr
  go_enter Try.func12, Try.ntmps12
  go_wp2_with fail
  go_loopw [7] (fun v wr => ∃ j : Nat, v = .int .i64 j ∧ j ≤ n ∧ Hid ((l.take j).all okSpan = true) ∧ Hid (Below w.heap.size w wr)) (fun v _ => n - (intOf v).toNat)
  case atStart => exact ⟨0, rfl, by omega, rfl, Below.refl _ _⟩
  case round =>
    obtain ⟨j, rfl, hj, HO, HB⟩ := hrel
    by_cases hend : j = n
    · have HE : Hid (checkM l = 0) := by
        have h := HO.out
        rw [hend, List.take_of_length_le (by have := HR.out.1; omega)] at h
        unfold Hid checkM
        rw [if_pos h]
      have hjn : ¬ (j : Int) < (n : Int) := by omega
      go_wp2_with fail
      go_ret
      exact ⟨ret_int HE.out.symm, HB.out⟩
    have hjm : j < n := by omega
    have hjm' : (j : Int) < (n : Int) := by omega
    have i0 : (0 : Int) ≤ (j : Int) := by omega
    obtain ⟨b1, o1, F, T, rfl, _, hs1, hF, hT, hc1, hc2⟩ := (HR.out.below HB.out (Nat.le_refl _)).one j hjm
    have HS1 := Lib.hid hs1
    have zr := HB.out.size
    unfold I64 at hF hT
    have HB' : Hid (Below w.heap.size w (wr.alloc (.cells #[.int .i64 F, .int .i64 T] 31))) := HB.out.trans ((Below.new1 wr _).mono zr)
    clear hs1 hend
    by_cases h1 : F < 0
    · have HE : Hid (checkM l = 30) := checkM_bad HS1.out (by unfold okSpan; simp; omega)
      go_wp2_with fail
      go_ret
      exact ⟨ret_int HE.out.symm, HB'.out⟩
    by_cases h2 : T ≤ F
    · have HE : Hid (checkM l = 30) := checkM_bad HS1.out (by unfold okSpan; simp; omega)
      have h2' : F ≥ T := h2
      go_wp2_with fail
      go_ret
      exact ⟨ret_int HE.out.symm, HB'.out⟩
    have h2' : ¬ F ≥ T := h2
    by_cases h3 : 1024 < T
    · have HE : Hid (checkM l = 30) := checkM_bad HS1.out (by unfold okSpan; simp; omega)
      have h3' : T > 1024 := h3
      go_wp2_with fail
      go_ret
      exact ⟨ret_int HE.out.symm, HB'.out⟩
    have h3' : ¬ T > 1024 := h3
    have HO' : Hid ((l.take (j + 1)).all okSpan = true) := by
      unfold Hid
      rw [List.take_add_one, HS1.out, List.all_append, HO.out]
      simp [okSpan]
      omega
    go_wp2_with fail
    go_roundw
    case rel => exact ⟨j + 1, by go_num, by omega, HO', HB'⟩
    case measure => simp [intOf]; omega

/-- is a day one of a span's -/
def inSp (s : Sp) (m : Nat) : Bool := decide (s.1 ≤ (m : Int)) && decide ((m : Int) < s.2)
set_option maxRecDepth 100000 in
set_option maxHeartbeats 1000000 in
theorem has1_any (F T : Int) (g m : Nat) (w : World) (hc : w.cell? ⟨g, 0, none⟩ = some (.int .i64 m)) (hg : g < w.heap.size) :
    Calls Try.prog 37 #[.agg #[.int .i64 F, .int .i64 T], .pointer (some ⟨g, 0, none⟩)] w fun e w' => e = .returned (.bool (inSp (F, T) m)) ∧ Below w.heap.size w w' := by
  have hc' : (w.alloc (.cells #[.int .i64 F, .int .i64 T] 31)).cell? ⟨g, 0, none⟩ = some (.int .i64 m) := ((Below.new1 w _).cell (by exact hg)).trans hc
  by_cases h1 : F ≤ (m : Int)
  · by_cases h2 : (m : Int) < T
    · have HE : Hid (inSp (F, T) m = true) := by unfold Hid inSp; simp [h1, h2]
      go_enter Try.func37, Try.ntmps37
      go_wp2_with fail
      go_ret
      exact ⟨by rw [HE.out]; rfl, Below.new1 _ _⟩
    · have HE : Hid (inSp (F, T) m = false) := by unfold Hid inSp; simp; omega
      go_enter Try.func37, Try.ntmps37
      go_wp2_with fail
      go_ret
      exact ⟨by rw [HE.out]; rfl, Below.new1 _ _⟩
  · have HE : Hid (inSp (F, T) m = false) := by unfold Hid inSp; simp; omega
    go_enter Try.func37, Try.ntmps37
    go_wp2_with fail
    go_ret
    exact ⟨by rw [HE.out]; rfl, Below.new1 _ _⟩

/-- an index, not negative just where b -/
def IdxIs (b : Bool) (u u' : World) (e : Ending) : Prop := ∃ r : Int, e = .returned (.int .i64 r) ∧ decide (0 ≤ r) = b ∧ Below u.heap.size u u'
set_option maxRecDepth 100000 in
set_option maxHeartbeats 1000000 in
theorem indexFunc_any (A : Option Addr) (n c : Nat) (l : List Sp) (g m : Nat) (w : World) (hr : RdS w w.heap.size A n l) (hn : n ≤ 4611686018427387904) (hc : w.cell? ⟨g, 0, none⟩ = some (.int .i64 m)) (hg : g < w.heap.size) :
    Calls Try.prog 40 #[.slice A n c, .func (.func 37) #[] #[.pointer (some ⟨g, 0, none⟩)]] w (fun e w' => IdxIs (dayIn l m) w w' e) := by
  have HR := Lib.hid hr
  have HC := Lib.hid hc
  clear hr hc
  go_enter Try.func40, Try.ntmps40
  go_wp2_with fail
  go_loopw [8] (fun v wr => ∃ j : Nat, v = .int .i64 j ∧ j ≤ n ∧ Hid (dayIn (l.take j) m = false) ∧ Hid (Below w.heap.size w wr)) (fun v _ => n - (intOf v).toNat)
  case atStart => exact ⟨0, rfl, by omega, rfl, Below.refl _ _⟩
  case round =>
    obtain ⟨j, rfl, hj, HO, HB⟩ := hrel
    by_cases hend : j = n
    · have HE2 : Hid (dayIn l m = false) := by
        have h := HO.out
        rw [hend, List.take_of_length_le (by have := HR.out.1; omega)] at h
        exact h
      have hjn : ¬ (j : Int) < (n : Int) := by omega
      go_wp2_with fail
      go_ret
      exact ⟨-1, rfl, by rw [HE2.out]; rfl, HB.out⟩
    have hjm : j < n := by omega
    have hjm' : (j : Int) < (n : Int) := by omega
    have i0 : (0 : Int) ≤ (j : Int) := by omega
    obtain ⟨b1, o1, F, T, rfl, _, hs1, hF, hT, hc1, hc2⟩ := (HR.out.below HB.out (Nat.le_refl _)).one j hjm
    have HS1 := Lib.hid hs1
    have HTK : Hid (dayIn (l.take (j + 1)) m = inSp (F, T) m) := by
      unfold Hid
      rw [List.take_add_one, HS1.out, dayIn_append, HO.out]
      simp [dayIn_cons, dayIn_nil, inSp]
    have zr := HB.out.size
    have HK := Lib.hid (has1_any F T g m wr ((HB.out.cell (by exact hg)).trans HC.out) (by omega))
    clear hs1 hend
    go_wp2_with fail
    refine HK.out.mono ?_
    rintro e w2 ⟨rfl, hb2⟩
    have HB2 : Hid (Below w.heap.size w w2) := HB.out.trans (hb2.mono zr)
    clear hb2 HK
    cases hin : inSp (F, T) m with
    | true =>
      have HD : Hid (dayIn l m = true) := dayIn_true.2 ⟨(F, T), List.mem_of_getElem? HS1.out, by unfold inSp at hin; simpa using hin⟩
      clear hin
      go_wp2_with fail
      go_ret
      exact ⟨j, rfl, by rw [HD.out]; simp, HB2.out⟩
    | false =>
      have HN : Hid (dayIn (l.take (j + 1)) m = false) := by unfold Hid; rw [HTK.out, hin]
      clear hin
      go_wp2_with fail
      go_roundw
      case rel => exact ⟨j + 1, by go_num, by omega, HN, HB2⟩
      case measure => simp [intOf]; omega

set_option maxRecDepth 100000 in
set_option maxHeartbeats 1000000 in
theorem containsFunc_any (A : Option Addr) (n c : Nat) (l : List Sp) (g m : Nat) (w : World) (hr : RdS w w.heap.size A n l) (hn : n ≤ 4611686018427387904) (hc : w.cell? ⟨g, 0, none⟩ = some (.int .i64 m)) (hg : g < w.heap.size) :
    Calls Try.prog 36 #[.slice A n c, .func (.func 37) #[] #[.pointer (some ⟨g, 0, none⟩)]] w fun e w' => e = .returned (.bool (dayIn l m)) ∧ Below w.heap.size w w' := by
  have HK := Lib.hid (indexFunc_any A n c l g m w hr hn hc hg)
  clear hr hc
  go_enter Try.func36, Try.ntmps36
  go_wp2_with fail
  refine HK.out.mono ?_
  rintro e w2 ⟨r, rfl, hr, hb2⟩
  have HB2 := Lib.hid hb2
  have HR := Lib.hid hr
  clear hb2 HK hr
  go_wp2_with fail
  go_ret
  exact ⟨by rw [← HR.out]; rfl, HB2.out⟩

set_option maxRecDepth 100000 in
set_option maxHeartbeats 1000000 in
theorem has_any (A : Option Addr) (n c : Nat) (l : List Sp) (d : Int) (w : World) (hr : RdS w w.heap.size A n l) (hn : n ≤ 4611686018427387904) :
    Calls Try.prog 23 #[.slice A n c, .int .i64 d] w fun e w' => e = .returned (.bool (hasM l d)) ∧ Below w.heap.size w w' := by
  have hb1 : Below w.heap.size w (w.alloc (.cells #[.int .i64 d] 3)) := Below.new1 _ _
  have HB1 := Lib.hid hb1
  have hr1 := hr.below hb1 hb1.size
  have HR := Lib.hid hr1
  clear hr hb1 hr1
  by_cases h0 : d < 0
  · have HE : Hid (hasM l d = false) := by unfold Hid hasM; simp; omega
    go_enter Try.func23, Try.ntmps23
    go_wp2_with fail
    go_ret
    exact ⟨by rw [HE.out]; rfl, HB1.out⟩
  by_cases h1 : 1024 ≤ d
  · have HE : Hid (hasM l d = false) := by unfold Hid hasM; simp; omega
    have h1' : ¬ d < 1024 := by omega
    go_enter Try.func23, Try.ntmps23
    go_wp2_with fail
    go_ret
    exact ⟨by rw [HE.out]; rfl, HB1.out⟩
  have h1' : d < 1024 := by omega
  obtain ⟨m, rfl⟩ : ∃ m : Nat, d = (m : Int) := ⟨d.toNat, by omega⟩
  have HE : Hid (hasM l m = dayIn l m) := by
    unfold Hid hasM
    rw [decide_eq_true (by omega), decide_eq_true (by omega)]
    simp
  rw [HE.out]
  have HK := Lib.hid (containsFunc_any A n c l w.heap.size m _ HR.out hn (by rw [cell_of_row _ _ 0 _ _ _ (heap_alloc_new _ _)]; rfl) (by simp))
  go_enter Try.func23, Try.ntmps23
  go_wp2_with fail
  refine HK.out.mono ?_
  rintro e w2 ⟨rfl, hb2⟩
  have HB2 : Hid (Below w.heap.size w w2) := HB1.out.trans (hb2.mono HB1.out.size)
  clear hb2 HK
  go_wp2_with fail
  go_ret
  exact ⟨rfl, HB2.out⟩
end Go.Proofs.Ytnbffkeinkgojaa
