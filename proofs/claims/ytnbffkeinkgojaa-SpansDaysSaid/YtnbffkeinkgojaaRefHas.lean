/- Contracts of the reference's Same, Check, Has, Covers and Few. -/
import Derived.Test.YtnbffkeinkgojaaRefSets
namespace Go.Proofs.Ytnbffkeinkgojaa
open Go.RowKit

theorem below_drewN {B : Nat} {a w : World} (h : Below B a w) (k : Nat) : Below B a (w.drewN k) := ⟨h.os, h.tape, h.output, h.size, h.block⟩
/-- what RdS gives of one element -/
theorem RdS.one {w : World} {B n : Nat} {A : Option Addr} {l : List Sp} (h : RdS w B A n l) (j : Nat) (hj : j < n) : ∃ (b o : Nat) (F T : Int), A = some ⟨b, o, none⟩ ∧ b < B ∧ l[j]? = some (F, T) ∧ I64 F ∧ I64 T ∧ w.cell? ⟨b, o + j * 2, none⟩ = some (.int .i64 F) ∧ w.cell? ⟨b, o + j * 2 + 1, none⟩ = some (.int .i64 T) := by
  obtain ⟨s, hs⟩ : ∃ s, l[j]? = some s := ⟨l[j]'(by have := h.1; omega), List.getElem?_eq_getElem _⟩
  obtain ⟨b, o, e, hb, hc⟩ := h.2.2 (by omega)
  obtain ⟨h1, h2⟩ := hc j s hs
  obtain ⟨i1, i2⟩ := h.2.1 s (List.mem_of_getElem? hs)
  exact ⟨b, o, s.1, s.2, e, hb, hs, i1, i2, h1, h2⟩

set_option maxRecDepth 100000 in
set_option maxHeartbeats 1000000 in
theorem reffew_any (A : Option Addr) (n c : Nat) (w : World) : Calls Try.prog 11 #[.slice A n c] w fun e w' => e = .returned (.bool (decide (n ≤ 40))) ∧ w = w' := by
  by_cases h : n ≤ 40
  · have h' : (n : Int) ≤ 40 := by omega
    go_enter Try.func11, Try.ntmps11
    go_wp2_with fail
    go_ret
    exact ⟨by simp [h], rfl⟩
  · have h' : ¬ (n : Int) ≤ 40 := by omega
    go_enter Try.func11, Try.ntmps11
    go_wp2_with fail
    go_ret
    exact ⟨by simp, rfl⟩

set_option maxRecDepth 100000 in
set_option maxHeartbeats 1000000 in
/-- Same of two lists that are one -/
theorem refsame_eq (A B : Option Addr) (n m c c' : Nat) (l : List Sp) (w : World) (hr : RdS w w.heap.size A n l) (hs : RdS w w.heap.size B m l) (hn : n ≤ 4611686018427387904) :
    Calls Try.prog 14 #[.slice A n c, .slice B m c'] w fun e w' => e = .returned (.bool true) ∧ Below w.heap.size w w' := by
  have hl : m = n := by have h1 := hr.1; have h2 := hs.1; omega
  subst hl
  have HR := Lib.hid hr
  have HSS := Lib.hid hs
  clear hr hs
  go_enter Try.func14, Try.ntmps14
  go_wp2_with fail
  go_loopw [5] (fun v wr => ∃ j : Nat, v = .int .i64 j ∧ j ≤ m ∧ Hid (Below w.heap.size w wr)) (fun v _ => m - (intOf v).toNat)
  case atStart => exact ⟨0, rfl, by omega, Below.refl _ _⟩
  case round =>
    obtain ⟨j, rfl, hj, HB⟩ := hrel
    by_cases hend : j = m
    · subst hend
      go_wp2_with fail
      go_ret
      exact ⟨rfl, HB.out⟩
    have hjm : j < m := by omega
    have hjm' : (j : Int) < (m : Int) := by omega
    have i0 : (0 : Int) ≤ (j : Int) := by omega
    obtain ⟨b1, o1, F, T, rfl, _, hs1, _, _, hc1, hc2⟩ := (HR.out.below HB.out (Nat.le_refl _)).one j hjm
    obtain ⟨b2, o2, F', T', rfl, _, hs2, _, _, hc3, hc4⟩ := (HSS.out.below HB.out (Nat.le_refl _)).one j hjm
    have he : (F, T) = (F', T') := Option.some.inj (hs1.symm.trans hs2)
    injection he with he1 he2
    subst he1 he2
    have zr := HB.out.size
    clear hs1 hs2 hend
    go_wp2_with fail
    go_quiet (fail)
    go_wp2_with fail
    go_roundw
    case rel => exact ⟨j + 1, by go_num, by omega, below_drewN HB.out _⟩
    case measure => simp [intOf]; omega

/-- is each span one of the calendar -/
def okSpan (s : Sp) : Bool := decide (0 ≤ s.1) && decide (s.1 < s.2) && decide (s.2 ≤ 1024)
def checkM (l : List Sp) : Int := if l.all okSpan then 0 else 30
theorem checkM_bad {l : List Sp} {j : Nat} {s : Sp} (h : l[j]? = some s) (hb : okSpan s = false) : checkM l = 30 := by
  unfold checkM
  rw [if_neg]
  intro hall
  have := List.all_eq_true.1 hall s (List.mem_of_getElem? h)
  rw [hb] at this
  cases this

set_option maxRecDepth 100000 in
set_option maxHeartbeats 2000000 in
theorem refcheck_any (A : Option Addr) (n c : Nat) (l : List Sp) (w : World) (hr : RdS w w.heap.size A n l) (hn : n ≤ 4611686018427387904) :
    Calls Try.prog 13 #[.slice A n c] w fun e w' => e = .returned (.int .i64 (checkM l)) ∧ Below w.heap.size w w' := by
  have HR := Lib.hid hr
  clear hr
  go_enter Try.func13, Try.ntmps13
  go_wp2_with fail
  go_loopw [3] (fun v wr => ∃ j : Nat, v = .int .i64 j ∧ j ≤ n ∧ Hid ((l.take j).all okSpan = true) ∧ Hid (Below w.heap.size w wr)) (fun v _ => n - (intOf v).toNat)
  case atStart => exact ⟨0, rfl, by omega, rfl, Below.refl _ _⟩
  case round =>
    obtain ⟨j, rfl, hj, HO, HB⟩ := hrel
    by_cases hend : j = n
    · have HE : Hid (checkM l = 0) := by
        have h := HO.out
        rw [hend, List.take_of_length_le (by have := HR.out.1; omega)] at h
        unfold Hid checkM
        rw [if_pos h]
      have hjn : ¬ (j : Int) < (n : Int) := by omega
      go_wp2_with fail
      go_ret
      exact ⟨ret_int HE.out.symm, HB.out⟩
    have hjm : j < n := by omega
    have hjm' : (j : Int) < (n : Int) := by omega
    have i0 : (0 : Int) ≤ (j : Int) := by omega
    obtain ⟨b1, o1, F, T, rfl, _, hs1, hF, hT, hc1, hc2⟩ := (HR.out.below HB.out (Nat.le_refl _)).one j hjm
    have HS1 := Lib.hid hs1
    have zr := HB.out.size
    unfold I64 at hF hT
    clear hs1 hend
    by_cases h1 : F < 0
    · have HE : Hid (checkM l = 30) := checkM_bad HS1.out (by unfold okSpan; simp; omega)
      go_wp2_with fail
      go_quiet (fail)
      go_wp2_with fail
      go_ret
      exact ⟨ret_int HE.out.symm, below_drewN HB.out _⟩
    by_cases h2 : T ≤ F
    · have HE : Hid (checkM l = 30) := checkM_bad HS1.out (by unfold okSpan; simp; omega)
      have h2' : F ≥ T := h2
      go_wp2_with fail
      go_quiet (fail)
      go_wp2_with fail
      go_ret
      exact ⟨ret_int HE.out.symm, below_drewN HB.out _⟩
    have h2' : ¬ F ≥ T := h2
    by_cases h3 : 1024 < T
    · have HE : Hid (checkM l = 30) := checkM_bad HS1.out (by unfold okSpan; simp; omega)
      have h3' : T > 1024 := h3
      go_wp2_with fail
      go_quiet (fail)
      go_wp2_with fail
      go_ret
      exact ⟨ret_int HE.out.symm, below_drewN HB.out _⟩
    have h3' : ¬ T > 1024 := h3
    have HO' : Hid ((l.take (j + 1)).all okSpan = true) := by
      unfold Hid
      rw [List.take_add_one, HS1.out, List.all_append, HO.out]
      simp [okSpan]
      omega
    go_wp2_with fail
    go_quiet (fail)
    go_wp2_with fail
    go_roundw
    case rel => exact ⟨j + 1, by go_num, by omega, HO', below_drewN HB.out _⟩
    case measure => simp [intOf]; omega

def hasM (l : List Sp) (d : Int) : Bool := decide (0 ≤ d) && decide (d < 1024) && dayIn l d.toNat
set_option maxRecDepth 100000 in
set_option maxHeartbeats 2000000 in
theorem refhas_any (A : Option Addr) (n c : Nat) (l : List Sp) (d : Int) (w : World) (hr : RdS w w.heap.size A n l) (hn : n ≤ 4611686018427387904) :
    Calls Try.prog 24 #[.slice A n c, .int .i64 d] w fun e w' => e = .returned (.bool (hasM l d)) ∧ Below w.heap.size w w' := by
  have HR := Lib.hid hr
  clear hr
  by_cases h0 : d < 0
  · have HE : Hid (hasM l d = false) := by unfold Hid hasM; simp; omega
    go_enter Try.func24, Try.ntmps24
    go_wp2_with fail
    go_ret
    exact ⟨by rw [HE.out]; rfl, Below.refl _ _⟩
  by_cases h1 : 1024 ≤ d
  · have HE : Hid (hasM l d = false) := by unfold Hid hasM; simp; omega
    have h1' : d ≥ 1024 := h1
    go_enter Try.func24, Try.ntmps24
    go_wp2_with fail
    go_ret
    exact ⟨by rw [HE.out]; rfl, Below.refl _ _⟩
  have h1' : ¬ d ≥ 1024 := h1
  obtain ⟨m, rfl⟩ : ∃ m : Nat, d = (m : Int) := ⟨d.toNat, by omega⟩
  have HE : Hid (hasM l m = dayIn l m) := by
    unfold Hid hasM
    rw [decide_eq_true (by omega), decide_eq_true (by omega)]
    simp
  rw [HE.out]
  go_enter Try.func24, Try.ntmps24
  go_wp2_with fail
  go_loopw [5] (fun v wr => ∃ j : Nat, v = .int .i64 j ∧ j ≤ n ∧ Hid (dayIn (l.take j) m = false) ∧ Hid (Below w.heap.size w wr)) (fun v _ => n - (intOf v).toNat)
  case atStart => exact ⟨0, rfl, by omega, rfl, Below.refl _ _⟩
  case round =>
    obtain ⟨j, rfl, hj, HO, HB⟩ := hrel
    by_cases hend : j = n
    · have HE2 : Hid (dayIn l m = false) := by
        have h := HO.out
        rw [hend, List.take_of_length_le (by have := HR.out.1; omega)] at h
        exact h
      have hjn : ¬ (j : Int) < (n : Int) := by omega
      go_wp2_with fail
      go_ret
      exact ⟨by rw [HE2.out]; rfl, HB.out⟩
    have hjm : j < n := by omega
    have hjm' : (j : Int) < (n : Int) := by omega
    have i0 : (0 : Int) ≤ (j : Int) := by omega
    obtain ⟨b1, o1, F, T, rfl, _, hs1, hF, hT, hc1, hc2⟩ := (HR.out.below HB.out (Nat.le_refl _)).one j hjm
    have HS1 := Lib.hid hs1
    have zr := HB.out.size
    have HTK : Hid (dayIn (l.take (j + 1)) m = (decide (F ≤ (m : Int)) && decide ((m : Int) < T))) := by
      unfold Hid
      rw [List.take_add_one, HS1.out, dayIn_append, HO.out]
      simp [dayIn_cons, dayIn_nil]
    clear hs1 hend
    by_cases h2 : F ≤ (m : Int)
    · by_cases h3 : (m : Int) < T
      · have HE3 : Hid (dayIn l m = true) := dayIn_true.2 ⟨(F, T), List.mem_of_getElem? HS1.out, h2, h3⟩
        go_wp2_with fail
        go_ret
        exact ⟨by rw [HE3.out]; rfl, HB.out⟩
      · have HN : Hid (dayIn (l.take (j + 1)) m = false) := by unfold Hid; rw [HTK.out, decide_eq_false h3, Bool.and_false]
        go_wp2_with fail
        go_roundw
        case rel => exact ⟨j + 1, by go_num, by omega, HN, HB⟩
        case measure => simp [intOf]; omega
    · have HN : Hid (dayIn (l.take (j + 1)) m = false) := by unfold Hid; rw [HTK.out, decide_eq_false h2, Bool.false_and]
      go_wp2_with fail
      go_roundw
      case rel => exact ⟨j + 1, by go_num, by omega, HN, HB⟩
      case measure => simp [intOf]; omega
end Go.Proofs.Ytnbffkeinkgojaa
