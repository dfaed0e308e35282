/- Contracts of Name, of both sides, and of the tokens' functions. -/
import Derived.Test.YtdllceggjjopgaaDoorRefL
namespace Go.Proofs.YtdllceggjjopgaaDoor
open Go.RowKit

set_option maxRecDepth 100000 in
set_option maxHeartbeats 1000000 in
theorem contName_any (k : Nat) (hk : k < 6) (w : World) : Calls Tryd.prog 39 #[.int .i64 k] w fun e w' => e = .returned (.bool (k == 2 || k == 3 || k == 4)) ∧ w = w' := by
  have hk : k = 0 ∨ k = 1 ∨ k = 2 ∨ k = 3 ∨ k = 4 ∨ k = 5 := by omega
  rcases hk with rfl | rfl | rfl | rfl | rfl | rfl
  all_goals
    go_enter Tryd.func39, Tryd.ntmps39
    go_wp2_with fail
    go_ret
    exact ⟨rfl, rfl⟩
set_option maxRecDepth 100000 in
set_option maxHeartbeats 1000000 in
theorem contNum_any (k : Nat) (hk : k < 6) (w : World) : Calls Tryd.prog 50 #[.int .i64 k] w fun e w' => e = .returned (.bool (k == 3)) ∧ w = w' := by
  have hk : k = 0 ∨ k = 1 ∨ k = 2 ∨ k = 3 ∨ k = 4 ∨ k = 5 := by omega
  rcases hk with rfl | rfl | rfl | rfl | rfl | rfl
  all_goals
    go_enter Tryd.func50, Tryd.ntmps50
    go_wp2_with fail
    go_ret
    exact ⟨rfl, rfl⟩
set_option maxRecDepth 100000 in
set_option maxHeartbeats 1000000 in
theorem contNo_any (v : Value) (w : World) : Calls Tryd.prog 47 #[v] w fun e w' => e = .returned (.bool false) ∧ w = w' := by
  go_enter Tryd.func47, Tryd.ntmps47
  go_wp2_with fail
  go_ret
  exact ⟨rfl, rfl⟩

theorem isName_nil : isName [] = false := rfl
theorem isName_cons (c : UInt8) (t : List UInt8) : isName (c :: t) = (decide (t.length < 32) && isLet c && (c :: t).all prt) := by
  unfold isName
  rw [show decide (1 ≤ (c :: t).length) = true by simp, Bool.true_and]
  congr 2

/-- what every walk of Name wants of a byte -/
theorem name_ways {x : List UInt8} (Q : Prop) (q1 : x = [] → Q) (q2 : 32 < x.length → isName x = false → Q)
    (q3 : ∀ (c : UInt8) (t : List UInt8), x = c :: t → x.length ≤ 32 → isLet c = false → isName x = false → Q)
    (q4 : ∀ (c : UInt8) (t : List UInt8), x = c :: t → x.length ≤ 32 → isLet c = true → isName x = x.all prt → Q) : Q := by
  cases x with
  | nil => exact q1 rfl
  | cons c t =>
    by_cases h : 32 < (c :: t).length
    · refine q2 h ?_
      rw [isName_cons, decide_eq_false (by simp at h; omega), Bool.false_and, Bool.false_and]
    · cases hl : isLet c with
      | false => exact q3 c t rfl (by omega) hl (by rw [isName_cons, hl]; simp)
      | true => exact q4 c t rfl (by omega) hl (by rw [isName_cons, hl, decide_eq_true (by simp at h; omega)]; simp)

theorem all_take_snoc {x : List UInt8} {j : Nat} {c : UInt8} (h : x[j]? = some c) (p : UInt8 → Bool) : (x.take (j + 1)).all p = ((x.take j).all p && p c) := by
  rw [List.take_add_one, h, List.all_append]
  simp
theorem all_false_at {x : List UInt8} {j : Nat} {c : UInt8} (h : x[j]? = some c) {p : UInt8 → Bool} (hp : p c = false) : x.all p = false := by
  rw [← Bool.not_eq_true]
  intro h1
  have := List.all_eq_true.1 h1 c (List.mem_of_getElem? h)
  rw [hp] at this
  cases this

set_option maxRecDepth 100000 in
set_option maxHeartbeats 1000000 in
theorem name_any (x : List UInt8) (hl : x.length ≤ maxLen) (w : World) (hK : KOK w) :
    Calls Tryd.prog 20 #[.string ⟨x.toArray⟩] w fun e w' => e = .returned (.bool (isName x)) ∧ w = w' := by
  unfold maxLen at hl
  have HK := Lib.hid hK
  clear hK
  refine name_ways (x := x) _ (fun hx => ?_) (fun h1 h2 => ?_) (fun c t hx h1 h2 h3 => ?_) (fun c t hx h1 h2 h3 => ?_)
  · subst hx
    go_enter Tryd.func20, Tryd.ntmps20
    go_wp2_with fail
    go_ret
    exact ⟨rfl, rfl⟩
  · have HE := Lib.hid h2
    have e1 : x.isEmpty = false := by cases x <;> simp at h1 ⊢
    have e2 : (32 : Int) < (x.length : Int) := by omega
    have e3 : ¬ x = [] := by rintro rfl; simp at h1
    clear h2
    go_enter Tryd.func20, Tryd.ntmps20
    go_wp2_with fail
    go_ret
    exact ⟨by rw [HE.out]; rfl, rfl⟩
  · have HE := Lib.hid h3
    have e1 : x.isEmpty = false := by rw [hx]; rfl
    have e2 : ¬ (32 : Int) < (x.length : Int) := by omega
    have e3 : ¬ x = [] := by rw [hx]; simp
    obtain ⟨hp, hix⟩ := ba_at (show x[0]? = some c by rw [hx]; rfl)
    have hb : (((cls c : Nat) : Int) != 2) = true := by unfold isLet at h2; simp at h2 ⊢; omega
    clear h3 hx h2
    go_enter Tryd.func20, Tryd.ntmps20
    go_wp2_with fail
    refine (classOf_any c w HK.out).mono ?_
    rintro e w' ⟨rfl, rfl⟩
    go_wp2_with fail
    go_ret
    exact ⟨by rw [HE.out]; rfl, rfl⟩
  · have HE := Lib.hid h3
    have e1 : x.isEmpty = false := by rw [hx]; rfl
    have e2 : ¬ (32 : Int) < (x.length : Int) := by omega
    have e3 : ¬ x = [] := by rw [hx]; simp
    obtain ⟨hp, hix⟩ := ba_at (show x[0]? = some c by rw [hx]; rfl)
    have hb : (((cls c : Nat) : Int) != 2) = false := by unfold isLet at h2; simp at h2 ⊢; omega
    clear h3 hx h2
    go_enter Tryd.func20, Tryd.ntmps20
    go_wp2_with fail
    refine (classOf_any c w HK.out).mono ?_
    rintro e w' ⟨rfl, rfl⟩
    go_wp2_with fail
    clear hix hb hp e1 e3
    go_loop [19] (fun v => ∃ j : Nat, j ≤ x.length ∧ v = .int .i64 j ∧ Hid ((x.take j).all prt = true)) (fun v => x.length - (intOf v).toNat)
    case atStart => exact ⟨0, Nat.zero_le _, rfl, rfl⟩
    case round =>
      obtain ⟨j, hj, rfl, HA⟩ := hrel
      by_cases hlt : j < x.length
      · obtain ⟨d, hd⟩ : ∃ d, x[j]? = some d := ⟨_, List.getElem?_eq_getElem hlt⟩
        obtain ⟨hp, hix⟩ := ba_at hd
        have hk := cls_lt d
        cases hpd : prt d with
        | false =>
          have HF := Lib.hid (HE.out.trans (all_false_at hd hpd))
          have HC : Hid ((cls d == 2 || cls d == 3 || cls d == 4) = false) := hpd
          clear hd hpd
          go_wp2_with fail
          refine (classOf_any d w HK.out).mono ?_
          rintro e w' ⟨rfl, rfl⟩
          go_wp2_with fail
          refine (contName_any (cls d) hk w).mono ?_
          rintro e w' ⟨rfl, rfl⟩
          rw [HC.out]
          go_wp2_with fail
          go_ret
          exact ⟨by rw [HF.out]; rfl, rfl⟩
        | true =>
          have HA' : Hid ((x.take (j + 1)).all prt = true) := by unfold Hid; rw [all_take_snoc hd, HA.out, hpd]; rfl
          have HC : Hid ((cls d == 2 || cls d == 3 || cls d == 4) = true) := hpd
          clear hd hpd
          go_wp2_with fail
          refine (classOf_any d w HK.out).mono ?_
          rintro e w' ⟨rfl, rfl⟩
          go_wp2_with fail
          refine (contName_any (cls d) hk w).mono ?_
          rintro e w' ⟨rfl, rfl⟩
          rw [HC.out]
          go_wp2_with fail
          go_round
          case rel => exact ⟨j + 1, by omega, by go_num, HA'⟩
          case measure => simp [intOf]; omega
      · have HF : Hid (isName x = true) := by
          have h := HA.out
          rw [List.take_of_length_le (by omega)] at h
          exact HE.out.trans h
        go_wp2_with fail
        go_ret
        exact ⟨by rw [HF.out]; rfl, rfl⟩

set_option maxRecDepth 100000 in
set_option maxHeartbeats 1000000 in
theorem refname_any (x : List UInt8) (hl : x.length ≤ maxLen) (w : World) :
    Calls Tryd.prog 21 #[.string ⟨x.toArray⟩] w fun e w' => e = .returned (.bool (isName x)) ∧ w = w' := by
  unfold maxLen at hl
  refine name_ways (x := x) _ (fun hx => ?_) (fun h1 h2 => ?_) (fun c t hx h1 h2 h3 => ?_) (fun c t hx h1 h2 h3 => ?_)
  · subst hx
    go_enter Tryd.func21, Tryd.ntmps21
    go_wp2_with fail
    go_ret
    exact ⟨rfl, rfl⟩
  · have HE := Lib.hid h2
    have e2 : (32 : Int) < (x.length : Int) := by omega
    have e3 : ¬ (x.length : Int) < 1 := by omega
    clear h2
    go_enter Tryd.func21, Tryd.ntmps21
    go_wp2_with fail
    go_ret
    exact ⟨by rw [HE.out]; rfl, rfl⟩
  · have HE := Lib.hid h3
    have e2 : ¬ (32 : Int) < (x.length : Int) := by omega
    have e3 : ¬ (x.length : Int) < 1 := by rw [hx]; simp; omega
    obtain ⟨hp, hix⟩ := ba_at (show x[0]? = some c by rw [hx]; rfl)
    have HL := Lib.hid h2
    clear h3 hx h2
    go_enter Tryd.func21, Tryd.ntmps21
    go_wp2_with fail
    refine (refletter_any c w).mono ?_
    rintro e w' ⟨rfl, rfl⟩
    rw [HL.out]
    go_wp2_with fail
    go_ret
    exact ⟨by rw [HE.out]; rfl, rfl⟩
  · have HE := Lib.hid h3
    have e2 : ¬ (32 : Int) < (x.length : Int) := by omega
    have e3 : ¬ (x.length : Int) < 1 := by rw [hx]; simp; omega
    obtain ⟨hp, hix⟩ := ba_at (show x[0]? = some c by rw [hx]; rfl)
    have HL := Lib.hid h2
    clear h3 hx h2
    go_enter Tryd.func21, Tryd.ntmps21
    go_wp2_with fail
    refine (refletter_any c w).mono ?_
    rintro e w' ⟨rfl, rfl⟩
    rw [HL.out]
    go_wp2_with fail
    clear hix hp e3
    go_loop [3] (fun v => ∃ j : Nat, j ≤ x.length ∧ v = .int .i64 j ∧ Hid ((x.take j).all prt = true)) (fun v => x.length - (intOf v).toNat)
    case atStart => exact ⟨0, Nat.zero_le _, rfl, rfl⟩
    case round =>
      obtain ⟨j, hj, rfl, HA⟩ := hrel
      by_cases hlt : j < x.length
      · obtain ⟨d, hd⟩ : ∃ d, x[j]? = some d := ⟨_, List.getElem?_eq_getElem hlt⟩
        obtain ⟨hp, hix⟩ := ba_at hd
        cases hpd : prt d with
        | false =>
          have HF := Lib.hid (HE.out.trans (all_false_at hd hpd))
          have HC := Lib.hid hpd
          clear hd hpd
          go_wp2_with fail
          refine (refpart_any d w).mono ?_
          rintro e w' ⟨rfl, rfl⟩
          rw [HC.out]
          go_wp2_with fail
          go_ret
          exact ⟨by rw [HF.out]; rfl, rfl⟩
        | true =>
          have HA' : Hid ((x.take (j + 1)).all prt = true) := by unfold Hid; rw [all_take_snoc hd, HA.out, hpd]; rfl
          have HC := Lib.hid hpd
          clear hd hpd
          go_wp2_with fail
          refine (refpart_any d w).mono ?_
          rintro e w' ⟨rfl, rfl⟩
          rw [HC.out]
          go_wp2_with fail
          go_round
          case rel => exact ⟨j + 1, by omega, by go_num, HA'⟩
          case measure => simp [intOf]; omega
      · have HF : Hid (isName x = true) := by
          have h := HA.out
          rw [List.take_of_length_le (by omega)] at h
          exact HE.out.trans h
        go_wp2_with fail
        go_ret
        exact ⟨by rw [HF.out]; rfl, rfl⟩
end Go.Proofs.YtdllceggjjopgaaDoor
