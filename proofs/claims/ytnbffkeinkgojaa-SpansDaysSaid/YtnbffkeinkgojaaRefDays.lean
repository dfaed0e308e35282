/- Contract of the reference's Days. -/
import Derived.Test.YtnbffkeinkgojaaMemS
namespace Go.Proofs.Ytnbffkeinkgojaa
open Go.RowKit

set_option maxRecDepth 100000 in
set_option maxHeartbeats 2000000 in
theorem refdays_any (A : Option Addr) (n c : Nat) (l : List Sp) (w : World) (hr : RdS w w.heap.size A n l) (hn : n ≤ 4611686018427387904) :
    Calls Try.prog 31 #[.slice A n c] w fun e w' => ∃ g : Nat, e = .returned (.slice (some ⟨g, 0, none⟩) 1024 1024) ∧ BoolRow w' g (dayIn l) ∧ w.heap.size ≤ g ∧ Below w.heap.size w w' := by
  have HL := Lib.hid hr.1
  have HR := Lib.hid hr
  clear hr
  obtain ⟨iB, hiB, hzB, h1B, h2B⟩ := info_parts boolInfo
  go_enter Try.func31, Try.ntmps31
  go_wp2_with (first
    | (refine wpList_make_full _ rfl (.const (.int .i64 1024)) (.const (.int .i64 1024)) 47 rfl w.heap.size 4 iB _ 1 Try.underlying47 hiB hzB h1B .i64 .i64 _ _ 1024 rfl rfl rfl rfl (by rw [h2B]; omega) (by unfold maxLen; omega) (Nat.le_refl _) ?rest))
  case rest =>
    intro w2 ho2 hg2
    have hb2 := below_of_grown hg2
    have hbr2 := bool_of_owns (by rfl) (Owns.of ho2)
    have HB2 := Lib.hid hb2
    have HBR2 := Lib.hid hbr2
    have hgl := hbr2.lt
    obtain ⟨g, hg⟩ : ∃ g, g = w.heap.size := ⟨_, rfl⟩
    have hgw : w.heap.size ≤ g := by omega
    rw [← hg] at HBR2 hgl ⊢
    have HGG := Lib.hid hg
    clear ho2 hg2 hb2 hbr2 hg
    go_wp2_with fail
    go_loopw [4] (fun v wr => ∃ k : Nat, v = .int .i64 k ∧ k ≤ n ∧ Hid (BoolRow wr g (dayIn (l.take k))) ∧ Hid (Below w.heap.size w wr)) (fun v _ => n - (intOf v).toNat)
    case atStart => exact ⟨0, rfl, by omega, HBR2, HB2⟩
    case round =>
      obtain ⟨k, rfl, hk, HF, HB⟩ := hrel
      clear HBR2 HB2
      by_cases hend : k = n
      · have hkn : ¬ (k : Int) < (n : Int) := by omega
        have HE : Hid (BoolRow wr g (dayIn l)) := by
          have h := HF.out
          rw [List.take_of_length_le (by have h := HL.out; omega)] at h
          exact h
        go_wp2_with fail
        go_ret
        exact ⟨g, rfl, HE.out, hgw, HB.out⟩
      · have hkn : (k : Int) < (n : Int) := by omega
        have k0 : (0 : Int) ≤ (k : Int) := by omega
        obtain ⟨s, hs⟩ : ∃ s, l[k]? = some s := ⟨l[k]'(by have h := HL.out; omega), List.getElem?_eq_getElem _⟩
        obtain ⟨b, o, rfl, hbl, hcell⟩ := HR.out.2.2 (by omega)
        have hi := HR.out.2.1 s (List.mem_of_getElem? hs)
        have hc0 := (HB.out.cell (p := ⟨b, o + k * 2, none⟩) hbl).trans (hcell k s hs).1
        have HC0 : Hid (w.cell? ⟨b, o + k * 2, none⟩ = some (.int .i64 s.1)) := (hcell k s hs).1
        have HC1 : Hid (w.cell? ⟨b, o + k * 2 + 1, none⟩ = some (.int .i64 s.2)) := (hcell k s hs).2
        have HTK : Hid (∀ m, dayIn (l.take (k + 1)) m = (dayIn (l.take k) m || (decide (s.1 ≤ (m : Int)) && decide ((m : Int) < s.2)))) := fun m => by
          rw [List.take_add_one, hs, dayIn_append]
          simp [dayIn_cons, dayIn_nil]
        obtain ⟨F, T⟩ := s
        clear hcell hs hend
        by_cases hF : 0 ≤ F
        · go_wp2_with fail
          go_loopw [5] (fun v wr => ∃ x : Int, v = .int .i64 x ∧ F ≤ x ∧ (x = F ∨ (x ≤ T ∧ x ≤ 1024)) ∧ Hid (BoolRow wr g (fun m => dayIn (l.take k) m || (decide (F ≤ (m : Int)) && decide ((m : Int) < x)))) ∧ Hid (Below w.heap.size w wr)) (fun v _ => (1024 - intOf v).toNat)
          case atStart =>
            refine ⟨F, rfl, Int.le_refl _, .inl rfl, HF.out.congr fun m hm => ?_, HB⟩
            have e : (decide (F ≤ (m : Int)) && decide ((m : Int) < F)) = false := by
              rw [Bool.eq_false_iff]
              simp only [ne_eq, Bool.and_eq_true, decide_eq_true_eq]
              omega
            rw [e]
            simp
          case round =>
            obtain ⟨x, rfl, hx1, hx2, HX, HBx⟩ := hrel
            have hc0' := (HBx.out.cell (p := ⟨b, o + k * 2, none⟩) hbl).trans HC0.out
            have hc1' := (HBx.out.cell (p := ⟨b, o + k * 2 + 1, none⟩) hbl).trans HC1.out
            by_cases hT : T ≤ 1024
            · by_cases hxT : x < T
              · have x0 : (0 : Int) ≤ x := by omega
                have x1 : x < 1024 := by omega
                have hcx := HX.out.cell x.toNat (by omega)
                have hfx := HX.out.frozen x.toNat
                go_wp2_with fail
                go_roundw
                case rel =>
                  refine ⟨x + 1, by go_num, by omega, .inr (by omega), ?_, Below.setCell HBx.out hgw _⟩
                  have h := HX.out.set x.toNat true
                  exact h.congr fun m hm => by
                    unfold upd
                    by_cases e : m = x.toNat
                    · rw [if_pos e]
                      have e1 : decide (F ≤ (m : Int)) = true := decide_eq_true (by omega)
                      have e2 : decide ((m : Int) < x + 1) = true := decide_eq_true (by omega)
                      rw [e1, e2]
                      simp
                    · rw [if_neg e]
                      have e2 : decide ((m : Int) < x + 1) = decide ((m : Int) < x) := decide_eq_decide.2 (by omega)
                      rw [e2]
                case measure => simp [intOf]; omega
              · have HN : Hid (BoolRow wr g (dayIn (l.take (k + 1)))) := HX.out.congr fun m hm => by
                  rw [HTK.out]
                  have e : (decide (F ≤ (m : Int)) && decide ((m : Int) < x)) = (decide (F ≤ (m : Int)) && decide ((m : Int) < T)) := by
                    rw [Bool.eq_iff_iff]
                    simp only [Bool.and_eq_true, decide_eq_true_eq]
                    omega
                  rw [e]
                go_wp2_with fail
                go_roundw
                case rel => exact ⟨k + 1, by go_num, by omega, HN, HBx⟩
                case measure => simp [intOf]; omega
            · have hT' : (1024 : Int) ≤ T := by omega
              by_cases hxT : x < 1024
              · have x0 : (0 : Int) ≤ x := by omega
                have hcx := HX.out.cell x.toNat (by omega)
                have hfx := HX.out.frozen x.toNat
                go_wp2_with fail
                go_roundw
                case rel =>
                  refine ⟨x + 1, by go_num, by omega, .inr (by omega), ?_, Below.setCell HBx.out hgw _⟩
                  have h := HX.out.set x.toNat true
                  exact h.congr fun m hm => by
                    unfold upd
                    by_cases e : m = x.toNat
                    · rw [if_pos e]
                      have e1 : decide (F ≤ (m : Int)) = true := decide_eq_true (by omega)
                      have e2 : decide ((m : Int) < x + 1) = true := decide_eq_true (by omega)
                      rw [e1, e2]
                      simp
                    · rw [if_neg e]
                      have e2 : decide ((m : Int) < x + 1) = decide ((m : Int) < x) := decide_eq_decide.2 (by omega)
                      rw [e2]
                case measure => simp [intOf]; omega
              · have HN : Hid (BoolRow wr g (dayIn (l.take (k + 1)))) := HX.out.congr fun m hm => by
                  rw [HTK.out]
                  have e : (decide (F ≤ (m : Int)) && decide ((m : Int) < x)) = (decide (F ≤ (m : Int)) && decide ((m : Int) < T)) := by
                    rw [Bool.eq_iff_iff]
                    simp only [Bool.and_eq_true, decide_eq_true_eq]
                    omega
                  rw [e]
                go_wp2_with fail
                go_roundw
                case rel => exact ⟨k + 1, by go_num, by omega, HN, HBx⟩
                case measure => simp [intOf]; omega
        · have hF' : F ≤ 0 := by omega
          go_wp2_with fail
          go_loopw [5] (fun v wr => ∃ x : Int, v = .int .i64 x ∧ (0 : Int) ≤ x ∧ (x = (0 : Int) ∨ (x ≤ T ∧ x ≤ 1024)) ∧ Hid (BoolRow wr g (fun m => dayIn (l.take k) m || (decide ((0 : Int) ≤ (m : Int)) && decide ((m : Int) < x)))) ∧ Hid (Below w.heap.size w wr)) (fun v _ => (1024 - intOf v).toNat)
          case atStart =>
            refine ⟨(0 : Int), rfl, Int.le_refl _, .inl rfl, HF.out.congr fun m hm => ?_, HB⟩
            have e : (decide ((0 : Int) ≤ (m : Int)) && decide ((m : Int) < (0 : Int))) = false := by
              rw [Bool.eq_false_iff]
              simp only [ne_eq, Bool.and_eq_true, decide_eq_true_eq]
              omega
            rw [e]
            simp
          case round =>
            obtain ⟨x, rfl, hx1, hx2, HX, HBx⟩ := hrel
            have hc0' := (HBx.out.cell (p := ⟨b, o + k * 2, none⟩) hbl).trans HC0.out
            have hc1' := (HBx.out.cell (p := ⟨b, o + k * 2 + 1, none⟩) hbl).trans HC1.out
            by_cases hT : T ≤ 1024
            · by_cases hxT : x < T
              · have x0 : (0 : Int) ≤ x := by omega
                have x1 : x < 1024 := by omega
                have hcx := HX.out.cell x.toNat (by omega)
                have hfx := HX.out.frozen x.toNat
                go_wp2_with fail
                go_roundw
                case rel =>
                  refine ⟨x + 1, by go_num, by omega, .inr (by omega), ?_, Below.setCell HBx.out hgw _⟩
                  have h := HX.out.set x.toNat true
                  exact h.congr fun m hm => by
                    unfold upd
                    by_cases e : m = x.toNat
                    · rw [if_pos e]
                      have e1 : decide ((0 : Int) ≤ (m : Int)) = true := decide_eq_true (by omega)
                      have e2 : decide ((m : Int) < x + 1) = true := decide_eq_true (by omega)
                      rw [e1, e2]
                      simp
                    · rw [if_neg e]
                      have e2 : decide ((m : Int) < x + 1) = decide ((m : Int) < x) := decide_eq_decide.2 (by omega)
                      rw [e2]
                case measure => simp [intOf]; omega
              · have HN : Hid (BoolRow wr g (dayIn (l.take (k + 1)))) := HX.out.congr fun m hm => by
                  rw [HTK.out]
                  have e : (decide ((0 : Int) ≤ (m : Int)) && decide ((m : Int) < x)) = (decide (F ≤ (m : Int)) && decide ((m : Int) < T)) := by
                    rw [Bool.eq_iff_iff]
                    simp only [Bool.and_eq_true, decide_eq_true_eq]
                    omega
                  rw [e]
                go_wp2_with fail
                go_roundw
                case rel => exact ⟨k + 1, by go_num, by omega, HN, HBx⟩
                case measure => simp [intOf]; omega
            · have hT' : (1024 : Int) ≤ T := by omega
              by_cases hxT : x < 1024
              · have x0 : (0 : Int) ≤ x := by omega
                have hcx := HX.out.cell x.toNat (by omega)
                have hfx := HX.out.frozen x.toNat
                go_wp2_with fail
                go_roundw
                case rel =>
                  refine ⟨x + 1, by go_num, by omega, .inr (by omega), ?_, Below.setCell HBx.out hgw _⟩
                  have h := HX.out.set x.toNat true
                  exact h.congr fun m hm => by
                    unfold upd
                    by_cases e : m = x.toNat
                    · rw [if_pos e]
                      have e1 : decide ((0 : Int) ≤ (m : Int)) = true := decide_eq_true (by omega)
                      have e2 : decide ((m : Int) < x + 1) = true := decide_eq_true (by omega)
                      rw [e1, e2]
                      simp
                    · rw [if_neg e]
                      have e2 : decide ((m : Int) < x + 1) = decide ((m : Int) < x) := decide_eq_decide.2 (by omega)
                      rw [e2]
                case measure => simp [intOf]; omega
              · have HN : Hid (BoolRow wr g (dayIn (l.take (k + 1)))) := HX.out.congr fun m hm => by
                  rw [HTK.out]
                  have e : (decide ((0 : Int) ≤ (m : Int)) && decide ((m : Int) < x)) = (decide (F ≤ (m : Int)) && decide ((m : Int) < T)) := by
                    rw [Bool.eq_iff_iff]
                    simp only [Bool.and_eq_true, decide_eq_true_eq]
                    omega
                  rw [e]
                go_wp2_with fail
                go_roundw
                case rel => exact ⟨k + 1, by go_num, by omega, HN, HBx⟩
                case measure => simp [intOf]; omega
end Go.Proofs.Ytnbffkeinkgojaa
