/- Contracts of number and Name. -/
import Derived.Test.YtdllceggjjopgaaDoorMemT
namespace Go.Proofs.YtdllceggjjopgaaDoor
open Go.RowKit

theorem valF_app (n : Int) (x y : List UInt8) : valF n (x ++ y) = valF (valF n x) y := by unfold valF; rw [List.foldl_append]
theorem dig_bd {c : UInt8} (h : isDig c = true) : 48 ≤ c.toNat ∧ c.toNat ≤ 57 := by
  rw [isDig_iff] at h
  simpa using h
theorem valF_mono : ∀ (x : List UInt8) (n : Int), 0 ≤ n → x.all isDig = true → n ≤ valF n x
  | [], n, _, _ => Int.le_refl _
  | c :: x, n, h, hx => by
    rw [List.all_cons, Bool.and_eq_true] at hx
    have hb := dig_bd hx.1
    have h1 : valF n (c :: x) = valF (n * 10 + ((c.toNat : Int) - 48)) x := rfl
    have h2 := valF_mono x (n * 10 + ((c.toNat : Int) - 48)) (by omega) hx.2
    omega
theorem valF_take {x : List UInt8} (h : x.all isDig = true) (j : Nat) : 0 ≤ valF 0 (x.take j) ∧ valF 0 (x.take j) ≤ valF 0 x := by
  have h1 : (x.take j).all isDig = true := List.all_eq_true.2 fun c hc => List.all_eq_true.1 h c (List.mem_of_mem_take hc)
  have h2 : (x.drop j).all isDig = true := List.all_eq_true.2 fun c hc => List.all_eq_true.1 h c (List.mem_of_mem_drop hc)
  refine ⟨valF_mono _ 0 (Int.le_refl _) h1, ?_⟩
  conv => rhs; rw [← List.take_append_drop j x, valF_app]
  exact valF_mono _ _ (valF_mono _ 0 (Int.le_refl _) h1) h2

/-- a byte of a string, as the walk spells it -/
theorem ba_at {x : List UInt8} {i : Nat} {c : UInt8} (h : x[i]? = some c) : ∃ hp : i < (⟨x.toArray⟩ : ByteArray).size, (⟨x.toArray⟩ : ByteArray)[i]'hp = c := by
  obtain ⟨hp, e⟩ := List.getElem?_eq_some_iff.1 h
  exact ⟨hp, by rw [← e]; rfl⟩
theorem valF_snoc {x : List UInt8} {j : Nat} {c : UInt8} (h : x[j]? = some c) : valF 0 (x.take (j + 1)) = valF 0 (x.take j) * 10 + ((c.toNat : Int) - 48) := by
  rw [List.take_add_one, h, valF_app]
  rfl

set_option maxRecDepth 100000 in
set_option maxHeartbeats 1000000 in
theorem number_loop (x : List UInt8) (hx : x.all isDig = true) (hl : x.length ≤ 1099511627776) (hz : ¬ (x.length > 1 ∧ x[0]? = some 48)) (w : World) :
    Calls Tryd.prog 58 #[.string ⟨x.toArray⟩] w fun e w' => e = .returned (.int .i64 ((numOf x).getD (-1))) ∧ w = w' := by
  have HZ := Lib.hid hz
  have HX := Lib.hid hx
  clear hz hx
  have key : ∀ (Q : Prop), (¬ (1 : Int) < (x.length : Int) → Q) → ((1 : Int) < (x.length : Int) → (∃ (c : UInt8) (hp : 0 < (⟨x.toArray⟩ : ByteArray).size), (⟨x.toArray⟩ : ByteArray)[0]'hp = c ∧ (((c.toNat : Nat) : Int) == 48) = false) → Q) → Q := fun Q q1 q2 => by
    by_cases h : (1 : Int) < (x.length : Int)
    · obtain ⟨c, hc⟩ : ∃ c, x[0]? = some c := ⟨_, List.getElem?_eq_getElem (by omega)⟩
      obtain ⟨hp, e⟩ := ba_at hc
      refine q2 h ⟨c, hp, e, ?_⟩
      rw [beq_eq_false_iff_ne]
      intro e2
      refine HZ.out ⟨by omega, ?_⟩
      rw [hc, UInt8.toNat_inj.1 (show c.toNat = (48 : UInt8).toNat by have : (48 : UInt8).toNat = 48 := rfl; omega)]
    · exact q1 h
  refine key _ (fun h1 => ?_) (fun h1 h2 => ?_)
  rotate_left
  obtain ⟨c0, hp0, hc0, hc1⟩ := h2
  all_goals
    clear key
    go_enter Tryd.func58, Tryd.ntmps58
    go_wp2_with fail
    try clear hc0 hc1
    go_loop [2, 14] (fun v i => ∃ j : Nat, j ≤ x.length ∧ i = .int .i64 j ∧ v = .int .i64 (valF 0 (x.take j)) ∧ valF 0 (x.take j) ≤ 1099511627776) (fun _ i => x.length - (intOf i).toNat)
    case atStart => exact ⟨0, Nat.zero_le _, rfl, rfl, by simp [valF]⟩
    case round =>
      obtain ⟨j, hj, rfl, rfl, hv⟩ := hrel
      have hv0 := (valF_take HX.out j).1
      by_cases hlt : j < x.length
      · obtain ⟨c, hc⟩ : ∃ c, x[j]? = some c := ⟨_, List.getElem?_eq_getElem hlt⟩
        have hb := dig_bd (List.all_eq_true.1 HX.out c (List.mem_of_getElem? hc))
        have HS := Lib.hid (valF_snoc hc)
        have HT := Lib.hid (valF_take HX.out (j + 1))
        obtain ⟨hp, hix⟩ := ba_at hc
        have b1 : (48 : Int) ≤ (c.toNat : Int) := by omega
        have b2 : (c.toNat : Int) ≤ 57 := by omega
        have b3 : (c.toNat : Int) < 256 := by omega
        clear hc hb
        rw [HS.out] at HT
        generalize hV : valF 0 (x.take j) = V at *
        have HV := Lib.hid hV
        clear hV
        generalize hk : c.toNat = k at *
        clear HZ
        by_cases hg : (1099511627776 : Int) < V * 10 + ((k : Int) - 48)
        · have HE : Hid ((numOf x).getD (-1) = -1) := by
            unfold Hid numOf
            rw [if_pos (.inr (by have := HT.out.2; unfold big; omega))]
            rfl
          clear HT HS
          go_wp2_with fail
          go_ret
          exact ⟨by rw [HE.out]; rfl, rfl⟩
        · clear HT
          go_wp2_with fail
          go_round
          case rel => exact ⟨j + 1, by omega, by go_num, by rw [HS.out], by rw [HS.out]; omega⟩
          case measure => simp [intOf]; omega
      · have HE : Hid ((numOf x).getD (-1) = valF 0 (x.take j)) := by
          unfold Hid numOf
          rw [List.take_of_length_le (by omega)] at hv ⊢
          rw [if_neg (by rintro (h | h); · exact HZ.out h
                         · unfold big at h; omega)]
          rfl
        clear HZ
        go_wp2_with fail
        go_ret
        exact ⟨by rw [HE.out]; rfl, rfl⟩

set_option maxRecDepth 100000 in
set_option maxHeartbeats 1000000 in
theorem number_any (x : List UInt8) (hx : x.all isDig = true) (hl : x.length ≤ 1099511627776) (w : World) :
    Calls Tryd.prog 58 #[.string ⟨x.toArray⟩] w fun e w' => e = .returned (.int .i64 ((numOf x).getD (-1))) ∧ w = w' := by
  by_cases hz : x.length > 1 ∧ x[0]? = some 48
  · have HE : Hid ((numOf x).getD (-1) = -1) := by unfold Hid numOf; rw [if_pos (.inl hz)]; rfl
    rw [HE.out]
    obtain ⟨hp, hc⟩ := ba_at hz.2
    have h1 : (1 : Int) < (x.length : Int) := by have := hz.1; omega
    clear hz hx
    go_enter Tryd.func58, Tryd.ntmps58
    go_wp2_with fail
    go_ret
    exact ⟨rfl, rfl⟩
  · exact number_loop x hx hl hz w
end Go.Proofs.YtdllceggjjopgaaDoor
