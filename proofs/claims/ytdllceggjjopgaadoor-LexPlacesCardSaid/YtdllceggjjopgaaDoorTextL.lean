/- Contracts of lineLength, of numbers and their texts. -/
import Derived.Test.YtdllceggjjopgaaDoorSameL
import Derived.Test.YtdllceggjjopgaaDoorShelf
import Derived.SliceStrings
namespace Go.Proofs.YtdllceggjjopgaaDoor
open Go.RowKit

theorem indexByte_line : ∀ x : List UInt8, Lib.indexByte x 10 = if lineLen x < x.length then (lineLen x : Int) else -1
  | [] => rfl
  | c :: t => by
    have ih := indexByte_line t
    unfold Lib.indexByte
    by_cases h : c = 10
    · subst h
      rfl
    · have hb : (c == 10) = false := by simpa using h
      have hl : lineLen (c :: t) = lineLen t + 1 := by
        unfold lineLen
        rw [List.takeWhile_cons, if_pos (by simpa using h)]
        rfl
      rw [hb, hl]
      simp only [List.length_cons, Bool.false_eq_true, if_false]
      by_cases h2 : lineLen t < t.length
      · rw [if_pos h2] at ih
        rw [ih, if_pos (show lineLen t + 1 < t.length + 1 by omega)]
        have h3 : ((lineLen t : Int) == -1) = false := by rw [beq_eq_false_iff_ne]; omega
        rw [h3]
        simp
      · rw [if_neg h2] at ih
        rw [ih, if_neg (show ¬ lineLen t + 1 < t.length + 1 by omega)]
        rfl
theorem lineLen_le (x : List UInt8) : lineLen x ≤ x.length := (List.takeWhile_sublist _ (l := x)).length_le

set_option maxRecDepth 100000 in
set_option maxHeartbeats 1000000 in
theorem lineLength_any (x : List UInt8) (w : World) :
    Calls Tryd.prog 54 #[.string ⟨x.toArray⟩] w fun e w' => e = .returned (.int .i64 (lineLen x)) ∧ w = w' := by
  have HI := Lib.hid (Tryd.strings_IndexByte ⟨x.toArray⟩ 10 w)
  have HX : Hid (Lib.indexByte x 10 = if lineLen x < x.length then (lineLen x : Int) else -1) := indexByte_line x
  have HL := Lib.hid (lineLen_le x)
  go_enter Tryd.func54, Tryd.ntmps54
  go_wp2_with fail
  refine HI.out.mono ?_
  rintro e w' ⟨rfl, rfl⟩
  rw [show Lib.indexByte (⟨x.toArray⟩ : ByteArray).data.toList ((10 : Int).toNat.toUInt8) = Lib.indexByte x 10 from rfl, HX.out]
  by_cases h : lineLen x < x.length
  · rw [if_pos h]
    go_wp2_with fail
    go_ret
    exact ⟨rfl, rfl⟩
  · rw [if_neg h]
    have e : Hid (lineLen x = x.length) := by have := HL.out; unfold Hid; omega
    go_wp2_with fail
    go_ret
    exact ⟨by rw [e.out]; rfl, rfl⟩

set_option maxRecDepth 100000 in
set_option maxHeartbeats 1000000 in
theorem numTok_any (x : List UInt8) (hx : x.all isDig = true) (hl : x.length ≤ 1099511627776) (w : World) :
    Calls Tryd.prog 51 #[.string ⟨x.toArray⟩] w fun e w' => e = .returned (.agg #[.int .i64 2, .int .i64 0, .string ⟨#[]⟩, .int .i64 ((numOf x).getD (-1))]) ∧ Below w.heap.size w w' := by
  have HN := Lib.hid (number_any x hx hl)
  clear hx
  go_enter Tryd.func51, Tryd.ntmps51
  go_wp2_with fail
  refine (HN.out _).mono ?_
  rintro e w' ⟨rfl, rfl⟩
  go_wp2_with fail
  exact bodyPost_ret (v := .agg #[.int .i64 2, .int .i64 0, .string ⟨#[]⟩, .int .i64 ((numOf x).getD (-1))]) (by simp [results, Tryd.results51, go_sem]) rfl ⟨rfl, Below.new1 _ _⟩

/-- the rules of the classes -/
abbrev RUL : Array Value := #[.func (Fn.func 47) #[] #[], .func (Fn.func 48) #[] #[], .func (Fn.func 47) #[] #[], .func (Fn.func 48) #[] #[],
  .func (Fn.func 39) #[] #[], .func (Fn.func 49) #[] #[], .func (Fn.func 50) #[] #[], .func (Fn.func 51) #[] #[],
  .func (Fn.func 47) #[] #[], .func (Fn.func 48) #[] #[], .func (Fn.func 47) #[] #[], .func (Fn.func 52) #[] #[]]
set_option maxRecDepth 100000 in
set_option maxHeartbeats 1000000 in
theorem rules_any (w : World) : Calls Tryd.prog 40 #[] w fun e w' => e = .returned (.agg RUL) ∧ Below w.heap.size w w' := by
  go_enter Tryd.func40, Tryd.ntmps40
  go_wp2_with fail
  exact bodyPost_ret (v := .agg RUL) (by simp [results, Tryd.results40, go_sem]) rfl ⟨rfl, Below.new1 _ _⟩

/-- what the specification's number says -/
def NumR (x : List UInt8) (w : World) (e : Ending) (w' : World) : Prop :=
  Below w.heap.size w w' ∧ ((∃ n, numOf x = some n ∧ e = .returned (.tuple #[.int .i64 n, .bool true])) ∨ (numOf x = none ∧ ∃ n, e = .returned (.tuple #[.int .i64 n, .bool false])))
set_option maxRecDepth 100000 in
set_option maxHeartbeats 1000000 in
theorem refnumber_any (x : List UInt8) (hx : x.all isDig = true) (h1 : 1 ≤ x.length) (hl : x.length ≤ 1099511627776) (w : World) :
    Calls Tryd.prog 29 #[.string ⟨x.toArray⟩] w (NumR x w) := by
  have HX := Lib.hid hx
  clear hx
  go_enter Tryd.func29, Tryd.ntmps29
  go_wp2_with fail
  go_loop [4, 5] (fun v i => ∃ j : Nat, j ≤ x.length ∧ i = .int .i64 j ∧ v = .int .i64 (valF 0 (x.take j)) ∧ valF 0 (x.take j) ≤ 1099511627776) (fun _ i => x.length - (intOf i).toNat)
  case atStart => exact ⟨0, Nat.zero_le _, rfl, rfl, by simp [valF]⟩
  case round =>
    obtain ⟨j, hj, rfl, rfl, hv⟩ := hrel
    have hv0 := (valF_take HX.out j).1
    by_cases hlt : j < x.length
    · obtain ⟨c, hc⟩ : ∃ c, x[j]? = some c := ⟨_, List.getElem?_eq_getElem hlt⟩
      have hb := dig_bd (List.all_eq_true.1 HX.out c (List.mem_of_getElem? hc))
      have HS := Lib.hid (valF_snoc hc)
      have HT := Lib.hid (valF_take HX.out (j + 1))
      obtain ⟨hp, hix⟩ := ba_at hc
      have b1 : (48 : Int) ≤ (c.toNat : Int) := by omega
      have b2 : (c.toNat : Int) ≤ 57 := by omega
      have b3 : (c.toNat : Int) < 256 := by omega
      clear hc hb
      rw [HS.out] at HT
      generalize hV : valF 0 (x.take j) = V at *
      have HV := Lib.hid hV
      clear hV
      generalize hk : c.toNat = k at *
      have HS2 : Hid (valF 0 (x.take (j + 1)) = 10 * V + ((k : Int) - 48)) := by unfold Hid; rw [HS.out]; omega
      by_cases hg : (1099511627776 : Int) < 10 * V + ((k : Int) - 48)
      · have HE : Hid (numOf x = none) := by
          unfold Hid numOf
          rw [if_pos (.inr (by have := HT.out.2; unfold big; omega))]
        clear HT HS
        go_wp2_with fail
        go_ret2
        exact ⟨Below.refl _ _, .inr ⟨HE.out, _, rfl⟩⟩
      · clear HT HS
        go_wp2_with fail
        go_round
        case rel => exact ⟨j + 1, by omega, by go_num, by rw [HS2.out], by rw [HS2.out]; omega⟩
        case measure => simp [intOf]; omega
    · have HV : Hid (valF 0 (x.take j) = valF 0 x) := by unfold Hid; rw [List.take_of_length_le (by omega)]
      have hjx : (j : Int) = (x.length : Int) := by omega
      have hjn : ¬ (j : Int) < (x.length : Int) := by omega
      clear hjx
      by_cases hl1 : x.length = 1
      · have HE : Hid (numOf x = some (valF 0 x)) := by
          unfold Hid numOf
          rw [HV.out] at hv
          rw [if_neg (by rintro (h | h); · omega
                         · unfold big at h; omega)]
        have e1 : ((x.length : Int) == 1) = true := by simp; omega
        clear hl1
        go_wp2_with fail
        go_quiet (fail)
        go_wp2_with fail
        go_ret2
        exact ⟨below_drewN (Below.refl _ _) _, .inl ⟨_, HE.out, by rw [HV.out]; rfl⟩⟩
      · have e1 : ((x.length : Int) == 1) = false := by rw [beq_eq_false_iff_ne]; omega
        obtain ⟨c, hc⟩ : ∃ c, x[0]? = some c := ⟨_, List.getElem?_eq_getElem (by omega)⟩
        obtain ⟨hp, hix⟩ := ba_at hc
        by_cases hz : c = 48
        · have HE : Hid (numOf x = none) := by
            unfold Hid numOf
            rw [if_pos (.inl ⟨by omega, by rw [hc, hz]⟩)]
          have e2 : (((c.toNat : Nat) : Int) != 48) = false := by rw [hz]; rfl
          clear hz hc hl1
          go_wp2_with fail
          go_quiet (fail)
          go_wp2_with fail
          go_ret2
          exact ⟨below_drewN (Below.refl _ _) _, .inr ⟨HE.out, _, rfl⟩⟩
        · have HE : Hid (numOf x = some (valF 0 x)) := by
            unfold Hid numOf
            rw [HV.out] at hv
            rw [if_neg (by rintro (h | h); · rw [hc] at h; exact hz (Option.some.inj h.2)
                           · unfold big at h; omega)]
          have e2 : (((c.toNat : Nat) : Int) != 48) = true := by
            rw [bne_iff_ne]
            intro h
            exact hz (UInt8.toNat_inj.1 (by have : (48 : UInt8).toNat = 48 := rfl; omega))
          clear hz hc hl1
          go_wp2_with fail
          go_quiet (fail)
          go_wp2_with fail
          go_ret2
          exact ⟨below_drewN (Below.refl _ _) _, .inl ⟨_, HE.out, by rw [HV.out]; rfl⟩⟩
end Go.Proofs.YtdllceggjjopgaaDoor
