/- Contract of the specification's Text. -/
import Derived.Test.YtdllceggjjopgaaDoorSaneL
import Derived.Test.YtdllceggjjopgaaDoorTextM
namespace Go.Proofs.YtdllceggjjopgaaDoor
open Go.RowKit

theorem textL_snoc {l : List Tk} {j : Nat} {t : Tk} (h : l[j]? = some t) : textL (l.take (j + 1)) = textL (l.take j) ++ (if j = 0 then wordL t else 32 :: wordL t) := by
  have hj := (List.getElem?_eq_some_iff.1 h).1
  rw [List.take_add_one, h, Option.toList_some]
  by_cases h0 : j = 0
  · subst h0
    rw [List.take_zero, List.nil_append, if_pos rfl]
    simp [textL, Lib.join]
  · rw [if_neg h0]
    cases hq : l.take j with
    | nil =>
      have h1 := congrArg List.length hq
      rw [List.length_take, List.length_nil] at h1
      omega
    | cons a r =>
      unfold textL
      rw [List.cons_append, List.map_cons, List.map_cons, Lib.join_cons, Lib.join_cons, List.map_append]
      simp [Lib.joinTail]
theorem textL_take (l : List Tk) (j : Nat) : (textL (l.take j)).length ≤ Lib.lens (l.map wordL) + l.length := by
  have h1 := textL_len (l.take j)
  have h2 := Lib.lens_take_le (l.map wordL) j
  rw [← List.map_take] at h2
  have h3 : (l.take j).length ≤ l.length := by rw [List.length_take]; omega
  omega

theorem word_lens {l : List Tk} {j : Nat} {t : Tk} (h : l[j]? = some t) : (wordL t).length ≤ Lib.lens (l.map wordL) := by
  have h1 := Lib.lens_take_succ (l.map wordL) j (wordL t) (by rw [List.getElem?_map, h]; rfl)
  have h2 := Lib.lens_take_le (l.map wordL) (j + 1)
  omega
theorem ba_cat2 (c : UInt8) (s m : List UInt8) : (⟨s.toArray⟩ : ByteArray) ++ (⟨#[c]⟩ : ByteArray) ++ (⟨m.toArray⟩ : ByteArray) = ⟨(s ++ c :: m).toArray⟩ := by
  apply ba_ext
  simp [ByteArray.data_append]
theorem ba_app (s m : List UInt8) : (⟨s.toArray⟩ : ByteArray) ++ (⟨m.toArray⟩ : ByteArray) = ⟨(s ++ m).toArray⟩ := by
  apply ba_ext
  simp [ByteArray.data_append]

set_option maxRecDepth 100000 in
set_option maxHeartbeats 4000000 in
theorem reftext_any (A : Option Addr) (na ca : Nat) (a : List Tk) (w : World) (ha : RdT w w.heap.size A na a) (hla : na ≤ 1099511627776) (htx : ∀ t ∈ a, t.text.length ≤ maxLen) (hlen : Lib.lens (a.map wordL) + a.length ≤ 65536) :
    Calls Tryd.prog 17 #[.slice A na ca] w fun e w' => e = .returned (.tuple #[.string ⟨(textOut a).1.toArray⟩, .int .i64 (textOut a).2]) ∧ Below w.heap.size w w' := by
  have RA := Lib.hid ha
  have EA := Lib.hid ha.1
  have HTX := Lib.hid htx
  have HLEN := Lib.hid hlen
  clear ha htx hlen
  have HB0 : Hid (Below w.heap.size w w) := Below.refl _ _
  go_enter Tryd.func17, Tryd.ntmps17
  go_wp2_with fail
  go_loopw [4, 5] (fun o v wr => ∃ (j : Nat) (y : List UInt8), o = .string ⟨y.toArray⟩ ∧ v = .int .i64 j ∧ j ≤ na ∧ Hid (y = textL (a.take j)) ∧ Hid ((a.take j).all okTk = true) ∧ Hid (Below w.heap.size w wr)) (fun _ v _ => na - (intOf v).toNat)
  case atStart => exact ⟨0, [], rfl, rfl, Nat.zero_le _, rfl, rfl, HB0⟩
  case round =>
    clear HB0
    obtain ⟨j, y, rfl, rfl, hj, HY, HA, HB⟩ := hrel
    rename World => v
    have hyl : y.length ≤ 65536 := by have := textL_take a j; have := HLEN.out; rw [HY.out]; omega
    by_cases hlt : j < na
    · obtain ⟨b1, o1, ⟨k, p, x, n⟩, rfl, hb1, hx, hc⟩ := (RA.out.below HB.out HB.out.size).one j hlt
      obtain ⟨c0, c1, c2, c3⟩ := tk_cells hc
      have hxl := HTX.out _ (List.mem_of_getElem? hx)
      have HXL := Lib.hid hxl
      have e2 : (j : Int) < (na : Int) := by omega
      cases hok : okTk ⟨k, p, x, n⟩ with
      | false =>
        have HE : Hid (textOut a = ([], 50)) := textOut_bad (allTk_false hx hok)
        have HOK := Lib.hid hok
        clear hok hx hc hxl
        go_wp2_with fail
        refine (refvalid_any k p n x HXL.out v).mono ?_
        rintro e v2 ⟨rfl, hb2⟩
        rw [HOK.out]
        have HB2 := Lib.hid (HB.out.trans (hb2.mono HB.out.size))
        clear hb2
        go_wp2_with fail
        go_ret2
        exact ⟨by rw [HE.out]; rfl, HB2.out⟩
      | true =>
        have HA2 : Hid ((a.take (j + 1)).all okTk = true) := by unfold Hid; rw [allTk_snoc hx, HA.out, hok]; rfl
        have hsn := textL_snoc hx
        have hwl := word_lens hx
        have hwl2 : (wordL ⟨k, p, x, n⟩).length ≤ 65536 := by have := HLEN.out; omega
        have hbd := ok_num_bd hok
        have HOK := Lib.hid hok
        rw [← HY.out] at hsn
        have HSN := Lib.hid hsn
        have HCC := Lib.hid hc
        clear hok hx hxl hsn hwl hc
        go_wp2_with fail
        refine (refvalid_any k p n x HXL.out v).mono ?_
        rintro e v2 ⟨rfl, hb2⟩
        rw [HOK.out]
        have HB2 := Lib.hid (HB.out.trans (hb2.mono HB.out.size))
        have hb1v : b1 < v.heap.size := by have := HB.out.size; omega
        have d0 := (hb2.cell (by exact hb1v)).trans c0
        have d2 := (hb2.cell (by exact hb1v)).trans c2
        have d3 := (hb2.cell (by exact hb1v)).trans c3
        clear hb2 c0 c1 c2 c3 HCC
        by_cases k2 : k = 2
        · subst k2
          obtain ⟨u, rfl⟩ := Int.eq_ofNat_of_zero_le (hbd rfl).1
          have hu := (hbd rfl).2
          rw [wordL_num, Int.toNat_natCast] at hwl2 HSN
          clear hbd
          by_cases h0 : j = 0
          · have hj0 : ¬ (0 : Int) < (j : Int) := by omega
            obtain ⟨zz, hzz⟩ : ∃ zz, zz = y ++ Lib.decDigits u := ⟨_, rfl⟩
            have HZ := Lib.hid hzz
            have HZT : Hid (zz = textL (a.take (j + 1))) := by unfold Hid; rw [HSN.out, if_pos h0, hzz]
            clear hzz HSN h0
            go_wp2_with fail
            refine (decimal_any u (by omega) v2).mono ?_
            rintro e v3 ⟨rfl, hb3⟩
            have HB3 : Hid (Below w.heap.size w v3) := HB2.out.trans (hb3.mono HB2.out.size)
            clear hb3
            go_wp2_with fail
            go_roundw
            case rel => exact ⟨j + 1, zz, by rw [HZ.out, ba_app], by go_num, by omega, HZT, HA2, HB3⟩
            case measure => simp [intOf]; omega
          · have hj0 : (0 : Int) < (j : Int) := by omega
            obtain ⟨zz, hzz⟩ : ∃ zz, zz = y ++ 32 :: Lib.decDigits u := ⟨_, rfl⟩
            have HZ := Lib.hid hzz
            have HZT : Hid (zz = textL (a.take (j + 1))) := by unfold Hid; rw [HSN.out, if_neg h0, hzz]
            clear hzz HSN h0
            go_wp2_with fail
            refine (decimal_any u (by omega) v2).mono ?_
            rintro e v3 ⟨rfl, hb3⟩
            have HB3 : Hid (Below w.heap.size w v3) := HB2.out.trans (hb3.mono HB2.out.size)
            clear hb3
            go_wp2_with fail
            go_roundw
            case rel => exact ⟨j + 1, zz, by rw [HZ.out, ba_cat2], by go_num, by omega, HZT, HA2, HB3⟩
            case measure => simp [intOf]; omega
        · rw [wordL_txt k2] at hwl2 HSN
          have q2 := beq_off k2
          clear hbd k2
          by_cases h0 : j = 0
          · have hj0 : ¬ (0 : Int) < (j : Int) := by omega
            obtain ⟨zz, hzz⟩ : ∃ zz, zz = y ++ x := ⟨_, rfl⟩
            have HZ := Lib.hid hzz
            have HZT : Hid (zz = textL (a.take (j + 1))) := by unfold Hid; rw [HSN.out, if_pos h0, hzz]
            clear hzz HSN h0
            go_wp2_with fail
            go_roundw
            case rel => exact ⟨j + 1, zz, by rw [HZ.out, ba_app], by go_num, by omega, HZT, HA2, HB2⟩
            case measure => simp [intOf]; omega
          · have hj0 : (0 : Int) < (j : Int) := by omega
            obtain ⟨zz, hzz⟩ : ∃ zz, zz = y ++ 32 :: x := ⟨_, rfl⟩
            have HZ := Lib.hid hzz
            have HZT : Hid (zz = textL (a.take (j + 1))) := by unfold Hid; rw [HSN.out, if_neg h0, hzz]
            clear hzz HSN h0
            go_wp2_with fail
            go_roundw
            case rel => exact ⟨j + 1, zz, by rw [HZ.out, ba_cat2], by go_num, by omega, HZT, HA2, HB2⟩
            case measure => simp [intOf]; omega
    · have hje : j = na := by omega
      have HAL : Hid (a.take j = a) := List.take_of_length_le (by have := EA.out; omega)
      have HE : Hid (textOut a = (y, 0)) := by unfold Hid; rw [HY.out, HAL.out]; exact textOut_ok (by rw [← HAL.out]; exact HA.out)
      have hn : ¬ (j : Int) < (na : Int) := by omega
      clear hje HAL
      go_wp2_with fail
      go_ret2
      exact ⟨by rw [HE.out]; rfl, HB.out⟩
end Go.Proofs.YtdllceggjjopgaaDoor
