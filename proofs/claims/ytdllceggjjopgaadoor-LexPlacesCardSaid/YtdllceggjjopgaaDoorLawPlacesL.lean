/- The law LexPlaces, walked. -/
import Derived.Test.YtdllceggjjopgaaDoorSaneL
import Derived.Test.YtdllceggjjopgaaDoorLawBackL
import Derived.Test.YtdllceggjjopgaaDoorPlaceM
namespace Go.Proofs.YtdllceggjjopgaaDoor
open Go.RowKit

theorem gap_ways {b : Bool} {c : UInt8} {t : List UInt8} {f : Bool} (h : gapF b (c :: t) = some f) : (c = 10 ∧ gapF false t = some f) ∨ (c ≠ 10 ∧ b = true ∧ gapF true t = some f) ∨ (b = false ∧ c = 47 ∧ t.head? = some 47 ∧ gapF true t = some f) ∨
    (b = false ∧ c ≠ 10 ∧ c ≠ 47 ∧ isSpc c = true ∧ gapF false t = some f) := by
  by_cases h10 : c = 10
  · subst h10
    rw [gapF_lf] at h
    exact .inl ⟨rfl, h⟩
  cases b with
  | true =>
    rw [gapF_in h10] at h
    exact .inr (.inl ⟨h10, rfl, h⟩)
  | false =>
    have h1 : (c != 10) = true := by simpa using h10
    by_cases h47 : c = 47
    · subst h47
      rw [gapF] at h
      by_cases hh : t.head? = some 47
      · rw [hh, if_neg (by decide)] at h
        exact .inr (.inr (.inl ⟨rfl, rfl, hh, h⟩))
      · have h2 : (t.head? == some 47) = false := beq_eq_false_iff_ne.2 hh
        rw [h2, if_pos ⟨by decide, by rfl⟩] at h
        cases h
    · have h2 : (c == 47) = false := beq_eq_false_iff_ne.2 h47
      rw [gapF, h1, h2] at h
      by_cases hs : isSpc c = true
      · rw [if_neg (by rw [hs]; simp)] at h
        exact .inr (.inr (.inr ⟨rfl, h10, h47, hs, h⟩))
      · rw [if_pos ⟨by simp, by simpa using hs⟩] at h
        cases h
theorem ba_list (x : List UInt8) : (⟨x.toArray⟩ : ByteArray).toList = x := by
  simp [Lib.toList_data]
theorem byte_ne {c : UInt8} {n : Nat} (h : c ≠ UInt8.ofNat n) (hn : n < 256) : ((c.toNat : Int) != (n : Int)) = true := by
  rw [bne_iff_ne]
  intro h2
  exact h (UInt8.toNat_inj.1 (by rw [UInt8.toNat_ofNat']; omega))

set_option maxRecDepth 100000 in
set_option maxHeartbeats 8000000 in
theorem law_places (s : List UInt8) (hs0 : s.length ≤ reachBytes) (w : World) (hK : KOK w) : Calls Tryd.prog 6 #[.string ⟨s.toArray⟩] w fun e w' => e = .returned (.bool true) ∧ Below w.heap.size w w' := by
  have HK := Lib.hid hK
  have HB0 : Hid (Below w.heap.size w w) := Below.refl _ _
  unfold reachBytes at hs0
  clear hK
  go_enter Tryd.func6, Tryd.ntmps6
  go_wp2_with fail
  refine (sane_any w HK.out).mono ?_
  rintro e w1 ⟨rfl, b1⟩
  have HB1 : Hid (Below w.heap.size w w1) := b1
  have HK1 := Lib.hid (HK.out.below b1 HK.out.pos)
  clear b1
  by_cases hlen : (3000 : Int) < (s.length : Int)
  · go_wp2_with fail
    go_ret
    exact ⟨rfl, HB1.out⟩
  have hs : s.length ≤ 3000 := by omega
  clear hs0
  go_wp2_with fail
  refine (lexP_any s (by unfold maxLen; omega) w1 HK1.out).mono ?_
  rintro e w2 ⟨A, n, cap, rfl, r2, h2a, h2b, b2⟩
  have HB2 : Hid (Below w.heap.size w w2) := HB1.out.trans (b2.mono HB1.out.size)
  clear b2
  cases hl : lex 0 s with
  | inr q =>
    rw [lexOut_bad (by omega) hl] at r2 ⊢
    have hn : n = 0 := r2.1
    subst hn
    clear r2 h2a h2b hl
    go_wp2_with fail
    go_ret
    exact ⟨rfl, HB2.out⟩
  | inl l =>
    rw [lexOut_ok (by omega) hl] at r2 ⊢
    have R2 := Lib.hid r2
    have EN := Lib.hid r2.1
    have hnl : n ≤ 3000 := by have h : n = l.length := r2.1; have := (source_text hl).2; omega
    have HV := Lib.hid (lex_valid s.length s 0 l (Nat.le_refl _) hl)
    have HL0 : Hid (lex 0 (s.drop 0) = .inl (l.drop 0)) := by unfold Hid; rw [List.drop_zero, List.drop_zero]; exact hl
    clear r2 h2a h2b hl
    go_wp2_with fail
    go_loopw [6, 7] (fun a b wr => ∃ i k : Nat, a = .int .i64 i ∧ b = .int .i64 k ∧ i ≤ s.length ∧ k ≤ n ∧ Hid (lex i (s.drop i) = .inl (l.drop k)) ∧ Hid (Below w2.heap.size w2 wr)) (fun _ b _ => n + 1 - (intOf b).toNat)
    case atStart => exact ⟨0, 0, rfl, rfl, Nat.zero_le _, Nat.zero_le _, HL0, Below.refl _ _⟩
    case round =>
      clear HL0
      obtain ⟨i, k, rfl, rfl, hi, hk, HL, HB⟩ := hrel
      rename World => v
      have e1 : (k : Int) ≤ (n : Int) := by omega
      have hgap := lex_gap (s.drop i).length (s.drop i) i (l.drop k) false (Nat.le_refl _) (fun h => by cases h) HL.out
      by_cases hlt : k < n
      · obtain ⟨b1, o1, ⟨k', p', x, nn⟩, rfl, hb1, hx, hc⟩ := (R2.out.below HB.out HB.out.size).one k hlt
        have hxl := (List.getElem?_eq_some_iff.1 hx).1
        have hdr : l.drop k = ⟨k', p', x, nn⟩ :: l.drop (k + 1) := by
          rw [List.drop_eq_getElem_cons hxl]
          rw [List.getElem?_eq_getElem hxl] at hx
          rw [Option.some.inj hx]
        rw [hdr] at hgap
        obtain ⟨g, m, i1, i2, i3, i4, i5, i6⟩ := hgap
        rw [List.length_drop] at i3
        obtain ⟨q, hq⟩ : ∃ q, q = i + g := ⟨_, rfl⟩
        have i1' : p' = (q : Int) := by rw [hq]; exact i1
        subst i1'
        have hiq : i ≤ q := by omega
        have hqs : q + m ≤ s.length := by omega
        have HGF : Hid (gapF false ((s.drop i).take (q - i)) = some false) := by unfold Hid; rw [hq, Nat.add_sub_cancel_left]; exact i4
        have HWD : Hid (wordL ⟨k', q, x, nn⟩ = (s.drop q).take m) := by unfold Hid; rw [i5, List.drop_drop, hq]
        have HLN : Hid (lex (q + m) (s.drop (q + m)) = .inl (l.drop (k + 1))) := by
          unfold Hid
          rw [List.drop_drop] at i6
          rw [hq, Nat.add_assoc i g m]
          rw [Nat.add_assoc i g m] at i6
          exact i6
        have HBD := Lib.hid (ok_num_bd (List.all_eq_true.1 HV.out _ (List.mem_of_getElem? hx)))
        obtain ⟨c0, c1, c2, c3⟩ := tk_cells hc
        have e2 : (k : Int) < (n : Int) := by omega
        have e3 : ¬ (q : Int) < (i : Int) := by omega
        have e6 : ¬ (s.length : Int) < (q : Int) := by omega
        have e7 : ((k : Int) == (n : Int)) = false := beq_off (by omega)
        clear i1 i3 i4 i5 i6 hq hdr hxl hx hc HL
        go_wp2_with fail
        go_loopw [6, 9] (fun a b wr => ∃ (j : Nat) (c : Bool), a = .int .i64 j ∧ b = .bool c ∧ i ≤ j ∧ j ≤ q ∧ Hid (gapF c ((s.drop j).take (q - j)) = some false) ∧ v = wr) (fun a _ _ => q - (intOf a).toNat)
        case atStart => exact ⟨i, false, rfl, rfl, Nat.le_refl _, hiq, HGF, rfl⟩
        case round =>
          clear HGF
          obtain ⟨j, c, rfl, rfl, hij, hjq, HGJ, rfl⟩ := hrel
          by_cases hjl : j < q
          · have e4 : (j : Int) < (q : Int) := by omega
            have hjs : j < s.length := by omega
            obtain ⟨c0, hc0⟩ : ∃ c, s[j]? = some c := ⟨_, List.getElem?_eq_getElem hjs⟩
            obtain ⟨hp, hix⟩ := ba_at hc0
            have hspl : (s.drop j).take (q - j) = c0 :: (s.drop (j + 1)).take (q - (j + 1)) := by
              rw [List.drop_eq_getElem_cons hjs, show q - j = (q - (j + 1)) + 1 by omega, List.take_succ_cons]
              rw [List.getElem?_eq_getElem hjs] at hc0
              rw [Option.some.inj hc0]
            have hg0 := HGJ.out
            rw [hspl] at hg0
            rcases gap_ways hg0 with ⟨h1, h2⟩ | ⟨h1, h2, h3⟩ | ⟨h1, h2, h3, h4⟩ | ⟨h1, h2, h3, h4, h5⟩
            · subst h1
              have H2 := Lib.hid h2
              clear hspl hg0 HGJ h2 hc0
              go_wp2_with fail
              refine (refspace_any 10 v).mono ?_
              rintro e w' ⟨rfl, rfl⟩
              rw [show isSpc 10 = true from rfl]
              go_wp2_with fail
              go_roundw
              case rel => exact ⟨j + 1, false, by go_num, rfl, by omega, by omega, H2, trivial⟩
              case measure => simp [intOf]; omega
            · subst h2
              have hne : ((c0.toNat : Int) != 10) = true := byte_ne (n := 10) h1 (by omega)
              have H2 := Lib.hid h3
              clear hspl hg0 HGJ h3 hc0 h1
              go_wp2_with fail
              go_roundw
              case rel => exact ⟨j + 1, true, by go_num, rfl, by omega, by omega, H2, trivial⟩
              case measure => simp [intOf]; omega
            · subst h1 h2
              have hj2 : j + 1 < q := by
                refine Decidable.byContradiction fun hh => ?_
                rw [show q - (j + 1) = 0 by omega, List.take_zero] at h3
                cases h3
              have hc1 : s[j + 1]? = some 47 := by
                rw [show q - (j + 1) = (q - (j + 2)) + 1 by omega, List.drop_eq_getElem_cons (by omega), List.take_succ_cons] at h3
                rw [List.getElem?_eq_getElem (by omega)]
                exact h3
              obtain ⟨hp1, hix1⟩ := ba_at hc1
              have e5 : (j : Int) + 1 < (q : Int) := by omega
              have H2 := Lib.hid h4
              clear hspl hg0 HGJ h3 h4 hc0 hc1
              go_wp2_with fail
              go_roundw
              case rel => exact ⟨j + 1, true, by go_num, rfl, by omega, by omega, H2, trivial⟩
              case measure => simp [intOf]; omega
            · subst h1
              have hne : ((c0.toNat : Int) != 10) = true := byte_ne (n := 10) h2 (by omega)
              have hne2 : ((c0.toNat : Int) == 47) = false := by have := byte_ne (n := 47) h3 (by omega); simpa using this
              have H2 := Lib.hid h5
              have H4 := Lib.hid h4
              clear hspl hg0 HGJ h5 h4 hc0 h2 h3
              go_wp2_with fail
              refine (refspace_any c0 v).mono ?_
              rintro e w' ⟨rfl, rfl⟩
              rw [H4.out]
              go_wp2_with fail
              go_roundw
              case rel => exact ⟨j + 1, false, by go_num, rfl, by omega, by omega, H2, trivial⟩
              case measure => simp [intOf]; omega
          · have hje : j = q := by omega
            have e4 : ¬ (j : Int) < (q : Int) := by omega
            have hcf : c = false := by
              have h := HGJ.out
              rw [show q - j = 0 by omega, List.take_zero, gapF] at h
              exact Option.some.inj h
            clear HGJ
            subst hcf
            have HWE : Hid (wordL ⟨k', q, x, nn⟩ = (s.drop j).take m) := by unfold Hid; rw [HWD.out, hje]
            have HLM : Hid (lex (j + m) (s.drop (j + m)) = .inl (l.drop (k + 1))) := by unfold Hid; rw [hje]; exact HLN.out
            obtain ⟨wd, hwd⟩ : ∃ y, y = (s.drop j).take m := ⟨_, rfl⟩
            have hwl : wd.length = m := by rw [hwd, List.length_take, List.length_drop]; omega
            subst hwl
            have hjs : j + wd.length ≤ s.length := by omega
            have HCX : Hid ((⟨s.toArray⟩ : ByteArray).extract j (j + wd.length) = ⟨wd.toArray⟩) := by
              unfold Hid
              rw [ba_extract, Nat.add_sub_cancel_left, ← hwd]
            have HSP := Lib.hid (spelled_any k' q nn x HBD.out v)
            rw [HWE.out, ← hwd] at HSP
            clear hwd HWE HWD HLN hje hij hjq hiq hqs HBD
            go_wp2_with fail
            refine HSP.out.mono ?_
            rintro e v2 ⟨rfl, hb⟩
            have HBt : Hid (Below w2.heap.size w2 v2) := HB.out.trans (hb.mono HB.out.size)
            clear hb HSP c0 c1 c2 c3
            have f1 : ((wd.length : Int) == 0) = false := beq_off (by omega)
            have f2 : ¬ (s.length : Int) < (j : Int) + (wd.length : Int) := by omega
            have f3 : (((⟨s.toArray⟩ : ByteArray).extract j (j + wd.length)).toList == wd) = true := by rw [HCX.out, ba_list]; simp
            go_wp2_with fail
            go_roundw
            case rel => exact ⟨j + wd.length, k + 1, by go_num, by go_num, hjs, by omega, HLM, HBt⟩
            case measure => simp [intOf]; omega
      · have hkn : k = n := by omega
        rw [List.drop_eq_nil_of_le (by have h : n = l.length := EN.out; omega)] at hgap
        obtain ⟨f, hf⟩ := hgap
        have hiq : i ≤ s.length := hi
        have HGF : Hid (gapF false ((s.drop i).take (s.length - i)) = some f) := by unfold Hid; rw [List.take_of_length_le (by rw [List.length_drop]; omega)]; exact hf
        have e2 : ¬ (k : Int) < (n : Int) := by omega
        have e7 : ((k : Int) == (n : Int)) = true := by rw [hkn]; simp
        have e3 : ¬ (s.length : Int) < (i : Int) := by omega
        clear hf HL
        go_wp2_with fail
        go_loopw [6, 9] (fun a b wr => ∃ (j : Nat) (c : Bool), a = .int .i64 j ∧ b = .bool c ∧ i ≤ j ∧ j ≤ s.length ∧ Hid (gapF c ((s.drop j).take (s.length - j)) = some f) ∧ v = wr) (fun a _ _ => s.length - (intOf a).toNat)
        case atStart => exact ⟨i, false, rfl, rfl, Nat.le_refl _, hiq, HGF, rfl⟩
        case round =>
          clear HGF
          obtain ⟨j, c, rfl, rfl, hij, hjq, HGJ, rfl⟩ := hrel
          by_cases hjl : j < s.length
          · have e4 : (j : Int) < (s.length : Int) := by omega
            have hjs : j < s.length := by omega
            obtain ⟨c0, hc0⟩ : ∃ c, s[j]? = some c := ⟨_, List.getElem?_eq_getElem hjs⟩
            obtain ⟨hp, hix⟩ := ba_at hc0
            have hspl : (s.drop j).take (s.length - j) = c0 :: (s.drop (j + 1)).take (s.length - (j + 1)) := by
              rw [List.drop_eq_getElem_cons hjs, show s.length - j = (s.length - (j + 1)) + 1 by omega, List.take_succ_cons]
              rw [List.getElem?_eq_getElem hjs] at hc0
              rw [Option.some.inj hc0]
            have hg0 := HGJ.out
            rw [hspl] at hg0
            rcases gap_ways hg0 with ⟨h1, h2⟩ | ⟨h1, h2, h3⟩ | ⟨h1, h2, h3, h4⟩ | ⟨h1, h2, h3, h4, h5⟩
            · subst h1
              have H2 := Lib.hid h2
              clear hspl hg0 HGJ h2 hc0
              go_wp2_with fail
              refine (refspace_any 10 v).mono ?_
              rintro e w' ⟨rfl, rfl⟩
              rw [show isSpc 10 = true from rfl]
              go_wp2_with fail
              go_roundw
              case rel => exact ⟨j + 1, false, by go_num, rfl, by omega, by omega, H2, trivial⟩
              case measure => simp [intOf]; omega
            · subst h2
              have hne : ((c0.toNat : Int) != 10) = true := byte_ne (n := 10) h1 (by omega)
              have H2 := Lib.hid h3
              clear hspl hg0 HGJ h3 hc0 h1
              go_wp2_with fail
              go_roundw
              case rel => exact ⟨j + 1, true, by go_num, rfl, by omega, by omega, H2, trivial⟩
              case measure => simp [intOf]; omega
            · subst h1 h2
              have hj2 : j + 1 < s.length := by
                refine Decidable.byContradiction fun hh => ?_
                rw [show s.length - (j + 1) = 0 by omega, List.take_zero] at h3
                cases h3
              have hc1 : s[j + 1]? = some 47 := by
                rw [show s.length - (j + 1) = (s.length - (j + 2)) + 1 by omega, List.drop_eq_getElem_cons (by omega), List.take_succ_cons] at h3
                rw [List.getElem?_eq_getElem (by omega)]
                exact h3
              obtain ⟨hp1, hix1⟩ := ba_at hc1
              have e5 : (j : Int) + 1 < (s.length : Int) := by omega
              have H2 := Lib.hid h4
              clear hspl hg0 HGJ h3 h4 hc0 hc1
              go_wp2_with fail
              go_roundw
              case rel => exact ⟨j + 1, true, by go_num, rfl, by omega, by omega, H2, trivial⟩
              case measure => simp [intOf]; omega
            · subst h1
              have hne : ((c0.toNat : Int) != 10) = true := byte_ne (n := 10) h2 (by omega)
              have hne2 : ((c0.toNat : Int) == 47) = false := by have := byte_ne (n := 47) h3 (by omega); simpa using this
              have H2 := Lib.hid h5
              have H4 := Lib.hid h4
              clear hspl hg0 HGJ h5 h4 hc0 h2 h3
              go_wp2_with fail
              refine (refspace_any c0 v).mono ?_
              rintro e w' ⟨rfl, rfl⟩
              rw [H4.out]
              go_wp2_with fail
              go_roundw
              case rel => exact ⟨j + 1, false, by go_num, rfl, by omega, by omega, H2, trivial⟩
              case measure => simp [intOf]; omega
          · have hje : j = s.length := by omega
            have e4 : ¬ (j : Int) < (s.length : Int) := by omega
            have hcf : c = f := by
              have h := HGJ.out
              rw [show s.length - j = 0 by omega, List.take_zero, gapF] at h
              exact Option.some.inj h
            clear HGJ
            subst hcf
            go_wp2_with fail
            go_ret
            exact ⟨rfl, HB2.out.trans (HB.out.mono HB2.out.size)⟩
end Go.Proofs.YtdllceggjjopgaaDoor
