/- Contract of the specification's Lex. -/
import Derived.Test.YtdllceggjjopgaaDoorLexP
namespace Go.Proofs.YtdllceggjjopgaaDoor
open Go.RowKit

/-- what is known where the specification reads on -/
def RInv (w wr : World) (s : List UInt8) (i g n cap : Nat) (acc : List Tk) : Prop :=
  Owns wr w.heap.size 35 4 g n cap (flatE tkV acc) ∧ Below w.heap.size w wr ∧ lex 0 s = ahead acc (lex i (s.drop i)) ∧ n ≤ i
theorem LexP.bad {w w' : World} {s : List UInt8} {q : Nat} (hb : Below w.heap.size w w') (hs : s.length ≤ 65536) (h : lex 0 s = .inr q) : LexP w s (.returned (.tuple #[.slice none 0 0, .int .i64 (q : Nat), .int .i64 50])) w' := by
  unfold LexP
  rw [lexOut_bad hs h]
  exact ⟨none, 0, 0, rfl, RdE.nil _ _ _, Nat.le_refl _, Nat.zero_le _, hb⟩
theorem RInv.below {w wr w' : World} {s : List UInt8} {i g n cap : Nat} {acc : List Tk} (h : RInv w wr s i g n cap acc) (hb : Below wr.heap.size wr w') : RInv w w' s i g n cap acc :=
  ⟨h.1.below hb h.1.lt, h.2.1.trans (hb.mono h.2.1.size), h.2.2⟩
theorem RInv.bad {w wr : World} {s : List UInt8} {i g n cap : Nat} {acc : List Tk} {c : UInt8} {t : List UInt8} (h : RInv w wr s i g n cap acc) (hs : s.length ≤ 65536) (hct : s.drop i = c :: t) (hst : step (c :: t) = .bad) : LexP w s (.returned (.tuple #[.slice none 0 0, .int .i64 (i : Nat), .int .i64 50])) wr :=
  LexP.bad h.2.1 hs (by rw [h.2.2.1, lex_bad (by rw [hct]; simp) i (by rw [hct]; exact hst)]; rfl)
theorem RInv.skip {w wr : World} {s : List UInt8} {i g n cap m : Nat} {acc : List Tk} {c : UInt8} {t : List UInt8} (h : RInv w wr s i g n cap acc) (hct : s.drop i = c :: t) (hst : step (c :: t) = .skip m) : RInv w wr s (i + m) g n cap acc :=
  ⟨h.1, h.2.1, by rw [h.2.2.1, lex_skip (by rw [hct]; simp) i (by rw [hct]; exact hst), List.drop_drop], by have := h.2.2.2; omega⟩
theorem RInv.done {w wr : World} {s : List UInt8} {i g n cap : Nat} {acc : List Tk} (h : RInv w wr s i g n cap acc) (hs : s.length ≤ 65536) (hi : s.length ≤ i) : LexP w s (.returned (.tuple #[.slice (some ⟨g, 0, none⟩) n cap, .int .i64 0, .int .i64 0])) wr := by
  have hl : lex 0 s = .inl acc := by
    rw [h.2.2.1, List.drop_eq_nil_of_le hi, lex_nil]
    simp [ahead]
  unfold LexP
  rw [lexOut_ok hs hl]
  exact ⟨_, n, cap, rfl, RdE.of_owns h.1 tkV_len (by omega) h.1.lt, h.1.2.2.1, h.1.2.2.2.1, h.2.1⟩
/-- behind the append of a token -/
theorem RInv.tok {w wr w' : World} {s : List UInt8} {i g n cap g' cap' m : Nat} {acc : List Tk} {c : UInt8} {t : List UInt8} {k : Tk} (h : RInv w wr s i g n cap acc) (hct : s.drop i = c :: t) (hst : step (c :: t) = .tok k m)
    (ho : Owns w' w.heap.size 35 4 g' (n + 1) cap' (flatE tkV acc ++ tkV { k with place := i })) (hb : Below w.heap.size wr w') : RInv w w' s (i + m) g' (n + 1) cap' (acc ++ [{ k with place := i }]) := by
  have hm := (step_pos.2 _ _ hst).1
  refine ⟨?_, h.2.1.trans hb, by rw [h.2.2.1, ahead_tok acc (by rw [hct]; simp) i (by rw [hct]; exact hst), List.drop_drop], by have := h.2.2.2; omega⟩
  rw [flatE_append, flatE_one]
  exact ho
theorem drop_cons {s : List UInt8} {i : Nat} (h : i < s.length) : ∃ c t, s.drop i = c :: t ∧ s[i]? = some c ∧ t.length + 1 + i = s.length := by
  cases hd : s.drop i with
  | nil => have := congrArg List.length hd; rw [List.length_drop] at this; simp at this; omega
  | cons c t =>
    refine ⟨c, t, rfl, ?_, ?_⟩
    · have h2 : (s.drop i)[0]? = some c := by rw [hd]; rfl
      rw [List.getElem?_drop] at h2
      exact h2
    · have := congrArg List.length hd
      rw [List.length_drop] at this
      simp at this
      omega
theorem drop_at {s t : List UInt8} {c : UInt8} {i : Nat} (h : s.drop i = c :: t) (j : Nat) : s[i + j]? = (c :: t)[j]? := by
  rw [← h, List.getElem?_drop]

set_option maxRecDepth 100000 in
set_option maxHeartbeats 16000000 in
theorem reflex_any (s : List UInt8) (hs : s.length ≤ maxLen) (w : World) : Calls Tryd.prog 13 #[.string ⟨s.toArray⟩] w (LexP w s) := by
  unfold maxLen at hs
  by_cases hlong : 65536 < s.length
  · have HE := Lib.hid (lexOut_long hlong)
    have e1 : (65536 : Int) < (s.length : Int) := by omega
    go_enter Tryd.func13, Tryd.ntmps13
    go_wp2_with fail
    go_ret3
    unfold LexP
    rw [HE.out]
    exact ⟨none, 0, 0, rfl, RdE.nil _ _ _, Nat.le_refl _, Nat.zero_le _, Below.refl _ _⟩
  have e1 : ¬ (65536 : Int) < (s.length : Int) := by omega
  have hs6 : s.length ≤ 65536 := by omega
  obtain ⟨iT, hiT, hzT, hsT, hbT⟩ := info_parts tokenInfo
  clear hlong hs
  go_enter Tryd.func13, Tryd.ntmps13
  go_wp2_with fail
  go_loopw [5, 6] (fun o v wr => ∃ i g n cap acc, o = .slice (some ⟨g, 0, none⟩) n cap ∧ v = .int .i64 (i : Nat) ∧ i ≤ s.length ∧ n ≤ i ∧ Hid (RInv w wr s i g n cap acc)) (fun _ v _ => s.length - (intOf v).toNat)
  case atStart => exact ⟨0, w.heap.size, 0, 0, [], rfl, rfl, Nat.zero_le _, Nat.le_refl _, owns0 w _ (Nat.le_refl _), Below.new1 _ _, by rw [ahead_nil]; rfl, Nat.le_refl _⟩
  case round =>
    obtain ⟨i, g, n, cap, acc, rfl, rfl, hi, hni, HI⟩ := hrel
    rename World => v
    by_cases hlt : i < s.length
    · obtain ⟨c, t, hct, hsi, hlen⟩ := drop_cons hlt
      have e2 : (i : Int) < (s.length : Int) := by omega
      obtain ⟨hp, hix⟩ := ba_at hsi
      have HCT := Lib.hid hct
      have HLEN := Lib.hid hlen
      clear hct hsi hlen
      rcases step_ways c t with h1 | ⟨h0, h1⟩ | h1 | h1 | ⟨h1, h2⟩ | ⟨h1, h2, h3, h4⟩
      · have HN := Lib.hid (HI.out.skip HCT.out (step_spc h1))
        have HS := Lib.hid h1
        clear h1
        go_wp2_with fail
        refine (refspace_any c v).mono ?_
        rintro e w' ⟨rfl, rfl⟩
        rw [HS.out]
        go_wp2_with fail
        go_roundw
        case rel => exact ⟨i + 1, g, n, cap, acc, rfl, by go_num, by omega, by omega, HN⟩
        case measure => simp [intOf]; omega
      · have hsi2 : s[i + 1]? = some 47 := by rw [drop_at HCT.out 1, List.getElem?_cons_succ, ← List.head?_eq_getElem?]; exact h1
        obtain ⟨hp2, hix2⟩ := ba_at hsi2
        have hlt2 := (List.getElem?_eq_some_iff.1 hsi2).1
        have e3 : (i : Int) + 1 < (s.length : Int) := by omega
        have e4 : (((c.toNat : Nat) : Int) == 47) = true := by rw [h0]; rfl
        have HS : Hid (isSpc c = false) := by rw [h0]; rfl
        have HC0 := Lib.hid h0
        have HC1 := Lib.hid h1
        clear hsi2 h0 h1
        go_wp2_with fail
        refine (refspace_any c v).mono ?_
        rintro e w' ⟨rfl, rfl⟩
        rw [HS.out]
        go_wp2_with fail
        clear hix hix2 hp hp2 e4
        go_loop [6] (fun u => ∃ j : Nat, u = .int .i64 j ∧ i ≤ j ∧ j ≤ s.length ∧ Hid (((c :: t).take (j - i)).all (fun c => c != 10) = true)) (fun u => s.length - (intOf u).toNat)
        case atStart => exact ⟨i, rfl, Nat.le_refl _, by omega, by rw [Nat.sub_self]; rfl⟩
        case round =>
          obtain ⟨j, rfl, hij, hj, HA⟩ := hrel
          by_cases hlj : j < s.length
          · have e5 : (j : Int) < (s.length : Int) := by omega
            obtain ⟨d, hd⟩ : ∃ d, s[j]? = some d := ⟨_, List.getElem?_eq_getElem hlj⟩
            have hdt : (c :: t)[j - i]? = some d := by rw [← drop_at HCT.out, show i + (j - i) = j by omega]; exact hd
            obtain ⟨hpj, hixj⟩ := ba_at hd
            cases hpd : (fun c => c != 10) d with
            | true =>
              have HA2 : Hid (((c :: t).take (j + 1 - i)).all (fun c => c != 10) = true) := by
                unfold Hid
                rw [show j + 1 - i = (j - i) + 1 by omega, all_take_snoc hdt, HA.out, Bool.true_and]
                exact hpd
              have q10 : (((d.toNat : Nat) : Int) != 10) = true := by
                rw [bne_iff_ne]
                intro h
                simp at hpd
                exact hpd (UInt8.toNat_inj.1 (by have : (10 : UInt8).toNat = 10 := rfl; omega))
              clear hd hdt hpd
              go_wp2_with fail
              go_round
              case rel => exact ⟨j + 1, by go_num, by omega, by omega, HA2⟩
              case measure => simp [intOf]; omega
            | false =>
              have HW : Hid ((c :: t).take (j - i) = (c :: t).takeWhile (fun c => c != 10)) := takeWhile_at HA.out hdt hpd
              have q10 : (((d.toNat : Nat) : Int) != 10) = false := by
                simp at hpd
                rw [hpd]
                rfl
              clear hd hdt hpd
              go_wp2_with fail
              have HJ : Hid (i + ((c :: t).takeWhile (fun c => c != 10)).length = j) := by
                unfold Hid
                rw [← HW.out, List.length_take]
                have := HLEN.out
                simp
                omega
              have hst : step (c :: t) = .skip (lineLen (c :: t)) := by rw [HC0.out]; exact step_com HC1.out
              have hm1 := (step_pos.1 _ hst).1
              have HN := Lib.hid (HI.out.skip HCT.out hst)
              have hjj : i + lineLen (c :: t) = j := HJ.out
              rw [hjj] at HN
              have hij2 : i + 1 ≤ j := by omega
              clear hst hm1 hjj HJ HW HA
              go_wp2_with fail
              go_roundw
              case rel => exact ⟨j, g, n, cap, acc, rfl, rfl, by omega, by omega, HN⟩
              case measure => simp [intOf]; omega
          · have e5 : ¬ (j : Int) < (s.length : Int) := by omega
            have HW : Hid ((c :: t).take (j - i) = (c :: t).takeWhile (fun c => c != 10)) := by
              unfold Hid
              have e : (c :: t).take (j - i) = c :: t := List.take_of_length_le (by have := HLEN.out; simp; omega)
              have h2 := HA.out
              rw [e] at h2 ⊢
              exact (takeWhile_all h2).symm
            go_wp2_with fail
            have HJ : Hid (i + ((c :: t).takeWhile (fun c => c != 10)).length = j) := by
              unfold Hid
              rw [← HW.out, List.length_take]
              have := HLEN.out
              simp
              omega
            have hst : step (c :: t) = .skip (lineLen (c :: t)) := by rw [HC0.out]; exact step_com HC1.out
            have hm1 := (step_pos.1 _ hst).1
            have HN := Lib.hid (HI.out.skip HCT.out hst)
            have hjj : i + lineLen (c :: t) = j := HJ.out
            rw [hjj] at HN
            have hij2 : i + 1 ≤ j := by omega
            clear hst hm1 hjj HJ HW HA
            go_wp2_with fail
            go_roundw
            case rel => exact ⟨j, g, n, cap, acc, rfl, rfl, by omega, by omega, HN⟩
            case measure => simp [intOf]; omega
      · have e4 : (((c.toNat : Nat) : Int) == 47) = false := by
          rw [beq_eq_false_iff_ne]
          intro h
          rw [UInt8.toNat_inj.1 (show c.toNat = (47 : UInt8).toNat by have : (47 : UInt8).toNat = 47 := rfl; omega)] at h1
          exact absurd h1 (by decide)
        have HS : Hid (isSpc c = false) := ((cls_excl c).2.1 h1).1
        have HC1 := Lib.hid h1
        clear h1
        go_wp2_with fail
        refine (refspace_any c v).mono ?_
        rintro e w' ⟨rfl, rfl⟩
        rw [HS.out]
        go_wp2_with fail
        refine (refletter_any c v).mono ?_
        rintro e w' ⟨rfl, rfl⟩
        rw [HC1.out]
        go_wp2_with fail
        clear hix hp e4
        go_loop [6] (fun u => ∃ j : Nat, u = .int .i64 j ∧ i ≤ j ∧ j ≤ s.length ∧ Hid (((c :: t).take (j - i)).all prt = true)) (fun u => s.length - (intOf u).toNat)
        case atStart => exact ⟨i, rfl, Nat.le_refl _, by omega, by rw [Nat.sub_self]; rfl⟩
        case round =>
          obtain ⟨j, rfl, hij, hj, HA⟩ := hrel
          by_cases hlj : j < s.length
          · have e5 : (j : Int) < (s.length : Int) := by omega
            obtain ⟨d, hd⟩ : ∃ d, s[j]? = some d := ⟨_, List.getElem?_eq_getElem hlj⟩
            have hdt : (c :: t)[j - i]? = some d := by rw [← drop_at HCT.out, show i + (j - i) = j by omega]; exact hd
            obtain ⟨hpj, hixj⟩ := ba_at hd
            cases hpd : prt d with
            | true =>
              have HA2 : Hid (((c :: t).take (j + 1 - i)).all prt = true) := by
                unfold Hid
                rw [show j + 1 - i = (j - i) + 1 by omega, all_take_snoc hdt, HA.out, Bool.true_and]
                exact hpd
              have HPD := Lib.hid hpd
              clear hd hdt hpd
              go_wp2_with fail
              refine (refpart_any d _).mono ?_
              rintro e w' ⟨rfl, rfl⟩
              rw [HPD.out]
              go_wp2_with fail
              go_round
              case rel => exact ⟨j + 1, by go_num, by omega, by omega, HA2⟩
              case measure => simp [intOf]; omega
            | false =>
              have HW : Hid ((c :: t).take (j - i) = (c :: t).takeWhile prt) := takeWhile_at HA.out hdt hpd
              have HPD := Lib.hid hpd
              clear hd hdt hpd
              go_wp2_with fail
              refine (refpart_any d _).mono ?_
              rintro e w' ⟨rfl, rfl⟩
              rw [HPD.out]
              go_wp2_with fail
              clear hixj hpj
              have HJ : Hid (i + ((c :: t).takeWhile prt).length = j) := by
                unfold Hid
                rw [← HW.out, List.length_take]
                have := HLEN.out
                simp
                omega
              obtain ⟨x, hx⟩ : ∃ x, x = (c :: t).takeWhile prt := ⟨_, rfl⟩
              have hsl : (⟨s.toArray⟩ : ByteArray).extract i j = ⟨x.toArray⟩ := by rw [ba_extract, HCT.out, HW.out, hx]
              have hst := @step_let c t HC1.out
              have hin := @isName_run c t HC1.out
              rw [← hx] at hst hin HJ
              have hxp : 1 ≤ x.length := by rw [hx]; exact (takeWhile_pos (prt_let HC1.out)).1
              have hxm : x.length ≤ 65536 := by have := HJ.out; omega
              have HIN := Lib.hid hin
              have hjx := HJ.out
              have i1 : (0 : Int) ≤ (i : Int) := by omega
              have i2 : (i : Int) ≤ (j : Int) := by omega
              have i3 : (j : Int) ≤ (s.length : Int) := by omega
              have HJX := Lib.hid hjx
              clear hx hin HW HA HJ hjx
              by_cases h32 : x.length ≤ 32
              · rw [if_pos h32] at hst
                have HST := Lib.hid hst
                have HI2 : Hid (isName x = true) := by rw [HIN.out, decide_eq_true h32]; rfl
                clear hst HIN
                go_wp2_with fail
                rw [hsl]
                refine (refname_any x (by unfold maxLen; omega) v).mono ?_
                rintro e w' ⟨rfl, rfl⟩
                rw [HI2.out]
                have hcs : [.int .i64 1, .int .i64 i, .string ((⟨s.toArray⟩ : ByteArray).extract i j), .int .i64 0] = tkV ⟨1, i, x, 0⟩ := by rw [hsl]; rfl
                have HCS := Lib.hid hcs
                have HB1 := Lib.hid (Below.new1 v (.cells #[.int .i64 1, .int .i64 i, .string ((⟨s.toArray⟩ : ByteArray).extract i j), .int .i64 0] 35))
                have HOv := Lib.hid (HI.out.1.below HB1.out HI.out.1.lt)
                have HSrc := Lib.hid (src_new (P := Tryd.prog) (t := 23) 35 (m := 4) (cs := [.int .i64 1, .int .i64 i, .string ((⟨s.toArray⟩ : ByteArray).extract i j), .int .i64 0]) Tryd.underlying23 rfl (by rw [hcs]; exact tkV_one _) v)
                have hzv : w.heap.size ≤ (v.alloc (.cells #[.int .i64 1, .int .i64 i, .string ((⟨s.toArray⟩ : ByteArray).extract i j), .int .i64 0] 35)).heap.size := by have := HI.out.2.1.size; have := HB1.out.size; omega
                clear hcs
                clear hsl
                go_wp2_with (at_builtin; refine wpList_append_owns _ rfl (.tmp 78) (.tmp 85) 23 23 rfl w.heap.size 35 iT _ 4 40 Tryd.underlying23 hiT hzT hsT hbT rfl g n cap (flatE tkV acc) rfl HOv.out _ rfl 1 _ HSrc.out (by unfold maxLen; omega) (by omega) hzv ?_
                             intro g2 cap2 v2 HO2 HT2 HG2)
                have HN : Hid (RInv w v2 s (i + x.length) g2 (n + 1) cap2 (acc ++ [⟨1, i, x, 0⟩])) := HI.out.tok HCT.out HST.out (by rw [← HCS.out]; exact HO2.out) (HB1.out.mono HI.out.2.1.size |>.trans (HT2.out.below HI.out.1.2.1 HOv.out.lt))
                rw [HJX.out] at HN
                have hij2 : i + 1 ≤ j := by have := HJX.out; omega
                go_roundw
                case rel => exact ⟨j, g2, n + 1, cap2, _, rfl, rfl, by omega, by omega, HN⟩
                case measure => simp [intOf]; omega
              · rw [if_neg h32] at hst
                have HF := Lib.hid (HI.out.bad hs6 HCT.out hst)
                have HI2 : Hid (isName x = false) := by rw [HIN.out, decide_eq_false h32]; rfl
                clear hst HIN
                go_wp2_with fail
                rw [hsl]
                refine (refname_any x (by unfold maxLen; omega) v).mono ?_
                rintro e w' ⟨rfl, rfl⟩
                rw [HI2.out]
                go_wp2_with fail
                go_ret3
                exact HF.out
          · have e5 : ¬ (j : Int) < (s.length : Int) := by omega
            have HW : Hid ((c :: t).take (j - i) = (c :: t).takeWhile prt) := by
              unfold Hid
              have e : (c :: t).take (j - i) = c :: t := List.take_of_length_le (by have := HLEN.out; simp; omega)
              have h2 := HA.out
              rw [e] at h2 ⊢
              exact (takeWhile_all h2).symm
            go_wp2_with fail
            have HJ : Hid (i + ((c :: t).takeWhile prt).length = j) := by
              unfold Hid
              rw [← HW.out, List.length_take]
              have := HLEN.out
              simp
              omega
            obtain ⟨x, hx⟩ : ∃ x, x = (c :: t).takeWhile prt := ⟨_, rfl⟩
            have hsl : (⟨s.toArray⟩ : ByteArray).extract i j = ⟨x.toArray⟩ := by rw [ba_extract, HCT.out, HW.out, hx]
            have hst := @step_let c t HC1.out
            have hin := @isName_run c t HC1.out
            rw [← hx] at hst hin HJ
            have hxp : 1 ≤ x.length := by rw [hx]; exact (takeWhile_pos (prt_let HC1.out)).1
            have hxm : x.length ≤ 65536 := by have := HJ.out; omega
            have HIN := Lib.hid hin
            have hjx := HJ.out
            have i1 : (0 : Int) ≤ (i : Int) := by omega
            have i2 : (i : Int) ≤ (j : Int) := by omega
            have i3 : (j : Int) ≤ (s.length : Int) := by omega
            have HJX := Lib.hid hjx
            clear hx hin HW HA HJ hjx
            by_cases h32 : x.length ≤ 32
            · rw [if_pos h32] at hst
              have HST := Lib.hid hst
              have HI2 : Hid (isName x = true) := by rw [HIN.out, decide_eq_true h32]; rfl
              clear hst HIN
              go_wp2_with fail
              rw [hsl]
              refine (refname_any x (by unfold maxLen; omega) v).mono ?_
              rintro e w' ⟨rfl, rfl⟩
              rw [HI2.out]
              have hcs : [.int .i64 1, .int .i64 i, .string ((⟨s.toArray⟩ : ByteArray).extract i j), .int .i64 0] = tkV ⟨1, i, x, 0⟩ := by rw [hsl]; rfl
              have HCS := Lib.hid hcs
              have HB1 := Lib.hid (Below.new1 v (.cells #[.int .i64 1, .int .i64 i, .string ((⟨s.toArray⟩ : ByteArray).extract i j), .int .i64 0] 35))
              have HOv := Lib.hid (HI.out.1.below HB1.out HI.out.1.lt)
              have HSrc := Lib.hid (src_new (P := Tryd.prog) (t := 23) 35 (m := 4) (cs := [.int .i64 1, .int .i64 i, .string ((⟨s.toArray⟩ : ByteArray).extract i j), .int .i64 0]) Tryd.underlying23 rfl (by rw [hcs]; exact tkV_one _) v)
              have hzv : w.heap.size ≤ (v.alloc (.cells #[.int .i64 1, .int .i64 i, .string ((⟨s.toArray⟩ : ByteArray).extract i j), .int .i64 0] 35)).heap.size := by have := HI.out.2.1.size; have := HB1.out.size; omega
              clear hcs
              clear hsl
              go_wp2_with (at_builtin; refine wpList_append_owns _ rfl (.tmp 78) (.tmp 85) 23 23 rfl w.heap.size 35 iT _ 4 40 Tryd.underlying23 hiT hzT hsT hbT rfl g n cap (flatE tkV acc) rfl HOv.out _ rfl 1 _ HSrc.out (by unfold maxLen; omega) (by omega) hzv ?_
                           intro g2 cap2 v2 HO2 HT2 HG2)
              have HN : Hid (RInv w v2 s (i + x.length) g2 (n + 1) cap2 (acc ++ [⟨1, i, x, 0⟩])) := HI.out.tok HCT.out HST.out (by rw [← HCS.out]; exact HO2.out) (HB1.out.mono HI.out.2.1.size |>.trans (HT2.out.below HI.out.1.2.1 HOv.out.lt))
              rw [HJX.out] at HN
              have hij2 : i + 1 ≤ j := by have := HJX.out; omega
              go_roundw
              case rel => exact ⟨j, g2, n + 1, cap2, _, rfl, rfl, by omega, by omega, HN⟩
              case measure => simp [intOf]; omega
            · rw [if_neg h32] at hst
              have HF := Lib.hid (HI.out.bad hs6 HCT.out hst)
              have HI2 : Hid (isName x = false) := by rw [HIN.out, decide_eq_false h32]; rfl
              clear hst HIN
              go_wp2_with fail
              rw [hsl]
              refine (refname_any x (by unfold maxLen; omega) v).mono ?_
              rintro e w' ⟨rfl, rfl⟩
              rw [HI2.out]
              go_wp2_with fail
              go_ret3
              exact HF.out
      · have e4 : (((c.toNat : Nat) : Int) == 47) = false := by
          rw [beq_eq_false_iff_ne]
          intro h
          rw [UInt8.toNat_inj.1 (show c.toNat = (47 : UInt8).toNat by have : (47 : UInt8).toNat = 47 := rfl; omega)] at h1
          exact absurd h1 (by decide)
        have HS : Hid (isSpc c = false) := ((cls_excl c).2.2.1 h1).1
        have HL : Hid (isLet c = false) := ((cls_excl c).2.2.1 h1).2.1
        have HC1 := Lib.hid h1
        clear h1
        go_wp2_with fail
        refine (refspace_any c v).mono ?_
        rintro e w' ⟨rfl, rfl⟩
        rw [HS.out]
        go_wp2_with fail
        refine (refletter_any c v).mono ?_
        rintro e w' ⟨rfl, rfl⟩
        rw [HL.out]
        go_wp2_with fail
        refine (reffigure_any c v).mono ?_
        rintro e w' ⟨rfl, rfl⟩
        rw [HC1.out]
        go_wp2_with fail
        clear hix hp e4
        go_loop [6] (fun u => ∃ j : Nat, u = .int .i64 j ∧ i ≤ j ∧ j ≤ s.length ∧ Hid (((c :: t).take (j - i)).all isDig = true)) (fun u => s.length - (intOf u).toNat)
        case atStart => exact ⟨i, rfl, Nat.le_refl _, by omega, by rw [Nat.sub_self]; rfl⟩
        case round =>
          obtain ⟨j, rfl, hij, hj, HA⟩ := hrel
          by_cases hlj : j < s.length
          · have e5 : (j : Int) < (s.length : Int) := by omega
            obtain ⟨d, hd⟩ : ∃ d, s[j]? = some d := ⟨_, List.getElem?_eq_getElem hlj⟩
            have hdt : (c :: t)[j - i]? = some d := by rw [← drop_at HCT.out, show i + (j - i) = j by omega]; exact hd
            obtain ⟨hpj, hixj⟩ := ba_at hd
            cases hpd : isDig d with
            | true =>
              have HA2 : Hid (((c :: t).take (j + 1 - i)).all isDig = true) := by
                unfold Hid
                rw [show j + 1 - i = (j - i) + 1 by omega, all_take_snoc hdt, HA.out, Bool.true_and]
                exact hpd
              have HPD := Lib.hid hpd
              clear hd hdt hpd
              go_wp2_with fail
              refine (reffigure_any d _).mono ?_
              rintro e w' ⟨rfl, rfl⟩
              rw [HPD.out]
              go_wp2_with fail
              go_round
              case rel => exact ⟨j + 1, by go_num, by omega, by omega, HA2⟩
              case measure => simp [intOf]; omega
            | false =>
              have HW : Hid ((c :: t).take (j - i) = (c :: t).takeWhile isDig) := takeWhile_at HA.out hdt hpd
              have HPD := Lib.hid hpd
              clear hd hdt hpd
              go_wp2_with fail
              refine (reffigure_any d _).mono ?_
              rintro e w' ⟨rfl, rfl⟩
              rw [HPD.out]
              go_wp2_with fail
              clear hixj hpj
              have HJ : Hid (i + ((c :: t).takeWhile isDig).length = j) := by
                unfold Hid
                rw [← HW.out, List.length_take]
                have := HLEN.out
                simp
                omega
              obtain ⟨x, hx⟩ : ∃ x, x = (c :: t).takeWhile isDig := ⟨_, rfl⟩
              have hsl : (⟨s.toArray⟩ : ByteArray).extract i j = ⟨x.toArray⟩ := by rw [ba_extract, HCT.out, HW.out, hx]
              have hst := @step_dig c t HC1.out
              have hxa : x.all isDig = true := by rw [hx]; exact all_takeWhile _ _
              rw [← hx] at hst HJ
              have hxp : 1 ≤ x.length := by rw [hx]; exact (takeWhile_pos HC1.out).1
              have hxm : x.length ≤ 65536 := by have := HJ.out; omega
              have hjx := HJ.out
              have i1 : (0 : Int) ≤ (i : Int) := by omega
              have i2 : (i : Int) ≤ (j : Int) := by omega
              have i3 : (j : Int) ≤ (s.length : Int) := by omega
              have HJX := Lib.hid hjx
              have HXA := Lib.hid hxa
              have HST0 := Lib.hid hst
              clear hx HW HA HJ hjx hxa hst
              go_wp2_with fail
              rw [hsl]
              refine (refnumber_any x HXA.out hxp (by omega) v).mono ?_
              clear hsl
              rintro e v3 ⟨hb3, ⟨num, hno, rfl⟩ | ⟨hno, num, rfl⟩⟩
              · have HST : Hid (step (c :: t) = .tok ⟨2, 0, [], num⟩ x.length) := by unfold Hid; rw [HST0.out, hno]
                have HI3 := Lib.hid (HI.out.below hb3)
                clear hb3 hno HST0 HI
                have HI := HI3
                clear HI3
                have hcs : [.int .i64 2, .int .i64 i, .string ⟨#[]⟩, .int .i64 num] = tkV ⟨2, i, [], num⟩ := rfl
                have HCS := Lib.hid hcs
                have HB1 := Lib.hid (Below.new1 v3 (.cells #[.int .i64 2, .int .i64 i, .string ⟨#[]⟩, .int .i64 num] 35))
                have HOv := Lib.hid (HI.out.1.below HB1.out HI.out.1.lt)
                have HSrc := Lib.hid (src_new (P := Tryd.prog) (t := 23) 35 (m := 4) (cs := [.int .i64 2, .int .i64 i, .string ⟨#[]⟩, .int .i64 num]) Tryd.underlying23 rfl (by rw [hcs]; exact tkV_one _) v3)
                have hzv : w.heap.size ≤ (v3.alloc (.cells #[.int .i64 2, .int .i64 i, .string ⟨#[]⟩, .int .i64 num] 35)).heap.size := by have := HI.out.2.1.size; have := HB1.out.size; omega
                clear hcs
                go_wp2_with (at_builtin; refine wpList_append_owns _ rfl (.tmp 114) (.tmp 118) 23 23 rfl w.heap.size 35 iT _ 4 40 Tryd.underlying23 hiT hzT hsT hbT rfl g n cap (flatE tkV acc) rfl HOv.out _ rfl 1 _ HSrc.out (by unfold maxLen; omega) (by omega) hzv ?_
                             intro g2 cap2 v2 HO2 HT2 HG2)
                have HN : Hid (RInv w v2 s (i + x.length) g2 (n + 1) cap2 (acc ++ [⟨2, i, [], num⟩])) := HI.out.tok HCT.out HST.out (by rw [← HCS.out]; exact HO2.out) (HB1.out.mono HI.out.2.1.size |>.trans (HT2.out.below HI.out.1.2.1 HOv.out.lt))
                rw [HJX.out] at HN
                have hij2 : i + 1 ≤ j := by have := HJX.out; omega
                go_roundw
                case rel => exact ⟨j, g2, n + 1, cap2, _, rfl, rfl, by omega, by omega, HN⟩
                case measure => simp [intOf]; omega
              · have hst : step (c :: t) = .bad := by rw [HST0.out, hno]
                have HF := Lib.hid ((HI.out.below hb3).bad hs6 HCT.out hst)
                clear hst hno hb3
                go_wp2_with fail
                go_ret3
                exact HF.out
          · have e5 : ¬ (j : Int) < (s.length : Int) := by omega
            have HW : Hid ((c :: t).take (j - i) = (c :: t).takeWhile isDig) := by
              unfold Hid
              have e : (c :: t).take (j - i) = c :: t := List.take_of_length_le (by have := HLEN.out; simp; omega)
              have h2 := HA.out
              rw [e] at h2 ⊢
              exact (takeWhile_all h2).symm
            go_wp2_with fail
            have HJ : Hid (i + ((c :: t).takeWhile isDig).length = j) := by
              unfold Hid
              rw [← HW.out, List.length_take]
              have := HLEN.out
              simp
              omega
            obtain ⟨x, hx⟩ : ∃ x, x = (c :: t).takeWhile isDig := ⟨_, rfl⟩
            have hsl : (⟨s.toArray⟩ : ByteArray).extract i j = ⟨x.toArray⟩ := by rw [ba_extract, HCT.out, HW.out, hx]
            have hst := @step_dig c t HC1.out
            have hxa : x.all isDig = true := by rw [hx]; exact all_takeWhile _ _
            rw [← hx] at hst HJ
            have hxp : 1 ≤ x.length := by rw [hx]; exact (takeWhile_pos HC1.out).1
            have hxm : x.length ≤ 65536 := by have := HJ.out; omega
            have hjx := HJ.out
            have i1 : (0 : Int) ≤ (i : Int) := by omega
            have i2 : (i : Int) ≤ (j : Int) := by omega
            have i3 : (j : Int) ≤ (s.length : Int) := by omega
            have HJX := Lib.hid hjx
            have HXA := Lib.hid hxa
            have HST0 := Lib.hid hst
            clear hx HW HA HJ hjx hxa hst
            go_wp2_with fail
            rw [hsl]
            refine (refnumber_any x HXA.out hxp (by omega) v).mono ?_
            clear hsl
            rintro e v3 ⟨hb3, ⟨num, hno, rfl⟩ | ⟨hno, num, rfl⟩⟩
            · have HST : Hid (step (c :: t) = .tok ⟨2, 0, [], num⟩ x.length) := by unfold Hid; rw [HST0.out, hno]
              have HI3 := Lib.hid (HI.out.below hb3)
              clear hb3 hno HST0 HI
              have HI := HI3
              clear HI3
              have hcs : [.int .i64 2, .int .i64 i, .string ⟨#[]⟩, .int .i64 num] = tkV ⟨2, i, [], num⟩ := rfl
              have HCS := Lib.hid hcs
              have HB1 := Lib.hid (Below.new1 v3 (.cells #[.int .i64 2, .int .i64 i, .string ⟨#[]⟩, .int .i64 num] 35))
              have HOv := Lib.hid (HI.out.1.below HB1.out HI.out.1.lt)
              have HSrc := Lib.hid (src_new (P := Tryd.prog) (t := 23) 35 (m := 4) (cs := [.int .i64 2, .int .i64 i, .string ⟨#[]⟩, .int .i64 num]) Tryd.underlying23 rfl (by rw [hcs]; exact tkV_one _) v3)
              have hzv : w.heap.size ≤ (v3.alloc (.cells #[.int .i64 2, .int .i64 i, .string ⟨#[]⟩, .int .i64 num] 35)).heap.size := by have := HI.out.2.1.size; have := HB1.out.size; omega
              clear hcs
              go_wp2_with (at_builtin; refine wpList_append_owns _ rfl (.tmp 114) (.tmp 118) 23 23 rfl w.heap.size 35 iT _ 4 40 Tryd.underlying23 hiT hzT hsT hbT rfl g n cap (flatE tkV acc) rfl HOv.out _ rfl 1 _ HSrc.out (by unfold maxLen; omega) (by omega) hzv ?_
                           intro g2 cap2 v2 HO2 HT2 HG2)
              have HN : Hid (RInv w v2 s (i + x.length) g2 (n + 1) cap2 (acc ++ [⟨2, i, [], num⟩])) := HI.out.tok HCT.out HST.out (by rw [← HCS.out]; exact HO2.out) (HB1.out.mono HI.out.2.1.size |>.trans (HT2.out.below HI.out.1.2.1 HOv.out.lt))
              rw [HJX.out] at HN
              have hij2 : i + 1 ≤ j := by have := HJX.out; omega
              go_roundw
              case rel => exact ⟨j, g2, n + 1, cap2, _, rfl, rfl, by omega, by omega, HN⟩
              case measure => simp [intOf]; omega
            · have hst : step (c :: t) = .bad := by rw [HST0.out, hno]
              have HF := Lib.hid ((HI.out.below hb3).bad hs6 HCT.out hst)
              clear hst hno hb3
              go_wp2_with fail
              go_ret3
              exact HF.out
      · have HST := Lib.hid (step_sgn (c := c) (t := t) h1 h2)
        have HS : Hid (isSpc c = false) := ((cls_excl c).2.2.2 h1).1
        have HL : Hid (isLet c = false) := ((cls_excl c).2.2.2 h1).2.1
        have HD : Hid (isDig c = false) := ((cls_excl c).2.2.2 h1).2.2
        have HG := Lib.hid h1
        have hsl : (⟨s.toArray⟩ : ByteArray).extract i (i + 1) = ⟨[c].toArray⟩ := by rw [ba_extract, HCT.out, show i + 1 - i = 1 by omega]; rfl
        have hway : ((((c.toNat : Nat) : Int) == 47) = false) ∨ ((((c.toNat : Nat) : Int) == 47) = true ∧ ¬ (i : Int) + 1 < (s.length : Int)) ∨ ((((c.toNat : Nat) : Int) == 47) = true ∧ (i : Int) + 1 < (s.length : Int) ∧ ∃ (d : UInt8) (hp : i + 1 < (⟨s.toArray⟩ : ByteArray).size), (⟨s.toArray⟩ : ByteArray)[i + 1]'hp = d ∧ (((d.toNat : Nat) : Int) == 47) = false) := by
          by_cases e : c = 47
          · have e4 : (((c.toNat : Nat) : Int) == 47) = true := by rw [e]; rfl
            by_cases e3 : i + 1 < s.length
            · obtain ⟨d, hd⟩ : ∃ d, s[i + 1]? = some d := ⟨_, List.getElem?_eq_getElem e3⟩
              have hd2 := hd
              rw [drop_at HCT.out 1, List.getElem?_cons_succ, ← List.head?_eq_getElem?] at hd2
              obtain ⟨hp2, hix2⟩ := ba_at hd
              refine .inr (.inr ⟨e4, by omega, d, hp2, hix2, ?_⟩)
              rw [beq_eq_false_iff_ne]
              intro h
              exact h2 ⟨e, by rw [hd2, UInt8.toNat_inj.1 (show d.toNat = (47 : UInt8).toNat by have : (47 : UInt8).toNat = 47 := rfl; omega)]⟩
            · exact .inr (.inl ⟨e4, by omega⟩)
          · refine .inl ?_
            rw [beq_eq_false_iff_ne]
            intro h
            exact e (UInt8.toNat_inj.1 (by have : (47 : UInt8).toNat = 47 := rfl; omega))
        have hcs : [.int .i64 3, .int .i64 i, .string ((⟨s.toArray⟩ : ByteArray).extract i (i + 1)), .int .i64 0] = tkV ⟨3, i, [c], 0⟩ := by rw [hsl]; rfl
        have HCS := Lib.hid hcs
        have HB1 := Lib.hid (Below.new1 v (.cells #[.int .i64 3, .int .i64 i, .string ((⟨s.toArray⟩ : ByteArray).extract i (i + 1)), .int .i64 0] 35))
        have HOv := Lib.hid (HI.out.1.below HB1.out HI.out.1.lt)
        have HSrc := Lib.hid (src_new (P := Tryd.prog) (t := 23) 35 (m := 4) (cs := [.int .i64 3, .int .i64 i, .string ((⟨s.toArray⟩ : ByteArray).extract i (i + 1)), .int .i64 0]) Tryd.underlying23 rfl (by rw [hcs]; exact tkV_one _) v)
        have hzv : w.heap.size ≤ (v.alloc (.cells #[.int .i64 3, .int .i64 i, .string ((⟨s.toArray⟩ : ByteArray).extract i (i + 1)), .int .i64 0] 35)).heap.size := by have := HI.out.2.1.size; have := HB1.out.size; omega
        have i1 : (0 : Int) ≤ (i : Int) := by omega
        have i3 : (i : Int) + 1 ≤ (s.length : Int) := by omega
        clear hcs hsl h1 h2
        rcases hway with e4 | ⟨e4, e3⟩ | ⟨e4, e3, d, hp2, hix2, e5⟩
        all_goals
          go_wp2_with fail
          refine (refspace_any c v).mono ?_
          rintro e w' ⟨rfl, rfl⟩
          rw [HS.out]
          go_wp2_with fail
          refine (refletter_any c v).mono ?_
          rintro e w' ⟨rfl, rfl⟩
          rw [HL.out]
          go_wp2_with fail
          refine (reffigure_any c v).mono ?_
          rintro e w' ⟨rfl, rfl⟩
          rw [HD.out]
          go_wp2_with fail
          refine (refsign_any c v).mono ?_
          rintro e w' ⟨rfl, rfl⟩
          rw [HG.out]
          go_wp2_with (at_builtin; refine wpList_append_owns _ rfl (.tmp 128) (.tmp 135) 23 23 rfl w.heap.size 35 iT _ 4 40 Tryd.underlying23 hiT hzT hsT hbT rfl g n cap (flatE tkV acc) rfl HOv.out _ rfl 1 _ HSrc.out (by unfold maxLen; omega) (by omega) hzv ?_
                       intro g2 cap2 v2 HO2 HT2 HG2)
          have HN : Hid (RInv w v2 s (i + 1) g2 (n + 1) cap2 (acc ++ [⟨3, i, [c], 0⟩])) := HI.out.tok HCT.out HST.out (by rw [← HCS.out]; exact HO2.out) (HB1.out.mono HI.out.2.1.size |>.trans (HT2.out.below HI.out.1.2.1 HOv.out.lt))
          go_roundw
          case rel => exact ⟨i + 1, g2, n + 1, cap2, _, rfl, by go_num, by omega, by omega, HN⟩
          case measure => simp [intOf]; omega
      · have HF := Lib.hid (HI.out.bad hs6 HCT.out (step_oth h1 h2 h3 h4))
        have e4 : (((c.toNat : Nat) : Int) == 47) = false := by
          rw [beq_eq_false_iff_ne]
          intro h
          rw [UInt8.toNat_inj.1 (show c.toNat = (47 : UInt8).toNat by have : (47 : UInt8).toNat = 47 := rfl; omega)] at h4
          exact absurd h4 (by decide)
        have HS := Lib.hid h1
        have HL := Lib.hid h2
        have HD := Lib.hid h3
        have HG := Lib.hid h4
        clear h1 h2 h3 h4
        go_wp2_with fail
        refine (refspace_any c v).mono ?_
        rintro e w' ⟨rfl, rfl⟩
        rw [HS.out]
        go_wp2_with fail
        refine (refletter_any c v).mono ?_
        rintro e w' ⟨rfl, rfl⟩
        rw [HL.out]
        go_wp2_with fail
        refine (reffigure_any c v).mono ?_
        rintro e w' ⟨rfl, rfl⟩
        rw [HD.out]
        go_wp2_with fail
        refine (refsign_any c v).mono ?_
        rintro e w' ⟨rfl, rfl⟩
        rw [HG.out]
        go_wp2_with fail
        go_ret3
        exact HF.out
    · have HF := Lib.hid (HI.out.done hs6 (by omega))
      have e2 : ¬ (i : Int) < (s.length : Int) := by omega
      go_wp2_with fail
      go_ret3
      exact HF.out
end Go.Proofs.YtdllceggjjopgaaDoor
