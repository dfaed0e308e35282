/- The law LexJoined, walked. -/
import Derived.Test.YtdllceggjjopgaaDoorSaneL
import Derived.Test.YtdllceggjjopgaaDoorTokM
namespace Go.Proofs.YtdllceggjjopgaaDoor
open Go.RowKit

theorem ba_cat2 (c : UInt8) (s m : List UInt8) : (⟨s.toArray⟩ : ByteArray) ++ (⟨#[c]⟩ : ByteArray) ++ (⟨m.toArray⟩ : ByteArray) = ⟨(s ++ c :: m).toArray⟩ := by
  apply ba_ext
  simp [ByteArray.data_append]
theorem eqTk_refl' (t : Tk) : eqTk t t = true := by simp [eqTk, sameTk]
theorem zipEq_refl : ∀ l, zipAll eqTk l l = true
  | [] => rfl
  | t :: l => by unfold zipAll; rw [eqTk_refl', zipEq_refl l]; rfl
theorem shift_len (d : Nat) (l : List Tk) : (l.map (shiftTk d)).length = l.length := List.length_map ..

set_option maxRecDepth 100000 in
set_option maxHeartbeats 4000000 in
theorem law_joined (s m : List UInt8) (hs0 : s.length ≤ reachBytes) (hm0 : m.length ≤ reachBytes) (w : World) (hK : KOK w) : Calls Tryd.prog 7 #[.string ⟨s.toArray⟩, .string ⟨m.toArray⟩] w fun e w' => e = .returned (.bool true) ∧ Below w.heap.size w w' := by
  have HK := Lib.hid hK
  have HB0 : Hid (Below w.heap.size w w) := Below.refl _ _
  unfold reachBytes at hs0 hm0
  clear hK
  go_enter Tryd.func7, Tryd.ntmps7
  go_wp2_with fail
  refine (sane_any w HK.out).mono ?_
  rintro e w1 ⟨rfl, b1⟩
  have HB1 : Hid (Below w.heap.size w w1) := b1
  have HK1 := Lib.hid (HK.out.below b1 HK.out.pos)
  clear b1
  by_cases hlen : (3000 : Int) < (s.length : Int) + (m.length : Int)
  · go_wp2_with fail
    go_ret
    exact ⟨rfl, HB1.out⟩
  have hs : s.length ≤ 3000 := by omega
  have hm : m.length ≤ 3000 := by omega
  clear hs0 hm0
  go_wp2_with fail
  refine (lexP_any s (by unfold maxLen; omega) w1 HK1.out).mono ?_
  rintro e w2 ⟨A, n, cap, rfl, r2, h2a, h2b, b2⟩
  have HB2 : Hid (Below w.heap.size w w2) := HB1.out.trans (b2.mono HB1.out.size)
  have HK2 := Lib.hid (HK1.out.below b2 HK1.out.pos)
  have R2 := Lib.hid r2
  have H2 := Lib.hid (And.intro h2a h2b)
  clear r2 b2 h2a h2b
  go_wp2_with fail
  refine (lexP_any m (by unfold maxLen; omega) w2 HK2.out).mono ?_
  rintro e w3 ⟨A3, n3, cap3, rfl, r3, h3a, h3b, b3⟩
  have HB3 : Hid (Below w.heap.size w w3) := HB2.out.trans (b3.mono HB2.out.size)
  have HK3 := Lib.hid (HK2.out.below b3 HK2.out.pos)
  have R2 := Lib.hid (R2.out.below b3 b3.size)
  have R3 := Lib.hid r3
  have H3 := Lib.hid (And.intro h3a h3b)
  clear r3 b3 h3a h3b
  go_wp2_with fail
  rw [ba_cat2]
  have HL : Hid ((s ++ 10 :: m).length ≤ 65536) := by unfold Hid; rw [List.length_append, List.length_cons]; omega
  refine (lexP_any (s ++ 10 :: m) (by have := HL.out; unfold maxLen; omega) w3 HK3.out).mono ?_
  rintro e w4 ⟨A4, n4, cap4, rfl, r4, h4a, h4b, b4⟩
  have HB4 : Hid (Below w.heap.size w w4) := HB3.out.trans (b4.mono HB3.out.size)
  have HK4 := Lib.hid (HK3.out.below b4 HK3.out.pos)
  have R2 := Lib.hid (R2.out.below b4 b4.size)
  have R3 := Lib.hid (R3.out.below b4 b4.size)
  have R4 := Lib.hid r4
  have H4 := Lib.hid (And.intro h4a h4b)
  clear r4 b4 h4a h4b
  have hsep := lex_sep m s.length s 0 (Nat.le_refl _)
  have hsh := lex_shift (s.length + 1) m.length m 0 (Nat.le_refl _)
  rw [show 0 + s.length + 1 = 0 + (s.length + 1) by omega, hsh] at hsep
  clear hsh
  cases hl : lex 0 s with
  | inr i =>
    rw [hl] at hsep
    have r4 := R4.out
    rw [lexOut_bad HL.out hsep] at r4 ⊢
    rw [lexOut_bad (by omega) hl]
    have hn : n4 = 0 := r4.1
    subst hn
    clear hsep hl r4 R4
    go_wp2_with fail
    go_ret
    exact ⟨rfl, HB4.out⟩
  | inl l =>
    rw [hl] at hsep
    rw [lexOut_ok (by omega) hl] at R2 ⊢
    cases hl2 : lex 0 m with
    | inr k =>
      rw [hl2] at hsep
      have r4 := R4.out
      rw [lexOut_bad HL.out hsep] at r4 ⊢
      rw [lexOut_bad (by omega) hl2]
      have hn : n4 = 0 := r4.1
      subst hn
      have e1 : ((k + (s.length + 1) : Nat) : Int) = (k : Int) + (s.length : Int) + 1 := by omega
      have hk := lex_wrong m.length m 0 k (Nat.le_refl _) hl2
      have hk2 : k ≤ 3000 := by omega
      rw [e1]
      clear hsep hl hl2 r4 R4 hk e1
      go_wp2_with fail
      go_ret
      exact ⟨rfl, HB4.out⟩
    | inl l2 =>
      rw [hl2] at hsep
      rw [lexOut_ok HL.out hsep] at R4 ⊢
      rw [lexOut_ok (by omega) hl2] at R3 ⊢
      obtain ⟨hlen1, -⟩ := lex_within s.length s 0 l (Nat.le_refl _) hl
      obtain ⟨hlen2, hpl⟩ := lex_within m.length m 0 l2 (Nat.le_refl _) hl2
      have HPL := Lib.hid hpl
      have hn1 : n ≤ 3000 := by have h : n = l.length := R2.out.1; omega
      have hn2 : n3 ≤ 3000 := by have h : n3 = l2.length := R3.out.1; omega
      have E3 := Lib.hid R3.out.1
      clear hsep hl hl2 hpl hlen1 hlen2
      obtain ⟨iT, hiT, hzT, hsT, hbT⟩ := info_parts tokenInfo
      have HBe : Hid (Below w4.heap.size w4 (w4.alloc (.cells #[] 35))) := Below.new1 _ _
      have HOe : Hid (Owns (w4.alloc (.cells #[] 35)) w4.heap.size 35 4 w4.heap.size 0 0 []) := owns0 _ _ (Nat.le_refl _)
      have HSe : Hid (Src Tryd.prog 4 23 (.slice A n cap) n (flatE tkV l) (w4.alloc (.cells #[] 35))) := src_rdeN Tryd.underlying23 tkV_len tkV_one (R2.out.below HBe.out HBe.out.size)
      go_wp2_with (at_builtin; refine wpList_append_owns _ rfl (.tmp 82) (.tmp 83) 23 23 rfl w4.heap.size 35 iT _ 4 40 Tryd.underlying23 hiT hzT hsT hbT rfl w4.heap.size 0 0 [] rfl HOe.out _ rfl n (flatE tkV l) HSe.out (by unfold maxLen; omega) (by omega) HBe.out.size ?_
                   intro g1 c1 u1 O1 T1 G1
                   simp only [Nat.zero_add, List.nil_append] at O1 ⊢
                   have HBu : Hid (Below w4.heap.size w4 u1) := HBe.out.trans (T1.out.below (Nat.le_refl _) HOe.out.lt))
      have HOu : Hid (Owns u1 w4.heap.size 35 4 g1 (n + 0) c1 (flatE tkV (l ++ (l2.take 0).map (shiftTk (s.length + 1))))) := by
        unfold Hid
        rw [List.take_zero, List.map_nil, List.append_nil]
        exact O1.out
      clear HBe HOe HSe O1 T1 G1
      go_loopw [14, 87] (fun o v wr => ∃ j g c : Nat, o = .slice (some ⟨g, 0, none⟩) (n + j) c ∧ v = .int .i64 j ∧ j ≤ n3 ∧ Hid (Owns wr w4.heap.size 35 4 g (n + j) c (flatE tkV (l ++ (l2.take j).map (shiftTk (s.length + 1))))) ∧ Hid (Below w4.heap.size w4 wr)) (fun _ v _ => n3 - (intOf v).toNat)
      case atStart => exact ⟨0, g1, c1, rfl, rfl, Nat.zero_le _, HOu, HBu⟩
      case round =>
        clear HOu HBu
        obtain ⟨j, g, c, rfl, rfl, hj, HO, HB⟩ := hrel
        rename World => v
        by_cases hlt : j < n3
        · obtain ⟨b1, o1, ⟨k, p, x, nn⟩, rfl, hb1, hx, hc⟩ := (R3.out.below HB.out HB.out.size).one j hlt
          obtain ⟨c0, c1', c2, c3⟩ := tk_cells hc
          have e2 : (j : Int) < (n3 : Int) := by omega
          have hp := HPL.out _ (List.mem_of_getElem? hx)
          have hp1 : 0 ≤ p := by have := hp.1; simp at this; omega
          have hp2 : p ≤ 3000 := by have := hp.2; simp at this; omega
          clear hp
          have HBa := Lib.hid (Below.new1 v (.cells #[.int .i64 k, .int .i64 (p + ((s.length : Int) + 1)), .string ⟨x.toArray⟩, .int .i64 nn] 35))
          have HBb := Lib.hid (Below.new1 (v.alloc (.cells #[.int .i64 k, .int .i64 (p + ((s.length : Int) + 1)), .string ⟨x.toArray⟩, .int .i64 nn] 35)) (.cells #[.int .i64 k, .int .i64 (p + ((s.length : Int) + 1)), .string ⟨x.toArray⟩, .int .i64 nn] 35))
          have hBc : Below v.heap.size v ((v.alloc (.cells #[.int .i64 k, .int .i64 (p + ((s.length : Int) + 1)), .string ⟨x.toArray⟩, .int .i64 nn] 35)).alloc (.cells #[.int .i64 k, .int .i64 (p + ((s.length : Int) + 1)), .string ⟨x.toArray⟩, .int .i64 nn] 35)) := HBa.out.trans (HBb.out.mono HBa.out.size)
          have HOv := Lib.hid (HO.out.below hBc HO.out.lt)
          have HBv : Hid (Below w4.heap.size w4 ((v.alloc (.cells #[.int .i64 k, .int .i64 (p + ((s.length : Int) + 1)), .string ⟨x.toArray⟩, .int .i64 nn] 35)).alloc (.cells #[.int .i64 k, .int .i64 (p + ((s.length : Int) + 1)), .string ⟨x.toArray⟩, .int .i64 nn] 35))) := HB.out.trans (hBc.mono HB.out.size)
          have HSrc := Lib.hid (src_new (P := Tryd.prog) (t := 23) 35 (m := 4) (cs := [.int .i64 k, .int .i64 (p + ((s.length : Int) + 1)), .string ⟨x.toArray⟩, .int .i64 nn]) Tryd.underlying23 rfl (tkV_one ⟨k, p + ((s.length : Int) + 1), x, nn⟩) (v.alloc (.cells #[.int .i64 k, .int .i64 (p + ((s.length : Int) + 1)), .string ⟨x.toArray⟩, .int .i64 nn] 35)))
          rw [show (v.alloc (.cells #[.int .i64 k, .int .i64 (p + ((s.length : Int) + 1)), .string ⟨x.toArray⟩, .int .i64 nn] 35)).heap.size = v.heap.size + 1 by simp] at HSrc
          have HTK : Hid ((l2.take (j + 1)).map (shiftTk (s.length + 1)) = (l2.take j).map (shiftTk (s.length + 1)) ++ [⟨k, p + ((s.length : Int) + 1), x, nn⟩]) := by unfold Hid; rw [List.take_add_one, hx]; simp [shiftTk]
          clear HBa HBb hBc hx hc
          go_wp2_with (at_builtin; refine wpList_append_owns _ rfl (.tmp 98) (.tmp 100) 23 23 rfl w4.heap.size 35 iT _ 4 40 Tryd.underlying23 hiT hzT hsT hbT rfl g (n + j) c _ rfl HOv.out _ rfl 1 _ HSrc.out (by unfold maxLen; omega) (by omega) HBv.out.size ?_
                       intro g2 cap2 v2 HO2 HT2 HG2)
          have HO3 : Hid (Owns v2 w4.heap.size 35 4 g2 (n + (j + 1)) cap2 (flatE tkV (l ++ (l2.take (j + 1)).map (shiftTk (s.length + 1))))) := by
            unfold Hid
            rw [HTK.out, ← List.append_assoc, flatE_append, flatE_one]
            exact HO2.out
          have HB3 : Hid (Below w4.heap.size w4 v2) := HBv.out.trans (HT2.out.below HOv.out.2.1 HOv.out.lt)
          go_roundw
          case rel => exact ⟨j + 1, g2, cap2, by rw [Nat.add_assoc], by go_num, by omega, HO3, HB3⟩
          case measure => simp [intOf]; omega
        · have hje : j = n3 := by omega
          have HAL : Hid (l2.take j = l2) := List.take_of_length_le (by have := E3.out; omega)
          have hn : ¬ (j : Int) < (n3 : Int) := by omega
          have HOz : Hid (Owns v w4.heap.size 35 4 g (n + j) c (flatE tkV (l ++ l2.map (shiftTk (s.length + 1))))) := by have h := HO.out; rw [HAL.out] at h; exact h
          have HRz := Lib.hid (RdE.of_owns (l := l ++ l2.map (shiftTk (s.length + 1))) HOz.out tkV_len (by omega) HOz.out.lt)
          have HR4 := Lib.hid (R4.out.below HB.out HB.out.size)
          have HBz : Hid (Below w.heap.size w v) := HB4.out.trans (HB.out.mono HB4.out.size)
          clear HO HOz HAL hje
          go_wp2_with fail
          refine (refequal_any A4 (some ⟨g, 0, none⟩) n4 (n + j) cap4 c _ _ v HR4.out HRz.out (Nat.le_trans H4.out.1 H4.out.2) (by unfold maxLen; omega)).mono ?_
          rintro e v5 ⟨rfl, b5⟩
          rw [zipEq_refl]
          have HB5 : Hid (Below w.heap.size w v5) := HBz.out.trans (b5.mono HBz.out.size)
          clear b5
          go_wp2_with fail
          go_ret
          exact ⟨rfl, HB5.out⟩
end Go.Proofs.YtdllceggjjopgaaDoor
