/- backflushlaw01.CodecLists is true for every list of values. -/
import Derived.Test.YtbcaanadmfnegaaListsM
import Derived.Test.YtbcaanadmfnegaaFew2
namespace Go.Proofs.Ytbcaanadmfnegaa
open Go.ChangeShapes Go.WideShapes Go.ChangeAt Go.RowKit

/-- what the loop has made of the first j elements -/
def LL (w wr : World) (l : List V) (j L : Nat) (tw tz : Value) : Prop :=
  L = (V.encAll (l.take j)).length ∧ Own wr w.heap.size tw (V.encAll (l.take j)) ∧ wr.ownsRow w.heap.size 24 4 tz j (zrow j) ∧ Below w.heap.size w wr ∧ ∀ x ∈ l.take j, x.check = 0

set_option maxRecDepth 100000 in
set_option maxHeartbeats 4000000 in
theorem law_lists_any (l : List V) (A : Option Addr) (cap : Nat) (w : World) (hl : RdAll w w.heap.size l A 0) (hlc : l.length ≤ cap) (hcap : cap ≤ maxLen) : Calls Try.prog 8 #[.slice A l.length cap] w fun e w' => e = .returned (.bool true) ∧ Below w.heap.size w w' := by
  have HL := Lib.hid hl
  have HCAP := Lib.hid hcap
  have hll := Lib.hid (Nat.le_trans hlc hcap)
  clear hl hcap
  go_enter Try.func8, Try.ntmps8
  go_wp2_with fail
  refine (sane_any _).mono ?_
  rintro e w1 ⟨rfl, hb1⟩
  have z1 : w.heap.size ≤ w1.heap.size := hb1.size
  have B1 := Lib.hid hb1
  have HL1 := Lib.hid (RdAll.below (B' := w1.heap.size) HL.out hb1 z1)
  clear hb1
  go_wp2_with fail
  refine (few_wide l A cap w1 w1.heap.size (Nat.le_refl _) HL1.out hll.out).mono ?_
  rintro e w2 ⟨rfl, hb2⟩
  have z2 : w1.heap.size ≤ w2.heap.size := hb2.size
  have B2 := Lib.hid (B1.out.trans (hb2.mono (by omega)))
  clear hb2
  cases hfew : fewAll l with
  | false =>
    clear hfew
    go_wp2_with fail
    go_ret
    exact ⟨rfl, B2.out⟩
  | true =>
    have HF := Lib.hid (fewAll_bulk hfew)
    have HRL : Hid (∀ w' : World, Below w.heap.size w w' → Rd w' w'.heap.size (.mk 3 0 ⟨#[]⟩ l) (.agg #[.int .i64 3, .int .i64 0, .string ⟨#[]⟩, .slice A l.length cap])) := fun w' h => ⟨A, cap, rfl, by unfold I64; omega, by unfold I64; omega, by unfold maxLen; exact Nat.zero_le _, hlc, HCAP.out, RdAll.below HL.out h h.size⟩
    by_cases h20 : 20 < l.length
    · have hg : decide (20 < l.length) = true := by simpa using h20
      clear hfew
      go_wp2_with fail
      go_ret
      exact ⟨rfl, B2.out⟩
    have hl20 : l.length ≤ 20 := by omega
    have HLB := Lib.hid (list_bulk hfew hl20)
    have HEB : Hid (∀ j, (V.encAll (l.take j)).length ≤ 840011) := fun j => by
      have h1 := V.encAll_take_le l j
      have h2 : V.enc (.mk 3 0 ⟨#[]⟩ l) = 3 :: (num l.length ++ V.encAll l) := list_enc l
      have h3 : Rd w w.heap.size (.mk 3 0 ⟨#[]⟩ l) (.agg #[.int .i64 3, .int .i64 0, .string ⟨#[]⟩, .slice A l.length cap]) := ⟨A, cap, rfl, by unfold I64; omega, by unfold I64; omega, by unfold maxLen; exact Nat.zero_le _, hlc, HCAP.out, HL.out⟩
      have h4 := Rd.enc_le _ _ h3 (by have := HLB.out; omega)
      have := HLB.out
      rw [h2, List.length_cons, List.length_append] at h4
      omega
    clear hfew
    go_wp2_with fail
    go_loopw [3, 4, 5, 31] (fun tw tz ts i wr => ∃ j L : Nat, j ≤ l.length ∧ i = .int .i64 j ∧ ts = .int .i64 L ∧ L ≤ 840011 ∧ Hid (LL w wr l j L tw tz)) (fun _ _ _ i _ => l.length - (intOf i).toNat)
    case atStart => exact ⟨0, 0, Nat.zero_le _, rfl, rfl, Nat.zero_le _, by simp [V.encAll], World.ownsRow_nil _ _ _ _, World.ownsRow_nil _ _ _ _, B2.out, fun x hx => by simp at hx⟩
    case round =>
      obtain ⟨j, L, hj, rfl, rfl, hL, HI⟩ := hrel
      by_cases hlt : j < l.length
      · obtain ⟨b, o, k, n, s, m, A', cap', rfl, hbB, e0, e1, e2, e3, hx, hr⟩ := HL.out.open_ hlt
        have hm := List.mem_of_getElem? hx
        have hwr := HI.out.2.2.2.1
        have hwz : w.heap.size ≤ wr.heap.size := hwr.size
        rw [← hwr.cell (p := ⟨b, _, none⟩) hbB] at e0 e1 e2 e3
        have hbb : b < wr.heap.size := by omega
        obtain ⟨X, hX⟩ : ∃ X, X = wr.alloc (.cells #[.int .i64 k, .int .i64 n, .string s, .slice A' m.length cap'] 24) := ⟨_, rfl⟩
        have hXb : Below wr.heap.size wr X := by rw [hX]; exact below_box _
        have hXz : X.heap.size = wr.heap.size + 1 := by rw [hX]; simp
        have hXv : VB X wr.heap.size k n (.string s) (.slice A' m.length cap') := by rw [hX]; exact vb_new _ _ _ _ _
        have HX0 := Lib.hid hX
        have HXB := Lib.hid hXb
        have HXV := Lib.hid hXv
        have RX := Lib.hid (Rd.below (B' := X.heap.size) hr (hwr.trans (hXb.mono hwz)) (by omega))
        have HBK := Lib.hid (Nat.le_trans (HF.out _ hm) (by omega : 42000 ≤ 1099511627776))
        have HMX := Lib.hid hx
        have HM := Lib.hid hm
        have HTK : Hid (V.encAll (l.take (j + 1)) = V.encAll (l.take j) ++ V.enc (.mk k n s m)) := V.encAll_take l j _ hx
        have HT1 : Hid (∀ x ∈ l.take (j + 1), (∀ y ∈ l.take j, y.check = 0) → V.check (.mk k n s m) = 0 → x.check = 0) := fun x h3 h4 h5 => by
          rw [List.take_succ_eq_append_getElem hlt, List.mem_append] at h3
          rcases h3 with h3 | h3
          · exact h4 x h3
          · rw [List.getElem?_eq_getElem hlt] at hx
            rw [List.mem_singleton.1 h3, Option.some.inj hx]; exact h5
        have hle := Rd.enc_le _ _ RX.out HBK.out
        generalize hck : V.check (.mk k n s m) = c
        obtain ⟨N, hN⟩ : ∃ N, N = (V.enc (.mk k n s m)).length := ⟨_, rfl⟩
        have hN1 : N ≤ 42000 := by have := HF.out _ hm; omega
        have hN0 : 0 < N := by rw [hN]; exact V.enc_pos _
        have hLN : L + N ≤ 840011 := by
          have h1 := HEB.out (j + 1)
          rw [HTK.out, List.length_append, ← HI.out.1, ← hN] at h1
          exact h1
        have HN := Lib.hid hN
        have HCK := Lib.hid hck
        have a0 := hXv.cell 0
        have a1 := hXv.cell 1
        have a2 := hXv.cell 2
        have a3 := hXv.cell 3
        rw [hX] at a0 a1 a2 a3
        have hwr := Lib.hid hwr
        clear hck hN hle hr hx hm hX hXb hXv
        by_cases hc0 : c = 0
        · subst hc0
          go_wp2_with fail
          rw [← HX0.out]
          refine (encode_own _ X _ _ (Nat.le_refl _) RX.out HBK.out HCK.out HN.out).mono ?_
          rintro e w4 ⟨g4, c4, rfl, hb4, hO4, _, hc4, hm4⟩
          have z4 : X.heap.size ≤ w4.heap.size := hb4.size
          have B4 := Lib.hid (HXB.out.trans (hb4.mono (by omega)))
          have R4 := Lib.hid (Rd.below (B' := w4.heap.size) RX.out hb4 z4)
          have V4 := HXV.out.below hb4
          clear a0 a1 a2 a3
          have a0 := V4.cell 0
          have a1 := V4.cell 1
          have a2 := V4.cell 2
          have a3 := V4.cell 3
          have HO4 := Lib.hid hO4
          clear hb4 V4 hO4 hm4
          go_wp2_with fail
          refine (codecSize_any _ w4 _ _ (Nat.le_refl _) R4.out HBK.out).mono ?_
          rintro e w5 ⟨he, hb5⟩
          rw [HCK.out, if_pos rfl, ← HN.out] at he
          subst he
          have z5 : w4.heap.size ≤ w5.heap.size := hb5.size
          have B5 := Lib.hid (B4.out.trans (hb5.mono (by omega)))
          have HO5 := Lib.hid (HO4.out.below hb5)
          have HT5 := Lib.hid (HI.out.2.1.below B5.out)
          have HZ5 := Lib.hid (ownsRow_below HI.out.2.2.1 B5.out)
          have hw5 : w.heap.size ≤ w5.heap.size := by omega
          clear hb5 a0 a1 a2 a3
          have HLL := Lib.hid HI.out.1
          go_wp2_with (at_builtin; refine wpList_appOwn rfl _ _ rfl w.heap.size _ L (V.encAll (l.take j)) (V.enc (.mk k n s m)) g4 N c4 _ rfl rfl HT5.out HLL.out HO5.out HN.out hN0 (by omega) hw5 ?_; intro g6 c6 w6 hO6 hT6)
          have HZ6 := Lib.hid (HZ5.out.kept hT6.1 (rows_apart HZ5.out HT5.out (by decide)))
          have hwB5 : Below w.heap.size w w5 := hwr.out.trans (B5.out.mono hwz)
          have hwB6 : Below w.heap.size w w6 := hwB5.trans (hT6.below hw5 fun g hg => (HT5.out.lt g hg).1)
          have HB6 := Lib.hid hwB6
          have HO6 := Lib.hid hO6
          clear hO6 hT6 hwB5 hwB6
          refine (refInt_any _ _).mono ?_
          rintro e w7 ⟨rfl, hb7⟩
          have hw7 : w.heap.size ≤ w7.heap.size := Nat.le_trans HB6.out.size hb7.size
          have HB7 := Lib.hid (HB6.out.trans (hb7.mono HB6.out.size))
          have HO7 := Lib.hid (HO6.out.below hb7)
          have HZ7 := Lib.hid (ownsRow_below HZ6.out hb7)
          clear hb7
          obtain ⟨i0, hi, hz0, hzz1, hzz2⟩ := info_parts elemInfo
          go_wp2_with (at_builtin; refine wpList_append_lies _ (by rfl) _ _ _ (by rfl) w.heap.size 24 i0 _ 4 56 Try.underlying22 hi hz0 hzz1 hzz2 rfl (by omega) _ j (zrow j) (by rfl) (HZ7.out.alloc _) ⟨w7.heap.size, 0, none⟩ 1 1 zfour (by rfl) (by rfl) (World.news_of_block (cs := #[.int .i64 1, .int .i64 0, .string ⟨#[]⟩, .slice none 0 0]) (t := 24) (fr := (0, 0)) (heap_alloc_new w7 _)) (by simp [zfour, Value.oneCell']) (by omega) (by unfold maxLen; omega) (by omega) (by simp; omega) (w7.heap.size + 1) (by simp) ?_; intro g8 c8 w8 hown8 hgrow8 hat8 hlt8)
          have HO7' := HO7.out.below ((Below.refl w7.heap.size w7).alloc (Nat.le_refl _) (.cells #[.int .i64 1, .int .i64 0, .string ⟨#[]⟩, .slice none 0 0] 24))
          have HO8 : Hid (Own w8 w.heap.size (.slice (some ⟨g6, 0, none⟩) (L + N) c6) (V.encAll (l.take (j + 1)))) := by
            unfold Hid
            rw [HTK.out]
            exact World.ownsRow.kept HO7' hgrow8 (rows_apart HO7' (HZ7.out.alloc _) (by decide))
          have HB8 : Hid (Below w.heap.size w w8) := by
            have h1 := HB7.out.alloc hw7 (.cells #[.int .i64 1, .int .i64 0, .string ⟨#[]⟩, .slice none 0 0] 24)
            exact h1.trans (Turned.below (v := .slice (some ⟨g8, 0, none⟩) (j + 1) c8) (turned_app hgrow8 (by simpa using hat8)) (by simp; omega) fun g hg => (HZ7.out.lt g hg).1)
          have HZ8 := Lib.hid hown8
          clear hown8 hgrow8 hat8 hlt8 HO7'
          go_wp2_with fail
          go_roundw
          case rel => exact ⟨j + 1, L + N, by omega, by go_num, by go_num, by omega, by rw [HTK.out, List.length_append, ← HLL.out, ← HN.out], HO8.out, HZ8.out, HB8.out, fun x hx => HT1.out x hx HI.out.2.2.2.2 HCK.out⟩
          case measure => simp [intOf]; omega
        · have HC0 := Lib.hid hc0
          have hcb : (c != 0) = true := by simpa using hc0
          have hcb2 : (c == 0) = false := by simpa using hc0
          clear hc0
          go_wp2_with fail
          rw [← HX0.out]
          refine (encode_no _ X _ _ (Nat.le_refl _) RX.out HBK.out HCK.out HC0.out).mono ?_
          rintro e w4 ⟨rfl, hb4⟩
          have z4 : X.heap.size ≤ w4.heap.size := hb4.size
          have B4 := Lib.hid (HXB.out.trans (hb4.mono (by omega)))
          have R4 := Lib.hid (Rd.below (B' := w4.heap.size) RX.out hb4 z4)
          have V4 := HXV.out.below hb4
          clear a0 a1 a2 a3
          have a0 := V4.cell 0
          have a1 := V4.cell 1
          have a2 := V4.cell 2
          have a3 := V4.cell 3
          clear hb4 V4
          go_wp2_with fail
          refine (codecSize_any _ w4 _ _ (Nat.le_refl _) R4.out HBK.out).mono ?_
          rintro e w5 ⟨he, hb5⟩
          rw [HCK.out, if_neg HC0.out] at he
          subst he
          have z5 : w4.heap.size ≤ w5.heap.size := hb5.size
          have B5 := Lib.hid (hwr.out.trans ((B4.out.trans (hb5.mono (by omega))).mono hwz))
          clear hb5 a0 a1 a2 a3
          go_wp2_with fail
          refine (refList_any _ _ _ _).mono ?_
          rintro e w6 ⟨rfl, hb6⟩
          have hw6 : w5.heap.size ≤ w6.heap.size := hb6.size
          have hw5 : w.heap.size ≤ w5.heap.size := by omega
          have B6 := Lib.hid (B5.out.trans (hb6.mono hw5))
          clear hb6
          have hbad := list_bad HM.out (by rw [HCK.out]; exact HC0.out)
          generalize hcl : V.check (.mk 3 0 ⟨#[]⟩ l) = cl at hbad
          have HCL := Lib.hid hcl
          have hclb : (cl != 0) = true := by simpa using hbad
          have HBAD := Lib.hid hbad
          clear hcl hbad
          go_wp2_with fail
          refine (encode_no _ w6 _ _ (Nat.le_refl _) (HRL.out w6 B6.out) (Nat.le_trans HLB.out (by omega)) HCL.out HBAD.out).mono ?_
          rintro e w7 ⟨rfl, hb7⟩
          have B7 := Lib.hid (B6.out.trans (hb7.mono (by omega)))
          clear hb7
          go_wp2_with fail
          go_ret
          exact ⟨rfl, B7.out⟩
      · have hje : j = l.length := by omega
        subst hje
        have hwr := HI.out.2.2.2.1
        have HBR := Lib.hid hwr
        have hwz : w.heap.size ≤ wr.heap.size := hwr.size
        clear hwr
        go_wp2_with fail
        refine (refList_any _ _ _ _).mono ?_
        rintro e w3 ⟨rfl, hb3⟩
        have z3 : wr.heap.size ≤ w3.heap.size := hb3.size
        have B3 := Lib.hid (HBR.out.trans (hb3.mono hwz))
        obtain ⟨hL2, hI2, hI3, _, hI5⟩ := HI.out
        rw [List.take_length] at hL2 hI2 hI5
        obtain ⟨Aw, cw, hu3, hdw, hnw⟩ := own_slice hI2 hL2
        obtain ⟨Az, cz, hu4, hrz⟩ := rd_zeros hI3
        subst hu3
        subst hu4
        have HLE := Lib.hid hL2
        have HDW := Lib.hid (RdB.below (B := wr.heap.size) hdw hb3)
        have HRZ := Lib.hid (Rd.below (B' := w3.heap.size) hrz hb3 z3)
        have hgood := list_good hI5
        clear hb3 hL2 hI2 hI3 hI5 hdw hrz
        rcases hgood with hck | hck
        · have HCK := Lib.hid hck
          obtain ⟨N, hN⟩ : ∃ N, N = (V.enc (.mk 3 0 ⟨#[]⟩ l)).length := ⟨_, rfl⟩
          have hN2 : N = 2 + L := by rw [hN, list_enc_len hl20, ← HLE.out]
          have hNa : N ≤ 2 + L := by omega
          have hNb : 2 + L ≤ N := by omega
          have HN := Lib.hid hN
          have HN2 := Lib.hid hN2
          clear hck hN hN2
          go_wp2_with fail
          refine (encode_own _ w3 _ _ (Nat.le_refl _) (HRL.out w3 B3.out) (Nat.le_trans HLB.out (by omega)) HCK.out HN.out).mono ?_
          rintro e w4 ⟨g4, c4, rfl, hb4, _, hd4, hc4, hm4⟩
          have z4 : w3.heap.size ≤ w4.heap.size := hb4.size
          have B4 := Lib.hid (B3.out.trans (hb4.mono (by omega)))
          have HD4 := Lib.hid hd4
          have HDW4 := Lib.hid (RdB.below (B := wr.heap.size) HDW.out (hb4.mono z3))
          have HRZ4 := Lib.hid (Rd.below (B' := w4.heap.size) HRZ.out hb4 z4)
          clear hb4 hd4 hm4
          go_wp2_with fail
          refine (refList_any _ _ _ _).mono ?_
          rintro e w5 ⟨rfl, hb5⟩
          have z5 : w4.heap.size ≤ w5.heap.size := hb5.size
          have B5 := Lib.hid (B4.out.trans (hb5.mono (by omega)))
          have HD5 := Lib.hid (HD4.out.below hb5)
          have HDW5 := Lib.hid (RdB.below (B := wr.heap.size) HDW4.out (hb5.mono (by omega)))
          have HRZ5 := Lib.hid (Rd.below (B' := w5.heap.size) HRZ4.out hb5 z5)
          clear hb5
          go_wp2_with fail
          refine (codecSize_any _ w5 _ _ (Nat.le_refl _) HRZ5.out (by rw [V.bulk, (zeros_all _).2.2.2]; simp [ByteArray.size]; omega)).mono ?_
          rintro e w6 ⟨he, hb6⟩
          obtain ⟨M, hM⟩ : ∃ M, M = 2 + 2 * l.length := ⟨_, rfl⟩
          rw [zeros_check, if_pos rfl, zeros_enc_len hl20, ← hM] at he
          subst he
          have z6 : w5.heap.size ≤ w6.heap.size := hb6.size
          have B6 := Lib.hid (B5.out.trans (hb6.mono (by omega)))
          have HD6 := Lib.hid (RdB.below (B := w4.heap.size) HD5.out (hb6.mono z5))
          have HDW6 := Lib.hid (RdB.below (B := wr.heap.size) HDW5.out (hb6.mono (by omega)))
          have hM1 : M ≤ 2 + 2 * l.length := by omega
          have hM2 : 2 + 2 * l.length ≤ M := by omega
          clear hb6 hM
          have e2 : (N : Int) - (L : Int) = 2 := by omega
          have q1 : IntKind.i64.wrap (2 * (l.length : Int)) = 2 * (l.length : Int) := IntWalk.i64_in _ (by omega)
          have q2 : IntKind.i64.wrap ((M : Int) - 2 * (l.length : Int)) = 2 := by
            rw [show (M : Int) - 2 * (l.length : Int) = 2 by omega]; exact IntWalk.i64_in _ (by omega)
          have q3 : IntKind.i64.wrap (2 + (L : Int)) = (N : Int) := by
            rw [show 2 + (L : Int) = (N : Int) by omega]; exact IntWalk.i64_in _ (by omega)
          have q4 : IntKind.i64.wrap 2 = 2 := by decide
          have q5 : ((N : Int) == (N : Int)) = true := by simp
          have i1 : (2 : Int) ≤ (N : Int) := by omega
          have i2 : (N : Int) ≤ (c4 : Int) := by omega
          have HFIN : Hid (∀ (w' : World) (R : Prop), (Below w6.heap.size w6 w' ∧ R) → Below w.heap.size w w') := fun w' R h => B6.out.trans (h.1.mono (by omega))
          obtain ⟨s1, hs1⟩ : ∃ s1 : ByteArray, s1 = ⟨(V.encAll l).toArray⟩ := ⟨_, rfl⟩
          by_cases hc2 : c4 = 2
          · subst hc2
            have i0 : (N : Int) ≤ 2 := by omega
            have HK : Hid (∀ w' : World, Below w6.heap.size w6 w' → (Below w6.heap.size w6 w' ∧
                (convert 27 9 (.slice (some ⟨g4, 0, none⟩) 0 0)).run Try.prog w' = .ok (.string s1) w' ∧ (convert 27 9 (.slice Aw L cw)).run Try.prog w' = .ok (.string s1) w')) := fun w' hb => by
              rw [hs1]
              have h1 := RdB.below (B := w4.heap.size) HD6.out (hb.mono (by omega))
              have h2 := run_str (rdB_zero h1 (by omega) (some ⟨g4, 0, none⟩)) 0
              rw [list_enc_drop hl20] at h2
              exact ⟨hb, h2, run_str (RdB.below (B := wr.heap.size) HDW6.out (hb.mono (by omega))) cw⟩
            clear hs1
            go_wp2_with fail
            go_region_held3 (fun w' => Below w6.heap.size w6 w' ∧
                (convert 27 9 (.slice (some ⟨g4, 0, none⟩) 0 0)).run Try.prog w' = .ok (.string s1) w' ∧ (convert 27 9 (.slice Aw L cw)).run Try.prog w' = .ok (.string s1) w')
              (first | assumption | exact HK.out _ (Below.refl _ _).drew) (fail)
            all_goals go_wp2_with fail
            all_goals go_ret
            all_goals exact ⟨rfl, HFIN.out _ _ (by assumption)⟩
          · have i3 : 2 < c4 := by omega
            have HK : Hid (∀ w' : World, Below w6.heap.size w6 w' → (Below w6.heap.size w6 w' ∧
                (convert 27 9 (.slice (some ⟨g4, 2, none⟩) (N - 2) (c4 - 2))).run Try.prog w' = .ok (.string s1) w' ∧ (convert 27 9 (.slice Aw L cw)).run Try.prog w' = .ok (.string s1) w')) := fun w' hb => by
              rw [hs1]
              have h1 := RdB.below (B := w4.heap.size) HD6.out (hb.mono (by omega))
              have h2 := run_str (rdB_tail h1 (by omega)) ((c4 - 2))
              rw [list_enc_drop hl20] at h2
              exact ⟨hb, h2, run_str (RdB.below (B := wr.heap.size) HDW6.out (hb.mono (by omega))) cw⟩
            clear hs1
            go_wp2_with fail
            go_region_held3 (fun w' => Below w6.heap.size w6 w' ∧
                (convert 27 9 (.slice (some ⟨g4, 2, none⟩) (N - 2) (c4 - 2))).run Try.prog w' = .ok (.string s1) w' ∧ (convert 27 9 (.slice Aw L cw)).run Try.prog w' = .ok (.string s1) w')
              (first | assumption | exact HK.out _ (Below.refl _ _).drew) (fail)
            all_goals go_wp2_with fail
            all_goals go_ret
            all_goals exact ⟨rfl, HFIN.out _ _ (by assumption)⟩
        · have HCK := Lib.hid hck
          clear hck
          go_wp2_with fail
          refine (encode_no _ w3 _ _ (Nat.le_refl _) (HRL.out w3 B3.out) (Nat.le_trans HLB.out (by omega)) HCK.out (by omega)).mono ?_
          rintro e w4 ⟨rfl, hb4⟩
          have B4 := Lib.hid (B3.out.trans (hb4.mono (by omega)))
          clear hb4
          go_wp2_with fail
          go_ret
          exact ⟨rfl, B4.out⟩
end Go.Proofs.Ytbcaanadmfnegaa
