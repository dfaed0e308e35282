/- The law LexSpaces, walked. -/
import Derived.Test.YtdllceggjjopgaaDoorSaneL
import Derived.Test.YtdllceggjjopgaaDoorLawBackL
import Derived.Test.YtdllceggjjopgaaDoorGapM
import Derived.Test.YtdllceggjjopgaaDoorRefText
namespace Go.Proofs.YtdllceggjjopgaaDoor
open Go.RowKit

theorem gap_at (y : List UInt8) (z : Int) (h1 : 0 ≤ z) (h2 : z < 8) : ∃ g, (gapL y)[z.toNat]? = some g := by
  have hl : (gapL y).length = 8 := rfl
  exact ⟨_, List.getElem?_eq_getElem (by omega)⟩
theorem ba_cat3 (c : UInt8) (s m g : List UInt8) : (⟨s.toArray⟩ : ByteArray) ++ ((⟨m.toArray⟩ : ByteArray) ++ (⟨#[c]⟩ : ByteArray) ++ (⟨g.toArray⟩ : ByteArray)) = ⟨(s ++ (m ++ c :: g)).toArray⟩ := by
  apply ba_ext
  simp [ByteArray.data_append]

set_option maxRecDepth 100000 in
set_option maxHeartbeats 4000000 in
theorem law_spaces (A : Option Addr) (n cap : Nat) (l : List Tk) (A' : Option Addr) (n' cap' : Nat) (tu : List UInt8) (nt : List UInt8) (w : World) (hr : RdT w w.heap.size A n l) (hnc : n ≤ cap) (hcm : cap ≤ maxLen) (hb : ∀ v ∈ l, (I64 v.kind ∧ I64 v.place ∧ I64 v.n) ∧ v.text.length ≤ reachBytes)
    (hu : RdU w w.heap.size A' n' tu) (hnc' : n' ≤ cap') (hcm' : cap' ≤ maxLen) (hs0 : nt.length ≤ reachBytes) (hK : KOK w) :
    Calls Tryd.prog 8 #[.slice A n cap, .slice A' n' cap', .string ⟨nt.toArray⟩] w fun e w' => e = .returned (.bool true) ∧ Below w.heap.size w w' := by
  have HK := Lib.hid hK
  have R0 := Lib.hid hr
  have HB0 : Hid (Below w.heap.size w w) := Below.refl _ _
  have HI : Hid (∀ t ∈ l, I64 t.n) := fun t ht => (hb t ht).1.2.2
  have HX : Hid (∀ t ∈ l, t.text.length ≤ 140737488355328) := fun t ht => by have := (hb t ht).2; unfold reachBytes at this; omega
  have HX2 : Hid (∀ t ∈ l, t.text.length ≤ maxLen) := fun t ht => by have := (hb t ht).2; unfold reachBytes at this; unfold maxLen; omega
  have HN := Lib.hid (Nat.le_trans hnc hcm)
  have hn' : n' ≤ maxLen := Nat.le_trans hnc' hcm'
  have U0 := Lib.hid hu
  unfold maxLen at hn'
  unfold reachBytes at hs0
  clear hK hr hnc hcm hb hu hnc' hcm'
  go_enter Tryd.func8, Tryd.ntmps8
  go_wp2_with fail
  refine (sane_any w HK.out).mono ?_
  rintro e w1 ⟨rfl, b1⟩
  have HB1 : Hid (Below w.heap.size w w1) := b1
  have HK1 := Lib.hid (HK.out.below b1 HK.out.pos)
  have R1 := Lib.hid (R0.out.below b1 b1.size)
  have U1 := Lib.hid (U0.out.below b1 b1.size)
  clear b1
  go_wp2_with fail
  refine (reffew_any A n cap l w1 R1.out HN.out HX.out).mono ?_
  rintro e w' ⟨rfl, rfl⟩
  cases hfw : fewTk l with
  | false =>
    clear hfw
    go_wp2_with fail
    go_ret
    exact ⟨rfl, HB1.out⟩
  | true =>
    have HT := Lib.hid hfw
    have hn : n ≤ 200 := by have h : n = l.length := R1.out.1; have := (few_text hfw HI.out).2; omega
    clear hfw
    by_cases hlen : (100 : Int) < (nt.length : Int)
    · go_wp2_with fail
      go_ret
      exact ⟨rfl, HB1.out⟩
    have hs : nt.length ≤ 100 := by omega
    clear hs0
    go_wp2_with fail
    go_loopw [7, 8] (fun o v wr => ∃ (j : Nat) (y : List UInt8), o = .string ⟨y.toArray⟩ ∧ v = .int .i64 j ∧ j ≤ nt.length ∧ Hid (y = (nt.take j).filter fun c => c != 10) ∧ w1 = wr) (fun _ v _ => nt.length - (intOf v).toNat)
    case atStart => exact ⟨0, [], rfl, rfl, Nat.zero_le _, rfl, rfl⟩
    case round =>
      obtain ⟨j, y, rfl, rfl, hj, HY, rfl⟩ := hrel
      have hyl : y.length ≤ 100 := by rw [HY.out]; exact Nat.le_trans (List.length_filter_le _ _) (by rw [List.length_take]; omega)
      by_cases hlt : j < nt.length
      · have e2 : (j : Int) < (nt.length : Int) := by omega
        obtain ⟨c, hc⟩ : ∃ c, nt[j]? = some c := ⟨_, List.getElem?_eq_getElem hlt⟩
        obtain ⟨hp, hix⟩ := ba_at hc
        by_cases h10 : c = 10
        · subst h10
          have HY2 : Hid (y = (nt.take (j + 1)).filter fun c => c != 10) := by unfold Hid; rw [List.take_add_one, hc, List.filter_append, ← HY.out]; simp
          clear hc
          go_wp2_with fail
          go_roundw
          case rel => exact ⟨j + 1, y, rfl, by go_num, by omega, HY2, trivial⟩
          case measure => simp [intOf]; omega
        · have hne : ((c.toNat : Int) != 10) = true := by
            rw [bne_iff_ne]
            intro h
            exact h10 (UInt8.toNat_inj.1 (by simp; omega))
          have HY2 : Hid (y ++ [c] = (nt.take (j + 1)).filter fun c => c != 10) := by unfold Hid; rw [List.take_add_one, hc, List.filter_append, ← HY.out]; simp [h10]
          have HCX : Hid ((⟨nt.toArray⟩ : ByteArray).extract j (j + 1) = ⟨[c].toArray⟩) := by
            unfold Hid
            rw [ba_extract, List.drop_eq_getElem_cons hlt, Nat.add_sub_cancel_left, List.take_succ_cons, List.take_zero]
            rw [List.getElem?_eq_getElem hlt] at hc
            rw [Option.some.inj hc]
          have i1 : (0 : Int) ≤ (j : Int) := by omega
          have i2 : (j : Int) ≤ ((j + 1 : Nat) : Int) := by omega
          have i3 : ((j + 1 : Nat) : Int) ≤ (nt.length : Int) := by omega
          clear hc h10
          go_wp2_with fail
          go_roundw
          case rel => exact ⟨j + 1, y ++ [c], by rw [← ba_app, HCX.out], by go_num, by omega, HY2, trivial⟩
          case measure => simp [intOf]; omega
      · have HY2 : Hid (y = nt.filter fun c => c != 10) := by unfold Hid; rw [HY.out, List.take_of_length_le (by omega)]
        have hn1 : ¬ (j : Int) < (nt.length : Int) := by omega
        clear HY
        go_wp2_with fail
        have HW10 : Hid (∀ c ∈ y, c ≠ 10) := fun c hc => by
          rw [HY2.out, List.mem_filter] at hc
          simpa using hc.2
        have HGK := Lib.hid (gapL_ok HW10.out)
        have HGL := Lib.hid (gapL_len hyl)
        obtain ⟨w2, hw2⟩ : ∃ x, w1.alloc (.cells #[.string ⟨#[32]⟩, .string ⟨#[9]⟩, .string ⟨#[10]⟩, .string ⟨#[13, 10]⟩, .string ⟨#[32, 32]⟩, .string (⟨#[47, 47]⟩ ++ ⟨y.toArray⟩ ++ ⟨#[10]⟩), .string ⟨#[32, 47, 47, 32, 10]⟩, .string ⟨#[10, 47, 47, 10]⟩] 9) = x := ⟨_, rfl⟩
        have hb2 : Below w1.heap.size w1 w2 := by rw [← hw2]; exact Below.new1 _ _
        have hgz : w1.heap.size < w2.heap.size := by rw [← hw2]; simp
        have HG : Hid (∀ (i : Nat) g, (gapL y)[i]? = some g → w2.cell? ⟨w1.heap.size, i, none⟩ = some (.string ⟨g.toArray⟩)) := by
          intro i g hg
          have e : (⟨#[47, 47]⟩ : ByteArray) ++ ⟨y.toArray⟩ ++ ⟨#[10]⟩ = ⟨(47 :: 47 :: (y ++ [10])).toArray⟩ := by
            apply ba_ext
            simp [ByteArray.data_append]
          rw [← hw2, e, cell_of_row _ _ i _ _ _ (heap_alloc_new _ _)]
          match i, hg with
          | 0, hg => cases hg; rfl
          | 1, hg => cases hg; rfl
          | 2, hg => cases hg; rfl
          | 3, hg => cases hg; rfl
          | 4, hg => cases hg; rfl
          | 5, hg => cases hg; rfl
          | 6, hg => cases hg; rfl
          | 7, hg => cases hg; rfl
          | _ + 8, hg => simp [gapL] at hg
        have HB2 : Hid (Below w.heap.size w w2) := HB1.out.trans (hb2.mono HB1.out.size)
        have HK2 := Lib.hid (HK1.out.below hb2 HK1.out.pos)
        have R2 := Lib.hid (R1.out.below hb2 hb2.size)
        have U2 := Lib.hid (U1.out.below hb2 hb2.size)
        have HGZ := Lib.hid hgz
        have HB0 : Hid (Below w2.heap.size w2 w2) := Below.refl _ _
        rw [hw2]
        clear hw2 hb2 hgz HW10 HY2 hlt hn1
        go_loopw [10, 54] (fun o v wr => ∃ (j : Nat) (s : List UInt8), o = .string ⟨s.toArray⟩ ∧ v = .int .i64 j ∧ j ≤ n ∧ s.length ≤ 1 + 138 * j ∧ Hid (Has s (l.take j)) ∧ Hid (Below w2.heap.size w2 wr)) (fun _ v _ => n - (intOf v).toNat)
        case atStart => exact ⟨0, [10], rfl, rfl, Nat.zero_le _, by simp, Has.start, HB0⟩
        case round =>
          clear HB0
          obtain ⟨j, s, rfl, rfl, hj, hsl, HS, HB⟩ := hrel
          rename World => v
          by_cases hlt : j < n
          · obtain ⟨b1, o1, ⟨k, p, x, nn⟩, rfl, hb1, hx, hc⟩ := (R2.out.below HB.out HB.out.size).one j hlt
            obtain ⟨c0, c1, c2, c3⟩ := tk_cells hc
            have e2 : (j : Int) < (n : Int) := by omega
            have hwl := word_lens hx
            have hlf := lens_few l HI.out
            have htf := HT.out
            unfold fewTk at htf
            simp only [Bool.and_eq_true, decide_eq_true_eq] at htf
            have HXL : Hid (x.length ≤ maxLen) := HX2.out _ (List.mem_of_getElem? hx)
            have HTL : Hid ((textL [⟨k, p, x, nn⟩]).length ≤ 140737488355328) := by
              have e : textL [⟨k, p, x, nn⟩] = wordL ⟨k, p, x, nn⟩ := by simp [textL, Lib.join]
              unfold Hid
              rw [e]
              omega
            have HTO : Hid (textOut [⟨k, p, x, nn⟩] = if okTk ⟨k, p, x, nn⟩ then (wordL ⟨k, p, x, nn⟩, 0) else ([], 50)) := by
              unfold Hid textOut
              rw [show textL [⟨k, p, x, nn⟩] = wordL ⟨k, p, x, nn⟩ by simp [textL, Lib.join]]
              simp
            have HLT := Lib.hid (few_text HT.out HI.out)
            have HBa := Lib.hid (Below.new1 v (.cells #[.int .i64 k, .int .i64 p, .string ⟨x.toArray⟩, .int .i64 nn] 35))
            have HBb := Lib.hid (Below.new1 (v.alloc (.cells #[.int .i64 k, .int .i64 p, .string ⟨x.toArray⟩, .int .i64 nn] 35)) (.cells #[.int .i64 k, .int .i64 p, .string ⟨x.toArray⟩, .int .i64 nn] 35))
            have hBc : Below v.heap.size v ((v.alloc (.cells #[.int .i64 k, .int .i64 p, .string ⟨x.toArray⟩, .int .i64 nn] 35)).alloc (.cells #[.int .i64 k, .int .i64 p, .string ⟨x.toArray⟩, .int .i64 nn] 35)) := HBa.out.trans (HBb.out.mono HBa.out.size)
            have HBv : Hid (Below w2.heap.size w2 ((v.alloc (.cells #[.int .i64 k, .int .i64 p, .string ⟨x.toArray⟩, .int .i64 nn] 35)).alloc (.cells #[.int .i64 k, .int .i64 p, .string ⟨x.toArray⟩, .int .i64 nn] 35))) := HB.out.trans (hBc.mono HB.out.size)
            have HR := Lib.hid (rdt_lit (v.alloc (.cells #[.int .i64 k, .int .i64 p, .string ⟨x.toArray⟩, .int .i64 nn] 35)) [⟨k, p, x, nn⟩] #[.int .i64 k, .int .i64 p, .string ⟨x.toArray⟩, .int .i64 nn] rfl 1 rfl (by unfold maxLen; omega))
            rw [show (v.alloc (.cells #[.int .i64 k, .int .i64 p, .string ⟨x.toArray⟩, .int .i64 nn] 35)).heap.size = v.heap.size + 1 by simp] at HR
            have HHX := Lib.hid hx
            clear HBa HBb hBc hx hc hwl hlf htf
            go_wp2_with fail
            refine (text_any _ 1 1 [⟨k, p, x, nn⟩] _ HR.out (by omega) (by simp; exact HXL.out) HTL.out (HK2.out.below (B := 3) (HBv.out.mono (by have := HK2.out.pos; omega)) (by omega))).mono ?_
            rintro e v2 ⟨rfl, hb⟩
            have HBt : Hid (Below w2.heap.size w2 v2) := HBv.out.trans (hb.mono HBv.out.size)
            clear hb HBv HR
            cases hok : okTk ⟨k, p, x, nn⟩ with
            | false =>
              have hto : textOut [⟨k, p, x, nn⟩] = ([], 50) := by rw [HTO.out, hok]; rfl
              have HOL : Hid (textOut l = ([], 50)) := textOut_bad (allTk_false HHX.out hok)
              rw [hto]
              clear hto hok
              go_wp2_with fail
              refine (text_any _ n cap l v2 (R2.out.below HBt.out HBt.out.size) (by omega) HX2.out (by have := HLT.out.1; omega) (HK2.out.below HBt.out HK2.out.pos)).mono ?_
              rw [HOL.out]
              rintro e v3 ⟨rfl, hb⟩
              have HBz : Hid (Below w.heap.size w v3) := HB2.out.trans ((HBt.out.trans (hb.mono HBt.out.size)).mono HB2.out.size)
              clear hb
              go_wp2_with fail
              go_ret
              exact ⟨rfl, HBz.out⟩
            | true =>
              have hto : textOut [⟨k, p, x, nn⟩] = (wordL ⟨k, p, x, nn⟩, 0) := by rw [HTO.out, hok]; rfl
              have hws := word_short hok
              have HNX : Hid (∀ g, Gap g → Has (s ++ (wordL ⟨k, p, x, nn⟩ ++ 32 :: g)) (l.take (j + 1))) := fun g hg => by
                rw [List.take_add_one, HHX.out]
                exact HS.out.next hok hg
              rw [hto]
              obtain ⟨wd, hwd⟩ : ∃ y, y = wordL ⟨k, p, x, nn⟩ := ⟨_, rfl⟩
              rw [← hwd] at hws HNX ⊢
              clear hto hok hwd
              by_cases hjn : j < n'
              · obtain ⟨b2, o2, u, rfl, hb2, hxu, hcu⟩ := (U2.out.below HBt.out HBt.out.size).one j hjn
                have cu : v2.cell? ⟨b2, o2 + j, none⟩ = some (.int .u8 (u.toNat : Int)) := by have := hcu 0 _ rfl; simpa using this
                have e3 : (j : Int) < (n' : Int) := by omega
                have hwr : wrap64 (u.toNat : Int) = (u.toNat : Int) := by unfold wrap64; have := u.toNat_lt; omega
                have q1 : 0 ≤ (wrap64 (u.toNat : Int)).tmod 8 := by rw [hwr]; exact Int.tmod_nonneg _ (by omega)
                have q2 : (wrap64 (u.toNat : Int)).tmod 8 < 8 := Int.tmod_lt_of_pos _ (by omega)
                obtain ⟨g, hg⟩ : ∃ g, (gapL y)[((wrap64 (u.toNat : Int)).tmod 8).toNat]? = some g := gap_at y _ q1 q2
                have cg : v2.cell? ⟨w1.heap.size, ((wrap64 (u.toNat : Int)).tmod 8).toNat, none⟩ = some (.string ⟨g.toArray⟩) := (HBt.out.cell (by exact HGZ.out)).trans (HG.out _ _ hg)
                have HGP := Lib.hid (HGK.out _ (List.mem_of_getElem? hg))
                have hgl := HGL.out _ (List.mem_of_getElem? hg)
                clear hcu hxu hwr hg
                go_wp2_with fail
                go_roundw
                case rel => exact ⟨j + 1, _, by rw [ba_cat3], by go_num, by omega, by simp; omega, HNX.out _ HGP.out, HBt⟩
                case measure => simp [intOf]; omega
              · have e3 : ¬ (j : Int) < (n' : Int) := by omega
                go_wp2_with fail
                go_roundw
                case rel => exact ⟨j + 1, _, by rw [ba_cat3 32 s wd [32]], by go_num, by omega, by simp; omega, HNX.out [32] (Gap.nil.spc (by rfl)), HBt⟩
                case measure => simp [intOf]; omega
          · have hje : j = n := by omega
            have HSN : Hid (Has s l) := by have h := HS.out; rw [List.take_of_length_le (by have h : n = l.length := R2.out.1; omega)] at h; exact h
            have e2 : ¬ (j : Int) < (n : Int) := by omega
            have hs2 : s.length ≤ 65536 := by omega
            obtain ⟨l3, i1, i2⟩ := HSN.out.done
            have HI3 := Lib.hid i1
            have HZ3 := Lib.hid i2
            clear i1 i2 HS hje
            go_wp2_with fail
            refine (lexP_any s (by unfold maxLen; omega) v (HK2.out.below HB.out HK2.out.pos)).mono ?_
            unfold LexP
            rw [lexOut_ok hs2 HI3.out]
            rintro e v3 ⟨Ay, ny, capy, rfl, ry, hya, hyb, bx⟩
            have HB3 : Hid (Below w2.heap.size w2 v3) := HB.out.trans (bx.mono HB.out.size)
            have RX3 := Lib.hid (R2.out.below HB3.out HB3.out.size)
            have RY3 := Lib.hid ry
            have HNY := Lib.hid (Nat.le_trans hya hyb)
            clear bx ry hya hyb
            go_wp2_with fail
            refine (same_any A Ay n ny cap capy l l3 v3 RX3.out RY3.out HN.out HNY.out).mono ?_
            rw [HZ3.out]
            rintro e v4 ⟨rfl, bx⟩
            have HBz : Hid (Below w.heap.size w v4) := HB2.out.trans ((HB3.out.trans (bx.mono HB3.out.size)).mono HB2.out.size)
            clear bx
            go_wp2_with fail
            go_ret
            exact ⟨rfl, HBz.out⟩
end Go.Proofs.YtdllceggjjopgaaDoor
