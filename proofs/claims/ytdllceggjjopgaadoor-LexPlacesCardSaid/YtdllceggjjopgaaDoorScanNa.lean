/- Contract of the scanner's scan, over one rule. -/
import Derived.Test.YtdllceggjjopgaaDoorScanB
namespace Go.Proofs.YtdllceggjjopgaaDoor
open Go.RowKit

set_option maxRecDepth 100000 in
set_option maxHeartbeats 4000000 in
theorem scan_name (p : UInt8 → Bool) (r : Nat) (s : List UInt8) (i m : Nat) (c : UInt8) (t x : List UInt8) (kd n : Int) (tx : List UInt8) (w : World) (hx : x = c :: t.takeWhile p) (hm : m = x.length)
    (HC0 : ∀ (d : UInt8) (W : World), Calls Tryd.prog 39 #[.int .i64 (cls d : Nat)] W fun e w' => e = .returned (.bool (p d)) ∧ W = w')
    (HT0 : ∀ W : World, Calls Tryd.prog 49 #[.string ⟨x.toArray⟩] W fun e w' => e = .returned (.agg #[.int .i64 kd, .int .i64 0, .string ⟨tx.toArray⟩, .int .i64 n]) ∧ Below W.heap.size W w')
    (h : Scn w r s i) (hct : s.drop i = c :: t) (hs : s.length ≤ 65536) (htx : tx.length ≤ maxLen) (hK : KOK w) (hr : 2 < r) :
    Calls Tryd.prog 42 #[.pointer (some ⟨r, 0, none⟩), .agg #[.func (Fn.func 39) #[] #[], .func (Fn.func 49) #[] #[]]] w (Scanned w r s i m ⟨kd, 0, tx, n⟩) := by
  have HS := Lib.hid h
  have HK := Lib.hid hK
  have hrl := h.lt
  have HCT := Lib.hid hct
  have HLEN : Hid (t.length + 1 + i = s.length) := by unfold Hid; have := congrArg List.length hct; rw [List.length_drop] at this; simp at this; omega
  have his : i < s.length := by have := HLEN.out; omega
  have HCC := Lib.hid HC0
  have HTT := Lib.hid HT0
  have HX := Lib.hid hx
  have HMX := Lib.hid hm
  have HTX := Lib.hid htx
  have c1 := h.cell1
  have f1 := h.frozen 1
  have q1 := World.new_ne w ⟨r, 1, none⟩ c1
  clear h hK hct HC0 HT0 hx hm
  go_enter Tryd.func42, Tryd.ntmps42
  go_wp2_with fail
  obtain ⟨g, hg⟩ : ∃ g, g = w.heap.size := ⟨_, rfl⟩
  have hS1 := HS.out.set (i + 1)
  have hT1 : Turn w (w.setCell ⟨r, 1, none⟩ (.int .i64 ((i : Int) + 1))) r := (Turn.refl w r).setCell
  obtain ⟨X, hX⟩ : ∃ X, X = ((w.setCell ⟨r, 1, none⟩ (.int .i64 ((i : Int) + 1))).alloc (.cells #[.func (Fn.func 39) #[] #[], .func (Fn.func 49) #[] #[]] 60)).alloc (.cells #[.int .i64 0, .int .i64 0, .string ⟨#[]⟩, .int .i64 0] 35) := ⟨_, rfl⟩
  have hb2 : Below g (w.setCell ⟨r, 1, none⟩ (.int .i64 ((i : Int) + 1))) X := by
    rw [hX, hg]
    exact ((Below.refl _ _).alloc (by simp) _).alloc (by simp) _
  have HSX : Hid (Scn X r s (i + 1)) := hS1.below hb2 (by omega)
  have HTX : Hid (Turn w X r) := hT1.trans (Turn.of_below (by have e : (w.setCell ⟨r, 1, none⟩ (.int .i64 ((i : Int) + 1))).heap.size = g := by rw [hg]; simp
                                                              rw [e]; exact hb2))
  have HB0X : Hid (X.heap[g]? = some (.cells #[.func (Fn.func 39) #[] #[], .func (Fn.func 49) #[] #[]] 60 (0, 0))) := by
    rw [hX, hg]
    refine (heap_alloc_old _ _ (by simp)).trans ?_
    have := heap_alloc_new (w.setCell ⟨r, 1, none⟩ (.int .i64 ((i : Int) + 1))) (.cells #[.func (Fn.func 39) #[] #[], .func (Fn.func 49) #[] #[]] 60)
    have e : (w.setCell ⟨r, 1, none⟩ (.int .i64 ((i : Int) + 1))).heap.size = w.heap.size := by simp
    rw [e] at this
    exact this
  have HB1X : Hid (X.heap[g + 1]? = some (.cells #[.int .i64 0, .int .i64 0, .string ⟨#[]⟩, .int .i64 0] 35 (0, 0))) := by
    rw [hX, hg]
    have := heap_alloc2_new (w.setCell ⟨r, 1, none⟩ (.int .i64 ((i : Int) + 1))) (.cells #[.func (Fn.func 39) #[] #[], .func (Fn.func 49) #[] #[]] 60) #[.int .i64 0, .int .i64 0, .string ⟨#[]⟩, .int .i64 0] 35
    have e : (w.setCell ⟨r, 1, none⟩ (.int .i64 ((i : Int) + 1))).heap.size = w.heap.size := by simp
    rw [e] at this
    exact this
  rw [← hX, ← hg]
  rw [← hg] at q1 hrl
  have HGW := Lib.hid hg
  clear hX hb2 hS1 hT1 c1 f1 hg
  go_loopw [18] (fun _ wr => ∃ j : Nat, i + 1 ≤ j ∧ j ≤ s.length ∧ Hid (Scn wr r s j) ∧ Hid (Turn w wr r) ∧ Hid (wr.heap[g]? = some (.cells #[.func (Fn.func 39) #[] #[], .func (Fn.func 49) #[] #[]] 60 (0, 0))) ∧ Hid (wr.heap[g + 1]? = some (.cells #[.int .i64 0, .int .i64 0, .string ⟨#[]⟩, .int .i64 0] 35 (0, 0))) ∧ Hid ((t.take (j - i - 1)).all p = true))
    (fun _ wr => s.length - (intOf ((wr.cell? ⟨r, 1, none⟩).getD undef)).toNat)
  case atStart => exact ⟨i + 1, Nat.le_refl _, by omega, HSX, HTX, HB0X, HB1X, by rw [show i + 1 - i - 1 = 0 by omega]; rfl⟩
  case round =>
    clear HSX HTX HB0X HB1X
    obtain ⟨j, hij, hj, HSr, HT, HB0, HB1, HA⟩ := hrel
    rename World => v
    have c0 := HSr.out.cell0
    have c1 := HSr.out.cell1
    have HC1 := Lib.hid c1
    have f1 := HSr.out.frozen 1
    have hg1 : g + 1 < v.heap.size := (Array.getElem?_eq_some_iff.1 HB1.out).1
    have b0 : v.cell? ⟨g, 0, none⟩ = some (.func (Fn.func 39) #[] #[]) := by rw [cell_of_row _ _ 0 _ _ _ HB0.out]; rfl
    have HKD : Hid (∀ n, KOK (v.drewN n)) := fun n => (HK.out.turn HT.out hr (by have := HS.out.lt; exact this)).below (below_drewN (Below.refl _ _) n) (by have := HSr.out.lt; omega)
    by_cases hlt : j < s.length
    · have e1 : (j : Int) < (s.length : Int) := by omega
      have e2 : (0 : Int) ≤ (j : Int) := by omega
      obtain ⟨d, hd⟩ : ∃ d, s[j]? = some d := ⟨_, List.getElem?_eq_getElem hlt⟩
      have hdt : t[j - i - 1]? = some d := by
        have h2 : (s.drop i)[j - i]? = some d := by rw [List.getElem?_drop, show i + (j - i) = j by omega]; exact hd
        rw [HCT.out, show j - i = (j - i - 1) + 1 by omega, List.getElem?_cons_succ] at h2
        exact h2
      obtain ⟨hp, hix⟩ := ba_at hd
      have HCK : Hid (∀ n, Calls Tryd.prog 38 #[.int .u8 (d.toNat : Int)] (v.drewN n) fun e w' => e = .returned (.int .i64 (cls d : Nat)) ∧ w' = v.drewN n) := fun n => (classOf_any d _ (HKD.out n)).mono fun _ _ ⟨a, b⟩ => ⟨a, b.symm⟩
      cases hpd : p d with
      | true =>
        have HCN : Hid (∀ n, Calls Tryd.prog 39 #[.int .i64 (cls d : Nat)] (v.drewN n) fun e w' => e = .returned (.bool true) ∧ w' = v.drewN n) := fun n => (HCC.out d _).mono fun _ _ ⟨a, b⟩ => ⟨by rw [a, hpd], b.symm⟩
        have HA2 : Hid ((t.take (j + 1 - i - 1)).all p = true) := by
          unfold Hid
          rw [show j + 1 - i - 1 = (j - i - 1) + 1 by omega, all_take_snoc hdt, HA.out, hpd]
          rfl
        have HME : Hid (∀ (W : World) (k : Nat), Scn W r s k → j < k → k ≤ s.length → s.length - (intOf ((W.cell? ⟨r, 1, none⟩).getD undef)).toNat < s.length - (intOf ((v.cell? ⟨r, 1, none⟩).getD undef)).toNat) := fun W k hW h1 h2 => by
          rw [hW.cell1, HC1.out]
          simp [intOf]
          omega
        clear hd hdt hpd
        go_wp2_with fail
        go_quiet ((first | (go_at_call 38; exact Calls.quiet_of_same (HCK.out _)) | (go_at_call 39; exact Calls.quiet_of_same (HCN.out _))))
        go_wp2_with fail
        have hS2 := (HSr.out.drewN nq).set (j + 1)
        refine ⟨⟨j + 1, by omega, by omega, hS2, (HT.out.drewN _).setCell, ?_, ?_, HA2⟩, HME.out _ (j + 1) hS2 (by omega) (by omega)⟩
        · exact (Below.heap_setCell _ _ _ g (by show g ≠ r; omega)).trans HB0.out
        · exact (Below.heap_setCell _ _ _ (g + 1) (by show g + 1 ≠ r; omega)).trans HB1.out
      | false =>
        have HCN : Hid (∀ n, Calls Tryd.prog 39 #[.int .i64 (cls d : Nat)] (v.drewN n) fun e w' => e = .returned (.bool false) ∧ w' = v.drewN n) := fun n => (HCC.out d _).mono fun _ _ ⟨a, b⟩ => ⟨by rw [a, hpd], b.symm⟩
        have HW : Hid (t.take (j - i - 1) = t.takeWhile p) := takeWhile_at HA.out hdt hpd
        clear hd hdt hpd
        go_wp2_with fail
        go_quiet ((first | (go_at_call 38; exact Calls.quiet_of_same (HCK.out _)) | (go_at_call 39; exact Calls.quiet_of_same (HCN.out _))))
        go_wp2_with fail
        obtain ⟨V, hV⟩ : ∃ V, V = v.drewN nq := ⟨_, rfl⟩
        rw [← hV]
        have HSV : Hid (Scn V r s j) := by rw [hV]; exact HSr.out.drewN _
        have HTV : Hid (Turn w V r) := by rw [hV]; exact HT.out.drewN _
        have HBV : Hid (V.heap[g]? = some (.cells #[.func (Fn.func 39) #[] #[], .func (Fn.func 49) #[] #[]] 60 (0, 0))) := by rw [hV]; exact HB0.out
        have HRV : Hid (V.heap[g + 1]? = some (.cells #[.int .i64 0, .int .i64 0, .string ⟨#[]⟩, .int .i64 0] 35 (0, 0))) := by rw [hV]; exact HB1.out
        have hgV : g + 1 < V.heap.size := (Array.getElem?_eq_some_iff.1 HRV.out).1
        have hrV : r < V.heap.size := HSV.out.lt
        have HXJ : Hid ((s.drop i).take (j - i) = x) := by
          unfold Hid
          rw [HX.out, HCT.out, show j - i = (j - i - 1) + 1 by omega, List.take_succ_cons, HW.out]
        have hsl : (⟨s.toArray⟩ : ByteArray).extract i j = ⟨x.toArray⟩ := by rw [ba_extract, HXJ.out]
        have HM : Hid (i + m = j) := by
          unfold Hid
          have e := congrArg List.length HXJ.out
          rw [List.length_take, List.length_drop] at e
          have := HMX.out
          omega
        have HSS : Hid (∀ u, Below V.heap.size V u → (Below V.heap.size V u ∧ u.cell? ⟨g, 1, none⟩ = some (.func (Fn.func 49) #[] #[]) ∧ u.cell? ⟨r, 0, none⟩ = some (.string ⟨s.toArray⟩) ∧ u.cell? ⟨r, 1, none⟩ = some (.int .i64 j))) := fun u hb =>
          ⟨hb, by rw [hb.cell (by show g < V.heap.size; omega), cell_of_row _ _ 1 _ _ _ HBV.out]; rfl, by rw [hb.cell hrV]; exact HSV.out.cell0, by rw [hb.cell hrV]; exact HSV.out.cell1⟩
        have HKV : Hid (∀ u, Below V.heap.size V u → KOK u) := fun u hb => (HK.out.turn HTV.out hr HS.out.lt).below hb (by omega)
        have i1 : (0 : Int) ≤ (i : Int) := by omega
        have i2 : (i : Int) ≤ (j : Int) := by omega
        have i3 : (j : Int) ≤ (s.length : Int) := by omega
        clear hV
        go_wp2_with fail
        go_region_held3 (fun u => Below V.heap.size V u ∧ u.cell? ⟨g, 1, none⟩ = some (.func (Fn.func 49) #[] #[]) ∧ u.cell? ⟨r, 0, none⟩ = some (.string ⟨s.toArray⟩) ∧ u.cell? ⟨r, 1, none⟩ = some (.int .i64 j))
          (first | exact HSS.out _ (Below.refl _ _).drew | exact HSS.out _ HbT.out | exact HSS.out _ (HbT.out.alloc HbT.out.size _) | exact HSS.out _ (((Below.refl _ _).drew).alloc (Nat.le_refl _) _) | (exact HSS.out _ ((((HbT.out.setCell (p := ⟨V.heap.size, 0, none⟩) (Nat.le_refl _) _).setCell (p := ⟨V.heap.size, 1, none⟩) (Nat.le_refl _) _).setCell (p := ⟨V.heap.size, 2, none⟩) (Nat.le_refl _) _).setCell (p := ⟨V.heap.size, 3, none⟩) (Nat.le_refl _) _)))
          ((go_at_call 49; (with_reducible refine (HTT.out _).mono ?_); rintro e U ⟨rfl, hbU⟩
            (first
              | (have hz : U.heap[V.heap.size]? = some (.cells #[.int .i64 0, .int .i64 0, .string ⟨#[]⟩, .int .i64 0] 35 (0, 0)) := by
                   refine (hbU.block V.heap.size ?_).trans ?_
                   · simp
                   · first | exact heap_alloc_new _ _ | exact heap_alloc_new V _
                 have HbT : Hid (Below V.heap.size V U) := by
                   first
                     | (refine (((Below.refl V.heap.size V).alloc (Nat.le_refl _) _).drew).trans (hbU.mono ?_); simp; done)
                     | (refine (((Below.refl V.heap.size V).drew).alloc (Nat.le_refl _) _).trans (hbU.mono ?_); simp; done)
                 have z0 := cell_of_row _ _ 0 _ _ _ hz
                 have z1 := cell_of_row _ _ 1 _ _ _ hz
                 have z2 := cell_of_row _ _ 2 _ _ _ hz
                 have z3 := cell_of_row _ _ 3 _ _ _ hz
                 have y0 := frozen_of_row U V.heap.size 0 _ _ hz
                 have y1 := frozen_of_row U V.heap.size 1 _ _ hz
                 have y2 := frozen_of_row U V.heap.size 2 _ _ hz
                 have y3 := frozen_of_row U V.heap.size 3 _ _ hz
                 have HZ := Lib.hid hz
                 clear hz)
              | (have HbT : Hid (Below V.heap.size V U) := ((Below.refl V.heap.size V).drew).trans hbU))))
        have HYR := Lib.hid (heap_alloc_new U (.cells #[.int .i64 kd, .int .i64 0, .string ⟨tx.toArray⟩, .int .i64 n] 35))
        have HYB : Hid (Below V.heap.size V (U.alloc (.cells #[.int .i64 kd, .int .i64 0, .string ⟨tx.toArray⟩, .int .i64 n] 35))) := HbT.out.alloc HbT.out.size _
        have hbV : V.heap.size ≤ U.heap.size := HbT.out.size
        generalize U.heap.size = b at *
        generalize U.alloc (.cells #[.int .i64 kd, .int .i64 0, .string ⟨tx.toArray⟩, .int .i64 n] 35) = Y at *
        clear HbT hbU
        rotate_left
        have HYR : Hid (((((U.setCell ⟨V.heap.size, 0, none⟩ (.int .i64 kd)).setCell ⟨V.heap.size, 1, none⟩ (.int .i64 0)).setCell ⟨V.heap.size, 2, none⟩ (.string ⟨tx.toArray⟩)).setCell ⟨V.heap.size, 3, none⟩ (.int .i64 n)).heap[V.heap.size]? = some (.cells #[.int .i64 kd, .int .i64 0, .string ⟨tx.toArray⟩, .int .i64 n] 35 (0, 0))) := by
          have h := HZ.out
          unfold Hid
          simp [World.setCell, Array.getElem?_modify, h]
        have HYB : Hid (Below V.heap.size V ((((U.setCell ⟨V.heap.size, 0, none⟩ (.int .i64 kd)).setCell ⟨V.heap.size, 1, none⟩ (.int .i64 0)).setCell ⟨V.heap.size, 2, none⟩ (.string ⟨tx.toArray⟩)).setCell ⟨V.heap.size, 3, none⟩ (.int .i64 n))) := ((((HbT.out.setCell (p := ⟨V.heap.size, 0, none⟩) (Nat.le_refl _) _).setCell (p := ⟨V.heap.size, 1, none⟩) (Nat.le_refl _) _).setCell (p := ⟨V.heap.size, 2, none⟩) (Nat.le_refl _) _).setCell (p := ⟨V.heap.size, 3, none⟩) (Nat.le_refl _) _)
        clear z0 z1 z2 z3 y0 y1 y2 y3 HZ HbT hbU
        generalize ((((U.setCell ⟨V.heap.size, 0, none⟩ (.int .i64 kd)).setCell ⟨V.heap.size, 1, none⟩ (.int .i64 0)).setCell ⟨V.heap.size, 2, none⟩ (.string ⟨tx.toArray⟩)).setCell ⟨V.heap.size, 3, none⟩ (.int .i64 n)) = Y at *
        obtain ⟨b, hbb⟩ : ∃ b, b = V.heap.size := ⟨_, rfl⟩
        rw [← hbb] at HYR ⊢
        have hbV : V.heap.size ≤ b := by omega
        clear hbb
        rotate_left
        all_goals
          have hgb : g + 1 ≠ b := by omega
          have c0 := cell_of_row _ _ 0 _ _ _ HYR.out
          have c1 := cell_of_row _ _ 1 _ _ _ HYR.out
          have c2 := cell_of_row _ _ 2 _ _ _ HYR.out
          have c3 := cell_of_row _ _ 3 _ _ _ HYR.out
          have hbY : b < Y.heap.size := (Array.getElem?_eq_some_iff.1 HYR.out).1
          have HBV2 := HBV
          clear HSS hix hp hsl
          go_wp2_with fail
          refine (valid_any kd 0 n tx HTX.out Y (HKV.out Y HYB.out)).mono ?_
          rintro e Z ⟨rfl, hbZ⟩
          have HYZ : Hid (Z.heap[b]? = some (.cells #[.int .i64 kd, .int .i64 0, .string ⟨tx.toArray⟩, .int .i64 n] 35 (0, 0))) := (hbZ.block b hbY).trans HYR.out
          have HVZ : Hid (Below V.heap.size V Z) := HYB.out.trans (hbZ.mono HYB.out.size)
          have HTZ : Hid (Turn w Z r) := HTV.out.trans (Turn.of_below HVZ.out)
          have HSZ : Hid (Scn Z r s j) := HSV.out.below HVZ.out hrV
          have HRZ : Hid (Z.heap[g + 1]? = some (.cells #[.int .i64 0, .int .i64 0, .string ⟨#[]⟩, .int .i64 0] 35 (0, 0))) := (HVZ.out.block (g + 1) hgV).trans HRV.out
          clear hbZ HYB HYR HVZ HKV c0 c1 c2 c3
          cases hok : okTk ⟨kd, 0, tx, n⟩ with
          | false =>
            have HOK := Lib.hid hok
            clear hok
            go_wp2_with fail
            exact ⟨rfl, HTZ.out, .inr ⟨HOK.out, rfl⟩⟩
          | true =>
            have HOK := Lib.hid hok
            clear hok
            have c0 := cell_of_row _ _ 0 _ _ _ HYZ.out
            have c1 := cell_of_row _ _ 1 _ _ _ HYZ.out
            have c2 := cell_of_row _ _ 2 _ _ _ HYZ.out
            have c3 := cell_of_row _ _ 3 _ _ _ HYZ.out
            have y1 := frozen_of_row Z b 1 _ _ HYZ.out
            have d0 := cell_of_row _ _ 0 _ _ _ HRZ.out
            have d1 := cell_of_row _ _ 1 _ _ _ HRZ.out
            have d2 := cell_of_row _ _ 2 _ _ _ HRZ.out
            have d3 := cell_of_row _ _ 3 _ _ _ HRZ.out
            have x0 := frozen_of_row Z (g + 1) 0 _ _ HRZ.out
            have x1 := frozen_of_row Z (g + 1) 1 _ _ HRZ.out
            have x2 := frozen_of_row Z (g + 1) 2 _ _ HRZ.out
            have x3 := frozen_of_row Z (g + 1) 3 _ _ HRZ.out
            have HT5 := Lib.hid (((((HTZ.out.set_new (k := b) (i := 1) (v := .int .i64 (i : Int)) (by have := HGW.out; omega)).set_new (k := g + 1) (i := 0) (v := .int .i64 kd) (by have := HGW.out; omega)).set_new (k := g + 1) (i := 1) (v := .int .i64 (i : Int)) (by have := HGW.out; omega)).set_new (k := g + 1) (i := 2) (v := .string ⟨tx.toArray⟩) (by have := HGW.out; omega)).set_new (k := g + 1) (i := 3) (v := .int .i64 n) (by have := HGW.out; omega))
            have HS5 := Lib.hid (((((HSZ.out.far (k := b) (o := 1) (v := .int .i64 (i : Int)) (by omega)).far (k := g + 1) (o := 0) (v := .int .i64 kd) (by omega)).far (k := g + 1) (o := 1) (v := .int .i64 (i : Int)) (by omega)).far (k := g + 1) (o := 2) (v := .string ⟨tx.toArray⟩) (by omega)).far (k := g + 1) (o := 3) (v := .int .i64 n) (by omega))
            go_wp2_with fail
            exact bodyPost_ret (v := .agg #[.int .i64 kd, .int .i64 i, .string ⟨tx.toArray⟩, .int .i64 n]) (by simp [results, Tryd.results42, go_sem, d0, d1, d2, d3]) rfl ⟨HT5.out, .inl ⟨HOK.out, rfl, by rw [HM.out]; exact HS5.out⟩⟩
    · have e1 : ¬ (j : Int) < (s.length : Int) := by omega
      have HW : Hid (t.take (j - i - 1) = t.takeWhile p) := by
        unfold Hid
        have e : t.take (j - i - 1) = t := List.take_of_length_le (by have := HLEN.out; omega)
        have h2 := HA.out
        rw [e] at h2 ⊢
        exact (takeWhile_all h2).symm
      go_wp2_with fail
      go_quiet (fail)
      go_wp2_with fail
      obtain ⟨V, hV⟩ : ∃ V, V = v.drewN nq := ⟨_, rfl⟩
      rw [← hV]
      have HSV : Hid (Scn V r s j) := by rw [hV]; exact HSr.out.drewN _
      have HTV : Hid (Turn w V r) := by rw [hV]; exact HT.out.drewN _
      have HBV : Hid (V.heap[g]? = some (.cells #[.func (Fn.func 39) #[] #[], .func (Fn.func 49) #[] #[]] 60 (0, 0))) := by rw [hV]; exact HB0.out
      have HRV : Hid (V.heap[g + 1]? = some (.cells #[.int .i64 0, .int .i64 0, .string ⟨#[]⟩, .int .i64 0] 35 (0, 0))) := by rw [hV]; exact HB1.out
      have hgV : g + 1 < V.heap.size := (Array.getElem?_eq_some_iff.1 HRV.out).1
      have hrV : r < V.heap.size := HSV.out.lt
      have HXJ : Hid ((s.drop i).take (j - i) = x) := by
        unfold Hid
        rw [HX.out, HCT.out, show j - i = (j - i - 1) + 1 by omega, List.take_succ_cons, HW.out]
      have hsl : (⟨s.toArray⟩ : ByteArray).extract i j = ⟨x.toArray⟩ := by rw [ba_extract, HXJ.out]
      have HM : Hid (i + m = j) := by
        unfold Hid
        have e := congrArg List.length HXJ.out
        rw [List.length_take, List.length_drop] at e
        have := HMX.out
        omega
      have HSS : Hid (∀ u, Below V.heap.size V u → (Below V.heap.size V u ∧ u.cell? ⟨g, 1, none⟩ = some (.func (Fn.func 49) #[] #[]) ∧ u.cell? ⟨r, 0, none⟩ = some (.string ⟨s.toArray⟩) ∧ u.cell? ⟨r, 1, none⟩ = some (.int .i64 j))) := fun u hb =>
        ⟨hb, by rw [hb.cell (by show g < V.heap.size; omega), cell_of_row _ _ 1 _ _ _ HBV.out]; rfl, by rw [hb.cell hrV]; exact HSV.out.cell0, by rw [hb.cell hrV]; exact HSV.out.cell1⟩
      have HKV : Hid (∀ u, Below V.heap.size V u → KOK u) := fun u hb => (HK.out.turn HTV.out hr HS.out.lt).below hb (by omega)
      have i1 : (0 : Int) ≤ (i : Int) := by omega
      have i2 : (i : Int) ≤ (j : Int) := by omega
      have i3 : (j : Int) ≤ (s.length : Int) := by omega
      clear hV
      go_wp2_with fail
      go_region_held3 (fun u => Below V.heap.size V u ∧ u.cell? ⟨g, 1, none⟩ = some (.func (Fn.func 49) #[] #[]) ∧ u.cell? ⟨r, 0, none⟩ = some (.string ⟨s.toArray⟩) ∧ u.cell? ⟨r, 1, none⟩ = some (.int .i64 j))
        (first | exact HSS.out _ (Below.refl _ _).drew | exact HSS.out _ HbT.out | exact HSS.out _ (HbT.out.alloc HbT.out.size _) | exact HSS.out _ (((Below.refl _ _).drew).alloc (Nat.le_refl _) _) | (exact HSS.out _ ((((HbT.out.setCell (p := ⟨V.heap.size, 0, none⟩) (Nat.le_refl _) _).setCell (p := ⟨V.heap.size, 1, none⟩) (Nat.le_refl _) _).setCell (p := ⟨V.heap.size, 2, none⟩) (Nat.le_refl _) _).setCell (p := ⟨V.heap.size, 3, none⟩) (Nat.le_refl _) _)))
        ((go_at_call 49; (with_reducible refine (HTT.out _).mono ?_); rintro e U ⟨rfl, hbU⟩
          (first
            | (have hz : U.heap[V.heap.size]? = some (.cells #[.int .i64 0, .int .i64 0, .string ⟨#[]⟩, .int .i64 0] 35 (0, 0)) := by
                 refine (hbU.block V.heap.size ?_).trans ?_
                 · simp
                 · first | exact heap_alloc_new _ _ | exact heap_alloc_new V _
               have HbT : Hid (Below V.heap.size V U) := by
                 first
                   | (refine (((Below.refl V.heap.size V).alloc (Nat.le_refl _) _).drew).trans (hbU.mono ?_); simp; done)
                   | (refine (((Below.refl V.heap.size V).drew).alloc (Nat.le_refl _) _).trans (hbU.mono ?_); simp; done)
               have z0 := cell_of_row _ _ 0 _ _ _ hz
               have z1 := cell_of_row _ _ 1 _ _ _ hz
               have z2 := cell_of_row _ _ 2 _ _ _ hz
               have z3 := cell_of_row _ _ 3 _ _ _ hz
               have y0 := frozen_of_row U V.heap.size 0 _ _ hz
               have y1 := frozen_of_row U V.heap.size 1 _ _ hz
               have y2 := frozen_of_row U V.heap.size 2 _ _ hz
               have y3 := frozen_of_row U V.heap.size 3 _ _ hz
               have HZ := Lib.hid hz
               clear hz)
            | (have HbT : Hid (Below V.heap.size V U) := ((Below.refl V.heap.size V).drew).trans hbU))))
      have HYR := Lib.hid (heap_alloc_new U (.cells #[.int .i64 kd, .int .i64 0, .string ⟨tx.toArray⟩, .int .i64 n] 35))
      have HYB : Hid (Below V.heap.size V (U.alloc (.cells #[.int .i64 kd, .int .i64 0, .string ⟨tx.toArray⟩, .int .i64 n] 35))) := HbT.out.alloc HbT.out.size _
      have hbV : V.heap.size ≤ U.heap.size := HbT.out.size
      generalize U.heap.size = b at *
      generalize U.alloc (.cells #[.int .i64 kd, .int .i64 0, .string ⟨tx.toArray⟩, .int .i64 n] 35) = Y at *
      clear HbT hbU
      rotate_left
      have HYR : Hid (((((U.setCell ⟨V.heap.size, 0, none⟩ (.int .i64 kd)).setCell ⟨V.heap.size, 1, none⟩ (.int .i64 0)).setCell ⟨V.heap.size, 2, none⟩ (.string ⟨tx.toArray⟩)).setCell ⟨V.heap.size, 3, none⟩ (.int .i64 n)).heap[V.heap.size]? = some (.cells #[.int .i64 kd, .int .i64 0, .string ⟨tx.toArray⟩, .int .i64 n] 35 (0, 0))) := by
        have h := HZ.out
        unfold Hid
        simp [World.setCell, Array.getElem?_modify, h]
      have HYB : Hid (Below V.heap.size V ((((U.setCell ⟨V.heap.size, 0, none⟩ (.int .i64 kd)).setCell ⟨V.heap.size, 1, none⟩ (.int .i64 0)).setCell ⟨V.heap.size, 2, none⟩ (.string ⟨tx.toArray⟩)).setCell ⟨V.heap.size, 3, none⟩ (.int .i64 n))) := ((((HbT.out.setCell (p := ⟨V.heap.size, 0, none⟩) (Nat.le_refl _) _).setCell (p := ⟨V.heap.size, 1, none⟩) (Nat.le_refl _) _).setCell (p := ⟨V.heap.size, 2, none⟩) (Nat.le_refl _) _).setCell (p := ⟨V.heap.size, 3, none⟩) (Nat.le_refl _) _)
      clear z0 z1 z2 z3 y0 y1 y2 y3 HZ HbT hbU
      generalize ((((U.setCell ⟨V.heap.size, 0, none⟩ (.int .i64 kd)).setCell ⟨V.heap.size, 1, none⟩ (.int .i64 0)).setCell ⟨V.heap.size, 2, none⟩ (.string ⟨tx.toArray⟩)).setCell ⟨V.heap.size, 3, none⟩ (.int .i64 n)) = Y at *
      obtain ⟨b, hbb⟩ : ∃ b, b = V.heap.size := ⟨_, rfl⟩
      rw [← hbb] at HYR ⊢
      have hbV : V.heap.size ≤ b := by omega
      clear hbb
      rotate_left
      all_goals
        have hgb : g + 1 ≠ b := by omega
        have c0 := cell_of_row _ _ 0 _ _ _ HYR.out
        have c1 := cell_of_row _ _ 1 _ _ _ HYR.out
        have c2 := cell_of_row _ _ 2 _ _ _ HYR.out
        have c3 := cell_of_row _ _ 3 _ _ _ HYR.out
        have hbY : b < Y.heap.size := (Array.getElem?_eq_some_iff.1 HYR.out).1
        have HBV2 := HBV
        clear HSS hsl
        go_wp2_with fail
        refine (valid_any kd 0 n tx HTX.out Y (HKV.out Y HYB.out)).mono ?_
        rintro e Z ⟨rfl, hbZ⟩
        have HYZ : Hid (Z.heap[b]? = some (.cells #[.int .i64 kd, .int .i64 0, .string ⟨tx.toArray⟩, .int .i64 n] 35 (0, 0))) := (hbZ.block b hbY).trans HYR.out
        have HVZ : Hid (Below V.heap.size V Z) := HYB.out.trans (hbZ.mono HYB.out.size)
        have HTZ : Hid (Turn w Z r) := HTV.out.trans (Turn.of_below HVZ.out)
        have HSZ : Hid (Scn Z r s j) := HSV.out.below HVZ.out hrV
        have HRZ : Hid (Z.heap[g + 1]? = some (.cells #[.int .i64 0, .int .i64 0, .string ⟨#[]⟩, .int .i64 0] 35 (0, 0))) := (HVZ.out.block (g + 1) hgV).trans HRV.out
        clear hbZ HYB HYR HVZ HKV c0 c1 c2 c3
        cases hok : okTk ⟨kd, 0, tx, n⟩ with
        | false =>
          have HOK := Lib.hid hok
          clear hok
          go_wp2_with fail
          exact ⟨rfl, HTZ.out, .inr ⟨HOK.out, rfl⟩⟩
        | true =>
          have HOK := Lib.hid hok
          clear hok
          have c0 := cell_of_row _ _ 0 _ _ _ HYZ.out
          have c1 := cell_of_row _ _ 1 _ _ _ HYZ.out
          have c2 := cell_of_row _ _ 2 _ _ _ HYZ.out
          have c3 := cell_of_row _ _ 3 _ _ _ HYZ.out
          have y1 := frozen_of_row Z b 1 _ _ HYZ.out
          have d0 := cell_of_row _ _ 0 _ _ _ HRZ.out
          have d1 := cell_of_row _ _ 1 _ _ _ HRZ.out
          have d2 := cell_of_row _ _ 2 _ _ _ HRZ.out
          have d3 := cell_of_row _ _ 3 _ _ _ HRZ.out
          have x0 := frozen_of_row Z (g + 1) 0 _ _ HRZ.out
          have x1 := frozen_of_row Z (g + 1) 1 _ _ HRZ.out
          have x2 := frozen_of_row Z (g + 1) 2 _ _ HRZ.out
          have x3 := frozen_of_row Z (g + 1) 3 _ _ HRZ.out
          have HT5 := Lib.hid (((((HTZ.out.set_new (k := b) (i := 1) (v := .int .i64 (i : Int)) (by have := HGW.out; omega)).set_new (k := g + 1) (i := 0) (v := .int .i64 kd) (by have := HGW.out; omega)).set_new (k := g + 1) (i := 1) (v := .int .i64 (i : Int)) (by have := HGW.out; omega)).set_new (k := g + 1) (i := 2) (v := .string ⟨tx.toArray⟩) (by have := HGW.out; omega)).set_new (k := g + 1) (i := 3) (v := .int .i64 n) (by have := HGW.out; omega))
          have HS5 := Lib.hid (((((HSZ.out.far (k := b) (o := 1) (v := .int .i64 (i : Int)) (by omega)).far (k := g + 1) (o := 0) (v := .int .i64 kd) (by omega)).far (k := g + 1) (o := 1) (v := .int .i64 (i : Int)) (by omega)).far (k := g + 1) (o := 2) (v := .string ⟨tx.toArray⟩) (by omega)).far (k := g + 1) (o := 3) (v := .int .i64 n) (by omega))
          go_wp2_with fail
          exact bodyPost_ret (v := .agg #[.int .i64 kd, .int .i64 i, .string ⟨tx.toArray⟩, .int .i64 n]) (by simp [results, Tryd.results42, go_sem, d0, d1, d2, d3]) rfl ⟨HT5.out, .inl ⟨HOK.out, rfl, by rw [HM.out]; exact HS5.out⟩⟩
end Go.Proofs.YtdllceggjjopgaaDoor
