/- Contract of the scanner's pass. -/
import Derived.Test.YtdllceggjjopgaaDoorDecL
import Derived.Lib.Strings
import Derived.Lib.IndexBytes
namespace Go.Proofs.YtdllceggjjopgaaDoor
open Go.RowKit

/-- a scanner in block r -/
def Scn (w : World) (r : Nat) (s : List UInt8) (i : Nat) : Prop := w.heap[r]? = some (.cells #[.string ⟨s.toArray⟩, .int .i64 i] 45 (0, 0))
theorem Scn.cell0 {w : World} {r i : Nat} {s : List UInt8} (h : Scn w r s i) : w.cell? ⟨r, 0, none⟩ = some (.string ⟨s.toArray⟩) := cell_of_row w r 0 _ _ _ h
theorem Scn.cell1 {w : World} {r i : Nat} {s : List UInt8} (h : Scn w r s i) : w.cell? ⟨r, 1, none⟩ = some (.int .i64 i) := cell_of_row w r 1 _ _ _ h
theorem Scn.frozen {w : World} {r i : Nat} {s : List UInt8} (h : Scn w r s i) (k : Nat) : w.frozen? ⟨r, k, none⟩ = false := by
  unfold Scn at h
  simp [World.frozen?, h]
theorem Scn.lt {w : World} {r i : Nat} {s : List UInt8} (h : Scn w r s i) : r < w.heap.size := World.block_lt_of_cell? w _ h.cell0
theorem Scn.drewN {w : World} {r i : Nat} {s : List UInt8} (h : Scn w r s i) (n : Nat) : Scn (w.drewN n) r s i := h
theorem Scn.set {w : World} {r i : Nat} {s : List UInt8} (h : Scn w r s i) (k : Nat) : Scn (w.setCell ⟨r, 1, none⟩ (.int .i64 k)) r s k := by
  unfold Scn at h ⊢
  simp [World.setCell, Array.getElem?_modify, h]
theorem Scn.below {w w' : World} {r i B : Nat} {s : List UInt8} (h : Scn w r s i) (hb : Below B w w') (hB : r < B) : Scn w' r s i := (hb.block r hB).trans h
theorem KOK.turn {w w' : World} {r : Nat} (h : KOK w) (ht : Turn w w' r) (hr : 2 < r) (hl : r < w.heap.size) : KOK w' := h.below (ht.below (B := 3) (by omega) hl) (by omega)

/-- nothing is passed over here -/
def NoSkip (x : List UInt8) : Prop := ∀ n, step x ≠ .skip n
/-- what pass leaves -/
def Passed (w : World) (r : Nat) (s : List UInt8) (i : Nat) (w' : World) : Prop := ∃ j : Nat, i ≤ j ∧ j ≤ s.length ∧ Scn w' r s j ∧ Turn w w' r ∧ lex i (s.drop i) = lex j (s.drop j) ∧ (j < s.length → NoSkip (s.drop j))

/-- a piece of a string -/
theorem ba_ext {a b : ByteArray} (h : a.data.toList = b.data.toList) : a = b := by
  obtain ⟨⟨x⟩⟩ := a
  obtain ⟨⟨y⟩⟩ := b
  have h' : x = y := h
  rw [h']
theorem ba_extract (s : List UInt8) (j k : Nat) : (⟨s.toArray⟩ : ByteArray).extract j k = ⟨((s.drop j).take (k - j)).toArray⟩ :=
  ba_ext (Lib.extract_data (⟨s.toArray⟩ : ByteArray) j k)
theorem ba_drop (s : List UInt8) (j : Nat) : (⟨s.toArray⟩ : ByteArray).extract j s.length = ⟨(s.drop j).toArray⟩ := by
  rw [ba_extract, List.take_of_length_le (by rw [List.length_drop]; omega)]
theorem prefix_iff (c : UInt8) (t : List UInt8) : Lib.hasPrefix (c :: t) [47, 47] = decide (c = 47 ∧ t.head? = some 47) := by
  unfold Lib.hasPrefix
  cases t with
  | nil => simp [List.isPrefixOf]
  | cons d t =>
    rw [Bool.eq_iff_iff]
    simp
    constructor
    · rintro ⟨h1, h2⟩; exact ⟨h1.symm, h2.symm⟩
    · rintro ⟨h1, h2⟩; exact ⟨h1.symm, h2.symm⟩
theorem noskip {c : UInt8} {t : List UInt8} (h1 : isSpc c = false) (h2 : ¬ (c = 47 ∧ t.head? = some 47)) : NoSkip (c :: t) := by
  intro n
  rcases step_ways c t with h | h | h | h | ⟨h, hn⟩ | ⟨_, h2, h3, h4⟩
  · rw [h1] at h; cases h
  · exact absurd h h2
  · rw [step_let h]; split <;> intro e <;> cases e
  · rw [step_dig h]; split <;> intro e <;> cases e
  · rw [step_sgn h hn]; intro e; cases e
  · rw [step_oth h1 h2 h3 h4]; intro e; cases e

set_option maxRecDepth 100000 in
set_option maxHeartbeats 4000000 in
theorem pass_any (r : Nat) (s : List UInt8) (i : Nat) (w : World) (h : Scn w r s i) (hi : i ≤ s.length) (hs : s.length ≤ 65536) (hK : KOK w) (hr : 2 < r) :
    Calls Tryd.prog 41 #[.pointer (some ⟨r, 0, none⟩)] w fun e w' => e = .returned (.tuple #[]) ∧ Passed w r s i w' := by
  have HS := Lib.hid h
  have HK := Lib.hid hK
  have hrl := h.lt
  clear h hK
  go_enter Tryd.func41, Tryd.ntmps41
  go_wp2_with fail
  go_loopw [2] (fun _ wr => ∃ j : Nat, i ≤ j ∧ j ≤ s.length ∧ Hid (Scn wr r s j) ∧ Hid (Turn w wr r) ∧ Hid (lex i (s.drop i) = lex j (s.drop j))) (fun _ wr => s.length - (intOf ((wr.cell? ⟨r, 1, none⟩).getD undef)).toNat)
  case atStart => exact ⟨i, Nat.le_refl _, hi, HS, Turn.refl _ _, rfl⟩
  case round =>
    obtain ⟨j, hij, hj, HSr, HT, HL⟩ := hrel
    rename World => v
    have c0 := HSr.out.cell0
    have c1 := HSr.out.cell1
    have HC1 := Lib.hid c1
    have HME : Hid (∀ (W : World) (k : Nat), Scn W r s k → j < k → k ≤ s.length → s.length - (intOf ((W.cell? ⟨r, 1, none⟩).getD undef)).toNat < s.length - (intOf ((v.cell? ⟨r, 1, none⟩).getD undef)).toNat) := fun W k hW h1 h2 => by
      rw [hW.cell1, HC1.out]
      simp [intOf]
      omega
    by_cases hlt : j < s.length
    · have e1 : (j : Int) < (s.length : Int) := by omega
      have e2 : (0 : Int) ≤ (j : Int) := by omega
      obtain ⟨c, t, hct⟩ : ∃ c t, s.drop j = c :: t := by
        cases hd : s.drop j with
        | nil => have := congrArg List.length hd; rw [List.length_drop] at this; simp at this; omega
        | cons c t => exact ⟨c, t, rfl⟩
      have hlen : t.length + 1 = s.length - j := by have := congrArg List.length hct; rw [List.length_drop] at this; simpa using this.symm
      obtain ⟨x, hx⟩ : ∃ x, x = c :: t := ⟨_, rfl⟩
      have hsl : (⟨s.toArray⟩ : ByteArray).extract j s.length = ⟨x.toArray⟩ := by rw [ba_drop, hct, hx]
      have hxl : x.length ≤ 65536 := by rw [hx]; simp; omega
      have hxp : 0 < x.length := by rw [hx]; simp
      obtain ⟨hp, hix⟩ := ba_at (show x[0]? = some c by rw [hx]; rfl)
      have HX := Lib.hid hx
      have HCT := Lib.hid hct
      have HLEN := Lib.hid hlen
      have hk := cls_lt c
      have HSD : Hid (∀ n, Scn (v.drewN n) r s j) := fun n => HSr.out.drewN n
      have HKD : Hid (∀ n, KOK (v.drewN n)) := fun n => (HK.out.turn HT.out hr hrl).below (below_drewN (Below.refl _ _) n) (by have := HT.out.size; omega)
      clear hx hct hlen
      go_wp2_with fail
      go_quiet (fail)
      go_wp2_with fail
      go_quiet (fail)
      go_wp2_with fail
      clear hsl
      refine (classOf_any c _ (HKD.out _)).mono ?_
      rintro e V ⟨rfl, hV⟩
      have HSV : Hid (Scn V r s j) := by rw [← hV]; exact HSD.out _
      have HTV : Hid (Turn w V r) := by rw [← hV]; exact HT.out.drewN _
      have c1 := HSV.out.cell1
      have f1 := HSV.out.frozen 1
      clear hV HSD HKD
      cases hsp : isSpc c with
      | true =>
        have hz : (((cls c : Nat) : Int) == 1) = true := by unfold isSpc at hsp; simp at hsp ⊢; omega
        have HL2 : Hid (lex i (s.drop i) = lex (j + 1) (s.drop (j + 1))) := by
          unfold Hid
          rw [HL.out, lex_skip (by rw [HCT.out]; simp) j (by rw [HCT.out]; exact step_spc hsp), List.drop_drop]
        clear hsp hix
        go_wp2_with fail
        exact ⟨⟨j + 1, by omega, by omega, HSV.out.set (j + 1), HTV.out.setCell, HL2.out⟩, HME.out _ (j + 1) (HSV.out.set (j + 1)) (by omega) (by omega)⟩
      | false =>
        have hz : (((cls c : Nat) : Int) == 1) = false := by unfold isSpc at hsp; simp at hsp ⊢; omega
        have HSP := Lib.hid hsp
        clear hsp hix
        go_wp2_with fail
        refine (Tryd.strings_HasPrefix ⟨x.toArray⟩ ⟨#[47, 47]⟩ _).mono ?_
        rintro e V2 ⟨rfl, rfl⟩
        rw [show Lib.hasPrefix (⟨x.toArray⟩ : ByteArray).data.toList (⟨#[47, 47]⟩ : ByteArray).data.toList = Lib.hasPrefix (c :: t) [47, 47] from by rw [HX.out], prefix_iff]
        by_cases hcm : c = 47 ∧ t.head? = some 47
        · rw [decide_eq_true hcm]
          have HCM := Lib.hid hcm
          obtain ⟨m, hm⟩ : ∃ m, m = lineLen x := ⟨_, rfl⟩
          have hm1 : 1 ≤ m ∧ m ≤ x.length := by
            rw [hm, HX.out]
            exact takeWhile_pos (by rw [hcm.1]; rfl)
          have HL2 : Hid (lex i (s.drop i) = lex (j + m) (s.drop (j + m))) := by
            unfold Hid
            rw [HL.out, lex_skip (n := m) (by rw [HCT.out]; simp) j (by rw [HCT.out, hm, HX.out, hcm.1]; exact step_com hcm.2), List.drop_drop]
          have HLL : Hid (∀ W, Calls Tryd.prog 54 #[.string ⟨x.toArray⟩] W fun e w' => e = .returned (.int .i64 m) ∧ W = w') := fun W => by rw [hm]; exact lineLength_any x W
          have hxs : x.length = s.length - j := by rw [HX.out]; exact HLEN.out
          have hjm : j + m ≤ s.length := by omega
          have w1 : IntKind.i64.wrap ((j : Int) + (m : Int)) = (j : Int) + (m : Int) := IntWalk.i64_in _ (by omega)
          clear hcm hm hxs hz hp hxp
          go_wp2_with fail
          refine wp_region_still_tail 9 (by kernel_rfl) (by kernel_rfl) ?_
          simp only [List.take_succ_cons, List.take_zero, List.drop_succ_cons, List.drop_zero]
          repeat still_step
          still_call ((HLL.out _).mono fun _ _ h => ⟨h.1, h.2.symm⟩)
          repeat still_step
          refine wpStill_nil ?_
          change wpList _ _ _ _ _ V2.drew
          go_wp2_with fail
          exact ⟨⟨j + m, by omega, by omega, (HSV.out.drewN 1).set (j + m), (HTV.out.drewN 1).setCell, HL2.out⟩, HME.out _ (j + m) ((HSV.out.drewN 1).set (j + m)) (by omega) (by omega)⟩
        · rw [decide_eq_false hcm]
          have HN : Hid (NoSkip (s.drop j)) := by unfold Hid; rw [HCT.out]; exact noskip HSP.out hcm
          clear hcm
          go_wp2_with fail
          refine bodyPost_ret (results_none rfl _ _ _) rfl ?_
          exact ⟨rfl, j, hij, hj, HSV.out, HTV.out, HL.out, fun _ => HN.out⟩
    · have e1 : ¬ (j : Int) < (s.length : Int) := by omega
      go_wp2_with fail
      go_quiet (fail)
      go_wp2_with fail
      first | go_end0 | refine bodyPost_ret (results_none rfl _ _ _) rfl ?_
      exact ⟨rfl, j, hij, hj, HSr.out.drewN _, HT.out.drewN _, HL.out, fun h => absurd h hlt⟩
end Go.Proofs.YtdllceggjjopgaaDoor
