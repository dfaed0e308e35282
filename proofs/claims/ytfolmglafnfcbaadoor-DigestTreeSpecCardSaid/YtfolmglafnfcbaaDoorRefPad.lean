/- Contract of the reference's padded. -/
import Derived.Test.YtfolmglafnfcbaaDoorPadded
import Derived.Test.YtfolmglafnfcbaaDoorHand
namespace Go.Proofs.YtfolmglafnfcbaaDoor
open Go.RowKit

/-- how many zeros stand behind the byte 0x80 -/
def zeroN (n : Nat) : Nat := padSize (n % 64) - n % 64 - 9
theorem zeroN_at (n : Nat) : zeroN n < 64 ∧ (n + 1 + zeroN n) % 64 = 56 := by
  unfold zeroN padSize
  split <;> omega
theorem padAll_flat (b : List UInt8) : padAll b = (b ++ [128] ++ List.replicate (zeroN b.length) 0) ++ lenTail b.length 8 := by
  have hd : (b.drop (b.length - b.length % 64)).length = b.length % 64 := by rw [List.length_drop]; omega
  unfold padAll padTail padPre zeroN
  rw [hd, ← List.append_assoc, ← List.append_assoc, List.take_append_drop, List.append_assoc b [128]]
  rfl
theorem lenTail_take (many j : Nat) (h : j < 8) : (lenTail many 8).take (j + 1) = (lenTail many 8).take j ++ [lenByte many (7 - j)] := by
  match j, h with
  | 0, _ => rfl
  | 1, _ => rfl
  | 2, _ => rfl
  | 3, _ => rfl
  | 4, _ => rfl
  | 5, _ => rfl
  | 6, _ => rfl
  | 7, _ => rfl
theorem lenTail_step (many i : Nat) (h : i < 8) : (lenTail many 8).take (8 - i) = (lenTail many 8).take (8 - (i + 1)) ++ [lenByte many i] := by
  have e := lenTail_take many (7 - i) (by omega)
  rw [show 7 - i + 1 = 8 - i by omega, show 7 - (7 - i) = i by omega] at e
  rw [e, show 8 - (i + 1) = 7 - i by omega]
theorem padAll_len (b : List UInt8) : (padAll b).length = b.length + 1 + zeroN b.length + 8 := by
  rw [padAll_flat, List.length_append, List.length_append, List.length_append, List.length_replicate, lenTail_length]
  rfl

def sliceLen : Value → Nat
  | .slice _ n _ => n
  | _ => 0
/-- one byte in a place, as append takes it -/
theorem src_byte (w : World) (u : UInt8) (v : Int) (hv : v = (u.toNat : Int)) : Src Tryd.prog 1 22 (.slice (some ⟨w.heap.size, 0, none⟩) 1 1) 1 (bytesV [u]) (w.alloc (.cells #[.int .u8 v] 5)) := by
  subst hv
  refine Src.ofSlice _ Tryd.underlying22 _ 1 1 (bytesV [u]) rfl (fun j x hx => ?_) (bytesV_one [u])
  rw [add_lit', Nat.zero_add, cell_of_row _ _ j _ _ _ (heap_alloc_new _ _)]
  match j, hx with
  | 0, hx => simpa [bytesV] using hx
theorem Below.new1 (w : World) (o : Obj) : Below w.heap.size w (w.alloc o) := (Below.refl _ _).alloc (Nat.le_refl _) _

set_option maxRecDepth 100000 in
set_option maxHeartbeats 2000000 in
theorem refpad_any (A : Option Addr) (n c : Nat) (bs : List UInt8) (w : World) (hr : RdB w w.heap.size A n bs) (hn : n ≤ 34359738368) :
    Calls Tryd.prog 32 #[.slice A n c] w fun e w' => ∃ g m cap : Nat, e = .returned (.slice (some ⟨g, 0, none⟩) m cap) ∧ OwnB w' w.heap.size g m cap (padAll bs) ∧ Below w.heap.size w w' := by
  have HL := Lib.hid hr.1
  have HR := Lib.hid hr
  clear hr
  obtain ⟨iB, hiB, hzB, h1B, h2B⟩ := info_parts byteInfo
  obtain ⟨w1, hw1⟩ : ∃ w1, w.alloc (.cells #[] 5) = w1 := ⟨_, rfl⟩
  have hb1 : Below w.heap.size w w1 := by rw [← hw1]; exact Below.new1 w _
  have ho1 : Owns w1 w.heap.size 5 1 w.heap.size 0 0 [] := by rw [← hw1]; exact owns0 w _ (Nat.le_refl _)
  have HB1 := Lib.hid hb1
  have HO1 := Lib.hid ho1
  have HW1 := Lib.hid hw1
  have HS1 : Hid (Src Tryd.prog 1 22 (.slice A n c) n (bytesV bs) w1) := (HR.out.below (B' := w.heap.size) hb1 (Nat.le_refl _)).srcA
  have hz1 := hb1.size
  clear hw1 hb1 ho1
  go_enter Tryd.func32, Tryd.ntmps32
  go_wp2_with (first
    | (at_builtin; rw [HW1.out]; refine wpList_append_owns _ rfl (.tmp 6) (.tmp 7) 22 22 rfl w.heap.size 5 iB _ 1 1 Tryd.underlying22 hiB hzB h1B h2B rfl w.heap.size 0 0 _ rfl HO1.out _ rfl n (bytesV bs) HS1.out (by unfold maxLen; omega) (by omega) hz1 ?_
       intro g2 cap2 w2 HO2 HT2 HG2
       simp only [Nat.zero_add, List.nil_append] at HO2 ⊢
       have HB2 : Hid (Below w.heap.size w w2) := HB1.out.trans (HT2.out.below (Nat.le_refl _) HO1.out.lt)
       have HZ2 := Lib.hid HB2.out.size)
    | (at_builtin; refine wpList_append_owns _ rfl (.tmp 8) (.tmp 9) 22 22 rfl w.heap.size 5 iB _ 1 1 Tryd.underlying22 hiB hzB h1B h2B rfl g2 n cap2 _ rfl (HO2.out.below (Below.new1 w2 _) HO2.out.lt) _ rfl 1 (bytesV [128]) (src_byte w2 128 128 rfl) (by unfold maxLen; omega) (by omega) (Nat.le_trans HZ2.out (Below.new1 w2 _).size) ?_
       intro g3 cap3 w3 HO3 HT3 HG3
       have HB3 : Hid (Below w.heap.size w w3) := (HB2.out.trans ((Below.new1 w2 _).mono HZ2.out)).trans (HT3.out.below HO2.out.2.1 (Nat.lt_of_lt_of_le HO2.out.lt (Below.new1 w2 _).size))))
  have HO3' : Hid (OwnB w3 w.heap.size g3 (n + 1) cap3 (bs ++ [128])) := by
    have h := HO3.out
    rw [← bytesV_append] at h
    exact h
  clear HO3 HT3 HG3 HO2 HT2 HG2 HB2 HZ2 HS1 HO1 HB1
  obtain ⟨z, hz⟩ : ∃ z, z = zeroN n := ⟨_, rfl⟩
  obtain ⟨hz64, hz56⟩ := zeroN_at n
  rw [← hz] at hz64 hz56
  have HZN := Lib.hid hz
  clear hz
  go_loopw [3] (fun v wr => ∃ j g cap : Nat, v = .slice (some ⟨g, 0, none⟩) (n + 1 + j) cap ∧ j ≤ z ∧ Hid (OwnB wr w.heap.size g (n + 1 + j) cap (bs ++ [128] ++ List.replicate j 0)) ∧ Hid (Below w.heap.size w wr)) (fun v _ => n + 1 + z - sliceLen v)
  case atStart => exact ⟨0, g3, cap3, rfl, by omega, by unfold Hid; rw [List.replicate_zero, List.append_nil]; exact HO3'.out, HB3⟩
  case round =>
    obtain ⟨j, g, cap, rfl, hj, HO, HB⟩ := hrel
    have zr := HB.out.size
    clear HO3' HB3
    by_cases hend : j = z
    · have h56 : ((n : Int) + 1 + (j : Int)) % 64 = 56 := by omega
      subst hend
      obtain ⟨P, hP⟩ : ∃ P, P = bs ++ [128] ++ List.replicate j 0 := ⟨_, rfl⟩
      have HP := Lib.hid hP
      rw [← hP] at HO
      clear hP
      go_wp2_with fail
      clear h56
      go_loopw [3, 5] (fun v x wr => ∃ i g cap : Nat, i ≤ 8 ∧ x = .int .i64 ((i : Int) - 1) ∧ v = .slice (some ⟨g, 0, none⟩) (n + 1 + j + (8 - i)) cap ∧ Hid (OwnB wr w.heap.size g (n + 1 + j + (8 - i)) cap (P ++ (lenTail n 8).take (8 - i))) ∧ Hid (Below w.heap.size w wr)) (fun _ x _ => (intOf x + 1).toNat)
      case atStart => exact ⟨8, g, cap, by omega, rfl, rfl, by unfold Hid; rw [Nat.sub_self, List.take_zero, List.append_nil]; exact HO, HB⟩
      case round =>
        obtain ⟨i, g5, cap5, hi8, rfl, rfl, HO5, HB5⟩ := hrel
        clear HO HB zr
        have zr5 := HB5.out.size
        by_cases hi0 : i = 0
        · subst hi0
          go_wp2_with fail
          refine bodyPost_ret (v := .slice (some ⟨g5, 0, none⟩) (n + 1 + j + (8 - 0)) cap5) (by simp [results, Tryd.results32, go_sem]) rfl ⟨g5, _, cap5, rfl, ?_, HB5.out⟩
          have h := HO5.out
          have e := padAll_flat bs
          rw [← HL.out, ← HZN.out, ← HP.out] at e
          rw [List.take_of_length_le (by rw [lenTail_length]; omega), ← e] at h
          exact h
        · obtain ⟨i', rfl⟩ : ∃ i', i = i' + 1 := ⟨i - 1, by omega⟩
          have e : ((i' + 1 : Nat) : Int) - 1 = (i' : Int) := by omega
          simp only [e]
          have i0 : (0 : Int) ≤ (i' : Int) := by omega
          have i8 : (i' : Int) < 8 := by omega
          have hbn : (n : Int) * 8 < 18446744073709551616 := by omega
          clear e
          go_wp2_with (first
            | (at_builtin; refine wpList_append_owns _ rfl (.tmp 26) (.tmp 32) 22 22 rfl w.heap.size 5 iB _ 1 1 Tryd.underlying22 hiB hzB h1B h2B rfl g5 (n + 1 + j + (8 - (i' + 1))) cap5 _ rfl (HO5.out.below (Below.new1 wr _) HO5.out.lt) _ rfl 1 (bytesV [lenByte n i']) (src_byte wr (lenByte n i') _ ?hv) (by unfold maxLen; omega) (by omega) (Nat.le_trans zr5 (Below.new1 wr _).size) ?hrest))
          case hv => exact (lenByte_toNat n i').symm
          case hrest =>
            intro g6 cap6 w6 HO6 HT6 HG6
            have HB6 : Hid (Below w.heap.size w w6) := (HB5.out.trans ((Below.new1 wr _).mono zr5)).trans (HT6.out.below HO5.out.2.1 (Nat.lt_of_lt_of_le HO5.out.lt (Below.new1 wr _).size))
            go_wp2_with fail
            go_roundw
            case rel =>
              have hk : 7 - i' + 1 = 8 - i' := by omega
              have h := HO6.out
              rw [← bytesV_append, Nat.add_assoc (n + 1 + j), hk, List.append_assoc, show 7 - i' = 8 - (i' + 1) by omega, ← lenTail_step n i' (by omega)] at h
              refine ⟨i', g6, cap6, by omega, rfl, ?_, h, HB6⟩
              rw [show n + 1 + j + (7 - i') + 1 = n + 1 + j + (8 - i') by omega]
            case measure => simp [intOf]
    · have h56 : ¬ ((n : Int) + 1 + (j : Int)) % 64 = 56 := by omega
      go_wp2_with (first
        | (at_builtin; refine wpList_append_owns _ rfl (.tmp 15) (.tmp 16) 22 22 rfl w.heap.size 5 iB _ 1 1 Tryd.underlying22 hiB hzB h1B h2B rfl g (n + 1 + j) cap _ rfl (HO.out.below (Below.new1 wr _) HO.out.lt) _ rfl 1 (bytesV [0]) (src_byte wr 0 0 rfl) (by unfold maxLen; omega) (by omega) (Nat.le_trans zr (Below.new1 wr _).size) ?_
           intro g4 cap4 w4 HO4 HT4 HG4
           have HB4 : Hid (Below w.heap.size w w4) := (HB.out.trans ((Below.new1 wr _).mono zr)).trans (HT4.out.below HO.out.2.1 (Nat.lt_of_lt_of_le HO.out.lt (Below.new1 wr _).size))))
      go_roundw
      case rel =>
        refine ⟨j + 1, g4, cap4, rfl, by omega, ?_, HB4⟩
        have h := HO4.out
        rw [← bytesV_append] at h
        rw [List.replicate_succ', ← List.append_assoc]
        exact h
      case measure => simp [sliceLen]; omega
end Go.Proofs.YtfolmglafnfcbaaDoor
