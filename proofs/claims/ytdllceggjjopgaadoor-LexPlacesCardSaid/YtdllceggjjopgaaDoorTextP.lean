/- Contracts of Text, of both sides. -/
import Derived.Test.YtdllceggjjopgaaDoorLexP
namespace Go.Proofs.YtdllceggjjopgaaDoor
open Go.RowKit

/-- the texts of tokens, a space between two -/
def textL (l : List Tk) : List UInt8 := Lib.join (l.map wordL) [32]
/-- what Text answers -/
def textOut (l : List Tk) : List UInt8 × Int := if l.all okTk then (textL l, 0) else ([], 50)
theorem textOut_ok {l : List Tk} (h : l.all okTk = true) : textOut l = (textL l, 0) := by unfold textOut; rw [if_pos h]
theorem textOut_bad {l : List Tk} (h : l.all okTk = false) : textOut l = ([], 50) := by unfold textOut; rw [h]; rfl
theorem ok_num_bd {k p n : Int} {x : List UInt8} (h : okTk ⟨k, p, x, n⟩ = true) : k = 2 → 0 ≤ n ∧ n ≤ 1099511627776 := by
  rintro rfl
  rw [ok_num] at h
  simp at h
  exact h.2
theorem allTk_snoc {l : List Tk} {j : Nat} {t : Tk} (h : l[j]? = some t) : (l.take (j + 1)).all okTk = ((l.take j).all okTk && okTk t) := by
  rw [List.take_add_one, h, List.all_append]
  simp
theorem allTk_false {l : List Tk} {j : Nat} {t : Tk} (h : l[j]? = some t) (ht : okTk t = false) : l.all okTk = false := by
  rw [← Bool.not_eq_true]
  intro h1
  have := List.all_eq_true.1 h1 t (List.mem_of_getElem? h)
  rw [ht] at this
  cases this
/-- words in memory, as Join wants them -/
def strV (x : List UInt8) : List Value := [.string ⟨x.toArray⟩]
theorem strV_len (x : List UInt8) : (strV x).length = 1 := rfl
theorem strV_one (k : List UInt8) : ∀ u ∈ strV k, u.oneCell' = true := by
  intro u hu
  simp only [strV, List.mem_cons, List.not_mem_nil, or_false] at hu
  rcases hu with rfl
  rfl
theorem strInfo : (Tryd.prog.info? 9).map (fun i => (i.zero, i.size, i.bytes)) = some (some (.string ⟨#[]⟩), 1, 16) := by kernel_rfl

set_option maxRecDepth 100000 in
set_option maxHeartbeats 4000000 in
theorem text_any (A : Option Addr) (na ca : Nat) (a : List Tk) (w : World) (ha : RdT w w.heap.size A na a) (hla : na ≤ 1099511627776) (htx : ∀ t ∈ a, t.text.length ≤ maxLen) (hlen : (textL a).length ≤ 140737488355328) (hK : KOK w) :
    Calls Tryd.prog 16 #[.slice A na ca] w fun e w' => e = .returned (.tuple #[.string ⟨(textOut a).1.toArray⟩, .int .i64 (textOut a).2]) ∧ Below w.heap.size w w' := by
  have RA := Lib.hid ha
  have EA := Lib.hid ha.1
  have HK := Lib.hid hK
  have HTX := Lib.hid htx
  have HLEN := Lib.hid hlen
  clear ha hK htx hlen
  obtain ⟨iS, hiS, hzS, hsS, hbS⟩ := info_parts strInfo
  have hmk := run_make (P := Tryd.prog) w 40 9 iS _ Tryd.underlying40 hiS hzS .i64 .i64 0 (na : Int) (by omega) (by omega) (by rw [hbS]; omega) (by omega)
  simp only [Int.toNat_natCast, hsS, Nat.mul_one, Int.toNat_zero] at hmk
  have HO0 : Hid (Owns (w.alloc (.cells (madeCells (Value.string ⟨#[]⟩).cells na) 9)) w.heap.size 9 1 w.heap.size 0 na (flatE strV [])) :=
    ⟨rfl, Nat.le_refl _, Nat.zero_le _, by unfold maxLen; omega, _, heap_alloc_new w _, by rw [size_madeCells]; simp, rfl⟩
  have HB0 := Lib.hid (Below.new1 w (.cells (madeCells (Value.string ⟨#[]⟩).cells na) 9))
  go_enter Tryd.func16, Tryd.ntmps16
  go_wp2_with fail
  clear hmk
  go_loopw [4, 12] (fun o v wr => ∃ j g cap : Nat, o = .slice (some ⟨g, 0, none⟩) j cap ∧ v = .int .i64 j ∧ j ≤ na ∧ Hid (Owns wr w.heap.size 9 1 g j cap (flatE strV ((a.take j).map wordL))) ∧ Hid ((a.take j).all okTk = true) ∧ Hid (Below w.heap.size w wr)) (fun _ v _ => na - (intOf v).toNat)
  case atStart => exact ⟨0, w.heap.size, na, rfl, rfl, Nat.zero_le _, HO0, rfl, HB0⟩
  case round =>
    clear HO0 HB0
    obtain ⟨j, g, cap, rfl, rfl, hj, HO, HA, HB⟩ := hrel
    rename World => v
    by_cases hlt : j < na
    · obtain ⟨b1, o1, ⟨k, p, x, n⟩, rfl, hb1, hx, hc⟩ := (RA.out.below HB.out HB.out.size).one j hlt
      obtain ⟨c0, c1, c2, c3⟩ := tk_cells hc
      have hxl := HTX.out _ (List.mem_of_getElem? hx)
      have HXL := Lib.hid hxl
      have e2 : (j : Int) < (na : Int) := by omega
      have HB1 := Lib.hid (Below.new1 v (.cells #[.int .i64 k, .int .i64 p, .string ⟨x.toArray⟩, .int .i64 n] 35))
      have HBv : Hid (Below w.heap.size w (v.alloc (.cells #[.int .i64 k, .int .i64 p, .string ⟨x.toArray⟩, .int .i64 n] 35))) := HB.out.trans (HB1.out.mono HB.out.size)
      have HKv : Hid (KOK (v.alloc (.cells #[.int .i64 k, .int .i64 p, .string ⟨x.toArray⟩, .int .i64 n] 35))) := HK.out.below HBv.out HK.out.pos
      have HTv : Hid ((v.alloc (.cells #[.int .i64 k, .int .i64 p, .string ⟨x.toArray⟩, .int .i64 n] 35)).heap[v.heap.size]? = some (.cells #[.int .i64 k, .int .i64 p, .string ⟨x.toArray⟩, .int .i64 n] 35 (0, 0))) := heap_alloc_new _ _
      have HOv := Lib.hid (HO.out.below HB1.out HO.out.lt)
      have hvz : v.heap.size < (v.alloc (.cells #[.int .i64 k, .int .i64 p, .string ⟨x.toArray⟩, .int .i64 n] 35)).heap.size := by simp
      have hgz := HO.out.lt
      cases hok : okTk ⟨k, p, x, n⟩ with
      | false =>
        have HE : Hid (textOut a = ([], 50)) := textOut_bad (allTk_false hx hok)
        have HOK := Lib.hid hok
        clear hok hx hc hxl
        go_wp2_with fail
        refine (valid_any k p n x HXL.out _ HKv.out).mono ?_
        rintro e v2 ⟨rfl, hb2⟩
        rw [HOK.out]
        have HB2 := Lib.hid (HBv.out.trans (hb2.mono HBv.out.size))
        clear hb2
        go_wp2_with fail
        go_ret2
        exact ⟨by rw [HE.out]; rfl, HB2.out⟩
      | true =>
        have HA2 : Hid ((a.take (j + 1)).all okTk = true) := by unfold Hid; rw [allTk_snoc hx, HA.out, hok]; rfl
        have HM2 : Hid ((a.take (j + 1)).map wordL = (a.take j).map wordL ++ [wordL ⟨k, p, x, n⟩]) := by unfold Hid; rw [List.take_add_one, hx]; simp
        have HBD := Lib.hid (ok_num_bd hok)
        have HOK := Lib.hid hok
        clear hok hx hc hxl
        go_wp2_with fail
        refine (valid_any k p n x HXL.out _ HKv.out).mono ?_
        rintro e v2 ⟨rfl, hb2⟩
        rw [HOK.out]
        have HT2 : Hid (v2.heap[v.heap.size]? = some (.cells #[.int .i64 k, .int .i64 p, .string ⟨x.toArray⟩, .int .i64 n] 35 (0, 0))) := (hb2.block v.heap.size hvz).trans HTv.out
        have HB2 := Lib.hid (HBv.out.trans (hb2.mono HBv.out.size))
        have HO2 := Lib.hid (HOv.out.below hb2 (by omega))
        have HK2 := Lib.hid (HKv.out.below hb2 HKv.out.pos)
        have d0 := cell_of_row _ _ 0 _ _ _ HT2.out
        have d1 := cell_of_row _ _ 1 _ _ _ HT2.out
        have d2 := cell_of_row _ _ 2 _ _ _ HT2.out
        have d3 := cell_of_row _ _ 3 _ _ _ HT2.out
        clear hb2 c0 c1 c2 c3
        go_wp2_with fail
        refine (word_any k p n x HBD.out v2 HK2.out).mono ?_
        rintro e v3 ⟨rfl, hb3⟩
        obtain ⟨y, hy⟩ : ∃ y, y = wordL ⟨k, p, x, n⟩ := ⟨_, rfl⟩
        rw [← hy] at HM2 ⊢
        have HB4 := Lib.hid (Below.new1 v3 (.cells #[.string ⟨y.toArray⟩] 9))
        have hB3 : Below w.heap.size w v3 := HB2.out.trans (hb3.mono HB2.out.size)
        have HB3 : Hid (Below w.heap.size w (v3.alloc (.cells #[.string ⟨y.toArray⟩] 9))) := hB3.trans (HB4.out.mono hB3.size)
        have HO3 := Lib.hid ((HO2.out.below hb3 HO2.out.lt).below HB4.out (HO2.out.below hb3 HO2.out.lt).lt)
        have HSrc := Lib.hid (src_new (P := Tryd.prog) (t := 40) 9 (m := 1) (cs := strV y) Tryd.underlying40 rfl (strV_one _) v3)
        have hzv := HB3.out.size
        clear hb3 hB3 hy d0 d1 d2 d3
        go_wp2_with (at_builtin; refine wpList_append_owns _ rfl (.tmp 19) (.tmp 22) 40 40 rfl w.heap.size 9 iS _ 1 16 Tryd.underlying40 hiS hzS hsS hbS rfl g j cap _ rfl HO3.out _ rfl 1 _ HSrc.out (by unfold maxLen; omega) (by omega) hzv ?_
                     intro g2 cap2 v4 HO5 HT5 HG5)
        have HO6 : Hid (Owns v4 w.heap.size 9 1 g2 (j + 1) cap2 (flatE strV ((a.take (j + 1)).map wordL))) := by
          unfold Hid
          rw [HM2.out, flatE_append, flatE_one]
          exact HO5.out
        have HB6 : Hid (Below w.heap.size w v4) := HB3.out.trans (HT5.out.below HO3.out.2.1 HO3.out.lt)
        go_roundw
        case rel => exact ⟨j + 1, g2, cap2, rfl, by go_num, by omega, HO6, HA2, HB6⟩
        case measure => simp [intOf]; omega
    · have hje : j = na := by omega
      have HAL : Hid (a.take j = a) := List.take_of_length_le (by have := EA.out; omega)
      have HE : Hid (textOut a = (textL a, 0)) := textOut_ok (by rw [← HAL.out]; exact HA.out)
      have hn : ¬ (j : Int) < (na : Int) := by omega
      have HJL : Hid ((a.map wordL).length = j) := by unfold Hid; rw [List.length_map, ← EA.out]; exact hje.symm
      have HO2 : Hid (Owns v w.heap.size 9 1 g j cap (flatE strV (a.map wordL))) := by have h := HO.out; rw [HAL.out] at h; exact h
      clear hje HO HAL HA
      go_wp2_with fail
      have hj := Tryd.strings_Join g 0 cap ((a.map wordL).map fun x => (⟨x.toArray⟩ : ByteArray)) ⟨#[32]⟩ v (fun i y hy => by
          rw [List.getElem?_map] at hy
          cases hq : (a.map wordL)[i]? with
          | none => rw [hq] at hy; cases hy
          | some z =>
            rw [hq] at hy
            cases hy
            have h1 := flatE_at strV_len (a.map wordL) i z hq 0 (.string ⟨z.toArray⟩) rfl
            rw [Nat.mul_one, Nat.add_zero] at h1
            rw [Nat.zero_add]
            exact HO2.out.cell i _ h1) HO2.out.lt (by rw [List.length_map, HJL.out]; omega) (by rw [List.length_map, HJL.out]; exact HO2.out.2.2.1)
        (by rw [List.map_map, show ((fun x : ByteArray => x.data.toList) ∘ fun x : List UInt8 => (⟨x.toArray⟩ : ByteArray)) = id from rfl, List.map_id]; exact HLEN.out)
      rw [List.length_map, HJL.out, List.map_map, show ((fun x : ByteArray => x.data.toList) ∘ fun x : List UInt8 => (⟨x.toArray⟩ : ByteArray)) = id from rfl, List.map_id] at hj
      have HJ : Hid (Calls Tryd.prog 33 #[.slice (some ⟨g, 0, none⟩) j cap, .string ⟨#[32]⟩] v fun e w' => e = .returned (.string ⟨(textL a).toArray⟩) ∧ Below v.heap.size v w') := hj
      clear hj
      refine HJ.out.mono ?_
      rintro e v2 ⟨rfl, hb2⟩
      go_wp2_with fail
      go_ret2
      exact ⟨by rw [HE.out]; rfl, HB.out.trans (hb2.mono HB.out.size)⟩
end Go.Proofs.YtdllceggjjopgaaDoor
