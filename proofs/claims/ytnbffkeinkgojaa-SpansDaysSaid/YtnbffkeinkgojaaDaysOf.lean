/- Contract of daysOf. -/
import Derived.Test.YtnbffkeinkgojaaRefHas
import Derived.Test.YtnbffkeinkgojaaChgM
import Derived.Deep.QuietTactic
namespace Go.Proofs.Ytnbffkeinkgojaa
open Go.RowKit

/-- a row of N cells, given by a function -/
def rowV (N : Nat) (v : Nat → Value) : Array Value := ((List.range N).map v).toArray
def RowF (w : World) (g : Nat) (t : TypeId) (N : Nat) (v : Nat → Value) : Prop := w.heap[g]? = some (.cells (rowV N v) t (0, 0))
theorem rowV_congr {N : Nat} {u v : Nat → Value} (h : ∀ k, k < N → u k = v k) : rowV N u = rowV N v := by
  unfold rowV
  rw [List.map_congr_left fun k hk => h k (List.mem_range.1 hk)]
theorem rowV_size (N : Nat) (v : Nat → Value) : (rowV N v).size = N := by simp [rowV]
theorem RowF.congr {w : World} {g : Nat} {t : TypeId} {N : Nat} {u v : Nat → Value} (h : RowF w g t N u) (hf : ∀ k, k < N → u k = v k) : RowF w g t N v := by
  unfold RowF at h ⊢
  rw [← rowV_congr hf]
  exact h
theorem RowF.lt {w : World} {g : Nat} {t : TypeId} {N : Nat} {v : Nat → Value} (h : RowF w g t N v) : g < w.heap.size := (Array.getElem?_eq_some_iff.1 h).1
theorem RowF.cell {w : World} {g : Nat} {t : TypeId} {N : Nat} {v : Nat → Value} (h : RowF w g t N v) (k : Nat) (hk : k < N) : w.cell? ⟨g, k, none⟩ = some (v k) := by
  rw [cell_of_row w g k _ _ _ h]
  unfold rowV
  rw [List.getElem?_toArray, List.getElem?_map, List.getElem?_range hk]
  rfl
theorem RowF.frozen {w : World} {g : Nat} {t : TypeId} {N : Nat} {v : Nat → Value} (h : RowF w g t N v) (i : Nat) : w.frozen? ⟨g, i, none⟩ = false := frozen_of_row w g i _ _ h
theorem RowF.keep {w w' : World} {g : Nat} {t : TypeId} {N : Nat} {v : Nat → Value} (h : RowF w g t N v) (k : w'.heap[g]? = w.heap[g]?) : RowF w' g t N v := k.trans h
theorem RowF.below {w w' : World} {B g : Nat} {t : TypeId} {N : Nat} {v : Nat → Value} (h : RowF w g t N v) (hb : Below B w w') (hg : g < B) : RowF w' g t N v := h.keep (hb.block g hg)
theorem rowV_set (N : Nat) (v : Nat → Value) (m : Nat) (x : Value) : (rowV N v).setIfInBounds m x = rowV N (fun k => if k = m then x else v k) := by
  unfold rowV
  apply Array.ext'
  apply List.ext_getElem?
  intro k
  simp only [List.setIfInBounds_toArray, List.toList_toArray, List.getElem?_set, List.length_map, List.length_range, List.getElem?_map]
  by_cases hk : k < N
  · rw [List.getElem?_range hk]
    by_cases e : m = k
    · subst e
      simp [hk]
    · rw [if_neg e]
      simp [Ne.symm e]
  · rw [List.getElem?_eq_none (by simp; omega)]
    by_cases e : m = k
    · subst e; simp [hk]
    · rw [if_neg e]; rfl
theorem RowF.set {w : World} {g : Nat} {t : TypeId} {N : Nat} {v : Nat → Value} (h : RowF w g t N v) (m : Nat) (x : Value) : RowF (w.setCell ⟨g, m, none⟩ x) g t N (fun k => if k = m then x else v k) := by
  unfold RowF at h ⊢
  rw [heap_setCell_same w g m _ _ _ h, rowV_set]
theorem RowF.range {w : World} {g : Nat} {t : TypeId} {N : Nat} {v : Nat → Value} (h : RowF w g t N v) : w.rangeAt g 0 (rowV N v).toList := fun j u hu => by
  rw [Nat.zero_add, cell_of_row w g j _ _ _ h]
  simpa using hu

def dayF (f : Nat → Bool) : Nat → Value := fun k => .bool (f k)
def DRow (w : World) (g : Nat) (f : Nat → Bool) : Prop := RowF w g 43 1024 (dayF f)
def intF (c : Nat → Int) : Nat → Value := fun k => .int .i64 (c k)
def CRow (w : World) (g : Nat) (c : Nat → Int) : Prop := RowF w g 54 1025 (intF c)
theorem CRow.set {w : World} {g : Nat} {c : Nat → Int} (h : CRow w g c) (m : Nat) (x : Int) : CRow (w.setCell ⟨g, m, none⟩ (.int .i64 x)) g (fun k => if k = m then x else c k) := by
  refine RowF.congr (RowF.set h m (.int .i64 x)) fun k _ => ?_
  by_cases e : k = m <;> simp [intF, e]
theorem CRow.congr {w : World} {g : Nat} {c c' : Nat → Int} (h : CRow w g c) (hf : ∀ k, k < 1025 → c k = c' k) : CRow w g c' := RowF.congr h fun k hk => by unfold intF; rw [hf k hk]
theorem CRow.cell {w : World} {g : Nat} {c : Nat → Int} (h : CRow w g c) (k : Nat) (hk : k < 1025) : w.cell? ⟨g, k, none⟩ = some (.int .i64 (c k)) := RowF.cell h k hk
theorem DRow.set {w : World} {g : Nat} {f : Nat → Bool} (h : DRow w g f) (m : Nat) (x : Bool) : DRow (w.setCell ⟨g, m, none⟩ (.bool x)) g (fun k => if k = m then x else f k) := by
  refine RowF.congr (RowF.set h m (.bool x)) fun k _ => ?_
  by_cases e : k = m <;> simp [dayF, e]
theorem DRow.congr {w : World} {g : Nat} {c c' : Nat → Bool} (h : DRow w g c) (hf : ∀ k, k < 1024 → c k = c' k) : DRow w g c' := RowF.congr h fun k hk => by unfold dayF; rw [hf k hk]
theorem DRow.cell {w : World} {g : Nat} {f : Nat → Bool} (h : DRow w g f) (k : Nat) (hk : k < 1024) : w.cell? ⟨g, k, none⟩ = some (.bool (f k)) := RowF.cell h k hk
/-- an array of days, as a value -/
def dayV (f : Nat → Bool) : Value := .agg (rowV 1024 (dayF f))
theorem zero_days : (Try.prog.info? 43).map (fun i => (i.zero, i.size)) = some (some (.agg (rowV 1024 (dayF fun _ => false))), 1024) := by kernel_rfl
theorem zero_ints : (Try.prog.info? 54).map (fun i => (i.zero, i.size)) = some (some (.agg (rowV 1025 (intF fun _ => 0))), 1025) := by kernel_rfl
theorem info_days (f : Nat → Bool) : (Try.prog.info? 43).map (·.size) = some (rowV 1024 (dayF f)).toList.length := by
  rw [Array.length_toList, rowV_size]
  exact (zero_of_info zero_days).2
theorem info_days' (f : Nat → Bool) : (Try.prog.info? 43).map (·.size) = some (rowV 1024 (dayF f)).size := by
  rw [rowV_size]
  exact (zero_of_info zero_days).2
theorem days_one (f : Nat → Bool) : (rowV 1024 (dayF f)).all (·.oneCell') = true := by
  rw [Array.all_eq_true_iff_forall_mem]
  intro v hv
  unfold rowV at hv
  simp at hv
  obtain ⟨k, _, rfl⟩ := hv
  rfl
theorem below_setRow {B g : Nat} {a w : World} (h : Below B a w) (hg : B ≤ g) (cs : Array Value) : Below B a (w.setRow g cs) :=
  ⟨h.os, h.tape, h.output, by simpa using h.size, fun k hk => (setRow_other w g k _ (by omega)).trans (h.block k hk)⟩
theorem rowV_ne {N : Nat} (hN : 0 < N) (v : Nat → Value) : ¬ rowV N v = #[] := fun e => by
  have h := rowV_size N v
  rw [e] at h
  simp at h
  omega

set_option maxRecDepth 100000 in
set_option maxHeartbeats 1000000 in
theorem daysOf_any (A : Option Addr) (n c : Nat) (l : List Sp) (w : World) (hr : RdS w w.heap.size A n l) (hn : n ≤ 4611686018427387904) :
    Calls Try.prog 28 #[.slice A n c] w fun e w' => e = .returned (dayV (dayIn l)) ∧ Below w.heap.size w w' := by
  have HL := Lib.hid hr.1
  have HR := Lib.hid hr
  clear hr
  obtain ⟨zb, hzb⟩ : ∃ z, z = rowV 1024 (dayF fun _ => false) := ⟨_, rfl⟩
  obtain ⟨zi, hzi⟩ : ∃ z, z = rowV 1025 (intF fun _ => 0) := ⟨_, rfl⟩
  have hz43 := (zero_of_info zero_days).1
  have hz54 := (zero_of_info zero_ints).1
  have hn43 : ¬ zb = #[] := by rw [hzb]; exact rowV_ne (by omega) _
  have hn54 : ¬ zi = #[] := by rw [hzi]; exact rowV_ne (by omega) _
  rw [← hzb] at hz43
  rw [← hzi] at hz54
  have HZB := Lib.hid hzb
  have HZI := Lib.hid hzi
  clear hzb hzi
  go_enter Try.func28, Try.ntmps28
  go_wp2_with fail
  have hb2 : Below w.heap.size w ((w.alloc (.cells zb 43)).alloc (.cells zi 54)) := (Below.new1 w _).alloc (by simp) _
  have hD2 : DRow ((w.alloc (.cells zb 43)).alloc (.cells zi 54)) w.heap.size (fun _ => false) := by
    rw [HZB.out]
    exact (heap_alloc_old _ _ (by simp)).trans (heap_alloc_new _ _)
  have hC2 : CRow ((w.alloc (.cells zb 43)).alloc (.cells zi 54)) (w.heap.size + 1) (fun _ => 0) := by
    rw [HZI.out]
    exact heap_alloc2_new w _ _ _
  clear hz43 hz54 hn43 hn54 HZB HZI
  generalize (w.alloc (.cells zb 43)).alloc (.cells zi 54) = w2 at hb2 hD2 hC2 ⊢
  obtain ⟨gb, hgb⟩ : ∃ g, g = w.heap.size := ⟨_, rfl⟩
  obtain ⟨gi, hgi⟩ : ∃ g, g = w.heap.size + 1 := ⟨_, rfl⟩
  have hgb1 : w.heap.size ≤ gb := by omega
  have hgi1 : w.heap.size ≤ gi := by omega
  have hne : gb ≠ gi := by omega
  rw [← hgb] at hD2
  rw [← hgi] at hC2
  rw [show (⟨w.heap.size, 0, none⟩ : Addr) = ⟨gb, 0, none⟩ by rw [hgb], show (⟨w.heap.size + 1, 0, none⟩ : Addr) = ⟨gi, 0, none⟩ by rw [hgi]]
  have HB2 := Lib.hid hb2
  have HD2 := Lib.hid hD2
  have HC2 := Lib.hid hC2
  clear hgb hgi hb2 hD2 hC2
  go_loopw [12] (fun v wr => ∃ k : Nat, v = .int .i64 k ∧ k ≤ n ∧ Hid (CRow wr gi (chg (l.take k))) ∧ Hid (DRow wr gb (fun _ => false)) ∧ Hid (Below w.heap.size w wr)) (fun v _ => n - (intOf v).toNat)
  case atStart => exact ⟨0, rfl, by omega, HC2.out.congr fun k _ => by rw [List.take_zero]; exact (chg_nil k).symm, HD2, HB2⟩
  case round =>
    obtain ⟨k, rfl, hk, HC, HD, HB⟩ := hrel
    clear HC2 HD2 HB2
    by_cases hend : k = n
    · have hkn : ¬ (k : Int) < (n : Int) := by omega
      have HCE : Hid (CRow wr gi (chg l)) := by
        have h := HC.out
        rw [List.take_of_length_le (by have h := HL.out; omega)] at h
        exact h
      have hZ : 0 = opn l 0 := (opn_zero l).symm
      have HZ := Lib.hid hZ
      clear hZ HC
      go_wp2_with fail
      go_loopw [8, 36] (fun v8 v36 wr => ∃ k : Nat, v36 = .int .i64 k ∧ k ≤ 1024 ∧ v8 = .int .i64 (opn l k) ∧ Hid (CRow wr gi (chg l)) ∧ Hid (DRow wr gb (fun m => if m < k then dayIn l m else false)) ∧ Hid (Below w.heap.size w wr)) (fun _ v36 _ => 1024 - (intOf v36).toNat)
      case atStart => exact ⟨0, rfl, by omega, by rw [HZ.out], HCE, HD.out.congr fun m _ => by simp, HB⟩
      case round =>
        clear HCE HD HB
        obtain ⟨j, rfl, hj, rfl, HC, HD, HB⟩ := hrel
        by_cases hjend : j = 1024
        · subst hjend
          have HDE : Hid (DRow wr gb (dayIn l)) := HD.out.congr fun m hm => if_pos hm
          have HI := Lib.hid (info_days (dayIn l))
          have HI' := Lib.hid (info_days' (dayIn l))
          have HRG := Lib.hid (RowF.range HDE.out)
          clear HD HC
          go_wp2_with (first
            | (refine wpList_load_mid rfl 43 _ rfl gb 0 rfl _ _ HRG.out Try.underlying43 rfl HI.out ?_)
            | (refine wpList_store_row rfl 43 _ _ rfl gb (rowV 1024 (dayF (dayIn l))) rfl rfl _ _ HDE.out HI'.out rfl (days_one _) ?_))
          exact bodyPost_ret (results_cell_row rfl _ _ _ _ _ _ _ rfl (setRow_heap _ _ _ _ _ _ HDE.out) Try.underlying43 rfl HI'.out) rfl ⟨rfl, below_setRow HB.out hgb1 _⟩
        have hj1 : j < 1024 := by omega
        have hj1' : (j : Int) < 1024 := by omega
        have j0 : (0 : Int) ≤ (j : Int) := by omega
        have j2 : (j : Int) < 1025 := by omega
        obtain ⟨x, hx⟩ : ∃ x, x = opn l j := ⟨_, rfl⟩
        obtain ⟨y, hy⟩ : ∃ x, x = chg l j := ⟨_, rfl⟩
        have hcy := HC.out.cell j (by omega)
        have hcd := HD.out.cell j hj1
        have hfd := RowF.frozen HD.out j
        have bx := opn_bd l j
        have bY := chg_bd l j
        have hl := HL.out
        rw [← hy] at hcy bY
        rw [← hx] at bx ⊢
        rw [← hl] at bx bY
        have HX : Hid (x + y = opn l (j + 1)) := by unfold Hid; rw [opn_succ, ← hx, ← hy]
        have HP : Hid (decide (0 < x + y) = dayIn l j) := by unfold Hid; rw [HX.out]; exact opn_day l j hj1
        have hb1 := opn_bd l (j + 1)
        rw [← HX.out, ← hl] at hb1
        have w1 : -9223372036854775808 ≤ x + y := by omega
        have w2 : x + y ≤ 9223372036854775807 := by omega
        clear hx hy hl hjend
        have HND : ∀ b : Bool, b = dayIn l j → Hid (DRow (wr.setCell ⟨gb, j, none⟩ (.bool b)) gb (fun m => if m < j + 1 then dayIn l m else false)) := fun b hb => (HD.out.set j b).congr fun m _ => by
          by_cases e : m = j
          · subst e
            rw [if_pos rfl, if_pos (by omega), hb]
          · rw [if_neg e]
            by_cases e2 : m < j
            · rw [if_pos e2, if_pos (by omega)]
            · rw [if_neg e2, if_neg (by omega)]
        have HNN := Lib.hid HND
        clear HND
        by_cases hp : 0 < x + y
        · go_wp2_with fail
          go_roundw
          case rel => exact ⟨j + 1, by go_num, by omega, by rw [← HX.out], RowF.keep HC.out (heap_setCell_other _ _ _ _ hne.symm), HNN.out _ (by rw [← HP.out]; exact (decide_eq_true hp).symm), Below.setCell HB.out hgb1 _⟩
          case measure => simp [intOf]; omega
        · go_wp2_with fail
          go_roundw
          case rel => exact ⟨j + 1, by go_num, by omega, by rw [← HX.out], RowF.keep HC.out (heap_setCell_other _ _ _ _ hne.symm), HNN.out _ (by rw [← HP.out]; exact (decide_eq_false hp).symm), Below.setCell HB.out hgb1 _⟩
          case measure => simp [intOf]; omega
    · have hkn : (k : Int) < (n : Int) := by omega
      have k0 : (0 : Int) ≤ (k : Int) := by omega
      obtain ⟨s, hs⟩ : ∃ s, l[k]? = some s := ⟨l[k]'(by have h := HL.out; omega), List.getElem?_eq_getElem _⟩
      obtain ⟨b, o, rfl, hbl, hcell⟩ := HR.out.2.2 (by omega)
      have hi := HR.out.2.1 s (List.mem_of_getElem? hs)
      have hc0 := (HB.out.cell (p := ⟨b, o + k * 2, none⟩) hbl).trans (hcell k s hs).1
      have hc1 := (HB.out.cell (p := ⟨b, o + k * 2 + 1, none⟩) hbl).trans (hcell k s hs).2
      have HTK : Hid (∀ m, chg (l.take (k + 1)) m = chg (l.take k) m + chg1 s m) := fun m => by
        rw [List.take_add_one, hs]
        exact chg_snoc _ _ _
      obtain ⟨F, T⟩ := s
      have hCB : Hid (∀ m, -(n : Int) ≤ chg (l.take k) m ∧ chg (l.take k) m ≤ (n : Int)) := fun m => by
        have h := chg_bd (l.take k) m
        have h2 : (l.take k).length ≤ k := List.length_take_le _ _
        omega
      clear hcell hs hend
      by_cases hF : 0 ≤ F
      · by_cases hT : T ≤ 1024
        · have HLO : Hid (loS (F, T) = F) := (show loS (F, T) = F by unfold loS; exact if_pos hF)
          have HHI : Hid (hiS (F, T) = T) := (show hiS (F, T) = T by unfold hiS; exact if_pos hT)
          by_cases hv : (F : Int) < T
          · have x0 : (0 : Int) ≤ F := by omega
            have x1 : F < (1025 : Int) := by omega
            have y0 : (0 : Int) ≤ T := by omega
            have y1 : T < (1025 : Int) := by omega
            go_wp2_with fail
            go_quiet (fail)
            have hb5 : Below wr.heap.size wr ((wr.alloc (.cells #[.int .i64 F, .int .i64 T] 31)).drewN nq) := below_drewN (Below.new1 _ _) nq
            generalize (wr.alloc (.cells #[.int .i64 F, .int .i64 T] 31)).drewN nq = w5 at hb5 ⊢
            have HC5 : Hid (CRow w5 gi (chg (l.take k))) := RowF.below HC.out hb5 (RowF.lt HC.out)
            have HD5 : Hid (DRow w5 gb fun _ => false) := RowF.below HD.out hb5 (RowF.lt HD.out)
            have HB5 : Hid (Below w.heap.size w w5) := HB.out.trans (hb5.mono HB.out.size)
            clear hb5
            obtain ⟨cx, hcx⟩ : ∃ cx, cx = chg (l.take k) F.toNat := ⟨_, rfl⟩
            obtain ⟨cy, hcy⟩ : ∃ cy, cy = chg (l.take k) T.toNat := ⟨_, rfl⟩
            have bx := hCB.out F.toNat
            have bY := hCB.out T.toNat
            have h1 := HC5.out.cell F.toNat (by omega)
            have h2 := HC5.out.cell T.toNat (by omega)
            have hf := RowF.frozen HC5.out F.toNat
            have hf2 := RowF.frozen HC5.out T.toNat
            rw [← hcx] at bx h1
            rw [← hcy] at bY h2
            have n1 : F.toNat ≠ T.toNat := by omega
            have n2 : T.toNat ≠ F.toNat := by omega
            have HN : Hid (CRow ((w5.setCell ⟨gi, F.toNat, none⟩ (.int .i64 (cx + 1))).setCell ⟨gi, T.toNat, none⟩ (.int .i64 (cy - 1))) gi (chg (l.take (k + 1)))) := by
              refine ((HC5.out.set F.toNat (cx + 1)).set T.toNat (cy - 1)).congr fun m _ => ?_
              rw [HTK.out]
              unfold chg1
              rw [HLO.out, HHI.out, if_pos hv]
              by_cases e : m = T.toNat
              · subst e
                rw [if_pos rfl, if_neg (by omega), if_pos (by omega), hcy]
                omega
              · rw [if_neg e]
                by_cases e2 : m = F.toNat
                · subst e2
                  rw [if_pos rfl, if_pos (by omega), if_neg (by omega), hcx]
                  omega
                · rw [if_neg e2, if_neg (by omega), if_neg (by omega)]
                  omega
            have HX := Lib.hid hcx
            have HY := Lib.hid hcy
            clear hcx hcy
            go_wp2_with fail
            go_roundw
            case rel => exact ⟨k + 1, by go_num, by omega, HN, (RowF.keep (RowF.keep HD5.out (heap_setCell_other _ _ _ _ hne)) (heap_setCell_other _ _ _ _ hne)), Below.setCell (Below.setCell HB5.out hgi1 _) hgi1 _⟩
            case measure => simp [intOf]; omega
          · have HN : Hid (∀ m, chg (l.take (k + 1)) m = chg (l.take k) m) := fun m => by
              rw [HTK.out]
              unfold chg1
              rw [HLO.out, HHI.out, if_neg hv]
              omega
            go_wp2_with fail
            go_quiet (fail)
            have hb5 : Below wr.heap.size wr ((wr.alloc (.cells #[.int .i64 F, .int .i64 T] 31)).drewN nq) := below_drewN (Below.new1 _ _) nq
            generalize (wr.alloc (.cells #[.int .i64 F, .int .i64 T] 31)).drewN nq = w5 at hb5 ⊢
            have HC5 : Hid (CRow w5 gi (chg (l.take (k + 1)))) := CRow.congr (RowF.below HC.out hb5 (RowF.lt HC.out)) fun m _ => (HN.out m).symm
            have HD5 : Hid (DRow w5 gb fun _ => false) := RowF.below HD.out hb5 (RowF.lt HD.out)
            have HB5 : Hid (Below w.heap.size w w5) := HB.out.trans (hb5.mono HB.out.size)
            clear hb5
            go_wp2_with fail
            go_roundw
            case rel => exact ⟨k + 1, by go_num, by omega, HC5, HD5, HB5⟩
            case measure => simp [intOf]; omega
        · have hT' : (1024 : Int) ≤ T := by omega
          have HLO : Hid (loS (F, T) = F) := (show loS (F, T) = F by unfold loS; exact if_pos hF)
          have HHI : Hid (hiS (F, T) = 1024) := (show hiS (F, T) = 1024 by unfold hiS; exact if_neg hT)
          by_cases hv : (F : Int) < 1024
          · have x0 : (0 : Int) ≤ F := by omega
            have x1 : F < (1025 : Int) := by omega
            have y0 : (0 : Int) ≤ 1024 := by omega
            have y1 : 1024 < (1025 : Int) := by omega
            go_wp2_with fail
            go_quiet (fail)
            have hb5 : Below wr.heap.size wr ((wr.alloc (.cells #[.int .i64 F, .int .i64 T] 31)).drewN nq) := below_drewN (Below.new1 _ _) nq
            generalize (wr.alloc (.cells #[.int .i64 F, .int .i64 T] 31)).drewN nq = w5 at hb5 ⊢
            have HC5 : Hid (CRow w5 gi (chg (l.take k))) := RowF.below HC.out hb5 (RowF.lt HC.out)
            have HD5 : Hid (DRow w5 gb fun _ => false) := RowF.below HD.out hb5 (RowF.lt HD.out)
            have HB5 : Hid (Below w.heap.size w w5) := HB.out.trans (hb5.mono HB.out.size)
            clear hb5
            obtain ⟨cx, hcx⟩ : ∃ cx, cx = chg (l.take k) F.toNat := ⟨_, rfl⟩
            obtain ⟨cy, hcy⟩ : ∃ cy, cy = chg (l.take k) 1024 := ⟨_, rfl⟩
            have bx := hCB.out F.toNat
            have bY := hCB.out 1024
            have h1 := HC5.out.cell F.toNat (by omega)
            have h2 := HC5.out.cell 1024 (by omega)
            have hf := RowF.frozen HC5.out F.toNat
            have hf2 := RowF.frozen HC5.out 1024
            rw [← hcx] at bx h1
            rw [← hcy] at bY h2
            have n1 : F.toNat ≠ 1024 := by omega
            have n2 : 1024 ≠ F.toNat := by omega
            have HN : Hid (CRow ((w5.setCell ⟨gi, F.toNat, none⟩ (.int .i64 (cx + 1))).setCell ⟨gi, 1024, none⟩ (.int .i64 (cy - 1))) gi (chg (l.take (k + 1)))) := by
              refine ((HC5.out.set F.toNat (cx + 1)).set 1024 (cy - 1)).congr fun m _ => ?_
              rw [HTK.out]
              unfold chg1
              rw [HLO.out, HHI.out, if_pos hv]
              by_cases e : m = 1024
              · subst e
                rw [if_pos rfl, if_neg (by omega), if_pos (by omega), hcy]
                omega
              · rw [if_neg e]
                by_cases e2 : m = F.toNat
                · subst e2
                  rw [if_pos rfl, if_pos (by omega), if_neg (by omega), hcx]
                  omega
                · rw [if_neg e2, if_neg (by omega), if_neg (by omega)]
                  omega
            have HX := Lib.hid hcx
            have HY := Lib.hid hcy
            clear hcx hcy
            go_wp2_with fail
            go_roundw
            case rel => exact ⟨k + 1, by go_num, by omega, HN, (RowF.keep (RowF.keep HD5.out (heap_setCell_other _ _ _ _ hne)) (heap_setCell_other _ _ _ _ hne)), Below.setCell (Below.setCell HB5.out hgi1 _) hgi1 _⟩
            case measure => simp [intOf]; omega
          · have HN : Hid (∀ m, chg (l.take (k + 1)) m = chg (l.take k) m) := fun m => by
              rw [HTK.out]
              unfold chg1
              rw [HLO.out, HHI.out, if_neg hv]
              omega
            go_wp2_with fail
            go_quiet (fail)
            have hb5 : Below wr.heap.size wr ((wr.alloc (.cells #[.int .i64 F, .int .i64 T] 31)).drewN nq) := below_drewN (Below.new1 _ _) nq
            generalize (wr.alloc (.cells #[.int .i64 F, .int .i64 T] 31)).drewN nq = w5 at hb5 ⊢
            have HC5 : Hid (CRow w5 gi (chg (l.take (k + 1)))) := CRow.congr (RowF.below HC.out hb5 (RowF.lt HC.out)) fun m _ => (HN.out m).symm
            have HD5 : Hid (DRow w5 gb fun _ => false) := RowF.below HD.out hb5 (RowF.lt HD.out)
            have HB5 : Hid (Below w.heap.size w w5) := HB.out.trans (hb5.mono HB.out.size)
            clear hb5
            go_wp2_with fail
            go_roundw
            case rel => exact ⟨k + 1, by go_num, by omega, HC5, HD5, HB5⟩
            case measure => simp [intOf]; omega
      · have hF' : F ≤ 0 := by omega
        by_cases hT : T ≤ 1024
        · have HLO : Hid (loS (F, T) = 0) := (show loS (F, T) = 0 by unfold loS; exact if_neg hF)
          have HHI : Hid (hiS (F, T) = T) := (show hiS (F, T) = T by unfold hiS; exact if_pos hT)
          by_cases hv : (0 : Int) < T
          · have x0 : (0 : Int) ≤ 0 := by omega
            have x1 : 0 < (1025 : Int) := by omega
            have y0 : (0 : Int) ≤ T := by omega
            have y1 : T < (1025 : Int) := by omega
            go_wp2_with fail
            go_quiet (fail)
            have hb5 : Below wr.heap.size wr ((wr.alloc (.cells #[.int .i64 F, .int .i64 T] 31)).drewN nq) := below_drewN (Below.new1 _ _) nq
            generalize (wr.alloc (.cells #[.int .i64 F, .int .i64 T] 31)).drewN nq = w5 at hb5 ⊢
            have HC5 : Hid (CRow w5 gi (chg (l.take k))) := RowF.below HC.out hb5 (RowF.lt HC.out)
            have HD5 : Hid (DRow w5 gb fun _ => false) := RowF.below HD.out hb5 (RowF.lt HD.out)
            have HB5 : Hid (Below w.heap.size w w5) := HB.out.trans (hb5.mono HB.out.size)
            clear hb5
            obtain ⟨cx, hcx⟩ : ∃ cx, cx = chg (l.take k) 0 := ⟨_, rfl⟩
            obtain ⟨cy, hcy⟩ : ∃ cy, cy = chg (l.take k) T.toNat := ⟨_, rfl⟩
            have bx := hCB.out 0
            have bY := hCB.out T.toNat
            have h1 := HC5.out.cell 0 (by omega)
            have h2 := HC5.out.cell T.toNat (by omega)
            have hf := RowF.frozen HC5.out 0
            have hf2 := RowF.frozen HC5.out T.toNat
            rw [← hcx] at bx h1
            rw [← hcy] at bY h2
            have n1 : 0 ≠ T.toNat := by omega
            have n2 : T.toNat ≠ 0 := by omega
            have HN : Hid (CRow ((w5.setCell ⟨gi, 0, none⟩ (.int .i64 (cx + 1))).setCell ⟨gi, T.toNat, none⟩ (.int .i64 (cy - 1))) gi (chg (l.take (k + 1)))) := by
              refine ((HC5.out.set 0 (cx + 1)).set T.toNat (cy - 1)).congr fun m _ => ?_
              rw [HTK.out]
              unfold chg1
              rw [HLO.out, HHI.out, if_pos hv]
              by_cases e : m = T.toNat
              · subst e
                rw [if_pos rfl, if_neg (by omega), if_pos (by omega), hcy]
                omega
              · rw [if_neg e]
                by_cases e2 : m = 0
                · subst e2
                  rw [if_pos rfl, if_pos (by omega), if_neg (by omega), hcx]
                  omega
                · rw [if_neg e2, if_neg (by omega), if_neg (by omega)]
                  omega
            have HX := Lib.hid hcx
            have HY := Lib.hid hcy
            clear hcx hcy
            go_wp2_with fail
            go_roundw
            case rel => exact ⟨k + 1, by go_num, by omega, HN, (RowF.keep (RowF.keep HD5.out (heap_setCell_other _ _ _ _ hne)) (heap_setCell_other _ _ _ _ hne)), Below.setCell (Below.setCell HB5.out hgi1 _) hgi1 _⟩
            case measure => simp [intOf]; omega
          · have HN : Hid (∀ m, chg (l.take (k + 1)) m = chg (l.take k) m) := fun m => by
              rw [HTK.out]
              unfold chg1
              rw [HLO.out, HHI.out, if_neg hv]
              omega
            go_wp2_with fail
            go_quiet (fail)
            have hb5 : Below wr.heap.size wr ((wr.alloc (.cells #[.int .i64 F, .int .i64 T] 31)).drewN nq) := below_drewN (Below.new1 _ _) nq
            generalize (wr.alloc (.cells #[.int .i64 F, .int .i64 T] 31)).drewN nq = w5 at hb5 ⊢
            have HC5 : Hid (CRow w5 gi (chg (l.take (k + 1)))) := CRow.congr (RowF.below HC.out hb5 (RowF.lt HC.out)) fun m _ => (HN.out m).symm
            have HD5 : Hid (DRow w5 gb fun _ => false) := RowF.below HD.out hb5 (RowF.lt HD.out)
            have HB5 : Hid (Below w.heap.size w w5) := HB.out.trans (hb5.mono HB.out.size)
            clear hb5
            go_wp2_with fail
            go_roundw
            case rel => exact ⟨k + 1, by go_num, by omega, HC5, HD5, HB5⟩
            case measure => simp [intOf]; omega
        · have hT' : (1024 : Int) ≤ T := by omega
          have HLO : Hid (loS (F, T) = 0) := (show loS (F, T) = 0 by unfold loS; exact if_neg hF)
          have HHI : Hid (hiS (F, T) = 1024) := (show hiS (F, T) = 1024 by unfold hiS; exact if_neg hT)
          by_cases hv : (0 : Int) < 1024
          · have x0 : (0 : Int) ≤ 0 := by omega
            have x1 : 0 < (1025 : Int) := by omega
            have y0 : (0 : Int) ≤ 1024 := by omega
            have y1 : 1024 < (1025 : Int) := by omega
            go_wp2_with fail
            go_quiet (fail)
            have hb5 : Below wr.heap.size wr ((wr.alloc (.cells #[.int .i64 F, .int .i64 T] 31)).drewN nq) := below_drewN (Below.new1 _ _) nq
            generalize (wr.alloc (.cells #[.int .i64 F, .int .i64 T] 31)).drewN nq = w5 at hb5 ⊢
            have HC5 : Hid (CRow w5 gi (chg (l.take k))) := RowF.below HC.out hb5 (RowF.lt HC.out)
            have HD5 : Hid (DRow w5 gb fun _ => false) := RowF.below HD.out hb5 (RowF.lt HD.out)
            have HB5 : Hid (Below w.heap.size w w5) := HB.out.trans (hb5.mono HB.out.size)
            clear hb5
            obtain ⟨cx, hcx⟩ : ∃ cx, cx = chg (l.take k) 0 := ⟨_, rfl⟩
            obtain ⟨cy, hcy⟩ : ∃ cy, cy = chg (l.take k) 1024 := ⟨_, rfl⟩
            have bx := hCB.out 0
            have bY := hCB.out 1024
            have h1 := HC5.out.cell 0 (by omega)
            have h2 := HC5.out.cell 1024 (by omega)
            have hf := RowF.frozen HC5.out 0
            have hf2 := RowF.frozen HC5.out 1024
            rw [← hcx] at bx h1
            rw [← hcy] at bY h2
            have n1 : 0 ≠ 1024 := by omega
            have n2 : 1024 ≠ 0 := by omega
            have HN : Hid (CRow ((w5.setCell ⟨gi, 0, none⟩ (.int .i64 (cx + 1))).setCell ⟨gi, 1024, none⟩ (.int .i64 (cy - 1))) gi (chg (l.take (k + 1)))) := by
              refine ((HC5.out.set 0 (cx + 1)).set 1024 (cy - 1)).congr fun m _ => ?_
              rw [HTK.out]
              unfold chg1
              rw [HLO.out, HHI.out, if_pos hv]
              by_cases e : m = 1024
              · subst e
                rw [if_pos rfl, if_neg (by omega), if_pos (by omega), hcy]
                omega
              · rw [if_neg e]
                by_cases e2 : m = 0
                · subst e2
                  rw [if_pos rfl, if_pos (by omega), if_neg (by omega), hcx]
                  omega
                · rw [if_neg e2, if_neg (by omega), if_neg (by omega)]
                  omega
            have HX := Lib.hid hcx
            have HY := Lib.hid hcy
            clear hcx hcy
            go_wp2_with fail
            go_roundw
            case rel => exact ⟨k + 1, by go_num, by omega, HN, (RowF.keep (RowF.keep HD5.out (heap_setCell_other _ _ _ _ hne)) (heap_setCell_other _ _ _ _ hne)), Below.setCell (Below.setCell HB5.out hgi1 _) hgi1 _⟩
            case measure => simp [intOf]; omega
          · exact absurd (by omega) hv
end Go.Proofs.Ytnbffkeinkgojaa
