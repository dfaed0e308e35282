/- Contracts of the reference's count and Few, and of the laws' few. -/
import Derived.Test.YtbcaanadmfnegaaBare
import Derived.BigQuiet
import Derived.Deep.QuietTactic
namespace Go.Proofs.Ytbcaanadmfnegaa
open Go.RowKit

mutual
/-- count of the reference -/
def V.count : V → Int → Nat
  | .mk _ _ s l, d => if d < 0 ∨ l.length > 150 then 1000 else V.countAll l (d - 1) (1 + s.size / 200)
/-- its loop -/
def V.countAll : List V → Int → Nat → Nat
  | [], _, a => a
  | x :: r, d, a => if a ≤ 1000 then V.countAll r d (a + x.count d) else a
end

theorem countAll_le {M : Nat} (d : Int) : ∀ (l : List V) (a : Nat), (∀ x ∈ l, x.count d ≤ M) → 1000 ≤ M → a ≤ M + 1000 → V.countAll l d a ≤ M + 1000
  | [], a, _, _, ha => by simpa [V.countAll] using ha
  | y :: r, a, h, h1, ha => by
    rw [V.countAll]
    split
    · have := h y (List.mem_cons_self ..)
      exact countAll_le d r _ (fun x hx => h x (List.mem_cons_of_mem _ hx)) h1 (by omega)
    · exact ha

theorem Rd.small {w : World} {B : Nat} {k n : Int} {s : ByteArray} {l : List V} {x : Value} (h : Rd w B (.mk k n s l) x) : s.size ≤ 9223372036854775807 := by
  obtain ⟨A, cap, _, _, _, hs, _⟩ := h
  unfold maxLen at hs
  omega
theorem Rd.count_le {w : World} {B : Nat} (v : V) : ∀ (x : Value) (d : Int), -1 ≤ d → Rd w B v x → v.count d ≤ 46116860184274000 + 1000 * (d + 1).toNat := by
  induction v using V.ind with
  | h k n s l ih =>
    intro x d hd h
    have hs := h.small
    rw [V.count]
    split
    · omega
    · have := countAll_le (M := 46116860184274000 + 1000 * d.toNat) (d - 1) l (1 + s.size / 200) (fun y hy => by
        obtain ⟨z, hz⟩ := h.mem hy
        have := ih y hy z (d - 1) (by omega) hz
        omega) (by omega) (by omega)
      omega

/-- what is few is small -/
theorem countAll_ge : ∀ (l : List V) (d : Int) (a : Nat), a ≤ V.countAll l d a
  | [], _, _ => by simp [V.countAll]
  | y :: r, d, a => by
    rw [V.countAll]
    split
    · have := countAll_ge r d (a + y.count d); omega
    · omega
theorem count_pos (v : V) (d : Int) : 1 ≤ v.count d := by
  cases v with
  | mk k n s l =>
    rw [V.count]
    split
    · omega
    · have := countAll_ge l (d - 1) (1 + s.size / 200); omega
theorem countAll_bulk (d : Int) : ∀ (l : List V) (a : Nat), (∀ x ∈ l, x.count d ≤ 200 → x.bulk ≤ 210 * x.count d) → V.countAll l d a ≤ 200 → V.bulkAll l + 210 * a ≤ 210 * V.countAll l d a
  | [], a, _, _ => by simp [V.countAll, V.bulkAll]
  | y :: r, a, h, hc => by
    have ha : a ≤ 200 := Nat.le_trans (countAll_ge (y :: r) d a) hc
    rw [V.countAll, if_pos (by omega)] at hc ⊢
    have h1 := countAll_ge r d (a + y.count d)
    have h2 := h y (List.mem_cons_self ..) (by omega)
    have h3 := countAll_bulk d r (a + y.count d) (fun x hx => h x (List.mem_cons_of_mem _ hx)) hc
    rw [V.bulkAll]
    omega
theorem count_bulk (v : V) : ∀ d : Int, v.count d ≤ 200 → v.bulk ≤ 210 * v.count d := by
  induction v using V.ind with
  | h k n s l ih =>
    intro d hc
    rw [V.count] at hc ⊢
    split at hc
    · omega
    · rename_i hn
      rw [if_neg hn]
      have := countAll_bulk (d - 1) l _ (fun x hx => ih x hx (d - 1)) hc
      rw [V.bulk]
      omega

set_option maxRecDepth 100000 in
set_option maxHeartbeats 1000000 in
theorem count_any (v : V) : ∀ (w : World) (B : Nat) (x : Value) (d : Int), B ≤ w.heap.size → Rd w B v x → -1 ≤ d → d ≤ 20 →
    Calls Try.prog 37 #[x, .int .i64 d] w fun e w' => e = .returned (.int .i64 (v.count d)) ∧ Below w.heap.size w w' := by
  induction v using V.ind with
  | h k n s l ih =>
    rintro w B x d hB hr hd1 hd2
    have hRc := Lib.hid fun (y : V) (hy : y ∈ l) => hr.mem hy
    obtain ⟨A, cap, rfl, hk, hn, hs, hlc, hcap, hl⟩ := hr
    have IH := Lib.hid ih
    have hl0 := Lib.hid hl
    clear ih hl
    unfold I64 at hk hn
    unfold maxLen at hs hcap
    by_cases hneg : d < 0
    · have hdd : decide (d < 0) = true := by simpa using hneg
      have EF : Hid (V.count (.mk k n s l) d = 1000) := by unfold Hid; simp [V.count, hneg]
      go_enter Try.func37, Try.ntmps37
      go_wp2_with fail
      go_ret
      exact ⟨by rw [EF.out]; rfl, (Below.refl _ _).alloc (Nat.le_refl _) _⟩
    · have hdd : decide (d < 0) = false := by simpa using hneg
      by_cases h150 : l.length > 150
      · have EF : Hid (V.count (.mk k n s l) d = 1000) := by unfold Hid; simp [V.count, h150]
        go_enter Try.func37, Try.ntmps37
        go_wp2_with fail
        go_ret
        exact ⟨by rw [EF.out]; rfl, (Below.refl _ _).alloc (Nat.le_refl _) _⟩
      · have EF : Hid (V.count (.mk k n s l) d = V.countAll l (d - 1) (1 + s.size / 200)) := by unfold Hid; rw [V.count, if_neg (by omega)]
        have hd0 : 0 ≤ d := by omega
        have hl150 : l.length ≤ 150 := by omega
        clear hneg h150
        go_enter Try.func37, Try.ntmps37
        go_wp2_with fail
        go_loopw [5, 6] (fun c i wr => ∃ j a : Nat, j ≤ l.length ∧ i = .int .i64 j ∧ c = .int .i64 a ∧ a ≤ 92233720368548100 ∧ Hid (V.countAll (l.drop j) (d - 1) a = V.countAll l (d - 1) (1 + s.size / 200)) ∧ Below (w.heap.size + 1) (w.alloc (.cells #[.int .i64 k, .int .i64 n, .string s, .slice A l.length cap] 24)) wr) (fun _ i _ => l.length - (intOf i).toNat)
        case atStart => exact ⟨0, 1 + s.size / 200, Nat.zero_le _, rfl, by go_num, by omega, by simp [Hid], Below.refl _ _⟩
        case round =>
          obtain ⟨j, a, hj, rfl, rfl, ha, HC, hbr⟩ := hrel
          have c3r : wr.cell? ⟨w.heap.size, 3, none⟩ = some (.slice A l.length cap) := by rw [hbr.cell (by simp)]; simp
          have hwr : Below w.heap.size w wr := ((Below.refl _ _).alloc (Nat.le_refl _) _).trans (hbr.mono (by simp))
          have hwz : w.heap.size + 1 ≤ wr.heap.size := by have := hbr.size; simpa using this
          by_cases hlt : j < l.length
          · by_cases h1000 : a ≤ 1000
            · obtain ⟨b, o, k', n', s', m', A', cap', rfl, hbB, e0, e1, e2, e3, hx, hr⟩ := hl0.out.open_ hlt
              have hm := List.mem_of_getElem? hx
              have hbb : b < w.heap.size := by omega
              rw [← hwr.cell (p := ⟨b, _, none⟩) hbb] at e0 e1 e2 e3
              have hrr := Lib.hid (Rd.below (B' := B) hr (hwr.mono hB) (Nat.le_refl _))
              have hcl := Rd.count_le _ _ (d - 1) (by omega) hr
              have HK : Hid (V.countAll (l.drop (j + 1)) (d - 1) (a + V.count (.mk k' n' s' m') (d - 1)) = V.countAll l (d - 1) (1 + s.size / 200)) := by
                unfold Hid
                rw [← HC.out]
                have hg : l[j] = V.mk k' n' s' m' := by rw [List.getElem?_eq_getElem hlt] at hx; exact Option.some.inj hx
                rw [List.drop_eq_getElem_cons hlt, V.countAll, if_pos h1000, hg]
              have HX := Lib.hid hx
              clear hr hx HC
              go_wp2_with fail
              refine (IH.out _ hm _ B _ _ (by omega) hrr.out (by omega) (by omega)).mono ?_
              rintro e w2 ⟨rfl, hb2⟩
              generalize V.count (.mk k' n' s' m') (d - 1) = dd at *
              go_wp2_with fail
              go_roundw
              case rel => exact ⟨j + 1, a + dd, by omega, by go_num, by go_num, by omega, HK, hbr.trans (hb2.mono (by omega))⟩
              case measure => simp [intOf]; omega
            · have HF : Hid (V.countAll l (d - 1) (1 + s.size / 200) = a) := by
                unfold Hid
                rw [← HC.out, List.drop_eq_getElem_cons hlt, V.countAll, if_neg h1000]
              go_wp2_with fail
              go_ret
              exact ⟨by rw [EF.out, HF.out]; rfl, hwr⟩
          · have hje : j = l.length := by omega
            subst hje
            have HF : Hid (V.countAll l (d - 1) (1 + s.size / 200) = a) := by
              unfold Hid
              rw [← HC.out, List.drop_length, V.countAll]
            clear HC
            go_wp2_with fail
            go_ret
            exact ⟨by rw [EF.out, HF.out]; rfl, hwr⟩

set_option maxRecDepth 100000 in
set_option maxHeartbeats 1000000 in
theorem refFew_any (v : V) (w : World) (B : Nat) (x : Value) (d : Int) (hB : B ≤ w.heap.size) (hr : Rd w B v x) (hd1 : -1 ≤ d) (hd2 : d ≤ 20) :
    Calls Try.prog 25 #[x, .int .i64 d] w fun e w' => e = .returned (.bool (decide (v.count d ≤ 200))) ∧ Below w.heap.size w w' := by
  have HR := Lib.hid hr
  have hcl := Rd.count_le _ _ d (by omega) hr
  obtain ⟨k, n, s, l, rfl⟩ : ∃ k n s l, v = V.mk k n s l := by cases v with | mk k n s l => exact ⟨k, n, s, l, rfl⟩
  obtain ⟨A, cap, rfl, h0⟩ := hr
  clear h0
  go_enter Try.func25, Try.ntmps25
  go_wp2_with fail
  refine (count_any _ _ B _ _ (by simp; omega) (HR.out.below (((Below.refl _ _).alloc (Nat.le_refl _) _).mono hB) (Nat.le_refl _)) hd1 hd2).mono ?_
  rintro e w1 ⟨rfl, hb1⟩
  generalize hdd : V.count (.mk k n s l) d = dd at *
  have HD := Lib.hid hdd
  clear hdd
  have hw1 : Below w.heap.size w w1 := ((Below.refl _ _).alloc (Nat.le_refl _) _).trans (hb1.mono (by simp))
  go_wp2_with fail
  go_ret
  exact ⟨by rw [HD.out]; exact ret_bool (by rw [Bool.eq_iff_iff]; simp; omega), hw1⟩

def fewAll (l : List V) : Bool := l.all fun v => decide (v.count 20 ≤ 200)
theorem fewAll_take (l : List V) (j : Nat) (x : V) (hx : l[j]? = some x) : fewAll (l.take (j + 1)) = (fewAll (l.take j) && decide (x.count 20 ≤ 200)) := by
  have hj : j < l.length := by
    rcases Nat.lt_or_ge j l.length with h | h
    · exact h
    · rw [List.getElem?_eq_none h] at hx; cases hx
  rw [List.getElem?_eq_getElem hj] at hx
  rw [fewAll, List.take_succ_eq_append_getElem hj, List.all_append]
  simp [fewAll, Option.some.inj hx]
theorem fewAll_false {l : List V} {x : V} (hx : x ∈ l) (h : decide (x.count 20 ≤ 200) = false) : fewAll l = false := by
  rw [Bool.eq_false_iff]
  intro ha
  rw [List.all_eq_true.1 ha x hx] at h
  cases h

set_option maxRecDepth 100000 in
set_option maxHeartbeats 1000000 in
/-- few, over a slice of values -/
theorem few_any (l : List V) (A : Option Addr) (cap : Nat) (w : World) (B : Nat) (hB : B ≤ w.heap.size) (hl : RdAll w B l A 0) (hlc : l.length ≤ 1000000000000000000) :
    Calls Try.prog 11 #[.slice A l.length cap] w fun e w' => e = .returned (.bool (fewAll l)) ∧ Below w.heap.size w w' := by
  have hl0 := Lib.hid hl
  clear hl
  go_enter Try.func11, Try.ntmps11
  go_wp2_with fail
  go_loopw [7] (fun i wr => ∃ j : Nat, j ≤ l.length ∧ i = .int .i64 j ∧ Hid (fewAll (l.take j) = true) ∧ Below w.heap.size w wr) (fun i _ => l.length - (intOf i).toNat)
  case atStart => exact ⟨0, Nat.zero_le _, rfl, by simp [Hid, fewAll], Below.refl _ _⟩
  case round =>
    obtain ⟨j, hj, rfl, hfj, hwr⟩ := hrel
    have hwz : w.heap.size ≤ wr.heap.size := hwr.size
    by_cases hlt : j < l.length
    · obtain ⟨b, o, k', n', s', m', A', cap', rfl, hbB, e0, e1, e2, e3, hx, hr⟩ := hl0.out.open_ hlt
      have hm := List.mem_of_getElem? hx
      have hbb : b < w.heap.size := by omega
      rw [← hwr.cell (p := ⟨b, _, none⟩) hbb] at e0 e1 e2 e3
      have hrr := Lib.hid (Rd.below (B' := B) hr (hwr.mono hB) (Nat.le_refl _))
      have htk := Lib.hid (fewAll_take l j _ hx)
      have HX := Lib.hid hx
      clear hr hx
      cases hf : decide (V.count (.mk k' n' s' m') 20 ≤ 200) with
      | false =>
        have HF : Hid (fewAll l = false) := fewAll_false hm hf
        have HM := Lib.hid hf
        clear hf
        go_wp2_with fail
        refine (refFew_any _ _ B _ _ (by simp; omega) (Rd.below (B' := B) hrr.out (((Below.refl _ _).alloc (Nat.le_refl _) _).mono (by omega)) (Nat.le_refl _)) (by omega) (by omega)).mono ?_
        rintro e w2 ⟨rfl, hb2⟩
        rw [HM.out]
        go_wp2_with fail
        go_ret
        refine ⟨by rw [HF.out]; rfl, hwr.trans (((Below.refl _ _).alloc (by omega) _).trans (hb2.mono ?_))⟩
        simp; omega
      | true =>
        have HK : Hid (fewAll (l.take (j + 1)) = true) := by unfold Hid; rw [htk.out, hfj.out, hf]; rfl
        have HM := Lib.hid hf
        clear hf
        go_wp2_with fail
        refine (refFew_any _ _ B _ _ (by simp; omega) (Rd.below (B' := B) hrr.out (((Below.refl _ _).alloc (Nat.le_refl _) _).mono (by omega)) (Nat.le_refl _)) (by omega) (by omega)).mono ?_
        rintro e w2 ⟨rfl, hb2⟩
        rw [HM.out]
        go_wp2_with fail
        go_roundw
        case rel => exact ⟨j + 1, by omega, by go_num, HK, hwr.trans (((Below.refl _ _).alloc (by omega) _).trans (hb2.mono (by simp; omega)))⟩
        case measure => simp [intOf]; omega
    · have hje : j = l.length := by omega
      subst hje
      rw [List.take_length] at *
      have HK : Hid (fewAll l = true) := hfj
      clear hfj
      go_wp2_with fail
      go_ret
      exact ⟨by rw [HK.out]; rfl, hwr⟩
end Go.Proofs.Ytbcaanadmfnegaa
