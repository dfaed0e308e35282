/- Contract of the reference's Same. -/
import Derived.Test.YtbcaanadmfnegaaBare
import Derived.BigQuiet
import Derived.Deep.QuietTactic
import Derived.StillTailTactics
namespace Go.Proofs.Ytbcaanadmfnegaa
open Go.RowKit

mutual
def V.same : V → V → Bool
  | .mk k n s l, .mk k' n' s' l' => decide (k = k') && decide (n = n') && decide (s = s') && V.sameAll l l'
def V.sameAll : List V → List V → Bool
  | [], [] => true
  | x :: r, y :: q => x.same y && V.sameAll r q
  | _, _ => false
end
theorem V.sameAll_len : ∀ {l m : List V}, V.sameAll l m = true → l.length = m.length
  | [], [], _ => rfl
  | x :: r, y :: q, h => by
    simp only [V.sameAll, Bool.and_eq_true] at h
    simp [V.sameAll_len h.2]
  | [], _ :: _, h => by simp [V.sameAll] at h
  | _ :: _, [], h => by simp [V.sameAll] at h
theorem V.sameAll_refl : ∀ {l : List V}, (∀ x ∈ l, x.same x = true) → V.sameAll l l = true
  | [], _ => rfl
  | x :: r, h => by
    simp only [V.sameAll, Bool.and_eq_true]
    exact ⟨h x (List.mem_cons_self ..), V.sameAll_refl fun y hy => h y (List.mem_cons_of_mem _ hy)⟩
theorem V.same_refl (v : V) : v.same v = true := by
  induction v using V.ind with
  | h k n s l ih => simp [V.same, V.sameAll_refl ih]
theorem V.sameAll_eq : ∀ {l m : List V}, (∀ x ∈ l, ∀ y, x.same y = true → x = y) → V.sameAll l m = true → l = m
  | [], [], _, _ => rfl
  | x :: r, y :: q, h, hs => by
    simp only [V.sameAll, Bool.and_eq_true] at hs
    rw [h x (List.mem_cons_self ..) y hs.1, V.sameAll_eq (fun z hz => h z (List.mem_cons_of_mem _ hz)) hs.2]
  | [], _ :: _, _, h => by simp [V.sameAll] at h
  | _ :: _, [], _, h => by simp [V.sameAll] at h
theorem V.eq_of_same (v : V) : ∀ u, v.same u = true → v = u := by
  induction v using V.ind with
  | h k n s l ih =>
    intro u h
    cases u with
    | mk k' n' s' l' =>
      simp only [V.same, Bool.and_eq_true, decide_eq_true_eq] at h
      obtain ⟨⟨⟨rfl, rfl⟩, rfl⟩, h4⟩ := h
      rw [V.sameAll_eq ih h4]
theorem V.same_iff (v u : V) : v.same u = true ↔ v = u := ⟨V.eq_of_same v u, fun h => h ▸ V.same_refl v⟩
theorem V.sameAll_take : ∀ (l m : List V) (j : Nat) (x y : V), l[j]? = some x → m[j]? = some y → V.sameAll (l.take (j + 1)) (m.take (j + 1)) = (V.sameAll (l.take j) (m.take j) && x.same y)
  | [], _, j, _, _, h, _ => by simp at h
  | _ :: _, [], j, _, _, _, h => by simp at h
  | a :: r, b :: q, 0, x, y, h, h' => by
    simp at h h'
    subst h h'
    simp [V.sameAll]
  | a :: r, b :: q, j + 1, x, y, h, h' => by
    have := V.sameAll_take r q j x y (by simpa using h) (by simpa using h')
    rw [List.take_succ_cons, List.take_succ_cons, V.sameAll, this, List.take_succ_cons, List.take_succ_cons, V.sameAll, Bool.and_assoc]
theorem V.sameAll_false : ∀ {l m : List V} {j : Nat} {x y : V}, l[j]? = some x → m[j]? = some y → x.same y = false → V.sameAll l m = false
  | [], _, j, _, _, h, _, _ => by simp at h
  | _ :: _, [], j, _, _, _, h, _ => by simp at h
  | a :: r, b :: q, 0, x, y, h, h', hs => by
    simp at h h'
    subst h h'
    simp [V.sameAll, hs]
  | a :: r, b :: q, j + 1, x, y, h, h', hs => by
    simp [V.sameAll, V.sameAll_false (l := r) (m := q) (j := j) (by simpa using h) (by simpa using h') hs]

theorem toList_inj {s t : ByteArray} (h : s.toList = t.toList) : s = t := by
  rw [ByteArray.toList_eq, ByteArray.toList_eq] at h
  cases s with
  | mk a =>
    cases t with
    | mk b =>
      simp only at h
      rw [Array.toList_inj.1 h]
set_option maxRecDepth 100000 in
set_option maxHeartbeats 1000000 in
theorem refSame_any (v : V) : ∀ (u : V) (w : World) (B : Nat) (x y : Value), B ≤ w.heap.size → Rd w B v x → Rd w B u y →
    Calls Try.prog 20 #[x, y] w fun e w' => e = .returned (.bool (v.same u)) ∧ Below w.heap.size w w' := by
  induction v using V.ind with
  | h k n s l ih =>
    rintro u w B x y hB ⟨A, cap, rfl, hk, hn, hs, hlc, hcap, hl⟩ hru
    obtain ⟨k', n', s', l', rfl⟩ : ∃ k n s l, u = V.mk k n s l := by cases u with | mk k n s l => exact ⟨k, n, s, l, rfl⟩
    obtain ⟨A', cap', rfl, hk', hn', hs', hlc', hcap', hl'⟩ := hru
    have IH := Lib.hid ih
    have hl0 := Lib.hid hl
    have hl1 := Lib.hid hl'
    clear ih hl hl'
    unfold I64 at hk hn hk' hn'
    unfold maxLen at hs hcap hs' hcap'
    have hend : ∀ o1 o2, Below w.heap.size w ((w.alloc o1).alloc o2) := fun o1 o2 => ((Below.refl _ _).alloc (Nat.le_refl _) _).alloc (by simp) _
    by_cases ek : k = k'
    · subst ek
      by_cases en : n = n'
      · subst en
        by_cases es : s = s'
        · subst es
          by_cases el : l.length = l'.length
          · have HE : Hid (V.same (.mk k n s l) (.mk k n s l') = V.sameAll l l') := by unfold Hid; simp [V.same]
            have EL := Lib.hid el
            have hle : l.length ≤ l'.length := by omega
            have hb4 : ((l.length : Int) != (l'.length : Int)) = false := by simp [el]
            clear el
            go_enter Try.func20, Try.ntmps20
            go_wp2_with fail
            let W1 : World := (w.alloc (.cells #[.int .i64 k, .int .i64 n, .string s, .slice A l.length cap] 24)).alloc (.cells #[.int .i64 k, .int .i64 n, .string s, .slice A' l'.length cap'] 24)
            have hW : Below w.heap.size w W1 := hend _ _
            have hWz : W1.heap.size = w.heap.size + 2 := by simp [W1]
            have d3 : W1.cell? ⟨w.heap.size, 3, none⟩ = some (.slice A l.length cap) := by simp [W1]
            have d4 : W1.cell? ⟨w.heap.size + 1, 3, none⟩ = some (.slice A' l'.length cap') := by simp [W1]
            have HD := Lib.hid (And.intro hW (And.intro hWz (And.intro d3 d4)))
            clear hW hWz d3 d4
            go_loopw [5] (fun i wr => ∃ j : Nat, j ≤ l.length ∧ i = .int .i64 j ∧ Hid (V.sameAll (l.take j) (l'.take j) = true) ∧ Below (w.heap.size + 2) W1 wr) (fun i _ => l.length - (intOf i).toNat)
            case atStart => exact ⟨0, Nat.zero_le _, rfl, by simp [Hid, V.sameAll], Below.refl _ _⟩
            case round =>
              obtain ⟨j, hj, rfl, hfj, hbr⟩ := hrel
              obtain ⟨hW, hWz, d3, d4⟩ := HD.out
              have c3r : wr.cell? ⟨w.heap.size, 3, none⟩ = some (.slice A l.length cap) := by rw [hbr.cell (by simp)]; exact d3
              have c4r : wr.cell? ⟨w.heap.size + 1, 3, none⟩ = some (.slice A' l'.length cap') := by rw [hbr.cell (by simp)]; exact d4
              have hwr : Below w.heap.size w wr := hW.trans (hbr.mono (by omega))
              have hwz : w.heap.size + 2 ≤ wr.heap.size := by have := hbr.size; omega
              clear hW hWz d3 d4
              clear_value W1
              by_cases hlt : j < l.length
              · have hlt' : j < l'.length := by omega
                obtain ⟨b, o, k1, n1, s1, m1, A1, cap1, rfl, hbB, e0, e1, e2, e3, hx, hr⟩ := hl0.out.open_ hlt
                obtain ⟨b', o', k2, n2, s2, m2, A2, cap2, rfl, hbB', f0, f1, f2, f3, hx', hr'⟩ := hl1.out.open_ hlt'
                have hm := List.mem_of_getElem? hx
                have hbb : b < w.heap.size := by omega
                have hbb' : b' < w.heap.size := by omega
                rw [← hwr.cell (p := ⟨b, _, none⟩) hbb] at e0 e1 e2 e3
                rw [← hwr.cell (p := ⟨b', _, none⟩) hbb'] at f0 f1 f2 f3
                have hrr := Lib.hid (Rd.below (B' := B) hr (hwr.mono hB) (Nat.le_refl _))
                have hrr' := Lib.hid (Rd.below (B' := B) hr' (hwr.mono hB) (Nat.le_refl _))
                have htk := Lib.hid (V.sameAll_take l l' j _ _ hx hx')
                have HX := Lib.hid hx
                have HX' := Lib.hid hx'
                clear hr hx hr' hx'
                cases hf : V.same (.mk k1 n1 s1 m1) (.mk k2 n2 s2 m2) with
                | false =>
                  have HF : Hid (V.sameAll l l' = false) := V.sameAll_false HX.out HX'.out hf
                  have HM := Lib.hid hf
                  clear hf
                  go_wp2_with fail
                  go_still_tail 10, (by kernel_rfl)
                  change wpList _ _ _ _ _ wr.drew
                  go_wp2_with fail
                  refine (IH.out _ hm _ _ B _ _ (by show B ≤ wr.heap.size; omega) hrr.out.drew hrr'.out.drew).mono ?_
                  rintro e w2 ⟨rfl, hb2⟩
                  rw [HM.out]
                  go_wp2_with fail
                  go_ret
                  exact ⟨by rw [HE.out, HF.out]; rfl, hwr.trans (((Below.refl _ _).drew).trans (hb2.mono (by show _ ≤ wr.heap.size; omega)))⟩
                | true =>
                  have HK : Hid (V.sameAll (l.take (j + 1)) (l'.take (j + 1)) = true) := by unfold Hid; rw [htk.out, hfj.out, hf]; rfl
                  have HM := Lib.hid hf
                  clear hf
                  go_wp2_with fail
                  go_still_tail 10, (by kernel_rfl)
                  change wpList _ _ _ _ _ wr.drew
                  go_wp2_with fail
                  refine (IH.out _ hm _ _ B _ _ (by show B ≤ wr.heap.size; omega) hrr.out.drew hrr'.out.drew).mono ?_
                  rintro e w2 ⟨rfl, hb2⟩
                  rw [HM.out]
                  go_wp2_with fail
                  go_roundw
                  case rel => exact ⟨j + 1, by omega, by go_num, HK, hbr.trans (((Below.refl _ _).drew).trans (hb2.mono (by show _ ≤ wr.heap.size; omega)))⟩
                  case measure => simp [intOf]; omega
              · have hje : j = l.length := by omega
                have HK : Hid (V.sameAll l l' = true) := by
                  unfold Hid
                  have := hfj.out
                  rw [hje, List.take_length, EL.out, List.take_length] at this
                  exact this
                have hn : ¬ ((j : Int) < (l.length : Int)) := by omega
                clear hje hfj
                go_wp2_with fail
                go_ret
                exact ⟨by rw [HE.out, HK.out]; rfl, hwr⟩
          · have HE : Hid (V.same (.mk k n s l) (.mk k n s l') = false) := by
              unfold Hid
              rw [Bool.eq_false_iff]
              intro h
              simp only [V.same, Bool.and_eq_true] at h
              exact el (V.sameAll_len h.2)
            have hb4 : ((l.length : Int) != (l'.length : Int)) = true := by simp; omega
            clear el
            go_enter Try.func20, Try.ntmps20
            go_wp2_with fail
            go_ret
            exact ⟨by rw [HE.out]; rfl, hend _ _⟩
        · have HE : Hid (V.same (.mk k n s l) (.mk k n s' l') = false) := by unfold Hid; simp [V.same, es]
          have b1 : (s.toList != s'.toList) = true := by simpa using fun h => es (toList_inj h)
          have b2 : (s.toList == s'.toList) = false := by simpa using fun h => es (toList_inj h)
          clear es
          go_enter Try.func20, Try.ntmps20
          go_wp2_with fail
          go_ret
          exact ⟨by rw [HE.out]; rfl, hend _ _⟩
      · have HE : Hid (V.same (.mk k n s l) (.mk k n' s' l') = false) := by unfold Hid; simp [V.same, en]
        have b1 : (n != n') = true := by simpa using en
        have b2 : (n == n') = false := by simpa using en
        clear en
        go_enter Try.func20, Try.ntmps20
        go_wp2_with fail
        go_ret
        exact ⟨by rw [HE.out]; rfl, hend _ _⟩
    · have HE : Hid (V.same (.mk k n s l) (.mk k' n' s' l') = false) := by unfold Hid; simp [V.same, ek]
      have b1 : (k != k') = true := by simpa using ek
      have b2 : (k == k') = false := by simpa using ek
      clear ek
      go_enter Try.func20, Try.ntmps20
      go_wp2_with fail
      go_ret
      exact ⟨by rw [HE.out]; rfl, hend _ _⟩
end Go.Proofs.Ytbcaanadmfnegaa
