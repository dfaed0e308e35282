/- Contract of codec.Same. -/
import Derived.Test.YtbcaanadmfnegaaRefSame
namespace Go.Proofs.Ytbcaanadmfnegaa
open Go.RowKit

/-- what a contract of Same says of one value -/
def SameOk (v : V) : Prop := ∀ (u : V) (w : World) (B : Nat) (x y : Value), B ≤ w.heap.size → Rd w B v x → Rd w B u y →
    Calls Try.prog 21 #[x, y] w fun e w' => e = .returned (.bool (v.same u)) ∧ Below w.heap.size w w'

set_option maxRecDepth 100000 in
set_option maxHeartbeats 1000000 in
theorem equalFunc_any (l l' : List V) (ih : ∀ x ∈ l, SameOk x) (A A' : Option Addr) (cap cap' : Nat) (w : World) (B : Nat) (hB : B ≤ w.heap.size) (hl : RdAll w B l A 0) (hl' : RdAll w B l' A' 0)
    (_ : l.length ≤ 9223372036854775807) (hlc' : l'.length ≤ 9223372036854775807) :
    Calls Try.prog 36 #[.slice A l.length cap, .slice A' l'.length cap', .func (Fn.func 21) #[] #[]] w fun e w' => e = .returned (.bool (V.sameAll l l')) ∧ Below w.heap.size w w' := by
  have IH := Lib.hid ih
  have hl0 := Lib.hid hl
  have hl1 := Lib.hid hl'
  clear ih hl hl'
  by_cases el : l.length = l'.length
  · have EL := Lib.hid el
    have hle : l.length ≤ l'.length := by omega
    have hb4 : ((l.length : Int) != (l'.length : Int)) = false := by simp [el]
    clear el
    go_enter Try.func36, Try.ntmps36
    go_wp2_with fail
    go_loopw [17] (fun i wr => ∃ j : Nat, j ≤ l.length ∧ i = .int .i64 j ∧ Hid (V.sameAll (l.take j) (l'.take j) = true) ∧ Below w.heap.size w wr) (fun i _ => l.length - (intOf i).toNat)
    case atStart => exact ⟨0, Nat.zero_le _, rfl, by simp [Hid, V.sameAll], Below.refl _ _⟩
    case round =>
      obtain ⟨j, hj, rfl, hfj, hwr⟩ := hrel
      have hwz : w.heap.size ≤ wr.heap.size := hwr.size
      by_cases hlt : j < l.length
      · have hlt' : j < l'.length := by omega
        obtain ⟨b, o, k1, n1, s1, m1, A1, cap1, rfl, hbB, e0, e1, e2, e3, hx, hr⟩ := hl0.out.open_ hlt
        obtain ⟨b', o', k2, n2, s2, m2, A2, cap2, rfl, hbB', f0, f1, f2, f3, hx', hr'⟩ := hl1.out.open_ hlt'
        have hm := List.mem_of_getElem? hx
        have hbb : b < w.heap.size := by omega
        have hbb' : b' < w.heap.size := by omega
        rw [← hwr.cell (p := ⟨b, _, none⟩) hbb] at e0 e1 e2 e3
        rw [← hwr.cell (p := ⟨b', _, none⟩) hbb'] at f0 f1 f2 f3
        have hbw' : b' < wr.heap.size := by omega
        have g0 : ∀ O, (wr.alloc O).cell? ⟨b', o' + j * 4, none⟩ = some (.int .i64 k2) := fun O => (World.cell?_alloc_lt wr O ⟨b', _, none⟩ hbw').trans f0
        have g1 : ∀ O, (wr.alloc O).cell? ⟨b', o' + j * 4 + 1, none⟩ = some (.int .i64 n2) := fun O => (World.cell?_alloc_lt wr O ⟨b', _, none⟩ hbw').trans f1
        have g2 : ∀ O, (wr.alloc O).cell? ⟨b', o' + j * 4 + 2, none⟩ = some (.string s2) := fun O => (World.cell?_alloc_lt wr O ⟨b', _, none⟩ hbw').trans f2
        have g3 : ∀ O, (wr.alloc O).cell? ⟨b', o' + j * 4 + 3, none⟩ = some (.slice A2 m2.length cap2) := fun O => (World.cell?_alloc_lt wr O ⟨b', _, none⟩ hbw').trans f3
        have hz : ∀ o1 o2, Below B w ((wr.alloc o1).alloc o2) := fun o1 o2 => (hwr.mono hB).trans (((Below.refl _ _).alloc (by omega) o1).alloc (by simp; omega) o2)
        have hz2 : ∀ o1 o2, Below w.heap.size w ((wr.alloc o1).alloc o2) := fun o1 o2 => hwr.trans (((Below.refl _ _).alloc (by omega) o1).alloc (by simp; omega) o2)
        have htk := Lib.hid (V.sameAll_take l l' j _ _ hx hx')
        have HX := Lib.hid hx
        have HX' := Lib.hid hx'
        have HR := Lib.hid hr
        have HR' := Lib.hid hr'
        clear hr hx hr' hx'
        cases hf : V.same (.mk k1 n1 s1 m1) (.mk k2 n2 s2 m2) with
        | false =>
          have HF : Hid (V.sameAll l l' = false) := V.sameAll_false HX.out HX'.out hf
          have HM := Lib.hid hf
          clear hf
          go_wp2_with fail
          refine (IH.out _ hm _ _ B _ _ (by simp; omega) (HR.out.below (hz _ _) (Nat.le_refl _)) (HR'.out.below (hz _ _) (Nat.le_refl _))).mono ?_
          rintro e w2 ⟨rfl, hb2⟩
          rw [HM.out]
          go_wp2_with fail
          go_ret
          exact ⟨by rw [HF.out]; rfl, (hz2 _ _).trans (hb2.mono (by simp; omega))⟩
        | true =>
          have HK : Hid (V.sameAll (l.take (j + 1)) (l'.take (j + 1)) = true) := by unfold Hid; rw [htk.out, hfj.out, hf]; rfl
          have HM := Lib.hid hf
          clear hf
          go_wp2_with fail
          refine (IH.out _ hm _ _ B _ _ (by simp; omega) (HR.out.below (hz _ _) (Nat.le_refl _)) (HR'.out.below (hz _ _) (Nat.le_refl _))).mono ?_
          rintro e w2 ⟨rfl, hb2⟩
          rw [HM.out]
          go_wp2_with fail
          go_roundw
          case rel => exact ⟨j + 1, by omega, by go_num, HK, (hz2 _ _).trans (hb2.mono (by simp; omega))⟩
          case measure => simp [intOf]; omega
      · have hje : j = l.length := by omega
        have HK : Hid (V.sameAll l l' = true) := by
          unfold Hid
          have := hfj.out
          rw [hje, List.take_length, EL.out, List.take_length] at this
          exact this
        have hn : ¬ ((j : Int) < (l.length : Int)) := by omega
        clear hje hfj
        go_wp2_with fail
        go_ret
        exact ⟨by rw [HK.out]; rfl, hwr⟩
  · have HE : Hid (V.sameAll l l' = false) := by
      unfold Hid
      rw [Bool.eq_false_iff]
      intro h
      exact el (V.sameAll_len h)
    have hb4 : ((l.length : Int) != (l'.length : Int)) = true := by simp; omega
    clear el
    go_enter Try.func36, Try.ntmps36
    go_wp2_with fail
    go_ret
    exact ⟨by rw [HE.out]; rfl, Below.refl _ _⟩

set_option maxRecDepth 100000 in
set_option maxHeartbeats 1000000 in
theorem same_any (v : V) : SameOk v := by
  induction v using V.ind with
  | h k n s l ih =>
    rintro u w B x y hB ⟨A, cap, rfl, hk, hn, hs, hlc, hcap, hl⟩ hru
    obtain ⟨k', n', s', l', rfl⟩ : ∃ k n s l, u = V.mk k n s l := by cases u with | mk k n s l => exact ⟨k, n, s, l, rfl⟩
    obtain ⟨A', cap', rfl, hk', hn', hs', hlc', hcap', hl'⟩ := hru
    have IH := Lib.hid ih
    have hl0 := Lib.hid hl
    have hl1 := Lib.hid hl'
    clear ih hl hl'
    unfold I64 at hk hn hk' hn'
    unfold maxLen at hs hcap hs' hcap'
    have hend : ∀ o1 o2, Below w.heap.size w ((w.alloc o1).alloc o2) := fun o1 o2 => ((Below.refl _ _).alloc (Nat.le_refl _) _).alloc (by simp) _
    by_cases ek : k = k'
    · subst ek
      by_cases en : n = n'
      · subst en
        by_cases es : s = s'
        · subst es
          have HE : Hid (V.same (.mk k n s l) (.mk k n s l') = V.sameAll l l') := by unfold Hid; simp [V.same]
          go_enter Try.func21, Try.ntmps21
          go_wp2_with fail
          refine (equalFunc_any l l' IH.out A A' cap cap' _ B (by simp; omega) (hl0.out.below ((hend _ _).mono hB) (Nat.le_refl _)) (hl1.out.below ((hend _ _).mono hB) (Nat.le_refl _)) (by omega) (by omega)).mono ?_
          rintro e w2 ⟨rfl, hb2⟩
          go_wp2_with fail
          go_ret
          exact ⟨by rw [HE.out]; rfl, (hend _ _).trans (hb2.mono (by simp; omega))⟩
        · have HE : Hid (V.same (.mk k n s l) (.mk k n s' l') = false) := by unfold Hid; simp [V.same, es]
          have b1 : (s.toList != s'.toList) = true := by simpa using fun h => es (toList_inj h)
          have b2 : (s.toList == s'.toList) = false := by simpa using fun h => es (toList_inj h)
          clear es
          go_enter Try.func21, Try.ntmps21
          go_wp2_with fail
          go_ret
          exact ⟨by rw [HE.out]; rfl, hend _ _⟩
      · have HE : Hid (V.same (.mk k n s l) (.mk k n' s' l') = false) := by unfold Hid; simp [V.same, en]
        have b1 : (n != n') = true := by simpa using en
        have b2 : (n == n') = false := by simpa using en
        clear en
        go_enter Try.func21, Try.ntmps21
        go_wp2_with fail
        go_ret
        exact ⟨by rw [HE.out]; rfl, hend _ _⟩
    · have HE : Hid (V.same (.mk k n s l) (.mk k' n' s' l') = false) := by unfold Hid; simp [V.same, ek]
      have b1 : (k != k') = true := by simpa using ek
      have b2 : (k == k') = false := by simpa using ek
      clear ek
      go_enter Try.func21, Try.ntmps21
      go_wp2_with fail
      go_ret
      exact ⟨by rw [HE.out]; rfl, hend _ _⟩
end Go.Proofs.Ytbcaanadmfnegaa
