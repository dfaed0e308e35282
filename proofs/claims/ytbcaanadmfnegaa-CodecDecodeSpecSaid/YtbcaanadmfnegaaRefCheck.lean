/- Contracts of the reference's Formed, Depth and Check. -/
import Derived.Test.YtbcaanadmfnegaaBare
namespace Go.Proofs.Ytbcaanadmfnegaa
open Go.RowKit

set_option maxRecDepth 100000 in
set_option maxHeartbeats 1000000 in
theorem formed_any (v : V) : ∀ (w : World) (B : Nat) (x : Value), B ≤ w.heap.size → Rd w B v x →
    Calls Try.prog 30 #[x] w fun e w' => e = .returned (.bool v.form) ∧ Below w.heap.size w w' := by
  induction v using V.ind with
  | h k n s l ih =>
    rintro w B x hB ⟨A, cap, rfl, hk, hn, hs, hlc, hcap, hl⟩
    have IH := Lib.hid ih
    have hl0 := Lib.hid hl
    clear ih hl
    unfold I64 at hk hn
    unfold maxLen at hs hcap
    by_cases h1 : k = 1
    · subst h1
      have e1 : V.form (.mk 1 n s l) = (s.toList.isEmpty && ((l.length : Int) == 0)) := by
        rw [Bool.eq_iff_iff]
        simp only [V.form, bareB]
        cases l <;> simp [V.formAll]
        omega
      have E := Lib.hid e1
      clear e1
      go_enter Try.func30, Try.ntmps30
      go_wp2_with fail
      all_goals go_ret
      all_goals refine ⟨?_, (Below.refl _ _).alloc (Nat.le_refl _) _⟩
      · rename_i h; rw [E.out]; exact ret_bool (by simp [h])
      · rename_i h; rw [E.out]; exact ret_bool (by simp [h])
    · by_cases h2 : k = 2
      · subst h2
        have e1 : V.form (.mk 2 n s l) = (n == 0 && ((l.length : Int) == 0)) := by
          rw [Bool.eq_iff_iff]
          simp only [V.form, bareB]
          cases l <;> simp [V.formAll]
          omega
        have E := Lib.hid e1
        clear e1 h1
        go_enter Try.func30, Try.ntmps30
        go_wp2_with fail
        all_goals go_ret
        all_goals refine ⟨?_, (Below.refl _ _).alloc (Nat.le_refl _) _⟩
        · rename_i h; rw [E.out]; exact ret_bool (by simp [h])
        · rename_i h; rw [E.out]; exact ret_bool (by simp [h])
      · by_cases h3 : k = 3
        · subst h3
          clear h1 h2
          have EF : Hid (V.form (.mk 3 n s l) = (n == 0 && s.toList.isEmpty && V.formAll l)) := by
            unfold Hid; simp [V.form, bareB]
          go_enter Try.func30, Try.ntmps30
          go_wp2_with fail
          go_outline
          go_loopw [3] (fun i wr => ∃ j : Nat, j ≤ l.length ∧ i = .int .i64 j ∧ Hid (V.formAll (l.take j) = true) ∧ Below (w.heap.size + 1) (w.alloc (.cells #[.int .i64 3, .int .i64 n, .string s, .slice A l.length cap] 24)) wr) (fun i _ => l.length - (intOf i).toNat)
          case atStart => exact ⟨0, Nat.zero_le _, rfl, by simp [Hid, V.formAll], Below.refl _ _⟩
          case round =>
            obtain ⟨j, hj, rfl, hfj, hbr⟩ := hrel
            have c3r : wr.cell? ⟨w.heap.size, 3, none⟩ = some (.slice A l.length cap) := by rw [hbr.cell (by simp)]; simp
            have c1r : wr.cell? ⟨w.heap.size, 1, none⟩ = some (.int .i64 n) := by rw [hbr.cell (by simp)]; simp
            have c2r : wr.cell? ⟨w.heap.size, 2, none⟩ = some (.string s) := by rw [hbr.cell (by simp)]; simp
            have hwr : Below w.heap.size w wr := ((Below.refl _ _).alloc (Nat.le_refl _) _).trans (hbr.mono (by simp))
            have hwz : w.heap.size + 1 ≤ wr.heap.size := by have := hbr.size; simpa using this
            by_cases hlt : j < l.length
            · obtain ⟨b, o, k', n', s', m', A', cap', rfl, hbB, e0, e1, e2, e3, hx, hr⟩ := hl0.out.open_ hlt
              have hm := List.mem_of_getElem? hx
              have hbb : b < w.heap.size := by omega
              rw [← hwr.cell (p := ⟨b, _, none⟩) hbb] at e0 e1 e2 e3
              have hrr := Lib.hid (Rd.below (B' := B) hr (hwr.mono hB) (Nat.le_refl _))
              have htk := Lib.hid (V.formAll_take l j _ hx)
              have HX := Lib.hid hx
              clear hr hx
              cases hf : V.form (.mk k' n' s' m') with
              | false =>
                have HF : Hid (V.form (.mk 3 n s l) = false) := by
                  unfold Hid; simp [V.form, V.formAll_false hm hf]
                have HM := Lib.hid hf
                clear hf
                go_wp2_with fail
                refine (IH.out _ hm _ B _ (by omega) hrr.out).mono ?_
                rintro e w2 ⟨rfl, hb2⟩
                rw [HM.out]
                go_wp2_with fail
                go_ret
                exact ⟨by rw [HF.out]; rfl, hwr.trans (hb2.mono (by omega))⟩
              | true =>
                have HK : Hid (V.formAll (l.take (j + 1)) = true) := by unfold Hid; rw [htk.out, hfj.out, hf]; rfl
                have HM := Lib.hid hf
                clear hf
                go_wp2_with fail
                refine (IH.out _ hm _ B _ (by omega) hrr.out).mono ?_
                rintro e w2 ⟨rfl, hb2⟩
                rw [HM.out]
                go_wp2_with fail
                go_roundw
                case rel => exact ⟨j + 1, by omega, by go_num, HK, hbr.trans (hb2.mono (by omega))⟩
                case measure => simp [intOf]; omega
            · have hje : j = l.length := by omega
              subst hje
              rw [List.take_length] at *
              have HK : Hid (V.formAll l = true) := hfj
              clear hfj
              go_wp2_with fail
              all_goals go_ret
              all_goals refine ⟨?_, hwr⟩
              · rename_i h; rw [EF.out, HK.out]; exact ret_bool (by simp [h])
              · rename_i h; rw [EF.out, HK.out]; exact ret_bool (by simp [h])
        · have e1 : V.form (.mk k n s l) = false := by simp [V.form, bareB, h1, h2, h3]
          have E := Lib.hid e1
          have b1 : (k == 1) = false := by simpa using h1
          have b2 : (k == 2) = false := by simpa using h2
          have b3 : (k == 3) = false := by simpa using h3
          clear e1 h1 h2 h3
          go_enter Try.func30, Try.ntmps30
          go_wp2_with fail
          go_ret
          exact ⟨by rw [E.out]; rfl, (Below.refl _ _).alloc (Nat.le_refl _) _⟩

mutual
/-- Depth of the reference -/
def V.rdepth : V → Nat
  | .mk k _ _ l => if k = 3 then V.rdepthAll l + 1 else 0
def V.rdepthAll : List V → Nat
  | [] => 0
  | x :: r => max x.rdepth (V.rdepthAll r)
end
theorem V.rdepthAll_le : ∀ {l : List V}, (∀ x ∈ l, x.rdepth ≤ x.depth) → V.rdepthAll l ≤ V.depthAll l
  | [], _ => Nat.le_refl _
  | y :: r, h => by
    rw [V.rdepthAll, V.depthAll]
    have h1 := h y (List.mem_cons_self ..)
    have h2 := V.rdepthAll_le (l := r) fun x hx => h x (List.mem_cons_of_mem _ hx)
    omega
theorem V.rdepth_le (v : V) : v.rdepth ≤ v.depth := by
  induction v using V.ind with
  | h k n s l ih =>
    have := V.rdepthAll_le ih
    rw [V.rdepth, V.depth]
    split <;> omega
theorem V.rdepthAll_eq : ∀ {l : List V}, (∀ x ∈ l, x.rdepth = x.depth) → V.rdepthAll l = V.depthAll l
  | [], _ => rfl
  | y :: r, h => by
    rw [V.rdepthAll, V.depthAll, h y (List.mem_cons_self ..), V.rdepthAll_eq (l := r) fun x hx => h x (List.mem_cons_of_mem _ hx)]
theorem V.rdepth_eq (v : V) : v.form = true → v.rdepth = v.depth := by
  induction v using V.ind with
  | h k n s l ih =>
    intro hf
    simp only [V.form, Bool.and_eq_true] at hf
    obtain ⟨hb, ha⟩ := hf
    have := V.rdepthAll_eq (l := l) fun x hx => ih x hx ((V.formAll_iff l).1 ha x hx)
    rw [V.rdepth, V.depth]
    split
    · omega
    · have : l = [] := by
        simp [bareB] at hb
        rcases hb with (⟨_, h⟩ | ⟨_, h⟩) | h
        · exact h
        · exact h
        · exfalso; simp_all
      subst this
      simp [V.depthAll]
theorem V.rdepthAll_take (l : List V) : ∀ (j : Nat), j < l.length → ∀ x, l[j]? = some x → V.rdepthAll (l.take (j + 1)) = max (V.rdepthAll (l.take j)) x.rdepth := by
  induction l with
  | nil => intro j hj; simp at hj
  | cons y r ih =>
    intro j hj x hx
    cases j with
    | zero => simp at hx; subst hx; simp [V.rdepthAll]
    | succ j =>
      rw [List.take_succ_cons, V.rdepthAll, ih j (by simpa using hj) x (by simpa using hx), List.take_succ_cons, V.rdepthAll]
      omega
theorem V.rdepthAll_take_le (l : List V) (j : Nat) : V.rdepthAll (l.take j) ≤ V.bulkAll l :=
  Nat.le_trans (V.rdepthAll_le fun x _ => x.rdepth_le) (V.bulkAll_take l j)

set_option maxRecDepth 100000 in
set_option maxHeartbeats 1000000 in
theorem depth_any (v : V) : ∀ (w : World) (B : Nat) (x : Value), B ≤ w.heap.size → Rd w B v x → v.bulk ≤ 1099511627776 →
    Calls Try.prog 31 #[x] w fun e w' => e = .returned (.int .i64 v.rdepth) ∧ Below w.heap.size w w' := by
  induction v using V.ind with
  | h k n s l ih =>
    rintro w B x hB ⟨A, cap, rfl, hk, hn, hs, hlc, hcap, hl⟩ hbk
    rw [V.bulk] at hbk
    have IH := Lib.hid ih
    have hl0 := Lib.hid hl
    clear ih hl
    unfold I64 at hk hn
    unfold maxLen at hs hcap
    by_cases h3 : k = 3
    · subst h3
      have EF : Hid (V.rdepth (.mk 3 n s l) = V.rdepthAll l + 1) := by unfold Hid; simp [V.rdepth]
      go_enter Try.func31, Try.ntmps31
      go_wp2_with fail
      go_loopw [3, 4] (fun d i wr => ∃ j : Nat, j ≤ l.length ∧ i = .int .i64 j ∧ d = .int .i64 (V.rdepthAll (l.take j)) ∧ Below (w.heap.size + 1) (w.alloc (.cells #[.int .i64 3, .int .i64 n, .string s, .slice A l.length cap] 24)) wr) (fun _ i _ => l.length - (intOf i).toNat)
      case atStart => exact ⟨0, Nat.zero_le _, rfl, by simp [V.rdepthAll], Below.refl _ _⟩
      case round =>
        obtain ⟨j, hj, rfl, rfl, hbr⟩ := hrel
        have c3r : wr.cell? ⟨w.heap.size, 3, none⟩ = some (.slice A l.length cap) := by rw [hbr.cell (by simp)]; simp
        have hwr : Below w.heap.size w wr := ((Below.refl _ _).alloc (Nat.le_refl _) _).trans (hbr.mono (by simp))
        have hwz : w.heap.size + 1 ≤ wr.heap.size := by have := hbr.size; simpa using this
        have hd1 := V.rdepthAll_take_le l j
        by_cases hlt : j < l.length
        · obtain ⟨b, o, k', n', s', m', A', cap', rfl, hbB, e0, e1, e2, e3, hx, hr⟩ := hl0.out.open_ hlt
          have hm := List.mem_of_getElem? hx
          have hbb : b < w.heap.size := by omega
          rw [← hwr.cell (p := ⟨b, _, none⟩) hbb] at e0 e1 e2 e3
          have hrr := Lib.hid (Rd.below (B' := B) hr (hwr.mono hB) (Nat.le_refl _))
          have hbl := V.bulk_mem hm
          have ht := Lib.hid (V.rdepthAll_take l j hlt _ hx)
          have HX := Lib.hid hx
          clear hr hx
          go_wp2_with fail
          refine (IH.out _ hm _ B _ (by omega) hrr.out (by omega)).mono ?_
          rintro e w2 ⟨rfl, hb2⟩
          generalize V.rdepth (.mk k' n' s' m') = dd at *
          go_wp2_with fail
          all_goals
            go_roundw
            case rel =>
              refine ⟨j + 1, by omega, by go_num, ?_, hbr.trans (hb2.mono (by omega))⟩
              rw [ht.out]
              exact max_ite _ _
            case measure => simp [intOf]; omega
        · have hje : j = l.length := by omega
          subst hje
          rw [List.take_length] at *
          go_wp2_with fail
          go_ret
          exact ⟨by rw [EF.out]; rfl, hwr⟩
    · have EF : Hid (V.rdepth (.mk k n s l) = 0) := by unfold Hid; simp [V.rdepth, h3]
      have b3 : (k == 3) = false := by simpa using h3
      have b4 : (k != 3) = true := by simpa using h3
      clear h3
      go_enter Try.func31, Try.ntmps31
      go_wp2_with fail
      go_ret
      exact ⟨by rw [EF.out]; rfl, (Below.refl _ _).alloc (Nat.le_refl _) _⟩

set_option maxRecDepth 100000 in
set_option maxHeartbeats 1000000 in
theorem refCheck_any (v : V) (w : World) (B : Nat) (x : Value) (hB : B ≤ w.heap.size) (hr : Rd w B v x) (hbk : v.bulk ≤ 1099511627776) :
    Calls Try.prog 17 #[x] w fun e w' => e = .returned (.int .i64 v.check) ∧ Below w.heap.size w w' := by
  have hd := V.depth_le v
  have hd2 := V.rdepth_le v
  have HE : Hid (v.form = true → v.rdepth = v.depth) := v.rdepth_eq
  have HR := Lib.hid hr
  obtain ⟨k, n, s, l, rfl⟩ : ∃ k n s l, v = V.mk k n s l := by cases v with | mk k n s l => exact ⟨k, n, s, l, rfl⟩
  obtain ⟨A, cap, rfl, h0⟩ := hr
  clear h0
  have HR1 : Hid (∀ (o : Obj), Rd (w.alloc o) B (V.mk k n s l) (.agg #[.int .i64 k, .int .i64 n, .string s, .slice A l.length cap])) := fun o => HR.out.below (((Below.refl _ _).alloc (Nat.le_refl _) o).mono hB) (Nat.le_refl _)
  have hw : ∀ {o : Obj} {w1 : World}, Below (w.alloc o).heap.size (w.alloc o) w1 → Below w.heap.size w w1 := fun {o w1} h => ((Below.refl _ _).alloc (Nat.le_refl _) o).trans (h.mono (by simp))
  cases hf : V.form (.mk k n s l) with
  | false =>
    have HC : Hid (V.check (.mk k n s l) = 1) := by unfold Hid; simp [V.check, hf]
    have HM := Lib.hid hf
    clear hf
    go_enter Try.func17, Try.ntmps17
    go_wp2_with fail
    refine (formed_any _ _ B _ (by simp; omega) (HR1.out _)).mono ?_
    rintro e w1 ⟨rfl, hb1⟩
    rw [HM.out]
    go_wp2_with fail
    go_ret
    exact ⟨by rw [HC.out]; rfl, hw hb1⟩
  | true =>
    have he := HE.out hf
    have HC : Hid (V.check (.mk k n s l) = if V.rdepth (.mk k n s l) > 16 then 2 else 0) := by unfold Hid; simp [V.check, hf, he]
    have HM := Lib.hid hf
    have hz := Lib.hid he
    clear hf he HE
    go_enter Try.func17, Try.ntmps17
    go_wp2_with fail
    refine (formed_any _ _ B _ (by simp; omega) (HR1.out _)).mono ?_
    rintro e w1 ⟨rfl, hb1⟩
    rw [HM.out]
    have c0 : w1.cell? ⟨w.heap.size, 0, none⟩ = some (.int .i64 k) := by rw [hb1.cell (by simp)]; simp
    have c1 : w1.cell? ⟨w.heap.size, 1, none⟩ = some (.int .i64 n) := by rw [hb1.cell (by simp)]; simp
    have c2 : w1.cell? ⟨w.heap.size, 2, none⟩ = some (.string s) := by rw [hb1.cell (by simp)]; simp
    have c3 : w1.cell? ⟨w.heap.size, 3, none⟩ = some (.slice A l.length cap) := by rw [hb1.cell (by simp)]; simp
    have hw1 := hw hb1
    have hr1 := Lib.hid (HR.out.below (hw1.mono hB) (Nat.le_refl _))
    have hz1 : w.heap.size ≤ w1.heap.size := hw1.size
    go_wp2_with fail
    refine (depth_any _ _ B _ (by omega) hr1.out hbk).mono ?_
    rintro e w2 ⟨rfl, hb2⟩
    have hw2 := hw1.trans (hb2.mono hz1)
    generalize V.rdepth (.mk k n s l) = dd at *
    by_cases h16 : dd > 16
    · have HC2 : Hid (V.check (.mk k n s l) = 2) := by unfold Hid; rw [HC.out, if_pos h16]
      go_wp2_with fail
      go_ret
      exact ⟨by rw [HC2.out]; rfl, hw2⟩
    · have HC2 : Hid (V.check (.mk k n s l) = 0) := by unfold Hid; rw [HC.out, if_neg h16]
      go_wp2_with fail
      go_ret
      exact ⟨by rw [HC2.out]; rfl, hw2⟩
end Go.Proofs.Ytbcaanadmfnegaa
