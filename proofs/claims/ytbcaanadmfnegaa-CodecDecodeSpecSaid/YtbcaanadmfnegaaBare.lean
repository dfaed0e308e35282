/- Contracts of bare and measure. -/
import Derived.Test.YtbcaanadmfnegaaMem
namespace Go.Proofs.Ytbcaanadmfnegaa
open Go.RowKit

theorem ret_bool {a b : Bool} (h : a = b) : Ending.returned (.bool a) = .returned (.bool b) := by rw [h]

theorem max_ite (a b : Nat) : Value.int .i64 (if a < b then (b : Int) else a) = .int .i64 ((max a b : Nat) : Int) := by
  congr 1
  split <;> omega

def bareB (k n : Int) (s : ByteArray) (len : Nat) : Bool :=
  (decide (k = 1) && s.toList.isEmpty && len == 0) || (decide (k = 2) && n == 0 && len == 0) || (decide (k = 3) && n == 0 && s.toList.isEmpty)

set_option maxRecDepth 100000 in
set_option maxHeartbeats 400000 in
theorem bare_any (k n : Int) (s : ByteArray) (A : Option Addr) (len cap : Nat) (w : World) :
    Calls Try.prog 41 #[.agg #[.int .i64 k, .int .i64 n, .string s, .slice A len cap]] w fun e w' => e = .returned (.bool (bareB k n s len)) ∧ Below w.heap.size w w' := by
  by_cases h1 : k = 1
  · subst h1
    have e1 : bareB 1 n s len = (s.toList.isEmpty && ((len : Int) == 0)) := by rw [Bool.eq_iff_iff]; simp [bareB]
    have E := Lib.hid e1
    clear e1
    go_enter Try.func41, Try.ntmps41
    go_wp2
    all_goals go_ret
    all_goals refine ⟨?_, (Below.refl _ _).alloc (Nat.le_refl _) _⟩
    · rename_i h; rw [E.out]; exact ret_bool (by simp [h])
    · rename_i h; rw [E.out]; exact ret_bool (by simp [h])
  · by_cases h2 : k = 2
    · subst h2
      have e1 : bareB 2 n s len = (n == 0 && ((len : Int) == 0)) := by rw [Bool.eq_iff_iff]; simp [bareB]
      have E := Lib.hid e1
      clear e1 h1
      go_enter Try.func41, Try.ntmps41
      go_wp2
      all_goals go_ret
      all_goals refine ⟨?_, (Below.refl _ _).alloc (Nat.le_refl _) _⟩
      · rename_i h; rw [E.out]; exact ret_bool (by simp [h])
      · rename_i h; rw [E.out]; exact ret_bool (by simp [h])
    · by_cases h3 : k = 3
      · subst h3
        have e1 : bareB 3 n s len = (n == 0 && s.toList.isEmpty) := by rw [Bool.eq_iff_iff]; simp [bareB]
        have E := Lib.hid e1
        clear e1 h1 h2
        go_enter Try.func41, Try.ntmps41
        go_wp2
        all_goals go_ret
        all_goals refine ⟨?_, (Below.refl _ _).alloc (Nat.le_refl _) _⟩
        · rename_i h; rw [E.out]; exact ret_bool (by simp [h])
        · rename_i h; rw [E.out]; exact ret_bool (by simp [h])
      · have e1 : bareB k n s len = false := by simp [bareB, h1, h2, h3]
        have E := Lib.hid e1
        have b1 : (k == 1) = false := by simpa using h1
        have b2 : (k == 2) = false := by simpa using h2
        have b3 : (k == 3) = false := by simpa using h3
        clear e1 h1 h2 h3
        go_enter Try.func41, Try.ntmps41
        go_wp2
        go_ret
        exact ⟨by rw [E.out]; rfl, (Below.refl _ _).alloc (Nat.le_refl _) _⟩

def V.bare : V → Bool | .mk k n s l => bareB k n s l.length
mutual
/-- measure: 0, false for what is not well-formed -/
def V.form : V → Bool
  | .mk k n s l => bareB k n s l.length && V.formAll l
def V.formAll : List V → Bool
  | [] => true
  | x :: r => x.form && V.formAll r
end
mutual
def V.depth : V → Nat
  | .mk k _ _ l => (if k = 3 then 1 else 0) + V.depthAll l
def V.depthAll : List V → Nat
  | [] => 0
  | x :: r => max x.depth (V.depthAll r)
end
def mTuple (d : Nat) (ok : Bool) : Value := .tuple #[.int .i64 d, .bool ok]
def V.measured (v : V) : Value := if v.form then .tuple #[.int .i64 v.depth, .bool true] else .tuple #[.int .i64 0, .bool false]

mutual
/-- an upper bound of all that is counted -/
def V.bulk : V → Nat
  | .mk _ _ s l => 11 + s.size + V.bulkAll l
def V.bulkAll : List V → Nat
  | [] => 0
  | x :: r => x.bulk + V.bulkAll r
end
theorem V.bulk_mem {x : V} : ∀ {l : List V}, x ∈ l → x.bulk ≤ V.bulkAll l
  | y :: r, h => by
    rw [V.bulkAll]
    cases h with
    | head => omega
    | tail _ h => have := V.bulk_mem h; omega
theorem V.depthAll_le : ∀ {l : List V}, (∀ x ∈ l, x.depth ≤ x.bulk) → V.depthAll l ≤ V.bulkAll l
  | [], _ => Nat.le_refl _
  | y :: r, h => by
    rw [V.bulkAll, V.depthAll]
    have h1 := h y (List.mem_cons_self ..)
    have h2 := V.depthAll_le (l := r) fun x hx => h x (List.mem_cons_of_mem _ hx)
    omega
theorem V.depth_le (v : V) : v.depth ≤ v.bulk := by
  induction v using V.ind with
  | h k n s l ih =>
    have := V.depthAll_le ih
    rw [V.bulk, V.depth]
    split <;> omega
theorem V.depthAll_take (l : List V) : ∀ (j : Nat), j < l.length → ∀ x, l[j]? = some x → V.depthAll (l.take (j + 1)) = max (V.depthAll (l.take j)) x.depth := by
  induction l with
  | nil => intro j hj; simp at hj
  | cons y r ih =>
    intro j hj x hx
    cases j with
    | zero => simp at hx; subst hx; simp [V.depthAll]
    | succ j =>
      rw [List.take_succ_cons, V.depthAll, ih j (by simpa using hj) x (by simpa using hx), List.take_succ_cons, V.depthAll]
      omega
theorem V.formAll_iff (l : List V) : V.formAll l = true ↔ ∀ x ∈ l, x.form = true := by
  induction l with
  | nil => simp [V.formAll]
  | cons y r ih => simp [V.formAll, ih]
theorem V.formAll_take (l : List V) : ∀ (j : Nat) (x : V), l[j]? = some x → V.formAll (l.take (j + 1)) = (V.formAll (l.take j) && x.form) := by
  induction l with
  | nil => intro j x hx; simp at hx
  | cons y r ih =>
    intro j x hx
    cases j with
    | zero => simp at hx; subst hx; simp [V.formAll]
    | succ j => rw [List.take_succ_cons, V.formAll, ih j x (by simpa using hx), List.take_succ_cons, V.formAll, Bool.and_assoc]
theorem V.formAll_false {l : List V} {x : V} (hx : x ∈ l) (h : x.form = false) : V.formAll l = false := by
  rw [Bool.eq_false_iff]
  intro ha
  rw [(V.formAll_iff l).1 ha x hx] at h
  cases h
theorem V.bulkAll_take (l : List V) (j : Nat) : V.depthAll (l.take j) ≤ V.bulkAll l := by
  have h1 := V.depthAll_le (l := l.take j) fun x _ => x.depth_le
  have h2 : ∀ (l : List V) (j : Nat), V.bulkAll (l.take j) ≤ V.bulkAll l := by
    intro l
    induction l with
    | nil => intro j; simp
    | cons y r ih => intro j; cases j with
      | zero => simp [V.bulkAll]
      | succ j => have := ih j; rw [List.take_succ_cons, V.bulkAll, V.bulkAll]; omega
  exact Nat.le_trans h1 (h2 l j)

set_option maxRecDepth 100000 in
set_option maxHeartbeats 1000000 in
theorem measure_any (v : V) : ∀ (w : World) (B : Nat) (x : Value), B ≤ w.heap.size → Rd w B v x → v.bulk ≤ 1099511627776 →
    Calls Try.prog 29 #[x] w fun e w' => e = .returned v.measured ∧ Below w.heap.size w w' := by
  induction v using V.ind with
  | h k n s l ih =>
    rintro w B x hB ⟨A, cap, rfl, hk, hn, hs, hlc, hcap, hl⟩ hbk
    rw [V.bulk] at hbk
    have IH := Lib.hid ih
    have hl0 := Lib.hid hl
    clear ih hl
    cases hb : bareB k n s l.length with
    | false =>
      have HF : Hid (V.measured (.mk k n s l) = .tuple #[.int .i64 0, .bool false]) := by unfold Hid; simp [V.measured, V.form, hb]
      have HB := Lib.hid hb
      clear hb
      go_enter Try.func29, Try.ntmps29
      go_wp2_with fail
      refine (bare_any _ _ _ _ _ _ _).mono ?_
      rintro e w1 ⟨rfl, hb1⟩
      rw [HB.out]
      go_wp2_with fail
      go_ret2
      exact ⟨by rw [HF.out]; rfl, ((Below.refl _ _).alloc (Nat.le_refl _) _).trans (hb1.mono (by simp))⟩
    | true =>
      have HB := Lib.hid hb
      clear hb
      unfold I64 at hk hn
      unfold maxLen at hs hcap
      go_enter Try.func29, Try.ntmps29
      go_wp2_with fail
      refine (bare_any _ _ _ _ _ _ _).mono ?_
      rintro e w1 ⟨rfl, hb1⟩
      rw [HB.out]
      have c3 : w1.cell? ⟨w.heap.size, 3, none⟩ = some (.slice A l.length cap) := by rw [hb1.cell (by simp)]; simp
      have c0 : w1.cell? ⟨w.heap.size, 0, none⟩ = some (.int .i64 k) := by rw [hb1.cell (by simp)]; simp
      have hz : w.heap.size + 1 ≤ w1.heap.size := by have := hb1.size; simpa using this
      have hbw : Below w.heap.size w w1 := ((Below.refl _ _).alloc (Nat.le_refl _) _).trans (hb1.mono (by simp))
      have HBW := Lib.hid hbw
      clear hb1 hbw
      go_wp2_with fail
      go_loopw [2, 14] (fun d i wr => ∃ j : Nat, j ≤ l.length ∧ i = .int .i64 j ∧ Hid (V.formAll (l.take j) = true) ∧ d = .int .i64 (V.depthAll (l.take j)) ∧ Below w1.heap.size w1 wr) (fun _ i _ => l.length - (intOf i).toNat)
      case atStart => exact ⟨0, Nat.zero_le _, rfl, by simp [Hid, V.formAll], by simp [V.depthAll], Below.refl _ _⟩
      case round =>
        obtain ⟨j, hj, rfl, hfj, rfl, hbr⟩ := hrel
        have hdj := V.bulkAll_take l j
        have c3r : wr.cell? ⟨w.heap.size, 3, none⟩ = some (.slice A l.length cap) := by rw [hbr.cell (show w.heap.size < _ by omega)]; exact c3
        have c0r : wr.cell? ⟨w.heap.size, 0, none⟩ = some (.int .i64 k) := by rw [hbr.cell (show w.heap.size < _ by omega)]; exact c0
        by_cases hlt : j < l.length
        · obtain ⟨b, o, k', n', s', m', A', cap', rfl, hbB, e0, e1, e2, e3, hx, hr⟩ := hl0.out.open_ hlt
          have hm := List.mem_of_getElem? hx
          have hwr : Below w.heap.size w wr := HBW.out.trans (hbr.mono (by omega))
          have hbb : b < w.heap.size := by omega
          rw [← hwr.cell (p := ⟨b, _, none⟩) hbb] at e0 e1 e2 e3
          have hrr := Lib.hid (Rd.below (B' := B) hr (hwr.mono hB) (Nat.le_refl _))
          have hbl := V.bulk_mem hm
          have hwz : w1.heap.size ≤ wr.heap.size := hbr.size
          have ht := Lib.hid (V.depthAll_take l j hlt _ hx)
          have htk := Lib.hid (V.formAll_take l j _ hx)
          have HX := Lib.hid hx
          have hdl := V.depth_le (.mk k' n' s' m')
          clear hr hx hdj
          have hd1 := V.bulkAll_take l j
          cases hf : V.form (.mk k' n' s' m') with
          | false =>
            have HM : Hid (V.measured (.mk k' n' s' m') = .tuple #[.int .i64 0, .bool false]) := by unfold Hid; simp [V.measured, hf]
            have HF : Hid (V.measured (.mk k n s l) = .tuple #[.int .i64 0, .bool false]) := by
              unfold Hid; simp [V.measured, V.form, V.formAll_false hm hf]
            clear hf
            go_wp2_with fail
            refine (IH.out _ hm _ B _ (by simp; omega) (Rd.below (B' := B) hrr.out (((Below.refl _ _).alloc (Nat.le_refl _) _).mono (by omega)) (Nat.le_refl _)) (by omega)).mono ?_
            rintro e w2 ⟨rfl, hb2⟩
            rw [HM.out]
            go_wp2_with fail
            go_ret2
            refine ⟨by rw [HF.out]; rfl, hwr.trans (((Below.refl _ _).alloc (by omega) _).trans (hb2.mono ?_))⟩
            simp; omega
          | true =>
            have HM : Hid (V.measured (.mk k' n' s' m') = .tuple #[.int .i64 (V.depth (.mk k' n' s' m')), .bool true]) := by unfold Hid; simp [V.measured, hf]
            have HK : Hid (V.formAll (l.take (j + 1)) = true) := by unfold Hid; rw [htk.out, hfj.out, hf]; rfl
            generalize V.depth (.mk k' n' s' m') = dd at *
            clear hf
            go_wp2_with fail
            refine (IH.out _ hm _ B _ (by simp; omega) (Rd.below (B' := B) hrr.out (((Below.refl _ _).alloc (Nat.le_refl _) _).mono (by omega)) (Nat.le_refl _)) (by omega)).mono ?_
            rintro e w2 ⟨rfl, hb2⟩
            rw [HM.out]
            go_wp2_with fail
            all_goals
              go_roundw
              case rel =>
                refine ⟨j + 1, by omega, by go_num, HK, ?_, hbr.trans (((Below.refl _ _).alloc (by omega) _).trans (hb2.mono (by simp; omega)))⟩
                rw [ht.out]
                exact max_ite _ _
              case measure => simp [intOf]; omega
        · have hje : j = l.length := by omega
          subst hje
          rw [List.take_length] at *
          have HK : Hid (V.formAll l = true) := hfj
          by_cases h3 : k = 3
          · subst h3
            have HF : Hid (V.measured (.mk 3 n s l) = .tuple #[.int .i64 ((V.depthAll l + 1 : Nat)), .bool true]) := by
              unfold Hid; simp [V.measured, V.form, HB.out, HK.out, V.depth, Nat.add_comm]
            go_wp2_with fail
            go_ret2
            exact ⟨by rw [HF.out]; rfl, HBW.out.trans (hbr.mono (by omega))⟩
          · have HF : Hid (V.measured (.mk k n s l) = .tuple #[.int .i64 ((V.depthAll l : Nat)), .bool true]) := by
              unfold Hid; simp [V.measured, V.form, HB.out, HK.out, V.depth, h3]
            have hb3 : (k == 3) = false := by simpa using h3
            clear h3
            go_wp2_with fail
            go_ret2
            exact ⟨by rw [HF.out]; rfl, HBW.out.trans (hbr.mono (by omega))⟩

/-- the result of Check -/
def V.check (v : V) : Int := if v.form then (if v.depth > 16 then 2 else 0) else 1

set_option maxRecDepth 100000 in
set_option maxHeartbeats 1000000 in
theorem check_any (v : V) (w : World) (B : Nat) (x : Value) (hB : B ≤ w.heap.size) (hr : Rd w B v x) (hbk : v.bulk ≤ 1099511627776) :
    Calls Try.prog 16 #[x] w fun e w' => e = .returned (.int .i64 v.check) ∧ Below w.heap.size w w' := by
  have hd := V.depth_le v
  have HR := Lib.hid hr
  obtain ⟨k, n, s, l, rfl⟩ : ∃ k n s l, v = V.mk k n s l := by cases v with | mk k n s l => exact ⟨k, n, s, l, rfl⟩
  obtain ⟨A, cap, rfl, h0⟩ := hr
  clear h0
  have hr1 : ∀ (o : Obj), Rd (w.alloc o) B (V.mk k n s l) (.agg #[.int .i64 k, .int .i64 n, .string s, .slice A l.length cap]) := fun o => HR.out.below (((Below.refl _ _).alloc (Nat.le_refl _) o).mono hB) (Nat.le_refl _)
  have HR1 := Lib.hid hr1
  clear hr1
  have hw : ∀ {o : Obj} {w1 : World}, Below (w.alloc o).heap.size (w.alloc o) w1 → Below w.heap.size w w1 := fun {o w1} h => ((Below.refl _ _).alloc (Nat.le_refl _) o).trans (h.mono (by simp))
  cases hf : V.form (.mk k n s l) with
  | false =>
    have HM : Hid (V.measured (.mk k n s l) = .tuple #[.int .i64 0, .bool false]) := by unfold Hid; simp [V.measured, hf]
    have HC : Hid (V.check (.mk k n s l) = 1) := by unfold Hid; simp [V.check, hf]
    clear hf
    go_enter Try.func16, Try.ntmps16
    go_wp2_with fail
    refine (measure_any _ _ B _ (by simp; omega) (HR1.out _) hbk).mono ?_
    rintro e w1 ⟨rfl, hb1⟩
    rw [HM.out]
    go_wp2_with fail
    go_ret
    exact ⟨by rw [HC.out]; rfl, hw hb1⟩
  | true =>
    have HM : Hid (V.measured (.mk k n s l) = .tuple #[.int .i64 (V.depth (.mk k n s l)), .bool true]) := by unfold Hid; simp [V.measured, hf]
    by_cases h16 : V.depth (.mk k n s l) > 16
    · have HC : Hid (V.check (.mk k n s l) = 2) := by unfold Hid; simp [V.check, hf, h16]
      clear hf
      generalize V.depth (.mk k n s l) = dd at *
      go_enter Try.func16, Try.ntmps16
      go_wp2_with fail
      refine (measure_any _ _ B _ (by simp; omega) (HR1.out _) hbk).mono ?_
      rintro e w1 ⟨rfl, hb1⟩
      rw [HM.out]
      go_wp2_with fail
      go_ret
      exact ⟨by rw [HC.out]; rfl, hw hb1⟩
    · have HC : Hid (V.check (.mk k n s l) = 0) := by unfold Hid; simp [V.check, hf, h16]
      clear hf
      generalize V.depth (.mk k n s l) = dd at *
      go_enter Try.func16, Try.ntmps16
      go_wp2_with fail
      refine (measure_any _ _ B _ (by simp; omega) (HR1.out _) hbk).mono ?_
      rintro e w1 ⟨rfl, hb1⟩
      rw [HM.out]
      go_wp2_with fail
      go_ret
      exact ⟨by rw [HC.out]; rfl, hw hb1⟩
end Go.Proofs.Ytbcaanadmfnegaa
