/- Contracts of coders and of size. -/
import Derived.Test.YtbcaanadmfnegaaBare
import Derived.Test.YtbcaanadmfnegaaNum
import Derived.BigQuiet
import Derived.Deep.QuietTactic
import Derived.StillTailTactics
import Derived.Laws.EntriesVeiled
import Derived.Deep.RegionHeld3
namespace Go.Proofs.Ytbcaanadmfnegaa
open Go.RowKit

/-- the table of coders as a value -/
abbrev codersV : Value := .agg #[.nilFunc, .nilFunc, .nilFunc, .func (Fn.func 46) #[] #[], .func (Fn.func 47) #[] #[], .func (Fn.func 48) #[] #[],
  .func (Fn.func 49) #[] #[], .func (Fn.func 50) #[] #[], .func (Fn.func 51) #[] #[],
  .func (Fn.func 52) #[] #[], .func (Fn.func 53) #[] #[], .func (Fn.func 54) #[] #[]]

set_option maxRecDepth 100000 in
set_option maxHeartbeats 1000000 in
theorem coders_any (w : World) : Calls Try.prog 38 #[] w fun e w' => e = .returned codersV ∧ Below w.heap.size w w' := by
  go_enter Try.func38, Try.ntmps38
  go_wp2_with fail
  refine bodyPost_ret (v := codersV) (by simp [results, Try.results38, go_sem]) rfl ⟨rfl, (Below.refl _ _).alloc (Nat.le_refl _) _⟩

theorem coder1 (w : World) : (Instr.index 63 codersV (.int .i64 1)).run Try.prog w = .ok (.agg #[.func (Fn.func 46) #[] #[], .func (Fn.func 47) #[] #[], .func (Fn.func 48) #[] #[]]) w := by kernel_rfl
theorem coder2 (w : World) : (Instr.index 63 codersV (.int .i64 2)).run Try.prog w = .ok (.agg #[.func (Fn.func 49) #[] #[], .func (Fn.func 50) #[] #[], .func (Fn.func 51) #[] #[]]) w := by kernel_rfl
theorem coder3 (w : World) : (Instr.index 63 codersV (.int .i64 3)).run Try.prog w = .ok (.agg #[.func (Fn.func 52) #[] #[], .func (Fn.func 53) #[] #[], .func (Fn.func 54) #[] #[]]) w := by kernel_rfl

theorem field0 (x y z : Value) (w : World) : (Instr.field 62 (.agg #[x, y, z]) 0).run Try.prog w = .ok x w := by kernel_rfl
theorem field1 (x y z : Value) (w : World) : (Instr.field 62 (.agg #[x, y, z]) 1).run Try.prog w = .ok y w := by kernel_rfl
theorem field2 (x y z : Value) (w : World) : (Instr.field 62 (.agg #[x, y, z]) 2).run Try.prog w = .ok z w := by kernel_rfl

/-- a box of four cells is kept -/
theorem box_keep {W w1 w2 : World} {g : Nat} {x0 x1 x2 x3 : Value} (h : Below W.heap.size W w1 ∧ w1.cell? ⟨g, 0, none⟩ = some x0 ∧ w1.cell? ⟨g, 1, none⟩ = some x1 ∧ w1.cell? ⟨g, 2, none⟩ = some x2 ∧ w1.cell? ⟨g, 3, none⟩ = some x3)
    (hb : Below w1.heap.size w1 w2) : Below W.heap.size W w2 ∧ w2.cell? ⟨g, 0, none⟩ = some x0 ∧ w2.cell? ⟨g, 1, none⟩ = some x1 ∧ w2.cell? ⟨g, 2, none⟩ = some x2 ∧ w2.cell? ⟨g, 3, none⟩ = some x3 := by
  obtain ⟨h0, c0, c1, c2, c3⟩ := h
  have l0 := World.block_lt_of_cell? w1 _ c0
  exact ⟨h0.trans (hb.mono h0.size), by rw [hb.cell (by simpa using l0)]; exact c0, by rw [hb.cell (by simpa using l0)]; exact c1, by rw [hb.cell (by simpa using l0)]; exact c2, by rw [hb.cell (by simpa using l0)]; exact c3⟩

/-- numerals and encodings -/
def num (u : Nat) : List UInt8 := if u < 128 then [UInt8.ofNat u] else UInt8.ofNat (u % 128 + 128) :: num (u / 128)
termination_by u
decreasing_by omega
theorem num_length (u : Nat) : (num u).length = digs u := by
  induction u using Nat.strongRecOn with
  | _ u ih =>
    unfold num digs
    split
    · rfl
    · rw [List.length_cons, ih (u / 128) (by omega)]
mutual
def V.enc : V → List UInt8
  | .mk k n s l => if k = 1 then 1 :: num (uform n).toNat else if k = 2 then 2 :: (num s.size ++ s.data.toList) else 3 :: (num l.length ++ V.encAll l)
def V.encAll : List V → List UInt8
  | [] => []
  | x :: r => x.enc ++ V.encAll r
end
theorem V.encAll_le : ∀ {l : List V}, (∀ x ∈ l, x.enc.length ≤ x.bulk) → (V.encAll l).length ≤ V.bulkAll l
  | [], _ => Nat.le_refl _
  | y :: r, h => by
    rw [V.bulkAll, V.encAll, List.length_append]
    have h1 := h y (List.mem_cons_self ..)
    have h2 := V.encAll_le (l := r) fun x hx => h x (List.mem_cons_of_mem _ hx)
    omega
theorem bulkAll_length : ∀ (l : List V), l.length ≤ V.bulkAll l
  | [] => Nat.le_refl _
  | .mk _ _ _ _ :: r => by
    rw [V.bulkAll, V.bulk, List.length_cons]
    have := bulkAll_length r
    omega
theorem uform_toNat (n : Int) (h : I64 n) : (uform n).toNat ≤ 18446744073709551615 := by
  obtain ⟨h0, h1⟩ := h
  have := uform_bd n h0 h1
  omega
theorem V.encAll_take (l : List V) : ∀ (j : Nat) (x : V), l[j]? = some x → V.encAll (l.take (j + 1)) = V.encAll (l.take j) ++ x.enc := by
  induction l with
  | nil => intro j x hx; simp at hx
  | cons y r ih =>
    intro j x hx
    cases j with
    | zero => simp at hx; subst hx; simp [V.encAll]
    | succ j => rw [List.take_succ_cons, V.encAll, ih j x (by simpa using hx), List.take_succ_cons, V.encAll, List.append_assoc]
theorem V.encAll_take_le (l : List V) : ∀ (j : Nat), (V.encAll (l.take j)).length ≤ (V.encAll l).length := by
  induction l with
  | nil => intro j; simp
  | cons y r ih => intro j; cases j with
    | zero => simp [V.encAll]
    | succ j => have := ih j; rw [List.take_succ_cons, V.encAll, V.encAll, List.length_append, List.length_append]; omega

/-- numbers of values fit -/
def V.fit : V → Prop := fun v => ∀ w B x, Rd w B v x → v.enc.length ≤ v.bulk
theorem Rd.enc_le {w : World} {B : Nat} (v : V) : ∀ (x : Value), Rd w B v x → v.bulk ≤ 1099511627776 → v.enc.length ≤ v.bulk := by
  induction v using V.ind with
  | h k n s l ih =>
    intro x h hb
    have hm := fun y (hy : y ∈ l) => h.mem hy
    obtain ⟨A, cap, _, hk, hn, hs, _, _, hl⟩ := h
    have h1 := digs_ten (uform_toNat n hn)
    have hbl := bulkAll_length l
    rw [V.bulk] at hb ⊢
    have h2 := digs_ten (u := s.size) (by omega)
    have h3 := digs_ten (u := l.length) (by omega)
    have h4 := V.encAll_le (l := l) fun y hy => by
      obtain ⟨z, hz⟩ := hm y hy
      have := V.bulk_mem hy
      exact ih y hy z hz (by omega)
    have h5 : s.data.toList.length = s.size := rfl
    rw [V.enc]
    split
    · rw [List.length_cons, num_length]; omega
    · split
      · rw [List.length_cons, List.length_append, num_length, h5]; omega
      · rw [List.length_cons, List.length_append, num_length]; omega

set_option maxRecDepth 100000 in
set_option maxHeartbeats 1000000 in
theorem sizeInt_any (k n : Int) (s : ByteArray) (A : Option Addr) (len cap : Nat) (hn : I64 n) (w : World) :
    Calls Try.prog 46 #[.agg #[.int .i64 k, .int .i64 n, .string s, .slice A len cap]] w fun e w' => e = .returned (.int .i64 (digs (uform n).toNat)) ∧ Below w.heap.size w w' := by
  obtain ⟨h0, h1⟩ := hn
  obtain ⟨u0, u1⟩ := uform_bd n h0 h1
  go_enter Try.func46, Try.ntmps46
  go_wp2_with fail
  refine (unsigned_any n h0 h1 _).mono ?_
  rintro e w1 ⟨rfl, rfl⟩
  go_wp2_with fail
  refine (sizeNumeral_any _ u0 u1 _).mono ?_
  rintro e w1 ⟨rfl, rfl⟩
  go_wp2_with fail
  go_ret
  exact ⟨rfl, (Below.refl _ _).alloc (Nat.le_refl _) _⟩

set_option maxRecDepth 100000 in
set_option maxHeartbeats 1000000 in
theorem sizeText_any (k n : Int) (s : ByteArray) (A : Option Addr) (len cap : Nat) (hs : s.size ≤ 1099511627776) (w : World) :
    Calls Try.prog 49 #[.agg #[.int .i64 k, .int .i64 n, .string s, .slice A len cap]] w fun e w' => e = .returned (.int .i64 (digs s.size + s.size : Nat)) ∧ Below w.heap.size w w' := by
  have hd := digs_ten (u := s.size) (by omega)
  have k1 : IntKind.u64.wrap (s.size : Int) = (s.size : Int) := IntWalk.u64_in _ (by omega)
  have k2 : IntKind.i64.wrap ((digs s.size : Int) + (s.size : Int)) = (digs s.size : Int) + (s.size : Int) := IntWalk.i64_in _ (by omega)
  go_enter Try.func49, Try.ntmps49
  go_wp2_with fail
  go_region_held3 (fun w' => w'.cell? ⟨w.heap.size, 2, none⟩ = some (.string s)) (go_keep) (first | (go_at_call 55; refine (sizeNumeral_any _ (by omega) (by omega) _).mono ?_; rw [Int.toNat_natCast]; rintro e w1 ⟨rfl, rfl⟩))
  go_wp2_with fail
  go_ret
  exact ⟨ret_int (by omega), ((Below.refl _ _).alloc (Nat.le_refl _) _).drew⟩

/-- what a contract of size says of one value -/
def SizeOk (v : V) : Prop := ∀ (w : World) (B : Nat) (x : Value), B ≤ w.heap.size → Rd w B v x → v.form = true → v.bulk ≤ 1099511627776 →
    Calls Try.prog 27 #[x] w fun e w' => e = .returned (.int .i64 v.enc.length) ∧ Below w.heap.size w w'

set_option maxRecDepth 100000 in
set_option maxHeartbeats 1000000 in
theorem sizeList_any (k n : Int) (s : ByteArray) (l : List V) (ih : ∀ x ∈ l, SizeOk x) (A : Option Addr) (cap : Nat) (w : World) (B : Nat) (hB : B ≤ w.heap.size) (hl : RdAll w B l A 0) (hf : V.formAll l = true) (hbk : V.bulkAll l ≤ 1099511627776)
    (hel : ∀ j, j ≤ l.length → (V.encAll (l.take j)).length ≤ 1099511627776) :
    Calls Try.prog 52 #[.agg #[.int .i64 k, .int .i64 n, .string s, .slice A l.length cap]] w fun e w' => e = .returned (.int .i64 (digs l.length + (V.encAll l).length : Nat)) ∧ Below w.heap.size w w' := by
  have IH := Lib.hid ih
  have hl0 := Lib.hid hl
  have HF := Lib.hid fun x hx => (V.formAll_iff l).1 hf x hx
  have HEL := Lib.hid hel
  have hbl := bulkAll_length l
  have hd := digs_ten (u := l.length) (by omega)
  clear ih hl hf hel
  go_enter Try.func52, Try.ntmps52
  go_wp2_with fail
  refine (sizeNumeral_any _ (by omega) (by omega) _).mono ?_
  rw [Int.toNat_natCast]
  rintro e w1 ⟨rfl, rfl⟩
  go_wp2_with fail
  go_loopw [3, 14] (fun c i wr => ∃ j : Nat, j ≤ l.length ∧ i = .int .i64 j ∧ c = .int .i64 (digs l.length + (V.encAll (l.take j)).length : Nat) ∧ Below w.heap.size w wr) (fun _ i _ => l.length - (intOf i).toNat)
  case atStart => exact ⟨0, Nat.zero_le _, rfl, by simp [V.encAll], (Below.refl _ _).alloc (Nat.le_refl _) _⟩
  case round =>
    obtain ⟨j, hj, rfl, rfl, hwr⟩ := hrel
    have hwz : w.heap.size ≤ wr.heap.size := hwr.size
    have he1 := HEL.out j hj
    by_cases hlt : j < l.length
    · have he2 := HEL.out (j + 1) hlt
      obtain ⟨b, o, k', n', s', m', A', cap', rfl, hbB, e0, e1, e2, e3, hx, hr⟩ := hl0.out.open_ hlt
      have hm := List.mem_of_getElem? hx
      have hbb : b < w.heap.size := by omega
      rw [← hwr.cell (p := ⟨b, _, none⟩) hbb] at e0 e1 e2 e3
      have hrr := Lib.hid (Rd.below (B' := B) hr (hwr.mono hB) (Nat.le_refl _))
      have hbm := V.bulk_mem hm
      have ht : (V.encAll (l.take (j + 1))).length = (V.encAll (l.take j)).length + (V.enc (.mk k' n' s' m')).length := by rw [V.encAll_take l j _ hx, List.length_append]
      have hle : (V.encAll (l.take j)).length + (V.enc (.mk k' n' s' m')).length ≤ 1099511627776 := by omega
      have HT := Lib.hid ht
      have HX := Lib.hid hx
      clear hr hx ht
      go_wp2_with fail
      refine (IH.out _ hm _ B _ (by simp; omega) (Rd.below (B' := B) hrr.out (((Below.refl _ _).alloc (Nat.le_refl _) _).mono (by omega)) (Nat.le_refl _)) (HF.out _ hm) (by omega)).mono ?_
      rintro e w2 ⟨rfl, hb2⟩
      generalize (V.enc (.mk k' n' s' m')).length = dd at *
      go_wp2_with fail
      go_roundw
      case rel =>
        refine ⟨j + 1, by omega, by go_num, ?_, hwr.trans (((Below.refl _ _).alloc (by omega) _).trans (hb2.mono (by simp; omega)))⟩
        rw [HT.out]
        go_num
      case measure => simp [intOf]; omega
    · have hje : j = l.length := by omega
      subst hje
      rw [List.take_length] at *
      go_wp2_with fail
      go_ret
      exact ⟨rfl, hwr⟩

set_option maxRecDepth 100000 in
set_option maxHeartbeats 2000000 in
theorem size_any (v : V) : SizeOk v := by
  induction v using V.ind with
  | h k n s l ih =>
    intro w B x hB hr hf hbk
    have hel := fun (j : Nat) (_ : j ≤ l.length) => V.encAll_take_le l j
    have hen := Rd.enc_le _ _ hr hbk
    have HR := Lib.hid hr
    obtain ⟨A, cap, rfl, hk, hn, hs, hlc, hcap, hl⟩ := hr
    rw [V.bulk] at hbk hen
    have hfa : V.formAll l = true := by simp only [V.form, Bool.and_eq_true] at hf; exact hf.2
    have hel' : ∀ j, j ≤ l.length → (V.encAll (l.take j)).length ≤ 1099511627776 := by
      intro j hj
      have h1 := hel j hj
      have h2 := V.encAll_le (l := l) fun y hy => by
        obtain ⟨z, hz⟩ := HR.out.mem hy
        have := V.bulk_mem hy
        exact Rd.enc_le _ _ hz (by omega)
      omega
    have IH := Lib.hid ih
    have hl0 := Lib.hid hl
    have HFA := Lib.hid hfa
    have HEL := Lib.hid hel'
    have HN := Lib.hid hn
    clear ih hl hfa hel hel' hn
    obtain ⟨W, hWd⟩ : ∃ W : World, W = w.alloc (.cells #[.int .i64 k, .int .i64 n, .string s, .slice A l.length cap] 24) := ⟨_, rfl⟩
    have hW0 : Below w.heap.size w W := by rw [hWd]; exact (Below.refl _ _).alloc (Nat.le_refl _) _
    have hWz : W.heap.size = w.heap.size + 1 := by rw [hWd]; simp
    have c0 : W.cell? ⟨w.heap.size, 0, none⟩ = some (.int .i64 k) := by rw [hWd]; simp
    have c1 : W.cell? ⟨w.heap.size, 1, none⟩ = some (.int .i64 n) := by rw [hWd]; simp
    have c2 : W.cell? ⟨w.heap.size, 2, none⟩ = some (.string s) := by rw [hWd]; simp
    have c3 : W.cell? ⟨w.heap.size, 3, none⟩ = some (.slice A l.length cap) := by rw [hWd]; simp
    have HW := Lib.hid (And.intro hW0 hWz)
    have WD := Lib.hid hWd
    clear hW0 hWz hWd
    have hdrew : Below W.heap.size W W.drew := (Below.refl _ _).drew
    have i1 := coder1
    have i2 := coder2
    have i3 := coder3
    have j0 := field0
    have hkk : k = 1 ∨ k = 2 ∨ k = 3 := by
      simp only [V.form, bareB, Bool.and_eq_true, Bool.or_eq_true, decide_eq_true_eq] at hf
      omega
    clear hf
    rcases hkk with rfl | rfl | rfl
    · have HE : Hid ((V.enc (.mk 1 n s l)).length = 1 + digs (uform n).toNat) := by unfold Hid; rw [V.enc, if_pos rfl, List.length_cons, num_length]; omega
      have hd := digs_ten (uform_toNat n HN.out)
      have k2 : IntKind.i64.wrap (1 + (digs (uform n).toNat : Int)) = 1 + (digs (uform n).toNat : Int) := IntWalk.i64_in _ (by omega)
      go_enter Try.func27, Try.ntmps27
      go_wp2_with fail
      rw [← WD.out]
      go_region_held3 (fun w' => Below W.heap.size W w' ∧ w'.cell? ⟨w.heap.size, 0, none⟩ = some (.int .i64 1) ∧ w'.cell? ⟨w.heap.size, 1, none⟩ = some (.int .i64 n) ∧ w'.cell? ⟨w.heap.size, 2, none⟩ = some (.string s) ∧ w'.cell? ⟨w.heap.size, 3, none⟩ = some (.slice A l.length cap))
        (first | assumption | exact ⟨hdrew, c0, c1, c2, c3⟩ | (refine box_keep ?_ hb3; assumption) | (refine box_keep ?_ hb2; assumption))
        (first
          | (go_at_call 38; refine (coders_any _).mono ?_; rintro e w2 ⟨rfl, hb2⟩)
          | (go_at_call 46; refine (sizeInt_any _ _ _ _ _ _ HN.out _).mono ?_; rintro e w3 ⟨rfl, hb3⟩))
      go_wp2_with fail
      go_ret
      exact ⟨by rw [HE.out]; exact ret_int (by omega), HW.out.1.trans ((Below.refl _ W).drew.trans ((hb2.mono (by have := HW.out.2; show _ ≤ W.heap.size; omega)).trans (hb3.mono (by have h1 := HW.out.2; have h2 : W.heap.size ≤ w2.heap.size := hb2.size; omega))))⟩
    · have HE : Hid ((V.enc (.mk 2 n s l)).length = 1 + (digs s.size + s.size)) := by
        unfold Hid
        rw [V.enc, if_neg (by decide), if_pos rfl, List.length_cons, List.length_append, num_length, show s.data.toList.length = s.size from rfl]; omega
      have hd := digs_ten (u := s.size) (by omega)
      have k2 : IntKind.i64.wrap (1 + ((digs s.size : Int) + (s.size : Int))) = 1 + ((digs s.size : Int) + (s.size : Int)) := IntWalk.i64_in _ (by omega)
      go_enter Try.func27, Try.ntmps27
      go_wp2_with fail
      rw [← WD.out]
      go_region_held3 (fun w' => Below W.heap.size W w' ∧ w'.cell? ⟨w.heap.size, 0, none⟩ = some (.int .i64 2) ∧ w'.cell? ⟨w.heap.size, 1, none⟩ = some (.int .i64 n) ∧ w'.cell? ⟨w.heap.size, 2, none⟩ = some (.string s) ∧ w'.cell? ⟨w.heap.size, 3, none⟩ = some (.slice A l.length cap))
        (first | assumption | exact ⟨hdrew, c0, c1, c2, c3⟩ | (refine box_keep ?_ hb3; assumption) | (refine box_keep ?_ hb2; assumption))
        (first
          | (go_at_call 38; refine (coders_any _).mono ?_; rintro e w2 ⟨rfl, hb2⟩)
          | (go_at_call 49; refine (sizeText_any _ _ _ _ _ _ (by omega) _).mono ?_; rw [Int.natCast_add]; rintro e w3 ⟨rfl, hb3⟩))
      go_wp2_with fail
      go_ret
      exact ⟨by rw [HE.out]; exact ret_int (by omega), HW.out.1.trans ((Below.refl _ W).drew.trans ((hb2.mono (by have := HW.out.2; show _ ≤ W.heap.size; omega)).trans (hb3.mono (by have h1 := HW.out.2; have h2 : W.heap.size ≤ w2.heap.size := hb2.size; omega))))⟩
    · have HE : Hid ((V.enc (.mk 3 n s l)).length = 1 + (digs l.length + (V.encAll l).length)) := by
        unfold Hid
        rw [V.enc, if_neg (by decide), if_neg (by decide), List.length_cons, List.length_append, num_length]; omega
      have hbl := bulkAll_length l
      have hd := digs_ten (u := l.length) (by omega)
      have hea := HEL.out l.length (Nat.le_refl _)
      rw [List.take_length] at hea
      have k2 : IntKind.i64.wrap (1 + ((digs l.length : Int) + ((V.encAll l).length : Int))) = 1 + ((digs l.length : Int) + ((V.encAll l).length : Int)) := IntWalk.i64_in _ (by omega)
      go_enter Try.func27, Try.ntmps27
      go_wp2_with fail
      rw [← WD.out]
      go_region_held3 (fun w' => Below W.heap.size W w' ∧ w'.cell? ⟨w.heap.size, 0, none⟩ = some (.int .i64 3) ∧ w'.cell? ⟨w.heap.size, 1, none⟩ = some (.int .i64 n) ∧ w'.cell? ⟨w.heap.size, 2, none⟩ = some (.string s) ∧ w'.cell? ⟨w.heap.size, 3, none⟩ = some (.slice A l.length cap))
        (first | assumption | exact ⟨hdrew, c0, c1, c2, c3⟩ | (refine box_keep ?_ hb3; assumption) | (refine box_keep ?_ hb2; assumption))
        (first
          | (go_at_call 38; refine (coders_any _).mono ?_; rintro e w2 ⟨rfl, hb2⟩)
          | (go_at_call 52
             have hz2 : W.heap.size ≤ w2.heap.size := hb2.size
             have hw2 : Below w.heap.size w w2 := HW.out.1.trans ((Below.refl _ W).drew.trans (hb2.mono (by have := HW.out.2; show _ ≤ W.heap.size; omega)))
             refine (sizeList_any _ _ _ l IH.out A cap _ B (by have := HW.out.2; omega) (hl0.out.below (hw2.mono hB) (Nat.le_refl _)) HFA.out (by omega) HEL.out).mono ?_
             rw [Int.natCast_add]
             rintro e w3 ⟨rfl, hb3⟩))
      go_wp2_with fail
      go_ret
      exact ⟨by rw [HE.out]; exact ret_int (by omega), HW.out.1.trans ((Below.refl _ W).drew.trans ((hb2.mono (by have := HW.out.2; show _ ≤ W.heap.size; omega)).trans (hb3.mono (by have h1 := HW.out.2; have h2 : W.heap.size ≤ w2.heap.size := hb2.size; omega))))⟩
end Go.Proofs.Ytbcaanadmfnegaa
