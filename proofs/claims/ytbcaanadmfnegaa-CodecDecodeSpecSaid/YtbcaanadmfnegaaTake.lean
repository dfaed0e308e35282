/- Contracts of the reader's fail and take. -/
import Derived.Test.YtbcaanadmfnegaaSize
import Derived.BigRegion
import Derived.RegionTactic
import Derived.StillTailTactics
import Derived.Deep.AppendLies
import Derived.Maps.AppendAt
namespace Go.Proofs.Ytbcaanadmfnegaa
open Go.RowKit

/-- what a reader's failure is -/
def failChain : List PanicEntry := [{ v := .iface 28 (.int .i64 10), recovered := false }]

set_option maxRecDepth 100000 in
set_option maxHeartbeats 1000000 in
theorem fail_any (w : World) : Calls Try.prog 43 #[] w fun e w' => e = .panicked failChain ∧ w = w' := by
  go_enter Try.func43, Try.ntmps43
  go_wp2_with fail
  exact ⟨rfl, rfl, rfl⟩

/-- bytes that can be read below block B -/
def RdB (w : World) (B : Nat) (A : Option Addr) (n : Nat) (xs : List UInt8) : Prop :=
  n = xs.length ∧ (0 < n → ∃ b o, A = some ⟨b, o, none⟩ ∧ b < B ∧ ∀ j u, xs[j]? = some u → w.cell? ⟨b, o + j, none⟩ = some (.int .u8 (u : UInt8).toNat))

/-- a reader in block r -/
def Rdr (w : World) (r : Nat) (A : Option Addr) (n c : Nat) (o : Int) : Prop := w.heap[r]? = some (.cells #[.slice A n c, .int .i64 o] 53 (0, 0))
theorem Rdr.cell0 {w : World} {r n c : Nat} {A : Option Addr} {o : Int} (h : Rdr w r A n c o) : w.cell? ⟨r, 0, none⟩ = some (.slice A n c) := cell_of_row w r 0 _ _ _ h
theorem Rdr.cell1 {w : World} {r n c : Nat} {A : Option Addr} {o : Int} (h : Rdr w r A n c o) : w.cell? ⟨r, 1, none⟩ = some (.int .i64 o) := cell_of_row w r 1 _ _ _ h
theorem Rdr.frozen {w : World} {r n c : Nat} {A : Option Addr} {o : Int} (h : Rdr w r A n c o) (i : Nat) : w.frozen? ⟨r, i, none⟩ = false := by
  unfold Rdr at h
  simp [World.frozen?, h]
theorem Rdr.lt {w : World} {r n c : Nat} {A : Option Addr} {o : Int} (h : Rdr w r A n c o) : r < w.heap.size := World.block_lt_of_cell? w _ h.cell0

set_option maxRecDepth 100000 in
set_option maxHeartbeats 1000000 in
theorem take_no (r n c : Nat) (A : Option Addr) (o : Int) (m : Nat) (w : World) (h : Rdr w r A n c o) (hn : n ≤ 1099511627776) (hm : n < m) (_ : m ≤ 18446744073709551615) :
    Calls Try.prog 42 #[.pointer (some ⟨r, 0, none⟩), .int .u64 (m : Int)] w fun e w' => e = .panicked failChain ∧ w = w' := by
  have h0 := h.cell0
  have h1 := h.cell1
  go_enter Try.func42, Try.ntmps42
  go_wp2_with fail
  refine (fail_any _).mono ?_
  rintro e w' ⟨rfl, rfl⟩
  exact ⟨rfl, rfl, rfl⟩

theorem RdB.keep {w w' : World} {B n : Nat} {A : Option Addr} {xs : List UInt8} (h : RdB w B A n xs) (hk : ∀ p : Addr, p.block < B → w'.cell? p = w.cell? p) : RdB w' B A n xs :=
  ⟨h.1, fun hn => by
    obtain ⟨b, o, e, hb, hc⟩ := h.2 hn
    exact ⟨b, o, e, hb, fun j u hu => (hk _ hb).trans (hc j u hu)⟩⟩
theorem RdB.below {w w' : World} {B n : Nat} {A : Option Addr} {xs : List UInt8} (h : RdB w B A n xs) (hb : Below B w w') : RdB w' B A n xs := h.keep fun _ hp => hb.cell hp
theorem RdB.take {w : World} {B n m : Nat} {A : Option Addr} {xs : List UInt8} (h : RdB w B A n xs) (hm : m ≤ n) : RdB w B A m (xs.take m) := by
  refine ⟨by rw [List.length_take, ← h.1]; omega, fun hn => ?_⟩
  obtain ⟨b, o, e, hb, hc⟩ := h.2 (by omega)
  refine ⟨b, o, e, hb, fun j u hu => hc j u ?_⟩
  rw [List.getElem?_take] at hu
  split at hu
  · exact hu
  · cases hu
theorem add_lit' (b o m : Nat) : (⟨b, o, none⟩ : Addr).add m = ⟨b, o + m, none⟩ := by
  unfold Addr.add
  split
  · rename_i h; subst h; rfl
  · rfl
theorem RdB.drop {w : World} {B n m : Nat} {A : Option Addr} {xs : List UInt8} (h : RdB w B A n xs) (hm : m ≤ n) : RdB w B (if n = m then A else A.map (·.add m)) (n - m) (xs.drop m) := by
  refine ⟨by rw [List.length_drop, ← h.1], fun hn => ?_⟩
  obtain ⟨b, o, e, hb, hc⟩ := h.2 (by omega)
  subst e
  rw [if_neg (by omega)]
  refine ⟨b, o + m, by simp [add_lit'], hb, fun j u hu => ?_⟩
  rw [List.getElem?_drop] at hu
  rw [Nat.add_assoc]
  exact hc _ u hu

/-- only the reader's block has turned, and what is new -/
def Turn (w w' : World) (r : Nat) : Prop := w.grownBy w' (some r)
theorem Turn.refl (w : World) (r : Nat) : Turn w w r := World.grownBy.refl w _
theorem Turn.trans {a b c : World} {r : Nat} (h : Turn a b r) (k : Turn b c r) : Turn a c r := World.grownBy.trans h k
theorem Turn.of_below {a b : World} {r : Nat} (h : Below a.heap.size a b) : Turn a b r := ⟨h.os, h.tape, h.output, h.size, fun i hi _ => h.block i hi⟩
theorem Turn.below {a b : World} {r B : Nat} (h : Turn a b r) (hB : B ≤ r) (hr : r < a.heap.size) : Below B a b := ⟨h.os, h.tape, h.output, h.size, fun k hk => h.block k (by omega) fun e => by injection e with e; omega⟩
theorem Turn.cell {a b : World} {r : Nat} (h : Turn a b r) {p : Addr} (hp : p.block < a.heap.size) (hne : p.block ≠ r) : b.cell? p = a.cell? p := h.cell_far p hp fun e => hne (by injection e)
theorem turn_set {w : World} {r n c n' c' : Nat} {A A' : Option Addr} {o : Int} (h : Rdr w r A n c o) : Rdr (w.setCell ⟨r, 0, none⟩ (.slice A' n' c')).drew r A' n' c' o ∧ Turn w (w.setCell ⟨r, 0, none⟩ (.slice A' n' c')).drew r := by
  refine ⟨?_, ⟨rfl, rfl, rfl, by simp [World.setCell], fun k hk hne => ?_⟩⟩
  · unfold Rdr at h ⊢
    show ((w.setCell ⟨r, 0, none⟩ (.slice A' n' c')).heap)[r]? = _
    simp [World.setCell, Array.getElem?_modify, h]
  · exact Below.heap_setCell w ⟨r, 0, none⟩ _ k fun e => hne (by rw [e])

/-- what take leaves -/
def Took (w : World) (r B : Nat) (A : Option Addr) (n : Nat) (o : Int) (bs : List UInt8) (m : Nat) (e : Ending) (w' : World) : Prop :=
  e = .returned (.slice A m m) ∧ ∃ A', Rdr w' r A' (n - m) (n - m) o ∧ RdB w' B A' (n - m) (bs.drop m) ∧ RdB w' B A m (bs.take m) ∧ Turn w w' r

set_option maxRecDepth 100000 in
set_option maxHeartbeats 1000000 in
theorem take_yes (r n c : Nat) (A : Option Addr) (o : Int) (m B : Nat) (bs : List UInt8) (w : World) (h : Rdr w r A n c o) (hb : RdB w B A n bs) (hB : B ≤ r) (hn : n ≤ 1099511627776) (hm : m ≤ n) (hc : n ≤ c) :
    Calls Try.prog 42 #[.pointer (some ⟨r, 0, none⟩), .int .u64 (m : Int)] w (Took w r B A n o bs m) := by
  have h0 := h.cell0
  have h1 := h.cell1
  have f0 := h.frozen 0
  have hr := h.lt
  have HB := Lib.hid hb
  have HH := Lib.hid h
  clear h hb
  by_cases hx : n = m
  · subst hx
    have e1 : (0 : Int) ≤ (n : Int) := by omega
    have e3 : (n : Int) ≤ (c : Int) := by omega
    go_enter Try.func42, Try.ntmps42
    go_wp2_with fail
    go_still_tail 19, (by kernel_rfl)
    change wpList _ _ _ _ _ w.drew
    go_wp2_with fail
    go_ret
    obtain ⟨t1, t2⟩ := turn_set (A' := A) (n' := 0) (c' := 0) HH.out
    have hd := HB.out.drop hm
    rw [if_pos rfl, Nat.sub_self] at hd
    exact ⟨rfl, A, by rw [Nat.sub_self]; exact t1, by rw [Nat.sub_self]; exact hd.below (t2.below hB hr), (HB.out.take hm).below (t2.below hB hr), t2⟩
  · have e1 : (0 : Int) ≤ (m : Int) := by omega
    have e2 : (m : Int) ≤ (n : Int) := by omega
    have e3 : (n : Int) ≤ (c : Int) := by omega
    have hd := HB.out.drop hm
    rw [if_neg hx] at hd
    have HD := Lib.hid hd
    clear hd
    go_enter Try.func42, Try.ntmps42
    go_wp2_with fail
    go_still_tail 19, (by kernel_rfl)
    change wpList _ _ _ _ _ w.drew
    go_wp2_with fail
    go_ret
    obtain ⟨t1, t2⟩ := turn_set (A' := Option.map (fun x => x.add m) A) (n' := n - m) (c' := n - m) HH.out
    exact ⟨rfl, _, t1, HD.out.below (t2.below hB hr), (HB.out.take hm).below (t2.below hB hr), t2⟩
end Go.Proofs.Ytbcaanadmfnegaa
