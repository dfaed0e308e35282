/- slices.Chunk over bytes, and its closure: an iterator over the parts of 64 bytes. -/
import Derived.RangeFuncNested
import Derived.RangeFuncBound
import Derived.RangeFuncCalls
import Derived.RangeFuncLeaves
import Derived.Shelf.Abstract
import Derived.Shelf.RegionOpen
import Derived.WalkKit
import Derived.OwnWalkIn
import Derived.TacticsInMore
import Derived.LoopNIn
import Derived.LoopIn
import Derived.Test.YtfolmglafnfcbaaDoorRounds
namespace Go.Proofs.YtfolmglafnfcbaaDoor
open Go.RowKit Go.Shelf
attribute [local go_sem] Oper.semAt_some

set_option maxRecDepth 100000 in
set_option maxHeartbeats 1000000 in
theorem chunk_any (A : Option Addr) (n c : Nat) (w : World) : Calls Tryd.prog 47 #[.slice A n c, .int .i64 64] w fun e w' =>
    e = .returned (.func (.func 55) #[] #[.pointer (some ⟨w.heap.size, 0, none⟩), .pointer (some ⟨w.heap.size + 1, 0, none⟩)]) ∧ w' = (w.alloc (.cells #[.slice A n c] 22)).alloc (.cells #[.int .i64 64] 3) := by
  go_enter Tryd.func47, Tryd.ntmps47
  go_wp2_with fail
  go_ret
  exact ⟨rfl, rfl⟩

/-- what a round keeps for the iterator: its two boxes -/
def KeepsBoxes (Bs Bn : Nat) (A B : World) : Prop := A.heap.size ≤ B.heap.size ∧ ∀ b, b = Bs ∨ b = Bn → B.heap[b]? = A.heap[b]?
theorem KeepsBoxes.trans {Bs Bn : Nat} {A B C : World} (h : KeepsBoxes Bs Bn A B) (k : KeepsBoxes Bs Bn B C) : KeepsBoxes Bs Bn A C := ⟨Nat.le_trans h.1 k.1, fun b hb => (k.2 b hb).trans (h.2 b hb)⟩
theorem keepsBoxes_b {Bs Bn : Nat} {w : World} (h1 : Bs < w.heap.size) (h2 : Bn < w.heap.size) (W : World) (l : Nat) (o o' : Obj) (hl : w.heap.size ≤ l) (_ : W.heap[l]? = some o) (_ : o.isCells = false) (_ : o.isWalk = false) : KeepsBoxes Bs Bn W (W.putObj l o') :=
  ⟨by simp, fun b hb => World.putObj_heap_other (by omega)⟩

/-- a part's number -/
abbrev Part (N : Nat) := { k : Nat // k < N }
/-- the parts in their order, as far as k -/
def parts (N k : Nat) : List (Part N) := (List.range k).filterMap fun i => if h : i < N then some ⟨i, h⟩ else none
theorem parts_succ {N k : Nat} (h : k < N) : parts N (k + 1) = parts N k ++ [⟨k, h⟩] := by
  unfold parts
  rw [List.range_succ, List.filterMap_append]
  simp [h]
theorem parts_length {N k : Nat} (h : k ≤ N) : (parts N k).length = k := by
  induction k with
  | zero => rfl
  | succ k ih => rw [parts_succ (by omega), List.length_append, ih (by omega)]; rfl

set_option maxRecDepth 100000 in
set_option maxHeartbeats 2000000 in
theorem chunk1_in (m : Nat) (hm : 1 ≤ m) (l Bs Bn b o N c : Nat) (hc : 64 * N ≤ c) (hcm : c ≤ maxLen) (J Jx : List (Part N) → World → Prop)
    (hY : ∀ pre x W, J pre W → pre.length < N → YieldAt Fence.wide (m - 1) Tryd.prog l #[.slice (some ⟨b, o + 64 * x.1, none⟩) 64 64] W fun e W' =>
      (e = .returned (.bool true) ∧ J (pre ++ [x]) W' ∧ KeepsBoxes Bs Bn W W') ∨ (e = .returned (.bool false) ∧ Jx (pre ++ [x]) W'))
    (W : World) (hBs : W.heap[Bs]? = some (.cells #[.slice (some ⟨b, o, none⟩) (64 * N) c] 22 (0, 0))) (hBn : W.heap[Bn]? = some (.cells #[.int .i64 64] 3 (0, 0))) (hab : AbidesFrom W.heap.size J) (h0 : J [] W) :
    CallsIn Fence.wide m Tryd.prog 55 #[.func (.yield l) #[] #[], .pointer (some ⟨Bs, 0, none⟩), .pointer (some ⟨Bn, 0, none⟩)] W fun e W' => (∃ v, e = .returned v) ∧
      ((∃ ys, ys = parts N N ∧ J ys W') ∨ (∃ pre, True ∧ Jx pre W')) := by
  unfold maxLen at hcm
  refine callsIn_of_wp Tryd.func55 rfl trivial ?_ rfl
  simp only [Tryd.ntmps55, List.size_toArray, List.length_cons, List.length_nil, Nat.reduceAdd, Nat.reduceSub, Array.replicate_succ, Array.replicate_zero, List.push_toArray, List.append_toArray, List.nil_append, List.cons_append]
  gi_wp2
  gi_loopw [4] (fun i wr => ∃ k : Nat, k ≤ N ∧ i = .int .i64 (64 * k : Nat) ∧ Hid (J (parts N k) wr) ∧ Hid (KeepsBoxes Bs Bn W wr)) (fun i _ => N - (intOf i).toNat / 64)
  case atStart => exact ⟨0, Nat.zero_le _, rfl, h0, Nat.le_refl _, fun _ _ => rfl⟩
  case round =>
    obtain ⟨k, hk, rfl, HJ, HK⟩ := hrel
    have c1 : wr.cell? ⟨Bs, 0, none⟩ = some (.slice (some ⟨b, o, none⟩) (64 * N) c) := cell_of_row wr Bs 0 _ _ _ ((HK.out.2 Bs (.inl rfl)).trans hBs)
    have c2 : wr.cell? ⟨Bn, 0, none⟩ = some (.int .i64 64) := cell_of_row wr Bn 0 _ _ _ ((HK.out.2 Bn (.inr rfl)).trans hBn)
    by_cases hlt : k < N
    · have hcc : ¬ c = 64 * k := by omega
      have hle : (64 : Int) * (k : Int) ≤ 64 * (N : Int) := by omega
      have HJd : Hid (J (parts N k) wr.drew) := hab _ wr wr.drew none HJ.out ⟨rfl, rfl, rfl, Nat.le_refl _, fun _ _ _ => rfl⟩ (fun r e => by cases e)
      have HKd : Hid (KeepsBoxes Bs Bn W wr.drew) := ⟨HK.out.1, HK.out.2⟩
      have hsz : W.heap.size ≤ wr.heap.size := HK.out.1
      obtain ⟨fn, tmps, assign, body, hy, hR⟩ := hY _ ⟨k, hlt⟩ wr.drew HJd.out (by rw [parts_length hk]; exact hlt)
      dsimp only at hy
      gi_wp2
      gi_region
      gi_wp2
      refine hR.mono ?_
      rintro e W3 (⟨rfl, hJ3, hk3⟩ | ⟨rfl, hJx3⟩)
      · have c1' : W3.cell? ⟨Bs, 0, none⟩ = some (.slice (some ⟨b, o, none⟩) (64 * N) c) := cell_of_row W3 Bs 0 _ _ _ ((hk3.2 Bs (.inl rfl)).trans ((HK.out.2 Bs (.inl rfl)).trans hBs))
        have c2' : W3.cell? ⟨Bn, 0, none⟩ = some (.int .i64 64) := cell_of_row W3 Bn 0 _ _ _ ((hk3.2 Bn (.inr rfl)).trans ((HK.out.2 Bn (.inr rfl)).trans hBn))
        have HJ3 := Lib.hid hJ3
        have HK3 : Hid (KeepsBoxes Bs Bn W W3) := HKd.out.trans hk3
        clear hJ3 hk3
        gi_wp2
        go_roundw
        case rel => exact ⟨k + 1, by omega, by go_num, by unfold Hid; rw [parts_succ hlt]; exact HJ3.out, HK3⟩
        case measure => simp [intOf]; omega
      · have HX3 := Lib.hid hJx3
        clear hJx3
        gi_wp2
        refine bodyPost_ret (results_none rfl _ _ _) rfl ?_
        exact ⟨⟨_, rfl⟩, .inr ⟨_, trivial, HX3.out⟩⟩
    · gi_wp2
      go_end0
      have e : k = N := by omega
      exact ⟨⟨_, rfl⟩, .inl ⟨_, rfl, by have h := HJ.out; rw [e] at h; exact h⟩⟩

set_option maxRecDepth 100000 in
set_option maxHeartbeats 1000000 in
theorem chunk0_in (m : Nat) (l Bs Bn c : Nat) (A : Option Addr) (J : List (Part 0) → World → Prop) (W : World) (hBs : W.heap[Bs]? = some (.cells #[.slice A 0 c] 22 (0, 0))) (h0 : J [] W) :
    CallsIn Fence.wide m Tryd.prog 55 #[.func (.yield l) #[] #[], .pointer (some ⟨Bs, 0, none⟩), .pointer (some ⟨Bn, 0, none⟩)] W fun e W' => (∃ v, e = .returned v) ∧ J [] W' := by
  have c1 : W.cell? ⟨Bs, 0, none⟩ = some (.slice A 0 c) := cell_of_row W Bs 0 _ _ _ hBs
  have H0 := Lib.hid h0
  clear h0 hBs
  refine callsIn_of_wp Tryd.func55 rfl trivial ?_ rfl
  simp only [Tryd.ntmps55, List.size_toArray, List.length_cons, List.length_nil, Nat.reduceAdd, Nat.reduceSub, Array.replicate_succ, Array.replicate_zero, List.push_toArray, List.append_toArray, List.nil_append, List.cons_append]
  gi_wp2
  gi_loopw [4] (fun i wr => i = .int .i64 0 ∧ wr = W) (fun _ _ => 0)
  case atStart => exact ⟨rfl, rfl⟩
  case round =>
    obtain ⟨rfl, rfl⟩ := hrel
    gi_wp2
    go_end0
    exact ⟨⟨_, rfl⟩, H0.out⟩

/-- the closure hands the parts over, in their order -/
theorem chunk_stops (m : Nat) (hm : 1 ≤ m) (Bs Bn b o N c : Nat) (A : Option Addr) (hA : 0 < N → A = some ⟨b, o, none⟩) (hc : 64 * N ≤ c) (hcm : c ≤ maxLen) (w : World) (hBs : w.heap[Bs]? = some (.cells #[.slice A (64 * N) c] 22 (0, 0))) (hBn : w.heap[Bn]? = some (.cells #[.int .i64 64] 3 (0, 0))) :
    SeqStopsK Fence.wide m Tryd.prog 55 #[.pointer (some ⟨Bs, 0, none⟩), .pointer (some ⟨Bn, 0, none⟩)] (fun x : Part N => #[Value.slice (some ⟨b, o + 64 * x.1, none⟩) 64 64]) (KeepsBoxes Bs Bn) (fun ys => ys = parts N N) (fun _ => True) N w := fun l J Jx W hW hJ _ hY h0 => by
  have hs := (hW.block Bs (Array.getElem?_eq_some_iff.1 hBs).1).trans hBs
  have hn := (hW.block Bn (Array.getElem?_eq_some_iff.1 hBn).1).trans hBn
  by_cases h : 0 < N
  · have hA' := hA h
    subst hA'
    exact chunk1_in m hm l Bs Bn b o N c hc hcm J Jx hY W hs hn hJ h0
  · have e : N = 0 := by omega
    subst e
    refine (chunk0_in m l Bs Bn c A J W hs h0).mono ?_
    rintro e W' ⟨he, hj⟩
    exact ⟨he, .inl ⟨_, rfl, hj⟩⟩
end Go.Proofs.YtfolmglafnfcbaaDoor
