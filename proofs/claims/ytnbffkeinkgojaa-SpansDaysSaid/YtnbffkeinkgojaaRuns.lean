/- The iterator over the runs of an array of days. -/
import Derived.RangeFuncNested
import Derived.RangeFuncBound
import Derived.RangeFuncCalls
import Derived.RangeFuncLeaves
import Derived.RangeFuncBox
import Derived.Shelf.Abstract
import Derived.Shelf.RegionOpen
import Derived.WalkKit
import Derived.OwnWalkIn
import Derived.TacticsInMore
import Derived.LoopNIn
import Derived.LoopIn
import Derived.Test.YtnbffkeinkgojaaDaysOf
namespace Go.Proofs.Ytnbffkeinkgojaa
open Go.RowKit Go.Shelf
attribute [local go_sem] Oper.semAt_some

set_option maxRecDepth 100000 in
set_option maxHeartbeats 1000000 in
theorem runs_any (p : Option Addr) (w : World) : Calls Try.prog 39 #[.pointer p] w fun e w' =>
    e = .returned (.func (.func 42) #[] #[.pointer (some ⟨w.heap.size, 0, none⟩)]) ∧ w' = w.alloc (.cells #[.pointer p] 55) := by
  go_enter Try.func39, Try.ntmps39
  go_wp2_with fail
  go_ret
  exact ⟨rfl, rfl⟩

/-- what a round keeps for the iterator: the box and the row -/
def KeepsTwo (Bs Bn : Nat) (A B : World) : Prop := A.heap.size ≤ B.heap.size ∧ ∀ b, b = Bs ∨ b = Bn → B.heap[b]? = A.heap[b]?
theorem KeepsTwo.refl (Bs Bn : Nat) (A : World) : KeepsTwo Bs Bn A A := ⟨Nat.le_refl _, fun _ _ => rfl⟩
theorem KeepsTwo.trans {Bs Bn : Nat} {A B C : World} (h : KeepsTwo Bs Bn A B) (k : KeepsTwo Bs Bn B C) : KeepsTwo Bs Bn A C := ⟨Nat.le_trans h.1 k.1, fun b hb => (k.2 b hb).trans (h.2 b hb)⟩
theorem KeepsTwo.of_below {Bs Bn n : Nat} {A B : World} (h : Below n A B) (h1 : Bs < n) (h2 : Bn < n) : KeepsTwo Bs Bn A B := ⟨h.size, fun b hb => h.block b (by omega)⟩
theorem keepsTwo_b {Bs Bn : Nat} {w : World} (h1 : Bs < w.heap.size) (h2 : Bn < w.heap.size) (W : World) (l : Nat) (o o' : Obj) (hl : w.heap.size ≤ l) (_ : W.heap[l]? = some o) (_ : o.isCells = false) (_ : o.isWalk = false) : KeepsTwo Bs Bn W (W.putObj l o') :=
  ⟨by simp, fun b hb => World.putObj_heap_other (by omega)⟩

/-- the runs that have come when the next one is sought from k on -/
def Head (f : Nat → Bool) (k : Nat) (l : List Sp) : Prop := (k ≤ 1024 ∧ UpTo f k l ∧ ∀ s ∈ l, s.2 ≠ (k : Int)) ∨ (k = 1025 ∧ UpTo f 1024 l)
theorem Head.zero (f : Nat → Bool) : Head f 0 [] := .inl ⟨by omega, UpTo.zero f, by simp⟩
theorem Head.done {f : Nat → Bool} {k : Nat} {l : List Sp} (h : Head f k l) (hk : 1024 ≤ k) : l = normal f := by
  rcases h with ⟨h1, h2, _⟩ | ⟨_, h2⟩
  · have e : k = 1024 := by omega
    rw [e] at h2
    exact h2.eq_norm
  · exact h2.eq_norm
theorem Head.run {f : Nat → Bool} {k j : Nat} {l : List Sp} (h : Head f k l) (hkj : k < j) (hj : j ≤ 1024) (hf : ∀ m, k ≤ m → m < j → f m = true) : UpTo f j (l ++ [((k : Int), (j : Int))]) := by
  rcases h with ⟨_, h2, h3⟩ | ⟨h1, _⟩
  · exact h2.run hkj hj hf h3
  · omega
theorem Head.upTo {f : Nat → Bool} {k : Nat} {l : List Sp} (h : Head f k l) (hk : k ≤ 1024) : UpTo f k l := by
  rcases h with ⟨_, h2, _⟩ | ⟨h1, _⟩
  · exact h2
  · omega
theorem Head.next {f : Nat → Bool} {j : Nat} {l : List Sp} (h : UpTo f j l) (hj : j ≤ 1024) (hf : j < 1024 → f j = false) : Head f (j + 1) l := by
  by_cases e : j = 1024
  · subst e
    exact .inr ⟨rfl, h⟩
  · refine .inl ⟨by omega, h.skip (hf (by omega)), fun s hs => ?_⟩
    have := h.top s hs
    omega

set_option maxRecDepth 100000 in
set_option maxHeartbeats 2000000 in
theorem runs1_in (m : Nat) (hm : 1 ≤ m) (l Bs g : Nat) (f : Nat → Bool) (J Jx : List Sp → World → Prop)
    (hY : ∀ pre x W, J pre W → pre.length < 512 → YieldAt Fence.wide (m - 1) Try.prog l #[.agg #[.int .i64 x.1, .int .i64 x.2]] W fun e W' =>
      (e = .returned (.bool true) ∧ J (pre ++ [x]) W' ∧ KeepsTwo Bs g W W') ∨ (e = .returned (.bool false) ∧ Jx (pre ++ [x]) W'))
    (W : World) (hBs : W.heap[Bs]? = some (.cells #[.pointer (some ⟨g, 0, none⟩)] 55 (0, 0))) (hg : DRow W g f) (h0 : J [] W) :
    CallsIn Fence.wide m Try.prog 42 #[.func (.yield l) #[] #[], .pointer (some ⟨Bs, 0, none⟩)] W fun e W' => (∃ v, e = .returned v) ∧
      ((∃ ys, ys = normal f ∧ J ys W') ∨ (∃ pre, True ∧ Jx pre W')) := by
  refine callsIn_of_wp Try.func42 rfl trivial ?_ rfl
  simp only [Try.ntmps42, List.size_toArray, List.length_cons, List.length_nil, Nat.reduceAdd, Nat.reduceSub, Array.replicate_succ, Array.replicate_zero, List.push_toArray, List.append_toArray, List.nil_append, List.cons_append]
  gi_wp2
  gi_loopw [3] (fun v wr => ∃ (k : Nat) (pre : List Sp), v = .int .i64 k ∧ k ≤ 1025 ∧ Hid (Head f k pre) ∧ Hid (J pre wr) ∧ Hid (KeepsTwo Bs g W wr)) (fun v _ => 1025 - (intOf v).toNat)
  case atStart => exact ⟨0, [], rfl, by omega, Head.zero f, h0, KeepsTwo.refl _ _ _⟩
  case round =>
    obtain ⟨k, pre, rfl, hk, HH, HJ, HK⟩ := hrel
    have c1 : wr.cell? ⟨Bs, 0, none⟩ = some (.pointer (some ⟨g, 0, none⟩)) := cell_of_row wr Bs 0 _ _ _ ((HK.out.2 Bs (.inl rfl)).trans hBs)
    have HD : Hid (DRow wr g f) := hg.keep (HK.out.2 g (.inr rfl))
    by_cases hlt : k < 1024
    · have hk' : (k : Int) < 1024 := by omega
      have k0 : (0 : Int) ≤ (k : Int) := by omega
      gi_wp2
      gi_loopw [4] (fun v wi => ∃ j : Nat, v = .int .i64 j ∧ k ≤ j ∧ j ≤ 1024 ∧ Hid (∀ m, k ≤ m → m < j → f m = true) ∧ wi = wr) (fun v _ => 1024 - (intOf v).toNat)
      case atStart => exact ⟨k, rfl, Nat.le_refl _, by omega, fun m h1 h2 => by omega, rfl⟩
      case round =>
        obtain ⟨j, rfl, hkj, hj, HF, rfl⟩ := hrel
        have j0 : (0 : Int) ≤ (j : Int) := by omega
        by_cases hend : j = 1024
        · have hj' : ¬ (j : Int) < 1024 := by omega
          have HST : Hid (j < 1024 → f j = false) := fun h => by omega
          have hF2 := True.intro
          clear hend
          by_cases hkj2 : k < j
          · have hkj3 : (k : Int) < (j : Int) := by omega
            have HU := Lib.hid (HH.out.run hkj2 hj HF.out)
            have hlen : pre.length < 512 := by
              have h := HU.out.many
              rw [List.length_append] at h
              simp at h
              omega
            have HN : Hid (Head f (j + 1) (pre ++ [((k : Int), (j : Int))])) := Head.next HU.out hj HST.out
            obtain ⟨fn, tmps, assign, body, hy, hR⟩ := hY pre ((k : Int), (j : Int)) _ HJ.out hlen
            dsimp only at hy
            clear hF2
            gi_wp2
            refine hR.mono ?_
            rintro e W3 (⟨rfl, hJ3, hk3⟩ | ⟨rfl, hJx3⟩)
            · have HJ3 := Lib.hid hJ3
              have HK3 : Hid (KeepsTwo Bs g W W3) := HK.out.trans hk3
              clear hJ3 hk3
              gi_wp2
              go_roundw
              case rel => exact ⟨j + 1, _, by go_num, by omega, HN, HJ3, HK3⟩
              case measure => simp [intOf]; omega
            · have HX3 := Lib.hid hJx3
              clear hJx3
              gi_wp2
              refine bodyPost_ret (results_none rfl _ _ _) rfl ?_
              exact ⟨⟨_, rfl⟩, .inr ⟨_, trivial, HX3.out⟩⟩
          · omega
        have hj1 : j < 1024 := by omega
        have hj' : (j : Int) < 1024 := by omega
        have hcj := HD.out.cell j hj1
        clear hend
        cases hf : f j with
        | false =>
          have HST : Hid (j < 1024 → f j = false) := fun _ => hf
          rw [hf] at hcj
          have hF2 := hf
          clear hf
          by_cases hkj2 : k < j
          · have hkj3 : (k : Int) < (j : Int) := by omega
            have HU := Lib.hid (HH.out.run hkj2 hj HF.out)
            have hlen : pre.length < 512 := by
              have h := HU.out.many
              rw [List.length_append] at h
              simp at h
              omega
            have HN : Hid (Head f (j + 1) (pre ++ [((k : Int), (j : Int))])) := Head.next HU.out hj HST.out
            obtain ⟨fn, tmps, assign, body, hy, hR⟩ := hY pre ((k : Int), (j : Int)) _ HJ.out hlen
            dsimp only at hy
            clear hF2
            gi_wp2
            refine hR.mono ?_
            rintro e W3 (⟨rfl, hJ3, hk3⟩ | ⟨rfl, hJx3⟩)
            · have HJ3 := Lib.hid hJ3
              have HK3 : Hid (KeepsTwo Bs g W W3) := HK.out.trans hk3
              clear hJ3 hk3
              gi_wp2
              go_roundw
              case rel => exact ⟨j + 1, _, by go_num, by omega, HN, HJ3, HK3⟩
              case measure => simp [intOf]; omega
            · have HX3 := Lib.hid hJx3
              clear hJx3
              gi_wp2
              refine bodyPost_ret (results_none rfl _ _ _) rfl ?_
              exact ⟨⟨_, rfl⟩, .inr ⟨_, trivial, HX3.out⟩⟩
          · obtain rfl : k = j := by omega
            have HN : Hid (Head f (k + 1) pre) := Head.next (HH.out.upTo hj) hj HST.out
            have hkk : ¬ (k : Int) < (k : Int) := by omega
            clear hF2
            gi_wp2
            refine ⟨fun _ h => (by cases h), ?_⟩
            gi_wp2
            go_roundw
            case rel => exact ⟨k + 1, _, by go_num, by omega, HN, HJ, HK⟩
            case measure => simp [intOf]; omega
        | true =>
          rw [hf] at hcj
          have HF' : Hid (∀ m, k ≤ m → m < j + 1 → f m = true) := fun m h1 h2 => by
            by_cases e : m = j
            · rw [e]; exact hf
            · exact HF.out m h1 (by omega)
          clear hf
          gi_wp2
          go_roundw
          case rel => exact ⟨j + 1, by go_num, by omega, by omega, HF', by first | rfl | trivial⟩
          case measure => simp [intOf]; omega
    · gi_wp2
      go_end0
      exact ⟨⟨_, rfl⟩, .inl ⟨_, HH.out.done (by omega), HJ.out⟩⟩
end Go.Proofs.Ytnbffkeinkgojaa
