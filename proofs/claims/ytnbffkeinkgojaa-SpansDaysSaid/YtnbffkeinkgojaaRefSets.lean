/- Contracts of the reference's Normal, Union, Meet and Minus. -/
import Derived.Test.YtnbffkeinkgojaaRefSpans
namespace Go.Proofs.Ytnbffkeinkgojaa
open Go.RowKit

def uOp (a b : Bool) : Bool := a || b
def mOp (a b : Bool) : Bool := a && b
def dOp (a b : Bool) : Bool := a && !b
/-- what a call of a set function hands back -/
def SpansIs (u u' : World) (l : List Sp) (e : Ending) : Prop :=
  ∃ (A : Option Addr) (m cap : Nat), e = .returned (.slice A m cap) ∧ RdS u' u'.heap.size A m l ∧ m ≤ cap ∧ cap ≤ maxLen ∧ Below u.heap.size u u'
theorem spansIs_owned {u u' : World} {base g N cap : Nat} {f : Nat → Bool} (ho : Owns u' base 31 2 g N cap (flatS (normal f))) (hb : Below u.heap.size u u') : SpansIs u u' (normal f) (.returned (.slice (some ⟨g, 0, none⟩) N cap)) :=
  ⟨_, N, cap, rfl, RdS.of_owns ho (normal_i64 f) ho.lt, ho.2.2.1, ho.2.2.2.1, hb⟩

set_option maxRecDepth 100000 in
set_option maxHeartbeats 1000000 in
theorem refnormal_any (A : Option Addr) (n c : Nat) (l : List Sp) (w : World) (hr : RdS w w.heap.size A n l) (hn : n ≤ 4611686018427387904) :
    Calls Try.prog 16 #[.slice A n c] w fun e w' => SpansIs w w' (normal (dayIn l)) e := by
  have HD := Lib.hid (refdays_any A n c l w hr hn)
  clear hr
  go_enter Try.func16, Try.ntmps16
  go_wp2_with fail
  refine HD.out.mono ?_
  rintro e w1 ⟨g, rfl, hrow, hg, hb1⟩
  have HS := Lib.hid (refspans_any g (dayIn l) w1 hrow)
  have HB1 := Lib.hid hb1
  clear hrow hb1 HD
  go_wp2_with fail
  refine HS.out.mono ?_
  rintro e w2 ⟨g', N, cap, rfl, ho, hb2⟩
  have HO := Lib.hid ho
  have HB2 : Hid (Below w.heap.size w w2) := HB1.out.trans (hb2.mono HB1.out.size)
  clear ho hb2 HS
  go_wp2_with fail
  exact bodyPost_ret (v := .slice (some ⟨g', 0, none⟩) N cap) (by simp [results, Try.results16, go_sem]) rfl (spansIs_owned HO.out HB2.out)

set_option maxRecDepth 100000 in
set_option maxHeartbeats 2000000 in
theorem refunion_any (A B : Option Addr) (n m c c' : Nat) (l l' : List Sp) (w : World) (hr : RdS w w.heap.size A n l) (hs : RdS w w.heap.size B m l') (hn : n ≤ 4611686018427387904) (hm : m ≤ 4611686018427387904) :
    Calls Try.prog 18 #[.slice A n c, .slice B m c'] w fun e w' => SpansIs w w' (normal fun k => uOp (dayIn l k) (dayIn l' k)) e := by
  have HD := Lib.hid (refdays_any A n c l w hr hn)
  have HS := Lib.hid hs
  clear hr hs
  go_enter Try.func18, Try.ntmps18
  go_wp2_with fail
  refine HD.out.mono ?_
  rintro e w1 ⟨g, rfl, hrow, hg, hb1⟩
  have HX := Lib.hid hrow
  have HB1 := Lib.hid hb1
  have HD2 := Lib.hid (refdays_any B m c' l' w1 (HS.out.below hb1 hb1.size) hm)
  have hgl := hrow.lt
  clear hrow hb1 HD
  go_wp2_with fail
  refine HD2.out.mono ?_
  rintro e w2 ⟨h, rfl, hrow2, hh, hb2⟩
  have HY := Lib.hid hrow2
  have HX2 := Lib.hid (HX.out.below hb2 hgl)
  have HB2 : Hid (Below w.heap.size w w2) := HB1.out.trans (hb2.mono HB1.out.size)
  have hne : h ≠ g := by omega
  have hhl := hrow2.lt
  have hgl2 : g < w2.heap.size := by omega
  have hwh : w.heap.size ≤ h := by have := HB1.out.size; omega
  clear hrow2 hb2 HD2 HS HX HB1 hh hgl
  go_wp2_with fail
  go_loopw [7] (fun v wr => ∃ k : Nat, v = .int .i64 k ∧ k ≤ 1024 ∧ Hid (BoolRow wr g (fun j => if j < k then uOp (dayIn l j) (dayIn l' j) else dayIn l j)) ∧ Hid (BoolRow wr h (dayIn l')) ∧ Hid (Below w.heap.size w wr)) (fun v _ => 1024 - (intOf v).toNat)
  case atStart => exact ⟨0, rfl, by omega, HX2.out.congr (fun j _ => by simp), HY, HB2⟩
  case round =>
    obtain ⟨k, rfl, hk, HX, HYk, HB⟩ := hrel
    clear HX2 HY HB2
    by_cases hend : k = 1024
    · subst hend
      have HXE : Hid (BoolRow wr g (fun j => uOp (dayIn l j) (dayIn l' j))) := HX.out.congr fun j hj => if_pos hj
      have HSP := Lib.hid (refspans_any g _ wr HXE.out)
      go_wp2_with fail
      refine HSP.out.mono ?_
      rintro e w3 ⟨g', N, cap, rfl, ho, hb3⟩
      have HO := Lib.hid ho
      have HB3 : Hid (Below w.heap.size w w3) := HB.out.trans (hb3.mono HB.out.size)
      clear ho hb3 HSP
      go_wp2_with fail
      exact bodyPost_ret (v := .slice (some ⟨g', 0, none⟩) N cap) (by simp [results, Try.results18, go_sem]) rfl (spansIs_owned HO.out HB3.out)
    have hk1 : k < 1024 := by omega
    have hk1' : (k : Int) < 1024 := by omega
    have k0 : (0 : Int) ≤ (k : Int) := by omega
    have hcx := HX.out.cell k hk1
    have hfx := HX.out.frozen k
    have hcy := HYk.out.cell k hk1
    simp only [Nat.lt_irrefl, if_false] at hcx
    clear hend
    have HN : ∀ b : Bool, b = uOp (dayIn l k) (dayIn l' k) → Hid (BoolRow (wr.setCell ⟨g, k, none⟩ (.bool b)) g (fun j => if j < k + 1 then uOp (dayIn l j) (dayIn l' j) else dayIn l j)) ∧ Hid (BoolRow (wr.setCell ⟨g, k, none⟩ (.bool b)) h (dayIn l')) ∧ Hid (Below w.heap.size w (wr.setCell ⟨g, k, none⟩ (.bool b))) := fun b hb => ⟨(HX.out.set k b).congr fun j hj => by
        unfold upd
        by_cases e : j = k
        · subst e
          rw [if_pos rfl, if_pos (by omega), hb]
        · rw [if_neg e]
          dsimp only
          by_cases e2 : j < k
          · rw [if_pos e2, if_pos (by omega)]
          · rw [if_neg e2, if_neg (by omega)], HYk.out.keep (heap_setCell_other wr ⟨g, k, none⟩ _ _ hne), Below.setCell HB.out hg _⟩
    have HNN := Lib.hid HN
    clear HN
    cases hx : dayIn l k <;> cases hy : dayIn l' k <;> rw [hx] at hcx <;> rw [hy] at hcy
    all_goals go_wp2_with fail
    all_goals go_roundw
    all_goals first
      | (case measure => simp [intOf]; omega)
      | (case rel => exact ⟨k + 1, by go_num, by omega, HNN.out _ (by rw [hx, hy]; rfl)⟩)

set_option maxRecDepth 100000 in
set_option maxHeartbeats 2000000 in
theorem refmeet_any (A B : Option Addr) (n m c c' : Nat) (l l' : List Sp) (w : World) (hr : RdS w w.heap.size A n l) (hs : RdS w w.heap.size B m l') (hn : n ≤ 4611686018427387904) (hm : m ≤ 4611686018427387904) :
    Calls Try.prog 20 #[.slice A n c, .slice B m c'] w fun e w' => SpansIs w w' (normal fun k => mOp (dayIn l k) (dayIn l' k)) e := by
  have HD := Lib.hid (refdays_any A n c l w hr hn)
  have HS := Lib.hid hs
  clear hr hs
  go_enter Try.func20, Try.ntmps20
  go_wp2_with fail
  refine HD.out.mono ?_
  rintro e w1 ⟨g, rfl, hrow, hg, hb1⟩
  have HX := Lib.hid hrow
  have HB1 := Lib.hid hb1
  have HD2 := Lib.hid (refdays_any B m c' l' w1 (HS.out.below hb1 hb1.size) hm)
  have hgl := hrow.lt
  clear hrow hb1 HD
  go_wp2_with fail
  refine HD2.out.mono ?_
  rintro e w2 ⟨h, rfl, hrow2, hh, hb2⟩
  have HY := Lib.hid hrow2
  have HX2 := Lib.hid (HX.out.below hb2 hgl)
  have HB2 : Hid (Below w.heap.size w w2) := HB1.out.trans (hb2.mono HB1.out.size)
  have hne : h ≠ g := by omega
  have hhl := hrow2.lt
  have hgl2 : g < w2.heap.size := by omega
  have hwh : w.heap.size ≤ h := by have := HB1.out.size; omega
  clear hrow2 hb2 HD2 HS HX HB1 hh hgl
  go_wp2_with fail
  go_loopw [7] (fun v wr => ∃ k : Nat, v = .int .i64 k ∧ k ≤ 1024 ∧ Hid (BoolRow wr g (fun j => if j < k then mOp (dayIn l j) (dayIn l' j) else dayIn l j)) ∧ Hid (BoolRow wr h (dayIn l')) ∧ Hid (Below w.heap.size w wr)) (fun v _ => 1024 - (intOf v).toNat)
  case atStart => exact ⟨0, rfl, by omega, HX2.out.congr (fun j _ => by simp), HY, HB2⟩
  case round =>
    obtain ⟨k, rfl, hk, HX, HYk, HB⟩ := hrel
    clear HX2 HY HB2
    by_cases hend : k = 1024
    · subst hend
      have HXE : Hid (BoolRow wr g (fun j => mOp (dayIn l j) (dayIn l' j))) := HX.out.congr fun j hj => if_pos hj
      have HSP := Lib.hid (refspans_any g _ wr HXE.out)
      go_wp2_with fail
      refine HSP.out.mono ?_
      rintro e w3 ⟨g', N, cap, rfl, ho, hb3⟩
      have HO := Lib.hid ho
      have HB3 : Hid (Below w.heap.size w w3) := HB.out.trans (hb3.mono HB.out.size)
      clear ho hb3 HSP
      go_wp2_with fail
      exact bodyPost_ret (v := .slice (some ⟨g', 0, none⟩) N cap) (by simp [results, Try.results20, go_sem]) rfl (spansIs_owned HO.out HB3.out)
    have hk1 : k < 1024 := by omega
    have hk1' : (k : Int) < 1024 := by omega
    have k0 : (0 : Int) ≤ (k : Int) := by omega
    have hcx := HX.out.cell k hk1
    have hfx := HX.out.frozen k
    have hcy := HYk.out.cell k hk1
    simp only [Nat.lt_irrefl, if_false] at hcx
    clear hend
    have HN : ∀ b : Bool, b = mOp (dayIn l k) (dayIn l' k) → Hid (BoolRow (wr.setCell ⟨g, k, none⟩ (.bool b)) g (fun j => if j < k + 1 then mOp (dayIn l j) (dayIn l' j) else dayIn l j)) ∧ Hid (BoolRow (wr.setCell ⟨g, k, none⟩ (.bool b)) h (dayIn l')) ∧ Hid (Below w.heap.size w (wr.setCell ⟨g, k, none⟩ (.bool b))) := fun b hb => ⟨(HX.out.set k b).congr fun j hj => by
        unfold upd
        by_cases e : j = k
        · subst e
          rw [if_pos rfl, if_pos (by omega), hb]
        · rw [if_neg e]
          dsimp only
          by_cases e2 : j < k
          · rw [if_pos e2, if_pos (by omega)]
          · rw [if_neg e2, if_neg (by omega)], HYk.out.keep (heap_setCell_other wr ⟨g, k, none⟩ _ _ hne), Below.setCell HB.out hg _⟩
    have HNN := Lib.hid HN
    clear HN
    cases hx : dayIn l k <;> cases hy : dayIn l' k <;> rw [hx] at hcx <;> rw [hy] at hcy
    all_goals go_wp2_with fail
    all_goals go_roundw
    all_goals first
      | (case measure => simp [intOf]; omega)
      | (case rel => exact ⟨k + 1, by go_num, by omega, HNN.out _ (by rw [hx, hy]; rfl)⟩)

set_option maxRecDepth 100000 in
set_option maxHeartbeats 2000000 in
theorem refminus_any (A B : Option Addr) (n m c c' : Nat) (l l' : List Sp) (w : World) (hr : RdS w w.heap.size A n l) (hs : RdS w w.heap.size B m l') (hn : n ≤ 4611686018427387904) (hm : m ≤ 4611686018427387904) :
    Calls Try.prog 22 #[.slice A n c, .slice B m c'] w fun e w' => SpansIs w w' (normal fun k => dOp (dayIn l k) (dayIn l' k)) e := by
  have HD := Lib.hid (refdays_any A n c l w hr hn)
  have HS := Lib.hid hs
  clear hr hs
  go_enter Try.func22, Try.ntmps22
  go_wp2_with fail
  refine HD.out.mono ?_
  rintro e w1 ⟨g, rfl, hrow, hg, hb1⟩
  have HX := Lib.hid hrow
  have HB1 := Lib.hid hb1
  have HD2 := Lib.hid (refdays_any B m c' l' w1 (HS.out.below hb1 hb1.size) hm)
  have hgl := hrow.lt
  clear hrow hb1 HD
  go_wp2_with fail
  refine HD2.out.mono ?_
  rintro e w2 ⟨h, rfl, hrow2, hh, hb2⟩
  have HY := Lib.hid hrow2
  have HX2 := Lib.hid (HX.out.below hb2 hgl)
  have HB2 : Hid (Below w.heap.size w w2) := HB1.out.trans (hb2.mono HB1.out.size)
  have hne : h ≠ g := by omega
  have hhl := hrow2.lt
  have hgl2 : g < w2.heap.size := by omega
  have hwh : w.heap.size ≤ h := by have := HB1.out.size; omega
  clear hrow2 hb2 HD2 HS HX HB1 hh hgl
  go_wp2_with fail
  go_loopw [7] (fun v wr => ∃ k : Nat, v = .int .i64 k ∧ k ≤ 1024 ∧ Hid (BoolRow wr g (fun j => if j < k then dOp (dayIn l j) (dayIn l' j) else dayIn l j)) ∧ Hid (BoolRow wr h (dayIn l')) ∧ Hid (Below w.heap.size w wr)) (fun v _ => 1024 - (intOf v).toNat)
  case atStart => exact ⟨0, rfl, by omega, HX2.out.congr (fun j _ => by simp), HY, HB2⟩
  case round =>
    obtain ⟨k, rfl, hk, HX, HYk, HB⟩ := hrel
    clear HX2 HY HB2
    by_cases hend : k = 1024
    · subst hend
      have HXE : Hid (BoolRow wr g (fun j => dOp (dayIn l j) (dayIn l' j))) := HX.out.congr fun j hj => if_pos hj
      have HSP := Lib.hid (refspans_any g _ wr HXE.out)
      go_wp2_with fail
      refine HSP.out.mono ?_
      rintro e w3 ⟨g', N, cap, rfl, ho, hb3⟩
      have HO := Lib.hid ho
      have HB3 : Hid (Below w.heap.size w w3) := HB.out.trans (hb3.mono HB.out.size)
      clear ho hb3 HSP
      go_wp2_with fail
      exact bodyPost_ret (v := .slice (some ⟨g', 0, none⟩) N cap) (by simp [results, Try.results22, go_sem]) rfl (spansIs_owned HO.out HB3.out)
    have hk1 : k < 1024 := by omega
    have hk1' : (k : Int) < 1024 := by omega
    have k0 : (0 : Int) ≤ (k : Int) := by omega
    have hcx := HX.out.cell k hk1
    have hfx := HX.out.frozen k
    have hcy := HYk.out.cell k hk1
    simp only [Nat.lt_irrefl, if_false] at hcx
    clear hend
    have HN : ∀ b : Bool, b = dOp (dayIn l k) (dayIn l' k) → Hid (BoolRow (wr.setCell ⟨g, k, none⟩ (.bool b)) g (fun j => if j < k + 1 then dOp (dayIn l j) (dayIn l' j) else dayIn l j)) ∧ Hid (BoolRow (wr.setCell ⟨g, k, none⟩ (.bool b)) h (dayIn l')) ∧ Hid (Below w.heap.size w (wr.setCell ⟨g, k, none⟩ (.bool b))) := fun b hb => ⟨(HX.out.set k b).congr fun j hj => by
        unfold upd
        by_cases e : j = k
        · subst e
          rw [if_pos rfl, if_pos (by omega), hb]
        · rw [if_neg e]
          dsimp only
          by_cases e2 : j < k
          · rw [if_pos e2, if_pos (by omega)]
          · rw [if_neg e2, if_neg (by omega)], HYk.out.keep (heap_setCell_other wr ⟨g, k, none⟩ _ _ hne), Below.setCell HB.out hg _⟩
    have HNN := Lib.hid HN
    clear HN
    cases hx : dayIn l k <;> cases hy : dayIn l' k <;> rw [hx] at hcx <;> rw [hy] at hcy
    all_goals go_wp2_with fail
    all_goals go_roundw
    all_goals first
      | (case measure => simp [intOf]; omega)
      | (case rel => exact ⟨k + 1, by go_num, by omega, HNN.out _ (by rw [hx, hy]; rfl)⟩)
end Go.Proofs.Ytnbffkeinkgojaa
