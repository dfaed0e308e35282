/- Contracts of the reference's path and Path. -/
import Derived.Test.YtfolmglafnfcbaaDoorRefTree
import Derived.Test.YtfolmglafnfcbaaDoorPath
namespace Go.Proofs.YtfolmglafnfcbaaDoor
open Go.RowKit

/-- what a contract of path says of lists up to a length -/
def RefPathOk (f : Nat) : Prop := ∀ (A : Option Addr) (n c a : Nat) (ds : List D) (w : World), RdD w w.heap.size A n ds → 1 ≤ n → n ≤ f → a < n → n ≤ 1073741824 → n ≤ c → c ≤ maxLen →
  Calls Tryd.prog 41 #[.slice A n c, .int .i64 a] w fun e w' => ∃ (A' : Option Addr) (m cap : Nat), e = .returned (.slice A' m cap) ∧ OwnsN w' w.heap.size 26 32 A' m cap (flatD (path ds a)) ∧ Below w.heap.size w w'

set_option maxRecDepth 100000 in
set_option maxHeartbeats 2000000 in
theorem refpathLeft (f : Nat) (ih : RefPathOk f) (A : Option Addr) (n c a : Nat) (ds : List D) (w : World) (hr : RdD w w.heap.size A n ds) (h2 : 2 ≤ n) (hf : n ≤ f + 1) (ha : a < half n) (_han : a < n) (hn : n ≤ 1073741824) (hc : n ≤ c) (hcm : c ≤ maxLen) :
    Calls Tryd.prog 41 #[.slice A n c, .int .i64 a] w fun e w' => ∃ (A' : Option Addr) (m cap : Nat), e = .returned (.slice A' m cap) ∧ OwnsN w' w.heap.size 26 32 A' m cap (flatD (path ds a)) ∧ Below w.heap.size w w' := by
  have hl := hr.1
  have a1 := half_lt n h2 (by omega)
  have a2 := half_pos n
  obtain ⟨h, hh⟩ : ∃ h, h = half n := ⟨_, rfl⟩
  have HH := Lib.hid hh
  rw [← hh] at a1 a2 ha
  have hcc : ¬ c = h := by omega
  have i0 : (0 : Int) ≤ (h : Int) := by omega
  have i1 : (h : Int) ≤ (n : Int) := by omega
  have i2 : (h : Int) ≤ (c : Int) := by omega
  have i3 : (n : Int) ≤ (c : Int) := by omega
  have hne1 : ((n : Int) == 1) = false := by rw [beq_eq_false_iff_ne]; omega
  have HP : Hid (path ds a = path (ds.take h) a ++ [tree (ds.drop h)]) := by
    have e := path_left ds a (by omega) (by omega) (by rw [← hl, ← hh]; exact ha)
    rw [← hl, ← hh] at e
    exact e
  have hpa : ∀ x ∈ path (ds.take h) a, x.length = 32 := path_all _ _ _ (Nat.le_refl _) (by simp; omega)
  have HPL : Hid ((path (ds.take h) a).length ≤ 40) := by
    unfold Hid
    rw [path_length _ _ _ (Nat.le_refl _) (by simp; omega) (by simp; omega)]
    exact steps_40 _ _ (by simp; omega) (by simp; omega) (by simp; omega)
  have HPA := Lib.hid hpa
  have HCP : Hid (∀ w', Below w.heap.size w w' → Calls Tryd.prog 41 #[.slice A h c, .int .i64 a] w' fun e w'' => ∃ (A' : Option Addr) (m cap : Nat), e = .returned (.slice A' m cap) ∧ Hid (OwnsN w'' w.heap.size 26 32 A' m cap (flatD (path (ds.take h) a))) ∧ Hid (Below w.heap.size w w'')) := fun w' hb => by
    have hb' := hb.size
    refine (ih A h c a (ds.take h) w' ((hr.take (by omega)).keep (by omega) fun p hp => hb.cell (by omega)) (by omega) (by omega) (by omega) (by omega) (by omega) (by omega)).mono fun e w'' hx => ?_
    obtain ⟨A', m, cap, e1, e2, e3⟩ := hx
    refine ⟨A', m, cap, e1, ?_, hb.trans (e3.mono hb')⟩
    rcases e2 with q | ⟨g, q1, q2, q3, q4⟩
    · exact .inl q
    · exact .inr ⟨g, q1, q2, by omega, q4⟩
  have HCT : Hid (∀ w', Below w.heap.size w w' → Calls Tryd.prog 18 #[.slice (A.map (·.add (h * 32))) (n - h) (c - h)] w' fun e w'' => e = .returned (.agg (bytesV (tree (ds.drop h))).toArray) ∧ Hid (Below w.heap.size w w'') ∧ Hid (Below w'.heap.size w' w'')) := fun w' hb => by
    have hb' := hb.size
    exact (reftree_any _ (n - h) (c - h) (ds.drop h) w' ((hr.drop (by omega)).keep (by omega) fun p hp => hb.cell (by omega)) (by omega) (by omega) (by omega)).mono fun _ _ ⟨e, k⟩ => ⟨e, hb.trans (k.mono hb'), k⟩
  have HTL := Lib.hid (tree_length (ds.drop h))
  have HSPL := Lib.hid (refhalf_any n w h2 (by omega))
  clear hr hl hh hpa
  go_enter Tryd.func41, Tryd.ntmps41
  go_wp2_with fail
  refine HSPL.out.mono ?_
  rintro e w' ⟨rfl, rfl⟩
  rw [← HH.out]
  go_wp2_with fail
  obtain ⟨i0', hi, hzz, hz1', hz2'⟩ := dg_parts
  have hl5 : (bytesV (tree (ds.drop h))).length = 32 := by rw [bytesV_length]; exact HTL.out
  have hff := fold_zero (tree (ds.drop h)) HTL.out
  go_region_held3 (fun w' => Below w.heap.size w w')
    (first | exact (Below.refl _ _).drew | exact HSL.out | exact HST.out | exact HS4.out | (have hX := ‹Below w.heap.size w _›; first | exact hX.alloc hX.size _ | exact (hX.alloc hX.size _).drew))
    (first
      | (go_at_call 41; with_reducible refine (HCP.out _ ‹Below w.heap.size w _›).mono ?_; rintro e wL ⟨A1, m1, cap1, rfl, HOL, HSL⟩)
      | (go_at_call 18; with_reducible refine (HCT.out _ ‹Below w.heap.size w _›).mono ?_; rintro e wT ⟨rfl, HST, HST'⟩
         have HOT := Lib.hid (HOL.out.below HST'.out (Nat.le_refl _)))
      | (refine step_append_N _ rfl (.tmp 20) (.tmp 25) 30 30 rfl w.heap.size 26 i0' _ 32 32 Tryd.underlying30 hi hzz hz1' hz2' rfl A1 m1 cap1 _ rfl (HOT.out.below ((Below.refl _ _).alloc (Nat.le_refl _) _) (Nat.le_refl _)) _ rfl 1 _ (src_one wT _ HTL.out) (by omega) (by have h := pathLen HOT.out HPA.out HPL.out; unfold maxLen; omega) (by have h := pathLen HOT.out HPA.out HPL.out; omega) (‹Below w.heap.size w _›).size ?_
         intro g4 cap4 w4 HO4 HB4
         have HS4 : Hid (Below w.heap.size w w4) := (‹Below w.heap.size w _›).trans HB4.out))
  go_wp2_with fail
  refine bodyPost_ret (v := .slice (some ⟨g4, 0, none⟩) (m1 + 1) cap4) (by simp [results, Tryd.results41, go_sem]) rfl ⟨_, _, _, rfl, .inr ⟨g4, rfl, ?_⟩, HS4.out⟩
  have h := HO4.out
  rw [← flatD_one, ← flatD_append, ← HP.out] at h
  exact h

set_option maxRecDepth 100000 in
set_option maxHeartbeats 2000000 in
theorem refpathRight (f : Nat) (ih : RefPathOk f) (A : Option Addr) (n c a : Nat) (ds : List D) (w : World) (hr : RdD w w.heap.size A n ds) (h2 : 2 ≤ n) (hf : n ≤ f + 1) (ha : ¬ a < half n) (han : a < n) (hn : n ≤ 1073741824) (hc : n ≤ c) (hcm : c ≤ maxLen) :
    Calls Tryd.prog 41 #[.slice A n c, .int .i64 a] w fun e w' => ∃ (A' : Option Addr) (m cap : Nat), e = .returned (.slice A' m cap) ∧ OwnsN w' w.heap.size 26 32 A' m cap (flatD (path ds a)) ∧ Below w.heap.size w w' := by
  have hl := hr.1
  have a1 := half_lt n h2 (by omega)
  have a2 := half_pos n
  obtain ⟨h, hh⟩ : ∃ h, h = half n := ⟨_, rfl⟩
  have HH := Lib.hid hh
  rw [← hh] at a1 a2 ha
  obtain ⟨a', ha'⟩ : ∃ a', a' = a - h := ⟨_, rfl⟩
  have hcc : ¬ c = h := by omega
  have i0 : (0 : Int) ≤ (h : Int) := by omega
  have i1 : (h : Int) ≤ (n : Int) := by omega
  have i2 : (h : Int) ≤ (c : Int) := by omega
  have i3 : (n : Int) ≤ (c : Int) := by omega
  have hne1 : ((n : Int) == 1) = false := by rw [beq_eq_false_iff_ne]; omega
  have HP : Hid (path ds a = path (ds.drop h) a' ++ [tree (ds.take h)]) := by
    have e := path_right ds a (by omega) (by omega) (by rw [← hl, ← hh]; exact ha)
    rw [← hl, ← hh, ← ha'] at e
    exact e
  have hpa : ∀ x ∈ path (ds.drop h) a', x.length = 32 := path_all _ _ _ (Nat.le_refl _) (by simp; omega)
  have HPL : Hid ((path (ds.drop h) a').length ≤ 40) := by
    unfold Hid
    rw [path_length _ _ _ (Nat.le_refl _) (by simp; omega) (by simp; omega)]
    exact steps_40 _ _ (by simp; omega) (by simp; omega) (by simp; omega)
  have HPA := Lib.hid hpa
  have HWA : Hid (IntKind.i64.wrap ((a : Int) - (h : Int)) = (a' : Int)) := by
    unfold Hid
    rw [IntWalk.i64_in _ (by omega)]
    omega
  have HCP : Hid (∀ w', Below w.heap.size w w' → Calls Tryd.prog 41 #[.slice (A.map (·.add (h * 32))) (n - h) (c - h), .int .i64 a'] w' fun e w'' => ∃ (A' : Option Addr) (m cap : Nat), e = .returned (.slice A' m cap) ∧ Hid (OwnsN w'' w.heap.size 26 32 A' m cap (flatD (path (ds.drop h) a'))) ∧ Hid (Below w.heap.size w w'')) := fun w' hb => by
    have hb' := hb.size
    refine (ih _ (n - h) (c - h) a' (ds.drop h) w' ((hr.drop (by omega)).keep (by omega) fun p hp => hb.cell (by omega)) (by omega) (by omega) (by omega) (by omega) (by omega) (by omega)).mono fun e w'' hx => ?_
    obtain ⟨A', m, cap, e1, e2, e3⟩ := hx
    refine ⟨A', m, cap, e1, ?_, hb.trans (e3.mono hb')⟩
    rcases e2 with q | ⟨g, q1, q2, q3, q4⟩
    · exact .inl q
    · exact .inr ⟨g, q1, q2, by omega, q4⟩
  have HCT : Hid (∀ w', Below w.heap.size w w' → Calls Tryd.prog 18 #[.slice A h c] w' fun e w'' => e = .returned (.agg (bytesV (tree (ds.take h))).toArray) ∧ Hid (Below w.heap.size w w'') ∧ Hid (Below w'.heap.size w' w'')) := fun w' hb => by
    have hb' := hb.size
    exact (reftree_any _ h c (ds.take h) w' ((hr.take (by omega)).keep (by omega) fun p hp => hb.cell (by omega)) (by omega) (by omega) (by omega)).mono fun _ _ ⟨e, k⟩ => ⟨e, hb.trans (k.mono hb'), k⟩
  have HTL := Lib.hid (tree_length (ds.take h))
  have HSPL := Lib.hid (refhalf_any n w h2 (by omega))
  clear hr hl hh hpa ha'
  go_enter Tryd.func41, Tryd.ntmps41
  go_wp2_with fail
  refine HSPL.out.mono ?_
  rintro e w' ⟨rfl, rfl⟩
  rw [← HH.out]
  go_wp2_with fail
  obtain ⟨i0', hi, hzz, hz1', hz2'⟩ := dg_parts
  have hwa := HWA.out
  have hl5 : (bytesV (tree (ds.take h))).length = 32 := by rw [bytesV_length]; exact HTL.out
  have hff := fold_zero (tree (ds.take h)) HTL.out
  go_region_held3 (fun w' => Below w.heap.size w w')
    (first | exact (Below.refl _ _).drew | exact HSL.out | exact HST.out | exact HS4.out | (have hX := ‹Below w.heap.size w _›; first | exact hX.alloc hX.size _ | exact (hX.alloc hX.size _).drew))
    (first
      | (go_at_call 41; with_reducible refine (HCP.out _ ‹Below w.heap.size w _›).mono ?_; rintro e wL ⟨A1, m1, cap1, rfl, HOL, HSL⟩)
      | (go_at_call 18; with_reducible refine (HCT.out _ ‹Below w.heap.size w _›).mono ?_; rintro e wT ⟨rfl, HST, HST'⟩
         have HOT := Lib.hid (HOL.out.below HST'.out (Nat.le_refl _)))
      | (refine step_append_N _ rfl (.tmp 33) (.tmp 38) 30 30 rfl w.heap.size 26 i0' _ 32 32 Tryd.underlying30 hi hzz hz1' hz2' rfl A1 m1 cap1 _ rfl (HOT.out.below ((Below.refl _ _).alloc (Nat.le_refl _) _) (Nat.le_refl _)) _ rfl 1 _ (src_one wT _ HTL.out) (by omega) (by have h := pathLen HOT.out HPA.out HPL.out; unfold maxLen; omega) (by have h := pathLen HOT.out HPA.out HPL.out; omega) (‹Below w.heap.size w _›).size ?_
         intro g4 cap4 w4 HO4 HB4
         have HS4 : Hid (Below w.heap.size w w4) := (‹Below w.heap.size w _›).trans HB4.out))
  go_wp2_with fail
  refine bodyPost_ret (v := .slice (some ⟨g4, 0, none⟩) (m1 + 1) cap4) (by simp [results, Tryd.results41, go_sem]) rfl ⟨_, _, _, rfl, .inr ⟨g4, rfl, ?_⟩, HS4.out⟩
  have h := HO4.out
  rw [← flatD_one, ← flatD_append, ← HP.out] at h
  exact h

set_option maxRecDepth 100000 in
theorem refpath1_any (A : Option Addr) (c a : Nat) (ds : List D) (w : World) (hr : RdD w w.heap.size A 1 ds) :
    Calls Tryd.prog 41 #[.slice A 1 c, .int .i64 a] w fun e w' => ∃ (A' : Option Addr) (m cap : Nat), e = .returned (.slice A' m cap) ∧ OwnsN w' w.heap.size 26 32 A' m cap (flatD (path ds a)) ∧ Below w.heap.size w w' := by
  have HP := Lib.hid (path_one' ds hr.1.symm a)
  clear hr
  go_enter Tryd.func41, Tryd.ntmps41
  go_wp2_with fail
  exact bodyPost_ret (v := .slice (some ⟨w.heap.size, 0, none⟩) 0 0) (by simp [results, Tryd.results41, go_sem]) rfl ⟨_, 0, 0, rfl, .inr ⟨_, rfl, by rw [HP.out]; exact owns0 w _ (Nat.le_refl _)⟩, Below.new1 w _⟩

theorem refpathOk : ∀ f, RefPathOk f
  | 0 => by
    intro A n c a ds w _ h1 hf
    omega
  | f + 1 => by
    intro A n c a ds w hr h1 hf ha hn hc hcm
    by_cases he : n = 1
    · subst he
      exact refpath1_any A c a ds w hr
    · by_cases hl : a < half n
      · exact refpathLeft f (refpathOk f) A n c a ds w hr (by omega) hf hl ha hn hc hcm
      · exact refpathRight f (refpathOk f) A n c a ds w hr (by omega) hf hl ha hn hc hcm

set_option maxRecDepth 100000 in
set_option maxHeartbeats 1000000 in
/-- Path of an element that is there -/
theorem refpathX_any (A : Option Addr) (n c a : Nat) (ds : List D) (w : World) (hr : RdD w w.heap.size A n ds) (ha : a < n) (hn : n ≤ 1073741824) (hc : n ≤ c) (hcm : c ≤ maxLen) :
    Calls Tryd.prog 20 #[.slice A n c, .int .i64 a] w fun e w' => ∃ (A' : Option Addr) (m cap : Nat), e = .returned (.tuple #[.slice A' m cap, .int .i64 0]) ∧ OwnsN w' w.heap.size 26 32 A' m cap (flatD (path ds a)) ∧ Below w.heap.size w w' := by
  have HC := Lib.hid (refpathOk n A n c a ds w hr (by omega) (Nat.le_refl _) ha hn hc hcm)
  have g3 : ¬ (a : Int) < 0 := by omega
  have g4 : ¬ (a : Int) ≥ (n : Int) := by omega
  have g4' : ¬ (n : Int) ≤ (a : Int) := by omega
  have g5 : ¬ n ≤ a := by omega
  clear hr
  go_enter Tryd.func20, Tryd.ntmps20
  go_wp2_with fail
  refine HC.out.mono ?_
  rintro e w1 ⟨A1, m1, cap1, rfl, HO, HB⟩
  go_wp2_with fail
  exact bodyPost_ret (v := .tuple #[.slice A1 m1 cap1, .int .i64 0]) (by simp [results, Tryd.results20, go_sem]) rfl ⟨_, _, _, rfl, HO, HB⟩
end Go.Proofs.YtfolmglafnfcbaaDoor
