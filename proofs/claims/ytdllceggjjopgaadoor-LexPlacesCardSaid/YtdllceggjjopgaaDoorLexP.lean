/- Contract of Lex. -/
import Derived.Test.YtdllceggjjopgaaDoorTokL
import Derived.Defers
import Derived.Recover
namespace Go.Proofs.YtdllceggjjopgaaDoor
open Go.RowKit

/-- what Lex answers: tokens, a place, an error -/
def lexOut (s : List UInt8) : List Tk × Nat × Int :=
  if 65536 < s.length then ([], 0, 2) else match lex 0 s with
    | .inl l => (l, 0, 0)
    | .inr q => ([], q, 50)
theorem lexOut_long {s : List UInt8} (h : 65536 < s.length) : lexOut s = ([], 0, 2) := by unfold lexOut; rw [if_pos h]
theorem lexOut_ok {s : List UInt8} {l : List Tk} (h : s.length ≤ 65536) (hl : lex 0 s = .inl l) : lexOut s = (l, 0, 0) := by unfold lexOut; rw [if_neg (by omega), hl]
theorem lexOut_bad {s : List UInt8} {q : Nat} (h : s.length ≤ 65536) (hl : lex 0 s = .inr q) : lexOut s = ([], q, 50) := by unfold lexOut; rw [if_neg (by omega), hl]
/-- what a call of Lex leaves -/
def LexP (w : World) (s : List UInt8) (e : Ending) (w' : World) : Prop :=
  ∃ (A : Option Addr) (n cap : Nat), e = .returned (.tuple #[.slice A n cap, .int .i64 ((lexOut s).2.1 : Nat), .int .i64 (lexOut s).2.2]) ∧ RdT w' w'.heap.size A n (lexOut s).1 ∧ n ≤ cap ∧ cap ≤ maxLen ∧ Below w.heap.size w w'

/-- one value in a block of its own -/
def B1 (w : World) (g : Nat) (v : Value) (t : TypeId) : Prop := w.heap[g]? = some (.cells #[v] t (0, 0))
theorem B1.cell {w : World} {g : Nat} {v : Value} {t : TypeId} (h : B1 w g v t) : w.cell? ⟨g, 0, none⟩ = some v := cell_of_row w g 0 _ _ _ h
theorem B1.frozen {w : World} {g : Nat} {v : Value} {t : TypeId} (h : B1 w g v t) : w.frozen? ⟨g, 0, none⟩ = false := frozen_of_row w g 0 _ _ h
theorem B1.lt {w : World} {g : Nat} {v : Value} {t : TypeId} (h : B1 w g v t) : g < w.heap.size := (Array.getElem?_eq_some_iff.1 h).1
theorem B1.keep {w w' : World} {g : Nat} {v : Value} {t : TypeId} (h : B1 w g v t) (k : w'.heap[g]? = w.heap[g]?) : B1 w' g v t := k.trans h
theorem B1.set {w : World} {g : Nat} {v : Value} {t : TypeId} (h : B1 w g v t) (u : Value) : B1 (w.setCell ⟨g, 0, none⟩ u) g u t := by
  unfold B1 at h ⊢
  simp [World.setCell, Array.getElem?_modify, h]
theorem B1.far {w : World} {g k o : Nat} {v u : Value} {t : TypeId} (h : B1 w g v t) (hne : g ≠ k) : B1 (w.setCell ⟨k, o, none⟩ u) g v t := (Below.heap_setCell w ⟨k, o, none⟩ u g hne).trans h
theorem B1.turn {w w' : World} {g r : Nat} {v : Value} {t : TypeId} (h : B1 w g v t) (ht : Turn w w' r) (hne : g ≠ r) : B1 w' g v t := h.keep (ht.block g h.lt fun e => by injection e with e; exact hne e)

set_option maxRecDepth 100000 in
set_option maxHeartbeats 1000000 in
theorem catch_panicking (p q r : Nat) (i : Nat) (a b c : Value) (older : List PanicEntry) (w : World) (hp : B1 w p a 23) (hq : B1 w q b 3) (hr : B1 w r c 24) (_ : p ≠ q) (_ : p ≠ r) (_ : q ≠ r) :
    CallsD Tryd.prog 24 #[.pointer (some ⟨p, 0, none⟩), .pointer (some ⟨q, 0, none⟩), .pointer (some ⟨r, 0, none⟩)] (.panicking ({ v := .iface 42 (.int .i64 i), recovered := false } :: older)) w fun e u' w' =>
      e = .returned (.tuple #[]) ∧ u' = .panicking ({ v := .iface 42 (.int .i64 i), recovered := true } :: older) ∧ w' = ((w.setCell ⟨p, 0, none⟩ (.slice none 0 0)).setCell ⟨q, 0, none⟩ (.int .i64 i)).setCell ⟨r, 0, none⟩ (.int .i64 50) := by
  have p0 := hp.cell
  have q0 := hq.cell
  have r0 := hr.cell
  have p1 := hp.frozen
  have q1 := hq.frozen
  have r1 := hr.frozen
  clear hp hq hr
  have hnn : ∀ (w : World) (u : TypeId) (x : Value), (binOp .neq 20 (.iface u x) .nilIface).run Tryd.prog w = .ok (.bool true) w := fun w u x => rfl
  have hta : ∀ (w : World), (Instr.typeAssert (.iface 42 (.int .i64 i)) 20 42 true).run Tryd.prog w = .ok (.tuple #[.int .i64 i, .bool true]) w := fun w => by kernel_rfl
  refine callsD_of_wpS Tryd.func24 rfl fun c₀ cs hu => ?_
  apply wpS_seq
  apply wpS_region
  simp [wpOpsS, go_sem, recoverD, hu, Tryd.ntmps24, Exit.thenS]
  apply wpS_seq
  apply wpS_region
  simp [wpOpsS, go_sem, hnn, Exit.thenS]
  refine wpS_cond (t := true) (by simp [Act.eval, Array.replicate]) ?_
  simp only [if_true]
  apply wpS_seq
  apply wpS_region
  simp [wpOpsS, go_sem, Exit.thenS, hta]
  apply wpS_region
  simp [wpOpsS, go_sem, p0, q0, r0, p1, q1, r1, bodyPostS, results, Tryd.results24]

set_option maxRecDepth 100000 in
set_option maxHeartbeats 1000000 in
theorem catch_idle (p q r : Nat) (w : World) :
    CallsD Tryd.prog 24 #[.pointer (some ⟨p, 0, none⟩), .pointer (some ⟨q, 0, none⟩), .pointer (some ⟨r, 0, none⟩)] .returning w fun e u' w' => e = .returned (.tuple #[]) ∧ u' = .returning ∧ w' = w := by
  refine callsD_of_wpS Tryd.func24 rfl fun c₀ cs hu => ?_
  apply wpS_seq
  apply wpS_region
  simp [wpOpsS, go_sem, recoverD, hu, Tryd.ntmps24, Exit.thenS]
  apply wpS_seq
  apply wpS_region
  simp [wpOpsS, go_sem, Exit.thenS]
  refine wpS_cond (t := false) (by simp [Act.eval, Array.replicate]) ?_
  simp only [Bool.false_eq_true, if_false]
  refine wpS_of_wp (wp_skip ?_)
  cases c₀
  simp_all [bodyPostS, results, Tryd.results24]

theorem OwnsN.far {w : World} {base n cap k o : Nat} {v : Value} {A : Option Addr} {e : TypeId} {size : Nat} {xs : List Value} (h : OwnsN w base e size A n cap xs) (hk : k < base) : OwnsN (w.setCell ⟨k, o, none⟩ v) base e size A n cap xs := by
  rcases h with h | ⟨g, hA, ho⟩
  · exact .inl h
  · exact .inr ⟨g, hA, ho.keep (Below.heap_setCell w ⟨k, o, none⟩ v g (by have := ho.2.1; show g ≠ k; omega))⟩
theorem heap_alloc_new3 (w : World) (x y z : Array Value) (t u v : TypeId) : (((w.alloc (.cells x t)).alloc (.cells y u)).alloc (.cells z v)).heap[w.heap.size]? = some (.cells x t (0, 0)) ∧
    (((w.alloc (.cells x t)).alloc (.cells y u)).alloc (.cells z v)).heap[w.heap.size + 1]? = some (.cells y u (0, 0)) ∧ (((w.alloc (.cells x t)).alloc (.cells y u)).alloc (.cells z v)).heap[w.heap.size + 1 + 1]? = some (.cells z v (0, 0)) := by
  refine ⟨?_, ?_, ?_⟩
  · rw [heap_alloc_old _ _ (by simp; omega), heap_alloc_old _ _ (by simp)]
    exact heap_alloc_new w _
  · rw [heap_alloc_old _ _ (by simp)]
    have := heap_alloc_new (w.alloc (.cells x t)) (.cells y u)
    simpa using this
  · have := heap_alloc_new ((w.alloc (.cells x t)).alloc (.cells y u)) (.cells z v)
    simpa using this
set_option maxRecDepth 100000 in
theorem door {W : World} {p q r : Nat} {A : Option Addr} {n c : Nat} {i y : Int} {R : Ending → World → Prop} {a0 a1 a5 a6 a7 a8 a9 a10 a11 a12 : Value} (hp : B1 W p (.slice A n c) 23) (hq : B1 W q (.int .i64 i) 3) (hr : B1 W r (.int .i64 y) 24) (h : R (.returned (.tuple #[.slice A n c, .int .i64 i, .int .i64 y])) W) :
    Leaves Tryd.prog Tryd.f12 #[a0, a1, .pointer (some ⟨p, 0, none⟩), .pointer (some ⟨q, 0, none⟩), .pointer (some ⟨r, 0, none⟩), a5, a6, a7, a8, a9, a10, a11, a12] R [] .returning W := by
  have c0 := hp.cell
  have c1 := hq.cell
  have c2 := hr.cell
  simp [Leaves, results, Tryd.results12, go_sem, c0, c1, c2]
  exact h

set_option maxRecDepth 100000 in
theorem door0 {W : World} {p q r : Nat} {A : Option Addr} {n c : Nat} {i y : Int} {R : Ending → World → Prop} {a0 a1 a5 a6 a7 a8 a9 a10 a11 a12 : Value} (hp : B1 W p (.slice A n c) 23) (hq : B1 W q (.int .i64 i) 3) (hr : B1 W r (.int .i64 y) 24) (h : R (.returned (.tuple #[.slice A n c, .int .i64 i, .int .i64 y])) W) :
    bodyPostD Tryd.prog Tryd.f12 R Exit.ret { tmps := #[a0, a1, .pointer (some ⟨p, 0, none⟩), .pointer (some ⟨q, 0, none⟩), .pointer (some ⟨r, 0, none⟩), a5, a6, a7, a8, a9, a10, a11, a12], defers := [] } W := by
  have c0 := hp.cell
  have c1 := hq.cell
  have c2 := hr.cell
  simp [bodyPostD, Leaves, results, Tryd.results12, go_sem, c0, c1, c2]
  exact h

set_option maxRecDepth 100000 in
set_option maxHeartbeats 2000000 in
theorem lexP_any (s : List UInt8) (hs : s.length ≤ maxLen) (w : World) (hK : KOK w) : Calls Tryd.prog 12 #[.string ⟨s.toArray⟩] w (LexP w s) := by
  have hmf : ∀ (fn : Fn) (first cap : Array Value) (w : World), (Instr.makeFunc fn first cap).run Tryd.prog w = .ok (.func fn first cap) w := fun _ _ _ _ => rfl
  unfold maxLen at hs
  by_cases hlong : 65536 < s.length
  · have HE := Lib.hid (lexOut_long hlong)
    have e1 : (65536 : Int) < (s.length : Int) := by omega
    have HBW : Hid (∀ o1 o2 o3, Below w.heap.size w (((w.alloc o1).alloc o2).alloc o3)) := fun o1 o2 o3 => (((Below.refl _ _).alloc (Nat.le_refl _) o1).alloc (by simp) o2).alloc (by simp; omega) o3
    go_enter_defers Tryd.func12, Tryd.ntmps12
    go_wp2_with fail
    refine door0 (heap_alloc_new3 w _ _ _ _ _ _).1 (heap_alloc_new3 w _ _ _ _ _ _).2.1 (heap_alloc_new3 w _ _ _ _ _ _).2.2 ?_
    unfold LexP
    rw [HE.out]
    exact ⟨none, 0, 0, rfl, RdE.nil _ _ _, Nat.le_refl _, by unfold maxLen; omega, HBW.out _ _ _⟩
  have e1 : ¬ (65536 : Int) < (s.length : Int) := by omega
  have hs6 : s.length ≤ 65536 := by omega
  obtain ⟨P, hP⟩ : ∃ P, P = w.heap.size := ⟨_, rfl⟩
  obtain ⟨X, hX⟩ : ∃ X : World, X = (((w.alloc (.cells #[.slice none 0 0] 23)).alloc (.cells #[.int .i64 0] 3)).alloc (.cells #[.int .i64 0] 24)).alloc (.cells #[.string ⟨s.toArray⟩, .int .i64 0] 45) := ⟨_, rfl⟩
  have hXw : Below P w X := by rw [hX, hP]; exact ((((Below.refl _ _).alloc (Nat.le_refl _) _).alloc (by simp) _).alloc (by simp; omega) _).alloc (by simp; omega) _
  have hX0 : B1 X P (.slice none 0 0) 23 := by
    rw [hX, hP]; unfold B1
    rw [heap_alloc_old _ _ (by simp; omega), heap_alloc_old _ _ (by simp; omega), heap_alloc_old _ _ (by simp)]
    exact heap_alloc_new w _
  have hX1 : B1 X (P + 1) (.int .i64 0) 3 := by
    rw [hX, hP]; unfold B1
    rw [heap_alloc_old _ _ (by simp), heap_alloc_old _ _ (by simp)]
    have := heap_alloc_new (w.alloc (.cells #[.slice none 0 0] 23)) (.cells #[.int .i64 0] 3)
    simpa using this
  have hX2 : B1 X (P + 1 + 1) (.int .i64 0) 24 := by
    rw [hX, hP]; unfold B1
    rw [heap_alloc_old _ _ (by simp)]
    have := heap_alloc_new ((w.alloc (.cells #[.slice none 0 0] 23)).alloc (.cells #[.int .i64 0] 3)) (.cells #[.int .i64 0] 24)
    simpa using this
  have hX3 : Scn X (P + 1 + 1 + 1) s 0 := by
    rw [hX, hP]; unfold Scn
    have := heap_alloc_new (((w.alloc (.cells #[.slice none 0 0] 23)).alloc (.cells #[.int .i64 0] 3)).alloc (.cells #[.int .i64 0] 24)) (.cells #[.string ⟨s.toArray⟩, .int .i64 0] 45)
    simpa using this
  have hXz : X.heap.size = P + 4 := by rw [hX, hP]; simp
  have hP2 : 2 < P := by rw [hP]; exact hK.pos
  have HTC := Lib.hid (tokens_any (P + 1 + 1 + 1) s X hX3 hs6 (hK.below hXw (by omega)) (by omega))
  have HX := Lib.hid hX
  have HXW := Lib.hid hXw
  have HX0 := Lib.hid hX0
  have HX1 := Lib.hid hX1
  have HX2 := Lib.hid hX2
  have HXZ := Lib.hid hXz
  have HP := Lib.hid hP
  clear hX hXw hX0 hX1 hX2 hX3 hXz hK hP
  go_enter_defers Tryd.func12, Tryd.ntmps12
  go_wp2_with fail
  rw [← HX.out, ← HP.out]
  refine HTC.out.mono ?_
  rintro e U ⟨htU, ⟨l, A, n, cap, hl, rfl, ho, hll⟩ | ⟨q, hl, rfl⟩⟩
  · have HE := Lib.hid (lexOut_ok hs6 hl)
    have HU0 := Lib.hid (HX0.out.turn htU (by omega))
    have HU1 := Lib.hid (HX1.out.turn htU (by omega))
    have HU2 := Lib.hid (HX2.out.turn htU (by omega))
    have hbU : Below P w U := HXW.out.trans (htU.below (B := P) (by omega) (by rw [HXZ.out]; omega))
    have HBF : Hid (Below P w (((U.setCell ⟨P, 0, none⟩ (.slice A n cap)).setCell ⟨P + 1, 0, none⟩ (.int .i64 0)).setCell ⟨P + 1 + 1, 0, none⟩ (.int .i64 0))) :=
      ((hbU.setCell (p := ⟨P, 0, none⟩) (Nat.le_refl _) _).setCell (p := ⟨P + 1, 0, none⟩) (by show P ≤ P + 1; omega) _).setCell (p := ⟨P + 1 + 1, 0, none⟩) (by show P ≤ P + 1 + 1; omega) _
    have hoF : OwnsN (((U.setCell ⟨P, 0, none⟩ (.slice A n cap)).setCell ⟨P + 1, 0, none⟩ (.int .i64 0)).setCell ⟨P + 1 + 1, 0, none⟩ (.int .i64 0)) X.heap.size 35 4 A n cap (flatE tkV l) :=
      ((ho.far (k := P) (o := 0) (v := .slice A n cap) (by rw [HXZ.out]; omega)).far (k := P + 1) (o := 0) (v := .int .i64 0) (by rw [HXZ.out]; omega)).far (k := P + 1 + 1) (o := 0) (v := .int .i64 0) (by rw [HXZ.out]; omega)
    have HRF := Lib.hid (hoF.rde tkV_len (by omega))
    have c0 := HU0.out.cell
    have c1 := HU1.out.cell
    have c2 := HU2.out.cell
    have f0 := HU0.out.frozen
    have f1 := HU1.out.frozen
    have f2 := HU2.out.frozen
    have HD0 := Lib.hid (((HU0.out.set (.slice A n cap)).far (k := P + 1) (o := 0) (u := .int .i64 0) (by omega)).far (k := P + 1 + 1) (o := 0) (u := .int .i64 0) (by omega))
    have HD1 := Lib.hid (((HU1.out.far (k := P) (o := 0) (u := .slice A n cap) (by omega)).set (.int .i64 0)).far (k := P + 1 + 1) (o := 0) (u := .int .i64 0) (by omega))
    have HD2 := Lib.hid (((HU2.out.far (k := P) (o := 0) (u := .slice A n cap) (by omega)).far (k := P + 1) (o := 0) (u := .int .i64 0) (by omega)).set (.int .i64 0))
    clear htU hl ho hll hbU hoF
    go_wp2_with fail
    refine leaves_cons (f := 24) (args := #[.pointer (some ⟨P, 0, none⟩), .pointer (some ⟨P + 1, 0, none⟩), .pointer (some ⟨P + 1 + 1, 0, none⟩)]) (by simp) (by simp [go_sem]) ?_
    refine (catch_idle P (P + 1) (P + 1 + 1) _).mono ?_
    rintro e u' w'' ⟨rfl, rfl, rfl⟩
    refine door HD0.out HD1.out HD2.out ?_
    unfold LexP
    rw [HE.out, ← HP.out]
    exact ⟨A, n, cap, rfl, HRF.out.1, HRF.out.2.1, HRF.out.2.2, HBF.out⟩
  · have HE := Lib.hid (lexOut_bad hs6 hl)
    have HU0 := Lib.hid (HX0.out.turn htU (by omega))
    have HU1 := Lib.hid (HX1.out.turn htU (by omega))
    have HU2 := Lib.hid (HX2.out.turn htU (by omega))
    have hbU : Below P w U := HXW.out.trans (htU.below (B := P) (by omega) (by rw [HXZ.out]; omega))
    have HBF : Hid (Below P w (((U.setCell ⟨P, 0, none⟩ (.slice none 0 0)).setCell ⟨P + 1, 0, none⟩ (.int .i64 q)).setCell ⟨P + 1 + 1, 0, none⟩ (.int .i64 50))) :=
      ((hbU.setCell (p := ⟨P, 0, none⟩) (Nat.le_refl _) _).setCell (p := ⟨P + 1, 0, none⟩) (by show P ≤ P + 1; omega) _).setCell (p := ⟨P + 1 + 1, 0, none⟩) (by show P ≤ P + 1 + 1; omega) _
    have HD0 := Lib.hid (((HU0.out.set (.slice none 0 0)).far (k := P + 1) (o := 0) (u := .int .i64 q) (by omega)).far (k := P + 1 + 1) (o := 0) (u := .int .i64 50) (by omega))
    have HD1 := Lib.hid (((HU1.out.far (k := P) (o := 0) (u := .slice none 0 0) (by omega)).set (.int .i64 q)).far (k := P + 1 + 1) (o := 0) (u := .int .i64 50) (by omega))
    have HD2 := Lib.hid (((HU2.out.far (k := P) (o := 0) (u := .slice none 0 0) (by omega)).far (k := P + 1) (o := 0) (u := .int .i64 q) (by omega)).set (.int .i64 50))
    refine leaves_cons (f := 24) (args := #[.pointer (some ⟨P, 0, none⟩), .pointer (some ⟨P + 1, 0, none⟩), .pointer (some ⟨P + 1 + 1, 0, none⟩)]) (by simp) (by simp [go_sem]) ?_
    refine (catch_panicking P (P + 1) (P + 1 + 1) q _ _ _ _ U HU0.out HU1.out HU2.out (by omega) (by omega) (by omega)).mono ?_
    have c0 := HD0.out.cell
    have c1 := HD1.out.cell
    have c2 := HD2.out.cell
    rintro e u' w'' ⟨rfl, rfl, rfl⟩
    simp [Leaves, settle, results, Tryd.results12, go_sem, c0, c1, c2]
    unfold LexP
    rw [HE.out, ← HP.out]
    exact ⟨none, 0, 0, rfl, RdE.nil _ _ _, Nat.le_refl _, by unfold maxLen; omega, HBF.out⟩
end Go.Proofs.YtdllceggjjopgaaDoor
