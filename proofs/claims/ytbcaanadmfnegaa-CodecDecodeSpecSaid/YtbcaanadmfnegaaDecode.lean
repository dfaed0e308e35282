/- Contract of Decode. -/
import Derived.Test.YtbcaanadmfnegaaVal
import Derived.Defers
import Derived.Recover
namespace Go.Proofs.Ytbcaanadmfnegaa
open Go.RowKit

set_option maxRecDepth 100000 in
set_option maxHeartbeats 1000000 in
theorem catch_panicking (p q : Nat) (a b y : Int) (s cur : Value) (u : TypeId) (pv : Value) (older : List PanicEntry) (w : World) (hp : VB w p a b s cur) (hq : w.cell? ⟨q, 0, none⟩ = some (.int .i64 y)) (hz : w.frozen? ⟨q, 0, none⟩ = false) (hne : p ≠ q) :
    CallsD Try.prog 32 #[.pointer (some ⟨p, 0, none⟩), .pointer (some ⟨q, 0, none⟩)] (.panicking ({ v := .iface u pv, recovered := false } :: older)) w fun e u' w' =>
      e = .returned (.tuple #[]) ∧ u' = .panicking ({ v := .iface u pv, recovered := true } :: older) ∧ w' = ((((w.setCell ⟨p, 0, none⟩ (.int .i64 0)).setCell ⟨p, 1, none⟩ (.int .i64 0)).setCell ⟨p, 2, none⟩ (.string ⟨#[]⟩)).setCell ⟨p, 3, none⟩ (.slice none 0 0)).setCell ⟨q, 0, none⟩ (.int .i64 10) := by
  have b0 := hp.cell 0
  have b1 := hp.cell 1
  have b2 := hp.cell 2
  have b3 := hp.cell 3
  have q0 := hp.frozen 0
  have q1 := hp.frozen 1
  have q2 := hp.frozen 2
  have q3 := hp.frozen 3
  clear hp
  have hnn : ∀ (w : World) (u : TypeId) (x : Value), (binOp .neq 20 (.iface u x) .nilIface).run Try.prog w = .ok (.bool true) w := fun w u x => rfl
  refine callsD_of_wpS Try.func32 rfl fun c₀ cs hu => ?_
  apply wpS_seq
  apply wpS_region
  simp [wpOpsS, go_sem, recoverD, hu, Try.ntmps32, Exit.thenS]
  refine wpS_cond (t := true) (by simp [Act.eval, Array.replicate]) ?_
  simp only [if_true]
  apply wpS_region
  simp [wpOpsS, go_sem, b0, b1, b2, b3, q0, q1, q2, q3, hq, hz, bodyPostS, results, Try.results32]

set_option maxRecDepth 100000 in
set_option maxHeartbeats 1000000 in
theorem catch_idle (p q : Nat) (w : World) :
    CallsD Try.prog 32 #[.pointer (some ⟨p, 0, none⟩), .pointer (some ⟨q, 0, none⟩)] .returning w fun e u' w' => e = .returned (.tuple #[]) ∧ u' = .returning ∧ w' = w := by
  refine callsD_of_wpS Try.func32 rfl fun c₀ cs hu => ?_
  apply wpS_seq
  apply wpS_region
  simp [wpOpsS, go_sem, recoverD, hu, Try.ntmps32, Exit.thenS]
  refine wpS_cond (t := false) (by simp [Act.eval, Array.replicate]) ?_
  simp only [Bool.false_eq_true, if_false]
  refine wpS_of_wp (wp_skip ?_)
  cases c₀
  simp_all [bodyPostS, results, Try.results32]

def dec (bs : List UInt8) : Option V := match rval 16 bs with
  | some (v, []) => some v
  | _ => none

def DecOut (w : World) (bs : List UInt8) (e : Ending) (w' : World) : Prop :=
  Below w.heap.size w w' ∧ (match dec bs with
    | some (.mk k m s l) => ∃ A cap, e = .returned (.tuple #[.agg #[.int .i64 k, .int .i64 m, .string s, .slice A l.length cap], .int .i64 0]) ∧ RdI w' w.heap.size w'.heap.size (.mk k m s l) (.agg #[.int .i64 k, .int .i64 m, .string s, .slice A l.length cap])
    | none => e = .returned (.tuple #[.agg #[.int .i64 0, .int .i64 0, .string ⟨#[]⟩, .slice none 0 0], .int .i64 10]))

@[reducible] def box4 (w : World) (g : Nat) (k m : Int) (s : ByteArray) (x : Value) : World := (((w.setCell ⟨g, 0, none⟩ (.int .i64 k)).setCell ⟨g, 1, none⟩ (.int .i64 m)).setCell ⟨g, 2, none⟩ (.string s)).setCell ⟨g, 3, none⟩ x
def EB (w : World) (g : Nat) (y : Int) : Prop := w.heap[g]? = some (.cells #[.int .i64 y] 28 (0, 0))
theorem EB.cell {w : World} {g : Nat} {y : Int} (h : EB w g y) : w.cell? ⟨g, 0, none⟩ = some (.int .i64 y) := cell_of_row w g 0 _ _ _ h
theorem EB.frozen {w : World} {g : Nat} {y : Int} (h : EB w g y) : w.frozen? ⟨g, 0, none⟩ = false := by
  unfold EB at h
  simp [World.frozen?, h]
theorem EB.lt {w : World} {g : Nat} {y : Int} (h : EB w g y) : g < w.heap.size := World.block_lt_of_cell? w _ h.cell
theorem EB.turn {w w' : World} {g r : Nat} {y : Int} (h : EB w g y) (ht : Turn w w' r) (hne : g ≠ r) : EB w' g y := (ht.block g h.lt (by intro e; injection e with e; exact hne e)).trans h
theorem VB.turn {w w' : World} {g r : Nat} {a b : Int} {s cur : Value} (h : VB w g a b s cur) (ht : Turn w w' r) (hne : g ≠ r) : VB w' g a b s cur := (ht.block g h.lt (by intro e; injection e with e; exact hne e)).trans h
theorem VB.box4 {w : World} {g : Nat} {a b : Int} {s cur : Value} (h : VB w g a b s cur) (k m : Int) (t : ByteArray) (x : Value) : VB (box4 w g k m t x) g k m (.string t) x := by
  unfold VB at h ⊢
  simp [World.setCell, Array.getElem?_modify, h]
theorem EB.box4 {w : World} {g q : Nat} {y : Int} (h : EB w q y) (hne : q ≠ g) (k m : Int) (t : ByteArray) (x : Value) : EB (box4 w g k m t x) q y :=
  ((((Below.heap_setCell _ _ _ q hne).trans (Below.heap_setCell _ _ _ q hne)).trans (Below.heap_setCell _ _ _ q hne)).trans (Below.heap_setCell _ _ _ q hne)).trans h
theorem Rdr.box4 {w : World} {r n c g : Nat} {A : Option Addr} {o : Int} (h : Rdr w r A n c o) (hne : r ≠ g) (k m : Int) (t : ByteArray) (x : Value) : Rdr (box4 w g k m t x) r A n c o :=
  (((h.set (by exact hne) _).set (by exact hne) _).set (by exact hne) _).set (by exact hne) _
theorem below_box4 {B : Nat} {w w' : World} {g : Nat} (h : Below B w w') (hg : B ≤ g) (k m : Int) (t : ByteArray) (x : Value) : Below B w (box4 w' g k m t x) :=
  (((h.setCell (by exact hg) _).setCell (by exact hg) _).setCell (by exact hg) _).setCell (by exact hg) _
theorem cell_box4 {w : World} {g : Nat} (k m : Int) (t : ByteArray) (x : Value) {p : Addr} (hp : p.block ≠ g) : (box4 w g k m t x).cell? p = w.cell? p :=
  World.cell?_of_block (w := w) (((((Below.heap_setCell _ _ _ _ hp).trans (Below.heap_setCell _ _ _ _ hp)).trans (Below.heap_setCell _ _ _ _ hp)).trans (Below.heap_setCell _ _ _ _ hp)))

theorem dec_bad {w w3 : World} {bs : List UInt8} (hb : Below w.heap.size w w3) (hd : dec bs = none) :
    DecOut w bs (.returned (.tuple #[.agg #[.int .i64 0, .int .i64 0, .string ⟨#[]⟩, .slice none 0 0], .int .i64 10])) ((box4 w3 w.heap.size 0 0 ⟨#[]⟩ (.slice none 0 0)).setCell ⟨w.heap.size + 1, 0, none⟩ (.int .i64 10)) :=
  ⟨(below_box4 hb (Nat.le_refl _) _ _ _ _).setCell (by show w.heap.size ≤ w.heap.size + 1; omega) _, by rw [hd]⟩
theorem dec_good {w w3 : World} {bs : List UInt8} {k m : Int} {s : ByteArray} {l : List V} {A : Option Addr} {cap lo : Nat} (hb : Below w.heap.size w w3) (hd : dec bs = some (.mk k m s l)) (hlo : w.heap.size + 1 < lo) (hri : RdI w3 lo w3.heap.size (.mk k m s l) (.agg #[.int .i64 k, .int .i64 m, .string s, .slice A l.length cap])) :
    DecOut w bs (.returned (.tuple #[.agg #[.int .i64 k, .int .i64 m, .string s, .slice A l.length cap], .int .i64 0])) ((box4 (box4 w3 w.heap.size k m s (.slice A l.length cap)) w.heap.size k m s (.slice A l.length cap)).setCell ⟨w.heap.size + 1, 0, none⟩ (.int .i64 0)) := by
  refine ⟨(below_box4 (below_box4 hb (Nat.le_refl _) _ _ _ _) (Nat.le_refl _) _ _ _ _).setCell (by show w.heap.size ≤ w.heap.size + 1; omega) _, ?_⟩
  rw [hd]
  refine ⟨A, cap, rfl, hri.keep (by omega) (by simp [World.setCell]) fun p hp1 hp2 => ?_⟩
  rw [World.cell?_setCell_other _ _ _ _ (by intro e; rw [← e] at hp1; simp at hp1; omega), cell_box4 _ _ _ _ (by omega), cell_box4 _ _ _ _ (by omega)]

theorem EB.set {w : World} {g : Nat} {y : Int} (h : EB w g y) (z : Int) : EB (w.setCell ⟨g, 0, none⟩ (.int .i64 z)) g z := by
  unfold EB at h ⊢
  simp [World.setCell, Array.getElem?_modify, h]
set_option maxRecDepth 100000 in
theorem door {W : World} {g q : Nat} {k m y : Int} {s : ByteArray} {A : Option Addr} {n c : Nat} {R : Ending → World → Prop} {a0 a1 a4 a5 a6 a7 a8 a9 a10 : Value} (hv : VB W g k m (.string s) (.slice A n c)) (he : EB W q y) (h : R (.returned (.tuple #[.agg #[.int .i64 k, .int .i64 m, .string s, .slice A n c], .int .i64 y])) W) :
    Leaves Try.prog Try.f18 #[a0, a1, .pointer (some ⟨g, 0, none⟩), .pointer (some ⟨q, 0, none⟩), a4, a5, a6, a7, a8, a9, a10] R [] .returning W := by
  have c0 := hv.cell 0
  have c1 := hv.cell 1
  have c2 := hv.cell 2
  have c3 := hv.cell 3
  have d0 := he.cell
  simp [Leaves, results, Try.results18, go_sem, c0, c1, c2, c3, d0]
  exact h

set_option maxRecDepth 100000 in
set_option maxHeartbeats 2000000 in
theorem decode_any (n c : Nat) (A : Option Addr) (bs : List UInt8) (w : World) (hb : RdB w w.heap.size A n bs) (hn : n ≤ 1099511627776) (hc : n ≤ c) :
    Calls Try.prog 18 #[.slice A n c] w (DecOut w bs) := by
  have hmf : ∀ (fn : Fn) (first cap : Array Value) (w : World), (Instr.makeFunc fn first cap).run Try.prog w = .ok (.func fn first cap) w := fun _ _ _ _ => rfl
  obtain ⟨X, hX⟩ : ∃ X : World, X = ((w.alloc (.cells #[.int .i64 0, .int .i64 0, .string ⟨#[]⟩, .slice none 0 0] 24)).alloc (.cells #[.int .i64 0] 28)).alloc (.cells #[.slice A n c, .int .i64 0] 53) := ⟨_, rfl⟩
  have hXw : Below w.heap.size w X := by rw [hX]; exact (((Below.refl _ _).alloc (Nat.le_refl _) _).alloc (by simp) _).alloc (by simp; omega) _
  have hXr : Rdr X (w.heap.size + 1 + 1) A n c (16 - ((16 : Nat) : Int)) := by
    rw [hX]; unfold Rdr
    have := heap_alloc_new ((w.alloc (.cells #[.int .i64 0, .int .i64 0, .string ⟨#[]⟩, .slice none 0 0] 24)).alloc (.cells #[.int .i64 0] 28)) (.cells #[.slice A n c, .int .i64 0] 53)
    simpa using this
  have hXe : EB X (w.heap.size + 1) 0 := by
    rw [hX]; unfold EB
    rw [Below.heap_alloc _ _ _ (by simp)]
    have := heap_alloc_new (w.alloc (.cells #[.int .i64 0, .int .i64 0, .string ⟨#[]⟩, .slice none 0 0] 24)) (.cells #[.int .i64 0] 28)
    simpa using this
  have hXv : VB X w.heap.size 0 0 (.string ⟨#[]⟩) (.slice none 0 0) := by
    rw [hX]; unfold VB
    rw [Below.heap_alloc _ _ _ (by simp; omega), Below.heap_alloc _ _ _ (by simp)]
    have := heap_alloc_new w (.cells #[.int .i64 0, .int .i64 0, .string ⟨#[]⟩, .slice none 0 0] 24)
    simpa using this
  have hXz : X.heap.size = w.heap.size + 3 := by rw [hX]; simp
  have hXb : RdB X w.heap.size A n bs := hb.below hXw
  have HVC := Lib.hid (value_any 16 (Nat.le_refl _) (w.heap.size + 1 + 1) n c A w.heap.size bs X hXr hXb (by omega) hn hc)
  have HX := Lib.hid hX
  have HXW := Lib.hid hXw
  have HXE := Lib.hid hXe
  have HXV := Lib.hid hXv
  clear hX hXw hXr hXe hXv hXb hb
  go_enter_defers Try.func18, Try.ntmps18
  go_wp2_with fail
  rw [← HX.out]
  refine HVC.out.mono ?_
  rintro e w3 hm
  rcases ValOut.split0 hm with ⟨hfr, rfl, ht3⟩ | ⟨kv, mv, sv, lv, Av, cv, rest, A3, n3, hfr, rfl, ht3, hRI, m1, m2, m3⟩
  · have hd : dec bs = none := by rw [dec, hfr]
    have v3 := HXV.out.turn ht3 (by omega)
    have e3 := HXE.out.turn ht3 (by omega)
    have HF := Lib.hid (dec_bad (HXW.out.trans (ht3.below (B := w.heap.size) (by omega) (by omega))) hd)
    refine leaves_cons (f := 32) (args := #[.pointer (some ⟨w.heap.size, 0, none⟩), .pointer (some ⟨w.heap.size + 1, 0, none⟩)]) (by simp) (by simp [go_sem]) ?_
    refine (catch_panicking w.heap.size (w.heap.size + 1) 0 0 0 _ _ _ _ _ w3 v3 e3.cell e3.frozen (by omega)).mono ?_
    have c0 := v3.cell 0
    have c1 := v3.cell 1
    have c2 := v3.cell 2
    have c3 := v3.cell 3
    have d0 := e3.cell
    rintro e u' w'' ⟨rfl, rfl, rfl⟩
    clear hm v3 e3
    simp [Leaves, settle, results, Try.results18, go_sem, c0, c1, c2, c3, d0]
    exact HF.out
  · have v3 := HXV.out.turn ht3 (by omega)
    have e3 := HXE.out.turn ht3 (by omega)
    have V3 := Lib.hid v3
    have E3 := Lib.hid e3
    have v4 := v3.box4 kv mv sv (.slice Av lv.length cv)
    have e4 := e3.box4 (g := w.heap.size) (by omega) kv mv sv (.slice Av lv.length cv)
    have V4 := Lib.hid v4
    have E4 := Lib.hid e4
    have M4 := Lib.hid (m1.box4 (g := w.heap.size) (by omega) kv mv sv (.slice Av lv.length cv))
    have hw3 : Below w.heap.size w w3 := HXW.out.trans (ht3.below (B := w.heap.size) (by omega) (by omega))
    have HW3 := Lib.hid hw3
    have HRI := Lib.hid hRI
    have hn3 : n3 = rest.length := m2.1
    have hlo : w.heap.size + 1 < X.heap.size := by omega
    have c0 := v3.cell 0
    have c1 := v3.cell 1
    have c2 := v3.cell 2
    have c3 := v3.cell 3
    have q0 := v3.frozen 0
    have q1 := v3.frozen 1
    have q2 := v3.frozen 2
    have q3 := v3.frozen 3
    have d0 := e3.cell
    have d1 := e3.frozen
    clear hm v3 e3 v4 e4 hw3 hRI m1 m2 ht3
    have hnb : n3 ≤ 1099511627776 := by omega
    cases rest with
    | nil =>
      have hn4 : n3 = 0 := hn3
      subst hn4
      clear hn3
      have HD := Lib.hid (show dec bs = some (.mk kv mv sv lv) by rw [dec, hfr])
      clear hfr
      go_wp2_with fail
      refine (end_any _ _ _ _ _ _ M4.out hnb).mono ?_
      rintro e w5 ⟨rfl, rfl⟩
      go_wp2_with fail
      have HF := Lib.hid (dec_good HW3.out HD.out hlo HRI.out)
      refine leaves_cons (f := 32) (args := #[.pointer (some ⟨w.heap.size, 0, none⟩), .pointer (some ⟨w.heap.size + 1, 0, none⟩)]) (by simp) (by simp [go_sem]) ?_
      refine (catch_idle w.heap.size (w.heap.size + 1) _).mono ?_
      rintro e u' w'' ⟨rfl, rfl, rfl⟩
      exact door ((V4.out.box4 _ _ _ _).far (by show w.heap.size ≠ w.heap.size + 1; omega) _) ((E4.out.box4 (by omega) _ _ _ _).set _) HF.out
    | cons b r =>
      have hn4 : ¬ n3 = 0 := by simp at hn3; omega
      clear hn3
      have hd : dec bs = none := by rw [dec, hfr]
      have HF := Lib.hid (dec_bad (w3 := box4 w3 w.heap.size kv mv sv (.slice Av lv.length cv)) (below_box4 HW3.out (Nat.le_refl _) _ _ _ _) hd)
      clear hfr
      go_wp2_with fail
      refine (end_any _ _ _ _ _ _ M4.out hnb).mono ?_
      rintro e w5 ⟨rfl, rfl⟩
      rw [if_neg hn4]
      refine leaves_cons (f := 32) (args := #[.pointer (some ⟨w.heap.size, 0, none⟩), .pointer (some ⟨w.heap.size + 1, 0, none⟩)]) (by simp) (by simp [go_sem]) ?_
      refine (catch_panicking w.heap.size (w.heap.size + 1) _ _ 0 _ _ _ _ _ _ V4.out E4.out.cell E4.out.frozen (by omega)).mono ?_
      rintro e u' w'' ⟨rfl, rfl, rfl⟩
      exact door ((V4.out.box4 _ _ _ _).far (by show w.heap.size ≠ w.heap.size + 1; omega) _) ((E4.out.box4 (by omega) _ _ _ _).set _) HF.out
end Go.Proofs.Ytbcaanadmfnegaa
