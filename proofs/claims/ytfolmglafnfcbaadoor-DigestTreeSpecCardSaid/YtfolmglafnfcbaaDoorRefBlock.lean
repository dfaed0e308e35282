/- Contract of the reference's block. -/
import Derived.Test.YtfolmglafnfcbaaDoorWords
import Derived.Test.YtfolmglafnfcbaaDoorRounds
import Derived.Deep.WholeRow
import Derived.Deep.RegionHeld3
import Derived.Laws.CopyOwn
namespace Go.Proofs.YtfolmglafnfcbaaDoor
open Go.RowKit

section
variable {P : Program}
theorem wpList_build_to {ops : Array Oper} {rest : List Oper} {o : Oper} {a : Act} {w : World} {Q : Exit → Act → World → Prop} (hg : o.guard = none) (t : TypeId) (parts : Array (Nat × Operand)) (ho : o.op = .build t parts)
    (C : Array Value) (hC : P.built t (parts.map fun (i, x) => (i, a.eval x)).toList = some C) (h : wpList P ops Q rest (a.put o.dst (.agg C)) w) : wpList P ops Q (o :: rest) a w :=
  wpList_build hg t parts ho (by rw [hC]; rfl) (by rw [hC]; exact h)
end
theorem row_info {t : TypeId} {n : Nat} (l : List Int) (hl : l.length = n) (h : (Tryd.prog.info? t).map (·.size) = some n) : (Tryd.prog.info? t).map (·.size) = some (rowOf l).size := by rw [h, rowOf_size, hl]

set_option maxRecDepth 100000 in
set_option maxHeartbeats 1000000 in
theorem numbers_any (w : World) : Calls Tryd.prog 52 #[] w fun e w' => e = .returned (.agg (rowOf KL)) ∧ Below w.heap.size w w' := by
  have HI := Lib.hid (row_info (t := 69) (n := 64) KL KL_length (by kernel_rfl))
  go_enter Tryd.func52, Tryd.ntmps52
  go_wp2_with (first
    | (refine wpList_build_to rfl 69 _ rfl (rowOf KL) (by kernel_rfl) ?_)
    | (refine wpList_store_row rfl 69 _ _ rfl _ _ rfl rfl _ _ (heap_alloc_new _ _) HI.out (by rw [rowOf_size]; rfl) (rowOf_one _) ?_))
  rw [World.setRow_alloc_new]
  exact bodyPost_ret (results_cell_row rfl _ _ _ _ _ _ _ rfl (heap_alloc_new _ _) Tryd.underlying69 rfl HI.out) rfl ⟨rfl, (Below.refl _ _).alloc (Nat.le_refl _) _⟩

theorem heap_alloc3_new (w : World) (A B C : Obj) : (((w.alloc A).alloc B).alloc C).heap[w.heap.size + 1 + 1]? = some C := by
  have h := heap_alloc_new ((w.alloc A).alloc B) C
  simpa using h
theorem setRow_alloc3_new (w : World) (A B : Obj) (c c' : Array Value) (t : TypeId) : (((w.alloc A).alloc B).alloc (.cells c t)).setRow (w.heap.size + 1 + 1) c' = ((w.alloc A).alloc B).alloc (.cells c' t) := by
  have h := World.setRow_alloc_new ((w.alloc A).alloc B) c c' t
  simpa using h

/-- what holds of the world while the reference fills its words -/
structure RbW (w : World) (bs : List UInt8) (s : St) (t : Nat) (wr : World) : Prop where
  st : WRow wr w.heap.size 50 s.list
  res : WRow wr (w.heap.size + 1) 50 (List.replicate 8 0)
  ws : WRow wr (w.heap.size + 1 + 1) 69 (wsTo bs t)
  below : Below w.heap.size w wr
theorem RbW.drewN {w : World} {bs : List UInt8} {s : St} {t : Nat} {wr : World} (h : RbW w bs s t wr) (k : Nat) : RbW w bs s t (wr.drewN k) :=
  ⟨h.st.drewN, h.res.drewN, h.ws.drewN, below_drewN h.below k⟩
theorem WRow.set_other {w : World} {g g' i : Nat} {ty : TypeId} {l : List Int} {v : Value} (h : WRow w g ty l) (hg : g ≠ g') : WRow (w.setCell ⟨g', i, none⟩ v) g ty l := by
  unfold WRow at h ⊢
  rw [heap_setCell_other w _ _ _ hg]
  exact h
theorem RbW.set {w : World} {bs : List UInt8} {s : St} {t : Nat} {wr : World} (h : RbW w bs s t wr) : RbW w bs s (t + 1) (wr.setCell ⟨w.heap.size + 1 + 1, t, none⟩ (.int .u32 (wval bs t (wsTo bs t)))) :=
  ⟨h.st.set_other (by omega), h.res.set_other (by omega), h.ws.set t _, h.below.setCell (by show w.heap.size ≤ w.heap.size + 1 + 1; omega) _⟩

theorem RbW.set_to {w : World} {bs : List UInt8} {s : St} {t : Nat} {wr : World} {x : Int} (h : RbW w bs s t wr) (hx : wval bs t (wsTo bs t) = x) : RbW w bs s (t + 1) (wr.setCell ⟨w.heap.size + 1 + 1, t, none⟩ (.int .u32 x)) := by
  rw [← hx]; exact h.set
theorem mod3 (z a v b : Int) : (((z + a) % 4294967296 + v) % 4294967296 + b) % 4294967296 = (z + a + v + b) % 4294967296 := by omega
/-- what holds of the world when the words are there -/
structure RbB (w : World) (bs : List UInt8) (s : St) (wr : World) : Prop where
  st : WRow wr w.heap.size 50 s.list
  res : WRow wr (w.heap.size + 1) 50 (List.replicate 8 0)
  ws : WRow wr (w.heap.size + 1 + 1) 69 (wsTo bs 64)
  below : Below w.heap.size w wr
theorem RbW.b {w : World} {bs : List UInt8} {s : St} {wr : World} (h : RbW w bs s 64 wr) : RbB w bs s wr := ⟨h.st, h.res, h.ws, h.below⟩
theorem RbB.next {w : World} {bs : List UInt8} {s : St} {wr w' : World} (h : RbB w bs s wr) (hb : Below wr.heap.size wr w') : RbB w bs s w' :=
  ⟨h.st.below hb h.st.lt, h.res.below hb h.res.lt, h.ws.below hb h.ws.lt, h.below.trans (hb.mono h.below.size)⟩
theorem RbB.drewN {w : World} {bs : List UInt8} {s : St} {wr : World} (h : RbB w bs s wr) (k : Nat) : RbB w bs s (wr.drewN k) :=
  ⟨h.st.drewN, h.res.drewN, h.ws.drewN, below_drewN h.below k⟩

set_option maxRecDepth 100000 in
set_option maxHeartbeats 4000000 in
theorem refblock_any (b o n c : Nat) (bs : List UInt8) (s : St) (w : World) (hn : 64 ≤ n) (hc : n ≤ c) (hc63 : c ≤ maxLen) (hr : RdB w w.heap.size (some ⟨b, o, none⟩) n bs) (hu : s.U) :
    Calls Tryd.prog 33 #[.agg (rowOf s.list), .slice (some ⟨b, o, none⟩) n c] w fun e w' => e = .returned (.agg (rowOf (blockSt bs s).list)) ∧ Below w.heap.size w w' := by
  have HR := Lib.hid hr
  clear hr
  unfold maxLen at hc63
  have HI := Lib.hid (row_info (t := 69) (n := 64) (wsTo bs 0) (wsTo_length bs 0) (by kernel_rfl))
  go_enter Tryd.func33, Tryd.ntmps33
  go_wp2_with (first
    | (refine wpList_build_to rfl 69 _ rfl (rowOf (wsTo bs 0)) (by kernel_rfl) ?_)
    | (refine wpList_store_row rfl 69 _ _ rfl _ _ rfl rfl _ _ (heap_alloc3_new _ _ _ _) HI.out (by rw [rowOf_size]; rfl) (rowOf_one _) ?_; rw [setRow_alloc3_new]))
  clear HI
  go_loopw [6] (fun i wr => ∃ t : Nat, t ≤ 16 ∧ i = .int .i64 t ∧ Hid (RbW w bs s t wr)) (fun i _ => 16 - (intOf i).toNat)
  case atStart =>
    refine ⟨0, by omega, rfl, ?_⟩
    refine ⟨?_, ?_, heap_alloc3_new _ _ _ _, ?_⟩
    · exact (heap_alloc_old _ _ (by simp; omega)).trans (heap_alloc2_old _ _ _)
    · exact (heap_alloc_old _ _ (by simp)).trans (heap_alloc2_new _ _ _)
    · exact (((Below.refl _ _).alloc (Nat.le_refl _) _).alloc (by simp) _).alloc (by simp; omega) _
  case round =>
    obtain ⟨t, ht, rfl, hW⟩ := hrel
    by_cases hlt : t < 16
    · have hcc : ¬ c = 4 * t := by omega
      obtain ⟨q0, q1, q2, q3⟩ := RdB.four (HR.out.below hW.out.below (Nat.le_refl _)) (4 * t) (by omega)
      have c0 := hW.out.ws.cell (i := t) (by rw [wsTo_length]; omega)
      have f0 := hW.out.ws.frozen t
      go_wp2_with fail
      refine (refword_any b (o + 4 * t) _ _ _ _ _ _ _ (by omega) q0 q1 q2 q3).mono ?_
      rintro e w' ⟨rfl, k, rfl⟩
      clear q0 q1 q2 q3
      go_wp2_with fail
      go_roundw
      case rel =>
        refine ⟨t + 1, by omega, by go_num, ?_⟩
        have e : wval bs t (wsTo bs t) = wordI (byteAt bs (4 * t)) (byteAt bs (4 * t + 1)) (byteAt bs (4 * t + 2)) (byteAt bs (4 * t + 3)) := by
          unfold wval
          rw [if_pos hlt, Nat.mul_comm t 4]
        unfold Hid
        rw [← e]
        exact (hW.out.drewN k).set
      case measure => simp [intOf]; omega
    · have hW16 : Hid (RbW w bs s 16 wr) := by
        have e : t = 16 := by omega
        unfold Hid
        rw [← e]
        exact hW.out
      go_wp2_with fail
      clear ht hlt hW
      go_loopw [7] (fun i wr => ∃ t : Nat, 16 ≤ t ∧ t ≤ 64 ∧ i = .int .i64 t ∧ Hid (RbW w bs s t wr)) (fun i _ => 64 - (intOf i).toNat)
      case atStart => exact ⟨16, by omega, by omega, rfl, hW16⟩
      case round =>
        rename Nat => t0
        obtain ⟨t, h16, h64, rfl, hW2⟩ := hrel
        clear hW16
        by_cases hlt2 : t < 64
        · obtain ⟨x, hx⟩ : ∃ x, x = (wsTo bs t).getD (t - 15) 0 := ⟨_, rfl⟩
          obtain ⟨y, hy⟩ : ∃ x, x = (wsTo bs t).getD (t - 2) 0 := ⟨_, rfl⟩
          obtain ⟨z, hz⟩ : ∃ x, x = (wsTo bs t).getD (t - 16) 0 := ⟨_, rfl⟩
          obtain ⟨v, hv⟩ : ∃ x, x = (wsTo bs t).getD (t - 7) 0 := ⟨_, rfl⟩
          obtain ⟨v0, hv0⟩ : ∃ x, x = (wsTo bs t).getD t 0 := ⟨_, rfl⟩
          have c15 := hW2.out.ws.cell (i := t - 15) (by rw [wsTo_length]; omega)
          have c2 := hW2.out.ws.cell (i := t - 2) (by rw [wsTo_length]; omega)
          have c16 := hW2.out.ws.cell (i := t - 16) (by rw [wsTo_length]; omega)
          have c7 := hW2.out.ws.cell (i := t - 7) (by rw [wsTo_length]; omega)
          have c0 := hW2.out.ws.cell (i := t) (by rw [wsTo_length]; omega)
          have f0 := hW2.out.ws.frozen t
          rw [← hx] at c15; rw [← hy] at c2; rw [← hz] at c16; rw [← hv] at c7; rw [← hv0] at c0
          have ux : U32 x := by rw [hx]; exact (wsTo_u32 bs t).getD _
          have uy : U32 y := by rw [hy]; exact (wsTo_u32 bs t).getD _
          obtain ⟨x0, x1⟩ := ux
          obtain ⟨y0, y1⟩ := uy
          have e2 : wval bs t (wsTo bs t) = (((z + sg0 x) % 4294967296 + v) % 4294967296 + sg1 y) % 4294967296 := by
            simp only [wval]
            rw [if_neg (by omega), hx, hy, hz, hv, mod3]
          have HE := Lib.hid e2
          clear hx hy hz hv hv0 e2
          have p16 : (16 : Int) ≤ (t : Int) := by omega
          have p15 : (15 : Int) ≤ (t : Int) := by omega
          have p2 : (2 : Int) ≤ (t : Int) := by omega
          have p7 : (7 : Int) ≤ (t : Int) := by omega
          have p64 : (t : Int) < 64 := by omega
          go_wp2_with fail
          have e16 : IntKind.i64.wrap ((t : Int) - 16) = (t : Int) - 16 := IntWalk.i64_in _ (by omega)
          have e7 : IntKind.i64.wrap ((t : Int) - 7) = (t : Int) - 7 := IntWalk.i64_in _ (by omega)
          have n16 : ((t : Int) - 16).toNat = t - 16 := by omega
          have n7 : ((t : Int) - 7).toNat = t - 7 := by omega
          have q16 : (t : Int) - 16 < 64 := by omega
          have q7 : (t : Int) - 7 < 64 := by omega
          go_region_held3 (fun w' => w'.cell? ⟨w.heap.size + 1 + 1, t - 16, none⟩ = some (.int .u32 z) ∧ w'.cell? ⟨w.heap.size + 1 + 1, t - 7, none⟩ = some (.int .u32 v))
            (first | assumption | exact ⟨c16, c7⟩ | exact ⟨(World.cell?_setCell_other _ _ _ _ (by simp)).trans c16, (World.cell?_setCell_other _ _ _ _ (by simp)).trans c7⟩)
            (first | (go_at_call 51; refine (refror_any _ _ _ (by assumption) (by assumption) (by omega) (by omega)).mono ?_; rintro e w' ⟨rfl, k, rfl⟩))
          go_wp2_with fail
          go_roundw
          case rel =>
            refine ⟨t + 1, by omega, by omega, by go_num, ?_⟩
            exact RbW.set_to (hW2.out.drewN _) HE.out
          case measure => simp [intOf]; omega
        · have hW64 : Hid (RbW w bs s 64 wr) := by
            have e : t = 64 := by omega
            have e2 : RbW w bs s t wr = RbW w bs s 64 wr := by rw [e]
            unfold Hid
            rw [← e2]
            exact hW2.out
          clear h16 h64 hW2
          go_wp2_with fail
          refine (numbers_any _).mono ?_
          rintro e w1 ⟨rfl, hb1⟩
          have HB1 : Hid (RbB w bs s w1) := hW64.out.b.next hb1
          have hz1 : w.heap.size + 3 ≤ w1.heap.size := by
            have h1 := hW64.out.ws.lt
            have h2 := hb1.size
            omega
          clear hb1 hW64
          have HI := Lib.hid (row_info (t := 69) (n := 64) KL KL_length (by kernel_rfl))
          obtain ⟨g, hg⟩ : ∃ g, g = w1.heap.size := ⟨_, rfl⟩
          go_wp2_with (refine wpList_store_row rfl 69 _ _ rfl _ _ rfl rfl _ _ (heap_alloc_new _ _) HI.out (by rw [rowOf_size]; rfl) (rowOf_one _) ?_; rw [World.setRow_alloc_new])
          obtain ⟨w2, hw2⟩ : ∃ w2, w2 = w1.alloc (.cells (rowOf KL) 69) := ⟨_, rfl⟩
          have hn2 : Below w1.heap.size w1 w2 := by rw [hw2]; exact (Below.refl _ _).alloc (Nat.le_refl _) _
          have HB2 : Hid (RbB w bs s w2) := HB1.out.next hn2
          have HK2 : Hid (WRow w2 g 69 KL) := by unfold Hid; rw [hw2, hg]; exact heap_alloc_new w1 _
          rw [← hw2, ← hg]
          clear hw2 hn2 HB1 HI hg
          obtain ⟨A, hA⟩ : ∃ x, x = s.a := ⟨_, rfl⟩
          obtain ⟨B, hB⟩ : ∃ x, x = s.b := ⟨_, rfl⟩
          obtain ⟨C, hC⟩ : ∃ x, x = s.c := ⟨_, rfl⟩
          obtain ⟨D, hD⟩ : ∃ x, x = s.d := ⟨_, rfl⟩
          obtain ⟨E, hE⟩ : ∃ x, x = s.e := ⟨_, rfl⟩
          obtain ⟨F, hF⟩ : ∃ x, x = s.f := ⟨_, rfl⟩
          obtain ⟨G, hG⟩ : ∃ x, x = s.g := ⟨_, rfl⟩
          obtain ⟨H, hH⟩ : ∃ x, x = s.h := ⟨_, rfl⟩
          have s0 : w2.cell? ⟨w.heap.size, 0, none⟩ = some (.int .u32 A) := by rw [hA]; exact HB2.out.st.cell (i := 0) (by simp [St.list])
          have s1 : w2.cell? ⟨w.heap.size, 1, none⟩ = some (.int .u32 B) := by rw [hB]; exact HB2.out.st.cell (i := 1) (by simp [St.list])
          have s2 : w2.cell? ⟨w.heap.size, 2, none⟩ = some (.int .u32 C) := by rw [hC]; exact HB2.out.st.cell (i := 2) (by simp [St.list])
          have s3 : w2.cell? ⟨w.heap.size, 3, none⟩ = some (.int .u32 D) := by rw [hD]; exact HB2.out.st.cell (i := 3) (by simp [St.list])
          have s4 : w2.cell? ⟨w.heap.size, 4, none⟩ = some (.int .u32 E) := by rw [hE]; exact HB2.out.st.cell (i := 4) (by simp [St.list])
          have s5 : w2.cell? ⟨w.heap.size, 5, none⟩ = some (.int .u32 F) := by rw [hF]; exact HB2.out.st.cell (i := 5) (by simp [St.list])
          have s6 : w2.cell? ⟨w.heap.size, 6, none⟩ = some (.int .u32 G) := by rw [hG]; exact HB2.out.st.cell (i := 6) (by simp [St.list])
          have s7 : w2.cell? ⟨w.heap.size, 7, none⟩ = some (.int .u32 H) := by rw [hH]; exact HB2.out.st.cell (i := 7) (by simp [St.list])
          have HH : Hid (s = ⟨A, B, C, D, E, F, G, H⟩) := by unfold Hid; rw [hA, hB, hC, hD, hE, hF, hG, hH]
          clear hA hB hC hD hE hF hG hH
          go_wp2_with fail
          go_quiet (fail)
          go_wp2_with fail
          have HU : Hid s.U := hu
          clear s0 s1 s2 s3 s4 s5 s6 s7 hu
          have HA2 : Hid (RbB w bs s (w2.drewN nq) ∧ WRow (w2.drewN nq) g 69 KL) := ⟨HB2.out.drewN _, HK2.out.drewN⟩
          generalize w2.drewN nq = w3 at HA2
          clear HB2 HK2 hz1
          go_loopw [11, 12, 13, 14, 15, 16, 17, 18, 19] (fun va vb vc vd ve vf vg vh i wr => ∃ j : Nat, j ≤ 64 ∧ i = .int .i64 j ∧ ∃ t : St, va = .int .u32 t.a ∧ vb = .int .u32 t.b ∧ vc = .int .u32 t.c ∧ vd = .int .u32 t.d ∧
              ve = .int .u32 t.e ∧ vf = .int .u32 t.f ∧ vg = .int .u32 t.g ∧ vh = .int .u32 t.h ∧ Hid (t = rnds (wsTo bs 64) s j) ∧ Hid (RbB w bs s wr ∧ WRow wr g 69 KL)) (fun _ _ _ _ _ _ _ _ i _ => 64 - (intOf i).toNat)
          case atStart => exact ⟨0, by omega, rfl, s, by rw [HH.out], by rw [HH.out], by rw [HH.out], by rw [HH.out], by rw [HH.out], by rw [HH.out], by rw [HH.out], by rw [HH.out], rfl, HA2⟩
          case round =>
            rename Nat => t1
            obtain ⟨j, hj, rfl, ⟨a', b', c', d', e', f', g', h'⟩, rfl, rfl, rfl, rfl, rfl, rfl, rfl, rfl, ht, HA⟩ := hrel
            have hu : St.U ⟨a', b', c', d', e', f', g', h'⟩ := by rw [ht.out]; exact rnds_u _ HU.out j
            obtain ⟨⟨a0, a1⟩, _, _, _, ⟨e0, e1⟩, _, _, _⟩ := hu
            simp only at a0 a1 e0 e1
            by_cases hlt : j < 64
            · obtain ⟨kj, hkj⟩ : ∃ x, x = KL.getD j 0 := ⟨_, rfl⟩
              obtain ⟨wj, hwj⟩ : ∃ x, x = (wsTo bs 64).getD j 0 := ⟨_, rfl⟩
              have ck := HA.out.2.cell (i := j) (by rw [KL_length]; omega)
              have cw := HA.out.1.ws.cell (i := j) (by rw [wsTo_length]; omega)
              rw [← hkj] at ck
              rw [← hwj] at cw
              have HKJ := Lib.hid hkj
              have HWJ := Lib.hid hwj
              have hji : (j : Int) < 64 := by omega
              clear hkj hwj
              go_wp2_with fail
              go_quiet ((go_at_call 51; exact Calls.quiet_of (refror_any _ _ _ (by assumption) (by assumption) (by omega) (by omega))))
              go_wp2_with (go_at_call 51; refine (refror_any _ _ _ (by assumption) (by assumption) (by omega) (by omega)).mono ?_; rintro e w' ⟨rfl, k, rfl⟩)
              go_roundw
              case rel =>
                refine ⟨j + 1, by omega, by go_num, rnd kj wj ⟨a', b', c', d', e', f', g', h'⟩, ?_, rfl, rfl, rfl, ?_, rfl, rfl, rfl, ?_, ?_⟩
                · rw [notM]; with_reducible exact rnd_a _ _ _ _ _ _ _ _ _ _
                · rw [notM]; with_reducible exact rnd_e _ _ _ _ _ _ _ _ _ _
                · unfold Hid
                  with_reducible rw [rnds_succ, ← HKJ.out, ← HWJ.out, ← ht.out]
                · exact ⟨HA.out.1.drewN _, HA.out.2.drewN⟩
              case measure => simp [intOf]; omega
            · have ht64 : Hid (St.mk a' b' c' d' e' f' g' h' = rnds (wsTo bs 64) s 64) := by
                have e : j = 64 := by omega
                have e2 : rnds (wsTo bs 64) s j = rnds (wsTo bs 64) s 64 := by rw [e]
                exact ht.out.trans e2
              have s0 : wr.cell? ⟨w.heap.size, 0, none⟩ = some (.int .u32 A) := (HA.out.1.st.cell (i := 0) (by simp [St.list])).trans (by rw [HH.out]; rfl)
              have s1 : wr.cell? ⟨w.heap.size, 1, none⟩ = some (.int .u32 B) := (HA.out.1.st.cell (i := 1) (by simp [St.list])).trans (by rw [HH.out]; rfl)
              have s2 : wr.cell? ⟨w.heap.size, 2, none⟩ = some (.int .u32 C) := (HA.out.1.st.cell (i := 2) (by simp [St.list])).trans (by rw [HH.out]; rfl)
              have s3 : wr.cell? ⟨w.heap.size, 3, none⟩ = some (.int .u32 D) := (HA.out.1.st.cell (i := 3) (by simp [St.list])).trans (by rw [HH.out]; rfl)
              have s4 : wr.cell? ⟨w.heap.size, 4, none⟩ = some (.int .u32 E) := (HA.out.1.st.cell (i := 4) (by simp [St.list])).trans (by rw [HH.out]; rfl)
              have s5 : wr.cell? ⟨w.heap.size, 5, none⟩ = some (.int .u32 F) := (HA.out.1.st.cell (i := 5) (by simp [St.list])).trans (by rw [HH.out]; rfl)
              have s6 : wr.cell? ⟨w.heap.size, 6, none⟩ = some (.int .u32 G) := (HA.out.1.st.cell (i := 6) (by simp [St.list])).trans (by rw [HH.out]; rfl)
              have s7 : wr.cell? ⟨w.heap.size, 7, none⟩ = some (.int .u32 H) := (HA.out.1.st.cell (i := 7) (by simp [St.list])).trans (by rw [HH.out]; rfl)
              have HR1 : Hid (WRow wr (w.heap.size + 1) 50 (List.replicate 8 0)) := HA.out.1.res
              have HB : Hid (Below w.heap.size w wr) := HA.out.1.below
              clear ht a0 a1 e0 e1 HA
              have HI := Lib.hid (row_info (t := 50) (n := 8) (blockSt bs s).list rfl (by kernel_rfl))
              have HX : Hid ((blockSt bs s).list = [(A + a') % 4294967296, (B + b') % 4294967296, (C + c') % 4294967296, (D + d') % 4294967296, (E + e') % 4294967296, (F + f') % 4294967296, (G + g') % 4294967296, (H + h') % 4294967296]) := by
                unfold Hid blockSt
                rw [← ht64.out, HH.out]
                rfl
              go_wp2_with (first
                | (refine wpList_build_to rfl 50 _ rfl (rowOf (blockSt bs s).list) (by rw [HX.out]; kernel_rfl) ?_)
                | (refine wpList_store_row rfl 50 _ _ rfl _ _ rfl rfl _ _ HR1.out HI.out (by rw [rowOf_size, rowOf_size]; rfl) (rowOf_one _) ?_))
              exact bodyPost_ret (results_cell_row rfl _ _ _ _ _ _ _ rfl (setRow_heap _ _ _ _ _ _ HR1.out) Tryd.underlying50 rfl HI.out) rfl ⟨rfl, below_setRow HB.out (by omega) _⟩
end Go.Proofs.YtfolmglafnfcbaaDoor
