/- Contract of absorb. -/
import Derived.Test.YtfolmglafnfcbaaDoorWords
import Derived.Test.YtfolmglafnfcbaaDoorRounds
import Derived.Deep.WholeRow
namespace Go.Proofs.YtfolmglafnfcbaaDoor
open Go.RowKit

/-- what holds of the world while a block is absorbed -/
structure AbsW (w : World) (r g : Nat) (ws : List Int) (s : St) (wr : World) : Prop where
  k : KOK wr
  ws : WRow wr g 69 ws
  st : WRow wr r 51 s.list
  turn : Turn w wr r
theorem AbsW.drewN {w : World} {r g : Nat} {l : List Int} {s : St} {wr : World} (h : AbsW w r g l s wr) (k : Nat) : AbsW w r g l s (wr.drewN k) :=
  ⟨h.k, h.ws.drewN, h.st.drewN, h.turn.drewN k⟩

/-- the first m words of a state with those of another added -/
def mixL (s t : St) (m : Nat) : List Int := (plus s t).list.take m ++ s.list.drop m
theorem mixL_length (s t : St) (m : Nat) (h : m ≤ 8) : (mixL s t m).length = 8 := by simp [mixL, St.list]; omega
structure MixW (w : World) (r : Nat) (s t : St) (m : Nat) (wr : World) : Prop where
  st : WRow wr r 51 (mixL s t m)
  turn : Turn w wr r
theorem AbsW.mix {w : World} {r g : Nat} {l : List Int} {s : St} {wr : World} (h : AbsW w r g l s wr) (t : St) : MixW w r s t 0 wr := ⟨h.st, h.turn⟩
theorem mixL_at (s t : St) (m : Nat) (h : m < 8) : (mixL s t m).getD m 0 = s.list.getD m 0 := by
  have hm' : m = 0 ∨ m = 1 ∨ m = 2 ∨ m = 3 ∨ m = 4 ∨ m = 5 ∨ m = 6 ∨ m = 7 := by omega
  rcases hm' with rfl | rfl | rfl | rfl | rfl | rfl | rfl | rfl <;> rfl
theorem mixL_set (s t : St) (m : Nat) (h : m < 8) : (mixL s t m).set m ((s.list.getD m 0 + t.list.getD m 0) % 4294967296) = mixL s t (m + 1) := by
  have hm' : m = 0 ∨ m = 1 ∨ m = 2 ∨ m = 3 ∨ m = 4 ∨ m = 5 ∨ m = 6 ∨ m = 7 := by omega
  rcases hm' with rfl | rfl | rfl | rfl | rfl | rfl | rfl | rfl <;> rfl
theorem MixW.cell {w : World} {r m : Nat} {s t : St} {wr : World} (h : MixW w r s t m wr) (hm : m < 8) : wr.cell? ⟨r, m, none⟩ = some (.int .u32 (s.list.getD m 0)) := by
  rw [h.st.cell (by rw [mixL_length _ _ _ (by omega)]; exact hm), mixL_at s t m hm]
theorem MixW.step {w : World} {r m : Nat} {s t : St} {wr : World} (h : MixW w r s t m wr) (hm : m < 8) : MixW w r s t (m + 1) ((wr.drew).setCell ⟨r, m, none⟩ (.int .u32 ((s.list.getD m 0 + t.list.getD m 0) % 4294967296))) :=
  ⟨by rw [← mixL_set s t m hm]; exact WRow.set (w := wr.drew) h.st m _, (h.turn.drewN 1).setCell⟩

set_option maxRecDepth 100000 in
set_option maxHeartbeats 4000000 in
theorem absorb_any (r b o n c : Nat) (bs : List UInt8) (s : St) (w : World) (hn : 64 ≤ n) (hc : n ≤ c) (hc63 : c ≤ maxLen) (hr : RdB w w.heap.size (some ⟨b, o, none⟩) n bs) (_hb : b ≠ r)
    (hs : WRow w r 51 s.list) (hu : s.U) (hK : KOK w) (_hr0 : r ≠ 0) :
    Calls Tryd.prog 29 #[.pointer (some ⟨r, 0, none⟩), .slice (some ⟨b, o, none⟩) n c] w fun e w' => e = .returned (.tuple #[]) ∧ Turn w w' r ∧ WRow w' r 51 (blockSt bs s).list := by
  have HR := Lib.hid hr
  have HS := Lib.hid hs
  have HK := Lib.hid hK
  have hlt := hs.lt
  clear hr hs hK
  go_enter Tryd.func29, Tryd.ntmps29
  go_wp2_with fail
  refine (words_any b o n c bs w hn hc hc63 HR.out).mono ?_
  rintro e w1 ⟨rfl, hb1⟩
  have hz1 := hb1.size
  have HS1 := Lib.hid (HS.out.below hb1 hlt)
  have HK1 := Lib.hid (HK.out.below hb1 (by omega))
  have HT1 := Lib.hid (Turn.of_below (r := r) hb1)
  clear hb1 HR HS HK
  have hsz : (rowOf (wsTo bs 64)).size = 64 := by rw [rowOf_size, wsTo_length]
  have hi : (Tryd.prog.info? 69).map (·.size) = some (rowOf (wsTo bs 64)).size := by rw [hsz]; kernel_rfl
  have HI := Lib.hid hi
  have HZ := Lib.hid hsz
  clear hi hsz
  go_wp2_with (refine wpList_store_row rfl 69 _ _ rfl _ _ rfl rfl _ _ (heap_alloc_new _ _) HI.out (by rw [HZ.out]; rfl) (rowOf_one _) ?_)
  rw [World.setRow_alloc_new]
  obtain ⟨w2, hw2⟩ : ∃ w2, w2 = w1.alloc (.cells (rowOf (wsTo bs 64)) 69) := ⟨_, rfl⟩
  have hn2 : Below w1.heap.size w1 w2 := by rw [hw2]; exact (Below.refl _ _).alloc (Nat.le_refl _) _
  have hz2 : w2.heap.size = w1.heap.size + 1 := by rw [hw2]; simp
  have HW2 : Hid (WRow w2 w1.heap.size 69 (wsTo bs 64)) := by unfold Hid; rw [hw2]; exact heap_alloc_new w1 _
  have HS2 := Lib.hid (HS1.out.below hn2 (by omega))
  have HK2 := Lib.hid (HK1.out.below hn2 (by omega))
  have HT2 := Lib.hid (HT1.out.trans (Turn.of_below (r := r) hn2))
  obtain ⟨g, hg⟩ : ∃ g, g = w1.heap.size := ⟨_, rfl⟩
  rw [← hg] at HW2
  have hgr : g ≠ r := by omega
  have hg0 : g ≠ 0 := by omega
  have hglt : g < w2.heap.size := by omega
  rw [← hw2, ← hg]
  have hlt2 : r < w2.heap.size := by omega
  clear hw2 hn2 hz2 HS1 HK1 HT1 hg HI HZ hz1 hlt
  obtain ⟨A, B, C, D, E, F, G, H⟩ := s
  obtain ⟨uA, uB, uC, uD, uE, uF, uG, uH⟩ := hu
  have s0 := HS2.out.cell (i := 0) (by simp [St.list])
  have s1 := HS2.out.cell (i := 1) (by simp [St.list])
  have s2 := HS2.out.cell (i := 2) (by simp [St.list])
  have s3 := HS2.out.cell (i := 3) (by simp [St.list])
  have s4 := HS2.out.cell (i := 4) (by simp [St.list])
  have s5 := HS2.out.cell (i := 5) (by simp [St.list])
  have s6 := HS2.out.cell (i := 6) (by simp [St.list])
  have s7 := HS2.out.cell (i := 7) (by simp [St.list])
  simp only [St.list, List.getD_cons_zero, List.getD_cons_succ] at s0 s1 s2 s3 s4 s5 s6 s7
  go_wp2_with fail
  go_quiet (fail)
  go_wp2_with fail
  obtain ⟨S0, hS0⟩ : ∃ S0 : St, S0 = ⟨A, B, C, D, E, F, G, H⟩ := ⟨_, rfl⟩
  have HS0 := Lib.hid hS0
  have HU0 : Hid S0.U := by unfold Hid; rw [hS0]; exact ⟨uA, uB, uC, uD, uE, uF, uG, uH⟩
  have HA2 : Hid (AbsW w r g (wsTo bs 64) S0 w2) := ⟨HK2.out, HW2.out, by rw [HS0.out]; exact HS2.out, HT2.out⟩
  clear s0 s1 s2 s3 s4 s5 s6 s7 hS0 uA uB uC uD uE uF uG uH HK2 HW2 HS2 HT2
  go_loopw [5, 6, 7, 8, 9, 10, 11, 12, 52] (fun va vb vc vd ve vf vg vh i wr => ∃ j : Nat, j ≤ 64 ∧ i = .int .i64 j ∧ ∃ t : St, va = .int .u32 t.a ∧ vb = .int .u32 t.b ∧ vc = .int .u32 t.c ∧ vd = .int .u32 t.d ∧
      ve = .int .u32 t.e ∧ vf = .int .u32 t.f ∧ vg = .int .u32 t.g ∧ vh = .int .u32 t.h ∧ Hid (t = rnds (wsTo bs 64) S0 j) ∧ Hid (AbsW w r g (wsTo bs 64) S0 wr)) (fun _ _ _ _ _ _ _ _ i _ => 64 - (intOf i).toNat)
  case atStart => exact ⟨0, by omega, rfl, S0, by rw [HS0.out], by rw [HS0.out], by rw [HS0.out], by rw [HS0.out], by rw [HS0.out], by rw [HS0.out], by rw [HS0.out], by rw [HS0.out], rfl, AbsW.drewN HA2.out _⟩
  case round =>
    obtain ⟨j, hj, rfl, ⟨a', b', c', d', e', f', g', h'⟩, rfl, rfl, rfl, rfl, rfl, rfl, rfl, rfl, ht, HA⟩ := hrel
    have hu : St.U ⟨a', b', c', d', e', f', g', h'⟩ := by rw [ht.out]; exact rnds_u _ HU0.out j
    obtain ⟨⟨a0, a1⟩, _, _, _, ⟨e0, e1⟩, _, _, _⟩ := hu
    simp only at a0 a1 e0 e1
    by_cases hlt : j < 64
    · obtain ⟨kj, hkj⟩ : ∃ x, x = KL.getD j 0 := ⟨_, rfl⟩
      obtain ⟨wj, hwj⟩ : ∃ x, x = (wsTo bs 64).getD j 0 := ⟨_, rfl⟩
      have ck := HA.out.k j hlt
      have cw := HA.out.ws.cell (i := j) (by rw [wsTo_length]; omega)
      rw [← hkj] at ck
      rw [← hwj] at cw
      have HKJ := Lib.hid hkj
      have HWJ := Lib.hid hwj
      have hji : (j : Int) < 64 := by omega
      clear hkj hwj
      go_wp2_with fail
      go_quiet ((go_at_call 49; exact Calls.quiet_of_same ((ror_any _ _ _ (by assumption) (by assumption) (by omega) (by omega)).mono fun _ _ ⟨x, y⟩ => ⟨x, y.symm⟩)))
      go_wp2_with (go_at_call 49; refine (ror_any _ _ _ (by assumption) (by assumption) (by omega) (by omega)).mono ?_; rintro e w' ⟨rfl, rfl⟩)
      go_roundw
      case rel =>
        refine ⟨j + 1, by omega, by go_num, rnd kj wj ⟨a', b', c', d', e', f', g', h'⟩, ?_, rfl, rfl, rfl, ?_, rfl, rfl, rfl, ?_, HA.out.drewN _⟩
        · rw [notM]; with_reducible exact rnd_a _ _ _ _ _ _ _ _ _ _
        · rw [notM]; with_reducible exact rnd_e _ _ _ _ _ _ _ _ _ _
        · unfold Hid
          with_reducible rw [rnds_succ, ← HKJ.out, ← HWJ.out, ← ht.out]
      case measure => simp [intOf]; omega
    · have ht64 : Hid (St.mk a' b' c' d' e' f' g' h' = rnds (wsTo bs 64) S0 64) := by
        have e : j = 64 := by omega
        have e2 : rnds (wsTo bs 64) S0 j = rnds (wsTo bs 64) S0 64 := by rw [e]
        exact ht.out.trans e2
      clear ht a0 a1 e0 e1
      go_wp2_with fail
      go_loopw [124] (fun i wr => ∃ m : Nat, m ≤ 8 ∧ i = .int .i64 m ∧ Hid (MixW w r S0 ⟨a', b', c', d', e', f', g', h'⟩ m wr)) (fun i _ => 8 - (intOf i).toNat)
      case atStart => exact ⟨0, by omega, rfl, HA.out.mix _⟩
      case round =>
        obtain ⟨m, hm, rfl, HM⟩ := hrel
        have hm' : m = 0 ∨ m = 1 ∨ m = 2 ∨ m = 3 ∨ m = 4 ∨ m = 5 ∨ m = 6 ∨ m = 7 ∨ m = 8 := by omega
        clear hm HA
        rcases hm' with rfl | rfl | rfl | rfl | rfl | rfl | rfl | rfl | rfl
        · have cm := HM.out.cell (by omega)
          have fm := HM.out.st.frozen 0
          have im : ∀ w, (Instr.index 50 (.agg #[.int .u32 a', .int .u32 b', .int .u32 c', .int .u32 d', .int .u32 e', .int .u32 f', .int .u32 g', .int .u32 h']) (.int .i64 0)).run Tryd.prog w = .ok (.int .u32 a') w := fun _ => by kernel_rfl
          have HMS := Lib.hid (HM.out.step (by omega))
          clear HM
          generalize S0.list.getD 0 0 = sm at cm HMS
          go_wp2_with fail
          go_still_tail 9, (by kernel_rfl)
          change wpList _ _ _ _ _ wr.drew
          go_wp2_with fail
          go_roundw
          case rel => exact ⟨1, by omega, rfl, HMS.out⟩
          case measure => simp [intOf]
        · have cm := HM.out.cell (by omega)
          have fm := HM.out.st.frozen 1
          have im : ∀ w, (Instr.index 50 (.agg #[.int .u32 a', .int .u32 b', .int .u32 c', .int .u32 d', .int .u32 e', .int .u32 f', .int .u32 g', .int .u32 h']) (.int .i64 1)).run Tryd.prog w = .ok (.int .u32 b') w := fun _ => by kernel_rfl
          have HMS := Lib.hid (HM.out.step (by omega))
          clear HM
          generalize S0.list.getD 1 0 = sm at cm HMS
          go_wp2_with fail
          go_still_tail 9, (by kernel_rfl)
          change wpList _ _ _ _ _ wr.drew
          go_wp2_with fail
          go_roundw
          case rel => exact ⟨2, by omega, rfl, HMS.out⟩
          case measure => simp [intOf]
        · have cm := HM.out.cell (by omega)
          have fm := HM.out.st.frozen 2
          have im : ∀ w, (Instr.index 50 (.agg #[.int .u32 a', .int .u32 b', .int .u32 c', .int .u32 d', .int .u32 e', .int .u32 f', .int .u32 g', .int .u32 h']) (.int .i64 2)).run Tryd.prog w = .ok (.int .u32 c') w := fun _ => by kernel_rfl
          have HMS := Lib.hid (HM.out.step (by omega))
          clear HM
          generalize S0.list.getD 2 0 = sm at cm HMS
          go_wp2_with fail
          go_still_tail 9, (by kernel_rfl)
          change wpList _ _ _ _ _ wr.drew
          go_wp2_with fail
          go_roundw
          case rel => exact ⟨3, by omega, rfl, HMS.out⟩
          case measure => simp [intOf]
        · have cm := HM.out.cell (by omega)
          have fm := HM.out.st.frozen 3
          have im : ∀ w, (Instr.index 50 (.agg #[.int .u32 a', .int .u32 b', .int .u32 c', .int .u32 d', .int .u32 e', .int .u32 f', .int .u32 g', .int .u32 h']) (.int .i64 3)).run Tryd.prog w = .ok (.int .u32 d') w := fun _ => by kernel_rfl
          have HMS := Lib.hid (HM.out.step (by omega))
          clear HM
          generalize S0.list.getD 3 0 = sm at cm HMS
          go_wp2_with fail
          go_still_tail 9, (by kernel_rfl)
          change wpList _ _ _ _ _ wr.drew
          go_wp2_with fail
          go_roundw
          case rel => exact ⟨4, by omega, rfl, HMS.out⟩
          case measure => simp [intOf]
        · have cm := HM.out.cell (by omega)
          have fm := HM.out.st.frozen 4
          have im : ∀ w, (Instr.index 50 (.agg #[.int .u32 a', .int .u32 b', .int .u32 c', .int .u32 d', .int .u32 e', .int .u32 f', .int .u32 g', .int .u32 h']) (.int .i64 4)).run Tryd.prog w = .ok (.int .u32 e') w := fun _ => by kernel_rfl
          have HMS := Lib.hid (HM.out.step (by omega))
          clear HM
          generalize S0.list.getD 4 0 = sm at cm HMS
          go_wp2_with fail
          go_still_tail 9, (by kernel_rfl)
          change wpList _ _ _ _ _ wr.drew
          go_wp2_with fail
          go_roundw
          case rel => exact ⟨5, by omega, rfl, HMS.out⟩
          case measure => simp [intOf]
        · have cm := HM.out.cell (by omega)
          have fm := HM.out.st.frozen 5
          have im : ∀ w, (Instr.index 50 (.agg #[.int .u32 a', .int .u32 b', .int .u32 c', .int .u32 d', .int .u32 e', .int .u32 f', .int .u32 g', .int .u32 h']) (.int .i64 5)).run Tryd.prog w = .ok (.int .u32 f') w := fun _ => by kernel_rfl
          have HMS := Lib.hid (HM.out.step (by omega))
          clear HM
          generalize S0.list.getD 5 0 = sm at cm HMS
          go_wp2_with fail
          go_still_tail 9, (by kernel_rfl)
          change wpList _ _ _ _ _ wr.drew
          go_wp2_with fail
          go_roundw
          case rel => exact ⟨6, by omega, rfl, HMS.out⟩
          case measure => simp [intOf]
        · have cm := HM.out.cell (by omega)
          have fm := HM.out.st.frozen 6
          have im : ∀ w, (Instr.index 50 (.agg #[.int .u32 a', .int .u32 b', .int .u32 c', .int .u32 d', .int .u32 e', .int .u32 f', .int .u32 g', .int .u32 h']) (.int .i64 6)).run Tryd.prog w = .ok (.int .u32 g') w := fun _ => by kernel_rfl
          have HMS := Lib.hid (HM.out.step (by omega))
          clear HM
          generalize S0.list.getD 6 0 = sm at cm HMS
          go_wp2_with fail
          go_still_tail 9, (by kernel_rfl)
          change wpList _ _ _ _ _ wr.drew
          go_wp2_with fail
          go_roundw
          case rel => exact ⟨7, by omega, rfl, HMS.out⟩
          case measure => simp [intOf]
        · have cm := HM.out.cell (by omega)
          have fm := HM.out.st.frozen 7
          have im : ∀ w, (Instr.index 50 (.agg #[.int .u32 a', .int .u32 b', .int .u32 c', .int .u32 d', .int .u32 e', .int .u32 f', .int .u32 g', .int .u32 h']) (.int .i64 7)).run Tryd.prog w = .ok (.int .u32 h') w := fun _ => by kernel_rfl
          have HMS := Lib.hid (HM.out.step (by omega))
          clear HM
          generalize S0.list.getD 7 0 = sm at cm HMS
          go_wp2_with fail
          go_still_tail 9, (by kernel_rfl)
          change wpList _ _ _ _ _ wr.drew
          go_wp2_with fail
          go_roundw
          case rel => exact ⟨8, by omega, rfl, HMS.out⟩
          case measure => simp [intOf]
        · go_wp2_with fail
          go_end0
          refine ⟨rfl, HM.out.turn, ?_⟩
          have e : (blockSt bs ⟨A, B, C, D, E, F, G, H⟩).list = mixL S0 ⟨a', b', c', d', e', f', g', h'⟩ 8 := by
            rw [ht64.out, HS0.out]
            rfl
          rw [e]
          exact HM.out.st
end Go.Proofs.YtfolmglafnfcbaaDoor
