/- The law DigestTags, walked. -/
import Derived.Test.YtfolmglafnfcbaaDoorSane
namespace Go.Proofs.YtfolmglafnfcbaaDoor
open Go.RowKit

theorem owns_empty (u : World) (base : Nat) (hb : base ≤ u.heap.size) : OwnB (u.alloc (.cells #[] 5)) base u.heap.size 0 0 [] :=
  ⟨rfl, hb, Nat.le_refl _, Nat.zero_le _, #[], heap_alloc_new _ _, rfl, rfl⟩

set_option maxRecDepth 100000 in
set_option maxHeartbeats 4000000 in
theorem law_tags (s : ByteArray) (A : Option Addr) (n c : Nat) (bs : List UInt8) (w : World) (hr : RdB w w.heap.size A n bs) (hK : KOK w) :
    Calls Tryd.prog 5 #[.string s, .slice A n c] w fun e w' => e = .returned (.bool true) ∧ Below w.heap.size w w' := by
  have hK0 := hK.pos
  by_cases hs6 : s.size > 600
  · have HS := Lib.hid (sane_any w hK)
    go_enter Tryd.func5, Tryd.ntmps5
    go_wp2_with fail
    refine HS.out.mono ?_
    rintro e w1 ⟨rfl, hb1⟩
    go_wp2_with fail
    exact bodyPost_ret (v := .bool true) (by simp [results, Tryd.results5, go_sem]) rfl ⟨rfl, hb1⟩
  by_cases hn6 : n > 600
  · have HS := Lib.hid (sane_any w hK)
    go_enter Tryd.func5, Tryd.ntmps5
    go_wp2_with fail
    refine HS.out.mono ?_
    rintro e w1 ⟨rfl, hb1⟩
    go_wp2_with fail
    exact bodyPost_ret (v := .bool true) (by simp [results, Tryd.results5, go_sem]) rfl ⟨rfl, hb1⟩
  have HS := Lib.hid (sane_any w hK)
  have HR := Lib.hid hr
  have HK := Lib.hid hK
  clear hr hK
  go_enter Tryd.func5, Tryd.ntmps5
  go_wp2_with fail
  refine HS.out.mono ?_
  rintro e w1 ⟨rfl, hb1⟩
  have B1 := Lib.hid hb1
  have HR1 := Lib.hid (HR.out.below hb1 hb1.size)
  have HK1 := Lib.hid (HK.out.below hb1 hK0)
  have z1 := hb1.size
  clear hb1
  obtain ⟨X, C, hcv, hbX, hzX, hrX, hC, hCm⟩ := conv_bytes w1 s
  have hCm' := hCm (by unfold maxLen; omega)
  have BX := Lib.hid (B1.out.trans (hbX.mono z1))
  have HRX := Lib.hid hrX
  have HR2 := Lib.hid (HR1.out.below hbX hbX.size)
  have HKX := Lib.hid (HK1.out.below hbX (by omega))
  clear hbX hrX hCm
  go_wp2_with fail
  clear hcv
  refine (sum_any _ _ _ s.data.toList X HRX.out hC hCm' (by omega) HKX.out).mono ?_
  rintro e w2 ⟨rfl, hb2⟩
  have B2 := Lib.hid (BX.out.trans (hb2.mono (by omega)))
  have HR3 := Lib.hid (HR2.out.below hb2 hb2.size)
  have HK2 := Lib.hid (HKX.out.below hb2 (by omega))
  have HL := Lib.hid (sha_length s.data.toList)
  have z2 := hb2.size
  clear hb2
  obtain ⟨hd, hhd⟩ : ∃ hd, hd = sha s.data.toList := ⟨_, rfl⟩
  have HHD := Lib.hid hhd
  rw [← hhd] at HL ⊢
  clear hhd
  have HI := Lib.hid (dg_info hd HL.out)
  obtain ⟨w0, hw0⟩ : ∃ w0, w2.alloc (.cells (bytesV hd).toArray 26) = w0 := ⟨_, rfl⟩
  have hb0 : Below w2.heap.size w2 w0 := by rw [← hw0]; exact (Below.refl _ _).alloc (Nat.le_refl _) _
  have hz0 : w0.heap.size = w2.heap.size + 1 := by rw [← hw0]; simp
  have hd0 : DRow w0 w2.heap.size hd := by rw [← hw0]; exact heap_alloc_new _ _
  have HW0 := Lib.hid hw0
  have B0 := Lib.hid (B2.out.trans (hb0.mono (by omega)))
  have HR0 := Lib.hid (HR3.out.below hb0 hb0.size)
  have HK0 := Lib.hid (HK2.out.below hb0 (by omega))
  have D0 := Lib.hid hd0
  clear hw0 hb0 hd0
  unfold dgV
  go_wp2_with (refine wpList_store_row rfl 26 _ _ rfl _ _ rfl rfl _ _ (heap_alloc_new _ _) HI.out (z32_size _ HL.out) (bytesV_all _) ?_; rw [World.setRow_alloc_new, HW0.out])
  obtain ⟨i0, hi, hzz, hz1', hz2'⟩ := info_parts byteInfo
  have hlt0 : w2.heap.size < w0.heap.size := by omega
  have hw0p : 0 < w0.heap.size := by omega
  clear hz0
  have HTL := Lib.hid (tagged_length s.data.toList bs)
  obtain ⟨dg, hdg⟩ : ∃ dg, dg = tagged s.data.toList bs := ⟨_, rfl⟩
  have HDG := Lib.hid hdg
  rw [← hdg] at HTL
  clear hdg
  have HTG : Hid (∀ w', Below w0.heap.size w0 w' → Calls Tryd.prog 14 #[.string s, .slice A n c] w' fun e w'' => e = .returned (.agg (bytesV dg).toArray) ∧ Hid (Below w0.heap.size w0 w'') ∧ Hid (Below w'.heap.size w' w'')) := fun w' hb => by
    rw [HDG.out]
    exact (tagged_any s A n c bs w' (by omega) (HR0.out.below hb hb.size) (by omega) (HK0.out.below hb hw0p)).mono fun _ _ ⟨e, q⟩ => ⟨e, hb.trans (q.mono hb.size), q⟩
  have HS1 : Hid (∀ w', Below w0.heap.size w0 w' → Src Tryd.prog 1 22 (.slice (some ⟨w2.heap.size, 0, none⟩) 32 32) 32 (bytesV hd) w') := fun w' hb => ((D0.out.below hb hlt0).rdb (B := w0.heap.size) hlt0 HL.out.symm).srcA
  have HS2 : Hid (∀ w', Below w0.heap.size w0 w' → Src Tryd.prog 1 22 (.slice A n c) n (bytesV bs) w') := fun w' hb => (HR0.out.below hb (Nat.le_refl _)).srcA
  have HSM : Hid (∀ (w' : World) (g cap : Nat), Below w0.heap.size w0 w' → Owns w' w0.heap.size 5 1 g (0 + 32 + n) cap (bytesV [] ++ bytesV hd ++ bytesV bs) → Calls Tryd.prog 12 #[.slice (some ⟨g, 0, none⟩) (0 + 32 + n) cap] w' fun e w'' => e = .returned (.agg (bytesV dg).toArray) ∧ Hid (Below w0.heap.size w0 w'')) := fun w' g cap hb ho => by
    rw [HDG.out, tagged_eq, ← HHD.out]
    rw [← bytesV_append, ← bytesV_append] at ho
    have ho' : OwnB w' w0.heap.size g (0 + 32 + n) cap ([] ++ hd ++ bs) := ho
    exact (sum_any _ _ _ (hd ++ bs) w' (ho'.rdb ho'.lt) ho.2.2.1 ho.2.2.2.1 (by omega) (HK0.out.below hb hw0p)).mono fun _ _ ⟨e, q⟩ => ⟨e, hb.trans (q.mono hb.size)⟩
  have heq1 : ∀ u : World, (binOp .eql 26 (.agg (bytesV dg).toArray) (.agg (bytesV dg).toArray)).run Tryd.prog u = .ok (.bool true) u := fun u => run_eql_same u dg HTL.out
  have hgd : Tryd.prog.eqGuardType Tryd.prog.depth 26 = false := by kernel_rfl
  go_region_held3 (fun w' => Below w0.heap.size w0 w')
    (first | exact (Below.refl _ _).drew | exact HB4.out | exact HB5.out | exact HBT.out | exact HBF.out | (have hX := ‹Below w0.heap.size w0 _›; first | exact hX.alloc hX.size _ | exact (hX.alloc hX.size _).drew))
    (first
      | (go_at_call 14; with_reducible refine (HTG.out _ ‹Below w0.heap.size w0 _›).mono ?_; rintro e wT ⟨rfl, HBT, HBT'⟩)
      | (refine step_append_owns _ rfl (.tmp 22) (.tmp 23) 22 22 rfl w0.heap.size 5 i0 _ 1 1 Tryd.underlying22 hi hzz hz1' hz2' rfl _ 0 0 (bytesV []) rfl (by first | exact owns_empty _ _ (Nat.le_refl _) | exact owns_empty _ _ HBT.out.size | exact Owns.below (w := (w0.alloc (.cells #[] 5)).drew) (owns_empty w0 _ (Nat.le_refl _)) HBT'.out (by simp)) _ rfl 32 (bytesV hd) (HS1.out _ ‹Below w0.heap.size w0 _›) (by unfold maxLen; omega) (by omega) (‹Below w0.heap.size w0 _›).size ?_
         intro g4 cap4 w4 HO4 HT4 HG4
         have HB4 : Hid (Below w0.heap.size w0 w4) := (‹Below w0.heap.size w0 _›).trans (HT4.out.below (B := w0.heap.size) (by first | exact Nat.le_refl _ | exact HBT.out.size) (by first | (simp; done) | (have h := HBT'.out.size; simp at h; omega))))
      | (refine step_append_owns _ rfl (.tmp 24) (.tmp 25) 22 22 rfl w0.heap.size 5 i0 _ 1 1 Tryd.underlying22 hi hzz hz1' hz2' rfl g4 (0 + 32) cap4 (bytesV [] ++ bytesV hd) rfl (by first | exact HO4.out | exact HO4.out.below HBT'.out HO4.out.lt) _ rfl n (bytesV bs) (HS2.out _ ‹Below w0.heap.size w0 _›) (by unfold maxLen; omega) (by omega) (‹Below w0.heap.size w0 _›).size ?_
         intro g5 cap5 w5 HO5 HT5 HG5
         have HB5 : Hid (Below w0.heap.size w0 w5) := (‹Below w0.heap.size w0 _›).trans (HT5.out.below (B := w0.heap.size) HO4.out.2.1 (by first | exact HO4.out.lt | exact (HO4.out.below HBT'.out HO4.out.lt).lt)))
      | (go_at_call 12; with_reducible refine (HSM.out _ _ _ ‹Below w0.heap.size w0 _› (by first | exact HO5.out | exact HO5.out.below HBT'.out HO5.out.lt)).mono ?_; rintro e wF ⟨rfl, HBF⟩))
  all_goals go_wp2_with fail
  all_goals exact bodyPost_ret (v := .bool true) (by simp [results, Tryd.results5, go_sem]) rfl ⟨rfl, B0.out.trans (HBF.out.mono B0.out.size)⟩
end Go.Proofs.YtfolmglafnfcbaaDoor
