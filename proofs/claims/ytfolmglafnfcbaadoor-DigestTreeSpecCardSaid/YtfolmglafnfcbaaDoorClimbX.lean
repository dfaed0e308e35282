/- Contract of Climb. -/
import Derived.Test.YtfolmglafnfcbaaDoorClimb
namespace Go.Proofs.YtfolmglafnfcbaaDoor
open Go.RowKit

/-- a result of an array in a place of its own, and a second one -/
theorem results_cell_row2 {P : Program} {fn : Func} {p u : Tmp} {ty : TypeId} (h : fn.results = #[.cell p ty, .tmp u]) (tmps : Array Value) (w : World) (g : Nat) (t : TypeId) (cs : Array Value) (fr : Nat × Nat) (d : TypeDesc) (v : Value)
    (hp : tmps.getD p undef = .pointer (some ⟨g, 0, none⟩)) (hv : tmps.getD u undef = v) (hg : w.heap[g]? = some (.cells cs t fr))
    (hu : P.underlying ty = some d) (hd : (match d with | .struct _ | .array _ _ => true | _ => false) = true) (hi : (P.info? ty).map (·.size) = some cs.size) :
    (results fn tmps).run P w = .ok (.tuple #[.agg cs, v]) w := by
  have hp' : tmps[p]?.getD undef = .pointer (some ⟨g, 0, none⟩) := by simpa using hp
  have hv' : tmps[u]?.getD undef = v := by simpa using hv
  simp [results, h, hp', hv', asAddr, run_loadVar_row w g t ty cs fr d hg hu hd hi]

set_option maxRecDepth 100000 in
set_option maxHeartbeats 1000000 in
theorem climbX_any (a n : Nat) (A : Option Addr) (m c : Nat) (d : D) (ps : List D) (w : World) (hd : d.length = 32) (hr : RdD w w.heap.size A m ps) (hs : m = Go.Proofs.YtfolmglafnfcbaaDoor.steps a n) (h1 : 1 ≤ n) (ha : a < n) (hn : n ≤ 1099511627776) (hc : m ≤ c) (hcm : c ≤ maxLen) (hK : KOK w) :
    Calls Tryd.prog 22 #[dgV d, .int .i64 a, .int .i64 n, .slice A m c] w fun e w' => e = .returned (.tuple #[dgV (climb d a n ps), .int .i64 0]) ∧ Below w.heap.size w w' := by
  have hK0 := hK.pos
  obtain ⟨w0, hw0⟩ : ∃ w0, (w.alloc (.cells (bytesV d).toArray 26)).alloc (.cells Z32 26) = w0 := ⟨_, rfl⟩
  have hbx := box1 w d
  rw [hw0] at hbx
  obtain ⟨h1', h2, h3, h4⟩ := hbx
  have HR : Hid (w0.rangeAt w.heap.size 0 (bytesV d)) := h1'.range
  have HZ := Lib.hid (IsD.new _ _ h2)
  have HB0 := Lib.hid h3
  have HW0 := Lib.hid hw0
  have HC := Lib.hid (climb_any a n A m c d ps w0 hd (hr.below h3 (by omega)) hs h1 ha hn hc hcm (hK.below h3 hK0))
  have HST := Lib.hid (steps_any n n a (Nat.le_refl _) h1 ha hn w0)
  have HLI := Lib.hid (dg_size d hd)
  have HI := Lib.hid (dg_info (climb d a n ps) (climb_length _ _ _ _ h1 hn))
  have HL := Lib.hid (climb_length d a n ps h1 hn)
  have HS := Lib.hid hs
  have g1 : ¬ (n : Int) < 1 := by omega
  have g2 : ¬ (n : Int) > 1099511627776 := by omega
  have g2' : ¬ (1099511627776 : Int) < (n : Int) := by omega
  have g3 : ¬ (a : Int) < 0 := by omega
  have g4 : ¬ (a : Int) ≥ (n : Int) := by omega
  have g4' : ¬ (n : Int) ≤ (a : Int) := by omega
  have g5 : ¬ n ≤ a := by omega
  clear hw0 h1' h2 h3 hK hd hr hs
  unfold dgV at HC
  unfold dgV
  go_enter Tryd.func22, Tryd.ntmps22
  go_wp2_with fail
  rw [HW0.out]
  refine HST.out.mono ?_
  rintro e w' ⟨rfl, rfl⟩
  rw [← HS.out]
  go_wp2_with (refine wpList_load_mid rfl 26 _ rfl w.heap.size 0 rfl _ _ HR.out Tryd.underlying26 rfl HLI.out ?_)
  refine HC.out.mono ?_
  rintro e w1 ⟨rfl, hb1⟩
  obtain ⟨old, HD1, HDs⟩ := HZ.out.below hb1 (by omega)
  have HB1 := Lib.hid (HB0.out.trans (hb1.mono (by omega)))
  clear hb1
  go_wp2_with (refine wpList_store_row rfl 26 _ _ rfl _ _ rfl rfl _ _ HD1 HI.out (HDs.trans (by rw [List.size_toArray, bytesV_length, HL.out])) (bytesV_all _) ?_)
  exact bodyPost_ret (results_cell_row2 rfl _ _ _ _ _ _ _ _ rfl rfl (setRow_heap _ _ _ _ _ _ HD1) Tryd.underlying26 rfl HI.out) rfl ⟨rfl, below_setRow HB1.out (by omega) _⟩

/-- the zero digest -/
def zd : D := List.replicate 32 0

/-- Climb refuses what sane hands it -/
theorem climbX_bad (d : D) (w : World) :
    Calls Tryd.prog 22 #[dgV d, .int .i64 0, .int .i64 2, .slice none 0 0] w fun e w' => (∃ x : D, x.length = 32 ∧ e = .returned (.tuple #[dgV x, .int .i64 1])) ∧ Below w.heap.size w w' := by
  obtain ⟨w0, hw0⟩ : ∃ w0, (w.alloc (.cells (bytesV d).toArray 26)).alloc (.cells Z32 26) = w0 := ⟨_, rfl⟩
  have hbx := box1 w d
  rw [hw0] at hbx
  obtain ⟨h1', h2, h3, h4⟩ := hbx
  have HZ := Lib.hid h2
  have HB0 := Lib.hid h3
  have HW0 := Lib.hid hw0
  have HST := Lib.hid (steps_any 2 2 0 (Nat.le_refl _) (by omega) (by omega) (by omega) w0)
  have hS : Go.Proofs.YtfolmglafnfcbaaDoor.steps 0 2 = 1 := by kernel_rfl
  have HS := Lib.hid hS
  clear hw0 h1' h2 h3 hS
  unfold dgV
  go_enter Tryd.func22, Tryd.ntmps22
  go_wp2_with fail
  rw [HW0.out]
  refine HST.out.mono ?_
  rintro e w' ⟨rfl, rfl⟩
  rw [HS.out]
  have HI := Lib.hid (dg_info zd (by rfl))
  have hzz : (bytesV zd).toArray = Z32 := by rfl
  rw [hzz] at HI
  go_wp2_with (refine wpList_store_row rfl 26 _ _ rfl _ Z32 rfl rfl _ _ HZ.out HI.out rfl (by rw [← hzz]; exact bytesV_all _) ?_)
  exact bodyPost_ret (results_cell_row2 rfl _ _ _ _ _ _ _ _ rfl rfl (setRow_heap _ _ _ _ _ _ HZ.out) Tryd.underlying26 rfl HI.out) rfl ⟨⟨zd, rfl, by rw [hzz]; rfl⟩, below_setRow HB0.out (by omega) _⟩
end Go.Proofs.YtfolmglafnfcbaaDoor
