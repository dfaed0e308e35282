/- Contract of the program's list of days. -/
import Derived.Test.YtnbffkeinkgojaaRuns
import Derived.Test.YtnbffkeinkgojaaListS
namespace Go.Proofs.Ytnbffkeinkgojaa
open Go.RowKit Go.Shelf
attribute [local go_sem] Oper.semAt_some

theorem ownsRow_low {W : World} {b b' : Nat} {e : TypeId} {size : Nat} {v : Value} {k : Nat} {xs : List Value} (h : W.ownsRow b e size v k xs) (hb : b' ≤ b) : W.ownsRow b' e size v k xs := by
  refine ⟨h.1, ?_⟩
  rcases h.2 with hn | ⟨g, cap, cur, h1, h2, h3⟩
  · exact .inl hn
  · exact .inr ⟨g, cap, cur, h1, by omega, h3⟩
theorem ownsRow_N {W : World} {b : Nat} {e : TypeId} {size : Nat} {v : Value} {k : Nat} {xs : List Value} (h : W.ownsRow b e size v k xs) : ∃ (A : Option Addr) (cap : Nat), v = .slice A k cap ∧ OwnsN W b e size A k cap xs := by
  rcases h.2 with ⟨rfl, rfl⟩ | ⟨g, cap, cur, rfl, h2, h5, h3, h4, h6, h7⟩
  · have hl := h.1
    rw [Nat.zero_mul] at hl
    exact ⟨none, 0, rfl, .inl ⟨rfl, rfl, rfl, List.eq_nil_of_length_eq_zero hl⟩⟩
  · exact ⟨_, cap, rfl, .inr ⟨g, rfl, h.1, h2, h3, h4, cur, h5, h6, h7⟩⟩
/-- a block below the row's base, and no box of ours, lies as it lay -/
theorem keeps_append {W w1 : World} {base box Bs k : Nat} {e : TypeId} {size : Nat} {v v' : Value} {xs : List Value} {tmp : Obj} (hrow : W.ownsRow base e size v k xs) (hb : Bs < base) (hne : Bs ≠ box) (hlt : Bs < W.heap.size)
    (hgrow : (W.alloc tmp).grownBy w1 v.ownBlock) : (w1.setCell ⟨box, 0, none⟩ v').heap[Bs]? = W.heap[Bs]? := by
  refine (heap_setCell_other _ _ _ _ hne).trans ((hgrow.block Bs (by simp; omega) fun e => ?_).trans (Below.heap_alloc _ _ _ hlt))
  rcases hrow.2 with ⟨rfl, _⟩ | ⟨g, cap, cur, rfl, hg, _, _⟩
  · simp [Value.ownBlock] at e
  · obtain rfl : g = Bs := by simpa [Value.ownBlock] using e.symm
    omega
theorem two_new (w : World) (a b : Int) (t : TypeId) : ∀ j u, (spanV (a, b))[j]? = some u → (w.alloc (.cells #[.int .i64 a, .int .i64 b] t)).cell? ((⟨w.heap.size, 0, none⟩ : Addr).add j) = some u := by
  intro j u hj
  rw [add_lit', Nat.zero_add, cell_of_row _ _ j _ _ _ (heap_alloc_new _ _)]
  simpa [spanV] using hj
theorem runs_stops (m : Nat) (hm : 1 ≤ m) (Bs g : Nat) (f : Nat → Bool) (w : World) (hBs : w.heap[Bs]? = some (.cells #[.pointer (some ⟨g, 0, none⟩)] 55 (0, 0))) (hg : DRow w g f) :
    SeqStopsK Fence.wide m Try.prog 42 #[.pointer (some ⟨Bs, 0, none⟩)] (fun x : Sp => #[Value.agg #[.int .i64 x.1, .int .i64 x.2]]) (KeepsTwo Bs g) (fun ys => ys = normal f) (fun _ => True) 512 w := fun l J Jx W hW _ _ hY h0 =>
  runs1_in m hm l Bs g f J Jx hY W ((hW.block Bs (Array.getElem?_eq_some_iff.1 hBs).1).trans hBs) (RowF.below hg hW (RowF.lt hg)) h0

/-- between two rounds -/
def ListI (w : World) (pre : List Sp) (W : World) : Prop :=
  (∃ v, Boxed W w.heap.size 22 v ∧ W.ownsRow (w.heap.size + 2) 31 2 v pre.length (flatS pre) ∧ True) ∧ (Below w.heap.size w W ∧ (w.heap.size + 2 ≤ W.heap.size))
theorem listI_own (w : World) : OwnFrom (w.heap.size + 2) (ListI w) := by
  have h := OwnFrom.and (B := w.heap.size + 2) (Own.from (holdsRow_own (w.heap.size + 2) w.heap.size 22 31 2 (fun pre : List Sp => pre.length) (fun pre => flatS pre) (fun _ _ => True)) _)
    (OwnFrom.and (ownFrom_below (n₀ := w.heap.size) (w₀ := w) (Nat.le_refl _) (by omega)) (fun (_ : List Sp) W W' _ (hs : w.heap.size + 2 ≤ W.heap.size) hg _ => Nat.le_trans hs hg.size))
  exact h

set_option maxRecDepth 100000 in
set_option maxHeartbeats 2000000 in
theorem listP_any (g : Nat) (f : Nat → Bool) (w : World) (hr : DRow w g f) :
    Calls Try.prog 29 #[.pointer (some ⟨g, 0, none⟩)] w fun e w' => SpansIs w w' (normal f) e := by
  have hgl : g < w.heap.size := RowF.lt hr
  have HR := Lib.hid hr
  clear hr
  obtain ⟨iS, hiS, hzS, h1S, h2S⟩ := info_parts spanInfo
  refine (callsIn_wide (n := 3)).1 ?_
  refine callsIn_of_wp_marks Try.func29 rfl trivial ?_ rfl
  simp only [Try.ntmps29, List.size_toArray, List.length_cons, List.length_nil, Nat.reduceAdd, Nat.reduceSub, Array.replicate_succ, Array.replicate_zero, List.push_toArray, List.append_toArray, List.nil_append, List.cons_append]
  gi_wp2_with (refine ⟨trivial, ?_⟩; gi_at_call 39; refine (callsIn_wide.2 (runs_any _ _)).mono ?_; rintro e w' ⟨rfl, rfl⟩)
  have bO := (Boxed.new w 22 (.slice none 0 0)).alloc (.cells #[.pointer (some ⟨g, 0, none⟩)] 55)
  have bN := Boxed.new (w.alloc (.cells #[.slice none 0 0] 22)) 55 (.pointer (some ⟨g, 0, none⟩))
  simp only [World.size_alloc] at bN
  have hB0 : Below w.heap.size w ((w.alloc (.cells #[.slice none 0 0] 22)).alloc (.cells #[.pointer (some ⟨g, 0, none⟩)] 55)) := ((Below.refl _ w).alloc (Nat.le_refl _) _).alloc (by simp) _
  have hsz : ((w.alloc (.cells #[.slice none 0 0] 22)).alloc (.cells #[.pointer (some ⟨g, 0, none⟩)] 55)).heap.size = w.heap.size + 2 := by simp
  obtain ⟨W0, hW0⟩ : ∃ W0, (w.alloc (.cells #[.slice none 0 0] 22)).alloc (.cells #[.pointer (some ⟨g, 0, none⟩)] 55) = W0 := ⟨_, rfl⟩
  rw [hW0] at bO bN hB0 hsz ⊢
  clear hW0
  have hI : OwnFrom W0.heap.size (ListI w) := by rw [hsz]; exact listI_own w
  refine wpIn_rangeFunc_ownH rfl (by omega) (gf := 42) (lb := #[.pointer (some ⟨w.heap.size + 1, 0, none⟩)]) rfl trivial (enters_of Try.func42 (by kernel_rfl) rfl)
    (runs_stops (3 - 1) (by omega) (w.heap.size + 1) g f W0 bN (RowF.below HR.out hB0 hgl)) (fun h k => h.trans k) (keepsTwo_b (by omega) (by omega)) (Below.refl _ _) (fun _ => rfl)
    (ListI w)
    (fun _ _ _ => False)
    hI
    (fun _ _ _ _ _ hs _ _ => hs)
    ⟨⟨_, bO, World.ownsRow_nil _ _ _ _, trivial⟩, hB0, by omega⟩
    (fun x a' W => ∃ Bx, W.heap[Bx]? = some (.cells #[.int .i64 x.1, .int .i64 x.2] 31 (0, 0)) ∧ a' = { tmps := #[.pointer (some ⟨g, 0, none⟩), undef, .pointer (some ⟨w.heap.size, 0, none⟩), .pointer (some ⟨Bx, 0, none⟩), .pointer (some ⟨g, 0, none⟩),
      .func (.func 42) #[] #[.pointer (some ⟨w.heap.size + 1, 0, none⟩)], .agg #[.int .i64 x.1, .int .i64 x.2], undef, undef, undef, undef, undef], defers := [] })
    (fun x a' _ X Y row hs hg hr => by obtain ⟨Bx, h2, h3⟩ := hs; exact ⟨Bx, (grownBy_keeps_cells hg (fun r e => (hr r e).2) h2 rfl).trans h2, h3⟩)
    ?assign ?body ?done ?stop
  case assign =>
    rintro l pre ⟨F, T⟩ W K hL hK
    dsimp only at hK ⊢
    have hL' := hI.alloc (.cells #[.int .i64 F, .int .i64 T] 31) hL
    have hk2 : KeepsTwo (w.heap.size + 1) g W (W.alloc (.cells #[.int .i64 F, .int .i64 T] 31)) := KeepsTwo.of_below (n := W.heap.size) (Below.new1 _ _) (by have := hL.2.2; omega) (by have := hL.2.2; omega)
    gi_wp2
    exact hK _ _ ((KeepsOthers.alloc _ _).from _) hk2 hL' ⟨W.heap.size, heap_alloc_new _ _, rfl⟩
  case body =>
    rintro l pre ⟨F, T⟩ a' W hl ⟨r, hr⟩ ⟨⟨v, hv, hrow, _⟩, hB, hz⟩ ⟨Bx, hBx, rfl⟩ hlt
    dsimp only at hBx ⊢
    have c0 : W.cell? ⟨Bx, 0, none⟩ = some (.int .i64 F) := by rw [cell_of_row _ _ 0 _ _ _ hBx]; rfl
    have c1 : W.cell? ⟨Bx, 1, none⟩ = some (.int .i64 T) := by rw [cell_of_row _ _ 1 _ _ _ hBx]; rfl
    have hc := hv.cell
    have HRW := Lib.hid hrow
    have HBW := Lib.hid hB
    have HV := Lib.hid hv
    have HL := Lib.hid hr
    clear hrow hB hv hBx hr
    gi_wp2_with (gi_at_builtin; refine wpListIn_append_own _ rfl _ _ 22 rfl (w.heap.size + 2) 31 iS _ 2 16 Try.underlying22 hiS hzS h1S h2S rfl (by decide) _ _ _ rfl (HRW.out.alloc _) ⟨W.heap.size, 0, none⟩ 1 1 (spanV (F, T)) rfl rfl (two_new _ _ _ _) (by simp [spanV]; exact ⟨rfl, rfl⟩) (by unfold maxLen; omega) (by omega) (by simp; omega) ?_; intro v' w1 hown' hgrow _; obtain ⟨g', cap', rfl⟩ := ownsRow_succ hown'; obtain ⟨hv1, hv2, hr2, hk2, hb2⟩ := HV.out.appended (by decide) (ownsRow_low HRW.out (by omega)) HBW.out.size (Nat.le_refl _) (ownsRow_low hown' (by omega)) hgrow; have hc1 := hv1.cell; have hf1 := hv1.frozen)
    have hr3 := hown'.kept (grownBy_setCell' w1 w.heap.size (.slice (some ⟨g', 0, none⟩) (pre.length + 1) cap')) (.inr (hv1.not_row (by decide) hown').symm)
    have hkp : ∀ u, KeepsTwo (w.heap.size + 1) g W (w1.setCell ⟨w.heap.size, 0, none⟩ u) := fun u => ⟨(by have := hb2.size; simpa using this), fun b hb => by
      rcases hb with rfl | rfl
      · exact keeps_append HRW.out (by omega) (by omega) (by omega) hgrow
      · exact keeps_append (ownsRow_low HRW.out (Nat.le_refl _)) (by omega) (by omega) (by omega) hgrow⟩
    refine ⟨hk2.from _, hkp _, ⟨_, hv2, ?_, trivial⟩, HBW.out.trans hb2, ?_⟩
    · rw [List.length_append, flatS_append, flatS_one]
      exact hr3
    · have := hb2.size
      omega
  case done =>
    rintro D ys W hD rfl ⟨⟨v, hv, hrow, _⟩, hB, hz⟩ hK
    obtain ⟨A, cap, rfl, hN⟩ := ownsRow_N hrow
    have hc := hv.cell
    have hf := hv.frozen
    have HN := Lib.hid hN
    have HRW := Lib.hid hrow
    have HB := Lib.hid hB
    have HV := Lib.hid hv
    have HK := Lib.hid hK
    clear hN hrow hB hv hK
    gi_wp2
    have hK2 := (KeepsOthers.setCell W ⟨w.heap.size, 0, none⟩ (.slice A (normal f).length cap)).same D _ HK.out rfl
    refine ⟨by simp, .inl ⟨_, _, rfl, run_takeDeferred hK2, ?_⟩⟩
    have hr2 := HRW.out.kept (grownBy_setCell' W w.heap.size (.slice A (normal f).length cap)) (.inr (HV.out.not_row (by decide) HRW.out).symm)
    have hr3 := ownsRow_putObj hr2 (.deferred none) hK2 rfl
    have hb2 := Below.setCell (p := ⟨w.heap.size, 0, none⟩) HB.out (Nat.le_refl _) (.slice A (normal f).length cap)
    have hb3 := hb2.trans (belowK_b (w := w) (Nat.le_refl _) _ D _ (.deferred none) (by omega) hK2 rfl rfl)
    have hc3 := cell_kept (HV.out.set (.slice A (normal f).length cap)).cell (grownBy_putObj' _ D (.deferred none)) (fun r e => by cases e; exact ⟨_, hK2, rfl⟩)
    obtain ⟨A', cap', e, hN⟩ := ownsRow_N hr3
    injection e with e1 _ e2
    subst e1 e2
    obtain ⟨q1, q2, q3⟩ := hN.spans (normal_i64 f)
    exact ⟨_, by simp [results, Try.results29, go_sem, hc3], _, _, _, rfl, q1, q2, q3, hb3⟩
  case stop =>
    rintro D c pre W _ _ h _
    exact h.elim
end Go.Proofs.Ytnbffkeinkgojaa
