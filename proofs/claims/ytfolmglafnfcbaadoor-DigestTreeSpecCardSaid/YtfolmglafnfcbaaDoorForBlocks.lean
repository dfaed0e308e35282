/- Contract of forBlocks over the method value absorb. -/
import Derived.Test.YtfolmglafnfcbaaDoorChunk
import Derived.Test.YtfolmglafnfcbaaDoorAbsorb
import Derived.Test.YtfolmglafnfcbaaDoorPadM
namespace Go.Proofs.YtfolmglafnfcbaaDoor
open Go.RowKit Go.Shelf
attribute [local go_sem] Oper.semAt_some

/-- the state behind some blocks -/
def foldSt (l : List UInt8) (s : St) {N : Nat} (ps : List (Part N)) : St := ps.foldl (fun s x => blockSt ((l.drop (64 * x.1)).take 64) s) s
theorem foldSt_snoc (l : List UInt8) (s : St) {N : Nat} (ps : List (Part N)) (x : Part N) : foldSt l s (ps ++ [x]) = blockSt ((l.drop (64 * x.1)).take 64) (foldSt l s ps) := by
  simp [foldSt]
theorem foldSt_u (l : List UInt8) {s : St} (h : s.U) {N : Nat} (ps : List (Part N)) : (foldSt l s ps).U := by
  rcases List.eq_nil_or_concat ps with rfl | ⟨qs, x, rfl⟩
  · exact h
  · rw [List.concat_eq_append, foldSt_snoc]; exact blockSt_u _ _
theorem foldSt_parts (l : List UInt8) (s : St) (N k : Nat) (h : k ≤ N) : foldSt l s (parts N k) = runTo l s k := by
  induction k with
  | zero => rfl
  | succ k ih => rw [parts_succ (by omega), foldSt_snoc, ih (by omega)]; rfl

/-- between two blocks -/
structure ForI (w : World) (r : Nat) (A : Option Addr) (n : Nat) (l : List UInt8) (s : St) (Bf : Nat) (fv : Value) {N : Nat} (pre : List (Part N)) (W : World) : Prop where
  st : WRow W r 51 (foldSt l s pre).list
  k : KOK W
  rd : RdB W w.heap.size A n l
  box : W.heap[Bf]? = some (.cells #[fv] 54 (0, 0))
  turn : Turn w W r
  big : w.heap.size + 3 ≤ W.heap.size
theorem forI_own (w : World) (r : Nat) (A : Option Addr) (n : Nat) (l : List UInt8) (s : St) (Bf : Nat) (fv : Value) (N B : Nat) (hB : w.heap.size ≤ B) : OwnFrom B (fun pre W => ForI w r A n l s Bf fv (N := N) pre W) := by
  intro pre W W' row h hg hr
  have hr2 : ∀ r, row = some r → ∃ o : Obj, W.heap[r]? = some o ∧ o.isCells = false := fun r e => (hr r e).2
  refine ⟨?_, fun i hi => cell_kept (h.k i hi) hg hr2, ?_, ?_, ?_, Nat.le_trans h.big hg.size⟩
  · exact (grownBy_keeps_cells hg hr2 h.st rfl).trans h.st
  · refine ⟨h.rd.1, fun hn => ?_⟩
    obtain ⟨b, o, e, hb, hc⟩ := h.rd.2 hn
    exact ⟨b, o, e, hb, fun j u hu => cell_kept (hc j u hu) hg hr2⟩
  · exact (grownBy_keeps_cells hg hr2 h.box rfl).trans h.box
  · refine ⟨hg.os.trans h.turn.os, hg.tape.trans h.turn.tape, hg.output.trans h.turn.output, Nat.le_trans h.turn.size hg.size, fun i hi hne => ?_⟩
    have h1 := h.turn.size
    refine (hg.block i (by omega) fun e => ?_).trans (h.turn.block i hi hne)
    have h2 := (hr i e.symm).1
    omega

set_option maxRecDepth 100000 in
set_option maxHeartbeats 2000000 in
theorem forBlocks_any (r : Nat) (A : Option Addr) (N c : Nat) (l : List UInt8) (s : St) (w : World) (hc : 64 * N ≤ c) (hcm : c ≤ maxLen) (hr : RdB w w.heap.size A (64 * N) l) (har : ∀ b o, 0 < N → A = some ⟨b, o, none⟩ → b ≠ r)
    (hs : WRow w r 51 s.list) (hu : s.U) (hK : KOK w) (hr0 : r ≠ 0) :
    Calls Tryd.prog 28 #[.slice A (64 * N) c, .func (.func 29) #[.pointer (some ⟨r, 0, none⟩)] #[]] w fun e w' => e = .returned (.tuple #[]) ∧ Turn w w' r ∧ WRow w' r 51 (runTo l s N).list := by
  have hlt := hs.lt
  obtain ⟨b, o, hbo⟩ : ∃ b o, 0 < N → A = some ⟨b, o, none⟩ ∧ b < w.heap.size := by
    by_cases h : 0 < N
    · obtain ⟨b, o, e, hb, _⟩ := hr.2 (by omega)
      exact ⟨b, o, fun _ => ⟨e, hb⟩⟩
    · exact ⟨0, 0, fun h' => absurd h' h⟩
  have HR := Lib.hid hr
  have HS := Lib.hid hs
  have HK := Lib.hid hK
  have HBO := Lib.hid hbo
  clear hr hs hK hbo
  refine (callsIn_wide (n := 3)).1 ?_
  refine callsIn_of_wp_marks Tryd.func28 rfl trivial ?_ rfl
  simp only [Tryd.ntmps28, List.size_toArray, List.length_cons, List.length_nil, Nat.reduceAdd, Nat.reduceSub, Array.replicate_succ, Array.replicate_zero, List.push_toArray, List.append_toArray, List.nil_append, List.cons_append]
  gi_wp2_with (refine ⟨trivial, ?_⟩; gi_at_call 47; refine (callsIn_wide.2 (chunk_any A (64 * N) c _)).mono ?_; rintro e w' ⟨rfl, rfl⟩)
  obtain ⟨fv, hfv⟩ : ∃ fv, fv = Value.func (.func 29) #[.pointer (some ⟨r, 0, none⟩)] #[] := ⟨_, rfl⟩
  obtain ⟨w3, hw3⟩ : ∃ w3, w3 = ((w.alloc (.cells #[Value.func (.func 29) #[.pointer (some ⟨r, 0, none⟩)] #[]] 54)).alloc (.cells #[.slice A (64 * N) c] 22)).alloc (.cells #[.int .i64 64] 3) := ⟨_, rfl⟩
  have hb3 : Below w.heap.size w w3 := by rw [hw3]; exact (((Below.refl _ _).alloc (Nat.le_refl _) _).alloc (by simp) _).alloc (by simp; omega) _
  have hz3 : w3.heap.size = w.heap.size + 3 := by rw [hw3]; simp
  have h0 : w3.heap[w.heap.size]? = some (.cells #[fv] 54 (0, 0)) := by
    rw [hw3, hfv]; exact (heap_alloc_old _ _ _ (by simp; omega)).trans ((heap_alloc_old _ _ _ (by simp)).trans (heap_alloc_new _ _))
  have h1 : w3.heap[w.heap.size + 1]? = some (.cells #[.slice A (64 * N) c] 22 (0, 0)) := by
    rw [hw3]; exact (heap_alloc_old _ _ _ (by simp)).trans (by have h := heap_alloc_new (w.alloc (.cells #[Value.func (.func 29) #[.pointer (some ⟨r, 0, none⟩)] #[]] 54)) (.cells #[.slice A (64 * N) c] 22); simpa using h)
  have h2 : w3.heap[w.heap.size + 1 + 1]? = some (.cells #[.int .i64 64] 3 (0, 0)) := by
    rw [hw3]
    have h := heap_alloc_new ((w.alloc (.cells #[Value.func (.func 29) #[.pointer (some ⟨r, 0, none⟩)] #[]] 54)).alloc (.cells #[.slice A (64 * N) c] 22)) (.cells #[.int .i64 64] 3)
    simpa using h
  have hI0 : ForI w r A (64 * N) l s w.heap.size fv (N := N) [] w3 := ⟨HS.out.below hb3 hlt, HK.out.below hb3 (by omega), HR.out.below hb3 (Nat.le_refl _), h0, Turn.of_below hb3, by omega⟩
  rw [← hw3]
  clear hw3
  refine wpIn_rangeFunc_ownF rfl (by omega) (gf := 55) (lb := #[.pointer (some ⟨w.heap.size + 1, 0, none⟩), .pointer (some ⟨w.heap.size + 1 + 1, 0, none⟩)]) rfl trivial (enters_of Tryd.func55 (by kernel_rfl) rfl)
    (chunk_stops (3 - 1) (by omega) (w.heap.size + 1) (w.heap.size + 1 + 1) b o N c A (fun h => (HBO.out h).1) hc hcm w3 h1 h2) (fun h k => h.trans k) (keepsBoxes_b (by omega) (by omega)) (Below.refl _ _) (fun _ => rfl)
    (fun pre W => ForI w r A (64 * N) l s w.heap.size fv (N := N) pre W)
    (fun _ _ _ => False)
    (forI_own w r A (64 * N) l s w.heap.size fv N _ (by omega))
    (fun _ _ _ _ _ hs _ _ => hs)
    hI0
    (fun x => { tmps := #[.slice A (64 * N) c, Value.func (.func 29) #[.pointer (some ⟨r, 0, none⟩)] #[], undef, .pointer (some ⟨w.heap.size, 0, none⟩), .slice (some ⟨b, o + 64 * x.1, none⟩) 64 64, .slice A (64 * N) c,
      .func (.func 55) #[] #[.pointer (some ⟨w.heap.size + 1, 0, none⟩), .pointer (some ⟨w.heap.size + 1 + 1, 0, none⟩)], .slice (some ⟨b, o + 64 * x.1, none⟩) 64 64, undef, undef, undef], defers := [] }) ?assign ?body ?done ?stop
  case assign =>
    intro l x W K hK
    gi_wp2
    exact hK
  case body =>
    rintro l' pre x W hI _
    have hx := x.2
    have cb : W.cell? ⟨w.heap.size, 0, none⟩ = some (Value.func (.func 29) #[.pointer (some ⟨r, 0, none⟩)] #[]) := by rw [← hfv]; exact cell_of_row W _ 0 _ _ _ hI.box
    have HI := Lib.hid hI
    clear hI hI0 h0 h1 h2
    obtain ⟨hAe, hbl⟩ := HBO.out (by omega)
    have hbr : b ≠ r := har b o (by omega) hAe
    have hrd : RdB W W.heap.size (some ⟨b, o + 64 * x.1, none⟩) 64 ((l.drop (64 * x.1)).take 64) := by
      have h := HI.out.rd
      rw [hAe] at h
      exact ((h.drop (m := 64 * x.1) (by omega)).take (m := 64) (by omega)).keep HI.out.turn.size fun _ _ => rfl
    have HRD := Lib.hid hrd
    clear hrd hbl
    gi_wp2_with (refine ⟨trivial, ?_⟩; gi_at_call 29; refine (CallsIn.inRound l' (callsIn_wide.2 (absorb_any r b (o + 64 * x.1) 64 64 ((l.drop (64 * x.1)).take 64) (foldSt l s pre) W (by omega) (by omega) (by unfold maxLen; omega) HRD.out hbr HI.out.st (foldSt_u _ hu _) HI.out.k hr0))).mono ?_; rintro e w' ⟨rfl, ht, hw⟩)
    have hrl := HI.out.st.lt
    have hcr : ∀ (j : Nat) (o : Obj), some r = some j → W.heap[j]? = some o → o.isCells = true := by
      intro j o e h
      injection e with e
      subst e
      rw [HI.out.st] at h
      injection h with h
      subst h
      rfl
    have hsz := HI.out.turn.size
    refine ⟨KeepsOthers.of_grownBy ht hcr, ⟨ht.size, fun i hi => ?_⟩, ?_⟩
    · by_cases hil : i < W.heap.size
      · exact ht.block i hil fun e => by injection e with e; omega
      · exfalso
        have h3 := HI.out.big
        omega
    · refine ⟨?_, HI.out.k.turn ht hr0, ?_, ?_, HI.out.turn.trans ht, Nat.le_trans HI.out.big ht.size⟩
      · rw [foldSt_snoc]; exact hw
      · refine ⟨HI.out.rd.1, fun hn => ?_⟩
        obtain ⟨b', o', e, hb', hc'⟩ := HI.out.rd.2 hn
        exact ⟨b', o', e, hb', fun j u hu => (ht.cell (p := ⟨b', o' + j, none⟩) (by show b' < _; omega) (har b' o' (by omega) e)).trans (hc' j u hu)⟩
      · refine (ht.block _ (Array.getElem?_eq_some_iff.1 HI.out.box).1 fun e => ?_).trans HI.out.box
        injection e with e
        omega
  case done =>
    rintro D xs W hD rfl hI hK
    gi_wp2
    refine ⟨by simp, .inl ⟨_, _, rfl, run_takeDeferred hK, ?_⟩⟩
    have hDr : D ≠ r := by omega
    refine ⟨_, results_none rfl _ _ _, rfl, ?_, ?_⟩
    · refine ⟨hI.turn.os, hI.turn.tape, hI.turn.output, by simpa using hI.turn.size, fun i hi hne => ?_⟩
      exact (World.putObj_heap_other (by omega)).trans (hI.turn.block i hi hne)
    · rw [← foldSt_parts l s N N (Nat.le_refl _)]
      exact (World.putObj_heap_other (by omega)).trans hI.st
  case stop =>
    rintro D c pre W hD _ h _
    exact h.elim
theorem forBlocks_eq (r : Nat) (A : Option Addr) (N n c : Nat) (hn : n = 64 * N) (l : List UInt8) (s : St) (w : World) (hc : n ≤ c) (hcm : c ≤ maxLen) (hr : RdB w w.heap.size A n l) (har : ∀ b o, 0 < N → A = some ⟨b, o, none⟩ → b ≠ r)
    (hs : WRow w r 51 s.list) (hu : s.U) (hK : KOK w) (hr0 : r ≠ 0) :
    Calls Tryd.prog 28 #[.slice A n c, .func (.func 29) #[.pointer (some ⟨r, 0, none⟩)] #[]] w fun e w' => e = .returned (.tuple #[]) ∧ Turn w w' r ∧ WRow w' r 51 (runTo l s N).list := by
  subst hn
  exact forBlocks_any r A N c l s w hc hcm hr har hs hu hK hr0
end Go.Proofs.YtfolmglafnfcbaaDoor
