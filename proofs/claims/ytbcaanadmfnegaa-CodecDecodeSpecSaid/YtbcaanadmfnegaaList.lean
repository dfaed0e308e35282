/- Contracts of the reader's list and value. -/
import Derived.Test.YtbcaanadmfnegaaElems
import Derived.Deep.RegionLaw
namespace Go.Proofs.Ytbcaanadmfnegaa
open Go.RowKit

theorem elemInfo : (Try.prog.info? 24).map (fun i => (i.zero, i.size, i.bytes)) = some (some (.agg #[.int .i64 0, .int .i64 0, .string ⟨#[]⟩, .slice none 0 0]), 4, 56) := by kernel_rfl

/-- what a contract of value says at a depth -/
def VOk (d : Nat) : Prop := ∀ (r n c : Nat) (A : Option Addr) (B : Nat) (bs : List UInt8) (w : World), Rdr w r A n c (16 - (d : Int)) → RdB w B A n bs → B ≤ r → n ≤ 1099511627776 → n ≤ c →
    Calls Try.prog 33 #[.pointer (some ⟨r, 0, none⟩)] w (ValOut w r B n (16 - (d : Int)) (rval d bs))

set_option maxRecDepth 100000 in
set_option maxHeartbeats 1000000 in
/-- one list too many -/
theorem list_no (r n c : Nat) (A : Option Addr) (w : World) (h : Rdr w r A n c 16) :
    Calls Try.prog 54 #[.pointer (some ⟨r, 0, none⟩)] w fun e w' => e = .panicked failChain ∧ Turn w w' r := by
  have h1 := (h.turn_alloc (.cells #[.int .i64 0, .int .i64 0, .string ⟨#[]⟩, .slice none 0 0] 24)).cell1
  have f1 := (h.turn_alloc (.cells #[.int .i64 0, .int .i64 0, .string ⟨#[]⟩, .slice none 0 0] 24)).frozen 1
  have g1 := h.cell1
  have k1 := h.frozen 1
  have hr := h.lt
  have hne : w.heap.size ≠ r := by omega
  clear h
  go_enter Try.func54, Try.ntmps54
  go_wp2_with fail
  refine (fail_any _).mono ?_
  rintro e w' ⟨rfl, rfl⟩
  refine ⟨rfl, rfl, ?_⟩
  exact ⟨rfl, rfl, rfl, by simp [World.setCell], fun k hk hn => (Below.heap_alloc _ _ k (by simpa [World.setCell] using hk)).trans (Below.heap_setCell w ⟨r, 1, none⟩ _ k fun e => hn (by rw [e]))⟩

theorem Turn.undrew {w w' : World} {r : Nat} (h : Turn w.drew w' r) : Turn w w' r := ⟨h.os, h.tape, h.output, h.size, h.block⟩
theorem ValOut.split {w w' : World} {r B n : Nat} {o : Int} {res : Option (V × List UInt8)} {e : Ending} (h : ValOut w.drew r B n o res e w') :
    (res = none ∧ e = .panicked failChain ∧ Turn w w' r) ∨ ∃ k m s l A cap rest A' n', res = some (.mk k m s l, rest) ∧ e = .returned (.agg #[.int .i64 k, .int .i64 m, .string s, .slice A (List.length l) cap]) ∧ Turn w w' r ∧ RdI w' w.heap.size w'.heap.size (.mk k m s l) (.agg #[.int .i64 k, .int .i64 m, .string s, .slice A (List.length l) cap]) ∧ Rdr w' r A' n' n' o ∧ RdB w' B A' n' rest ∧ n' ≤ n := by
  obtain ⟨ht, hm⟩ := h
  cases res with
  | none => exact .inl ⟨rfl, hm, ht.undrew⟩
  | some p =>
    obtain ⟨v, rest⟩ := p
    obtain ⟨⟨k, m, s, l, A, cap, rfl, he, hr⟩, A', n', h1, h2, h3⟩ := hm
    exact .inr ⟨k, m, s, l, A, cap, rest, A', n', rfl, he, ht.undrew, hr, h1, h2, h3⟩
def pre (vs : List V) : Option (List V × List UInt8) → Option (List V × List UInt8)
  | none => none
  | some (l, r) => some (vs ++ l, r)
theorem rlst_none {d u j : Nat} {bs R0 rest : List UInt8} {vs : List V} (hO : rlst (rval d) bs = match rlist (rval d) u R0 with | none => none | some (l, r') => some (.mk 3 0 ⟨#[]⟩ l, r')) (hR : rlist (rval d) u R0 = pre vs (rlist (rval d) (u - j) rest)) (hj : j < u) (hf : rval d rest = none) : rlst (rval d) bs = none := by
  rw [hO, hR, show u - j = (u - j - 1) + 1 by omega, rlist, hf]
  rfl
/-- a variable of the call's own, of type Value -/
def VB (w : World) (g : Nat) (a b : Int) (s cur : Value) : Prop := w.heap[g]? = some (.cells #[.int .i64 a, .int .i64 b, s, cur] 24 (0, 0))
section
variable {w w' : World} {g : Nat} {a b : Int} {s cur : Value}
theorem VB.cell (h : VB w g a b s cur) (i : Nat) : w.cell? ⟨g, i, none⟩ = #[.int .i64 a, .int .i64 b, s, cur][i]? := cell_of_row w g i _ _ _ h
theorem VB.lt (h : VB w g a b s cur) : g < w.heap.size := World.block_lt_of_cell? w ⟨g, 0, none⟩ (h.cell 0)
theorem VB.frozen (h : VB w g a b s cur) (i : Nat) : w.frozen? ⟨g, i, none⟩ = false := by
  unfold VB at h
  simp [World.frozen?, h]
theorem VB.grown {row : Option Nat} (h : VB w g a b s cur) (hg : w.grownBy w' row) (hne : some g ≠ row) : VB w' g a b s cur := (hg.block g h.lt hne).trans h
theorem VB.below (h : VB w g a b s cur) (hb : Below w.heap.size w w') : VB w' g a b s cur := (hb.block g h.lt).trans h
theorem VB.set3 (h : VB w g a b s cur) (x : Value) : VB (w.setCell ⟨g, 3, none⟩ x) g a b s x := by
  unfold VB at h ⊢
  simp [World.setCell, Array.getElem?_modify, h]
theorem VB.far (h : VB w g a b s cur) {p : Addr} (hp : g ≠ p.block) (x : Value) : VB (w.setCell p x) g a b s cur := (Below.heap_setCell w p x g hp).trans h
end

theorem pre_step {f : List UInt8 → Option (V × List UInt8)} {vs : List V} {m : Nat} {v : V} {rest rest2 : List UInt8} (hf : f rest = some (v, rest2)) : pre vs (rlist f (m + 1) rest) = pre (vs ++ [v]) (rlist f m rest2) := by
  rw [rlist, hf]
  simp only
  cases h : rlist f m rest2 with
  | none => rfl
  | some p => simp [pre]
theorem grown_set (w : World) (g i : Nat) (x : Value) : w.grownBy (w.setCell ⟨g, i, none⟩ x) (some g) :=
  ⟨rfl, rfl, rfl, by simp [World.setCell], fun k _ hn => Below.heap_setCell w ⟨g, i, none⟩ x k fun e => hn (by rw [e])⟩

/-- what the loop of list keeps -/
def LInv (w wr : World) (r B d u : Nat) (R0 : List UInt8) (j n2 : Nat) (A2 : Option Addr) (rest : List UInt8) (vs : List V) (xs : List Value) (cur : Value) : Prop :=
  rlist (rval d) u R0 = pre vs (rlist (rval d) (u - j) rest) ∧ j = vs.length ∧ VB wr (w.heap.size + 1) 3 0 (.string ⟨#[]⟩) cur ∧ VB wr w.heap.size 0 0 (.string ⟨#[]⟩) (.slice none 0 0) ∧
    wr.ownsRow (w.heap.size + 2) 24 4 cur j xs ∧ Elems wr (w.heap.size + 2) cur.ownBlock vs xs ∧ Rdr wr r A2 n2 n2 (16 - (d : Int)) ∧ RdB wr B A2 n2 rest ∧ Turn w wr r ∧ w.heap.size + 2 ≤ wr.heap.size

/-- a round -/
theorem LInv.step {w wr w3 w4 : World} {r B d u : Nat} {R0 : List UInt8} {j n2 : Nat} {A2 : Option Addr} {rest : List UInt8} {vs : List V} {xs : List Value} {cur : Value} (h : LInv w wr r B d u R0 j n2 A2 rest vs xs cur)
    {kv mv : Int} {sv : ByteArray} {lv : List V} {Av : Option Addr} {cv : Nat} {rest2 : List UInt8} {A3 : Option Addr} {n3 g4 cap4 : Nat} {ob : Obj} (hB : B ≤ r) (hr : r < w.heap.size) (hj : j < u) (hf : rval d rest = some (.mk kv mv sv lv, rest2)) (ht3 : Turn wr w3 r)
    (hRI : RdI w3 wr.heap.size w3.heap.size (.mk kv mv sv lv) (.agg #[.int .i64 kv, .int .i64 mv, .string sv, .slice Av lv.length cv])) (m1 : Rdr w3 r A3 n3 n3 (16 - (d : Int))) (m2 : RdB w3 B A3 n3 rest2)
    (hown4 : w4.ownsRow (w.heap.size + 2) 24 4 (.slice (some ⟨g4, 0, none⟩) (j + 1) cap4) (j + 1) (xs ++ [.int .i64 kv, .int .i64 mv, .string sv, .slice Av lv.length cv])) (hgrow : (w3.alloc ob).grownBy w4 cur.ownBlock) (hat : cur.ownBlock = some g4 ∨ g4 = w3.heap.size + 1) :
    LInv w (w4.setCell ⟨w.heap.size + 1, 3, none⟩ (.slice (some ⟨g4, 0, none⟩) (j + 1) cap4)) r B d u R0 (j + 1) n3 A3 rest2 (vs ++ [.mk kv mv sv lv]) (xs ++ [.int .i64 kv, .int .i64 mv, .string sv, .slice Av lv.length cv]) (.slice (some ⟨g4, 0, none⟩) (j + 1) cap4) := by
  obtain ⟨h1, h2, h3, h4, h5, h6, h7, h8, h9, h10⟩ := h
  have hrow : ∀ g, cur.ownBlock = some g → w.heap.size + 2 ≤ g ∧ g < wr.heap.size := fun g hg => h5.lt g hg
  have hg4 : w.heap.size + 2 ≤ g4 := (hown4.lt g4 rfl).1
  have hz3 : wr.heap.size ≤ w3.heap.size := ht3.size
  have hz3' : (w3.alloc ob).heap.size = w3.heap.size + 1 := by simp
  have hz4 : w3.heap.size + 1 ≤ w4.heap.size := by rw [← hz3']; exact hgrow.size
  have hne : ∀ k, k < w.heap.size + 2 → some k ≠ cur.ownBlock := fun k hk e => by have := (hrow k e.symm).1; omega
  have b3 : w3.grownBy (w3.alloc ob) (some (w.heap.size + 1)) := World.grownBy_alloc w3 ob _
  have v4 : VB w4 (w.heap.size + 1) 3 0 (.string ⟨#[]⟩) cur := ((h3.grown ht3 (by intro e; injection e with e; omega)).below ((Below.refl _ _).alloc (Nat.le_refl _) ob)).grown hgrow (hne _ (by omega))
  have u4 : VB w4 w.heap.size 0 0 (.string ⟨#[]⟩) (.slice none 0 0) := ((h4.grown ht3 (by intro e; injection e with e; omega)).below ((Below.refl _ _).alloc (Nat.le_refl _) ob)).grown hgrow (hne _ (by omega))
  have t4 : Turn w w4 r := ⟨hgrow.os.trans (ht3.os.trans h9.os), hgrow.tape.trans (ht3.tape.trans h9.tape), hgrow.output.trans (ht3.output.trans h9.output), by omega, fun k hk hn =>
    (hgrow.block k (by omega) (hne k (by omega))).trans ((Below.heap_alloc w3 ob k (by omega)).trans ((ht3.block k (by omega) hn).trans (h9.block k hk hn)))⟩
  have r4 : Rdr w4 r A3 n3 n3 (16 - (d : Int)) := (hgrow.block r (by omega) (hne r (by omega))).trans (m1.turn_alloc ob)
  have cell4 : ∀ p : Addr, p.block < w3.heap.size → cur.ownBlock ≠ some p.block → w4.cell? p = w3.cell? p := fun p hp hn => (hgrow.cell_far p (by omega) (Ne.symm hn)).trans (World.cell?_alloc_lt w3 ob p hp)
  have cell5 : ∀ p : Addr, p.block ≠ w.heap.size + 1 → (w4.setCell ⟨w.heap.size + 1, 3, none⟩ (.slice (some ⟨g4, 0, none⟩) (j + 1) cap4)).cell? p = w4.cell? p := fun p hp => World.cell?_setCell_other w4 _ p _ fun e => hp (by rw [← e])
  have cellr : ∀ p : Addr, p.block < wr.heap.size → p.block ≠ r → w3.cell? p = wr.cell? p := fun p hp hn => ht3.cell hp hn
  refine ⟨?_, by rw [List.length_append, ← h2]; rfl, v4.set3 _, u4.far (by show w.heap.size ≠ w.heap.size + 1; omega) _, ?_, ?_, r4.set (by show r ≠ w.heap.size + 1; omega) _, ?_, t4.set_new (by show w.heap.size ≤ w.heap.size + 1; omega) _, by simp [World.setCell]; omega⟩
  · rw [h1, show u - j = (u - (j + 1)) + 1 by omega, pre_step hf]
  · exact World.ownsRow.kept hown4 (grown_set w4 (w.heap.size + 1) 3 _) (.inr (by intro e; have h' : g4 = w.heap.size + 1 := Option.some.inj e; omega))
  · have e3 : Elems w3 (w.heap.size + 2) cur.ownBlock vs xs := h6.keep hz3 (fun p hp1 hp2 _ => cellr p hp2 (by omega)) (.inl rfl)
    have e5 : Elems (w4.setCell ⟨w.heap.size + 1, 3, none⟩ (.slice (some ⟨g4, 0, none⟩) (j + 1) cap4)) (w.heap.size + 2) (some g4) vs xs :=
      e3.keep (by simp [World.setCell]; omega) (fun p hp1 hp2 hn => (cell5 p (by omega)).trans (cell4 p hp2 hn)) (by
        rcases hat with e | e
        · exact .inl e.symm
        · exact .inr ⟨g4, rfl, by omega⟩)
    refine e5.snoc (lo := wr.heap.size) (hi := w3.heap.size) h10 (by simp [World.setCell]; omega) ?_ (hRI.keep (Nat.le_refl _) (Nat.le_refl _) fun p hp1 hp2 => (cell5 p (by omega)).trans (cell4 p hp2 fun e => by have := (hrow _ e).2; omega))
    intro b hb
    have hb' : g4 = b := Option.some.inj hb
    rcases hat with e | e
    · have := (hrow _ e).2; exact .inl (by omega)
    · exact .inr (by omega)
  · exact m2.keep fun p hp => (cell5 p (by omega)).trans (cell4 p (by omega) fun e => by have := (hrow _ e).1; omega)

theorem rnum_lt : ∀ (bs : List UInt8) (s u v : Nat) (r : List UInt8), rnum s u bs = some (v, r) → r.length < bs.length
  | [], s, u, v, r, h => by simp [rnum] at h
  | b :: bs, s, u, v, r, h => by
    rw [rnum] at h
    split at h
    · cases h
    · split at h
      · injection h with h; injection h with _ h; subst h; simp
      · have := rnum_lt bs _ _ v r h
        simp; omega
theorem rint_lt {bs r : List UInt8} {v : V} (h : rint bs = some (v, r)) : r.length < bs.length := by
  unfold rint at h
  split at h
  · cases h
  · next u r' h' => injection h with h; injection h with _ h; subst h; exact rnum_lt _ _ _ _ _ h'
theorem rtext_lt {bs r : List UInt8} {v : V} (h : rtext bs = some (v, r)) : r.length < bs.length := by
  unfold rtext at h
  split at h
  · cases h
  · next u r' h' =>
    split at h
    · injection h with h; injection h with _ h; subst h
      have := rnum_lt _ _ _ _ _ h'
      simp; omega
    · cases h
theorem rlist_le {f : List UInt8 → Option (V × List UInt8)} (hf : ∀ bs v r, f bs = some (v, r) → r.length < bs.length) : ∀ (n : Nat) (bs : List UInt8) (l : List V) (r : List UInt8), rlist f n bs = some (l, r) → r.length ≤ bs.length
  | 0, bs, l, r, h => by
    rw [rlist] at h
    injection h with h; injection h with _ h; subst h; exact Nat.le_refl _
  | n + 1, bs, l, r, h => by
    rw [rlist] at h
    split at h
    · cases h
    · next v r1 h1 =>
      split at h
      · cases h
      · next l2 r2 h2 =>
        injection h with h; injection h with _ h; subst h
        have := hf _ _ _ h1
        have := rlist_le hf n _ _ _ h2
        omega
theorem rval_lt : ∀ (d : Nat) (bs : List UInt8) (v : V) (r : List UInt8), rval d bs = some (v, r) → r.length < bs.length
  | d, [], v, r, h => by cases d <;> simp [rval] at h
  | 0, b :: bs, v, r, h => by
    rw [rval] at h
    split at h
    · have := rint_lt h; simp; omega
    · split at h
      · have := rtext_lt h; simp; omega
      · cases h
  | d + 1, b :: bs, v, r, h => by
    rw [rval] at h
    split at h
    · have := rint_lt h; simp; omega
    · split at h
      · have := rtext_lt h; simp; omega
      · split at h
        · unfold rlst at h
          split at h
          · cases h
          · next u r' h' =>
            split at h
            · cases h
            · next l r2 h2 =>
              injection h with h; injection h with _ h; subst h
              have := rnum_lt _ _ _ _ _ h'
              have := rlist_le (rval_lt d) _ _ _ _ h2
              simp; omega
        · cases h

/-- the last round is over -/
theorem LInv.done {w wr : World} {r B n d u : Nat} {R0 bs : List UInt8} {n2 : Nat} {A2 : Option Addr} {rest : List UInt8} {vs : List V} {xs : List Value} {A : Option Addr} {m cap : Nat} (h : LInv w wr r B d u R0 u n2 A2 rest vs xs (.slice A m cap)) (hB : B ≤ r) (hr : r < w.heap.size) (hn : n2 ≤ n)
    (hO : rlst (rval d) bs = match rlist (rval d) u R0 with | none => none | some (l, r') => some (.mk 3 0 ⟨#[]⟩ l, r')) :
    ValOut w r B n (15 - (d : Int)) (rlst (rval d) bs) (.returned (.agg #[.int .i64 3, .int .i64 0, .string ⟨#[]⟩, .slice A m cap])) (((((wr.setCell ⟨r, 1, none⟩ (.int .i64 (15 - (d : Int)))).setCell ⟨w.heap.size, 0, none⟩ (.int .i64 3)).setCell ⟨w.heap.size, 1, none⟩ (.int .i64 0)).setCell ⟨w.heap.size, 2, none⟩ (.string ⟨#[]⟩)).setCell ⟨w.heap.size, 3, none⟩ (.slice A m cap)) := by
  obtain ⟨h1, h2, h3, h4, h5, h6, h7, h8, h9, h10⟩ := h
  have hz : w.heap.size ≤ wr.heap.size := h9.size
  have t1 : Turn w (wr.setCell ⟨r, 1, none⟩ (.int .i64 (15 - (d : Int)))) r := h9.trans (grown_set wr r 1 _)
  have r1 : Rdr (wr.setCell ⟨r, 1, none⟩ (.int .i64 (15 - (d : Int)))) r A2 n2 n2 (15 - (d : Int)) := by
    unfold Rdr at h7 ⊢
    simp [World.setCell, Array.getElem?_modify, h7]
  have hm : m = u := by
    rcases h5.2 with ⟨e, e2⟩ | ⟨g, c, cu, e, _⟩
    · injection e with _ e _; omega
    · injection e with _ e _
  subst hm
  refine ⟨(((t1.set_new (Nat.le_refl _) _).set_new (Nat.le_refl _) _).set_new (Nat.le_refl _) _).set_new (Nat.le_refl _) _, ?_⟩
  rw [hO, h1, Nat.sub_self, rlist]
  simp only [pre, List.append_nil]
  refine ⟨⟨3, 0, ⟨#[]⟩, vs, A, cap, rfl, by rw [h2], ?_⟩, A2, n2, ?_, ?_, hn⟩
  · rcases h5.2 with ⟨e, e2⟩ | ⟨g, c, cu, e, e3, e4, _⟩
    · injection e with e _ e3
      subst e; subst e3
      have hv : vs = [] := List.eq_nil_of_length_eq_zero (by omega)
      subst hv
      subst e2
      exact rdi_flat _ _ _ _ _ _ (by unfold I64; omega) (by unfold I64; omega) (by unfold maxLen; exact Nat.zero_le _)
    · injection e with e _ e5
      subst e; subst e5
      rw [h2] at h5 ⊢
      have hg : g < wr.heap.size := (h5.lt g rfl).2
      refine (Elems.list h6 h5 hg).keep (by omega) (by simp [World.setCell]) fun p hp1 hp2 => ?_
      rw [World.cell?_setCell_other _ _ _ _ (by intro e; rw [← e] at hp1; simp at hp1; omega), World.cell?_setCell_other _ _ _ _ (by intro e; rw [← e] at hp1; simp at hp1; omega), World.cell?_setCell_other _ _ _ _ (by intro e; rw [← e] at hp1; simp at hp1; omega), World.cell?_setCell_other _ _ _ _ (by intro e; rw [← e] at hp1; simp at hp1; omega), World.cell?_setCell_other _ _ _ _ (by intro e; rw [← e] at hp1; simp at hp1; omega)]
  · exact (((r1.set (by show r ≠ w.heap.size; omega) _).set (by show r ≠ w.heap.size; omega) _).set (by show r ≠ w.heap.size; omega) _).set (by show r ≠ w.heap.size; omega) _
  · exact ((((h8.set (by show B ≤ r; omega) _).set (by show B ≤ w.heap.size; omega) _).set (by show B ≤ w.heap.size; omega) _).set (by show B ≤ w.heap.size; omega) _).set (by show B ≤ w.heap.size; omega) _

set_option maxRecDepth 100000 in
set_option maxHeartbeats 4000000 in
theorem list_any (d : Nat) (hv : VOk d) (r n c : Nat) (A : Option Addr) (B : Nat) (bs : List UInt8) (w : World) (h : Rdr w r A n c (15 - (d : Int))) (hd : d ≤ 15) (hb : RdB w B A n bs) (hB : B ≤ r) (hn : n ≤ 1099511627776) (hc : n ≤ c) :
    Calls Try.prog 54 #[.pointer (some ⟨r, 0, none⟩)] w (ValOut w r B n (15 - (d : Int)) (rlst (rval d) bs)) := by
  have g1 := h.cell1
  have k1 := h.frozen 1
  have h1 := (h.turn_alloc (.cells #[.int .i64 0, .int .i64 0, .string ⟨#[]⟩, .slice none 0 0] 24)).cell1
  have f1 := (h.turn_alloc (.cells #[.int .i64 0, .int .i64 0, .string ⟨#[]⟩, .slice none 0 0] 24)).frozen 1
  have hr := h.lt
  have hne : w.heap.size ≠ r := by omega
  have hne1 : w.heap.size + 1 ≠ r := by omega
  have e16 : 15 - (d : Int) + 1 = 16 - (d : Int) := by omega
  have e15 : 16 - (d : Int) - 1 = 15 - (d : Int) := by omega
  obtain ⟨X, hX⟩ : ∃ X : World, X = ((w.setCell ⟨r, 1, none⟩ (.int .i64 (16 - (d : Int)))).alloc (.cells #[.int .i64 0, .int .i64 0, .string ⟨#[]⟩, .slice none 0 0] 24)).alloc (.cells #[.int .i64 3, .int .i64 0, .string ⟨#[]⟩, .slice none 0 0] 24) := ⟨_, rfl⟩
  have hXr : Rdr X r A n c (16 - (d : Int)) := by
    have h0 : Rdr (w.setCell ⟨r, 1, none⟩ (.int .i64 (16 - (d : Int)))) r A n c (16 - (d : Int)) := by
      unfold Rdr at h ⊢
      simp [World.setCell, Array.getElem?_modify, h]
    rw [hX]
    exact (h0.turn_alloc _).turn_alloc _
  have hXt : Turn w X r := by
    rw [hX]
    exact ⟨rfl, rfl, rfl, by simp [World.setCell]; omega, fun k hk hn => (Below.heap_alloc _ _ k (by simp [World.setCell]; omega)).trans ((Below.heap_alloc _ _ k (by simpa [World.setCell] using hk)).trans (Below.heap_setCell w ⟨r, 1, none⟩ _ k fun e => hn (by rw [e])))⟩
  have hXb : RdB X B A n bs := hb.below (hXt.below hB hr)
  have hXz : X.heap.size = w.heap.size + 2 := by rw [hX]; simp [World.setCell]
  have hXv : VB X (w.heap.size + 1) 3 0 (.string ⟨#[]⟩) (.slice none 0 0) := by
    unfold VB; rw [hX]
    have := heap_alloc_new ((w.setCell ⟨r, 1, none⟩ (.int .i64 (16 - (d : Int)))).alloc (.cells #[.int .i64 0, .int .i64 0, .string ⟨#[]⟩, .slice none 0 0] 24)) (.cells #[.int .i64 3, .int .i64 0, .string ⟨#[]⟩, .slice none 0 0] 24)
    simpa [World.setCell] using this
  have hXu : VB X w.heap.size 0 0 (.string ⟨#[]⟩) (.slice none 0 0) := by
    unfold VB; rw [hX, Below.heap_alloc _ _ _ (by simp [World.setCell])]
    have := heap_alloc_new (w.setCell ⟨r, 1, none⟩ (.int .i64 (16 - (d : Int)))) (.cells #[.int .i64 0, .int .i64 0, .string ⟨#[]⟩, .slice none 0 0] 24)
    simpa [World.setCell] using this
  have HX := Lib.hid hX
  have HXR := Lib.hid hXr
  have HXT := Lib.hid hXt
  have HXB := Lib.hid hXb
  have HXZ := Lib.hid hXz
  have HXV := Lib.hid hXv
  have HXU := Lib.hid hXu
  have HV := Lib.hid hv
  clear h hb hv hX hXr hXt hXb hXz hXv hXu
  have HNUM := Lib.hid (numeral_any r n c A (16 - (d : Int)) B bs X HXR.out HXB.out hB hn hc)
  cases hres : rnum 0 0 bs with
  | none =>
    rw [hres] at HNUM
    have HO : Hid (rlst (rval d) bs = none) := by unfold Hid; rw [rlst, hres]
    clear hres
    go_enter Try.func54, Try.ntmps54
    go_wp2_with fail
    rw [← HX.out]
    refine HNUM.out.mono ?_
    rintro e w1 ⟨ht, rfl⟩
    refine ⟨rfl, HXT.out.trans ht, ?_⟩
    rw [HO.out]
  | some p =>
    obtain ⟨u, R0⟩ := p
    rw [hres] at HNUM
    have HO : Hid (rlst (rval d) bs = match rlist (rval d) u R0 with | none => none | some (l, r') => some (.mk 3 0 ⟨#[]⟩ l, r')) := by unfold Hid; rw [rlst, hres]; rfl
    clear hres
    go_enter Try.func54, Try.ntmps54
    go_wp2_with fail
    rw [← HX.out]
    refine HNUM.out.mono ?_
    rintro e w1 ⟨ht, rfl, hu, A', n', q1, q2, q3⟩
    have V1 := Lib.hid (HXV.out.grown ht (by intro e; injection e with e; exact hne1 e))
    have U1 := Lib.hid (HXU.out.grown ht (by intro e; injection e with e; exact hne e))
    have T1 := Lib.hid (HXT.out.trans ht)
    have Q1 := Lib.hid q1
    have Q2 := Lib.hid q2
    have hz1 : w.heap.size + 2 ≤ w1.heap.size := by have := ht.size; rw [HXZ.out] at this; exact this
    clear ht q1 q2
    go_wp2_with fail
    go_loopw [20] (fun i wr => ∃ (j n2 : Nat) (A2 : Option Addr) (rest : List UInt8) (vs : List V) (xs : List Value) (cur : Value), j ≤ u ∧ i = .int .u64 (j : Int) ∧ j + n2 ≤ n + 1 ∧ n2 ≤ n ∧ Hid (LInv w wr r B d u R0 j n2 A2 rest vs xs cur)) (fun i _ => u - (intOf i).toNat)
    case atStart => exact ⟨0, n', A', R0, [], [], .slice none 0 0, Nat.zero_le _, rfl, by omega, q3, by unfold pre; rw [Nat.sub_zero]; split <;> simp_all, rfl, V1.out, U1.out, World.ownsRow_nil _ _ _ _, Elems.nil _ _ _, Q1.out, Q2.out, T1.out, hz1⟩
    case round =>
      obtain ⟨j, n2, A2, rest, vs, xs, cur, hj, rfl, hn2, hn3, HI⟩ := hrel
      obtain ⟨HR, HL, HVB, HUB, HOW, HEL, HRD, HRB, HTU, hz2⟩ := HI.out
      clear HL HEL
      obtain ⟨i0, hi, hz0, hzz1, hzz2⟩ := info_parts elemInfo
      by_cases hlt : j < u
      · have HVC := Lib.hid (HV.out r n2 n2 A2 B rest wr.drew HRD HRB hB (by omega) (Nat.le_refl _))
        have c3 := HVB.cell 3
        have hvl := HVB.lt
        have hrl : r < wr.heap.size := HRD.lt
        have hrow : ∀ g, cur.ownBlock = some g → w.heap.size + 2 ≤ g := fun g hg => (HOW.lt g hg).1
        have hrne : cur.ownBlock = none ∨ cur.ownBlock ≠ some r := .inr fun e => by have := hrow r e; omega
        have hrb : rest.length = n2 := HRB.1.symm
        have HVB := Lib.hid HVB
        have HOW := Lib.hid HOW
        have HTU := Lib.hid HTU
        have HR := Lib.hid HR
        go_wp2_with fail
        go_region_law (first
          | (go_simp; go_at_call 33
             refine HVC.out.mono ?_
             rintro e w3 hm
             rcases ValOut.split hm with ⟨hfr, rfl, ht3⟩ | ⟨kv, mv, sv, lv, Av, cv, rest2, A3, n3, hfr, rfl, ht3, hRI, m1, m2, m3⟩
             · refine ⟨rfl, HTU.out.trans ht3, ?_⟩
               rw [rlst_none HO.out HR.out hlt hfr]
             have HFR := Lib.hid hfr
             have HRI := Lib.hid hRI
             have M1 := Lib.hid m1
             have M2 := Lib.hid m2
             have HT3 := Lib.hid ht3
             have c3' : w3.cell? ⟨w.heap.size + 1, 3, none⟩ = some cur := (ht3.cell (p := ⟨w.heap.size + 1, 3, none⟩) hvl hne1).trans c3
             have hz3 : wr.heap.size ≤ w3.heap.size := ht3.size
             have c3'' : ∀ O, (w3.alloc O).cell? ⟨w.heap.size + 1, 3, none⟩ = some cur := fun O => (World.cell?_alloc_lt w3 O ⟨w.heap.size + 1, 3, none⟩ (Nat.lt_of_lt_of_le hvl hz3)).trans c3'
             have HOW3 := Lib.hid (World.ownsRow.kept HOW.out HT3.out hrne)
             have hlen : n3 < n2 := by have := rval_lt _ _ _ _ hfr; have := m2.1; omega
             clear hm hfr hRI m1 m2 ht3)
          | (refine step_append_lies _ (by rfl) _ _ _ (by rfl) (w.heap.size + 2) 24 i0 _ 4 56 Try.underlying22 hi hz0 hzz1 hzz2 rfl (by omega) cur j xs (by rfl) (World.ownsRow.alloc HOW3.out _) ⟨w3.heap.size, 0, none⟩ 1 1 [.int .i64 kv, .int .i64 mv, .string sv, .slice Av lv.length cv] (by rfl) (by rfl) (World.news_of_block (cs := #[.int .i64 kv, .int .i64 mv, .string sv, .slice Av lv.length cv]) (t := 24) (fr := (0, 0)) (heap_alloc_new w3 _)) (by simp [Value.oneCell']) (by omega) (by unfold maxLen; omega) (by omega) (by simp; omega) (w3.heap.size + 1) (by simp) ?_
             intro g4 cap4 w4 hown4 hgrow4 hat4 hlt4
             have v4 : VB w4 (w.heap.size + 1) 3 0 (.string ⟨#[]⟩) cur := ((HVB.out.grown HT3.out (by intro e; injection e with e; exact hne1 e)).below ((Below.refl _ _).alloc (Nat.le_refl _) _)).grown hgrow4 (by intro e; have := hrow _ e.symm; omega)
             have d4 := v4.cell 3
             have f4 := v4.frozen 3
             have HI4 := Lib.hid (LInv.step HI.out hB hr hlt HFR.out HT3.out HRI.out M1.out M2.out hown4 hgrow4 hat4)
             clear hown4 hgrow4 hat4 v4))
        all_goals
          go_wp2_with fail
          go_roundw
          case rel => exact ⟨j + 1, n3, A3, rest2, vs ++ [.mk kv mv sv lv], _, _, by omega, by go_num, by omega, by omega, HI4⟩
          case measure => simp [intOf]; omega
      · have hje : j = u := by omega
        subst hje
        have c3 := HRD.cell1
        have k3 := HRD.frozen 1
        have cc := HVB.cell
        have hdn := Lib.hid (HVB.far (p := ⟨r, 1, none⟩) hne1 (.int .i64 (15 - (d : Int))))
        have hun := Lib.hid (HUB.far (p := ⟨r, 1, none⟩) hne (.int .i64 (15 - (d : Int))))
        have a0 := hdn.out.cell 0
        have a1 := hdn.out.cell 1
        have a2 := hdn.out.cell 2
        have a3 := hdn.out.cell 3
        have b0 := hun.out.cell 0
        have b1 := hun.out.cell 1
        have b2 := hun.out.cell 2
        have b3 := hun.out.cell 3
        have q0 := hun.out.frozen 0
        have q1 := hun.out.frozen 1
        have q2 := hun.out.frozen 2
        have q3 := hun.out.frozen 3
        have hwf : (16 - (d : Int) - 1) = 15 - (d : Int) := e15
        obtain ⟨Ac, mc, cc', rfl⟩ : ∃ Ac mc cc', cur = .slice Ac mc cc' := by
          rcases HOW.2 with ⟨e, _⟩ | ⟨g, cap, _, e, _⟩
          · exact ⟨_, _, _, e⟩
          · exact ⟨_, _, _, e⟩
        clear HR HVB HUB HOW HRD HRB HTU cc
        go_wp2_with fail
        refine bodyPost_ret (v := .agg #[.int .i64 3, .int .i64 0, .string ⟨#[]⟩, .slice Ac mc cc']) (by simp [results, Try.results54, go_sem, b0, b1, b2, b3]) rfl ?_
        exact LInv.done HI.out hB hr hn3 HO.out
end Go.Proofs.Ytbcaanadmfnegaa
