/- The reference's Value at a list. -/
import Derived.Test.YtbcaanadmfnegaaRv
import Derived.Deep.RegionLaw
namespace Go.Proofs.Ytbcaanadmfnegaa
open Go.RowKit

theorem rlist_cnt {f : List UInt8 → Option (V × List UInt8)} (hf : ∀ bs v r, f bs = some (v, r) → r.length < bs.length) : ∀ (n : Nat) (bs : List UInt8) (l : List V) (r : List UInt8), rlist f n bs = some (l, r) → n + r.length ≤ bs.length
  | 0, bs, l, r, h => by
    rw [rlist] at h
    injection h with h
    injection h with h1 h2
    subst h2; omega
  | n + 1, bs, l, r, h => by
    rw [rlist] at h
    split at h
    · cases h
    · rename_i v q hq
      split at h
      · cases h
      · rename_i m q' hq'
        injection h with h
        injection h with h1 h2
        subst h2
        have h3 := rlist_cnt hf n _ _ _ hq'
        have h4 := hf _ _ _ hq
        omega
theorem rlist_short {d u : Nat} {bs : List UInt8} (h : bs.length < u) : rlist (rval d) u bs = none := by
  cases h' : rlist (rval d) u bs with
  | none => rfl
  | some p =>
    obtain ⟨l, r⟩ := p
    have := rlist_cnt (rval_lt d) u bs l r h'
    omega

/-- what the loop keeps -/
def RL (w wr : World) (r : Nat) (A : Option Addr) (n c gv d u : Nat) (R0 xs : List UInt8) (j q : Nat) (vs : List V) (ys : List Value) (cur : Value) (bad : Bool) : Prop :=
  (if bad = true then rlist (rval d) u R0 = none else rlist (rval d) u R0 = pre vs (rlist (rval d) (u - j) (xs.drop q)) ∧ j = vs.length ∧ Elems wr (gv + 1) cur.ownBlock vs ys) ∧
    VB wr gv 3 0 (.string ⟨#[]⟩) cur ∧ VB wr w.heap.size 0 0 (.string ⟨#[]⟩) (.slice none 0 0) ∧ wr.ownsRow (gv + 1) 24 4 cur j ys ∧ RR wr r A n c q bad ∧ Turn w wr r ∧ gv + 1 ≤ wr.heap.size

/-- a round -/
theorem RL.step {w wr w3 w4 : World} {r n c gv d u : Nat} {A : Option Addr} {R0 xs : List UInt8} {j q : Nat} {vs : List V} {ys : List Value} {cur : Value} (h : RL w wr r A n c gv d u R0 xs j q vs ys cur false)
    {kv mv : Int} {sv : ByteArray} {Av : Option Addr} {len cv q3 g4 cap4 : Nat} {bad3 : Bool} {ob : Obj} (hr : r < w.heap.size) (hgv : w.heap.size < gv) (hj : j < u) (ht3 : Turn wr w3 r)
    (hL : RLog xs d q q3 bad3 wr w3 kv mv sv Av len cv) (m1 : RR w3 r A n c q3 bad3)
    (hown4 : w4.ownsRow (gv + 1) 24 4 (.slice (some ⟨g4, 0, none⟩) (j + 1) cap4) (j + 1) (ys ++ [.int .i64 kv, .int .i64 mv, .string sv, .slice Av len cv])) (hgrow : (w3.alloc ob).grownBy w4 cur.ownBlock) (hat : cur.ownBlock = some g4 ∨ g4 = w3.heap.size + 1) :
    ∃ vs', RL w (w4.setCell ⟨gv, 3, none⟩ (.slice (some ⟨g4, 0, none⟩) (j + 1) cap4)) r A n c gv d u R0 xs (j + 1) q3 vs' (ys ++ [.int .i64 kv, .int .i64 mv, .string sv, .slice Av len cv]) (.slice (some ⟨g4, 0, none⟩) (j + 1) cap4) bad3 := by
  obtain ⟨h1, h3, h4, h5, h7, h9, h10⟩ := h
  rw [if_neg (by decide)] at h1
  obtain ⟨h1, h2, h6⟩ := h1
  have hrow : ∀ g, cur.ownBlock = some g → gv + 1 ≤ g ∧ g < wr.heap.size := fun g hg => h5.lt g hg
  have hg4 : gv + 1 ≤ g4 := (hown4.lt g4 rfl).1
  have hz3 : wr.heap.size ≤ w3.heap.size := ht3.size
  have hz3' : (w3.alloc ob).heap.size = w3.heap.size + 1 := by simp
  have hz4 : w3.heap.size + 1 ≤ w4.heap.size := by rw [← hz3']; exact hgrow.size
  have hne : ∀ k, k < gv + 1 → some k ≠ cur.ownBlock := fun k hk e => by have := (hrow k e.symm).1; omega
  have v4 : VB w4 gv 3 0 (.string ⟨#[]⟩) cur := ((h3.grown ht3 (by intro e; injection e with e; omega)).below ((Below.refl _ _).alloc (Nat.le_refl _) ob)).grown hgrow (hne _ (by omega))
  have u4 : VB w4 w.heap.size 0 0 (.string ⟨#[]⟩) (.slice none 0 0) := ((h4.grown ht3 (by intro e; injection e with e; omega)).below ((Below.refl _ _).alloc (Nat.le_refl _) ob)).grown hgrow (hne _ (by omega))
  have t4 : Turn w w4 r := ⟨hgrow.os.trans (ht3.os.trans h9.os), hgrow.tape.trans (ht3.tape.trans h9.tape), hgrow.output.trans (ht3.output.trans h9.output), by omega, fun k hk hn =>
    (hgrow.block k (by omega) (hne k (by omega))).trans ((Below.heap_alloc w3 ob k (by omega)).trans ((ht3.block k (by omega) hn).trans (h9.block k hk hn)))⟩
  have r4 : RR w4 r A n c q3 bad3 := (hgrow.block r (by omega) (hne r (by omega))).trans ((Below.heap_alloc w3 ob r (by omega)).trans m1)
  have cell4 : ∀ p : Addr, p.block < w3.heap.size → cur.ownBlock ≠ some p.block → w4.cell? p = w3.cell? p := fun p hp hn => (hgrow.cell_far p (by omega) (Ne.symm hn)).trans (World.cell?_alloc_lt w3 ob p hp)
  have cell5 : ∀ p : Addr, p.block ≠ gv → (w4.setCell ⟨gv, 3, none⟩ (.slice (some ⟨g4, 0, none⟩) (j + 1) cap4)).cell? p = w4.cell? p := fun p hp => World.cell?_setCell_other w4 _ p _ fun e => hp (by rw [← e])
  have cellr : ∀ p : Addr, p.block < wr.heap.size → p.block ≠ r → w3.cell? p = wr.cell? p := fun p hp hn => ht3.cell hp hn
  have hO : (w4.setCell ⟨gv, 3, none⟩ (.slice (some ⟨g4, 0, none⟩) (j + 1) cap4)).ownsRow (gv + 1) 24 4 (.slice (some ⟨g4, 0, none⟩) (j + 1) cap4) (j + 1) (ys ++ [.int .i64 kv, .int .i64 mv, .string sv, .slice Av len cv]) :=
    World.ownsRow.kept hown4 (grown_set w4 gv 3 _) (.inr (by intro e; have h' : g4 = gv := Option.some.inj e; omega))
  have hrest : ∀ (vs' : List V) (hl : if bad3 = true then rlist (rval d) u R0 = none else rlist (rval d) u R0 = pre vs' (rlist (rval d) (u - (j + 1)) (xs.drop q3)) ∧ j + 1 = vs'.length ∧ Elems (w4.setCell ⟨gv, 3, none⟩ (.slice (some ⟨g4, 0, none⟩) (j + 1) cap4)) (gv + 1) (some g4) vs' (ys ++ [.int .i64 kv, .int .i64 mv, .string sv, .slice Av len cv])),
      RL w (w4.setCell ⟨gv, 3, none⟩ (.slice (some ⟨g4, 0, none⟩) (j + 1) cap4)) r A n c gv d u R0 xs (j + 1) q3 vs' (ys ++ [.int .i64 kv, .int .i64 mv, .string sv, .slice Av len cv]) (.slice (some ⟨g4, 0, none⟩) (j + 1) cap4) bad3 := fun vs' hl =>
    ⟨hl, v4.set3 _, u4.far (by show w.heap.size ≠ gv; omega) _, hO, r4.far (by show r ≠ gv; omega) _, t4.set_new (by show w.heap.size ≤ gv; omega) _, by simp [World.setCell]; omega⟩
  have hu1 : u - j = (u - (j + 1)) + 1 := by omega
  unfold RLog at hL
  cases bad3 with
  | true =>
    rw [if_pos rfl] at hL
    refine ⟨vs, hrest vs ?_⟩
    rw [if_pos rfl, h1, hu1, rlist, hL]
    rfl
  | false =>
    rw [if_neg (by decide)] at hL
    obtain ⟨lv, rfl, hf, hRI⟩ := hL
    refine ⟨vs ++ [.mk kv mv sv lv], hrest _ ?_⟩
    rw [if_neg (by decide)]
    refine ⟨by rw [h1, hu1, pre_step hf], by rw [List.length_append, ← h2]; rfl, ?_⟩
    have e3 : Elems w3 (gv + 1) cur.ownBlock vs ys := h6.keep hz3 (fun p hp1 hp2 _ => cellr p hp2 (by omega)) (.inl rfl)
    have e5 : Elems (w4.setCell ⟨gv, 3, none⟩ (.slice (some ⟨g4, 0, none⟩) (j + 1) cap4)) (gv + 1) (some g4) vs ys :=
      e3.keep (by simp [World.setCell]; omega) (fun p hp1 hp2 hn => (cell5 p (by omega)).trans (cell4 p hp2 hn)) (by
        rcases hat with e | e
        · exact .inl e.symm
        · exact .inr ⟨g4, rfl, by omega⟩)
    refine e5.snoc (lo := wr.heap.size) (hi := w3.heap.size) h10 (by simp [World.setCell]; omega) ?_ (hRI.keep (Nat.le_refl _) (Nat.le_refl _) fun p hp1 hp2 => (cell5 p (by omega)).trans (cell4 p hp2 fun e => by have := (hrow _ e).2; omega))
    intro b hb
    have hb' : g4 = b := Option.some.inj hb
    rcases hat with e | e
    · have := (hrow _ e).2; exact .inl (by omega)
    · exact .inr (by omega)

/-- the last round is over -/
theorem RL.done {w wr : World} {r n c gv d u : Nat} {A : Option Addr} {R0 xs : List UInt8} {q : Nat} {vs : List V} {ys : List Value} {Ac : Option Addr} {m cap : Nat} (h : RL w wr r A n c gv d u R0 xs u q vs ys (.slice Ac m cap) false) :
    ∃ l : List V, l.length = m ∧ rlist (rval d) u R0 = some (l, xs.drop q) ∧ RdI wr (gv + 1) wr.heap.size (.mk 3 0 ⟨#[]⟩ l) (.agg #[.int .i64 3, .int .i64 0, .string ⟨#[]⟩, .slice Ac m cap]) := by
  obtain ⟨h1, h3, h4, h5, h7, h9, h10⟩ := h
  rw [if_neg (by decide)] at h1
  obtain ⟨h1, h2, h6⟩ := h1
  have hm : m = u := by
    rcases h5.2 with ⟨e, e2⟩ | ⟨g, c, cu, e, _⟩
    · injection e with _ e _; omega
    · injection e with _ e _
  subst hm
  refine ⟨vs, h2.symm, by rw [h1, Nat.sub_self, rlist]; simp [pre], ?_⟩
  rcases h5.2 with ⟨e, e2⟩ | ⟨g, c, cu, e, e3, e4, _⟩
  · injection e with e _ e3
    subst e; subst e3
    have hv : vs = [] := List.eq_nil_of_length_eq_zero (by omega)
    subst hv
    subst e2
    exact rdi_flat _ _ _ _ _ _ (by unfold I64; omega) (by unfold I64; omega) (by unfold maxLen; exact Nat.zero_le _)
  · injection e with e _ e5
    subst e; subst e5
    rw [h2] at h5 ⊢
    exact Elems.list h6 h5 (h5.lt g rfl).2
theorem RL.cur {w wr : World} {r n c gv d u : Nat} {A : Option Addr} {R0 xs : List UInt8} {j q : Nat} {vs : List V} {ys : List Value} {cur : Value} {bad : Bool} (h : RL w wr r A n c gv d u R0 xs j q vs ys cur bad) : ∃ Ac mc cc, cur = .slice Ac mc cc := by
  rcases h.2.2.2.1.2 with ⟨e, _⟩ | ⟨g, cap, _, e, _⟩
  · exact ⟨_, _, _, e⟩
  · exact ⟨_, _, _, e⟩
end Go.Proofs.Ytbcaanadmfnegaa
