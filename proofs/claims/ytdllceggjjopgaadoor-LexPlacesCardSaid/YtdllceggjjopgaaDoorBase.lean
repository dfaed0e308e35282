/- What every layer's walks use: worlds that turn in one block, rows that a call owns and appends to, stores of whole rows, regions walked by hand. -/
import Derived.Test.YtdllceggjjopgaaDoorProg
import Derived.WalkKit
import Derived.WalkSpells
import Derived.WalkLawsBesides
import Derived.Lib.Hide
import Derived.Below
import Derived.Laws.Rows
import Derived.Maps.AppendAt
import Derived.Deep.AppendLies
import Derived.Deep.AppendSrc
import Derived.Deep.RegionLaw
import Derived.Deep.RegionHeld3
import Derived.Deep.MidRow
import Derived.Deep.WholeRow
import Derived.OwnWalk
import Derived.Laws.EntriesVeiled
import Derived.Laws.CopyRow
import Derived.BigRegion
import Derived.BigQuiet
import Derived.StillTailTactics
namespace Go.Proofs.YtdllceggjjopgaaDoor
open Go.RowKit

theorem ret_int {k : IntKind} {a b : Int} (h : a = b) : Ending.returned (.int k a) = .returned (.int k b) := by rw [h]
theorem add_lit' (b o m : Nat) : (⟨b, o, none⟩ : Addr).add m = ⟨b, o + m, none⟩ := by
  unfold Addr.add
  split
  · rename_i h; subst h; rfl
  · rfl
theorem Below.new1 (w : World) (o : Obj) : Below w.heap.size w (w.alloc o) := (Below.refl _ _).alloc (Nat.le_refl _) _
theorem below_of_grown {a b : World} (h : a.grownBy b none) : Below a.heap.size a b := ⟨h.os, h.tape, h.output, h.size, fun k hk => h.block k hk (by simp)⟩
/-- only block r has turned, and what is new -/
def Turn (w w' : World) (r : Nat) : Prop := w.grownBy w' (some r)
theorem Turn.refl (w : World) (r : Nat) : Turn w w r := World.grownBy.refl w _
theorem Turn.trans {a b c : World} {r : Nat} (h : Turn a b r) (k : Turn b c r) : Turn a c r := World.grownBy.trans h k
theorem Turn.of_below {a b : World} {r : Nat} (h : Below a.heap.size a b) : Turn a b r := ⟨h.os, h.tape, h.output, h.size, fun i hi _ => h.block i hi⟩
theorem Turn.below {a b : World} {r B : Nat} (h : Turn a b r) (hB : B ≤ r) (hr : r < a.heap.size) : Below B a b := ⟨h.os, h.tape, h.output, h.size, fun k hk => h.block k (by omega) fun e => by injection e with e; omega⟩
theorem Turn.cell {a b : World} {r : Nat} (h : Turn a b r) {p : Addr} (hp : p.block < a.heap.size) (hne : p.block ≠ r) : b.cell? p = a.cell? p := h.cell_far p hp fun e => hne (by injection e)
theorem Turn.setCell {a b : World} {r i : Nat} {v : Value} (h : Turn a b r) : Turn a (b.setCell ⟨r, i, none⟩ v) r :=
  h.trans ⟨rfl, rfl, rfl, by simp [World.setCell], fun k _ hne => Below.heap_setCell b ⟨r, i, none⟩ v k fun e => hne (by rw [e])⟩
theorem Turn.drewN {a b : World} {r : Nat} (h : Turn a b r) (k : Nat) : Turn a (b.drewN k) r := ⟨h.os, h.tape, h.output, h.size, h.block⟩
theorem Turn.size {a b : World} {r : Nat} (h : Turn a b r) : a.heap.size ≤ b.heap.size := World.grownBy.size h
section
variable {P : Program} (w : World)

/-- a slice value whose row the call owns, not nil -/
def Owns (w : World) (base : Nat) (e : TypeId) (size : Nat) (g n cap : Nat) (xs : List Value) : Prop :=
  xs.length = n * size ∧ base ≤ g ∧ n ≤ cap ∧ cap ≤ maxLen ∧ ∃ cur : Array Value, w.heap[g]? = some (.cells cur e (0, 0)) ∧ cur.size = cap * size ∧ cur.toList.take (n * size) = xs
theorem Owns.row {w : World} {base g n cap : Nat} {e : TypeId} {size : Nat} {xs : List Value} (h : Owns w base e size g n cap xs) : w.ownsRow base e size (.slice (some ⟨g, 0, none⟩) n cap) n xs := by
  obtain ⟨h1, h2, h3, h4, cur, h5, h6, h7⟩ := h
  exact ⟨h1, .inr ⟨g, cap, cur, rfl, h2, h5, h3, h4, h6, h7⟩⟩
theorem Owns.of {w : World} {base g n cap : Nat} {e : TypeId} {size : Nat} {xs : List Value} (h : w.ownsRow base e size (.slice (some ⟨g, 0, none⟩) n cap) n xs) : Owns w base e size g n cap xs := by
  obtain ⟨h1, h | ⟨g', cap', cur, hv, h2, h5, h3, h4, h6, h7⟩⟩ := h
  · cases h.1
  · injection hv with hv _ hc
    injection hv with hv
    injection hv with hv
    subst hv hc
    exact ⟨h1, h2, h3, h4, cur, h5, h6, h7⟩
theorem Owns.lt {w : World} {base g n cap : Nat} {e : TypeId} {size : Nat} {xs : List Value} (h : Owns w base e size g n cap xs) : g < w.heap.size := by
  obtain ⟨_, _, _, _, cur, h5, _⟩ := h
  exact (Array.getElem?_eq_some_iff.1 h5).1
theorem Owns.below {w w' : World} {base g n cap B : Nat} {e : TypeId} {size : Nat} {xs : List Value} (h : Owns w base e size g n cap xs) (hb : Below B w w') (hB : g < B) : Owns w' base e size g n cap xs := by
  obtain ⟨h1, h2, h3, h4, cur, h5, h6, h7⟩ := h
  exact ⟨h1, h2, h3, h4, cur, (hb.block g hB).trans h5, h6, h7⟩
theorem Owns.cell {w : World} {base g n cap : Nat} {e : TypeId} {size : Nat} {xs : List Value} (h : Owns w base e size g n cap xs) (j : Nat) (u : Value) (hu : xs[j]? = some u) : w.cell? ⟨g, j, none⟩ = some u := by
  obtain ⟨h1, h2, h3, h4, cur, h5, h6, h7⟩ := h
  rw [cell_of_row w g j cur e (0, 0) h5]
  rw [← h7, List.getElem?_take] at hu
  split at hu
  · simpa using hu
  · cases hu

theorem run_append_owns (base : Nat) (t tx ty e : TypeId) (i : TypeInfo) (z : Value) (size bytes : Nat) (ht : P.underlying t = some (.slice e)) (hi : P.info? e = some i) (hz : i.zero = some z)
    (hsize : i.size = size) (hby : i.bytes = bytes) (hzs : z.cells.size = size)
    (g n cap : Nat) (xs : List Value) (hown : Owns w base e size g n cap xs) (x : Value) (m : Nat) (news : List Value) (hsrc : Src P size tx x m news w)
    (h63 : n + m ≤ maxLen) (hbytes : (n + m) * bytes ≤ 140737488355328) (hbase : base ≤ w.heap.size) :
    ∃ g' cap' w', (Builtin.append_ #[t, tx] ty #[.slice (some ⟨g, 0, none⟩) n cap, x]).run P w = .ok (.slice (some ⟨g', 0, none⟩) (n + m) cap') w' ∧ Owns w' base e size g' (n + m) cap' (xs ++ news) ∧ Turn w w' g ∧ (g' = g ∨ g' = w.heap.size) := by
  have hsmall : n + m ≤ 9223372036854775807 := by simp only [maxLen] at h63; omega
  obtain ⟨hxl, hbg, hnc, hcm, cur, hg, hcs, htake⟩ := hown
  have hnl := hsrc.newsLen
  have hlen : (xs ++ news).length = (n + m) * size := by rw [List.length_append, hxl, hnl, Nat.add_mul]
  subst hsize
  by_cases hroom : n + m ≤ cap
  · have hfit : n * i.size + news.length ≤ cur.size := by
      rw [hcs, hnl, ← Nat.add_mul]
      exact Nat.mul_le_mul_right _ hroom
    have hst := run_storeCells_at (P := P) g (n * i.size) e news 0 cur w hg (by simpa using hfit) hsrc.one
    simp only [Nat.add_zero] at hst
    have hr : (Builtin.append_ #[t, tx] ty #[.slice (some ⟨g, 0, none⟩) n cap, x]).run P w = .ok (.slice (some ⟨g, 0, none⟩) (n + m) cap) (w.setRow g (cur.toList.take (n * i.size) ++ news ++ cur.toList.drop (n * i.size + news.length)).toArray) := by
      rcases hsrc.kind with ⟨e', hk⟩ | hk <;> simp [Builtin.append_, run_underlying ht, run_underlying hk, sizeOf, typeInfo, hi, hsrc.len, hroom, hsrc.cells, Addr.add_lit, hst]
    refine ⟨g, cap, _, hr, ⟨hlen, hbg, hroom, hcm, _, setRow_heap w g cur _ e _ hg, ?_, ?_⟩, ⟨rfl, rfl, rfl, by simp, fun k _ hk => setRow_other w g k _ (fun e => hk (by simp [e]))⟩, Or.inl rfl⟩
    · have h1 : n * i.size ≤ cap * i.size := Nat.mul_le_mul_right _ hnc
      simp only [List.size_toArray, List.length_append, List.length_take, List.length_drop, Array.length_toList]
      omega
    · rw [htake, ← hlen]
      exact List.take_left
  · have hge := grownCap_ge w (n + m) cap e
    have hcm' : grownCap w (n + m) cap e ≤ maxLen := grownCap_le_maxLen w (n + m) cap e h63
    have holds : ∀ j u, xs[j]? = some u → w.cell? ((⟨g, 0, none⟩ : Addr).add j) = some u := fun j u hu => by
      rw [add_lit', Nat.zero_add, cell_of_row w g j cur e (0, 0) hg]
      rw [← htake, List.getElem?_take] at hu
      split at hu
      · simpa using hu
      · cases hu
    have hold := run_firstCells_some (P := P) w.drew i.size n ⟨g, 0, none⟩ n cap xs hxl (by simpa using holds)
    have hfit := growslice_fits (need := n + m) (old := cap) (bytes := bytes) (by omega) hbytes
    have hr := run_append_grow_src (P := P) w t tx ty e i z ht hi hz (some ⟨g, 0, none⟩) n cap xs hold x m news hsrc (by omega) (by omega) (by rw [hby]; exact hfit)
    refine ⟨w.heap.size, _, _, hr, ⟨hlen, hbase, hge, hcm', _, heap_alloc_new w.drew _, ?_, ?_⟩, ⟨rfl, rfl, rfl, by simp, fun k hk _ => heap_alloc_old w.drew _ hk⟩, Or.inr rfl⟩
    · simp only [Array.size_append, List.size_toArray, size_zeroCells, hzs]
      rw [hlen, ← Nat.add_mul]
      congr 1
      omega
    · simp only [Array.toList_append]
      rw [← hlen]
      exact List.take_left

theorem wp_append_owns {o : Oper} {a : Act} {K : Act → World → Prop} {Q : Exit → Act → World → Prop} (x y : Operand) (t tx : TypeId)
    (ho : o.op = .call { callee := .builtin .append, args := #[x, y], argTypes := #[t, tx] })
    (base : Nat) (e : TypeId) (i : TypeInfo) (z : Value) (size bytes : Nat) (ht : P.underlying t = some (.slice e)) (hi : P.info? e = some i) (hz : i.zero = some z)
    (hsize : i.size = size) (hby : i.bytes = bytes) (hzs : z.cells.size = size)
    (g n cap : Nat) (xs : List Value) (hs : a.eval x = .slice (some ⟨g, 0, none⟩) n cap) (hown : Owns w base e size g n cap xs) (vx : Value) (hx : a.eval y = vx) (m : Nat) (news : List Value) (hsrc : Src P size tx vx m news w)
    (h63 : n + m ≤ maxLen) (hbytes : (n + m) * bytes ≤ 140737488355328) (hbase : base ≤ w.heap.size)
    (h : ∀ g' cap' w', Hid (Owns w' base e size g' (n + m) cap' (xs ++ news)) → Hid (Turn w w' g) → Hid (g' = g ∨ g' = w.heap.size) → K (a.put o.dst (.slice (some ⟨g', 0, none⟩) (n + m) cap')) w') : o.wp P a w K Q := by
  obtain ⟨g', cap', w', hr, h2, h3, h4⟩ := run_append_owns (P := P) w base t tx o.type e i z size bytes ht hi hz hsize hby hzs g n cap xs hown vx m news hsrc h63 hbytes hbase
  unfold Oper.wp execOp
  simp only [ho, resolve, invoke, builtin, Sem.run_bind, Sem.run_pure, Result.andThen_ok, List.map_toArray, List.map_cons, List.map_nil, hs, hx, hr]
  exact h g' cap' w' h2 h3 h4

theorem wpList_append_owns {ops : Array Oper} {rest : List Oper} {o : Oper} {a : Act} {Q : Exit → Act → World → Prop} (hgd : o.guard = none) (x y : Operand) (t tx : TypeId)
    (ho : o.op = .call { callee := .builtin .append, args := #[x, y], argTypes := #[t, tx] })
    (base : Nat) (e : TypeId) (i : TypeInfo) (z : Value) (size bytes : Nat) (ht : P.underlying t = some (.slice e)) (hi : P.info? e = some i) (hz : i.zero = some z)
    (hsize : i.size = size) (hby : i.bytes = bytes) (hzs : z.cells.size = size)
    (g n cap : Nat) (xs : List Value) (hs : a.eval x = .slice (some ⟨g, 0, none⟩) n cap) (hown : Owns w base e size g n cap xs) (vx : Value) (hx : a.eval y = vx) (m : Nat) (news : List Value) (hsrc : Src P size tx vx m news w)
    (h63 : n + m ≤ maxLen) (hbytes : (n + m) * bytes ≤ 140737488355328) (hbase : base ≤ w.heap.size)
    (h : ∀ g' cap' w', Hid (Owns w' base e size g' (n + m) cap' (xs ++ news)) → Hid (Turn w w' g) → Hid (g' = g ∨ g' = w.heap.size) → wpList P ops Q rest (a.put o.dst (.slice (some ⟨g', 0, none⟩) (n + m) cap')) w') : wpList P ops Q (o :: rest) a w :=
  wpList_plain hgd fun _ hK => wp_append_owns w x y t tx ho base e i z size bytes ht hi hz hsize hby hzs g n cap xs hs hown vx hx m news hsrc h63 hbytes hbase fun g' cap' w' h2 h3 h4 => hK _ _ (h g' cap' w' h2 h3 h4)

theorem step_append_owns {ops : Array Oper} {o : Oper} {a : Act} {K : Act → World → Prop} {Q : Exit → Act → World → Prop} {E : Prop} (hgd : o.guard = none) (x y : Operand) (t tx : TypeId)
    (ho : o.op = .call { callee := .builtin .append, args := #[x, y], argTypes := #[t, tx] })
    (base : Nat) (e : TypeId) (i : TypeInfo) (z : Value) (size bytes : Nat) (ht : P.underlying t = some (.slice e)) (hi : P.info? e = some i) (hz : i.zero = some z)
    (hsize : i.size = size) (hby : i.bytes = bytes) (hzs : z.cells.size = size)
    (g n cap : Nat) (xs : List Value) (hs : a.eval x = .slice (some ⟨g, 0, none⟩) n cap) (hown : Owns w base e size g n cap xs) (vx : Value) (hx : a.eval y = vx) (m : Nat) (news : List Value) (hsrc : Src P size tx vx m news w)
    (h63 : n + m ≤ maxLen) (hbytes : (n + m) * bytes ≤ 140737488355328) (hbase : base ≤ w.heap.size)
    (h : ∀ g' cap' w', Hid (Owns w' base e size g' (n + m) cap' (xs ++ news)) → Hid (Turn w w' g) → Hid (g' = g ∨ g' = w.heap.size) → K (a.put o.dst (.slice (some ⟨g', 0, none⟩) (n + m) cap')) w') :
    if Region.wanted o (yielded ops a.tmps) = true then Oper.wp P o a w K Q else E := by
  have hw : Region.wanted o (yielded ops a.tmps) = true := by simp [Region.wanted, hgd]
  rw [if_pos hw]
  exact wp_append_owns w x y t tx ho base e i z size bytes ht hi hz hsize hby hzs g n cap xs hs hown vx hx m news hsrc h63 hbytes hbase h
end

theorem owns0 {e : TypeId} {size : Nat} (u : World) (base : Nat) (hb : base ≤ u.heap.size) : Owns (u.alloc (.cells #[] e)) base e size u.heap.size 0 0 [] :=
  ⟨(Nat.zero_mul _).symm, hb, Nat.le_refl _, Nat.zero_le _, #[], heap_alloc_new _ _, (Nat.zero_mul _).symm, by simp⟩
theorem Owns.keep {w w' : World} {base g n cap : Nat} {e : TypeId} {size : Nat} {xs : List Value} (h : Owns w base e size g n cap xs) (k : w'.heap[g]? = w.heap[g]?) : Owns w' base e size g n cap xs := by
  obtain ⟨h1, h2, h3, h4, cur, h5, h6, h7⟩ := h
  exact ⟨h1, h2, h3, h4, cur, k.trans h5, h6, h7⟩
/-- a load of a long array behind a guard that says yes -/
theorem wpList_load_want {P : Program} {ops : Array Oper} {rest : List Oper} {op : Oper} {a : Act} {w : World} {Q : Exit → Act → World → Prop} (hw : Region.wanted op (yielded ops a.tmps) = true) (ty : TypeId) (x : Operand) (ho : op.op = .load ty x)
    (b o : Nat) (hx : a.eval x = .pointer (some ⟨b, o, none⟩)) (cs : List Value) (d : TypeDesc) (hc : w.rangeAt b o cs)
    (hu : P.underlying ty = some d) (hd : d.isRow = true) (hi : (P.info? ty).map (·.size) = some cs.length)
    (h : wpList P ops Q rest (a.put op.dst (.agg cs.toArray)) w) : wpList P ops Q (op :: rest) a w :=
  BigFrame.wpList_want hw fun _ hK => wp_load_mid ty x ho b o hx cs d hc hu hd hi (hK _ _ h)
theorem step_store_row {P : Program} {ops : Array Oper} {o : Oper} {a : Act} {w : World} {K : Act → World → Prop} {Q : Exit → Act → World → Prop} {E : Prop} (hgd : o.guard = none) (ty : TypeId) (x y : Operand)
    (ho : o.op = .store ty x y) (hdst : o.dst = none) (g : Nat) (t : TypeId) (old cs : Array Value) (hx : a.eval x = .pointer (some ⟨g, 0, none⟩)) (hy : a.eval y = .agg cs) (hg : w.heap[g]? = some (.cells old t (0, 0)))
    (hi : (P.info? ty).map (·.size) = some cs.size) (hsz : old.size = cs.size) (h1 : cs.all (·.oneCell') = true)
    (h : K a (w.setRow g cs)) : if Region.wanted o (yielded ops a.tmps) = true then Oper.wp P o a w K Q else E := by
  have hw : Region.wanted o (yielded ops a.tmps) = true := by simp [Region.wanted, hgd]
  rw [if_pos hw]
  unfold Oper.wp execOp
  simp only [ho, hx, hy, Instr.storeAt, Instr.sureAddr, Sem.run_bind, Sem.run_pure, Result.andThen_ok, run_storeVar_row w g t ty old cs hg hi hsz h1]
  have h' : K (a.put o.dst undef) (w.setRow g cs) := by rw [hdst]; exact h
  exact h'
theorem Turn.setRow {w w' : World} {r : Nat} (h : Turn w w' r) (cs : Array Value) : Turn w (w'.setRow r cs) r :=
  h.trans ⟨rfl, rfl, rfl, by simp, fun k _ hk => setRow_other w' r k _ (fun e => hk (by simp [e]))⟩
theorem Turn.drew1 (w : World) (r : Nat) : Turn w w.drew r := by
  have h := Turn.refl w r
  exact ⟨h.os, h.tape, h.output, h.size, h.block⟩
theorem heap_alloc2_new (w : World) (A : Obj) (c : Array Value) (t : TypeId) : ((w.alloc A).alloc (.cells c t)).heap[w.heap.size + 1]? = some (.cells c t (0, 0)) := by
  have h := heap_alloc_new (w.alloc A) (.cells c t)
  simpa using h
theorem setRow_alloc2_new (w : World) (A : Obj) (c c' : Array Value) (t : TypeId) : ((w.alloc A).alloc (.cells c t)).setRow (w.heap.size + 1) c' = (w.alloc A).alloc (.cells c' t) := by
  have h := World.setRow_alloc_new (w.alloc A) c c' t
  simpa using h
/-- a cell of an owned row is written -/
theorem Owns.setCell {w : World} {base g n cap : Nat} {e : TypeId} {size : Nat} {xs : List Value} (h : Owns w base e size g n cap xs) (i : Nat) (v : Value) : Owns (w.setCell ⟨g, i, none⟩ v) base e size g n cap (xs.set i v) := by
  obtain ⟨h1, h2, h3, h4, cur, h5, h6, h7⟩ := h
  refine ⟨by rw [List.length_set, h1], h2, h3, h4, cur.setIfInBounds i v, ?_, by rw [Array.size_setIfInBounds, h6], ?_⟩
  · rw [heap_setCell_same w g i _ _ _ h5]
  · rw [Array.toList_setIfInBounds, List.take_set, h7]
theorem Owns.frozen {w : World} {base g n cap : Nat} {e : TypeId} {size : Nat} {xs : List Value} (h : Owns w base e size g n cap xs) (i : Nat) : w.frozen? ⟨g, i, none⟩ = false := by
  obtain ⟨_, _, _, _, cur, h5, _⟩ := h
  exact frozen_of_row w g i _ _ h5
/-- a row that is owned to its end is known whole -/
theorem owns_full {w : World} {base g n : Nat} {e : TypeId} {size : Nat} {xs : List Value} (h : Owns w base e size g n n xs) : w.heap[g]? = some (.cells xs.toArray e (0, 0)) := by
  obtain ⟨h1, _, _, _, cur, h5, h6, h7⟩ := h
  have e : cur = xs.toArray := by rw [← h7, List.take_of_length_le (by rw [Array.length_toList]; omega)]
  rw [e] at h5
  exact h5
/-- a slice value that the call owns, or nil -/
def OwnsN (w : World) (base : Nat) (e : TypeId) (size : Nat) (A : Option Addr) (n cap : Nat) (xs : List Value) : Prop :=
  (A = none ∧ n = 0 ∧ cap = 0 ∧ xs = []) ∨ ∃ g, A = some ⟨g, 0, none⟩ ∧ Owns w base e size g n cap xs
theorem OwnsN.below {w w' : World} {base n cap B : Nat} {A : Option Addr} {e : TypeId} {size : Nat} {xs : List Value} (h : OwnsN w base e size A n cap xs) (hb : Below B w w') (hB : w.heap.size ≤ B) : OwnsN w' base e size A n cap xs := by
  rcases h with h | ⟨g, hA, ho⟩
  · exact .inl h
  · exact .inr ⟨g, hA, ho.below hb (by have := ho.lt; omega)⟩
theorem run_append_N {P : Program} (w : World) (base : Nat) (t tx ty e : TypeId) (i : TypeInfo) (z : Value) (size bytes : Nat) (ht : P.underlying t = some (.slice e)) (hi : P.info? e = some i) (hz : i.zero = some z)
    (hsize : i.size = size) (hby : i.bytes = bytes) (hzs : z.cells.size = size)
    (A : Option Addr) (n cap : Nat) (xs : List Value) (hown : OwnsN w base e size A n cap xs) (x : Value) (m : Nat) (news : List Value) (hsrc : Src P size tx x m news w) (hm : 0 < m)
    (h63 : n + m ≤ maxLen) (hbytes : (n + m) * bytes ≤ 140737488355328) (hbase : base ≤ w.heap.size) :
    ∃ g' cap' w', (Builtin.append_ #[t, tx] ty #[.slice A n cap, x]).run P w = .ok (.slice (some ⟨g', 0, none⟩) (n + m) cap') w' ∧ Owns w' base e size g' (n + m) cap' (xs ++ news) ∧ Below base w w' := by
  rcases hown with ⟨rfl, rfl, rfl, rfl⟩ | ⟨g, rfl, ho⟩
  · have hsmall : 0 + m ≤ 9223372036854775807 := by simp only [maxLen] at h63; omega
    subst hsize
    have hnl := hsrc.newsLen
    have hge := grownCap_ge w (0 + m) 0 e
    have hcm' : grownCap w (0 + m) 0 e ≤ maxLen := grownCap_le_maxLen w (0 + m) 0 e h63
    have hold := run_firstCells_none (P := P) w.drew i.size 0 0 0
    have hfit := growslice_fits (need := 0 + m) (old := 0) (bytes := bytes) (by omega) hbytes
    have hr := run_append_grow_src (P := P) w t tx ty e i z ht hi hz none 0 0 [] hold x m news hsrc (by omega) (by omega) (by rw [hby]; exact hfit)
    refine ⟨w.heap.size, _, _, hr, ⟨?_, hbase, hge, hcm', _, heap_alloc_new w.drew _, ?_, ?_⟩, ((Below.refl _ _).drew.alloc (by exact hbase) _)⟩
    · rw [List.nil_append, hnl, Nat.zero_add]
    · simp only [Array.size_append, List.size_toArray, size_zeroCells, hzs, List.nil_append]
      rw [hnl, ← Nat.add_mul]
      congr 1
      omega
    · simp only [Array.toList_append, List.nil_append]
      rw [Nat.zero_add, ← hnl]
      exact List.take_left
  · obtain ⟨g', cap', w', h1, h2, h3, _⟩ := run_append_owns (P := P) w base t tx ty e i z size bytes ht hi hz hsize hby hzs g n cap xs ho x m news hsrc h63 hbytes hbase
    exact ⟨g', cap', w', h1, h2, h3.below ho.2.1 ho.lt⟩
theorem step_append_N {P : Program} (w : World) {ops : Array Oper} {o : Oper} {a : Act} {K : Act → World → Prop} {Q : Exit → Act → World → Prop} {E : Prop} (hgd : o.guard = none) (x y : Operand) (t tx : TypeId)
    (ho : o.op = .call { callee := .builtin .append, args := #[x, y], argTypes := #[t, tx] })
    (base : Nat) (e : TypeId) (i : TypeInfo) (z : Value) (size bytes : Nat) (ht : P.underlying t = some (.slice e)) (hi : P.info? e = some i) (hz : i.zero = some z)
    (hsize : i.size = size) (hby : i.bytes = bytes) (hzs : z.cells.size = size)
    (A : Option Addr) (n cap : Nat) (xs : List Value) (hs : a.eval x = .slice A n cap) (hown : OwnsN w base e size A n cap xs) (vx : Value) (hx : a.eval y = vx) (m : Nat) (news : List Value) (hsrc : Src P size tx vx m news w) (hm : 0 < m)
    (h63 : n + m ≤ maxLen) (hbytes : (n + m) * bytes ≤ 140737488355328) (hbase : base ≤ w.heap.size)
    (h : ∀ g' cap' w', Hid (Owns w' base e size g' (n + m) cap' (xs ++ news)) → Hid (Below base w w') → K (a.put o.dst (.slice (some ⟨g', 0, none⟩) (n + m) cap')) w') :
    if Region.wanted o (yielded ops a.tmps) = true then Oper.wp P o a w K Q else E := by
  have hw : Region.wanted o (yielded ops a.tmps) = true := by simp [Region.wanted, hgd]
  rw [if_pos hw]
  obtain ⟨g', cap', w', hr, h2, h3⟩ := run_append_N (P := P) w base t tx o.type e i z size bytes ht hi hz hsize hby hzs A n cap xs hown vx m news hsrc hm h63 hbytes hbase
  unfold Oper.wp execOp
  simp only [ho, resolve, invoke, builtin, Sem.run_bind, Sem.run_pure, Result.andThen_ok, List.map_toArray, List.map_cons, List.map_nil, hs, hx, hr]
  exact h g' cap' w' h2 h3

end Go.Proofs.YtdllceggjjopgaaDoor
