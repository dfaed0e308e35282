/- append onto a row that the call owns, of whatever slice: empty, nil or not. -/
import Derived.Test.YtfolmglafnfcbaaDoorRounds
import Derived.Deep.AppendSrc
import Derived.Deep.RegionLaw
import Derived.OwnWalk
import Derived.Laws.EntriesVeiled
import Derived.Laws.CopyRow
namespace Go.Proofs.YtfolmglafnfcbaaDoor
open Go.RowKit

section
variable {P : Program} (w : World)

/-- a slice value whose row the call owns, not nil -/
def Owns (w : World) (base : Nat) (e : TypeId) (size : Nat) (g n cap : Nat) (xs : List Value) : Prop :=
  xs.length = n * size ∧ base ≤ g ∧ n ≤ cap ∧ cap ≤ maxLen ∧ ∃ cur : Array Value, w.heap[g]? = some (.cells cur e (0, 0)) ∧ cur.size = cap * size ∧ cur.toList.take (n * size) = xs
theorem Owns.row {w : World} {base g n cap : Nat} {e : TypeId} {size : Nat} {xs : List Value} (h : Owns w base e size g n cap xs) : w.ownsRow base e size (.slice (some ⟨g, 0, none⟩) n cap) n xs := by
  obtain ⟨h1, h2, h3, h4, cur, h5, h6, h7⟩ := h
  exact ⟨h1, .inr ⟨g, cap, cur, rfl, h2, h5, h3, h4, h6, h7⟩⟩
theorem Owns.of {w : World} {base g n cap : Nat} {e : TypeId} {size : Nat} {xs : List Value} (h : w.ownsRow base e size (.slice (some ⟨g, 0, none⟩) n cap) n xs) : Owns w base e size g n cap xs := by
  obtain ⟨h1, h | ⟨g', cap', cur, hv, h2, h5, h3, h4, h6, h7⟩⟩ := h
  · cases h.1
  · injection hv with hv _ hc
    injection hv with hv
    injection hv with hv
    subst hv hc
    exact ⟨h1, h2, h3, h4, cur, h5, h6, h7⟩
theorem Owns.lt {w : World} {base g n cap : Nat} {e : TypeId} {size : Nat} {xs : List Value} (h : Owns w base e size g n cap xs) : g < w.heap.size := by
  obtain ⟨_, _, _, _, cur, h5, _⟩ := h
  exact (Array.getElem?_eq_some_iff.1 h5).1
theorem Owns.below {w w' : World} {base g n cap B : Nat} {e : TypeId} {size : Nat} {xs : List Value} (h : Owns w base e size g n cap xs) (hb : Below B w w') (hB : g < B) : Owns w' base e size g n cap xs := by
  obtain ⟨h1, h2, h3, h4, cur, h5, h6, h7⟩ := h
  exact ⟨h1, h2, h3, h4, cur, (hb.block g hB).trans h5, h6, h7⟩
theorem Owns.cell {w : World} {base g n cap : Nat} {e : TypeId} {size : Nat} {xs : List Value} (h : Owns w base e size g n cap xs) (j : Nat) (u : Value) (hu : xs[j]? = some u) : w.cell? ⟨g, j, none⟩ = some u := by
  obtain ⟨h1, h2, h3, h4, cur, h5, h6, h7⟩ := h
  rw [cell_of_row w g j cur e (0, 0) h5]
  rw [← h7, List.getElem?_take] at hu
  split at hu
  · simpa using hu
  · cases hu

theorem run_append_owns (base : Nat) (t tx ty e : TypeId) (i : TypeInfo) (z : Value) (size bytes : Nat) (ht : P.underlying t = some (.slice e)) (hi : P.info? e = some i) (hz : i.zero = some z)
    (hsize : i.size = size) (hby : i.bytes = bytes) (hzs : z.cells.size = size)
    (g n cap : Nat) (xs : List Value) (hown : Owns w base e size g n cap xs) (x : Value) (m : Nat) (news : List Value) (hsrc : Src P size tx x m news w)
    (h63 : n + m ≤ maxLen) (hbytes : (n + m) * bytes ≤ 140737488355328) (hbase : base ≤ w.heap.size) :
    ∃ g' cap' w', (Builtin.append_ #[t, tx] ty #[.slice (some ⟨g, 0, none⟩) n cap, x]).run P w = .ok (.slice (some ⟨g', 0, none⟩) (n + m) cap') w' ∧ Owns w' base e size g' (n + m) cap' (xs ++ news) ∧ Turn w w' g ∧ (g' = g ∨ g' = w.heap.size) := by
  have hsmall : n + m ≤ 9223372036854775807 := by simp only [maxLen] at h63; omega
  obtain ⟨hxl, hbg, hnc, hcm, cur, hg, hcs, htake⟩ := hown
  have hnl := hsrc.newsLen
  have hlen : (xs ++ news).length = (n + m) * size := by rw [List.length_append, hxl, hnl, Nat.add_mul]
  subst hsize
  by_cases hroom : n + m ≤ cap
  · have hfit : n * i.size + news.length ≤ cur.size := by
      rw [hcs, hnl, ← Nat.add_mul]
      exact Nat.mul_le_mul_right _ hroom
    have hst := run_storeCells_at (P := P) g (n * i.size) e news 0 cur w hg (by simpa using hfit) hsrc.one
    simp only [Nat.add_zero] at hst
    have hr : (Builtin.append_ #[t, tx] ty #[.slice (some ⟨g, 0, none⟩) n cap, x]).run P w = .ok (.slice (some ⟨g, 0, none⟩) (n + m) cap) (w.setRow g (cur.toList.take (n * i.size) ++ news ++ cur.toList.drop (n * i.size + news.length)).toArray) := by
      rcases hsrc.kind with ⟨e', hk⟩ | hk <;> simp [Builtin.append_, run_underlying ht, run_underlying hk, sizeOf, typeInfo, hi, hsrc.len, hroom, hsrc.cells, Addr.add_lit, hst]
    refine ⟨g, cap, _, hr, ⟨hlen, hbg, hroom, hcm, _, setRow_heap w g cur _ e _ hg, ?_, ?_⟩, ⟨rfl, rfl, rfl, by simp, fun k _ hk => setRow_other w g k _ (fun e => hk (by simp [e]))⟩, Or.inl rfl⟩
    · have h1 : n * i.size ≤ cap * i.size := Nat.mul_le_mul_right _ hnc
      simp only [List.size_toArray, List.length_append, List.length_take, List.length_drop, Array.length_toList]
      omega
    · rw [htake, ← hlen]
      exact List.take_left
  · have hge := grownCap_ge w (n + m) cap e
    have hcm' : grownCap w (n + m) cap e ≤ maxLen := grownCap_le_maxLen w (n + m) cap e h63
    have holds : ∀ j u, xs[j]? = some u → w.cell? ((⟨g, 0, none⟩ : Addr).add j) = some u := fun j u hu => by
      rw [add_lit', Nat.zero_add, cell_of_row w g j cur e (0, 0) hg]
      rw [← htake, List.getElem?_take] at hu
      split at hu
      · simpa using hu
      · cases hu
    have hold := run_firstCells_some (P := P) w.drew i.size n ⟨g, 0, none⟩ n cap xs hxl (by simpa using holds)
    have hfit := growslice_fits (need := n + m) (old := cap) (bytes := bytes) (by omega) hbytes
    have hr := run_append_grow_src (P := P) w t tx ty e i z ht hi hz (some ⟨g, 0, none⟩) n cap xs hold x m news hsrc (by omega) (by omega) (by rw [hby]; exact hfit)
    refine ⟨w.heap.size, _, _, hr, ⟨hlen, hbase, hge, hcm', _, heap_alloc_new w.drew _, ?_, ?_⟩, ⟨rfl, rfl, rfl, by simp, fun k hk _ => heap_alloc_old w.drew _ hk⟩, Or.inr rfl⟩
    · simp only [Array.size_append, List.size_toArray, size_zeroCells, hzs]
      rw [hlen, ← Nat.add_mul]
      congr 1
      omega
    · simp only [Array.toList_append]
      rw [← hlen]
      exact List.take_left

theorem wp_append_owns {o : Oper} {a : Act} {K : Act → World → Prop} {Q : Exit → Act → World → Prop} (x y : Operand) (t tx : TypeId)
    (ho : o.op = .call { callee := .builtin .append, args := #[x, y], argTypes := #[t, tx] })
    (base : Nat) (e : TypeId) (i : TypeInfo) (z : Value) (size bytes : Nat) (ht : P.underlying t = some (.slice e)) (hi : P.info? e = some i) (hz : i.zero = some z)
    (hsize : i.size = size) (hby : i.bytes = bytes) (hzs : z.cells.size = size)
    (g n cap : Nat) (xs : List Value) (hs : a.eval x = .slice (some ⟨g, 0, none⟩) n cap) (hown : Owns w base e size g n cap xs) (vx : Value) (hx : a.eval y = vx) (m : Nat) (news : List Value) (hsrc : Src P size tx vx m news w)
    (h63 : n + m ≤ maxLen) (hbytes : (n + m) * bytes ≤ 140737488355328) (hbase : base ≤ w.heap.size)
    (h : ∀ g' cap' w', Hid (Owns w' base e size g' (n + m) cap' (xs ++ news)) → Hid (Turn w w' g) → Hid (g' = g ∨ g' = w.heap.size) → K (a.put o.dst (.slice (some ⟨g', 0, none⟩) (n + m) cap')) w') : o.wp P a w K Q := by
  obtain ⟨g', cap', w', hr, h2, h3, h4⟩ := run_append_owns (P := P) w base t tx o.type e i z size bytes ht hi hz hsize hby hzs g n cap xs hown vx m news hsrc h63 hbytes hbase
  unfold Oper.wp execOp
  simp only [ho, resolve, invoke, builtin, Sem.run_bind, Sem.run_pure, Result.andThen_ok, List.map_toArray, List.map_cons, List.map_nil, hs, hx, hr]
  exact h g' cap' w' h2 h3 h4

theorem wpList_append_owns {ops : Array Oper} {rest : List Oper} {o : Oper} {a : Act} {Q : Exit → Act → World → Prop} (hgd : o.guard = none) (x y : Operand) (t tx : TypeId)
    (ho : o.op = .call { callee := .builtin .append, args := #[x, y], argTypes := #[t, tx] })
    (base : Nat) (e : TypeId) (i : TypeInfo) (z : Value) (size bytes : Nat) (ht : P.underlying t = some (.slice e)) (hi : P.info? e = some i) (hz : i.zero = some z)
    (hsize : i.size = size) (hby : i.bytes = bytes) (hzs : z.cells.size = size)
    (g n cap : Nat) (xs : List Value) (hs : a.eval x = .slice (some ⟨g, 0, none⟩) n cap) (hown : Owns w base e size g n cap xs) (vx : Value) (hx : a.eval y = vx) (m : Nat) (news : List Value) (hsrc : Src P size tx vx m news w)
    (h63 : n + m ≤ maxLen) (hbytes : (n + m) * bytes ≤ 140737488355328) (hbase : base ≤ w.heap.size)
    (h : ∀ g' cap' w', Hid (Owns w' base e size g' (n + m) cap' (xs ++ news)) → Hid (Turn w w' g) → Hid (g' = g ∨ g' = w.heap.size) → wpList P ops Q rest (a.put o.dst (.slice (some ⟨g', 0, none⟩) (n + m) cap')) w') : wpList P ops Q (o :: rest) a w :=
  wpList_plain hgd fun _ hK => wp_append_owns w x y t tx ho base e i z size bytes ht hi hz hsize hby hzs g n cap xs hs hown vx hx m news hsrc h63 hbytes hbase fun g' cap' w' h2 h3 h4 => hK _ _ (h g' cap' w' h2 h3 h4)

theorem step_append_owns {ops : Array Oper} {o : Oper} {a : Act} {K : Act → World → Prop} {Q : Exit → Act → World → Prop} {E : Prop} (hgd : o.guard = none) (x y : Operand) (t tx : TypeId)
    (ho : o.op = .call { callee := .builtin .append, args := #[x, y], argTypes := #[t, tx] })
    (base : Nat) (e : TypeId) (i : TypeInfo) (z : Value) (size bytes : Nat) (ht : P.underlying t = some (.slice e)) (hi : P.info? e = some i) (hz : i.zero = some z)
    (hsize : i.size = size) (hby : i.bytes = bytes) (hzs : z.cells.size = size)
    (g n cap : Nat) (xs : List Value) (hs : a.eval x = .slice (some ⟨g, 0, none⟩) n cap) (hown : Owns w base e size g n cap xs) (vx : Value) (hx : a.eval y = vx) (m : Nat) (news : List Value) (hsrc : Src P size tx vx m news w)
    (h63 : n + m ≤ maxLen) (hbytes : (n + m) * bytes ≤ 140737488355328) (hbase : base ≤ w.heap.size)
    (h : ∀ g' cap' w', Hid (Owns w' base e size g' (n + m) cap' (xs ++ news)) → Hid (Turn w w' g) → Hid (g' = g ∨ g' = w.heap.size) → K (a.put o.dst (.slice (some ⟨g', 0, none⟩) (n + m) cap')) w') :
    if Region.wanted o (yielded ops a.tmps) = true then Oper.wp P o a w K Q else E := by
  have hw : Region.wanted o (yielded ops a.tmps) = true := by simp [Region.wanted, hgd]
  rw [if_pos hw]
  exact wp_append_owns w x y t tx ho base e i z size bytes ht hi hz hsize hby hzs g n cap xs hs hown vx hx m news hsrc h63 hbytes hbase h
end

/-! Bytes. -/
def bytesV (l : List UInt8) : List Value := l.map fun b => Value.int .u8 b.toNat
theorem bytesV_append (a b : List UInt8) : bytesV (a ++ b) = bytesV a ++ bytesV b := List.map_append
theorem bytesV_length (a : List UInt8) : (bytesV a).length = a.length := List.length_map ..
theorem bytesV_one (l : List UInt8) : ∀ u ∈ bytesV l, u.oneCell' = true := by
  intro u hu
  obtain ⟨_, _, rfl⟩ := List.mem_map.1 hu
  rfl
theorem bytesV_at {l : List UInt8} {j : Nat} {u : Value} (h : (bytesV l)[j]? = some u) : ∃ b, l[j]? = some b ∧ u = .int .u8 (b : UInt8).toNat := by
  unfold bytesV at h
  rw [List.getElem?_map] at h
  cases hl : l[j]? with
  | none => rw [hl] at h; cases h
  | some b => rw [hl] at h; injection h with h; exact ⟨b, rfl, h.symm⟩
theorem byteInfo : (Tryd.prog.info? 5).map (fun i => (i.zero, i.size, i.bytes)) = some (some (.int .u8 0), 1, 1) := by kernel_rfl
/-- bytes that the call owns -/
def OwnB (w : World) (base g n cap : Nat) (xs : List UInt8) : Prop := Owns w base 5 1 g n cap (bytesV xs)
theorem OwnB.len {w : World} {base g n cap : Nat} {xs : List UInt8} (h : OwnB w base g n cap xs) : n = xs.length := by
  have := h.1
  rw [bytesV_length, Nat.mul_one] at this
  exact this.symm
theorem OwnB.rdb {w : World} {base g n cap B : Nat} {xs : List UInt8} (h : OwnB w base g n cap xs) (hB : g < B) : RdB w B (some ⟨g, 0, none⟩) n xs :=
  ⟨h.len, fun _ => ⟨g, 0, rfl, hB, fun j u hu => by
    rw [Nat.zero_add]
    exact Owns.cell h j _ (by unfold bytesV; rw [List.getElem?_map, hu]; rfl)⟩⟩
theorem OwnB.app {w : World} {base g n m cap : Nat} {xs ys : List UInt8} (h : Owns w base 5 1 g (n + m) cap (bytesV xs ++ bytesV ys)) : OwnB w base g (n + m) cap (xs ++ ys) := by
  unfold OwnB
  rw [bytesV_append]
  exact h
/-- what a slice of bytes yields to append -/
theorem RdB.src {w : World} {B n c : Nat} {A : Option Addr} {xs : List UInt8} (h : RdB w B A n xs) (hc : n = 0 → A = none ∨ ∃ a, A = some a) : Src Tryd.prog 1 22 (.slice A n c) n (bytesV xs) w := by
  by_cases h0 : n = 0
  · have hx : xs = [] := List.eq_nil_of_length_eq_zero (by have := h.1; omega)
    subst h0 hx
    rcases hc rfl with rfl | ⟨a, rfl⟩
    · exact Src.ofNil w Tryd.underlying22 c
    · exact Src.ofSlice w Tryd.underlying22 a 0 c [] rfl (fun j u hu => by cases hu) (fun u hu => by cases hu)
  · obtain ⟨b, o, rfl, _, hcell⟩ := h.2 (by omega)
    refine Src.ofSlice w Tryd.underlying22 _ n c (bytesV xs) (by rw [bytesV_length, Nat.mul_one]; exact h.1.symm) (fun j u hu => ?_) (bytesV_one xs)
    obtain ⟨x, hx, rfl⟩ := bytesV_at hu
    rw [add_lit']
    exact hcell j x hx
theorem RdB.srcA {w : World} {B n c : Nat} {A : Option Addr} {xs : List UInt8} (h : RdB w B A n xs) : Src Tryd.prog 1 22 (.slice A n c) n (bytesV xs) w := h.src fun _ => by
  cases A with
  | none => exact .inl rfl
  | some a => exact .inr ⟨a, rfl⟩
end Go.Proofs.YtfolmglafnfcbaaDoor
