/- Contracts of writeInt, writeText, writeList, write. -/
import Derived.Test.YtbcaanadmfnegaaStr
namespace Go.Proofs.Ytbcaanadmfnegaa
open Go.RowKit

set_option maxRecDepth 100000 in
set_option maxHeartbeats 1000000 in
theorem writeInt_any (k n : Int) (s : ByteArray) (A : Option Addr) (len cap : Nat) (hn : I64 n) (w : World) (base : Nat) (v : Value) (xs : List UInt8) (hb : base ≤ w.heap.size) (hown : Own w base v xs) (hx : xs.length ≤ 2199023255552) :
    Calls Try.prog 47 #[v, .agg #[.int .i64 k, .int .i64 n, .string s, .slice A len cap]] w (Wrote w base v xs (num (uform n).toNat)) := by
  obtain ⟨h0, h1⟩ := hn
  obtain ⟨u0, u1⟩ := uform_bd n h0 h1
  obtain ⟨u, hu⟩ := Int.eq_ofNat_of_zero_le u0
  have HU := Lib.hid hu
  have hu1 : u ≤ 18446744073709551615 := by omega
  have HOWN := Lib.hid hown
  clear hown hu u0 u1
  go_enter Try.func47, Try.ntmps47
  go_wp2_with fail
  refine (unsigned_any n h0 h1 _).mono ?_
  rintro e w1 ⟨rfl, rfl⟩
  rw [HU.out]
  go_wp2_with fail
  refine (writeNumeral_any u hu1 _ base v xs (by simp; omega) (HOWN.out.below ((Below.refl _ _).alloc (Nat.le_refl _) _)) hx).mono ?_
  rintro e w1 ⟨g, c, N, rfl, HN, hO, hT⟩
  go_wp2_with fail
  go_ret
  have hz : (uform n).toNat = u := by rw [HU.out]; rfl
  rw [hz]
  exact wrote_mk hO ((Turned.of_below ((Below.refl _ _).alloc (Nat.le_refl _) _)).trans hT) rfl HN.out rfl

set_option maxRecDepth 100000 in
set_option maxHeartbeats 1000000 in
theorem writeText_any (k n : Int) (s : ByteArray) (A : Option Addr) (len cap : Nat) (hs : s.size ≤ 1099511627776) (w : World) (base : Nat) (v : Value) (xs : List UInt8) (hb : base ≤ w.heap.size) (hown : Own w base v xs) (hx : xs.length ≤ 2199023255552) :
    Calls Try.prog 50 #[v, .agg #[.int .i64 k, .int .i64 n, .string s, .slice A len cap]] w (Wrote w base v xs (num s.size ++ s.data.toList)) := by
  obtain ⟨i0, hi, hz0, hz1, hz2⟩ := info_parts byteInfo
  have hd := digs_ten (u := s.size) (by omega)
  have HOWN := Lib.hid hown
  clear hown
  have k1 : IntKind.u64.wrap (s.size : Int) = (s.size : Int) := IntWalk.u64_in _ (by omega)
  obtain ⟨W, hWd⟩ : ∃ W : World, W = w.alloc (.cells #[.int .i64 k, .int .i64 n, .string s, .slice A len cap] 24) := ⟨_, rfl⟩
  have c2 : W.cell? ⟨w.heap.size, 2, none⟩ = some (.string s) := by rw [hWd]; simp
  have hWz : W.heap.size = w.heap.size + 1 := by rw [hWd]; simp
  have hW : Below w.heap.size w W := by rw [hWd]; exact (Below.refl _ _).alloc (Nat.le_refl _) _
  have hne : v.ownBlock ≠ some w.heap.size := by
    intro h
    have := HOWN.out.lt _ h
    omega
  have hkeep : ∀ {w1 : World} {v' : Value}, Turned W.drew w1 v v' → w1.cell? ⟨w.heap.size, 2, none⟩ = some (.string s) := fun {w1 v'} h => (h.cell (p := ⟨w.heap.size, 2, none⟩) (by show w.heap.size < W.heap.size; omega) hne).trans c2
  have HO2 := Lib.hid (HOWN.out.below hW)
  have WD := Lib.hid hWd
  clear hWd
  go_enter Try.func50, Try.ntmps50
  go_wp2_with fail
  rw [← WD.out]
  go_region_held3 (fun w' => w'.cell? ⟨w.heap.size, 2, none⟩ = some (.string s))
    (first | assumption | exact c2 | exact hkeep (hT1.trans (turned_app (N := 0) (cap := 0) hgrow2 hat2)) | exact hkeep hT1)
    (first
      | (go_at_call 57
         refine (writeNumeral_any s.size (by omega) _ base v xs (by show _ ≤ W.heap.size; omega) (HO2.out.drew) hx).mono ?_
         rintro e w1 ⟨g1, cap1, N1, rfl, HN1, hO1, hT1⟩)
      | (refine step_append_str _ (by rfl) _ _ _ _ (by rfl) base 5 i0 _ Try.underlying27 Try.underlying9 hi hz0 hz1 hz2 rfl _ N1 _ (by rfl) (hO1.at_ ?h0) ?h1 s (by rfl) ?h2 ?h3 ?h4 _ (by rfl) ?_
         case h0 => (rw [HN1.out, List.length_append])
         case h1 => (rw [HN1.out, num_length]; have := digs_pos s.size; omega)
         case h2 => (rw [HN1.out, num_length]; unfold maxLen; omega)
         case h3 => (rw [HN1.out, num_length]; omega)
         case h4 => (have h1 := hT1.1.size; have h2 : W.heap.size ≤ w1.heap.size := h1; omega)
         intro g2 cap2 w2 hown2 hgrow2 hat2))
  go_wp2_with fail
  go_ret
  have hT2 := hT1.trans (turned_app (N := N1 + s.size) (cap := cap2) hgrow2 hat2)
  exact wrote_mk (Own.of (xs := (xs ++ num s.size) ++ s.data.toList) hown2 (by rw [HN1.out, List.length_append, List.length_append]; rfl) (by rw [bytesV_append (xs ++ num s.size) s.data.toList]; rfl)) ((Turned.of_below (hW.trans ((Below.refl _ _).drew))).trans hT2) (by rw [List.append_assoc]) (by rw [HN1.out, List.length_append]; show _ = _ + (_ + s.size); omega) rfl

/-- what a contract of write says of one value -/
def WriteOk (x : V) : Prop := ∀ (w : World) (B base : Nat) (y v : Value) (xs : List UInt8), Rd w B x y → B ≤ base → base ≤ w.heap.size → Own w base v xs → x.form = true → x.bulk ≤ 1099511627776 → xs.length + x.enc.length ≤ 2199023255552 →
    Calls Try.prog 26 #[v, y] w (Wrote w base v xs x.enc)

set_option maxRecDepth 100000 in
set_option maxHeartbeats 1000000 in
theorem writeList_any (k n : Int) (s : ByteArray) (l : List V) (ih : ∀ x ∈ l, WriteOk x) (A : Option Addr) (cap : Nat) (w : World) (B base : Nat) (v : Value) (xs : List UInt8) (hB : B ≤ base) (hb : base ≤ w.heap.size) (hl : RdAll w B l A 0) (hf : V.formAll l = true) (hbk : V.bulkAll l ≤ 1099511627776)
    (hown : Own w base v xs) (hel : ∀ j, j ≤ l.length → xs.length + (digs l.length + (V.encAll (l.take j)).length) ≤ 2199023255552) :
    Calls Try.prog 53 #[v, .agg #[.int .i64 k, .int .i64 n, .string s, .slice A l.length cap]] w (Wrote w base v xs (num l.length ++ V.encAll l)) := by
  have IH := Lib.hid ih
  have hl0 := Lib.hid hl
  have HF := Lib.hid fun x hx => (V.formAll_iff l).1 hf x hx
  have HEL := Lib.hid hel
  have HOWN := Lib.hid hown
  have hbl := bulkAll_length l
  have hd := digs_ten (u := l.length) (by omega)
  have hx0 : xs.length ≤ 2199023255552 := by have := hel 0 (Nat.zero_le _); omega
  have hne : v.ownBlock ≠ some w.heap.size := by
    intro h
    have := hown.lt _ h
    omega
  have hlow : ∀ g, v.ownBlock = some g → base ≤ g := fun g hg => (hown.lt g hg).1
  clear ih hl hf hel hown
  obtain ⟨W, hWd⟩ : ∃ W : World, W = w.alloc (.cells #[.int .i64 k, .int .i64 n, .string s, .slice A l.length cap] 24) := ⟨_, rfl⟩
  have c3 : W.cell? ⟨w.heap.size, 3, none⟩ = some (.slice A l.length cap) := by rw [hWd]; simp
  have hWz : W.heap.size = w.heap.size + 1 := by rw [hWd]; simp
  have hW : Below w.heap.size w W := by rw [hWd]; exact (Below.refl _ _).alloc (Nat.le_refl _) _
  have HO2 := Lib.hid (HOWN.out.below hW)
  have WD := Lib.hid hWd
  clear hWd
  go_enter Try.func53, Try.ntmps53
  go_wp2_with fail
  rw [← WD.out]
  refine (writeNumeral_any l.length (by omega) _ base v xs (by omega) HO2.out hx0).mono ?_
  rintro e w1 ⟨g1, cap1, N1, rfl, HN1, hO1, hT1⟩
  have d3 : w1.cell? ⟨w.heap.size, 3, none⟩ = some (.slice A l.length cap) := (hT1.cell (p := ⟨w.heap.size, 3, none⟩) (by show w.heap.size < W.heap.size; omega) hne).trans c3
  have HT1 := Lib.hid ((Turned.of_below hW).trans hT1)
  have HO1 := Lib.hid hO1
  clear hT1 hO1
  go_wp2_with fail
  go_loopw [0, 16] (fun t i wr => ∃ (j g c N : Nat), j ≤ l.length ∧ i = .int .i64 j ∧ t = .slice (some ⟨g, 0, none⟩) N c ∧ Hid (N = xs.length + (digs l.length + (V.encAll (l.take j)).length)) ∧ Hid (Own wr base (.slice (some ⟨g, 0, none⟩) N c) (xs ++ (num l.length ++ V.encAll (l.take j)))) ∧ Hid (Turned w wr v (.slice (some ⟨g, 0, none⟩) N c))) (fun _ i _ => l.length - (intOf i).toNat)
  case atStart => exact ⟨0, g1, cap1, N1, Nat.zero_le _, rfl, rfl, by unfold Hid; rw [HN1.out, num_length]; simp [V.encAll], by simpa [Hid, V.encAll] using HO1.out, HT1.out⟩
  case round =>
    obtain ⟨j, g, c, N, hj, rfl, rfl, HN, HO, HT⟩ := hrel
    have hwr : Below base w wr := HT.out.below hb hlow
    have hwz : w.heap.size ≤ wr.heap.size := HT.out.1.size
    have he1 := HEL.out j hj
    by_cases hlt : j < l.length
    · have he2 := HEL.out (j + 1) hlt
      obtain ⟨b, o, k', n', s', m', A', cap', rfl, hbB, e0, e1, e2, e3, hx, hr⟩ := hl0.out.open_ hlt
      have hm := List.mem_of_getElem? hx
      have hbb : b < base := by omega
      rw [← hwr.cell (p := ⟨b, _, none⟩) hbb] at e0 e1 e2 e3
      have hrr := Lib.hid (Rd.below (B' := B) hr (hwr.mono hB) (Nat.le_refl _))
      have hbm := V.bulk_mem hm
      have HT3 : Hid (V.encAll (l.take (j + 1)) = V.encAll (l.take j) ++ V.enc (.mk k' n' s' m')) := V.encAll_take l j _ hx
      have hle : xs.length + (digs l.length + (V.encAll (l.take j)).length) + (V.enc (.mk k' n' s' m')).length ≤ 2199023255552 := by rw [HT3.out, List.length_append] at he2; omega
      have hlen : (xs ++ (num l.length ++ V.encAll (l.take j))).length = xs.length + (digs l.length + (V.encAll (l.take j)).length) := by rw [List.length_append, List.length_append, num_length]
      have HL := Lib.hid hlen
      have HX := Lib.hid hx
      clear hr hx hlen he2
      go_wp2_with fail
      refine (IH.out _ hm _ B base _ _ (xs ++ (num l.length ++ V.encAll (l.take j))) (Rd.below (B' := B) hrr.out (((Below.refl _ _).alloc (Nat.le_refl _) _).mono (by omega)) (Nat.le_refl _)) hB (by simp; omega) (HO.out.below ((Below.refl _ _).alloc (Nat.le_refl _) _)) (HF.out _ hm) (by omega) (by rw [HL.out]; omega)).mono ?_
      rintro e w2 ⟨g2, cap2, N2, rfl, HN2, hO2, hT2⟩
      have HO2' := Lib.hid hO2
      have HT2' := Lib.hid (HT.out.trans ((Turned.of_below ((Below.refl _ _).alloc (Nat.le_refl _) _)).trans hT2))
      clear hO2 hT2
      go_wp2_with fail
      go_roundw
      case rel =>
        refine ⟨j + 1, g2, cap2, N2, by omega, by go_num, rfl, ?_, ?_, HT2'.out⟩
        · unfold Hid; rw [HN2.out, HL.out, HT3.out, List.length_append]; omega
        · unfold Hid; rw [HT3.out]; simpa [List.append_assoc] using HO2'.out
      case measure => simp [intOf]; omega
    · have hje : j = l.length := by omega
      subst hje
      rw [List.take_length] at *
      go_wp2_with fail
      go_ret
      exact ⟨g, c, N, rfl, by unfold Hid; rw [HN.out, List.length_append, num_length], HO.out, HT.out⟩

/-- what is kept through write's statement: the box, and all but the row of v -/
theorem keepW_below {w W X X' : World} {v x0 x1 x2 x3 : Value} {g : Nat}
    (h : w.grownBy X v.ownBlock ∧ W.heap.size ≤ X.heap.size ∧ X.cell? ⟨g, 0, none⟩ = some x0 ∧ X.cell? ⟨g, 1, none⟩ = some x1 ∧ X.cell? ⟨g, 2, none⟩ = some x2 ∧ X.cell? ⟨g, 3, none⟩ = some x3) (hb : Below X.heap.size X X') :
    w.grownBy X' v.ownBlock ∧ W.heap.size ≤ X'.heap.size ∧ X'.cell? ⟨g, 0, none⟩ = some x0 ∧ X'.cell? ⟨g, 1, none⟩ = some x1 ∧ X'.cell? ⟨g, 2, none⟩ = some x2 ∧ X'.cell? ⟨g, 3, none⟩ = some x3 := by
  obtain ⟨h0, hz, c0, c1, c2, c3⟩ := h
  have l0 := World.block_lt_of_cell? X _ c0
  exact ⟨World.grownBy.trans h0 ⟨hb.os, hb.tape, hb.output, hb.size, fun i hi _ => hb.block i hi⟩, Nat.le_trans hz hb.size, by rw [hb.cell (by simpa using l0)]; exact c0, by rw [hb.cell (by simpa using l0)]; exact c1, by rw [hb.cell (by simpa using l0)]; exact c2, by rw [hb.cell (by simpa using l0)]; exact c3⟩
theorem keepW_grown {w W X X' : World} {v x0 x1 x2 x3 : Value} {g : Nat}
    (h : w.grownBy X v.ownBlock ∧ W.heap.size ≤ X.heap.size ∧ X.cell? ⟨g, 0, none⟩ = some x0 ∧ X.cell? ⟨g, 1, none⟩ = some x1 ∧ X.cell? ⟨g, 2, none⟩ = some x2 ∧ X.cell? ⟨g, 3, none⟩ = some x3) (hb : X.grownBy X' v.ownBlock) (hne : v.ownBlock ≠ some g) :
    w.grownBy X' v.ownBlock ∧ W.heap.size ≤ X'.heap.size ∧ X'.cell? ⟨g, 0, none⟩ = some x0 ∧ X'.cell? ⟨g, 1, none⟩ = some x1 ∧ X'.cell? ⟨g, 2, none⟩ = some x2 ∧ X'.cell? ⟨g, 3, none⟩ = some x3 := by
  obtain ⟨h0, hz, c0, c1, c2, c3⟩ := h
  have l0 := World.block_lt_of_cell? X _ c0
  exact ⟨World.grownBy.trans h0 hb, Nat.le_trans hz hb.size, (hb.cell_far ⟨g, 0, none⟩ l0 (Ne.symm hne)).trans c0, (hb.cell_far ⟨g, 1, none⟩ l0 (Ne.symm hne)).trans c1, (hb.cell_far ⟨g, 2, none⟩ l0 (Ne.symm hne)).trans c2, (hb.cell_far ⟨g, 3, none⟩ l0 (Ne.symm hne)).trans c3⟩
theorem keepW_turned {w W X X' : World} {v u u' x0 x1 x2 x3 : Value} {g : Nat}
    (h : w.grownBy X v.ownBlock ∧ W.heap.size ≤ X.heap.size ∧ X.cell? ⟨g, 0, none⟩ = some x0 ∧ X.cell? ⟨g, 1, none⟩ = some x1 ∧ X.cell? ⟨g, 2, none⟩ = some x2 ∧ X.cell? ⟨g, 3, none⟩ = some x3) (hq : u.ownBlock = v.ownBlock ∨ ∃ g, u.ownBlock = some g ∧ W.heap.size ≤ g) (hb : Turned X X' u u') (hW : w.heap.size ≤ W.heap.size) (hg : g < W.heap.size) (hne : v.ownBlock ≠ some g) :
    w.grownBy X' v.ownBlock ∧ W.heap.size ≤ X'.heap.size ∧ X'.cell? ⟨g, 0, none⟩ = some x0 ∧ X'.cell? ⟨g, 1, none⟩ = some x1 ∧ X'.cell? ⟨g, 2, none⟩ = some x2 ∧ X'.cell? ⟨g, 3, none⟩ = some x3 := by
  obtain ⟨h0, hz, c0, c1, c2, c3⟩ := h
  have l0 := World.block_lt_of_cell? X _ c0
  have hne' : u.ownBlock ≠ some g := by
    rcases hq with h | ⟨g', h, h'⟩
    · rw [h]; exact hne
    · rw [h]; intro e; injection e with e; omega
  have h1 : Turned w X v u := ⟨h0, by
    rcases hq with h | ⟨g', h, h'⟩
    · exact .inl h
    · exact .inr ⟨g', h, by omega⟩⟩
  exact ⟨(h1.trans hb).1, Nat.le_trans hz hb.1.size, (hb.cell (p := ⟨g, 0, none⟩) l0 hne').trans c0, (hb.cell (p := ⟨g, 1, none⟩) l0 hne').trans c1, (hb.cell (p := ⟨g, 2, none⟩) l0 hne').trans c2, (hb.cell (p := ⟨g, 3, none⟩) l0 hne').trans c3⟩
theorem turned_of_keep {w W X : World} {v u : Value} {R : Prop} (h : w.grownBy X v.ownBlock ∧ R) (hq : u.ownBlock = v.ownBlock ∨ ∃ g, u.ownBlock = some g ∧ W.heap.size ≤ g) (hW : w.heap.size ≤ W.heap.size) : Turned w X v u :=
  ⟨h.1, by
    rcases hq with h | ⟨g', h, h'⟩
    · exact .inl h
    · exact .inr ⟨g', h, by omega⟩⟩
theorem below_of_keep {w X : World} {v : Value} {R : Prop} {B base : Nat} (h : w.grownBy X v.ownBlock ∧ R) (hB : B ≤ base) (hb : base ≤ w.heap.size) (hlow : ∀ g, v.ownBlock = some g → base ≤ g) : Below B w X :=
  (Turned.below (v := v) ⟨h.1, .inl rfl⟩ hb hlow).mono hB
theorem size_of_keep {w W X : World} {v : Value} {R : Prop} (h : w.grownBy X v.ownBlock ∧ W.heap.size ≤ X.heap.size ∧ R) : W.heap.size ≤ X.heap.size := h.2.1
theorem q_of_keep {w W X X' : World} {v u : Value} {R : Prop} (h : w.grownBy X v.ownBlock ∧ W.heap.size ≤ X.heap.size ∧ R) (ht : Turned X X' v u) :
    u.ownBlock = v.ownBlock ∨ ∃ g, u.ownBlock = some g ∧ W.heap.size ≤ g := by
  rcases ht.2 with h' | ⟨g, h', hg⟩
  · exact .inl h'
  · exact .inr ⟨g, h', by have := h.2.1; omega⟩

theorem cell_new (w : World) (x : Value) (t : TypeId) : (w.alloc (.cells #[x] t)).cell? ⟨w.heap.size, 0, none⟩ = some x := by simp
theorem cell_newd (w : World) (x : Value) (t : TypeId) : (w.alloc (.cells #[x] t)).drew.cell? ⟨w.heap.size, 0, none⟩ = some x := cell_new w x t
theorem below_allocd (w : World) (o : Obj) : Below w.drew.heap.size w.drew (w.alloc o).drew := ⟨rfl, rfl, rfl, by show w.heap.size ≤ (w.alloc o).heap.size; simp, fun k hk => Below.heap_alloc w o k hk⟩
theorem lt_allocd (w : World) (o : Obj) : w.heap.size < (w.alloc o).drew.heap.size := by show w.heap.size < (w.alloc o).heap.size; simp
theorem base_of_keep {w W X : World} {v : Value} {R : Prop} {base : Nat} (h : w.grownBy X v.ownBlock ∧ W.heap.size ≤ X.heap.size ∧ R) (hb : base ≤ W.heap.size) : base ≤ X.heap.size := Nat.le_trans hb h.2.1

theorem q_trans {w W X X' : World} {v u u' : Value} {R : Prop} (h : w.grownBy X v.ownBlock ∧ W.heap.size ≤ X.heap.size ∧ R) (hq : u.ownBlock = v.ownBlock ∨ ∃ g, u.ownBlock = some g ∧ W.heap.size ≤ g) (ht : Turned X X' u u') :
    u'.ownBlock = v.ownBlock ∨ ∃ g, u'.ownBlock = some g ∧ W.heap.size ≤ g := by
  rcases ht.2 with h' | ⟨g, h', hg⟩
  · rw [h']; exact hq
  · exact .inr ⟨g, h', by have := h.2.1; omega⟩

/-- one byte is appended, in a region that draws its order -/
theorem step_app1 {X : World} {ops : Array Oper} {o : Oper} {a : Act} {K : Act → World → Prop} {Q : Exit → Act → World → Prop} {E : Prop} (hgd : o.guard = none) (s x : Operand)
    (ho : o.op = .call { callee := .builtin .append, args := #[s, x], argTypes := #[27, 27] })
    (base : Nat) (v : Value) (xs : List UInt8) (b : UInt8) (bi : Int) (blk : Nat) (hs : a.eval s = v) (hx : a.eval x = .slice (some ⟨blk, 0, none⟩) 1 1)
    (hown : Own X base v xs) (hcell : X.cell? ⟨blk, 0, none⟩ = some (.int .u8 bi)) (hbi : bi = b.toNat) (hl : xs.length ≤ 4398046511104) (hbase : base ≤ X.heap.size)
    (h : ∀ g cap N w', Hid (N = xs.length + 1) → Own w' base (.slice (some ⟨g, 0, none⟩) N cap) (xs ++ [b]) → Turned X w' v (.slice (some ⟨g, 0, none⟩) N cap) → K (a.put o.dst (.slice (some ⟨g, 0, none⟩) N cap)) w') :
    if Region.wanted o (yielded ops a.tmps) = true then Oper.wp Try.prog o a X K Q else E := by
  obtain ⟨i0, hi, hz0, hz1, hz2⟩ := info_parts byteInfo
  refine step_append_lies X hgd s x _ ho base 5 i0 _ 1 1 Try.underlying27 hi hz0 hz1 hz2 rfl (by omega) v xs.length (bytesV xs) hs hown ⟨blk, 0, none⟩ 1 1 [.int .u8 bi] hx rfl (fun j u hu => ?_) (by simp [Value.oneCell']) (by omega) (by unfold maxLen; omega) (by omega) hbase _ rfl ?_
  · cases j with
    | zero => simp at hu; subst hu; exact hcell
    | succ j => simp at hu
  · intro g cap w1 hown1 hgrow hat hlt
    subst hbi
    exact h g cap (xs.length + 1) w1 rfl (Own.of (xs := xs ++ [b]) hown1 (by rw [List.length_append]; rfl) (by rw [bytesV_append]; rfl)) (turned_app hgrow hat)

set_option maxRecDepth 100000 in
set_option maxHeartbeats 4000000 in
theorem write_any (x : V) : WriteOk x := by
  induction x using V.ind with
  | h k n s l ih =>
    intro w B base y v xs hr hB hb hown hf hbk hxe
    have hen := Rd.enc_le _ _ hr hbk
    have HR := Lib.hid hr
    obtain ⟨i0, hi, hz0, hz1, hz2⟩ := info_parts byteInfo
    obtain ⟨A, cap, rfl, hk, hn, hs, hlc, hcap, hl⟩ := hr
    rw [V.bulk] at hbk hen
    have hfa : V.formAll l = true := by simp only [V.form, Bool.and_eq_true] at hf; exact hf.2
    have hbl := bulkAll_length l
    have IH := Lib.hid ih
    have hl0 := Lib.hid hl
    have HFA := Lib.hid hfa
    have HN := Lib.hid hn
    have HOWN := Lib.hid hown
    have hne : v.ownBlock ≠ some w.heap.size := by
      intro h
      have := hown.lt _ h
      omega
    have hlow : ∀ g, v.ownBlock = some g → base ≤ g := fun g hg => (hown.lt g hg).1
    clear ih hl hfa hn hown
    obtain ⟨W, hWd⟩ : ∃ W : World, W = w.alloc (.cells #[.int .i64 k, .int .i64 n, .string s, .slice A l.length cap] 24) := ⟨_, rfl⟩
    have hW0 : Below w.heap.size w W := by rw [hWd]; exact (Below.refl _ _).alloc (Nat.le_refl _) _
    have hWz : W.heap.size = w.heap.size + 1 := by rw [hWd]; simp
    have c0 : W.cell? ⟨w.heap.size, 0, none⟩ = some (.int .i64 k) := by rw [hWd]; simp
    have c1 : W.cell? ⟨w.heap.size, 1, none⟩ = some (.int .i64 n) := by rw [hWd]; simp
    have c2 : W.cell? ⟨w.heap.size, 2, none⟩ = some (.string s) := by rw [hWd]; simp
    have c3 : W.cell? ⟨w.heap.size, 3, none⟩ = some (.slice A l.length cap) := by rw [hWd]; simp
    have hS : w.grownBy W.drew v.ownBlock ∧ W.heap.size ≤ W.drew.heap.size ∧ W.drew.cell? ⟨w.heap.size, 0, none⟩ = some (.int .i64 k) ∧ W.drew.cell? ⟨w.heap.size, 1, none⟩ = some (.int .i64 n) ∧ W.drew.cell? ⟨w.heap.size, 2, none⟩ = some (.string s) ∧ W.drew.cell? ⟨w.heap.size, 3, none⟩ = some (.slice A l.length cap) :=
      ⟨⟨hW0.os, hW0.tape, hW0.output, hW0.size, fun i hi _ => hW0.block i hi⟩, Nat.le_refl _, c0, c1, c2, c3⟩
    have HS := Lib.hid hS
    have HO2 := Lib.hid (HOWN.out.below hW0)
    have hWle : w.heap.size ≤ W.heap.size := by omega
    have hWlt : w.heap.size < W.heap.size := by omega
    have hbW : base ≤ W.heap.size := by omega
    have WD := Lib.hid hWd
    have HWZ := Lib.hid hWz
    clear hWd hW0 hS hWz
    have i1 := coder1
    have i2 := coder2
    have i3 := coder3
    have j0 := field1
    have hkk : k = 1 ∨ k = 2 ∨ k = 3 := by
      simp only [V.form, bareB, Bool.and_eq_true, Bool.or_eq_true, decide_eq_true_eq] at hf
      omega
    clear hf
    rcases hkk with rfl | rfl | rfl
    · have HE : Hid (V.enc (.mk 1 n s l) = [1] ++ num (uform n).toNat) := by unfold Hid; rw [V.enc, if_pos rfl]; rfl
      have hx1 : xs.length + 1 ≤ 2199023255552 := by rw [HE.out, List.length_append] at hxe; simp at hxe; omega
      have k8 : IntKind.u8.wrap 1 = 1 := by decide
      clear hxe
      go_enter Try.func26, Try.ntmps26
      go_wp2_with fail
      rw [← WD.out]
      go_region_held3 (fun w' => w.grownBy w' v.ownBlock ∧ W.heap.size ≤ w'.heap.size ∧ w'.cell? ⟨w.heap.size, 0, none⟩ = some (.int .i64 1) ∧ w'.cell? ⟨w.heap.size, 1, none⟩ = some (.int .i64 n) ∧ w'.cell? ⟨w.heap.size, 2, none⟩ = some (.string s) ∧ w'.cell? ⟨w.heap.size, 3, none⟩ = some (.slice A l.length cap))
        (first | assumption | exact HS.out | exact keepW_below HS.out (below_allocd W _) | (refine keepW_below ?_ hb2; assumption) | (refine keepW_below ?_ ((Below.refl _ _).alloc (Nat.le_refl _) _); assumption) | (refine keepW_grown ?_ hT1.1 hne; assumption) | (refine keepW_turned ?_ hq1 hT3 hWle hWlt hne; assumption))
        (first
          | (go_at_call 38; refine (coders_any _).mono ?_; rintro e w2 ⟨rfl, hb2⟩)
          | (refine step_app1 (by rfl) _ _ (by rfl) base v xs 1 1 w2.heap.size (by rfl) (by rfl) (Own.below (HO2.out.drew.below hb2) ((Below.refl _ _).alloc (Nat.le_refl _) _)) (cell_new _ _ _) (by rfl) (by omega) ?hbase ?_
             case hbase => exact base_of_keep (w := w) (W := W) (v := v) (by assumption) hbW
             intro g1 cap1 N1 w1 HN1 hO1 hT1
             have hq1 : (Value.slice (some ⟨g1, 0, none⟩) N1 cap1).ownBlock = v.ownBlock ∨ ∃ g, (Value.slice (some ⟨g1, 0, none⟩) N1 cap1).ownBlock = some g ∧ W.heap.size ≤ g := q_of_keep (w := w) (W := W) (by assumption) hT1)
          | (refine step_app1 (by rfl) _ _ (by rfl) base v xs 1 1 W.heap.size (by rfl) (by rfl) (Own.below HO2.out.drew (below_allocd W _)) (cell_newd _ _ _) (by rfl) (by omega) ?hbase ?_
             case hbase => exact base_of_keep (w := w) (W := W) (v := v) (by assumption) hbW
             intro g1 cap1 N1 w1 HN1 hO1 hT1
             have hq1 : (Value.slice (some ⟨g1, 0, none⟩) N1 cap1).ownBlock = v.ownBlock ∨ ∃ g, (Value.slice (some ⟨g1, 0, none⟩) N1 cap1).ownBlock = some g ∧ W.heap.size ≤ g := q_of_keep (w := w) (W := W) (by assumption) hT1)
          | (refine step_app1 (by rfl) _ _ (by rfl) base v xs 1 1 W.heap.size (by rfl) (by rfl) (Own.below (Own.below HO2.out.drew (below_allocd W _)) hb2) ((hb2.cell (p := ⟨W.heap.size, 0, none⟩) (lt_allocd W _)).trans (cell_newd _ _ _)) (by rfl) (by omega) ?hbase ?_
             case hbase => exact base_of_keep (w := w) (W := W) (v := v) (by assumption) hbW
             intro g1 cap1 N1 w1 HN1 hO1 hT1
             have hq1 : (Value.slice (some ⟨g1, 0, none⟩) N1 cap1).ownBlock = v.ownBlock ∨ ∃ g, (Value.slice (some ⟨g1, 0, none⟩) N1 cap1).ownBlock = some g ∧ W.heap.size ≤ g := q_of_keep (w := w) (W := W) (by assumption) hT1)
          | (go_at_call 47
             refine (writeInt_any _ _ _ _ _ _ HN.out _ base _ (xs ++ [1]) ?hbase ?hown ?hlen).mono ?_
             case hbase => exact base_of_keep (w := w) (W := W) (v := v) (by assumption) hbW
             case hown => (first | exact hO1 | exact hO1.below hb2)
             case hlen => (rw [List.length_append]; simpa using hx1)
             rintro e w3 ⟨g3, cap3, N3, rfl, HN3, hO3, hT3⟩
             have hq3 : (Value.slice (some ⟨g3, 0, none⟩) N3 cap3).ownBlock = v.ownBlock ∨ ∃ g, (Value.slice (some ⟨g3, 0, none⟩) N3 cap3).ownBlock = some g ∧ W.heap.size ≤ g := q_trans (w := w) (W := W) (by assumption) hq1 hT3))
      all_goals go_wp2_with fail
      all_goals go_ret
      all_goals
        refine wrote_mk hO3 (turned_of_keep (W := W) (u := .slice (some ⟨g3, 0, none⟩) N3 cap3) (by assumption) hq3 hWle) (by rw [HE.out, List.append_assoc]) (by rw [HN3.out]; have h1 := congrArg List.length HE.out; simp only [List.length_append] at h1 ⊢; omega) rfl
    · have HE : Hid (V.enc (.mk 2 n s l) = [2] ++ (num s.size ++ s.data.toList)) := by unfold Hid; rw [V.enc, if_neg (by decide), if_pos rfl]; rfl
      have hx1 : xs.length + 1 ≤ 2199023255552 := by rw [HE.out, List.length_append] at hxe; simp at hxe; omega
      have k8 : IntKind.u8.wrap 2 = 2 := by decide
      clear hxe
      go_enter Try.func26, Try.ntmps26
      go_wp2_with fail
      rw [← WD.out]
      go_region_held3 (fun w' => w.grownBy w' v.ownBlock ∧ W.heap.size ≤ w'.heap.size ∧ w'.cell? ⟨w.heap.size, 0, none⟩ = some (.int .i64 2) ∧ w'.cell? ⟨w.heap.size, 1, none⟩ = some (.int .i64 n) ∧ w'.cell? ⟨w.heap.size, 2, none⟩ = some (.string s) ∧ w'.cell? ⟨w.heap.size, 3, none⟩ = some (.slice A l.length cap))
        (first | assumption | exact HS.out | exact keepW_below HS.out (below_allocd W _) | (refine keepW_below ?_ hb2; assumption) | (refine keepW_below ?_ ((Below.refl _ _).alloc (Nat.le_refl _) _); assumption) | (refine keepW_grown ?_ hT1.1 hne; assumption) | (refine keepW_turned ?_ hq1 hT3 hWle hWlt hne; assumption))
        (first
          | (go_at_call 38; refine (coders_any _).mono ?_; rintro e w2 ⟨rfl, hb2⟩)
          | (refine step_app1 (by rfl) _ _ (by rfl) base v xs 2 2 w2.heap.size (by rfl) (by rfl) (Own.below (HO2.out.drew.below hb2) ((Below.refl _ _).alloc (Nat.le_refl _) _)) (cell_new _ _ _) (by rfl) (by omega) ?hbase ?_
             case hbase => exact base_of_keep (w := w) (W := W) (v := v) (by assumption) hbW
             intro g1 cap1 N1 w1 HN1 hO1 hT1
             have hq1 : (Value.slice (some ⟨g1, 0, none⟩) N1 cap1).ownBlock = v.ownBlock ∨ ∃ g, (Value.slice (some ⟨g1, 0, none⟩) N1 cap1).ownBlock = some g ∧ W.heap.size ≤ g := q_of_keep (w := w) (W := W) (by assumption) hT1)
          | (refine step_app1 (by rfl) _ _ (by rfl) base v xs 2 2 W.heap.size (by rfl) (by rfl) (Own.below HO2.out.drew (below_allocd W _)) (cell_newd _ _ _) (by rfl) (by omega) ?hbase ?_
             case hbase => exact base_of_keep (w := w) (W := W) (v := v) (by assumption) hbW
             intro g1 cap1 N1 w1 HN1 hO1 hT1
             have hq1 : (Value.slice (some ⟨g1, 0, none⟩) N1 cap1).ownBlock = v.ownBlock ∨ ∃ g, (Value.slice (some ⟨g1, 0, none⟩) N1 cap1).ownBlock = some g ∧ W.heap.size ≤ g := q_of_keep (w := w) (W := W) (by assumption) hT1)
          | (refine step_app1 (by rfl) _ _ (by rfl) base v xs 2 2 W.heap.size (by rfl) (by rfl) (Own.below (Own.below HO2.out.drew (below_allocd W _)) hb2) ((hb2.cell (p := ⟨W.heap.size, 0, none⟩) (lt_allocd W _)).trans (cell_newd _ _ _)) (by rfl) (by omega) ?hbase ?_
             case hbase => exact base_of_keep (w := w) (W := W) (v := v) (by assumption) hbW
             intro g1 cap1 N1 w1 HN1 hO1 hT1
             have hq1 : (Value.slice (some ⟨g1, 0, none⟩) N1 cap1).ownBlock = v.ownBlock ∨ ∃ g, (Value.slice (some ⟨g1, 0, none⟩) N1 cap1).ownBlock = some g ∧ W.heap.size ≤ g := q_of_keep (w := w) (W := W) (by assumption) hT1)
          | (go_at_call 50
             refine (writeText_any _ _ _ _ _ _ (by omega) _ base _ (xs ++ [2]) ?hbase ?hown ?hlen).mono ?_
             case hbase => exact base_of_keep (w := w) (W := W) (v := v) (by assumption) hbW
             case hown => (first | exact hO1 | exact hO1.below hb2)
             case hlen => (rw [List.length_append]; simpa using hx1)
             rintro e w3 ⟨g3, cap3, N3, rfl, HN3, hO3, hT3⟩
             have hq3 : (Value.slice (some ⟨g3, 0, none⟩) N3 cap3).ownBlock = v.ownBlock ∨ ∃ g, (Value.slice (some ⟨g3, 0, none⟩) N3 cap3).ownBlock = some g ∧ W.heap.size ≤ g := q_trans (w := w) (W := W) (by assumption) hq1 hT3))
      all_goals go_wp2_with fail
      all_goals go_ret
      all_goals
        refine wrote_mk hO3 (turned_of_keep (W := W) (u := .slice (some ⟨g3, 0, none⟩) N3 cap3) (by assumption) hq3 hWle) (by rw [HE.out, List.append_assoc]) (by rw [HN3.out]; have h1 := congrArg List.length HE.out; simp only [List.length_append] at h1 ⊢; omega) rfl
    · have HE : Hid (V.enc (.mk 3 n s l) = [3] ++ (num l.length ++ V.encAll l)) := by unfold Hid; rw [V.enc, if_neg (by decide), if_neg (by decide)]; rfl
      have hx1 : xs.length + 1 + (digs l.length + (V.encAll l).length) ≤ 2199023255552 := by rw [HE.out, List.length_append, List.length_append, num_length] at hxe; simp at hxe; omega
      have HX3 : Hid (∀ j, j ≤ l.length → (xs ++ [3]).length + (digs l.length + (V.encAll (l.take j)).length) ≤ 2199023255552) := by
        intro j hj
        have := V.encAll_take_le l j
        rw [List.length_append]
        simp only [List.length_cons, List.length_nil]
        omega
      have k8 : IntKind.u8.wrap 3 = 3 := by decide
      clear hxe
      go_enter Try.func26, Try.ntmps26
      go_wp2_with fail
      rw [← WD.out]
      go_region_held3 (fun w' => w.grownBy w' v.ownBlock ∧ W.heap.size ≤ w'.heap.size ∧ w'.cell? ⟨w.heap.size, 0, none⟩ = some (.int .i64 3) ∧ w'.cell? ⟨w.heap.size, 1, none⟩ = some (.int .i64 n) ∧ w'.cell? ⟨w.heap.size, 2, none⟩ = some (.string s) ∧ w'.cell? ⟨w.heap.size, 3, none⟩ = some (.slice A l.length cap))
        (first | assumption | exact HS.out | exact keepW_below HS.out (below_allocd W _) | (refine keepW_below ?_ hb2; assumption) | (refine keepW_below ?_ ((Below.refl _ _).alloc (Nat.le_refl _) _); assumption) | (refine keepW_grown ?_ hT1.1 hne; assumption) | (refine keepW_turned ?_ hq1 hT3 hWle hWlt hne; assumption))
        (first
          | (go_at_call 38; refine (coders_any _).mono ?_; rintro e w2 ⟨rfl, hb2⟩)
          | (refine step_app1 (by rfl) _ _ (by rfl) base v xs 3 3 w2.heap.size (by rfl) (by rfl) (Own.below (HO2.out.drew.below hb2) ((Below.refl _ _).alloc (Nat.le_refl _) _)) (cell_new _ _ _) (by rfl) (by omega) ?hbase ?_
             case hbase => exact base_of_keep (w := w) (W := W) (v := v) (by assumption) hbW
             intro g1 cap1 N1 w1 HN1 hO1 hT1
             have hq1 : (Value.slice (some ⟨g1, 0, none⟩) N1 cap1).ownBlock = v.ownBlock ∨ ∃ g, (Value.slice (some ⟨g1, 0, none⟩) N1 cap1).ownBlock = some g ∧ W.heap.size ≤ g := q_of_keep (w := w) (W := W) (by assumption) hT1)
          | (refine step_app1 (by rfl) _ _ (by rfl) base v xs 3 3 W.heap.size (by rfl) (by rfl) (Own.below HO2.out.drew (below_allocd W _)) (cell_newd _ _ _) (by rfl) (by omega) ?hbase ?_
             case hbase => exact base_of_keep (w := w) (W := W) (v := v) (by assumption) hbW
             intro g1 cap1 N1 w1 HN1 hO1 hT1
             have hq1 : (Value.slice (some ⟨g1, 0, none⟩) N1 cap1).ownBlock = v.ownBlock ∨ ∃ g, (Value.slice (some ⟨g1, 0, none⟩) N1 cap1).ownBlock = some g ∧ W.heap.size ≤ g := q_of_keep (w := w) (W := W) (by assumption) hT1)
          | (refine step_app1 (by rfl) _ _ (by rfl) base v xs 3 3 W.heap.size (by rfl) (by rfl) (Own.below (Own.below HO2.out.drew (below_allocd W _)) hb2) ((hb2.cell (p := ⟨W.heap.size, 0, none⟩) (lt_allocd W _)).trans (cell_newd _ _ _)) (by rfl) (by omega) ?hbase ?_
             case hbase => exact base_of_keep (w := w) (W := W) (v := v) (by assumption) hbW
             intro g1 cap1 N1 w1 HN1 hO1 hT1
             have hq1 : (Value.slice (some ⟨g1, 0, none⟩) N1 cap1).ownBlock = v.ownBlock ∨ ∃ g, (Value.slice (some ⟨g1, 0, none⟩) N1 cap1).ownBlock = some g ∧ W.heap.size ≤ g := q_of_keep (w := w) (W := W) (by assumption) hT1)
          | (go_at_call 53
             refine (writeList_any _ _ _ l IH.out A cap _ B base _ (xs ++ [3]) hB ?hbase ?hl HFA.out (by omega) ?hown HX3.out).mono ?_
             case hbase => exact base_of_keep (w := w) (W := W) (v := v) (by assumption) hbW
             case hl => exact hl0.out.below (below_of_keep (w := w) (v := v) (by assumption) hB hb hlow) (Nat.le_refl _)
             case hown => (first | exact hO1 | exact hO1.below hb2)
             rintro e w3 ⟨g3, cap3, N3, rfl, HN3, hO3, hT3⟩
             have hq3 : (Value.slice (some ⟨g3, 0, none⟩) N3 cap3).ownBlock = v.ownBlock ∨ ∃ g, (Value.slice (some ⟨g3, 0, none⟩) N3 cap3).ownBlock = some g ∧ W.heap.size ≤ g := q_trans (w := w) (W := W) (by assumption) hq1 hT3))
      all_goals go_wp2_with fail
      all_goals go_ret
      all_goals
        refine wrote_mk hO3 (turned_of_keep (W := W) (u := .slice (some ⟨g3, 0, none⟩) N3 cap3) (by assumption) hq3 hWle) (by rw [HE.out, List.append_assoc]) (by rw [HN3.out]; have h1 := congrArg List.length HE.out; simp only [List.length_append] at h1 ⊢; omega) rfl
end Go.Proofs.Ytbcaanadmfnegaa
