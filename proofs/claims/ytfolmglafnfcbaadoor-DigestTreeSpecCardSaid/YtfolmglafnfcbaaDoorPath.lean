/- Contracts of path and Path. -/
import Derived.Test.YtfolmglafnfcbaaDoorTree
namespace Go.Proofs.YtfolmglafnfcbaaDoor
open Go.RowKit

/-- a slice value that the call owns, or nil -/
def OwnsN (w : World) (base : Nat) (e : TypeId) (size : Nat) (A : Option Addr) (n cap : Nat) (xs : List Value) : Prop :=
  (A = none ∧ n = 0 ∧ cap = 0 ∧ xs = []) ∨ ∃ g, A = some ⟨g, 0, none⟩ ∧ Owns w base e size g n cap xs
theorem OwnsN.below {w w' : World} {base n cap B : Nat} {A : Option Addr} {e : TypeId} {size : Nat} {xs : List Value} (h : OwnsN w base e size A n cap xs) (hb : Below B w w') (hB : w.heap.size ≤ B) : OwnsN w' base e size A n cap xs := by
  rcases h with h | ⟨g, hA, ho⟩
  · exact .inl h
  · exact .inr ⟨g, hA, ho.below hb (by have := ho.lt; omega)⟩
theorem run_append_N {P : Program} (w : World) (base : Nat) (t tx ty e : TypeId) (i : TypeInfo) (z : Value) (size bytes : Nat) (ht : P.underlying t = some (.slice e)) (hi : P.info? e = some i) (hz : i.zero = some z)
    (hsize : i.size = size) (hby : i.bytes = bytes) (hzs : z.cells.size = size)
    (A : Option Addr) (n cap : Nat) (xs : List Value) (hown : OwnsN w base e size A n cap xs) (x : Value) (m : Nat) (news : List Value) (hsrc : Src P size tx x m news w) (hm : 0 < m)
    (h63 : n + m ≤ maxLen) (hbytes : (n + m) * bytes ≤ 140737488355328) (hbase : base ≤ w.heap.size) :
    ∃ g' cap' w', (Builtin.append_ #[t, tx] ty #[.slice A n cap, x]).run P w = .ok (.slice (some ⟨g', 0, none⟩) (n + m) cap') w' ∧ Owns w' base e size g' (n + m) cap' (xs ++ news) ∧ Below base w w' := by
  rcases hown with ⟨rfl, rfl, rfl, rfl⟩ | ⟨g, rfl, ho⟩
  · have hsmall : 0 + m ≤ 9223372036854775807 := by simp only [maxLen] at h63; omega
    subst hsize
    have hnl := hsrc.newsLen
    have hge := grownCap_ge w (0 + m) 0 e
    have hcm' : grownCap w (0 + m) 0 e ≤ maxLen := grownCap_le_maxLen w (0 + m) 0 e h63
    have hold := run_firstCells_none (P := P) w.drew i.size 0 0 0
    have hfit := growslice_fits (need := 0 + m) (old := 0) (bytes := bytes) (by omega) hbytes
    have hr := run_append_grow_src (P := P) w t tx ty e i z ht hi hz none 0 0 [] hold x m news hsrc (by omega) (by omega) (by rw [hby]; exact hfit)
    refine ⟨w.heap.size, _, _, hr, ⟨?_, hbase, hge, hcm', _, heap_alloc_new w.drew _, ?_, ?_⟩, ((Below.refl _ _).drew.alloc (by exact hbase) _)⟩
    · rw [List.nil_append, hnl, Nat.zero_add]
    · simp only [Array.size_append, List.size_toArray, size_zeroCells, hzs, List.nil_append]
      rw [hnl, ← Nat.add_mul]
      congr 1
      omega
    · simp only [Array.toList_append, List.nil_append]
      rw [Nat.zero_add, ← hnl]
      exact List.take_left
  · obtain ⟨g', cap', w', h1, h2, h3, _⟩ := run_append_owns (P := P) w base t tx ty e i z size bytes ht hi hz hsize hby hzs g n cap xs ho x m news hsrc h63 hbytes hbase
    exact ⟨g', cap', w', h1, h2, h3.below ho.2.1 ho.lt⟩
theorem step_append_N {P : Program} (w : World) {ops : Array Oper} {o : Oper} {a : Act} {K : Act → World → Prop} {Q : Exit → Act → World → Prop} {E : Prop} (hgd : o.guard = none) (x y : Operand) (t tx : TypeId)
    (ho : o.op = .call { callee := .builtin .append, args := #[x, y], argTypes := #[t, tx] })
    (base : Nat) (e : TypeId) (i : TypeInfo) (z : Value) (size bytes : Nat) (ht : P.underlying t = some (.slice e)) (hi : P.info? e = some i) (hz : i.zero = some z)
    (hsize : i.size = size) (hby : i.bytes = bytes) (hzs : z.cells.size = size)
    (A : Option Addr) (n cap : Nat) (xs : List Value) (hs : a.eval x = .slice A n cap) (hown : OwnsN w base e size A n cap xs) (vx : Value) (hx : a.eval y = vx) (m : Nat) (news : List Value) (hsrc : Src P size tx vx m news w) (hm : 0 < m)
    (h63 : n + m ≤ maxLen) (hbytes : (n + m) * bytes ≤ 140737488355328) (hbase : base ≤ w.heap.size)
    (h : ∀ g' cap' w', Hid (Owns w' base e size g' (n + m) cap' (xs ++ news)) → Hid (Below base w w') → K (a.put o.dst (.slice (some ⟨g', 0, none⟩) (n + m) cap')) w') :
    if Region.wanted o (yielded ops a.tmps) = true then Oper.wp P o a w K Q else E := by
  have hw : Region.wanted o (yielded ops a.tmps) = true := by simp [Region.wanted, hgd]
  rw [if_pos hw]
  obtain ⟨g', cap', w', hr, h2, h3⟩ := run_append_N (P := P) w base t tx o.type e i z size bytes ht hi hz hsize hby hzs A n cap xs hown vx m news hsrc hm h63 hbytes hbase
  unfold Oper.wp execOp
  simp only [ho, resolve, invoke, builtin, Sem.run_bind, Sem.run_pure, Result.andThen_ok, List.map_toArray, List.map_cons, List.map_nil, hs, hx, hr]
  exact h g' cap' w' h2 h3

/-- the cells of a list of digests -/
def flatD (ps : List D) : List Value := ps.flatMap bytesV
theorem flatD_append (a b : List D) : flatD (a ++ b) = flatD a ++ flatD b := List.flatMap_append
theorem flatD_one (d : D) : flatD [d] = bytesV d := by simp [flatD]
theorem flatD_length : ∀ (ps : List D), (∀ x ∈ ps, x.length = 32) → (flatD ps).length = ps.length * 32
  | [], _ => rfl
  | p :: ps, h => by
    have ih := flatD_length ps fun x hx => h x (by simp [hx])
    have e : flatD (p :: ps) = bytesV p ++ flatD ps := rfl
    rw [e, List.length_append, bytesV_length, ih, h p (by simp), List.length_cons]
    omega
theorem flatD_at : ∀ (ps : List D) (j i : Nat) (d : D) (v : Value), (∀ x ∈ ps, x.length = 32) → ps[j]? = some d → (bytesV d)[i]? = some v → (flatD ps)[j * 32 + i]? = some v
  | [], _, _, _, _, _, h, _ => by simp at h
  | p :: ps, 0, i, d, v, hall, h, hv => by
    have e : flatD (p :: ps) = bytesV p ++ flatD ps := rfl
    simp at h
    subst h
    rw [e, Nat.zero_mul, Nat.zero_add, List.getElem?_append_left (List.getElem?_eq_some_iff.1 hv).1]
    exact hv
  | p :: ps, j + 1, i, d, v, hall, h, hv => by
    have e : flatD (p :: ps) = bytesV p ++ flatD ps := rfl
    have hp : (bytesV p).length = 32 := by rw [bytesV_length]; exact hall p (by simp)
    have ih := flatD_at ps j i d v (fun x hx => hall x (by simp [hx])) (by simpa using h) hv
    rw [e, List.getElem?_append_right (by omega), hp, show (j + 1) * 32 + i - 32 = j * 32 + i by omega]
    exact ih
theorem OwnsN.rdd {w : World} {base n cap : Nat} {A : Option Addr} {ps : List D} (h : OwnsN w base 26 32 A n cap (flatD ps)) (hall : ∀ x ∈ ps, x.length = 32) : RdD w w.heap.size A n ps ∧ n ≤ cap ∧ cap ≤ maxLen := by
  rcases h with ⟨rfl, rfl, rfl, hx⟩ | ⟨g, rfl, ho⟩
  · have : ps = [] := by
      have h := flatD_length ps hall
      rw [hx] at h
      exact List.eq_nil_of_length_eq_zero (by simp at h; omega)
    subst this
    exact ⟨RdD.nil _ _ _, Nat.le_refl _, Nat.zero_le _⟩
  · have hl := ho.1
    rw [flatD_length ps hall] at hl
    refine ⟨⟨by omega, hall, fun _ => ⟨g, 0, rfl, ho.lt, fun j d hj i v hv => ?_⟩⟩, ho.2.2.1, ho.2.2.2.1⟩
    rw [Nat.zero_add]
    exact ho.cell _ _ (flatD_at ps j i d v hall hj hv)

theorem dgInfo : (Tryd.prog.info? 26).map (fun i => (i.zero, i.size, i.bytes)) = some (some (.agg Z32), 32, 32) := by kernel_rfl
/-- one digest, as append takes it -/
theorem src_one (u : World) (d : D) (hd : d.length = 32) : Src Tryd.prog 32 30 (.slice (some ⟨u.heap.size, 0, none⟩) 1 1) 1 (bytesV d) (u.alloc (.cells (bytesV d).toArray 26)) := by
  refine Src.ofSlice _ Tryd.underlying30 _ 1 1 (bytesV d) (by rw [bytesV_length, hd]) (fun j v hv => ?_) (bytesV_one d)
  rw [add_lit', Nat.zero_add, cell_of_row _ _ j _ _ _ (heap_alloc_new _ _)]
  simpa using hv

/-- what a contract of path says of lists up to a length -/
def PathOk (f : Nat) : Prop := ∀ (A : Option Addr) (n c a : Nat) (ds : List D) (w : World), RdD w w.heap.size A n ds → 1 ≤ n → n ≤ f → a < n → n ≤ 1073741824 → n ≤ c → c ≤ maxLen → KOK w →
  Calls Tryd.prog 40 #[.slice A n c, .int .i64 a] w fun e w' => ∃ (A' : Option Addr) (m cap : Nat), e = .returned (.slice A' m cap) ∧ OwnsN w' w.heap.size 26 32 A' m cap (flatD (path ds a)) ∧ Below w.heap.size w w'

theorem dg_parts : ∃ i : TypeInfo, Tryd.prog.info? 26 = some i ∧ i.zero = some (.agg Z32) ∧ i.size = 32 ∧ i.bytes = 32 := by
  have h := dgInfo
  cases hi : Tryd.prog.info? 26 with
  | none => rw [hi] at h; cases h
  | some i =>
    rw [hi] at h
    simp only [Option.map_some, Option.some.injEq, Prod.mk.injEq] at h
    exact ⟨i, rfl, h.1, h.2.1, h.2.2⟩
theorem fold_fill : ∀ (l : List Value) (k : Nat) (cs : Array Value), k + l.length = cs.size → (l.zipIdx k).foldl (fun (cs : Array Value) (x : Value × Nat) => cs.setIfInBounds (0 + x.2) x.1) cs = (cs.toList.take k ++ l).toArray
  | [], k, cs, h => by
    simp at h
    rw [List.zipIdx_nil, List.foldl_nil, List.append_nil, h, List.take_of_length_le (by simp)]
  | x :: l, k, cs, h => by
    simp only [List.length_cons] at h
    rw [List.zipIdx_cons, List.foldl_cons, fold_fill l (k + 1) _ (by simp; omega), Nat.zero_add]
    congr 1
    have e : (cs.setIfInBounds k x).toList.take (k + 1) = cs.toList.take k ++ [x] := by
      rw [Array.toList_setIfInBounds, List.take_add_one, List.take_set_of_le (Nat.le_refl k), List.getElem?_set_self (by simp; omega)]
      rfl
    rw [e, List.append_assoc]
    rfl
theorem fold_zero (d : D) (hd : d.length = 32) : List.foldl (fun (cs : Array Value) (x : Value × Nat) => cs.setIfInBounds x.2 x.1) Z32 (bytesV d).zipIdx = (bytesV d).toArray := by
  have h := fold_fill (bytesV d) 0 Z32 (by rw [bytesV_length, hd]; rfl)
  simp only [Nat.zero_add, List.take_zero, List.nil_append] at h
  exact h
theorem pathLen {w : World} {base n cap : Nat} {A : Option Addr} {ps : List D} (h : OwnsN w base 26 32 A n cap (flatD ps)) (hall : ∀ x ∈ ps, x.length = 32) (hl : ps.length ≤ 40) : n ≤ 40 := by
  have := (h.rdd hall).1.1
  omega

set_option maxRecDepth 100000 in
set_option maxHeartbeats 2000000 in
theorem pathLeft (f : Nat) (ih : PathOk f) (A : Option Addr) (n c a : Nat) (ds : List D) (w : World) (hr : RdD w w.heap.size A n ds) (h2 : 2 ≤ n) (hf : n ≤ f + 1) (ha : a < half n) (_han : a < n) (hn : n ≤ 1073741824) (hc : n ≤ c) (hcm : c ≤ maxLen) (hK : KOK w) :
    Calls Tryd.prog 40 #[.slice A n c, .int .i64 a] w fun e w' => ∃ (A' : Option Addr) (m cap : Nat), e = .returned (.slice A' m cap) ∧ OwnsN w' w.heap.size 26 32 A' m cap (flatD (path ds a)) ∧ Below w.heap.size w w' := by
  have hK0 := hK.pos
  have hl := hr.1
  have a1 := half_lt n h2 (by omega)
  have a2 := half_pos n
  obtain ⟨h, hh⟩ : ∃ h, h = half n := ⟨_, rfl⟩
  have HH := Lib.hid hh
  rw [← hh] at a1 a2 ha
  have hcc : ¬ c = h := by omega
  have i0 : (0 : Int) ≤ (h : Int) := by omega
  have i1 : (h : Int) ≤ (n : Int) := by omega
  have i2 : (h : Int) ≤ (c : Int) := by omega
  have i3 : (n : Int) ≤ (c : Int) := by omega
  have hne1 : ((n : Int) == 1) = false := by rw [beq_eq_false_iff_ne]; omega
  have HP : Hid (path ds a = path (ds.take h) a ++ [tree (ds.drop h)]) := by
    have e := path_left ds a (by omega) (by omega) (by rw [← hl, ← hh]; exact ha)
    rw [← hl, ← hh] at e
    exact e
  have hpa : ∀ x ∈ path (ds.take h) a, x.length = 32 := path_all _ _ _ (Nat.le_refl _) (by simp; omega)
  have HPL : Hid ((path (ds.take h) a).length ≤ 40) := by
    unfold Hid
    rw [path_length _ _ _ (Nat.le_refl _) (by simp; omega) (by simp; omega)]
    exact steps_40 _ _ (by simp; omega) (by simp; omega) (by simp; omega)
  have HPA := Lib.hid hpa
  have HCP : Hid (∀ w', Below w.heap.size w w' → Calls Tryd.prog 40 #[.slice A h c, .int .i64 a] w' fun e w'' => ∃ (A' : Option Addr) (m cap : Nat), e = .returned (.slice A' m cap) ∧ Hid (OwnsN w'' w.heap.size 26 32 A' m cap (flatD (path (ds.take h) a))) ∧ Hid (Below w.heap.size w w'')) := fun w' hb => by
    have hb' := hb.size
    refine (ih A h c a (ds.take h) w' ((hr.take (by omega)).keep (by omega) fun p hp => hb.cell (by omega)) (by omega) (by omega) (by omega) (by omega) (by omega) (by omega) (hK.below hb (by omega))).mono fun e w'' hx => ?_
    obtain ⟨A', m, cap, e1, e2, e3⟩ := hx
    refine ⟨A', m, cap, e1, ?_, hb.trans (e3.mono hb')⟩
    rcases e2 with q | ⟨g, q1, q2, q3, q4⟩
    · exact .inl q
    · exact .inr ⟨g, q1, q2, by omega, q4⟩
  have HCT : Hid (∀ w', Below w.heap.size w w' → Calls Tryd.prog 17 #[.slice (A.map (·.add (h * 32))) (n - h) (c - h)] w' fun e w'' => e = .returned (.agg (bytesV (tree (ds.drop h))).toArray) ∧ Hid (Below w.heap.size w w'') ∧ Hid (Below w'.heap.size w' w'')) := fun w' hb => by
    have hb' := hb.size
    exact (tree_any _ (n - h) (c - h) (ds.drop h) w' ((hr.drop (by omega)).keep (by omega) fun p hp => hb.cell (by omega)) (by omega) (by omega) (by omega) (hK.below hb (by omega))).mono fun _ _ ⟨e, k⟩ => ⟨e, hb.trans (k.mono hb'), k⟩
  have HTL := Lib.hid (tree_length (ds.drop h))
  have HSPL := Lib.hid (split_any n w h2 (by omega))
  clear hK hr hl hh hpa
  go_enter Tryd.func40, Tryd.ntmps40
  go_wp2_with fail
  refine HSPL.out.mono ?_
  rintro e w' ⟨rfl, rfl⟩
  rw [← HH.out]
  go_wp2_with fail
  obtain ⟨i0', hi, hzz, hz1', hz2'⟩ := dg_parts
  have hl5 : (bytesV (tree (ds.drop h))).length = 32 := by rw [bytesV_length]; exact HTL.out
  have hff := fold_zero (tree (ds.drop h)) HTL.out
  go_region_held3 (fun w' => Below w.heap.size w w')
    (first | exact (Below.refl _ _).drew | exact HSL.out | exact HST.out | exact HS4.out | (have hX := ‹Below w.heap.size w _›; first | exact hX.alloc hX.size _ | exact (hX.alloc hX.size _).drew))
    (first
      | (go_at_call 40; with_reducible refine (HCP.out _ ‹Below w.heap.size w _›).mono ?_; rintro e wL ⟨A1, m1, cap1, rfl, HOL, HSL⟩)
      | (go_at_call 17; with_reducible refine (HCT.out _ ‹Below w.heap.size w _›).mono ?_; rintro e wT ⟨rfl, HST, HST'⟩
         have HOT := Lib.hid (HOL.out.below HST'.out (Nat.le_refl _)))
      | (refine step_append_N _ rfl (.tmp 19) (.tmp 24) 30 30 rfl w.heap.size 26 i0' _ 32 32 Tryd.underlying30 hi hzz hz1' hz2' rfl A1 m1 cap1 _ rfl (HOT.out.below ((Below.refl _ _).alloc (Nat.le_refl _) _) (Nat.le_refl _)) _ rfl 1 _ (src_one wT _ HTL.out) (by omega) (by have h := pathLen HOT.out HPA.out HPL.out; unfold maxLen; omega) (by have h := pathLen HOT.out HPA.out HPL.out; omega) (‹Below w.heap.size w _›).size ?_
         intro g4 cap4 w4 HO4 HB4
         have HS4 : Hid (Below w.heap.size w w4) := (‹Below w.heap.size w _›).trans HB4.out))
  go_wp2_with fail
  refine bodyPost_ret (v := .slice (some ⟨g4, 0, none⟩) (m1 + 1) cap4) (by simp [results, Tryd.results40, go_sem]) rfl ⟨_, _, _, rfl, .inr ⟨g4, rfl, ?_⟩, HS4.out⟩
  have h := HO4.out
  rw [← flatD_one, ← flatD_append, ← HP.out] at h
  exact h

set_option maxRecDepth 100000 in
set_option maxHeartbeats 2000000 in
theorem pathRight (f : Nat) (ih : PathOk f) (A : Option Addr) (n c a : Nat) (ds : List D) (w : World) (hr : RdD w w.heap.size A n ds) (h2 : 2 ≤ n) (hf : n ≤ f + 1) (ha : ¬ a < half n) (han : a < n) (hn : n ≤ 1073741824) (hc : n ≤ c) (hcm : c ≤ maxLen) (hK : KOK w) :
    Calls Tryd.prog 40 #[.slice A n c, .int .i64 a] w fun e w' => ∃ (A' : Option Addr) (m cap : Nat), e = .returned (.slice A' m cap) ∧ OwnsN w' w.heap.size 26 32 A' m cap (flatD (path ds a)) ∧ Below w.heap.size w w' := by
  have hK0 := hK.pos
  have hl := hr.1
  have a1 := half_lt n h2 (by omega)
  have a2 := half_pos n
  obtain ⟨h, hh⟩ : ∃ h, h = half n := ⟨_, rfl⟩
  have HH := Lib.hid hh
  rw [← hh] at a1 a2 ha
  obtain ⟨a', ha'⟩ : ∃ a', a' = a - h := ⟨_, rfl⟩
  have hcc : ¬ c = h := by omega
  have i0 : (0 : Int) ≤ (h : Int) := by omega
  have i1 : (h : Int) ≤ (n : Int) := by omega
  have i2 : (h : Int) ≤ (c : Int) := by omega
  have i3 : (n : Int) ≤ (c : Int) := by omega
  have hne1 : ((n : Int) == 1) = false := by rw [beq_eq_false_iff_ne]; omega
  have HP : Hid (path ds a = path (ds.drop h) a' ++ [tree (ds.take h)]) := by
    have e := path_right ds a (by omega) (by omega) (by rw [← hl, ← hh]; exact ha)
    rw [← hl, ← hh, ← ha'] at e
    exact e
  have hpa : ∀ x ∈ path (ds.drop h) a', x.length = 32 := path_all _ _ _ (Nat.le_refl _) (by simp; omega)
  have HPL : Hid ((path (ds.drop h) a').length ≤ 40) := by
    unfold Hid
    rw [path_length _ _ _ (Nat.le_refl _) (by simp; omega) (by simp; omega)]
    exact steps_40 _ _ (by simp; omega) (by simp; omega) (by simp; omega)
  have HPA := Lib.hid hpa
  have HWA : Hid (IntKind.i64.wrap ((a : Int) - (h : Int)) = (a' : Int)) := by
    unfold Hid
    rw [IntWalk.i64_in _ (by omega)]
    omega
  have HCP : Hid (∀ w', Below w.heap.size w w' → Calls Tryd.prog 40 #[.slice (A.map (·.add (h * 32))) (n - h) (c - h), .int .i64 a'] w' fun e w'' => ∃ (A' : Option Addr) (m cap : Nat), e = .returned (.slice A' m cap) ∧ Hid (OwnsN w'' w.heap.size 26 32 A' m cap (flatD (path (ds.drop h) a'))) ∧ Hid (Below w.heap.size w w'')) := fun w' hb => by
    have hb' := hb.size
    refine (ih _ (n - h) (c - h) a' (ds.drop h) w' ((hr.drop (by omega)).keep (by omega) fun p hp => hb.cell (by omega)) (by omega) (by omega) (by omega) (by omega) (by omega) (by omega) (hK.below hb (by omega))).mono fun e w'' hx => ?_
    obtain ⟨A', m, cap, e1, e2, e3⟩ := hx
    refine ⟨A', m, cap, e1, ?_, hb.trans (e3.mono hb')⟩
    rcases e2 with q | ⟨g, q1, q2, q3, q4⟩
    · exact .inl q
    · exact .inr ⟨g, q1, q2, by omega, q4⟩
  have HCT : Hid (∀ w', Below w.heap.size w w' → Calls Tryd.prog 17 #[.slice A h c] w' fun e w'' => e = .returned (.agg (bytesV (tree (ds.take h))).toArray) ∧ Hid (Below w.heap.size w w'') ∧ Hid (Below w'.heap.size w' w'')) := fun w' hb => by
    have hb' := hb.size
    exact (tree_any _ h c (ds.take h) w' ((hr.take (by omega)).keep (by omega) fun p hp => hb.cell (by omega)) (by omega) (by omega) (by omega) (hK.below hb (by omega))).mono fun _ _ ⟨e, k⟩ => ⟨e, hb.trans (k.mono hb'), k⟩
  have HTL := Lib.hid (tree_length (ds.take h))
  have HSPL := Lib.hid (split_any n w h2 (by omega))
  clear hK hr hl hh hpa ha'
  go_enter Tryd.func40, Tryd.ntmps40
  go_wp2_with fail
  refine HSPL.out.mono ?_
  rintro e w' ⟨rfl, rfl⟩
  rw [← HH.out]
  go_wp2_with fail
  obtain ⟨i0', hi, hzz, hz1', hz2'⟩ := dg_parts
  have hwa := HWA.out
  have hl5 : (bytesV (tree (ds.take h))).length = 32 := by rw [bytesV_length]; exact HTL.out
  have hff := fold_zero (tree (ds.take h)) HTL.out
  go_region_held3 (fun w' => Below w.heap.size w w')
    (first | exact (Below.refl _ _).drew | exact HSL.out | exact HST.out | exact HS4.out | (have hX := ‹Below w.heap.size w _›; first | exact hX.alloc hX.size _ | exact (hX.alloc hX.size _).drew))
    (first
      | (go_at_call 40; with_reducible refine (HCP.out _ ‹Below w.heap.size w _›).mono ?_; rintro e wL ⟨A1, m1, cap1, rfl, HOL, HSL⟩)
      | (go_at_call 17; with_reducible refine (HCT.out _ ‹Below w.heap.size w _›).mono ?_; rintro e wT ⟨rfl, HST, HST'⟩
         have HOT := Lib.hid (HOL.out.below HST'.out (Nat.le_refl _)))
      | (refine step_append_N _ rfl (.tmp 32) (.tmp 37) 30 30 rfl w.heap.size 26 i0' _ 32 32 Tryd.underlying30 hi hzz hz1' hz2' rfl A1 m1 cap1 _ rfl (HOT.out.below ((Below.refl _ _).alloc (Nat.le_refl _) _) (Nat.le_refl _)) _ rfl 1 _ (src_one wT _ HTL.out) (by omega) (by have h := pathLen HOT.out HPA.out HPL.out; unfold maxLen; omega) (by have h := pathLen HOT.out HPA.out HPL.out; omega) (‹Below w.heap.size w _›).size ?_
         intro g4 cap4 w4 HO4 HB4
         have HS4 : Hid (Below w.heap.size w w4) := (‹Below w.heap.size w _›).trans HB4.out))
  go_wp2_with fail
  refine bodyPost_ret (v := .slice (some ⟨g4, 0, none⟩) (m1 + 1) cap4) (by simp [results, Tryd.results40, go_sem]) rfl ⟨_, _, _, rfl, .inr ⟨g4, rfl, ?_⟩, HS4.out⟩
  have h := HO4.out
  rw [← flatD_one, ← flatD_append, ← HP.out] at h
  exact h

set_option maxRecDepth 100000 in
theorem path1_any (A : Option Addr) (c a : Nat) (ds : List D) (w : World) (hr : RdD w w.heap.size A 1 ds) :
    Calls Tryd.prog 40 #[.slice A 1 c, .int .i64 a] w fun e w' => ∃ (A' : Option Addr) (m cap : Nat), e = .returned (.slice A' m cap) ∧ OwnsN w' w.heap.size 26 32 A' m cap (flatD (path ds a)) ∧ Below w.heap.size w w' := by
  have HP := Lib.hid (path_one' ds hr.1.symm a)
  clear hr
  go_enter Tryd.func40, Tryd.ntmps40
  go_wp2_with fail
  exact bodyPost_ret (v := .slice none 0 0) (by simp [results, Tryd.results40, go_sem]) rfl ⟨none, 0, 0, rfl, .inl ⟨rfl, rfl, rfl, by rw [HP.out]; rfl⟩, Below.refl _ _⟩

theorem pathOk : ∀ f, PathOk f
  | 0 => by
    intro A n c a ds w _ h1 hf
    omega
  | f + 1 => by
    intro A n c a ds w hr h1 hf ha hn hc hcm hK
    by_cases he : n = 1
    · subst he
      exact path1_any A c a ds w hr
    · by_cases hl : a < half n
      · exact pathLeft f (pathOk f) A n c a ds w hr (by omega) hf hl ha hn hc hcm hK
      · exact pathRight f (pathOk f) A n c a ds w hr (by omega) hf hl ha hn hc hcm hK

set_option maxRecDepth 100000 in
set_option maxHeartbeats 1000000 in
/-- Path of an element that is there -/
theorem pathX_any (A : Option Addr) (n c a : Nat) (ds : List D) (w : World) (hr : RdD w w.heap.size A n ds) (ha : a < n) (hn : n ≤ 1073741824) (hc : n ≤ c) (hcm : c ≤ maxLen) (hK : KOK w) :
    Calls Tryd.prog 19 #[.slice A n c, .int .i64 a] w fun e w' => ∃ (A' : Option Addr) (m cap : Nat), e = .returned (.tuple #[.slice A' m cap, .int .i64 0]) ∧ OwnsN w' w.heap.size 26 32 A' m cap (flatD (path ds a)) ∧ Below w.heap.size w w' := by
  have HC := Lib.hid (pathOk n A n c a ds w hr (by omega) (Nat.le_refl _) ha hn hc hcm hK)
  have g3 : ¬ (a : Int) < 0 := by omega
  have g4 : ¬ (a : Int) ≥ (n : Int) := by omega
  have g4' : ¬ (n : Int) ≤ (a : Int) := by omega
  have g5 : ¬ n ≤ a := by omega
  clear hr hK
  go_enter Tryd.func19, Tryd.ntmps19
  go_wp2_with fail
  refine HC.out.mono ?_
  rintro e w1 ⟨A1, m1, cap1, rfl, HO, HB⟩
  go_wp2_with fail
  exact bodyPost_ret (v := .tuple #[.slice A1 m1 cap1, .int .i64 0]) (by simp [results, Tryd.results19, go_sem]) rfl ⟨_, _, _, rfl, HO, HB⟩
end Go.Proofs.YtfolmglafnfcbaaDoor
