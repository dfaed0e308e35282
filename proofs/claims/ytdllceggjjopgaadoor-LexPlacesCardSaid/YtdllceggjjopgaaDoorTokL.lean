/- Contract of the scanner's tokens. -/
import Derived.Test.YtdllceggjjopgaaDoorScanA
namespace Go.Proofs.YtdllceggjjopgaaDoor
open Go.RowKit

theorem Turn.then_below {a b c : World} {r B : Nat} (h : Turn a b r) (hb : Below B b c) (hB : a.heap.size ≤ B) : Turn a c r :=
  ⟨hb.os.trans h.os, hb.tape.trans h.tape, hb.output.trans h.output, Nat.le_trans h.size hb.size, fun k hk hne => (hb.block k (by omega)).trans (h.block k hk hne)⟩
theorem OwnsN.turn {w w' : World} {base n cap r : Nat} {A : Option Addr} {e : TypeId} {size : Nat} {xs : List Value} (h : OwnsN w base e size A n cap xs) (ht : Turn w w' r) (hr : r < base) : OwnsN w' base e size A n cap xs := by
  rcases h with h | ⟨g, hA, ho⟩
  · exact .inl h
  · exact .inr ⟨g, hA, ho.keep (ht.block g ho.lt fun e => by injection e with e; have := ho.2.1; omega)⟩
theorem OwnsN.lower {w : World} {base base' n cap : Nat} {A : Option Addr} {e : TypeId} {size : Nat} {xs : List Value} (h : OwnsN w base e size A n cap xs) (hb : base' ≤ base) : OwnsN w base' e size A n cap xs := by
  rcases h with h | ⟨g, hA, h1, h2, h3⟩
  · exact .inl h
  · exact .inr ⟨g, hA, h1, by omega, h3⟩
section
variable {P : Program}
theorem wpList_append_N (w : World) {ops : Array Oper} {rest : List Oper} {o : Oper} {a : Act} {Q : Exit → Act → World → Prop} (hgd : o.guard = none) (x y : Operand) (t tx : TypeId)
    (ho : o.op = .call { callee := .builtin .append, args := #[x, y], argTypes := #[t, tx] })
    (base : Nat) (e : TypeId) (i : TypeInfo) (z : Value) (size bytes : Nat) (ht : P.underlying t = some (.slice e)) (hi : P.info? e = some i) (hz : i.zero = some z)
    (hsize : i.size = size) (hby : i.bytes = bytes) (hzs : z.cells.size = size)
    (A : Option Addr) (n cap : Nat) (xs : List Value) (hs : a.eval x = .slice A n cap) (hown : OwnsN w base e size A n cap xs) (vx : Value) (hx : a.eval y = vx) (m : Nat) (news : List Value) (hsrc : Src P size tx vx m news w) (hm : 0 < m)
    (h63 : n + m ≤ maxLen) (hbytes : (n + m) * bytes ≤ 140737488355328) (hbase : base ≤ w.heap.size)
    (h : ∀ g' cap' w', Hid (Owns w' base e size g' (n + m) cap' (xs ++ news)) → Hid (Below base w w') → wpList P ops Q rest (a.put o.dst (.slice (some ⟨g', 0, none⟩) (n + m) cap')) w') : wpList P ops Q (o :: rest) a w :=
  wpList_plain hgd fun _ hK => by
    obtain ⟨g', cap', w', hr, h2, h3⟩ := run_append_N (P := P) w base t tx o.type e i z size bytes ht hi hz hsize hby hzs A n cap xs hown vx m news hsrc hm h63 hbytes hbase
    unfold Oper.wp execOp
    simp only [ho, resolve, invoke, builtin, Sem.run_bind, Sem.run_pure, Result.andThen_ok, List.map_toArray, List.map_cons, List.map_nil, hs, hx, hr]
    exact hK _ _ (h g' cap' w' h2 h3)
end
/-- the parts of a type's information -/
theorem info_parts {t : TypeId} {z : Value} {n b : Nat} (h : (Tryd.prog.info? t).map (fun i => (i.zero, i.size, i.bytes)) = some (some z, n, b)) : ∃ i, Tryd.prog.info? t = some i ∧ i.zero = some z ∧ i.size = n ∧ i.bytes = b := by
  cases hi : Tryd.prog.info? t with
  | none => rw [hi] at h; cases h
  | some i =>
    rw [hi] at h
    simp at h
    exact ⟨i, rfl, h.1, h.2.1, h.2.2⟩

/-- what tokens leaves -/
def TokR (w : World) (r : Nat) (s : List UInt8) (e : Ending) (w' : World) : Prop :=
  Turn w w' r ∧ ((∃ l A n cap, lex 0 s = .inl l ∧ e = .returned (.slice A n cap) ∧ OwnsN w' w.heap.size 35 4 A n cap (flatE tkV l) ∧ l.length ≤ 65536) ∨ (∃ q, lex 0 s = .inr q ∧ e = .panicked (placeChain q)))

set_option maxRecDepth 100000 in
set_option maxHeartbeats 4000000 in
theorem tokens_any (r : Nat) (s : List UInt8) (w : World) (h : Scn w r s 0) (hs : s.length ≤ 65536) (hK : KOK w) (hr : 2 < r) :
    Calls Tryd.prog 25 #[.pointer (some ⟨r, 0, none⟩)] w (TokR w r s) := by
  have HS := Lib.hid h
  have HK := Lib.hid hK
  have hrl := h.lt
  clear h hK
  obtain ⟨iT, hiT, hzT, hsT, hbT⟩ := info_parts tokenInfo
  go_enter Tryd.func25, Tryd.ntmps25
  go_wp2_with fail
  refine (rules_any w).mono ?_
  rintro e w1 ⟨rfl, hb1⟩
  have hb2 : Below w.heap.size w (w1.alloc (.cells RUL 61)) := hb1.alloc hb1.size _
  obtain ⟨g, hg⟩ : ∃ g, g = w1.heap.size := ⟨_, rfl⟩
  have hgw : w.heap.size ≤ g := by rw [hg]; exact hb1.size
  have hRU := heap_alloc_new w1 (.cells RUL 61)
  rw [← hg] at hRU
  clear hb1
  go_wp2_with fail
  obtain ⟨X, hX⟩ : ∃ X, X = w1.alloc (.cells RUL 61) := ⟨_, rfl⟩
  obtain ⟨B, hB⟩ : ∃ B, B = X.heap.size := ⟨_, rfl⟩
  have hgB : g < B := by rw [hB, hX, hg]; simp
  rw [show (w1.alloc (.cells RUL 61)) = X from hX.symm] at hRU hb2
  have HTX : Hid (Turn w X r) := Turn.of_below hb2
  have HSX : Hid (Scn X r s 0) := HS.out.below hb2 hrl
  have hwB : w.heap.size ≤ B := by omega
  rw [← hX, ← hg]
  have HRX := Lib.hid hRU
  have HBX := Lib.hid hB
  clear hX hb2 hRU hg hB
  refine (pass_any r s 0 X HSX.out (Nat.zero_le _) hs (HK.out.turn HTX.out hr hrl) hr).mono ?_
  rintro e v0 ⟨rfl, j0, _, hj0, hs0, ht0, hl0, hn0⟩
  have HS0 := Lib.hid hs0
  have HT0 : Hid (Turn w v0 r) := HTX.out.trans ht0
  have HL0 : Hid (lex 0 s = ahead [] (lex j0 (s.drop j0))) := by unfold Hid; rw [ahead_nil, ← hl0]; rfl
  have HN0 := Lib.hid hn0
  have HR0 : Hid (v0.heap[g]? = some (.cells RUL 61 (0, 0))) := (ht0.block g (by rw [← HBX.out]; exact hgB) (by intro e; injection e with e; omega)).trans HRX.out
  have HB0 : Hid (B ≤ v0.heap.size) := by rw [HBX.out]; exact ht0.size
  clear hs0 ht0 hl0 hn0 HSX HTX HRX HBX
  go_wp2_with fail
  go_loopw [2] (fun l wr => ∃ (A : Option Addr) (n cap j : Nat) (acc : List Tk), l = .slice A n cap ∧ n ≤ j ∧ j ≤ s.length ∧ Hid (n = acc.length) ∧ Hid (OwnsN wr B 35 4 A n cap (flatE tkV acc)) ∧ Hid (Scn wr r s j) ∧ Hid (Turn w wr r) ∧ Hid (wr.heap[g]? = some (.cells RUL 61 (0, 0))) ∧ Hid (B ≤ wr.heap.size) ∧ Hid (lex 0 s = ahead acc (lex j (s.drop j))) ∧ Hid (j < s.length → NoSkip (s.drop j)))
    (fun _ wr => s.length - (intOf ((wr.cell? ⟨r, 1, none⟩).getD undef)).toNat)
  case atStart => exact ⟨none, 0, 0, j0, [], rfl, by omega, hj0, rfl, .inl ⟨rfl, rfl, rfl, rfl⟩, HS0, HT0, HR0, HB0, HL0, HN0⟩
  case round =>
    clear HS0 HT0 HR0 HB0 HL0 HN0
    obtain ⟨A, n, cap, j, acc, rfl, hnj, hj, HNA, HO, HSr, HT, HR, HB, HL, HN⟩ := hrel
    rename World => v
    have c0 := HSr.out.cell0
    have c1 := HSr.out.cell1
    have HC1 := Lib.hid c1
    by_cases hlt : j < s.length
    · have e1 : (j : Int) < (s.length : Int) := by omega
      have e2 : (0 : Int) ≤ (j : Int) := by omega
      obtain ⟨c, t, hct⟩ : ∃ c t, s.drop j = c :: t := by
        cases hd : s.drop j with
        | nil => have := congrArg List.length hd; rw [List.length_drop] at this; simp at this; omega
        | cons c t => exact ⟨c, t, rfl⟩
      have hsj : s[j]? = some c := by
        have h2 : (s.drop j)[0]? = some c := by rw [hct]; rfl
        rw [List.getElem?_drop] at h2
        exact h2
      obtain ⟨hp, hix⟩ := ba_at hsj
      have hk := cls_lt c
      obtain ⟨F, hF⟩ : ∃ F, RUL[2 * cls c]? = some F := ⟨_, Array.getElem?_eq_getElem (by show 2 * cls c < 12; omega)⟩
      obtain ⟨T, hT⟩ : ∃ T, RUL[2 * cls c + 1]? = some T := ⟨_, Array.getElem?_eq_getElem (by show 2 * cls c + 1 < 12; omega)⟩
      have HKv : Hid (KOK v) := HK.out.turn HT.out hr hrl
      have HCK : Hid (∀ W, KOK W → Calls Tryd.prog 38 #[.int .u8 (c.toNat : Int)] W fun e w' => e = .returned (.int .i64 (cls c : Nat)) ∧ w' = W) := fun W hW => (classOf_any c W hW).mono fun _ _ ⟨a, b⟩ => ⟨a, b.symm⟩
      have HNS := Lib.hid (HN.out hlt)
      rw [hct] at HNS
      have HSC : Hid (∀ W, Scn W r s j → KOK W → Calls Tryd.prog 42 #[.pointer (some ⟨r, 0, none⟩), .agg #[F, T]] W (ScanR W r s j)) := fun W h1 h2 => scan_any r s j c t F T W h1 hct hs h2 hr HNS.out hF hT
      have kF : v.cell? ⟨g, cls c * 2, none⟩ = some F := by rw [cell_of_row _ _ _ _ _ _ HR.out, Nat.mul_comm]; exact hF
      have kT : v.cell? ⟨g, cls c * 2 + 1, none⟩ = some T := by rw [cell_of_row _ _ _ _ _ _ HR.out, Nat.mul_comm (cls c)]; exact hT
      have HCT := Lib.hid hct
      obtain ⟨K, hKK⟩ : ∃ K, K = cls c := ⟨_, rfl⟩
      rw [← hKK] at kF kT HCK hk
      have k1 : (0 : Int) ≤ (K : Int) := by omega
      have k2 : (K : Int) < 6 := by omega
      clear hsj hF hT hct hKK
      go_wp2_with fail
      go_quiet (fail)
      go_wp2_with fail
      obtain ⟨V, hV⟩ : ∃ V, V = v.drewN nq := ⟨_, rfl⟩
      have kF' : V.cell? ⟨g, K * 2, none⟩ = some F := by rw [hV]; exact kF
      have kT' : V.cell? ⟨g, K * 2 + 1, none⟩ = some T := by rw [hV]; exact kT
      have c0' : V.cell? ⟨r, 0, none⟩ = some (.string ⟨s.toArray⟩) := by rw [hV]; exact c0
      have c1' : V.cell? ⟨r, 1, none⟩ = some (.int .i64 j) := by rw [hV]; exact c1
      have HOV : Hid (OwnsN V B 35 4 A n cap (flatE tkV acc)) := by rw [hV]; exact HO.out.below (below_drewN (Below.refl v.heap.size v) nq) (Nat.le_refl _)
      have HSV : Hid (Scn V r s j) := by rw [hV]; exact HSr.out.drewN _
      have HTV : Hid (Turn w V r) := by rw [hV]; exact HT.out.drewN _
      have HRV : Hid (V.heap[g]? = some (.cells RUL 61 (0, 0))) := by rw [hV]; exact HR.out
      have HBV : Hid (B ≤ V.heap.size) := by rw [hV]; exact HB.out
      have HKV : Hid (KOK V.drew) := (HK.out.turn HTV.out hr hrl).below (B := V.heap.size) ((Below.refl _ _).drew) (HK.out.turn HTV.out hr hrl).pos
      have HCV := Lib.hid (HCK.out V.drew HKV.out)
      have HSCV := Lib.hid (HSC.out V.drew HSV.out HKV.out)
      rw [← hV]
      clear hV kF kT c0 c1 HO HSr HT HR HB HCK HSC HKv
      refine wp_region_held_drew (S := fun u => u.cell? ⟨r, 0, none⟩ = some (.string ⟨s.toArray⟩)) (by kernel_rfl) c0' (fun hHeld => ?_)
      have kF : V.drew.cell? ⟨g, K * 2, none⟩ = some F := kF'
      have kT : V.drew.cell? ⟨g, K * 2 + 1, none⟩ = some T := kT'
      have c0 : V.drew.cell? ⟨r, 0, none⟩ = some (.string ⟨s.toArray⟩) := c0'
      have c1 : V.drew.cell? ⟨r, 1, none⟩ = some (.int .i64 j) := c1'
      have HOW : Hid (OwnsN V.drew B 35 4 A n cap (flatE tkV acc)) := HOV.out.below (Below.refl V.heap.size V).drew (Nat.le_refl _)
      have HTW : Hid (Turn w V.drew r) := HTV.out.trans (Turn.drewN (Turn.refl V r) 1)
      have HRW : Hid (V.drew.heap[g]? = some (.cells RUL 61 (0, 0))) := HRV.out
      have HBW : Hid (B ≤ V.drew.heap.size) := HBV.out
      clear kF' kT' c0' c1' HOV HTV HRV HBV HKV HSV
      generalize V.drew = W at *
      have HSW := Lib.hid c0
      refine wpAnyH_take (i := 0) (oi := ⟨some 19, _, _, _, _, _⟩) (v := ?_) rfl (by kernel_rfl) (by kernel_rfl) (by kernel_rfl) (fun _ _ _ h => h) (Or.inl ⟨by rfl, ?_⟩) (by assumption) ?_
      rotate_left
      · (intro w hSw; skip; go_simp) <;> with_reducible rfl
      try simp only [Act.put, List.setIfInBounds_toArray, List.set_cons_zero, List.set_cons_succ]
      refine wpAnyH_take (i := 1) (oi := ⟨some 20, _, _, _, _, _⟩) (v := ?_) rfl (by kernel_rfl) (by kernel_rfl) (by kernel_rfl) (fun _ _ _ h => h) (Or.inl ⟨by rfl, ?_⟩) (by assumption) ?_
      rotate_left
      · (intro w hSw; skip; go_simp) <;> with_reducible rfl
      try simp only [Act.put, List.setIfInBounds_toArray, List.set_cons_zero, List.set_cons_succ]
      refine wpAnyH_take (i := 2) (oi := ⟨some 21, _, _, _, _, _⟩) (v := ?_) rfl (by kernel_rfl) (by kernel_rfl) (by kernel_rfl) (fun _ _ _ h => h) (Or.inl ⟨by rfl, ?_⟩) (by assumption) ?_
      rotate_left
      · (intro w hSw; skip; go_simp) <;> with_reducible rfl
      try simp only [Act.put, List.setIfInBounds_toArray, List.set_cons_zero, List.set_cons_succ]
      refine wpAnyH_take (i := 3) (oi := ⟨some 22, _, _, _, _, _⟩) (v := ?_) rfl (by kernel_rfl) (by kernel_rfl) (by kernel_rfl) (fun _ _ _ h => h) (Or.inl ⟨by rfl, ?_⟩) (by assumption) ?_
      rotate_left
      · (intro w hSw; skip; go_simp) <;> with_reducible rfl
      try simp only [Act.put, List.setIfInBounds_toArray, List.set_cons_zero, List.set_cons_succ]
      refine wpAnyH_take (i := 4) (oi := ⟨some 23, _, _, _, _, _⟩) (v := ?_) rfl (by kernel_rfl) (by kernel_rfl) (by kernel_rfl) (fun _ _ _ h => h) (Or.inl ⟨by rfl, ?_⟩) (by assumption) ?_
      rotate_left
      · (intro w hSw; skip; go_simp) <;> with_reducible rfl
      try simp only [Act.put, List.setIfInBounds_toArray, List.set_cons_zero, List.set_cons_succ]
      refine wpAnyH_take (i := 5) (oi := ⟨some 24, _, _, _, _, _⟩) (v := ?_) rfl (by kernel_rfl) (by kernel_rfl) (by kernel_rfl) (fun _ _ _ h => h) (Or.inl ⟨by rfl, ?_⟩) (by assumption) ?_
      rotate_left
      · (intro w hSw; skip; go_simp) <;> with_reducible rfl
      try simp only [Act.put, List.setIfInBounds_toArray, List.set_cons_zero, List.set_cons_succ]
      refine wpAnyH_take (i := 6) (oi := ⟨some 25, _, _, _, _, _⟩) (v := ?_) rfl (by kernel_rfl) (by kernel_rfl) (by kernel_rfl) (fun _ _ _ h => h) (Or.inl ⟨by rfl, ?_⟩) (by assumption) ?_
      rotate_left
      · (intro w hSw; skip; go_simp) <;> with_reducible rfl
      try simp only [Act.put, List.setIfInBounds_toArray, List.set_cons_zero, List.set_cons_succ]
      refine wpAnyH_take (i := 7) (oi := ⟨some 26, _, _, _, _, _⟩) (v := ?_) rfl (by kernel_rfl) (by kernel_rfl) (by kernel_rfl) (fun _ _ _ h => h) (Or.inl ⟨by rfl, ?_⟩) (by assumption) ?_
      rotate_left
      · (intro w hSw; skip; go_simp) <;> with_reducible rfl
      try simp only [Act.put, List.setIfInBounds_toArray, List.set_cons_zero, List.set_cons_succ]
      refine wpAnyH_take (i := 8) (oi := ⟨some 27, _, _, _, _, _⟩) (v := ?_) rfl (by kernel_rfl) (by kernel_rfl) (by kernel_rfl) (fun _ _ _ h => h) (Or.inl ⟨by rfl, ?_⟩) (by assumption) ?_
      rotate_left
      · (intro w hSw; skip; go_simp) <;> with_reducible rfl
      try simp only [Act.put, List.setIfInBounds_toArray, List.set_cons_zero, List.set_cons_succ]
      refine wpAnyH_ready (rs := [9]) (by kernel_rfl) (by simp) ?_
      refine AllReadyH.cons (o := ⟨some 28, _, _, _, _, _⟩) rfl (fun K hK => ?_) AllReadyH.nil
      go_simp
      refine hK.out _ _ HSW.out (fun hHeld => ?_)
      clear hK K
      try simp only [Act.put, List.setIfInBounds_toArray, List.set_cons_zero, List.set_cons_succ]
      refine wpAnyH_take (i := 10) (oi := ⟨some 29, _, _, _, _, _⟩) (v := ?_) rfl (by kernel_rfl) (by kernel_rfl) (by kernel_rfl) (fun _ _ _ h => h) (Or.inl ⟨by rfl, ?_⟩) (by assumption) ?_
      rotate_left
      · (intro w hSw; skip; go_simp) <;> with_reducible rfl
      try simp only [Act.put, List.setIfInBounds_toArray, List.set_cons_zero, List.set_cons_succ]
      refine wpAnyH_ready (rs := [11]) (by kernel_rfl) (by simp) ?_
      refine AllReadyH.cons (o := ⟨some 30, _, _, _, _, _⟩) rfl (fun K hK => ?_) AllReadyH.nil
      go_simp
      refine HCV.out.mono ?_
      rintro e W' ⟨rfl, rfl⟩
      go_wp2_with fail
      refine hK.out _ _ HSW.out (fun hHeld => ?_)
      clear hK K
      try simp only [Act.put, List.setIfInBounds_toArray, List.set_cons_zero, List.set_cons_succ]
      refine wpAnyH_take (i := 12) (oi := ⟨some 31, _, _, _, _, _⟩) (v := ?_) rfl (by kernel_rfl) (by kernel_rfl) (by kernel_rfl) (fun _ _ _ h => h) (Or.inl ⟨by rfl, ?_⟩) (by assumption) ?_
      rotate_left
      · (intro w hSw; skip; go_simp) <;> with_reducible rfl
      try simp only [Act.put, List.setIfInBounds_toArray, List.set_cons_zero, List.set_cons_succ]
      refine wpAnyH_ready (rs := [13]) (by kernel_rfl) (by simp) ?_
      refine AllReadyH.cons (o := ⟨some 32, _, _, _, _, _⟩) rfl (fun K hK => ?_) AllReadyH.nil
      go_simp
      refine hK.out _ _ HSW.out (fun hHeld => ?_)
      clear hK K
      try simp only [Act.put, List.setIfInBounds_toArray, List.set_cons_zero, List.set_cons_succ]
      clear hix hp kF kT c0 c1
      refine wpAnyH_ready (rs := [14]) (by kernel_rfl) (by simp) ?_
      refine AllReadyH.cons (o := ⟨some 33, _, _, _, _, _⟩) rfl (fun K2 hK => ?_) AllReadyH.nil
      go_simp
      refine HSCV.out.mono ?_
      rintro e U ⟨htV, ⟨⟨kd, _, tx, tn⟩, m, hst, rfl, hsU⟩ | ⟨hst, rfl⟩⟩
      rotate_left
      · have HL2 : Hid (lex 0 s = .inr j) := by
          unfold Hid
          rw [HL.out, lex_bad (by rw [HCT.out]; simp) j hst]
          rfl
        exact ⟨rfl, HTW.out.trans htV, .inr ⟨j, HL2.out, rfl⟩⟩
      have hml := step_pos.2 _ _ (by rw [← HCT.out]; exact hst)
      have hjm : j + m ≤ s.length := by
        have e := congrArg List.length HCT.out
        rw [List.length_drop] at e
        omega
      have hm1 := hml.1
      have HL2 : Hid (lex 0 s = ahead (acc ++ [⟨kd, j, tx, tn⟩]) (lex (j + m) (s.drop (j + m)))) := by
        unfold Hid
        rw [HL.out, ahead_tok acc (by rw [HCT.out]; simp) j hst, List.drop_drop]
      have zU := htV.size
      have zB := HBW.out
      have HBU := Below.new1 U (.cells #[.int .i64 kd, .int .i64 j, .string ⟨tx.toArray⟩, .int .i64 tn] 35)
      have hOU : OwnsN U B 35 4 A n cap (flatE tkV acc) := HOW.out.turn htV (by omega)
      have HOU := Lib.hid (hOU.below HBU (Nat.le_refl _))
      have HSrc := Lib.hid (src_new (P := Tryd.prog) (t := 23) 35 (m := 4) (cs := [.int .i64 kd, .int .i64 j, .string ⟨tx.toArray⟩, .int .i64 tn]) Tryd.underlying23 rfl (tkV_one ⟨kd, j, tx, tn⟩) U)
      have HSU2 : Hid (Scn (U.alloc (.cells #[.int .i64 kd, .int .i64 j, .string ⟨tx.toArray⟩, .int .i64 tn] 35)) r s (j + m)) := hsU.below HBU hsU.lt
      have HTU2 : Hid (Turn w (U.alloc (.cells #[.int .i64 kd, .int .i64 j, .string ⟨tx.toArray⟩, .int .i64 tn] 35)) r) := (HTW.out.trans htV).trans (Turn.of_below HBU)
      have HRU2 : Hid ((U.alloc (.cells #[.int .i64 kd, .int .i64 j, .string ⟨tx.toArray⟩, .int .i64 tn] 35)).heap[g]? = some (.cells RUL 61 (0, 0))) :=
        (HBU.block g (by omega)).trans ((htV.block g (by omega) (by intro e; injection e with e; omega)).trans HRW.out)
      have hB2 : B ≤ (U.alloc (.cells #[.int .i64 kd, .int .i64 j, .string ⟨tx.toArray⟩, .int .i64 tn] 35)).heap.size := by have := HBU.size; omega
      have HSU := Lib.hid hsU.cell0
      have hrB : r < B := by omega
      clear hOU HBU htV hst hsU HSCV HCV hml HOW HTW HRW HBW HSW
      go_wp2_with fail
      refine hK.out _ _ HSU.out (fun hHeld => ?_)
      clear hK K2
      try simp only [Act.put, List.setIfInBounds_toArray, List.set_cons_zero, List.set_cons_succ]
      refine wpAnyH_ready (rs := [15]) (by kernel_rfl) (by simp) ?_
      refine AllReadyH.cons (o := ⟨some 34, _, _, _, _, _⟩) rfl (fun K hK => ?_) AllReadyH.nil
      go_simp
      refine hK.out _ _ HSU2.out.cell0 (fun hHeld => ?_)
      clear hK K
      try simp only [Act.put, List.setIfInBounds_toArray, List.set_cons_zero, List.set_cons_succ]
      refine wpAnyH_ready (rs := [16]) (by kernel_rfl) (by simp) ?_
      refine AllReadyH.cons (o := ⟨some 35, _, _, _, _, _⟩) rfl (fun K2 hK => ?_) AllReadyH.nil
      refine step_append_N _ rfl (.tmp 19) (.tmp 34) 23 23 rfl B 35 iT _ 4 40 Tryd.underlying23 hiT hzT hsT hbT rfl A n cap (flatE tkV acc) rfl HOU.out _ rfl 1 _ HSrc.out (by omega) (by unfold maxLen; omega) (by omega) hB2 ?_
      intro g2 cap2 w3 HO3 HB3
      have HS3 : Hid (Scn w3 r s (j + m)) := HSU2.out.below HB3.out hrB
      have HT3 : Hid (Turn w w3 r) := HTU2.out.then_below HB3.out hwB
      have HR3 : Hid (w3.heap[g]? = some (.cells RUL 61 (0, 0))) := (HB3.out.block g hgB).trans HRU2.out
      have HB3' : Hid (B ≤ w3.heap.size) := Nat.le_trans hB2 HB3.out.size
      have HO3' : Hid (OwnsN w3 B 35 4 (some ⟨g2, 0, none⟩) (n + 1) cap2 (flatE tkV (acc ++ [⟨kd, j, tx, tn⟩]))) := .inr ⟨g2, rfl, by rw [flatE_append, flatE_one]; exact HO3.out⟩
      refine hK.out _ _ HS3.out.cell0 (fun hHeld => ?_)
      clear hK K2 HOU HSrc HO3 HTU2 HRU2 HB3 hB2 HSU2 HSU zU zB
      try simp only [Act.put, List.setIfInBounds_toArray, List.set_cons_zero, List.set_cons_succ]
      refine wpAnyH_ready (rs := [17]) (by kernel_rfl) (by simp) ?_
      refine AllReadyH.cons (o := ⟨some 2, _, _, _, _, _⟩) rfl (fun K hK => ?_) AllReadyH.nil
      go_simp
      refine hK.out _ _ HS3.out.cell0 (fun hHeld => ?_)
      clear hK K
      try simp only [Act.put, List.setIfInBounds_toArray, List.set_cons_zero, List.set_cons_succ]
      refine wpAnyH_done (by kernel_rfl) ?_ _
      clear hHeld
      go_wp2_with fail
      refine (pass_any r s (j + m) w3 HS3.out hjm hs (HK.out.turn HT3.out hr hrl) hr).mono ?_
      rintro e v4 ⟨rfl, j4, hj4, hj4', hs4, ht4, hl4, hn4⟩
      have HS4 := Lib.hid hs4
      have HT4 : Hid (Turn w v4 r) := HT3.out.trans ht4
      have HR4 : Hid (v4.heap[g]? = some (.cells RUL 61 (0, 0))) := (ht4.block g (by have := HB3'.out; omega) (by intro e; injection e with e; omega)).trans HR3.out
      have HB4 : Hid (B ≤ v4.heap.size) := Nat.le_trans HB3'.out ht4.size
      have HO4 : Hid (OwnsN v4 B 35 4 (some ⟨g2, 0, none⟩) (n + 1) cap2 (flatE tkV (acc ++ [⟨kd, j, tx, tn⟩]))) := HO3'.out.turn ht4 hrB
      have HL4 : Hid (lex 0 s = ahead (acc ++ [⟨kd, j, tx, tn⟩]) (lex j4 (s.drop j4))) := by unfold Hid; rw [HL2.out, hl4]
      have HNA4 : Hid (n + 1 = (acc ++ [(⟨kd, j, tx, tn⟩ : Tk)]).length) := by unfold Hid; rw [HNA.out]; simp
      have HN4 := Lib.hid hn4
      have HM4 : Hid (s.length - (intOf ((v4.cell? ⟨r, 1, none⟩).getD undef)).toNat < s.length - (intOf ((v.cell? ⟨r, 1, none⟩).getD undef)).toNat) := by
        unfold Hid
        rw [HS4.out.cell1, HC1.out]
        simp [intOf]
        omega
      clear hs4 ht4 hl4 hn4 HS3 HT3 HR3 HB3' HO3' HL HL2 HNA HN
      go_wp2_with fail
      exact ⟨⟨_, _, _, j4, _, rfl, by omega, hj4', HNA4, HO4, HS4, HT4, HR4, HB4, HL4, HN4⟩, HM4.out⟩
    · have e1 : ¬ (j : Int) < (s.length : Int) := by omega
      have HLE : Hid (lex 0 s = .inl acc) := by
        unfold Hid
        rw [HL.out, List.drop_eq_nil_of_le (by omega), lex_nil]
        simp [ahead]
      go_wp2_with fail
      go_quiet (fail)
      go_wp2_with fail
      go_ret
      exact ⟨HT.out.drewN _, .inl ⟨acc, A, n, cap, HLE.out, rfl, (HO.out.below (below_drewN (Below.refl v.heap.size v) nq) (Nat.le_refl _)).lower hwB, by rw [← HNA.out]; omega⟩⟩
end Go.Proofs.YtdllceggjjopgaaDoor
