/- Contracts of the reference's numeral, encode, Encode and Size. -/
import Derived.Test.YtbcaanadmfnegaaEnc
import Derived.Test.YtbcaanadmfnegaaRefCheck
namespace Go.Proofs.Ytbcaanadmfnegaa
open Go.RowKit

/-- a new row of bytes is made -/
def Made (w : World) (xs : List UInt8) (e : Ending) (w' : World) : Prop :=
  ∃ (g cap N : Nat), e = .returned (.slice (some ⟨g, 0, none⟩) N cap) ∧ Hid (N = xs.length) ∧ Own w' w.heap.size (.slice (some ⟨g, 0, none⟩) N cap) xs ∧ Below w.heap.size w w'

theorem own_lit (w : World) (b : Int) (x : UInt8) (h : b = x.toNat) : Own (w.alloc (.cells #[.int .u8 b] 5)) w.heap.size (.slice (some ⟨w.heap.size, 0, none⟩) 1 1) [x] := by
  subst h
  exact ⟨rfl, .inr ⟨w.heap.size, 1, _, rfl, Nat.le_refl _, heap_alloc_new w _, Nat.le_refl _, by unfold maxLen; omega, rfl, rfl⟩⟩
theorem own_lit_at (w : World) (b : Int) (x : UInt8) (h : b = x.toNat) (H : Nat) (hH : w.heap.size = H) : Own (w.alloc (.cells #[.int .u8 b] 5)) H (.slice (some ⟨H, 0, none⟩) 1 1) [x] := by
  subst hH
  exact own_lit w b x h
theorem own_cells {w : World} {base g N cap : Nat} {xs : List UInt8} (h : Own w base (.slice (some ⟨g, 0, none⟩) N cap) xs) : ∀ j u, (bytesV xs)[j]? = some u → w.cell? ((⟨g, 0, none⟩ : Addr).add j) = some u :=
  World.ownsRow.cells h (g := g) rfl
theorem bytesV_oneCell (xs : List UInt8) : ∀ u ∈ bytesV xs, u.oneCell' = true := by
  intro u hu
  obtain ⟨_, _, rfl⟩ := List.mem_map.1 hu
  rfl

/-! appending a row of bytes to a row of bytes -/
section
variable {X : World}
theorem wp_appOwn {o : Oper} {a : Act} {K : Act → World → Prop} {Q : Exit → Act → World → Prop} (s x : Operand)
    (ho : o.op = .call { callee := .builtin .append, args := #[s, x], argTypes := #[27, 27] })
    (base : Nat) (v : Value) (n : Nat) (xs ys : List UInt8) (g N cap base' : Nat) (hs : a.eval s = v) (hx : a.eval x = .slice (some ⟨g, 0, none⟩) N cap)
    (hown : Own X base v xs) (hn : n = xs.length) (hy : Own X base' (.slice (some ⟨g, 0, none⟩) N cap) ys) (hN : N = ys.length) (hm : 0 < N) (hl : n + N ≤ 4398046511104) (hbase : base ≤ X.heap.size)
    (h : ∀ g cap w', Own w' base (.slice (some ⟨g, 0, none⟩) (n + N) cap) (xs ++ ys) → Turned X w' v (.slice (some ⟨g, 0, none⟩) (n + N) cap) → K (a.put o.dst (.slice (some ⟨g, 0, none⟩) (n + N) cap)) w') : o.wp Try.prog a X K Q := by
  subst hn
  obtain ⟨i0, hi, hz0, hz1, hz2⟩ := info_parts byteInfo
  refine wp_append_lies X s x _ ho base 5 i0 _ 1 1 Try.underlying27 hi hz0 hz1 hz2 rfl (by omega) v xs.length (bytesV xs) hs hown ⟨g, 0, none⟩ N cap (bytesV ys) hx (by rw [bytesV_length]; omega) (own_cells hy) (bytesV_oneCell ys) hm (by unfold maxLen; omega) (by omega) hbase _ rfl ?_
  intro g1 cap1 w1 hown1 hgrow hat hlt
  exact h g1 cap1 w1 (Own.of (xs := xs ++ ys) hown1 (by rw [List.length_append, hN]) (by rw [bytesV_append])) (turned_app hgrow hat)

theorem wpList_appOwn {ops : Array Oper} {rest : List Oper} {o : Oper} {a : Act} {Q : Exit → Act → World → Prop} (hgd : o.guard = none) (s x : Operand)
    (ho : o.op = .call { callee := .builtin .append, args := #[s, x], argTypes := #[27, 27] })
    (base : Nat) (v : Value) (n : Nat) (xs ys : List UInt8) (g N cap base' : Nat) (hs : a.eval s = v) (hx : a.eval x = .slice (some ⟨g, 0, none⟩) N cap)
    (hown : Own X base v xs) (hn : n = xs.length) (hy : Own X base' (.slice (some ⟨g, 0, none⟩) N cap) ys) (hN : N = ys.length) (hm : 0 < N) (hl : n + N ≤ 4398046511104) (hbase : base ≤ X.heap.size)
    (h : ∀ g cap w', Own w' base (.slice (some ⟨g, 0, none⟩) (n + N) cap) (xs ++ ys) → Turned X w' v (.slice (some ⟨g, 0, none⟩) (n + N) cap) → wpList Try.prog ops Q rest (a.put o.dst (.slice (some ⟨g, 0, none⟩) (n + N) cap)) w') : wpList Try.prog ops Q (o :: rest) a X :=
  wpList_plain hgd fun _ hK => wp_appOwn s x ho base v n xs ys g N cap base' hs hx hown hn hy hN hm hl hbase fun g cap w' h2 h3 => hK _ _ (h g cap w' h2 h3)

theorem step_appOwn {ops : Array Oper} {o : Oper} {a : Act} {K : Act → World → Prop} {Q : Exit → Act → World → Prop} {E : Prop} (hgd : o.guard = none) (s x : Operand)
    (ho : o.op = .call { callee := .builtin .append, args := #[s, x], argTypes := #[27, 27] })
    (base : Nat) (v : Value) (n : Nat) (xs ys : List UInt8) (g N cap base' : Nat) (hs : a.eval s = v) (hx : a.eval x = .slice (some ⟨g, 0, none⟩) N cap)
    (hown : Own X base v xs) (hn : n = xs.length) (hy : Own X base' (.slice (some ⟨g, 0, none⟩) N cap) ys) (hN : N = ys.length) (hm : 0 < N) (hl : n + N ≤ 4398046511104) (hbase : base ≤ X.heap.size)
    (h : ∀ g cap w', Own w' base (.slice (some ⟨g, 0, none⟩) (n + N) cap) (xs ++ ys) → Turned X w' v (.slice (some ⟨g, 0, none⟩) (n + N) cap) → K (a.put o.dst (.slice (some ⟨g, 0, none⟩) (n + N) cap)) w') :
    if Region.wanted o (yielded ops a.tmps) = true then Oper.wp Try.prog o a X K Q else E := by
  have hw : Region.wanted o (yielded ops a.tmps) = true := by simp [Region.wanted, hgd]
  rw [if_pos hw]
  exact wp_appOwn s x ho base v n xs ys g N cap base' hs hx hown hn hy hN hm hl hbase h
end

set_option maxRecDepth 100000 in
set_option maxHeartbeats 1000000 in
theorem refNumeral_any (u : Nat) : ∀ (w : World), u ≤ 18446744073709551615 → Calls Try.prog 39 #[.int .u64 (u : Int)] w (Made w (num u)) := by
  induction u using Nat.strongRecOn with
  | _ u ih =>
    intro w hu
    have IH := Lib.hid ih
    clear ih
    obtain ⟨i0, hi, hz0, hz1, hz2⟩ := info_parts byteInfo
    by_cases hlt : u < 128
    · have HK : Hid (num u = [UInt8.ofNat u]) := by unfold Hid; rw [num, if_pos hlt]
      go_enter Try.func39, Try.ntmps39
      go_wp2_with fail
      go_ret
      refine ⟨w.heap.size, 1, 1, rfl, by unfold Hid; rw [HK.out]; rfl, ?_, (Below.refl _ _).alloc (Nat.le_refl _) _⟩
      rw [HK.out]
      exact own_lit w u (UInt8.ofNat u) (by simp; omega)
    · have HK : Hid (num u = [UInt8.ofNat (u % 128 + 128)] ++ num (u / 128)) := by unfold Hid; rw [num, if_neg hlt]; rfl
      have hd := digs_ten (u := u / 128) (by omega)
      have hd1 := digs_pos (u / 128)
      go_enter Try.func39, Try.ntmps39
      go_wp2_with fail
      rw [show ((u : Int) / 128) = ((u / 128 : Nat) : Int) by omega]
      refine (IH.out (u / 128) (by omega) _ (by omega)).mono ?_
      rintro e w1 ⟨g1, cap1, N1, rfl, HN1, hO1, hb1⟩
      have hz : w.heap.size ≤ w1.heap.size := by have h := hb1.size; simp at h; omega
      have HN1' : N1 = digs (u / 128) := by rw [HN1.out, num_length]
      have h01 : 0 < N1 := by omega
      have h02 : N1 ≤ 10 := by omega
      have HD := Lib.hid HN1'
      clear HN1'
      go_wp2_with (at_builtin; refine wpList_appOwn rfl _ _ rfl w.heap.size _ 1 [UInt8.ofNat (u % 128 + 128)] (num (u / 128)) g1 N1 cap1 _ rfl rfl ((own_lit w _ (UInt8.ofNat (u % 128 + 128)) (by simp; omega)).below hb1) rfl hO1 HN1.out h01 (by omega) hz ?_; intro g2 cap2 w2 hO2 hT2)
      go_ret
      refine ⟨g2, cap2, 1 + N1, rfl, by unfold Hid; rw [HK.out, List.length_append, HN1.out]; rfl, by rw [HK.out]; exact hO2, (((Below.refl _ _).alloc (Nat.le_refl _) _).trans (hb1.mono (by simp))).trans (hT2.below hz fun g hg => ?_)⟩
      have hg' : w.heap.size = g := Option.some.inj hg
      omega

theorem V.enc_pos (v : V) : 0 < v.enc.length := by
  cases v with
  | mk k n s l => rw [V.enc]; split <;> (try split) <;> simp

theorem keepE {W X X' : World} {g : Nat} {x : Value} (h : Below W.heap.size W X ∧ X.cell? ⟨g, 2, none⟩ = some x) (hb : Below W.heap.size X X') (hg : g < W.heap.size) : Below W.heap.size W X' ∧ X'.cell? ⟨g, 2, none⟩ = some x :=
  ⟨h.1.trans hb, (hb.cell (p := ⟨g, 2, none⟩) hg).trans h.2⟩
theorem keepE' {W X X' : World} {g : Nat} {x : Value} (h : Below W.heap.size W X ∧ X.cell? ⟨g, 2, none⟩ = some x) (hb : Below X.heap.size X X') (hg : g < W.heap.size) : Below W.heap.size W X' ∧ X'.cell? ⟨g, 2, none⟩ = some x :=
  keepE h (hb.mono h.1.size) hg
theorem turned_up {X X' : World} {v v' : Value} {g N cap H : Nat} (h : Turned X X' v v') (hv : v = .slice (some ⟨g, 0, none⟩) N cap) (hg : H ≤ g) (hH : H ≤ X.heap.size) : Below H X X' :=
  h.below hH fun k hk => by
    subst hv
    have : g = k := Option.some.inj hk
    omega

set_option maxRecDepth 100000 in
set_option maxHeartbeats 1000000 in
theorem refEncode_any (v : V) : ∀ (w : World) (B : Nat) (x : Value), B ≤ w.heap.size → Rd w B v x → v.bulk ≤ 1099511627776 → v.enc.length ≤ 2199023255552 →
    Calls Try.prog 28 #[x] w (Made w v.enc) := by
  induction v using V.ind with
  | h k n s l ih =>
    intro w B x hB hr hbk hlen
    have HR := Lib.hid hr
    obtain ⟨A, cap, rfl, hk, hn, hs, hlc, hcap, hl⟩ := hr
    rw [V.bulk] at hbk
    have IH := Lib.hid ih
    have hl0 := Lib.hid hl
    clear ih hl
    unfold I64 at hk hn
    by_cases h1 : k = 1
    · subst h1
      have HE : Hid (V.enc (.mk 1 n s l) = [1] ++ num (uform n).toNat) := by unfold Hid; rw [V.enc, if_pos rfl]; rfl
      obtain ⟨u0, u1⟩ := uform_bd n hn.1 hn.2
      obtain ⟨u, hu⟩ := Int.eq_ofNat_of_zero_le u0
      have HU := Lib.hid hu
      have hu1 : u ≤ 18446744073709551615 := by omega
      have HE2 : Hid (V.enc (.mk 1 n s l) = [1] ++ num u) := by unfold Hid; rw [HE.out, HU.out]; rfl
      have hd := digs_ten hu1
      have hd1 := digs_pos u
      clear hu u0 u1 hlen
      go_enter Try.func28, Try.ntmps28
      go_wp2_with fail
      refine (refUnsigned_any n hn.1 hn.2 _).mono ?_
      rw [HU.out]
      rintro e w1 ⟨rfl, rfl⟩
      go_wp2_with fail
      refine (refNumeral_any u _ hu1).mono ?_
      rintro e w1 ⟨g1, cap1, N1, rfl, HN1, hO1, hb1⟩
      have hz : w.heap.size + 1 ≤ w1.heap.size := by have h := hb1.size; simp at h; omega
      have HN1' : N1 = digs u := by rw [HN1.out, num_length]
      have h01 : 0 < N1 := by omega
      have h02 : N1 ≤ 10 := by omega
      have HD := Lib.hid HN1'
      clear HN1'
      go_wp2_with (at_builtin; refine wpList_appOwn rfl _ _ rfl (w.heap.size + 1) _ 1 [1] (num u) g1 N1 cap1 _ rfl rfl ((own_lit_at _ _ 1 (by rfl) (w.heap.size + 1) (by simp)).below hb1) rfl hO1 HN1.out h01 (by omega) hz ?_; intro g2 cap2 w2 hO2 hT2)
      go_ret
      refine ⟨g2, cap2, 1 + N1, rfl, by unfold Hid; rw [HE2.out, List.length_append, HN1.out]; rfl, by rw [HE2.out]; exact Own.lower hO2 (by omega), ?_⟩
      have hb0 : Below w.heap.size w w1 := (((Below.refl _ _).alloc (Nat.le_refl _) _).alloc (by simp) _).trans (hb1.mono (by simp; omega))
      exact hb0.trans ((turned_up hT2 rfl (Nat.le_refl _) hz).mono (by omega))
    · by_cases h2 : k = 2
      · subst h2
        have HE : Hid (V.enc (.mk 2 n s l) = ([2] ++ num s.size) ++ s.data.toList) := by unfold Hid; rw [V.enc, if_neg (by decide), if_pos rfl]; simp
        have hss : s.size ≤ 1099511627776 := by omega
        have hd := digs_ten (u := s.size) (by omega)
        have hd1 := digs_pos s.size
        have k1 : IntKind.u64.wrap (s.size : Int) = (s.size : Int) := IntWalk.u64_in _ (by omega)
        obtain ⟨i0, hi, hz0, hz1, hz2⟩ := info_parts byteInfo
        obtain ⟨W, hWd⟩ : ∃ W : World, W = w.alloc (.cells #[.int .i64 2, .int .i64 n, .string s, .slice A l.length cap] 24) := ⟨_, rfl⟩
        have c2 : W.cell? ⟨w.heap.size, 2, none⟩ = some (.string s) := by rw [hWd]; simp
        have hW0 : Below w.heap.size w W := by rw [hWd]; exact (Below.refl _ _).alloc (Nat.le_refl _) _
        have hWl : w.heap.size < W.heap.size := by rw [hWd]; simp
        have HS : Hid (Below W.heap.size W W.drew ∧ W.drew.cell? ⟨w.heap.size, 2, none⟩ = some (.string s)) := ⟨(Below.refl _ _).drew, c2⟩
        have WD := Lib.hid hWd
        clear hWd hlen h1
        go_enter Try.func28, Try.ntmps28
        go_wp2_with fail
        rw [← WD.out]
        go_region_held3 (fun w' => Below W.heap.size W w' ∧ w'.cell? ⟨w.heap.size, 2, none⟩ = some (.string s))
          (first | assumption | exact HS.out | exact keepE' HS.out (below_allocd W _) hWl | (refine keepE ?_ hb3 hWl; assumption) | (refine keepE ?_ hb2 hWl; assumption) | (refine keepE' ?_ hb1 hWl; assumption) | (refine keepE' ?_ ((Below.refl _ _).alloc (Nat.le_refl _) _) hWl; assumption))
          (first
            | (go_at_call 39
               refine (refNumeral_any s.size _ (by omega)).mono ?_
               rintro e w1 ⟨g1, cap1, N1, rfl, HN1, hO1, hb1⟩
               have HN1' : N1 = digs s.size := by rw [HN1.out, num_length]
               have h01 : 0 < N1 := by omega
               have h02 : N1 ≤ 10 := by omega
               have HD := Lib.hid HN1'
               clear HN1'
               have hz1' : W.heap.size ≤ w1.heap.size := (by first | exact hb1.size | (have h := hb1.size; have h2 := lt_allocd W (.cells #[.int .u8 2] 5); omega)))
            | (refine step_appOwn rfl _ _ rfl W.heap.size (.slice (some ⟨W.heap.size, 0, none⟩) 1 1) 1 [2] (num s.size) g1 N1 cap1 _ rfl rfl (Own.below (Own.drew (own_lit W _ 2 rfl)) hb1) rfl hO1 HN1.out h01 (by omega) hz1' ?_
               intro g2 cap2 w2 hO2 hT2
               have hb2 := turned_up hT2 rfl (Nat.le_refl _) hz1')
            | (refine step_appOwn rfl _ _ rfl W.heap.size (.slice (some ⟨w1.heap.size, 0, none⟩) 1 1) 1 [2] (num s.size) g1 N1 cap1 _ rfl rfl (Own.lower (own_lit w1 _ 2 rfl) hz1') rfl (hO1.below ((Below.refl _ _).alloc (Nat.le_refl _) _)) HN1.out h01 (by omega) (by simp; omega) ?_
               intro g2 cap2 w2 hO2 hT2
               have hb2 := turned_up hT2 rfl hz1' (by simp; omega))
            | (refine step_append_str _ (by rfl) _ _ _ _ (by rfl) W.heap.size 5 i0 _ Try.underlying27 Try.underlying9 hi hz0 hz1 hz2 rfl _ (1 + N1) _ (by rfl) (hO2.at_ ?h0) ?h1 s (by rfl) ?h2 ?h3 ?h4 _ (by rfl) ?_
               case h0 => (rw [HN1.out, List.length_append]; rfl)
               case h1 => omega
               case h2 => (unfold maxLen; omega)
               case h3 => omega
               case h4 => (have h1 := hb2.size; first | omega | (simp at h1; omega))
               intro g3 cap3 w3 hown3 hgrow3 hat3
               have hT3 := turned_app (N := 1 + N1 + s.size) (cap := cap3) hgrow3 hat3
               have hb3 := turned_up hT3 rfl (hO2.lt g2 rfl).1 (by have h1 := hb2.size; first | omega | (simp at h1; omega))))
        all_goals go_wp2_with fail
        all_goals go_ret
        all_goals
          have hS3 : Below W.heap.size W w3 ∧ w3.cell? ⟨w.heap.size, 2, none⟩ = some (.string s) := by assumption
          refine ⟨g3, cap3, 1 + N1 + s.size, rfl, by unfold Hid; rw [HE.out, List.length_append, List.length_append, HN1.out]; rfl, ?_, hW0.trans (hS3.1.mono (by omega))⟩
          rw [HE.out]
          exact Own.lower (Own.of (xs := ([2] ++ num s.size) ++ s.data.toList) hown3 (by rw [HN1.out, List.length_append, List.length_append]; rfl) (by rw [bytesV_append _ s.data.toList]; rfl)) (by omega)
      · have HE : Hid (V.enc (.mk k n s l) = [3] ++ (num l.length ++ V.encAll l)) := by unfold Hid; rw [V.enc, if_neg h1, if_neg h2]; rfl
        have hbl := bulkAll_length l
        have hd := digs_ten (u := l.length) (by omega)
        have hd1 := digs_pos l.length
        have HEL : Hid (∀ j, (V.encAll (l.take j)).length ≤ 2199023255552) := by
          intro j
          have h3 := V.encAll_take_le l j
          rw [HE.out, List.length_append, List.length_append] at hlen
          omega
        have b1 : (k == 1) = false := by simpa using h1
        have b2 : (k == 2) = false := by simpa using h2
        obtain ⟨W, hWd⟩ : ∃ W : World, W = w.alloc (.cells #[.int .i64 k, .int .i64 n, .string s, .slice A l.length cap] 24) := ⟨_, rfl⟩
        have c3 : W.cell? ⟨w.heap.size, 3, none⟩ = some (.slice A l.length cap) := by rw [hWd]; simp
        have hW0 : Below w.heap.size w W := by rw [hWd]; exact (Below.refl _ _).alloc (Nat.le_refl _) _
        have hWl : w.heap.size < W.heap.size := by rw [hWd]; simp
        have HWZ : Hid (W.heap.size = w.heap.size + 1) := by unfold Hid; rw [hWd]; simp
        have hcc : l.length ≤ 9223372036854775807 := by unfold maxLen at hcap; omega
        have WD := Lib.hid hWd
        have HL0 := Lib.hid hlen
        clear hWd hlen h1 h2
        go_enter Try.func28, Try.ntmps28
        go_wp2_with fail
        rw [← WD.out]
        refine (refNumeral_any l.length _ (by omega)).mono ?_
        rintro e w1 ⟨g1, cap1, N1, rfl, HN1, hO1, hb1⟩
        have hz1 : W.heap.size ≤ w1.heap.size := by have h := hb1.size; simp at h; omega
        have HN1' : N1 = digs l.length := by rw [HN1.out, num_length]
        have h01 : 0 < N1 := by omega
        have h02 : N1 ≤ 10 := by omega
        have HD := Lib.hid HN1'
        clear HN1'
        have hz2 : w.heap.size + 1 ≤ w1.heap.size := by omega
        have hbW : Below W.heap.size W w1 := ((Below.refl _ _).alloc (Nat.le_refl _) _).trans (hb1.mono (by simp))
        go_wp2_with (at_builtin; refine wpList_appOwn rfl _ _ rfl (w.heap.size + 1) _ 1 [3] (num l.length) g1 N1 cap1 _ rfl rfl ((own_lit_at _ _ 3 (by rfl) (w.heap.size + 1) HWZ.out).below hb1) rfl hO1 HN1.out h01 (by omega) hz2 ?_; intro g2 cap2 w2 hO2 hT2)
        rw [← HWZ.out] at hO2
        have hbW2 : Below W.heap.size W w2 := hbW.trans (turned_up hT2 rfl (by rw [HWZ.out]; exact Nat.le_refl _) hz1)
        have HO2 := Lib.hid hO2
        have HBW2 := Lib.hid hbW2
        clear hO2 hT2 hbW hbW2 hb1
        go_loopw [3, 4] (fun t i wr => ∃ (j g c N : Nat), j ≤ l.length ∧ i = .int .i64 j ∧ t = .slice (some ⟨g, 0, none⟩) N c ∧ Hid (N = 1 + (digs l.length + (V.encAll (l.take j)).length)) ∧ Hid (Own wr W.heap.size (.slice (some ⟨g, 0, none⟩) N c) ([3] ++ (num l.length ++ V.encAll (l.take j)))) ∧ Hid (Below W.heap.size W wr)) (fun _ i _ => l.length - (intOf i).toNat)
        case atStart => exact ⟨0, g2, cap2, 1 + N1, Nat.zero_le _, rfl, rfl, by unfold Hid; rw [HD.out]; simp [V.encAll], by simpa [Hid, V.encAll] using HO2.out, HBW2.out⟩
        case round =>
          obtain ⟨j, g, c, N, hj, rfl, rfl, HN, HO, HB⟩ := hrel
          have hwr : Below w.heap.size w wr := hW0.trans (HB.out.mono (by omega))
          have hwz : W.heap.size ≤ wr.heap.size := HB.out.size
          have c3r : wr.cell? ⟨w.heap.size, 3, none⟩ = some (.slice A l.length cap) := (HB.out.cell (p := ⟨w.heap.size, 3, none⟩) hWl).trans c3
          have he1 := HEL.out j
          by_cases hlt : j < l.length
          · have he2 := HEL.out (j + 1)
            obtain ⟨b, o, k', n', s', m', A', cap', rfl, hbB, e0, e1, e2, e3, hx, hr⟩ := hl0.out.open_ hlt
            have hm := List.mem_of_getElem? hx
            have hbb : b < w.heap.size := by omega
            rw [← hwr.cell (p := ⟨b, _, none⟩) hbb] at e0 e1 e2 e3
            have hrr := Lib.hid (Rd.below (B' := B) hr (hwr.mono hB) (Nat.le_refl _))
            have hbm := V.bulk_mem hm
            have HT3 : Hid (V.encAll (l.take (j + 1)) = V.encAll (l.take j) ++ V.enc (.mk k' n' s' m')) := V.encAll_take l j _ hx
            have hle : (V.encAll (l.take j)).length + (V.enc (.mk k' n' s' m')).length ≤ 2199023255552 := by rw [HT3.out, List.length_append] at he2; omega
            have hpos := V.enc_pos (.mk k' n' s' m')
            have hel : (V.enc (.mk k' n' s' m')).length ≤ 2199023255552 := by omega
            have HX := Lib.hid hx
            have hNb : N ≤ 2199023255600 := by rw [HN.out]; omega
            clear hr hx he2
            go_wp2_with fail
            refine (IH.out _ hm _ B _ (by omega) hrr.out (by omega) hel).mono ?_
            rintro e w3 ⟨g3, cap3, N3, rfl, HN3, hO3, hb3⟩
            have h03 : 0 < N3 := by rw [HN3.out]; exact hpos
            have h04 : N3 ≤ 2199023255552 := by rw [HN3.out]; exact hel
            have hz3 : W.heap.size ≤ w3.heap.size := Nat.le_trans hwz hb3.size
            have HLL : Hid (N = ([3] ++ (num l.length ++ V.encAll (l.take j))).length) := by unfold Hid; rw [HN.out, List.length_append, List.length_append, num_length]; rfl
            have hNN : N + N3 ≤ 2199023255600 := by rw [HN.out, HN3.out]; omega
            have hgl : W.heap.size ≤ g := (HO.out.lt g rfl).1
            go_wp2_with (at_builtin; refine wpList_appOwn rfl _ _ rfl W.heap.size _ N ([3] ++ (num l.length ++ V.encAll (l.take j))) (V.enc (.mk k' n' s' m')) g3 N3 cap3 _ rfl rfl (HO.out.below hb3) HLL.out hO3 HN3.out h03 (by omega) hz3 ?_; intro g4 cap4 w4 hO4 hT4)
            have HO4 := Lib.hid hO4
            have HB4 := Lib.hid ((HB.out.trans (hb3.mono hwz)).trans (turned_up hT4 rfl hgl hz3))
            clear hO4 hT4
            go_roundw
            case rel =>
              refine ⟨j + 1, g4, cap4, N + N3, by omega, by go_num, rfl, ?_, ?_, HB4.out⟩
              · unfold Hid; rw [HN.out, HN3.out, HT3.out, List.length_append]; omega
              · unfold Hid; rw [HT3.out]; simpa [List.append_assoc] using HO4.out
            case measure => simp [intOf]; omega
          · have hje : j = l.length := by omega
            subst hje
            rw [List.take_length] at *
            go_wp2_with fail
            go_ret
            refine ⟨g, c, N, rfl, by unfold Hid; rw [HN.out, HE.out, List.length_append, List.length_append, num_length]; rfl, ?_, hwr⟩
            rw [HE.out]
            exact Own.lower HO.out (by omega)

set_option maxRecDepth 100000 in
set_option maxHeartbeats 1000000 in
theorem refEncodeE_any (v : V) (w : World) (B : Nat) (x : Value) (hB : B ≤ w.heap.size) (hr : Rd w B v x) (hbk : v.bulk ≤ 1099511627776) :
    Calls Try.prog 13 #[x] w (Encoded w v) := by
  have hen := Rd.enc_le _ _ hr hbk
  have HR := Lib.hid hr
  obtain ⟨k, n, s, l, rfl⟩ : ∃ k n s l, v = V.mk k n s l := by cases v with | mk k n s l => exact ⟨k, n, s, l, rfl⟩
  obtain ⟨A, cap, rfl, h0⟩ := hr
  clear h0
  have HR1 : Hid (∀ (o : Obj), Rd (w.alloc o) B (V.mk k n s l) (.agg #[.int .i64 k, .int .i64 n, .string s, .slice A l.length cap])) := fun o => HR.out.below (((Below.refl _ _).alloc (Nat.le_refl _) o).mono hB) (Nat.le_refl _)
  have hw : ∀ {o : Obj} {w1 : World}, Below (w.alloc o).heap.size (w.alloc o) w1 → Below w.heap.size w w1 := fun {o w1} h => ((Below.refl _ _).alloc (Nat.le_refl _) o).trans (h.mono (by simp))
  generalize hc : V.check (.mk k n s l) = c at *
  by_cases h : c = 0
  · subst h
    have HC := Lib.hid hc
    have hle : (V.enc (.mk k n s l)).length ≤ 2199023255552 := by omega
    clear hc
    go_enter Try.func13, Try.ntmps13
    go_wp2_with fail
    refine (refCheck_any _ _ B _ (by simp; omega) (HR1.out _) hbk).mono ?_
    rw [HC.out]
    rintro e w1 ⟨rfl, hb1⟩
    have c0 : w1.cell? ⟨w.heap.size, 0, none⟩ = some (.int .i64 k) := by rw [hb1.cell (by simp)]; simp
    have c1 : w1.cell? ⟨w.heap.size, 1, none⟩ = some (.int .i64 n) := by rw [hb1.cell (by simp)]; simp
    have c2 : w1.cell? ⟨w.heap.size, 2, none⟩ = some (.string s) := by rw [hb1.cell (by simp)]; simp
    have c3 : w1.cell? ⟨w.heap.size, 3, none⟩ = some (.slice A l.length cap) := by rw [hb1.cell (by simp)]; simp
    have hw1 := hw hb1
    have hz1 : w.heap.size ≤ w1.heap.size := hw1.size
    go_wp2_with fail
    refine (refEncode_any _ w1 B _ (by omega) (HR.out.below (hw1.mono hB) (Nat.le_refl _)) hbk hle).mono ?_
    rintro e w2 ⟨g2, cap2, N2, rfl, HN2, hO2, hb2⟩
    go_wp2_with fail
    go_ret2
    exact ⟨hw1.trans (hb2.mono hz1), .inl ⟨HC.out, g2, cap2, N2, rfl, HN2, by have := hO2.lt g2 rfl; omega, Own.lower hO2 hz1⟩⟩
  · have HC := Lib.hid hc
    have hn : (c != 0) = true := by simpa using h
    have HH := Lib.hid h
    clear hc h
    go_enter Try.func13, Try.ntmps13
    go_wp2_with fail
    refine (refCheck_any _ _ B _ (by simp; omega) (HR1.out _) hbk).mono ?_
    rw [HC.out]
    rintro e w1 ⟨rfl, hb1⟩
    have hw1 := hw hb1
    go_wp2_with fail
    go_ret2
    exact ⟨hw1, .inr ⟨by rw [HC.out]; exact HH.out, by rw [HC.out]; rfl⟩⟩

set_option maxRecDepth 100000 in
set_option maxHeartbeats 1000000 in
theorem refSize_any (v : V) (w : World) (B : Nat) (x : Value) (hB : B ≤ w.heap.size) (hr : Rd w B v x) (hbk : v.bulk ≤ 1099511627776) :
    Calls Try.prog 15 #[x] w fun e w' => e = .returned (.tuple #[.int .i64 (if v.check = 0 then v.enc.length else 0 : Nat), .int .i64 v.check]) ∧ Below w.heap.size w w' := by
  have hen := Rd.enc_le _ _ hr hbk
  have HR := Lib.hid hr
  obtain ⟨k, n, s, l, rfl⟩ : ∃ k n s l, v = V.mk k n s l := by cases v with | mk k n s l => exact ⟨k, n, s, l, rfl⟩
  obtain ⟨A, cap, rfl, h0⟩ := hr
  clear h0
  have HR1 : Hid (∀ (o : Obj), Rd (w.alloc o) B (V.mk k n s l) (.agg #[.int .i64 k, .int .i64 n, .string s, .slice A l.length cap])) := fun o => HR.out.below (((Below.refl _ _).alloc (Nat.le_refl _) o).mono hB) (Nat.le_refl _)
  have hw : ∀ {o : Obj} {w1 : World}, Below (w.alloc o).heap.size (w.alloc o) w1 → Below w.heap.size w w1 := fun {o w1} h => ((Below.refl _ _).alloc (Nat.le_refl _) o).trans (h.mono (by simp))
  go_enter Try.func15, Try.ntmps15
  go_wp2_with fail
  refine (refEncodeE_any _ _ B _ (by simp; omega) (HR1.out _) hbk).mono ?_
  rintro e w1 ⟨hb1, ⟨HC, g, c, N, rfl, HN, _, _⟩ | ⟨HC, rfl⟩⟩
  · have HC' := Lib.hid HC
    clear HC
    go_wp2_with fail
    go_ret2
    refine ⟨?_, hw hb1⟩
    first | (rw [← HN.out]; rfl) | (rw [if_pos HC'.out, HC'.out, ← HN.out]; rfl)
  · have HC' := Lib.hid HC
    clear HC
    go_wp2_with fail
    go_ret2
    refine ⟨?_, hw hb1⟩
    first | rfl | (rw [if_neg HC'.out]; rfl)
end Go.Proofs.Ytbcaanadmfnegaa
