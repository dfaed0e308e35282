/- Contract of the reader's value, at each depth. -/
import Derived.Test.YtbcaanadmfnegaaList
namespace Go.Proofs.Ytbcaanadmfnegaa
open Go.RowKit

theorem val_tail {w w0 w3 : World} {r B n : Nat} {o : Int} {k m : Int} {s : ByteArray} {l : List V} {A : Option Addr} {cap : Nat} {rest : List UInt8} {A' : Option Addr} {n' : Nat} {res : Option (V × List UInt8)} (hB : B ≤ r) (hr : r < w.heap.size) (ht0 : Turn w w0 r) (hz : w.heap.size < w0.heap.size) (ht : Turn w0 w3 r)
    (hri : RdI w3 w0.heap.size w3.heap.size (.mk k m s l) (.agg #[.int .i64 k, .int .i64 m, .string s, .slice A l.length cap])) (h1 : Rdr w3 r A' n' n' o) (h2 : RdB w3 B A' n' rest) (h3 : n' ≤ n) (hres : res = some (.mk k m s l, rest)) :
    ValOut w r B n o res (.returned (.agg #[.int .i64 k, .int .i64 m, .string s, .slice A l.length cap])) ((((w3.setCell ⟨w.heap.size, 0, none⟩ (.int .i64 k)).setCell ⟨w.heap.size, 1, none⟩ (.int .i64 m)).setCell ⟨w.heap.size, 2, none⟩ (.string s)).setCell ⟨w.heap.size, 3, none⟩ (.slice A l.length cap)) := by
  subst hres
  refine ⟨((((ht0.trans ht).set_new (Nat.le_refl _) _).set_new (Nat.le_refl _) _).set_new (Nat.le_refl _) _).set_new (Nat.le_refl _) _, ⟨k, m, s, l, A, cap, rfl, rfl, ?_⟩, A', n', ?_, ?_, h3⟩
  · refine hri.keep (by omega) (by simp [World.setCell]) fun p hp1 hp2 => ?_
    rw [World.cell?_setCell_other _ _ _ _ (by intro e; rw [← e] at hp1; simp at hp1; omega), World.cell?_setCell_other _ _ _ _ (by intro e; rw [← e] at hp1; simp at hp1; omega), World.cell?_setCell_other _ _ _ _ (by intro e; rw [← e] at hp1; simp at hp1; omega), World.cell?_setCell_other _ _ _ _ (by intro e; rw [← e] at hp1; simp at hp1; omega)]
  · exact (((h1.set (by show r ≠ w.heap.size; omega) _).set (by show r ≠ w.heap.size; omega) _).set (by show r ≠ w.heap.size; omega) _).set (by show r ≠ w.heap.size; omega) _
  · exact (((h2.set (by show B ≤ w.heap.size; omega) _).set (by show B ≤ w.heap.size; omega) _).set (by show B ≤ w.heap.size; omega) _).set (by show B ≤ w.heap.size; omega) _

theorem ValOut.split0 {w w' : World} {r B n : Nat} {o : Int} {res : Option (V × List UInt8)} {e : Ending} (h : ValOut w r B n o res e w') :
    (res = none ∧ e = .panicked failChain ∧ Turn w w' r) ∨ ∃ k m s l A cap rest A' n', res = some (.mk k m s l, rest) ∧ e = .returned (.agg #[.int .i64 k, .int .i64 m, .string s, .slice A (List.length l) cap]) ∧ Turn w w' r ∧ RdI w' w.heap.size w'.heap.size (.mk k m s l) (.agg #[.int .i64 k, .int .i64 m, .string s, .slice A (List.length l) cap]) ∧ Rdr w' r A' n' n' o ∧ RdB w' B A' n' rest ∧ n' ≤ n := by
  obtain ⟨ht, hm⟩ := h
  cases res with
  | none => exact .inl ⟨rfl, hm, ht⟩
  | some p =>
    obtain ⟨v, rest⟩ := p
    obtain ⟨⟨k, m, s, l, A, cap, rfl, he, hr⟩, A', n', h1, h2, h3⟩ := hm
    exact .inr ⟨k, m, s, l, A, cap, rest, A', n', rfl, he, ht, hr, h1, h2, h3⟩

/-- one value, where list's answers are lres -/
def rv (lres : List UInt8 → Option (V × List UInt8)) : List UInt8 → Option (V × List UInt8)
  | [] => none
  | b :: r => if b = 1 then rint r else if b = 2 then rtext r else if b = 3 then lres r else none

def LOk (o : Int) (lres : List UInt8 → Option (V × List UInt8)) : Prop := ∀ (r n c : Nat) (A : Option Addr) (B : Nat) (bs : List UInt8) (w : World), Rdr w r A n c o → RdB w B A n bs → B ≤ r → n ≤ 1099511627776 → n ≤ c →
    Calls Try.prog 54 #[.pointer (some ⟨r, 0, none⟩)] w (ValOut w r B n o (lres bs))

set_option maxRecDepth 100000 in
set_option maxHeartbeats 4000000 in
theorem value_step (o : Int) (lres : List UInt8 → Option (V × List UInt8)) (HL : LOk o lres) (r n c : Nat) (A : Option Addr) (B : Nat) (bs : List UInt8) (w : World) (h : Rdr w r A n c o) (hb : RdB w B A n bs) (hB : B ≤ r) (hn : n ≤ 1099511627776) (hc : n ≤ c) :
    Calls Try.prog 33 #[.pointer (some ⟨r, 0, none⟩)] w (ValOut w r B n o (rv lres bs)) := by
  have hr := h.lt
  have hne : w.heap.size ≠ r := by omega
  obtain ⟨X, hX⟩ : ∃ X : World, X = w.alloc (.cells #[.int .i64 0, .int .i64 0, .string ⟨#[]⟩, .slice none 0 0] 24) := ⟨_, rfl⟩
  have hXr : Rdr X r A n c o := by rw [hX]; exact h.turn_alloc _
  have hXt : Turn w X r := by rw [hX]; exact Turn.of_below ((Below.refl _ _).alloc (Nat.le_refl _) _)
  have hXb : RdB X B A n bs := hb.below (hXt.below hB hr)
  have hXz : X.heap.size = w.heap.size + 1 := by rw [hX]; simp
  have hXv : VB X w.heap.size 0 0 (.string ⟨#[]⟩) (.slice none 0 0) := by
    unfold VB; rw [hX]
    have := heap_alloc_new w (.cells #[.int .i64 0, .int .i64 0, .string ⟨#[]⟩, .slice none 0 0] 24)
    simpa using this
  have HX := Lib.hid hX
  have HXR := Lib.hid hXr
  have HXT := Lib.hid hXt
  have HXB := Lib.hid hXb
  have HXZ := Lib.hid hXz
  have HXV := Lib.hid hXv
  have HLL := Lib.hid HL
  have hn0 := hb.1
  clear h hb HL hX hXr hXt hXb hXz hXv
  cases bs with
  | nil =>
    have hn1 : n = 0 := by simpa using hn0
    subst hn1
    clear hn0
    have HO : Hid (rv lres [] = none) := rfl
    go_enter Try.func33, Try.ntmps33
    go_wp2_with fail
    rw [← HX.out]
    refine (take1_no r c A o X HXR.out).mono ?_
    rintro e w1 ⟨rfl, rfl⟩
    refine ⟨rfl, HXT.out, ?_⟩
    rw [HO.out]
  | cons b bs =>
    have hbl := b.toNat_lt
    clear hn0
    obtain ⟨K, hK⟩ : ∃ K : Nat, K = b.toNat := ⟨_, rfl⟩
    have hKl : K < 256 := by omega
    have HTK := Lib.hid (take1_yes r n c A o B b bs X HXR.out HXB.out hB hn hc)
    have j2 := field2
    have i1 := coder1
    have i2 := coder2
    have i3 := coder3
    have kw : IntKind.i64.wrap (K : Int) = (K : Int) := IntWalk.i64_in _ (by omega)
    by_cases hk : K = 1 ∨ K = 2 ∨ K = 3
    · have HO : Hid (rv lres (b :: bs) = if K = 1 then rint bs else if K = 2 then rtext bs else lres bs) := by
        unfold Hid
        rcases hk with e | e | e
        · have hb1 : b = 1 := UInt8.toNat_inj.1 (by rw [← hK, e]; rfl)
          rw [hb1, e]; rfl
        · have hb1 : b = 2 := UInt8.toNat_inj.1 (by rw [← hK, e]; rfl)
          rw [hb1, e]; rfl
        · have hb1 : b = 3 := UInt8.toNat_inj.1 (by rw [← hK, e]; rfl)
          rw [hb1, e]; rfl
      clear hbl
      rcases hk with hk | hk | hk
      · rw [hk] at hK kw HO
        rw [if_pos rfl] at HO
        have HK := Lib.hid hK
        clear hk hKl hK
        go_enter Try.func33, Try.ntmps33
        go_wp2_with fail
        rw [← HX.out]
        refine HTK.out.mono ?_
        rintro e w1 ⟨g, oo, A1, rfl, hcell, h1, h2, h3⟩
        rw [← HK.out] at hcell
        have H1 := Lib.hid h1
        have H2 := Lib.hid h2
        have H3 := Lib.hid (HXT.out.trans h3)
        have HV1 := Lib.hid (HXV.out.grown h3 (by intro e; injection e with e; exact hne e))
        have hz1 : w.heap.size < w1.heap.size := by have := h3.size; rw [HXZ.out] at this; exact this
        clear h1 h2 h3
        go_wp2_with fail
        refine (coders_any _).mono ?_
        rintro e w2 ⟨rfl, hb2⟩
        have HB2 := Lib.hid hb2
        have hz2 : w1.heap.size ≤ w2.heap.size := hb2.size
        clear hb2
        go_wp2_with fail
        refine (integer_any r (n - 1) (n - 1) A1 o B bs w2 (H1.out.below HB2.out) (H2.out.below (HB2.out.mono (by omega))) hB (by omega) (Nat.le_refl _)).mono ?_
        rintro e w3 hm
        rcases ValOut.split0 hm with ⟨hfr, rfl, ht3⟩ | ⟨kv, mv, sv, lv, Av, cv, rest2, A3, n3, hfr, rfl, ht3, hRI, m1, m2, m3⟩
        · refine ⟨rfl, H3.out.trans ((Turn.of_below HB2.out).trans ht3), ?_⟩
          rw [HO.out, hfr]
        · have HV3 := Lib.hid ((HV1.out.below HB2.out).grown ht3 (by intro e; injection e with e; exact hne e))
          have HFIN := Lib.hid (val_tail (n := n) hB hr (H3.out.trans (Turn.of_below HB2.out)) (by omega) ht3 hRI m1 m2 (by omega) (HO.out.trans hfr))
          have b0 := HV3.out.cell 0
          have b1 := HV3.out.cell 1
          have b2 := HV3.out.cell 2
          have b3 := HV3.out.cell 3
          have q0 := HV3.out.frozen 0
          have q1 := HV3.out.frozen 1
          have q2 := HV3.out.frozen 2
          have q3 := HV3.out.frozen 3
          clear hfr hRI m1 m2 m3 ht3 hm
          go_wp2_with fail
          exact bodyPost_ret (v := .agg #[.int .i64 kv, .int .i64 mv, .string sv, .slice Av lv.length cv]) (by simp [results, Try.results33, go_sem, b0, b1, b2, b3]) rfl HFIN.out
      · rw [hk] at hK kw HO
        rw [if_neg (by decide), if_pos rfl] at HO
        have HK := Lib.hid hK
        clear hk hKl hK
        go_enter Try.func33, Try.ntmps33
        go_wp2_with fail
        rw [← HX.out]
        refine HTK.out.mono ?_
        rintro e w1 ⟨g, oo, A1, rfl, hcell, h1, h2, h3⟩
        rw [← HK.out] at hcell
        have H1 := Lib.hid h1
        have H2 := Lib.hid h2
        have H3 := Lib.hid (HXT.out.trans h3)
        have HV1 := Lib.hid (HXV.out.grown h3 (by intro e; injection e with e; exact hne e))
        have hz1 : w.heap.size < w1.heap.size := by have := h3.size; rw [HXZ.out] at this; exact this
        clear h1 h2 h3
        go_wp2_with fail
        refine (coders_any _).mono ?_
        rintro e w2 ⟨rfl, hb2⟩
        have HB2 := Lib.hid hb2
        have hz2 : w1.heap.size ≤ w2.heap.size := hb2.size
        clear hb2
        go_wp2_with fail
        refine (text_any r (n - 1) (n - 1) A1 o B bs w2 (H1.out.below HB2.out) (H2.out.below (HB2.out.mono (by omega))) hB (by omega) (Nat.le_refl _)).mono ?_
        rintro e w3 hm
        rcases ValOut.split0 hm with ⟨hfr, rfl, ht3⟩ | ⟨kv, mv, sv, lv, Av, cv, rest2, A3, n3, hfr, rfl, ht3, hRI, m1, m2, m3⟩
        · refine ⟨rfl, H3.out.trans ((Turn.of_below HB2.out).trans ht3), ?_⟩
          rw [HO.out, hfr]
        · have HV3 := Lib.hid ((HV1.out.below HB2.out).grown ht3 (by intro e; injection e with e; exact hne e))
          have HFIN := Lib.hid (val_tail (n := n) hB hr (H3.out.trans (Turn.of_below HB2.out)) (by omega) ht3 hRI m1 m2 (by omega) (HO.out.trans hfr))
          have b0 := HV3.out.cell 0
          have b1 := HV3.out.cell 1
          have b2 := HV3.out.cell 2
          have b3 := HV3.out.cell 3
          have q0 := HV3.out.frozen 0
          have q1 := HV3.out.frozen 1
          have q2 := HV3.out.frozen 2
          have q3 := HV3.out.frozen 3
          clear hfr hRI m1 m2 m3 ht3 hm
          go_wp2_with fail
          exact bodyPost_ret (v := .agg #[.int .i64 kv, .int .i64 mv, .string sv, .slice Av lv.length cv]) (by simp [results, Try.results33, go_sem, b0, b1, b2, b3]) rfl HFIN.out
      · rw [hk] at hK kw HO
        rw [if_neg (by decide), if_neg (by decide)] at HO
        have HK := Lib.hid hK
        clear hk hKl hK
        go_enter Try.func33, Try.ntmps33
        go_wp2_with fail
        rw [← HX.out]
        refine HTK.out.mono ?_
        rintro e w1 ⟨g, oo, A1, rfl, hcell, h1, h2, h3⟩
        rw [← HK.out] at hcell
        have H1 := Lib.hid h1
        have H2 := Lib.hid h2
        have H3 := Lib.hid (HXT.out.trans h3)
        have HV1 := Lib.hid (HXV.out.grown h3 (by intro e; injection e with e; exact hne e))
        have hz1 : w.heap.size < w1.heap.size := by have := h3.size; rw [HXZ.out] at this; exact this
        clear h1 h2 h3
        go_wp2_with fail
        refine (coders_any _).mono ?_
        rintro e w2 ⟨rfl, hb2⟩
        have HB2 := Lib.hid hb2
        have hz2 : w1.heap.size ≤ w2.heap.size := hb2.size
        clear hb2
        go_wp2_with fail
        refine (HLL.out r (n - 1) (n - 1) A1 B bs w2 (H1.out.below HB2.out) (H2.out.below (HB2.out.mono (by omega))) hB (by omega) (Nat.le_refl _)).mono ?_
        rintro e w3 hm
        rcases ValOut.split0 hm with ⟨hfr, rfl, ht3⟩ | ⟨kv, mv, sv, lv, Av, cv, rest2, A3, n3, hfr, rfl, ht3, hRI, m1, m2, m3⟩
        · refine ⟨rfl, H3.out.trans ((Turn.of_below HB2.out).trans ht3), ?_⟩
          rw [HO.out, hfr]
        · have HV3 := Lib.hid ((HV1.out.below HB2.out).grown ht3 (by intro e; injection e with e; exact hne e))
          have HFIN := Lib.hid (val_tail (n := n) hB hr (H3.out.trans (Turn.of_below HB2.out)) (by omega) ht3 hRI m1 m2 (by omega) (HO.out.trans hfr))
          have b0 := HV3.out.cell 0
          have b1 := HV3.out.cell 1
          have b2 := HV3.out.cell 2
          have b3 := HV3.out.cell 3
          have q0 := HV3.out.frozen 0
          have q1 := HV3.out.frozen 1
          have q2 := HV3.out.frozen 2
          have q3 := HV3.out.frozen 3
          clear hfr hRI m1 m2 m3 ht3 hm
          go_wp2_with fail
          exact bodyPost_ret (v := .agg #[.int .i64 kv, .int .i64 mv, .string sv, .slice Av lv.length cv]) (by simp [results, Try.results33, go_sem, b0, b1, b2, b3]) rfl HFIN.out
    · have hk2 : K < 1 ∨ 3 < K := by omega
      have HO : Hid (rv lres (b :: bs) = none) := by
        unfold Hid
        rw [rv, if_neg (by rintro rfl; exact hk (.inl (by rw [hK]; rfl))), if_neg (by rintro rfl; exact hk (.inr (.inl (by rw [hK]; rfl)))), if_neg (by rintro rfl; exact hk (.inr (.inr (by rw [hK]; rfl))))]
      clear hk
      go_enter Try.func33, Try.ntmps33
      go_wp2_with fail
      rw [← HX.out]
      refine HTK.out.mono ?_
      rintro e w1 ⟨g, oo, A1, rfl, hcell, h1, h2, h3⟩
      rw [← hK] at hcell
      have H3 := Lib.hid h3
      clear h1 h2 h3
      rcases hk2 with hk2 | hk2
      · go_wp2_with fail
        refine (fail_any _).mono ?_
        rintro e w' ⟨rfl, rfl⟩
        refine ⟨rfl, HXT.out.trans H3.out, ?_⟩
        rw [HO.out]
      · go_wp2_with fail
        refine (fail_any _).mono ?_
        rintro e w' ⟨rfl, rfl⟩
        refine ⟨rfl, HXT.out.trans H3.out, ?_⟩
        rw [HO.out]

theorem rval_rv0 : rval 0 = rv (fun _ => none) := by
  funext bs
  cases bs with
  | nil => rfl
  | cons b r => simp only [rval, rv, ite_self]
theorem rval_rv (d : Nat) : rval (d + 1) = rv (rlst (rval d)) := by
  funext bs
  cases bs with
  | nil => rfl
  | cons b r => rfl

theorem value_any : ∀ (d : Nat), d ≤ 16 → VOk d
  | 0, _ => by
    intro r n c A B bs w h hb hB hn hc
    rw [rval_rv0]
    exact value_step _ _ (fun r n c A B bs w h hb hB hn hc => (list_no r n c A w h).mono fun e w' h2 => ⟨h2.2, h2.1⟩) r n c A B bs w h hb hB hn hc
  | d + 1, hd => by
    intro r n c A B bs w h hb hB hn hc
    rw [rval_rv]
    have e : 16 - ((d + 1 : Nat) : Int) = 15 - (d : Int) := by omega
    rw [e] at h ⊢
    exact value_step _ _ (fun r n c A B bs w h hb hB hn hc => list_any d (value_any d (by omega)) r n c A B bs w h (by omega) hb hB hn hc) r n c A B bs w h hb hB hn hc
end Go.Proofs.Ytbcaanadmfnegaa
