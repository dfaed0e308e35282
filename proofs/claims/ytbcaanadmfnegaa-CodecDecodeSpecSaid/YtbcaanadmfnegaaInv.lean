/- Decoding and encoding are inverse to each other (the functional model alone). -/
import Derived.Test.YtbcaanadmfnegaaEnc2
import Derived.Test.YtbcaanadmfnegaaDecEnc
namespace Go.Proofs.Ytbcaanadmfnegaa
open Go.RowKit

/-- a value whose numbers fit -/
def V.sound (v : V) : Prop := ∃ w B x, Rd w B v x

theorem Rd.parts {w : World} {B : Nat} {k n : Int} {s : ByteArray} {l : List V} {x : Value} (h : Rd w B (.mk k n s l) x) : I64 n ∧ s.size < 18446744073709551616 ∧ l.length < 18446744073709551616 := by
  obtain ⟨A, cap, _, _, hn, hs, hlc, hcap, _⟩ := h
  unfold maxLen at hs hcap
  exact ⟨hn, by omega, by omega⟩

theorem bareB_cases {k n : Int} {s : ByteArray} {m : Nat} (h : bareB k n s m = true) : (k = 1 ∧ s = ⟨#[]⟩ ∧ m = 0) ∨ (k = 2 ∧ n = 0 ∧ m = 0) ∨ (k = 3 ∧ n = 0 ∧ s = ⟨#[]⟩) := by
  have es : s.toList.isEmpty = true → s = ⟨#[]⟩ := fun h => toList_inj (by rw [List.isEmpty_iff.1 h, ByteArray.toList_eq])
  simp only [bareB, Bool.or_eq_true, Bool.and_eq_true, decide_eq_true_eq, beq_iff_eq] at h
  rcases h with (⟨⟨a, b⟩, c⟩ | ⟨⟨a, b⟩, c⟩) | ⟨⟨a, b⟩, c⟩
  · exact .inl ⟨a, es b, c⟩
  · exact .inr (.inl ⟨a, b, c⟩)
  · exact .inr (.inr ⟨a, b, es c⟩)

theorem rlist_enc {f : List UInt8 → Option (V × List UInt8)} : ∀ (l : List V) (rest : List UInt8), (∀ x ∈ l, ∀ r, f (x.enc ++ r) = some (x, r)) → rlist f l.length (V.encAll l ++ rest) = some (l, rest)
  | [], rest, _ => by simp [rlist, V.encAll]
  | y :: q, rest, h => by
    rw [List.length_cons, rlist, V.encAll, List.append_assoc, h y (List.mem_cons_self ..)]
    simp only
    rw [rlist_enc q rest fun x hx => h x (List.mem_cons_of_mem _ hx)]

theorem depth_mem {x : V} : ∀ {l : List V}, x ∈ l → x.depth ≤ V.depthAll l
  | y :: r, h => by
    rw [V.depthAll]
    cases h with
    | head => omega
    | tail _ h => have := depth_mem h; omega

theorem rval_enc (v : V) : ∀ (d : Nat) (rest : List UInt8), v.form = true → v.depth ≤ d → v.sound → rval d (v.enc ++ rest) = some (v, rest) := by
  induction v using V.ind with
  | h k n s l ih =>
    intro d rest hf hd ⟨w, B, x, hr⟩
    obtain ⟨hn, hs, hl⟩ := hr.parts
    simp only [V.form, Bool.and_eq_true] at hf
    obtain ⟨hb, ha⟩ := hf
    rw [V.depth] at hd
    rcases bareB_cases hb with ⟨rfl, rfl, hm⟩ | ⟨rfl, rfl, hm⟩ | ⟨rfl, rfl, rfl⟩
    · obtain rfl := List.eq_nil_of_length_eq_zero hm
      rw [V.enc, if_pos rfl, List.cons_append]
      cases d <;> (rw [rval, if_pos rfl]; exact rint_num n hn rest)
    · obtain rfl := List.eq_nil_of_length_eq_zero hm
      have ht : rtext (num s.size ++ s.data.toList ++ rest) = some (.mk 2 0 s [], rest) := by
        rw [rtext, List.append_assoc, rnum_num0 _ _ hs]
        have hz : s.size = s.data.toList.length := rfl
        simp only
        rw [hz, if_pos (by rw [List.length_append]; exact Nat.le_add_right _ _), List.take_left, List.drop_left]
      rw [V.enc, if_neg (by omega), if_pos rfl, List.cons_append]
      cases d <;> (rw [rval, if_neg (by decide), if_pos rfl]; exact ht)
    · rw [if_pos rfl] at hd
      cases d with
      | zero => omega
      | succ d =>
        rw [V.enc, if_neg (by omega), if_neg (by omega), List.cons_append, rval, if_neg (by decide), if_neg (by decide), if_pos rfl, rlst, List.append_assoc, rnum_num0 _ _ hl]
        simp only
        rw [rlist_enc l rest fun x hx r => ih x hx d r ((V.formAll_iff l).1 ha x hx) (by have := depth_mem hx; omega) (by obtain ⟨z, hz⟩ := hr.mem hx; exact ⟨w, B, z, hz⟩)]

theorem dec_enc {v : V} (hs : v.sound) (hc : v.check = 0) : dec v.enc = some v := by
  obtain ⟨hf, hd⟩ := V.check_ok hc
  have := rval_enc v 16 [] hf hd hs
  rw [List.append_nil] at this
  rw [dec, this]

/-- no encoding is the beginning of another one -/
theorem enc_free {v u : V} (hs : v.sound) (hc : v.check = 0) (hs' : u.sound) (hc' : u.check = 0) {rest : List UInt8} (h : u.enc = v.enc ++ rest) : v = u := by
  obtain ⟨hf, hd⟩ := V.check_ok hc
  have h1 := rval_enc v 16 rest hf hd hs
  have h2 := dec_enc hs' hc'
  rw [← h, dec] at *
  obtain ⟨hf', hd'⟩ := V.check_ok hc'
  have h3 := rval_enc u 16 [] hf' hd' hs'
  rw [List.append_nil, h1] at h3
  injection h3 with h3
  injection h3

theorem rnum_inv : ∀ (bs : List UInt8) (s u x : Nat) (r : List UInt8), u < 2 ^ s → u < 18446744073709551616 → rnum s u bs = some (x, r) → ∃ y, x = u + y * 2 ^ s ∧ bs = num y ++ r ∧ (0 < s → 0 < y) ∧ x < 18446744073709551616
  | [], s, u, x, r, _, _, h => by simp [rnum] at h
  | b :: q, s, u, x, r, hu, hu2, h => by
    have hbt : b.toNat < 256 := b.toNat_lt
    have hp : 0 < 2 ^ s := Nat.pow_pos (by omega)
    have h7 : 2 ^ (s + 7) = 128 * 2 ^ s := by rw [Nat.pow_add]; omega
    rw [rnum] at h
    split at h
    · cases h
    · rename_i hn
      rw [not_or, Decidable.not_not] at hn
      obtain ⟨hd, hz⟩ := hn
      rcases Nat.lt_or_ge s 64 with hs | hs
      · have hm : min s 64 = s := by omega
        rw [hm] at hd h
        generalize hD : b.toNat % 128 = D at *
        have hlt : D * 2 ^ s < 18446744073709551616 := by
          have h1 := Nat.div_mul_le_self (D * 2 ^ s % 18446744073709551616) (2 ^ s)
          rw [hd] at h1
          omega
        rw [Nat.mod_eq_of_lt hlt] at h
        have hor : u ||| D * 2 ^ s = u + D * 2 ^ s := by
          rw [Nat.or_comm, Nat.mul_comm, ← Nat.two_pow_add_eq_or_of_lt hu]; omega
        rw [hor] at h
        have h64 : 2 ^ 64 = 2 ^ (64 - s) * 2 ^ s := by rw [← Nat.pow_add]; congr 1; omega
        have h64' : (2 : Nat) ^ 64 = 18446744073709551616 := by decide
        have hD1 : D < 2 ^ (64 - s) := by
          apply Nat.lt_of_mul_lt_mul_right (a := 2 ^ s)
          rw [← h64, h64']; exact hlt
        have hsum : u + D * 2 ^ s < 18446744073709551616 := by
          have h1 : (D + 1) * 2 ^ s ≤ 2 ^ (64 - s) * 2 ^ s := Nat.mul_le_mul_right _ hD1
          rw [← h64, h64', Nat.add_mul] at h1
          omega
        split at h
        · rename_i hl
          injection h with h
          injection h with h1 h2
          subst h1; subst h2
          refine ⟨D, rfl, ?_, fun h0 => ?_, hsum⟩
          · rw [num, if_pos (by omega)]
            have : b = UInt8.ofNat D := by
              rw [← hD, Nat.mod_eq_of_lt hl]; simp
            rw [← this]; rfl
          · rw [not_and, not_and] at hz
            have := hz hl
            rcases Nat.eq_zero_or_pos D with h3 | h3
            · exact absurd h0 (this h3)
            · exact h3
        · rename_i hl
          obtain ⟨y, h1, h2, h3, h4⟩ := rnum_inv q (s + 7) _ x r (by rw [h7]; have : D * 2 ^ s ≤ 127 * 2 ^ s := Nat.mul_le_mul_right _ (by omega); omega) hsum h
          have hy := h3 (by omega)
          refine ⟨D + 128 * y, ?_, ?_, fun _ => by omega, h4⟩
          · rw [h1, h7, Nat.add_mul, Nat.mul_assoc, Nat.mul_left_comm y 128]; omega
          · rw [num, if_neg (by omega)]
            have e1 : (D + 128 * y) / 128 = y := by omega
            have e2 : (D + 128 * y) % 128 = D := by omega
            have : b = UInt8.ofNat (D + 128) := by
              have : D + 128 = b.toNat := by omega
              rw [this]; simp
            rw [e1, e2, h2, ← this]; rfl
      · have hm : min s 64 = 64 := by omega
        rw [hm] at hd h
        generalize hD : b.toNat % 128 = D at *
        have h64' : (2 : Nat) ^ 64 = 18446744073709551616 := by decide
        rw [h64', Nat.mul_mod_left, Nat.zero_div] at hd
        subst hd
        rw [Nat.zero_mul, Nat.zero_mod, Nat.or_zero] at h
        split at h
        · rename_i hl
          exact absurd ⟨hl, rfl, by omega⟩ hz
        · obtain ⟨y, h1, _, h3, h4⟩ := rnum_inv q (s + 7) u x r (by rw [h7]; omega) hu2 h
          exfalso
          have hy := h3 (by omega)
          have h5 : 2 ^ 64 ≤ 2 ^ (s + 7) := Nat.pow_le_pow_right (by omega) (by omega)
          have h6 : 1 * 2 ^ (s + 7) ≤ y * 2 ^ (s + 7) := Nat.mul_le_mul_right _ hy
          rw [h64'] at h5
          omega

theorem rnum_inv0 {bs : List UInt8} {x : Nat} {r : List UInt8} (h : rnum 0 0 bs = some (x, r)) : bs = num x ++ r ∧ x < 18446744073709551616 := by
  obtain ⟨y, h1, h2, _, h4⟩ := rnum_inv bs 0 0 x r (by simp) (by omega) h
  have : x = y := by rw [h1]; simp
  subst this
  exact ⟨h2, h4⟩

/-- what was read, was written -/
def Back (d : Nat) (bs : List UInt8) (v : V) (r : List UInt8) : Prop := bs = v.enc ++ r ∧ v.form = true ∧ v.depth ≤ d ∧ v.bulk + 11 ≤ 11 * v.enc.length
theorem num_pos (u : Nat) : 1 ≤ (num u).length := by rw [num_length]; exact digs_pos u
theorem rint_inv {bs r : List UInt8} {v : V} (d : Nat) (h : rint bs = some (v, r)) : Back d (1 :: bs) v r := by
  rw [rint] at h
  split at h
  · cases h
  · rename_i u q hq
    injection h with h
    injection h with h1 h2
    subst h1; subst h2
    obtain ⟨h3, h4⟩ := rnum_inv0 hq
    have e := uform_sform (u : Int) (by omega)
    have hp := num_pos u
    refine ⟨by rw [V.enc, if_pos rfl, e, h3]; rfl, by simp [V.form, bareB, V.formAll], by simp [V.depth, V.depthAll], ?_⟩
    rw [V.enc, if_pos rfl, e, V.bulk, V.bulkAll]
    simp [ByteArray.size]
    omega
theorem rtext_inv {bs r : List UInt8} {v : V} (d : Nat) (h : rtext bs = some (v, r)) : Back d (2 :: bs) v r := by
  rw [rtext] at h
  split at h
  · cases h
  · rename_i u q hq
    split at h
    · rename_i hu
      injection h with h
      injection h with h1 h2
      subst h1; subst h2
      obtain ⟨h3, h4⟩ := rnum_inv0 hq
      have hz : (ByteArray.mk (q.take u).toArray).size = u := by simp [ByteArray.size]; omega
      have hp := num_pos u
      refine ⟨by rw [V.enc, if_neg (by omega), if_pos rfl, hz, h3]; simp, by simp [V.form, bareB, V.formAll], by simp [V.depth, V.depthAll], ?_⟩
      rw [V.enc, if_neg (by omega), if_pos rfl, V.bulk, V.bulkAll, hz]
      simp
      omega
    · cases h
theorem rlist_inv {f : List UInt8 → Option (V × List UInt8)} {d : Nat} (hf : ∀ bs v r, f bs = some (v, r) → Back d bs v r) : ∀ (n : Nat) (bs : List UInt8) (l : List V) (r : List UInt8), rlist f n bs = some (l, r) →
    l.length = n ∧ bs = V.encAll l ++ r ∧ V.formAll l = true ∧ V.depthAll l ≤ d ∧ V.bulkAll l + 11 * l.length ≤ 11 * (V.encAll l).length
  | 0, bs, l, r, h => by
    rw [rlist] at h
    injection h with h
    injection h with h1 h2
    subst h1; subst h2
    simp [V.encAll, V.formAll, V.depthAll, V.bulkAll]
  | n + 1, bs, l, r, h => by
    rw [rlist] at h
    split at h
    · cases h
    · rename_i v q hq
      split at h
      · cases h
      · rename_i m q' hq'
        injection h with h
        injection h with h1 h2
        subst h1; subst h2
        obtain ⟨a1, a2, a3, a4⟩ := hf _ _ _ hq
        obtain ⟨b0, b1, b2, b3, b4⟩ := rlist_inv hf n _ _ _ hq'
        refine ⟨by simp [b0], by rw [V.encAll, a1, b1, List.append_assoc], by simp [V.formAll, a2, b2], by rw [V.depthAll]; omega, ?_⟩
        rw [V.bulkAll, V.encAll, List.length_append, List.length_cons]
        omega
theorem rlst_inv {f : List UInt8 → Option (V × List UInt8)} {d : Nat} (hf : ∀ bs v r, f bs = some (v, r) → Back d bs v r) {bs r : List UInt8} {v : V} (h : rlst f bs = some (v, r)) : Back (d + 1) (3 :: bs) v r := by
  rw [rlst] at h
  split at h
  · cases h
  · rename_i u q hq
    split at h
    · cases h
    · rename_i l q' hq'
      injection h with h
      injection h with h1 h2
      subst h1; subst h2
      obtain ⟨h3, h4⟩ := rnum_inv0 hq
      obtain ⟨b0, b1, b2, b3, b4⟩ := rlist_inv hf _ _ _ _ hq'
      have hp := num_pos l.length
      refine ⟨by rw [V.enc, if_neg (by omega), if_neg (by omega), b0, h3, b1]; simp, by simp [V.form, bareB, b2], by rw [V.depth, if_pos rfl]; omega, ?_⟩
      rw [V.enc, if_neg (by omega), if_neg (by omega), V.bulk]
      simp [ByteArray.size]
      omega
theorem rval_inv : ∀ (d : Nat) (bs : List UInt8) (v : V) (r : List UInt8), rval d bs = some (v, r) → Back d bs v r
  | 0, [], v, r, h => by simp [rval] at h
  | d + 1, [], v, r, h => by simp [rval] at h
  | 0, b :: q, v, r, h => by
    rw [rval] at h
    split at h
    · rename_i hb; subst hb; exact rint_inv 0 h
    · split at h
      · rename_i hb; subst hb; exact rtext_inv 0 h
      · cases h
  | d + 1, b :: q, v, r, h => by
    rw [rval] at h
    split at h
    · rename_i hb; subst hb; exact rint_inv _ h
    · split at h
      · rename_i hb; subst hb; exact rtext_inv _ h
      · split at h
        · rename_i hb; subst hb; exact rlst_inv (rval_inv d) h
        · cases h
theorem dec_inv {bs : List UInt8} {v : V} (h : dec bs = some v) : bs = v.enc ∧ v.check = 0 ∧ v.bulk + 11 ≤ 11 * bs.length := by
  rw [dec] at h
  split at h
  · rename_i u hu
    injection h with h
    subst h
    obtain ⟨h1, h2, h3, h4⟩ := rval_inv 16 bs _ _ hu
    rw [List.append_nil] at h1
    exact ⟨h1, by unfold V.check; rw [if_pos h2, if_neg (by omega)], by rw [h1]; exact h4⟩
  · cases h
end Go.Proofs.Ytbcaanadmfnegaa
