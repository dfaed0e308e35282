/- Contracts of the reference's Reader: next, number. -/
import Derived.Test.YtbcaanadmfnegaaInv
import Derived.BigQuiet
import Derived.Deep.QuietTactic
import Derived.StillTailTactics
namespace Go.Proofs.Ytbcaanadmfnegaa
open Go.RowKit

/-- the reference's reader in block r -/
def RR (w : World) (r : Nat) (A : Option Addr) (n c p : Nat) (bad : Bool) : Prop := w.heap[r]? = some (.cells #[.slice A n c, .int .i64 (p : Int), .bool bad] 57 (0, 0))
section
variable {w w' : World} {r n c p : Nat} {A : Option Addr} {bad : Bool}
theorem RR.cell0 (h : RR w r A n c p bad) : w.cell? ⟨r, 0, none⟩ = some (.slice A n c) := cell_of_row w r 0 _ _ _ h
theorem RR.cell1 (h : RR w r A n c p bad) : w.cell? ⟨r, 1, none⟩ = some (.int .i64 (p : Int)) := cell_of_row w r 1 _ _ _ h
theorem RR.cell2 (h : RR w r A n c p bad) : w.cell? ⟨r, 2, none⟩ = some (.bool bad) := cell_of_row w r 2 _ _ _ h
theorem RR.frozen (h : RR w r A n c p bad) (i : Nat) : w.frozen? ⟨r, i, none⟩ = false := by
  unfold RR at h
  simp [World.frozen?, h]
theorem RR.lt (h : RR w r A n c p bad) : r < w.heap.size := World.block_lt_of_cell? w _ h.cell0
theorem RR.drew (h : RR w r A n c p bad) : RR w.drew r A n c p bad := h
theorem RR.setAt (h : RR w r A n c p bad) (q : Nat) : RR (w.setCell ⟨r, 1, none⟩ (.int .i64 (q : Int))) r A n c q bad := by
  unfold RR at h ⊢
  simp [World.setCell, Array.getElem?_modify, h]
theorem RR.setBad (h : RR w r A n c p bad) : RR (w.setCell ⟨r, 2, none⟩ (.bool true)) r A n c p true := by
  unfold RR at h ⊢
  simp [World.setCell, Array.getElem?_modify, h]
theorem RR.below (h : RR w r A n c p bad) (hb : Below w.heap.size w w') : RR w' r A n c p bad := (hb.block r h.lt).trans h
theorem RR.far (h : RR w r A n c p bad) {q : Addr} (hq : r ≠ q.block) (v : Value) : RR (w.setCell q v) r A n c p bad := (Below.heap_setCell w q v r hq).trans h
end
theorem turn_setCell (w : World) (r i : Nat) (v : Value) : Turn w (w.setCell ⟨r, i, none⟩ v) r :=
  ⟨rfl, rfl, rfl, by simp [World.setCell], fun k _ hne => Below.heap_setCell w ⟨r, i, none⟩ v k fun e => hne (by rw [e])⟩
theorem Turn.drew {w w' : World} {r : Nat} (h : Turn w w' r) : Turn w w'.drew r := ⟨h.os, h.tape, h.output, h.size, h.block⟩
theorem Turn.drew0 {w w' : World} {r : Nat} (h : Turn w.drew w' r) : Turn w w' r := ⟨h.os, h.tape, h.output, h.size, h.block⟩

set_option maxRecDepth 100000 in
set_option maxHeartbeats 1000000 in
theorem next_no (r n c p : Nat) (A : Option Addr) (bad : Bool) (w : World) (h : RR w r A n c p bad) (hp : n ≤ p) :
    Calls Try.prog 44 #[.pointer (some ⟨r, 0, none⟩)] w fun e w' => e = .returned (.int .u8 0) ∧ RR w' r A n c p true ∧ Turn w w' r := by
  have h0 := h.drew.cell0
  have h1 := h.drew.cell1
  have h2 := h.drew.cell2
  have f2 := h.drew.frozen 2
  have HH := Lib.hid h
  clear h
  go_enter Try.func44, Try.ntmps44
  go_wp2_with fail
  go_region_held3 (fun w' => w'.cell? ⟨r, 0, none⟩ = some (.slice A n c) ∧ w'.cell? ⟨r, 1, none⟩ = some (.int .i64 (p : Int))) (first | assumption | exact ⟨h0, h1⟩) (fail)
  go_wp2_with fail
  go_ret
  exact ⟨rfl, HH.out.setBad, (turn_setCell w r 2 _).drew⟩

set_option maxRecDepth 100000 in
set_option maxHeartbeats 1000000 in
theorem next_yes (r n c p B : Nat) (A : Option Addr) (bad : Bool) (xs : List UInt8) (b : UInt8) (w : World) (h : RR w r A n c p bad) (hb : RdB w B A n xs) (hB : B ≤ r) (hn : n ≤ 1099511627776) (_ : n ≤ c) (hx : xs[p]? = some b) :
    Calls Try.prog 44 #[.pointer (some ⟨r, 0, none⟩)] w fun e w' => e = .returned (.int .u8 b.toNat) ∧ RR w' r A n c (p + 1) bad ∧ Turn w w' r := by
  have hp : p < n := by
    have := (List.getElem?_eq_some_iff.1 hx).1
    rw [hb.1]; exact this
  obtain ⟨bb, o, rfl, hbb, hcell⟩ := hb.2 (by omega)
  have hbr : bb ≠ r := by omega
  have c0 := hcell p b hx
  have hrl := h.lt
  have h0 := h.drew.cell0
  have h1 := h.drew.cell1
  have f1 := h.drew.frozen 1
  have e1 : ((p + 1 : Nat) : Int) = (p : Int) + 1 := by omega
  have H2 := h.setAt (p + 1)
  obtain ⟨W1, hW1⟩ : ∃ W1 : World, W1 = (w.setCell ⟨r, 1, none⟩ (.int .i64 ((p : Int) + 1))).drew := ⟨_, rfl⟩
  have HR1 : Hid (RR W1 r (some ⟨bb, o, none⟩) n c (p + 1) bad) := by unfold Hid; rw [hW1, ← e1]; exact H2
  have HT1 : Hid (Turn w W1 r) := by unfold Hid; rw [hW1]; exact (turn_setCell w r 1 _).drew
  have k0 := HR1.out.drew.cell0
  have k1 := HR1.out.drew.cell1
  rw [e1] at k1
  have kc : W1.drew.cell? ⟨bb, o + p, none⟩ = some (.int .u8 b.toNat) := by
    show W1.cell? ⟨bb, o + p, none⟩ = _
    rw [HT1.out.cell (p := ⟨bb, o + p, none⟩) (World.block_lt_of_cell? w _ c0) hbr]
    exact c0
  have HW := Lib.hid hW1
  have q1 : (p : Int) < (n : Int) := by omega
  have q2 : (0 : Int) ≤ (p : Int) := by omega
  have q3 : IntKind.i64.wrap ((p : Int) + 1 - 1) = (p : Int) := by
    rw [show (p : Int) + 1 - 1 = (p : Int) by omega]; exact IntWalk.i64_in _ (by omega)
  have q4 : IntKind.i64.wrap (p : Int) = (p : Int) := IntWalk.i64_in _ (by omega)
  clear h hb c0 H2 e1 hcell hx hW1
  go_enter Try.func44, Try.ntmps44
  go_wp2_with fail
  go_region_held3 (fun w' => w'.cell? ⟨r, 0, none⟩ = some (.slice (some ⟨bb, o, none⟩) n c) ∧ w'.cell? ⟨r, 1, none⟩ = some (.int .i64 (p : Int))) (first | assumption | exact ⟨h0, h1⟩) (fail)
  go_wp2_with fail
  rw [← HW.out]
  go_region_held3 (fun w' => w'.cell? ⟨r, 0, none⟩ = some (.slice (some ⟨bb, o, none⟩) n c) ∧ w'.cell? ⟨r, 1, none⟩ = some (.int .i64 ((p : Int) + 1)) ∧ w'.cell? ⟨bb, o + p, none⟩ = some (.int .u8 b.toNat)) (first | assumption | exact ⟨k0, k1, kc⟩) (fail)
  go_wp2_with fail
  go_ret
  exact ⟨rfl, HR1.out.drew, HT1.out.drew⟩

theorem rnum_far (xs : List UInt8) {s u : Nat} (hs : 64 ≤ s) (hu : u < 18446744073709551616) : rnum s u xs = none := by
  cases h : rnum s u xs with
  | none => rfl
  | some p =>
    obtain ⟨x, r⟩ := p
    have h5 : 2 ^ 64 ≤ 2 ^ s := Nat.pow_le_pow_right (by omega) hs
    have h64' : (2 : Nat) ^ 64 = 18446744073709551616 := by decide
    obtain ⟨y, h1, _, h3, h4⟩ := rnum_inv xs s u x r (by omega) hu h
    have h6 : 1 * 2 ^ s ≤ y * 2 ^ s := Nat.mul_le_mul_right _ (h3 (by omega))
    omega
theorem rnum_nil (s u : Nat) : rnum s u [] = none := rfl
/-- the step of the reference's number -/
theorem rnum_step (i u : Nat) (b : UInt8) (q : List UInt8) (hi : i ≤ 9) (hu : u < 2 ^ (7 * i)) :
    rnum (7 * i) u (b :: q) = if (i = 9 ∧ 1 < b.toNat) ∨ (0 < i ∧ b.toNat = 0) then none else if b.toNat < 128 then some (u + b.toNat % 128 * 2 ^ (7 * i), q) else rnum (7 * (i + 1)) (u + b.toNat % 128 * 2 ^ (7 * i)) q := by
  have hbt : b.toNat < 256 := b.toNat_lt
  have hm : min (7 * i) 64 = 7 * i := by omega
  have hp : 0 < 2 ^ (7 * i) := Nat.pow_pos (by omega)
  have hdl : b.toNat % 128 < 128 := Nat.mod_lt _ (by omega)
  rw [rnum, hm]
  have hor : u ||| b.toNat % 128 * 2 ^ (7 * i) = u + b.toNat % 128 * 2 ^ (7 * i) := by
    rw [Nat.or_comm, Nat.mul_comm, ← Nat.two_pow_add_eq_or_of_lt hu]; omega
  have h7 : 7 * (i + 1) = 7 * i + 7 := by omega
  rw [h7]
  by_cases h9 : i = 9
  · subst h9
    have e63 : (2 : Nat) ^ (7 * 9) = 9223372036854775808 := by decide
    by_cases hb1 : 1 < b.toNat
    · have e2 : (9 = 9 ∧ 1 < b.toNat) ∨ (0 < 9 ∧ b.toNat = 0) := .inl ⟨rfl, hb1⟩
      rw [if_pos e2]
      by_cases hd : b.toNat % 128 ≤ 1
      · have hlt : b.toNat % 128 * 2 ^ (7 * 9) < 18446744073709551616 := by rw [e63]; omega
        have hx : rnum (7 * 9 + 7) (u + b.toNat % 128 * 2 ^ (7 * 9)) q = none := rnum_far _ (by omega) (by rw [e63] at *; omega)
        rw [Nat.mod_eq_of_lt hlt, Nat.mul_div_cancel _ hp, hor]
        have e1 : ¬ (b.toNat % 128 ≠ b.toNat % 128 ∨ b.toNat < 128 ∧ b.toNat % 128 = 0 ∧ 0 < 7 * 9) := by omega
        rw [if_neg e1, if_neg (by omega), hx]
      · have e1 : b.toNat % 128 * 2 ^ (7 * 9) % 18446744073709551616 / 2 ^ (7 * 9) ≠ b.toNat % 128 := by rw [e63]; omega
        rw [if_pos (.inl e1)]
    · have hlt : b.toNat % 128 * 2 ^ (7 * 9) < 18446744073709551616 := by rw [e63]; omega
      rw [Nat.mod_eq_of_lt hlt, Nat.mul_div_cancel _ hp, hor]
      by_cases hz : b.toNat = 0
      · have e1 : (b.toNat % 128 ≠ b.toNat % 128 ∨ b.toNat < 128 ∧ b.toNat % 128 = 0 ∧ 0 < 7 * 9) := by omega
        have e2 : (9 = 9 ∧ 1 < b.toNat) ∨ (0 < 9 ∧ b.toNat = 0) := by omega
        rw [if_pos e1, if_pos e2]
      · have e1 : ¬ (b.toNat % 128 ≠ b.toNat % 128 ∨ b.toNat < 128 ∧ b.toNat % 128 = 0 ∧ 0 < 7 * 9) := by omega
        have e2 : ¬ ((9 = 9 ∧ 1 < b.toNat) ∨ (0 < 9 ∧ b.toNat = 0)) := by omega
        rw [if_neg e1, if_neg e2]
  · have hlt : b.toNat % 128 * 2 ^ (7 * i) < 18446744073709551616 := by
      have h1 : 2 ^ (7 * i) ≤ 2 ^ 56 := Nat.pow_le_pow_right (by omega) (by omega)
      have h2 : b.toNat % 128 * 2 ^ (7 * i) ≤ 127 * 2 ^ 56 := Nat.mul_le_mul (by omega) h1
      have e56 : (2 : Nat) ^ 56 = 72057594037927936 := by decide
      omega
    rw [Nat.mod_eq_of_lt hlt, Nat.mul_div_cancel _ hp, hor]
    by_cases hz : 0 < i ∧ b.toNat = 0
    · have e1 : (b.toNat % 128 ≠ b.toNat % 128 ∨ b.toNat < 128 ∧ b.toNat % 128 = 0 ∧ 0 < 7 * i) := by omega
      have e2 : (i = 9 ∧ 1 < b.toNat) ∨ (0 < i ∧ b.toNat = 0) := .inr hz
      rw [if_pos e1, if_pos e2]
    · have e1 : ¬ (b.toNat % 128 ≠ b.toNat % 128 ∨ b.toNat < 128 ∧ b.toNat % 128 = 0 ∧ 0 < 7 * i) := by omega
      have e2 : ¬ ((i = 9 ∧ 1 < b.toNat) ∨ (0 < i ∧ b.toNat = 0)) := by omega
      rw [if_neg e1, if_neg e2]

/-- what number leaves; Z: the bytes that remain -/
def RNum (w : World) (r : Nat) (A : Option Addr) (n c p : Nat) (xs : List UInt8) (e : Ending) (w' : World) : Prop :=
  Turn w w' r ∧ ∃ q, p ≤ q ∧ q ≤ n ∧ (match rnum 0 0 (xs.drop p) with
    | some (u, rest) => e = .returned (.int .u64 (u : Int)) ∧ RR w' r A n c q false ∧ xs.drop q = rest
    | none => (∃ u : Nat, u < 18446744073709551616 ∧ e = .returned (.int .u64 (u : Int))) ∧ RR w' r A n c q true)

set_option maxRecDepth 100000 in
set_option maxHeartbeats 2000000 in
theorem number_any (r n c p B : Nat) (A : Option Addr) (xs : List UInt8) (w : World) (h : RR w r A n c p false) (hb : RdB w B A n xs) (hB : B ≤ r) (hn : n ≤ 1099511627776) (hc : n ≤ c) (hp : p ≤ n) :
    Calls Try.prog 45 #[.pointer (some ⟨r, 0, none⟩)] w (RNum w r A n c p xs) := by
  have hxl := hb.1
  have HB := Lib.hid hb
  have HH := Lib.hid h
  clear h hb
  go_enter Try.func45, Try.ntmps45
  go_wp2_with fail
  go_loopw [3, 4] (fun x y wr => ∃ (i un q : Nat), x = .int .u64 (un : Int) ∧ y = .int .i64 (i : Int) ∧ i ≤ 9 ∧ un < 18446744073709551616 ∧ p ≤ q ∧ q ≤ n ∧ Hid (un < 2 ^ (7 * i)) ∧ Hid (rnum 0 0 (xs.drop p) = rnum (7 * i) un (xs.drop q)) ∧ Hid (RR wr r A n c q false) ∧ Hid (Turn w wr r)) (fun _ y _ => 10 - (intOf y).toNat)
  case atStart => exact ⟨0, 0, p, rfl, rfl, by omega, by omega, Nat.le_refl _, hp, by simp [Hid], rfl, HH.out, Turn.refl _ _⟩
  case round =>
    obtain ⟨i, un, q, rfl, rfl, hi, hun, hq1, hq2, HU, HR, HD, HT⟩ := hrel
    have HBr := Lib.hid (HB.out.below (HT.out.below hB HH.out.lt))
    have c2 := HD.out.cell2
    by_cases hqn : n ≤ q
    · have HX : Hid (rnum 0 0 (xs.drop p) = none) := by
        unfold Hid; rw [HR.out, List.drop_of_length_le (by omega)]; rfl
      go_wp2_with fail
      refine (next_no r n c q A false wr HD.out hqn).mono ?_
      rintro e w1 ⟨rfl, h1, h2⟩
      have f2 := h1.frozen 2
      have d2 := h1.cell2
      have H1 := Lib.hid h1
      have H2 := Lib.hid h2
      clear h1 h2 c2
      have i9 : i = 9 ∨ i < 9 := by omega
      by_cases hi0 : 0 < i
      · have g1 : decide (0 < (i : Int)) = true := by simpa using hi0
        rcases i9 with i9 | i9
        · subst i9
          go_wp2_with fail
          go_ret
          refine ⟨HT.out.trans (H2.out.trans (turn_setCell w1 r 2 _)), q, hq1, hq2, ?_⟩
          rw [HX.out]
          exact ⟨⟨0, by omega, rfl⟩, H1.out.setBad⟩
        · have g2 : ((i : Int) == 9) = false := by simp; omega
          go_wp2_with fail
          go_ret
          refine ⟨HT.out.trans (H2.out.trans (turn_setCell w1 r 2 _)), q, hq1, hq2, ?_⟩
          rw [HX.out]
          exact ⟨⟨0, by omega, rfl⟩, H1.out.setBad⟩
      · have g1 : decide (0 < (i : Int)) = false := by simpa using hi0
        have g2 : ((i : Int) == 9) = false := by simp; omega
        go_wp2_with fail
        go_ret
        refine ⟨HT.out.trans H2.out, q, hq1, hq2, ?_⟩
        rw [HX.out]
        refine ⟨?_, H1.out⟩
        exact ⟨un, hun, rfl⟩
    · have hlt : q < xs.length := by omega
      obtain ⟨b, hb⟩ : ∃ b, xs[q]? = some b := ⟨_, List.getElem?_eq_getElem hlt⟩
      have hbt : b.toNat < 256 := b.toNat_lt
      have hdr : xs.drop q = b :: xs.drop (q + 1) := by
        rw [List.drop_eq_getElem_cons hlt]
        congr 1
        rw [List.getElem?_eq_getElem hlt] at hb
        exact Option.some.inj hb
      have hst := rnum_step i un b (xs.drop (q + 1)) hi HU.out
      rw [← hdr] at hst
      have HST := Lib.hid hst
      obtain ⟨D, hD⟩ : ∃ D, D = b.toNat % 128 := ⟨_, rfl⟩
      obtain ⟨P, hP⟩ : ∃ P, P = D * 2 ^ (7 * i) := ⟨_, rfl⟩
      have hD1 : D < 128 := by omega
      have HDh := Lib.hid hD
      have HPh := Lib.hid hP
      have kd : ((b.toNat : Int) % 128) = (D : Int) := by omega
      have h7 : IntKind.i64.wrap (7 * (i : Int)) = ((7 * i : Nat) : Int) := by
        rw [show 7 * (i : Int) = ((7 * i : Nat) : Int) by omega]; exact IntWalk.i64_in _ (by omega)
      have hp2 : 0 < 2 ^ (7 * i) := Nat.pow_pos (by omega)
      have hb9 : ¬ (i = 9 ∧ 1 < b.toNat) → P < 18446744073709551616 ∧ un + P < 18446744073709551616 := fun h => by
        have hu := HU.out
        rcases Nat.lt_or_ge i 9 with h9 | h9
        · have h1 : 2 ^ (7 * i) ≤ 2 ^ 56 := Nat.pow_le_pow_right (by omega) (by omega)
          have h2 : D * 2 ^ (7 * i) ≤ 127 * 2 ^ 56 := Nat.mul_le_mul (by omega) h1
          have e56 : (2 : Nat) ^ 56 = 72057594037927936 := by decide
          omega
        · have e9 : i = 9 := by omega
          subst e9
          have e63 : (2 : Nat) ^ (7 * 9) = 9223372036854775808 := by decide
          rw [e63] at *
          have : D ≤ 1 := by omega
          have : P ≤ 9223372036854775808 := by rw [hP]; omega
          omega
      clear hst hdr hD hP
      go_wp2_with fail
      refine (next_yes r n c q B A false xs b wr HD.out HBr.out hB hn hc hb).mono ?_
      rintro e w1 ⟨rfl, h1, h2⟩
      have f2 := h1.frozen 2
      have d2 := h1.cell2
      have H1 := Lib.hid h1
      have H2 := Lib.hid h2
      clear h1 h2 c2 hb
      by_cases hbad : (i = 9 ∧ 1 < b.toNat) ∨ (0 < i ∧ b.toNat = 0)
      · have HX : Hid (rnum 0 0 (xs.drop p) = none) := by unfold Hid; rw [HR.out, HST.out, if_pos hbad]
        clear hb9
        rcases Nat.lt_or_ge i 9 with h9 | h9
        · have g2 : ((i : Int) == 9) = false := by simp; omega
          have gi : 0 < i := by omega
          have g0 : ((b.toNat : Int) == 0) = true := by simp; omega
          clear hbad
          go_wp2_with fail
          go_ret
          refine ⟨HT.out.trans (H2.out.trans (turn_setCell w1 r 2 _)), q + 1, by omega, by omega, ?_⟩
          rw [HX.out]
          exact ⟨⟨0, by omega, rfl⟩, H1.out.setBad⟩
        · obtain rfl : i = 9 := by omega
          by_cases hb1 : 1 < b.toNat
          · have g1 : decide (1 < (b.toNat : Int)) = true := by simp; omega
            clear hbad
            go_wp2_with fail
            go_ret
            refine ⟨HT.out.trans (H2.out.trans (turn_setCell w1 r 2 _)), q + 1, by omega, by omega, ?_⟩
            rw [HX.out]
            exact ⟨⟨0, by omega, rfl⟩, H1.out.setBad⟩
          · have g1 : decide (1 < (b.toNat : Int)) = false := by simp; omega
            have g0 : ((b.toNat : Int) == 0) = true := by simp; omega
            clear hbad
            go_wp2_with fail
            go_ret
            refine ⟨HT.out.trans (H2.out.trans (turn_setCell w1 r 2 _)), q + 1, by omega, by omega, ?_⟩
            rw [HX.out]
            exact ⟨⟨0, by omega, rfl⟩, H1.out.setBad⟩
      · obtain ⟨hP1, hP2⟩ := hb9 fun h => hbad (.inl h)
        clear hb9
        have k0 : (((D : Int)) * 2 ^ (7 * i)) = (P : Int) := by rw [HPh.out]; simp
        have k1 : IntKind.u64.wrap ((D : Int) * 2 ^ (7 * i)) = (P : Int) := by
          rw [k0]; exact IntWalk.u64_in _ (by omega)
        have k2 : IntKind.u64.wrap ((un : Int) + (P : Int)) = (un : Int) + (P : Int) := IntWalk.u64_in _ (by omega)
        have HUP : Hid (un + P < 2 ^ (7 * (i + 1))) := by
          have hu := HU.out
          have e7 : 2 ^ (7 * (i + 1)) = 128 * 2 ^ (7 * i) := by rw [Nat.mul_add, Nat.pow_add]; omega
          have : D * 2 ^ (7 * i) ≤ 127 * 2 ^ (7 * i) := Nat.mul_le_mul_right _ (by omega)
          unfold Hid
          rw [e7, HPh.out]
          omega
        rcases Nat.lt_or_ge i 9 with h9 | h9
        · have g2 : ((i : Int) == 9) = false := by simp; omega
          clear k0
          by_cases hl : b.toNat < 128
          · have HX : Hid (rnum 0 0 (xs.drop p) = some (un + P, xs.drop (q + 1))) := by unfold Hid; rw [HR.out, HST.out, if_neg hbad, if_pos hl, HPh.out, HDh.out]
            by_cases hi0 : 0 < i
            · have g1 : decide (0 < (i : Int)) = true := by simp; omega
              have g0 : ((b.toNat : Int) == 0) = false := by simp; omega
              clear hbad
              go_wp2_with fail
              go_ret
              refine ⟨HT.out.trans H2.out, q + 1, by omega, by omega, ?_⟩
              rw [HX.out]
              exact ⟨ret_int (by omega), H1.out, rfl⟩
            · have g1 : decide (0 < (i : Int)) = false := by simp; omega
              clear hbad
              go_wp2_with fail
              go_ret
              refine ⟨HT.out.trans H2.out, q + 1, by omega, by omega, ?_⟩
              rw [HX.out]
              exact ⟨ret_int (by omega), H1.out, rfl⟩
          · have HX : Hid (rnum 0 0 (xs.drop p) = rnum (7 * (i + 1)) (un + P) (xs.drop (q + 1))) := by unfold Hid; rw [HR.out, HST.out, if_neg hbad, if_neg hl, HPh.out, HDh.out]
            have g0 : ((b.toNat : Int) == 0) = false := by simp; omega
            clear hbad
            by_cases hi0 : 0 < i
            · have g1 : decide (0 < (i : Int)) = true := by simp; omega
              go_wp2_with fail
              go_roundw
              case rel => exact ⟨i + 1, un + P, q + 1, by go_num, by go_num, by omega, hP2, by omega, by omega, HUP, HX, H1.out, HT.out.trans H2.out⟩
              case measure => simp [intOf]; omega
            · have g1 : decide (0 < (i : Int)) = false := by simp; omega
              go_wp2_with fail
              go_roundw
              case rel => exact ⟨i + 1, un + P, q + 1, by go_num, by go_num, by omega, hP2, by omega, by omega, HUP, HX, H1.out, HT.out.trans H2.out⟩
              case measure => simp [intOf]; omega
        · obtain rfl : i = 9 := by omega
          have hl : b.toNat < 128 := by omega
          have HX : Hid (rnum 0 0 (xs.drop p) = some (un + P, xs.drop (q + 1))) := by unfold Hid; rw [HR.out, HST.out, if_neg hbad, if_pos hl, HPh.out, HDh.out]
          have g1 : decide (1 < (b.toNat : Int)) = false := by simp; omega
          have g0 : ((b.toNat : Int) == 0) = false := by simp; omega
          have e63 : (2 : Int) ^ (7 * 9) = 9223372036854775808 := by decide
          rw [e63] at k0 k1
          have k4 : IntKind.u64.wrap ((un : Int) + (D : Int) * 9223372036854775808) = (un : Int) + (P : Int) := by rw [k0]; exact k2
          clear hbad k0 e63
          go_wp2_with fail
          go_ret
          refine ⟨HT.out.trans H2.out, q + 1, by omega, by omega, ?_⟩
          rw [HX.out]
          exact ⟨ret_int (by omega), H1.out, rfl⟩
end Go.Proofs.Ytbcaanadmfnegaa
