/- Contract of the reader's numeral. -/
import Derived.Test.YtbcaanadmfnegaaTake
import Derived.BigQuiet
import Derived.Laws.Bits64b
namespace Go.Proofs.Ytbcaanadmfnegaa
open Go.RowKit

theorem take1_no (r c : Nat) (A : Option Addr) (o : Int) (w : World) (h : Rdr w r A 0 c o) :
    Calls Try.prog 42 #[.pointer (some ⟨r, 0, none⟩), .int .u64 1] w fun e w' => e = .panicked failChain ∧ w = w' :=
  take_no r 0 c A o 1 w h (by omega) (by omega) (by omega)

/-- what take(1) leaves: the first byte can be read at the slice -/
def Took1 (w : World) (r B : Nat) (n : Nat) (o : Int) (b : UInt8) (bs : List UInt8) (e : Ending) (w' : World) : Prop :=
  ∃ (g oo : Nat) (A' : Option Addr), e = .returned (.slice (some ⟨g, oo, none⟩) 1 1) ∧ w'.cell? ⟨g, oo, none⟩ = some (.int .u8 b.toNat) ∧ Rdr w' r A' (n - 1) (n - 1) o ∧ RdB w' B A' (n - 1) bs ∧ Turn w w' r
theorem take1_yes (r n c : Nat) (A : Option Addr) (o : Int) (B : Nat) (b : UInt8) (bs : List UInt8) (w : World) (h : Rdr w r A n c o) (hb : RdB w B A n (b :: bs)) (hB : B ≤ r) (hn : n ≤ 1099511627776) (hc : n ≤ c) :
    Calls Try.prog 42 #[.pointer (some ⟨r, 0, none⟩), .int .u64 1] w (Took1 w r B n o b bs) := by
  have hn1 : 1 ≤ n := by have := hb.1; simp at this; omega
  refine (take_yes r n c A o 1 B (b :: bs) w h hb hB hn hn1 hc).mono ?_
  rintro e w' ⟨rfl, A', h1, h2, h3, h4⟩
  obtain ⟨g, oo, rfl, hg, hc⟩ := h3.2 (by omega)
  exact ⟨g, oo, A', rfl, hc 0 b rfl, h1, h2, h4⟩

/-- reading a numeral -/
def rnum : Nat → Nat → List UInt8 → Option (Nat × List UInt8)
  | _, _, [] => none
  | s, u, b :: r =>
    if (b.toNat % 128 * 2 ^ min s 64 % 18446744073709551616) / 2 ^ min s 64 ≠ b.toNat % 128 ∨ (b.toNat < 128 ∧ b.toNat % 128 = 0 ∧ 0 < s) then none
    else if b.toNat < 128 then some (u ||| (b.toNat % 128 * 2 ^ min s 64 % 18446744073709551616), r) else rnum (s + 7) (u ||| (b.toNat % 128 * 2 ^ min s 64 % 18446744073709551616)) r

def NumOut (w : World) (r B n : Nat) (o : Int) (res : Option (Nat × List UInt8)) (e : Ending) (w' : World) : Prop :=
  Turn w w' r ∧ (match res with
    | some (u, rest) => e = .returned (.int .u64 (u : Int)) ∧ u < 18446744073709551616 ∧ ∃ A' n', Rdr w' r A' n' n' o ∧ RdB w' B A' n' rest ∧ n' ≤ n
    | none => e = .panicked failChain)

set_option maxRecDepth 100000 in
set_option maxHeartbeats 2000000 in
theorem numeral_any (r n c : Nat) (A : Option Addr) (o : Int) (B : Nat) (bs : List UInt8) (w : World) (h : Rdr w r A n c o) (hb : RdB w B A n bs) (hB : B ≤ r) (hn : n ≤ 1099511627776) (hc : n ≤ c) :
    Calls Try.prog 59 #[.pointer (some ⟨r, 0, none⟩)] w (NumOut w r B n o (rnum 0 0 bs)) := by
  have hbl := hb.1
  have HB := Lib.hid hb
  have HH := Lib.hid h
  clear h hb
  go_enter Try.func59, Try.ntmps59
  go_wp2_with fail
  go_loopw [2, 3] (fun x y wr => ∃ (s un n' c' : Nat) (A' : Option Addr) (rest : List UInt8), x = .int .u64 (un : Int) ∧ y = .int .i64 (s : Int) ∧ un < 18446744073709551616 ∧ n' ≤ n ∧ n' ≤ c' ∧ s + 7 * n' ≤ 7 * n ∧ Hid (rnum 0 0 bs = rnum s un rest) ∧ Hid (Rdr wr r A' n' c' o) ∧ Hid (RdB wr B A' n' rest) ∧ Hid (Turn w wr r)) (fun _ y _ => 7 * n + 7 - (intOf y).toNat)
  case atStart => exact ⟨0, 0, n, c, A, bs, rfl, rfl, by omega, Nat.le_refl _, hc, by omega, rfl, HH.out, HB.out, Turn.refl _ _⟩
  case round =>
    obtain ⟨s, un, n', c', A', rest, rfl, rfl, hun, hn', hc', hs, HR, HD, HBB, HT⟩ := hrel
    cases rest with
    | nil =>
      have hn0 : n' = 0 := by have := HBB.out.1; simpa using this
      subst hn0
      go_wp2_with fail
      refine (take1_no r c' A' o _ HD.out).mono ?_
      rintro e w' ⟨rfl, rfl⟩
      refine ⟨rfl, HT.out, ?_⟩
      rw [HR.out, rnum]
    | cons b rest =>
      have hbt : b.toNat < 256 := b.toNat_lt
      have hn1 : n' = rest.length + 1 := by have := HBB.out.1; simpa using this
      obtain ⟨d, hd⟩ : ∃ d, d = b.toNat % 128 := ⟨_, rfl⟩
      obtain ⟨P, hP⟩ : ∃ P, P = d * 2 ^ min s 64 % 18446744073709551616 := ⟨_, rfl⟩
      obtain ⟨Q, hQ⟩ : ∃ Q, Q = P / 2 ^ min s 64 := ⟨_, rfl⟩
      obtain ⟨U, hU⟩ : ∃ U, U = un ||| P := ⟨_, rfl⟩
      have kd : ((b.toNat : Int) % 128) = (d : Int) := by omega
      have k1 : IntKind.u64.wrap ((d : Int) * 2 ^ min s 64) = (P : Int) := by
        rw [IntKind.wrap_u64, hP]
        simp
      have k2 : (P : Int) / 2 ^ min s 64 = (Q : Int) := by rw [hQ]; simp
      have hPl : P < 18446744073709551616 := by rw [hP]; exact Nat.mod_lt _ (by omega)
      have k3 : bits BinOp.or IntKind.u64 (un : Int) (P : Int) = (U : Int) := by rw [hU]; exact bits_or_u64_nat un P (by omega) (by omega)
      have hUl : U < 18446744073709551616 := by rw [hU]; exact Nat.or_lt_two_pow (n := 64) (by omega) (by omega)
      have hdl : d < 128 := by omega
      have HRR : Hid (rnum s un (b :: rest) = if Q ≠ d ∨ (b.toNat < 128 ∧ d = 0 ∧ 0 < s) then none else if b.toNat < 128 then some (U, rest) else rnum (s + 7) U rest) := by
        unfold Hid
        rw [rnum, hU, hQ, hP, hd]
      clear hd hP hQ hU
      by_cases hq : Q = d
      · subst hq
        by_cases hlast : b.toNat < 128
        · by_cases hz : Q = 0 ∧ 0 < s
          · obtain ⟨rfl, hs0⟩ := hz
            have HX : Hid (rnum 0 0 bs = none) := by unfold Hid; rw [HR.out, HRR.out, if_pos (.inr ⟨hlast, rfl, hs0⟩)]
            go_wp2_with fail
            refine (take1_yes r n' c' A' o B b rest _ HD.out HBB.out hB (by omega) hc').mono ?_
            rintro e w1 ⟨g, oo, A1, rfl, hcell, h1, h2, h3⟩
            have H3 := Lib.hid h3
            clear h1 h2 h3
            go_wp2_with fail
            refine (fail_any _).mono ?_
            rintro e w' ⟨rfl, rfl⟩
            refine ⟨rfl, HT.out.trans H3.out, ?_⟩
            rw [HX.out]
          · have HX : Hid (rnum 0 0 bs = some (U, rest)) := by unfold Hid; rw [HR.out, HRR.out, if_neg (by omega), if_pos hlast]
            by_cases hz0 : Q = 0
            · subst hz0
              have hs0 : s = 0 := by omega
              subst hs0
              have hP0 : P = 0 := by simpa using k2
              subst hP0
              have k4 : bits BinOp.or IntKind.u64 (un : Int) 0 = (U : Int) := by simpa using k3
              clear hz k1 k2 k3
              go_wp2_with fail
              refine (take1_yes r n' c' A' o B b rest _ HD.out HBB.out hB (by omega) hc').mono ?_
              rintro e w1 ⟨g, oo, A1, rfl, hcell, h1, h2, h3⟩
              have H1 := Lib.hid h1
              have H2 := Lib.hid h2
              have H3 := Lib.hid h3
              clear h1 h2 h3
              go_wp2_with fail
              go_ret
              refine ⟨HT.out.trans H3.out, ?_⟩
              rw [HX.out]
              exact ⟨rfl, hUl, A1, n' - 1, H1.out, H2.out, by omega⟩
            · have hq0 : ((Q : Int) == 0) = false := by simp; omega
              clear hz hz0
              go_wp2_with fail
              refine (take1_yes r n' c' A' o B b rest _ HD.out HBB.out hB (by omega) hc').mono ?_
              rintro e w1 ⟨g, oo, A1, rfl, hcell, h1, h2, h3⟩
              have H1 := Lib.hid h1
              have H2 := Lib.hid h2
              have H3 := Lib.hid h3
              clear h1 h2 h3
              go_wp2_with fail
              go_ret
              refine ⟨HT.out.trans H3.out, ?_⟩
              rw [HX.out]
              exact ⟨rfl, hUl, A1, n' - 1, H1.out, H2.out, by omega⟩
        · have HX : Hid (rnum 0 0 bs = rnum (s + 7) U rest) := by unfold Hid; rw [HR.out, HRR.out, if_neg (by omega), if_neg hlast]
          go_wp2_with fail
          refine (take1_yes r n' c' A' o B b rest _ HD.out HBB.out hB (by omega) hc').mono ?_
          rintro e w1 ⟨g, oo, A1, rfl, hcell, h1, h2, h3⟩
          have H1 := Lib.hid h1
          have H2 := Lib.hid h2
          have H3 := Lib.hid h3
          clear h1 h2 h3
          go_wp2_with fail
          go_roundw
          case rel => exact ⟨s + 7, U, n' - 1, n' - 1, A1, rest, rfl, by go_num, hUl, by omega, Nat.le_refl _, by omega, HX, H1.out, H2.out, HT.out.trans H3.out⟩
          case measure => simp [intOf]; omega
      · have HX : Hid (rnum 0 0 bs = none) := by unfold Hid; rw [HR.out, HRR.out, if_pos (.inl hq)]
        have hqq : ((Q : Int) != (d : Int)) = true := by simp; omega
        clear hq
        go_wp2_with fail
        refine (take1_yes r n' c' A' o B b rest _ HD.out HBB.out hB (by omega) hc').mono ?_
        rintro e w1 ⟨g, oo, A1, rfl, hcell, h1, h2, h3⟩
        have H3 := Lib.hid h3
        clear h1 h2 h3
        go_wp2_with fail
        refine (fail_any _).mono ?_
        rintro e w' ⟨rfl, rfl⟩
        refine ⟨rfl, HT.out.trans H3.out, ?_⟩
        rw [HX.out]
end Go.Proofs.Ytbcaanadmfnegaa
