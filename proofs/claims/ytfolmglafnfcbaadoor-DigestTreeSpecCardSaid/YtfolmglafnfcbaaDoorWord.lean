/- Contracts of the two readers of a word. -/
import Derived.Test.YtfolmglafnfcbaaDoorRor
import Derived.Below
import Derived.Laws.Rows
namespace Go.Proofs.YtfolmglafnfcbaaDoor
open Go.RowKit

/-- bytes that can be read below block B -/
def RdB (w : World) (B : Nat) (A : Option Addr) (n : Nat) (xs : List UInt8) : Prop :=
  n = xs.length ∧ (0 < n → ∃ b o, A = some ⟨b, o, none⟩ ∧ b < B ∧ ∀ j u, xs[j]? = some u → w.cell? ⟨b, o + j, none⟩ = some (.int .u8 (u : UInt8).toNat))
theorem RdB.keep {w w' : World} {B B' n : Nat} {A : Option Addr} {xs : List UInt8} (h : RdB w B A n xs) (hB : B ≤ B') (hk : ∀ p : Addr, p.block < B → w'.cell? p = w.cell? p) : RdB w' B' A n xs :=
  ⟨h.1, fun hn => by
    obtain ⟨b, o, e, hb, hc⟩ := h.2 hn
    exact ⟨b, o, e, by omega, fun j u hu => (hk _ hb).trans (hc j u hu)⟩⟩
theorem RdB.below {w w' : World} {B B' n : Nat} {A : Option Addr} {xs : List UInt8} (h : RdB w B A n xs) (hb : Below B w w') (hB : B ≤ B') : RdB w' B' A n xs := h.keep hB fun _ hp => hb.cell hp
theorem RdB.drewN {w : World} {B n k : Nat} {A : Option Addr} {xs : List UInt8} (h : RdB w B A n xs) : RdB (w.drewN k) B A n xs := h.keep (Nat.le_refl _) fun _ _ => rfl
theorem RdB.take {w : World} {B n m : Nat} {A : Option Addr} {xs : List UInt8} (h : RdB w B A n xs) (hm : m ≤ n) : RdB w B A m (xs.take m) := by
  refine ⟨by rw [List.length_take, ← h.1]; omega, fun hn => ?_⟩
  obtain ⟨b, o, e, hb, hc⟩ := h.2 (by omega)
  refine ⟨b, o, e, hb, fun j u hu => hc j u ?_⟩
  rw [List.getElem?_take] at hu
  split at hu
  · exact hu
  · cases hu
theorem add_lit' (b o m : Nat) : (⟨b, o, none⟩ : Addr).add m = ⟨b, o + m, none⟩ := by
  unfold Addr.add
  split
  · rename_i h; subst h; rfl
  · rfl
theorem RdB.drop {w : World} {B n m : Nat} {b o : Nat} {xs : List UInt8} (h : RdB w B (some ⟨b, o, none⟩) n xs) (hm : m ≤ n) : RdB w B (some ⟨b, o + m, none⟩) (n - m) (xs.drop m) := by
  refine ⟨by rw [List.length_drop, ← h.1], fun hn => ?_⟩
  obtain ⟨b', o', e, hb, hc⟩ := h.2 (by omega)
  injection e with e
  injection e with e1 e2
  subst e1 e2
  refine ⟨b, o + m, rfl, hb, fun j u hu => ?_⟩
  rw [List.getElem?_drop] at hu
  rw [Nat.add_assoc]
  exact hc _ u hu

def wordI (b0 b1 b2 b3 : UInt8) : Int := (((b0.toNat * 256 + b1.toNat) * 256 + b2.toNat) * 256 + b3.toNat : Nat)
theorem u8_lt (b : UInt8) : b.toNat < 256 := b.toNat_lt
theorem wordI_u32 (b0 b1 b2 b3 : UInt8) : U32 (wordI b0 b1 b2 b3) := by
  have := u8_lt b0; have := u8_lt b1; have := u8_lt b2; have := u8_lt b3
  unfold wordI U32
  omega

theorem ret_u32 {a b : Int} (h : a = b) : Ending.returned (.int .u32 a) = .returned (.int .u32 b) := by rw [h]
theorem ref_word_eq (b0 b1 b2 b3 : UInt8) : bits .or .u32 (bits .or .u32 (bits .or .u32 ((b0.toNat : Int) * 16777216) ((b1.toNat : Int) * 65536)) ((b2.toNat : Int) * 256)) (b3.toNat : Int) = wordI b0 b1 b2 b3 := by
  have h0 := u8_lt b0; have h1 := u8_lt b1; have h2 := u8_lt b2; have h3 := u8_lt b3
  have e0 : ((b0.toNat : Int) * 16777216) = ((b0.toNat * 2 ^ 24 : Nat) : Int) := by omega
  have e1 : ((b1.toNat : Int) * 65536) = ((b1.toNat * 65536 : Nat) : Int) := by omega
  have e2 : ((b2.toNat : Int) * 256) = ((b2.toNat * 256 : Nat) : Int) := by omega
  rw [e0, e1, e2, or_add b0.toNat (b1.toNat * 65536) 24 (by omega) (by omega)]
  rw [show b0.toNat * 2 ^ 24 + b1.toNat * 65536 = (b0.toNat * 256 + b1.toNat) * 2 ^ 16 from by omega, or_add _ _ 16 (by omega) (by omega)]
  rw [show (b0.toNat * 256 + b1.toNat) * 2 ^ 16 + b2.toNat * 256 = ((b0.toNat * 256 + b1.toNat) * 256 + b2.toNat) * 2 ^ 8 from by omega, or_add _ _ 8 (by omega) (by omega)]
  unfold wordI
  congr 1

set_option maxRecDepth 100000 in
set_option maxHeartbeats 1000000 in
theorem refword_any (b o n c : Nat) (b0 b1 b2 b3 : UInt8) (w : World) (hn : 4 ≤ n) (h0 : w.cell? ⟨b, o, none⟩ = some (.int .u8 b0.toNat)) (h1 : w.cell? ⟨b, o + 1, none⟩ = some (.int .u8 b1.toNat))
    (h2 : w.cell? ⟨b, o + 2, none⟩ = some (.int .u8 b2.toNat)) (h3 : w.cell? ⟨b, o + 3, none⟩ = some (.int .u8 b3.toNat)) :
    Calls Tryd.prog 50 #[.slice (some ⟨b, o, none⟩) n c] w fun e w' => e = .returned (.int .u32 (wordI b0 b1 b2 b3)) ∧ ∃ n, w' = w.drewN n := by
  have i0 : (0 : Int) < n := by omega
  have i1 : (1 : Int) < n := by omega
  have i2 : (2 : Int) < n := by omega
  have i3 : (3 : Int) < n := by omega
  have k0 := u8_lt b0
  have k1 := u8_lt b1
  have k2 := u8_lt b2
  have k3 := u8_lt b3
  go_enter Tryd.func50, Tryd.ntmps50
  go_wp2_with fail
  go_quiet (fail)
  go_wp2_with fail
  go_ret
  exact ⟨ret_u32 (by rw [ref_word_eq]), _, rfl⟩

def wpre (b0 b1 b2 b3 : UInt8) : Nat → Nat
  | 0 => 0
  | 1 => b0.toNat
  | 2 => b0.toNat * 256 + b1.toNat
  | 3 => (b0.toNat * 256 + b1.toNat) * 256 + b2.toNat
  | _ => ((b0.toNat * 256 + b1.toNat) * 256 + b2.toNat) * 256 + b3.toNat
theorem wstep (x : Nat) (u : UInt8) (h : x < 16777216) : bits .or .u32 ((x : Int) * 256) (u.toNat : Int) = ((x * 256 + u.toNat : Nat) : Int) := by
  have := u8_lt u
  have e : ((x : Int) * 256) = ((x * 2 ^ 8 : Nat) : Int) := by omega
  rw [e, or_add x u.toNat 8 this (by omega)]
theorem wstep0 (u : UInt8) : bits .or .u32 0 (u.toNat : Int) = (u.toNat : Int) := by
  have h := wstep 0 u (by omega)
  simpa using h
theorem wstepm (x : Nat) (u : UInt8) (h : x < 16777216) : bits .or .u32 ((x : Int) * 256 % 4294967296) (u.toNat : Int) = ((x * 256 + u.toNat : Nat) : Int) := by
  rw [show (x : Int) * 256 % 4294967296 = (x : Int) * 256 from by omega]
  exact wstep x u h

set_option maxRecDepth 100000 in
set_option maxHeartbeats 1000000 in
theorem word_any (b o n c : Nat) (b0 b1 b2 b3 : UInt8) (w : World) (hn : 4 ≤ n) (h0 : w.cell? ⟨b, o, none⟩ = some (.int .u8 b0.toNat)) (h1 : w.cell? ⟨b, o + 1, none⟩ = some (.int .u8 b1.toNat))
    (h2 : w.cell? ⟨b, o + 2, none⟩ = some (.int .u8 b2.toNat)) (h3 : w.cell? ⟨b, o + 3, none⟩ = some (.int .u8 b3.toNat)) :
    Calls Tryd.prog 56 #[.slice (some ⟨b, o, none⟩) n c] w fun e w' => e = .returned (.int .u32 (wordI b0 b1 b2 b3)) ∧ w = w' := by
  have i0 : (0 : Int) < n := by omega
  have i1 : (1 : Int) < n := by omega
  have i2 : (2 : Int) < n := by omega
  have i3 : (3 : Int) < n := by omega
  have k0 := u8_lt b0
  have k1 := u8_lt b1
  have k2 := u8_lt b2
  have k3 := u8_lt b3
  go_enter Tryd.func56, Tryd.ntmps56
  go_wp2_with fail
  go_loop [2, 4] (fun x i => ∃ j : Nat, j ≤ 4 ∧ i = .int .i64 j ∧ ∃ y : Nat, x = .int .u32 (y : Int) ∧ Hid (y = wpre b0 b1 b2 b3 j)) (fun _ i => 4 - (intOf i).toNat)
  case atStart => exact ⟨0, by omega, rfl, 0, rfl, rfl⟩
  case round =>
    obtain ⟨j, hj, rfl, y, rfl, hy⟩ := hrel
    have hj' : j = 0 ∨ j = 1 ∨ j = 2 ∨ j = 3 ∨ j = 4 := by omega
    rcases hj' with rfl | rfl | rfl | rfl | rfl
    · have hy0 : y < 16777216 := by rw [hy.out]; simp [wpre]
      go_wp2_with fail
      go_round
      case rel => exact ⟨1, by omega, rfl, _, by rw [wstep y b0 hy0], by unfold Hid; rw [hy.out]; simp [wpre]⟩
      case measure => simp [intOf]
    · have hy0 : y < 16777216 := by rw [hy.out]; simp only [wpre]; omega
      go_wp2_with fail
      go_round
      case rel => exact ⟨2, by omega, rfl, _, by rw [wstep y b1 hy0], by unfold Hid; rw [hy.out]; simp [wpre]⟩
      case measure => simp [intOf]
    · have hy0 : y < 16777216 := by rw [hy.out]; simp only [wpre]; omega
      go_wp2_with fail
      go_round
      case rel => exact ⟨3, by omega, rfl, _, by rw [wstep y b2 hy0], by unfold Hid; rw [hy.out]; simp [wpre]⟩
      case measure => simp [intOf]
    · have hy0 : y < 16777216 := by rw [hy.out]; simp only [wpre]; omega
      go_wp2_with fail
      go_round
      case rel => exact ⟨4, by omega, rfl, _, by rw [wstep y b3 hy0], by unfold Hid; rw [hy.out]; simp [wpre]⟩
      case measure => simp [intOf]
    · go_wp2_with fail
      go_ret
      exact ⟨ret_u32 (by rw [hy.out]; simp [wpre, wordI]), rfl⟩
end Go.Proofs.YtfolmglafnfcbaaDoor
