/- The rounds of a block. -/
import Derived.Test.YtfolmglafnfcbaaDoorWordsM
import Derived.Maps.AppendAt
import Derived.Deep.AppendLies
namespace Go.Proofs.YtfolmglafnfcbaaDoor
open Go.RowKit

/-- the numbers K -/
def KL : List Int := [
  1116352408, 1899447441, 3049323471, 3921009573, 961987163, 1508970993, 2453635748, 2870763221,
  3624381080, 310598401, 607225278, 1426881987, 1925078388, 2162078206, 2614888103, 3248222580,
  3835390401, 4022224774, 264347078, 604807628, 770255983, 1249150122, 1555081692, 1996064986,
  2554220882, 2821834349, 2952996808, 3210313671, 3336571891, 3584528711, 113926993, 338241895,
  666307205, 773529912, 1294757372, 1396182291, 1695183700, 1986661051, 2177026350, 2456956037,
  2730485921, 2820302411, 3259730800, 3345764771, 3516065817, 3600352804, 4094571909, 275423344,
  430227734, 506948616, 659060556, 883997877, 958139571, 1322822218, 1537002063, 1747873779,
  1955562222, 2024104815, 2227730452, 2361852424, 2428436474, 2756734187, 3204031479, 3329325298]
theorem KL_length : KL.length = 64 := by rfl
theorem KL_u32 (i : Nat) : U32 (KL.getD i 0) := by
  by_cases h : i < 64
  · have : ∀ i, i < 64 → 0 ≤ KL.getD i 0 ∧ KL.getD i 0 ≤ 4294967295 := by decide
    exact this i h
  · rw [List.getD_eq_getElem?_getD, List.getElem?_eq_none (by rw [KL_length]; omega)]
    unfold U32
    simp

theorem notM : (if IntKind.u32.signed = true then (-1 : Int) else IntKind.u32.max) = 4294967295 := by decide

/-- the eight words of a state -/
structure St where
  (a b c d e f g h : Int)
def St.list (s : St) : List Int := [s.a, s.b, s.c, s.d, s.e, s.f, s.g, s.h]
def St.U (s : St) : Prop := U32 s.a ∧ U32 s.b ∧ U32 s.c ∧ U32 s.d ∧ U32 s.e ∧ U32 s.f ∧ U32 s.g ∧ U32 s.h
def pI (k w e f g h : Int) : Int :=
  (h + bits .xor .u32 (bits .xor .u32 (rorI e 6) (rorI e 11)) (rorI e 25) + bits .xor .u32 (bits .and .u32 e f) (bits .and .u32 (bits .xor .u32 4294967295 e) g) + k + w) % 4294967296
def qI (a b c : Int) : Int :=
  (bits .xor .u32 (bits .xor .u32 (rorI a 2) (rorI a 13)) (rorI a 22) + bits .xor .u32 (bits .xor .u32 (bits .and .u32 a b) (bits .and .u32 a c)) (bits .and .u32 b c)) % 4294967296
def rnd (k w : Int) (s : St) : St :=
  { a := (pI k w s.e s.f s.g s.h + qI s.a s.b s.c) % 4294967296, b := s.a, c := s.b, d := s.c, e := (s.d + pI k w s.e s.f s.g s.h) % 4294967296, f := s.e, g := s.f, h := s.g }
def rnds (ws : List Int) (s : St) : Nat → St
  | 0 => s
  | j + 1 => rnd (KL.getD j 0) (ws.getD j 0) (rnds ws s j)
def plus (s t : St) : St :=
  { a := (s.a + t.a) % 4294967296, b := (s.b + t.b) % 4294967296, c := (s.c + t.c) % 4294967296, d := (s.d + t.d) % 4294967296, e := (s.e + t.e) % 4294967296, f := (s.f + t.f) % 4294967296, g := (s.g + t.g) % 4294967296, h := (s.h + t.h) % 4294967296 }
/-- the state behind a block -/
def blockSt (bs : List UInt8) (s : St) : St := plus s (rnds (wsTo bs 64) s 64)
theorem rnds_succ (ws : List Int) (s : St) (j : Nat) : rnds ws s (j + 1) = rnd (KL.getD j 0) (ws.getD j 0) (rnds ws s j) := rfl
theorem rnd_a (k w a b c d e f g h : Int) : Value.int .u32 (((h + bits .xor .u32 (bits .xor .u32 (rorI e 6) (rorI e 11)) (rorI e 25) + bits .xor .u32 (bits .and .u32 e f) (bits .and .u32 (bits .xor .u32 4294967295 e) g) + k + w) % 4294967296 +
    (bits .xor .u32 (bits .xor .u32 (rorI a 2) (rorI a 13)) (rorI a 22) + bits .xor .u32 (bits .xor .u32 (bits .and .u32 a b) (bits .and .u32 a c)) (bits .and .u32 b c)) % 4294967296) % 4294967296) = Value.int .u32 (rnd k w ⟨a, b, c, d, e, f, g, h⟩).a := by
  simp only [rnd, pI, qI]
theorem rnd_e (k w a b c d e f g h : Int) : Value.int .u32 ((d + (h + bits .xor .u32 (bits .xor .u32 (rorI e 6) (rorI e 11)) (rorI e 25) + bits .xor .u32 (bits .and .u32 e f) (bits .and .u32 (bits .xor .u32 4294967295 e) g) + k + w) % 4294967296) % 4294967296)
    = Value.int .u32 (rnd k w ⟨a, b, c, d, e, f, g, h⟩).e := by
  simp only [rnd, pI]
theorem rnd_u (k w : Int) {s : St} (h : s.U) : (rnd k w s).U := by
  obtain ⟨h1, h2, h3, h4, h5, h6, h7, h8⟩ := h
  exact ⟨mod_u32 _, h1, h2, h3, mod_u32 _, h5, h6, h7⟩
theorem rnds_u (ws : List Int) {s : St} (h : s.U) (j : Nat) : (rnds ws s j).U := by
  induction j with
  | zero => exact h
  | succ j ih => exact rnd_u _ _ ih
theorem plus_u (s t : St) : (plus s t).U := ⟨mod_u32 _, mod_u32 _, mod_u32 _, mod_u32 _, mod_u32 _, mod_u32 _, mod_u32 _, mod_u32 _⟩
theorem blockSt_u (bs : List UInt8) (s : St) : (blockSt bs s).U := plus_u _ _

/-- the program's numbers K lie in block 0 -/
def KOK (w : World) : Prop := ∀ i, i < 64 → w.cell? ⟨0, i, none⟩ = some (.int .u32 (KL.getD i 0))
theorem KOK.pos {w : World} (h : KOK w) : 0 < w.heap.size := World.block_lt_of_cell? w _ (h 0 (by omega))
theorem KOK.keep {w w' : World} (h : KOK w) (hk : ∀ p : Addr, p.block < w.heap.size → p.block = 0 → w'.cell? p = w.cell? p) : KOK w' := fun i hi => (hk _ h.pos rfl).trans (h i hi)
theorem KOK.below {w w' : World} (h : KOK w) {B : Nat} (hb : Below B w w') (hB : 0 < B) : KOK w' := h.keep fun p _ h0 => hb.cell (by omega)

/-- only block r has turned, and what is new -/
def Turn (w w' : World) (r : Nat) : Prop := w.grownBy w' (some r)
theorem Turn.refl (w : World) (r : Nat) : Turn w w r := World.grownBy.refl w _
theorem Turn.trans {a b c : World} {r : Nat} (h : Turn a b r) (k : Turn b c r) : Turn a c r := World.grownBy.trans h k
theorem Turn.of_below {a b : World} {r : Nat} (h : Below a.heap.size a b) : Turn a b r := ⟨h.os, h.tape, h.output, h.size, fun i hi _ => h.block i hi⟩
theorem Turn.below {a b : World} {r B : Nat} (h : Turn a b r) (hB : B ≤ r) (hr : r < a.heap.size) : Below B a b := ⟨h.os, h.tape, h.output, h.size, fun k hk => h.block k (by omega) fun e => by injection e with e; omega⟩
theorem Turn.cell {a b : World} {r : Nat} (h : Turn a b r) {p : Addr} (hp : p.block < a.heap.size) (hne : p.block ≠ r) : b.cell? p = a.cell? p := h.cell_far p hp fun e => hne (by injection e)
theorem Turn.setCell {a b : World} {r i : Nat} {v : Value} (h : Turn a b r) : Turn a (b.setCell ⟨r, i, none⟩ v) r :=
  h.trans ⟨rfl, rfl, rfl, by simp [World.setCell], fun k _ hne => Below.heap_setCell b ⟨r, i, none⟩ v k fun e => hne (by rw [e])⟩
theorem Turn.drewN {a b : World} {r : Nat} (h : Turn a b r) (k : Nat) : Turn a (b.drewN k) r := ⟨h.os, h.tape, h.output, h.size, h.block⟩
theorem Turn.size {a b : World} {r : Nat} (h : Turn a b r) : a.heap.size ≤ b.heap.size := World.grownBy.size h
theorem KOK.turn {w w' : World} {r : Nat} (h : KOK w) (ht : Turn w w' r) (hr : r ≠ 0) : KOK w' := h.keep fun p hp h0 => ht.cell hp (by omega)
end Go.Proofs.YtfolmglafnfcbaaDoor
