/- Values of package codec as trees, and where they lie in memory. -/
import Derived.Test.YtbcaanadmfnegaaProg
import Derived.WalkKit
import Derived.WalkSpells
import Derived.WalkLawsBesides
import Derived.Lib.Hide
import Derived.Deep.Slices
import Derived.Deep.Fields
namespace Go.Proofs.Ytbcaanadmfnegaa
open Go.RowKit

/-- A value as a tree: Kind, N, S, L. -/
inductive V where
  | mk (k n : Int) (s : ByteArray) (l : List V)

theorem V.ind {P : V → Prop} (h : ∀ k n s l, (∀ x ∈ l, P x) → P (.mk k n s l)) (v : V) : P v :=
  V.rec (motive_1 := P) (motive_2 := fun l => ∀ x ∈ l, P x) (fun k n s l ih => h k n s l ih) (fun x hx => by cases hx)
    (fun a l ha hl x hx => by
      cases hx with
      | head => exact ha
      | tail _ hx => exact hl x hx) v

def I64 (n : Int) : Prop := -9223372036854775808 ≤ n ∧ n ≤ 9223372036854775807

mutual
/-- the Go value v reads as the tree, all of its memory lying below block B -/
def Rd (w : World) (B : Nat) : V → Value → Prop
  | .mk k n s l, v => ∃ (A : Option Addr) (cap : Nat), v = .agg #[.int .i64 k, .int .i64 n, .string s, .slice A l.length cap] ∧ I64 k ∧ I64 n ∧ s.size ≤ maxLen ∧ l.length ≤ cap ∧ cap ≤ maxLen ∧ RdAll w B l A 0
/-- the elements from index i on -/
def RdAll (w : World) (B : Nat) : List V → Option Addr → Nat → Prop
  | [], _, _ => True
  | x :: r, A, i => (∃ (b o : Nat) (x0 x1 x2 x3 : Value), A = some ⟨b, o, none⟩ ∧ b < B ∧ w.cell? ⟨b, o + i * 4, none⟩ = some x0 ∧ w.cell? ⟨b, o + i * 4 + 1, none⟩ = some x1 ∧
      w.cell? ⟨b, o + i * 4 + 2, none⟩ = some x2 ∧ w.cell? ⟨b, o + i * 4 + 3, none⟩ = some x3 ∧ Rd w B x (.agg #[x0, x1, x2, x3])) ∧ RdAll w B r A (i + 1)
end

theorem RdAll.at_ {w : World} {B : Nat} {A : Option Addr} : ∀ (l : List V) (i j : Nat) (x : V), RdAll w B l A i → l[j]? = some x →
    ∃ (b o : Nat) (x0 x1 x2 x3 : Value), A = some ⟨b, o, none⟩ ∧ b < B ∧ w.cell? ⟨b, o + (i + j) * 4, none⟩ = some x0 ∧ w.cell? ⟨b, o + (i + j) * 4 + 1, none⟩ = some x1 ∧
      w.cell? ⟨b, o + (i + j) * 4 + 2, none⟩ = some x2 ∧ w.cell? ⟨b, o + (i + j) * 4 + 3, none⟩ = some x3 ∧ Rd w B x (.agg #[x0, x1, x2, x3])
  | [], _, _, _, _, h => by simp at h
  | y :: r, i, 0, x, h, hx => by
    obtain ⟨h1, _⟩ := h
    simp at hx
    subst hx
    simpa using h1
  | y :: r, i, j + 1, x, h, hx => by
    obtain ⟨_, h2⟩ := h
    have := RdAll.at_ r (i + 1) j x h2 (by simpa using hx)
    rwa [show i + 1 + j = i + (j + 1) by omega] at this

/-- what the reading of a list's elements says of one: the form in which the walks want it -/
theorem RdAll.get {w : World} {B : Nat} {A : Option Addr} {l : List V} (h : RdAll w B l A 0) {j : Nat} (hj : j < l.length) :
    ∃ (b o : Nat) (x0 x1 x2 x3 : Value), A = some ⟨b, o, none⟩ ∧ b < B ∧ w.cell? ⟨b, o + j * 4, none⟩ = some x0 ∧ w.cell? ⟨b, o + j * 4 + 1, none⟩ = some x1 ∧
      w.cell? ⟨b, o + j * 4 + 2, none⟩ = some x2 ∧ w.cell? ⟨b, o + j * 4 + 3, none⟩ = some x3 ∧ Rd w B (l[j]) (.agg #[x0, x1, x2, x3]) := by
  have := RdAll.at_ l 0 j l[j] h (List.getElem?_eq_getElem hj)
  simpa using this

/-- an element with its fields written out -/
theorem RdAll.open_ {w : World} {B : Nat} {A : Option Addr} {l : List V} (h : RdAll w B l A 0) {j : Nat} (hj : j < l.length) :
    ∃ (b o : Nat) (k n : Int) (s : ByteArray) (m : List V) (A' : Option Addr) (cap : Nat), A = some ⟨b, o, none⟩ ∧ b < B ∧ w.cell? ⟨b, o + j * 4, none⟩ = some (.int .i64 k) ∧
      w.cell? ⟨b, o + j * 4 + 1, none⟩ = some (.int .i64 n) ∧ w.cell? ⟨b, o + j * 4 + 2, none⟩ = some (.string s) ∧ w.cell? ⟨b, o + j * 4 + 3, none⟩ = some (.slice A' m.length cap) ∧
      l[j]? = some (.mk k n s m) ∧ Rd w B (.mk k n s m) (.agg #[.int .i64 k, .int .i64 n, .string s, .slice A' m.length cap]) := by
  obtain ⟨b, o, x0, x1, x2, x3, hA, hb, c0, c1, c2, c3, hr⟩ := h.get hj
  obtain ⟨k, n, s, m, hx⟩ : ∃ k n s m, l[j] = V.mk k n s m := by
    cases hx : l[j] with
    | mk k n s m => exact ⟨k, n, s, m, rfl⟩
  rw [hx] at hr
  have hr' := hr
  obtain ⟨A', cap, he, _⟩ := hr
  simp only [Value.agg.injEq] at he
  have e0 : x0 = .int .i64 k := Option.some.inj (congrArg (fun t : Array Value => t[0]?) he)
  have e1 : x1 = .int .i64 n := Option.some.inj (congrArg (fun t : Array Value => t[1]?) he)
  have e2 : x2 = .string s := Option.some.inj (congrArg (fun t : Array Value => t[2]?) he)
  have e3 : x3 = .slice A' m.length cap := Option.some.inj (congrArg (fun t : Array Value => t[3]?) he)
  subst e0 e1 e2 e3
  exact ⟨b, o, k, n, s, m, A', cap, hA, hb, c0, c1, c2, c3, by rw [List.getElem?_eq_getElem hj, hx], hr'⟩

theorem RdAll.mk_ {w : World} {B : Nat} {A : Option Addr} : ∀ (l : List V) (i : Nat), (∀ j x, l[j]? = some x →
    ∃ (b o : Nat) (x0 x1 x2 x3 : Value), A = some ⟨b, o, none⟩ ∧ b < B ∧ w.cell? ⟨b, o + (i + j) * 4, none⟩ = some x0 ∧ w.cell? ⟨b, o + (i + j) * 4 + 1, none⟩ = some x1 ∧
      w.cell? ⟨b, o + (i + j) * 4 + 2, none⟩ = some x2 ∧ w.cell? ⟨b, o + (i + j) * 4 + 3, none⟩ = some x3 ∧ Rd w B x (.agg #[x0, x1, x2, x3])) → RdAll w B l A i
  | [], _, _ => trivial
  | y :: r, i, h => ⟨by simpa using h 0 y rfl, RdAll.mk_ r (i + 1) fun j x hx => by
      have := h (j + 1) x (by simpa using hx)
      rwa [show i + (j + 1) = i + 1 + j by omega] at this⟩

/-- a reading is kept where its memory is -/
theorem Rd.keep {w w' : World} {B B' : Nat} (hB : B ≤ B') (hk : ∀ p : Addr, p.block < B → w'.cell? p = w.cell? p) (v : V) : ∀ x, Rd w B v x → Rd w' B' v x := by
  induction v using V.ind with
  | h k n s l ih =>
    rintro x ⟨A, cap, rfl, h1, h2, h3, h4, h5, h6⟩
    refine ⟨A, cap, rfl, h1, h2, h3, h4, h5, RdAll.mk_ l 0 fun j y hy => ?_⟩
    obtain ⟨b, o, x0, x1, x2, x3, hA, hb, c0, c1, c2, c3, hr⟩ := RdAll.at_ l 0 j y h6 hy
    exact ⟨b, o, x0, x1, x2, x3, hA, by omega, by rw [hk _ hb]; exact c0, by rw [hk _ hb]; exact c1, by rw [hk _ hb]; exact c2, by rw [hk _ hb]; exact c3, ih y (List.mem_of_getElem? hy) _ hr⟩

theorem RdAll.keep {w w' : World} {B B' : Nat} (hB : B ≤ B') (hk : ∀ p : Addr, p.block < B → w'.cell? p = w.cell? p) {l : List V} {A : Option Addr} (h : RdAll w B l A 0) : RdAll w' B' l A 0 :=
  RdAll.mk_ l 0 fun j y hy => by
    obtain ⟨b, o, x0, x1, x2, x3, hA, hb, c0, c1, c2, c3, hr⟩ := RdAll.at_ l 0 j y h hy
    exact ⟨b, o, x0, x1, x2, x3, hA, by omega, by rw [hk _ hb]; exact c0, by rw [hk _ hb]; exact c1, by rw [hk _ hb]; exact c2, by rw [hk _ hb]; exact c3, Rd.keep hB hk y _ hr⟩

theorem Rd.below {w w' : World} {B B' : Nat} {v : V} {x : Value} (h : Rd w B v x) (hb : Below B w w') (hB : B ≤ B') : Rd w' B' v x := Rd.keep hB (fun _ hp => hb.cell hp) v x h
theorem RdAll.below {w w' : World} {B B' : Nat} {l : List V} {A : Option Addr} (h : RdAll w B l A 0) (hb : Below B w w') (hB : B ≤ B') : RdAll w' B' l A 0 := RdAll.keep hB (fun _ hp => hb.cell hp) h

theorem Rd.mem {w : World} {B : Nat} {k n : Int} {s : ByteArray} {l : List V} {x : Value} (h : Rd w B (.mk k n s l) x) {y : V} (hy : y ∈ l) : ∃ z, Rd w B y z := by
  obtain ⟨A, cap, _, _, _, _, _, _, hl⟩ := h
  obtain ⟨j, hj, rfl⟩ := List.getElem_of_mem hy
  obtain ⟨_, _, _, _, _, _, _, _, _, _, _, _, hr⟩ := hl.get hj
  exact ⟨_, hr⟩
theorem Rd.drew {w : World} {B : Nat} {v : V} {x : Value} (h : Rd w B v x) : Rd w.drew B v x := Rd.keep (w := w) (w' := w.drew) (Nat.le_refl B) (fun _ _ => rfl) v x h

def V.kind : V → Int | .mk k _ _ _ => k
def V.list : V → List V | .mk _ _ _ l => l
end Go.Proofs.Ytbcaanadmfnegaa
