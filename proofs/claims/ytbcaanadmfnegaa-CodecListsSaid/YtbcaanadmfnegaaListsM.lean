/- What CodecLists needs: the list of zeros, the check of a list, rows of two types. -/
import Derived.Test.YtbcaanadmfnegaaInv
import Derived.Test.YtbcaanadmfnegaaOpenB
namespace Go.Proofs.Ytbcaanadmfnegaa
open Go.RowKit

/-- an Encode that accepts leaves a row of its own -/
def EncOwn (w : World) (v : V) (N : Nat) (e : Ending) (w' : World) : Prop :=
  ∃ g cap, e = .returned (.tuple #[.slice (some ⟨g, 0, none⟩) N cap, .int .i64 0]) ∧ Below w.heap.size w w' ∧ Own w' w.heap.size (.slice (some ⟨g, 0, none⟩) N cap) v.enc ∧ RdB w' w'.heap.size (some ⟨g, 0, none⟩) N v.enc ∧ N ≤ cap ∧ cap ≤ maxLen
theorem Encoded.own {w w' : World} {v : V} {e : Ending} (h : Encoded w v e w') (hc : v.check = 0) {N : Nat} (hN : N = v.enc.length) : EncOwn w v N e w' := by
  obtain ⟨g, cap, rfl, hb, hr, h1, h2⟩ := h.yes hc hN
  obtain ⟨_, ⟨_, g', cap', N', he, _, _, hO⟩ | ⟨hbad, _⟩⟩ := h
  · simp only [Ending.returned.injEq, Value.tuple.injEq] at he
    have he' : Value.slice (some ⟨g, 0, none⟩) N cap = Value.slice (some ⟨g', 0, none⟩) N' cap' := Option.some.inj (congrArg (fun t : Array Value => t[0]?) he)
    rw [← he'] at hO
    exact ⟨g, cap, rfl, hb, hO, hr, h1, h2⟩
  · exact absurd hc hbad
theorem encode_own (v : V) (w : World) (B : Nat) (x : Value) (hB : B ≤ w.heap.size) (hr : Rd w B v x) (hbk : v.bulk ≤ 1099511627776) (hc : v.check = 0) {N : Nat} (hN : N = v.enc.length) : Calls Try.prog 12 #[x] w (EncOwn w v N) :=
  (encode_any v w B x hB hr hbk).mono fun _ _ h => h.own hc hN

/-- rows of two types are apart -/
theorem rows_apart {w : World} {b1 b2 : Nat} {e1 e2 : TypeId} {s1 s2 n1 n2 : Nat} {v1 v2 : Value} {xs1 xs2 : List Value} (h1 : w.ownsRow b1 e1 s1 v1 n1 xs1) (h2 : w.ownsRow b2 e2 s2 v2 n2 xs2) (hne : e1 ≠ e2) : v1.ownBlock = none ∨ v1.ownBlock ≠ v2.ownBlock := by
  rcases h1.2 with ⟨rfl, _⟩ | ⟨g1, c1, r1, rfl, _, q1, _⟩
  · exact .inl rfl
  · rcases h2.2 with ⟨rfl, _⟩ | ⟨g2, c2, r2, rfl, _, q2, _⟩
    · right; intro e; cases e
    · right
      intro e
      have e' : g1 = g2 := Option.some.inj e
      rw [e', q2] at q1
      injection q1 with q1
      injection q1 with _ q1
      exact hne q1.symm
theorem ownsRow_below {w w' : World} {base : Nat} {e : TypeId} {size : Nat} {v : Value} {n : Nat} {xs : List Value} (h : w.ownsRow base e size v n xs) (hb : Below w.heap.size w w') : w'.ownsRow base e size v n xs :=
  h.kept (row := none) ⟨hb.os, hb.tape, hb.output, hb.size, fun i hi _ => hb.block i hi⟩ (by
    cases h' : v.ownBlock with
    | none => exact .inl rfl
    | some g => right; intro e; cases e)

def zv : V := .mk 1 0 ⟨#[]⟩ []
def zfour : List Value := [.int .i64 1, .int .i64 0, .string ⟨#[]⟩, .slice none 0 0]
def zrow : Nat → List Value
  | 0 => []
  | j + 1 => zrow j ++ zfour
theorem zrow_len : ∀ j, (zrow j).length = j * 4
  | 0 => rfl
  | j + 1 => by rw [zrow, List.length_append, zrow_len j]; simp [zfour]; omega
theorem zrow_at : ∀ (n j i : Nat), j < n → i < 4 → (zrow n)[j * 4 + i]? = zfour[i]?
  | 0, j, i, h, _ => by omega
  | n + 1, j, i, h, hi => by
    rw [zrow]
    by_cases hj : j < n
    · rw [List.getElem?_append_left (by rw [zrow_len]; omega)]
      exact zrow_at n j i hj hi
    · have e : j = n := by omega
      subst e
      rw [List.getElem?_append_right (by rw [zrow_len]; omega), zrow_len]
      congr 1; omega
/-- the list of zeros reads as that -/
theorem rd_zeros {w : World} {base j : Nat} {v : Value} (h : w.ownsRow base 24 4 v j (zrow j)) : ∃ A c, v = .slice A j c ∧ Rd w w.heap.size (.mk 3 0 ⟨#[]⟩ (List.replicate j zv)) (.agg #[.int .i64 3, .int .i64 0, .string ⟨#[]⟩, .slice A j c]) := by
  rcases h.2 with ⟨rfl, h0⟩ | ⟨g, cap, cur, rfl, hg, hh, hn, hm, hs, hl⟩
  · subst h0
    exact ⟨none, 0, rfl, none, 0, rfl, by unfold I64; omega, by unfold I64; omega, by unfold maxLen; exact Nat.zero_le _, Nat.le_refl _, by unfold maxLen; omega, trivial⟩
  · refine ⟨some ⟨g, 0, none⟩, cap, rfl, some ⟨g, 0, none⟩, cap, by simp, by unfold I64; omega, by unfold I64; omega, by unfold maxLen; exact Nat.zero_le _, by simpa using hn, hm, RdAll.mk_ _ 0 fun i x hx => ?_⟩
    have hi : i < j := by
      have := (List.getElem?_eq_some_iff.1 hx).1
      simpa using this
    have hx' : x = zv := by
      have := List.mem_of_getElem? hx
      exact (List.mem_replicate.1 this).2
    subst hx'
    have hgl := (h.lt g rfl).2
    have cell : ∀ k, k < 4 → w.cell? ⟨g, 0 + (0 + i) * 4 + k, none⟩ = zfour[k]? := fun k hk => by
      obtain ⟨u, hu⟩ : ∃ u, zfour[k]? = some u := ⟨_, List.getElem?_eq_getElem (by simpa [zfour] using hk)⟩
      have hz := zrow_at j i k hi hk
      rw [hu] at hz ⊢
      have := h.cells rfl _ u hz
      rw [add_lit'] at this
      rwa [show 0 + (0 + i) * 4 + k = 0 + (i * 4 + k) by omega]
    refine ⟨g, 0, _, _, _, _, rfl, hgl, cell 0 (by omega), cell 1 (by omega), cell 2 (by omega), cell 3 (by omega), ?_⟩
    exact Rd.flat _ _ (by unfold I64; omega) (by unfold I64; omega) (by unfold maxLen; exact Nat.zero_le _)

theorem zeros_all : ∀ j, V.formAll (List.replicate j zv) = true ∧ V.depthAll (List.replicate j zv) = 0 ∧ (V.encAll (List.replicate j zv)).length = 2 * j ∧ V.bulkAll (List.replicate j zv) = 11 * j
  | 0 => by simp [V.formAll, V.depthAll, V.encAll, V.bulkAll]
  | j + 1 => by
    obtain ⟨a, b, c, d⟩ := zeros_all j
    rw [List.replicate_succ]
    refine ⟨by rw [V.formAll, a]; simp [zv, V.form, bareB, V.formAll], by rw [V.depthAll, b]; simp [zv, V.depth, V.depthAll], ?_, by rw [V.bulkAll, d]; simp [zv, V.bulk, V.bulkAll, ByteArray.size]; omega⟩
    rw [V.encAll, List.length_append, c]
    have : (V.enc zv).length = 2 := by rw [zv, enc_int_len]; simp [uform, digs]
    omega
theorem zeros_check (j : Nat) : V.check (.mk 3 0 ⟨#[]⟩ (List.replicate j zv)) = 0 := by
  obtain ⟨a, b, _, _⟩ := zeros_all j
  simp [V.check, V.form, bareB, a, V.depth, b]
theorem list_enc (l : List V) : V.enc (.mk 3 0 ⟨#[]⟩ l) = 3 :: (num l.length ++ V.encAll l) := by
  rw [V.enc, if_neg (by omega), if_neg (by omega)]
theorem list_enc_len {l : List V} (h : l.length ≤ 20) : (V.enc (.mk 3 0 ⟨#[]⟩ l)).length = 2 + (V.encAll l).length := by
  rw [list_enc, List.length_cons, List.length_append, num_length, digs_lt (by omega)]; omega
theorem list_enc_drop {l : List V} (h : l.length ≤ 20) : (V.enc (.mk 3 0 ⟨#[]⟩ l)).drop 2 = V.encAll l := by
  rw [list_enc, num, if_pos (by omega)]; rfl
theorem zeros_enc_len {j : Nat} (h : j ≤ 20) : (V.enc (.mk 3 0 ⟨#[]⟩ (List.replicate j zv))).length = 2 + 2 * j := by
  rw [list_enc_len (by simpa using h), (zeros_all j).2.2.1]
theorem list_bulk {l : List V} (h : fewAll l = true) (hl : l.length ≤ 20) : V.bulk (.mk 3 0 ⟨#[]⟩ l) ≤ 840011 := by
  have key : ∀ l : List V, (∀ x ∈ l, x.bulk ≤ 42000) → V.bulkAll l ≤ 42000 * l.length := by
    intro l
    induction l with
    | nil => intro _; simp [V.bulkAll]
    | cons y r ih =>
      intro h
      have h1 := h y (List.mem_cons_self ..)
      have h2 := ih fun x hx => h x (List.mem_cons_of_mem _ hx)
      rw [V.bulkAll, List.length_cons]; omega
  have := key l (fewAll_bulk h)
  rw [V.bulk]
  simp [ByteArray.size]
  omega
/-- the list of values that can be encoded: it can be, or is too deep -/
theorem depthAll_bd {m : Nat} : ∀ {l : List V}, (∀ x ∈ l, x.depth ≤ m) → V.depthAll l ≤ m
  | [], _ => Nat.zero_le _
  | y :: r, h => by
    rw [V.depthAll]
    have h1 := h y (List.mem_cons_self ..)
    have h2 := depthAll_bd (l := r) fun x hx => h x (List.mem_cons_of_mem _ hx)
    omega
theorem list_good {l : List V} (h : ∀ x ∈ l, x.check = 0) : V.check (.mk 3 0 ⟨#[]⟩ l) = 0 ∨ V.check (.mk 3 0 ⟨#[]⟩ l) = 2 := by
  have h1 : V.formAll l = true := (V.formAll_iff l).2 fun x hx => (V.check_ok (h x hx)).1
  unfold V.check
  rw [if_pos (by simp [V.form, bareB, h1])]
  split
  · exact .inr rfl
  · exact .inl rfl
theorem list_bad {l : List V} {x : V} (hx : x ∈ l) (h : x.check ≠ 0) : V.check (.mk 3 0 ⟨#[]⟩ l) ≠ 0 := fun hc => by
  obtain ⟨h1, h2⟩ := V.check_ok hc
  simp only [V.form, Bool.and_eq_true] at h1
  have h3 := (V.formAll_iff l).1 h1.2 x hx
  have h4 := depth_mem hx
  rw [V.depth, if_pos rfl] at h2
  apply h
  unfold V.check
  rw [if_pos h3, if_neg (by omega)]
theorem own_slice {w : World} {base n : Nat} {v : Value} {xs : List UInt8} (h : Own w base v xs) (hn : n = xs.length) : ∃ A c, v = .slice A n c ∧ RdB w w.heap.size A n xs ∧ n ≤ c := by
  have h' := h.2
  rcases h' with ⟨rfl, h0⟩ | ⟨g, cap, cur, rfl, hg, hh, h1, _⟩
  · have : n = 0 := by omega
    subst this
    exact ⟨none, 0, rfl, ⟨hn, fun h => absurd h (by omega)⟩, Nat.le_refl _⟩
  · subst hn
    exact ⟨_, cap, rfl, h.rdb rfl (h.lt g rfl).2, h1⟩
theorem rdB_tail {w : World} {B g N : Nat} {xs : List UInt8} (h : RdB w B (some ⟨g, 0, none⟩) N xs) (h2 : 2 ≤ N) : RdB w B (some ⟨g, 2, none⟩) (N - 2) (xs.drop 2) := by
  refine ⟨by rw [List.length_drop, ← h.1], fun hn => ?_⟩
  obtain ⟨b, o, e, hb, hc⟩ := h.2 (by omega)
  injection e with e
  injection e with e1 e2 e3
  subst e1; subst e2
  refine ⟨g, 2, rfl, hb, fun j u hu => ?_⟩
  rw [List.getElem?_drop] at hu
  have := hc _ u hu
  rwa [Nat.zero_add] at this
theorem rdB_zero {w : World} {B N : Nat} {A : Option Addr} {xs : List UInt8} (h : RdB w B A N xs) (h2 : N = 2) (A' : Option Addr) : RdB w B A' 0 (xs.drop 2) := by
  have := h.1
  refine ⟨by rw [List.length_drop]; omega, fun h => absurd h (by omega)⟩
end Go.Proofs.Ytbcaanadmfnegaa
