/- Contracts of the reader's integer, text, list, value, end. -/
import Derived.Test.YtbcaanadmfnegaaRnum
import Derived.Laws.IdiomStrings
import Derived.Laws.BytesString
import Derived.OwnWalk
import Derived.Laws.EntriesVeiled
import Derived.StillTailTactics
namespace Go.Proofs.Ytbcaanadmfnegaa
open Go.RowKit

/-- string(b) of readable bytes -/
theorem run_str {w : World} {B n : Nat} {A : Option Addr} {xs : List UInt8} (h : RdB w B A n xs) (c : Nat) :
    (convert 27 9 (.slice A n c)).run Try.prog w = .ok (.string ⟨xs.toArray⟩) w := by
  obtain ⟨h1, h2⟩ := h
  rcases Nat.eq_zero_or_pos n with h0 | h0
  · subst h0
    have hx : xs = [] := List.eq_nil_of_length_eq_zero h1.symm
    subst hx
    rw [run_convert_bytes_string w 27 9 _ _ 0 c Try.underlying27 Try.underlying5 Try.underlying9]
    cases A <;> simp [Conv.bytesToString, loadCells]
    all_goals rfl
  · obtain ⟨b, o, rfl, _, hc⟩ := h2 h0
    subst h1
    exact run_convert_bytes_back w 27 9 _ ⟨b, o, none⟩ c xs Try.underlying27 Try.underlying5 Try.underlying9 (fun j hj => by rw [add_lit']; exact hc j _ (List.getElem?_eq_getElem hj))

/-- a reading whose memory lies in the blocks from lo to hi -/
def RdI (w : World) (lo hi : Nat) (v : V) (x : Value) : Prop := ∀ w', (∀ p : Addr, lo ≤ p.block → p.block < hi → w'.cell? p = w.cell? p) → Rd w' hi v x
theorem RdI.rd {w : World} {lo hi : Nat} {v : V} {x : Value} (h : RdI w lo hi v x) : Rd w hi v x := h w fun _ _ _ => rfl
theorem RdI.keep {w w' : World} {lo hi lo' hi' : Nat} {v : V} {x : Value} (h : RdI w lo hi v x) (hl : lo' ≤ lo) (hh : hi ≤ hi') (hk : ∀ p : Addr, lo ≤ p.block → p.block < hi → w'.cell? p = w.cell? p) : RdI w' lo' hi' v x :=
  fun w2 h2 => Rd.keep (w := w2) (w' := w2) hh (fun _ _ => rfl) v x (h w2 fun p h3 h4 => (h2 p (by omega) (by omega)).trans (hk p h3 h4))

/-- reading a value: the depth that is left -/
def rlist (f : List UInt8 → Option (V × List UInt8)) : Nat → List UInt8 → Option (List V × List UInt8)
  | 0, bs => some ([], bs)
  | n + 1, bs => match f bs with
    | none => none
    | some (v, r) => match rlist f n r with
      | none => none
      | some (l, r') => some (v :: l, r')
def rint (bs : List UInt8) : Option (V × List UInt8) := match rnum 0 0 bs with
  | none => none
  | some (u, r) => some (.mk 1 (sform u) ⟨#[]⟩ [], r)
def rtext (bs : List UInt8) : Option (V × List UInt8) := match rnum 0 0 bs with
  | none => none
  | some (u, r) => if u ≤ r.length then some (.mk 2 0 ⟨(r.take u).toArray⟩ [], r.drop u) else none
def rlst (f : List UInt8 → Option (V × List UInt8)) (bs : List UInt8) : Option (V × List UInt8) := match rnum 0 0 bs with
  | none => none
  | some (u, r) => match rlist f u r with
    | none => none
    | some (l, r') => some (.mk 3 0 ⟨#[]⟩ l, r')
def rval : Nat → List UInt8 → Option (V × List UInt8)
  | _, [] => none
  | 0, b :: r => if b = 1 then rint r else if b = 2 then rtext r else none
  | d + 1, b :: r => if b = 1 then rint r else if b = 2 then rtext r else if b = 3 then rlst (rval d) r else none

/-- what reading a value leaves -/
def ValOut (w : World) (r B n : Nat) (o : Int) (res : Option (V × List UInt8)) (e : Ending) (w' : World) : Prop :=
  Turn w w' r ∧ (match res with
    | some (v, rest) => (∃ k m s l A cap, v = .mk k m s l ∧ e = .returned (.agg #[.int .i64 k, .int .i64 m, .string s, .slice A (List.length l) cap]) ∧ RdI w' w.heap.size w'.heap.size v (.agg #[.int .i64 k, .int .i64 m, .string s, .slice A (List.length l) cap])) ∧ ∃ A' n', Rdr w' r A' n' n' o ∧ RdB w' B A' n' rest ∧ n' ≤ n
    | none => e = .panicked failChain)

theorem rdi_flat (w : World) (lo hi : Nat) (k m : Int) (s : ByteArray) (hk : I64 k) (hm : I64 m) (hs : s.size ≤ maxLen) : RdI w lo hi (.mk k m s []) (.agg #[.int .i64 k, .int .i64 m, .string s, .slice none 0 0]) :=
  fun _ _ => ⟨none, 0, rfl, hk, hm, hs, Nat.le_refl _, by unfold maxLen; omega, trivial⟩

theorem Rdr.turn_alloc {w : World} {r n c : Nat} {A : Option Addr} {o : Int} (h : Rdr w r A n c o) (ob : Obj) : Rdr (w.alloc ob) r A n c o := (Below.heap_alloc w ob r h.lt).trans h
theorem Rdr.below {w w' : World} {r n c : Nat} {A : Option Addr} {o : Int} (h : Rdr w r A n c o) (hb : Below w.heap.size w w') : Rdr w' r A n c o := (hb.block r h.lt).trans h

theorem Turn.set_new {w w1 : World} {r : Nat} (h : Turn w w1 r) {p : Addr} (hp : w.heap.size ≤ p.block) (v : Value) : Turn w (w1.setCell p v) r :=
  ⟨h.os, h.tape, h.output, by simpa [World.setCell] using h.size, fun k hk hne => (Below.heap_setCell w1 p v k (by omega)).trans (h.block k hk hne)⟩
theorem Rdr.set {w : World} {r n c : Nat} {A : Option Addr} {o : Int} (h : Rdr w r A n c o) {p : Addr} (hp : r ≠ p.block) (v : Value) : Rdr (w.setCell p v) r A n c o := (Below.heap_setCell w p v r hp).trans h
theorem RdB.set {w : World} {B n : Nat} {A : Option Addr} {xs : List UInt8} (h : RdB w B A n xs) {p : Addr} (hp : B ≤ p.block) (v : Value) : RdB (w.setCell p v) B A n xs :=
  h.keep fun q hq => World.cell?_setCell_other w p q v fun e => by subst e; omega

set_option maxRecDepth 100000 in
set_option maxHeartbeats 1000000 in
theorem integer_any (r n c : Nat) (A : Option Addr) (o : Int) (B : Nat) (bs : List UInt8) (w : World) (h : Rdr w r A n c o) (hb : RdB w B A n bs) (hB : B ≤ r) (hn : n ≤ 1099511627776) (hc : n ≤ c) :
    Calls Try.prog 48 #[.pointer (some ⟨r, 0, none⟩)] w (ValOut w r B n o (rint bs)) := by
  have hr := h.lt
  have HN : Hid (∀ ob, Calls Try.prog 59 #[.pointer (some ⟨r, 0, none⟩)] (w.alloc ob) (NumOut (w.alloc ob) r B n o (rnum 0 0 bs))) :=
    fun ob => numeral_any r n c A o B bs (w.alloc ob) (h.turn_alloc ob) (hb.below (((Below.refl _ _).alloc (Nat.le_refl _) ob).mono (by omega))) hB hn hc
  have HT : Hid (∀ ob, Turn w (w.alloc ob) r) := fun ob => Turn.of_below ((Below.refl _ _).alloc (Nat.le_refl _) ob)
  clear h hb
  cases hres : rnum 0 0 bs with
  | none =>
    rw [hres] at HN
    have HX : Hid (rint bs = none) := by unfold Hid; rw [rint, hres]
    clear hres
    go_enter Try.func48, Try.ntmps48
    go_wp2_with fail
    refine (HN.out _).mono ?_
    rintro e w1 ⟨ht, rfl⟩
    refine ⟨rfl, (HT.out _).trans ht, ?_⟩
    rw [HX.out]
  | some p =>
    obtain ⟨u, rest⟩ := p
    rw [hres] at HN
    have HX : Hid (rint bs = some (.mk 1 (sform u) ⟨#[]⟩ [], rest)) := by unfold Hid; rw [rint, hres]
    clear hres
    go_enter Try.func48, Try.ntmps48
    go_wp2_with fail
    refine (HN.out _).mono ?_
    rintro e w1 ⟨ht, rfl, hu, A', n', h1, h2, h3⟩
    have hne : w.heap.size ≠ r := by omega
    have q0 : w1.cell? ⟨w.heap.size, 0, none⟩ = some (.int .i64 0) := by rw [ht.cell (p := ⟨w.heap.size, 0, none⟩) (by simp) hne]; simp
    have q1 : w1.cell? ⟨w.heap.size, 1, none⟩ = some (.int .i64 0) := by rw [ht.cell (p := ⟨w.heap.size, 1, none⟩) (by simp) hne]; simp
    have q2 : w1.cell? ⟨w.heap.size, 2, none⟩ = some (.string ⟨#[]⟩) := by rw [ht.cell (p := ⟨w.heap.size, 2, none⟩) (by simp) hne]; simp
    have q3 : w1.cell? ⟨w.heap.size, 3, none⟩ = some (.slice none 0 0) := by rw [ht.cell (p := ⟨w.heap.size, 3, none⟩) (by simp) hne]; simp
    have p0 : ∀ i, w1.frozen? ⟨w.heap.size, i, none⟩ = false := fun i => by rw [ht.frozen_far ⟨w.heap.size, i, none⟩ (by simp) (by intro e; injection e with e; exact hne e)]; simp
    have HTT := Lib.hid ((HT.out _).trans ht)
    have H1 := Lib.hid h1
    have H2 := Lib.hid h2
    clear ht h1 h2
    go_wp2_with fail
    refine (signed_any (u : Int) (by omega) (by omega) _).mono ?_
    rintro e w2 ⟨rfl, rfl⟩
    go_wp2_with fail
    refine bodyPost_ret (v := .agg #[.int .i64 1, .int .i64 (sform u), .string ⟨#[]⟩, .slice none 0 0]) (by simp [results, Try.results48, go_sem, q0, q1, q2, q3]) rfl ⟨?_, ?_⟩
    · exact (((HTT.out.set_new (Nat.le_refl _) _).set_new (Nat.le_refl _) _).set_new (Nat.le_refl _) _).set_new (Nat.le_refl _) _
    · rw [HX.out]
      have hu2 := sform_bd (u : Int) (by omega) (by omega)
      exact ⟨⟨1, sform u, ⟨#[]⟩, [], none, 0, rfl, rfl, rdi_flat _ _ _ _ _ _ (by unfold I64; omega) hu2 (by unfold maxLen; exact Nat.zero_le _)⟩, A', n', (((H1.out.set (by exact Ne.symm hne) _).set (by exact Ne.symm hne) _).set (by exact Ne.symm hne) _).set (by exact Ne.symm hne) _, (((H2.out.set (by show B ≤ w.heap.size; omega) _).set (by show B ≤ w.heap.size; omega) _).set (by show B ≤ w.heap.size; omega) _).set (by show B ≤ w.heap.size; omega) _, h3⟩

theorem take_le (r n c : Nat) (A : Option Addr) (o : Int) (m B : Nat) (bs : List UInt8) (w : World) (h : Rdr w r A n c o) (hb : RdB w B A n bs) (hB : B ≤ r) (hn : n ≤ 1099511627776) (hm : m ≤ bs.length) (hc : n ≤ c) :
    Calls Try.prog 42 #[.pointer (some ⟨r, 0, none⟩), .int .u64 (m : Int)] w (Took w r B A n o bs m) :=
  take_yes r n c A o m B bs w h hb hB hn (by have := hb.1; omega) hc

set_option maxRecDepth 100000 in
set_option maxHeartbeats 1000000 in
theorem text_any (r n c : Nat) (A : Option Addr) (o : Int) (B : Nat) (bs : List UInt8) (w : World) (h : Rdr w r A n c o) (hb : RdB w B A n bs) (hB : B ≤ r) (hn : n ≤ 1099511627776) (hc : n ≤ c) :
    Calls Try.prog 51 #[.pointer (some ⟨r, 0, none⟩)] w (ValOut w r B n o (rtext bs)) := by
  have hr := h.lt
  have HN : Hid (∀ ob, Calls Try.prog 59 #[.pointer (some ⟨r, 0, none⟩)] (w.alloc ob) (NumOut (w.alloc ob) r B n o (rnum 0 0 bs))) :=
    fun ob => numeral_any r n c A o B bs (w.alloc ob) (h.turn_alloc ob) (hb.below (((Below.refl _ _).alloc (Nat.le_refl _) ob).mono (by omega))) hB hn hc
  have HT : Hid (∀ ob, Turn w (w.alloc ob) r) := fun ob => Turn.of_below ((Below.refl _ _).alloc (Nat.le_refl _) ob)
  clear h hb
  cases hres : rnum 0 0 bs with
  | none =>
    rw [hres] at HN
    have HX : Hid (rtext bs = none) := by unfold Hid; rw [rtext, hres]
    clear hres
    go_enter Try.func51, Try.ntmps51
    go_wp2_with fail
    refine (HN.out _).mono ?_
    rintro e w1 ⟨ht, rfl⟩
    refine ⟨rfl, (HT.out _).trans ht, ?_⟩
    rw [HX.out]
  | some p =>
    obtain ⟨u, rest⟩ := p
    rw [hres] at HN
    have hne : w.heap.size ≠ r := by omega
    by_cases hul : u ≤ rest.length
    · have HX : Hid (rtext bs = some (.mk 2 0 ⟨(rest.take u).toArray⟩ [], rest.drop u)) := by unfold Hid; rw [rtext, hres]; simp only; rw [if_pos hul]
      clear hres
      go_enter Try.func51, Try.ntmps51
      go_wp2_with fail
      refine (HN.out _).mono ?_
      rintro e w1 ⟨ht, rfl, hu, A', n', h1, h2, h3⟩
      have q0 : w1.cell? ⟨w.heap.size, 0, none⟩ = some (.int .i64 0) := by rw [ht.cell (p := ⟨w.heap.size, 0, none⟩) (by simp) hne]; simp
      have q1 : w1.cell? ⟨w.heap.size, 1, none⟩ = some (.int .i64 0) := by rw [ht.cell (p := ⟨w.heap.size, 1, none⟩) (by simp) hne]; simp
      have q2 : w1.cell? ⟨w.heap.size, 2, none⟩ = some (.string ⟨#[]⟩) := by rw [ht.cell (p := ⟨w.heap.size, 2, none⟩) (by simp) hne]; simp
      have q3 : w1.cell? ⟨w.heap.size, 3, none⟩ = some (.slice none 0 0) := by rw [ht.cell (p := ⟨w.heap.size, 3, none⟩) (by simp) hne]; simp
      have p0 : ∀ i, w1.frozen? ⟨w.heap.size, i, none⟩ = false := fun i => by rw [ht.frozen_far ⟨w.heap.size, i, none⟩ (by simp) (by intro e; injection e with e; exact hne e)]; simp
      have hz1 : w.heap.size < w1.heap.size := World.block_lt_of_cell? w1 _ q0
      have HTT := Lib.hid ((HT.out _).trans ht)
      have H1 := Lib.hid h1
      have H2 := Lib.hid h2
      clear ht h1 h2
      go_wp2_with fail
      refine (take_le r n' n' A' o u B rest _ H1.out H2.out hB (by omega) hul (Nat.le_refl _)).mono ?_
      rintro e w2 ⟨rfl, A2, k1, k2, k3, k4⟩
      have t0 : w2.cell? ⟨w.heap.size, 0, none⟩ = some (.int .i64 0) := (k4.cell (p := ⟨w.heap.size, 0, none⟩) hz1 hne).trans q0
      have t1 : w2.cell? ⟨w.heap.size, 1, none⟩ = some (.int .i64 0) := (k4.cell (p := ⟨w.heap.size, 1, none⟩) hz1 hne).trans q1
      have t2 : w2.cell? ⟨w.heap.size, 2, none⟩ = some (.string ⟨#[]⟩) := (k4.cell (p := ⟨w.heap.size, 2, none⟩) hz1 hne).trans q2
      have t3 : w2.cell? ⟨w.heap.size, 3, none⟩ = some (.slice none 0 0) := (k4.cell (p := ⟨w.heap.size, 3, none⟩) hz1 hne).trans q3
      have u0 : ∀ i, w2.frozen? ⟨w.heap.size, i, none⟩ = false := fun i => (k4.frozen_far ⟨w.heap.size, i, none⟩ hz1 (by intro e; injection e with e; exact hne e)).trans (p0 i)
      have hcv := run_str k3 u
      have HT2 := Lib.hid (HTT.out.trans k4)
      have K1 := Lib.hid k1
      have K2 := Lib.hid k2
      have hul2 : (rest.take u).toArray.size ≤ 1099511627776 := by have := H2.out.1; simp; omega
      clear k1 k2 k3 k4 q0 q1 q2 q3 p0
      go_wp2_with fail
      refine bodyPost_ret (v := .agg #[.int .i64 2, .int .i64 0, .string ⟨(rest.take u).toArray⟩, .slice none 0 0]) (by simp [results, Try.results51, go_sem, t0, t1, t2, t3]) rfl ⟨?_, ?_⟩
      · exact (((HT2.out.set_new (Nat.le_refl _) _).set_new (Nat.le_refl _) _).set_new (Nat.le_refl _) _).set_new (Nat.le_refl _) _
      · rw [HX.out]
        exact ⟨⟨2, 0, _, [], none, 0, rfl, rfl, rdi_flat _ _ _ _ _ _ (by unfold I64; omega) (by unfold I64; omega) (by unfold maxLen; show (rest.take u).toArray.size ≤ _; omega)⟩, A2, n' - u, (((K1.out.set (by exact Ne.symm hne) _).set (by exact Ne.symm hne) _).set (by exact Ne.symm hne) _).set (by exact Ne.symm hne) _, (((K2.out.set (by show B ≤ w.heap.size; omega) _).set (by show B ≤ w.heap.size; omega) _).set (by show B ≤ w.heap.size; omega) _).set (by show B ≤ w.heap.size; omega) _, by omega⟩
    · have HX : Hid (rtext bs = none) := by unfold Hid; rw [rtext, hres]; simp only; rw [if_neg hul]
      clear hres
      go_enter Try.func51, Try.ntmps51
      go_wp2_with fail
      refine (HN.out _).mono ?_
      rintro e w1 ⟨ht, rfl, hu, A', n', h1, h2, h3⟩
      have HTT := Lib.hid ((HT.out _).trans ht)
      have H1 := Lib.hid h1
      have hnu : n' < u := by have := h2.1; omega
      clear ht h1 h2
      go_wp2_with fail
      refine (take_no r n' n' A' o u _ H1.out (by omega) hnu (by omega)).mono ?_
      rintro e w2 ⟨rfl, rfl⟩
      refine ⟨rfl, HTT.out, ?_⟩
      rw [HX.out]

set_option maxRecDepth 100000 in
set_option maxHeartbeats 1000000 in
theorem end_any (r n c : Nat) (A : Option Addr) (o : Int) (w : World) (h : Rdr w r A n c o) (hn : n ≤ 1099511627776) :
    Calls Try.prog 34 #[.pointer (some ⟨r, 0, none⟩)] w fun e w' => w = w' ∧ e = if n = 0 then .returned (.tuple #[]) else .panicked failChain := by
  have h0 := h.cell0
  by_cases h00 : n = 0
  · subst h00
    go_enter Try.func34, Try.ntmps34
    go_wp2_with fail
    go_end0
    exact ⟨rfl, rfl⟩
  · have hp : 0 < n := by omega
    have HP := Lib.hid h00
    clear h00
    go_enter Try.func34, Try.ntmps34
    go_wp2_with fail
    refine (fail_any _).mono ?_
    rintro e w2 ⟨rfl, rfl⟩
    refine ⟨rfl, rfl, ?_⟩
    rw [if_neg HP.out]
end Go.Proofs.Ytbcaanadmfnegaa
