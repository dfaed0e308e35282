/- Appending to a row of bytes that the call owns; writeNumeral. -/
import Derived.Test.YtbcaanadmfnegaaSize
import Derived.Deep.AppendLies
import Derived.Deep.AppendSrc
import Derived.Maps.AppendAt
import Derived.OwnWalk
import Derived.Laws.EntriesVeiled
namespace Go.Proofs.Ytbcaanadmfnegaa
open Go.RowKit

def bytesV (l : List UInt8) : List Value := l.map fun b => Value.int .u8 b.toNat
theorem bytesV_append (a b : List UInt8) : bytesV (a ++ b) = bytesV a ++ bytesV b := List.map_append
theorem bytesV_length (a : List UInt8) : (bytesV a).length = a.length := List.length_map ..
theorem bytesV_one (b : UInt8) : bytesV [b] = [.int .u8 b.toNat] := rfl
theorem byteInfo : (Try.prog.info? 5).map (fun i => (i.zero, i.size, i.bytes)) = some (some (.int .u8 0), 1, 1) := by kernel_rfl

/-- the bytes xs lie in a row of the call's own -/
def Own (w : World) (base : Nat) (v : Value) (xs : List UInt8) : Prop := w.ownsRow base 5 1 v xs.length (bytesV xs)

theorem Own.of {w : World} {base n : Nat} {v : Value} {vs : List Value} {xs : List UInt8} (h : w.ownsRow base 5 1 v n vs) (hn : n = xs.length) (hv : vs = bytesV xs) : Own w base v xs := by
  subst hn hv
  exact h

/-- only the row of v has turned, and what is new: v' is that row, or a new one -/
def Turned (w w' : World) (v v' : Value) : Prop := w.grownBy w' v.ownBlock ∧ (v'.ownBlock = v.ownBlock ∨ ∃ g, v'.ownBlock = some g ∧ w.heap.size ≤ g)
theorem Turned.refl (w : World) (v : Value) : Turned w w v v := ⟨World.grownBy.refl w _, .inl rfl⟩
theorem Turned.trans {a b c : World} {u v x : Value} (h : Turned a b u v) (k : Turned b c v x) : Turned a c u x := by
  obtain ⟨h1, h2⟩ := h
  obtain ⟨k1, k2⟩ := k
  refine ⟨⟨k1.os.trans h1.os, k1.tape.trans h1.tape, k1.output.trans h1.output, Nat.le_trans h1.size k1.size, fun i hi hne => ?_⟩, ?_⟩
  · refine (k1.block i (Nat.lt_of_lt_of_le hi h1.size) fun e => ?_).trans (h1.block i hi hne)
    rcases h2 with h2 | ⟨g, h2, hg⟩
    · exact hne (e.trans h2)
    · rw [h2] at e
      injection e with e
      omega
  · rcases k2 with k2 | ⟨g, k2, hg⟩
    · rw [k2]; exact h2
    · exact .inr ⟨g, k2, Nat.le_trans h1.size hg⟩
theorem Turned.of_below {a b : World} {v : Value} (h : Below a.heap.size a b) : Turned a b v v := ⟨⟨h.os, h.tape, h.output, h.size, fun i hi _ => h.block i hi⟩, .inl rfl⟩
theorem Turned.cell {a b : World} {u v : Value} (h : Turned a b u v) {p : Addr} (hp : p.block < a.heap.size) (hne : u.ownBlock ≠ some p.block) : b.cell? p = a.cell? p :=
  h.1.cell_far p hp fun e => hne e.symm
theorem Turned.below {a b : World} {u v : Value} {B : Nat} (h : Turned a b u v) (hB : B ≤ a.heap.size) (hu : ∀ g, u.ownBlock = some g → B ≤ g) : Below B a b :=
  ⟨h.1.os, h.1.tape, h.1.output, h.1.size, fun k hk => h.1.block k (by omega) fun e => by have := hu k e.symm; omega⟩
theorem Turned.own {a b : World} {u v : Value} {B : Nat} (h : Turned a b u v) (hB : B ≤ a.heap.size) (hu : ∀ g, u.ownBlock = some g → B ≤ g) : ∀ g, v.ownBlock = some g → B ≤ g := by
  intro g hg
  rcases h.2 with e | ⟨g', e, hg'⟩
  · exact hu g (e ▸ hg)
  · rw [e] at hg
    injection hg with hg
    omega
theorem Own.below {w w' : World} {base : Nat} {v : Value} {xs : List UInt8} (h : Own w base v xs) (hb : Below w.heap.size w w') : Own w' base v xs := by
  obtain ⟨h1, h2⟩ := h
  refine ⟨h1, ?_⟩
  rcases h2 with h2 | ⟨g, cap, cur, hv, hg, hh, r⟩
  · exact .inl h2
  · refine .inr ⟨g, cap, cur, hv, hg, ?_, r⟩
    rcases Nat.lt_or_ge g w.heap.size with hlt | hge
    · rw [hb.block g hlt]; exact hh
    · rw [Array.getElem?_eq_none hge] at hh; cases hh

theorem Own.drew {w : World} {base : Nat} {v : Value} {xs : List UInt8} (h : Own w base v xs) : Own w.drew base v xs := h

/-- what a function that appends leaves -/
def Wrote (w : World) (base : Nat) (v : Value) (xs new : List UInt8) (e : Ending) (w' : World) : Prop :=
  ∃ (g cap N : Nat), e = .returned (.slice (some ⟨g, 0, none⟩) N cap) ∧ Hid (N = xs.length + new.length) ∧ Own w' base (.slice (some ⟨g, 0, none⟩) N cap) (xs ++ new) ∧ Turned w w' v (.slice (some ⟨g, 0, none⟩) N cap)
theorem Own.at_ {w : World} {base n : Nat} {v : Value} {xs : List UInt8} (h : Own w base v xs) (hn : n = xs.length) : w.ownsRow base 5 1 v n (bytesV xs) := by subst hn; exact h
theorem turned_app {w1 w2 : World} {v : Value} {g N cap : Nat} (hg : w1.grownBy w2 v.ownBlock) (hat : v.ownBlock = some g ∨ g = w1.heap.size) : Turned w1 w2 v (.slice (some ⟨g, 0, none⟩) N cap) := by
  refine ⟨hg, ?_⟩
  rcases hat with h | h
  · exact .inl h.symm
  · exact .inr ⟨g, rfl, by omega⟩

theorem u8_nat (m : Nat) (h : m < 256) : (Value.int .u8 (m : Int)) = .int .u8 ((UInt8.ofNat m).toNat : Int) := by
  congr 2
  simp
  omega

/-- the law of append gives it -/
theorem wrote_step {w w1 : World} {base n m : Nat} {v : Value} {xs new : List UInt8} {vs : List Value} {g cap H : Nat} {o : Obj}
    (hn : n = xs.length) (hm : m = new.length) (hv : vs = bytesV new) (hown : w1.ownsRow base 5 1 (.slice (some ⟨g, 0, none⟩) (n + m) cap) (n + m) (bytesV xs ++ vs)) (hg : (w.alloc o).grownBy w1 v.ownBlock) (hat : v.ownBlock = some g ∨ g = H) (hH : (w.alloc o).heap.size = H) :
    Own w1 base (.slice (some ⟨g, 0, none⟩) (n + m) cap) (xs ++ new) ∧ Turned w w1 v (.slice (some ⟨g, 0, none⟩) (n + m) cap) := by
  subst hn hm hv
  refine ⟨Own.of hown (by rw [List.length_append]) (bytesV_append _ _).symm, (Turned.of_below ((Below.refl _ _).alloc (Nat.le_refl _) o)).trans ⟨hg, ?_⟩⟩
  rcases hat with h | h
  · exact .inl h.symm
  · exact .inr ⟨g, rfl, by omega⟩

theorem wrote_mk {w w1 : World} {base g N M cap : Nat} {v : Value} {xs new zs : List UInt8} (h : Own w1 base (.slice (some ⟨g, 0, none⟩) N cap) zs) (ht : Turned w w1 v (.slice (some ⟨g, 0, none⟩) N cap)) (hz : zs = xs ++ new) (hM : M = xs.length + new.length) (hN : M = N) :
    Wrote w base v xs new (.returned (.slice (some ⟨g, 0, none⟩) M cap)) w1 := by
  subst hz hN
  exact ⟨g, cap, M, rfl, hM, h, ht⟩
theorem own_mk {w w1 : World} {base g N M cap : Nat} {v : Value} {xs new zs : List UInt8} (h : Own w1 base (.slice (some ⟨g, 0, none⟩) N cap) zs) (ht : Turned w w1 v (.slice (some ⟨g, 0, none⟩) N cap)) (hz : zs = xs ++ new) (hM : M = N) :
    Own w1 base (.slice (some ⟨g, 0, none⟩) M cap) (xs ++ new) ∧ Turned w w1 v (.slice (some ⟨g, 0, none⟩) M cap) := by
  subst hz hM
  exact ⟨h, ht⟩

set_option maxRecDepth 100000 in
set_option maxHeartbeats 1000000 in
theorem writeNumeral_any (u : Nat) (hu : u ≤ 18446744073709551615) (w : World) (base : Nat) (v : Value) (xs : List UInt8) (hb : base ≤ w.heap.size) (hown : Own w base v xs) (hx : xs.length ≤ 2199023255552) :
    Calls Try.prog 57 #[v, .int .u64 (u : Int)] w (Wrote w base v xs (num u)) := by
  obtain ⟨i0, hi, hz0, hz1, hz2⟩ := info_parts byteInfo
  have hd := digs_ten hu
  have HOWN := Lib.hid hown
  clear hown
  go_enter Try.func57, Try.ntmps57
  go_wp2_with fail
  go_loopw [0, 1] (fun t c wr => ∃ (k : Nat) (ys : List UInt8), k ≤ u ∧ c = .int .u64 k ∧ Hid (num u = ys ++ num k) ∧ ys.length ≤ 10 ∧ Hid (Own wr base t (xs ++ ys)) ∧ Hid (Turned w wr v t) ∧ base ≤ wr.heap.size) (fun _ c _ => (intOf c).toNat)
  case atStart => exact ⟨u, [], Nat.le_refl _, rfl, rfl, by simp, by simpa [Hid] using HOWN.out, Turned.refl _ _, hb⟩
  case round =>
    obtain ⟨k, ys, hk, rfl, HN, hy, HO, HT, hbr⟩ := hrel
    have hlen : (xs ++ ys).length ≤ 4398046511104 := by rw [List.length_append]; omega
    by_cases hlt : k < 128
    · have HK : Hid (num u = ys ++ [UInt8.ofNat k]) := by
        unfold Hid
        rw [HN.out, num, if_pos hlt]
      have hv : [Value.int .u8 (k : Int)] = bytesV [UInt8.ofNat k] := by rw [u8_nat k (by omega)]; rfl
      have HV := Lib.hid hv
      clear hv
      go_wp2_with (at_builtin; refine wpList_append_lies _ rfl _ _ _ rfl base 5 i0 _ 1 1 Try.underlying27 hi hz0 hz1 hz2 rfl (by omega) u0 _ _ rfl (World.ownsRow.alloc HO.out _) ⟨wr.heap.size, 0, none⟩ 1 _ [.int .u8 (k : Int)] rfl rfl (cell_one_new _ _ _) (by simp [Value.oneCell']) (by omega) (by unfold maxLen; omega) (by omega) (by simp; omega) _ rfl ?_; intro g cap w1 hown1 hgrow hat hglt)
      have hs := wrote_step (new := [UInt8.ofNat k]) rfl rfl HV.out hown1 hgrow hat rfl
      go_ret
      exact wrote_mk (N := (xs ++ ys).length + 1) hs.1 (HT.out.trans hs.2) (by rw [HK.out, List.append_assoc]) (by rw [HK.out, List.length_append]; simp; omega) (by simp)
    · have HK : Hid (num u = (ys ++ [UInt8.ofNat (k % 128 + 128)]) ++ num (k / 128)) := by
        unfold Hid
        rw [HN.out, List.append_assoc]
        congr 1
        rw [num, if_neg hlt]
        rfl
      have hl : (ys ++ [UInt8.ofNat (k % 128 + 128)]).length ≤ 10 := by
        have h1 := num_length u
        rw [HK.out, List.length_append] at h1
        omega
      have hv : [Value.int .u8 ((k : Int) % 128 + 128)] = bytesV [UInt8.ofNat (k % 128 + 128)] := by
        have := u8_nat (k % 128 + 128) (by omega)
        rw [show ((k : Int) % 128 + 128) = ((k % 128 + 128 : Nat) : Int) by omega, this]
        rfl
      have HV := Lib.hid hv
      clear hv
      go_wp2_with (at_builtin; refine wpList_append_lies _ rfl _ _ _ rfl base 5 i0 _ 1 1 Try.underlying27 hi hz0 hz1 hz2 rfl (by omega) u0 _ _ rfl (World.ownsRow.alloc HO.out _) ⟨wr.heap.size, 0, none⟩ 1 _ [.int .u8 ((k : Int) % 128 + 128)] rfl rfl (cell_one_new _ _ _) (by simp [Value.oneCell']) (by omega) (by unfold maxLen; omega) (by omega) (by simp; omega) _ rfl ?_; intro g cap w1 hown1 hgrow hat hglt)
      have hs := wrote_step (new := [UInt8.ofNat (k % 128 + 128)]) rfl rfl HV.out hown1 hgrow hat rfl
      go_roundw
      case rel =>
        have hq := own_mk (M := xs.length + ys.length + 1) (new := ys ++ [UInt8.ofNat (k % 128 + 128)]) (xs := xs) (N := (xs ++ ys).length + 1) hs.1 (HT.out.trans hs.2) (by rw [List.append_assoc]) (by simp)
        exact ⟨k / 128, ys ++ [UInt8.ofNat (k % 128 + 128)], by omega, by go_num, HK, hl, hq.1, hq.2, by have := hs.2.1.size; omega⟩
      case measure => simp [intOf]; omega
end Go.Proofs.Ytbcaanadmfnegaa
