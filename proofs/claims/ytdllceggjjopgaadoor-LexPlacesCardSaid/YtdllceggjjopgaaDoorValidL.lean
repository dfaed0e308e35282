/- Contracts of valid, of both sides, and of the makers of tokens. -/
import Derived.Test.YtdllceggjjopgaaDoorNameL
namespace Go.Proofs.YtdllceggjjopgaaDoor
open Go.RowKit

/-- is it one sign -/
def oneSgn : List UInt8 → Bool
  | [c] => isSgn c
  | _ => false
/-- is a token valid -/
def okTk (t : Tk) : Bool :=
  if t.kind = 1 then decide (t.n = 0) && isName t.text
  else if t.kind = 2 then decide (t.text = []) && (decide (0 ≤ t.n) && decide (t.n ≤ 1099511627776))
  else if t.kind = 3 then decide (t.n = 0) && oneSgn t.text
  else false
theorem ok_name (p n : Int) (x : List UInt8) : okTk ⟨1, p, x, n⟩ = (decide (n = 0) && isName x) := rfl
theorem ok_num (p n : Int) (x : List UInt8) : okTk ⟨2, p, x, n⟩ = (decide (x = []) && (decide (0 ≤ n) && decide (n ≤ 1099511627776))) := rfl
theorem ok_sgn (p n : Int) (x : List UInt8) : okTk ⟨3, p, x, n⟩ = (decide (n = 0) && oneSgn x) := rfl
theorem ok_none {k p n : Int} {x : List UInt8} (h1 : ¬ k = 1) (h2 : ¬ k = 2) (h3 : ¬ k = 3) : okTk ⟨k, p, x, n⟩ = false := by
  unfold okTk
  rw [if_neg h1, if_neg h2, if_neg h3]
theorem sgn_len {x : List UInt8} (h : ¬ x.length = 1) : oneSgn x = false := by
  match x, h with
  | [], _ => rfl
  | [_], h => exact absurd rfl h
  | _ :: _ :: _, _ => rfl
theorem beq_off {a b : Int} (h : ¬ a = b) : (a == b) = false := beq_eq_false_iff_ne.2 h


set_option maxRecDepth 100000 in
set_option maxHeartbeats 2000000 in
theorem valid_any (k p n : Int) (x : List UInt8) (hl : x.length ≤ maxLen) (w : World) (hK : KOK w) :
    Calls Tryd.prog 31 #[.agg #[.int .i64 k, .int .i64 p, .string ⟨x.toArray⟩, .int .i64 n]] w fun e w' => e = .returned (.bool (okTk ⟨k, p, x, n⟩)) ∧ Below w.heap.size w w' := by
  have HL := Lib.hid hl
  unfold maxLen at hl
  have HB : Hid (Below w.heap.size w (w.alloc (.cells #[.int .i64 k, .int .i64 p, .string ⟨x.toArray⟩, .int .i64 n] 35))) := Below.new1 _ _
  have HK : Hid (KOK (w.alloc (.cells #[.int .i64 k, .int .i64 p, .string ⟨x.toArray⟩, .int .i64 n] 35))) := hK.below HB.out hK.pos
  clear hK
  by_cases k1 : k = 1
  · subst k1
    have q1 : ((1 : Int) == 1) = true := rfl
    by_cases hn : n = 0
    · subst hn
      have HE : Hid (okTk ⟨1, p, x, 0⟩ = isName x) := by unfold Hid; rw [ok_name]; simp
      go_enter Tryd.func31, Tryd.ntmps31
      go_wp2_with fail
      refine (name_any x HL.out _ HK.out).mono ?_
      rintro e w' ⟨rfl, rfl⟩
      generalize isName x = b at *
      cases b
      all_goals
        go_wp2_with fail
        go_ret
        exact ⟨by rw [HE.out]; rfl, HB.out⟩
    · have HE : Hid (okTk ⟨1, p, x, n⟩ = false) := by unfold Hid; rw [ok_name, decide_eq_false hn]; rfl
      have q2 := beq_off hn
      clear hn
      go_enter Tryd.func31, Tryd.ntmps31
      go_wp2_with fail
      go_ret
      exact ⟨by rw [HE.out]; rfl, HB.out⟩
  have r1 := beq_off k1
  by_cases k2 : k = 2
  · subst k2
    clear k1
    by_cases hx : x = []
    · subst hx
      by_cases h0 : 0 ≤ n
      · by_cases h4 : n ≤ 1099511627776
        · have HE : Hid (okTk ⟨2, p, [], n⟩ = true) := by unfold Hid; rw [ok_num]; simp [h0, h4]
          go_enter Tryd.func31, Tryd.ntmps31
          go_wp2_with fail
          go_ret
          exact ⟨by rw [HE.out]; rfl, HB.out⟩
        · have HE : Hid (okTk ⟨2, p, [], n⟩ = false) := by unfold Hid; rw [ok_num]; simp [h0, h4]
          go_enter Tryd.func31, Tryd.ntmps31
          go_wp2_with fail
          go_ret
          exact ⟨by rw [HE.out]; rfl, HB.out⟩
      · have HE : Hid (okTk ⟨2, p, [], n⟩ = false) := by unfold Hid; rw [ok_num]; simp [h0]
        go_enter Tryd.func31, Tryd.ntmps31
        go_wp2_with fail
        go_ret
        exact ⟨by rw [HE.out]; rfl, HB.out⟩
    · have HE : Hid (okTk ⟨2, p, x, n⟩ = false) := by unfold Hid; rw [ok_num, decide_eq_false hx]; rfl
      have e1 : x.isEmpty = false := by cases x <;> simp at hx ⊢
      go_enter Tryd.func31, Tryd.ntmps31
      go_wp2_with fail
      go_ret
      exact ⟨by rw [HE.out]; rfl, HB.out⟩
  have r2 := beq_off k2
  by_cases k3 : k = 3
  · subst k3
    clear k1 k2
    by_cases hn : n = 0
    · subst hn
      by_cases h1 : x.length = 1
      · obtain ⟨c, rfl⟩ := List.length_eq_one_iff.1 h1
        obtain ⟨hp, hix⟩ := ba_at (show [c][0]? = some c from rfl)
        have HE : Hid (okTk ⟨3, p, [c], 0⟩ = isSgn c) := by unfold Hid; rw [ok_sgn]; simp [oneSgn]
        clear h1
        go_enter Tryd.func31, Tryd.ntmps31
        go_wp2_with fail
        refine (classOf_any c _ HK.out).mono ?_
        rintro e w' ⟨rfl, rfl⟩
        have hk := cls_lt c
        cases hs : isSgn c
        · have hz : (((cls c : Nat) : Int) == 5) = false := by unfold isSgn at hs; simp at hs ⊢; omega
          rw [hs] at HE
          clear hs
          go_wp2_with fail
          go_ret
          exact ⟨by rw [HE.out]; rfl, HB.out⟩
        · have hz : (((cls c : Nat) : Int) == 5) = true := by unfold isSgn at hs; simp at hs ⊢; omega
          rw [hs] at HE
          clear hs
          go_wp2_with fail
          go_ret
          exact ⟨by rw [HE.out]; rfl, HB.out⟩
      · have HE : Hid (okTk ⟨3, p, x, 0⟩ = false) := by unfold Hid; rw [ok_sgn, sgn_len h1]; rfl
        have hz : ((x.length : Int) == 1) = false := by rw [beq_eq_false_iff_ne]; omega
        clear h1
        go_enter Tryd.func31, Tryd.ntmps31
        go_wp2_with fail
        go_ret
        exact ⟨by rw [HE.out]; rfl, HB.out⟩
    · have HE : Hid (okTk ⟨3, p, x, n⟩ = false) := by unfold Hid; rw [ok_sgn, decide_eq_false hn]; rfl
      have q2 := beq_off hn
      clear hn
      go_enter Tryd.func31, Tryd.ntmps31
      go_wp2_with fail
      go_ret
      exact ⟨by rw [HE.out]; rfl, HB.out⟩
  have r3 := beq_off k3
  have HE := Lib.hid (ok_none (p := p) (n := n) (x := x) k1 k2 k3)
  clear k1 k2 k3
  go_enter Tryd.func31, Tryd.ntmps31
  go_wp2_with fail
  go_ret
  exact ⟨by rw [HE.out]; rfl, HB.out⟩


set_option maxRecDepth 100000 in
set_option maxHeartbeats 2000000 in
theorem refvalid_any (k p n : Int) (x : List UInt8) (hl : x.length ≤ maxLen) (w : World) :
    Calls Tryd.prog 34 #[.agg #[.int .i64 k, .int .i64 p, .string ⟨x.toArray⟩, .int .i64 n]] w fun e w' => e = .returned (.bool (okTk ⟨k, p, x, n⟩)) ∧ Below w.heap.size w w' := by
  have HL := Lib.hid hl
  unfold maxLen at hl
  have HB : Hid (Below w.heap.size w (w.alloc (.cells #[.int .i64 k, .int .i64 p, .string ⟨x.toArray⟩, .int .i64 n] 35))) := Below.new1 _ _
  by_cases k1 : k = 1
  · subst k1
    have q1 : ((1 : Int) == 1) = true := rfl
    cases hb : isName x
    · have HE : Hid (okTk ⟨1, p, x, n⟩ = false) := by unfold Hid; rw [ok_name, hb]; simp
      have HN := Lib.hid hb
      clear hb
      go_enter Tryd.func34, Tryd.ntmps34
      go_wp2_with fail
      refine (refname_any x HL.out _).mono ?_
      rintro e w' ⟨rfl, rfl⟩
      rw [HN.out]
      go_wp2_with fail
      go_ret
      exact ⟨by rw [HE.out]; rfl, HB.out⟩
    · have HN := Lib.hid hb
      by_cases hn : n = 0
      · subst hn
        have HE : Hid (okTk ⟨1, p, x, 0⟩ = true) := by unfold Hid; rw [ok_name, hb]; rfl
        clear hb
        go_enter Tryd.func34, Tryd.ntmps34
        go_wp2_with fail
        refine (refname_any x HL.out _).mono ?_
        rintro e w' ⟨rfl, rfl⟩
        rw [HN.out]
        go_wp2_with fail
        go_ret
        exact ⟨by rw [HE.out]; rfl, HB.out⟩
      · have HE : Hid (okTk ⟨1, p, x, n⟩ = false) := by unfold Hid; rw [ok_name, decide_eq_false hn]; rfl
        have q2 := beq_off hn
        clear hb hn
        go_enter Tryd.func34, Tryd.ntmps34
        go_wp2_with fail
        refine (refname_any x HL.out _).mono ?_
        rintro e w' ⟨rfl, rfl⟩
        rw [HN.out]
        go_wp2_with fail
        go_ret
        exact ⟨by rw [HE.out]; rfl, HB.out⟩
  have r1 := beq_off k1
  by_cases k2 : k = 2
  · subst k2
    clear k1
    by_cases hx : x = []
    · subst hx
      by_cases h0 : 0 ≤ n
      · by_cases h4 : n ≤ 1099511627776
        · have HE : Hid (okTk ⟨2, p, [], n⟩ = true) := by unfold Hid; rw [ok_num]; simp [h0, h4]
          go_enter Tryd.func34, Tryd.ntmps34
          go_wp2_with fail
          go_ret
          exact ⟨by rw [HE.out]; rfl, HB.out⟩
        · have HE : Hid (okTk ⟨2, p, [], n⟩ = false) := by unfold Hid; rw [ok_num]; simp [h0, h4]
          go_enter Tryd.func34, Tryd.ntmps34
          go_wp2_with fail
          go_ret
          exact ⟨by rw [HE.out]; rfl, HB.out⟩
      · have HE : Hid (okTk ⟨2, p, [], n⟩ = false) := by unfold Hid; rw [ok_num]; simp [h0]
        go_enter Tryd.func34, Tryd.ntmps34
        go_wp2_with fail
        go_ret
        exact ⟨by rw [HE.out]; rfl, HB.out⟩
    · have HE : Hid (okTk ⟨2, p, x, n⟩ = false) := by unfold Hid; rw [ok_num, decide_eq_false hx]; rfl
      have e1 : x.isEmpty = false := by cases x <;> simp at hx ⊢
      go_enter Tryd.func34, Tryd.ntmps34
      go_wp2_with fail
      go_ret
      exact ⟨by rw [HE.out]; rfl, HB.out⟩
  have r2 := beq_off k2
  by_cases k3 : k = 3
  · subst k3
    clear k1 k2
    by_cases h1 : x.length = 1
    · obtain ⟨c, rfl⟩ := List.length_eq_one_iff.1 h1
      obtain ⟨hp, hix⟩ := ba_at (show [c][0]? = some c from rfl)
      clear h1
      cases hs : isSgn c
      · have HE : Hid (okTk ⟨3, p, [c], n⟩ = false) := by unfold Hid; rw [ok_sgn]; simp [oneSgn, hs]
        have HN := Lib.hid hs
        clear hs
        go_enter Tryd.func34, Tryd.ntmps34
        go_wp2_with fail
        refine (refsign_any c _).mono ?_
        rintro e w' ⟨rfl, rfl⟩
        rw [HN.out]
        go_wp2_with fail
        go_ret
        exact ⟨by rw [HE.out]; rfl, HB.out⟩
      · have HN := Lib.hid hs
        by_cases hn : n = 0
        · subst hn
          have HE : Hid (okTk ⟨3, p, [c], 0⟩ = true) := by unfold Hid; rw [ok_sgn]; simp [oneSgn, hs]
          clear hs
          go_enter Tryd.func34, Tryd.ntmps34
          go_wp2_with fail
          refine (refsign_any c _).mono ?_
          rintro e w' ⟨rfl, rfl⟩
          rw [HN.out]
          go_wp2_with fail
          go_ret
          exact ⟨by rw [HE.out]; rfl, HB.out⟩
        · have HE : Hid (okTk ⟨3, p, [c], n⟩ = false) := by unfold Hid; rw [ok_sgn, decide_eq_false hn]; rfl
          have q2 := beq_off hn
          clear hs hn
          go_enter Tryd.func34, Tryd.ntmps34
          go_wp2_with fail
          refine (refsign_any c _).mono ?_
          rintro e w' ⟨rfl, rfl⟩
          rw [HN.out]
          go_wp2_with fail
          go_ret
          exact ⟨by rw [HE.out]; rfl, HB.out⟩
    · have HE : Hid (okTk ⟨3, p, x, n⟩ = false) := by unfold Hid; rw [ok_sgn, sgn_len h1]; simp
      have hz : ((x.length : Int) == 1) = false := by rw [beq_eq_false_iff_ne]; omega
      clear h1
      go_enter Tryd.func34, Tryd.ntmps34
      go_wp2_with fail
      go_ret
      exact ⟨by rw [HE.out]; rfl, HB.out⟩
  have r3 := beq_off k3
  have HE := Lib.hid (ok_none (p := p) (n := n) (x := x) k1 k2 k3)
  clear k1 k2 k3
  go_enter Tryd.func34, Tryd.ntmps34
  go_wp2_with fail
  go_ret
  exact ⟨by rw [HE.out]; rfl, HB.out⟩


set_option maxRecDepth 100000 in
theorem noTok_any (x : List UInt8) (w : World) : Calls Tryd.prog 48 #[.string ⟨x.toArray⟩] w fun e w' => e = .returned (.agg #[.int .i64 0, .int .i64 0, .string ⟨#[]⟩, .int .i64 0]) ∧ Below w.heap.size w w' := by
  go_enter Tryd.func48, Tryd.ntmps48
  go_wp2_with fail
  first
    | (go_ret; exact ⟨rfl, Below.new1 _ _⟩)
    | exact bodyPost_ret (v := .agg #[.int .i64 0, .int .i64 0, .string ⟨#[]⟩, .int .i64 0]) (by simp [results, Tryd.results48, go_sem]) rfl ⟨rfl, Below.new1 _ _⟩


set_option maxRecDepth 100000 in
theorem nameTok_any (x : List UInt8) (w : World) : Calls Tryd.prog 49 #[.string ⟨x.toArray⟩] w fun e w' => e = .returned (.agg #[.int .i64 1, .int .i64 0, .string ⟨x.toArray⟩, .int .i64 0]) ∧ Below w.heap.size w w' := by
  go_enter Tryd.func49, Tryd.ntmps49
  go_wp2_with fail
  first
    | (go_ret; exact ⟨rfl, Below.new1 _ _⟩)
    | exact bodyPost_ret (v := .agg #[.int .i64 1, .int .i64 0, .string ⟨x.toArray⟩, .int .i64 0]) (by simp [results, Tryd.results49, go_sem]) rfl ⟨rfl, Below.new1 _ _⟩


set_option maxRecDepth 100000 in
theorem signTok_any (x : List UInt8) (w : World) : Calls Tryd.prog 52 #[.string ⟨x.toArray⟩] w fun e w' => e = .returned (.agg #[.int .i64 3, .int .i64 0, .string ⟨x.toArray⟩, .int .i64 0]) ∧ Below w.heap.size w w' := by
  go_enter Tryd.func52, Tryd.ntmps52
  go_wp2_with fail
  first
    | (go_ret; exact ⟨rfl, Below.new1 _ _⟩)
    | exact bodyPost_ret (v := .agg #[.int .i64 3, .int .i64 0, .string ⟨x.toArray⟩, .int .i64 0]) (by simp [results, Tryd.results52, go_sem]) rfl ⟨rfl, Below.new1 _ _⟩

end Go.Proofs.YtdllceggjjopgaaDoor
