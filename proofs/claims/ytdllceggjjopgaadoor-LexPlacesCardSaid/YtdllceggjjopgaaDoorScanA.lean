/- Contract of the scanner's scan: what a step says. -/
import Derived.Test.YtdllceggjjopgaaDoorScanNa
import Derived.Test.YtdllceggjjopgaaDoorScanNu
import Derived.Test.YtdllceggjjopgaaDoorScanSi
import Derived.Test.YtdllceggjjopgaaDoorScanNo
namespace Go.Proofs.YtdllceggjjopgaaDoor
open Go.RowKit

/-- what scan leaves, by the step -/
def ScanR (w : World) (r : Nat) (s : List UInt8) (i : Nat) (e : Ending) (w' : World) : Prop :=
  Turn w w' r ∧ ((∃ k m, step (s.drop i) = .tok k m ∧ e = .returned (.agg #[.int .i64 k.kind, .int .i64 i, .string ⟨k.text.toArray⟩, .int .i64 k.n]) ∧ Scn w' r s (i + m)) ∨ (step (s.drop i) = .bad ∧ e = .panicked (placeChain i)))
theorem Scanned.yes {w w' : World} {r i m : Nat} {s : List UInt8} {k : Tk} {e : Ending} (h : Scanned w r s i m k e w') (hs : step (s.drop i) = if okTk k = true then .tok k m else .bad) : ScanR w r s i e w' := by
  obtain ⟨ht, ⟨ho, he, hc⟩ | ⟨ho, he⟩⟩ := h
  · rw [if_pos ho] at hs
    exact ⟨ht, .inl ⟨k, m, hs, he, hc⟩⟩
  · rw [if_neg (by rw [ho]; decide)] at hs
    exact ⟨ht, .inr ⟨hs, he⟩⟩
theorem takeWhile_none (t : List UInt8) : t.takeWhile (fun _ => false) = [] := by cases t <;> rfl
theorem all_takeWhile (p : UInt8 → Bool) (t : List UInt8) : (t.takeWhile p).all p = true := by
  induction t with
  | nil => rfl
  | cons c t ih =>
    rw [List.takeWhile_cons]
    by_cases h : p c = true
    · rw [if_pos h, List.all_cons, h, ih]; rfl
    · rw [if_neg h]; rfl
theorem isName_run {c : UInt8} {t : List UInt8} (h : isLet c = true) : isName ((c :: t).takeWhile prt) = decide (((c :: t).takeWhile prt).length ≤ 32) := by
  have ha := all_takeWhile prt (c :: t)
  rw [List.takeWhile_cons, if_pos (prt_let h)] at ha ⊢
  rw [isName_cons, h, ha]
  simp
  omega

theorem scan_any (r : Nat) (s : List UInt8) (i : Nat) (c : UInt8) (t : List UInt8) (F T : Value) (w : World) (h : Scn w r s i) (hct : s.drop i = c :: t) (hs : s.length ≤ 65536) (hK : KOK w) (hr : 2 < r) (hn : NoSkip (c :: t))
    (hF : RUL[2 * cls c]? = some F) (hT : RUL[2 * cls c + 1]? = some T) :
    Calls Tryd.prog 42 #[.pointer (some ⟨r, 0, none⟩), .agg #[F, T]] w (ScanR w r s i) := by
  have htl : t.length ≤ 65536 := by have := congrArg List.length hct; rw [List.length_drop] at this; simp at this; omega
  have hcl := cls_lt c
  have hML : (65537 : Nat) ≤ maxLen := by unfold maxLen; omega
  rcases step_ways c t with h1 | ⟨rfl, h1⟩ | h1 | h1 | ⟨h1, h2⟩ | ⟨h1, h2, h3, h4⟩
  · exact absurd (step_spc h1) (hn 1)
  · exact absurd (step_com h1) (hn _)
  · have hc : cls c = 2 := by unfold isLet at h1; simpa using h1
    rw [hc] at hF hT
    cases hF
    cases hT
    have hx : (c :: t).takeWhile prt = c :: t.takeWhile prt := by rw [List.takeWhile_cons, if_pos (prt_let h1)]
    have hxl : (c :: t.takeWhile prt).length ≤ 65537 := by have := (List.takeWhile_sublist prt (l := t)).length_le; simp; omega
    refine (scan_name prt r s i _ c t (c :: t.takeWhile prt) 1 0 (c :: t.takeWhile prt) w rfl rfl (fun d W => contName_any (cls d) (cls_lt d) W) (fun W => nameTok_any _ W) h hct hs (by omega) hK hr).mono fun e w' hq => hq.yes ?_
    rw [hct, step_let h1, hx, ok_name, ← hx, isName_run h1]
    simp
  · have hc : cls c = 3 := by unfold isDig at h1; simpa using h1
    rw [hc] at hF hT
    cases hF
    cases hT
    have hx : (c :: t).takeWhile isDig = c :: t.takeWhile isDig := by rw [List.takeWhile_cons, if_pos h1]
    have ha := all_takeWhile isDig (c :: t)
    rw [hx] at ha
    have hxl : (c :: t.takeWhile isDig).length ≤ 65537 := by have := (List.takeWhile_sublist isDig (l := t)).length_le; simp; omega
    refine (scan_num isDig r s i _ c t (c :: t.takeWhile isDig) 2 ((numOf (c :: t.takeWhile isDig)).getD (-1)) [] w rfl rfl (fun d W => contNum_any (cls d) (cls_lt d) W) (fun W => numTok_any _ ha (by omega) W) h hct hs (by simp) hK hr).mono fun e w' hq => hq.yes ?_
    rw [hct, step_dig h1, hx, ok_num]
    cases hno : numOf (c :: t.takeWhile isDig) with
    | none => rfl
    | some n =>
      have hb : 0 ≤ n ∧ n ≤ 1099511627776 := by
        unfold numOf at hno
        split at hno
        · cases hno
        · next hq2 =>
          cases hno
          have := (valF_take ha (c :: t.takeWhile isDig).length).1
          rw [List.take_length] at this
          unfold big at hq2
          omega
      simp [hb.1, hb.2]
  · have hc : cls c = 5 := by unfold isSgn at h1; simpa using h1
    rw [hc] at hF hT
    cases hF
    cases hT
    refine (scan_sign (fun _ => false) r s i 1 c t [c] 3 0 [c] w (by rw [takeWhile_none]) rfl (fun d W => contNo_any _ W) (fun W => signTok_any _ W) h hct hs (by simp; omega) hK hr).mono fun e w' hq => hq.yes ?_
    rw [hct, step_sgn h1 h2, ok_sgn]
    simp [oneSgn, h1]
  · have hc : cls c = 0 ∨ cls c = 4 := by
      unfold isSpc at h1
      unfold isLet at h2
      unfold isDig at h3
      unfold isSgn at h4
      simp at h1 h2 h3 h4
      omega
    rcases hc with hc | hc
    all_goals
      rw [hc] at hF hT
      cases hF
      cases hT
      refine (scan_none (fun _ => false) r s i 1 c t [c] 0 0 [] w (by rw [takeWhile_none]) rfl (fun d W => contNo_any _ W) (fun W => noTok_any _ W) h hct hs (by simp) hK hr).mono fun e w' hq => hq.yes ?_
      rw [hct, step_oth h1 h2 h3 h4]
      rfl
end Go.Proofs.YtdllceggjjopgaaDoor
