/- Trees of digests, paths, climbing: plain mathematics. -/
import Derived.Test.YtfolmglafnfcbaaDoorPadM
import Derived.Test.YtfolmglafnfcbaaDoorSplit
namespace Go.Proofs.YtfolmglafnfcbaaDoor

abbrev D := List UInt8
def treeF : Nat → List D → D
  | 0, _ => []
  | f + 1, ds => if ds.length = 0 then tagged [101, 109, 112, 116, 121] [] else if ds.length = 1 then tagged [108, 101, 97, 102] (ds.getD 0 []) else
      tagged [110, 111, 100, 101] (treeF f (ds.take (half ds.length)) ++ treeF f (ds.drop (half ds.length)))
theorem treeF_fuel : ∀ (f g : Nat) (ds : List D), ds.length < f → ds.length < g → ds.length ≤ 1099511627776 → treeF f ds = treeF g ds
  | 0, _, _, h, _, _ => absurd h (by omega)
  | _ + 1, 0, _, _, h, _ => absurd h (by omega)
  | f + 1, g + 1, ds, hf, hg, hn => by
    unfold treeF
    by_cases h0 : ds.length = 0
    · rw [if_pos h0, if_pos h0]
    · by_cases h1 : ds.length = 1
      · rw [if_neg h0, if_neg h0, if_pos h1, if_pos h1]
      · have a1 := half_lt ds.length (by omega) hn
        have a2 := half_pos ds.length
        rw [if_neg h0, if_neg h0, if_neg h1, if_neg h1, treeF_fuel f g (ds.take (half ds.length)) (by rw [List.length_take]; omega) (by rw [List.length_take]; omega) (by rw [List.length_take]; omega),
          treeF_fuel f g (ds.drop (half ds.length)) (by rw [List.length_drop]; omega) (by rw [List.length_drop]; omega) (by rw [List.length_drop]; omega)]
/-- the digest of a list -/
def tree (ds : List D) : D := treeF (ds.length + 1) ds
theorem tree_nil : tree [] = tagged [101, 109, 112, 116, 121] [] := rfl
theorem tree_one (d : D) : tree [d] = tagged [108, 101, 97, 102] d := rfl
theorem tree_node (ds : List D) (h2 : 2 ≤ ds.length) (hn : ds.length ≤ 1099511627776) : tree ds = tagged [110, 111, 100, 101] (tree (ds.take (half ds.length)) ++ tree (ds.drop (half ds.length))) := by
  have a1 := half_lt ds.length h2 hn
  have a2 := half_pos ds.length
  have e1 : (ds.take (half ds.length)).length = half ds.length := by rw [List.length_take]; omega
  have e2 : (ds.drop (half ds.length)).length = ds.length - half ds.length := List.length_drop ..
  conv => lhs; unfold tree treeF
  rw [if_neg (by omega), if_neg (by omega)]
  unfold tree
  rw [treeF_fuel ds.length ((ds.take (half ds.length)).length + 1) (ds.take (half ds.length)) (by omega) (by omega) (by omega),
    treeF_fuel ds.length ((ds.drop (half ds.length)).length + 1) (ds.drop (half ds.length)) (by omega) (by omega) (by omega)]
theorem tree_length (ds : List D) : (tree ds).length = 32 := by
  unfold tree treeF
  split
  · exact tagged_length _ _
  · split <;> exact tagged_length _ _

/-- the path of an element -/
def pathF : Nat → List D → Nat → List D
  | 0, _, _ => []
  | f + 1, ds, a => if ds.length ≤ 1 then [] else if a < half ds.length then pathF f (ds.take (half ds.length)) a ++ [tree (ds.drop (half ds.length))]
      else pathF f (ds.drop (half ds.length)) (a - half ds.length) ++ [tree (ds.take (half ds.length))]
theorem pathF_fuel : ∀ (f g : Nat) (ds : List D) (a : Nat), ds.length ≤ f → ds.length ≤ g → ds.length ≤ 1099511627776 → pathF f ds a = pathF g ds a
  | 0, 0, _, _, _, _, _ => rfl
  | 0, g + 1, ds, a, h, _, _ => by
    unfold pathF
    rw [if_pos (by omega)]
  | f + 1, 0, ds, a, _, h, _ => by
    unfold pathF
    rw [if_pos (by omega)]
  | f + 1, g + 1, ds, a, hf, hg, hn => by
    unfold pathF
    by_cases h1 : ds.length ≤ 1
    · rw [if_pos h1, if_pos h1]
    · have a1 := half_lt ds.length (by omega) hn
      have a2 := half_pos ds.length
      rw [if_neg h1, if_neg h1, pathF_fuel f g (ds.take (half ds.length)) a (by rw [List.length_take]; omega) (by rw [List.length_take]; omega) (by rw [List.length_take]; omega),
          pathF_fuel f g (ds.drop (half ds.length)) (a - half ds.length) (by rw [List.length_drop]; omega) (by rw [List.length_drop]; omega) (by rw [List.length_drop]; omega)]
def path (ds : List D) (a : Nat) : List D := pathF ds.length ds a
theorem path_one (d : D) (a : Nat) : path [d] a = [] := rfl
theorem path_one' (ds : List D) (h : ds.length = 1) (a : Nat) : path ds a = [] := by
  unfold path
  rw [h]
  unfold pathF
  rw [if_pos (by omega)]
theorem path_left (ds : List D) (a : Nat) (h2 : 2 ≤ ds.length) (hn : ds.length ≤ 1099511627776) (h : a < half ds.length) : path ds a = path (ds.take (half ds.length)) a ++ [tree (ds.drop (half ds.length))] := by
  have a1 := half_lt ds.length h2 hn
  obtain ⟨f, hf⟩ : ∃ f, ds.length = f + 1 := ⟨ds.length - 1, by omega⟩
  unfold path
  conv => lhs; rw [hf]; unfold pathF
  rw [if_neg (by omega), if_pos h, pathF_fuel f _ (ds.take (half ds.length)) a (by rw [List.length_take]; omega) (Nat.le_refl _) (by rw [List.length_take]; omega)]
theorem path_right (ds : List D) (a : Nat) (h2 : 2 ≤ ds.length) (hn : ds.length ≤ 1099511627776) (h : ¬ a < half ds.length) : path ds a = path (ds.drop (half ds.length)) (a - half ds.length) ++ [tree (ds.take (half ds.length))] := by
  have a1 := half_lt ds.length h2 hn
  have a2 := half_pos ds.length
  obtain ⟨f, hf⟩ : ∃ f, ds.length = f + 1 := ⟨ds.length - 1, by omega⟩
  unfold path
  conv => lhs; rw [hf]; unfold pathF
  rw [if_neg (by omega), if_neg h, pathF_fuel f _ (ds.drop (half ds.length)) (a - half ds.length) (by rw [List.length_drop]; omega) (Nat.le_refl _) (by rw [List.length_drop]; omega)]

/-- what an element and a path lead to -/
def climbF : Nat → D → Nat → Nat → List D → D
  | 0, _, _, _, _ => []
  | f + 1, d, a, n, p => if n ≤ 1 then tagged [108, 101, 97, 102] d else if a < half n then tagged [110, 111, 100, 101] (climbF f d a (half n) p.dropLast ++ p.getD (p.length - 1) [])
      else tagged [110, 111, 100, 101] (p.getD (p.length - 1) [] ++ climbF f d (a - half n) (n - half n) p.dropLast)
theorem climbF_fuel : ∀ (f g : Nat) (d : D) (a n : Nat) (p : List D), n ≤ f → n ≤ g → 1 ≤ n → n ≤ 1099511627776 → climbF f d a n p = climbF g d a n p
  | 0, _, _, _, _, _, h, _, h1, _ => absurd h (by omega)
  | _ + 1, 0, _, _, _, _, _, h, h1, _ => absurd h (by omega)
  | f + 1, g + 1, d, a, n, p, hf, hg, h1, hn => by
    unfold climbF
    by_cases he : n ≤ 1
    · rw [if_pos he, if_pos he]
    · have a1 := half_lt n (by omega) hn
      have a2 := half_pos n
      rw [if_neg he, if_neg he, climbF_fuel f g d a (half n) _ (by omega) (by omega) (by omega) (by omega), climbF_fuel f g d (a - half n) (n - half n) _ (by omega) (by omega) (by omega) (by omega)]
def climb (d : D) (a n : Nat) (p : List D) : D := climbF n d a n p
theorem climb_one (d : D) (a : Nat) (p : List D) : climb d a 1 p = tagged [108, 101, 97, 102] d := rfl
theorem climb_left (d : D) (a n : Nat) (p : List D) (h2 : 2 ≤ n) (hn : n ≤ 1099511627776) (h : a < half n) : climb d a n p = tagged [110, 111, 100, 101] (climb d a (half n) p.dropLast ++ p.getD (p.length - 1) []) := by
  have a1 := half_lt n h2 hn
  have a2 := half_pos n
  unfold climb
  obtain ⟨f, hf⟩ : ∃ f, n = f + 1 := ⟨n - 1, by omega⟩
  conv => lhs; arg 1; rw [hf]
  conv => lhs; unfold climbF
  rw [if_neg (by omega), if_pos h, climbF_fuel f (half n) d a (half n) _ (by omega) (Nat.le_refl _) (by omega) (by omega)]
theorem climb_right (d : D) (a n : Nat) (p : List D) (h2 : 2 ≤ n) (hn : n ≤ 1099511627776) (h : ¬ a < half n) : climb d a n p = tagged [110, 111, 100, 101] (p.getD (p.length - 1) [] ++ climb d (a - half n) (n - half n) p.dropLast) := by
  have a1 := half_lt n h2 hn
  have a2 := half_pos n
  unfold climb
  obtain ⟨f, hf⟩ : ∃ f, n = f + 1 := ⟨n - 1, by omega⟩
  conv => lhs; arg 1; rw [hf]
  conv => lhs; unfold climbF
  rw [if_neg (by omega), if_neg h, climbF_fuel f (n - half n) d (a - half n) (n - half n) _ (by omega) (Nat.le_refl _) (by omega) (by omega)]
theorem climb_length (d : D) (a n : Nat) (p : List D) (h1 : 1 ≤ n) (hn : n ≤ 1099511627776) : (climb d a n p).length = 32 := by
  by_cases he : n = 1
  · subst he; rw [climb_one]; exact tagged_length _ _
  · by_cases hl : a < half n
    · rw [climb_left d a n p (by omega) hn hl]; exact tagged_length _ _
    · rw [climb_right d a n p (by omega) hn hl]; exact tagged_length _ _
theorem path_length : ∀ (f : Nat) (ds : List D) (a : Nat), ds.length ≤ f → a < ds.length → ds.length ≤ 1099511627776 → (path ds a).length = Go.Proofs.YtfolmglafnfcbaaDoor.steps a ds.length
  | 0, ds, a, hf, ha, _ => absurd ha (by omega)
  | f + 1, ds, a, hf, ha, hn => by
    by_cases he : ds.length = 1
    · rw [path_one' ds he, he, steps_one]; rfl
    · have a1 := half_lt ds.length (by omega) hn
      have a2 := half_pos ds.length
      have e1 : (ds.take (half ds.length)).length = half ds.length := by rw [List.length_take]; omega
      have e2 : (ds.drop (half ds.length)).length = ds.length - half ds.length := List.length_drop ..
      by_cases hl : a < half ds.length
      · rw [path_left ds a (by omega) hn hl, List.length_append, path_length f _ a (by omega) (by omega) (by omega), steps_left a ds.length (by omega) hn hl, e1, Nat.add_comm]; rfl
      · rw [path_right ds a (by omega) hn hl, List.length_append, path_length f _ (a - half ds.length) (by omega) (by omega) (by omega), steps_right a ds.length (by omega) hn hl, e2, Nat.add_comm]; rfl
theorem path_all : ∀ (f : Nat) (ds : List D) (a : Nat), ds.length ≤ f → ds.length ≤ 1099511627776 → ∀ d ∈ path ds a, d.length = 32
  | 0, ds, a, hf, hn => by
    intro d hd
    have : ds = [] := List.eq_nil_of_length_eq_zero (by omega)
    subst this
    simp [path, pathF] at hd
  | f + 1, ds, a, hf, hn => by
    intro d hd
    by_cases he : ds.length ≤ 1
    · unfold path at hd
      cases hds : ds.length with
      | zero => rw [hds] at hd; simp [pathF] at hd
      | succ k => rw [hds] at hd; unfold pathF at hd; rw [if_pos he] at hd; cases hd
    · have a1 := half_lt ds.length (by omega) hn
      have a2 := half_pos ds.length
      by_cases hl : a < half ds.length
      · rw [path_left ds a (by omega) hn hl] at hd
        rcases List.mem_append.1 hd with h | h
        · exact path_all f _ a (by rw [List.length_take]; omega) (by rw [List.length_take]; omega) d h
        · simp at h; subst h; exact tree_length _
      · rw [path_right ds a (by omega) hn hl] at hd
        rcases List.mem_append.1 hd with h | h
        · exact path_all f _ _ (by rw [List.length_drop]; omega) (by rw [List.length_drop]; omega) d h
        · simp at h; subst h; exact tree_length _
/-- climbing the path of an element leads to the digest of the list -/
theorem climb_path : ∀ (f : Nat) (ds : List D) (a : Nat) (d : D), ds.length ≤ f → ds[a]? = some d → ds.length ≤ 1099511627776 → climb d a ds.length (path ds a) = tree ds
  | 0, ds, a, d, hf, ha, _ => by
    have : ds = [] := List.eq_nil_of_length_eq_zero (by omega)
    subst this
    simp at ha
  | f + 1, ds, a, d, hf, ha, hn => by
    have hal : a < ds.length := (List.getElem?_eq_some_iff.1 ha).1
    by_cases he : ds.length = 1
    · obtain ⟨x, rfl⟩ : ∃ x, ds = [x] := by
        match ds, he with
        | [x], _ => exact ⟨x, rfl⟩
      have e : a = 0 := by simp at hal; exact hal
      subst e
      simp at ha
      subst ha
      rw [path_one, tree_one]
      exact climb_one _ _ _
    · have a1 := half_lt ds.length (by omega) hn
      have a2 := half_pos ds.length
      have e1 : (ds.take (half ds.length)).length = half ds.length := by rw [List.length_take]; omega
      have e2 : (ds.drop (half ds.length)).length = ds.length - half ds.length := List.length_drop ..
      by_cases hl : a < half ds.length
      · have ih := climb_path f (ds.take (half ds.length)) a d (by omega) (by rw [List.getElem?_take, if_pos hl]; exact ha) (by omega)
        rw [e1] at ih
        rw [climb_left d a ds.length _ (by omega) hn hl, path_left ds a (by omega) hn hl, List.dropLast_concat, ih, tree_node ds (by omega) hn]
        congr 2
        simp
      · have ih := climb_path f (ds.drop (half ds.length)) (a - half ds.length) d (by omega) (by rw [List.getElem?_drop, show half ds.length + (a - half ds.length) = a by omega]; exact ha) (by omega)
        rw [e2] at ih
        rw [climb_right d a ds.length _ (by omega) hn hl, path_right ds a (by omega) hn hl, List.dropLast_concat, ih, tree_node ds (by omega) hn]
        congr 2
        simp
attribute [irreducible] tree path climb
end Go.Proofs.YtfolmglafnfcbaaDoor
