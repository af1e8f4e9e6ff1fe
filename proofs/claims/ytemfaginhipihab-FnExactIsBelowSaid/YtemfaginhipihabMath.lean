/- Plain facts on lists of degrees: when they are a tree, by the two loops. No program is named here. -/
namespace Go.Proofs.Ytemfaginhipihab.M
/-- the model's loop -/
def isGo : Int → List Int → Bool
  | o, [] => o == 0
  | o, d :: r => if o == 0 || !(decide (0 ≤ d) && decide (d ≤ 24)) then false else isGo (o - 1 + d) r
def isTree (ds : List Int) : Bool := decide (1 ≤ ds.length) && decide (ds.length ≤ 24) && isGo 1 ds
/-- the program's loop -/
def imGo (n : Int) : Int → List Int → Bool
  | m, [] => m == 0
  | m, d :: r => if m == 0 || decide (d < 0) || decide (n ≤ d) then false else imGo n (m + (d - 1)) r
theorem isGo_big : ∀ (r : List Int) (o : Int), (r.length : Int) < o → isGo o r = false := by
  intro r
  induction r with
  | nil => intro o h; simp [isGo] at h ⊢; omega
  | cons d r ih =>
    intro o h
    simp only [isGo]
    split
    · rfl
    · rename_i hc
      simp at hc
      simp only [List.length_cons] at h
      exact ih _ (by omega)
theorem im_is (n : Int) (hn : n ≤ 24) : ∀ (r : List Int) (o : Int), 0 ≤ o → (r.length : Int) ≤ n → imGo n o r = isGo o r := by
  intro r
  induction r with
  | nil => intro o _ _; rfl
  | cons d r ih =>
    intro o ho hl
    simp only [List.length_cons] at hl
    simp only [imGo, isGo]
    by_cases h0 : o = 0
    · simp [h0]
    by_cases h1 : d < 0
    · simp [h1, show ¬ 0 ≤ d by omega]
    by_cases h2 : n ≤ d
    · rw [if_pos (by simp [h2])]
      by_cases h3 : d ≤ 24
      · rw [if_neg (by simp [h0, h3]; omega), isGo_big _ _ (by omega)]
      · rw [if_pos (by simp; omega)]
    · rw [if_neg (by simp [h0]; omega), if_neg (by simp [h0]; omega), ih _ (by omega) (by omega)]
      congr 1; omega
theorem drop_at {xs : List Int} {k : Nat} {x : Int} (h : xs[k]? = some x) : xs.drop k = x :: xs.drop (k + 1) := by
  obtain ⟨hk, rfl⟩ := List.getElem?_eq_some_iff.1 h
  exact List.drop_eq_getElem_cons hk
theorem isGo_stop {xs : List Int} {k : Nat} {x o : Int} (h : xs[k]? = some x) (hs : (o == 0 || !(decide (0 ≤ x) && decide (x ≤ 24))) = true) : isGo o (xs.drop k) = false := by
  rw [drop_at h, isGo, if_pos hs]
theorem isGo_step {xs : List Int} {k : Nat} {x o : Int} (h : xs[k]? = some x) (h0 : o ≠ 0) (h1 : 0 ≤ x) (h2 : x ≤ 24) : isGo o (xs.drop k) = isGo (o - 1 + x) (xs.drop (k + 1)) := by
  rw [drop_at h, isGo, if_neg (by simp [h0, h1, h2])]
theorem imGo_stop {n : Int} {xs : List Int} {k : Nat} {x o : Int} (h : xs[k]? = some x) (hs : (o == 0 || decide (x < 0) || decide (n ≤ x)) = true) : imGo n o (xs.drop k) = false := by
  rw [drop_at h, imGo, if_pos hs]
theorem imGo_step {n : Int} {xs : List Int} {k : Nat} {x o : Int} (h : xs[k]? = some x) (h0 : o ≠ 0) (h1 : 0 ≤ x) (h2 : x < n) : imGo n o (xs.drop k) = imGo n (o + (x - 1)) (xs.drop (k + 1)) := by
  rw [drop_at h, imGo, if_neg (by simp [h0]; omega)]
theorem isTree_im {xs : List Int} (h : 1 ≤ xs.length) (h' : xs.length ≤ 24) : isTree xs = imGo xs.length 1 xs := by
  rw [im_is _ (by omega) _ _ (by omega) (by omega)]
  simp [isTree, h, h']
theorem isTree_is {xs : List Int} (h : 1 ≤ xs.length) (h' : xs.length ≤ 24) : isTree xs = isGo 1 xs := by simp [isTree, h, h']
theorem isTree_no {xs : List Int} (h : ¬ (1 ≤ xs.length ∧ xs.length ≤ 24)) : isTree xs = false := by
  simp only [isTree, Bool.and_eq_false_iff, decide_eq_false_iff_not]
  left; omega

/-- a list for a tree, nothing and the code 1 otherwise -/
def cond (xs l : List Int) : List Int × Int := if isTree xs then (l, 0) else ([], 1)
theorem cond_yes {xs l : List Int} (h : isTree xs = true) : cond xs l = (l, 0) := by simp [cond, h]
theorem cond_no {xs l : List Int} (h : isTree xs = false) : cond xs l = ([], 1) := by simp [cond, h]
theorem tree_len {xs : List Int} (h : isTree xs = true) : 1 ≤ xs.length ∧ xs.length ≤ 24 := by
  simp only [isTree, Bool.and_eq_true, decide_eq_true_eq] at h
  exact h.1
/-- the leaves among the first k nodes -/
def leaves (xs : List Int) : Nat → List Int
  | 0 => []
  | k + 1 => leaves xs k ++ (if xs[k]? = some 0 then [(k : Int)] else [])
theorem leaves_len (xs : List Int) : ∀ k, (leaves xs k).length ≤ k := by
  intro k
  induction k with
  | zero => simp [leaves]
  | succ k ih => simp only [leaves, List.length_append]; split <;> simp <;> omega
theorem leaves_hit {xs : List Int} {k : Nat} (h : xs[k]? = some 0) : leaves xs (k + 1) = leaves xs k ++ [(k : Int)] := by simp [leaves, h]
theorem leaves_miss {xs : List Int} {k : Nat} {x : Int} (h : xs[k]? = some x) (hx : x ≠ 0) : leaves xs (k + 1) = leaves xs k := by simp [leaves, h, hx]

/-- the loop from 'open' on stops within the list, over degrees in range -/
def ok : Int → List Int → Prop
  | o, [] => o ≤ 0
  | o, d :: r => o ≤ 0 ∨ (0 ≤ d ∧ d ≤ 24 ∧ ok (o - 1 + d) r)
/-- how many degrees it takes -/
def span : Int → List Int → Nat
  | _, [] => 0
  | o, d :: r => if o ≤ 0 then 0 else span (o - 1 + d) r + 1
theorem isGo_ok : ∀ (l : List Int) (o o' : Int), isGo o l = true → o' ≤ o → ok o' l := by
  intro l
  induction l with
  | nil => intro o o' h ho; simp [isGo] at h; simp only [ok]; omega
  | cons d r ih =>
    intro o o' h ho
    simp only [isGo] at h
    split at h
    · cases h
    · rename_i hc
      simp at hc
      by_cases h0 : o' ≤ 0
      · exact .inl h0
      · exact .inr ⟨hc.2.1, hc.2.2, ih _ _ h (by omega)⟩
theorem isGo_drop {xs : List Int} (h : isGo 1 xs = true) : ∀ v, v ≤ xs.length → ∃ s : Int, 0 ≤ s ∧ isGo s (xs.drop v) = true ∧ (v < xs.length → 1 ≤ s) := by
  intro v
  induction v with
  | zero => intro _; exact ⟨1, by omega, by simpa using h, fun _ => by omega⟩
  | succ v ih =>
    intro hv
    obtain ⟨s, h0, h1, h2⟩ := ih (by omega)
    have hx : xs[v]? = some xs[v] := List.getElem?_eq_getElem (by omega)
    rw [drop_at hx, isGo] at h1
    split at h1
    · cases h1
    · rename_i hc
      simp at hc
      refine ⟨_, ?_, h1, fun hv' => ?_⟩
      · omega
      · rw [drop_at (List.getElem?_eq_getElem hv'), isGo] at h1
        split at h1
        · cases h1
        · rename_i hc'
          simp at hc'
          omega
theorem tree_go {xs : List Int} (h : isTree xs = true) : isGo 1 xs = true := by
  simp only [isTree, Bool.and_eq_true, decide_eq_true_eq] at h
  exact h.2
theorem tree_ok {xs : List Int} (h : isTree xs = true) {v : Nat} (hv : v < xs.length) : ok 1 (xs.drop v) := by
  obtain ⟨s, _, h1, h2⟩ := isGo_drop (tree_go h) v (by omega)
  exact isGo_ok _ _ _ h1 (h2 hv)
theorem span_le : ∀ (l : List Int) (o : Int), span o l ≤ l.length := by
  intro l
  induction l with
  | nil => intro o; simp [span]
  | cons d r ih => intro o; simp only [span]; split <;> simp; exact ih _
theorem span_stop {o : Int} (h : o ≤ 0) (l : List Int) : span o l = 0 := by cases l <;> simp [span, h]
theorem span_step {xs : List Int} {k : Nat} {x o : Int} (h : xs[k]? = some x) (ho : 0 < o) : span o (xs.drop k) = span (o - 1 + x) (xs.drop (k + 1)) + 1 := by
  rw [drop_at h, span, if_neg (by omega)]
theorem ok_step {xs : List Int} {k : Nat} {x o : Int} (h : xs[k]? = some x) (ho : 0 < o) (hk : ok o (xs.drop k)) : 0 ≤ x ∧ x ≤ 24 ∧ ok (o - 1 + x) (xs.drop (k + 1)) := by
  rw [drop_at h] at hk
  rcases hk with hk | hk
  · omega
  · exact hk
theorem ok_in {xs : List Int} {k : Nat} {o : Int} (ho : 0 < o) (hk : ok o (xs.drop k)) : k < xs.length := by
  rcases Nat.lt_or_ge k xs.length with h | h
  · exact h
  · rw [List.drop_of_length_le h] at hk
    simp only [ok] at hk
    omega
/-- the sizes of the first k subtrees -/
def sizes (xs : List Int) (k : Nat) : List Int := (List.range k).map fun v => (span 1 (xs.drop v) : Int)
theorem sizes_len (xs : List Int) (k : Nat) : (sizes xs k).length = k := by simp [sizes]
theorem sizes_succ (xs : List Int) (k : Nat) : sizes xs (k + 1) = sizes xs k ++ [(span 1 (xs.drop k) : Int)] := by simp [sizes, List.range_succ]
theorem sizes_at (xs : List Int) {n k : Nat} (h : k < n) : (sizes xs n)[k]? = some (span 1 (xs.drop k) : Int) := by simp [sizes, h]

/-- the code of numbers that have to be nodes of a tree of n nodes -/
def codeGo (n : Int) : List Int → Int
  | [] => 0
  | v :: r => if v < 0 ∨ n ≤ v then 2 else codeGo n r
def code (xs ns : List Int) : Int := if isTree xs then codeGo xs.length ns else 1
theorem codeGo_hit {n : Int} {ns : List Int} {k : Nat} {v : Int} (h : ns[k]? = some v) (hv : v < 0 ∨ n ≤ v) : codeGo n (ns.drop k) = 2 := by rw [drop_at h, codeGo, if_pos hv]
theorem codeGo_miss {n : Int} {ns : List Int} {k : Nat} {v : Int} (h : ns[k]? = some v) (h0 : 0 ≤ v) (h1 : v < n) : codeGo n (ns.drop k) = codeGo n (ns.drop (k + 1)) := by rw [drop_at h, codeGo, if_neg (by omega)]

theorem code_tree {xs ns : List Int} (h : code xs ns = 0) : isTree xs = true := by
  cases ht : isTree xs
  · simp [code, ht] at h
  · rfl
theorem code_node {xs : List Int} {v : Int} {r : List Int} (h : code xs (v :: r) = 0) : 0 ≤ v ∧ v.toNat < xs.length ∧ code xs r = 0 := by
  have ht := code_tree h
  simp only [code, ht, if_true, codeGo] at h
  split at h
  · cases h
  · refine ⟨by omega, by omega, ?_⟩
    simp only [code, ht, if_true]
    exact h
/-- is v in the subtree of u -/
def below (xs : List Int) (v u : Int) : Bool := decide (u ≤ v) && decide (v < u + (span 1 (xs.drop u.toNat) : Int))
def isBelow (xs : List Int) (v u : Int) : Bool × Int := if code xs [v, u] = 0 then (below xs v u, 0) else (false, code xs [v, u])
theorem isBelow_yes {xs : List Int} {v u : Int} (h : code xs [v, u] = 0) : isBelow xs v u = (below xs v u, 0) := by simp [isBelow, h]
theorem isBelow_no {xs : List Int} {v u : Int} (h : code xs [v, u] ≠ 0) : isBelow xs v u = (false, code xs [v, u]) := by simp [isBelow, h]
end Go.Proofs.Ytemfaginhipihab.M
