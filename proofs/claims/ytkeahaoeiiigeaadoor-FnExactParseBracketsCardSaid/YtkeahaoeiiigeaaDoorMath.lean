/- Plain facts on lists of degrees: when they are a tree, by the two loops. No program is named here. -/
namespace Go.Proofs.YtkeahaoeiiigeaaDoor.M
/-- the model's loop -/
def isGo : Int → List Int → Bool
  | o, [] => o == 0
  | o, d :: r => if o == 0 || !(decide (0 ≤ d) && decide (d ≤ 24)) then false else isGo (o - 1 + d) r
def isTree (ds : List Int) : Bool := decide (1 ≤ ds.length) && decide (ds.length ≤ 24) && isGo 1 ds
/-- the program's loop -/
def imGo (n : Int) : Int → List Int → Bool
  | m, [] => m == 0
  | m, d :: r => if m == 0 || decide (d < 0) || decide (n ≤ d) then false else imGo n (m + (d - 1)) r
theorem isGo_big : ∀ (r : List Int) (o : Int), (r.length : Int) < o → isGo o r = false := by
  intro r
  induction r with
  | nil => intro o h; simp [isGo] at h ⊢; omega
  | cons d r ih =>
    intro o h
    simp only [isGo]
    split
    · rfl
    · rename_i hc
      simp at hc
      simp only [List.length_cons] at h
      exact ih _ (by omega)
theorem im_is (n : Int) (hn : n ≤ 24) : ∀ (r : List Int) (o : Int), 0 ≤ o → (r.length : Int) ≤ n → imGo n o r = isGo o r := by
  intro r
  induction r with
  | nil => intro o _ _; rfl
  | cons d r ih =>
    intro o ho hl
    simp only [List.length_cons] at hl
    simp only [imGo, isGo]
    by_cases h0 : o = 0
    · simp [h0]
    by_cases h1 : d < 0
    · simp [h1, show ¬ 0 ≤ d by omega]
    by_cases h2 : n ≤ d
    · rw [if_pos (by simp [h2])]
      by_cases h3 : d ≤ 24
      · rw [if_neg (by simp [h0, h3]; omega), isGo_big _ _ (by omega)]
      · rw [if_pos (by simp; omega)]
    · rw [if_neg (by simp [h0]; omega), if_neg (by simp [h0]; omega), ih _ (by omega) (by omega)]
      congr 1; omega
theorem drop_at {xs : List Int} {k : Nat} {x : Int} (h : xs[k]? = some x) : xs.drop k = x :: xs.drop (k + 1) := by
  obtain ⟨hk, rfl⟩ := List.getElem?_eq_some_iff.1 h
  exact List.drop_eq_getElem_cons hk
theorem isGo_stop {xs : List Int} {k : Nat} {x o : Int} (h : xs[k]? = some x) (hs : (o == 0 || !(decide (0 ≤ x) && decide (x ≤ 24))) = true) : isGo o (xs.drop k) = false := by
  rw [drop_at h, isGo, if_pos hs]
theorem isGo_step {xs : List Int} {k : Nat} {x o : Int} (h : xs[k]? = some x) (h0 : o ≠ 0) (h1 : 0 ≤ x) (h2 : x ≤ 24) : isGo o (xs.drop k) = isGo (o - 1 + x) (xs.drop (k + 1)) := by
  rw [drop_at h, isGo, if_neg (by simp [h0, h1, h2])]
theorem imGo_stop {n : Int} {xs : List Int} {k : Nat} {x o : Int} (h : xs[k]? = some x) (hs : (o == 0 || decide (x < 0) || decide (n ≤ x)) = true) : imGo n o (xs.drop k) = false := by
  rw [drop_at h, imGo, if_pos hs]
theorem imGo_step {n : Int} {xs : List Int} {k : Nat} {x o : Int} (h : xs[k]? = some x) (h0 : o ≠ 0) (h1 : 0 ≤ x) (h2 : x < n) : imGo n o (xs.drop k) = imGo n (o + (x - 1)) (xs.drop (k + 1)) := by
  rw [drop_at h, imGo, if_neg (by simp [h0]; omega)]
theorem isTree_im {xs : List Int} (h : 1 ≤ xs.length) (h' : xs.length ≤ 24) : isTree xs = imGo xs.length 1 xs := by
  rw [im_is _ (by omega) _ _ (by omega) (by omega)]
  simp [isTree, h, h']
theorem isTree_is {xs : List Int} (h : 1 ≤ xs.length) (h' : xs.length ≤ 24) : isTree xs = isGo 1 xs := by simp [isTree, h, h']
theorem isTree_no {xs : List Int} (h : ¬ (1 ≤ xs.length ∧ xs.length ≤ 24)) : isTree xs = false := by
  simp only [isTree, Bool.and_eq_false_iff, decide_eq_false_iff_not]
  left; omega

/-- a list for a tree, nothing and the code 1 otherwise -/
def cond (xs l : List Int) : List Int × Int := if isTree xs then (l, 0) else ([], 1)
theorem cond_yes {xs l : List Int} (h : isTree xs = true) : cond xs l = (l, 0) := by simp [cond, h]
theorem cond_no {xs l : List Int} (h : isTree xs = false) : cond xs l = ([], 1) := by simp [cond, h]
theorem tree_len {xs : List Int} (h : isTree xs = true) : 1 ≤ xs.length ∧ xs.length ≤ 24 := by
  simp only [isTree, Bool.and_eq_true, decide_eq_true_eq] at h
  exact h.1
/-- the leaves among the first k nodes -/
def leaves (xs : List Int) : Nat → List Int
  | 0 => []
  | k + 1 => leaves xs k ++ (if xs[k]? = some 0 then [(k : Int)] else [])
theorem leaves_len (xs : List Int) : ∀ k, (leaves xs k).length ≤ k := by
  intro k
  induction k with
  | zero => simp [leaves]
  | succ k ih => simp only [leaves, List.length_append]; split <;> simp <;> omega
theorem leaves_hit {xs : List Int} {k : Nat} (h : xs[k]? = some 0) : leaves xs (k + 1) = leaves xs k ++ [(k : Int)] := by simp [leaves, h]
theorem leaves_miss {xs : List Int} {k : Nat} {x : Int} (h : xs[k]? = some x) (hx : x ≠ 0) : leaves xs (k + 1) = leaves xs k := by simp [leaves, h, hx]

/-- the loop from 'open' on stops within the list, over degrees in range -/
def ok : Int → List Int → Prop
  | o, [] => o ≤ 0
  | o, d :: r => o ≤ 0 ∨ (0 ≤ d ∧ d ≤ 24 ∧ ok (o - 1 + d) r)
/-- how many degrees it takes -/
def span : Int → List Int → Nat
  | _, [] => 0
  | o, d :: r => if o ≤ 0 then 0 else span (o - 1 + d) r + 1
theorem isGo_ok : ∀ (l : List Int) (o o' : Int), isGo o l = true → o' ≤ o → ok o' l := by
  intro l
  induction l with
  | nil => intro o o' h ho; simp [isGo] at h; simp only [ok]; omega
  | cons d r ih =>
    intro o o' h ho
    simp only [isGo] at h
    split at h
    · cases h
    · rename_i hc
      simp at hc
      by_cases h0 : o' ≤ 0
      · exact .inl h0
      · exact .inr ⟨hc.2.1, hc.2.2, ih _ _ h (by omega)⟩
theorem isGo_drop {xs : List Int} (h : isGo 1 xs = true) : ∀ v, v ≤ xs.length → ∃ s : Int, 0 ≤ s ∧ isGo s (xs.drop v) = true ∧ (v < xs.length → 1 ≤ s) := by
  intro v
  induction v with
  | zero => intro _; exact ⟨1, by omega, by simpa using h, fun _ => by omega⟩
  | succ v ih =>
    intro hv
    obtain ⟨s, h0, h1, h2⟩ := ih (by omega)
    have hx : xs[v]? = some xs[v] := List.getElem?_eq_getElem (by omega)
    rw [drop_at hx, isGo] at h1
    split at h1
    · cases h1
    · rename_i hc
      simp at hc
      refine ⟨_, ?_, h1, fun hv' => ?_⟩
      · omega
      · rw [drop_at (List.getElem?_eq_getElem hv'), isGo] at h1
        split at h1
        · cases h1
        · rename_i hc'
          simp at hc'
          omega
theorem tree_go {xs : List Int} (h : isTree xs = true) : isGo 1 xs = true := by
  simp only [isTree, Bool.and_eq_true, decide_eq_true_eq] at h
  exact h.2
theorem tree_ok {xs : List Int} (h : isTree xs = true) {v : Nat} (hv : v < xs.length) : ok 1 (xs.drop v) := by
  obtain ⟨s, _, h1, h2⟩ := isGo_drop (tree_go h) v (by omega)
  exact isGo_ok _ _ _ h1 (h2 hv)
theorem span_le : ∀ (l : List Int) (o : Int), span o l ≤ l.length := by
  intro l
  induction l with
  | nil => intro o; simp [span]
  | cons d r ih => intro o; simp only [span]; split <;> simp; exact ih _
theorem span_stop {o : Int} (h : o ≤ 0) (l : List Int) : span o l = 0 := by cases l <;> simp [span, h]
theorem span_step {xs : List Int} {k : Nat} {x o : Int} (h : xs[k]? = some x) (ho : 0 < o) : span o (xs.drop k) = span (o - 1 + x) (xs.drop (k + 1)) + 1 := by
  rw [drop_at h, span, if_neg (by omega)]
theorem ok_step {xs : List Int} {k : Nat} {x o : Int} (h : xs[k]? = some x) (ho : 0 < o) (hk : ok o (xs.drop k)) : 0 ≤ x ∧ x ≤ 24 ∧ ok (o - 1 + x) (xs.drop (k + 1)) := by
  rw [drop_at h] at hk
  rcases hk with hk | hk
  · omega
  · exact hk
theorem ok_in {xs : List Int} {k : Nat} {o : Int} (ho : 0 < o) (hk : ok o (xs.drop k)) : k < xs.length := by
  rcases Nat.lt_or_ge k xs.length with h | h
  · exact h
  · rw [List.drop_of_length_le h] at hk
    simp only [ok] at hk
    omega
/-- the sizes of the first k subtrees -/
def sizes (xs : List Int) (k : Nat) : List Int := (List.range k).map fun v => (span 1 (xs.drop v) : Int)
theorem sizes_len (xs : List Int) (k : Nat) : (sizes xs k).length = k := by simp [sizes]
theorem sizes_succ (xs : List Int) (k : Nat) : sizes xs (k + 1) = sizes xs k ++ [(span 1 (xs.drop k) : Int)] := by simp [sizes, List.range_succ]
theorem sizes_at (xs : List Int) {n k : Nat} (h : k < n) : (sizes xs n)[k]? = some (span 1 (xs.drop k) : Int) := by simp [sizes, h]

/-- the code of numbers that have to be nodes of a tree of n nodes -/
def codeGo (n : Int) : List Int → Int
  | [] => 0
  | v :: r => if v < 0 ∨ n ≤ v then 2 else codeGo n r
def code (xs ns : List Int) : Int := if isTree xs then codeGo xs.length ns else 1
theorem codeGo_hit {n : Int} {ns : List Int} {k : Nat} {v : Int} (h : ns[k]? = some v) (hv : v < 0 ∨ n ≤ v) : codeGo n (ns.drop k) = 2 := by rw [drop_at h, codeGo, if_pos hv]
theorem codeGo_miss {n : Int} {ns : List Int} {k : Nat} {v : Int} (h : ns[k]? = some v) (h0 : 0 ≤ v) (h1 : v < n) : codeGo n (ns.drop k) = codeGo n (ns.drop (k + 1)) := by rw [drop_at h, codeGo, if_neg (by omega)]

theorem code_tree {xs ns : List Int} (h : code xs ns = 0) : isTree xs = true := by
  cases ht : isTree xs
  · simp [code, ht] at h
  · rfl
theorem code_node {xs : List Int} {v : Int} {r : List Int} (h : code xs (v :: r) = 0) : 0 ≤ v ∧ v.toNat < xs.length ∧ code xs r = 0 := by
  have ht := code_tree h
  simp only [code, ht, if_true, codeGo] at h
  split at h
  · cases h
  · refine ⟨by omega, by omega, ?_⟩
    simp only [code, ht, if_true]
    exact h
/-- is v in the subtree of u -/
def below (xs : List Int) (v u : Int) : Bool := decide (u ≤ v) && decide (v < u + (span 1 (xs.drop u.toNat) : Int))
def isBelow (xs : List Int) (v u : Int) : Bool × Int := if code xs [v, u] = 0 then (below xs v u, 0) else (false, code xs [v, u])
theorem isBelow_yes {xs : List Int} {v u : Int} (h : code xs [v, u] = 0) : isBelow xs v u = (below xs v u, 0) := by simp [isBelow, h]
theorem isBelow_no {xs : List Int} {v u : Int} (h : code xs [v, u] ≠ 0) : isBelow xs v u = (false, code xs [v, u]) := by simp [isBelow, h]

/-- the i-th child of a node: the first stands behind the node, the next one behind the subtree of the one before it -/
def kidAt (xs : List Int) (v : Nat) : Nat → Nat
  | 0 => v + 1
  | i + 1 => kidAt xs v i + span 1 (xs.drop (kidAt xs v i))
/-- the sum of what is announced, less the nodes, over a piece of the list -/
def bal : List Int → Int
  | [] => 0
  | d :: r => (d - 1) + bal r
theorem bal_append (a b : List Int) : bal (a ++ b) = bal a + bal b := by
  induction a with
  | nil => simp [bal]
  | cons d r ih => simp only [List.cons_append, bal, ih]; omega
theorem isGo_bal : ∀ (l : List Int) (o : Int), isGo o l = true → o + bal l = 0 := by
  intro l
  induction l with
  | nil => intro o h; simp [isGo] at h; simp [bal, h]
  | cons d r ih =>
    intro o h
    simp only [isGo] at h
    split at h
    · cases h
    · have := ih _ h; simp only [bal]; omega
theorem isGo_pos : ∀ (l : List Int) (o : Int), isGo o l = true → 0 ≤ o → l ≠ [] → 1 ≤ o := by
  intro l o h h0 hl
  cases l with
  | nil => exact absurd rfl hl
  | cons d r =>
    simp only [isGo] at h
    split at h
    · cases h
    · rename_i hc; simp at hc; omega
theorem span_bal : ∀ (l : List Int) (o : Int), 0 ≤ o → ok o l → o + bal (l.take (span o l)) = 0 := by
  intro l
  induction l with
  | nil => intro o h0 h; simp only [ok] at h; simp [span, bal]; omega
  | cons d r ih =>
    intro o h0 h
    by_cases ho : o ≤ 0
    · rw [span_stop ho]; simp [bal]; omega
    · rcases h with h | ⟨h1, h2, h3⟩
      · omega
      · have := ih _ (by omega) h3
        rw [span, if_neg ho, List.take_succ_cons, bal]
        omega
/-- what is due ahead of node v -/
def due (xs : List Int) (v : Nat) : Int := 1 + bal (xs.take v)
theorem due_drop {xs : List Int} (h : isTree xs = true) (v : Nat) : due xs v + bal (xs.drop v) = 0 := by
  have h1 := isGo_bal _ _ (tree_go h)
  have h2 : bal xs = bal (xs.take v) + bal (xs.drop v) := by rw [← bal_append, List.take_append_drop]
  simp only [due]; omega
theorem due_pos {xs : List Int} (h : isTree xs = true) {v : Nat} (hv : v < xs.length) : 1 ≤ due xs v := by
  obtain ⟨s, h0, h1, h2⟩ := isGo_drop (tree_go h) v (by omega)
  have := isGo_bal _ _ h1
  have := due_drop h v
  have := h2 hv
  omega
theorem due_end {xs : List Int} (h : isTree xs = true) : due xs xs.length = 0 := by
  have := due_drop h xs.length
  simpa [bal] using this
theorem due_lt {xs : List Int} (h : isTree xs = true) {v : Nat} (hv : v ≤ xs.length) (hd : 1 ≤ due xs v) : v < xs.length := by
  rcases Nat.lt_or_eq_of_le hv with h1 | h1
  · exact h1
  · subst h1; have := due_end h; omega
theorem due_succ {xs : List Int} {v : Nat} {x : Int} (h : xs[v]? = some x) : due xs (v + 1) = due xs v + (x - 1) := by
  obtain ⟨hv, rfl⟩ := List.getElem?_eq_some_iff.1 h
  simp only [due]
  rw [List.take_succ_eq_append_getElem hv, bal_append]
  simp [bal]
  omega
theorem due_span {xs : List Int} (h : isTree xs = true) {v : Nat} (hv : v < xs.length) : due xs (v + span 1 (xs.drop v)) = due xs v - 1 := by
  have h1 := span_bal _ 1 (by omega) (tree_ok h hv)
  simp only [due]
  rw [List.take_add, bal_append]
  omega
theorem span_pos {xs : List Int} {v : Nat} (hv : v < xs.length) : 1 ≤ span 1 (xs.drop v) := by
  rw [drop_at (List.getElem?_eq_getElem hv), span, if_neg (by omega)]
  omega
theorem end_le {xs : List Int} {v : Nat} (hv : v ≤ xs.length) : v + span 1 (xs.drop v) ≤ xs.length := by
  have := span_le (xs.drop v) 1
  rw [List.length_drop] at this
  omega
theorem tree_deg {xs : List Int} (h : isTree xs = true) {v : Nat} {x : Int} (hx : xs[v]? = some x) : 0 ≤ x ∧ x ≤ 24 := by
  have hv := (List.getElem?_eq_some_iff.1 hx).1
  have := ok_step hx (by omega) (tree_ok h hv)
  exact ⟨this.1, this.2.1⟩
theorem kid_due {xs : List Int} (h : isTree xs = true) {v : Nat} {x : Int} (hx : xs[v]? = some x) : ∀ i : Nat, (i : Int) ≤ x → kidAt xs v i ≤ xs.length ∧ due xs (kidAt xs v i) = due xs v + (x - 1) - i ∧ v < kidAt xs v i := by
  have hv := (List.getElem?_eq_some_iff.1 hx).1
  have hd := due_pos h hv
  intro i
  induction i with
  | zero => intro _; exact ⟨by simp only [kidAt]; omega, by simp only [kidAt]; rw [due_succ hx]; omega, by simp only [kidAt]; omega⟩
  | succ i ih =>
    intro hi
    obtain ⟨h1, h2, h3⟩ := ih (by omega)
    have h4 : kidAt xs v i < xs.length := due_lt h h1 (by rw [h2]; omega)
    refine ⟨by simp only [kidAt]; exact end_le h1, ?_, by simp only [kidAt]; omega⟩
    simp only [kidAt]
    rw [due_span h h4, h2]
    omega
/-- a child lies within the tree -/
theorem kid_lt {xs : List Int} (h : isTree xs = true) {v : Nat} {x : Int} (hx : xs[v]? = some x) {i : Nat} (hi : (i : Int) < x) : kidAt xs v i < xs.length := by
  have hv := (List.getElem?_eq_some_iff.1 hx).1
  obtain ⟨h1, h2, _⟩ := kid_due h hx i (by omega)
  have := due_pos h hv
  exact due_lt h h1 (by rw [h2]; omega)

/-- the children of a node, as numbers -/
def childs (xs : List Int) (v k : Nat) : List Int := (List.range k).map fun i => (kidAt xs v i : Int)
theorem childs_succ (xs : List Int) (v k : Nat) : childs xs v (k + 1) = childs xs v k ++ [(kidAt xs v k : Int)] := by simp [childs, List.range_succ]
theorem childs_length (xs : List Int) (v k : Nat) : (childs xs v k).length = k := by simp [childs]
def childrenOf (xs : List Int) (v : Int) : List Int × Int := if code xs [v] = 0 then (childs xs v.toNat (xs[v.toNat]?.getD 0).toNat, 0) else ([], code xs [v])
theorem childrenOf_yes {xs : List Int} {v d : Nat} (h : code xs [(v : Int)] = 0) (hd : xs[v]? = some (d : Int)) : childrenOf xs v = (childs xs v d, 0) := by simp [childrenOf, h, hd]
theorem childrenOf_no {xs : List Int} {v : Int} (h : code xs [v] ≠ 0) : childrenOf xs v = ([], code xs [v]) := by simp [childrenOf, h]
theorem tree_degN {xs : List Int} (h : isTree xs = true) {v : Nat} (hv : v < xs.length) : ∃ d : Nat, xs[v]? = some (d : Int) ∧ d ≤ 24 := by
  have hx : xs[v]? = some xs[v] := List.getElem?_eq_getElem hv
  have := tree_deg h hx
  exact ⟨xs[v].toNat, by rw [hx]; congr 1; omega, by omega⟩

/-- the degrees of the subtree of a node -/
def sub (xs : List Int) (v : Nat) : List Int := (xs.drop v).take (span 1 (xs.drop v))
theorem sub_length {xs : List Int} (v : Nat) : (sub xs v).length = span 1 (xs.drop v) := by
  have := span_le (xs.drop v) 1
  simp only [sub, List.length_take]
  omega
def subtreeAt (xs : List Int) (v : Int) : List Int × Int := if code xs [v] = 0 then (sub xs v.toNat, 0) else ([], code xs [v])
theorem subtreeAt_yes {xs : List Int} {v : Nat} (h : code xs [(v : Int)] = 0) : subtreeAt xs v = (sub xs v, 0) := by simp [subtreeAt, h]
theorem subtreeAt_no {xs : List Int} {v : Int} (h : code xs [v] ≠ 0) : subtreeAt xs v = ([], code xs [v]) := by simp [subtreeAt, h]

/-- the way down by the places of an address -/
def nodeGo (xs : List Int) : Nat → List Int → Option Nat
  | v, [] => some v
  | v, a :: r => if xs[v]?.getD 0 ≤ a then none else nodeGo xs (kidAt xs v a.toNat) r
def anyNeg (l : List Int) : Bool := l.any fun x => decide (x < 0)
def nodeAt (xs l : List Int) : Int × Int :=
  if isTree xs = false then (0, 1) else if 24 < l.length ∨ anyNeg l = true then (0, 2) else match nodeGo xs 0 l with | none => (0, 4) | some v => ((v : Int), 0)
theorem nodeAt_no {xs l : List Int} (h : isTree xs = false) : nodeAt xs l = (0, 1) := by simp [nodeAt, h]
theorem nodeAt_range {xs l : List Int} (h : isTree xs = true) (h2 : 24 < l.length ∨ anyNeg l = true) : nodeAt xs l = (0, 2) := by simp only [nodeAt, h, if_pos h2]; simp
theorem nodeAt_go {xs l : List Int} (h : isTree xs = true) (h2 : l.length ≤ 24) (h3 : anyNeg l = false) : nodeAt xs l = (match nodeGo xs 0 l with | none => (0, 4) | some v => ((v : Int), 0)) := by
  simp only [nodeAt, h]
  rw [if_neg (by simp), if_neg (by simp [h3]; omega)]
theorem anyNeg_hit {l : List Int} {k : Nat} {x : Int} (h : l[k]? = some x) (hx : x < 0) : anyNeg l = true := by
  simp only [anyNeg, List.any_eq_true]
  obtain ⟨hk, rfl⟩ := List.getElem?_eq_some_iff.1 h
  exact ⟨_, List.getElem_mem hk, by simp [hx]⟩
theorem anyNeg_take {l : List Int} {k : Nat} {x : Int} (h : l[k]? = some x) (hx : 0 ≤ x) (ht : anyNeg (l.take k) = false) : anyNeg (l.take (k + 1)) = false := by
  obtain ⟨hk, rfl⟩ := List.getElem?_eq_some_iff.1 h
  rw [List.take_succ_eq_append_getElem hk, anyNeg, List.any_append]
  simp only [anyNeg] at ht
  simp [ht, hx]
theorem anyNeg_no {l : List Int} (h : anyNeg l = false) {k : Nat} {x : Int} (hx : l[k]? = some x) : 0 ≤ x := by
  rcases Int.lt_or_le x 0 with h1 | h1
  · have := anyNeg_hit hx h1; rw [h] at this; cases this
  · exact h1
theorem nodeGo_miss {xs l : List Int} {v k : Nat} {a : Int} {d : Nat} (h : l[k]? = some a) (hd : xs[v]? = some (d : Int)) (ha : (d : Int) ≤ a) : nodeGo xs v (l.drop k) = none := by
  rw [drop_at h, nodeGo, if_pos (by simp [hd, ha])]
theorem nodeGo_step {xs l : List Int} {v k : Nat} {a : Int} {d : Nat} (h : l[k]? = some a) (hd : xs[v]? = some (d : Int)) (ha : a < (d : Int)) : nodeGo xs v (l.drop k) = nodeGo xs (kidAt xs v a.toNat) (l.drop (k + 1)) := by
  rw [drop_at h, nodeGo, if_neg (by simp [hd]; omega)]
theorem childs_at (xs : List Int) (v : Nat) {k i : Nat} (h : i < k) : (childs xs v k)[i]? = some (kidAt xs v i : Int) := by simp [childs, h]

def cmpI (x y : Int) : Int := if x < y then -1 else if y < x then 1 else 0
/-- the order of lists of one length -/
def cmpL : List Int → List Int → Int
  | x :: r, y :: s => if x < y then -1 else if y < x then 1 else cmpL r s
  | _, _ => 0
theorem cmpI_lt {x y : Int} (h : x < y) : cmpI x y = -1 := by simp [cmpI, h]
theorem cmpI_gt {x y : Int} (h : y < x) : cmpI x y = 1 := by rw [cmpI, if_neg (by omega), if_pos h]
theorem cmpI_eq {x y : Int} (h : x = y) : cmpI x y = 0 := by rw [cmpI, if_neg (by omega), if_neg (by omega)]
theorem cmpL_lt {xs ys : List Int} {k : Nat} {x y : Int} (h : xs[k]? = some x) (h' : ys[k]? = some y) (hl : x < y) : cmpL (xs.drop k) (ys.drop k) = -1 := by
  rw [drop_at h, drop_at h', cmpL, if_pos hl]
theorem cmpL_gt {xs ys : List Int} {k : Nat} {x y : Int} (h : xs[k]? = some x) (h' : ys[k]? = some y) (hl : y < x) : cmpL (xs.drop k) (ys.drop k) = 1 := by
  rw [drop_at h, drop_at h', cmpL, if_neg (by omega), if_pos hl]
theorem cmpL_eq {xs ys : List Int} {k : Nat} {x y : Int} (h : xs[k]? = some x) (h' : ys[k]? = some y) (hl : x = y) : cmpL (xs.drop k) (ys.drop k) = cmpL (xs.drop (k + 1)) (ys.drop (k + 1)) := by
  rw [drop_at h, drop_at h', cmpL, if_neg (by omega), if_neg (by omega)]
theorem cmpL_end {xs ys : List Int} : cmpL (xs.drop xs.length) ys = 0 := by simp [cmpL]
theorem cmpL_swap : ∀ (xs ys : List Int), cmpL ys xs = - cmpL xs ys := by
  intro xs
  induction xs with
  | nil => intro ys; cases ys <;> simp [cmpL]
  | cons x r ih =>
    intro ys
    cases ys with
    | nil => simp [cmpL]
    | cons y s =>
      simp only [cmpL]
      by_cases h1 : x < y
      · rw [if_neg (by omega), if_pos h1, if_pos h1]; rfl
      · by_cases h2 : y < x
        · rw [if_pos h2, if_neg h1, if_pos h2]
        · rw [if_neg h2, if_neg h1, if_neg h1, if_neg h2]; exact ih s
theorem cmpL_range : ∀ (xs ys : List Int), cmpL xs ys = -1 ∨ cmpL xs ys = 0 ∨ cmpL xs ys = 1 := by
  intro xs
  induction xs with
  | nil => intro ys; cases ys <;> simp [cmpL]
  | cons x r ih =>
    intro ys
    cases ys with
    | nil => simp [cmpL]
    | cons y s => simp only [cmpL]; split; simp; split; simp; exact ih s
/-- the order of trees: by their numbers of nodes, then by their degrees -/
def cmpT (xs ys : List Int) : Int := if xs.length = ys.length then cmpL xs ys else cmpI xs.length ys.length
def compareTrees (xs ys : List Int) : Int × Int := if isTree xs = true ∧ isTree ys = true then (cmpT xs ys, 0) else (0, 1)
theorem compareTrees_yes {xs ys : List Int} (h : isTree xs = true) (h' : isTree ys = true) : compareTrees xs ys = (cmpT xs ys, 0) := by simp [compareTrees, h, h']
theorem compareTrees_no1 {xs ys : List Int} (h : isTree xs = false) : compareTrees xs ys = (0, 1) := by simp [compareTrees, h]
theorem compareTrees_no2 {xs ys : List Int} (h : isTree ys = false) : compareTrees xs ys = (0, 1) := by simp [compareTrees, h]
theorem cmpT_swap (xs ys : List Int) : cmpT ys xs = - cmpT xs ys := by
  simp only [cmpT]
  by_cases h : xs.length = ys.length
  · rw [if_pos h, if_pos h.symm, cmpL_swap]
  · rw [if_neg h, if_neg (fun e => h e.symm)]
    simp only [cmpI]
    by_cases h1 : (xs.length : Int) < ys.length
    · rw [if_neg (by omega), if_pos h1, if_pos h1]; rfl
    · rw [if_pos (by omega), if_neg h1, if_pos (by omega)]
theorem cmpT_range (xs ys : List Int) : cmpT xs ys = -1 ∨ cmpT xs ys = 0 ∨ cmpT xs ys = 1 := by
  simp only [cmpT]
  split
  · exact cmpL_range _ _
  · simp only [cmpI]; split; simp; split <;> simp

/-- one byte read: 'ds' the degrees so far, 'st' the nodes that are open -/
def pstep (ds st : List Int) (c : Int) : Option (List Int × List Int) :=
  if c = 40 then
    (if 0 < st.length then some ((ds.set (st[st.length - 1]?.getD 0).toNat ((ds[(st[st.length - 1]?.getD 0).toNat]?.getD 0) + 1)) ++ [0], st ++ [(ds.length : Int)])
     else if ds = [] then some ([0], [0]) else none)
  else if c = 41 then (if 0 < st.length then some (ds, st.dropLast) else none) else none
def prun : List Int → List Int → List Int → Option (List Int × List Int)
  | ds, st, [] => some (ds, st)
  | ds, st, c :: r => match pstep ds st c with | none => none | some (ds', st') => prun ds' st' r
def parse (l : List Int) : List Int × Int :=
  if 48 < l.length then ([], 6) else match prun [] [] l with | some (ds, []) => (if ds = [] then ([], 6) else (ds, 0)) | _ => ([], 6)
theorem prun_step {l ds st ds' st' : List Int} {k : Nat} {c : Int} (h : l[k]? = some c) (hs : pstep ds st c = some (ds', st')) : prun ds st (l.drop k) = prun ds' st' (l.drop (k + 1)) := by
  rw [drop_at h, prun, hs]
theorem prun_fail {l ds st : List Int} {k : Nat} {c : Int} (h : l[k]? = some c) (hs : pstep ds st c = none) : prun ds st (l.drop k) = none := by
  rw [drop_at h, prun, hs]
theorem parse_long {l : List Int} (h : 48 < l.length) : parse l = ([], 6) := by rw [parse, if_pos h]
theorem parse_fail {l : List Int} (h : prun [] [] l = none) : parse l = ([], 6) := by rw [parse, h]; split <;> rfl
theorem parse_open {l ds st : List Int} (h : prun [] [] l = some (ds, st)) (hs : 0 < st.length) : parse l = ([], 6) := by
  rw [parse, h]
  cases st with
  | nil => simp at hs
  | cons a r => split <;> rfl
theorem parse_empty {l : List Int} (h : prun [] [] l = some ([], [])) : parse l = ([], 6) := by rw [parse, h]; split <;> simp
theorem parse_done {l ds : List Int} (hl : l.length ≤ 48) (h : prun [] [] l = some (ds, [])) (hs : ds ≠ []) : parse l = (ds, 0) := by
  rw [parse, if_neg (by omega), h]
  simp [hs]
theorem pstep_open {ds st : List Int} {p : Int} {d : Int} (hp : st[st.length - 1]? = some p) (hd : ds[p.toNat]? = some d) : pstep ds st 40 = some (ds.set p.toNat (d + 1) ++ [0], st ++ [(ds.length : Int)]) := by
  have hl : 0 < st.length := by have := (List.getElem?_eq_some_iff.1 hp).1; omega
  simp [pstep, hl, hp, hd]
theorem pstep_first : pstep [] [] 40 = some ([0], [0]) := by simp [pstep]
theorem pstep_again {ds : List Int} (h : ds ≠ []) : pstep ds [] 40 = none := by simp [pstep, h]
theorem pstep_close {ds st : List Int} (h : 0 < st.length) : pstep ds st 41 = some (ds, st.dropLast) := by simp [pstep, h]
theorem pstep_none {ds : List Int} {c : Int} (h : ds ≠ [] ∨ c ≠ 40) : pstep ds [] c = none := by
  simp only [pstep]
  split
  · rename_i hc; rw [if_neg (by simp), if_neg (by rcases h with h | h; exact h; exact absurd hc h)]
  · split <;> simp
theorem pstep_other {ds st : List Int} {c : Int} (h : c ≠ 40) (h' : c ≠ 41) : pstep ds st c = none := by simp [pstep, h, h']
/-- what holds of a state: the open nodes are nodes; the degrees are small -/
def pgood (k : Nat) (ds st : List Int) : Prop :=
  ds.length ≤ k ∧ st.length ≤ ds.length ∧ (∀ p ∈ st, 0 ≤ p ∧ p.toNat < ds.length) ∧ (∀ d ∈ ds, 0 ≤ d ∧ d ≤ k)
theorem pgood_nil : pgood 0 [] [] := by simp [pgood]
theorem pgood_open {k : Nat} {ds st : List Int} {p d : Int} (h : pgood k ds st) (hd : ds[p.toNat]? = some d) : pgood (k + 1) (ds.set p.toNat (d + 1) ++ [0]) (st ++ [(ds.length : Int)]) := by
  obtain ⟨h1, h2, h3, h4⟩ := h
  refine ⟨by simp; omega, by simp; omega, fun q hq => ?_, fun e he => ?_⟩
  · simp only [List.length_append, List.length_set, List.length_cons, List.length_nil]
    rcases List.mem_append.1 hq with hq | hq
    · have := h3 q hq; omega
    · simp at hq; subst hq; simp
  · rcases List.mem_append.1 he with he | he
    · rcases List.mem_or_eq_of_mem_set he with he | he
      · have := h4 e he; omega
      · obtain ⟨hk, e1⟩ := List.getElem?_eq_some_iff.1 hd
        have := h4 d (e1 ▸ List.getElem_mem hk)
        omega
    · simp at he; subst he; omega
theorem pgood_first : pgood 1 [0] [0] := by simp [pgood]
theorem pgood_close {k : Nat} {ds st : List Int} (h : pgood k ds st) : pgood (k + 1) ds st.dropLast := by
  obtain ⟨h1, h2, h3, h4⟩ := h
  exact ⟨by omega, by simp; omega, fun q hq => h3 q ((List.dropLast_subset _) hq), fun e he => by have := h4 e he; omega⟩
end Go.Proofs.YtkeahaoeiiigeaaDoor.M
