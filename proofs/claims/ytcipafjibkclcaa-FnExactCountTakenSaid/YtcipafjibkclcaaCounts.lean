/- Numbers of trees by states, size by size: the mathematics; sums wrap as the program's do. No program's function is named here. -/
import Derived.Test.YtcipafjibkclcaaAutoM
import Derived.IntWalk
namespace Go.Proofs.Ytcipafjibkclcaa
namespace M
/-- a number added at a place, as int64 -/
def addAt (R : List Int) (t : Nat) (x y : Int) : List Int := R.set t (IntKind.i64.wrap (R[t]?.getD 0 + IntKind.i64.wrap (x * y)))
theorem addAt_len (R : List Int) (t : Nat) (x y : Int) : (addAt R t x y).length = R.length := by simp [addAt]
def cellF (Ss A B : List (List Int)) (a b s : Nat) : Nat → List Int → List Int
  | 0, R => R
  | c + 1, R => addAt (cellF Ss A B a b s c R) (stp Ss s c).toNat ((A[a]?.getD [])[s]?.getD 0) ((B[b]?.getD [])[c]?.getD 0)
/-- all pairs of states of the trees of a and of b nodes -/
def rowF (Ss A B : List (List Int)) (m a b : Nat) : Nat → List Int → List Int
  | 0, R => R
  | s + 1, R => cellF Ss A B a b s m (rowF Ss A B m a b s R)
/-- the last child's numbers of nodes from 1 on -/
def sizeF (Ss T : List (List Int)) (m L : Nat) : Nat → List Int → List Int
  | 0, R => R
  | j + 1, R => rowF Ss T T m (L - (j + 1)) (j + 1) m (sizeF Ss T m L j R)
theorem cellF_len (Ss A B : List (List Int)) (a b s : Nat) (R : List Int) : ∀ c, (cellF Ss A B a b s c R).length = R.length := by
  intro c
  induction c with
  | zero => rfl
  | succ c ih => rw [cellF, addAt_len, ih]
theorem rowF_len (Ss A B : List (List Int)) (m a b : Nat) (R : List Int) : ∀ s, (rowF Ss A B m a b s R).length = R.length := by
  intro s
  induction s with
  | zero => rfl
  | succ s ih => rw [rowF, cellF_len, ih]
theorem sizeF_len (Ss T : List (List Int)) (m L : Nat) (R : List Int) : ∀ j, (sizeF Ss T m L j R).length = R.length := by
  intro j
  induction j with
  | zero => rfl
  | succ j ih => rw [sizeF, rowF_len, ih]
/-- the row of L nodes, behind those of fewer -/
def nextR (Ss T : List (List Int)) (m : Nat) (st : Int) (L : Nat) : List Int := if L = 1 then (List.replicate m 0).set st.toNat 1 else sizeF Ss T m L (L - 1) (List.replicate m 0)
theorem nextR_len (Ss T : List (List Int)) (m : Nat) (st : Int) (L : Nat) : (nextR Ss T m st L).length = m := by
  rw [nextR]
  split
  · simp
  · rw [sizeF_len]; simp
/-- the rows of 1 to k nodes, behind the row of none -/
def cntT (Ss : List (List Int)) (m : Nat) (st : Int) (R0 : List Int) : Nat → List (List Int)
  | 0 => [R0]
  | k + 1 => cntT Ss m st R0 k ++ [nextR Ss (cntT Ss m st R0 k) m st (k + 1)]
theorem cntT_len (Ss : List (List Int)) (m : Nat) (st : Int) (R0 : List Int) : ∀ k, (cntT Ss m st R0 k).length = k + 1 := by
  intro k
  induction k with
  | zero => rfl
  | succ k ih => simp [cntT, ih]
theorem cntT_row (Ss : List (List Int)) (m : Nat) (st : Int) (R0 : List Int) : ∀ k j, 1 ≤ j → j ≤ k → ∃ R, (cntT Ss m st R0 k)[j]? = some R ∧ R.length = m := by
  intro k
  induction k with
  | zero => intro j h1 h2; omega
  | succ k ih =>
    intro j h1 h2
    have hl := cntT_len Ss m st R0 k
    rcases Nat.lt_or_ge k j with hj | hj
    · obtain rfl : j = k + 1 := by omega
      exact ⟨nextR Ss (cntT Ss m st R0 k) m st (k + 1), by rw [cntT, List.getElem?_append_right (by omega), hl]; simp, nextR_len _ _ _ _ _⟩
    · obtain ⟨R, e1, e2⟩ := ih j h1 hj
      exact ⟨R, by rw [cntT, List.getElem?_append_left (by omega)]; exact e1, e2⟩
/-- the row of none is not looked at -/
theorem cellF_congr {Ss A B A' B' : List (List Int)} {a b s : Nat} (ha : A[a]?.getD [] = A'[a]?.getD []) (hb : B[b]?.getD [] = B'[b]?.getD []) (R : List Int) : ∀ c, cellF Ss A B a b s c R = cellF Ss A' B' a b s c R := by
  intro c
  induction c with
  | zero => rfl
  | succ c ih => rw [cellF, cellF, ih, ha, hb]
theorem rowF_congr {Ss A B A' B' : List (List Int)} {m a b : Nat} (ha : A[a]?.getD [] = A'[a]?.getD []) (hb : B[b]?.getD [] = B'[b]?.getD []) (R : List Int) : ∀ s, rowF Ss A B m a b s R = rowF Ss A' B' m a b s R := by
  intro s
  induction s with
  | zero => rfl
  | succ s ih => rw [rowF, rowF, ih, cellF_congr ha hb]
theorem sizeF_congr {Ss T T' : List (List Int)} {m L : Nat} (R : List Int) : ∀ j, (∀ i, 1 ≤ i → i < L → T[i]?.getD [] = T'[i]?.getD []) → j < L → sizeF Ss T m L j R = sizeF Ss T' m L j R := by
  intro j
  induction j with
  | zero => intro _ _; rfl
  | succ j ih =>
    intro h hj
    rw [sizeF, sizeF, ih h (by omega)]
    exact rowF_congr (h _ (by omega) (by omega)) (h _ (by omega) hj) _ _
theorem nextR_congr {Ss T T' : List (List Int)} {m : Nat} {st : Int} {L : Nat} (hL : 1 ≤ L) (h : ∀ i, 1 ≤ i → i < L → T[i]?.getD [] = T'[i]?.getD []) : nextR Ss T m st L = nextR Ss T' m st L := by
  rw [nextR, nextR]
  split
  · rfl
  · exact sizeF_congr _ _ h (by omega)
theorem cntT_congr (Ss : List (List Int)) (m : Nat) (st : Int) (R0 R1 : List Int) : ∀ k i, 1 ≤ i → (cntT Ss m st R0 k)[i]? = (cntT Ss m st R1 k)[i]? := by
  intro k
  induction k with
  | zero => intro i hi; rw [cntT, cntT, List.getElem?_eq_none (by simp; omega), List.getElem?_eq_none (by simp; omega)]
  | succ k ih =>
    intro i hi
    have hl := cntT_len Ss m st R0 k
    have hl2 := cntT_len Ss m st R1 k
    rw [cntT, cntT, nextR_congr (T' := cntT Ss m st R1 k) (by omega) (fun j h1 _ => by rw [ih j h1])]
    rcases Nat.lt_or_ge i (k + 1) with h | h
    · rw [List.getElem?_append_left (by omega), List.getElem?_append_left (by omega), ih i hi]
    · rw [List.getElem?_append_right (by omega), List.getElem?_append_right (by omega), hl, hl2]
/-- the numbers of trees of n nodes by states -/
def counts (Ss : List (List Int)) (m : Nat) (st : Int) (n : Nat) : List Int := (cntT Ss m st [] n)[n]?.getD []
theorem counts_at (Ss : List (List Int)) (m : Nat) (st : Int) (R0 : List Int) {n : Nat} (hn : 1 ≤ n) : (cntT Ss m st R0 n)[n]? = some (counts Ss m st n) := by
  obtain ⟨R, e1, _⟩ := cntT_row Ss m st R0 n n hn (Nat.le_refl _)
  rw [e1, counts, ← cntT_congr Ss m st R0 [] n n hn, e1]; rfl
theorem counts_len (Ss : List (List Int)) (m : Nat) (st : Int) {n : Nat} (hn : 1 ≤ n) : (counts Ss m st n).length = m := by
  obtain ⟨R, e1, e2⟩ := cntT_row Ss m st [] n n hn (Nat.le_refl _)
  rw [counts, e1]; exact e2
end M
end Go.Proofs.Ytcipafjibkclcaa
