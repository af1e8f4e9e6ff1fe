/- Texts of trees: the mathematics. No program is named here. -/
import Derived.Test.YtbdmmeoelagdcaaMath
namespace Go.Proofs.Ytbdmmeoelagdcaa.M
theorem go_span : ∀ (l : List Int) (o : Int), 0 ≤ o → ok o l → isGo o (l.take (span o l)) = true := by
  intro l
  induction l with
  | nil => intro o h0 h; simp only [ok] at h; simp [span, isGo]; omega
  | cons d r ih =>
    intro o h0 h
    by_cases ho : o ≤ 0
    · rw [span_stop ho]; simp [isGo]; omega
    · rcases h with h | ⟨h1, h2, h3⟩
      · omega
      · rw [span, if_neg ho, List.take_succ_cons, isGo, if_neg (by simp [h1, h2]; omega)]
        exact ih _ (by omega) h3
theorem sub_tree {xs : List Int} (h : isTree xs = true) {v : Nat} (hv : v < xs.length) : isTree (sub xs v) = true := by
  have h1 := go_span _ 1 (by omega) (tree_ok h hv)
  have h2 := span_pos hv
  have h3 := end_le (xs := xs) (v := v) (by omega)
  have h4 := (tree_len h).2
  simp only [isTree, Bool.and_eq_true, decide_eq_true_eq, sub_length]
  exact ⟨⟨h2, by omega⟩, h1⟩
/-- the text of a tree, f levels deep at most -/
def textL : Nat → List Int → ByteArray
  | 0, _ => ByteArray.empty
  | f + 1, xs => (List.range (xs[0]?.getD 0).toNat).foldl (fun a i => a ++ textL f (sub xs (kidAt xs 0 i))) (ByteArray.mk #[40]) ++ ByteArray.mk #[41]
/-- that of the first k children, with what opens it -/
def textK (f : Nat) (xs : List Int) (k : Nat) : ByteArray := (List.range k).foldl (fun a i => a ++ textL f (sub xs (kidAt xs 0 i))) (ByteArray.mk #[40])
theorem textK_zero (f : Nat) (xs : List Int) : textK f xs 0 = ByteArray.mk #[40] := rfl
theorem textK_succ (f : Nat) (xs : List Int) (k : Nat) : textK f xs (k + 1) = textK f xs k ++ textL f (sub xs (kidAt xs 0 k)) := by simp [textK, List.range_succ, List.foldl_append]
theorem textL_at {f : Nat} {xs : List Int} {d : Nat} (h : xs[0]? = some (d : Int)) : textL (f + 1) xs = textK f xs d ++ ByteArray.mk #[41] := by rw [textL, h]; rfl
/-- the subtrees below the root end the list -/
theorem kids_all {xs : List Int} (ht : isTree xs = true) {d : Nat} (hd : xs[0]? = some (d : Int)) : kidAt xs 0 d = xs.length := by
  have h := kid_due ht hd d (by omega)
  have h2 : due xs 0 = 1 := by simp [due, bal]
  rcases Nat.lt_or_ge (kidAt xs 0 d) xs.length with h3 | h3
  · have := due_pos ht h3; omega
  · omega
theorem sub_short {xs : List Int} (ht : isTree xs = true) {d : Nat} (hd : xs[0]? = some (d : Int)) {i : Nat} (hi : i < d) : (sub xs (kidAt xs 0 i)).length < xs.length := by
  have h1 := (kid_due ht hd i (by omega)).2.2
  have h2 := kid_lt ht hd (i := i) (by omega)
  have h3 := end_le (xs := xs) (v := kidAt xs 0 i) (by omega)
  rw [sub_length]; omega
theorem open_size : (ByteArray.mk #[40]).size = 1 := by decide
theorem close_size : (ByteArray.mk #[41]).size = 1 := by decide
theorem textL_size : ∀ (f : Nat) (xs : List Int), isTree xs = true → xs.length ≤ f → (textL f xs).size = 2 * xs.length := by
  intro f
  induction f with
  | zero => intro xs ht h; have := (tree_len ht).1; omega
  | succ f ih =>
    intro xs ht hf
    have hl := tree_len ht
    obtain ⟨d, hd, _⟩ := tree_degN ht (v := 0) (by omega)
    have hK : ∀ k, k ≤ d → (textK f xs k).size + 1 = 2 * kidAt xs 0 k := by
      intro k
      induction k with
      | zero => intro _; rw [textK_zero, open_size]; simp [kidAt]
      | succ k ihk =>
        intro hk
        have h1 := sub_short ht hd (i := k) (by omega)
        have h2 := kid_lt ht hd (i := k) (by omega)
        rw [textK_succ, ByteArray.size_append, ih _ (sub_tree ht h2) (by omega), sub_length]
        have := ihk (by omega)
        simp only [kidAt]
        omega
    have h1 := hK d (Nat.le_refl _)
    rw [kids_all ht hd] at h1
    rw [textL_at hd, ByteArray.size_append, close_size]
    omega
theorem textK_size {f : Nat} {xs : List Int} (ht : isTree xs = true) (hf : xs.length ≤ f + 1) {d : Nat} (hd : xs[0]? = some (d : Int)) : ∀ k, k ≤ d → (textK f xs k).size + 1 = 2 * kidAt xs 0 k := by
  intro k
  induction k with
  | zero => intro _; rw [textK_zero, open_size]; simp [kidAt]
  | succ k ihk =>
    intro hk
    have h1 := sub_short ht hd (i := k) (by omega)
    have h2 := kid_lt ht hd (i := k) (by omega)
    rw [textK_succ, ByteArray.size_append, textL_size f _ (sub_tree ht h2) (by omega), sub_length]
    have := ihk (by omega)
    simp only [kidAt]
    omega
end Go.Proofs.Ytbdmmeoelagdcaa.M
