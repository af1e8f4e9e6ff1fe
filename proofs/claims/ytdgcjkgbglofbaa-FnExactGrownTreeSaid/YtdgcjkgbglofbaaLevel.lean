/- The order by levels as mathematics: nodes met are never more than the tree has, since their subtrees' sizes add up. -/
import Derived.Test.YtdgcjkgbglofbaaMath
namespace Go.Proofs.Ytdgcjkgbglofbaa.M

theorem span_add : ∀ (l : List Int) (a b : Int), (∀ x ∈ l, 0 ≤ x) → 0 ≤ a → 0 ≤ b → span (a + b) l = span a l + span b (l.drop (span a l)) := by
  intro l
  induction l with
  | nil => intro a b _ _ _; simp [span]
  | cons x r ih =>
    intro a b h ha hb
    have hx := h x (by simp)
    by_cases h0 : a ≤ 0
    · obtain rfl : a = 0 := by omega
      rw [span_stop (Int.le_refl 0)]
      simp
    · have e1 : span (a + b) (x :: r) = span (a + b - 1 + x) r + 1 := by rw [span, if_neg (by omega)]
      have e2 : span a (x :: r) = span (a - 1 + x) r + 1 := by rw [span, if_neg (by omega)]
      have e3 : a + b - 1 + x = (a - 1 + x) + b := by omega
      rw [e1, e2, e3, ih _ _ (fun y hy => h y (by simp [hy])) (by omega) hb]
      simp only [List.drop_succ_cons]
      omega

theorem tree_nonneg {xs : List Int} (h : isTree xs = true) : ∀ x ∈ xs, 0 ≤ x := by
  intro x hx
  obtain ⟨i, hi, e⟩ := List.getElem_of_mem hx
  exact (tree_deg h (v := i) (x := x) (by rw [List.getElem?_eq_getElem hi, e])).1

theorem kid_span {xs : List Int} (h : isTree xs = true) (v : Nat) : ∀ k : Nat, kidAt xs v k = v + 1 + span k (xs.drop (v + 1)) := by
  intro k
  induction k with
  | zero => simp only [kidAt]; rw [span_stop (by simp)]
  | succ k ih =>
    simp only [kidAt]
    have e := span_add (xs.drop (v + 1)) k 1 (fun x hx => tree_nonneg h x (List.mem_of_mem_drop hx)) (by omega) (by omega)
    rw [List.drop_drop] at e
    have e2 : ((k + 1 : Nat) : Int) = (k : Int) + 1 := by omega
    rw [ih, e2, e]
    omega

theorem kid_end {xs : List Int} (h : isTree xs = true) {v d : Nat} (hd : xs[v]? = some (d : Int)) : kidAt xs v d = v + span 1 (xs.drop v) := by
  rw [kid_span h, span_step hd (by omega)]
  have e : (1 : Int) - 1 + d = d := by omega
  rw [e]
  omega

def szs (xs l : List Int) : Nat := (l.map fun v => span 1 (xs.drop v.toNat)).sum
theorem szs_append (xs a b : List Int) : szs xs (a ++ b) = szs xs a + szs xs b := by simp [szs]
theorem szs_childs (xs : List Int) (v k : Nat) : v + 1 + szs xs (childs xs v k) = kidAt xs v k := by
  induction k with
  | zero => simp [childs, szs, kidAt]
  | succ k ih =>
    rw [childs_succ, szs_append]
    simp only [kidAt]
    have : szs xs [(kidAt xs v k : Int)] = span 1 (xs.drop (kidAt xs v k)) := by simp [szs]
    omega
theorem szs_len {xs : List Int} : ∀ l : List Int, (∀ v ∈ l, 0 ≤ v ∧ v.toNat < xs.length) → l.length ≤ szs xs l := by
  intro l
  induction l with
  | nil => intro _; simp
  | cons a r ih =>
    intro h
    have h1 := ih (fun v hv => h v (by simp [hv]))
    have h2 := span_pos (xs := xs) (h a (by simp)).2
    simp only [szs, List.map_cons, List.sum_cons, List.length_cons] at *
    omega

def lev (xs : List Int) : Nat → List Int → Nat → List Int
  | 0, out, _ => out
  | f + 1, out, i => match out[i]? with
    | none => out
    | some v => lev xs f (out ++ childs xs v.toNat (xs[v.toNat]?.getD 0).toNat) (i + 1)
def level (xs : List Int) : List Int := lev xs xs.length [0] 0
def lgood (xs : List Int) (i : Nat) (out : List Int) : Prop := i ≤ out.length ∧ i + szs xs (out.drop i) = xs.length ∧ ∀ v ∈ out, 0 ≤ v ∧ v.toNat < xs.length

theorem lgood_len {xs out : List Int} {i : Nat} (h : lgood xs i out) : out.length ≤ xs.length := by
  obtain ⟨h1, h2, h3⟩ := h
  have := szs_len (xs := xs) (out.drop i) (fun v hv => h3 v (List.mem_of_mem_drop hv))
  simp only [List.length_drop] at this
  omega
theorem childs_in {xs : List Int} (h : isTree xs = true) {v d : Nat} (hd : xs[v]? = some (d : Int)) : ∀ u ∈ childs xs v d, 0 ≤ u ∧ u.toNat < xs.length := by
  intro u hu
  simp only [childs, List.mem_map, List.mem_range] at hu
  obtain ⟨i, hi, rfl⟩ := hu
  exact ⟨by omega, by simpa using kid_lt h hd (i := i) (by omega)⟩
theorem lgood_step {xs out : List Int} {i v d : Nat} (ht : isTree xs = true) (h : lgood xs i out) (hv : out[i]? = some (v : Int)) (hd : xs[v]? = some (d : Int)) : lgood xs (i + 1) (out ++ childs xs v d) := by
  obtain ⟨h1, h2, h3⟩ := h
  have hi := (List.getElem?_eq_some_iff.1 hv).1
  refine ⟨by simp; omega, ?_, fun u hu => ?_⟩
  · rw [List.drop_append_of_le_length (by omega), szs_append]
    rw [drop_at hv] at h2
    have e1 : szs xs ((v : Int) :: out.drop (i + 1)) = span 1 (xs.drop v) + szs xs (out.drop (i + 1)) := by simp [szs]
    have e2 := szs_childs xs v d
    have e3 := kid_end ht hd
    omega
  · rcases List.mem_append.1 hu with hu | hu
    · exact h3 u hu
    · exact childs_in ht hd u hu
theorem lgood_start {xs : List Int} (ht : isTree xs = true) : lgood xs 0 [0] := by
  have hl := (tree_len ht).1
  refine ⟨by simp, ?_, fun v hv => by simp at hv; subst hv; simp; omega⟩
  have h0 : due xs 0 = 1 := by simp [due, bal]
  have h1 := due_span ht (v := 0) hl
  have h2 := end_le (xs := xs) (v := 0) (by omega)
  simp only [List.drop_zero, Nat.zero_add] at h1 h2
  have h3 : ¬ span 1 xs < xs.length := fun hlt => by have := due_pos ht hlt; omega
  simp [szs]
  omega
theorem lev_step {xs out : List Int} {n i v d : Nat} (hn : i < n) (hv : out[i]? = some (v : Int)) (hd : xs[v]? = some (d : Int)) : lev xs (n - i) out i = lev xs (n - (i + 1)) (out ++ childs xs v d) (i + 1) := by
  have e : n - i = (n - (i + 1)) + 1 := by omega
  rw [e, lev, hv]
  simp [hd]
theorem lev_end {xs out : List Int} {f i : Nat} (h : out.length ≤ i) : lev xs f out i = out := by
  cases f with
  | zero => rfl
  | succ f => rw [lev, List.getElem?_eq_none h]
theorem lev_len {xs : List Int} (ht : isTree xs = true) : ∀ (f : Nat) (out : List Int) (i : Nat), lgood xs i out → (lev xs f out i).length ≤ xs.length := by
  intro f
  induction f with
  | zero => intro out i h; exact lgood_len h
  | succ f ih =>
    intro out i h
    rw [lev]
    split
    · exact lgood_len h
    · rename_i v hv
      obtain ⟨h0, h1⟩ := h.2.2 v (List.mem_of_getElem? hv)
      obtain ⟨n, rfl⟩ := Int.eq_ofNat_of_zero_le h0
      obtain ⟨d, hd, _⟩ := tree_degN ht h1
      simp only [Int.toNat_natCast] at hd h1 ⊢
      rw [hd]
      exact ih _ _ (by simpa using lgood_step ht h hv hd)
end Go.Proofs.Ytdgcjkgbglofbaa.M
