/- Leaf distance: the children of the root, their parts of postorder, and the row of numbers that the model works out. -/
import Derived.Test.YtgcabcmnhdaepaaLeaf
import Derived.Test.YtgcabcmnhdaepaaText
namespace Go.Proofs.Ytgcabcmnhdaepaa

namespace M
theorem span_take : ∀ (l : List Int) (o : Int) (m : Nat), span o l ≤ m → span o (l.take m) = span o l := by
  intro l
  induction l with
  | nil => intro o m _; simp
  | cons d r ih =>
    intro o m h
    by_cases ho : o ≤ 0
    · rw [span_stop ho, span_stop ho]
    · rw [span, if_neg ho] at h
      obtain ⟨m', rfl⟩ : ∃ m', m = m' + 1 := ⟨m - 1, by omega⟩
      rw [List.take_succ_cons, span, if_neg ho, span, if_neg ho, ih _ _ (by omega)]
/-- sizes in a part -/
theorem sub_span {xs : List Int} (ht : isTree xs = true) {v u : Nat} (hv : v < xs.length) (hu : u < (sub xs v).length) : span 1 ((sub xs v).drop u) = span 1 (xs.drop (v + u)) := by
  rw [sub_length] at hu
  have h := nest ht hv (q := v + u) (by omega) (by simp only [fin]; omega)
  simp only [fin] at h
  rw [sub, List.drop_take, List.drop_drop, span_take _ _ _ (by omega)]
theorem sub_at {xs : List Int} {v u : Nat} (hu : u < (sub xs v).length) : (sub xs v)[u]? = xs[v + u]? := by
  rw [sub_length] at hu
  rw [sub, List.getElem?_take, if_pos hu, List.getElem?_drop]
/-- children in a part -/
theorem sub_kid {xs : List Int} (ht : isTree xs = true) {v u d : Nat} (hv : v < xs.length) (hu : (sub xs v)[u]? = some (d : Int)) : ∀ k, k ≤ d → kidAt xs (v + u) k = v + kidAt (sub xs v) u k := by
  intro k
  induction k with
  | zero => intro _; simp [kidAt]; omega
  | succ k ih =>
    intro hk
    have h1 := kid_lt (sub_tree ht hv) hu (i := k) (by omega)
    simp only [kidAt]
    rw [ih (by omega), sub_span ht hv h1]
    omega
/-- postorder of a part -/
theorem sub_post {xs : List Int} (ht : isTree xs = true) {v : Nat} (hv : v < xs.length) : ∀ f u, u < (sub xs v).length → (postGo xs f (v + u)) = (postGo (sub xs v) f u).map (· + (v : Int)) := by
  intro f
  induction f with
  | zero => intro u _; simp [postGo]
  | succ f ih =>
    intro u hu
    obtain ⟨d, hd, _⟩ := tree_degN (sub_tree ht hv) hu
    have hd' : xs[v + u]? = some (d : Int) := by rw [← sub_at hu]; exact hd
    have hK : ∀ k, k ≤ d → postK xs f (v + u) k = (postK (sub xs v) f u k).map (· + (v : Int)) := by
      intro k
      induction k with
      | zero => intro _; simp [postK]
      | succ k ihk =>
        intro hk
        have h1 := kid_lt (sub_tree ht hv) hd (i := k) (by omega)
        rw [postK_succ, postK_succ, List.map_append, ihk (by omega), sub_kid ht hv hd k (by omega), ih _ h1]
    rw [postGo_at hd, postGo_at hd', List.map_append, hK d (Nat.le_refl _)]
    simp
    omega
/-- more depth is no harm -/
theorem post_deep {xs : List Int} (ht : isTree xs = true) : ∀ f g v, v < xs.length → xs.length - v ≤ f → xs.length - v ≤ g → postGo xs f v = postGo xs g v := by
  intro f
  induction f with
  | zero => intro g v hv h _; omega
  | succ f ih =>
    intro g v hv hf hg
    obtain ⟨g', rfl⟩ : ∃ g', g = g' + 1 := ⟨g - 1, by omega⟩
    obtain ⟨d, hd, _⟩ := tree_degN ht hv
    have hK : ∀ k, k ≤ d → postK xs f v k = postK xs g' v k := by
      intro k
      induction k with
      | zero => intro _; simp [postK]
      | succ k ihk =>
        intro hk
        have h1 := kid_lt ht hd (i := k) (by omega)
        have h2 := (kid_due ht hd k (by omega)).2.2
        rw [postK_succ, postK_succ, ihk (by omega), ih g' _ h1 (by omega) (by omega)]
    rw [postGo_at hd, postGo_at hd, hK d (Nat.le_refl _)]
/-- the children's nodes in postorder -/
theorem postK_len {xs : List Int} (ht : isTree xs = true) {d : Nat} (hd : xs[0]? = some (d : Int)) : ∀ k, k ≤ d → (postK xs 23 0 k).length + 1 = kidAt xs 0 k := by
  intro k
  induction k with
  | zero => intro _; simp [postK, kidAt]
  | succ k ihk =>
    intro hk
    have hkl := kid_lt ht hd (i := k) (by omega)
    have hkv := (kid_due ht hd k (by omega)).2.2
    rw [postK_succ, List.length_append, postGo_len ht _ _ hkl (by omega)]
    have := ihk (by omega)
    simp only [kidAt]
    omega
theorem postK_pre {xs : List Int} {f v : Nat} : ∀ (m k : Nat), k ≤ m → ∃ L, postK xs f v m = postK xs f v k ++ L := by
  intro m
  induction m with
  | zero => intro k hk; exact ⟨[], by rw [show k = 0 by omega]; simp⟩
  | succ m ih =>
    intro k hk
    rcases Nat.lt_or_ge k (m + 1) with h | h
    · obtain ⟨L, hL⟩ := ih k (by omega)
      exact ⟨L ++ postGo xs f (kidAt xs v m), by rw [postK_succ, hL, List.append_assoc]⟩
    · exact ⟨[], by rw [show k = m + 1 by omega]; simp⟩
/-- the part of postorder that belongs to a child of the root -/
theorem posts_kid {xs : List Int} (ht : isTree xs = true) {d k : Nat} (hd : xs[0]? = some (d : Int)) (hk : k < d) {j : Nat} (hj : j < (sub xs (kidAt xs 0 k)).length) : (posts xs)[j + (kidAt xs 0 k - 1)]? = ((posts (sub xs (kidAt xs 0 k)))[j]?).map (· + (kidAt xs 0 k : Int)) := by
  have hkl := kid_lt ht hd (i := k) (by omega)
  have hkv := (kid_due ht hd k (by omega)).2.2
  have h1 := postK_len ht hd k (by omega)
  obtain ⟨L, hL⟩ := postK_pre (xs := xs) (f := 23) (v := 0) d (k + 1) (by omega)
  have hs := sub_tree ht hkl
  have hlen := postGo_len ht 23 _ hkl (by omega)
  rw [sub_length] at hj
  have e : posts xs = postK xs 23 0 k ++ (postGo xs 23 (kidAt xs 0 k) ++ (L ++ [((0 : Nat) : Int)])) := by
    rw [posts, postGo_at hd, hL, postK_succ]
    simp [List.append_assoc]
  rw [e, List.getElem?_append_right (by omega), List.getElem?_append_left (by omega), show j + (kidAt xs 0 k - 1) - (postK xs 23 0 k).length = j by omega]
  have h2 := sub_post ht hkl 23 0 (by rw [sub_length]; have := span_pos hkl; omega)
  rw [Nat.add_zero] at h2
  have hsh := sub_short ht hd hk
  have htl := tree_len ht
  have hsl := tree_len hs
  rw [h2, List.getElem?_map, posts, post_deep hs 23 24 0 (by omega) (by omega) (by omega)]
/-- sizes in the part of postorder that belongs to a child of the root -/
theorem szAt_kid {xs : List Int} (ht : isTree xs = true) {d k : Nat} (hd : xs[0]? = some (d : Int)) (hk : k < d) {j : Nat} (hj : j < (sub xs (kidAt xs 0 k)).length) : szAt xs (j + (kidAt xs 0 k - 1)) = szAt (sub xs (kidAt xs 0 k)) j := by
  have hkl := kid_lt ht hd (i := k) (by omega)
  obtain ⟨u, hu, hul⟩ := posts_at (sub_tree ht hkl) hj
  have h := posts_kid ht hd hk hj
  rw [hu] at h
  rw [szAt_at h, szAt_at hu, sz, sz, show (((u : Int) + (kidAt xs 0 k : Int))).toNat = kidAt xs 0 k + u by omega, Int.toNat_natCast, sub_span ht hkl hul]
theorem szAt_root {xs : List Int} (ht : isTree xs = true) : szAt xs (xs.length - 1) = xs.length := by
  have hl := tree_len ht
  obtain ⟨d, hd, _⟩ := tree_degN ht (v := 0) (by omega)
  have hpl := posts_len ht
  have e : posts xs = postK xs 23 0 d ++ [((0 : Nat) : Int)] := by rw [posts, postGo_at hd]
  have h : (posts xs)[xs.length - 1]? = some ((0 : Nat) : Int) := by
    rw [e, List.length_append, List.length_singleton] at hpl
    rw [e, List.getElem?_append_right (by omega), show xs.length - 1 - (postK xs 23 0 d).length = 0 by omega]
    rfl
  rw [szAt_at h, sz]
  have := fin_root ht
  simp only [fin, List.drop_zero, Nat.zero_add] at this
  simpa using this
/-- the most nodes of two trees that stay if leaves alone are edited -/
def lv (xs ys : List Int) : Nat := mostL (szAt xs) (szAt ys) 0 xs.length 0 ys.length
/-- that of the first i and k children -/
def lvRow (xs ys : List Int) (i k : Nat) : Nat := mostL (szAt xs) (szAt ys) 0 (kidAt xs 0 i - 1) 0 (kidAt ys 0 k - 1)
theorem lvRow_zero {xs ys : List Int} {i k : Nat} (h : i = 0 ∨ k = 0) : lvRow xs ys i k = 0 := by
  rw [lvRow, mostL_zero]
  rcases h with rfl | rfl <;> simp [kidAt]
theorem lv_rows {xs ys : List Int} (ht : isTree xs = true) (hu : isTree ys = true) {d e : Nat} (hd : xs[0]? = some (d : Int)) (he : ys[0]? = some (e : Int)) : lv xs ys = 1 + lvRow xs ys d e := by
  have h1 := tree_len ht
  have h2 := tree_len hu
  rw [lv, mostL_roots (by omega) (by omega) (szAt_root ht) (szAt_root hu), lvRow, kids_all ht hd, kids_all hu he]
theorem lvRow_step {xs ys : List Int} (ht : isTree xs = true) (hu : isTree ys = true) {d e i k : Nat} (hd : xs[0]? = some (d : Int)) (he : ys[0]? = some (e : Int)) (hi : i < d) (hk : k < e) :
    lvRow xs ys (i + 1) (k + 1) = max (lvRow xs ys i k + lv (sub xs (kidAt xs 0 i)) (sub ys (kidAt ys 0 k))) (max (lvRow xs ys i (k + 1)) (lvRow xs ys (i + 1) k)) := by
  have hkl := kid_lt ht hd (i := i) (by omega)
  have hkv := (kid_due ht hd i (by omega)).2.2
  have hjl := kid_lt hu he (i := k) (by omega)
  have hjv := (kid_due hu he k (by omega)).2.2
  have hs1 := sub_tree ht hkl
  have hs2 := sub_tree hu hjl
  have hl1 := (tree_len hs1).1
  have hl2 := (tree_len hs2).1
  have hK : kidAt xs 0 (i + 1) = kidAt xs 0 i + (sub xs (kidAt xs 0 i)).length := by rw [sub_length]; simp only [kidAt]
  have hJ : kidAt ys 0 (k + 1) = kidAt ys 0 k + (sub ys (kidAt ys 0 k)).length := by rw [sub_length]; simp only [kidAt]
  have z1 := szAt_kid ht hd hi (j := (sub xs (kidAt xs 0 i)).length - 1) (by omega)
  have z2 := szAt_kid hu he hk (j := (sub ys (kidAt ys 0 k)).length - 1) (by omega)
  rw [szAt_root hs1] at z1
  rw [szAt_root hs2] at z2
  have hsh := mostL_shift (s := szAt xs) (z := szAt ys) (s' := szAt (sub xs (kidAt xs 0 i))) (z' := szAt (sub ys (kidAt ys 0 k))) (kidAt xs 0 i - 1) (kidAt ys 0 k - 1) _ 0 ((sub xs (kidAt xs 0 i)).length - 1) 0 ((sub ys (kidAt ys 0 k)).length - 1) (Nat.le_refl _)
    (fun j _ hj => szAt_kid ht hd hi (by omega)) (fun j _ hj => szAt_kid hu he hk (by omega))
  have hlv : lv (sub xs (kidAt xs 0 i)) (sub ys (kidAt ys 0 k)) = _ := mostL_roots (by omega) (by omega) (szAt_root hs1) (szAt_root hs2)
  rw [hlv, ← hsh]
  simp only [lvRow]
  rw [show (sub xs (kidAt xs 0 i)).length - 1 + (kidAt xs 0 i - 1) = kidAt xs 0 (i + 1) - 1 - 1 by omega] at z1 ⊢
  rw [show (sub ys (kidAt ys 0 k)).length - 1 + (kidAt ys 0 k - 1) = kidAt ys 0 (k + 1) - 1 - 1 by omega] at z2 ⊢
  rw [mostL_step (a := 0) (c := 0) (b := kidAt xs 0 (i + 1) - 1) (d := kidAt ys 0 (k + 1) - 1) (p := kidAt xs 0 i - 1) (q := kidAt ys 0 k - 1) (by omega) (by omega) (by rw [z1]; omega) (by rw [z2]; omega), Nat.zero_add, Nat.zero_add]
  omega
/-- the row of numbers that the model keeps -/
def lvL (xs ys : List Int) (i n : Nat) : List Int := (List.range n).map fun k => (lvRow xs ys i k : Int)
theorem lvL_succ (xs ys : List Int) (i n : Nat) : lvL xs ys i (n + 1) = lvL xs ys i n ++ [(lvRow xs ys i n : Int)] := by simp [lvL, List.range_succ]
theorem lvL_len (xs ys : List Int) (i n : Nat) : (lvL xs ys i n).length = n := by simp [lvL]
theorem lvL_at (xs ys : List Int) (i : Nat) {n k : Nat} (h : k < n) : (lvL xs ys i n)[k]? = some (lvRow xs ys i k : Int) := by simp [lvL, h]
theorem lvL_none (xs ys : List Int) (n : Nat) : lvL xs ys 0 n = List.replicate n 0 := by
  induction n with
  | zero => rfl
  | succ n ih => rw [lvL_succ, ih, lvRow_zero (Or.inl rfl), List.replicate_succ']; rfl
theorem lvL_one (xs ys : List Int) (i : Nat) : lvL xs ys i 1 = [0] := by simp [lvL, lvRow_zero]
theorem lvRow_le (xs ys : List Int) (i k : Nat) : lvRow xs ys i k ≤ kidAt xs 0 i := by
  have := (mostL_bd (szAt xs) (szAt ys) 0 (kidAt xs 0 i - 1) 0 (kidAt ys 0 k - 1)).1
  simp only [lvRow]
  omega
theorem lv_le (xs ys : List Int) : lv xs ys ≤ xs.length := (mostL_bd (szAt xs) (szAt ys) 0 xs.length 0 ys.length).1
end M
end Go.Proofs.Ytgcabcmnhdaepaa
