/- Addresses, their mathematics: the place of the child toward a node, again and again. No program is named here. -/
import Derived.Test.YtdgcjkgbglofbaaPar
namespace Go.Proofs.Ytdgcjkgbglofbaa.M
/-- the last of the first k places whose child is not behind v -/
def lastP (xs : List Int) (a v : Nat) : Nat → Nat
  | 0 => 0
  | k + 1 => if kidAt xs a k ≤ v then k else lastP xs a v k
theorem lastP_hit {xs : List Int} {a v k : Nat} (h : kidAt xs a k ≤ v) : lastP xs a v (k + 1) = k := by rw [lastP, if_pos h]
theorem lastP_miss {xs : List Int} {a v k : Nat} (h : v < kidAt xs a k) : ∀ j, k ≤ j → lastP xs a v j = lastP xs a v k := by
  intro j
  induction j with
  | zero => intro hj; obtain rfl : k = 0 := by omega
            rfl
  | succ j ih =>
    intro hj
    rcases Nat.lt_or_ge k (j + 1) with h1 | h1
    · have := kid_le (xs := xs) (v := a) (i := k) (j := j) (by omega)
      rw [lastP, if_neg (by omega), ih (by omega)]
    · obtain rfl : k = j + 1 := by omega
      rfl
/-- the number of children -/
def deg (xs : List Int) (a : Nat) : Nat := (xs[a]?.getD 0).toNat
theorem deg_at {xs : List Int} {a d : Nat} (h : xs[a]? = some (d : Int)) : deg xs a = d := by simp [deg, h]
def place (xs : List Int) (a v : Nat) : Nat := lastP xs a v (deg xs a)
theorem place_is {xs : List Int} {a v d j : Nat} (hd : xs[a]? = some (d : Int)) (hj : j < d) (h1 : kidAt xs a j ≤ v) (h2 : v < kidAt xs a (j + 1)) : place xs a v = j := by
  rw [place, deg_at hd]
  rcases Nat.lt_or_ge (j + 1) d with h3 | h3
  · rw [lastP_miss h2 d (by omega), lastP_hit h1]
  · obtain rfl : d = j + 1 := by omega
    exact lastP_hit h1
/-- there is one: a is above v, and is not v -/
theorem place_at {xs : List Int} (ht : isTree xs = true) {a v : Nat} (h1 : a < v) (h2 : v < fin xs a) (hv : v < xs.length) : ∃ d : Nat, xs[a]? = some (d : Int) ∧ d ≤ 24 ∧ place xs a v < d ∧ kidAt xs a (place xs a v) ≤ v ∧ v < kidAt xs a (place xs a v + 1) := by
  obtain ⟨d, hd, h24⟩ := tree_degN ht (v := a) (by omega)
  have he := kid_end ht hd
  obtain ⟨j, hj, hj1, hj2⟩ := kid_tile (xs := xs) h1 d (by simp only [fin] at h2; omega)
  have hp := place_is hd hj hj1 hj2
  exact ⟨d, hd, h24, by omega, by rw [hp]; exact hj1, by rw [hp]; exact hj2⟩
def next (xs : List Int) (a v : Nat) : Nat := kidAt xs a (place xs a v)
theorem next_ok {xs : List Int} (ht : isTree xs = true) {a v : Nat} (h1 : a < v) (h2 : v < fin xs a) (hv : v < xs.length) : a < next xs a v ∧ next xs a v ≤ v ∧ v < fin xs (next xs a v) := by
  obtain ⟨d, hd, _, hp, h3, h4⟩ := place_at ht h1 h2 hv
  exact ⟨(kid_due ht hd _ (by omega)).2.2, h3, by simp only [kidAt] at h4; exact h4⟩
def addrGo (xs : List Int) (v : Nat) : Nat → Nat → List Int
  | 0, _ => []
  | f + 1, a => if a = v then [] else (place xs a v : Int) :: addrGo xs v f (next xs a v)
theorem addrGo_len (xs : List Int) (v : Nat) : ∀ f a, (addrGo xs v f a).length ≤ f := by
  intro f
  induction f with
  | zero => intro a; exact Nat.le_refl _
  | succ f ih =>
    intro a
    rw [addrGo]
    split
    · simp
    · simp only [List.length_cons]; have := ih (next xs a v); omega
def address (xs : List Int) (v : Nat) : List Int := addrGo xs v xs.length 0
/-- the walk down: what has come, and where it stands -/
def AddrAt (xs : List Int) (v a : Nat) (pre R : List Int) : Prop := a ≤ v ∧ v < fin xs a ∧ pre.length ≤ a ∧ ∃ f, v - a ≤ f ∧ pre ++ addrGo xs v f a = R
theorem addr_start {xs : List Int} (ht : isTree xs = true) {v : Nat} (hv : v < xs.length) : AddrAt xs v 0 [] (address xs v) :=
  ⟨Nat.zero_le _, by rw [fin_root ht]; exact hv, Nat.le_refl _, xs.length, by omega, rfl⟩
theorem addr_end {xs : List Int} {v : Nat} {pre R : List Int} (h : AddrAt xs v v pre R) : pre = R := by
  obtain ⟨_, _, _, f, _, h⟩ := h
  cases f with
  | zero => simpa [addrGo] using h
  | succ f => simpa [addrGo] using h
theorem addr_step {xs : List Int} (ht : isTree xs = true) {v a : Nat} {pre R : List Int} (hv : v < xs.length) (h : AddrAt xs v a pre R) (hn : a ≠ v) : AddrAt xs v (next xs a v) (pre ++ [(place xs a v : Int)]) R := by
  obtain ⟨h1, h2, h3, f, hf, h⟩ := h
  obtain ⟨k1, k2, k3⟩ := next_ok ht (a := a) (v := v) (by omega) h2 hv
  cases f with
  | zero => omega
  | succ f =>
    rw [addrGo, if_neg hn] at h
    exact ⟨k2, k3, by simp; omega, f, by omega, by rw [List.append_assoc]; exact h⟩
end Go.Proofs.Ytdgcjkgbglofbaa.M
