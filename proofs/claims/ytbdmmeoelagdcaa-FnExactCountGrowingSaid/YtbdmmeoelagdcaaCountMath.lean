/- The rows that the model's count divides: the numbers from 1 on, and the sizes of the nodes that are to come. Mathematics, no conditions. -/
import Derived.Test.YtbdmmeoelagdcaaGcd
namespace Go.Proofs.Ytbdmmeoelagdcaa
namespace M
/-- a list of numbers as the program has it -/
def ints (l : List Nat) : List Int := l.map fun x : Nat => (x : Int)
theorem ints_len (l : List Nat) : (ints l).length = l.length := by simp [ints]
theorem ints_at {l : List Nat} {k x : Nat} (h : l[k]? = some x) : (ints l)[k]? = some (x : Int) := by simp [ints, h]
theorem ints_app (l : List Nat) (x : Nat) : ints (l ++ [x]) = ints l ++ [(x : Int)] := by simp [ints]
theorem ints_set (l : List Nat) (k x : Nat) : ints (l.set k x) = (ints l).set k (x : Int) := by simp [ints, List.map_set]
/-- the sizes of the nodes below k that are to come -/
def lowTo (xs b : List Int) : Nat → List Nat
  | 0 => []
  | k + 1 => if (k : Int) ∈ b then lowTo xs b k else lowTo xs b k ++ [sz xs k]
/-- the numbers from 1 on -/
def topOf (m : Nat) : List Nat := (List.range m).map (· + 1)
theorem topOf_len (m : Nat) : (topOf m).length = m := by simp [topOf]
theorem topOf_succ (m : Nat) : topOf (m + 1) = topOf m ++ [m + 1] := by simp [topOf, List.range_succ]
theorem topOf_prod (m : Nat) : prodL (topOf m) = facN m := by
  induction m with
  | zero => rfl
  | succ m ih => rw [topOf_succ, prodL_append, ih, facN, prodL, prodL, Nat.mul_one, Nat.mul_comm]
theorem lowTo_prod (xs b : List Int) (k : Nat) : prodL (lowTo xs b k) = prodTo xs b k := by
  induction k with
  | zero => rfl
  | succ k ih =>
    rw [lowTo, prodTo]
    split
    · exact ih
    · rw [prodL_append, ih, prodL, prodL, Nat.mul_one]
theorem lowTo_len (xs b : List Int) (k : Nat) : (lowTo xs b k).length = ((List.range k).filter fun v : Nat => decide ((v : Int) ∉ b)).length := by
  induction k with
  | zero => rfl
  | succ k ih =>
    rw [lowTo, List.range_succ, List.filter_append, List.length_append, ← ih]
    by_cases h : (k : Int) ∈ b
    · simp [h]
    · simp [h]
theorem lowTo_le (xs b : List Int) (k : Nat) : (lowTo xs b k).length ≤ k := by
  rw [lowTo_len]
  exact Nat.le_trans (List.length_filter_le _ _) (by simp)
theorem hit_len (n : Nat) : ∀ (b : List Int), b.Nodup → (∀ x ∈ b, 0 ≤ x ∧ x < (n : Int)) → ((List.range n).filter fun v : Nat => decide ((v : Int) ∉ b)).length + b.length = n := by
  intro b
  induction b with
  | nil =>
    intro _ _
    rw [List.filter_eq_self.2 (by intro a _; simp)]
    simp
  | cons x r ih =>
    intro hd hx
    have h1 := ih (List.nodup_cons.1 hd).2 fun y hy => hx y (List.mem_cons_of_mem _ hy)
    have h2 := hx x List.mem_cons_self
    obtain ⟨u, rfl⟩ := Int.eq_ofNat_of_zero_le h2.1
    have hu : u < n := by omega
    have hur : (u : Int) ∉ r := (List.nodup_cons.1 hd).1
    have key : ((List.range n).filter fun v : Nat => decide ((v : Int) ∉ r)).length = ((List.range n).filter fun v : Nat => decide ((v : Int) ∉ (u : Int) :: r)).length + 1 := by
      clear h1 ih hd hx h2
      induction n with
      | zero => omega
      | succ n ihn =>
        rw [List.range_succ, List.filter_append, List.filter_append, List.length_append, List.length_append]
        by_cases e : u = n
        · subst e
          have hs : ((List.range u).filter fun v : Nat => decide ((v : Int) ∉ (u : Int) :: r)) = ((List.range u).filter fun v : Nat => decide ((v : Int) ∉ r)) := by
            refine List.filter_congr fun v hv => ?_
            have hvu : v < u := List.mem_range.1 hv
            have : (v : Int) ≠ (u : Int) := by omega
            simp [this]
          rw [hs]
          simp [hur]
        · have hlt : u < n := by omega
          have := ihn hlt
          have hne : (n : Int) ≠ (u : Int) := by omega
          have h3 : ([n].filter fun v : Nat => decide ((v : Int) ∉ (u : Int) :: r)) = ([n].filter fun v : Nat => decide ((v : Int) ∉ r)) := by
            refine List.filter_congr fun v hv => ?_
            obtain rfl := List.mem_singleton.1 hv
            simp [hne]
          rw [h3]
          omega
    rw [List.length_cons]
    omega
theorem lowTo_all {n : Nat} {xs ps b : List Int} (hb : Bgn n ps b) : (lowTo xs b n).length + b.length = n := by
  rw [lowTo_len]
  exact hit_len n b hb.1 hb.2.1
/-- at the beginning nothing is divided -/
theorem red_start {xs ps b : List Int} (ht : isTree xs = true) (hp : ParsOK xs ps) (hb : Bgn xs.length ps b) : Red (facN (xs.length - b.length)) (prodTo xs b xs.length) (topOf (lowTo xs b xs.length).length) (lowTo xs b xs.length) := by
  have h1 := lowTo_all (xs := xs) hb
  have h2 := hook_dvd ht hp (xs.length - b.length) b hb (by omega)
  have h3 : (lowTo xs b xs.length).length = xs.length - b.length := by omega
  refine ⟨?_, h2, 1, ?_, ?_⟩
  · clear h1 h2 h3
    generalize xs.length - b.length = m
    induction m with
    | zero => decide
    | succ m ih => exact Nat.mul_pos (by omega) ih
  · rw [topOf_prod, h3, Nat.mul_one]
  · rw [lowTo_prod, Nat.mul_one]
theorem red_top_le {F P : Nat} {T B : List Nat} (h : Red F P T B) {k x : Nat} (hx : T[k]? = some x) : x ≤ F := by
  obtain ⟨h0, _, D, h1, _⟩ := h
  exact Nat.le_of_dvd h0 (h1 ▸ Nat.dvd_trans (dvd_prodL hx) (Nat.dvd_mul_right _ _))
theorem red_low_le {F P : Nat} {T B : List Nat} (h : Red F P T B) {k x : Nat} (hx : B[k]? = some x) : x ≤ F := by
  obtain ⟨h0, hd, D, _, h2⟩ := h
  exact Nat.le_of_dvd h0 (Nat.dvd_trans (h2 ▸ Nat.dvd_trans (dvd_prodL hx) (Nat.dvd_mul_right _ _)) hd)
theorem prodL_take_succ {l : List Nat} {k x : Nat} (h : l[k]? = some x) : prodL (l.take (k + 1)) = prodL (l.take k) * x := by
  rw [List.take_add_one, h, prodL_append]
  simp [prodL]
theorem prodL_take_le {l : List Nat} (hp : ∀ (i y : Nat), l[i]? = some y → 0 < y) (k : Nat) : prodL (l.take k) ≤ prodL l := by
  have h1 : prodL l = prodL (l.take k) * prodL (l.drop k) := by rw [← prodL_append, List.take_append_drop]
  have h2 : 0 < prodL (l.drop k) := by
    have : ∀ r : List Nat, (∀ (i y : Nat), r[i]? = some y → 0 < y) → 0 < prodL r := by
      intro r
      induction r with
      | nil => intro _; decide
      | cons z r ih => intro h; exact Nat.mul_pos (h 0 z rfl) (ih fun i y hy => h (i + 1) y (by simpa using hy))
    exact this _ fun i y hy => hp (k + i) y (by rw [List.getElem?_drop] at hy; exact hy)
  rw [h1]
  exact Nat.le_mul_of_pos_right _ h2
end M
end Go.Proofs.Ytbdmmeoelagdcaa
