/- Numbers of growing orders by sizes: the product of the sizes of the nodes that are to come divides the product of 1 to their number. Mathematics, no conditions. -/
import Derived.Test.YtbdmmeoelagdcaaReady
import Derived.Test.YtbdmmeoelagdcaaStateCode
namespace Go.Proofs.Ytbdmmeoelagdcaa
namespace M
def sumF (f : Nat → Nat) : Nat → Nat
  | 0 => 0
  | k + 1 => sumF f k + f k
theorem sumF_congr {f g : Nat → Nat} : ∀ {k : Nat}, (∀ u, u < k → f u = g u) → sumF f k = sumF g k := by
  intro k
  induction k with
  | zero => intro _; rfl
  | succ k ih => intro h; rw [sumF, sumF, ih (fun u hu => h u (by omega)), h k (by omega)]
theorem sumF_add (f g : Nat → Nat) : ∀ k, sumF (fun u => f u + g u) k = sumF f k + sumF g k := by
  intro k
  induction k with
  | zero => rfl
  | succ k ih => simp only [sumF]; rw [ih]; omega
theorem sumF_one {f : Nat → Nat} {v : Nat} (h : ∀ u, u ≠ v → f u = 0) : ∀ k, sumF f k = if v < k then f v else 0 := by
  intro k
  induction k with
  | zero => rfl
  | succ k ih =>
    rw [sumF, ih]
    by_cases h1 : v < k
    · rw [if_pos h1, if_pos (by omega), h k (by omega)]; omega
    · rw [if_neg h1]
      by_cases h2 : v = k
      · subst h2; rw [if_pos (by omega)]; omega
      · rw [if_neg (by omega), h k (by omega)]
/-- the size of a node's subtree -/
def sz (xs : List Int) (v : Nat) : Nat := span 1 (xs.drop v)
/-- the sizes of the first i children add up -/
theorem kids_sum {xs : List Int} (ht : isTree xs = true) {v d : Nat} (hd : xs[v]? = some (d : Int)) : ∀ i, i ≤ d → sumF (fun u => if ∃ j, j < i ∧ kidAt xs v j = u then sz xs u else 0) xs.length + (v + 1) = kidAt xs v i := by
  intro i
  induction i with
  | zero =>
    intro _
    rw [sumF_congr (g := fun _ => 0) (fun u _ => if_neg (fun ⟨j, h, _⟩ => by omega)), sumF_one (v := 0) (f := fun _ => 0) (fun _ _ => rfl)]
    simp [kidAt]
  | succ i ih =>
    intro hi
    have h1 := ih (by omega)
    have hk := kid_lt ht hd (i := i) (by omega)
    have hs : sumF (fun u => if ∃ j, j < i + 1 ∧ kidAt xs v j = u then sz xs u else 0) xs.length = sumF (fun u => (if ∃ j, j < i ∧ kidAt xs v j = u then sz xs u else 0) + (if u = kidAt xs v i then sz xs u else 0)) xs.length := by
      refine sumF_congr fun u _ => ?_
      by_cases e : u = kidAt xs v i
      · rw [if_pos ⟨i, by omega, e.symm⟩, if_pos e, if_neg]
        · omega
        · rintro ⟨j, hj, h2⟩
          have h3 := kid_le (xs := xs) (v := v) (i := j + 1) (j := i) hj
          have h4 := kid_lt ht hd (i := j) (by omega)
          have h5 := span_pos h4
          simp only [kidAt] at h3
          omega
      · rw [if_neg e]
        by_cases h2 : ∃ j, j < i ∧ kidAt xs v j = u
        · obtain ⟨j, hj, h3⟩ := h2
          rw [if_pos ⟨j, by omega, h3⟩, if_pos ⟨j, hj, h3⟩]; omega
        · rw [if_neg h2, if_neg]
          rintro ⟨j, hj, h3⟩
          rcases Nat.lt_or_ge j i with h4 | h4
          · exact h2 ⟨j, h4, h3⟩
          · obtain rfl : j = i := by omega
            exact e h3.symm
    rw [hs, sumF_add, sumF_one (v := kidAt xs v i) (f := fun u => if u = kidAt xs v i then sz xs u else 0) (fun u hu => if_neg hu), if_pos hk, if_pos rfl]
    simp only [kidAt, sz] at *
    omega
theorem kids_all {xs ps : List Int} (ht : isTree xs = true) (hp : ParsOK xs ps) {v : Nat} (hv : v < xs.length) : sumF (fun u => if parOf ps (u : Int) = (v : Int) then sz xs u else 0) xs.length + 1 = sz xs v := by
  obtain ⟨d, hd, _⟩ := tree_degN ht hv
  have h1 := kids_sum ht hd d (Nat.le_refl _)
  have h2 := kid_end ht hd
  have h3 : sumF (fun u => if parOf ps (u : Int) = (v : Int) then sz xs u else 0) xs.length = sumF (fun u => if ∃ j, j < d ∧ kidAt xs v j = u then sz xs u else 0) xs.length := by
    refine sumF_congr fun u hu => ?_
    have hiff : parOf ps (u : Int) = (v : Int) ↔ ∃ j, j < d ∧ kidAt xs v j = u := by
      constructor
      · intro h
        rcases Nat.eq_zero_or_pos u with e | e
        · subst e
          have := (parents_of ht hp).2.1
          have h0 : parOf ps ((0 : Nat) : Int) = parOf ps 0 := rfl
          omega
        · obtain ⟨q, hq⟩ := kid_has ht e hu
          have h4 := hp.2.2 q u hq
          rw [parOf, Int.toNat_natCast, h4] at h
          simp only [Option.getD_some] at h
          obtain rfl : q = v := by omega
          obtain ⟨d', i, hd', hi, hk⟩ := hq
          rw [hd] at hd'
          injection hd' with hd'
          exact ⟨i, by omega, hk⟩
      · rintro ⟨j, hj, h⟩
        rw [parOf, Int.toNat_natCast, hp.2.2 v u ⟨d, j, hd, hj, h⟩]
        rfl
    by_cases hq : parOf ps (u : Int) = (v : Int)
    · rw [if_pos hq, if_pos (hiff.1 hq)]
    · rw [if_neg hq, if_neg (fun h => hq (hiff.2 h))]
  rw [h3]
  simp only [sz] at *
  omega

/-- the sizes of those that can come next -/
def rdySum (xs ps b : List Int) (k : Nat) : Nat := sumF (fun u => if rdyB ps b u then sz xs u else 0) k
theorem rdySum_step {xs ps b : List Int} (ht : isTree xs = true) (hp : ParsOK xs ps) (hb : Bgn xs.length ps b) {v : Nat} (hv : v < xs.length) (hr : rdyB ps b v = true) : rdySum xs ps (b ++ [(v : Int)]) xs.length + 1 = rdySum xs ps b xs.length := by
  have hpar := parents_of ht hp
  obtain ⟨r1, r2⟩ := of_decide_eq_true hr
  have hk := kids_all ht hp hv
  have key : sumF (fun u => (if rdyB ps (b ++ [(v : Int)]) u then sz xs u else 0) + (if u = v then sz xs u else 0)) xs.length = sumF (fun u => (if rdyB ps b u then sz xs u else 0) + (if parOf ps (u : Int) = (v : Int) then sz xs u else 0)) xs.length := by
    refine sumF_congr fun u hu => ?_
    by_cases e : u = v
    · subst e
      have h1 : rdyB ps (b ++ [(u : Int)]) u = false := decide_eq_false fun h => h.1 (by simp)
      have h2 : ¬ parOf ps (u : Int) = (u : Int) := fun h => by
        rcases Nat.eq_zero_or_pos u with e | e
        · subst e; have := hpar.2.1; have h0 : parOf ps ((0 : Nat) : Int) = parOf ps 0 := rfl; omega
        · have := hpar.2.2 u e hu; omega
      rw [h1, hr, if_pos rfl, if_neg h2]; simp
    · rw [if_neg e]
      have hue : ¬ (u : Int) = (v : Int) := by omega
      by_cases hub : (u : Int) ∈ b
      · have h1 : rdyB ps (b ++ [(v : Int)]) u = false := decide_eq_false fun h => h.1 (by simp [hub])
        have h2 : rdyB ps b u = false := decide_eq_false fun h => h.1 hub
        have h3 : ¬ parOf ps (u : Int) = (v : Int) := fun h => by
          obtain ⟨i, hi⟩ := List.mem_iff_getElem?.1 hub
          rcases hb.2.2 i _ (List.getElem?_eq_some_iff.1 hi).1 hi with h4 | h4
          · omega
          · rw [h] at h4; exact r1 (List.mem_of_mem_take h4)
        rw [h1, h2, if_neg h3]
      · by_cases hq : parOf ps (u : Int) = (v : Int)
        · have h1 : rdyB ps (b ++ [(v : Int)]) u = true := decide_eq_true ⟨by simp [hub, hue], .inr (by rw [hq]; simp)⟩
          have h2 : rdyB ps b u = false := decide_eq_false fun h => by
            rcases h.2 with h4 | h4
            · subst h4; have := hpar.2.1; have h0 : parOf ps ((0 : Nat) : Int) = parOf ps 0 := rfl; omega
            · rw [hq] at h4; exact r1 h4
          rw [h1, h2, if_pos hq]; simp
        · have h1 : rdyB ps (b ++ [(v : Int)]) u = rdyB ps b u := by
            unfold rdyB
            simp only [List.mem_append, List.mem_singleton, hue, hq, or_false]
          rw [h1, if_neg hq]
  rw [sumF_add, sumF_add, sumF_one (v := v) (f := fun u => if u = v then sz xs u else 0) (fun u hu => if_neg hu), if_pos hv, if_pos rfl] at key
  simp only [rdySum]
  omega
theorem rdySum_all {xs ps : List Int} (ht : isTree xs = true) (hp : ParsOK xs ps) : ∀ (m : Nat) (b : List Int), b.length = m → Bgn xs.length ps b → rdySum xs ps b xs.length + b.length = xs.length := by
  have hpar := parents_of ht hp
  have hl := tree_len ht
  intro m
  induction m with
  | zero =>
    intro b hb _
    obtain rfl := List.length_eq_zero_iff.1 hb
    have h1 : rdySum xs ps [] xs.length = sumF (fun u => if u = 0 then sz xs u else 0) xs.length := by
      refine sumF_congr fun u _ => ?_
      have : rdyB ps [] u = decide (u = 0) := by unfold rdyB; simp
      rw [this]
      by_cases e : u = 0
      · simp [e]
      · simp [e]
    rw [h1, sumF_one (v := 0) (f := fun u => if u = 0 then sz xs u else 0) (fun u hu => if_neg hu), if_pos (by omega), if_pos rfl]
    have := fin_root ht
    simp only [fin] at this
    simp only [sz, List.length_nil]
    omega
  | succ m ih =>
    intro b hb hbg
    have hne : b ≠ [] := fun e => by rw [e] at hb; simp at hb
    have hsp := List.dropLast_concat_getLast hne
    generalize b.dropLast = b' at hsp
    generalize b.getLast hne = x at hsp
    subst hsp
    have hb' : b'.length = m := by simpa using hb
    have hbg' : Bgn xs.length ps b' := by have := bgn_take hbg b'.length; rwa [List.take_left'] at this; rfl
    have hx := hbg.2.1 x (by simp)
    obtain ⟨v, rfl⟩ := Int.eq_ofNat_of_zero_le hx.1
    have hv : v < xs.length := by omega
    have hnd := List.nodup_append.1 hbg.1
    have hvb : (v : Int) ∉ b' := fun h => hnd.2.2 _ h _ (by simp) rfl
    have hgr := hbg.2.2 b'.length (v : Int) (by simp) (by simp)
    have hr : rdyB ps b' v = true := by
      refine decide_eq_true ⟨hvb, ?_⟩
      rcases hgr with h | h
      · rcases Nat.eq_zero_or_pos v with e | e
        · exact .inl e
        · have := hpar.2.2 v e hv; omega
      · rw [List.take_left' rfl] at h; exact .inr h
    have h1 := rdySum_step ht hp hbg' hv hr
    have h2 := ih b' hb' hbg'
    rw [List.length_append, List.length_singleton]
    omega

/-- the product of the sizes of the nodes below k that are to come -/
def prodTo (xs b : List Int) : Nat → Nat
  | 0 => 1
  | k + 1 => if (k : Int) ∈ b then prodTo xs b k else prodTo xs b k * sz xs k
theorem prodTo_out {xs b : List Int} {v : Nat} (hvb : (v : Int) ∉ b) : ∀ k, prodTo xs b k = prodTo xs (b ++ [(v : Int)]) k * (if v < k then sz xs v else 1) := by
  intro k
  induction k with
  | zero => rfl
  | succ k ih =>
    rw [prodTo, prodTo, ih]
    by_cases e : k = v
    · subst e
      simp [hvb]
    · have hkv : ¬ (k : Int) = (v : Int) := by omega
      have hm : ((k : Int) ∈ b ++ [(v : Int)]) ↔ (k : Int) ∈ b := by simp [hkv]
      by_cases h : (k : Int) ∈ b
      · rw [if_pos h, if_pos (hm.2 h)]
        by_cases h2 : v < k
        · rw [if_pos h2, if_pos (by omega)]
        · rw [if_neg h2, if_neg (by omega)]
      · rw [if_neg h, if_neg (fun h2 => h (hm.1 h2))]
        by_cases h2 : v < k
        · rw [if_pos h2, if_pos (by omega), Nat.mul_assoc, Nat.mul_comm (sz xs v), Nat.mul_assoc]
        · rw [if_neg h2, if_neg (by omega), Nat.mul_one, Nat.mul_one]
theorem prodTo_done {xs b : List Int} : ∀ k, (∀ v : Nat, v < k → (v : Int) ∈ b) → prodTo xs b k = 1 := by
  intro k
  induction k with
  | zero => intro _; rfl
  | succ k ih => intro h; rw [prodTo, if_pos (h k (by omega)), ih fun v hv => h v (by omega)]
def facN : Nat → Nat
  | 0 => 1
  | k + 1 => (k + 1) * facN k
theorem dvd_rdySum {xs ps b : List Int} {D q m : Nat} (h : ∀ v : Nat, v < q → rdyB ps b v = true → D ∣ sz xs v * facN m) : ∀ k, k ≤ q → D ∣ rdySum xs ps b k * facN m := by
  intro k
  induction k with
  | zero => intro _; simp [rdySum, sumF]
  | succ k ih =>
    intro hk
    have h1 := ih (by omega)
    simp only [rdySum, sumF] at *
    rw [Nat.add_mul]
    refine Nat.dvd_add h1 ?_
    cases hb : rdyB ps b k
    · simp
    · simpa using h k (by omega) hb
/-- the numbers of orders are whole -/
theorem hook_dvd {xs ps : List Int} (ht : isTree xs = true) (hp : ParsOK xs ps) : ∀ (m : Nat) (b : List Int), Bgn xs.length ps b → b.length + m = xs.length → prodTo xs b xs.length ∣ facN m := by
  intro m
  induction m with
  | zero =>
    intro b hb hl
    have hord := bgn_ord hb (by omega)
    rw [prodTo_done _ fun v hv => ord_has hord hv]
    exact Nat.one_dvd _
  | succ m ih =>
    intro b hb hl
    have hs := rdySum_all ht hp b.length b rfl hb
    have h1 : rdySum xs ps b xs.length = m + 1 := by omega
    have h2 := dvd_rdySum (xs := xs) (ps := ps) (b := b) (D := prodTo xs b xs.length) (q := xs.length) (m := m) (fun v hv hr => by
      have hvb := (of_decide_eq_true hr).1
      rw [prodTo_out hvb xs.length, if_pos hv, Nat.mul_comm]
      refine Nat.mul_dvd_mul_left _ (ih (b ++ [(v : Int)]) (bgn_step (parents_of ht hp) hb (mem_rdyTo.2 ⟨v, rfl, hv, hr⟩)) ?_)
      simp only [List.length_append, List.length_singleton]; omega) xs.length (Nat.le_refl _)
    rw [h1] at h2
    exact h2
end M
end Go.Proofs.Ytbdmmeoelagdcaa
